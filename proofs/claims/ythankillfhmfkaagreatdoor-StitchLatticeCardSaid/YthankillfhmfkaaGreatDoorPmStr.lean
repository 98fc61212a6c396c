/- Symbolic runs: strings. -/
import Derived.Test.YthankillfhmfkaaGreatDoorPmSS
import Derived.Laws.BytesString
import Derived.Laws.Strings
namespace Go.Proofs.YthankillfhmfkaaGreatDoor.Ev
open Go
variable {P : Program} {E : Env}
set_option linter.unusedSimpArgs false
noncomputable section

/-- a string by its bytes -/
def strV (l : List UInt8) : Value := .string ⟨l.toArray⟩
theorem lenO_str {t : TypeId} (hu : E.u t = some .string) {l : List UInt8} {B : Tr Blk} : lenO E B t (some (strV l)) = some (.int .i64 l.length) := by
  simp only [lenO, strV, evLen, hu, forceN_eq]
  rfl
theorem ba_get {l : List UInt8} {i : Nat} : (⟨l.toArray⟩ : ByteArray)[i]? = l[i]? := by
  by_cases h : i < l.length
  · rw [getElem?_pos (⟨l.toArray⟩ : ByteArray) i h, List.getElem?_eq_getElem h]
    rfl
  · rw [getElem?_neg (⟨l.toArray⟩ : ByteArray) i h, List.getElem?_eq_none (by omega)]
theorem idxO_str {t : TypeId} (hu : E.u t = some .string) {l : List UInt8} {kd : IntKind} {z : Int} {c : UInt8} (h0 : 0 ≤ z) (hc : l[z.toNat]? = some c) : idxO E t (some (strV l)) (some (.int kd z)) = some (.int .u8 c.toNat) := by
  have hlt : z.toNat < l.length := (List.getElem?_eq_some_iff.1 hc).1
  simp only [idxO, strV, evIndex, hu]
  have : idx (.int kd z) (⟨l.toArray⟩ : ByteArray).size = some z.toNat := idx_ok (n := (⟨l.toArray⟩ : ByteArray).size) h0 (by show z < (l.length : Nat); omega)
  rw [this]
  simp only [ba_get, hc, forceN_eq]
theorem ba_extract {l : List UInt8} {a b : Nat} : (⟨l.toArray⟩ : ByteArray).extract a b = ⟨((l.take b).drop a).toArray⟩ := by
  apply ByteArray.ext
  rw [ByteArray.data_extract]
  simp [List.drop_take]
theorem bound_int {kd : IntKind} {z : Int} {d top : Nat} (h0 : 0 ≤ z) (h1 : z ≤ top) : bound (some (.int kd z)) d top = some z.toNat := by
  obtain ⟨m, rfl⟩ := Int.eq_ofNat_of_zero_le h0
  show (if m ≤ top then some m else none) = _
  rw [if_pos (by omega)]
  simp
theorem slice_hi {t : TypeId} (hu : E.u t = some .string) {B : Tr Blk} {l : List UInt8} {kd : IntKind} {z : Int} (h0 : 0 ≤ z) (h1 : z ≤ l.length) : sliceO E t B (some (strV l)) (some []) (some [.int kd z]) = some (strV (l.take z.toNat)) := by
  have hb := bound_int (kd := kd) (d := l.length) (top := l.length) h0 h1
  simp only [sliceO, strV, evSlice, hu, List.head?]
  show (match bound (some (.int kd z)) l.length l.length with
    | some hi => match bound none 0 hi with
      | some lo => some (Value.string ((⟨l.toArray⟩ : ByteArray).extract lo hi))
      | none => none
    | none => none) = _
  rw [hb]
  simp only [bound, ba_extract, List.drop_zero]
theorem slice_lo {t : TypeId} (hu : E.u t = some .string) {B : Tr Blk} {l : List UInt8} {kd : IntKind} {z : Int} (h0 : 0 ≤ z) (h1 : z ≤ l.length) : sliceO E t B (some (strV l)) (some [.int kd z]) (some []) = some (strV (l.drop z.toNat)) := by
  have hb := bound_int (kd := kd) (d := 0) (top := l.length) h0 h1
  simp only [sliceO, strV, evSlice, hu, List.head?]
  show (match bound none l.length l.length with
    | some hi => match bound (some (.int kd z)) 0 hi with
      | some lo => some (Value.string ((⟨l.toArray⟩ : ByteArray).extract lo hi))
      | none => none
    | none => none) = _
  simp only [bound, hb, ba_extract]
  show (match bound (some (.int kd z)) 0 l.length with
      | some lo => some (Value.string _)
      | none => none) = _
  rw [hb]
  simp [strV]
theorem slice_both {t : TypeId} (hu : E.u t = some .string) {B : Tr Blk} {l : List UInt8} {k1 k2 : IntKind} {y z : Int} (h0 : 0 ≤ y) (h2 : y ≤ z) (h1 : z ≤ l.length) : sliceO E t B (some (strV l)) (some [.int k1 y]) (some [.int k2 z]) = some (strV ((l.take z.toNat).drop y.toNat)) := by
  have hb := bound_int (kd := k2) (d := l.length) (top := l.length) (by omega) h1
  have hb2 := bound_int (kd := k1) (d := 0) (top := z.toNat) h0 (by omega)
  simp only [sliceO, strV, evSlice, hu, List.head?]
  show (match bound (some (.int k2 z)) l.length l.length with
    | some hi => match bound (some (.int k1 y)) 0 hi with
      | some lo => some (Value.string ((⟨l.toArray⟩ : ByteArray).extract lo hi))
      | none => none
    | none => none) = _
  rw [hb]
  simp only [hb2, ba_extract]
theorem ba_append {a b : List UInt8} : (⟨a.toArray⟩ : ByteArray) ++ (⟨b.toArray⟩ : ByteArray) = ⟨(a ++ b).toArray⟩ := by
  apply ByteArray.ext
  rw [ByteArray.data_append]
  simp
theorem str_bin {op : BinOp} {t : TypeId} {a b : List UInt8} {r : Value} (hf : fastBin op (strV a) (strV b) = none) (hs : pureRun P (do eqGuard op t (.tmp 0) (.tmp 0) (strV a) (strV b); binOp op t (strV a) (strV b)) = some r) (hp : plain r = true) :
    binO P E op t (some (strV a)) (some (strV b)) = some r := by
  have h1 : (plainA (strV a) && plainA (strV b)) = true := rfl
  simp only [binO, h1, if_true, hf, slowBin, hs, hp]
theorem add_str {t : TypeId} {a b : List UInt8} (hl : a.length + b.length < 4611686018427387904) : binO P E .add t (some (strV a)) (some (strV b)) = some (strV (a ++ b)) := by
  refine str_bin rfl ?_ rfl
  have : pureRun P (Op.stringOp .add ⟨a.toArray⟩ ⟨b.toArray⟩) = some (strV (a ++ b)) := by
    unfold Op.stringOp
    have hle : ¬ (((⟨a.toArray⟩ : ByteArray).size + (⟨b.toArray⟩ : ByteArray).size : Nat) : Int) > IntKind.i64.max := by
      show ¬ ((a.length + b.length : Nat) : Int) > IntKind.i64.max
      have : IntKind.i64.max = 9223372036854775807 := rfl
      omega
    simp only [if_neg hle, ba_append]
    rfl
  simpa [eqGuard, binOp, strV] using this
theorem eql_str {t : TypeId} {a b : List UInt8} : binO P E .eql t (some (strV a)) (some (strV b)) = some (.bool (decide (a = b))) := by
  refine str_bin rfl ?_ rfl
  have : pureRun P (Op.stringOp .eql ⟨a.toArray⟩ ⟨b.toArray⟩) = some (.bool (decide (a = b))) := by
    unfold Op.stringOp
    simp only [ByteArray.toList_eq]
    show some (Value.bool (a == b)) = _
    by_cases h : a = b <;> simp [h]
  simpa [eqGuard, binOp, strV] using this
theorem neq_str {t : TypeId} {a b : List UInt8} : binO P E .neq t (some (strV a)) (some (strV b)) = some (.bool (decide (a ≠ b))) := by
  refine str_bin rfl ?_ rfl
  have : pureRun P (Op.stringOp .neq ⟨a.toArray⟩ ⟨b.toArray⟩) = some (.bool (decide (a ≠ b))) := by
    unfold Op.stringOp
    simp only [ByteArray.toList_eq]
    show some (Value.bool (!(a == b))) = _
    by_cases h : a = b <;> simp [h]
  simpa [eqGuard, binOp, strV] using this

/-- bytes in memory -/
def byts (l : List UInt8) : List Value := l.map fun c => .int .u8 c.toNat
theorem byts_len {l : List UInt8} : (byts l).length = l.length := by simp [byts]
theorem byts_append {a b : List UInt8} : byts (a ++ b) = byts a ++ byts b := by simp [byts]
theorem bytesOf_byts : ∀ (l : List UInt8) (s : ByteArray), bytesOf (byts l) s = some ⟨(s.data.toList ++ l).toArray⟩
  | [], s => by simp [byts, bytesOf]
  | c :: l, s => by
    have ih := bytesOf_byts l (s.push c)
    simp only [byts, List.map_cons, bytesOf] at ih ⊢
    have e : UInt8.ofNat ((c.toNat : Int).toNat) = c := by simp
    rw [e, ih]
    simp
theorem conv_bytes {s d e : TypeId} (hs : E.u s = some (.slice e)) (hd : E.u d = some .string) (he : E.u e = some (.int .u8)) {B : Tr Blk} {lo hi n : Nat} {l : List UInt8} {v : Value} (hv : SlV B lo hi 1 n (byts l) v) : convO P E B s d (some v) = some (strV l) := by
  cases hv with
  | nil hn hL =>
    have : l = [] := by simpa [byts] using hL
    subst this
    have hp : plain (Value.slice none 0 0) = false := rfl
    simp only [convO, hp, evBytes, hs, hd, he]
    rfl
  | emp hn hL =>
    have : l = [] := by simpa [byts] using hL
    subst this
    have hp : plain (Value.slice (some ⟨0, 0, some 0⟩) 0 0) = false := rfl
    simp only [convO, hp, evBytes, hs, hd, he]
    rfl
  | mk hb hlo hhi hsz hL hc =>
    rename_i b off c size cells
    have hp : ∀ A n c, plain (Value.slice A n c) = false := fun _ _ _ => rfl
    simp only [convO, hp, evBytes, hs, hd, he, rd, hb]
    rw [if_pos (show off + n ≤ size by omega), getCells_of _ _ _ (byts l) (by omega) (fun j hj => hc j (by omega))]
    simp only [bytesOf_byts]
    simp [strV]
end
end Go.Proofs.YthankillfhmfkaaGreatDoor.Ev

