/- Symbolic runs: strings. -/
import Derived.Test.YtngpoamjhngcgaaGreatDoorPmSS
import Derived.Laws.BytesString
import Derived.Laws.Strings
namespace Go.Proofs.YtngpoamjhngcgaaGreatDoor.Ev
open Go
variable {P : Program} {E : Env}
set_option linter.unusedSimpArgs false
noncomputable section

/-- a string by its bytes -/
def strV (l : List UInt8) : Value := .string ⟨l.toArray⟩
theorem lenO_str {t : TypeId} (hu : E.u t = some .string) {l : List UInt8} {B : Tr Blk} : lenO E B t (some (strV l)) = some (.int .i64 l.length) := by
  simp only [lenO, strV, evLen, hu, forceN_eq]
  rfl
theorem ba_extract {l : List UInt8} {a b : Nat} : (⟨l.toArray⟩ : ByteArray).extract a b = ⟨((l.take b).drop a).toArray⟩ := by
  apply ByteArray.ext
  rw [ByteArray.data_extract]
  simp [List.drop_take]
theorem bound_int {kd : IntKind} {z : Int} {d top : Nat} (h0 : 0 ≤ z) (h1 : z ≤ top) : bound (some (.int kd z)) d top = some z.toNat := by
  obtain ⟨m, rfl⟩ := Int.eq_ofNat_of_zero_le h0
  show (if m ≤ top then some m else none) = _
  rw [if_pos (by omega)]
  simp
theorem slice_hi {t : TypeId} (hu : E.u t = some .string) {B : Tr Blk} {l : List UInt8} {kd : IntKind} {z : Int} (h0 : 0 ≤ z) (h1 : z ≤ l.length) : sliceO E t B (some (strV l)) (some []) (some [.int kd z]) = some (strV (l.take z.toNat)) := by
  have hb := bound_int (kd := kd) (d := l.length) (top := l.length) h0 h1
  simp only [sliceO, strV, evSlice, hu, List.head?]
  show (match bound (some (.int kd z)) l.length l.length with
    | some hi => match bound none 0 hi with
      | some lo => some (Value.string ((⟨l.toArray⟩ : ByteArray).extract lo hi))
      | none => none
    | none => none) = _
  rw [hb]
  simp only [bound, ba_extract, List.drop_zero]
theorem slice_lo {t : TypeId} (hu : E.u t = some .string) {B : Tr Blk} {l : List UInt8} {kd : IntKind} {z : Int} (h0 : 0 ≤ z) (h1 : z ≤ l.length) : sliceO E t B (some (strV l)) (some [.int kd z]) (some []) = some (strV (l.drop z.toNat)) := by
  have hb := bound_int (kd := kd) (d := 0) (top := l.length) h0 h1
  simp only [sliceO, strV, evSlice, hu, List.head?]
  show (match bound none l.length l.length with
    | some hi => match bound (some (.int kd z)) 0 hi with
      | some lo => some (Value.string ((⟨l.toArray⟩ : ByteArray).extract lo hi))
      | none => none
    | none => none) = _
  simp only [bound, hb, ba_extract]
  show (match bound (some (.int kd z)) 0 l.length with
      | some lo => some (Value.string _)
      | none => none) = _
  rw [hb]
  simp [strV]
theorem slice_both {t : TypeId} (hu : E.u t = some .string) {B : Tr Blk} {l : List UInt8} {k1 k2 : IntKind} {y z : Int} (h0 : 0 ≤ y) (h2 : y ≤ z) (h1 : z ≤ l.length) : sliceO E t B (some (strV l)) (some [.int k1 y]) (some [.int k2 z]) = some (strV ((l.take z.toNat).drop y.toNat)) := by
  have hb := bound_int (kd := k2) (d := l.length) (top := l.length) (by omega) h1
  have hb2 := bound_int (kd := k1) (d := 0) (top := z.toNat) h0 (by omega)
  simp only [sliceO, strV, evSlice, hu, List.head?]
  show (match bound (some (.int k2 z)) l.length l.length with
    | some hi => match bound (some (.int k1 y)) 0 hi with
      | some lo => some (Value.string ((⟨l.toArray⟩ : ByteArray).extract lo hi))
      | none => none
    | none => none) = _
  rw [hb]
  simp only [hb2, ba_extract]
theorem str_bin {op : BinOp} {t : TypeId} {a b : List UInt8} {r : Value} (hf : fastBin op (strV a) (strV b) = none) (hs : pureRun P (do eqGuard op t (.tmp 0) (.tmp 0) (strV a) (strV b); binOp op t (strV a) (strV b)) = some r) (hp : plain r = true) :
    binO P E op t (some (strV a)) (some (strV b)) = some r := by
  have h1 : (plainA (strV a) && plainA (strV b)) = true := rfl
  simp only [binO, h1, if_true, hf, slowBin, hs, hp]
theorem eql_str {t : TypeId} {a b : List UInt8} : binO P E .eql t (some (strV a)) (some (strV b)) = some (.bool (decide (a = b))) := by
  refine str_bin rfl ?_ rfl
  have : pureRun P (Op.stringOp .eql ⟨a.toArray⟩ ⟨b.toArray⟩) = some (.bool (decide (a = b))) := by
    unfold Op.stringOp
    simp only [ByteArray.toList_eq]
    show some (Value.bool (a == b)) = _
    by_cases h : a = b <;> simp [h]
  simpa [eqGuard, binOp, strV] using this
theorem neq_str {t : TypeId} {a b : List UInt8} : binO P E .neq t (some (strV a)) (some (strV b)) = some (.bool (decide (a ≠ b))) := by
  refine str_bin rfl ?_ rfl
  have : pureRun P (Op.stringOp .neq ⟨a.toArray⟩ ⟨b.toArray⟩) = some (.bool (decide (a ≠ b))) := by
    unfold Op.stringOp
    simp only [ByteArray.toList_eq]
    show some (Value.bool (!(a == b))) = _
    by_cases h : a = b <;> simp [h]
  simpa [eqGuard, binOp, strV] using this

end
end Go.Proofs.YtngpoamjhngcgaaGreatDoor.Ev

