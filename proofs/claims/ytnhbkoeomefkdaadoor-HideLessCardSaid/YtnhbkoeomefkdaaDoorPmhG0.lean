/- Slices of numbers at this seat. -/
import Derived.Test.YtnhbkoeomefkdaaDoorPmhS1
import Derived.Test.YtnhbkoeomefkdaaDoorPmQ1
set_option linter.unusedSimpArgs false
set_option linter.unusedVariables false
namespace Go.Proofs.YtnhbkoeomefkdaaDoor.Ev
open Go Go.Proofs
noncomputable section

theorem sliceO_take {E : Env} {B : Tr Blk} {lo hi sz n c m : Nat} {kd : IntKind} {t elem : TypeId} {inf : TypeInfo} {A : Option Addr} {L : List Value} (hu : E.u t = some (.slice elem)) (hi' : E.i elem = some inf) (hsz : inf.size = sz) (s : SlV B lo hi sz n L (.slice A n c)) (hm : m ≤ n) :
    ∃ A' c', sliceO E t B (some (.slice A n c)) (some []) (some [.int kd m]) = some (.slice A' m c') ∧ SlV B lo hi sz m (L.take (m * sz)) (.slice A' m c') := by
  cases s with
  | nil hn hL =>
    subst hL
    obtain rfl : m = 0 := by omega
    refine ⟨none, 0, ?_, .nil rfl (by simp)⟩
    show evSlice E ⟨B, 0, 0⟩ t (.slice none 0 0) none (some (.int kd (Int.ofNat 0))) = _
    simp [evSlice, hu, hi', bound]
  | emp hn hL =>
    subst hL
    obtain rfl : m = 0 := by omega
    refine ⟨some ⟨0, 0, some 0⟩, 0, ?_, .emp rfl (by simp)⟩
    show evSlice E ⟨B, 0, 0⟩ t (.slice (some ⟨0, 0, some 0⟩) 0 0) none (some (.int kd (Int.ofNat 0))) = _
    simp [evSlice, hu, hi', bound]
  | mk hb hlo hhi hs hL hc =>
    rename_i b off size cells
    have hmul : m * sz ≤ n * sz := Nat.mul_le_mul_right _ hm
    refine ⟨some ⟨b, off, none⟩, c, ?_, .mk hb hlo hhi (by omega) (by simp; omega) fun i hi => ?_⟩
    · show evSlice E ⟨B, 0, 0⟩ t (.slice (some ⟨b, off, none⟩) n c) none (some (.int kd (Int.ofNat m))) = _
      simp [evSlice, hu, hi', bound, hm, hb, hsz, forceN_eq]
    · rw [hc i (by omega), List.getElem?_take, if_pos hi]

def intsL (n : Nat) (f : Nat → Int) : List Value := (List.range n).map fun j => .int .i64 (f j)
theorem intsL_len {n : Nat} {f : Nat → Int} : (intsL n f).length = n := by simp [intsL]
theorem intsL_get {n j : Nat} {f : Nat → Int} (h : j < n) : (intsL n f)[j]? = some (.int .i64 (f j)) := by simp [intsL, h]
theorem zeros_ints : ∀ n, zeros [.int .i64 0] n = intsL n fun _ => 0 := fun n => by
  apply List.ext_getElem?
  intro i
  by_cases h : i < n
  · rw [intsL_get h, zeros_get _ (by decide) n i (by simpa using h)]
    simp [Nat.mod_one]
  · rw [List.getElem?_eq_none (by rw [zeros_length]; simp; omega), List.getElem?_eq_none (by rw [intsL_len]; omega)]

section
variable {P : Program} {n : Nat} {ops : List Oper} {r tl : List Oper} {k : List Frm} {α : Tr Value} {h : H} {R : Rt} {ty : TypeId} {pos : String} {af : Array Edge}
end


/-- numbers as values -/
def ints (l : List Int) : List Value := l.map (Value.int .i64)
theorem ints_len {l : List Int} : (ints l).length = l.length := by simp [ints]
theorem SlV.blk {B : Tr Blk} {lo hi sz n : Nat} {L : List Value} {v : Value} (s : SlV B lo hi sz n L v) (b : Nat) (hb : blkOf v = some b) : lo ≤ b := by
  cases s with
  | nil _ _ => cases hb
  | emp _ _ => cases hb
  | mk _ hlo _ _ _ _ => simp only [blkOf, Option.some.injEq] at hb; omega
section
variable {P : Program} {n : Nat} {ops : List Oper} {r tl : List Oper} {k : List Frm} {α : Tr Value} {h : H} {R : Rt} {ty : TypeId} {pos : String} {af : Array Edge}
/-- l = append(l, z) -/
theorem At_pushI {G s d1 d lo hi : Nat} {x : Operand} {l : List Int} {z : Int} {A : Option Addr} {ty' : TypeId} {pos' : String} {af' : Array Edge} (hx : ev (En G) h α x = some (.int .i64 z)) (hs : α.get s = some (.slice A l.length l.length))
    (hsl : SlV h.blks lo hi 1 l.length (ints l) (.slice A l.length l.length)) (hhi : hi ≤ h.next) (hG : G ≤ lo) (hlo : lo ≤ h.next) (hsm : l.length < 2147483640) (hsd : s ≠ d1) (hd1 : d1 < n) (hd : d < n)
    (hk : ∀ A' h', Pres lo h h' → SlV h'.blks lo h'.next 1 (l ++ [z]).length (ints (l ++ [z])) (.slice A' (l ++ [z]).length (l ++ [z]).length) → h.next ≤ h'.next →
      At P (En G) n ops false r tl k (Tr.put (Tr.put α d1 (.slice (some ⟨h.next, 0, none⟩) 1 1)) d (.slice A' (l ++ [z]).length (l ++ [z]).length)) h' R) :
    At P (En G) n ops false (⟨some d1, .buildSlice 27 1 #[(0, x)], ty, pos, af, none⟩ :: ⟨some d, .call ⟨.builtin .append, #[.tmp s, .tmp d1], #[27, 27]⟩, ty', pos', af', none⟩ :: r) tl k α h R := by
  refine At_push (lo := lo) (hi := hi) (L := ints l) (vs := [.int .i64 z]) u27 i3 zero3 (by rw [size3, bytes3]; rfl) hx (by rw [size3]; rfl) (by rw [size3]; rfl) rfl hs (by rw [size3]; exact hsl) hhi (Nat.le_refl _) (by rw [En_G]; exact hG) hsm hsd hd1 hd fun h' hp => ?_
  rw [size3] at hp
  have e : ints l ++ [.int .i64 z] = ints (l ++ [z]) := by simp [ints]
  rw [e] at hp
  have hsl' := hp.slv (n := (l ++ [z]).length) (c := (l ++ [z]).length) (by rw [ints_len, Nat.mul_one])
  have hnx := hp.next
  have := hk (some ⟨h.next + 1, 0, none⟩) h' (hp.pres hlo hsl.blk) (hsl'.wide (by omega) (Nat.le_refl _)) (by omega)
  rw [List.length_append, List.length_singleton] at this
  exact this
end
end
end Go.Proofs.YtnhbkoeomefkdaaDoor.Ev



