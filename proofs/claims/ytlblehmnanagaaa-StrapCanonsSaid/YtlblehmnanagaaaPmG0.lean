/- Slices of numbers at this seat. -/
import Derived.Test.YtlblehmnanagaaaPmS1
set_option linter.unusedSimpArgs false
set_option linter.unusedVariables false
namespace Go.Proofs.Ytlblehmnanagaaa.Ev
open Go Go.Proofs
noncomputable section

def intsL (n : Nat) (f : Nat → Int) : List Value := (List.range n).map fun j => .int .i64 (f j)
theorem intsL_len {n : Nat} {f : Nat → Int} : (intsL n f).length = n := by simp [intsL]
theorem intsL_get {n j : Nat} {f : Nat → Int} (h : j < n) : (intsL n f)[j]? = some (.int .i64 (f j)) := by simp [intsL, h]
theorem SlV.ints_at {B : Tr Blk} {lo hi n c : Nat} {f : Nat → Int} {A : Option Addr} (s : SlV B lo hi 1 n (intsL n f) (.slice A n c)) (h : 0 < n) : ∃ b off, A = some ⟨b, off, none⟩ ∧ ∀ j, j < n → loadv B b (off + j) = some (.int .i64 (f j)) := by
  obtain ⟨b, off, e, _, _, hld⟩ := s.at_ h
  exact ⟨b, off, e, fun j hj => by rw [hld j (by omega), intsL_get hj]⟩
section
variable {P : Program} {n : Nat} {ops : List Oper} {r tl : List Oper} {k : List Frm} {α : Tr Value} {h : H} {R : Rt} {ty : TypeId} {pos : String} {af : Array Edge}
end


/-- numbers as values -/
def ints (l : List Int) : List Value := l.map (Value.int .i64)
theorem ints_len {l : List Int} : (ints l).length = l.length := by simp [ints]
theorem ints_ints {n : Nat} {f : Nat → Int} : intsL n f = ints ((List.range n).map f) := by simp [intsL, ints, List.map_map, Function.comp_def]
theorem ints_intsL {l : List Int} : ints l = intsL l.length fun i => l.getD i 0 := by
  apply List.ext_getElem?
  intro i
  by_cases h : i < l.length
  · rw [intsL_get h]
    simp [ints, h]
  · rw [List.getElem?_eq_none (by rw [ints_len]; omega), List.getElem?_eq_none (by rw [intsL_len]; omega)]
theorem SlV.blk {B : Tr Blk} {lo hi sz n : Nat} {L : List Value} {v : Value} (s : SlV B lo hi sz n L v) (b : Nat) (hb : blkOf v = some b) : lo ≤ b := by
  cases s with
  | nil _ _ => cases hb
  | emp _ _ => cases hb
  | mk _ hlo _ _ _ _ => simp only [blkOf, Option.some.injEq] at hb; omega
section
variable {P : Program} {n : Nat} {ops : List Oper} {r tl : List Oper} {k : List Frm} {α : Tr Value} {h : H} {R : Rt} {ty : TypeId} {pos : String} {af : Array Edge}
/-- l = append(l, z) -/
theorem At_pushI {G s d1 d lo hi : Nat} {x : Operand} {l : List Int} {z : Int} {A : Option Addr} {ty' : TypeId} {pos' : String} {af' : Array Edge} (hx : ev (En G) h α x = some (.int .i64 z)) (hs : α.get s = some (.slice A l.length l.length))
    (hsl : SlV h.blks lo hi 1 l.length (ints l) (.slice A l.length l.length)) (hhi : hi ≤ h.next) (hG : G ≤ lo) (hlo : lo ≤ h.next) (hsm : l.length < 2147483640) (hsd : s ≠ d1) (hd1 : d1 < n) (hd : d < n)
    (hk : ∀ A' h', Pres lo h h' → SlV h'.blks lo h'.next 1 (l ++ [z]).length (ints (l ++ [z])) (.slice A' (l ++ [z]).length (l ++ [z]).length) → h.next ≤ h'.next →
      At P (En G) n ops false r tl k (Tr.put (Tr.put α d1 (.slice (some ⟨h.next, 0, none⟩) 1 1)) d (.slice A' (l ++ [z]).length (l ++ [z]).length)) h' R) :
    At P (En G) n ops false (⟨some d1, .buildSlice 23 1 #[(0, x)], ty, pos, af, none⟩ :: ⟨some d, .call ⟨.builtin .append, #[.tmp s, .tmp d1], #[23, 23]⟩, ty', pos', af', none⟩ :: r) tl k α h R := by
  refine At_push (lo := lo) (hi := hi) (L := ints l) (vs := [.int .i64 z]) u23 i3 zero3 (by rw [size3, bytes3]; rfl) hx (by rw [size3]; rfl) (by rw [size3]; rfl) rfl hs (by rw [size3]; exact hsl) hhi (Nat.le_refl _) (by rw [En_G]; exact hG) hsm hsd hd1 hd fun h' hp => ?_
  rw [size3] at hp
  have e : ints l ++ [.int .i64 z] = ints (l ++ [z]) := by simp [ints]
  rw [e] at hp
  have hsl' := hp.slv (n := (l ++ [z]).length) (c := (l ++ [z]).length) (by rw [ints_len, Nat.mul_one])
  have hnx := hp.next
  have := hk (some ⟨h.next + 1, 0, none⟩) h' (hp.pres hlo hsl.blk) (hsl'.wide (by omega) (Nat.le_refl _)) (by omega)
  rw [List.length_append, List.length_singleton] at this
  exact this
end
end
end Go.Proofs.Ytlblehmnanagaaa.Ev

