/- Slices of numbers at this seat. -/
import Derived.Test.YtnhbkoeomefkdaaDoorPmhS1
import Derived.Test.YtnhbkoeomefkdaaDoorPmQ1
set_option linter.unusedSimpArgs false
set_option linter.unusedVariables false
namespace Go.Proofs.YtnhbkoeomefkdaaDoor.Ev
open Go Go.Proofs
noncomputable section

theorem sliceO_take {E : Env} {B : Tr Blk} {lo hi sz n c m : Nat} {kd : IntKind} {t elem : TypeId} {inf : TypeInfo} {A : Option Addr} {L : List Value} (hu : E.u t = some (.slice elem)) (hi' : E.i elem = some inf) (hsz : inf.size = sz) (s : SlV B lo hi sz n L (.slice A n c)) (hm : m ≤ n) :
    ∃ A' c', sliceO E t B (some (.slice A n c)) (some []) (some [.int kd m]) = some (.slice A' m c') ∧ SlV B lo hi sz m (L.take (m * sz)) (.slice A' m c') := by
  cases s with
  | nil hn hL =>
    subst hL
    obtain rfl : m = 0 := by omega
    refine ⟨none, 0, ?_, .nil rfl (by simp)⟩
    show evSlice E ⟨B, 0, 0⟩ t (.slice none 0 0) none (some (.int kd (Int.ofNat 0))) = _
    simp [evSlice, hu, hi', bound]
  | emp hn hL =>
    subst hL
    obtain rfl : m = 0 := by omega
    refine ⟨some ⟨0, 0, some 0⟩, 0, ?_, .emp rfl (by simp)⟩
    show evSlice E ⟨B, 0, 0⟩ t (.slice (some ⟨0, 0, some 0⟩) 0 0) none (some (.int kd (Int.ofNat 0))) = _
    simp [evSlice, hu, hi', bound]
  | mk hb hlo hhi hs hL hc =>
    rename_i b off size cells
    have hmul : m * sz ≤ n * sz := Nat.mul_le_mul_right _ hm
    refine ⟨some ⟨b, off, none⟩, c, ?_, .mk hb hlo hhi (by omega) (by simp; omega) fun i hi => ?_⟩
    · show evSlice E ⟨B, 0, 0⟩ t (.slice (some ⟨b, off, none⟩) n c) none (some (.int kd (Int.ofNat m))) = _
      simp [evSlice, hu, hi', bound, hm, hb, hsz, forceN_eq]
    · rw [hc i (by omega), List.getElem?_take, if_pos hi]

def intsL (n : Nat) (f : Nat → Int) : List Value := (List.range n).map fun j => .int .i64 (f j)
theorem intsL_len {n : Nat} {f : Nat → Int} : (intsL n f).length = n := by simp [intsL]
theorem intsL_get {n j : Nat} {f : Nat → Int} (h : j < n) : (intsL n f)[j]? = some (.int .i64 (f j)) := by simp [intsL, h]
theorem SlV.ints_at {B : Tr Blk} {lo hi n c : Nat} {f : Nat → Int} {A : Option Addr} (s : SlV B lo hi 1 n (intsL n f) (.slice A n c)) (h : 0 < n) : ∃ b off, A = some ⟨b, off, none⟩ ∧ ∀ j, j < n → loadv B b (off + j) = some (.int .i64 (f j)) := by
  obtain ⟨b, off, e, _, _, hld⟩ := s.at_ h
  exact ⟨b, off, e, fun j hj => by rw [hld j (by omega), intsL_get hj]⟩
theorem SlV.ints_at' {B : Tr Blk} {lo hi n c b off j : Nat} {f : Nat → Int} (s : SlV B lo hi 1 n (intsL n f) (.slice (some ⟨b, off, none⟩) n c)) (hj : j < n) : loadv B b (off + j) = some (.int .i64 (f j)) := by
  obtain ⟨b', off', e, hld⟩ := s.ints_at (by omega)
  injection e with e
  injection e with e1 e2
  subst e1; subst e2
  exact hld j hj
theorem intsL_set {n R : Nat} {f : Nat → Int} {z : Int} (h : R < n) : (intsL n f).take R ++ [.int .i64 z] ++ (intsL n f).drop (R + 1) = intsL n fun r => if r = R then z else f r := by
  have e : (intsL n f).take R ++ [.int .i64 z] ++ (intsL n f).drop (R + 1) = (intsL n f).set R (.int .i64 z) := by
    rw [List.set_eq_take_append_cons_drop, if_pos (by rw [intsL_len]; exact h)]
    simp
  rw [e]
  apply List.ext_getElem?
  intro j
  rw [List.getElem?_set]
  by_cases hj : j < n
  · rw [intsL_get hj, intsL_len]
    by_cases e2 : R = j
    · subst e2
      simp [h, intsL_get h]
    · simp [e2, intsL_get hj, Ne.symm e2]
  · by_cases e2 : R = j
    · omega
    · simp only [e2, if_false]
      rw [List.getElem?_eq_none (by rw [intsL_len]; omega), List.getElem?_eq_none (by rw [intsL_len]; omega)]
theorem intsL_congr {n : Nat} {f f' : Nat → Int} (h : ∀ k, k < n → f k = f' k) : intsL n f = intsL n f' :=
  List.map_congr_left fun k hk => by rw [h k (List.mem_range.1 hk)]
theorem zeros_ints : ∀ n, zeros [.int .i64 0] n = intsL n fun _ => 0 := fun n => by
  apply List.ext_getElem?
  intro i
  by_cases h : i < n
  · rw [intsL_get h, zeros_get _ (by decide) n i (by simpa using h)]
    simp [Nat.mod_one]
  · rw [List.getElem?_eq_none (by rw [zeros_length]; simp; omega), List.getElem?_eq_none (by rw [intsL_len]; omega)]

section
variable {P : Program} {n : Nat} {ops : List Oper} {r tl : List Oper} {k : List Frm} {α : Tr Value} {h : H} {R : Rt} {ty : TypeId} {pos : String} {af : Array Edge}
/-- a number is stored in a slice of numbers -/
theorem At_setInt {G : Nat} {x y : Operand} {lo hi N b c i : Nat} {f : Nat → Int} {z : Int} (hx : ev (En G) h α x = some (.pointer (some ⟨b, 0 + i, none⟩))) (hy : ev (En G) h α y = some (.int .i64 z)) (hs : SlV h.blks lo hi 1 N (intsL N f) (.slice (some ⟨b, 0, none⟩) N c)) (hi' : i < N) (hG : G ≤ b)
    (hk : ∀ h', Sto h h' b (0 + i) [.int .i64 z] → SlV h'.blks lo hi 1 N (intsL N fun r => if r = i then z else f r) (.slice (some ⟨b, 0, none⟩) N c) → At P (En G) n ops false r tl k α h' R) :
    At P (En G) n ops false (⟨none, .store 3 x y, ty, pos, af, none⟩ :: r) tl k α h R := by
  cases hs with
  | mk gb glo ghi gsz gL gc =>
    refine At_store (inf := inf3) (b := b) (off := 0 + i) (v := .int .i64 z) i3 hx hy (by rw [size3]; rfl) rfl gb (by rw [size3]; omega) (by rw [En_G]; exact hG) fun h4 hs4 => ?_
    have e := hs4.slv (c := c) (.mk gb glo ghi gsz gL gc) (by show i + 1 ≤ N * 1; omega)
    have e2 : (Value.int .i64 z).cells.toList = [.int .i64 z] := rfl
    rw [e2, List.length_singleton, intsL_set hi'] at e
    exact hk h4 hs4 e
end


/-- numbers as values -/
def ints (l : List Int) : List Value := l.map (Value.int .i64)
theorem SlV.blk {B : Tr Blk} {lo hi sz n : Nat} {L : List Value} {v : Value} (s : SlV B lo hi sz n L v) (b : Nat) (hb : blkOf v = some b) : lo ≤ b := by
  cases s with
  | nil _ _ => cases hb
  | emp _ _ => cases hb
  | mk _ hlo _ _ _ _ => simp only [blkOf, Option.some.injEq] at hb; omega
section
variable {P : Program} {n : Nat} {ops : List Oper} {r tl : List Oper} {k : List Frm} {α : Tr Value} {h : H} {R : Rt} {ty : TypeId} {pos : String} {af : Array Edge}
end
end
end Go.Proofs.YtnhbkoeomefkdaaDoor.Ev



