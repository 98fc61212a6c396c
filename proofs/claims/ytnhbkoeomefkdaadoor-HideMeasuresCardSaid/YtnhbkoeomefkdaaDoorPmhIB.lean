/- Bools in memory; lists of numbers that are the same. -/
import Derived.Test.YtnhbkoeomefkdaaDoorPmhG0
set_option linter.unusedSimpArgs false
set_option linter.unusedVariables false
namespace Go.Proofs.YtnhbkoeomefkdaaDoor.Ev
open Go Go.Proofs
noncomputable section

def boolsL (n : Nat) (p : Nat → Bool) : List Value := (List.range n).map fun j => .bool (p j)
theorem boolsL_len {n : Nat} {f : Nat → Bool} : (boolsL n f).length = n := by simp [boolsL]
theorem boolsL_get {n j : Nat} {f : Nat → Bool} (h : j < n) : (boolsL n f)[j]? = some (.bool (f j)) := by simp [boolsL, h]
theorem boolsL_set {n R : Nat} {f : Nat → Bool} {z : Bool} (h : R < n) : (boolsL n f).take R ++ [.bool z] ++ (boolsL n f).drop (R + 1) = boolsL n fun r => if r = R then z else f r := by
  have e : (boolsL n f).take R ++ [.bool z] ++ (boolsL n f).drop (R + 1) = (boolsL n f).set R (.bool z) := by
    rw [List.set_eq_take_append_cons_drop, if_pos (by rw [boolsL_len]; exact h)]
    simp
  rw [e]
  apply List.ext_getElem?
  intro j
  rw [List.getElem?_set]
  by_cases hj : j < n
  · rw [boolsL_get hj, boolsL_len]
    by_cases e2 : R = j
    · subst e2
      simp [h, boolsL_get h]
    · simp [e2, boolsL_get hj, Ne.symm e2]
  · by_cases e2 : R = j
    · omega
    · simp only [e2, if_false]
      rw [List.getElem?_eq_none (by rw [boolsL_len]; omega), List.getElem?_eq_none (by rw [boolsL_len]; omega)]
theorem boolsL_congr {n : Nat} {f f' : Nat → Bool} (h : ∀ k, k < n → f k = f' k) : boolsL n f = boolsL n f' :=
  List.map_congr_left fun k hk => by rw [h k (List.mem_range.1 hk)]
section
variable {P : Program} {n : Nat} {ops : List Oper} {r tl : List Oper} {k : List Frm} {α : Tr Value} {h : H} {R : Rt} {ty : TypeId} {pos : String} {af : Array Edge}
end

/-- which list comes first -/
def BefR (n m : Nat) (f g : Nat → Int) (b : Bool) : Prop :=
  (∃ i, i < n ∧ i < m ∧ (∀ k, k < i → f k = g k) ∧ f i ≠ g i ∧ b = decide (f i < g i)) ∨ ((∀ k, k < n → k < m → f k = g k) ∧ b = decide (n < m))
set_option maxHeartbeats 4000000 in
theorem Before_spec {G lo hi lo2 hi2 n m c c2 : Nat} {A A2 : Option Addr} {f g : Nat → Int} {h : H} (hv : SlV h.blks lo hi 1 n (intsL n f) (.slice A n c)) (hw : SlV h.blks lo2 hi2 1 m (intsL m g) (.slice A2 m c2)) (hn : n < 2147483648) :
    Spec Tryd.prog (En G) 42 [.slice A n c, .slice A2 m c2] h fun v h' => (∃ b, v = .bool b ∧ BefR n m f g b) ∧ h' = h := by
  refine CallsE_enter (En_known (by decide)) (En_f.trans Tryd.func42) rfl ⟨Nat.le_of_ble_eq_true rfl, by decide⟩ fun Q' hQ' => ?_
  simp only [Tryd.f42, go_sem,reduceIte,Nat.reduceEqDiff,Nat.reduceLT]
  refine WK_loopN (fun j α h2 => ∃ i : Nat, i + j = n ∧ h2 = h ∧ α.get 0 = some (.slice A n c) ∧ α.get 1 = some (.slice A2 m c2) ∧ α.get 5 = some (.int .i64 i) ∧ i ≤ m ∧ ∀ k, k < i → f k = g k) n
    ⟨0, by omega, rfl, by simp only [go_sem,reduceIte,Nat.reduceEqDiff,Nat.reduceLT], by simp only [go_sem,reduceIte,Nat.reduceEqDiff,Nat.reduceLT], by (simp only [go_sem,reduceIte,Nat.reduceEqDiff,Nat.reduceLT]) <;> rfl, by omega, fun k hk => absurd hk (Nat.not_lt_zero k)⟩ (by omega) ?_
  rintro J j α h2 ⟨i, hij, rfl, e0, e1, e5, him, hall⟩ hJ
  have fin : (∀ k, k < n → k < m → f k = g k) → Q' (.bool (decide ((n : Int) < m))) h2 := fun hh => hQ' _ _ ⟨Pres.refl _ _, ⟨_, rfl, .inr ⟨hh, by simp⟩⟩, rfl⟩
  by_cases hlt : (i : Int) < n
  · by_cases hlt2 : (i : Int) < m
    · obtain ⟨b, off, rfl, hld⟩ := hv.ints_at (by omega)
      obtain ⟨b2, off2, rfl, hld2⟩ := hw.ints_at (by omega)
      have l1 := hld i (by omega)
      have l2 := hld2 i (by omega)
      simp (disch := omega) only [go_sem,reduceIte,Nat.reduceEqDiff,Nat.reduceLT, e0, e1, e5, hlt, hlt2, len27]
      refine WK_regionT 8 ⟨by kernel_rfl, by kernel_rfl, by kernel_rfl⟩ ?_
      by_cases c1 : f i = g i
      · have d1 : decide (f i ≠ g i) = false := decide_eq_false fun e => e c1
        simp (disch := omega) only [go_sem,reduceIte,Nat.reduceEqDiff,Nat.reduceLT, e0, e1, e5, idxA27, load3, Int.toNat_natCast, Nat.mul_one, l1, l2, d1, wrap_i64]
        refine hJ (n - (i + 1)) _ _ (by omega) ⟨i + 1, by omega, rfl, by simp only [go_sem,reduceIte,Nat.reduceEqDiff,Nat.reduceLT, e0], by simp only [go_sem,reduceIte,Nat.reduceEqDiff,Nat.reduceLT, e1], by (simp only [go_sem,reduceIte,Nat.reduceEqDiff,Nat.reduceLT]) <;> rfl, by omega, fun k hk => ?_⟩
        by_cases e : k = i
        · subst e; exact c1
        · exact hall k (by omega)
      · have d1 : decide (f i ≠ g i) = true := decide_eq_true c1
        simp (disch := omega) only [go_sem,reduceIte,Nat.reduceEqDiff,Nat.reduceLT, e0, e1, e5, idxA27, load3, Int.toNat_natCast, Nat.mul_one, l1, l2, d1]
        refine WK_regionT 8 ⟨by kernel_rfl, by kernel_rfl, by kernel_rfl⟩ ?_
        simp (disch := omega) only [go_sem,reduceIte,Nat.reduceEqDiff,Nat.reduceLT, e0, e1, e5, idxA27, load3, Int.toNat_natCast, Nat.mul_one, l1, l2]
        exact hQ' _ _ ⟨Pres.refl _ _, ⟨_, rfl, .inl ⟨i, by omega, by omega, hall, c1, rfl⟩⟩, rfl⟩
    · obtain rfl : i = m := by omega
      simp (disch := omega) only [go_sem,reduceIte,Nat.reduceEqDiff,Nat.reduceLT, e0, e1, e5, hlt, hlt2, len27]
      exact fin fun k h1 h2 => hall k h2
  · obtain rfl : i = n := by omega
    simp (disch := omega) only [go_sem,reduceIte,Nat.reduceEqDiff,Nat.reduceLT, e0, e1, e5, hlt, len27]
    exact fin fun k h1 h2 => hall k h1

theorem list_eq {l m : List Int} (hl : l.length = m.length) : (∀ k, k < l.length → l.getD k 0 = m.getD k 0) ↔ l = m := by
  constructor
  · intro h
    refine List.ext_getElem hl fun k h1 h2 => ?_
    have := h k h1
    simpa [h1, h2] using this
  · rintro rfl k _; rfl
theorem bef_none {n m : Nat} {f g : Nat → Int} (h1 : BefR n m f g false) (h2 : BefR m n g f false) : n = m ∧ ∀ k, k < n → f k = g k := by
  rcases h1 with ⟨i, i1, i2, i3, i4, i5⟩ | ⟨a1, a2⟩
  · rcases h2 with ⟨i', j1, j2, j3, j4, j5⟩ | ⟨b1, b2⟩
    · exfalso
      have p1 := of_decide_eq_false i5.symm
      have p2 := of_decide_eq_false j5.symm
      rcases Nat.lt_trichotomy i i' with e | e | e
      · exact i4 (j3 i e).symm
      · subst e; omega
      · exact j4 (i3 i' e).symm
    · exact absurd (b1 i i2 i1).symm i4
  · rcases h2 with ⟨i', j1, j2, j3, j4, j5⟩ | ⟨b1, b2⟩
    · exact absurd (a1 i' j2 j1).symm j4
    · have p1 := of_decide_eq_false a2.symm
      have p2 := of_decide_eq_false b2.symm
      have : n = m := by omega
      exact ⟨this, fun k hk => a1 k hk (by omega)⟩
theorem bef_self {n : Nat} {f : Nat → Int} {b : Bool} (h : BefR n n f f b) : b = false := by
  rcases h with ⟨i, _, _, _, h4, _⟩ | ⟨_, h2⟩
  · exact absurd rfl h4
  · rw [h2]; simp
theorem Same_l {G lo hi lo2 hi2 c c2 : Nat} {A A2 : Option Addr} {l m : List Int} {h : H} (hv : SlV h.blks lo hi 1 l.length (ints l) (.slice A l.length c)) (hw : SlV h.blks lo2 hi2 1 m.length (ints m) (.slice A2 m.length c2)) (hn : l.length < 2147483648) (hm : m.length < 2147483648) :
    Spec Tryd.prog (En G) 20 [.slice A l.length c, .slice A2 m.length c2] h fun v h' => (∃ b, v = .bool b ∧ (b = true ↔ l = m)) ∧ h' = h := by
  refine CallsE_enter (En_known (by decide)) (En_f.trans Tryd.func20) rfl ⟨Nat.le_of_ble_eq_true rfl, by decide⟩ fun Q' hQ' => ?_
  rw [ints_intsL] at hv hw
  simp only [Tryd.f20, go_sem,reduceIte,Nat.reduceEqDiff,Nat.reduceLT]
  refine CallO_same (Before_spec hv hw hn) (by omega) fun u ⟨b, hu, hb⟩ => ?_
  subst hu
  cases b with
  | true =>
    simp only [go_sem,reduceIte,Nat.reduceEqDiff,Nat.reduceLT]
    refine hQ' _ _ ⟨Pres.refl _ _, ⟨_, rfl, ?_⟩, rfl⟩
    simp only [Bool.false_eq_true, false_iff]
    rintro rfl
    have := bef_self hb
    cases this
  | false =>
    simp only [go_sem,reduceIte,Nat.reduceEqDiff,Nat.reduceLT]
    refine CallO_same (Before_spec hw hv hm) (by omega) fun u ⟨b2, hu, hb2⟩ => ?_
    subst hu
    cases b2 with
    | true =>
      simp only [go_sem,reduceIte,Nat.reduceEqDiff,Nat.reduceLT]
      refine hQ' _ _ ⟨Pres.refl _ _, ⟨_, rfl, ?_⟩, rfl⟩
      simp only [Bool.false_eq_true, false_iff]
      rintro rfl
      have := bef_self hb2
      cases this
    | false =>
      simp only [go_sem,reduceIte,Nat.reduceEqDiff,Nat.reduceLT]
      refine hQ' _ _ ⟨Pres.refl _ _, ⟨_, rfl, ?_⟩, rfl⟩
      obtain ⟨e1, e2⟩ := bef_none hb hb2
      simp only [true_iff]
      exact (list_eq e1).1 e2
end
end Go.Proofs.YtnhbkoeomefkdaaDoor.Ev



