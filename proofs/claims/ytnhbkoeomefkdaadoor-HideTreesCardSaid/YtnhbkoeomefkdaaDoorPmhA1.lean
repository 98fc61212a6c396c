/- Squares in memory; sides, places, overlaps. -/
import Derived.Test.YtnhbkoeomefkdaaDoorPmhG0
import Derived.Test.YtnhbkoeomefkdaaDoorPmhQ1
set_option linter.unusedSimpArgs false
set_option linter.unusedVariables false
namespace Go.Proofs.YtnhbkoeomefkdaaDoor.Ev
open Go Go.Proofs
noncomputable section

theorem SlV.loadA {E : Env} {B : Tr Blk} {lo hi n b off c sz i : Nat} {t : TypeId} {inf : TypeInfo} {L : List Value} (s : SlV B lo hi sz n L (.slice (some ⟨b, off, none⟩) n c)) (ht : E.agg t = some true) (hi' : E.i t = some inf) (hsz : inf.size = sz) (hin : i < n) :
    loadO E t B (some (.pointer (some ⟨b, off + i * sz, none⟩))) = some (.agg ((L.drop (i * sz)).take sz).toArray) := by
  subst hsz
  cases s with
  | mk hb hlo hhi hsz hL hc =>
    have h1 : i * inf.size + inf.size ≤ n * inf.size := by
      rw [← Nat.succ_mul]; exact Nat.mul_le_mul_right _ hin
    refine loadO_agg ht hi' hb (by omega) (by simp; omega) fun j hj => ?_
    rw [Nat.add_assoc, hc _ (by omega), List.getElem?_take, if_pos hj, List.getElem?_drop]
abbrev sqv (q : Sq) : Value := .agg (tri q.1 q.2.1 q.2.2).toArray
theorem sqv_cells {q : Sq} : (sqv q).cells.toList = [.int .i64 q.1, .int .i64 q.2.1, .int .i64 q.2.2] := rfl
theorem zero61 : inf61.zero = some (sqv (0, 0, 0)) := by kernel_rfl
/-- a square out of a slice -/
theorem SlV.sq_at {G : Nat} {B : Tr Blk} {lo hi n b off c i : Nat} {L : List Sq} {q : Sq} (s : SlV B lo hi 3 n (sqc L) (.slice (some ⟨b, off, none⟩) n c)) (hq : L[i]? = some q) (hn : n = L.length) :
    loadO (En G) 61 B (some (.pointer (some ⟨b, off + i * 3, none⟩))) = some (sqv q) ∧ loadv B b (off + i * 3) = some (.int .i64 q.1) ∧ loadv B b (off + i * 3 + 1) = some (.int .i64 q.2.1) ∧ loadv B b (off + i * 3 + 2) = some (.int .i64 q.2.2) := by
  have hi' : i < n := by rw [hn]; exact (List.getElem?_eq_some_iff.1 hq).1
  have h1 := s.loadA (E := En G) agg61 i61 size61 hi'
  rw [sqc_drop hq] at h1
  obtain ⟨b', off', e, _, _, hld⟩ := s.at_ (by omega)
  injection e with e
  injection e with e1 e2
  subst e1; subst e2
  have g : ∀ j, j < 3 → (sqc L)[i * 3 + j]? = (tri q.1 q.2.1 q.2.2)[j]? := fun j hj => by
    rw [← sqc_drop hq, List.getElem?_take, if_pos hj, List.getElem?_drop]
  refine ⟨h1, ?_, ?_, ?_⟩
  · rw [hld _ (by omega)]; exact g 0 (by omega)
  · rw [Nat.add_assoc, hld _ (by omega)]; exact g 1 (by omega)
  · rw [Nat.add_assoc, hld _ (by omega)]; exact g 2 (by omega)
/-- a square in a variable -/
theorem Var.sq {B : Tr Blk} {b : Nat} {q : Sq} (v : Var B b [.int .i64 q.1, .int .i64 q.2.1, .int .i64 q.2.2]) : loadv B b 0 = some (.int .i64 q.1) ∧ loadv B b 1 = some (.int .i64 q.2.1) ∧ loadv B b 2 = some (.int .i64 q.2.2) :=
  ⟨v.load (i := 0) (by simp only [List.length_cons, List.length_nil]; omega), v.load (i := 1) (by simp only [List.length_cons, List.length_nil]; omega), v.load (i := 2) (by simp only [List.length_cons, List.length_nil]; omega)⟩
theorem Var.sqA {G : Nat} {B : Tr Blk} {b : Nat} {q : Sq} (v : Var B b [.int .i64 q.1, .int .i64 q.2.1, .int .i64 q.2.2]) : loadO (En G) 61 B (some (.pointer (some ⟨b, 0, none⟩))) = some (sqv q) := v.loadA agg61 i61 (by rw [size61]; rfl)

def sideB (s : Int) : Bool := decide (1 ≤ s ∧ s ≤ 1000)
/-- one side -/
theorem areSides1 {G lo hi c : Nat} {s : Int} {A : Option Addr} {h : H} (hv : SlV h.blks lo hi 1 1 [.int .i64 s] (.slice A 1 c)) : Spec Tryd.prog (En G) 43 [.slice A 1 c] h fun v h' => v = .bool (sideB s) ∧ h' = h := by
  refine CallsE_enter (En_known (by decide)) (En_f.trans Tryd.func43) rfl ⟨Nat.le_of_ble_eq_true rfl, by decide⟩ fun Q' hQ' => ?_
  obtain ⟨b, off, rfl, _, _, hld⟩ := hv.at_ (by omega)
  have l0 := hld 0 (by omega)
  simp only [List.getElem?_cons_zero, Nat.add_zero] at l0
  simp only [Tryd.f43, go_sem,reduceIte,Nat.reduceEqDiff,Nat.reduceLT, len27]
  refine WK_loopN (fun j α h2 => ∃ i : Nat, i + j = 1 ∧ h2 = h ∧ (i = 1 → sideB s = true) ∧ α.get 5 = some (.slice (some ⟨b, off, none⟩) 1 c) ∧ α.get 6 = some (.int .i64 1) ∧ α.get 7 = some (.int .i64 i)) 1
    ⟨0, rfl, rfl, by omega, by simp only [go_sem,reduceIte,Nat.reduceEqDiff,Nat.reduceLT], by (simp only [go_sem,reduceIte,Nat.reduceEqDiff,Nat.reduceLT]) <;> rfl, by (simp only [go_sem,reduceIte,Nat.reduceEqDiff,Nat.reduceLT]) <;> rfl⟩ (by omega) ?_
  rintro J j α h2 ⟨i, hij, rfl, hs, e5, e6, e7⟩ hJ
  obtain rfl | rfl : i = 0 ∨ i = 1 := by omega
  · have c1 : ((0 : Nat) : Int) < 1 := by decide
    have i0 : Int.toNat ((0 : Nat) : Int) = 0 := rfl
    by_cases h1 : s < 1
    · simp (disch := omega) only [go_sem,reduceIte,Nat.reduceEqDiff,Nat.reduceLT, e5, e6, e7, c1, idxA27, i0, Nat.zero_mul, Nat.add_zero, load3, l0, h1]
      exact hQ' _ _ ⟨Pres.refl _ _, by rw [show sideB s = false from decide_eq_false (by omega)], rfl⟩
    · by_cases h3 : (1000 : Int) < s
      · simp (disch := omega) only [go_sem,reduceIte,Nat.reduceEqDiff,Nat.reduceLT, e5, e6, e7, c1, idxA27, i0, Nat.zero_mul, Nat.add_zero, load3, l0, h1, h3]
        exact hQ' _ _ ⟨Pres.refl _ _, by rw [show sideB s = false from decide_eq_false (by omega)], rfl⟩
      · simp (disch := omega) only [go_sem,reduceIte,Nat.reduceEqDiff,Nat.reduceLT, e5, e6, e7, c1, idxA27, i0, Nat.zero_mul, Nat.add_zero, load3, l0, h1, h3, wrap_i64]
        exact hJ 0 _ _ (by omega) ⟨1, rfl, rfl, fun _ => decide_eq_true (by omega), by simp only [go_sem,reduceIte,Nat.reduceEqDiff,Nat.reduceLT, e5], by simp only [go_sem,reduceIte,Nat.reduceEqDiff,Nat.reduceLT, e6], by (simp only [go_sem,reduceIte,Nat.reduceEqDiff,Nat.reduceLT]) <;> rfl⟩
  · have c1 : ¬ ((1 : Nat) : Int) < 1 := by decide
    simp (disch := omega) only [go_sem,reduceIte,Nat.reduceEqDiff,Nat.reduceLT, e5, e6, e7, c1]
    exact hQ' _ _ ⟨Pres.refl _ _, by rw [hs rfl], rfl⟩
def atB (x s : Int) : Bool := decide (0 ≤ x ∧ x ≤ 1000 - s)
theorem isAt_spec {G : Nat} {x s : Int} {h : H} (h0 : 1 ≤ s) (h1 : s ≤ 1000) : Spec Tryd.prog (En G) 52 [.int .i64 x, .int .i64 s] h fun v h' => v = .bool (atB x s) ∧ h' = h := by
  refine CallsE_enter (En_known (by decide)) (En_f.trans Tryd.func52) rfl ⟨Nat.le_of_ble_eq_true rfl, by decide⟩ fun Q' hQ' => ?_
  by_cases c1 : 0 ≤ x
  · by_cases c2 : x ≤ 1000 - s
    · simp (disch := omega) only [Tryd.f52, go_sem,reduceIte,Nat.reduceEqDiff,Nat.reduceLT, c1, c2, wrap_i64]
      exact hQ' _ _ ⟨Pres.refl _ _, by rw [show atB x s = true from decide_eq_true ⟨c1, c2⟩], rfl⟩
    · simp (disch := omega) only [Tryd.f52, go_sem,reduceIte,Nat.reduceEqDiff,Nat.reduceLT, c1, c2, wrap_i64]
      exact hQ' _ _ ⟨Pres.refl _ _, by rw [show atB x s = false from decide_eq_false fun e => c2 e.2], rfl⟩
  · simp (disch := omega) only [Tryd.f52, go_sem,reduceIte,Nat.reduceEqDiff,Nat.reduceLT, c1, wrap_i64]
    exact hQ' _ _ ⟨Pres.refl _ _, by rw [show atB x s = false from decide_eq_false fun e => c1 e.1], rfl⟩
theorem okSq_iff {q : Sq} : okSq q ↔ sideB q.2.2 = true ∧ atB q.1 q.2.2 = true ∧ atB q.2.1 q.2.2 = true := by
  unfold okSq sideB atB
  simp only [decide_eq_true_eq]
  omega
set_option maxHeartbeats 4000000 in
theorem overlap_spec {G : Nat} {a b : Sq} {h : H} (hG : G ≤ h.next) (ha : okSq a) (hb : okSq b) : Spec Tryd.prog (En G) 73 [sqv a, sqv b] h fun v _ => v = .bool (decide (ovl a b)) := by
  refine CallsE_enter (En_known (by decide)) (En_f.trans Tryd.func73) rfl ⟨Nat.le_of_ble_eq_true rfl, by decide⟩ fun Q' hQ' => ?_
  simp only [Tryd.f73, go_sem,reduceIte,Nat.reduceEqDiff,Nat.reduceLT]
  refine At_box (v := sqv a) (by (simp only [go_sem,reduceIte,Nat.reduceEqDiff,Nat.reduceLT]) <;> rfl) (by omega) fun h0 hn0 => ?_
  have v0 := hn0.var
  rw [sqv_cells] at v0
  have n0 := hn0.next
  have pr0 : Pres h.next h h0 := hn0.pres (Nat.le_refl _)
  try simp only [go_sem,reduceIte,Nat.reduceEqDiff,Nat.reduceLT]
  refine At_box (v := sqv b) (by (simp only [go_sem,reduceIte,Nat.reduceEqDiff,Nat.reduceLT]) <;> rfl) (by omega) fun h1 hn1 => ?_
  have v1 := hn1.var
  rw [sqv_cells] at v1
  have n1 := hn1.next
  have pr1 : Pres h0.next h0 h1 := hn1.pres (Nat.le_refl _)
  have v0' := v0.mono (B' := h1.blks) (pr1.get _ (by omega))
  obtain ⟨a0, a1, a2⟩ := v0'.sq
  obtain ⟨b0, b1, b2⟩ := v1.sq
  have done : ∀ v, v = Value.bool (decide (ovl a b)) → Q' v h1 := fun v hv => hQ' _ _ ⟨pr0.trans (pr1.le (by omega)), hv⟩
  clear hQ'
  obtain ⟨p1, p2, ⟨p3, p4⟩, p5, p6⟩ := ha
  obtain ⟨r1, r2, ⟨r3, r4⟩, r5, r6⟩ := hb
  by_cases c0 : a.1 < b.1 + b.2.2
  rotate_left
  · simp (maxSteps := 3000000) (disch := omega) only [go_sem,reduceIte,Nat.reduceEqDiff,Nat.reduceLT, fld61_0, fld61_1, fld61_2, Nat.add_zero, Nat.zero_add, load3, a0, a1, a2, b0, b1, b2, wrap_i64, c0]
    exact done _ (by rw [show decide (ovl a b) = false from decide_eq_false fun e => c0 e.1])
  by_cases c1 : b.1 < a.1 + a.2.2
  rotate_left
  · simp (maxSteps := 3000000) (disch := omega) only [go_sem,reduceIte,Nat.reduceEqDiff,Nat.reduceLT, fld61_0, fld61_1, fld61_2, Nat.add_zero, Nat.zero_add, load3, a0, a1, a2, b0, b1, b2, wrap_i64, c0, c1]
    exact done _ (by rw [show decide (ovl a b) = false from decide_eq_false fun e => c1 e.2.1])
  by_cases c2 : a.2.1 < b.2.1 + b.2.2
  rotate_left
  · simp (maxSteps := 3000000) (disch := omega) only [go_sem,reduceIte,Nat.reduceEqDiff,Nat.reduceLT, fld61_0, fld61_1, fld61_2, Nat.add_zero, Nat.zero_add, load3, a0, a1, a2, b0, b1, b2, wrap_i64, c0, c1, c2]
    exact done _ (by rw [show decide (ovl a b) = false from decide_eq_false fun e => c2 e.2.2.1])
  by_cases c3 : b.2.1 < a.2.1 + a.2.2
  rotate_left
  · simp (maxSteps := 3000000) (disch := omega) only [go_sem,reduceIte,Nat.reduceEqDiff,Nat.reduceLT, fld61_0, fld61_1, fld61_2, Nat.add_zero, Nat.zero_add, load3, a0, a1, a2, b0, b1, b2, wrap_i64, c0, c1, c2, c3]
    exact done _ (by rw [show decide (ovl a b) = false from decide_eq_false fun e => c3 e.2.2.2])
  simp (maxSteps := 3000000) (disch := omega) only [go_sem,reduceIte,Nat.reduceEqDiff,Nat.reduceLT, fld61_0, fld61_1, fld61_2, Nat.add_zero, Nat.zero_add, load3, a0, a1, a2, b0, b1, b2, wrap_i64, c0, c1, c2, c3]
  exact done _ (by rw [show decide (ovl a b) = true from decide_eq_true ⟨c0, c1, c2, c3⟩])
set_option maxHeartbeats 4000000 in
theorem apart_spec {G : Nat} {a b : Sq} {h : H} (hG : G ≤ h.next) (ha : okSq a) (hb : okSq b) : Spec Tryd.prog (En G) 57 [sqv a, sqv b] h fun v _ => v = .bool (!decide (ovl a b)) := by
  refine CallsE_enter (En_known (by decide)) (En_f.trans Tryd.func57) rfl ⟨Nat.le_of_ble_eq_true rfl, by decide⟩ fun Q' hQ' => ?_
  simp only [Tryd.f57, go_sem,reduceIte,Nat.reduceEqDiff,Nat.reduceLT]
  refine At_box (v := sqv a) (by (simp only [go_sem,reduceIte,Nat.reduceEqDiff,Nat.reduceLT]) <;> rfl) (by omega) fun h0 hn0 => ?_
  have v0 := hn0.var
  rw [sqv_cells] at v0
  have n0 := hn0.next
  have pr0 : Pres h.next h h0 := hn0.pres (Nat.le_refl _)
  try simp only [go_sem,reduceIte,Nat.reduceEqDiff,Nat.reduceLT]
  refine At_box (v := sqv b) (by (simp only [go_sem,reduceIte,Nat.reduceEqDiff,Nat.reduceLT]) <;> rfl) (by omega) fun h1 hn1 => ?_
  have v1 := hn1.var
  rw [sqv_cells] at v1
  have n1 := hn1.next
  have pr1 : Pres h0.next h0 h1 := hn1.pres (Nat.le_refl _)
  have v0' := v0.mono (B' := h1.blks) (pr1.get _ (by omega))
  obtain ⟨a0, a1, a2⟩ := v0'.sq
  obtain ⟨b0, b1, b2⟩ := v1.sq
  have done : ∀ v, v = Value.bool (!decide (ovl a b)) → Q' v h1 := fun v hv => hQ' _ _ ⟨pr0.trans (pr1.le (by omega)), hv⟩
  clear hQ'
  obtain ⟨p1, p2, ⟨p3, p4⟩, p5, p6⟩ := ha
  obtain ⟨r1, r2, ⟨r3, r4⟩, r5, r6⟩ := hb
  by_cases c0 : a.1 + a.2.2 ≤ b.1
  · simp (maxSteps := 3000000) (disch := omega) only [go_sem,reduceIte,Nat.reduceEqDiff,Nat.reduceLT, fld61_0, fld61_1, fld61_2, Nat.add_zero, Nat.zero_add, load3, a0, a1, a2, b0, b1, b2, wrap_i64, c0]
    exact done _ (by rw [show decide (ovl a b) = false from decide_eq_false (by unfold ovl; omega)]; rfl)
  by_cases c1 : b.1 + b.2.2 ≤ a.1
  · simp (maxSteps := 3000000) (disch := omega) only [go_sem,reduceIte,Nat.reduceEqDiff,Nat.reduceLT, fld61_0, fld61_1, fld61_2, Nat.add_zero, Nat.zero_add, load3, a0, a1, a2, b0, b1, b2, wrap_i64, c0, c1]
    exact done _ (by rw [show decide (ovl a b) = false from decide_eq_false (by unfold ovl; omega)]; rfl)
  by_cases c2 : a.2.1 + a.2.2 ≤ b.2.1
  · simp (maxSteps := 3000000) (disch := omega) only [go_sem,reduceIte,Nat.reduceEqDiff,Nat.reduceLT, fld61_0, fld61_1, fld61_2, Nat.add_zero, Nat.zero_add, load3, a0, a1, a2, b0, b1, b2, wrap_i64, c0, c1, c2]
    exact done _ (by rw [show decide (ovl a b) = false from decide_eq_false (by unfold ovl; omega)]; rfl)
  by_cases c3 : b.2.1 + b.2.2 ≤ a.2.1
  · simp (maxSteps := 3000000) (disch := omega) only [go_sem,reduceIte,Nat.reduceEqDiff,Nat.reduceLT, fld61_0, fld61_1, fld61_2, Nat.add_zero, Nat.zero_add, load3, a0, a1, a2, b0, b1, b2, wrap_i64, c0, c1, c2, c3]
    exact done _ (by rw [show decide (ovl a b) = false from decide_eq_false (by unfold ovl; omega)]; rfl)
  simp (maxSteps := 3000000) (disch := omega) only [go_sem,reduceIte,Nat.reduceEqDiff,Nat.reduceLT, fld61_0, fld61_1, fld61_2, Nat.add_zero, Nat.zero_add, load3, a0, a1, a2, b0, b1, b2, wrap_i64, c0, c1, c2, c3]
  exact done _ (by rw [show decide (ovl a b) = true from decide_eq_true (by unfold ovl; omega)]; rfl)
end
end Go.Proofs.YtnhbkoeomefkdaaDoor.Ev

