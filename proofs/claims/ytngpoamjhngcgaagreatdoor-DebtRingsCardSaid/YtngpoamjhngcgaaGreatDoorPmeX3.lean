/- Debts: valid or not, by the program and by the reference. -/
import Derived.Test.YtngpoamjhngcgaaGreatDoorPmeX1
set_option linter.unusedSimpArgs false
namespace Go.Proofs.YtngpoamjhngcgaaGreatDoor.Ev
open Go Go.Proofs
noncomputable section

def RowOk (n : Nat) (g : Nat → Nat) (f : Nat → Nat → Int) (i : Nat) : Prop := g i = n ∧ f i i = 0 ∧ ∀ j, j < n → 0 ≤ f i j ∧ f i j ≤ 1000
def IsD (n : Nat) (g : Nat → Nat) (f : Nat → Nat → Int) : Prop := 1 ≤ n ∧ n ≤ 8 ∧ ∀ i, i < n → RowOk n g f i

set_option maxHeartbeats 4000000 in
theorem areDebts_spec {G lo hi n c : Nat} {g : Nat → Nat} {f : Nat → Nat → Int} {RA : Nat → Option Addr} {rc : Nat → Nat} {A : Option Addr} {h : H} (hm : MatV h.blks lo hi n g f RA rc (.slice A n c)) (hn : n < 2147483648) :
    Spec Tryz.prog (En G) 58 [.slice A n c] h fun v h' => (∃ b, v = .bool b ∧ (b = true ↔ IsD n g f)) ∧ h' = h := by
  refine CallsE_enter (En_known (by decide)) (En_f.trans Tryz.func58) rfl ⟨Nat.le_of_ble_eq_true rfl, by decide⟩ fun Q' hQ' => ?_
  have no : ¬ IsD n g f → Q' (.bool false) h := fun hh => hQ' _ _ ⟨Pres.refl _ _, ⟨false, rfl, ⟨fun e => (by cases e), fun e => absurd e hh⟩⟩, rfl⟩
  simp only [Tryz.f58, go_sem,reduceIte,Nat.reduceEqDiff,Nat.reduceLT, len22]
  by_cases h1 : (n : Int) < 1
  · simp (disch := omega) only [go_sem,reduceIte,Nat.reduceEqDiff,Nat.reduceLT, h1]
    exact no fun ⟨a, _⟩ => by omega
  by_cases h8 : (8 : Int) < n
  · simp (disch := omega) only [go_sem,reduceIte,Nat.reduceEqDiff,Nat.reduceLT, h1, h8]
    exact no fun ⟨_, a, _⟩ => by omega
  simp (disch := omega) only [go_sem,reduceIte,Nat.reduceEqDiff,Nat.reduceLT, h1, h8, len22]
  refine WK_loopN (fun j α h2 => ∃ i : Nat, i + j = n ∧ h2 = h ∧ α.get 3 = some (.int .i64 n) ∧ α.get 16 = some (.slice A n c) ∧ α.get 17 = some (.int .i64 n) ∧ α.get 18 = some (.int .i64 i) ∧ ∀ k, k < i → RowOk n g f k) n
    ⟨0, by omega, rfl, by simp only [go_sem,reduceIte,Nat.reduceEqDiff,Nat.reduceLT], by simp only [go_sem,reduceIte,Nat.reduceEqDiff,Nat.reduceLT], by simp only [go_sem,reduceIte,Nat.reduceEqDiff,Nat.reduceLT], by (simp only [go_sem,reduceIte,Nat.reduceEqDiff,Nat.reduceLT]) <;> rfl, fun k hk => absurd hk (Nat.not_lt_zero k)⟩ (by omega) ?_
  rintro J j α h2 ⟨i, hij, rfl, e3, e16, e17, e18, hall⟩ hJ
  by_cases hlt : (i : Int) < n
  · obtain ⟨b, off, rfl, hld⟩ := hm.at_ (by omega)
    have l1 := hld i (by omega)
    by_cases hg : g i = n
    · have dg : decide (((g i : Nat) : Int) ≠ (n : Int)) = false := decide_eq_false (by omega)
      have hrow := hm.row i (by omega)
      obtain ⟨b2, off2, hRA, hld2⟩ := hrow.ints_at (by omega)
      rw [hRA] at l1
      have l2 := hld2 i (by omega)
      by_cases hd : f i i = 0
      · have d0 : decide (f i i ≠ 0) = false := decide_eq_false (by omega)
        simp (disch := omega) only [go_sem,reduceIte,Nat.reduceEqDiff,Nat.reduceLT, e3, e16, e17, e18, hlt, len23, idxA22, idxA23, load23, load3, Int.toNat_natCast, Nat.mul_one, l1, l2, dg, d0]
        refine WK_loopN (fun j' α h3 => ∃ i' : Nat, i' + j' = n ∧ h3 = h2 ∧ α.get 3 = some (.int .i64 n) ∧ α.get 16 = some (.slice (some ⟨b, off, none⟩) n c) ∧ α.get 17 = some (.int .i64 n) ∧ α.get 18 = some (.int .i64 i) ∧
            α.get 34 = some (.slice (some ⟨b2, off2, none⟩) (g i) (rc i)) ∧ α.get 35 = some (.int .i64 (g i)) ∧ α.get 36 = some (.int .i64 i') ∧ ∀ k, k < i' → 0 ≤ f i k ∧ f i k ≤ 1000) n
          ⟨0, by omega, rfl, by simp only [go_sem,reduceIte,Nat.reduceEqDiff,Nat.reduceLT, e3], by simp only [go_sem,reduceIte,Nat.reduceEqDiff,Nat.reduceLT, e16], by simp only [go_sem,reduceIte,Nat.reduceEqDiff,Nat.reduceLT, e17], by simp only [go_sem,reduceIte,Nat.reduceEqDiff,Nat.reduceLT, e18], by simp only [go_sem,reduceIte,Nat.reduceEqDiff,Nat.reduceLT], by simp only [go_sem,reduceIte,Nat.reduceEqDiff,Nat.reduceLT], by (simp only [go_sem,reduceIte,Nat.reduceEqDiff,Nat.reduceLT]) <;> rfl, fun k hk => absurd hk (Nat.not_lt_zero k)⟩ (by omega) ?_
        clear e3 e16 e17 e18
        rintro J' j' α h3 ⟨i', hij', rfl, e3, e16, e17, e18, e34, e35, e36, hall'⟩ hJ'
        by_cases hlt' : (i' : Int) < g i
        · have l3 := hld2 i' (by omega)
          by_cases c1 : f i i' < 0
          · simp (disch := omega) only [go_sem,reduceIte,Nat.reduceEqDiff,Nat.reduceLT, e34, e35, e36, hlt', idxA23, load3, Int.toNat_natCast, Nat.mul_one, l3, c1]
            exact no fun ⟨_, _, a⟩ => by have := (a i (by omega)).2.2 i' (by omega); omega
          · by_cases c2 : 1000 < f i i'
            · simp (disch := omega) only [go_sem,reduceIte,Nat.reduceEqDiff,Nat.reduceLT, e34, e35, e36, hlt', idxA23, load3, Int.toNat_natCast, Nat.mul_one, l3, c1, c2]
              exact no fun ⟨_, _, a⟩ => by have := (a i (by omega)).2.2 i' (by omega); omega
            · simp (disch := omega) only [go_sem,reduceIte,Nat.reduceEqDiff,Nat.reduceLT, e34, e35, e36, hlt', idxA23, load3, Int.toNat_natCast, Nat.mul_one, l3, c1, c2, wrap_i64]
              refine hJ' (n - (i' + 1)) _ _ (by omega) ⟨i' + 1, by omega, rfl, by simp only [go_sem,reduceIte,Nat.reduceEqDiff,Nat.reduceLT, e3], by simp only [go_sem,reduceIte,Nat.reduceEqDiff,Nat.reduceLT, e16], by simp only [go_sem,reduceIte,Nat.reduceEqDiff,Nat.reduceLT, e17], by simp only [go_sem,reduceIte,Nat.reduceEqDiff,Nat.reduceLT, e18], by simp only [go_sem,reduceIte,Nat.reduceEqDiff,Nat.reduceLT, e34], by simp only [go_sem,reduceIte,Nat.reduceEqDiff,Nat.reduceLT, e35], by (simp only [go_sem,reduceIte,Nat.reduceEqDiff,Nat.reduceLT]) <;> rfl, fun k hk => ?_⟩
              by_cases hk2 : k = i'
              · subst hk2; omega
              · exact hall' k (by omega)
        · simp (disch := omega) only [go_sem,reduceIte,Nat.reduceEqDiff,Nat.reduceLT, e18, e34, e35, e36, hlt', wrap_i64]
          refine hJ (n - (i + 1)) _ _ (by omega) ⟨i + 1, by omega, rfl, by simp only [go_sem,reduceIte,Nat.reduceEqDiff,Nat.reduceLT, e3], by simp only [go_sem,reduceIte,Nat.reduceEqDiff,Nat.reduceLT, e16], by simp only [go_sem,reduceIte,Nat.reduceEqDiff,Nat.reduceLT, e17], by (simp only [go_sem,reduceIte,Nat.reduceEqDiff,Nat.reduceLT]) <;> rfl, fun k hk => ?_⟩
          by_cases hk2 : k = i
          · subst hk2
            exact ⟨hg, hd, fun j hj => hall' j (by omega)⟩
          · exact hall k (by omega)
      · have d0 : decide (f i i ≠ 0) = true := decide_eq_true (by omega)
        simp (disch := omega) only [go_sem,reduceIte,Nat.reduceEqDiff,Nat.reduceLT, e3, e16, e17, e18, hlt, len23, idxA22, idxA23, load23, load3, Int.toNat_natCast, Nat.mul_one, l1, l2, dg, d0]
        exact no fun ⟨_, _, a⟩ => hd (a i (by omega)).2.1
    · have dg : decide (((g i : Nat) : Int) ≠ (n : Int)) = true := decide_eq_true (by omega)
      simp (disch := omega) only [go_sem,reduceIte,Nat.reduceEqDiff,Nat.reduceLT, e3, e16, e17, e18, hlt, len23, idxA22, load23, Int.toNat_natCast, Nat.mul_one, l1, dg]
      exact no fun ⟨_, _, a⟩ => hg (a i (by omega)).1
  · obtain rfl : i = n := by omega
    simp (disch := omega) only [go_sem,reduceIte,Nat.reduceEqDiff,Nat.reduceLT, e3, e16, e17, e18, hlt]
    exact hQ' _ _ ⟨Pres.refl _ _, ⟨true, rfl, ⟨fun _ => ⟨by omega, by omega, hall⟩, fun _ => rfl⟩⟩, rfl⟩

set_option maxHeartbeats 4000000 in
theorem refDebts_spec {G lo hi n c : Nat} {g : Nat → Nat} {f : Nat → Nat → Int} {RA : Nat → Option Addr} {rc : Nat → Nat} {A : Option Addr} {h : H} (hm : MatV h.blks lo hi n g f RA rc (.slice A n c)) (hn : n < 2147483648) :
    Spec Tryz.prog (En G) 19 [.slice A n c] h fun v h' => (∃ b, v = .bool b ∧ (b = true ↔ IsD n g f)) ∧ h' = h := by
  refine CallsE_enter (En_known (by decide)) (En_f.trans Tryz.func19) rfl ⟨Nat.le_of_ble_eq_true rfl, by decide⟩ fun Q' hQ' => ?_
  have no : ¬ IsD n g f → Q' (.bool false) h := fun hh => hQ' _ _ ⟨Pres.refl _ _, ⟨false, rfl, ⟨fun e => (by cases e), fun e => absurd e hh⟩⟩, rfl⟩
  simp only [Tryz.f19, go_sem,reduceIte,Nat.reduceEqDiff,Nat.reduceLT]
  refine WK_loopN (fun j α h2 => ∃ i : Nat, i + j = n ∧ h2 = h ∧ α.get 0 = some (.slice A n c) ∧ α.get 3 = some (.int .i64 i) ∧ ∀ k, k < i → RowOk n g f k) n
    ⟨0, by omega, rfl, by simp only [go_sem,reduceIte,Nat.reduceEqDiff,Nat.reduceLT], by (simp only [go_sem,reduceIte,Nat.reduceEqDiff,Nat.reduceLT]) <;> rfl, fun k hk => absurd hk (Nat.not_lt_zero k)⟩ (by omega) ?_
  rintro J j α h2 ⟨i, hij, rfl, e0, e3, hall⟩ hJ
  by_cases hlt : (i : Int) < n
  · obtain ⟨b, off, rfl, hld⟩ := hm.at_ (by omega)
    have l1 := hld i (by omega)
    by_cases hg : g i = n
    · have dg : decide (((g i : Nat) : Int) ≠ (n : Int)) = false := decide_eq_false (by omega)
      have hrow := hm.row i (by omega)
      obtain ⟨b2, off2, hRA, hld2⟩ := hrow.ints_at (by omega)
      rw [hRA] at l1
      have l2 := hld2 i (by omega)
      by_cases hd : f i i = 0
      · have d0 : decide (f i i ≠ 0) = false := decide_eq_false (by omega)
        simp (disch := omega) only [go_sem,reduceIte,Nat.reduceEqDiff,Nat.reduceLT, e0, e3, hlt, len22, len23, idxA22, idxA23, load23, load3, Int.toNat_natCast, Nat.mul_one, l1, l2, dg, d0]
        refine WK_loopN (fun j' α h3 => ∃ i' : Nat, i' + j' = n ∧ h3 = h2 ∧ α.get 0 = some (.slice (some ⟨b, off, none⟩) n c) ∧ α.get 3 = some (.int .i64 i) ∧ α.get 4 = some (.int .i64 i') ∧ ∀ k, k < i' → 0 ≤ f i k ∧ f i k ≤ 1000) n
          ⟨0, by omega, rfl, by simp only [go_sem,reduceIte,Nat.reduceEqDiff,Nat.reduceLT, e0], by simp only [go_sem,reduceIte,Nat.reduceEqDiff,Nat.reduceLT, e3], by (simp only [go_sem,reduceIte,Nat.reduceEqDiff,Nat.reduceLT]) <;> rfl, fun k hk => absurd hk (Nat.not_lt_zero k)⟩ (by omega) ?_
        clear e0 e3
        rintro J' j' α h3 ⟨i', hij', rfl, e0, e3, e4, hall'⟩ hJ'
        by_cases hlt' : (i' : Int) < n
        · have l3 := hld2 i' (by omega)
          simp (disch := omega) only [go_sem,reduceIte,Nat.reduceEqDiff,Nat.reduceLT, e0, e3, e4, hlt', len22, idxA22, idxA23, load23, load3, Int.toNat_natCast, Nat.mul_one, l1, l3]
          refine CallO_same in_spec (by omega) fun u hu => ?_
          subst hu
          by_cases c1 : 0 ≤ f i i' ∧ f i i' ≤ 1000
          · have dc : (decide (0 ≤ f i i') && decide (f i i' ≤ 1000)) = true := by simp [c1]
            simp (disch := omega) only [go_sem,reduceIte,Nat.reduceEqDiff,Nat.reduceLT, dc, e4, wrap_i64]
            refine hJ' (n - (i' + 1)) _ _ (by omega) ⟨i' + 1, by omega, rfl, by simp only [go_sem,reduceIte,Nat.reduceEqDiff,Nat.reduceLT, e0], by simp only [go_sem,reduceIte,Nat.reduceEqDiff,Nat.reduceLT, e3], by (simp only [go_sem,reduceIte,Nat.reduceEqDiff,Nat.reduceLT]) <;> rfl, fun k hk => ?_⟩
            by_cases hk2 : k = i'
            · subst hk2; exact c1
            · exact hall' k (by omega)
          · have dc : (decide (0 ≤ f i i') && decide (f i i' ≤ 1000)) = false := by
              rw [Bool.eq_false_iff]
              intro e
              simp at e
              exact c1 e
            simp (disch := omega) only [go_sem,reduceIte,Nat.reduceEqDiff,Nat.reduceLT, dc]
            exact no fun ⟨_, _, a⟩ => c1 ((a i (by omega)).2.2 i' (by omega))
        · simp (disch := omega) only [go_sem,reduceIte,Nat.reduceEqDiff,Nat.reduceLT, e0, e3, e4, hlt', len22, wrap_i64]
          refine hJ (n - (i + 1)) _ _ (by omega) ⟨i + 1, by omega, rfl, by simp only [go_sem,reduceIte,Nat.reduceEqDiff,Nat.reduceLT, e0], by (simp only [go_sem,reduceIte,Nat.reduceEqDiff,Nat.reduceLT]) <;> rfl, fun k hk => ?_⟩
          by_cases hk2 : k = i
          · subst hk2
            exact ⟨hg, hd, fun j hj => hall' j (by omega)⟩
          · exact hall k (by omega)
      · have d0 : decide (f i i ≠ 0) = true := decide_eq_true (by omega)
        simp (disch := omega) only [go_sem,reduceIte,Nat.reduceEqDiff,Nat.reduceLT, e0, e3, hlt, len22, len23, idxA22, idxA23, load23, load3, Int.toNat_natCast, Nat.mul_one, l1, l2, dg, d0]
        exact no fun ⟨_, _, a⟩ => hd (a i (by omega)).2.1
    · have dg : decide (((g i : Nat) : Int) ≠ (n : Int)) = true := decide_eq_true (by omega)
      simp (disch := omega) only [go_sem,reduceIte,Nat.reduceEqDiff,Nat.reduceLT, e0, e3, hlt, len22, len23, idxA22, load23, Int.toNat_natCast, Nat.mul_one, l1, dg]
      exact no fun ⟨_, _, a⟩ => hg (a i (by omega)).1
  · obtain rfl : i = n := by omega
    simp (disch := omega) only [go_sem,reduceIte,Nat.reduceEqDiff,Nat.reduceLT, e0, e3, hlt, len22]
    refine CallO_same in_spec (by omega) fun u hu => ?_
    subst hu
    simp only [go_sem,reduceIte,Nat.reduceEqDiff,Nat.reduceLT]
    refine hQ' _ _ ⟨Pres.refl _ _, ⟨_, rfl, ?_⟩, rfl⟩
    rw [Bool.and_eq_true, decide_eq_true_eq, decide_eq_true_eq]
    exact ⟨fun hh => ⟨by omega, by omega, hall⟩, fun ⟨a, b, _⟩ => by omega⟩

theorem refShape_spec {G lo hi n c n2 c2 : Nat} {A A2 : Option Addr} {g2 : Nat → Nat} {f2 : Nat → Nat → Int} {RA2 : Nat → Option Addr} {rc2 : Nat → Nat} {h : H} (hm2 : MatV h.blks lo hi n2 g2 f2 RA2 rc2 (.slice A2 n2 c2)) (hn2 : n2 < 2147483648) :
    Spec Tryz.prog (En G) 20 [.slice A n c, .slice A2 n2 c2] h fun v h' => (∃ b, v = .bool b ∧ (b = true ↔ n2 = n ∧ ∀ i, i < n2 → g2 i = n)) ∧ h' = h := by
  refine CallsE_enter (En_known (by decide)) (En_f.trans Tryz.func20) rfl ⟨Nat.le_of_ble_eq_true rfl, by decide⟩ fun Q' hQ' => ?_
  simp only [Tryz.f20, go_sem,reduceIte,Nat.reduceEqDiff,Nat.reduceLT]
  refine WK_loopN (fun j α h2 => ∃ i : Nat, i + j = n2 ∧ h2 = h ∧ α.get 0 = some (.slice A n c) ∧ α.get 1 = some (.slice A2 n2 c2) ∧ α.get 5 = some (.int .i64 i) ∧ ∀ k, k < i → g2 k = n) n2
    ⟨0, by omega, rfl, by simp only [go_sem,reduceIte,Nat.reduceEqDiff,Nat.reduceLT], by simp only [go_sem,reduceIte,Nat.reduceEqDiff,Nat.reduceLT], by (simp only [go_sem,reduceIte,Nat.reduceEqDiff,Nat.reduceLT]) <;> rfl, fun k hk => absurd hk (Nat.not_lt_zero k)⟩ (by omega) ?_
  rintro J j α h2 ⟨i, hij, rfl, e0, e1, e5, hall⟩ hJ
  by_cases hlt : (i : Int) < n2
  · obtain ⟨b, off, rfl, hld⟩ := hm2.at_ (by omega)
    have l1 := hld i (by omega)
    by_cases hg : g2 i = n
    · have dg : decide (((g2 i : Nat) : Int) ≠ (n : Int)) = false := decide_eq_false (by omega)
      simp (disch := omega) only [go_sem,reduceIte,Nat.reduceEqDiff,Nat.reduceLT, e0, e1, e5, hlt, len22, len23, idxA22, load23, Int.toNat_natCast, Nat.mul_one, l1, dg, wrap_i64]
      refine hJ (n2 - (i + 1)) _ _ (by omega) ⟨i + 1, by omega, rfl, by simp only [go_sem,reduceIte,Nat.reduceEqDiff,Nat.reduceLT, e0], by simp only [go_sem,reduceIte,Nat.reduceEqDiff,Nat.reduceLT, e1], by (simp only [go_sem,reduceIte,Nat.reduceEqDiff,Nat.reduceLT]) <;> rfl, fun k hk => ?_⟩
      by_cases hk2 : k = i
      · subst hk2; exact hg
      · exact hall k (by omega)
    · have dg : decide (((g2 i : Nat) : Int) ≠ (n : Int)) = true := decide_eq_true (by omega)
      simp (disch := omega) only [go_sem,reduceIte,Nat.reduceEqDiff,Nat.reduceLT, e0, e1, e5, hlt, len22, len23, idxA22, load23, Int.toNat_natCast, Nat.mul_one, l1, dg]
      exact hQ' _ _ ⟨Pres.refl _ _, ⟨false, rfl, ⟨fun e => (by cases e), fun ⟨_, a⟩ => absurd (a i (by omega)) hg⟩⟩, rfl⟩
  · obtain rfl : i = n2 := by omega
    simp (disch := omega) only [go_sem,reduceIte,Nat.reduceEqDiff,Nat.reduceLT, e0, e1, e5, hlt, len22]
    refine hQ' _ _ ⟨Pres.refl _ _, ⟨_, rfl, ?_⟩, rfl⟩
    rw [decide_eq_true_eq]
    exact ⟨fun hh => ⟨by omega, hall⟩, fun ⟨a, _⟩ => by omega⟩

theorem sameShape_spec {G lo hi n c n2 c2 : Nat} {A A2 : Option Addr} {g g2 : Nat → Nat} {f f2 : Nat → Nat → Int} {RA RA2 : Nat → Option Addr} {rc rc2 : Nat → Nat} {h : H} (hm : MatV h.blks lo hi n g f RA rc (.slice A n c)) (hm2 : MatV h.blks lo hi n2 g2 f2 RA2 rc2 (.slice A2 n2 c2)) (hn : n < 2147483648) :
    Spec Tryz.prog (En G) 59 [.slice A n c, .slice A2 n2 c2] h fun v h' => (∃ b, v = .bool b ∧ (b = true ↔ n2 = n ∧ ∀ i, i < n → g2 i = g i)) ∧ h' = h := by
  refine CallsE_enter (En_known (by decide)) (En_f.trans Tryz.func59) rfl ⟨Nat.le_of_ble_eq_true rfl, by decide⟩ fun Q' hQ' => ?_
  simp only [Tryz.f59, go_sem,reduceIte,Nat.reduceEqDiff,Nat.reduceLT, len22]
  by_cases hnn : n = n2
  · have dn : decide ((n : Int) ≠ (n2 : Int)) = false := decide_eq_false (by omega)
    simp only [go_sem,reduceIte,Nat.reduceEqDiff,Nat.reduceLT, dn, len22]
    refine WK_loopN (fun j α h2 => ∃ i : Nat, i + j = n ∧ h2 = h ∧ α.get 1 = some (.slice A2 n2 c2) ∧ α.get 12 = some (.slice A n c) ∧ α.get 13 = some (.int .i64 n) ∧ α.get 14 = some (.int .i64 i) ∧ ∀ k, k < i → g2 k = g k) n
      ⟨0, by omega, rfl, by simp only [go_sem,reduceIte,Nat.reduceEqDiff,Nat.reduceLT], by simp only [go_sem,reduceIte,Nat.reduceEqDiff,Nat.reduceLT], by simp only [go_sem,reduceIte,Nat.reduceEqDiff,Nat.reduceLT], by (simp only [go_sem,reduceIte,Nat.reduceEqDiff,Nat.reduceLT]) <;> rfl, fun k hk => absurd hk (Nat.not_lt_zero k)⟩ (by omega) ?_
    rintro J j α h2 ⟨i, hij, rfl, e1, e12, e13, e14, hall⟩ hJ
    by_cases hlt : (i : Int) < n
    · obtain ⟨b, off, rfl, hld⟩ := hm.at_ (by omega)
      have l1 := hld i (by omega)
      obtain ⟨b', off', rfl, hld'⟩ := hm2.at_ (by omega)
      have l2 := hld' i (by omega)
      by_cases hg : g2 i = g i
      · have dg : decide (((g i : Nat) : Int) ≠ ((g2 i : Nat) : Int)) = false := decide_eq_false (by omega)
        simp (disch := omega) only [go_sem,reduceIte,Nat.reduceEqDiff,Nat.reduceLT, e1, e12, e13, e14, hlt, len22, len23, idxA22, load23, Int.toNat_natCast, Nat.mul_one, l1, l2, dg, wrap_i64]
        refine hJ (n - (i + 1)) _ _ (by omega) ⟨i + 1, by omega, rfl, by simp only [go_sem,reduceIte,Nat.reduceEqDiff,Nat.reduceLT, e1], by simp only [go_sem,reduceIte,Nat.reduceEqDiff,Nat.reduceLT, e12], by simp only [go_sem,reduceIte,Nat.reduceEqDiff,Nat.reduceLT, e13], by (simp only [go_sem,reduceIte,Nat.reduceEqDiff,Nat.reduceLT]) <;> rfl, fun k hk => ?_⟩
        by_cases hk2 : k = i
        · subst hk2; exact hg
        · exact hall k (by omega)
      · have dg : decide (((g i : Nat) : Int) ≠ ((g2 i : Nat) : Int)) = true := decide_eq_true (by omega)
        simp (disch := omega) only [go_sem,reduceIte,Nat.reduceEqDiff,Nat.reduceLT, e1, e12, e13, e14, hlt, len22, len23, idxA22, load23, Int.toNat_natCast, Nat.mul_one, l1, l2, dg]
        exact hQ' _ _ ⟨Pres.refl _ _, ⟨false, rfl, ⟨fun e => (by cases e), fun ⟨_, a⟩ => absurd (a i (by omega)) hg⟩⟩, rfl⟩
    · obtain rfl : i = n := by omega
      simp (disch := omega) only [go_sem,reduceIte,Nat.reduceEqDiff,Nat.reduceLT, e1, e12, e13, e14, hlt, len22]
      exact hQ' _ _ ⟨Pres.refl _ _, ⟨true, rfl, ⟨fun _ => ⟨hnn.symm, hall⟩, fun _ => rfl⟩⟩, rfl⟩
  · have dn : decide ((n : Int) ≠ (n2 : Int)) = true := decide_eq_true (by omega)
    simp only [go_sem,reduceIte,Nat.reduceEqDiff,Nat.reduceLT, dn]
    exact hQ' _ _ ⟨Pres.refl _ _, ⟨false, rfl, ⟨fun e => (by cases e), fun ⟨a, _⟩ => absurd a.symm hnn⟩⟩, rfl⟩
end
end Go.Proofs.YtngpoamjhngcgaaGreatDoor.Ev


