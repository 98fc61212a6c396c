/- Balances kept, by the program and by the reference. -/
import Derived.Test.YtngpoamjhngcgaaGreatDoorPmeX4
set_option linter.unusedSimpArgs false
namespace Go.Proofs.YtngpoamjhngcgaaGreatDoor.Ev
open Go Go.Proofs
noncomputable section

/-- what is left lies between nothing and the debts -/
def BdOk (n : Nat) (f r : Nat → Nat → Int) : Prop := ∀ i j, i < n → j < n → 0 ≤ r i j ∧ r i j ≤ f i j
def BlOk (n : Nat) (f r : Nat → Nat → Int) : Prop := ∀ i, i < n → bl n f i = bl n r i

set_option maxHeartbeats 8000000 in
theorem keeps_spec {G lo hi n c c2 : Nat} {g g2 : Nat → Nat} {f r : Nat → Nat → Int} {RA RA2 : Nat → Option Addr} {rc rc2 : Nat → Nat} {A A2 : Option Addr} {h : H} (hG : G ≤ h.next) (hm : MatV h.blks lo hi n g f RA rc (.slice A n c)) (hm2 : MatV h.blks lo hi n g2 r RA2 rc2 (.slice A2 n c2)) (hhi : hi ≤ h.next) (hn : n ≤ 8) (hg : ∀ i, i < n → g i = n) (hg2 : ∀ i, i < n → g2 i = n) (hf : ∀ i j, i < n → j < n → 0 ≤ f i j ∧ f i j ≤ 1000) :
    Spec Tryz.prog (En G) 60 [.slice A n c, .slice A2 n c2] h fun v _ => ∃ b, v = .bool b ∧ (b = true ↔ BdOk n f r ∧ BlOk n f r) := by
  refine CallsE_enter (En_known (by decide)) (En_f.trans Tryz.func60) rfl ⟨Nat.le_of_ble_eq_true rfl, by decide⟩ fun Q' hQ' => ?_
  have no : ¬ BdOk n f r → Q' (.bool false) h := fun hh => hQ' _ _ ⟨Pres.refl _ _, ⟨false, rfl, ⟨fun e => (by cases e), fun e => absurd e.1 hh⟩⟩⟩
  simp only [Tryz.f60, go_sem,reduceIte,Nat.reduceEqDiff,Nat.reduceLT, len22]
  refine WK_loopN (fun j α h2 => ∃ i : Nat, i + j = n ∧ h2 = h ∧ α.get 0 = some (.slice A n c) ∧ α.get 1 = some (.slice A2 n c2) ∧ α.get 12 = some (.slice A2 n c2) ∧ α.get 13 = some (.int .i64 n) ∧ α.get 14 = some (.int .i64 i) ∧ ∀ k j, k < i → j < n → 0 ≤ r k j ∧ r k j ≤ f k j) n
    ⟨0, by omega, rfl, by simp only [go_sem,reduceIte,Nat.reduceEqDiff,Nat.reduceLT], by simp only [go_sem,reduceIte,Nat.reduceEqDiff,Nat.reduceLT], by simp only [go_sem,reduceIte,Nat.reduceEqDiff,Nat.reduceLT], by simp only [go_sem,reduceIte,Nat.reduceEqDiff,Nat.reduceLT], by (simp only [go_sem,reduceIte,Nat.reduceEqDiff,Nat.reduceLT]) <;> rfl, fun k j hk => absurd hk (Nat.not_lt_zero k)⟩ (by omega) ?_
  rintro J j α h2 ⟨i, hij, rfl, e0, e1, e12, e13, e14, hall⟩ hJ
  by_cases hlt : (i : Int) < n
  · obtain ⟨b, off, rfl, hld⟩ := hm.at_ (by omega)
    have l1 := hld i (by omega)
    obtain ⟨b2, off2, hRA, hld2⟩ := (hm.row i (by omega)).ints_at (by have := hg i (by omega); omega)
    rw [hRA] at l1
    obtain ⟨b', off', rfl, hld'⟩ := hm2.at_ (by omega)
    have l1' := hld' i (by omega)
    obtain ⟨b2', off2', hRA', hld2'⟩ := (hm2.row i (by omega)).ints_at (by have := hg2 i (by omega); omega)
    rw [hRA'] at l1'
    have hgi := hg i (by omega)
    have hgi' := hg2 i (by omega)
    simp (disch := omega) only [go_sem,reduceIte,Nat.reduceEqDiff,Nat.reduceLT, e0, e1, e12, e13, e14, hlt, len23, idxA22, load23, Int.toNat_natCast, Nat.mul_one, l1']
    refine WK_loopN (fun j' α h3 => ∃ i' : Nat, i' + j' = n ∧ h3 = h2 ∧ α.get 0 = some (.slice (some ⟨b, off, none⟩) n c) ∧ α.get 1 = some (.slice (some ⟨b', off', none⟩) n c2) ∧ α.get 5 = some (.int .i64 i) ∧ α.get 12 = some (.slice (some ⟨b', off', none⟩) n c2) ∧ α.get 13 = some (.int .i64 n) ∧ α.get 14 = some (.int .i64 i) ∧
        α.get 19 = some (.slice (some ⟨b2', off2', none⟩) (g2 i) (rc2 i)) ∧ α.get 20 = some (.int .i64 (g2 i)) ∧ α.get 21 = some (.int .i64 i') ∧ ∀ j, j < i' → 0 ≤ r i j ∧ r i j ≤ f i j) n
      ⟨0, by omega, rfl, by simp only [go_sem,reduceIte,Nat.reduceEqDiff,Nat.reduceLT, e0], by simp only [go_sem,reduceIte,Nat.reduceEqDiff,Nat.reduceLT, e1], by simp only [go_sem,reduceIte,Nat.reduceEqDiff,Nat.reduceLT], by simp only [go_sem,reduceIte,Nat.reduceEqDiff,Nat.reduceLT, e12], by simp only [go_sem,reduceIte,Nat.reduceEqDiff,Nat.reduceLT, e13], by simp only [go_sem,reduceIte,Nat.reduceEqDiff,Nat.reduceLT, e14], by simp only [go_sem,reduceIte,Nat.reduceEqDiff,Nat.reduceLT], by simp only [go_sem,reduceIte,Nat.reduceEqDiff,Nat.reduceLT], by (simp only [go_sem,reduceIte,Nat.reduceEqDiff,Nat.reduceLT]) <;> rfl, fun k hk => absurd hk (Nat.not_lt_zero k)⟩ (by omega) ?_
    clear e0 e1 e12 e13 e14
    rintro J' j' α h3 ⟨i', hij', rfl, e0, e1, e5, e12, e13, e14, e19, e20, e21, hall'⟩ hJ'
    by_cases hlt' : (i' : Int) < g2 i
    · have l3 := hld2 i' (by omega)
      have l3' := hld2' i' (by omega)
      by_cases c1 : r i i' < 0
      · simp (disch := omega) only [go_sem,reduceIte,Nat.reduceEqDiff,Nat.reduceLT, e0, e5, e19, e20, e21, hlt', idxA22, idxA23, load23, load3, Int.toNat_natCast, Nat.mul_one, l3', c1]
        exact no fun a => by have := a i i' (by omega) (by omega); omega
      · by_cases c2' : f i i' < r i i'
        · simp (disch := omega) only [go_sem,reduceIte,Nat.reduceEqDiff,Nat.reduceLT, e0, e5, e19, e20, e21, hlt', idxA22, idxA23, load23, load3, Int.toNat_natCast, Nat.mul_one, l1, l3, l3', c1, c2']
          exact no fun a => by have := a i i' (by omega) (by omega); omega
        · simp (disch := omega) only [go_sem,reduceIte,Nat.reduceEqDiff,Nat.reduceLT, e0, e5, e19, e20, e21, hlt', idxA22, idxA23, load23, load3, Int.toNat_natCast, Nat.mul_one, l1, l3, l3', c1, c2', wrap_i64]
          refine hJ' (n - (i' + 1)) _ _ (by omega) ⟨i' + 1, by omega, rfl, by simp only [go_sem,reduceIte,Nat.reduceEqDiff,Nat.reduceLT, e0], by simp only [go_sem,reduceIte,Nat.reduceEqDiff,Nat.reduceLT, e1], by simp only [go_sem,reduceIte,Nat.reduceEqDiff,Nat.reduceLT, e5], by simp only [go_sem,reduceIte,Nat.reduceEqDiff,Nat.reduceLT, e12], by simp only [go_sem,reduceIte,Nat.reduceEqDiff,Nat.reduceLT, e13], by simp only [go_sem,reduceIte,Nat.reduceEqDiff,Nat.reduceLT, e14], by simp only [go_sem,reduceIte,Nat.reduceEqDiff,Nat.reduceLT, e19], by simp only [go_sem,reduceIte,Nat.reduceEqDiff,Nat.reduceLT, e20], by (simp only [go_sem,reduceIte,Nat.reduceEqDiff,Nat.reduceLT]) <;> rfl, fun k hk => ?_⟩
          by_cases hk2 : k = i'
          · subst hk2; omega
          · exact hall' k (by omega)
    · simp (disch := omega) only [go_sem,reduceIte,Nat.reduceEqDiff,Nat.reduceLT, e14, e19, e20, e21, hlt', wrap_i64]
      refine hJ (n - (i + 1)) _ _ (by omega) ⟨i + 1, by omega, rfl, by simp only [go_sem,reduceIte,Nat.reduceEqDiff,Nat.reduceLT, e0], by simp only [go_sem,reduceIte,Nat.reduceEqDiff,Nat.reduceLT, e1], by simp only [go_sem,reduceIte,Nat.reduceEqDiff,Nat.reduceLT, e12], by simp only [go_sem,reduceIte,Nat.reduceEqDiff,Nat.reduceLT, e13], by (simp only [go_sem,reduceIte,Nat.reduceEqDiff,Nat.reduceLT]) <;> rfl, fun k j hk hj => ?_⟩
      by_cases hk2 : k = i
      · subst hk2
        exact hall' j (by omega)
      · exact hall k j (by omega) hj
  · obtain rfl : i = n := by omega
    have hb : BdOk i f r := fun k j hk hj => hall k j hk hj
    simp (disch := omega) only [go_sem,reduceIte,Nat.reduceEqDiff,Nat.reduceLT, e0, e1, e12, e13, e14, hlt]
    refine CallO_f (balances_spec hG hm hhi hn hg hf) (by omega) fun u h3 hp3 hu => ?_
    obtain ⟨rfl, hv1⟩ := hu
    have n3 := hp3.next
    try simp only [go_sem,reduceIte,Nat.reduceEqDiff,Nat.reduceLT, e1]
    refine CallO_f (balances_spec (by omega) (hm2.mono fun b _ hb => hp3.get b (by omega)) (by omega) hn hg2 fun i j hi hj => by have := hb i j hi hj; have := hf i j hi hj; omega) (by omega) fun u h4 hp4 hu => ?_
    obtain ⟨rfl, hv2⟩ := hu
    have n4 := hp4.next
    have hv1' : SlV h4.blks h2.next h3.next 1 i (intsL i (bl i f)) (.slice (some ⟨h2.next, 0, none⟩) i i) := hv1.mono fun b _ hb => hp4.get b hb
    have pr : Pres h2.next h2 h4 := hp3.trans (hp4.le (by omega))
    simp only [go_sem,reduceIte,Nat.reduceEqDiff,Nat.reduceLT, len23]
    clear e0 e1 e12 e13 e14 hJ
    refine WK_loopN (fun j α h5 => ∃ k : Nat, k + j = i ∧ h5 = h4 ∧ α.get 9 = some (.slice (some ⟨h2.next, 0, none⟩) i i) ∧ α.get 10 = some (.slice (some ⟨h3.next, 0, none⟩) i i) ∧ α.get 46 = some (.int .i64 i) ∧ α.get 47 = some (.int .i64 k) ∧ ∀ q, q < k → bl i f q = bl i r q) i
      ⟨0, by omega, rfl, by simp only [go_sem,reduceIte,Nat.reduceEqDiff,Nat.reduceLT], by simp only [go_sem,reduceIte,Nat.reduceEqDiff,Nat.reduceLT], by simp only [go_sem,reduceIte,Nat.reduceEqDiff,Nat.reduceLT], by (simp only [go_sem,reduceIte,Nat.reduceEqDiff,Nat.reduceLT]) <;> rfl, fun k hk => absurd hk (Nat.not_lt_zero k)⟩ (by omega) ?_
    rintro J j α h5 ⟨k, hkj, rfl, e9, e10, e46, e47, hall2⟩ hJ
    by_cases hlt2 : (k : Int) < i
    · have l1 := hv1'.ints_at' (j := k) (by omega)
      have l2 := hv2.ints_at' (j := k) (by omega)
      simp (disch := omega) only [go_sem,reduceIte,Nat.reduceEqDiff,Nat.reduceLT, e9, e10, e46, e47, hlt2]
      refine WK_regionT 8 ⟨by kernel_rfl, by kernel_rfl, by kernel_rfl⟩ ?_
      by_cases he : bl i f k = bl i r k
      · have de : decide (bl i f k ≠ bl i r k) = false := decide_eq_false (by omega)
        simp (disch := omega) only [go_sem,reduceIte,Nat.reduceEqDiff,Nat.reduceLT, e9, e10, e46, e47, idxA23, load3, Int.toNat_natCast, Nat.mul_one, l1, l2, de, wrap_i64]
        refine hJ (i - (k + 1)) _ _ (by omega) ⟨k + 1, by omega, rfl, by simp only [go_sem,reduceIte,Nat.reduceEqDiff,Nat.reduceLT, e9], by simp only [go_sem,reduceIte,Nat.reduceEqDiff,Nat.reduceLT, e10], by simp only [go_sem,reduceIte,Nat.reduceEqDiff,Nat.reduceLT, e46], by (simp only [go_sem,reduceIte,Nat.reduceEqDiff,Nat.reduceLT]) <;> rfl, fun q hq => ?_⟩
        by_cases hk2 : q = k
        · subst hk2; exact he
        · exact hall2 q (by omega)
      · have de : decide (bl i f k ≠ bl i r k) = true := decide_eq_true (by omega)
        simp (disch := omega) only [go_sem,reduceIte,Nat.reduceEqDiff,Nat.reduceLT, e9, e10, e46, e47, idxA23, load3, Int.toNat_natCast, Nat.mul_one, l1, l2, de]
        exact hQ' _ _ ⟨pr, ⟨false, rfl, ⟨fun e => (by cases e), fun a => absurd (a.2 k (by omega)) he⟩⟩⟩
    · obtain rfl : k = i := by omega
      simp (disch := omega) only [go_sem,reduceIte,Nat.reduceEqDiff,Nat.reduceLT, e9, e10, e46, e47, hlt2]
      exact hQ' _ _ ⟨pr, ⟨true, rfl, ⟨fun _ => ⟨hb, hall2⟩, fun _ => rfl⟩⟩⟩

theorem sm_lin {a b c d : Nat → Int} : ∀ n, sm n (fun k => a k - b k - c k + d k) = sm n a - sm n b - sm n c + sm n d
  | 0 => rfl
  | n + 1 => by
    have := sm_lin (a := a) (b := b) (c := c) (d := d) n
    simp only [sm]
    omega
/-- how much of a balance is left to tell -/
def lf (f r : Nat → Nat → Int) (i : Nat) : Nat → Int := fun k => f i k - f k i - r i k + r k i
theorem lf_all {n i : Nat} {f r : Nat → Nat → Int} : sm n (lf f r i) = bl n f i - bl n r i := by
  have := sm_lin (a := f i) (b := fun k => f k i) (c := r i) (d := fun k => r k i) n
  unfold bl lf
  omega
theorem lf_bound {n i j : Nat} {f r : Nat → Nat → Int} (hi : i < n) (hj : j ≤ n) (hn : n ≤ 8) (hf : ∀ i j, i < n → j < n → 0 ≤ f i j ∧ f i j ≤ 1000) (hb : BdOk n f r) : -16000 ≤ sm j (lf f r i) ∧ sm j (lf f r i) ≤ 16000 := by
  have e := sm_lin (a := f i) (b := fun k => f k i) (c := r i) (d := fun k => r k i) j
  have a1 := sm_bound (K := 1000) (by decide) (f := f i) j fun k hk => hf i k hi (by omega)
  have a2 := sm_bound (K := 1000) (by decide) (f := fun k => f k i) j fun k hk => hf k i (by omega) hi
  have a3 := sm_bound (K := 1000) (by decide) (f := r i) j fun k hk => by have := hf i k hi (by omega); have := hb i k hi (by omega); omega
  have a4 := sm_bound (K := 1000) (by decide) (f := fun k => r k i) j fun k hk => by have := hf k i (by omega) hi; have := hb k i (by omega) hi; omega
  unfold lf
  omega

set_option maxHeartbeats 8000000 in
set_option maxRecDepth 100000 in
theorem refRest_spec {G lo hi n c c2 : Nat} {g g2 : Nat → Nat} {f r : Nat → Nat → Int} {RA RA2 : Nat → Option Addr} {rc rc2 : Nat → Nat} {A A2 : Option Addr} {h : H} (hm : MatV h.blks lo hi n g f RA rc (.slice A n c)) (hm2 : MatV h.blks lo hi n g2 r RA2 rc2 (.slice A2 n c2)) (hn : n ≤ 8) (hg : ∀ i, i < n → g i = n) (hg2 : ∀ i, i < n → g2 i = n) (hf : ∀ i j, i < n → j < n → 0 ≤ f i j ∧ f i j ≤ 1000) (hb : BdOk n f r) :
    Spec Tryz.prog (En G) 28 [.slice A n c, .slice A2 n c2] h fun v h' => (∃ b, v = .bool b ∧ (b = true ↔ BlOk n f r)) ∧ h' = h := by
  refine CallsE_enter (En_known (by decide)) (En_f.trans Tryz.func28) rfl ⟨Nat.le_of_ble_eq_true rfl, by decide⟩ fun Q' hQ' => ?_
  simp only [Tryz.f28, go_sem,reduceIte,Nat.reduceEqDiff,Nat.reduceLT]
  refine WK_loopN (fun j α h2 => ∃ i : Nat, i + j = n ∧ h2 = h ∧ α.get 0 = some (.slice A n c) ∧ α.get 1 = some (.slice A2 n c2) ∧ α.get 5 = some (.int .i64 i) ∧ ∀ k, k < i → bl n f k = bl n r k) n
    ⟨0, by omega, rfl, by simp only [go_sem,reduceIte,Nat.reduceEqDiff,Nat.reduceLT], by simp only [go_sem,reduceIte,Nat.reduceEqDiff,Nat.reduceLT], by (simp only [go_sem,reduceIte,Nat.reduceEqDiff,Nat.reduceLT]) <;> rfl, fun k hk => absurd hk (Nat.not_lt_zero k)⟩ (by omega) ?_
  rintro J j α h2 ⟨i, hij, rfl, e0, e1, e5, hall⟩ hJ
  by_cases hlt : (i : Int) < n
  · obtain ⟨b, off, rfl, hld⟩ := hm.at_ (by omega)
    have l1 := hld i (by omega)
    obtain ⟨b2, off2, hRA, hld2⟩ := (hm.row i (by omega)).ints_at (by have := hg i (by omega); omega)
    rw [hRA] at l1
    obtain ⟨b', off', rfl, hld'⟩ := hm2.at_ (by omega)
    have l1' := hld' i (by omega)
    obtain ⟨b2', off2', hRA', hld2'⟩ := (hm2.row i (by omega)).ints_at (by have := hg2 i (by omega); omega)
    rw [hRA'] at l1'
    have hgi := hg i (by omega)
    have hgi' := hg2 i (by omega)
    simp (disch := omega) only [go_sem,reduceIte,Nat.reduceEqDiff,Nat.reduceLT, e0, e1, e5, hlt, len22]
    refine WK_loopN (fun j' α h3 => ∃ i' : Nat, i' + j' = n ∧ h3 = h2 ∧ α.get 0 = some (.slice (some ⟨b, off, none⟩) n c) ∧ α.get 1 = some (.slice (some ⟨b', off', none⟩) n c2) ∧ α.get 5 = some (.int .i64 i) ∧ α.get 6 = some (.int .i64 0) ∧ α.get 7 = some (.int .i64 i')) n
      ⟨0, by omega, rfl, by simp only [go_sem,reduceIte,Nat.reduceEqDiff,Nat.reduceLT, e0], by simp only [go_sem,reduceIte,Nat.reduceEqDiff,Nat.reduceLT, e1], by simp only [go_sem,reduceIte,Nat.reduceEqDiff,Nat.reduceLT, e5], by simp only [go_sem,reduceIte,Nat.reduceEqDiff,Nat.reduceLT], by (simp only [go_sem,reduceIte,Nat.reduceEqDiff,Nat.reduceLT]) <;> rfl⟩ (by omega) ?_
    clear e0 e1 e5
    rintro J' j' α h3 ⟨i', hij', rfl, e0, e1, e5, e6, e7⟩ hJ'
    by_cases hlt' : (i' : Int) < n
    · have l3 := hld2 i' (by omega)
      have l3' := hld2' i' (by omega)
      have hbi := hb i i' (by omega) (by omega)
      have c1 : decide (r i i' < 0) = false := decide_eq_false (by omega)
      have c3 : decide (f i i' < r i i') = false := decide_eq_false (by omega)
      simp (disch := omega) only [go_sem,reduceIte,Nat.reduceEqDiff,Nat.reduceLT, e0, e1, e5, e6, e7, hlt', len22]
      refine WK_regionT 23 ⟨by kernel_rfl, by kernel_rfl, by kernel_rfl⟩ ?_
      simp (disch := omega) only [go_sem,reduceIte,Nat.reduceEqDiff,Nat.reduceLT, e0, e1, e5, e6, e7, idxA22, idxA23, load23, load3, Int.toNat_natCast, Nat.mul_one, l1, l1', l3, l3', c1, c3, wrap_i64]
      exact hJ' (n - (i' + 1)) _ _ (by omega) ⟨i' + 1, by omega, rfl, by simp only [go_sem,reduceIte,Nat.reduceEqDiff,Nat.reduceLT, e0], by simp only [go_sem,reduceIte,Nat.reduceEqDiff,Nat.reduceLT, e1], by simp only [go_sem,reduceIte,Nat.reduceEqDiff,Nat.reduceLT, e5], by simp only [go_sem,reduceIte,Nat.reduceEqDiff,Nat.reduceLT, e6], by (simp only [go_sem,reduceIte,Nat.reduceEqDiff,Nat.reduceLT]) <;> rfl⟩
    · simp (disch := omega) only [go_sem,reduceIte,Nat.reduceEqDiff,Nat.reduceLT, e0, e1, e5, e6, e7, hlt', len22]
      refine WK_loopN (fun j' α h4 => ∃ i' : Nat, i' + j' = n ∧ h4 = h3 ∧ α.get 0 = some (.slice (some ⟨b, off, none⟩) n c) ∧ α.get 1 = some (.slice (some ⟨b', off', none⟩) n c2) ∧ α.get 5 = some (.int .i64 i) ∧ α.get 6 = some (.int .i64 (sm i' (lf f r i))) ∧ α.get 8 = some (.int .i64 i')) n
        ⟨0, by omega, rfl, by simp only [go_sem,reduceIte,Nat.reduceEqDiff,Nat.reduceLT, e0], by simp only [go_sem,reduceIte,Nat.reduceEqDiff,Nat.reduceLT, e1], by simp only [go_sem,reduceIte,Nat.reduceEqDiff,Nat.reduceLT, e5], by (simp only [go_sem,reduceIte,Nat.reduceEqDiff,Nat.reduceLT, e6]) <;> rfl, by (simp only [go_sem,reduceIte,Nat.reduceEqDiff,Nat.reduceLT]) <;> rfl⟩ (by omega) ?_
      clear e0 e1 e5 e6 e7 hlt' hij' hJ'
      rintro J' j'' α h4 ⟨q, hqj, rfl, e0, e1, e5, e6, e8⟩ hJ'
      by_cases hlt' : (q : Int) < n
      · have m1 := hld q (by omega)
        have m1' := hld' q (by omega)
        obtain ⟨b3, off3, hRA3, hld3⟩ := (hm.row q (by omega)).ints_at (by have := hg q (by omega); omega)
        rw [hRA3] at m1
        obtain ⟨b3', off3', hRA3', hld3'⟩ := (hm2.row q (by omega)).ints_at (by have := hg2 q (by omega); omega)
        rw [hRA3'] at m1'
        have hgq := hg q (by omega)
        have hgq' := hg2 q (by omega)
        have x1 := hld2 q (by omega)
        have x1' := hld2' q (by omega)
        have x2 := hld3 i (by omega)
        have x2' := hld3' i (by omega)
        have b1 := hf i q (by omega) (by omega)
        have b2x := hf q i (by omega) (by omega)
        have b3x := hb i q (by omega) (by omega)
        have b4 := hb q i (by omega) (by omega)
        have b5 := lf_bound (i := i) (j := q) (by omega) (by omega) hn hf hb
        simp (disch := omega) only [go_sem,reduceIte,Nat.reduceEqDiff,Nat.reduceLT, e0, e1, e5, e6, e8, hlt', len22]
        refine WK_regionT 31 ⟨by kernel_rfl, by kernel_rfl, by kernel_rfl⟩ ?_
        simp (maxSteps := 1000000) (disch := omega) only [go_sem,reduceIte,Nat.reduceEqDiff,Nat.reduceLT, e0, e1, e5, e6, e8, idxA22, idxA23, load23, load3, Int.toNat_natCast, Nat.mul_one, l1, l1', m1, m1', x1, x1', x2, x2', wrap_i64]
        exact hJ' (n - (q + 1)) _ _ (by omega) ⟨q + 1, by omega, rfl, by simp only [go_sem,reduceIte,Nat.reduceEqDiff,Nat.reduceLT, e0], by simp only [go_sem,reduceIte,Nat.reduceEqDiff,Nat.reduceLT, e1], by simp only [go_sem,reduceIte,Nat.reduceEqDiff,Nat.reduceLT, e5], by (simp only [go_sem,reduceIte,Nat.reduceEqDiff,Nat.reduceLT]) <;> rfl, by (simp only [go_sem,reduceIte,Nat.reduceEqDiff,Nat.reduceLT]) <;> rfl⟩
      · obtain rfl : q = n := by omega
        by_cases hz : sm q (lf f r i) = 0
        · have dz : decide (sm q (lf f r i) ≠ 0) = false := decide_eq_false (by omega)
          simp (disch := omega) only [go_sem,reduceIte,Nat.reduceEqDiff,Nat.reduceLT, e0, e1, e5, e6, e8, hlt', len22, dz, wrap_i64]
          refine hJ (q - (i + 1)) _ _ (by omega) ⟨i + 1, by omega, rfl, by simp only [go_sem,reduceIte,Nat.reduceEqDiff,Nat.reduceLT, e0], by simp only [go_sem,reduceIte,Nat.reduceEqDiff,Nat.reduceLT, e1], by (simp only [go_sem,reduceIte,Nat.reduceEqDiff,Nat.reduceLT]) <;> rfl, fun k hk => ?_⟩
          by_cases hk2 : k = i
          · subst hk2
            rw [lf_all] at hz
            omega
          · exact hall k (by omega)
        · have dz : decide (sm q (lf f r i) ≠ 0) = true := decide_eq_true (by omega)
          simp (disch := omega) only [go_sem,reduceIte,Nat.reduceEqDiff,Nat.reduceLT, e0, e1, e5, e6, e8, hlt', len22, dz]
          refine hQ' _ _ ⟨Pres.refl _ _, ⟨false, rfl, ⟨fun e => (by cases e), fun a => ?_⟩⟩, rfl⟩
          have := a i (by omega)
          rw [lf_all] at hz
          omega
  · obtain rfl : i = n := by omega
    simp (disch := omega) only [go_sem,reduceIte,Nat.reduceEqDiff,Nat.reduceLT, e0, e1, e5, hlt, len22]
    exact hQ' _ _ ⟨Pres.refl _ _, ⟨true, rfl, ⟨fun _ => hall, fun _ => rfl⟩⟩, rfl⟩
end
end Go.Proofs.YtngpoamjhngcgaaGreatDoor.Ev


