/- Sums; Cancel and Prices. -/
import Derived.Test.YtngpoamjhngcgaaGreatDoorPmdQ7
import Derived.Test.YtngpoamjhngcgaaGreatDoorPmeD6
set_option linter.unusedVariables false
set_option linter.unusedSimpArgs false
namespace Go.Proofs.YtngpoamjhngcgaaGreatDoor.Ev
open Go Go.Proofs
noncomputable section

theorem sm_abs {n : Nat} {f : Nat → Int} : ∀ m, m ≤ n → (∀ i, i < n → -1000000 ≤ f i ∧ f i ≤ 1000000) → -(m * 1000000 : Int) ≤ sm m f ∧ sm m f ≤ m * 1000000
  | 0, _, _ => by simp [sm]
  | m + 1, h, hf => by
    have h1 := sm_abs m (by omega) hf
    have h2 := hf m (by omega)
    rw [sm]
    omega
set_option maxHeartbeats 4000000 in
theorem sum_spec {G lo hi n c : Nat} {A : Option Addr} {f : Nat → Int} {h : H} (hv : SlV h.blks lo hi 1 n (intsL n f) (.slice A n c)) (hn : n ≤ 16) (hf : ∀ i, i < n → -1000000 ≤ f i ∧ f i ≤ 1000000) :
    Spec Tryz.prog (En G) 65 [.slice A n c] h fun v h' => v = .int .i64 (sm n f) ∧ h' = h := by
  refine CallsE_enter (En_known (by decide)) (En_f.trans Tryz.func65) rfl ⟨Nat.le_of_ble_eq_true rfl, by decide⟩ fun Q' hQ' => ?_
  simp only [Tryz.f65, go_sem,reduceIte,Nat.reduceEqDiff,Nat.reduceLT, len23]
  refine WK_loopN (fun j α h2 => ∃ i : Nat, i + j = n ∧ h = h2 ∧ α.get 3 = some (.int .i64 (sm i f)) ∧ α.get 6 = some (.slice A n c) ∧ α.get 7 = some (.int .i64 (n : Int)) ∧ α.get 8 = some (.int .i64 (i : Int))) n
    ⟨0, by omega, rfl, by (simp only [go_sem,reduceIte,Nat.reduceEqDiff,Nat.reduceLT]) <;> rfl, by (simp only [go_sem,reduceIte,Nat.reduceEqDiff,Nat.reduceLT]) <;> rfl, by (simp only [go_sem,reduceIte,Nat.reduceEqDiff,Nat.reduceLT]) <;> rfl, by (simp only [go_sem,reduceIte,Nat.reduceEqDiff,Nat.reduceLT]) <;> rfl⟩ (by omega) ?_
  rintro J j α h2 ⟨i, hij, rfl, e3, e6, e7, e8⟩ hJ
  by_cases hlt : (i : Int) < (n : Int)
  · obtain ⟨b, off, rfl, hld⟩ := hv.ints_at (by omega)
    have l1 := hld i (by omega)
    have a1 := sm_abs (n := n) i (by omega) hf
    have a2 := hf i (by omega)
    simp (disch := omega) only [go_sem,reduceIte,Nat.reduceEqDiff,Nat.reduceLT, e3, e6, e7, e8, hlt, idxA23, Int.toNat_natCast, Nat.mul_one, load3, l1, wrap_i64]
    exact hJ (j - 1) _ _ (by omega) ⟨i + 1, by omega, rfl, by (simp only [go_sem,reduceIte,Nat.reduceEqDiff,Nat.reduceLT]) <;> rfl, by simp only [go_sem,reduceIte,Nat.reduceEqDiff,Nat.reduceLT, e6], by simp only [go_sem,reduceIte,Nat.reduceEqDiff,Nat.reduceLT, e7], by (simp only [go_sem,reduceIte,Nat.reduceEqDiff,Nat.reduceLT]) <;> rfl⟩
  · obtain rfl : i = n := by omega
    simp (disch := omega) only [go_sem,reduceIte,Nat.reduceEqDiff,Nat.reduceLT, e3, e6, e7, e8, hlt]
    exact hQ' _ _ ⟨Pres.refl _ _, rfl, rfl⟩
set_option maxHeartbeats 4000000 in
theorem total_spec {G lo hi n c : Nat} {A : Option Addr} {f : Nat → Int} {h : H} (hv : SlV h.blks lo hi 1 n (intsL n f) (.slice A n c)) (hn : n ≤ 16) (hf : ∀ i, i < n → -1000000 ≤ f i ∧ f i ≤ 1000000) :
    Spec Tryz.prog (En G) 54 [.slice A n c] h fun v h' => v = .int .i64 (sm n f) ∧ h' = h := by
  refine CallsE_enter (En_known (by decide)) (En_f.trans Tryz.func54) rfl ⟨Nat.le_of_ble_eq_true rfl, by decide⟩ fun Q' hQ' => ?_
  simp only [Tryz.f54, go_sem,reduceIte,Nat.reduceEqDiff,Nat.reduceLT]
  refine WK_loopN (fun j α h2 => ∃ i : Nat, i + j = n ∧ h = h2 ∧ α.get 0 = some (.slice A n c) ∧ α.get 3 = some (.int .i64 (sm i f)) ∧ α.get 4 = some (.int .i64 (i : Int))) n
    ⟨0, by omega, rfl, by (simp only [go_sem,reduceIte,Nat.reduceEqDiff,Nat.reduceLT]) <;> rfl, by (simp only [go_sem,reduceIte,Nat.reduceEqDiff,Nat.reduceLT]) <;> rfl, by (simp only [go_sem,reduceIte,Nat.reduceEqDiff,Nat.reduceLT]) <;> rfl⟩ (by omega) ?_
  rintro J j α h2 ⟨i, hij, rfl, e0, e3, e4⟩ hJ
  by_cases hlt : (i : Int) < (n : Int)
  · obtain ⟨b, off, rfl, hld⟩ := hv.ints_at (by omega)
    have l1 := hld i (by omega)
    have a1 := sm_abs (n := n) i (by omega) hf
    have a2 := hf i (by omega)
    simp (disch := omega) only [go_sem,reduceIte,Nat.reduceEqDiff,Nat.reduceLT, e0, e3, e4, hlt, len23, idxA23, Int.toNat_natCast, Nat.mul_one, load3, l1, wrap_i64]
    exact hJ (j - 1) _ _ (by omega) ⟨i + 1, by omega, rfl, by simp only [go_sem,reduceIte,Nat.reduceEqDiff,Nat.reduceLT, e0], by (simp only [go_sem,reduceIte,Nat.reduceEqDiff,Nat.reduceLT]) <;> rfl, by (simp only [go_sem,reduceIte,Nat.reduceEqDiff,Nat.reduceLT]) <;> rfl⟩
  · obtain rfl : i = n := by omega
    simp (disch := omega) only [go_sem,reduceIte,Nat.reduceEqDiff,Nat.reduceLT, e0, e3, e4, len23, hlt]
    exact hQ' _ _ ⟨Pres.refl _ _, rfl, rfl⟩
theorem MatV.rowS {B : Tr Blk} {lo hi n c i : Nat} {g : Nat → Nat} {f : Nat → Nat → Int} {RA : Nat → Option Addr} {rc : Nat → Nat} {A : Option Addr} (m : MatV B lo hi n g f RA rc (.slice A n c)) (hg : ∀ i, i < n → g i = n) (hi' : i < n) :
    ∃ b off, A = some ⟨b, off, none⟩ ∧ loadv B b (off + i) = some (.slice (RA i) n (rc i)) ∧ SlV B lo hi 1 n (intsL n (f i)) (.slice (RA i) n (rc i)) := by
  obtain ⟨b, off, hA, hld⟩ := m.at_ (by omega)
  have hr := m.row i hi'
  have := hld i hi'
  rw [hg i hi'] at hr this
  exact ⟨b, off, hA, this, hr⟩
set_option maxHeartbeats 4000000 in
theorem refSum_spec {G lo hi n c : Nat} {g : Nat → Nat} {f : Nat → Nat → Int} {RA : Nat → Option Addr} {rc : Nat → Nat} {A : Option Addr} {h : H} (hm : MatV h.blks lo hi n g f RA rc (.slice A n c)) (hg : ∀ i, i < n → g i = n) (hn : n ≤ 8) (hf : ∀ i j, i < n → j < n → -100000 ≤ f i j ∧ f i j ≤ 100000) :
    Spec Tryz.prog (En G) 26 [.slice A n c] h fun v h' => v = .int .i64 (tot n f) ∧ h' = h := by
  refine CallsE_enter (En_known (by decide)) (En_f.trans Tryz.func26) rfl ⟨Nat.le_of_ble_eq_true rfl, by decide⟩ fun Q' hQ' => ?_
  have hrow : ∀ i, i < n → -1000000 ≤ sm n (f i) ∧ sm n (f i) ≤ 1000000 := fun i hi => by
    have key : ∀ m, m ≤ n → -(m * 100000 : Int) ≤ sm m (f i) ∧ sm m (f i) ≤ m * 100000 := by
      intro m
      induction m with
      | zero => intro _; simp [sm]
      | succ m ih =>
        intro h
        have h1 := ih (by omega)
        have h2 := hf i m hi (by omega)
        rw [sm]
        omega
    have := key n (Nat.le_refl _)
    omega
  simp only [Tryz.f26, go_sem,reduceIte,Nat.reduceEqDiff,Nat.reduceLT]
  refine WK_loopN (fun j α h2 => ∃ i : Nat, i + j = n ∧ h = h2 ∧ α.get 0 = some (.slice A n c) ∧ α.get 3 = some (.int .i64 (sm i fun i => sm n (f i))) ∧ α.get 4 = some (.int .i64 (i : Int))) n
    ⟨0, by omega, rfl, by (simp only [go_sem,reduceIte,Nat.reduceEqDiff,Nat.reduceLT]) <;> rfl, by (simp only [go_sem,reduceIte,Nat.reduceEqDiff,Nat.reduceLT]) <;> rfl, by (simp only [go_sem,reduceIte,Nat.reduceEqDiff,Nat.reduceLT]) <;> rfl⟩ (by omega) ?_
  rintro J j α h2 ⟨i, hij, rfl, e0, e3, e4⟩ hJ
  by_cases hlt : (i : Int) < (n : Int)
  · obtain ⟨b, off, rfl, l1, hr⟩ := hm.rowS hg (show i < n by omega)
    have a1 := sm_abs (n := n) (f := fun i => sm n (f i)) i (by omega) hrow
    have a2 := hrow i (by omega)
    simp (disch := omega) only [go_sem,reduceIte,Nat.reduceEqDiff,Nat.reduceLT, e0, e3, e4, hlt, len22, idxA22, Int.toNat_natCast, Nat.mul_one, load23, l1]
    refine CallO_same (Q := fun v => v = .int .i64 (sm n (f i))) (total_spec hr (by omega) fun j hj => by have := hf i j (by omega) hj; omega) (by omega) fun v hv => ?_
    subst hv
    simp (disch := omega) only [go_sem,reduceIte,Nat.reduceEqDiff,Nat.reduceLT, e0, e3, e4, wrap_i64]
    exact hJ (j - 1) _ _ (by omega) ⟨i + 1, by omega, rfl, by simp only [go_sem,reduceIte,Nat.reduceEqDiff,Nat.reduceLT, e0], by (simp only [go_sem,reduceIte,Nat.reduceEqDiff,Nat.reduceLT]) <;> rfl, by (simp only [go_sem,reduceIte,Nat.reduceEqDiff,Nat.reduceLT]) <;> rfl⟩
  · obtain rfl : i = n := by omega
    simp (disch := omega) only [go_sem,reduceIte,Nat.reduceEqDiff,Nat.reduceLT, e0, e3, e4, len22, hlt]
    exact hQ' _ _ ⟨Pres.refl _ _, rfl, rfl⟩

theorem IsD.dok {n : Nat} {g : Nat → Nat} {d : Nat → Nat → Int} (h : IsD n g d) : DOk n d ∧ (∀ i, i < n → g i = n) ∧ n ≤ 8 ∧ 0 < n :=
  ⟨⟨fun i j hi hj => (h.2.2 i hi).2.2 j hj, fun i hi => (h.2.2 i hi).2.1⟩, fun i hi => (h.2.2 i hi).1, h.2.1, h.1⟩
theorem tot_part {n : Nat} {d r : Nat → Nat → Int} (m : Nat) : sm m (fun i => sm n (d i) - sm n (r i)) = sm m (fun i => sm n (d i)) - sm m fun i => sm n (r i) := sm_sub m

set_option maxRecDepth 100000 in
set_option maxHeartbeats 16000000 in
theorem Cancel_spec {G lo hi n c : Nat} {g : Nat → Nat} {d : Nat → Nat → Int} {RA : Nat → Option Addr} {rc : Nat → Nat} {A : Option Addr} {h : H} (hG : G ≤ h.next) (hm : MatV h.blks lo hi n g d RA rc (.slice A n c)) (hhi : hi ≤ h.next) (hn : n ≤ 9) :
    Spec Tryz.prog (En G) 24 [.slice A n c] h fun v h' => (¬ IsD n g d ∧ v = .tuple #[.slice none 0 0, .int .i64 0, .int .i64 1]) ∨ (IsD n g d ∧ ∃ (r : Nat → Nat → Int) (B : Nat) (R O rc' : Nat → Nat), v = .tuple #[.slice (some ⟨B, 0, none⟩) n n, .int .i64 (tot n d - tot n r), .int .i64 0] ∧
      MatW h'.blks h.next h'.next n n r R O rc' (.slice (some ⟨B, 0, none⟩) n n) ∧ Can d r n ∧ ∀ k, k < n → bl n d k = bl n r k) := by
  refine CallsE_enter (En_known (by decide)) (En_f.trans Tryz.func24) rfl ⟨Nat.le_of_ble_eq_true rfl, by decide⟩ fun Q' hQ' => ?_
  simp only [Tryz.f24, go_sem,reduceIte,Nat.reduceEqDiff,Nat.reduceLT]
  refine CallO_same (areDebts_spec hm (by omega)) (by omega) fun u hu => ?_
  obtain ⟨b, rfl, hb⟩ := hu
  cases b with
  | false =>
    have hD : ¬ IsD n g d := fun a => by simpa using hb.2 a
    simp only [go_sem,reduceIte,Nat.reduceEqDiff,Nat.reduceLT]
    exact hQ' _ _ ⟨Pres.refl _ _, .inl ⟨hD, rfl⟩⟩
  | true =>
  have hD := hb.1 rfl
  obtain ⟨hdok, hg, hn8, h0⟩ := hD.dok
  simp only [go_sem,reduceIte,Nat.reduceEqDiff,Nat.reduceLT]
  refine CallO_f (cancelled_spec hG hm hg hhi hn8 h0 hdok) (by omega) fun u h1 p1 ⟨r, R, O, rc', hu, hM, hcan, hbl⟩ => ?_
  subst hu
  have n1 := p1.next
  obtain ⟨T, hT⟩ : ∃ T, T = h.next := ⟨_, rfl⟩
  rw [← hT] at hM ⊢
  have hm1 := hm.mono (B' := h1.blks) fun b _ hb => p1.get b (by omega)
  have hrok := hcan.bd.ok hdok
  simp only [go_sem,reduceIte,Nat.reduceEqDiff,Nat.reduceLT, len22]
  have hdr : ∀ i, i < n → -1000000 ≤ sm n (d i) - sm n (r i) ∧ sm n (d i) - sm n (r i) ≤ 1000000 := fun i hi => by
    have h1 := sm_bound (K := 1000) (by omega) (f := d i) n fun j hj => hdok.1 i j hi hj
    have h2 := sm_bound (K := 1000) (by omega) (f := r i) n fun j hj => hrok i j hi hj
    omega
  refine WK_loopN (fun j α h2 => ∃ i : Nat, i + j = n ∧ h1 = h2 ∧ α.get 5 = some (.slice (some ⟨T, 0, none⟩) n n) ∧ α.get 6 = some (.int .i64 (sm i fun i => sm n (d i) - sm n (r i))) ∧ α.get 14 = some (.slice A n c) ∧ α.get 15 = some (.int .i64 (n : Int)) ∧ α.get 16 = some (.int .i64 (i : Int))) n
    ⟨0, by omega, rfl, by simp only [go_sem,reduceIte,Nat.reduceEqDiff,Nat.reduceLT], by (simp only [go_sem,reduceIte,Nat.reduceEqDiff,Nat.reduceLT]) <;> rfl, by (simp only [go_sem,reduceIte,Nat.reduceEqDiff,Nat.reduceLT]) <;> rfl, by (simp only [go_sem,reduceIte,Nat.reduceEqDiff,Nat.reduceLT]) <;> rfl, by (simp only [go_sem,reduceIte,Nat.reduceEqDiff,Nat.reduceLT]) <;> rfl⟩ (by omega) ?_
  rintro J j α h2 ⟨i, hij, rfl, e5, e6, e14, e15, e16⟩ hJ
  by_cases hlt : (i : Int) < (n : Int)
  · obtain ⟨bd, od, rfl, l1, hr1⟩ := hm1.rowS hg (show i < n by omega)
    obtain ⟨br, orr, he, l2, hr2⟩ := hM.mat.rowS (fun _ _ => rfl) (show i < n by omega)
    injection he with he
    injection he with e1 e2
    subst e1; subst e2
    have a1 := sm_abs (n := n) (f := fun i => sm n (d i) - sm n (r i)) i (by omega) hdr
    have a2 := hdr i (by omega)
    have b1 := sm_bound (K := 1000) (by omega) (f := d i) n fun j hj => hdok.1 i j (by omega) hj
    have b2 := sm_bound (K := 1000) (by omega) (f := r i) n fun j hj => hrok i j (by omega) hj
    simp (disch := omega) only [go_sem,reduceIte,Nat.reduceEqDiff,Nat.reduceLT, e5, e6, e14, e15, e16, hlt, idxA22, Int.toNat_natCast, Nat.mul_one, load23, l1]
    refine WK_regionT 7 ⟨by kernel_rfl, by kernel_rfl, by kernel_rfl⟩ ?_
    simp (disch := omega) only [go_sem,reduceIte,Nat.reduceEqDiff,Nat.reduceLT, e5, e6, e14, e15, e16]
    refine CallO_same (Q := fun v => v = .int .i64 (sm n (d i))) (sum_spec (h := st true h1) (lo := lo) (hi := hi) (f := d i) hr1 (by omega) fun j hj => by have := hdok.1 i j (by omega) hj; omega) (by omega) fun v hv => ?_
    subst hv
    simp (disch := omega) only [go_sem,reduceIte,Nat.reduceEqDiff,Nat.reduceLT, e5, e6, e14, e15, e16, idxA22, Int.toNat_natCast, Nat.mul_one, load23, l2]
    refine CallO_same (Q := fun v => v = .int .i64 (sm n (r i))) (sum_spec (f := r i) hr2 (by omega) fun j hj => by have := hrok i j (by omega) hj; omega) (by omega) fun v hv => ?_
    subst hv
    simp (disch := omega) only [go_sem,reduceIte,Nat.reduceEqDiff,Nat.reduceLT, e5, e6, e14, e15, e16, wrap_i64]
    exact hJ (j - 1) _ _ (by omega) ⟨i + 1, by omega, rfl, by simp only [go_sem,reduceIte,Nat.reduceEqDiff,Nat.reduceLT, e5], by (simp only [go_sem,reduceIte,Nat.reduceEqDiff,Nat.reduceLT]) <;> rfl, by simp only [go_sem,reduceIte,Nat.reduceEqDiff,Nat.reduceLT, e14], by simp only [go_sem,reduceIte,Nat.reduceEqDiff,Nat.reduceLT, e15], by (simp only [go_sem,reduceIte,Nat.reduceEqDiff,Nat.reduceLT]) <;> rfl⟩
  · obtain rfl : i = n := by omega
    have ht : sm i (fun k => sm i (d k) - sm i (r k)) = tot i d - tot i r := tot_part i
    rw [ht] at e6
    simp (disch := omega) only [go_sem,reduceIte,Nat.reduceEqDiff,Nat.reduceLT, e5, e6, e14, e15, e16, hlt]
    exact hQ' _ _ ⟨by rw [← hT]; exact hT ▸ p1, .inr ⟨hD, r, T, R, O, rc', rfl, by rw [← hT]; exact hM, hcan, hbl⟩⟩

set_option maxRecDepth 100000 in
set_option maxHeartbeats 16000000 in
theorem Prices_spec {G lo hi n c : Nat} {g : Nat → Nat} {d : Nat → Nat → Int} {RA : Nat → Option Addr} {rc : Nat → Nat} {A : Option Addr} {h : H} (hG : G ≤ h.next) (hm : MatV h.blks lo hi n g d RA rc (.slice A n c)) (hhi : hi ≤ h.next) (hn : n ≤ 9) :
    Spec Tryz.prog (En G) 25 [.slice A n c] h fun v h' => (¬ IsD n g d ∧ v = .tuple #[.slice none 0 0, .int .i64 1]) ∨ (IsD n g d ∧ ∃ (r : Nat → Nat → Int) (p : Nat → Int) (B : Nat), v = .tuple #[.slice (some ⟨B, 0, none⟩) n n, .int .i64 0] ∧
      SlV h'.blks h.next h'.next 1 n (intsL n p) (.slice (some ⟨B, 0, none⟩) n n) ∧ Can d r n ∧ (∀ k, k < n → bl n d k = bl n r k) ∧ Pot d r n p ∧ PrOk n p) := by
  refine CallsE_enter (En_known (by decide)) (En_f.trans Tryz.func25) rfl ⟨Nat.le_of_ble_eq_true rfl, by decide⟩ fun Q' hQ' => ?_
  simp only [Tryz.f25, go_sem,reduceIte,Nat.reduceEqDiff,Nat.reduceLT]
  refine CallO_same (areDebts_spec hm (by omega)) (by omega) fun u hu => ?_
  obtain ⟨b, rfl, hb⟩ := hu
  cases b with
  | false =>
    have hD : ¬ IsD n g d := fun a => by simpa using hb.2 a
    simp only [go_sem,reduceIte,Nat.reduceEqDiff,Nat.reduceLT]
    exact hQ' _ _ ⟨Pres.refl _ _, .inl ⟨hD, rfl⟩⟩
  | true =>
  have hD := hb.1 rfl
  obtain ⟨hdok, hg, hn8, h0⟩ := hD.dok
  simp only [go_sem,reduceIte,Nat.reduceEqDiff,Nat.reduceLT]
  refine WK_regionT 11 ⟨by kernel_rfl, by kernel_rfl, by kernel_rfl⟩ ?_
  simp only [go_sem,reduceIte,Nat.reduceEqDiff,Nat.reduceLT]
  refine CallO_spec (cancelled_spec (h := st true h) (lo := lo) (hi := hi) hG hm hg hhi hn8 h0 hdok) (by omega) (fun _ _ _ hq => hq) fun u h1 p1 ⟨r, R, O, rc', hu, hM, hcan, hbl⟩ => ?_
  subst hu
  have n1 := p1.next
  have hm1 := hm.mono (B' := h1.blks) fun b _ hb => p1.get b (by omega)
  have hM : MatW h1.blks h.next h1.next n n r R O rc' (.slice (some ⟨h.next, 0, none⟩) n n) := hM
  have est : (st true h).next = h.next := rfl
  rw [est]
  simp only [go_sem,reduceIte,Nat.reduceEqDiff,Nat.reduceLT, len22]
  refine At_make (k1 := .i64) (k2 := .i64) (l := n) (c := n) u23 i3 zero3 (by rw [size3, bytes3]; rfl) (by simp only [go_sem,reduceIte,Nat.reduceEqDiff,Nat.reduceLT]) (by simp only [go_sem,reduceIte,Nat.reduceEqDiff,Nat.reduceLT]) (Nat.le_refl _) (by rw [size3]; omega) (by omega) (by omega) fun h2 hn2 => ?_
  have ez : zeros (Value.int .i64 0).cells.toList n = intsL n fun _ => 0 := zeros_ints n
  rw [size3, ez] at hn2
  have n2 := hn2.next
  have s2 := hn2.slv (n := n) (c := n) (by rw [intsL_len]; simp)
  have pr2 : Pres h.next h h2 := p1.trans (hn2.pres (by omega))
  simp only [go_sem,reduceIte,Nat.reduceEqDiff,Nat.reduceLT]
  refine CallO_spec (cheapest_spec (h := st true h2) (lo := lo) (hi := hi) (lo2 := h.next) (hi2 := h1.next) (lo3 := h1.next) (hi3 := h2.next) (st := fun _ => 0) (r := r) (by show G ≤ h2.next; omega) (hm.mono fun b _ hb => pr2.get b (by omega)) hg (hM.mat.mono fun b _ hb => by show h2.blks.get b = _; rw [hn2.get, if_neg (by omega)]) (fun _ _ => rfl) s2 (by show hi ≤ h2.next; omega) (by show h1.next ≤ h2.next; omega) (Nat.le_refl _) hn8 h0 (fun v _ => .inl rfl) hcan hdok.2) (by omega) (fun _ _ _ hq => hq) fun u h3 p3 ⟨bc, bb, cc, bf, T, hu, hch, hsc, hsb⟩ => ?_
  subst hu
  obtain ⟨hpot, hpr⟩ := hch.pot fun _ _ => rfl
  simp only [go_sem,reduceIte,Nat.reduceEqDiff,Nat.reduceLT]
  exact hQ' _ _ ⟨pr2.trans (p3.le (by omega)), .inr ⟨hD, r, cc, bc, rfl, hsc.wide (by show h.next ≤ h2.next; omega) (Nat.le_refl _), hcan, hbl, hpot, hpr⟩⟩
end
end Go.Proofs.YtngpoamjhngcgaaGreatDoor.Ev

