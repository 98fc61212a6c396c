/- Rings are cancelled. -/
import Derived.Test.YtngpoamjhngcgaaGreatDoorPmeD5
set_option linter.unusedVariables false
set_option linter.unusedSimpArgs false
namespace Go.Proofs.YtngpoamjhngcgaaGreatDoor.Ev
open Go Go.Proofs
noncomputable section

theorem bl_bd {n v : Nat} {f : Nat → Nat → Int} (hn : n ≤ 8) (hv : v < n) (hf : ∀ i j, i < n → j < n → 0 ≤ f i j ∧ f i j ≤ 1000) : -8000 ≤ bl n f v ∧ bl n f v ≤ 8000 := by
  have h1 := sm_bound (K := 1000) (by omega) (f := f v) n fun j hj => hf v j hv hj
  have h2 := sm_bound (K := 1000) (by omega) (f := fun i => f i v) n fun j hj => hf j v hj hv
  unfold bl
  omega
/-- debts of a market -/
def DOk (n : Nat) (d : Nat → Nat → Int) : Prop := (∀ i j, i < n → j < n → 0 ≤ d i j ∧ d i j ≤ 1000) ∧ ∀ i, i < n → d i i = 0
theorem Bd.ok {n : Nat} {d r : Nat → Nat → Int} (hd : DOk n d) (h : Bd d r n) : ∀ i j, i < n → j < n → 0 ≤ r i j ∧ r i j ≤ 1000 := fun i j hi hj => by
  have h1 := h i j hi hj
  have h2 := hd.1 i j hi hj
  omega
set_option maxRecDepth 100000 in
set_option maxHeartbeats 64000000 in
theorem cancelled_spec {G lo hi n c : Nat} {g : Nat → Nat} {d : Nat → Nat → Int} {RA : Nat → Option Addr} {rc : Nat → Nat} {A : Option Addr} {h : H} (hG : G ≤ h.next) (hm : MatV h.blks lo hi n g d RA rc (.slice A n c)) (hg : ∀ i, i < n → g i = n) (hhi : hi ≤ h.next) (hn : n ≤ 8) (h0 : 0 < n) (hd : DOk n d) :
    Spec Tryz.prog (En G) 64 [.slice A n c] h fun v h' => ∃ (r : Nat → Nat → Int) (R O rc' : Nat → Nat), v = .slice (some ⟨h.next, 0, none⟩) n n ∧ MatW h'.blks h.next h'.next n n r R O rc' v ∧ Can d r n ∧ ∀ k, k < n → bl n d k = bl n r k := by
  refine CallsE_enter (En_known (by decide)) (En_f.trans Tryz.func64) rfl ⟨Nat.le_of_ble_eq_true rfl, by decide⟩ fun Q' hQ' => ?_
  simp only [Tryz.f64, go_sem,reduceIte,Nat.reduceEqDiff,Nat.reduceLT]
  refine CallO_f (copied_spec hG hm hg hhi hn h0) (by omega) fun u h1 p1 ⟨R, O, rc', hu, hM⟩ => ?_
  subst hu
  have n1 := p1.next
  obtain ⟨T, hT⟩ : ∃ T, T = h.next := ⟨_, rfl⟩
  rw [← hT] at hM ⊢
  simp only [go_sem,reduceIte,Nat.reduceEqDiff,Nat.reduceLT, len22]
  have tT : T < h1.next := slv_lt hM.top h0
  refine WK_loopN (fun j α h2 => ∃ i : Nat, i + j = n ∧ Wri T h1.next h1 h2 ∧ MatW h2.blks T h1.next n n (fun a b => if a < i then 0 else d a b) R O rc' (.slice (some ⟨T, 0, none⟩) n n) ∧ α.get 0 = some (.slice A n c) ∧ α.get 3 = some (.slice (some ⟨T, 0, none⟩) n n) ∧ α.get 15 = some (.slice (some ⟨T, 0, none⟩) n n) ∧ α.get 16 = some (.int .i64 (n : Int)) ∧ α.get 17 = some (.int .i64 (i : Int))) n
    ⟨0, by omega, Wri.refl, hM.congr fun i j _ _ => (if_neg (Nat.not_lt_zero i)).symm, by simp only [go_sem,reduceIte,Nat.reduceEqDiff,Nat.reduceLT], by simp only [go_sem,reduceIte,Nat.reduceEqDiff,Nat.reduceLT], by (simp only [go_sem,reduceIte,Nat.reduceEqDiff,Nat.reduceLT]) <;> rfl, by (simp only [go_sem,reduceIte,Nat.reduceEqDiff,Nat.reduceLT]) <;> rfl, by (simp only [go_sem,reduceIte,Nat.reduceEqDiff,Nat.reduceLT]) <;> rfl⟩ (by omega) ?_
  rintro J j α h2 ⟨i, hij, wr, hM2, e0, e3, e15, e16, e17⟩ hJ
  by_cases hlt : (i : Int) < (n : Int)
  · have hin : i < n := by omega
    obtain ⟨b', off', he, hld⟩ := hM2.at_ h0
    injection he with he
    injection he with e1 e2
    subst e1; subst e2
    have l1 := hld i hin
    obtain ⟨w1, w2, ci, si, w3, w4, _⟩ := hM2.row i hin
    have ez : zeros (Value.int .i64 0).cells.toList n = intsL n fun _ => 0 := zeros_ints n
    simp (disch := omega) only [go_sem,reduceIte,Nat.reduceEqDiff,Nat.reduceLT, e0, e3, e15, e16, e17, hlt, idxA22, load23, Int.toNat_natCast, Nat.mul_one, l1]
    refine At_clear0 (b := R i) (off := O i) (m := n) (sc := rc' i) u23 i3 zero3 rfl (by simp only [go_sem,reduceIte,Nat.reduceEqDiff,Nat.reduceLT]) h0 (by rw [ez]; exact intsL_one) w3 (by rw [ez, intsL_len]; exact w4) (by rw [En_G]; omega) fun h3 hs3 => ?_
    rw [ez] at hs3
    have hM3 := (hM2.over hin hs3).congr (g := fun a b => if a < i + 1 then 0 else d a b) fun a b _ _ => by
      by_cases c1 : a = i
      · rw [if_pos c1, if_pos (by omega)]
      · by_cases c2 : a < i
        · rw [if_neg c1, if_pos c2, if_pos (by omega)]
        · rw [if_neg c1, if_neg c2, if_neg (by omega)]
    simp (disch := omega) only [go_sem,reduceIte,Nat.reduceEqDiff,Nat.reduceLT, e17, wrap_i64]
    exact hJ (j - 1) _ _ (by omega) ⟨i + 1, by omega, wr.trans (hs3.wri w1 w2), hM3, by simp only [go_sem,reduceIte,Nat.reduceEqDiff,Nat.reduceLT, e0], by simp only [go_sem,reduceIte,Nat.reduceEqDiff,Nat.reduceLT, e3], by simp only [go_sem,reduceIte,Nat.reduceEqDiff,Nat.reduceLT, e15], by simp only [go_sem,reduceIte,Nat.reduceEqDiff,Nat.reduceLT, e16], by (simp only [go_sem,reduceIte,Nat.reduceEqDiff,Nat.reduceLT]) <;> rfl⟩
  · obtain rfl : i = n := by omega
    clear hJ
    have hM0 : MatW h2.blks T h1.next i i (fun _ _ => 0) R O rc' (.slice (some ⟨T, 0, none⟩) i i) := hM2.congr fun a b ha _ => if_pos ha
    have pr2 : Pres T h h2 := (hT ▸ p1).trans (wr.pres (Nat.le_refl _))
    have n2 := wr.next
    have hm2 := hm.mono (B' := h2.blks) fun b _ hb => pr2.get b (by omega)
    simp (disch := omega) only [go_sem,reduceIte,Nat.reduceEqDiff,Nat.reduceLT, e0, e3, e15, e16, e17, hlt]
    refine CallO_f (balances_spec (by omega) hm2 (by omega) hn hg hd.1) (by omega) fun u h3 p3 ⟨hu, hsB⟩ => ?_
    subst hu
    have n3 := p3.next
    have hT3 : h2.next < h3.next := slv_lt hsB h0
    obtain ⟨bo, hbo⟩ : ∃ bo, bo = h2.next := ⟨_, rfl⟩
    rw [← hbo] at hsB ⊢
    have hsB : SlV h3.blks bo (bo + 1) 1 i (intsL i (bl i d)) (.slice (some ⟨bo, 0, none⟩) i i) := by
      cases hsB with
      | mk hb hlo hhi hsz hL hc => exact .mk hb (Nat.le_refl _) (Nat.lt_succ_self _) hsz hL hc
    have hM3 := hM0.mono (B' := h3.blks) fun b _ hb => p3.get b (by omega)
    have pr3 : Pres T h h3 := pr2.trans (p3.le (by omega))
    obtain ⟨E1, hE1⟩ : ∃ E1, E1 = h1.next := ⟨_, rfl⟩
    rw [← hE1] at hM3 tT n2
    have hTE : T < E1 := tT
    have hEb : E1 ≤ bo := by omega
    simp (disch := omega) only [go_sem,reduceIte,Nat.reduceEqDiff,Nat.reduceLT, e0, e3]
    refine WK_loopN (fun j α h4 => ∃ (r : Nat → Nat → Int) (o : Nat → Int), (j : Int) = pos o i ∧ Pres T h h4 ∧ bo < h4.next ∧ MatW h4.blks T E1 i i r R O rc' (.slice (some ⟨T, 0, none⟩) i i) ∧ SlV h4.blks bo (bo + 1) 1 i (intsL i o) (.slice (some ⟨bo, 0, none⟩) i i) ∧ Can d r i ∧ (∀ v, v < i → o v = opn d r i v) ∧ α.get 0 = some (.slice A i c) ∧ α.get 3 = some (.slice (some ⟨T, 0, none⟩) i i) ∧ α.get 6 = some (.slice (some ⟨bo, 0, none⟩) i i)) (pos (bl i d) i).toNat
      ⟨fun _ _ => 0, bl i d, by have := pos_nonneg (o := bl i d) (n := i); omega, pr3, by omega, hM3, hsB, Can.zero fun a b ha hb => (hd.1 a b ha hb).1, fun v _ => opn_zero.symm, by simp only [go_sem,reduceIte,Nat.reduceEqDiff,Nat.reduceLT, e0], by simp only [go_sem,reduceIte,Nat.reduceEqDiff,Nat.reduceLT, e3], by (simp only [go_sem,reduceIte,Nat.reduceEqDiff,Nat.reduceLT]) <;> rfl⟩ (by
        have h1 : pos (bl i d) i ≤ i * 8000 := (sm_bound (K := 8000) (by omega) i fun v hv => by
          have := bl_bd hn hv hd.1
          omega).2
        omega) ?_
    clear e0 e3 e15 e16 e17 hM3 hsB
    rintro J j α h4 ⟨r, o, hpj, pr4, hbn, hM4, hs4, hcan, ho, e0, e3, e6⟩ hJ
    have hm4 := hm.mono (B' := h4.blks) fun b _ hb => pr4.get b (by omega)
    have hrok := hcan.bd.ok hd
    have hobd : ∀ v, v < i → -16000 ≤ o v ∧ o v ≤ 16000 := fun v hv => by
      have a1 := bl_bd hn hv hd.1
      have a2 := bl_bd hn hv hrok
      rw [ho v hv]
      unfold opn
      omega
    simp (disch := omega) only [go_sem,reduceIte,Nat.reduceEqDiff,Nat.reduceLT, e0, e3, e6]
    refine CallO_f (cheapestWay_spec (by have := pr4.next; omega) hm4 hg hM4.mat (fun _ _ => rfl) hs4 (by have := pr4.next; omega) (by omega) (by omega) hn h0 ho hcan hd.2) (by omega) fun u h5 p5 hw => ?_
    have n5 := p5.next
    have pr5 : Pres T h h5 := pr4.trans (p5.le (by omega))
    have hM5 := hM4.mono (B' := h5.blks) fun b _ hb => p5.get b (by omega)
    have hs5 := hs4.mono (B' := h5.blks) fun b _ hb => p5.get b (by omega)
    rcases hw with ⟨hu, hz⟩ | ⟨w, st, cc, bb, Tm, B, cw, hu, hsw, hw0, hwl, hway, hch, ho0, hol⟩
    · subst hu
      have k0 : decide (((0 : Nat) : Int) = 0) = true := rfl
      simp (disch := omega) only [go_sem,reduceIte,Nat.reduceEqDiff,Nat.reduceLT, len23, k0, e3]
      refine hQ' _ _ ⟨by rw [← hT]; exact pr5, r, R, O, rc', by rw [← hT], by rw [← hT]; exact hM5.wide (Nat.le_refl _) (by omega), hcan, fun k hk => ?_⟩
      have h1 := hz k hk
      rw [ho k hk] at h1
      unfold opn at h1
      omega
    · subst hu
      obtain ⟨bw, ow, rfl, hbw1, hbw2, _⟩ := hsw.at_ (by omega)
      have kl : decide ((w.length : Int) = 0) = false := decide_eq_false (by omega)
      obtain ⟨L, hL⟩ : ∃ L, w.length = L + 1 := ⟨w.length - 1, by omega⟩
      have fi := hway.lt 0 hw0
      have la := hway.lt L (by omega)
      have eL : w.length - 1 = L := by omega
      rw [eL] at hol
      have hne : w.getD 0 0 ≠ w.getD L 0 := fun g => by rw [g] at ho0; omega
      have lw0 := hsw.way_at hw0
      have lwL := hsw.way_at (k := L) (by omega)
      have iL : ((w.length : Int) - 1).toNat = L := by omega
      have lo0 := hs5.ints_at' fi
      have loL := hs5.ints_at' la
      have bo0 := hobd _ fi
      have boL := hobd _ la
      obtain ⟨F, hF⟩ : ∃ F, F = w.getD 0 0 := ⟨_, rfl⟩
      obtain ⟨Z, hZ⟩ : ∃ Z, Z = w.getD L 0 := ⟨_, rfl⟩
      rw [← hF] at fi ho0 lw0 lo0 bo0 hne
      rw [← hZ] at la hol lwL loL boL hne
      simp (disch := omega) only [go_sem,reduceIte,Nat.reduceEqDiff,Nat.reduceLT, len23, kl, e0, e3, e6]
      refine WK_regionT 10 ⟨by kernel_rfl, by kernel_rfl, by kernel_rfl⟩ ?_
      simp (disch := omega) only [go_sem,reduceIte,Nat.reduceEqDiff,Nat.reduceLT, len23, e0, e3, e6, idxA23, Int.toNat_natCast, Int.toNat_zero, Nat.zero_mul, Nat.mul_one, load3, lw0, lwL, iL, wrap_i64]
      refine WK_regionT 9 ⟨by kernel_rfl, by kernel_rfl, by kernel_rfl⟩ ?_
      simp (disch := omega) only [go_sem,reduceIte,Nat.reduceEqDiff,Nat.reduceLT, len23, e0, e3, e6, idxA23, Int.toNat_natCast, Nat.mul_one, load3, lo0, loL, wrap_i64]
      -- how much
      refine WK_loopN (fun j α h6 => ∃ (k : Nat) (a : Int), k + j = L ∧ h5 = h6 ∧ 0 < a ∧ a ≤ o F ∧ a ≤ - o Z ∧ (∀ k', k' < k → a ≤ room d r (w.getD k' 0) (w.getD (k' + 1) 0)) ∧ α.get 0 = some (.slice A i c) ∧ α.get 3 = some (.slice (some ⟨T, 0, none⟩) i i) ∧ α.get 6 = some (.slice (some ⟨bo, 0, none⟩) i i) ∧ α.get 7 = some (.slice (some ⟨bw, ow, none⟩) w.length cw) ∧ α.get 8 = some (.int .i64 (F : Int)) ∧ α.get 9 = some (.int .i64 (Z : Int)) ∧ α.get 10 = some (.int .i64 a) ∧ α.get 54 = some (.int .i64 (L : Int)) ∧ α.get 55 = some (.int .i64 (k : Int))) L
        ⟨0, min (o F) (0 - o Z), by omega, rfl, by omega, by omega, by omega, fun k' hk => absurd hk (Nat.not_lt_zero k'), by simp only [go_sem,reduceIte,Nat.reduceEqDiff,Nat.reduceLT, e0], by simp only [go_sem,reduceIte,Nat.reduceEqDiff,Nat.reduceLT, e3], by simp only [go_sem,reduceIte,Nat.reduceEqDiff,Nat.reduceLT, e6], by simp only [go_sem,reduceIte,Nat.reduceEqDiff,Nat.reduceLT], by (simp only [go_sem,reduceIte,Nat.reduceEqDiff,Nat.reduceLT]) <;> rfl, by (simp only [go_sem,reduceIte,Nat.reduceEqDiff,Nat.reduceLT]) <;> rfl, by (simp only [go_sem,reduceIte,Nat.reduceEqDiff,Nat.reduceLT]) <;> rfl, by (simp only [go_sem,reduceIte,Nat.reduceEqDiff,Nat.reduceLT]) <;> (congr 2; omega), by (simp only [go_sem,reduceIte,Nat.reduceEqDiff,Nat.reduceLT]) <;> rfl⟩ (by omega) ?_
      clear e0 e3 e6
      rintro J4 j4 α h6 ⟨k, a, hkj, rfl, ha0, ha1, ha2, hroom, e0, e3, e6, e7, e8, e9, e10, e54, e55⟩ hJ4
      by_cases hlk : (k : Int) < (L : Int)
      · have lwk := hsw.way_at (k := k) (by omega)
        have lwk1 := hsw.way_at (k := k + 1) (by omega)
        have ik : ((k : Int) + 1).toNat = k + 1 := by omega
        obtain ⟨s, hs, _⟩ := hway.tight k (by omega)
        have rp := room_pos hs
        have uk := hway.lt k (by omega)
        have uk1 := hway.lt (k + 1) (by omega)
        simp (disch := omega) only [go_sem,reduceIte,Nat.reduceEqDiff,Nat.reduceLT, e0, e3, e6, e7, e8, e9, e10, e54, e55, hlk]
        refine WK_regionT 12 ⟨by kernel_rfl, by kernel_rfl, by kernel_rfl⟩ ?_
        simp (disch := omega) only [go_sem,reduceIte,Nat.reduceEqDiff,Nat.reduceLT, e0, e3, e6, e7, e8, e9, e10, e54, e55, idxA23, Int.toNat_natCast, Nat.mul_one, load3, lwk, lwk1, ik, wrap_i64]
        refine CallO_same (Q := fun v => v = .int .i64 (room d r (w.getD k 0) (w.getD (k + 1) 0))) (room_spec (hm4.mono fun b _ hb => p5.get b (by have := pr4.next; omega)) hg hM5.mat (fun _ _ => rfl) hn uk uk1 hcan.bd (hd.1 _ _ uk uk1).2) (by omega) fun v hv => ?_
        subst hv
        simp (disch := omega) only [go_sem,reduceIte,Nat.reduceEqDiff,Nat.reduceLT, e0, e3, e6, e7, e8, e9, e10, e54, e55, wrap_i64]
        refine hJ4 (j4 - 1) _ _ (by omega) ⟨k + 1, min a (room d r (w.getD k 0) (w.getD (k + 1) 0)), by omega, rfl, by omega, by omega, by omega, fun k' hk' => ?_, by simp only [go_sem,reduceIte,Nat.reduceEqDiff,Nat.reduceLT, e0], by simp only [go_sem,reduceIte,Nat.reduceEqDiff,Nat.reduceLT, e3], by simp only [go_sem,reduceIte,Nat.reduceEqDiff,Nat.reduceLT, e6], by simp only [go_sem,reduceIte,Nat.reduceEqDiff,Nat.reduceLT, e7], by simp only [go_sem,reduceIte,Nat.reduceEqDiff,Nat.reduceLT, e8], by simp only [go_sem,reduceIte,Nat.reduceEqDiff,Nat.reduceLT, e9], by (simp only [go_sem,reduceIte,Nat.reduceEqDiff,Nat.reduceLT]) <;> rfl, by simp only [go_sem,reduceIte,Nat.reduceEqDiff,Nat.reduceLT, e54], by (simp only [go_sem,reduceIte,Nat.reduceEqDiff,Nat.reduceLT]) <;> rfl⟩
        by_cases hkk : k' = k
        · subst hkk; omega
        · have := hroom k' (by omega); omega
      · obtain rfl : k = L := by omega
        clear hJ4
        obtain ⟨q, hq, hqc⟩ := hcan.mix hch
        have kl2 : ((w.length : Int) - 1) = (k : Int) := by omega
        simp (disch := omega) only [go_sem,reduceIte,Nat.reduceEqDiff,Nat.reduceLT, e0, e3, e6, e7, e8, e9, e10, e54, e55, hlk, len23, wrap_i64]
        refine WK_loopN (fun j α h6 => ∃ (m : Nat) (r' : Nat → Nat → Int), m + j = k ∧ Wri T E1 h5 h6 ∧ MatW h6.blks T E1 i i r' R O rc' (.slice (some ⟨T, 0, none⟩) i i) ∧ Mvd d r i q w a m r' ∧ α.get 0 = some (.slice A i c) ∧ α.get 3 = some (.slice (some ⟨T, 0, none⟩) i i) ∧ α.get 6 = some (.slice (some ⟨bo, 0, none⟩) i i) ∧ α.get 7 = some (.slice (some ⟨bw, ow, none⟩) w.length cw) ∧ α.get 8 = some (.int .i64 (F : Int)) ∧ α.get 9 = some (.int .i64 (Z : Int)) ∧ α.get 10 = some (.int .i64 a) ∧ α.get 75 = some (.int .i64 (k : Int)) ∧ α.get 76 = some (.int .i64 (m : Int))) k
          ⟨0, r, by omega, Wri.refl, hM5, Mvd.zero hcan.bd hq, by simp only [go_sem,reduceIte,Nat.reduceEqDiff,Nat.reduceLT, e0], by simp only [go_sem,reduceIte,Nat.reduceEqDiff,Nat.reduceLT, e3], by simp only [go_sem,reduceIte,Nat.reduceEqDiff,Nat.reduceLT, e6], by simp only [go_sem,reduceIte,Nat.reduceEqDiff,Nat.reduceLT, e7], by simp only [go_sem,reduceIte,Nat.reduceEqDiff,Nat.reduceLT, e8], by simp only [go_sem,reduceIte,Nat.reduceEqDiff,Nat.reduceLT, e9], by simp only [go_sem,reduceIte,Nat.reduceEqDiff,Nat.reduceLT, e10], by (simp only [go_sem,reduceIte,Nat.reduceEqDiff,Nat.reduceLT]) <;> (congr 2), by (simp only [go_sem,reduceIte,Nat.reduceEqDiff,Nat.reduceLT]) <;> rfl⟩ (by omega) ?_
        clear e0 e3 e6 e7 e8 e9 e10 e54 e55
        rintro J6 j6 α h6 ⟨m, r', hmj, wr6, hM6, hmv, e0, e3, e6, e7, e8, e9, e10, e75, e76⟩ hJ6
        have hsw6 := hsw.mono (B' := h6.blks) fun b hb1 hb2 => wr6.get b (.inr (by have := pr4.next; omega))
        by_cases hlm : (m : Int) < (k : Int)
        · have lwk := hsw6.way_at (k := m) (by omega)
          have lwk1 := hsw6.way_at (k := m + 1) (by omega)
          have ik : ((m : Int) + 1).toNat = m + 1 := by omega
          have uk := hway.lt m (by omega)
          have uk1 := hway.lt (m + 1) (by omega)
          simp (disch := omega) only [go_sem,reduceIte,Nat.reduceEqDiff,Nat.reduceLT, e0, e3, e6, e7, e8, e9, e10, e75, e76, hlm]
          refine WK_regionT 11 ⟨by kernel_rfl, by kernel_rfl, by kernel_rfl⟩ ?_
          simp (disch := omega) only [go_sem,reduceIte,Nat.reduceEqDiff,Nat.reduceLT, e0, e3, e6, e7, e8, e9, e10, e75, e76, idxA23, Int.toNat_natCast, Nat.mul_one, load3, lwk, lwk1, ik, wrap_i64]
          refine CallO_any (move_spec (a := a) (by omega) hM6 hn uk uk1 (hmv.bd.ok hd) (by omega)) (by omega) fun v h7 ⟨hM7, wr7⟩ => ?_
          simp (disch := omega) only [go_sem,reduceIte,Nat.reduceEqDiff,Nat.reduceLT, e76, wrap_i64]
          exact hJ6 (j6 - 1) _ _ (by omega) ⟨m + 1, _, by omega, wr6.trans wr7, hM7, hmv.step hway hqc (by omega) ha0 (hroom m (by omega)), by simp only [go_sem,reduceIte,Nat.reduceEqDiff,Nat.reduceLT, e0], by simp only [go_sem,reduceIte,Nat.reduceEqDiff,Nat.reduceLT, e3], by simp only [go_sem,reduceIte,Nat.reduceEqDiff,Nat.reduceLT, e6], by simp only [go_sem,reduceIte,Nat.reduceEqDiff,Nat.reduceLT, e7], by simp only [go_sem,reduceIte,Nat.reduceEqDiff,Nat.reduceLT, e8], by simp only [go_sem,reduceIte,Nat.reduceEqDiff,Nat.reduceLT, e9], by simp only [go_sem,reduceIte,Nat.reduceEqDiff,Nat.reduceLT, e10], by simp only [go_sem,reduceIte,Nat.reduceEqDiff,Nat.reduceLT, e75], by (simp only [go_sem,reduceIte,Nat.reduceEqDiff,Nat.reduceLT]) <;> rfl⟩
        · obtain rfl : m = k := by omega
          clear hJ6
          have hs6 := hs5.mono (B' := h6.blks) fun b hb1 hb2 => wr6.get b (.inr (by omega))
          have l6 := hs6.ints_at' fi
          obtain ⟨hcan', ho'⟩ := Can.moves (o := o) (st := st) (c := cc) (b := bb) (T := Tm) hmv ho (by rw [← hF, ← hZ]; exact hne)
          rw [← hF, ← hZ] at ho'
          simp (disch := omega) only [go_sem,reduceIte,Nat.reduceEqDiff,Nat.reduceLT, e0, e3, e6, e7, e8, e9, e10, e75, e76, hlm, idxA23, Int.toNat_natCast, Nat.mul_one, load3, l6, wrap_i64]
          refine At_setInt (i := F) (z := o F - a) (by simp only [go_sem,reduceIte,Nat.reduceEqDiff,Nat.reduceLT]) (by simp only [go_sem,reduceIte,Nat.reduceEqDiff,Nat.reduceLT]) hs6 fi (by omega) fun h7 hs7 hf7 => ?_
          have l7 := hf7.ints_at' la
          rw [if_neg hne.symm] at l7
          simp (disch := omega) only [go_sem,reduceIte,Nat.reduceEqDiff,Nat.reduceLT, e0, e3, e6, e7, e8, e9, e10, idxA23, Int.toNat_natCast, Nat.mul_one, load3, l7, wrap_i64]
          refine At_setInt (i := Z) (z := o Z + a) (by simp only [go_sem,reduceIte,Nat.reduceEqDiff,Nat.reduceLT]) (by simp only [go_sem,reduceIte,Nat.reduceEqDiff,Nat.reduceLT]) hf7 la (by omega) fun h8 hs8 hf8 => ?_
          have hM8 := hM6.mono (B' := h8.blks) fun b hb1 hb2 => (hs8.get b (by omega)).trans (hs7.get b (by omega))
          have hpl := pos_less (n := i) fi la ha0 ha1 ha2
          have hpn := pos_nonneg (o := upf (upf o F (o F - a)) Z (o Z + a)) (n := i)
          have pr8 : Pres T h h8 := pr5.trans ((wr6.pres (Nat.le_refl _)).trans ((hs7.pres (by omega)).trans (hs8.pres (by omega))))
          have n8 : h8.next = h5.next := by rw [hs8.next, hs7.next, wr6.next]
          simp (disch := omega) only [go_sem,reduceIte,Nat.reduceEqDiff,Nat.reduceLT]
          exact hJ (pos (upf (upf o F (o F - a)) Z (o Z + a)) i).toNat _ _ (by omega) ⟨r', upf (upf o F (o F - a)) Z (o Z + a), by omega, pr8, by omega, hM8, hf8, hcan', ho', by simp only [go_sem,reduceIte,Nat.reduceEqDiff,Nat.reduceLT, e0], by simp only [go_sem,reduceIte,Nat.reduceEqDiff,Nat.reduceLT, e3], by simp only [go_sem,reduceIte,Nat.reduceEqDiff,Nat.reduceLT, e6]⟩
end
end Go.Proofs.YtngpoamjhngcgaaGreatDoor.Ev

