/- The costs of the cheapest ways. -/
import Derived.Test.YtngpoamjhngcgaaGreatDoorPmeD2
set_option linter.unusedVariables false
set_option linter.unusedSimpArgs false
namespace Go.Proofs.YtngpoamjhngcgaaGreatDoor.Ev
open Go Go.Proofs
noncomputable section

theorem slv_over {h h' : H} {b n c lo hi : Nat} {f f0 : Nat → Int} (w : SlV h.blks lo hi 1 n (intsL n f) (.slice (some ⟨b, 0, none⟩) n c)) (s : Sto h h' b 0 (intsL n f0)) : SlV h'.blks lo hi 1 n (intsL n f0) (.slice (some ⟨b, 0, none⟩) n c) := by
  cases w with
  | mk hb hlo hhi hsz hL hc =>
    obtain ⟨c2, s2, g1, g2, g3⟩ := row_over s hb (by omega)
    exact .mk g1 hlo hhi (by omega) (by rw [intsL_len]; omega) fun j hj => by rw [g3 j (by omega), intsL_get (by omega)]
theorem slv_blk {B : Tr Blk} {b n c lo hi : Nat} {L : List Value} (w : SlV B lo hi 1 n L (.slice (some ⟨b, 0, none⟩) n c)) : ∃ cells size, B.get b = some (.mk cells size 1) ∧ n ≤ size := by
  cases w with
  | mk hb hlo hhi hsz hL hc => exact ⟨_, _, hb, by omega⟩

set_option maxRecDepth 100000 in
set_option maxHeartbeats 64000000 in
theorem cheapest_spec {G lo hi lo2 hi2 lo3 hi3 n c0 c02 c03 : Nat} {g g2 : Nat → Nat} {d r : Nat → Nat → Int} {RA RA2 : Nat → Option Addr} {rc rc2 : Nat → Nat} {A A2 A3 : Option Addr} {h : H} {st : Nat → Int} (hG : G ≤ h.next)
    (hm : MatV h.blks lo hi n g d RA rc (.slice A n c0)) (hg : ∀ i, i < n → g i = n) (hm2 : MatV h.blks lo2 hi2 n g2 r RA2 rc2 (.slice A2 n c02)) (hg2 : ∀ i, i < n → g2 i = n) (hv : SlV h.blks lo3 hi3 1 n (intsL n st) (.slice A3 n c03))
    (q1 : hi ≤ h.next) (q2 : hi2 ≤ h.next) (q3 : hi3 ≤ h.next) (hn : n ≤ 8) (h0 : 0 < n) (hst : ∀ v, v < n → st v = 0 ∨ st v = 1000) (hcan : Can d r n) (hd : ∀ i, i < n → d i i = 0) :
    Spec Tryz.prog (En G) 66 [.slice A n c0, .slice A2 n c02, .slice A3 n c03] h fun v h' => ∃ (bc bb : Nat) (c b : Nat → Int) (T : Nat → Nat), v = .tuple #[.slice (some ⟨bc, 0, none⟩) n n, .slice (some ⟨bb, 0, none⟩) n n] ∧ Cheap d r n st c b T ∧
      SlV h'.blks h.next h'.next 1 n (intsL n c) (.slice (some ⟨bc, 0, none⟩) n n) ∧ SlV h'.blks h.next h'.next 1 n (intsL n b) (.slice (some ⟨bb, 0, none⟩) n n) := by
  have hself := hcan.self hd
  refine CallsE_enter (En_known (by decide)) (En_f.trans Tryz.func66) rfl ⟨Nat.le_of_ble_eq_true rfl, by decide⟩ fun Q' hQ' => ?_
  simp only [Tryz.f66, go_sem,reduceIte,Nat.reduceEqDiff,Nat.reduceLT]
  refine At_box (v := .slice A n c0) (by (simp only [go_sem,reduceIte,Nat.reduceEqDiff,Nat.reduceLT]) <;> rfl) (by omega) fun h1 hn1 => ?_
  have n1 := hn1.next
  have v1 : Var h1.blks h.next [.slice A n c0] := hn1.var
  try simp only [go_sem,reduceIte,Nat.reduceEqDiff,Nat.reduceLT]
  refine At_box (v := .slice A2 n c02) (by (simp only [go_sem,reduceIte,Nat.reduceEqDiff,Nat.reduceLT]) <;> rfl) (by omega) fun h2 hn2 => ?_
  have n2 := hn2.next
  have v2 : Var h2.blks h1.next [.slice A2 n c02] := hn2.var
  try simp only [go_sem,reduceIte,Nat.reduceEqDiff,Nat.reduceLT, len23]
  refine At_make (k1 := .i64) (k2 := .i64) (l := n) (c := n) u23 i3 zero3 (by rw [size3, bytes3]; rfl) (by simp only [go_sem,reduceIte,Nat.reduceEqDiff,Nat.reduceLT]) (by simp only [go_sem,reduceIte,Nat.reduceEqDiff,Nat.reduceLT]) (Nat.le_refl _) (by rw [size3]; omega) (by omega) (by omega) fun h3 hn3 => ?_
  rw [size3] at hn3
  have ez : zeros (Value.int .i64 0).cells.toList n = intsL n fun _ => 0 := zeros_ints n
  rw [ez] at hn3
  have n3 := hn3.next
  have s3 := hn3.slv (n := n) (c := n) (by rw [intsL_len]; simp)
  try simp only [go_sem,reduceIte,Nat.reduceEqDiff,Nat.reduceLT]
  refine At_alloc i23 zero23 rfl (by omega) fun h4 hn4 => ?_
  have n4 := hn4.next
  have v4 : Var h4.blks h3.next [.slice none 0 0] := hn4.var
  try simp only [go_sem,reduceIte,Nat.reduceEqDiff,Nat.reduceLT]
  refine At_storeV (v := .slice (some ⟨h2.next, 0, none⟩) n n) (L := [.slice none 0 0]) i23 (by simp only [go_sem,reduceIte,Nat.reduceEqDiff,Nat.reduceLT]) (by simp only [go_sem,reduceIte,Nat.reduceEqDiff,Nat.reduceLT]) v4 (by rw [size23]; rfl) (by rw [size23]; rfl) rfl (by rw [En_G]; omega) fun h5 hs5 v5 => ?_
  have n5 := hs5.next
  have v5 : Var h5.blks h3.next [.slice (some ⟨h2.next, 0, none⟩) n n] := v5
  have s5 := s3.mono (B' := h5.blks) fun b _ hb => (hs5.get b (by omega)).trans (by rw [hn4.get, if_neg (by omega)])
  have pr5 : Pres h.next h h5 := (hn1.pres (Nat.le_refl _)).trans ((hn2.pres (by omega)).trans ((hn3.pres (by omega)).trans ((hn4.pres (by omega)).trans (hs5.pres (by omega)))))
  obtain ⟨cz, sz, g5, g5'⟩ := slv_blk s5
  have lv5 := v5.load (i := 0) (by simp)
  simp (disch := omega) only [go_sem,reduceIte,Nat.reduceEqDiff,Nat.reduceLT, load23, lv5]
  refine At_copy (m := n) (off := 0) (dl := n) (sc := n) (v := .slice A3 n c03) (L := intsL n st) u23 i3 (by simp only [go_sem,reduceIte,Nat.reduceEqDiff,Nat.reduceLT]) (by simp only [go_sem,reduceIte,Nat.reduceEqDiff,Nat.reduceLT]) (by rw [size3]; exact hv.mono fun b _ hb => pr5.get b (by omega)) h0 (Nat.le_refl _) intsL_one g5 (by rw [size3]; omega) (by rw [En_G]; omega) (by omega) fun h6 hs6 => ?_
  have n6 := hs6.next
  have s6 := slv_over s5 hs6
  have v6 := v5.mono (B' := h6.blks) (hs6.get _ (by omega))
  simp (disch := omega) only [go_sem,reduceIte,Nat.reduceEqDiff,Nat.reduceLT, len23]
  refine At_make (k1 := .i64) (k2 := .i64) (l := n) (c := n) u23 i3 zero3 (by rw [size3, bytes3]; rfl) (by simp only [go_sem,reduceIte,Nat.reduceEqDiff,Nat.reduceLT]) (by simp only [go_sem,reduceIte,Nat.reduceEqDiff,Nat.reduceLT]) (Nat.le_refl _) (by rw [size3]; omega) (by omega) (by omega) fun h7 hn7 => ?_
  rw [size3, ez] at hn7
  have n7 := hn7.next
  have s7 := hn7.slv (n := n) (c := n) (by rw [intsL_len]; simp)
  try simp only [go_sem,reduceIte,Nat.reduceEqDiff,Nat.reduceLT]
  refine At_alloc i23 zero23 rfl (by omega) fun h8 hn8 => ?_
  have n8 := hn8.next
  have v8 : Var h8.blks h7.next [.slice none 0 0] := hn8.var
  try simp only [go_sem,reduceIte,Nat.reduceEqDiff,Nat.reduceLT]
  refine At_storeV (v := .slice (some ⟨h6.next, 0, none⟩) n n) (L := [.slice none 0 0]) i23 (by simp only [go_sem,reduceIte,Nat.reduceEqDiff,Nat.reduceLT]) (by simp only [go_sem,reduceIte,Nat.reduceEqDiff,Nat.reduceLT]) v8 (by rw [size23]; rfl) (by rw [size23]; rfl) rfl (by rw [En_G]; omega) fun h9 hs9 v9 => ?_
  have n9 := hs9.next
  have v9 : Var h9.blks h7.next [.slice (some ⟨h6.next, 0, none⟩) n n] := v9
  have k9 : ∀ b, b < h6.next → h9.blks.get b = h6.blks.get b := fun b hb => by rw [hs9.get b (by omega), hn8.get, if_neg (by omega), hn7.get, if_neg (by omega)]
  have s9b := s7.mono (B' := h9.blks) fun b _ hb => by rw [hs9.get b (by omega), hn8.get, if_neg (by omega)]
  have s9c := s6.mono (B' := h9.blks) fun b _ hb => k9 b (by omega)
  have w9 := v6.mono (B' := h9.blks) (k9 _ (by omega))
  have u9' : ∀ b, b < h2.next → h9.blks.get b = h2.blks.get b := fun b hb => by rw [k9 b (by omega), hs6.get b (by omega), hs5.get b (by omega), hn4.get, if_neg (by omega), hn3.get, if_neg (by omega)]
  have x9 := v2.mono (B' := h9.blks) (u9' _ (by omega))
  have y9 : Var h9.blks h.next [.slice A n c0] := v1.mono ((u9' _ (by omega)).trans (by rw [hn2.get, if_neg (by omega)]))
  have pr9 : Pres h.next h h9 := pr5.trans ((hs6.pres (by omega)).trans ((hn7.pres (by omega)).trans ((hn8.pres (by omega)).trans (hs9.pres (by omega)))))
  have lv9 := v9.load (i := 0) (by simp)
  obtain ⟨pd, hpd⟩ : ∃ pd, pd = h.next := ⟨_, rfl⟩
  obtain ⟨pr, hpr⟩ : ∃ pr, pr = h1.next := ⟨_, rfl⟩
  obtain ⟨bc, hbc⟩ : ∃ bc, bc = h2.next := ⟨_, rfl⟩
  obtain ⟨pc, hpc⟩ : ∃ pc, pc = h3.next := ⟨_, rfl⟩
  obtain ⟨bb, hbb⟩ : ∃ bb, bb = h6.next := ⟨_, rfl⟩
  obtain ⟨pb, hpb⟩ : ∃ pb, pb = h7.next := ⟨_, rfl⟩
  have s9c : SlV h9.blks bc (bc + 1) 1 n (intsL n st) (.slice (some ⟨bc, 0, none⟩) n n) := by rw [hbc, ← n3]; exact s9c
  have s9b : SlV h9.blks bb (bb + 1) 1 n (intsL n fun _ => 0) (.slice (some ⟨bb, 0, none⟩) n n) := by rw [hbb, ← n7]; exact s9b
  have vd9 : loadv h9.blks pd 0 = some (.slice A n c0) := by rw [hpd]; exact y9.load (i := 0) (by simp)
  have vr9 : loadv h9.blks pr 0 = some (.slice A2 n c02) := by rw [hpr]; exact x9.load (i := 0) (by simp)
  have vc9 : loadv h9.blks pc 0 = some (.slice (some ⟨bc, 0, none⟩) n n) := by rw [hpc, hbc]; exact w9.load (i := 0) (by simp)
  have vb9 : loadv h9.blks pb 0 = some (.slice (some ⟨bb, 0, none⟩) n n) := by rw [hpb, hbb]; exact v9.load (i := 0) (by simp)
  have aw : Away G pc pd pr pb bc bb := ⟨by omega, by omega, by omega, by omega, by omega, by omega, by omega, by omega, by omega, by omega, by omega⟩
  rw [← hpb, ← hbb] at lv9
  simp (disch := omega) only [go_sem,reduceIte,Nat.reduceEqDiff,Nat.reduceLT, load23, ← hpd, ← hpr, ← hbc, ← hpc, ← hbb, ← hpb, vb9, len23]
  -- nobody comes before
  refine WK_loopN (fun j α hh => ∃ i : Nat, i + j = n ∧ WrC bc bb h9 hh ∧ SMem hh.blks pc pd pr pb bc bb n (.slice A n c0) (.slice A2 n c02) st (fun k => if k < i then -1 else 0) ∧
      α.get 3 = some (.pointer (some ⟨pd, 0, none⟩)) ∧ α.get 4 = some (.pointer (some ⟨pr, 0, none⟩)) ∧ α.get 8 = some (.pointer (some ⟨pc, 0, none⟩)) ∧ α.get 9 = some (.pointer (some ⟨pb, 0, none⟩)) ∧ α.get 22 = some (.int .i64 (n : Int)) ∧ α.get 23 = some (.int .i64 (i : Int))) n
    ⟨0, by omega, WrC.refl, ⟨vc9, vd9, vr9, vb9, s9c, by rw [intsL_congr (f' := fun _ => 0) fun k _ => if_neg (Nat.not_lt_zero k)]; exact s9b⟩, by simp only [go_sem,reduceIte,Nat.reduceEqDiff,Nat.reduceLT], by simp only [go_sem,reduceIte,Nat.reduceEqDiff,Nat.reduceLT], by simp only [go_sem,reduceIte,Nat.reduceEqDiff,Nat.reduceLT], by simp only [go_sem,reduceIte,Nat.reduceEqDiff,Nat.reduceLT], by (simp only [go_sem,reduceIte,Nat.reduceEqDiff,Nat.reduceLT]) <;> rfl, by (simp only [go_sem,reduceIte,Nat.reduceEqDiff,Nat.reduceLT]) <;> rfl⟩ (by omega) ?_
  rintro J j α hh ⟨i, hij, wr, hS, e3, e4, e8, e9, e22, e23⟩ hJ
  by_cases hlt : (i : Int) < (n : Int)
  · simp (disch := omega) only [go_sem,reduceIte,Nat.reduceEqDiff,Nat.reduceLT, e3, e4, e8, e9, e22, e23, hlt, load23, hS.vb, idxA23, Int.toNat_natCast, Nat.mul_one]
    refine At_setInt (i := i) (z := -1) (by simp only [go_sem,reduceIte,Nat.reduceEqDiff,Nat.reduceLT]) (by simp only [go_sem,reduceIte,Nat.reduceEqDiff,Nat.reduceLT]) hS.sb (by omega) aw.gb fun ha hsa hfa => ?_
    have wa : WrC bc bb hh ha := ⟨hsa.next, by have := hsa.wm; omega, fun b h1 h2 => hsa.get b h2⟩
    have hSa : SMem ha.blks pc pd pr pb bc bb n (.slice A n c0) (.slice A2 n c02) st (fun r => if r = i then -1 else if r < i then -1 else 0) := hS.keep aw (fun b h1 h2 => wa.get b h1 h2) (hS.sc.mono fun b h1 h2 => hsa.get b (by have := aw.cb; omega)) hfa
    simp (disch := omega) only [go_sem,reduceIte,Nat.reduceEqDiff,Nat.reduceLT, e23, wrap_i64]
    refine hJ (j - 1) _ _ (by omega) ⟨i + 1, by omega, wr.trans wa, ⟨hSa.vc, hSa.vd, hSa.vr, hSa.vb, hSa.sc, ?_⟩, by simp only [go_sem,reduceIte,Nat.reduceEqDiff,Nat.reduceLT, e3], by simp only [go_sem,reduceIte,Nat.reduceEqDiff,Nat.reduceLT, e4], by simp only [go_sem,reduceIte,Nat.reduceEqDiff,Nat.reduceLT, e8], by simp only [go_sem,reduceIte,Nat.reduceEqDiff,Nat.reduceLT, e9], by simp only [go_sem,reduceIte,Nat.reduceEqDiff,Nat.reduceLT, e22], by (simp only [go_sem,reduceIte,Nat.reduceEqDiff,Nat.reduceLT]) <;> rfl⟩
    rw [intsL_congr (f' := fun r => if r = i then -1 else if r < i then -1 else 0) fun r hr => by
      by_cases c1 : r = i
      · rw [if_pos (by omega), if_pos c1]
      · rw [if_neg c1]
        by_cases c2 : r < i
        · rw [if_pos (by omega), if_pos c2]
        · rw [if_neg (by omega), if_neg c2]]
    exact hSa.sb
  · obtain rfl : i = n := by omega
    clear hJ
    simp (disch := omega) only [go_sem,reduceIte,Nat.reduceEqDiff,Nat.reduceLT, e3, e4, e8, e9, e22, e23, hlt, load23, hS.vc, len23]
    have hb0 : SlV hh.blks bb (bb + 1) 1 i (intsL i fun _ => -1) (.slice (some ⟨bb, 0, none⟩) i i) := by
      rw [intsL_congr (f' := fun k => if k < i then -1 else 0) fun k hk => (if_pos hk).symm]
      exact hS.sb
    have done : ∀ (k : Nat) (x : St) (α' : Tr Value) (hd : H), k ≤ 8 → Srch d r i st k x → Fix d r i x.c → WrC bc bb h9 hd → SMem hd.blks pc pd pr pb bc bb i (.slice A i c0) (.slice A2 i c02) x.c x.b → Q' (.tuple #[.slice (some ⟨bc, 0, none⟩) i i, .slice (some ⟨bb, 0, none⟩) i i]) hd := fun k x α' hd hk hs hf w s => by
      have nn := w.next
      exact hQ' _ _ ⟨pr9.trans (w.pres (by omega) (by omega)), bc, bb, x.c, x.b, x.T, rfl, hs.cheap hn hk hf, s.sc.wide (by omega) (by omega), s.sb.wide (by omega) (by omega)⟩
    refine WK_loopN (fun j α hd => ∃ (k : Nat) (x : St), k + j = i ∧ Srch d r i st k x ∧ WrC bc bb h9 hd ∧ SMem hd.blks pc pd pr pb bc bb i (.slice A i c0) (.slice A2 i c02) x.c x.b ∧
        α.get 8 = some (.pointer (some ⟨pc, 0, none⟩)) ∧ α.get 9 = some (.pointer (some ⟨pb, 0, none⟩)) ∧ α.get 11 = some (.func (.func 104) #[] #[.pointer (some ⟨pc, 0, none⟩), .pointer (some ⟨pd, 0, none⟩), .pointer (some ⟨pr, 0, none⟩), .pointer (some ⟨pb, 0, none⟩)]) ∧ α.get 32 = some (.int .i64 (i : Int)) ∧ α.get 33 = some (.int .i64 (k : Int))) i
      ⟨0, ⟨st, fun _ => -1, false, fun _ => 0, 0⟩, by omega, Srch.zero hst, wr, ⟨hS.vc, hS.vd, hS.vr, hS.vb, hS.sc, hb0⟩, by simp only [go_sem,reduceIte,Nat.reduceEqDiff,Nat.reduceLT, e8], by simp only [go_sem,reduceIte,Nat.reduceEqDiff,Nat.reduceLT, e9], by (simp only [go_sem,reduceIte,Nat.reduceEqDiff,Nat.reduceLT, e3, e4, e8, e9]) <;> rfl, by (simp only [go_sem,reduceIte,Nat.reduceEqDiff,Nat.reduceLT]) <;> rfl, by (simp only [go_sem,reduceIte,Nat.reduceEqDiff,Nat.reduceLT]) <;> rfl⟩ (by omega) ?_
    clear e3 e4 e8 e9 e22 e23
    rintro J j α hd2 ⟨k, x, hkj, hsr, wr2, hS2, e8, e9, e11, e32, e33⟩ hJ
    by_cases hlk : (k : Int) < (i : Int)
    · have hnn : i * i ≤ 64 := Nat.mul_le_mul hn hn
      have hkn : k * (i * i) ≤ 7 * 64 := Nat.mul_le_mul (by omega) hnn
      have hxt := hsr.t
      have hnx := hsr.next hself hn (show k < 8 by omega)
      simp (disch := omega) only [go_sem,reduceIte,Nat.reduceEqDiff,Nat.reduceLT, e8, e9, e11, e32, e33, hlk]
      refine CallO_capE (search_spec (x := x) hS2 aw (hm.mono fun b _ hb => (wr2.get b (by omega) (by omega)).trans (pr9.get b (by omega))) hg (hm2.mono fun b _ hb => (wr2.get b (by omega) (by omega)).trans (pr9.get b (by omega))) hg2 (by omega) (by omega) (by omega) (by omega) hn h0 hsr.bf hself (by omega)) (by omega) fun v hd3 ⟨hv3, hS3, wr3⟩ => ?_
      subst hv3
      obtain ⟨y, hy⟩ : ∃ y, y = pas d r i { x with f := false } i := ⟨_, rfl⟩
      rw [← hy] at hS3 hnx ⊢
      cases hyf : y.f with
      | false =>
        have hfix : Fix d r i y.c := by rw [hy]; exact pas_found rfl (by rw [← hy]; exact hyf)
        simp (disch := omega) only [go_sem,reduceIte,Nat.reduceEqDiff,Nat.reduceLT, e8, e9, e11, e32, e33]
        refine WK_regionT 3 ⟨by kernel_rfl, by kernel_rfl, by kernel_rfl⟩ ?_
        simp (disch := omega) only [go_sem,reduceIte,Nat.reduceEqDiff,Nat.reduceLT, e8, e9, load23, hS3.vc, hS3.vb]
        exact done (k + 1) y α hd3 (by omega) hnx hfix (wr2.trans wr3) hS3
      | true =>
        simp (disch := omega) only [go_sem,reduceIte,Nat.reduceEqDiff,Nat.reduceLT, e8, e9, e11, e32, e33, wrap_i64]
        exact hJ (j - 1) _ _ (by omega) ⟨k + 1, y, by omega, hnx, wr2.trans wr3, hS3, by simp only [go_sem,reduceIte,Nat.reduceEqDiff,Nat.reduceLT, e8], by simp only [go_sem,reduceIte,Nat.reduceEqDiff,Nat.reduceLT, e9], by simp only [go_sem,reduceIte,Nat.reduceEqDiff,Nat.reduceLT, e11], by simp only [go_sem,reduceIte,Nat.reduceEqDiff,Nat.reduceLT, e32], by (simp only [go_sem,reduceIte,Nat.reduceEqDiff,Nat.reduceLT]) <;> rfl⟩
    · obtain rfl : k = i := by omega
      obtain ⟨q, hq⟩ := hcan.pot
      have hfix := (hsr.stl q hq).all (Nat.le_refl _)
      simp (disch := omega) only [go_sem,reduceIte,Nat.reduceEqDiff,Nat.reduceLT, e8, e9, e11, e32, e33, hlk]
      refine WK_regionT 3 ⟨by kernel_rfl, by kernel_rfl, by kernel_rfl⟩ ?_
      simp (disch := omega) only [go_sem,reduceIte,Nat.reduceEqDiff,Nat.reduceLT, e8, e9, load23, hS2.vc, hS2.vb]
      exact done k x α hd2 (by omega) hsr hfix wr2 hS2
end
end Go.Proofs.YtngpoamjhngcgaaGreatDoor.Ev

