/- The law HideTrees. -/
import Derived.Test.YtnhbkoeomefkdaaDoorPmhUB
import Derived.Test.YtnhbkoeomefkdaaDoorPmhM1
import Derived.Test.YtnhbkoeomefkdaaDoorPmhLL
import Derived.Laws.StructEq
import Derived.Test.YtnhbkoeomefkdaaDoorPmhN5
import Derived.Test.YtnhbkoeomefkdaaDoorPmhQM
set_option linter.unusedVariables false
set_option linter.unusedSimpArgs false
namespace Go.Proofs.YtnhbkoeomefkdaaDoor.Ev.L
open Go Go.Proofs Go.Proofs.YtnhbkoeomefkdaaDoor.Ev
noncomputable section

theorem wirs_at {Ls O : List Sq} {i : Nat} {e : Wr} (h : (wrs Ls O)[i]? = some e) : (wirs Ls O)[i]? = some ((e.1 : Int), (e.2 : Int)) := by
  unfold wrs at h
  unfold wirs
  rw [List.getElem?_map] at h ⊢
  cases hq : O[i]? with
  | none => rw [hq] at h; cases h
  | some q => rw [hq] at h; injection h with h; subst h; rfl
theorem wrs_len {Ls O : List Sq} : (wrs Ls O).length = O.length := by simp [wrs]
theorem SlV.pr_load {B : Tr Blk} {lo hi n b off c i : Nat} {L : List Pr} {p : Pr} (s : SlV B lo hi 2 n (prc L) (.slice (some ⟨b, off, none⟩) n c)) (hp : L[i]? = some p) (hn : n = L.length) : loadv B b (off + i * 2) = some (.int .i64 p.1) ∧ loadv B b (off + i * 2 + 1) = some (.int .i64 p.2) := by
  have hi' : i < n := by rw [hn]; exact (List.getElem?_eq_some_iff.1 hp).1
  obtain ⟨b', off', he, _, _, hld⟩ := s.at_ (by omega)
  injection he with he
  injection he with q1 q2
  subst q1; subst q2
  have key : ∀ (L : List Pr) (i : Nat), L[i]? = some p → (prc L)[i * 2]? = some (.int .i64 p.1) ∧ (prc L)[i * 2 + 1]? = some (.int .i64 p.2) := by
    intro L
    induction L with
    | nil => intro i h; simp at h
    | cons a L ih =>
      intro i h
      cases i with
      | zero =>
        have : a = p := by simpa using h
        subst this
        exact ⟨rfl, rfl⟩
      | succ i =>
        have h' : L[i]? = some p := by simpa using h
        have e : prc (a :: L) = .int .i64 a.1 :: .int .i64 a.2 :: prc L := rfl
        obtain ⟨h1, h2⟩ := ih i h'
        rw [e, show (i + 1) * 2 = i * 2 + 1 + 1 by omega, show i * 2 + 1 + 1 + 1 = i * 2 + 1 + 1 + 1 from rfl]
        exact ⟨by simpa using h1, by simpa using h2⟩
  obtain ⟨k1, k2⟩ := key L i hp
  exact ⟨by rw [hld (i * 2) (by omega), k1], by rw [Nat.add_assoc, hld (i * 2 + 1) (by omega), k2]⟩

set_option maxRecDepth 100000 in
set_option maxHeartbeats 64000000 in
theorem law_HideTrees {G lo hi c : Nat} {zs : List Nat} {A : Option Addr} {h : H} (hG : G ≤ h.next) (hG3 : 3 ≤ G) (hhi : hi ≤ h.next) (ht : TabsIn tabs h.blks) (hv : SlV h.blks lo hi 1 zs.length (u8s zs) (.slice A zs.length c)) (hz : ∀ z ∈ zs, z ≤ 255) (hn : zs.length < 4611686018427387904) :
    Spec Tryd.prog (En G) 12 [.slice A zs.length c] h fun v _ => v = .bool true := by
  have k0 : decide ((0 : Int) ≠ 0) = false := rfl
  have k00 : decide (((0 : Nat) : Int) = 0) = true := rfl
  refine CallsE_enter (En_known (by decide)) (En_f.trans Tryd.func12) rfl ⟨Nat.le_of_ble_eq_true rfl, by decide⟩ fun Q' hQ' => ?_
  simp only [Tryd.f12, go_sem,reduceIte,Nat.reduceEqDiff,Nat.reduceLT]
  refine CallO_f (made_spec (most := 9) hG hhi hv hz hn (by omega) (by omega)) (by omega) fun u h1 ph1 ⟨A1, L, w, hh, hu, hmk, hw, hht, hL9, hs1⟩ => ?_
  subst hu
  have n1 := ph1.next
  obtain ⟨hcov, hwid, hhei⟩ := hmk.cov (by omega) (by omega)
  have hok := hmk.ok (by omega) (by omega)
  have hchk := chk_ok (by omega) hok hcov
  have hw1 := hmk.w1
  have hh1 := hmk.h1
  have ht1 := ht.le ph1 (by omega)
  simp only [go_sem,reduceIte,Nat.reduceEqDiff,Nat.reduceLT]
  refine CallO_same (Q := fun v => v = .tuple #[.int .i64 (wid L), .int .i64 (hei L)]) (rMeasure_spec hs1 (by omega) hok) (by omega) fun u hu => ?_
  rw [hwid, hhei] at hu
  subst hu
  simp only [go_sem,reduceIte,Nat.reduceEqDiff,Nat.reduceLT]
  refine WK_loopN (fun j α h3 => ∃ x y : Nat, j = y + 1 ∧ h1 = h3 ∧ x ≤ 80 ∧ y ≤ 80 ∧ Nat.gcd x y = Nat.gcd w hh ∧ α.get 3 = some (.slice A1 L.length L.length) ∧ α.get 6 = some (.int .i64 (x : Int)) ∧ α.get 7 = some (.int .i64 (y : Int))) (hh + 1)
    ⟨w, hh, rfl, rfl, hw, hht, rfl, by simp only [go_sem,reduceIte,Nat.reduceEqDiff,Nat.reduceLT], by simp only [go_sem,reduceIte,Nat.reduceEqDiff,Nat.reduceLT], by simp only [go_sem,reduceIte,Nat.reduceEqDiff,Nat.reduceLT]⟩ (by omega) ?_
  rintro J j α h3 ⟨x, y, rfl, rfl, hx, hy, hgcd, e3, e6, e7⟩ hJ
  by_cases hy0 : (0 : Int) < (y : Int)
  · have hyn : ¬ ((y : Int) = 0) := by omega
    have hyd : decide ((y : Int) = 0) = false := decide_eq_false hyn
    simp (disch := omega) only [go_sem,reduceIte,Nat.reduceEqDiff,Nat.reduceLT, e3, e6, e7, hy0, hyd]
    refine WK_regionT 5 ⟨by kernel_rfl, by kernel_rfl, by kernel_rfl⟩ ?_
    simp (disch := omega) only [go_sem,reduceIte,Nat.reduceEqDiff,Nat.reduceLT, e3, e6, e7, binO_rem hyn, tm_nat]
    have hlt : x % y < y := Nat.mod_lt _ (by omega)
    exact hJ (x % y + 1) _ _ (by omega) ⟨y, x % y, rfl, rfl, by omega, by omega, by rw [← hgcd, Nat.gcd_comm x y, Nat.gcd_rec y x, Nat.gcd_comm], by simp only [go_sem,reduceIte,Nat.reduceEqDiff,Nat.reduceLT, e3], by (simp only [go_sem,reduceIte,Nat.reduceEqDiff,Nat.reduceLT]) <;> rfl, by (simp only [go_sem,reduceIte,Nat.reduceEqDiff,Nat.reduceLT]) <;> rfl⟩
  · obtain rfl : y = 0 := by omega
    by_cases hx1 : (1 : Int) < (x : Int)
    · simp (disch := omega) only [go_sem,reduceIte,Nat.reduceEqDiff,Nat.reduceLT, e3, e6, e7, hy0, hx1, k00]
      refine Call_lives ht1 (by omega) ?_
      simp only [go_sem,reduceIte,Nat.reduceEqDiff,Nat.reduceLT]
      exact hQ' _ _ ⟨ph1, rfl⟩
    · simp (disch := omega) only [go_sem,reduceIte,Nat.reduceEqDiff,Nat.reduceLT, e3, e6, e7, hy0, hx1]
      have hg1 : Nat.gcd w hh = 1 := by
        have : Nat.gcd w hh = x := by rw [← hgcd, Nat.gcd_zero_right]
        have h0 : 0 < Nat.gcd w hh := Nat.gcd_pos_of_pos_left _ (by omega)
        omega
      clear hJ
      refine CallO_f (Network_spec (by omega) hG3 (Nat.le_refl _) ht1 hs1 (by omega)) (by omega) fun u h4 ph4 hm => ?_
      have n4 := ph4.next
      rcases hm with ⟨he, _⟩ | ⟨_, Ls, D, hu, hsep, hcv, hLl, hsD⟩
      · exact absurd hchk he
      subst hu
      have hOl : (ordSq L).length = L.length := ordSq_perm.length_eq
      obtain ⟨O, hO⟩ : ∃ O, O = ordSq L := ⟨_, rfl⟩
      have hmkO : Mk O w hh := by rw [hO]; exact hmk.perm ordSq_perm
      have hmem : ∀ q, q ∈ L → q ∈ O := fun q hq => by rw [hO]; exact ordSq_perm.mem_iff.2 hq
      rw [← hO] at hOl hsD hLl hcv ⊢
      have net : Net O Ls w hh := ⟨fun q hq => by
          obtain ⟨a1, a2, a3, a4, a5⟩ := hmkO.inn q hq
          exact ⟨hmkO.ok (by omega) (by omega) q hq, a4, a5⟩, hmkO.pw, hmkO.ar, hsep, hcv⟩
      have hn2 := net.two (by omega) (by omega)
      have hw2 := wrs_lt net
      obtain ⟨W, hW⟩ : ∃ W, W = wrs Ls O := ⟨_, rfl⟩
      have hWl : W.length = O.length := by rw [hW]; exact wrs_len
      have htr := net.trees (by omega) (by omega) hg1
      rw [← hW] at hw2 htr
      obtain ⟨n, hnn⟩ : ∃ n, n = Ls.length := ⟨_, rfl⟩
      rw [← hnn] at hn2 hw2 htr hLl ⊢
      have hs4 := hs1.mono (B' := h4.blks) fun b _ hb => ph4.get b hb
      have ht4 := ht1.le ph4 (by omega)
      have t2 : ¬ ((n : Int) < 2) := by omega
      have t25 : ¬ ((25 : Int) < (n : Int)) := by omega
      have tl : decide ((O.length : Int) ≠ (L.length : Int)) = false := decide_eq_false fun g => g (by omega)
      simp (disch := omega) only [go_sem,reduceIte,Nat.reduceEqDiff,Nat.reduceLT, e3, k0, t2, t25, tl, len45, len22]
      refine Call_lives ht4 (by omega) ?_
      simp only [go_sem,reduceIte,Nat.reduceEqDiff,Nat.reduceLT]
      obtain ⟨bD, oD, rfl, _, _, _⟩ := hsD.at_ (by omega)
      -- the wires' ends are nodes
      refine WK_loopN (fun j α h5 => ∃ i : Nat, i + j = O.length ∧ h4 = h5 ∧ α.get 3 = some (.slice A1 L.length L.length) ∧ α.get 8 = some (.int .i64 (n : Int)) ∧ α.get 9 = some (.slice (some ⟨bD, oD, none⟩) O.length O.length) ∧ α.get 11 = some (.int .i64 (i : Int))) O.length
        ⟨0, by omega, rfl, by simp only [go_sem,reduceIte,Nat.reduceEqDiff,Nat.reduceLT, e3], by simp only [go_sem,reduceIte,Nat.reduceEqDiff,Nat.reduceLT], by simp only [go_sem,reduceIte,Nat.reduceEqDiff,Nat.reduceLT], by (simp only [go_sem,reduceIte,Nat.reduceEqDiff,Nat.reduceLT]) <;> rfl⟩ (by omega) ?_
      clear e3 e6 e7
      rintro J j α h5 ⟨i, hij, rfl, e3, e8, e9, e11⟩ hJ
      by_cases hlt : (i : Int) < (O.length : Int)
      · obtain ⟨e, he⟩ : ∃ e, W[i]? = some e := ⟨_, List.getElem?_eq_getElem (show i < W.length by omega)⟩
        obtain ⟨w1, w2⟩ := hw2 e (List.mem_of_getElem? he)
        obtain ⟨x1, x2⟩ := SlV.pr_load hsD (wirs_at (hW ▸ he)) wirs_len.symm
        simp only at x1 x2
        have g1 : ¬ ((e.1 : Int) < 0) := by omega
        have g2 : ¬ ((n : Int) ≤ (e.1 : Int)) := by omega
        have g3 : ¬ ((e.2 : Int) < 0) := by omega
        have g4 : ¬ ((n : Int) ≤ (e.2 : Int)) := by omega
        simp (maxSteps := 3000000) (disch := omega) only [go_sem,reduceIte,Nat.reduceEqDiff,Nat.reduceLT, e3, e8, e9, e11, hlt, len45, idxA45, fld51_0, fld51_1, Int.toNat_natCast, Nat.add_zero, load3, x1, x2, g1, g2, g3, g4, wrap_i64]
        exact hJ (j - 1) _ _ (by omega) ⟨i + 1, by omega, rfl, by simp only [go_sem,reduceIte,Nat.reduceEqDiff,Nat.reduceLT, e3], by simp only [go_sem,reduceIte,Nat.reduceEqDiff,Nat.reduceLT, e8], by simp only [go_sem,reduceIte,Nat.reduceEqDiff,Nat.reduceLT, e9], by (simp only [go_sem,reduceIte,Nat.reduceEqDiff,Nat.reduceLT]) <;> rfl⟩
      · simp (maxSteps := 3000000) (disch := omega) only [go_sem,reduceIte,Nat.reduceEqDiff,Nat.reduceLT, e3, e8, e9, e11, hlt, len45]
        clear hJ
        -- set after set
        obtain ⟨M, hM⟩ : ∃ M, M = 2 ^ O.length := ⟨_, rfl⟩
        have hM3 : M ≤ 512 := by rw [hM]; exact Nat.pow_le_pow_right (by decide) (show O.length ≤ 9 by omega) (n := 2)
        have hshl : binO Tryd.prog (En G) .shl 3 (some (.int .i64 1)) (some (.int .i64 (O.length : Int))) = some (.int .i64 (M : Int)) := by rw [hM]; exact bin_shl (by omega)
        refine WK_loopN (fun j α h5 => ∃ s : Nat, s + j = M ∧ Pres h4.next h4 h5 ∧ α.get 3 = some (.slice A1 L.length L.length) ∧ α.get 8 = some (.int .i64 (n : Int)) ∧ α.get 9 = some (.slice (some ⟨bD, oD, none⟩) O.length O.length) ∧ α.get 12 = some (.int .i64 (trN n W s)) ∧ α.get 13 = some (.int .i64 (s : Int))) M
          ⟨0, by omega, Pres.refl _ _, by simp only [go_sem,reduceIte,Nat.reduceEqDiff,Nat.reduceLT, e3], by simp only [go_sem,reduceIte,Nat.reduceEqDiff,Nat.reduceLT, e8], by simp only [go_sem,reduceIte,Nat.reduceEqDiff,Nat.reduceLT, e9], by (simp only [go_sem,reduceIte,Nat.reduceEqDiff,Nat.reduceLT]) <;> rfl, by (simp only [go_sem,reduceIte,Nat.reduceEqDiff,Nat.reduceLT]) <;> rfl⟩ (by omega) ?_
        clear e3 e8 e9 e11
        rintro J j α h5 ⟨s, hsj, pr5, e3, e8, e9, e12, e13⟩ hJ
        have n5 := pr5.next
        by_cases hlt : (s : Int) < (M : Int)
        · simp (maxSteps := 3000000) (disch := omega) only [go_sem,reduceIte,Nat.reduceEqDiff,Nat.reduceLT, e3, e8, e9, e12, e13, hlt, len45, hshl]
          refine At_make (k1 := .i64) (k2 := .i64) (l := n) (c := n) u27 i3 zero3 (by rw [size3, bytes3]; rfl) (by simp only [go_sem,reduceIte,Nat.reduceEqDiff,Nat.reduceLT, e8]) (by simp only [go_sem,reduceIte,Nat.reduceEqDiff,Nat.reduceLT, e8]) (Nat.le_refl _) (by rw [size3]; omega) (by omega) (by omega) fun h6 hn6 => ?_
          have hz6 : zeros (Value.int .i64 0).cells.toList n = intsL n fun _ => 0 := _root_.Go.Proofs.YtnhbkoeomefkdaaDoor.Ev.zeros_ints n
          rw [size3, hz6] at hn6
          have n6 := hn6.next
          have hf6 := hn6.slv (n := n) (c := n) (by rw [intsL_len]; simp)
          rw [n6] at hf6
          have pr6 : Pres h5.next h5 h6 := hn6.pres (Nat.le_refl _)
          obtain ⟨B, hB⟩ : ∃ B, B = h5.next := ⟨_, rfl⟩
          rw [← hB] at hf6 n6 pr6 ⊢
          simp only [go_sem,reduceIte,Nat.reduceEqDiff,Nat.reduceLT]
          -- each on its own
          refine WK_loopN (fun j α h7 => ∃ k : Nat, k + j = n ∧ h7.next = B + 1 ∧ Pres B h5 h7 ∧ SlV h7.blks B (B + 1) 1 n (intsL n fun x => if x < k then (x : Int) else 0) (.slice (some ⟨B, 0, none⟩) n n) ∧ α.get 3 = some (.slice A1 L.length L.length) ∧ α.get 8 = some (.int .i64 (n : Int)) ∧ α.get 9 = some (.slice (some ⟨bD, oD, none⟩) O.length O.length) ∧ α.get 12 = some (.int .i64 (trN n W s)) ∧ α.get 13 = some (.int .i64 (s : Int)) ∧ α.get 14 = some (.slice (some ⟨B, 0, none⟩) n n) ∧ α.get 15 = some (.int .i64 0) ∧ α.get 16 = some (.int .i64 (k : Int))) n
            ⟨0, by omega, n6, pr6, by rw [intsL_congr (f' := fun _ => 0) fun k _ => if_neg (Nat.not_lt_zero k)]; exact hf6, by simp only [go_sem,reduceIte,Nat.reduceEqDiff,Nat.reduceLT, e3], by simp only [go_sem,reduceIte,Nat.reduceEqDiff,Nat.reduceLT, e8], by simp only [go_sem,reduceIte,Nat.reduceEqDiff,Nat.reduceLT, e9], by simp only [go_sem,reduceIte,Nat.reduceEqDiff,Nat.reduceLT, e12], by simp only [go_sem,reduceIte,Nat.reduceEqDiff,Nat.reduceLT, e13], by (simp only [go_sem,reduceIte,Nat.reduceEqDiff,Nat.reduceLT]) <;> rfl, by (simp only [go_sem,reduceIte,Nat.reduceEqDiff,Nat.reduceLT]) <;> rfl, by (simp only [go_sem,reduceIte,Nat.reduceEqDiff,Nat.reduceLT]) <;> rfl⟩ (by omega) ?_
          clear e3 e8 e9 e12 e13
          rintro J2 j2 α h7 ⟨k, hkj, n7, pr7, hf7, e3, e8, e9, e12, e13, e14, e15, e16⟩ hJ2
          by_cases hlk : (k : Int) < (n : Int)
          · simp (maxSteps := 3000000) (disch := omega) only [go_sem,reduceIte,Nat.reduceEqDiff,Nat.reduceLT, e3, e8, e9, e12, e13, e14, e15, e16, hlk, idxA27, Int.toNat_natCast, Nat.mul_one]
            refine At_setInt (i := k) (z := (k : Int)) (by simp only [go_sem,reduceIte,Nat.reduceEqDiff,Nat.reduceLT]) (by simp only [go_sem,reduceIte,Nat.reduceEqDiff,Nat.reduceLT]) hf7 (by omega) (by omega) fun h8 hs8 hf8 => ?_
            have n8 := hs8.next
            simp (disch := omega) only [go_sem,reduceIte,Nat.reduceEqDiff,Nat.reduceLT, e16, wrap_i64]
            refine hJ2 (j2 - 1) _ _ (by omega) ⟨k + 1, by omega, by omega, pr7.trans (hs8.pres (Nat.le_refl _)), ?_, by simp only [go_sem,reduceIte,Nat.reduceEqDiff,Nat.reduceLT, e3], by simp only [go_sem,reduceIte,Nat.reduceEqDiff,Nat.reduceLT, e8], by simp only [go_sem,reduceIte,Nat.reduceEqDiff,Nat.reduceLT, e9], by simp only [go_sem,reduceIte,Nat.reduceEqDiff,Nat.reduceLT, e12], by simp only [go_sem,reduceIte,Nat.reduceEqDiff,Nat.reduceLT, e13], by simp only [go_sem,reduceIte,Nat.reduceEqDiff,Nat.reduceLT, e14], by simp only [go_sem,reduceIte,Nat.reduceEqDiff,Nat.reduceLT, e15], by (simp only [go_sem,reduceIte,Nat.reduceEqDiff,Nat.reduceLT]) <;> rfl⟩
            rw [intsL_congr (f' := fun r => if r = k then (k : Int) else if r < k then (r : Int) else 0) fun r hr => by
              by_cases g : r = k
              · subst g; rw [if_pos (by omega), if_pos rfl]
              · rw [if_neg g]
                by_cases g2 : r < k
                · rw [if_pos (by omega), if_pos g2]
                · rw [if_neg (by omega), if_neg g2]]
            exact hf8
          · simp (maxSteps := 3000000) (disch := omega) only [go_sem,reduceIte,Nat.reduceEqDiff,Nat.reduceLT, e3, e8, e9, e12, e13, e14, e15, e16, hlk]
            clear hJ2
            have hf7' : SlV h7.blks B (B + 1) 1 n (intsL n fun x => ((lab (chosen (W.take 0) s) x : Nat) : Int)) (.slice (some ⟨B, 0, none⟩) n n) := by
              rw [intsL_congr (f' := fun x => if x < k then (x : Int) else 0) fun x hx => by rw [if_pos (by omega)]; rfl]
              exact hf7
            have hend : ∀ (α' : Tr Value) (h8 : H), Pres B h5 h8 → α'.get 3 = some (.slice A1 L.length L.length) → α'.get 8 = some (.int .i64 (n : Int)) → α'.get 9 = some (.slice (some ⟨bD, oD, none⟩) O.length O.length) → α'.get 12 = some (.int .i64 (trN n W (s + 1))) → α'.get 13 = some (.int .i64 ((s + 1 : Nat) : Int)) → J α' h8 := fun α' h8 p8 a3 a8 a9 a12 a13 =>
              hJ (j - 1) _ _ (by omega) ⟨s + 1, by omega, pr5.trans (p8.le (by omega)), a3, a8, a9, a12, a13⟩
            have tb := trN_bd (n := n) (W := W) s
            -- wire after wire
            refine WK_loopN (fun j α h8 => ∃ i : Nat, i + j = O.length ∧ h8.next = B + 1 ∧ Pres B h5 h8 ∧ acyc (chosen (W.take i) s) id ∧ SlV h8.blks B (B + 1) 1 n (intsL n fun x => ((lab (chosen (W.take i) s) x : Nat) : Int)) (.slice (some ⟨B, 0, none⟩) n n) ∧ α.get 3 = some (.slice A1 L.length L.length) ∧ α.get 8 = some (.int .i64 (n : Int)) ∧ α.get 9 = some (.slice (some ⟨bD, oD, none⟩) O.length O.length) ∧ α.get 12 = some (.int .i64 (trN n W s)) ∧ α.get 13 = some (.int .i64 (s : Int)) ∧ α.get 14 = some (.slice (some ⟨B, 0, none⟩) n n) ∧ α.get 15 = some (.int .i64 ((chosen (W.take i) s).length : Int)) ∧ α.get 17 = some (.int .i64 (i : Int))) O.length
              ⟨0, by omega, n7, pr7, trivial, hf7', by simp only [go_sem,reduceIte,Nat.reduceEqDiff,Nat.reduceLT, e3], by simp only [go_sem,reduceIte,Nat.reduceEqDiff,Nat.reduceLT, e8], by simp only [go_sem,reduceIte,Nat.reduceEqDiff,Nat.reduceLT, e9], by simp only [go_sem,reduceIte,Nat.reduceEqDiff,Nat.reduceLT, e12], by simp only [go_sem,reduceIte,Nat.reduceEqDiff,Nat.reduceLT, e13], by simp only [go_sem,reduceIte,Nat.reduceEqDiff,Nat.reduceLT, e14], by (simp only [go_sem,reduceIte,Nat.reduceEqDiff,Nat.reduceLT, e15]) <;> rfl, by (simp only [go_sem,reduceIte,Nat.reduceEqDiff,Nat.reduceLT]) <;> rfl⟩ (by omega) ?_
            clear e3 e8 e9 e12 e13 e14 e15 e16 hf7 hf7'
            rintro J3 j3 α h8 ⟨i, hij8, n8, pr8, hac, hf8, e3, e8, e9, e12, e13, e14, e15, e17⟩ hJ3
            have hcl := chosen_len (W := W.take i) (s := s)
            rw [List.length_take] at hcl
            by_cases hli : (i : Int) < (O.length : Int)
            · obtain ⟨e, he⟩ : ∃ e, W[i]? = some e := ⟨_, List.getElem?_eq_getElem (show i < W.length by omega)⟩
              obtain ⟨w1, w2⟩ := hw2 e (List.mem_of_getElem? he)
              have hm0 : (0 : Int) ≤ ((chosen (W.take i) s).length : Int) := by omega
              have hshr : binO Tryd.prog (En G) .shr 3 (some (.int .i64 (s : Int))) (some (.int .i64 (i : Int))) = some (.int .i64 ((s >>> i : Nat) : Int)) := bin_shr (by omega)
              have hand := bit_and (G := G) (m := s) (i := i) (by omega)
              have hbe := bit_eq (m := s) (i := i)
              by_cases hb : s / 2 ^ i % 2 = 1
              · have hd : decide (((s >>> i &&& 1 : Nat) : Int) = 0) = false := by rw [hbe, hb]; rfl
                have hsD8 := hsD.mono (B' := h8.blks) fun b _ hb => (pr8.get b (by omega)).trans (pr5.get b hb)
                obtain ⟨x1, x2⟩ := SlV.pr_load hsD8 (wirs_at (hW ▸ he)) wirs_len.symm
                simp only at x1 x2
                obtain ⟨f, hf⟩ : ∃ f, f = lab (chosen (W.take i) s) := ⟨_, rfl⟩
                rw [← hf] at hf8
                have l1 := hf8.ints_at' w1
                have l2 := hf8.ints_at' w2
                simp (maxSteps := 3000000) (disch := omega) only [go_sem,reduceIte,Nat.reduceEqDiff,Nat.reduceLT, e3, e8, e9, e12, e13, e14, e15, e17, hli, hm0, len45, hshr, hand, hd]
                refine WK_regionT 17 ⟨by kernel_rfl, by kernel_rfl, by kernel_rfl⟩ ?_
                by_cases hr : f e.1 = f e.2
                · have hdr : decide (((f e.1 : Nat) : Int) = ((f e.2 : Nat) : Int)) = true := decide_eq_true (by rw [hr])
                  have d1 : decide ((-1 : Int) = (n : Int) - 1) = false := decide_eq_false (by omega)
                  simp (maxSteps := 3000000) (disch := omega) only [go_sem,reduceIte,Nat.reduceEqDiff,Nat.reduceLT, e3, e8, e9, e12, e13, e14, e15, e17, idxA45, idxA27, fld51_0, fld51_1, Int.toNat_natCast, Nat.mul_one, Nat.add_zero, load3, x1, x2, l1, l2, hdr, wrap_i64, d1]
                  have hno : trN n W (s + 1) = trN n W s := by
                    rw [trN_succ, if_neg (fun g => ring_met he hb (by rw [← hf]; exact hr) g.1), Int.add_zero]
                  exact hend _ _ pr8 (by simp only [go_sem,reduceIte,Nat.reduceEqDiff,Nat.reduceLT, e3]) (by simp only [go_sem,reduceIte,Nat.reduceEqDiff,Nat.reduceLT, e8]) (by simp only [go_sem,reduceIte,Nat.reduceEqDiff,Nat.reduceLT, e9]) (by simp only [go_sem,reduceIte,Nat.reduceEqDiff,Nat.reduceLT, e12, hno]) (by (simp only [go_sem,reduceIte,Nat.reduceEqDiff,Nat.reduceLT]) <;> rfl)
                · have hdr : decide (((f e.1 : Nat) : Int) = ((f e.2 : Nat) : Int)) = false := decide_eq_false (by omega)
                  obtain ⟨c1, c2, c3⟩ := acyc_snoc he hb hac (by rw [← hf]; exact hr)
                  simp (maxSteps := 3000000) (disch := omega) only [go_sem,reduceIte,Nat.reduceEqDiff,Nat.reduceLT, e3, e8, e9, e12, e13, e14, e15, e17, idxA45, idxA27, fld51_0, fld51_1, Int.toNat_natCast, Nat.mul_one, Nat.add_zero, load3, x1, x2, l1, l2, hdr]
                  refine WK_loopN (fun j α h9 => ∃ k : Nat, k + j = n ∧ h9.next = B + 1 ∧ Pres B h5 h9 ∧ SlV h9.blks B (B + 1) 1 n (intsL n fun x => if x < k then ((mrg f e x : Nat) : Int) else ((f x : Nat) : Int)) (.slice (some ⟨B, 0, none⟩) n n) ∧ α.get 3 = some (.slice A1 L.length L.length) ∧ α.get 8 = some (.int .i64 (n : Int)) ∧ α.get 9 = some (.slice (some ⟨bD, oD, none⟩) O.length O.length) ∧ α.get 12 = some (.int .i64 (trN n W s)) ∧ α.get 13 = some (.int .i64 (s : Int)) ∧ α.get 14 = some (.slice (some ⟨B, 0, none⟩) n n) ∧ α.get 15 = some (.int .i64 ((chosen (W.take i) s).length : Int)) ∧ α.get 17 = some (.int .i64 (i : Int)) ∧ α.get 18 = some (.int .i64 ((f e.1 : Nat) : Int)) ∧ α.get 19 = some (.int .i64 ((f e.2 : Nat) : Int)) ∧ α.get 20 = some (.int .i64 (k : Int))) n
                    ⟨0, by omega, n8, pr8, by rw [intsL_congr (f' := fun x => ((f x : Nat) : Int)) fun x _ => if_neg (Nat.not_lt_zero x)]; exact hf8, by simp only [go_sem,reduceIte,Nat.reduceEqDiff,Nat.reduceLT, e3], by simp only [go_sem,reduceIte,Nat.reduceEqDiff,Nat.reduceLT, e8], by simp only [go_sem,reduceIte,Nat.reduceEqDiff,Nat.reduceLT, e9], by simp only [go_sem,reduceIte,Nat.reduceEqDiff,Nat.reduceLT, e12], by simp only [go_sem,reduceIte,Nat.reduceEqDiff,Nat.reduceLT, e13], by simp only [go_sem,reduceIte,Nat.reduceEqDiff,Nat.reduceLT, e14], by simp only [go_sem,reduceIte,Nat.reduceEqDiff,Nat.reduceLT, e15], by simp only [go_sem,reduceIte,Nat.reduceEqDiff,Nat.reduceLT, e17], by (simp only [go_sem,reduceIte,Nat.reduceEqDiff,Nat.reduceLT]) <;> rfl, by (simp only [go_sem,reduceIte,Nat.reduceEqDiff,Nat.reduceLT]) <;> rfl, by (simp only [go_sem,reduceIte,Nat.reduceEqDiff,Nat.reduceLT]) <;> rfl⟩ (by omega) ?_
                  clear e3 e8 e9 e12 e13 e14 e15 e17
                  rintro J4 j4 α h9 ⟨k4, hk4, n9, pr9, hf9, e3, e8, e9, e12, e13, e14, e15, e17, e18, e19, e20⟩ hJ4
                  by_cases hl4 : (k4 : Int) < (n : Int)
                  · have l4 := hf9.ints_at' (j := k4) (by omega)
                    rw [if_neg (Nat.lt_irrefl _)] at l4
                    by_cases ha : f k4 = f e.1
                    · have hda : decide (((f k4 : Nat) : Int) = ((f e.1 : Nat) : Int)) = true := decide_eq_true (by rw [ha])
                      have hmr : mrg f e k4 = f e.2 := if_pos ha
                      simp (maxSteps := 3000000) (disch := omega) only [go_sem,reduceIte,Nat.reduceEqDiff,Nat.reduceLT, e3, e8, e9, e12, e13, e14, e15, e17, e18, e19, e20, hl4, idxA27, Int.toNat_natCast, Nat.mul_one, load3, l4, hda]
                      refine At_setInt (i := k4) (z := ((f e.2 : Nat) : Int)) (by simp only [go_sem,reduceIte,Nat.reduceEqDiff,Nat.reduceLT]) (by simp only [go_sem,reduceIte,Nat.reduceEqDiff,Nat.reduceLT]) hf9 (by omega) (by omega) fun h10 hs10 hf10 => ?_
                      have n10 := hs10.next
                      simp (disch := omega) only [go_sem,reduceIte,Nat.reduceEqDiff,Nat.reduceLT, e20, wrap_i64]
                      refine hJ4 (j4 - 1) _ _ (by omega) ⟨k4 + 1, by omega, by omega, pr9.trans (hs10.pres (Nat.le_refl _)), ?_, by simp only [go_sem,reduceIte,Nat.reduceEqDiff,Nat.reduceLT, e3], by simp only [go_sem,reduceIte,Nat.reduceEqDiff,Nat.reduceLT, e8], by simp only [go_sem,reduceIte,Nat.reduceEqDiff,Nat.reduceLT, e9], by simp only [go_sem,reduceIte,Nat.reduceEqDiff,Nat.reduceLT, e12], by simp only [go_sem,reduceIte,Nat.reduceEqDiff,Nat.reduceLT, e13], by simp only [go_sem,reduceIte,Nat.reduceEqDiff,Nat.reduceLT, e14], by simp only [go_sem,reduceIte,Nat.reduceEqDiff,Nat.reduceLT, e15], by simp only [go_sem,reduceIte,Nat.reduceEqDiff,Nat.reduceLT, e17], by simp only [go_sem,reduceIte,Nat.reduceEqDiff,Nat.reduceLT, e18], by simp only [go_sem,reduceIte,Nat.reduceEqDiff,Nat.reduceLT, e19], by (simp only [go_sem,reduceIte,Nat.reduceEqDiff,Nat.reduceLT]) <;> rfl⟩
                      rw [intsL_congr (f' := fun r => if r = k4 then ((f e.2 : Nat) : Int) else if r < k4 then ((mrg f e r : Nat) : Int) else ((f r : Nat) : Int)) fun r hr => by
                        by_cases g : r = k4
                        · subst g; rw [if_pos (by omega), if_pos rfl, hmr]
                        · rw [if_neg g]
                          by_cases g2 : r < k4
                          · rw [if_pos (by omega), if_pos g2]
                          · rw [if_neg (by omega), if_neg g2]]
                      exact hf10
                    · have hda : decide (((f k4 : Nat) : Int) = ((f e.1 : Nat) : Int)) = false := decide_eq_false (by omega)
                      have hmr : mrg f e k4 = f k4 := if_neg ha
                      simp (maxSteps := 3000000) (disch := omega) only [go_sem,reduceIte,Nat.reduceEqDiff,Nat.reduceLT, e3, e8, e9, e12, e13, e14, e15, e17, e18, e19, e20, hl4, idxA27, Int.toNat_natCast, Nat.mul_one, load3, l4, hda, wrap_i64]
                      refine hJ4 (j4 - 1) _ _ (by omega) ⟨k4 + 1, by omega, n9, pr9, ?_, by simp only [go_sem,reduceIte,Nat.reduceEqDiff,Nat.reduceLT, e3], by simp only [go_sem,reduceIte,Nat.reduceEqDiff,Nat.reduceLT, e8], by simp only [go_sem,reduceIte,Nat.reduceEqDiff,Nat.reduceLT, e9], by simp only [go_sem,reduceIte,Nat.reduceEqDiff,Nat.reduceLT, e12], by simp only [go_sem,reduceIte,Nat.reduceEqDiff,Nat.reduceLT, e13], by simp only [go_sem,reduceIte,Nat.reduceEqDiff,Nat.reduceLT, e14], by simp only [go_sem,reduceIte,Nat.reduceEqDiff,Nat.reduceLT, e15], by simp only [go_sem,reduceIte,Nat.reduceEqDiff,Nat.reduceLT, e17], by simp only [go_sem,reduceIte,Nat.reduceEqDiff,Nat.reduceLT, e18], by simp only [go_sem,reduceIte,Nat.reduceEqDiff,Nat.reduceLT, e19], by (simp only [go_sem,reduceIte,Nat.reduceEqDiff,Nat.reduceLT]) <;> rfl⟩
                      rw [intsL_congr (f' := fun r => if r < k4 then ((mrg f e r : Nat) : Int) else ((f r : Nat) : Int)) fun r hr => by
                        by_cases g : r = k4
                        · subst g; rw [if_pos (by omega), if_neg (by omega), hmr]
                        · by_cases g2 : r < k4
                          · rw [if_pos (by omega), if_pos g2]
                          · rw [if_neg (by omega), if_neg g2]]
                      exact hf9
                  · simp (maxSteps := 3000000) (disch := omega) only [go_sem,reduceIte,Nat.reduceEqDiff,Nat.reduceLT, e3, e8, e9, e12, e13, e14, e15, e17, e18, e19, e20, hl4, wrap_i64]
                    have hcl2 : ((chosen (W.take i) s).length : Int) + 1 = ((chosen (W.take (i + 1)) s).length : Int) := by rw [c1]; simp
                    refine hJ3 (j3 - 1) _ _ (by omega) ⟨i + 1, by omega, n9, pr9, c2, ?_, by simp only [go_sem,reduceIte,Nat.reduceEqDiff,Nat.reduceLT, e3], by simp only [go_sem,reduceIte,Nat.reduceEqDiff,Nat.reduceLT, e8], by simp only [go_sem,reduceIte,Nat.reduceEqDiff,Nat.reduceLT, e9], by simp only [go_sem,reduceIte,Nat.reduceEqDiff,Nat.reduceLT, e12], by simp only [go_sem,reduceIte,Nat.reduceEqDiff,Nat.reduceLT, e13], by simp only [go_sem,reduceIte,Nat.reduceEqDiff,Nat.reduceLT, e14], by (simp only [go_sem,reduceIte,Nat.reduceEqDiff,Nat.reduceLT]) <;> (rw [hcl2]), by (simp only [go_sem,reduceIte,Nat.reduceEqDiff,Nat.reduceLT]) <;> rfl⟩
                    rw [c3, ← hf, intsL_congr (f' := fun x => if x < k4 then ((mrg f e x : Nat) : Int) else ((f x : Nat) : Int)) fun x hx => by rw [if_pos (by omega)]]
                    exact hf9
              · have hb0 : s / 2 ^ i % 2 = 0 := by omega
                have hd : decide (((s >>> i &&& 1 : Nat) : Int) = 0) = true := by rw [hbe, hb0]; rfl
                have hsame := chosen_same he hb
                simp (maxSteps := 3000000) (disch := omega) only [go_sem,reduceIte,Nat.reduceEqDiff,Nat.reduceLT, e3, e8, e9, e12, e13, e14, e15, e17, hli, hm0, len45, hshr, hand, hd, wrap_i64]
                exact hJ3 (j3 - 1) _ _ (by omega) ⟨i + 1, by omega, n8, pr8, by rw [hsame]; exact hac, by rw [hsame]; exact hf8, by simp only [go_sem,reduceIte,Nat.reduceEqDiff,Nat.reduceLT, e3], by simp only [go_sem,reduceIte,Nat.reduceEqDiff,Nat.reduceLT, e8], by simp only [go_sem,reduceIte,Nat.reduceEqDiff,Nat.reduceLT, e9], by simp only [go_sem,reduceIte,Nat.reduceEqDiff,Nat.reduceLT, e12], by simp only [go_sem,reduceIte,Nat.reduceEqDiff,Nat.reduceLT, e13], by simp only [go_sem,reduceIte,Nat.reduceEqDiff,Nat.reduceLT, e14], by rw [hsame]; simp only [go_sem,reduceIte,Nat.reduceEqDiff,Nat.reduceLT, e15], by (simp only [go_sem,reduceIte,Nat.reduceEqDiff,Nat.reduceLT]) <;> rfl⟩
            · have hi : W.take i = W := List.take_of_length_le (by omega)
              rw [hi] at hac e15 hcl
              by_cases hmn : ((chosen W s).length : Int) = (n : Int) - 1
              · have d1 : decide (((chosen W s).length : Int) = (n : Int) - 1) = true := decide_eq_true hmn
                have hone : trN n W (s + 1) = trN n W s + 1 := by rw [trN_succ, if_pos ⟨hac, by omega⟩]
                simp (maxSteps := 3000000) (disch := omega) only [go_sem,reduceIte,Nat.reduceEqDiff,Nat.reduceLT, e3, e8, e9, e12, e13, e14, e15, e17, hli, len45, wrap_i64, d1]
                exact hend _ _ pr8 (by simp only [go_sem,reduceIte,Nat.reduceEqDiff,Nat.reduceLT, e3]) (by simp only [go_sem,reduceIte,Nat.reduceEqDiff,Nat.reduceLT, e8]) (by simp only [go_sem,reduceIte,Nat.reduceEqDiff,Nat.reduceLT, e9]) (by simp only [go_sem,reduceIte,Nat.reduceEqDiff,Nat.reduceLT, hone]) (by (simp only [go_sem,reduceIte,Nat.reduceEqDiff,Nat.reduceLT]) <;> rfl)
              · have d1 : decide (((chosen W s).length : Int) = (n : Int) - 1) = false := decide_eq_false hmn
                have hno : trN n W (s + 1) = trN n W s := by rw [trN_succ, if_neg (fun g => hmn (by have := g.2; omega)), Int.add_zero]
                simp (maxSteps := 3000000) (disch := omega) only [go_sem,reduceIte,Nat.reduceEqDiff,Nat.reduceLT, e3, e8, e9, e12, e13, e14, e15, e17, hli, len45, wrap_i64, d1]
                exact hend _ _ pr8 (by simp only [go_sem,reduceIte,Nat.reduceEqDiff,Nat.reduceLT, e3]) (by simp only [go_sem,reduceIte,Nat.reduceEqDiff,Nat.reduceLT, e8]) (by simp only [go_sem,reduceIte,Nat.reduceEqDiff,Nat.reduceLT, e9]) (by simp only [go_sem,reduceIte,Nat.reduceEqDiff,Nat.reduceLT, e12, hno]) (by (simp only [go_sem,reduceIte,Nat.reduceEqDiff,Nat.reduceLT]) <;> rfl)
        · obtain rfl : s = M := by omega
          simp (maxSteps := 3000000) (disch := omega) only [go_sem,reduceIte,Nat.reduceEqDiff,Nat.reduceLT, e3, e8, e9, e12, e13, hlt, len45, hshl]
          have hall : trN n W s = trees n W := by rw [hM, ← hWl]; exact trN_all
          rw [hall] at e12
          clear hJ
          have hs5 := hs4.mono (B' := h5.blks) fun b _ hb => pr5.get b (by omega)
          refine WK_loopN (fun j α h6 => ∃ i : Nat, i + j = L.length ∧ h5 = h6 ∧ α.get 3 = some (.slice A1 L.length L.length) ∧ α.get 12 = some (.int .i64 (trees n W)) ∧ α.get 21 = some (.int .i64 (i : Int))) L.length
            ⟨0, by omega, rfl, by simp only [go_sem,reduceIte,Nat.reduceEqDiff,Nat.reduceLT, e3], by simp only [go_sem,reduceIte,Nat.reduceEqDiff,Nat.reduceLT, e12], by (simp only [go_sem,reduceIte,Nat.reduceEqDiff,Nat.reduceLT]) <;> rfl⟩ (by omega) ?_
          clear e3 e8 e9 e12 e13
          rintro J j α h6 ⟨i, hij, rfl, e3, e12, e21⟩ hJ
          by_cases hlt : (i : Int) < (L.length : Int)
          · obtain ⟨q, hq⟩ : ∃ q, L[i]? = some q := ⟨_, List.getElem?_eq_getElem (show i < L.length by omega)⟩
            obtain ⟨b1, o1, rfl, _, _, _⟩ := hs5.at_ (by omega)
            obtain ⟨_, _, _, q2⟩ := hs5.sq_at (G := G) hq rfl
            have hle := htr q (hmem q (List.mem_of_getElem? hq))
            have g1 : ¬ (trees n W < q.2.2) := by omega
            simp (maxSteps := 3000000) (disch := omega) only [go_sem,reduceIte,Nat.reduceEqDiff,Nat.reduceLT, e3, e12, e21, hlt, len22, idxA22, fld61_2, Int.toNat_natCast, load3, q2, g1, wrap_i64]
            exact hJ (j - 1) _ _ (by omega) ⟨i + 1, by omega, rfl, by simp only [go_sem,reduceIte,Nat.reduceEqDiff,Nat.reduceLT, e3], by simp only [go_sem,reduceIte,Nat.reduceEqDiff,Nat.reduceLT, e12], by (simp only [go_sem,reduceIte,Nat.reduceEqDiff,Nat.reduceLT]) <;> rfl⟩
          · simp (maxSteps := 3000000) (disch := omega) only [go_sem,reduceIte,Nat.reduceEqDiff,Nat.reduceLT, e3, e12, e21, hlt, len22]
            exact hQ' _ _ ⟨ph1.trans ((ph4.le (by omega)).trans (pr5.le (by omega))), rfl⟩
end
end Go.Proofs.YtnhbkoeomefkdaaDoor.Ev.L

