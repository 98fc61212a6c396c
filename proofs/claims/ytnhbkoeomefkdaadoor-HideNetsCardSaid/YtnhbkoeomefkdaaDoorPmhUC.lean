/- The reference's network. -/
import Derived.Test.YtnhbkoeomefkdaaDoorPmhU6
import Derived.Test.YtnhbkoeomefkdaaDoorPmhQQ
import Derived.Test.YtnhbkoeomefkdaaDoorPmBt
import Derived.Test.YtnhbkoeomefkdaaDoorPmDr
import Derived.Test.YtnhbkoeomefkdaaDoorPmhHH
import Derived.Test.YtnhbkoeomefkdaaDoorPmhA8
set_option linter.unusedVariables false
set_option linter.unusedSimpArgs false
namespace Go.Proofs.YtnhbkoeomefkdaaDoor.Ev.L
open Go Go.Proofs Go.Proofs.YtnhbkoeomefkdaaDoor.Ev
noncomputable section

theorem build51_0 {G : Nat} : buildO (En G) 51 (some []) = some (prv (0, 0)) := by
  have hu : (En G).u 51 = _ := us51.trans Tryd.underlying51
  simp only [buildO, evBuild, i51, hu, zero51, places, i3, size3]
  rfl
/-- the number, where it has come by -/
def lst (i k : Nat) : Int := if i < k then (i : Int) else 0
theorem lst_eq {k : Nat} : lst k (k + 1) = (k : Int) := if_pos (Nat.lt_succ_self _)
theorem lst_ne {i k : Nat} (h : k ≠ i) : lst i (k + 1) = lst i k := by
  unfold lst
  by_cases g : i < k
  · rw [if_pos g, if_pos (by omega)]
  · rw [if_neg g, if_neg (by omega)]
theorem lst_all {i k : Nat} (h : i < k) : lst i k = (i : Int) := if_pos h
theorem onto_iff {S : List Sq} {q l0 l : Sq} {y : Int} {i k : Nat} (h1 : S[i]? = some l0) (h2 : onL l0 q.1 y) (h3 : q.1 + q.2.2 ≤ l0.2.2) (h4 : ∀ (j : Nat) (p : Sq), S[j]? = some p → onL p q.1 y → j = i) (hp : 1 ≤ q.2.2) (hl : S[k]? = some l) :
    (l.2.1 ≤ q.1 ∧ q.1 + q.2.2 ≤ l.2.2 ∧ l.1 = y) ↔ k = i := by
  constructor
  · rintro ⟨a, b, c⟩
    exact h4 k l hl ⟨c, a, by omega⟩
  · rintro rfl
    rw [h1] at hl
    cases hl
    exact ⟨h2.2.1, h3, h2.1⟩
theorem lst_onto {L O S : List Sq} (s : LSt L (2 * L.length) S) (hp : O.Perm L) (hok : ∀ q ∈ L, okSq q) : Onto2 S O := by
  refine onto_of s.sep (fun y x => ?_) fun q hq => hok q (hp.mem_iff.1 hq)
  rw [s.cv, ← edg_perm hp.symm, List.take_of_length_le (by rw [edg_len]; omega)]

set_option maxRecDepth 100000 in
set_option maxHeartbeats 64000000 in
theorem refNetwork_spec {G lo hi c : Nat} {L : List Sq} {A : Option Addr} {h : H} (hG : G ≤ h.next) (hG3 : 3 ≤ G) (hhi : hi ≤ h.next) (hv : SlV h.blks lo hi 3 L.length (sqc L) (.slice A L.length c)) (hl : L.length ≤ 24) (hok : ∀ q ∈ L, okSq q) :
    Spec Tryd.prog (En G) 27 [.slice A L.length c] h fun v h' => ∃ (S O : List Sq) (D : Option Addr), v = .tuple #[.int .i64 (S.length : Int), .slice D O.length O.length] ∧ O.Perm L ∧ Srt O ∧ LSt L (2 * L.length) S ∧ SlV h'.blks h.next h'.next 2 O.length (prc (wirs S O)) (.slice D O.length O.length) := by
  refine CallsE_enter (En_known (by decide)) (En_f.trans Tryd.func27) rfl ⟨Nat.le_of_ble_eq_true rfl, by decide⟩ fun Q' hQ' => ?_
  simp only [Tryd.f27, go_sem,reduceIte,Nat.reduceEqDiff,Nat.reduceLT]
  refine CallO_f (Lines_spec hG hG3 hhi hv hl hok) (by omega) fun u h1 pr1 ⟨S, B, hu, hS, hsS⟩ => ?_
  subst hu
  have n1 := pr1.next
  try simp only [go_sem,reduceIte,Nat.reduceEqDiff,Nat.reduceLT]
  refine CallO_f (Order_spec (h := h1) (by omega) (by omega) (hv.mono fun b _ hb => pr1.get b (by omega)) (by omega)) (by omega) fun u h2 pr2 ⟨C, O, hu, hpm, hsr, hsO⟩ => ?_
  subst hu
  have n2 := pr2.next
  have hOl : O.length = L.length := hpm.length_eq
  rw [← hOl] at hsO
  have hokO : ∀ q ∈ O, okSq q := fun q hq => hok q (hpm.mem_iff.1 hq)
  have hon := lst_onto hS hpm hok
  have hSl := hS.len
  rw [← hOl]
  try simp only [go_sem,reduceIte,Nat.reduceEqDiff,Nat.reduceLT]
  refine At_lit0 u45 i51 zero51 (by rw [size51]; rfl) (by omega) ?_
  try simp only [go_sem,reduceIte,Nat.reduceEqDiff,Nat.reduceLT]
  have hsS2 := hsS.mono (B' := h2.blks) fun b _ hb => pr2.get b hb
  refine WK_loopN (fun j α h3 => ∃ (i : Nat) (D : Option Addr), i + j = O.length ∧ Pres h2.next h2 h3 ∧ SlV h3.blks h2.next h3.next 2 i (prc (wirs S (O.take i))) (.slice D i i) ∧ α.get 4 = some (.slice B S.length S.length) ∧ α.get 5 = some (.slice C O.length O.length) ∧ α.get 6 = some (.slice D i i) ∧ α.get 7 = some (.int .i64 (i : Int))) O.length
    ⟨0, some ⟨0, 0, some 0⟩, by omega, Pres.refl _ _, .emp rfl rfl, by simp only [go_sem,reduceIte,Nat.reduceEqDiff,Nat.reduceLT], by simp only [go_sem,reduceIte,Nat.reduceEqDiff,Nat.reduceLT], by (simp only [go_sem,reduceIte,Nat.reduceEqDiff,Nat.reduceLT]) <;> rfl, by (simp only [go_sem,reduceIte,Nat.reduceEqDiff,Nat.reduceLT]) <;> rfl⟩ (by omega) ?_
  rintro J j α h3 ⟨i, D, hij, pr, hs, e4, e5, e6, e7⟩ hJ
  have n3 := pr.next
  by_cases hlt : (i : Int) < (O.length : Int)
  · obtain ⟨q, hq⟩ : ∃ q, O[i]? = some q := ⟨_, List.getElem?_eq_getElem (show i < O.length by omega)⟩
    have hqm := List.mem_of_getElem? hq
    obtain ⟨qa1, qa2, ⟨qa3, qa4⟩, qa5, qa6⟩ := hokO q hqm
    obtain ⟨⟨i1, l1, a1, a2, a4, a3⟩, ⟨i2, l2, b1, b2, b4, b3⟩⟩ := hon q hqm
    have hsO3 := hsO.mono (B' := h3.blks) fun b _ hb => pr.get b hb
    obtain ⟨bO, oO, rfl, hbO1, hbO2, _⟩ := hsO3.at_ (by omega)
    have hi1 : i1 < S.length := (List.getElem?_eq_some_iff.1 a1).1
    have hi2 : i2 < S.length := (List.getElem?_eq_some_iff.1 b1).1
    obtain ⟨bS, oS, rfl, hbS1, hbS2, _⟩ := hsS2.at_ (by omega)
    simp (maxSteps := 3000000) (disch := omega) only [go_sem,reduceIte,Nat.reduceEqDiff,Nat.reduceLT, e4, e5, e6, e7, hlt, len22, build51_0]
    refine At_alloc i51 zero51 rfl (by omega) fun h4 hn4 => ?_
    have n4 := hn4.next
    have w4 := hn4.var
    rw [prv_cells] at w4
    have p4 : Pres h3.next h3 h4 := hn4.pres (Nat.le_refl _)
    try simp only [go_sem,reduceIte,Nat.reduceEqDiff,Nat.reduceLT]
    refine At_storeV (v := prv (0, 0)) i51 (by simp only [go_sem,reduceIte,Nat.reduceEqDiff,Nat.reduceLT]) (by (simp only [go_sem,reduceIte,Nat.reduceEqDiff,Nat.reduceLT]) <;> rfl) w4 (by rw [size51]; rfl) (by rw [size51]; rfl) rfl (by rw [En_G]; omega) fun h5 hs5 v5 => ?_
    rw [prv_cells] at v5
    have p5 : Pres h3.next h3 h5 := p4.trans (hs5.pres (Nat.le_refl _))
    have n5 : h5.next = h4.next := hs5.next
    simp (maxSteps := 3000000) (disch := omega) only [go_sem,reduceIte,Nat.reduceEqDiff,Nat.reduceLT]
    refine WK_loopN (fun j α h6 => ∃ k : Nat, k + j = S.length ∧ Pres h3.next h3 h6 ∧ h5.next ≤ h6.next ∧ Var h6.blks h3.next [.int .i64 (lst i1 k), .int .i64 (lst i2 k)] ∧ α.get 4 = some (.slice (some ⟨bS, oS, none⟩) S.length S.length) ∧ α.get 5 = some (.slice (some ⟨bO, oO, none⟩) O.length O.length) ∧ α.get 6 = some (.slice D i i) ∧ α.get 7 = some (.int .i64 (i : Int)) ∧ α.get 8 = some (.pointer (some ⟨h3.next, 0, none⟩)) ∧ α.get 9 = some (.int .i64 (k : Int))) S.length
      ⟨0, by omega, p5, Nat.le_refl _, v5, by simp only [go_sem,reduceIte,Nat.reduceEqDiff,Nat.reduceLT, e4], by simp only [go_sem,reduceIte,Nat.reduceEqDiff,Nat.reduceLT, e5], by simp only [go_sem,reduceIte,Nat.reduceEqDiff,Nat.reduceLT, e6], by simp only [go_sem,reduceIte,Nat.reduceEqDiff,Nat.reduceLT, e7], by simp only [go_sem,reduceIte,Nat.reduceEqDiff,Nat.reduceLT], by (simp only [go_sem,reduceIte,Nat.reduceEqDiff,Nat.reduceLT]) <;> rfl⟩ (by omega) ?_
    clear e4 e5 e6 e7
    rintro J2 j2 α h6 ⟨k, hkj, p6, nx6, v6, e4, e5, e6, e7, e8, e9⟩ hJ2
    have n6 := p6.next
    by_cases hk : (k : Int) < (S.length : Int)
    · obtain ⟨l, hlk⟩ : ∃ l, S[k]? = some l := ⟨_, List.getElem?_eq_getElem (show k < S.length by omega)⟩
      have hU := onto_iff a1 a2 a4 a3 qa1 hlk
      have hL := onto_iff b1 b2 b4 b3 qa1 hlk
      have hsS6 := hsS2.mono (B' := h6.blks) fun b _ hb => (p6.get b (by omega)).trans (pr.get b (by omega))
      have hsO6 := hsO3.mono (B' := h6.blks) fun b _ hb => p6.get b (by omega)
      obtain ⟨_, s0, s1, s2⟩ := hsS6.sq_at (G := G) hlk rfl
      obtain ⟨_, o0, o1, o2⟩ := hsO6.sq_at (G := G) hq rfl
      simp (maxSteps := 3000000) (disch := omega) only [go_sem,reduceIte,Nat.reduceEqDiff,Nat.reduceLT, e4, e5, e6, e7, e8, e9, hk, len80]
      refine WK_regionT 28 ⟨by kernel_rfl, by kernel_rfl, by kernel_rfl⟩ ?_
      by_cases c1 : l.2.1 ≤ q.1
      · by_cases c2 : q.1 + q.2.2 ≤ l.2.2
        · simp (maxSteps := 3000000) (disch := omega) only [go_sem,reduceIte,Nat.reduceEqDiff,Nat.reduceLT, e4, e5, e6, e7, e8, e9, idxA80, idxA22, Int.toNat_natCast, fld83_0, fld83_1, fld83_2, fld61_0, fld61_1, fld61_2, Nat.add_zero, Nat.zero_add, load3, s0, s1, s2, o0, o1, o2, wrap_i64, c1, c2]
          refine WK_regionT 10 ⟨by kernel_rfl, by kernel_rfl, by kernel_rfl⟩ ?_
          by_cases c3 : l.1 = q.2.1
          · obtain rfl := hU.1 ⟨c1, c2, c3⟩
            have hn2 : k ≠ i2 := fun e => by have := (hL.2 e).2.2; omega
            have d3 : decide (l.1 = q.2.1) = true := decide_eq_true c3
            have d4 : decide (l.1 = q.2.1 + q.2.2) = false := decide_eq_false fun g => by omega
            simp (maxSteps := 3000000) (disch := omega) only [go_sem,reduceIte,Nat.reduceEqDiff,Nat.reduceLT, e4, e5, e6, e7, e8, e9, idxA80, idxA22, Int.toNat_natCast, fld83_0, fld83_1, fld83_2, fld61_0, fld61_1, fld61_2, fld51_0, Nat.add_zero, Nat.zero_add, load3, s0, s1, s2, o0, o1, o2, wrap_i64, d3]
            have v6' := v6
            obtain ⟨cls, es, gb, _⟩ := v6
            refine At_store (inf := inf3) (b := h3.next) (off := 0) (v := .int .i64 (k : Int)) i3 (by simp only [go_sem,reduceIte,Nat.reduceEqDiff,Nat.reduceLT]) (by (simp only [go_sem,reduceIte,Nat.reduceEqDiff,Nat.reduceLT, e9]) <;> rfl) (by rw [size3]; rfl) rfl gb (by rw [size3]; show 0 + 1 ≤ 2; omega) (by rw [En_G]; omega) fun h7 hs7 => ?_
            have v7 : Var h7.blks h3.next [.int .i64 (k : Int), .int .i64 (lst i2 k)] := hs7.varAt v6' (by show 0 + 1 ≤ 2; omega)
            have n7 := hs7.next
            have p7 : Pres h3.next h3 h7 := p6.trans ((hs7.pres (Nat.le_refl _)).le (Nat.le_refl _))
            have hsS7 := hsS6.mono (B' := h7.blks) fun b _ hb => hs7.get b (by omega)
            have hsO7 := hsO6.mono (B' := h7.blks) fun b _ hb => hs7.get b (by omega)
            obtain ⟨_, s0, s1, s2⟩ := hsS7.sq_at (G := G) hlk rfl
            obtain ⟨_, o0, o1, o2⟩ := hsO7.sq_at (G := G) hq rfl
            try simp only [go_sem,reduceIte,Nat.reduceEqDiff,Nat.reduceLT]
            refine WK_regionT 16 ⟨by kernel_rfl, by kernel_rfl, by kernel_rfl⟩ ?_
            simp (maxSteps := 3000000) (disch := omega) only [go_sem,reduceIte,Nat.reduceEqDiff,Nat.reduceLT, e4, e5, e6, e7, e8, e9, idxA80, idxA22, Int.toNat_natCast, fld83_0, fld83_1, fld83_2, fld61_0, fld61_1, fld61_2, Nat.add_zero, Nat.zero_add, load3, s0, s1, s2, o0, o1, o2, wrap_i64, d4]
            exact hJ2 (j2 - 1) _ _ (by omega) ⟨k + 1, by omega, p7, by omega, by rw [lst_eq, lst_ne hn2]; exact v7, by simp only [go_sem,reduceIte,Nat.reduceEqDiff,Nat.reduceLT, e4], by simp only [go_sem,reduceIte,Nat.reduceEqDiff,Nat.reduceLT, e5], by simp only [go_sem,reduceIte,Nat.reduceEqDiff,Nat.reduceLT, e6], by simp only [go_sem,reduceIte,Nat.reduceEqDiff,Nat.reduceLT, e7], by simp only [go_sem,reduceIte,Nat.reduceEqDiff,Nat.reduceLT, e8], by (simp only [go_sem,reduceIte,Nat.reduceEqDiff,Nat.reduceLT]) <;> rfl⟩
          · have hn1 : k ≠ i1 := fun e => c3 (hU.2 e).2.2
            have d3 : decide (l.1 = q.2.1) = false := decide_eq_false c3
            simp (maxSteps := 3000000) (disch := omega) only [go_sem,reduceIte,Nat.reduceEqDiff,Nat.reduceLT, e4, e5, e6, e7, e8, e9, idxA80, idxA22, Int.toNat_natCast, fld83_0, fld83_1, fld83_2, fld61_0, fld61_1, fld61_2, Nat.add_zero, Nat.zero_add, load3, s0, s1, s2, o0, o1, o2, wrap_i64, d3]
            refine WK_regionT 16 ⟨by kernel_rfl, by kernel_rfl, by kernel_rfl⟩ ?_
            by_cases c4 : l.1 = q.2.1 + q.2.2
            · obtain rfl := hL.1 ⟨c1, c2, c4⟩
              have d4 : decide (l.1 = q.2.1 + q.2.2) = true := decide_eq_true c4
              simp (maxSteps := 3000000) (disch := omega) only [go_sem,reduceIte,Nat.reduceEqDiff,Nat.reduceLT, e4, e5, e6, e7, e8, e9, idxA80, idxA22, Int.toNat_natCast, fld83_0, fld83_1, fld83_2, fld61_0, fld61_1, fld61_2, fld51_1, Nat.add_zero, Nat.zero_add, load3, s0, s1, s2, o0, o1, o2, wrap_i64, d4]
              have v6' := v6
              obtain ⟨cls, es, gb, _⟩ := v6
              refine At_store (inf := inf3) (b := h3.next) (off := 1) (v := .int .i64 (k : Int)) i3 (by simp only [go_sem,reduceIte,Nat.reduceEqDiff,Nat.reduceLT]) (by (simp only [go_sem,reduceIte,Nat.reduceEqDiff,Nat.reduceLT, e9]) <;> rfl) (by rw [size3]; rfl) rfl gb (by rw [size3]; show 1 + 1 ≤ 2; omega) (by rw [En_G]; omega) fun h7 hs7 => ?_
              have v7 : Var h7.blks h3.next [.int .i64 (lst i1 k), .int .i64 (k : Int)] := hs7.varAt v6' (by show 1 + 1 ≤ 2; omega)
              have n7 := hs7.next
              have p7 : Pres h3.next h3 h7 := p6.trans ((hs7.pres (Nat.le_refl _)).le (Nat.le_refl _))
              simp (maxSteps := 3000000) (disch := omega) only [go_sem,reduceIte,Nat.reduceEqDiff,Nat.reduceLT, e9, wrap_i64]
              exact hJ2 (j2 - 1) _ _ (by omega) ⟨k + 1, by omega, p7, by omega, by rw [lst_eq, lst_ne hn1]; exact v7, by simp only [go_sem,reduceIte,Nat.reduceEqDiff,Nat.reduceLT, e4], by simp only [go_sem,reduceIte,Nat.reduceEqDiff,Nat.reduceLT, e5], by simp only [go_sem,reduceIte,Nat.reduceEqDiff,Nat.reduceLT, e6], by simp only [go_sem,reduceIte,Nat.reduceEqDiff,Nat.reduceLT, e7], by simp only [go_sem,reduceIte,Nat.reduceEqDiff,Nat.reduceLT, e8], by (simp only [go_sem,reduceIte,Nat.reduceEqDiff,Nat.reduceLT]) <;> rfl⟩
            · have hn2 : k ≠ i2 := fun e => c4 (hL.2 e).2.2
              have d4 : decide (l.1 = q.2.1 + q.2.2) = false := decide_eq_false c4
              simp (maxSteps := 3000000) (disch := omega) only [go_sem,reduceIte,Nat.reduceEqDiff,Nat.reduceLT, e4, e5, e6, e7, e8, e9, idxA80, idxA22, Int.toNat_natCast, fld83_0, fld83_1, fld83_2, fld61_0, fld61_1, fld61_2, Nat.add_zero, Nat.zero_add, load3, s0, s1, s2, o0, o1, o2, wrap_i64, d4]
              exact hJ2 (j2 - 1) _ _ (by omega) ⟨k + 1, by omega, p6, by omega, by rw [lst_ne hn1, lst_ne hn2]; exact v6, by simp only [go_sem,reduceIte,Nat.reduceEqDiff,Nat.reduceLT, e4], by simp only [go_sem,reduceIte,Nat.reduceEqDiff,Nat.reduceLT, e5], by simp only [go_sem,reduceIte,Nat.reduceEqDiff,Nat.reduceLT, e6], by simp only [go_sem,reduceIte,Nat.reduceEqDiff,Nat.reduceLT, e7], by simp only [go_sem,reduceIte,Nat.reduceEqDiff,Nat.reduceLT, e8], by (simp only [go_sem,reduceIte,Nat.reduceEqDiff,Nat.reduceLT]) <;> rfl⟩
        · have hn1 : k ≠ i1 := fun e => c2 (hU.2 e).2.1
          have hn2 : k ≠ i2 := fun e => c2 (hL.2 e).2.1
          simp (maxSteps := 3000000) (disch := omega) only [go_sem,reduceIte,Nat.reduceEqDiff,Nat.reduceLT, e4, e5, e6, e7, e8, e9, idxA80, idxA22, Int.toNat_natCast, fld83_0, fld83_1, fld83_2, fld61_0, fld61_1, fld61_2, Nat.add_zero, Nat.zero_add, load3, s0, s1, s2, o0, o1, o2, wrap_i64, c1, c2]
          exact hJ2 (j2 - 1) _ _ (by omega) ⟨k + 1, by omega, p6, by omega, by rw [lst_ne hn1, lst_ne hn2]; exact v6, by simp only [go_sem,reduceIte,Nat.reduceEqDiff,Nat.reduceLT, e4], by simp only [go_sem,reduceIte,Nat.reduceEqDiff,Nat.reduceLT, e5], by simp only [go_sem,reduceIte,Nat.reduceEqDiff,Nat.reduceLT, e6], by simp only [go_sem,reduceIte,Nat.reduceEqDiff,Nat.reduceLT, e7], by simp only [go_sem,reduceIte,Nat.reduceEqDiff,Nat.reduceLT, e8], by (simp only [go_sem,reduceIte,Nat.reduceEqDiff,Nat.reduceLT]) <;> rfl⟩
      · have hn1 : k ≠ i1 := fun e => c1 (hU.2 e).1
        have hn2 : k ≠ i2 := fun e => c1 (hL.2 e).1
        simp (maxSteps := 3000000) (disch := omega) only [go_sem,reduceIte,Nat.reduceEqDiff,Nat.reduceLT, e4, e5, e6, e7, e8, e9, idxA80, idxA22, Int.toNat_natCast, fld83_0, fld83_1, fld83_2, fld61_0, fld61_1, fld61_2, Nat.add_zero, Nat.zero_add, load3, s0, s1, s2, o0, o1, o2, wrap_i64, c1]
        exact hJ2 (j2 - 1) _ _ (by omega) ⟨k + 1, by omega, p6, by omega, by rw [lst_ne hn1, lst_ne hn2]; exact v6, by simp only [go_sem,reduceIte,Nat.reduceEqDiff,Nat.reduceLT, e4], by simp only [go_sem,reduceIte,Nat.reduceEqDiff,Nat.reduceLT, e5], by simp only [go_sem,reduceIte,Nat.reduceEqDiff,Nat.reduceLT, e6], by simp only [go_sem,reduceIte,Nat.reduceEqDiff,Nat.reduceLT, e7], by simp only [go_sem,reduceIte,Nat.reduceEqDiff,Nat.reduceLT, e8], by (simp only [go_sem,reduceIte,Nat.reduceEqDiff,Nat.reduceLT]) <;> rfl⟩
    · obtain rfl : k = S.length := by omega
      rw [lst_all hi1, lst_all hi2] at v6
      have lp : loadO (En G) 51 h6.blks (some (.pointer (some ⟨h3.next, 0, none⟩))) = some (prv ((i1 : Int), (i2 : Int))) := v6.loadA agg51 i51 (by rw [size51]; rfl)
      simp (maxSteps := 3000000) (disch := omega) only [go_sem,reduceIte,Nat.reduceEqDiff,Nat.reduceLT, e4, e5, e6, e7, e8, e9, hk, len80, lp]
      refine At_lit (vs := [(0, prv ((i1 : Int), (i2 : Int)))]) (cs := #[.int .i64 (i1 : Int), .int .i64 (i2 : Int)]) u45 i51 zero51 (by rw [size51]; rfl) (by simp only [go_sem,reduceIte,Nat.reduceEqDiff,Nat.reduceLT]) (by rw [size51]; rfl) (by omega) fun h7 hn7 => ?_
      rw [size51] at hn7
      have n7 := hn7.next
      have hsx : SlV h7.blks h6.next h7.next 2 1 (prc [((i1 : Int), (i2 : Int))]) (.slice (some ⟨h6.next, 0, none⟩) 1 1) := hn7.slv rfl
      have hs7 := hs.mono (B' := h7.blks) fun b _ hb => by rw [hn7.get, if_neg (by omega), p6.get b (by omega)]
      try simp only [go_sem,reduceIte,Nat.reduceEqDiff,Nat.reduceLT]
      refine At_append2 (lo := h2.next) (hi := h3.next) (A := D) (sl := i) (m := 1) (L := prc (wirs S (O.take i))) (M := prc [((i1 : Int), (i2 : Int))]) (v := .slice (some ⟨h6.next, 0, none⟩) 1 1) u45 u45 i51 zero51 (by rw [size51, bytes51]; rfl) (by simp only [go_sem,reduceIte,Nat.reduceEqDiff,Nat.reduceLT, e6]) (by rw [size51]; exact hs7) (by omega) (by rw [En_G]; omega) (by omega) (by simp only [go_sem,reduceIte,Nat.reduceEqDiff,Nat.reduceLT]) (by rw [size51]; exact hsx) (by omega) prc_one (by omega) fun D8 h8 pr8 hs8 => ?_
      have hw9 : wirs S (O.take (i + 1)) = wirs S (O.take i) ++ [((i1 : Int), (i2 : Int))] := by rw [wirs_snoc hq, lnAt_of a1 a2 a3, lnAt_of b1 b2 b3]
      rw [size51, ← prc_app, ← hw9] at hs8
      have n8 := pr8.next
      simp (disch := omega) only [go_sem,reduceIte,Nat.reduceEqDiff,Nat.reduceLT, e4, e5, e7, wrap_i64]
      exact hJ (j - 1) _ _ (by omega) ⟨i + 1, D8, by omega, pr.trans ((p6.le (by omega)).trans ((hn7.pres (by omega)).trans pr8)), hs8, by simp only [go_sem,reduceIte,Nat.reduceEqDiff,Nat.reduceLT, e4], by simp only [go_sem,reduceIte,Nat.reduceEqDiff,Nat.reduceLT, e5], by simp only [go_sem,reduceIte,Nat.reduceEqDiff,Nat.reduceLT], by (simp only [go_sem,reduceIte,Nat.reduceEqDiff,Nat.reduceLT]) <;> rfl⟩
  · obtain rfl : i = O.length := by omega
    rw [List.take_length] at hs
    simp (maxSteps := 3000000) (disch := omega) only [go_sem,reduceIte,Nat.reduceEqDiff,Nat.reduceLT, e4, e5, e6, e7, hlt, len22, len80]
    exact hQ' _ _ ⟨pr1.trans ((pr2.le (by omega)).trans (pr.le (by omega))), S, O, D, rfl, hpm, hsr, hS, hs.wide (by omega) (Nat.le_refl _)⟩
end
end Go.Proofs.YtnhbkoeomefkdaaDoor.Ev.L

/- The law HideNets. -/
set_option linter.unusedVariables false
set_option linter.unusedSimpArgs false
namespace Go.Proofs.YtnhbkoeomefkdaaDoor.Ev.L
open Go Go.Proofs Go.Proofs.YtnhbkoeomefkdaaDoor.Ev
noncomputable section

theorem und51 : pureRun Tryd.prog (underlying 51) = some (.struct (Tryd.prog.fieldsOf 51)) := by kernel_rfl
theorem flds51 : (Tryd.prog.fieldsOf 51).toList = [{ name := "A", type := 3, offset := 0, embedded := false, tag := "", pkgPath := "", byteOffset := 0 },
        { name := "B", type := 3, offset := 1, embedded := false, tag := "", pkgPath := "", byteOffset := 8 }] := by kernel_rfl
theorem held51 : Tryd.prog.stoodInHeld 51 = false := by kernel_rfl
theorem guard51 : Tryd.prog.eqGuardType Tryd.prog.depth 51 = false := by kernel_rfl
theorem part2_0 {x : Int} {y : Value} : pureRun Tryd.prog (Go.part 3 #[.int .i64 x, y] 0) = some (.int .i64 x) := by kernel_rfl
theorem part2_1 {y : Int} {x : Value} : pureRun Tryd.prog (Go.part 3 #[x, .int .i64 y] 1) = some (.int .i64 y) := by kernel_rfl
theorem eq51 {d : Nat} {x y : Int} : pureRun Tryd.prog (Op.equalIn (d + 2) 51 (.agg #[.int .i64 x, .int .i64 y]) (.agg #[.int .i64 x, .int .i64 y])) = some true := by
  rw [Op.equalIn]
  simp only [pureRun_bindS, und51, Option.bind_some, pureProg, held51, Bool.false_eq_true, if_false]
  rw [← Array.forIn_toList, flds51]
  simp [List.forIn_cons, pureRun_bindS, part2_0, part2_1, eq3, plain, pureRun_pure]
theorem neq51 {G : Nat} {x y : Int} : binO Tryd.prog (En G) .neq 51 (some (.agg #[.int .i64 x, .int .i64 y])) (some (.agg #[.int .i64 x, .int .i64 y])) = some (.bool false) := by
  have hg : pureRun Tryd.prog (eqGuard .neq 51 (.tmp 0) (.tmp 0) (.agg #[.int .i64 x, .int .i64 y]) (.agg #[.int .i64 x, .int .i64 y])) = some () := by
    simp [eqGuard, pureRun_bindS, pureProg, guard51, pureRun_pure]
  have hb : pureRun Tryd.prog (binOp .neq 51 (.agg #[.int .i64 x, .int .i64 y]) (.agg #[.int .i64 x, .int .i64 y])) = some (.bool false) := by
    simp only [binOp, Op.equal, pureRun_bindS]
    have : Op.maxDepth = 9998 + 2 := rfl
    rw [this, eq51]
    rfl
  have hs : slowBin Tryd.prog .neq 51 (.agg #[.int .i64 x, .int .i64 y]) (.agg #[.int .i64 x, .int .i64 y]) = some (.bool false) := by
    unfold slowBin
    rw [pureRun_bindS, hg]
    simp only [Option.bind_some, hb]
    rfl
  have hp : plainA (.agg #[.int .i64 x, .int .i64 y]) = true := rfl
  have hf : fastBin .neq (.agg #[.int .i64 x, .int .i64 y]) (.agg #[.int .i64 x, .int .i64 y]) = none := rfl
  simp only [binO, hp, Bool.and_self, if_true, hf, hs]
theorem neqP {G : Nat} {p : Pr} : binO Tryd.prog (En G) .neq 51 (some (prv p)) (some (prv p)) = some (.bool false) := neq51
theorem SlV.pr_at {G : Nat} {B : Tr Blk} {lo hi n b off c i : Nat} {L : List Pr} {p : Pr} (s : SlV B lo hi 2 n (prc L) (.slice (some ⟨b, off, none⟩) n c)) (hp : L[i]? = some p) (hn : n = L.length) : loadO (En G) 51 B (some (.pointer (some ⟨b, off + i * 2, none⟩))) = some (prv p) := by
  have hi' : i < n := by rw [hn]; exact (List.getElem?_eq_some_iff.1 hp).1
  have h1 := s.loadA (E := En G) agg51 i51 size51 hi'
  rw [prc_drop hp] at h1
  exact h1

set_option maxRecDepth 100000 in
set_option maxHeartbeats 32000000 in
theorem law_HideNets {G lo hi c : Nat} {X : List Sq} {A : Option Addr} {h : H} (hG : G ≤ h.next) (hG3 : 3 ≤ G) (hhi : hi ≤ h.next) (ht : TabsIn tabs h.blks) (hv : SlV h.blks lo hi 3 X.length (sqc X) (.slice A X.length c)) (hn : X.length < 4611686018427387904) :
    Spec Tryd.prog (En G) 5 [.slice A X.length c] h fun w _ => w = .bool true := by
  have k0 : decide ((0 : Int) = 0) = true := rfl
  have k1 : decide ((0 : Int) ≠ 0) = false := rfl
  have k00 : decide (((0 : Nat) : Int) = 0) = true := rfl
  refine CallsE_enter (En_known (by decide)) (En_f.trans Tryd.func5) rfl ⟨Nat.le_of_ble_eq_true rfl, by decide⟩ fun Q' hQ' => ?_
  simp only [Tryd.f5, go_sem,reduceIte,Nat.reduceEqDiff,Nat.reduceLT]
  refine CallO_f (few_spec (most := 24) hG hhi hv (by omega) hn) (by omega) fun u h1 ph1 ⟨A1, hu, hs1⟩ => ?_
  subst hu
  have n1 := ph1.next
  obtain ⟨k, hk⟩ : ∃ k, k = fewN X.length 24 := ⟨_, rfl⟩
  have hkn : k ≤ X.length := by rw [hk]; exact Nat.min_le_left _ _
  have hk1 : k ≤ 24 ∨ k = 25 := by rw [hk]; unfold fewN; split <;> omega
  rw [← hk] at hs1 ⊢
  obtain ⟨L, hL⟩ : ∃ L, L = X.take k := ⟨_, rfl⟩
  have hLl : L.length = k := by rw [hL, List.length_take]; omega
  rw [← hL] at hs1
  rw [← hLl] at hs1 hk1 ⊢
  clear hL hLl hk hkn
  have ht1 := ht.le ph1 (by omega)
  simp only [go_sem,reduceIte,Nat.reduceEqDiff,Nat.reduceLT]
  refine CallO_f (Network_spec (by omega) hG3 (Nat.le_refl _) ht1 hs1 (by omega)) (by omega) fun u h2 ph2 hm => ?_
  have n2 := ph2.next
  have hs2 := hs1.mono (B' := h2.blks) fun b _ hb => ph2.get b hb
  have ht2 := ht1.le ph2 (by omega)
  have pr2 : Pres h.next h h2 := ph1.trans (ph2.le (by omega))
  rcases hm with ⟨he, hu⟩ | ⟨he, Ls, D, hu, hsep, hcv, hl48, hsD⟩
  · subst hu
    simp only [go_sem,reduceIte,Nat.reduceEqDiff,Nat.reduceLT]
    refine CallO_f (Check_spec (by omega) (by omega) hs2 (by omega)) (by omega) fun u h3 ph3 hu => ?_
    subst hu
    have n3 := ph3.next
    have ht3 := ht2.le ph3 (by omega)
    have kc : decide (chk L ≠ 0) = true := decide_eq_true he
    have kcc : decide (chk L = chk L) = true := decide_eq_true rfl
    simp only [go_sem,reduceIte,Nat.reduceEqDiff,Nat.reduceLT, kc, kcc, k0, k00, len45]
    refine Call_lives ht3 (by omega) ?_
    simp only [go_sem,reduceIte,Nat.reduceEqDiff,Nat.reduceLT]
    exact hQ' _ _ ⟨pr2.trans (ph3.le (by omega)), rfl⟩
  · subst hu
    obtain ⟨hl24, hok, hcov⟩ := chk_zero he
    simp only [go_sem,reduceIte,Nat.reduceEqDiff,Nat.reduceLT]
    refine CallO_f (Check_spec (by omega) (by omega) hs2 (by omega)) (by omega) fun u h3 ph3 hu => ?_
    subst hu
    rw [he]
    have n3 := ph3.next
    have hs3 := hs2.mono (B' := h3.blks) fun b _ hb => ph3.get b (by omega)
    have ht3 := ht2.le ph3 (by omega)
    simp only [go_sem,reduceIte,Nat.reduceEqDiff,Nat.reduceLT, k1]
    refine CallO_f (refNetwork_spec (by omega) hG3 (by omega) hs3 hl24 hok) (by omega) fun u h4 ph4 ⟨S, O, C, hu, hpm, hsr, hS, hsC⟩ => ?_
    subst hu
    have n4 := ph4.next
    have ht4 := ht3.le ph4 (by omega)
    obtain rfl : O = ordSq L := srt_unique hok hcov.2.1 hpm hsr
    obtain rfl : Ls = S := sep_uniq hsep hS.sep fun y x => by
      rw [hcv, hS.cv, List.take_of_length_le (by rw [edg_len]; omega)]
      exact edg_perm ordSq_perm
    obtain ⟨O, hO⟩ : ∃ O, O = ordSq L := ⟨_, rfl⟩
    have hOl : O.length = L.length := by rw [hO]; exact ordSq_perm.length_eq
    rw [← hO] at hsC hsD ⊢
    have h0 := hcov.1
    have hsD4 := hsD.mono (B' := h4.blks) fun b _ hb => (ph4.get b (by omega)).trans (ph3.get b (by omega))
    have kS : decide ((Ls.length : Int) ≠ (Ls.length : Int)) = false := decide_eq_false fun g => g rfl
    have kO : decide ((O.length : Int) ≠ (O.length : Int)) = false := decide_eq_false fun g => g rfl
    simp only [go_sem,reduceIte,Nat.reduceEqDiff,Nat.reduceLT, kS, kO, k1, len45]
    refine Call_lives ht4 (by omega) ?_
    simp only [go_sem,reduceIte,Nat.reduceEqDiff,Nat.reduceLT]
    obtain ⟨bD, oD, rfl, _, _, _⟩ := hsD4.at_ (by omega)
    obtain ⟨bC, oC, rfl, _, _, _⟩ := hsC.at_ (by omega)
    refine WK_loopN (fun j α h5 => ∃ i : Nat, i + j = O.length ∧ h4 = h5 ∧ α.get 5 = some (.slice (some ⟨bD, oD, none⟩) O.length O.length) ∧ α.get 9 = some (.slice (some ⟨bC, oC, none⟩) O.length O.length) ∧ α.get 10 = some (.int .i64 (i : Int))) O.length
      ⟨0, by omega, rfl, by simp only [go_sem,reduceIte,Nat.reduceEqDiff,Nat.reduceLT], by simp only [go_sem,reduceIte,Nat.reduceEqDiff,Nat.reduceLT], by (simp only [go_sem,reduceIte,Nat.reduceEqDiff,Nat.reduceLT]) <;> rfl⟩ (by omega) ?_
    rintro J j α h5 ⟨i, hij, rfl, e5, e9, e10⟩ hJ
    by_cases hlt : (i : Int) < (O.length : Int)
    · obtain ⟨p, hp⟩ : ∃ p, (wirs Ls O)[i]? = some p := ⟨_, List.getElem?_eq_getElem (show i < (wirs Ls O).length by rw [wirs_len]; omega)⟩
      have x1 := SlV.pr_at (G := G) hsD4 hp wirs_len.symm
      have x2 := SlV.pr_at (G := G) hsC hp wirs_len.symm
      simp (maxSteps := 3000000) (disch := omega) only [go_sem,reduceIte,Nat.reduceEqDiff,Nat.reduceLT, e5, e9, e10, hlt, len45]
      refine WK_regionT 8 ⟨by kernel_rfl, by kernel_rfl, by kernel_rfl⟩ ?_
      simp (maxSteps := 3000000) (disch := omega) only [go_sem,reduceIte,Nat.reduceEqDiff,Nat.reduceLT, e5, e9, e10, idxA45, Int.toNat_natCast, x1, x2, neqP, wrap_i64]
      exact hJ (j - 1) _ _ (by omega) ⟨i + 1, by omega, rfl, by simp only [go_sem,reduceIte,Nat.reduceEqDiff,Nat.reduceLT, e5], by simp only [go_sem,reduceIte,Nat.reduceEqDiff,Nat.reduceLT, e9], by (simp only [go_sem,reduceIte,Nat.reduceEqDiff,Nat.reduceLT]) <;> rfl⟩
    · simp (maxSteps := 3000000) (disch := omega) only [go_sem,reduceIte,Nat.reduceEqDiff,Nat.reduceLT, e5, e9, e10, hlt, len45]
      exact hQ' _ _ ⟨pr2.trans ((ph3.le (by omega)).trans (ph4.le (by omega))), rfl⟩
end
end Go.Proofs.YtnhbkoeomefkdaaDoor.Ev.L

