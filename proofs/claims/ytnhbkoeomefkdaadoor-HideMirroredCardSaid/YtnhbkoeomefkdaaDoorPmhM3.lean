/- The law HideMirrored. -/
import Derived.Test.YtnhbkoeomefkdaaDoorPmhQ4
import Derived.Test.YtnhbkoeomefkdaaDoorPmhM1
import Derived.Test.YtnhbkoeomefkdaaDoorPmhLM
set_option linter.unusedVariables false
set_option linter.unusedSimpArgs false
namespace Go.Proofs.YtnhbkoeomefkdaaDoor.Ev.L
open Go Go.Proofs Go.Proofs.YtnhbkoeomefkdaaDoor.Ev
noncomputable section

theorem sqc_get3 {M : List Sq} {e : Nat} {q : Sq} (h : M[e]? = some q) : sqc M = sqc (M.take e) ++ tri q.1 q.2.1 q.2.2 ++ sqc (M.drop (e + 1)) := by
  have hd : M = M.take e ++ q :: M.drop (e + 1) := by
    obtain ⟨g, rfl⟩ := List.getElem?_eq_some_iff.1 h
    rw [← List.drop_eq_getElem_cons g, List.take_append_drop]
  conv => lhs; rw [hd]
  rw [sqc_app]
  have : sqc (q :: M.drop (e + 1)) = tri q.1 q.2.1 q.2.2 ++ sqc (M.drop (e + 1)) := rfl
  rw [this, List.append_assoc]
theorem sqc_setX {M : List Sq} {e : Nat} {q : Sq} {x : Int} (h : M[e]? = some q) : (sqc M).take (e * 3) ++ [.int .i64 x] ++ (sqc M).drop (e * 3 + 1) = sqc (M.set e (x, q.2.1, q.2.2)) := by
  have he : e < M.length := (List.getElem?_eq_some_iff.1 h).1
  have hl : (sqc (M.take e)).length = e * 3 := by rw [sqc_len, List.length_take]; congr 1; omega
  have h1 : (sqc M).take (e * 3) = sqc (M.take e) := sqc_take
  have h2 : (sqc M).drop (e * 3 + 1) = [.int .i64 q.2.1, .int .i64 q.2.2] ++ sqc (M.drop (e + 1)) := by
    rw [sqc_get3 h, List.append_assoc, List.drop_append, hl, List.drop_of_length_le (by omega), List.nil_append, show e * 3 + 1 - e * 3 = 1 by omega]
    rfl
  have h3 : M.set e (x, q.2.1, q.2.2) = M.take e ++ (x, q.2.1, q.2.2) :: M.drop (e + 1) := by rw [List.set_eq_take_append_cons_drop, if_pos he]
  rw [h1, h2, h3, sqc_app]
  have : sqc ((x, q.2.1, q.2.2) :: M.drop (e + 1)) = [.int .i64 x, .int .i64 q.2.1, .int .i64 q.2.2] ++ sqc (M.drop (e + 1)) := rfl
  rw [this]
  simp
theorem inP_rise {f l : Sq} {O : List Sq} {k : Nat} : (inP f l O k).Pairwise (· < ·) := by
  unfold inP
  refine List.pairwise_map.2 ((List.pairwise_lt_range.filter _).imp fun {a b} hab => ?_)
  exact Int.ofNat_lt.2 hab

set_option maxRecDepth 100000 in
set_option maxHeartbeats 32000000 in
theorem law_HideMirrored {G lo hi c : Nat} {zs : List Nat} {A : Option Addr} {h : H} (hG : G ≤ h.next) (hG3 : 3 ≤ G) (hhi : hi ≤ h.next) (ht : TabsIn tabs h.blks) (hv : SlV h.blks lo hi 1 zs.length (u8s zs) (.slice A zs.length c)) (hz : ∀ z ∈ zs, z ≤ 255) (hn : zs.length < 4611686018427387904) :
    Spec Tryd.prog (En G) 11 [.slice A zs.length c] h fun v _ => v = .bool true := by
  have k0 : decide ((0 : Int) ≠ 0) = false := rfl
  have k3 : decide ((0 : Int) = 0) = true := rfl
  have k5 : decide ((5 : Int) ≠ 0) = true := rfl
  have k55 : decide ((5 : Int) = 5) = true := rfl
  have k00 : decide (((0 : Nat) : Int) = 0) = true := rfl
  refine CallsE_enter (En_known (by decide)) (En_f.trans Tryd.func11) rfl ⟨Nat.le_of_ble_eq_true rfl, by decide⟩ fun Q' hQ' => ?_
  simp only [Tryd.f11, go_sem,reduceIte,Nat.reduceEqDiff,Nat.reduceLT]
  refine CallO_f (made_spec (most := 16) hG hhi hv hz hn (by omega) (by omega)) (by omega) fun u h1 ph1 ⟨A1, L0, w, hh, hu, hmk0, hw, hht, hL16, hs1⟩ => ?_
  subst hu
  have n1 := ph1.next
  simp only [go_sem,reduceIte,Nat.reduceEqDiff,Nat.reduceLT]
  refine CallO_f (Order_spec (by omega) (Nat.le_refl _) hs1 (by omega)) (by omega) fun u h2 ph2 ⟨A2, O, hu, hpm, hsO, hs2⟩ => ?_
  subst hu
  have n2 := ph2.next
  have hol : O.length = L0.length := hpm.length_eq
  have hmk := hmk0.perm hpm
  rw [← hol] at hs2 hL16 ⊢
  obtain ⟨hcov, hwid, hhei⟩ := hmk.cov (by omega) (by omega)
  have hok := hmk.ok (by omega) (by omega)
  have hchk := chk_ok (by omega) hok hcov
  have hOO : O = ordSq O := srt_unique hok hcov.2.1 (List.Perm.refl _) hsO
  have pr2 : Pres h.next h h2 := ph1.trans (ph2.le (by omega))
  have ht2 := ht.le pr2 (by omega)
  simp only [go_sem,reduceIte,Nat.reduceEqDiff,Nat.reduceLT]
  refine CallO_f (Compound_spec (by omega) hG3 (Nat.le_refl _) ht2 hs2 (by omega)) (by omega) fun u h3 ph3 hcp => ?_
  have n3 := ph3.next
  have pr3 : Pres h.next h h3 := pr2.trans (ph3.le (by omega))
  have ht3 := ht.le pr3 (by omega)
  have hs3 := hs2.mono (B' := h3.blks) fun b _ hb => ph3.get b hb
  rcases hcp with ⟨hc, _⟩ | ⟨_, hnil, hu⟩ | ⟨_, hne, B, hu, hsP⟩
  · exact absurd hchk hc
  · subst hu
    simp only [go_sem,reduceIte,Nat.reduceEqDiff,Nat.reduceLT, k5, k55, k00, len27]
    refine Call_lives ht3 (by omega) ?_
    simp only [go_sem,reduceIte,Nat.reduceEqDiff,Nat.reduceLT]
    exact hQ' _ _ ⟨pr3, rfl⟩
  · subst hu
    have hlp : lpt O = outr O O.length := by unfold lpt; rw [← hOO]
    obtain ⟨f, l, hf, hl, hfl, hP, hPne, hPl⟩ : ∃ f l, f ∈ O ∧ l ∈ O ∧ f ≠ l ∧ lpt O = btw O f l ∧ lpt O ≠ [] ∧ (lpt O).length ≠ O.length := by
      rcases outr_part (O := O) O.length (Nat.le_refl _) with g | ⟨f, l, g1, g2, g3, g4, g5, g6⟩
      · exact absurd (hlp.trans g) hne
      · exact ⟨f, l, g1, g2, g3, hlp.trans g4, hne, by rw [hlp]; exact g6⟩
    obtain ⟨part, hbP⟩ := btw_part hmk (by omega) (by omega) hf hl hfl (hP ▸ hPne)
    obtain ⟨P, hPd⟩ : ∃ P, P = lpt O := ⟨_, rfl⟩
    rw [← hPd] at hsP hPl hPne ⊢
    have hPin : P = inP f l O O.length := by rw [hPd, hP, hbP]
    have hmem : ∀ z : Int, z ∈ P ↔ ∃ i : Nat, i < O.length ∧ insB f l (O.getD i (0, 0, 0)) = true ∧ z = i := fun z => by rw [hPin]; exact inP_mem
    have hrise : P.Pairwise (· < ·) := by rw [hPin]; exact inP_rise
    have hPle : P.length ≤ O.length := by rw [hPin]; exact inP_len
    have at_ : ∀ i, i < P.length → ∃ (e : Nat) (q : Sq), P.getD i 0 = (e : Int) ∧ e < O.length ∧ O[e]? = some q ∧ insB f l q = true := fun i hi => by
      have hm : P.getD i 0 ∈ P := by rw [List.getD, List.getElem?_eq_getElem hi]; exact List.getElem_mem hi
      obtain ⟨e, he, hin, hz⟩ := (hmem _).1 hm
      have hq := List.getElem?_eq_getElem he
      refine ⟨e, _, hz, he, hq, ?_⟩
      rw [List.getD, hq] at hin
      exact hin
    have hx0 := hmk.inn f hf
    have hx1 := hmk.inn l hl
    simp (maxSteps := 3000000) only [go_sem,reduceIte,Nat.reduceEqDiff,Nat.reduceLT, k0]
    refine WK_loopN (fun j α h4 => ∃ (i : Nat) (fr to : Int), i + j = P.length ∧ h4 = h3 ∧ f.1 ≤ fr ∧ fr ≤ 1000 ∧ 0 ≤ to ∧ to ≤ l.1 + l.2.2 ∧ (∀ (k e : Nat) (q : Sq), k < i → P.getD k 0 = (e : Int) → O[e]? = some q → fr ≤ q.1 ∧ q.1 + q.2.2 ≤ to) ∧
        α.get 3 = some (.slice A2 O.length O.length) ∧ α.get 4 = some (.slice B P.length P.length) ∧ α.get 6 = some (.int .i64 fr) ∧ α.get 7 = some (.int .i64 to) ∧ α.get 8 = some (.int .i64 i)) P.length
      ⟨0, 1000, 0, by omega, rfl, by omega, by omega, by omega, by omega, fun k e q hk => by omega, by simp only [go_sem,reduceIte,Nat.reduceEqDiff,Nat.reduceLT], by simp only [go_sem,reduceIte,Nat.reduceEqDiff,Nat.reduceLT], by (simp only [go_sem,reduceIte,Nat.reduceEqDiff,Nat.reduceLT]) <;> rfl, by (simp only [go_sem,reduceIte,Nat.reduceEqDiff,Nat.reduceLT]) <;> rfl, by (simp only [go_sem,reduceIte,Nat.reduceEqDiff,Nat.reduceLT]) <;> rfl⟩ (by omega) ?_
    rintro J j α h4 ⟨i, fr, to, hij, rfl, hfr, hfr2, hto, hto2, hall, e3, e4, e6, e7, e8⟩ hJ
    by_cases hlt : (i : Int) < (P.length : Int)
    · obtain ⟨e, q, he, heO, hq, hin⟩ := at_ i (by omega)
      obtain ⟨d1, d2, d3, d4⟩ := insB_iff.1 hin
      obtain ⟨a1, a2, a3, a4, a5⟩ := hmk.inn q (List.mem_of_getElem? hq)
      obtain ⟨bO, oO, rfl, _, _, _⟩ := hs3.at_ (by omega)
      obtain ⟨bP, oP, rfl, _, _, _⟩ := hsP.at_ (by omega)
      have lp := hsP.int_at rfl (show i < P.length by omega)
      rw [he] at lp
      obtain ⟨_, lq0, _, lq2⟩ := hs3.sq_at (G := G) hq rfl
      have g1 : ¬ ((e : Nat) : Int) < 0 := by omega
      have g2 : ¬ (O.length : Int) ≤ (e : Int) := by omega
      simp (disch := omega) only [go_sem,reduceIte,Nat.reduceEqDiff,Nat.reduceLT, e3, e4, e6, e7, e8, len27, hlt]
      refine WK_regionT 27 ⟨by kernel_rfl, by kernel_rfl, by kernel_rfl⟩ ?_
      have next : ∀ (k e' : Nat) (q' : Sq), k < i + 1 → P.getD k 0 = (e' : Int) → O[e']? = some q' → min fr q.1 ≤ q'.1 ∧ q'.1 + q'.2.2 ≤ max to (q.1 + q.2.2) := fun k e' q' hk he' hq' => by
        by_cases hki : k = i
        · subst hki
          have : e' = e := by omega
          subst this
          rw [hq] at hq'
          injection hq' with hq'
          subst hq'
          omega
        · have := hall k e' q' (by omega) he' hq'
          omega
      by_cases hi0 : (0 : Int) < (i : Int)
      · obtain ⟨e', q', he', heO', hq', hin'⟩ := at_ (i - 1) (by omega)
        have lp' := hsP.int_at rfl (show i - 1 < P.length by omega)
        rw [he'] at lp'
        have hlt' : (e' : Int) < (e : Int) := by
          have := List.pairwise_iff_getElem.1 hrise (i - 1) i (by omega) (by omega) (by omega)
          rw [List.getD, List.getElem?_eq_getElem (by omega)] at he he'
          simp only [Option.getD_some] at he he'
          omega
        have g3 : ¬ (e : Int) ≤ (e' : Int) := by omega
        have ei : ((i : Int) - 1).toNat = i - 1 := by omega
        simp (maxSteps := 3000000) (disch := omega) only [go_sem,reduceIte,Nat.reduceEqDiff,Nat.reduceLT, e3, e4, e6, e7, e8, len27, len22, idxA27, Int.toNat_natCast, Nat.mul_one, load3, lp, g1, g2, wrap_i64, hi0, ei, lp', g3]
        refine WK_regionT 30 ⟨by kernel_rfl, by kernel_rfl, by kernel_rfl⟩ ?_
        simp (maxSteps := 3000000) (disch := omega) only [go_sem,reduceIte,Nat.reduceEqDiff,Nat.reduceLT, e3, e4, e6, e7, e8, len27, len22, idxA27, idxA22, Int.toNat_natCast, Nat.mul_one, Nat.add_zero, load3, lp, fld61_0, fld61_2, lq0, lq2, wrap_i64]
        exact hJ (j - 1) _ _ (by omega) ⟨i + 1, min fr q.1, max to (q.1 + q.2.2), by omega, rfl, by omega, by omega, by omega, by omega, next, by simp only [go_sem,reduceIte,Nat.reduceEqDiff,Nat.reduceLT, e3], by simp only [go_sem,reduceIte,Nat.reduceEqDiff,Nat.reduceLT, e4], by simp only [go_sem,reduceIte,Nat.reduceEqDiff,Nat.reduceLT], by simp only [go_sem,reduceIte,Nat.reduceEqDiff,Nat.reduceLT], by (simp only [go_sem,reduceIte,Nat.reduceEqDiff,Nat.reduceLT]) <;> rfl⟩
      · simp (maxSteps := 3000000) (disch := omega) only [go_sem,reduceIte,Nat.reduceEqDiff,Nat.reduceLT, e3, e4, e6, e7, e8, len27, len22, idxA27, Int.toNat_natCast, Nat.mul_one, load3, lp, g1, g2, wrap_i64, hi0]
        refine WK_regionT 30 ⟨by kernel_rfl, by kernel_rfl, by kernel_rfl⟩ ?_
        simp (maxSteps := 3000000) (disch := omega) only [go_sem,reduceIte,Nat.reduceEqDiff,Nat.reduceLT, e3, e4, e6, e7, e8, len27, len22, idxA27, idxA22, Int.toNat_natCast, Nat.mul_one, Nat.add_zero, load3, lp, fld61_0, fld61_2, lq0, lq2, wrap_i64]
        exact hJ (j - 1) _ _ (by omega) ⟨i + 1, min fr q.1, max to (q.1 + q.2.2), by omega, rfl, by omega, by omega, by omega, by omega, next, by simp only [go_sem,reduceIte,Nat.reduceEqDiff,Nat.reduceLT, e3], by simp only [go_sem,reduceIte,Nat.reduceEqDiff,Nat.reduceLT, e4], by simp only [go_sem,reduceIte,Nat.reduceEqDiff,Nat.reduceLT], by simp only [go_sem,reduceIte,Nat.reduceEqDiff,Nat.reduceLT], by (simp only [go_sem,reduceIte,Nat.reduceEqDiff,Nat.reduceLT]) <;> rfl⟩
    · obtain rfl : i = P.length := by omega
      simp (disch := omega) only [go_sem,reduceIte,Nat.reduceEqDiff,Nat.reduceLT, e3, e4, e6, e7, e8, len27, hlt]
      -- the part's ends are the rectangle's
      obtain ⟨ef, el⟩ := part_ends hmk part
      have inx : ∀ q ∈ O, insB f l q = true → f.1 ≤ q.1 ∧ fr ≤ q.1 ∧ q.1 + q.2.2 ≤ to := fun q hq hin => by
        obtain ⟨e, heO, hqe⟩ := List.mem_iff_getElem.1 hq
        have hm : ((e : Nat) : Int) ∈ P := (hmem _).2 ⟨e, heO, by rw [List.getD, List.getElem?_eq_getElem heO, Option.getD_some, hqe]; exact hin, rfl⟩
        obtain ⟨k, hk, hke⟩ := List.mem_iff_getElem.1 hm
        have := hall k e q hk (by rw [List.getD, List.getElem?_eq_getElem hk]; exact hke) (by rw [← hqe]; exact List.getElem?_eq_getElem heO)
        exact ⟨(insB_iff.1 hin).1, this⟩
      obtain rfl : fr = f.1 := by
        have := inx f hf ef
        omega
      obtain rfl : to = l.1 + l.2.2 := by
        have := inx l hl el
        omega
      have hO1 : 0 < O.length := List.length_pos_of_mem hf
      have hPp : 0 < P.length := List.length_pos_iff.2 hPne
      clear hJ hall inx
      refine At_lit0 u22 i61 zero61 (by rw [size61]; rfl) (by omega) ?_
      simp only [go_sem,reduceIte,Nat.reduceEqDiff,Nat.reduceLT, e3]
      refine At_appendF (M := sqc O) (m := O.length) (v := .slice A2 O.length O.length) u22 u22 i61 zero61 (by rw [size61, bytes61]; rfl) (by simp only [go_sem,reduceIte,Nat.reduceEqDiff,Nat.reduceLT]) (by simp only [go_sem,reduceIte,Nat.reduceEqDiff,Nat.reduceLT, e3]) (by rw [size61]; exact hs3) (by omega) sqc_one (by omega) fun A9 h5 pr5 hs9 => ?_
      rw [size61] at hs9
      have n5 := pr5.next
      obtain ⟨bM, oM, rfl, _, _, _⟩ := hs9.at_ hO1
      obtain ⟨_, _, _, gM, gM2, _⟩ := sinv hs9
      simp (disch := omega) only [go_sem,reduceIte,Nat.reduceEqDiff,Nat.reduceLT, e3, e4, e6, e7]
      refine WK_loopN (fun j α h6 => ∃ (i : Nat) (M : List Sq), i + j = P.length ∧ M.length = O.length ∧ (∀ k, k < O.length → M.getD k (0, 0, 0) = if (k : Int) ∈ P.take i then (f.1 + (l.1 + l.2.2) - (O.getD k (0, 0, 0)).1 - (O.getD k (0, 0, 0)).2.2, (O.getD k (0, 0, 0)).2.1, (O.getD k (0, 0, 0)).2.2) else O.getD k (0, 0, 0)) ∧ Pres h4.next h4 h6 ∧ h5.next ≤ h6.next ∧ SlV h6.blks h4.next h5.next 3 O.length (sqc M) (.slice (some ⟨bM, oM, none⟩) O.length O.length) ∧
          α.get 3 = some (.slice A2 O.length O.length) ∧ α.get 4 = some (.slice B P.length P.length) ∧ α.get 6 = some (.int .i64 f.1) ∧ α.get 7 = some (.int .i64 (l.1 + l.2.2)) ∧ α.get 9 = some (.slice (some ⟨bM, oM, none⟩) O.length O.length) ∧ α.get 10 = some (.int .i64 i)) P.length
        ⟨0, O, by omega, rfl, fun k _ => by rw [List.take_zero, if_neg (by simp)], pr5, Nat.le_refl _, hs9, by simp only [go_sem,reduceIte,Nat.reduceEqDiff,Nat.reduceLT, e3], by simp only [go_sem,reduceIte,Nat.reduceEqDiff,Nat.reduceLT, e4], by simp only [go_sem,reduceIte,Nat.reduceEqDiff,Nat.reduceLT, e6], by simp only [go_sem,reduceIte,Nat.reduceEqDiff,Nat.reduceLT, e7], by simp only [go_sem,reduceIte,Nat.reduceEqDiff,Nat.reduceLT], by (simp only [go_sem,reduceIte,Nat.reduceEqDiff,Nat.reduceLT]) <;> rfl⟩ (by omega) ?_
      clear e3 e4 e6 e7 e8 hs9
      rintro J2 j2 α h6 ⟨i, M, hij2, hMl, hM, pr6, nx6, hsM, e3, e4, e6, e7, e9, e10⟩ hJ2
      have hsO6 := hs3.mono (B' := h6.blks) fun b _ hb => pr6.get b (by omega)
      have hsP6 := hsP.mono (B' := h6.blks) fun b _ hb => pr6.get b (by omega)
      by_cases hlt2 : (i : Int) < (P.length : Int)
      · obtain ⟨e, q, he, heO, hq, hin⟩ := at_ i (by omega)
        obtain ⟨d1, d2, d3, d4⟩ := insB_iff.1 hin
        obtain ⟨a1, a2, a3, a4, a5⟩ := hmk.inn q (List.mem_of_getElem? hq)
        have hPi : P[i]? = some ((e : Nat) : Int) := by
          rw [List.getElem?_eq_getElem (show i < P.length by omega), ← he, List.getD, List.getElem?_eq_getElem (show i < P.length by omega)]
          rfl
        have hen : ¬ ((e : Nat) : Int) ∈ P.take i := fun hm => by
          obtain ⟨k, hk, hke⟩ := take_in hm
          have hkP : k < P.length := by omega
          have := List.pairwise_iff_getElem.1 hrise k i hkP (by omega) hk
          rw [(List.getElem?_eq_some_iff.1 hke).2, (List.getElem?_eq_some_iff.1 hPi).2] at this
          omega
        have hqD : O.getD e (0, 0, 0) = q := by rw [List.getD, hq]; rfl
        have hMe : M[e]? = some q := by
          have := hM e heO
          rw [if_neg hen, hqD, List.getD, List.getElem?_eq_getElem (by omega)] at this
          rw [List.getElem?_eq_getElem (by omega)]
          exact congrArg some this
        obtain ⟨bO, oO, rfl, _, _, _⟩ := hsO6.at_ (by omega)
        obtain ⟨bP, oP, rfl, _, _, _⟩ := hsP6.at_ (by omega)
        have lp := hsP6.int_at rfl (show i < P.length by omega)
        rw [he] at lp
        obtain ⟨lqA, _, _, _⟩ := hsO6.sq_at (G := G) hq rfl
        simp (disch := omega) only [go_sem,reduceIte,Nat.reduceEqDiff,Nat.reduceLT, e3, e4, e6, e7, e9, e10, len27, hlt2, idxA27, idxA22, Int.toNat_natCast, Nat.mul_one, load3, lp, lqA]
        refine At_alloc i61 zero61 rfl (by omega) fun h7 hn7 => ?_
        have n7 := hn7.next
        have w7 := hn7.var
        have p7 : Pres h6.next h6 h7 := hn7.pres (Nat.le_refl _)
        try simp only [go_sem,reduceIte,Nat.reduceEqDiff,Nat.reduceLT]
        refine At_storeV (v := sqv q) i61 (by simp only [go_sem,reduceIte,Nat.reduceEqDiff,Nat.reduceLT]) (by (simp only [go_sem,reduceIte,Nat.reduceEqDiff,Nat.reduceLT]) <;> rfl) w7 (by rw [size61]; rfl) (by rw [size61]; rfl) rfl (by rw [En_G]; omega) fun h8 hs8 v8 => ?_
        rw [sqv_cells] at v8
        have p8 : Pres h6.next h6 h8 := p7.trans (hs8.pres (Nat.le_refl _))
        have n8 : h8.next = h7.next := hs8.next
        obtain ⟨q0, q1, q2⟩ := v8.sq
        have lp8 := (hsP6.mono (B' := h8.blks) fun b _ hb => p8.get b (by omega)).int_at rfl (show i < P.length by omega)
        rw [he] at lp8
        have hsM8 := hsM.mono (B' := h8.blks) fun b _ hb => p8.get b (by omega)
        try simp only [go_sem,reduceIte,Nat.reduceEqDiff,Nat.reduceLT]
        refine WK_regionT 14 ⟨by kernel_rfl, by kernel_rfl, by kernel_rfl⟩ ?_
        simp (maxSteps := 3000000) (disch := omega) only [go_sem,reduceIte,Nat.reduceEqDiff,Nat.reduceLT, e3, e4, e6, e7, e9, e10, idxA27, idxA22, Int.toNat_natCast, Nat.mul_one, Nat.add_zero, Nat.zero_add, load3, lp8, fld61_0, fld61_2, q0, q2, wrap_i64]
        obtain ⟨cells6, size6, gb, glo, ghi, gsz, gL, gc⟩ := sinv hsM8
        refine At_store (inf := inf3) (b := bM) (off := oM + e * 3) (v := .int .i64 (f.1 + (l.1 + l.2.2) - q.1 - q.2.2)) i3 (by simp only [go_sem,reduceIte,Nat.reduceEqDiff,Nat.reduceLT]) (by simp only [go_sem,reduceIte,Nat.reduceEqDiff,Nat.reduceLT]) (by rw [size3]; rfl) rfl gb (by rw [size3]; omega) (by show G ≤ bM; omega) fun h9 hs9 => ?_
        have hsl' := hs9.slv (c := O.length) (.mk gb glo ghi gsz gL gc) (by show e * 3 + 1 ≤ O.length * 3; omega)
        have hes : (sqc M).take (e * 3) ++ (Value.int .i64 (f.1 + (l.1 + l.2.2) - q.1 - q.2.2)).cells.toList ++ (sqc M).drop (e * 3 + (Value.int .i64 (f.1 + (l.1 + l.2.2) - q.1 - q.2.2)).cells.toList.length) = sqc (M.set e (f.1 + (l.1 + l.2.2) - q.1 - q.2.2, q.2.1, q.2.2)) := sqc_setX hMe
        rw [hes] at hsl'
        have n9 := hs9.next
        have pr9 : Pres h4.next h4 h9 := pr6.trans ((p8.le (by omega)).trans (hs9.pres glo))
        simp (disch := omega) only [go_sem,reduceIte,Nat.reduceEqDiff,Nat.reduceLT, e10, wrap_i64]
        refine hJ2 (j2 - 1) _ _ (by omega) ⟨i + 1, M.set e (f.1 + (l.1 + l.2.2) - q.1 - q.2.2, q.2.1, q.2.2), by omega, by rw [List.length_set]; exact hMl, fun k hk => ?_, pr9, by omega, hsl', by simp only [go_sem,reduceIte,Nat.reduceEqDiff,Nat.reduceLT, e3], by simp only [go_sem,reduceIte,Nat.reduceEqDiff,Nat.reduceLT, e4], by simp only [go_sem,reduceIte,Nat.reduceEqDiff,Nat.reduceLT, e6], by simp only [go_sem,reduceIte,Nat.reduceEqDiff,Nat.reduceLT, e7], by simp only [go_sem,reduceIte,Nat.reduceEqDiff,Nat.reduceLT, e9], by (simp only [go_sem,reduceIte,Nat.reduceEqDiff,Nat.reduceLT]) <;> rfl⟩
        rw [take_snoc hPi]
        by_cases hke : k = e
        · subst hke
          rw [if_pos (by simp), hqD, List.getD, List.getElem?_set_self (by omega)]
          rfl
        · have h1 : (M.set e (f.1 + (l.1 + l.2.2) - q.1 - q.2.2, q.2.1, q.2.2)).getD k (0, 0, 0) = M.getD k (0, 0, 0) := by
            rw [List.getD, List.getD, List.getElem?_set_ne (by omega)]
          rw [h1, hM k hk]
          by_cases hm : (k : Int) ∈ P.take i
          · rw [if_pos hm, if_pos (List.mem_append_left _ hm)]
          · rw [if_neg hm, if_neg]
            intro hm2
            rcases List.mem_append.1 hm2 with g | g
            · exact hm g
            · have := List.mem_singleton.1 g
              omega
      · obtain rfl : i = P.length := by omega
        rw [List.take_length] at hM
        have hMm : M = O.map (mir f l) := by
          apply List.ext_getElem (by rw [List.length_map]; exact hMl)
          intro k hk1 hk2
          have hkO : k < O.length := by omega
          have hk := hM k hkO
          have e1 : M.getD k (0, 0, 0) = M[k] := by rw [List.getD, List.getElem?_eq_getElem hk1]; rfl
          have e2 : O.getD k (0, 0, 0) = O[k] := by rw [List.getD, List.getElem?_eq_getElem hkO]; rfl
          rw [e1, e2] at hk
          rw [List.getElem_map, hk]
          unfold mir
          by_cases hi : insB f l O[k] = true
          · rw [if_pos hi, if_pos ((hmem _).2 ⟨k, hkO, by rw [e2]; exact hi, rfl⟩)]
          · rw [if_neg hi, if_neg fun hm => by
              obtain ⟨i', _, hi', hz⟩ := (hmem _).1 hm
              have : i' = k := by omega
              rw [this, e2] at hi'
              exact hi hi']
        have hmkM := mirror hmk part
        rw [← hMm] at hmkM
        obtain ⟨hcovM, hwidM, hheiM⟩ := hmkM.cov (by omega) (by omega)
        have hchkM := chk_ok (by omega) (hmkM.ok (by omega) (by omega)) hcovM
        have pr06 : Pres h.next h h6 := pr3.trans (pr6.le (by omega))
        have ht6 := ht.le pr06 (by omega)
        simp (disch := omega) only [go_sem,reduceIte,Nat.reduceEqDiff,Nat.reduceLT, e3, e4, e6, e7, e9, e10, len27, hlt2]
        refine CallO_f (Measure_spec (by omega) hG3 (by omega) ht6 hsO6 (by omega)) (by omega) fun u h7 ph7 hm => ?_
        have hu : u = .tuple #[.int .i64 w, .int .i64 hh, .int .i64 0] := by
          rcases hm with ⟨_, hm⟩ | ⟨hm, _⟩
          · rw [hm, hwid, hhei]
          · exact absurd hchk hm
        subst hu
        have n7 := ph7.next
        have ht7 := ht6.le ph7 (by omega)
        have hsM7 := hsM.mono (B' := h7.blks) fun b _ hb => ph7.get b (by omega)
        simp (disch := omega) only [go_sem,reduceIte,Nat.reduceEqDiff,Nat.reduceLT, e9]
        rw [← hMl] at hsM7 ⊢
        refine CallO_f (Measure_spec (by omega) hG3 (by omega) ht7 hsM7 (by omega)) (by omega) fun u h8 ph8 hm => ?_
        have hu : u = .tuple #[.int .i64 w, .int .i64 hh, .int .i64 0] := by
          rcases hm with ⟨_, hm⟩ | ⟨hm, _⟩
          · rw [hm, hwidM, hheiM]
          · exact absurd hchkM hm
        subst hu
        have ht8 := ht7.le ph8 (by omega)
        have pr08 : Pres h.next h h8 := pr06.trans ((ph7.le (by omega)).trans (ph8.le (by omega)))
        have kw : decide ((w : Int) = (w : Int)) = true := decide_eq_true rfl
        have kh : decide ((hh : Int) = (hh : Int)) = true := decide_eq_true rfl
        have kP : (1 : Int) < (P.length : Int) := by
          have hp1 : P.length ≠ 1 := fun h1 => by
            obtain ⟨z, hzz⟩ := List.length_eq_one_iff.1 h1
            obtain ⟨x, hx, hxe⟩ := List.mem_iff_getElem.1 hf
            obtain ⟨y, hy, hye⟩ := List.mem_iff_getElem.1 hl
            have m1 : ((x : Nat) : Int) ∈ P := (hmem _).2 ⟨x, hx, by rw [List.getD, List.getElem?_eq_getElem hx, Option.getD_some, hxe]; exact ef, rfl⟩
            have m2 : ((y : Nat) : Int) ∈ P := (hmem _).2 ⟨y, hy, by rw [List.getD, List.getElem?_eq_getElem hy, Option.getD_some, hye]; exact el, rfl⟩
            rw [hzz, List.mem_singleton] at m1 m2
            have : x = y := by omega
            subst this
            exact hfl (hxe.symm.trans hye)
          omega
        have kO : (P.length : Int) < (M.length : Int) := by omega
        have kO' : (P.length : Int) < (O.length : Int) := by omega
        simp (maxSteps := 3000000) (disch := omega) only [go_sem,reduceIte,Nat.reduceEqDiff,Nat.reduceLT, e3, e4, len27, len22, k0, k3, kw, kh, kP, kO, kO', hMl]
        refine Call_lives ht8 (by omega) ?_
        simp (maxSteps := 3000000) only [go_sem,reduceIte,Nat.reduceEqDiff,Nat.reduceLT, k0]
        exact hQ' _ _ ⟨pr08, rfl⟩
end
end Go.Proofs.YtnhbkoeomefkdaaDoor.Ev.L

