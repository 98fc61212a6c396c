/- A cut out of squares: the contract. -/
import Derived.Test.YtnhbkoeomefkdaaDoorPmhA3
set_option linter.unusedSimpArgs false
set_option linter.unusedVariables false
namespace Go.Proofs.YtnhbkoeomefkdaaDoor.Ev
open Go Go.Proofs
noncomputable section

set_option maxRecDepth 100000 in
set_option maxHeartbeats 32000000 in
theorem newCut_spec {G lo hi c : Nat} {L : List Sq} {A : Option Addr} {h : H} (hG : G ≤ h.next) (hG3 : 3 ≤ G) (hhi : hi ≤ h.next) (ht : TabsIn tabs h.blks) (hv : SlV h.blks lo hi 3 L.length (sqc L) (.slice A L.length c)) (hl : L.length ≤ 1000) :
    Spec Tryd.prog (En G) 36 [.slice A L.length c] h fun v h' => (chk L = 0 ∧ ∃ A', v = .tuple #[cutV A' L.length (wid L) (hei L), .int .i64 0] ∧ SlV h'.blks h.next h'.next 3 L.length (sqc (ordSq L)) (.slice A' L.length L.length)) ∨ (chk L ≠ 0 ∧ v = .tuple #[cutV none 0 0 0, .int .i64 (chk L)]) := by
  refine CallsE_enter (En_known (by decide)) (En_f.trans Tryd.func36) rfl ⟨Nat.le_of_ble_eq_true rfl, by decide⟩ fun Q' hQ' => ?_
  simp only [Tryd.f36, go_sem,reduceIte,Nat.reduceEqDiff,Nat.reduceLT]
  refine At_alloc i64 zero64 rfl (by omega) fun h1 hn1 => ?_
  have n1 := hn1.next
  have v1 := hn1.var
  rw [cutV_cells] at v1
  have pr1 : Pres h.next h h1 := hn1.pres (Nat.le_refl _)
  simp only [go_sem,reduceIte,Nat.reduceEqDiff,Nat.reduceLT, len22]
  by_cases c1 : (24 : Int) < L.length
  · simp (disch := omega) only [go_sem,reduceIte,Nat.reduceEqDiff,Nat.reduceLT, c1, build64]
    refine At_storeV (b := h.next) (v := cutV none 0 0 0) i64 (by simp only [go_sem,reduceIte,Nat.reduceEqDiff,Nat.reduceLT]) (by (simp only [go_sem,reduceIte,Nat.reduceEqDiff,Nat.reduceLT]) <;> rfl) v1 (by rw [size64]; rfl) (by rw [size64]; rfl) rfl (by rw [En_G]; omega) fun h2 hsh2 vh2 => ?_
    rw [cutV_cells] at vh2
    simp only [go_sem,reduceIte,Nat.reduceEqDiff,Nat.reduceLT, evLoad_loadO, vh2.loadA agg64 i64 (by rw [size64]; rfl)]
    have e : chk L = 3 := chk_long (by omega)
    exact hQ' _ _ ⟨pr1.trans (hsh2.pres (Nat.le_refl _)), .inr ⟨by rw [e]; decide, by rw [e]⟩⟩
  simp (disch := omega) only [go_sem,reduceIte,Nat.reduceEqDiff,Nat.reduceLT, c1]
  refine At_alloc i64 zero64 rfl (by omega) fun h2 hn2 => ?_
  have n2 := hn2.next
  have v2 := hn2.var
  rw [cutV_cells] at v2
  have pr2 : Pres h.next h h2 := pr1.trans ((hn2.pres (Nat.le_refl _)).le (by omega))
  have v12 := v1.mono (B' := h2.blks) ((hn2.pres (Nat.le_refl _)).get _ (by omega))
  simp only [go_sem,reduceIte,Nat.reduceEqDiff,Nat.reduceLT, len22]
  refine WK_loopN (fun j α h3 => ∃ i : Nat, i + j = L.length ∧ Pres h.next h h3 ∧ h2.next ≤ h3.next ∧ (∀ q ∈ L.take i, okSq q) ∧ Var h3.blks h.next (cutL none 0 0 0) ∧ Var h3.blks h1.next (cutL none 0 (wid (L.take i)) (hei (L.take i))) ∧ α.get 0 = some (.slice A L.length c) ∧ α.get 2 = some (.pointer (some ⟨h.next, 0, none⟩)) ∧ α.get 4 = some (.pointer (some ⟨h1.next, 0, none⟩)) ∧ α.get 11 = some (.slice A L.length c) ∧ α.get 12 = some (.int .i64 L.length) ∧ α.get 13 = some (.int .i64 i)) L.length
    ⟨0, by omega, pr2, Nat.le_refl _, fun q hq => by simp at hq, v12, v2, by simp only [go_sem,reduceIte,Nat.reduceEqDiff,Nat.reduceLT], by (simp only [go_sem,reduceIte,Nat.reduceEqDiff,Nat.reduceLT]) <;> rfl, by (simp only [go_sem,reduceIte,Nat.reduceEqDiff,Nat.reduceLT]) <;> rfl, by simp only [go_sem,reduceIte,Nat.reduceEqDiff,Nat.reduceLT], by (simp only [go_sem,reduceIte,Nat.reduceEqDiff,Nat.reduceLT]) <;> rfl, by (simp only [go_sem,reduceIte,Nat.reduceEqDiff,Nat.reduceLT]) <;> rfl⟩ (by omega) ?_
  rintro J j α h3 ⟨i, hij, pr, nx, hoks, va, vb, e0, e2, e4, e11, e12, e13⟩ hJ
  have hb := bounds (L.take i) hoks
  have hv3 := hv.mono (B' := h3.blks) fun b _ hb => pr.get b (by omega)
  by_cases hlt : (i : Int) < (L.length : Int)
  · obtain ⟨q, hq⟩ : ∃ q, L[i]? = some q := ⟨_, List.getElem?_eq_getElem (show i < L.length by omega)⟩
    obtain ⟨bA, oA, rfl, _, _, _⟩ := hv3.at_ (by omega)
    obtain ⟨la, _, _, _⟩ := hv3.sq_at (G := G) hq rfl
    simp (disch := omega) only [go_sem,reduceIte,Nat.reduceEqDiff,Nat.reduceLT, e0, e2, e4, e11, e12, e13, hlt, idxA22, Int.toNat_natCast, la]
    refine At_alloc i61 zero61 rfl (by omega) fun h4 hnh4 => ?_
    have nh4 := hnh4.next
    have wh4 := hnh4.var
    have ph4 : Pres h3.next h3 h4 := hnh4.pres (Nat.le_refl _)
    try simp only [go_sem,reduceIte,Nat.reduceEqDiff,Nat.reduceLT]
    refine At_storeV (v := sqv q) i61 (by simp only [go_sem,reduceIte,Nat.reduceEqDiff,Nat.reduceLT]) (by (simp only [go_sem,reduceIte,Nat.reduceEqDiff,Nat.reduceLT]) <;> rfl) wh4 (by rw [size61]; rfl) (by rw [size61]; rfl) rfl (by rw [En_G]; omega) fun h5 hsh5 vh5 => ?_
    rw [sqv_cells] at vh5
    have ph5 : Pres h3.next h3 h5 := ph4.trans (hsh5.pres (Nat.le_refl _))
    have nh5 : h5.next = h4.next := hsh5.next
    obtain ⟨vh50, vh51, vh52⟩ := vh5.sq
    have pr5 : Pres h.next h h5 := pr.trans (ph5.le (by omega))
    have va5 := va.mono (B' := h5.blks) (ph5.get _ (by omega))
    have vb5 := vb.mono (B' := h5.blks) (ph5.get _ (by omega))
    simp (disch := omega) only [go_sem,reduceIte,Nat.reduceEqDiff,Nat.reduceLT, fld61_2, load3, Nat.zero_add, vh52]
    refine At_lit (vs := [(0, .int .i64 q.2.2)]) (cs := #[.int .i64 q.2.2]) u27 i3 zero3 (by rw [size3]; rfl) (by simp only [go_sem,reduceIte,Nat.reduceEqDiff,Nat.reduceLT]) (by rw [size3]; rfl) (by omega) fun h6 hn6 => ?_
    rw [size3] at hn6
    have n6 := hn6.next
    have ph6 : Pres h5.next h5 h6 := hn6.pres (Nat.le_refl _)
    have s6 := hn6.slv (n := 1) (c := 1) rfl
    have pr6 : Pres h.next h h6 := pr5.trans (ph6.le (by omega))
    have va6 := va5.mono (B' := h6.blks) (ph6.get _ (by omega))
    have vb6 := vb5.mono (B' := h6.blks) (ph6.get _ (by omega))
    have v6 := vh5.mono (B' := h6.blks) (ph6.get _ (by omega))
    obtain ⟨v60, v61, v62⟩ := v6.sq
    simp only [go_sem,reduceIte,Nat.reduceEqDiff,Nat.reduceLT]
    refine CallO_same (Q := fun v => v = .bool (sideB q.2.2)) (areSides1 s6) (by omega) fun u hu => ?_
    subst hu
    -- what is wrong with a square
    have bad : ∀ {α1 : Tr Value} {h9 : H}, True := fun {_ _} => trivial
    by_cases d1 : sideB q.2.2 = true
    rotate_left
    · have d1' : sideB q.2.2 = false := by simpa using d1
      simp (disch := omega) only [go_sem,reduceIte,Nat.reduceEqDiff,Nat.reduceLT, e2, d1', build64]
      refine At_storeV (b := h.next) (v := cutV none 0 0 0) i64 (by simp only [go_sem,reduceIte,Nat.reduceEqDiff,Nat.reduceLT, e2]) (by (simp only [go_sem,reduceIte,Nat.reduceEqDiff,Nat.reduceLT, e2]) <;> rfl) va6 (by rw [size64]; rfl) (by rw [size64]; rfl) rfl (by rw [En_G]; omega) fun h7 hsh7 vh7 => ?_
      rw [cutV_cells] at vh7
      simp only [go_sem,reduceIte,Nat.reduceEqDiff,Nat.reduceLT, e2, evLoad_loadO, vh7.loadA agg64 i64 (by rw [size64]; rfl)]
      have e : chk L = 1 := chk_bad (by omega) fun hall => by
        have := okSq_iff.1 (hall q (List.mem_of_getElem? hq))
        exact d1 this.1
      exact hQ' _ _ ⟨pr6.trans (hsh7.pres (Nat.le_refl _)), .inr ⟨by rw [e]; decide, by rw [e]⟩⟩
    have hsd : 1 ≤ q.2.2 ∧ q.2.2 ≤ 1000 := of_decide_eq_true d1
    simp (maxSteps := 3000000) (disch := omega) only [go_sem,reduceIte,Nat.reduceEqDiff,Nat.reduceLT, d1, fld61_0, fld61_1, fld61_2, load3, Nat.zero_add, Nat.add_zero, v60, v61, v62]
    refine CallO_same (Q := fun v => v = .bool (atB q.1 q.2.2)) (isAt_spec hsd.1 hsd.2) (by omega) fun u hu => ?_
    subst hu
    by_cases d2 : atB q.1 q.2.2 = true
    rotate_left
    · have d2' : atB q.1 q.2.2 = false := by simpa using d2
      simp (disch := omega) only [go_sem,reduceIte,Nat.reduceEqDiff,Nat.reduceLT, e2, d2', build64]
      refine At_storeV (b := h.next) (v := cutV none 0 0 0) i64 (by simp only [go_sem,reduceIte,Nat.reduceEqDiff,Nat.reduceLT, e2]) (by (simp only [go_sem,reduceIte,Nat.reduceEqDiff,Nat.reduceLT, e2]) <;> rfl) va6 (by rw [size64]; rfl) (by rw [size64]; rfl) rfl (by rw [En_G]; omega) fun h7 hsh7 vh7 => ?_
      rw [cutV_cells] at vh7
      simp only [go_sem,reduceIte,Nat.reduceEqDiff,Nat.reduceLT, e2, evLoad_loadO, vh7.loadA agg64 i64 (by rw [size64]; rfl)]
      have e : chk L = 1 := chk_bad (by omega) fun hall => by
        have := okSq_iff.1 (hall q (List.mem_of_getElem? hq))
        exact d2 this.2.1
      exact hQ' _ _ ⟨pr6.trans (hsh7.pres (Nat.le_refl _)), .inr ⟨by rw [e]; decide, by rw [e]⟩⟩
    simp (maxSteps := 3000000) (disch := omega) only [go_sem,reduceIte,Nat.reduceEqDiff,Nat.reduceLT, d2, fld61_0, fld61_1, fld61_2, load3, Nat.zero_add, Nat.add_zero, v60, v61, v62]
    refine CallO_same (Q := fun v => v = .bool (atB q.2.1 q.2.2)) (isAt_spec hsd.1 hsd.2) (by omega) fun u hu => ?_
    subst hu
    by_cases d3 : atB q.2.1 q.2.2 = true
    rotate_left
    · have d3' : atB q.2.1 q.2.2 = false := by simpa using d3
      simp (disch := omega) only [go_sem,reduceIte,Nat.reduceEqDiff,Nat.reduceLT, e2, d3', build64]
      refine At_storeV (b := h.next) (v := cutV none 0 0 0) i64 (by simp only [go_sem,reduceIte,Nat.reduceEqDiff,Nat.reduceLT, e2]) (by (simp only [go_sem,reduceIte,Nat.reduceEqDiff,Nat.reduceLT, e2]) <;> rfl) va6 (by rw [size64]; rfl) (by rw [size64]; rfl) rfl (by rw [En_G]; omega) fun h7 hsh7 vh7 => ?_
      rw [cutV_cells] at vh7
      simp only [go_sem,reduceIte,Nat.reduceEqDiff,Nat.reduceLT, e2, evLoad_loadO, vh7.loadA agg64 i64 (by rw [size64]; rfl)]
      have e : chk L = 1 := chk_bad (by omega) fun hall => by
        have := okSq_iff.1 (hall q (List.mem_of_getElem? hq))
        exact d3 this.2.2
      exact hQ' _ _ ⟨pr6.trans (hsh7.pres (Nat.le_refl _)), .inr ⟨by rw [e]; decide, by rw [e]⟩⟩
    have hqo : okSq q := okSq_iff.2 ⟨d1, d2, d3⟩
    obtain ⟨x1, x2, ⟨x3, x4⟩, x5, x6⟩ := id hqo
    have lw : loadv h6.blks h1.next 1 = some (.int .i64 (wid (L.take i))) := vb6.load (i := 1) (by simp only [List.length_cons, List.length_nil]; omega)
    simp (maxSteps := 3000000) (disch := omega) only [go_sem,reduceIte,Nat.reduceEqDiff,Nat.reduceLT, d3, e4, fld64_1, fld64_2, fld61_0, fld61_1, fld61_2, load3, Nat.zero_add, Nat.add_zero, v60, v61, v62, lw, wrap_i64]
    refine At_store (inf := inf3) (b := h1.next) (off := 1) (v := .int .i64 (max (wid (L.take i)) (q.1 + q.2.2))) i3 (by simp only [go_sem,reduceIte,Nat.reduceEqDiff,Nat.reduceLT]) (by (simp only [go_sem,reduceIte,Nat.reduceEqDiff,Nat.reduceLT]) <;> rfl) (by rw [size3]; rfl) rfl vb6.choose_spec.choose_spec.1 (by rw [size3]; show 1 + 1 ≤ 3; omega) (by rw [En_G]; omega) fun h7 hs7 => ?_
    have n7 := hs7.next
    have vb7 : Var h7.blks h1.next (cutL none 0 (max (wid (L.take i)) (q.1 + q.2.2)) (hei (L.take i))) := hs7.varAt vb6 (by show 1 + 1 ≤ 3; omega)
    have va7 := va6.mono (B' := h7.blks) (hs7.get _ (by omega))
    have v7 := v6.mono (B' := h7.blks) (hs7.get _ (by omega))
    obtain ⟨v70, v71, v72⟩ := v7.sq
    have lh : loadv h7.blks h1.next 2 = some (.int .i64 (hei (L.take i))) := vb7.load (i := 2) (by simp only [List.length_cons, List.length_nil]; omega)
    simp (maxSteps := 3000000) (disch := omega) only [go_sem,reduceIte,Nat.reduceEqDiff,Nat.reduceLT, e4, fld64_1, fld64_2, fld61_0, fld61_1, fld61_2, load3, Nat.zero_add, Nat.add_zero, v70, v71, v72, lh, wrap_i64]
    refine At_store (inf := inf3) (b := h1.next) (off := 2) (v := .int .i64 (max (hei (L.take i)) (q.2.1 + q.2.2))) i3 (by simp only [go_sem,reduceIte,Nat.reduceEqDiff,Nat.reduceLT]) (by (simp only [go_sem,reduceIte,Nat.reduceEqDiff,Nat.reduceLT]) <;> rfl) (by rw [size3]; rfl) rfl vb7.choose_spec.choose_spec.1 (by rw [size3]; show 2 + 1 ≤ 3; omega) (by rw [En_G]; omega) fun h8 hs8 => ?_
    have n8 := hs8.next
    have vb8 : Var h8.blks h1.next (cutL none 0 (max (wid (L.take i)) (q.1 + q.2.2)) (max (hei (L.take i)) (q.2.1 + q.2.2))) := hs8.varAt vb7 (by show 2 + 1 ≤ 3; omega)
    have va8 := va7.mono (B' := h8.blks) (hs8.get _ (by omega))
    have pr8 : Pres h.next h h8 := pr6.trans ((hs7.pres (show h.next ≤ h1.next by omega)).trans (hs8.pres (by omega)))
    rw [← wid_snoc, ← hei_snoc, ← take_snoc hq] at vb8
    simp (disch := omega) only [go_sem,reduceIte,Nat.reduceEqDiff,Nat.reduceLT, e13, wrap_i64]
    exact hJ (L.length - (i + 1)) _ _ (by omega) ⟨i + 1, by omega, pr8, by omega, fun q' hq' => by
      rw [take_snoc hq] at hq'
      rcases List.mem_append.1 hq' with hq' | hq'
      · exact hoks q' hq'
      · simp at hq'; subst hq'; exact hqo, va8, vb8, by simp only [go_sem,reduceIte,Nat.reduceEqDiff,Nat.reduceLT, e0], by simp only [go_sem,reduceIte,Nat.reduceEqDiff,Nat.reduceLT, e2], by simp only [go_sem,reduceIte,Nat.reduceEqDiff,Nat.reduceLT, e4], by simp only [go_sem,reduceIte,Nat.reduceEqDiff,Nat.reduceLT, e11], by simp only [go_sem,reduceIte,Nat.reduceEqDiff,Nat.reduceLT, e12], by (simp only [go_sem,reduceIte,Nat.reduceEqDiff,Nat.reduceLT]) <;> rfl⟩
  · obtain rfl : i = L.length := by omega
    rw [List.take_length] at hoks vb hb
    have lw : loadv h3.blks h1.next 1 = some (.int .i64 (wid L)) := vb.load (i := 1) (by simp only [List.length_cons, List.length_nil]; omega)
    have lh : loadv h3.blks h1.next 2 = some (.int .i64 (hei L)) := vb.load (i := 2) (by simp only [List.length_cons, List.length_nil]; omega)
    simp (maxSteps := 3000000) (disch := omega) only [go_sem,reduceIte,Nat.reduceEqDiff,Nat.reduceLT, e0, e2, e4, e11, e12, e13, hlt, fld64_1, fld64_2, load3, Nat.zero_add, lw, lh]
    refine CallO_f (cover_spec (by omega) (by omega) hv3 (by omega) hoks hb.1 hb.2.1) (by omega) fun u h4 ph4 ⟨r, hu, hr⟩ => ?_
    subst hu
    have n4 := ph4.next
    have pr4 : Pres h.next h h4 := pr.trans (ph4.le (by omega))
    have va4 := va.mono (B' := h4.blks) (ph4.get _ (by omega))
    have vb4 := vb.mono (B' := h4.blks) (ph4.get _ (by omega))
    cases r with
    | false =>
      simp (disch := omega) only [go_sem,reduceIte,Nat.reduceEqDiff,Nat.reduceLT, e2, build64]
      refine At_storeV (b := h.next) (v := cutV none 0 0 0) i64 (by simp only [go_sem,reduceIte,Nat.reduceEqDiff,Nat.reduceLT, e2]) (by (simp only [go_sem,reduceIte,Nat.reduceEqDiff,Nat.reduceLT, e2]) <;> rfl) va4 (by rw [size64]; rfl) (by rw [size64]; rfl) rfl (by rw [En_G]; omega) fun h5 hsh5 vh5 => ?_
      rw [cutV_cells] at vh5
      simp only [go_sem,reduceIte,Nat.reduceEqDiff,Nat.reduceLT, e2, evLoad_loadO, vh5.loadA agg64 i64 (by rw [size64]; rfl)]
      have e : chk L = 2 := chk_form (by omega) hoks fun hc => Bool.noConfusion (hr.2 hc)
      exact hQ' _ _ ⟨pr4.trans (hsh5.pres (Nat.le_refl _)), .inr ⟨by rw [e]; decide, by rw [e]⟩⟩
    | true =>
      have hcov : cov L := hr.1 rfl
      have hL0 := hcov.1
      simp (disch := omega) only [go_sem,reduceIte,Nat.reduceEqDiff,Nat.reduceLT, e0]
      refine CallO_f (clone_spec (hv.mono (B' := h4.blks) fun b _ hb => pr4.get b (by omega)) hL0 (by omega)) (by omega) fun u h5 ph5 ⟨A5, hu, hs5⟩ => ?_
      subst hu
      have n5 := ph5.next
      have pr5 : Pres h.next h h5 := pr4.trans (ph5.le (by omega))
      have va5 := va4.mono (B' := h5.blks) (ph5.get _ (by omega))
      have vb5 := vb4.mono (B' := h5.blks) (ph5.get _ (by omega))
      simp (disch := omega) only [go_sem,reduceIte,Nat.reduceEqDiff,Nat.reduceLT, e4, fld64_0, Nat.add_zero]
      refine At_store (inf := inf22) (b := h1.next) (off := 0) (v := .slice A5 L.length L.length) i22 (by simp only [go_sem,reduceIte,Nat.reduceEqDiff,Nat.reduceLT]) (by (simp only [go_sem,reduceIte,Nat.reduceEqDiff,Nat.reduceLT]) <;> rfl) (by rw [size22]; rfl) rfl vb5.choose_spec.choose_spec.1 (by rw [size22]; show 0 + 1 ≤ 3; omega) (by rw [En_G]; omega) fun h6 hs6 => ?_
      have n6 := hs6.next
      have vb6 : Var h6.blks h1.next (cutL A5 L.length (wid L) (hei L)) := hs6.varAt vb5 (by show 0 + 1 ≤ 3; omega)
      have va6 := va5.mono (B' := h6.blks) (hs6.get _ (by omega))
      have s6 := hs5.mono (B' := h6.blks) fun b hb _ => hs6.get b (by omega)
      have pr6 : Pres h.next h h6 := pr5.trans (hs6.pres (by omega))
      have ls : loadv h6.blks h1.next 0 = some (.slice A5 L.length L.length) := vb6.load (i := 0) (by simp only [List.length_cons, List.length_nil]; omega)
      simp (disch := omega) only [go_sem,reduceIte,Nat.reduceEqDiff,Nat.reduceLT, e4, fld64_0, Nat.add_zero, load22, ls]
      refine CallO_any (sort_calls (ht.le pr6 (by omega)) rfl s6 hL0 (by omega) (by omega) hoks hcov.2.1) (by omega) fun u h7 ⟨hu, ph7, n7, s7⟩ => ?_
      subst hu
      have va7 := va6.mono (B' := h7.blks) (ph7.get _ (by omega))
      have vb7 := vb6.mono (B' := h7.blks) (ph7.get _ (by omega))
      have pr7 : Pres h.next h h7 := pr6.trans (ph7.le (by omega))
      simp (disch := omega) only [go_sem,reduceIte,Nat.reduceEqDiff,Nat.reduceLT, e2, e4, vb7.loadA agg64 i64 (by rw [size64]; rfl)]
      refine At_storeV (b := h.next) (v := cutV A5 L.length (wid L) (hei L)) i64 (by simp only [go_sem,reduceIte,Nat.reduceEqDiff,Nat.reduceLT, e2]) (by (simp only [go_sem,reduceIte,Nat.reduceEqDiff,Nat.reduceLT, e2]) <;> rfl) va7 (by rw [size64]; rfl) (by rw [size64]; rfl) rfl (by rw [En_G]; omega) fun h8 hsh8 vh8 => ?_
      rw [cutV_cells] at vh8
      simp only [go_sem,reduceIte,Nat.reduceEqDiff,Nat.reduceLT, e2, evLoad_loadO, vh8.loadA agg64 i64 (by rw [size64]; rfl)]
      have e : chk L = 0 := chk_ok (by omega) hoks hcov
      exact hQ' _ _ ⟨pr7.trans (hsh8.pres (Nat.le_refl _)), .inl ⟨e, A5, rfl, (s7.mono fun b hb _ => hsh8.get b (by omega)).wide (by omega) (by have := hsh8.next; omega)⟩⟩
end
end Go.Proofs.YtnhbkoeomefkdaaDoor.Ev

