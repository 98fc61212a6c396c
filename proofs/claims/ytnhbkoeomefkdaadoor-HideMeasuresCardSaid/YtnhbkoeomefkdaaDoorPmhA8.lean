/- The law HideMeasures. -/
import Derived.Test.YtnhbkoeomefkdaaDoorPmhA7
set_option linter.unusedSimpArgs false
set_option linter.unusedVariables false
namespace Go.Proofs.YtnhbkoeomefkdaaDoor.Ev
open Go Go.Proofs
noncomputable section

set_option maxRecDepth 100000 in
set_option maxHeartbeats 8000000 in
theorem rCode_spec {G lo hi c : Nat} {L : List Sq} {A : Option Addr} {h : H} (hG : G ≤ h.next) (hhi : hi ≤ h.next) (hv : SlV h.blks lo hi 3 L.length (sqc L) (.slice A L.length c)) (hl : L.length ≤ 1000000) :
    Spec Tryd.prog (En G) 21 [.slice A L.length c] h fun v h' => ∃ (A' : Option Addr) (O : List Sq), v = .slice A' L.length L.length ∧ O.Perm L ∧ Srt O ∧ SlV h'.blks h.next h'.next 1 L.length (ints (szs O)) (.slice A' L.length L.length) := by
  refine CallsE_enter (En_known (by decide)) (En_f.trans Tryd.func21) rfl ⟨Nat.le_of_ble_eq_true rfl, by decide⟩ fun Q' hQ' => ?_
  simp only [Tryd.f21, go_sem,reduceIte,Nat.reduceEqDiff,Nat.reduceLT]
  refine At_lit0 u27 i3 zero3 (by rw [size3]; rfl) (by omega) ?_
  simp only [go_sem,reduceIte,Nat.reduceEqDiff,Nat.reduceLT]
  refine CallO_f (Order_spec hG hhi hv hl) (by omega) fun u h1 ph1 ⟨A1, O, hu, hpm, hsO, hs1⟩ => ?_
  subst hu
  have n1 := ph1.next
  have hOl : O.length = L.length := hpm.length_eq
  have fin : ∀ A' h', Pres h.next h h' → SlV h'.blks h.next h'.next 1 L.length (ints (szs O)) (.slice A' L.length L.length) → Q' (.slice A' L.length L.length) h' := fun A' h' hp hs => hQ' _ _ ⟨hp, A', O, rfl, hpm, hsO, hs⟩
  clear hQ'
  rw [← hOl] at hs1 fin hl ⊢
  simp only [go_sem,reduceIte,Nat.reduceEqDiff,Nat.reduceLT]
  refine WK_loopN (fun j α h2 => ∃ (i : Nat) (A' : Option Addr), i + j = O.length ∧ Pres h1.next h1 h2 ∧ SlV h2.blks h1.next h2.next 1 (szs (O.take i)).length (ints (szs (O.take i))) (.slice A' (szs (O.take i)).length (szs (O.take i)).length) ∧ α.get 3 = some (.slice A' (szs (O.take i)).length (szs (O.take i)).length) ∧ α.get 4 = some (.slice A1 O.length O.length) ∧ α.get 5 = some (.int .i64 i)) O.length
    ⟨0, some ⟨0, 0, some 0⟩, by omega, Pres.refl _ _, .emp rfl rfl, by (simp only [go_sem,reduceIte,Nat.reduceEqDiff,Nat.reduceLT]) <;> rfl, by simp only [go_sem,reduceIte,Nat.reduceEqDiff,Nat.reduceLT], by (simp only [go_sem,reduceIte,Nat.reduceEqDiff,Nat.reduceLT]) <;> rfl⟩ (by omega) ?_
  rintro J j α h2 ⟨i, A', hij, pr, hs, e3, e4, e5⟩ hJ
  have nx := pr.next
  have hti : (szs (O.take i)).length = i := by rw [List.length_map, List.length_take]; omega
  by_cases hlt : (i : Int) < (O.length : Int)
  · obtain ⟨q, hq⟩ : ∃ q, O[i]? = some q := ⟨_, List.getElem?_eq_getElem (show i < O.length by omega)⟩
    have hv2 := hs1.mono (B' := h2.blks) fun b _ hb => pr.get b (by omega)
    obtain ⟨bA, oA, rfl, _, _, _⟩ := hv2.at_ (by omega)
    obtain ⟨_, _, _, la2⟩ := hv2.sq_at (G := G) hq rfl
    simp (disch := omega) only [go_sem,reduceIte,Nat.reduceEqDiff,Nat.reduceLT, e3, e4, e5, hlt, len22, idxA22, Int.toNat_natCast, fld61_2, load3, la2]
    refine At_pushI (lo := h1.next) (hi := h2.next) (l := szs (O.take i)) (z := q.2.2) (by (simp only [go_sem,reduceIte,Nat.reduceEqDiff,Nat.reduceLT]) <;> rfl) (by simp only [go_sem,reduceIte,Nat.reduceEqDiff,Nat.reduceLT]) hs (by omega) (by omega) (by omega) (by omega) (by decide) (by decide) (by decide) fun A3 h5 pr5 hs5 nx5 => ?_
    have e : szs (O.take i) ++ [q.2.2] = szs (O.take (i + 1)) := by rw [take_snoc hq, szs, szs, List.map_append]; rfl
    rw [e] at hs5 ⊢
    simp (disch := omega) only [go_sem,reduceIte,Nat.reduceEqDiff,Nat.reduceLT, e5, wrap_i64]
    exact hJ (O.length - (i + 1)) _ _ (by omega) ⟨i + 1, A3, by omega, pr.trans pr5, hs5, by simp only [go_sem,reduceIte,Nat.reduceEqDiff,Nat.reduceLT], by simp only [go_sem,reduceIte,Nat.reduceEqDiff,Nat.reduceLT, e4], by (simp only [go_sem,reduceIte,Nat.reduceEqDiff,Nat.reduceLT]) <;> rfl⟩
  · obtain rfl : i = O.length := by omega
    rw [List.take_length] at hs e3 hti
    simp (disch := omega) only [go_sem,reduceIte,Nat.reduceEqDiff,Nat.reduceLT, e3, e4, e5, hlt, len22]
    rw [hti] at hs ⊢
    exact fin _ _ (ph1.trans (pr.le (by omega))) (hs.wide (by omega) (Nat.le_refl _))

theorem eqBl {a b : Bool} : pureRun Tryd.prog (do eqGuard .eql 4 (.tmp 0) (.tmp 0) (.bool a) (.bool b); binOp .eql 4 (.bool a) (.bool b)) = some (.bool (a == b)) := by
  cases a <;> cases b <;> kernel_rfl
theorem eq_bool {G : Nat} {a b : Bool} : binO Tryd.prog (En G) .eql 4 (some (.bool a)) (some (.bool b)) = some (.bool (a == b)) := by
  have h1 : (plainA (.bool a) && plainA (.bool b)) = true := rfl
  have h2 : fastBin .eql (.bool a) (.bool b) = none := rfl
  simp only [binO, h1, if_true, h2, slowBin, eqBl]
  rfl
/-- how many squares a copy has -/
def fewN (n most : Nat) : Nat := min n (if 24 < n then 25 else most)
set_option maxRecDepth 100000 in
set_option maxHeartbeats 8000000 in
theorem few_spec {G lo hi c most : Nat} {L : List Sq} {A : Option Addr} {h : H} (hG : G ≤ h.next) (hhi : hi ≤ h.next) (hv : SlV h.blks lo hi 3 L.length (sqc L) (.slice A L.length c)) (hm : most ≤ 1000) (hn : L.length < 4611686018427387904) :
    Spec Tryd.prog (En G) 13 [.slice A L.length c, .int .i64 most] h fun v h' => ∃ A', v = .slice A' (fewN L.length most) (fewN L.length most) ∧ SlV h'.blks h.next h'.next 3 (fewN L.length most) (sqc (L.take (fewN L.length most))) (.slice A' (fewN L.length most) (fewN L.length most)) := by
  refine CallsE_enter (En_known (by decide)) (En_f.trans Tryd.func13) rfl ⟨Nat.le_of_ble_eq_true rfl, by decide⟩ fun Q' hQ' => ?_
  simp only [Tryd.f13, go_sem,reduceIte,Nat.reduceEqDiff,Nat.reduceLT, len22]
  obtain ⟨k, hk⟩ : ∃ k, k = fewN L.length most := ⟨_, rfl⟩
  have hkn : k ≤ L.length := by rw [hk]; exact Nat.min_le_left _ _
  have hk1 : k ≤ 1000 := by rw [hk]; unfold fewN; split <;> omega
  rw [← hk] at hQ'
  obtain ⟨A2, c2, hsl, hp2⟩ := sliceO_take (E := En G) (kd := .i64) (m := k) u22 i61 size61 hv hkn
  rw [sqc_take] at hp2
  by_cases c1 : (24 : Int) < (L.length : Int)
  · have e25 : min (L.length : Int) 25 = (k : Int) := by rw [hk]; unfold fewN; rw [if_pos (by omega)]; omega
    simp only [go_sem,reduceIte,Nat.reduceEqDiff,Nat.reduceLT, len22, c1]
    refine At_lit0 u22 i61 zero61 (by rw [size61]; rfl) (by omega) ?_
    simp only [go_sem,reduceIte,Nat.reduceEqDiff,Nat.reduceLT, len22, e25, hsl]
    refine At_appendF (M := sqc (L.take k)) (m := k) (v := .slice A2 k c2) u22 u22 i61 zero61 (by rw [size61, bytes61]; rfl) (by simp only [go_sem,reduceIte,Nat.reduceEqDiff,Nat.reduceLT]) (by simp only [go_sem,reduceIte,Nat.reduceEqDiff,Nat.reduceLT]) (by rw [size61]; exact hp2) (by omega) sqc_one (by omega) fun A' h' hp hs' => ?_
    rw [size61] at hs'
    simp only [go_sem,reduceIte,Nat.reduceEqDiff,Nat.reduceLT]
    exact hQ' _ _ ⟨hp, A', rfl, hs'⟩
  · have e25 : min (L.length : Int) (most : Int) = (k : Int) := by rw [hk]; unfold fewN; rw [if_neg (by omega)]; omega
    simp only [go_sem,reduceIte,Nat.reduceEqDiff,Nat.reduceLT, len22, c1]
    refine At_lit0 u22 i61 zero61 (by rw [size61]; rfl) (by omega) ?_
    simp only [go_sem,reduceIte,Nat.reduceEqDiff,Nat.reduceLT, len22, e25, hsl]
    refine At_appendF (M := sqc (L.take k)) (m := k) (v := .slice A2 k c2) u22 u22 i61 zero61 (by rw [size61, bytes61]; rfl) (by simp only [go_sem,reduceIte,Nat.reduceEqDiff,Nat.reduceLT]) (by simp only [go_sem,reduceIte,Nat.reduceEqDiff,Nat.reduceLT]) (by rw [size61]; exact hp2) (by omega) sqc_one (by omega) fun A' h' hp hs' => ?_
    rw [size61] at hs'
    simp only [go_sem,reduceIte,Nat.reduceEqDiff,Nat.reduceLT]
    exact hQ' _ _ ⟨hp, A', rfl, hs'⟩

set_option maxRecDepth 100000 in
set_option maxHeartbeats 16000000 in
theorem law_HideMeasures {G lo hi c : Nat} {X : List Sq} {A : Option Addr} {h : H} (hG : G ≤ h.next) (hG3 : 3 ≤ G) (hhi : hi ≤ h.next) (ht : TabsIn tabs h.blks) (hv : SlV h.blks lo hi 3 X.length (sqc X) (.slice A X.length c)) (hn : X.length < 4611686018427387904) :
    Spec Tryd.prog (En G) 3 [.slice A X.length c] h fun w _ => w = .bool true := by
  refine CallsE_enter (En_known (by decide)) (En_f.trans Tryd.func3) rfl ⟨Nat.le_of_ble_eq_true rfl, by decide⟩ fun Q' hQ' => ?_
  simp only [Tryd.f3, go_sem,reduceIte,Nat.reduceEqDiff,Nat.reduceLT]
  refine CallO_f (few_spec (most := 24) hG hhi hv (by omega) hn) (by omega) fun u h1 ph1 ⟨A1, hu, hs1⟩ => ?_
  subst hu
  have n1 := ph1.next
  obtain ⟨k, hk⟩ : ∃ k, k = fewN X.length 24 := ⟨_, rfl⟩
  have hkn : k ≤ X.length := by rw [hk]; exact Nat.min_le_left _ _
  have hk1 : k ≤ 25 := by rw [hk]; unfold fewN; split <;> omega
  rw [← hk] at hs1 ⊢
  obtain ⟨L, hL⟩ : ∃ L, L = X.take k := ⟨_, rfl⟩
  have hLl : L.length = k := by rw [hL, List.length_take]; omega
  rw [← hL] at hs1
  rw [← hLl] at hs1 hk1 ⊢
  clear hL hLl hk hkn
  have ht1 := ht.le ph1 (by omega)
  simp only [go_sem,reduceIte,Nat.reduceEqDiff,Nat.reduceLT]
  refine CallO_f (Measure_spec (by omega) hG3 (Nat.le_refl _) ht1 hs1 (by omega)) (by omega) fun u h2 ph2 hm => ?_
  have n2 := ph2.next
  have hs2 := hs1.mono (B' := h2.blks) fun b _ hb => ph2.get b hb
  have ht2 := ht1.le ph2 (by omega)
  have pr2 : Pres h.next h h2 := ph1.trans (ph2.le (by omega))
  have cod := Code_spec (G := G) (by omega) hG3 (by omega) ht2 hs2 (by omega)
  rcases hm with ⟨he, hu⟩ | ⟨he, hu⟩
  · subst hu
    obtain ⟨hl24, hok, hcov⟩ := chk_zero he
    simp only [go_sem,reduceIte,Nat.reduceEqDiff,Nat.reduceLT]
    refine CallO_f cod (by omega) fun u h3 ph3 hc => ?_
    have n3 := ph3.next
    have hs3 := hs2.mono (B' := h3.blks) fun b _ hb => ph3.get b (by omega)
    have ht3 := ht2.le ph3 (by omega)
    have pr3 : Pres h.next h h3 := pr2.trans (ph3.le (by omega))
    obtain ⟨_, A3, hu, hc3⟩ : chk L = 0 ∧ ∃ A', u = .tuple #[.slice A' L.length L.length, .int .i64 0] ∧ SlV h3.blks h2.next h3.next 1 L.length (ints (szs (ordSq L))) (.slice A' L.length L.length) := by
      rcases hc with hc | hc
      · exact hc
      · exact absurd he hc.1
    subst hu
    simp only [go_sem,reduceIte,Nat.reduceEqDiff,Nat.reduceLT]
    refine CallO_f (Perfect_spec (by omega) hG3 (by omega) ht3 hs3 (by omega)) (by omega) fun u h4 ph4 hp => ?_
    have n4 := ph4.next
    have hs4 := hs3.mono (B' := h4.blks) fun b _ hb => ph4.get b (by omega)
    have hc4 := hc3.mono (B' := h4.blks) fun b _ hb => ph4.get b (by omega)
    have ht4 := ht3.le ph4 (by omega)
    have pr4 : Pres h.next h h4 := pr3.trans (ph4.le (by omega))
    obtain ⟨_, r, hu, hr⟩ : chk L = 0 ∧ ∃ r, u = .tuple #[.bool r, .int .i64 0] ∧ (r = true ↔ prf L) := by
      rcases hp with hp | hp
      · exact hp
      · exact absurd he hp.1
    subst hu
    simp only [go_sem,reduceIte,Nat.reduceEqDiff,Nat.reduceLT]
    refine CallO_f (Check_spec (by omega) (by omega) hs4 (by omega)) (by omega) fun u h5 ph5 hu => ?_
    subst hu
    rw [he]
    have n5 := ph5.next
    have hs5 := hs4.mono (B' := h5.blks) fun b _ hb => ph5.get b (by omega)
    have hc5 := hc4.mono (B' := h5.blks) fun b _ hb => ph5.get b (by omega)
    have ht5 := ht4.le ph5 (by omega)
    have pr5 : Pres h.next h h5 := pr4.trans (ph5.le (by omega))
    have k0 : decide ((0 : Int) ≠ 0) = false := rfl
    simp only [go_sem,reduceIte,Nat.reduceEqDiff,Nat.reduceLT, k0]
    refine CallO_same (Q := fun v => v = .tuple #[.int .i64 (wid L), .int .i64 (hei L)]) (rMeasure_spec hs5 hl24 hok) (by omega) fun u hu => ?_
    subst hu
    have k1 : decide (wid L = wid L) = true := decide_eq_true rfl
    have k2 : decide (hei L = hei L) = true := decide_eq_true rfl
    have k3 : decide ((0 : Int) = 0) = true := rfl
    simp (maxSteps := 3000000) only [go_sem,reduceIte,Nat.reduceEqDiff,Nat.reduceLT, k1, k2, k3]
    refine CallO_f (rCode_spec (by omega) (by omega) hs5 (by omega)) (by omega) fun u h6 ph6 ⟨A6, O, hu, hpm, hsO, hs6⟩ => ?_
    subst hu
    have n6 := ph6.next
    have hc6 := hc5.mono (B' := h6.blks) fun b _ hb => ph6.get b (by omega)
    have ht6 := ht5.le ph6 (by omega)
    have pr6 : Pres h.next h h6 := pr5.trans (ph6.le (by omega))
    have hOO := srt_unique hok hcov.2.1 hpm hsO
    subst hOO
    have hol : (szs (ordSq L)).length = L.length := by rw [List.length_map, ordSq_perm.length_eq]
    rw [← hol] at hc6 hs6 ⊢
    simp (maxSteps := 3000000) only [go_sem,reduceIte,Nat.reduceEqDiff,Nat.reduceLT]
    refine CallO_same (Q := fun v => ∃ b, v = .bool b ∧ (b = true ↔ szs (ordSq L) = szs (ordSq L))) (Same_l hc6 hs6 (by omega) (by omega)) (by omega) fun u ⟨b, hu, hb⟩ => ?_
    obtain rfl : b = true := hb.2 rfl
    subst hu
    rw [hol]
    have hs6' := hs5.mono (B' := h6.blks) fun b _ hb => ph6.get b (by omega)
    simp (maxSteps := 3000000) only [go_sem,reduceIte,Nat.reduceEqDiff,Nat.reduceLT, k3]
    refine CallO_same (Q := fun v => ∃ r : Bool, v = .bool r ∧ (r = true ↔ prf L)) (rPerfect_spec hs6' hl24) (by omega) fun u ⟨r2, hu, hr2⟩ => ?_
    subst hu
    obtain rfl : r2 = r := by
      have := hr2.trans hr.symm
      cases r <;> cases r2 <;> simp_all
    have k5 : (r2 == r2) = true := by cases r2 <;> rfl
    simp (maxSteps := 3000000) only [go_sem,reduceIte,Nat.reduceEqDiff,Nat.reduceLT, k3, eq_bool, k5]
    refine Call_lives ht6 (by omega) ?_
    simp (maxSteps := 3000000) only [go_sem,reduceIte,Nat.reduceEqDiff,Nat.reduceLT]
    exact hQ' _ _ ⟨pr6, rfl⟩
  · subst hu
    simp only [go_sem,reduceIte,Nat.reduceEqDiff,Nat.reduceLT]
    refine CallO_f cod (by omega) fun u h3 ph3 hc => ?_
    have n3 := ph3.next
    have hs3 := hs2.mono (B' := h3.blks) fun b _ hb => ph3.get b (by omega)
    have ht3 := ht2.le ph3 (by omega)
    have pr3 : Pres h.next h h3 := pr2.trans (ph3.le (by omega))
    obtain ⟨_, A3, hu⟩ : chk L ≠ 0 ∧ ∃ A', u = .tuple #[.slice A' 0 0, .int .i64 (chk L)] := by
      rcases hc with hc | hc
      · exact absurd hc.1 he
      · exact hc
    subst hu
    simp only [go_sem,reduceIte,Nat.reduceEqDiff,Nat.reduceLT]
    refine CallO_f (Perfect_spec (by omega) hG3 (by omega) ht3 hs3 (by omega)) (by omega) fun u h4 ph4 hp => ?_
    have n4 := ph4.next
    have hs4 := hs3.mono (B' := h4.blks) fun b _ hb => ph4.get b (by omega)
    have ht4 := ht3.le ph4 (by omega)
    have pr4 : Pres h.next h h4 := pr3.trans (ph4.le (by omega))
    obtain ⟨_, hu⟩ : chk L ≠ 0 ∧ u = .tuple #[.bool false, .int .i64 (chk L)] := by
      rcases hp with hp | hp
      · exact absurd hp.1 he
      · exact hp
    subst hu
    simp only [go_sem,reduceIte,Nat.reduceEqDiff,Nat.reduceLT]
    refine CallO_f (Check_spec (by omega) (by omega) hs4 (by omega)) (by omega) fun u h5 ph5 hu => ?_
    subst hu
    have ht5 := ht4.le ph5 (by omega)
    have pr5 : Pres h.next h h5 := pr4.trans (ph5.le (by omega))
    have k0 : decide (chk L ≠ 0) = true := decide_eq_true he
    have k1 : decide (chk L = chk L) = true := decide_eq_true rfl
    have k3 : decide ((0 : Int) = 0) = true := rfl
    have k4 : decide (((0 : Nat) : Int) = 0) = true := rfl
    simp (maxSteps := 3000000) only [go_sem,reduceIte,Nat.reduceEqDiff,Nat.reduceLT, k0, k1, k3, k4, len27]
    refine Call_lives ht5 (by omega) ?_
    simp (maxSteps := 3000000) only [go_sem,reduceIte,Nat.reduceEqDiff,Nat.reduceLT]
    exact hQ' _ _ ⟨pr5, rfl⟩
end
end Go.Proofs.YtnhbkoeomefkdaaDoor.Ev

