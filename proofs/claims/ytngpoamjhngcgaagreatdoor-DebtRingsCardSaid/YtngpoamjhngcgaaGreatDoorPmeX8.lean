/- The law DebtProves. -/
import Derived.Test.YtngpoamjhngcgaaGreatDoorPmeX7
set_option linter.unusedSimpArgs false
namespace Go.Proofs.YtngpoamjhngcgaaGreatDoor.Ev
open Go Go.Proofs
noncomputable section

/-- what is left has the debts' shape, and there is a price for each -/
def ShOk (n n2 m : Nat) (g g2 : Nat → Nat) (p : Nat → Int) : Prop := (n2 = n ∧ ∀ i, i < n → g2 i = g i) ∧ m = n ∧ PrOk m p

set_option maxHeartbeats 8000000 in
theorem proves_spec {G lo hi n n2 m c c2 c3 : Nat} {g g2 : Nat → Nat} {f r : Nat → Nat → Int} {p : Nat → Int} {RA RA2 : Nat → Option Addr} {rc rc2 : Nat → Nat} {A A2 A3 : Option Addr} {h : H} (hG : G ≤ h.next) (hhi : hi ≤ h.next) (hm : MatV h.blks lo hi n g f RA rc (.slice A n c)) (hm2 : MatV h.blks lo hi n2 g2 r RA2 rc2 (.slice A2 n2 c2)) (hv : SlV h.blks lo hi 1 m (intsL m p) (.slice A3 m c3)) (hn : n ≤ 9) (hn2 : n2 ≤ 9) (hm9 : m ≤ 9) :
    Spec Tryz.prog (En G) 18 [.slice A n c, .slice A2 n2 c2, .slice A3 m c3] h fun v _ => ∃ (b : Bool) (e : Int), v = .tuple #[.bool b, .int .i64 e] ∧
      ((¬ IsD n g f ∧ b = false ∧ e = 1) ∨ (IsD n g f ∧ ¬ ShOk n n2 m g g2 p ∧ b = false ∧ e = 2) ∨ (IsD n g f ∧ ShOk n n2 m g g2 p ∧ e = 0 ∧ (b = true ↔ (BdOk n f r ∧ BlOk n f r) ∧ Pz n f r p))) := by
  refine CallsE_enter (En_known (by decide)) (En_f.trans Tryz.func18) rfl ⟨Nat.le_of_ble_eq_true rfl, by decide⟩ fun Q' hQ' => ?_
  simp only [Tryz.f18, go_sem,reduceIte,Nat.reduceEqDiff,Nat.reduceLT]
  refine CallO_same (areDebts_spec hm (by omega)) (by omega) fun u hu => ?_
  obtain ⟨x, rfl, hx⟩ := hu
  cases x with
  | false =>
    simp only [go_sem,reduceIte,Nat.reduceEqDiff,Nat.reduceLT]
    exact hQ' _ _ ⟨Pres.refl _ _, false, 1, rfl, .inl ⟨fun a => by simpa using hx.2 a, rfl, rfl⟩⟩
  | true =>
  have hD := hx.1 rfl
  have no : ¬ ShOk n n2 m g g2 p → Q' (.tuple #[.bool false, .int .i64 2]) h := fun hh => hQ' _ _ ⟨Pres.refl _ _, false, 2, rfl, .inr (.inl ⟨hD, hh, rfl, rfl⟩)⟩
  simp only [go_sem,reduceIte,Nat.reduceEqDiff,Nat.reduceLT]
  refine CallO_same (sameShape_spec hm hm2 (by omega)) (by omega) fun u hu => ?_
  obtain ⟨y, rfl, hy⟩ := hu
  cases y with
  | false =>
    simp only [go_sem,reduceIte,Nat.reduceEqDiff,Nat.reduceLT]
    exact no fun a => by simpa using hy.2 a.1
  | true =>
  have hS := hy.1 rfl
  by_cases hmn : m = n
  · have dm : decide ((m : Int) ≠ (n : Int)) = false := decide_eq_false (by omega)
    simp only [go_sem,reduceIte,Nat.reduceEqDiff,Nat.reduceLT, len22, len23, dm]
    refine WK_loopN (fun j α h2 => ∃ i : Nat, i + j = m ∧ h2 = h ∧ α.get 0 = some (.slice A n c) ∧ α.get 1 = some (.slice A2 n2 c2) ∧ α.get 2 = some (.slice A3 m c3) ∧ α.get 24 = some (.slice A3 m c3) ∧ α.get 25 = some (.int .i64 m) ∧ α.get 26 = some (.int .i64 i) ∧ PrOk i p) m
      ⟨0, by omega, rfl, by simp only [go_sem,reduceIte,Nat.reduceEqDiff,Nat.reduceLT], by simp only [go_sem,reduceIte,Nat.reduceEqDiff,Nat.reduceLT], by simp only [go_sem,reduceIte,Nat.reduceEqDiff,Nat.reduceLT], by simp only [go_sem,reduceIte,Nat.reduceEqDiff,Nat.reduceLT], by simp only [go_sem,reduceIte,Nat.reduceEqDiff,Nat.reduceLT], by (simp only [go_sem,reduceIte,Nat.reduceEqDiff,Nat.reduceLT]) <;> rfl, fun k hk => absurd hk (Nat.not_lt_zero k)⟩ (by omega) ?_
    rintro J j α h2 ⟨i, hij, rfl, e0, e1, e2, e24, e25, e26, hall⟩ hJ
    by_cases hlt : (i : Int) < m
    · obtain ⟨b, off, rfl, hld⟩ := hv.ints_at (by omega)
      have l1 := hld i (by omega)
      by_cases hlo : p i < -1000
      · simp (disch := omega) only [go_sem,reduceIte,Nat.reduceEqDiff,Nat.reduceLT, e24, e25, e26, hlt, idxA23, load3, Int.toNat_natCast, Nat.mul_one, l1, hlo]
        exact no fun a => by have := a.2.2 i (by omega); omega
      · by_cases hhi' : 1000 < p i
        · simp (disch := omega) only [go_sem,reduceIte,Nat.reduceEqDiff,Nat.reduceLT, e24, e25, e26, hlt, idxA23, load3, Int.toNat_natCast, Nat.mul_one, l1, hlo, hhi']
          exact no fun a => by have := a.2.2 i (by omega); omega
        · simp (disch := omega) only [go_sem,reduceIte,Nat.reduceEqDiff,Nat.reduceLT, e24, e25, e26, hlt, idxA23, load3, Int.toNat_natCast, Nat.mul_one, l1, hlo, hhi', wrap_i64]
          refine hJ (m - (i + 1)) _ _ (by omega) ⟨i + 1, by omega, rfl, by simp only [go_sem,reduceIte,Nat.reduceEqDiff,Nat.reduceLT, e0], by simp only [go_sem,reduceIte,Nat.reduceEqDiff,Nat.reduceLT, e1], by simp only [go_sem,reduceIte,Nat.reduceEqDiff,Nat.reduceLT, e2], by simp only [go_sem,reduceIte,Nat.reduceEqDiff,Nat.reduceLT, e24], by simp only [go_sem,reduceIte,Nat.reduceEqDiff,Nat.reduceLT, e25], by (simp only [go_sem,reduceIte,Nat.reduceEqDiff,Nat.reduceLT]) <;> rfl, fun k hk => ?_⟩
          by_cases hk2 : k = i
          · subst hk2; omega
          · exact hall k (by omega)
    · obtain rfl : i = m := by omega
      obtain ⟨rfl, hgg⟩ := hS
      subst hmn
      obtain ⟨_, hn8, hrows⟩ := id hD
      have hg : ∀ k, k < i → g k = i := fun k hk => (hrows k hk).1
      have hg2 : ∀ k, k < i → g2 k = i := fun k hk => (hgg k hk).trans (hg k hk)
      have hf : ∀ k q, k < i → q < i → 0 ≤ f k q ∧ f k q ≤ 1000 := fun k q hk hq => (hrows k hk).2.2 q hq
      simp (disch := omega) only [go_sem,reduceIte,Nat.reduceEqDiff,Nat.reduceLT, e0, e1, e2, e24, e25, e26, hlt]
      refine CallO_f (keeps_spec hG hm hm2 hhi hn8 hg hg2 hf) (by omega) fun u h3 hp3 hu => ?_
      obtain ⟨z, rfl, hz⟩ := hu
      cases z with
      | false =>
        simp only [go_sem,reduceIte,Nat.reduceEqDiff,Nat.reduceLT]
        exact hQ' _ _ ⟨hp3, false, 0, rfl, .inr (.inr ⟨hD, ⟨⟨rfl, hgg⟩, rfl, hall⟩, rfl, ⟨fun e => (by cases e), fun a => by simpa using hz.2 a.1⟩⟩)⟩
      | true =>
        have hm3 := hm.mono fun b _ hb => hp3.get b (by omega)
        have hm23 := hm2.mono fun b _ hb => hp3.get b (by omega)
        have hv3 := hv.mono fun b _ hb => hp3.get b (by omega)
        simp only [go_sem,reduceIte,Nat.reduceEqDiff,Nat.reduceLT, e0, e1, e2]
        refine CallO_same (priced_spec hm3 hm23 hv3 hn8 hg hg2 hall) (by omega) fun u hu => ?_
        obtain ⟨w, rfl, hw⟩ := hu
        simp only [go_sem,reduceIte,Nat.reduceEqDiff,Nat.reduceLT]
        exact hQ' _ _ ⟨hp3, w, 0, rfl, .inr (.inr ⟨hD, ⟨⟨rfl, hgg⟩, rfl, hall⟩, rfl, hw.trans ⟨fun a => ⟨hz.1 rfl, a⟩, fun a => a.2⟩⟩)⟩
  · have dm : decide ((m : Int) ≠ (n : Int)) = true := decide_eq_true (by omega)
    simp only [go_sem,reduceIte,Nat.reduceEqDiff,Nat.reduceLT, len22, len23, dm]
    exact no fun a => hmn a.2.1

theorem En_tabs {G : Nat} : (En G).tabs = tabs := rfl
section
variable {G n : Nat} {ops : List Oper} {r tl : List Oper} {k : List Frm} {α : Tr Value} {h : H} {R : Rt} {d : Nat}
theorem Call_lives (ht : TabsIn tabs h.blks) (hd : d < n) (hk : At Tryz.prog (En G) n ops false r tl k (Tr.put α d (.bool true)) h R) : CallO Tryz.prog (En G) n ops false r tl k α h R (some d) (some (.func (.func 22) #[] #[])) (some []) := by
  refine CallO_of (Q := fun v h' => v = .bool true ∧ h' = h) (CallsE_known En_lives (by rw [En_tabs]; exact ht) ⟨rfl, rfl⟩) hd fun v h' ⟨e1, e2⟩ => ?_
  subst e1; subst e2
  exact ⟨fun e => (by cases e), hk⟩
end
theorem TabsIn.pres {tbs : List (Nat × List Value)} {m : Nat} {h h' : H} (ht : TabsIn tbs h.blks) (hp : Pres m h h') (hm : ∀ x ∈ tbs, x.1 < m) : TabsIn tbs h'.blks := fun x hx => by
  obtain ⟨c, s, e, h1, h2⟩ := ht x hx
  exact ⟨c, s, e, by rw [hp.get _ (hm x hx)]; exact h1, h2⟩
theorem tabs_lt : ∀ x ∈ tabs, x.1 < 4 := fun x hx => by
  simp only [tabs, List.mem_cons, List.not_mem_nil, or_false] at hx
  rcases hx with rfl | rfl | rfl <;> decide

theorem eqB {a b : Bool} : pureRun Tryz.prog (do eqGuard .eql 4 (.tmp 0) (.tmp 0) (.bool a) (.bool b); binOp .eql 4 (.bool a) (.bool b)) = some (.bool (a == b)) := by
  cases a <;> cases b <;> kernel_rfl
theorem eql_bool {G : Nat} {a b : Bool} : binO Tryz.prog (En G) .eql 4 (some (.bool a)) (some (.bool b)) = some (.bool (a == b)) := by
  have h1 : (plainA (.bool a) && plainA (.bool b)) = true := rfl
  have h2 : fastBin .eql (.bool a) (.bool b) = none := rfl
  simp only [binO, h1, if_true, h2, slowBin, eqB]
  rfl

set_option maxHeartbeats 16000000 in
theorem law_DebtProves {G lo hi n n2 m c c2 c3 : Nat} {g g2 : Nat → Nat} {f r : Nat → Nat → Int} {p : Nat → Int} {RA RA2 : Nat → Option Addr} {rc rc2 : Nat → Nat} {A A2 A3 : Option Addr} {h0 : H} (h4 : 4 ≤ h0.next) (hG : G ≤ h0.next) (ht : TabsIn tabs h0.blks) (hm : MatV h0.blks lo hi n g f RA rc (.slice A n c)) (hm2 : MatV h0.blks lo hi n2 g2 r RA2 rc2 (.slice A2 n2 c2)) (hv : SlV h0.blks lo hi 1 m (intsL m p) (.slice A3 m c3)) (hhi : hi ≤ h0.next) :
    Spec Tryz.prog (En G) 3 [.slice A n c, .slice A2 n2 c2, .slice A3 m c3] h0 fun v _ => v = .bool true := by
  have d10 : decide ((1 : Int) ≠ 0) = true := rfl
  have d20 : decide ((2 : Int) ≠ 0) = true := rfl
  have d00 : decide ((0 : Int) ≠ 0) = false := rfl
  have q11 : decide ((1 : Int) = 1) = true := rfl
  have q22 : decide ((2 : Int) = 2) = true := rfl
  have q00 : decide ((0 : Int) = 0) = true := rfl
  refine CallsE_enter (En_known (by decide)) (En_f.trans Tryz.func3) rfl ⟨Nat.le_of_ble_eq_true rfl, by decide⟩ fun Q' hQ' => ?_
  simp only [Tryz.f3, go_sem,reduceIte,Nat.reduceEqDiff,Nat.reduceLT]
  refine CallO_f (rows_spec hG hm hhi) (by omega) fun u h1 hp1 hu => ?_
  obtain ⟨B1, k1, S1, s1, rfl, m1⟩ := hu
  have n1 := hp1.next
  try simp only [go_sem,reduceIte,Nat.reduceEqDiff,Nat.reduceLT]
  refine CallO_f (rows_spec (by omega) (hm2.mono fun b _ hb => hp1.get b (by omega)) (by omega)) (by omega) fun u h2 hp2 hu => ?_
  obtain ⟨B2, k2, S2, s2, rfl, m2⟩ := hu
  have n2' := hp2.next
  try simp only [go_sem,reduceIte,Nat.reduceEqDiff,Nat.reduceLT]
  refine CallO_f (cut_spec (hv.mono fun b _ hb => by rw [hp2.get b (by omega), hp1.get b (by omega)])) (by omega) fun u h3 hp3 hu => ?_
  obtain ⟨B3, k3, rfl, m3⟩ := hu
  have n3 := hp3.next
  have pr3 : Pres h0.next h0 h3 := (hp1.trans (hp2.le (by omega))).trans (hp3.le (by omega))
  have M1 : MatV h3.blks h0.next h3.next (min n 9) (fun i => min (g i) 9) f S1 s1 (.slice B1 (min n 9) k1) :=
    ⟨((m1.top.mono fun b _ hb => by rw [hp3.get b (by omega), hp2.get b (by omega)])).wide (Nat.le_refl _) (by omega), fun i hi => ((m1.row i hi).mono fun b _ hb => by rw [hp3.get b (by omega), hp2.get b (by omega)]).wide (Nat.le_refl _) (by omega)⟩
  have M2 : MatV h3.blks h0.next h3.next (min n2 9) (fun i => min (g2 i) 9) r S2 s2 (.slice B2 (min n2 9) k2) :=
    ⟨((m2.top.mono fun b _ hb => hp3.get b (by omega))).wide (by omega) (by omega), fun i hi => ((m2.row i hi).mono fun b _ hb => hp3.get b (by omega)).wide (by omega) (by omega)⟩
  have M3 : SlV h3.blks h0.next h3.next 1 (min m 9) (intsL (min m 9) p) (.slice B3 (min m 9) k3) := m3.wide (by omega) (Nat.le_refl _)
  clear m1 m2 m3 hm hm2 hv
  obtain ⟨N, hN, N9⟩ : ∃ N, min n 9 = N ∧ N ≤ 9 := ⟨_, rfl, by omega⟩
  obtain ⟨N2, hN2, N29⟩ : ∃ N, min n2 9 = N ∧ N ≤ 9 := ⟨_, rfl, by omega⟩
  obtain ⟨M, hM, M9⟩ : ∃ N, min m 9 = N ∧ N ≤ 9 := ⟨_, rfl, by omega⟩
  obtain ⟨g1', hg1'⟩ : ∃ g', (fun i => min (g i) 9) = g' := ⟨_, rfl⟩
  obtain ⟨g2', hg2'⟩ : ∃ g', (fun i => min (g2 i) 9) = g' := ⟨_, rfl⟩
  rw [hN, hg1'] at M1
  rw [hN2, hg2'] at M2
  rw [hM] at M3
  rw [hN, hN2, hM]
  have ht3 := TabsIn.pres ht pr3 fun x hx => Nat.lt_of_lt_of_le (tabs_lt x hx) h4
  simp only [go_sem,reduceIte,Nat.reduceEqDiff,Nat.reduceLT]
  refine CallO_f (proves_spec (by omega) (Nat.le_refl _) M1 M2 M3 N9 N29 M9) (by omega) fun u h5 hp5 hu => ?_
  obtain ⟨b, e, rfl, hbe⟩ := hu
  have n5 := hp5.next
  have M1' := M1.mono fun b _ hb => hp5.get b hb
  have M2' := M2.mono fun b _ hb => hp5.get b hb
  have M3' := M3.mono fun b _ hb => hp5.get b hb
  have pr5 : Pres h0.next h0 h5 := pr3.trans (hp5.le (by omega))
  have ht5 := TabsIn.pres ht pr5 fun x hx => Nat.lt_of_lt_of_le (tabs_lt x hx) h4
  simp only [go_sem,reduceIte,Nat.reduceEqDiff,Nat.reduceLT]
  refine CallO_same (refDebts_spec M1' (by omega)) (by omega) fun u hu => ?_
  obtain ⟨x, rfl, hx⟩ := hu
  cases x with
  | false =>
    have hD : ¬ IsD N g1' f := fun a => by simpa using hx.2 a
    obtain ⟨rfl, rfl⟩ : b = false ∧ e = 1 := by
      rcases hbe with ⟨_, a, b⟩ | ⟨a, _⟩ | ⟨a, _⟩
      · exact ⟨a, b⟩
      · exact absurd a hD
      · exact absurd a hD
    simp only [go_sem,reduceIte,Nat.reduceEqDiff,Nat.reduceLT, d10, q11]
    refine Call_lives ht5 (by omega) ?_
    simp only [go_sem,reduceIte,Nat.reduceEqDiff,Nat.reduceLT]
    exact hQ' _ _ ⟨pr5, rfl⟩
  | true =>
  have hD := hx.1 rfl
  have bad : ¬ ShOk N N2 M g1' g2' p → b = false ∧ e = 2 := fun hh => by
    rcases hbe with ⟨a, _⟩ | ⟨_, _, a, b⟩ | ⟨_, a, _⟩
    · exact absurd hD a
    · exact ⟨a, b⟩
    · exact absurd a hh
  simp only [go_sem,reduceIte,Nat.reduceEqDiff,Nat.reduceLT]
  refine CallO_same (refShape_spec (n := N) (c := k1) (A := B1) M2' (by omega)) (by omega) fun u hu => ?_
  obtain ⟨y, rfl, hy⟩ := hu
  have hgN : ∀ i, i < N → g1' i = N := fun i hi => (hD.2.2 i hi).1
  cases y with
  | false =>
    obtain ⟨rfl, rfl⟩ := bad fun a => by
      have : (false : Bool) = true := hy.2 ⟨a.1.1, fun i hi => (a.1.2 i (by have := a.1.1; omega)).trans (hgN i (by have := a.1.1; omega))⟩
      simp at this
    simp only [go_sem,reduceIte,Nat.reduceEqDiff,Nat.reduceLT, d20, q22]
    refine Call_lives ht5 (by omega) ?_
    simp only [go_sem,reduceIte,Nat.reduceEqDiff,Nat.reduceLT]
    exact hQ' _ _ ⟨pr5, rfl⟩
  | true =>
  have hS := hy.1 rfl
  by_cases hMN : M = N
  · have dm : decide ((M : Int) ≠ (N : Int)) = false := decide_eq_false (by omega)
    simp only [go_sem,reduceIte,Nat.reduceEqDiff,Nat.reduceLT, len22, len23, dm]
    refine CallO_same (prices_spec M3' (by omega)) (by omega) fun u hu => ?_
    obtain ⟨z, rfl, hz⟩ := hu
    cases z with
    | false =>
      obtain ⟨rfl, rfl⟩ := bad fun a => by
        have : (false : Bool) = true := hz.2 a.2.2
        simp at this
      simp only [go_sem,reduceIte,Nat.reduceEqDiff,Nat.reduceLT, d20, q22]
      refine Call_lives ht5 (by omega) ?_
      simp only [go_sem,reduceIte,Nat.reduceEqDiff,Nat.reduceLT]
      exact hQ' _ _ ⟨pr5, rfl⟩
    | true =>
      have hP := hz.1 rfl
      obtain ⟨hS1, hS2⟩ := hS
      have hsh : ShOk N N2 M g1' g2' p := ⟨⟨hS1, fun i hi => (hS2 i (by omega)).trans (hgN i hi).symm⟩, hMN, hP⟩
      obtain ⟨rfl, hb⟩ : e = 0 ∧ (b = true ↔ (BdOk N f r ∧ BlOk N f r) ∧ Pz N f r p) := by
        rcases hbe with ⟨a, _⟩ | ⟨_, a, _⟩ | ⟨_, _, a, b⟩
        · exact absurd hD a
        · exact absurd hsh a
        · exact ⟨a, b⟩
      simp only [go_sem,reduceIte,Nat.reduceEqDiff,Nat.reduceLT, d00]
      subst hS1
      subst hMN
      refine CallO_same (refProves_spec M1' M2' M3' hD.2.1 hgN hS2 hP fun i j hi hj => (hD.2.2 i hi).2.2 j hj) (by omega) fun u hu => ?_
      obtain ⟨w, rfl, hw⟩ := hu
      obtain rfl : b = w := by
        have := hb.trans hw.symm
        cases b <;> cases w <;> simp_all
      have hbb : (b == b) = true := by cases b <;> rfl
      simp only [go_sem,reduceIte,Nat.reduceEqDiff,Nat.reduceLT, eql_bool, hbb, q00]
      refine Call_lives ht5 (by omega) ?_
      simp only [go_sem,reduceIte,Nat.reduceEqDiff,Nat.reduceLT]
      exact hQ' _ _ ⟨pr5, rfl⟩
  · have dm : decide ((M : Int) ≠ (N : Int)) = true := decide_eq_true (by omega)
    obtain ⟨rfl, rfl⟩ := bad fun a => hMN a.2.1
    simp only [go_sem,reduceIte,Nat.reduceEqDiff,Nat.reduceLT, len22, len23, dm, d20, q22]
    refine Call_lives ht5 (by omega) ?_
    simp only [go_sem,reduceIte,Nat.reduceEqDiff,Nat.reduceLT]
    exact hQ' _ _ ⟨pr5, rfl⟩
end
end Go.Proofs.YtngpoamjhngcgaaGreatDoor.Ev


