/- The law DebtCancels. -/
import Derived.Test.YtngpoamjhngcgaaGreatDoorPmeD7
set_option linter.unusedVariables false
set_option linter.unusedSimpArgs false
namespace Go.Proofs.YtngpoamjhngcgaaGreatDoor.Ev
open Go Go.Proofs
noncomputable section

theorem Pri.pz {d r : Nat → Nat → Int} {n : Nat} {p : Nat → Int} (h : Pri d r n p) : Pz n d r p := fun i j hi hj hij g => by
  obtain ⟨h1, h2⟩ := h i j hi hj hij
  rcases g with ⟨a, b⟩ | ⟨a, b⟩
  · have := h1 a; omega
  · have := h2 a; omega
theorem Pz.pri {d r : Nat → Nat → Int} {n : Nat} {p : Nat → Int} (h : Pz n d r p) : Pri d r n p := fun i j hi hj hij => by
  have := h i j hi hj hij
  refine ⟨fun g => ?_, fun g => ?_⟩ <;> omega

set_option maxRecDepth 100000 in
set_option maxHeartbeats 64000000 in
theorem law_DebtCancels {G lo hi n c : Nat} {g : Nat → Nat} {f : Nat → Nat → Int} {RA : Nat → Option Addr} {rc : Nat → Nat} {A : Option Addr} {h0 : H} (h4 : 4 ≤ h0.next) (hG : G ≤ h0.next) (ht : TabsIn tabs h0.blks) (hm : MatV h0.blks lo hi n g f RA rc (.slice A n c)) (hhi : hi ≤ h0.next) :
    Spec Tryz.prog (En G) 4 [.slice A n c] h0 fun v _ => v = .bool true := by
  have q11 : decide ((1 : Int) = 1) = true := rfl
  have q00 : decide ((0 : Int) = 0) = true := rfl
  have qnn : decide (((0 : Nat) : Int) + ((0 : Nat) : Int) = 0) = true := rfl
  refine CallsE_enter (En_known (by decide)) (En_f.trans Tryz.func4) rfl ⟨Nat.le_of_ble_eq_true rfl, by decide⟩ fun Q' hQ' => ?_
  simp only [Tryz.f4, go_sem,reduceIte,Nat.reduceEqDiff,Nat.reduceLT]
  refine CallO_f (rows_spec hG hm hhi) (by omega) fun u h1 p1 hu => ?_
  obtain ⟨B1, k1, S1, s1, rfl, m1⟩ := hu
  have n1 := p1.next
  obtain ⟨N, hN, N9⟩ : ∃ N, min n 9 = N ∧ N ≤ 9 := ⟨_, rfl, by omega⟩
  obtain ⟨g1, hg1⟩ : ∃ g', (fun i => min (g i) 9) = g' := ⟨_, rfl⟩
  rw [hN, hg1] at m1
  rw [hN]
  try simp only [go_sem,reduceIte,Nat.reduceEqDiff,Nat.reduceLT]
  refine CallO_f (Cancel_spec (by omega) m1 (Nat.le_refl _) N9) (by omega) fun u h2 p2 hc => ?_
  have n2 := p2.next
  have m2 := m1.mono (B' := h2.blks) fun b _ hb => p2.get b hb
  have pr2 : Pres h0.next h0 h2 := p1.trans (p2.le (by omega))
  rcases hc with ⟨hD, hu⟩ | ⟨hD, r, B, R, O, rc', hu, hM, hcan, hbl⟩
  · subst hu
    simp only [go_sem,reduceIte,Nat.reduceEqDiff,Nat.reduceLT]
    refine CallO_f (Prices_spec (by omega) m2 (by omega) N9) (by omega) fun u h3 p3 hp => ?_
    rcases hp with ⟨_, hu⟩ | ⟨hD', _⟩
    · subst hu
      have n3 := p3.next
      have m3 := m2.mono (B' := h3.blks) fun b _ hb => p3.get b (by omega)
      have pr3 : Pres h0.next h0 h3 := pr2.trans (p3.le (by omega))
      have ht3 := TabsIn.pres ht pr3 fun x hx => Nat.lt_of_lt_of_le (tabs_lt x hx) h4
      simp only [go_sem,reduceIte,Nat.reduceEqDiff,Nat.reduceLT]
      refine CallO_same (refDebts_spec m3 (by omega)) (by omega) fun u hu => ?_
      obtain ⟨x, rfl, hx⟩ := hu
      cases x with
      | true => exact absurd (hx.1 rfl) hD
      | false =>
        simp (disch := omega) only [go_sem,reduceIte,Nat.reduceEqDiff,Nat.reduceLT, len22, len23, wrap_i64, qnn, q11, q00]
        refine Call_lives ht3 (by omega) ?_
        simp only [go_sem,reduceIte,Nat.reduceEqDiff,Nat.reduceLT]
        exact hQ' _ _ ⟨pr3, rfl⟩
    · exact absurd hD' hD
  · subst hu
    obtain ⟨hdok, hgN, hn8, hN0⟩ := hD.dok
    simp only [go_sem,reduceIte,Nat.reduceEqDiff,Nat.reduceLT]
    refine CallO_f (Prices_spec (by omega) m2 (by omega) N9) (by omega) fun u h3 p3 hp => ?_
    rcases hp with ⟨hD', _⟩ | ⟨_, r2, p, Bp, hu, hsp, hcan2, hbl2, hpot, hpok⟩
    · exact absurd hD hD'
    subst hu
    have n3 := p3.next
    have pr3 : Pres h0.next h0 h3 := pr2.trans (p3.le (by omega))
    have ht3 := TabsIn.pres ht pr3 fun x hx => Nat.lt_of_lt_of_le (tabs_lt x hx) h4
    have M1 : MatV h3.blks h0.next h3.next N g1 f S1 s1 (.slice B1 N k1) := ⟨(m2.top.mono fun b _ hb => p3.get b (by omega)).wide (by omega) (by omega), fun i hi => ((m2.row i hi).mono fun b _ hb => p3.get b (by omega)).wide (by omega) (by omega)⟩
    have M2 := ((hM.mono (B' := h3.blks) fun b _ hb => p3.get b (by omega)).wide (lo' := h0.next) (hi' := h3.next) (by omega) (by omega)).mat
    have M3 : SlV h3.blks h0.next h3.next 1 N (intsL N p) (.slice (some ⟨Bp, 0, none⟩) N N) := hsp.wide (by omega) (Nat.le_refl _)
    have hpri : Pri f r N p := hcan2.pri hcan hpot hdok.2 fun k hk => (hbl k hk).symm.trans (hbl2 k hk)
    have hrok := hcan.bd.ok hdok
    simp only [go_sem,reduceIte,Nat.reduceEqDiff,Nat.reduceLT]
    refine CallO_same (refDebts_spec M1 (by omega)) (by omega) fun u hu => ?_
    obtain ⟨x, rfl, hx⟩ := hu
    cases x with
    | false => exact absurd (hx.2 hD) (by simp)
    | true =>
      simp (disch := omega) only [go_sem,reduceIte,Nat.reduceEqDiff,Nat.reduceLT, q00]
      refine CallO_same (refShape_spec (n := N) (c := k1) (A := B1) M2 (by omega)) (by omega) fun u hu => ?_
      obtain ⟨y, rfl, hy⟩ := hu
      obtain rfl : y = true := hy.2 ⟨rfl, fun _ _ => rfl⟩
      have dNN : decide ((N : Int) = (N : Int)) = true := decide_eq_true rfl
      simp (disch := omega) only [go_sem,reduceIte,Nat.reduceEqDiff,Nat.reduceLT, len22, len23, dNN]
      refine CallO_same (prices_spec M3 (by omega)) (by omega) fun u hu => ?_
      obtain ⟨z, rfl, hz⟩ := hu
      obtain rfl : z = true := hz.2 hpok
      simp (disch := omega) only [go_sem,reduceIte,Nat.reduceEqDiff,Nat.reduceLT]
      refine CallO_same (refProves_spec M1 M2 M3 hn8 hgN (fun _ _ => rfl) hpok hdok.1) (by omega) fun u hu => ?_
      obtain ⟨w, rfl, hw⟩ := hu
      obtain rfl : w = true := hw.2 ⟨⟨hcan.bd, hbl⟩, hpri.pz⟩
      simp (disch := omega) only [go_sem,reduceIte,Nat.reduceEqDiff,Nat.reduceLT]
      refine CallO_same (Q := fun v => v = .int .i64 (tot N f)) (refSum_spec M1 hgN hn8 fun i j hi hj => by have := hdok.1 i j hi hj; omega) (by omega) fun v hv => ?_
      subst hv
      simp (disch := omega) only [go_sem,reduceIte,Nat.reduceEqDiff,Nat.reduceLT]
      refine CallO_same (Q := fun v => v = .int .i64 (tot N r)) (refSum_spec M2 (fun _ _ => rfl) hn8 fun i j hi hj => by have := hrok i j hi hj; omega) (by omega) fun v hv => ?_
      subst hv
      have tb : ∀ x : Nat → Nat → Int, (∀ i j, i < N → j < N → 0 ≤ x i j ∧ x i j ≤ 1000) → 0 ≤ tot N x ∧ tot N x ≤ 64000 := fun x hx => by
        have := sm_bound (K := 8000) (by omega) (f := fun i => sm N (x i)) N fun i hi => by
          have := sm_bound (K := 1000) (by omega) (f := x i) N fun j hj => hx i j hi hj
          omega
        unfold tot
        omega
      have t1 := tb f hdok.1
      have t2 := tb r hrok
      have dd : decide (tot N f - tot N r = tot N f - tot N r) = true := decide_eq_true rfl
      simp (disch := omega) only [go_sem,reduceIte,Nat.reduceEqDiff,Nat.reduceLT, wrap_i64, dd]
      refine Call_lives ht3 (by omega) ?_
      simp only [go_sem,reduceIte,Nat.reduceEqDiff,Nat.reduceLT]
      exact hQ' _ _ ⟨pr3, rfl⟩
end
end Go.Proofs.YtngpoamjhngcgaaGreatDoor.Ev

