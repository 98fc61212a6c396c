/- The reference's Proves. -/
import Derived.Test.YtngpoamjhngcgaaGreatDoorPmeX6
set_option linter.unusedSimpArgs false
namespace Go.Proofs.YtngpoamjhngcgaaGreatDoor.Ev
open Go Go.Proofs
noncomputable section

section
variable {P : Program} {E : Env} {n : Nat} {ops : List Oper} {q : Bool} {r tl : List Oper} {k : List Frm} {α : Tr Value} {h : H} {R : Rt} {o : Oper} {want : Bool} {x : Option Value}
/-- only what holds of the variables goes on -/
theorem GuardO_cut {Φ : Tr Value → Prop} (hα : Φ α) (hk : ∀ β, Φ β → GuardO P E n ops q o r tl k β h R want x) : GuardO P E n ops q o r tl k α h R want x := hk α hα
end
theorem app_cons {α : Type} {a : α} {l m : List α} : List.append (a :: l) m = a :: List.append l m := rfl
theorem app_nil {α : Type} {m : List α} : List.append [] m = m := rfl

set_option maxHeartbeats 32000000 in
set_option maxRecDepth 100000 in
theorem refProves_spec {G lo hi n c c2 c3 : Nat} {g g2 : Nat → Nat} {f r : Nat → Nat → Int} {p : Nat → Int} {RA RA2 : Nat → Option Addr} {rc rc2 : Nat → Nat} {A A2 A3 : Option Addr} {h : H} (hm : MatV h.blks lo hi n g f RA rc (.slice A n c)) (hm2 : MatV h.blks lo hi n g2 r RA2 rc2 (.slice A2 n c2)) (hv : SlV h.blks lo hi 1 n (intsL n p) (.slice A3 n c3)) (hn : n ≤ 8) (hg : ∀ i, i < n → g i = n) (hg2 : ∀ i, i < n → g2 i = n) (hp : PrOk n p) (hf : ∀ i j, i < n → j < n → 0 ≤ f i j ∧ f i j ≤ 1000) :
    Spec Tryz.prog (En G) 23 [.slice A n c, .slice A2 n c2, .slice A3 n c3] h fun v h' => (∃ b, v = .bool b ∧ (b = true ↔ (BdOk n f r ∧ BlOk n f r) ∧ Pz n f r p)) ∧ h' = h := by
  refine CallsE_enter (En_known (by decide)) (En_f.trans Tryz.func23) rfl ⟨Nat.le_of_ble_eq_true rfl, by decide⟩ fun Q' hQ' => ?_
  have no : ¬ (BdOk n f r ∧ Pz n f r p) → Q' (.bool false) h := fun hh => hQ' _ _ ⟨Pres.refl _ _, ⟨false, rfl, ⟨fun e => (by cases e), fun e => absurd ⟨e.1.1, e.2⟩ hh⟩⟩, rfl⟩
  simp only [Tryz.f23, go_sem,reduceIte,Nat.reduceEqDiff,Nat.reduceLT]
  refine WK_loopN (fun j α h2 => ∃ i : Nat, i + j = n ∧ h2 = h ∧ α.get 0 = some (.slice A n c) ∧ α.get 1 = some (.slice A2 n c2) ∧ α.get 2 = some (.slice A3 n c3) ∧ α.get 7 = some (.int .i64 i) ∧ (∀ k j, k < i → j < n → 0 ≤ r k j ∧ r k j ≤ f k j) ∧ ∀ k j, k < i → j < n → k ≠ j → ¬ ((0 < r k j ∧ p j - p k < 1) ∨ (r k j < f k j ∧ 1 < p j - p k))) n
    ⟨0, by omega, rfl, by simp only [go_sem,reduceIte,Nat.reduceEqDiff,Nat.reduceLT], by simp only [go_sem,reduceIte,Nat.reduceEqDiff,Nat.reduceLT], by simp only [go_sem,reduceIte,Nat.reduceEqDiff,Nat.reduceLT], by (simp only [go_sem,reduceIte,Nat.reduceEqDiff,Nat.reduceLT]) <;> rfl, fun k j hk => absurd hk (Nat.not_lt_zero k), fun k j hk => absurd hk (Nat.not_lt_zero k)⟩ (by omega) ?_
  rintro J j α h2 ⟨i, hij, rfl, e0, e1, e2, e7, hallb, hall⟩ hJ
  by_cases hlt : (i : Int) < n
  · obtain ⟨b, off, rfl, hld⟩ := hm.at_ (by omega)
    have l1 := hld i (by omega)
    obtain ⟨b2, off2, hRA, hld2⟩ := (hm.row i (by omega)).ints_at (by have := hg i (by omega); omega)
    rw [hRA] at l1
    obtain ⟨b', off', rfl, hld'⟩ := hm2.at_ (by omega)
    have l1' := hld' i (by omega)
    obtain ⟨b2', off2', hRA', hld2'⟩ := (hm2.row i (by omega)).ints_at (by have := hg2 i (by omega); omega)
    rw [hRA'] at l1'
    obtain ⟨b3, off3, rfl, hld3⟩ := hv.ints_at (by omega)
    have lp := hld3 i (by omega)
    have hgi := hg i (by omega)
    have hgi' := hg2 i (by omega)
    have hpi := hp i (by omega)
    simp (disch := omega) only [go_sem,reduceIte,Nat.reduceEqDiff,Nat.reduceLT, e0, e7, hlt, len22]
    refine WK_loopN (fun j' α h3 => ∃ i' : Nat, i' + j' = n ∧ h3 = h2 ∧ α.get 0 = some (.slice (some ⟨b, off, none⟩) n c) ∧ α.get 1 = some (.slice (some ⟨b', off', none⟩) n c2) ∧ α.get 2 = some (.slice (some ⟨b3, off3, none⟩) n c3) ∧ α.get 7 = some (.int .i64 i) ∧ α.get 8 = some (.int .i64 i') ∧ (∀ j, j < i' → 0 ≤ r i j ∧ r i j ≤ f i j) ∧ ∀ j, j < i' → i ≠ j → ¬ ((0 < r i j ∧ p j - p i < 1) ∨ (r i j < f i j ∧ 1 < p j - p i))) n
      ⟨0, by omega, rfl, by simp only [go_sem,reduceIte,Nat.reduceEqDiff,Nat.reduceLT, e0], by simp only [go_sem,reduceIte,Nat.reduceEqDiff,Nat.reduceLT, e1], by simp only [go_sem,reduceIte,Nat.reduceEqDiff,Nat.reduceLT, e2], by simp only [go_sem,reduceIte,Nat.reduceEqDiff,Nat.reduceLT, e7], by (simp only [go_sem,reduceIte,Nat.reduceEqDiff,Nat.reduceLT]) <;> rfl, fun k hk => absurd hk (Nat.not_lt_zero k), fun k hk => absurd hk (Nat.not_lt_zero k)⟩ (by omega) ?_
    clear e0 e1 e2 e7
    rintro J' j' α h3 ⟨i', hij', rfl, e0, e1, e2, e7, e8, hallb', hall'⟩ hJ'
    by_cases hlt' : (i' : Int) < n
    · have l3 := hld2 i' (by omega)
      have l3' := hld2' i' (by omega)
      have lq := hld3 i' (by omega)
      have hpj := hp i' (by omega)
      simp (disch := omega) only [go_sem,reduceIte,Nat.reduceEqDiff,Nat.reduceLT, e0, e8, hlt', len22]
      refine WK_regionT 8 ⟨by kernel_rfl, by kernel_rfl, by kernel_rfl⟩ ?_
      simp (disch := omega) only [go_sem,reduceIte,Nat.reduceEqDiff,Nat.reduceLT, e2, e7, e8, idxA23, load3, Int.toNat_natCast, Nat.mul_one, lp, lq, wrap_i64]
      refine WK_regionT 57 ⟨by kernel_rfl, by kernel_rfl, by kernel_rfl⟩ ?_
      simp only [app_cons, app_nil, zdj, zdq, zdr, zds, zdt]
      by_cases z1 : r i i' < 0
      · simp (maxSteps := 1000000) (disch := omega) only [go_sem,reduceIte,Nat.reduceEqDiff,Nat.reduceLT, e1, e7, e8, z1, idxA22, idxA23, load23, load3, Int.toNat_natCast, Nat.mul_one, l1', l3']
        exact no fun a => by have := a.1 i i' (by omega) (by omega); omega
      by_cases z2 : f i i' < r i i'
      · simp (maxSteps := 1000000) (disch := omega) only [go_sem,reduceIte,Nat.reduceEqDiff,Nat.reduceLT, e0, e1, e7, e8, z1, z2, idxA22, idxA23, load23, load3, Int.toNat_natCast, Nat.mul_one, l1, l3, l1', l3']
        exact no fun a => by have := a.1 i i' (by omega) (by omega); omega
      by_cases hii : i = i'
      · have dij : decide ((i : Int) ≠ (i' : Int)) = false := decide_eq_false (by omega)
        simp (maxSteps := 1000000) (disch := omega) only [go_sem,reduceIte,Nat.reduceEqDiff,Nat.reduceLT, e0, e1, e7, e8, z1, z2, dij, idxA22, idxA23, load23, load3, Int.toNat_natCast, Nat.mul_one, l1, l3, l1', l3', wrap_i64]
        refine hJ' (n - (i' + 1)) _ _ (by omega) ⟨i' + 1, by omega, rfl, by simp only [go_sem,reduceIte,Nat.reduceEqDiff,Nat.reduceLT, e0], by simp only [go_sem,reduceIte,Nat.reduceEqDiff,Nat.reduceLT, e1], by simp only [go_sem,reduceIte,Nat.reduceEqDiff,Nat.reduceLT, e2], by simp only [go_sem,reduceIte,Nat.reduceEqDiff,Nat.reduceLT, e7], by (simp only [go_sem,reduceIte,Nat.reduceEqDiff,Nat.reduceLT]) <;> rfl, fun k hk => ?_, fun k hk hne => hall' k (by omega) hne⟩
        by_cases hk2 : k = i'
        · subst hk2; omega
        · exact hallb' k (by omega)
      · have dij : decide ((i : Int) ≠ (i' : Int)) = true := decide_eq_true (by omega)
        simp (maxSteps := 1000000) (disch := omega) only [go_sem,reduceIte,Nat.reduceEqDiff,Nat.reduceLT, e0, e1, e7, e8, z1, z2, dij, idxA22, idxA23, load23, load3, Int.toNat_natCast, Nat.mul_one, l1, l3, l1', l3']
        refine GuardO_cut (Φ := fun β => β.get 0 = some (.slice (some ⟨b, off, none⟩) n c) ∧ β.get 1 = some (.slice (some ⟨b', off', none⟩) n c2) ∧ β.get 2 = some (.slice (some ⟨b3, off3, none⟩) n c3) ∧ β.get 7 = some (.int .i64 i) ∧ β.get 8 = some (.int .i64 i') ∧ β.get 9 = some (.int .i64 (p i' - p i)) ∧ β.get 56 = some (.bool false) ∧ β.get 60 = some (.bool true) ∧ β.get 69 = some (.bool (decide (0 < r i i')))) ⟨by simp only [go_sem,reduceIte,Nat.reduceEqDiff,Nat.reduceLT, e0, e1, e2, e7, e8], by simp only [go_sem,reduceIte,Nat.reduceEqDiff,Nat.reduceLT, e0, e1, e2, e7, e8], by simp only [go_sem,reduceIte,Nat.reduceEqDiff,Nat.reduceLT, e0, e1, e2, e7, e8], by simp only [go_sem,reduceIte,Nat.reduceEqDiff,Nat.reduceLT, e0, e1, e2, e7, e8], by simp only [go_sem,reduceIte,Nat.reduceEqDiff,Nat.reduceLT, e0, e1, e2, e7, e8], by simp only [go_sem,reduceIte,Nat.reduceEqDiff,Nat.reduceLT, e0, e1, e2, e7, e8], by simp only [go_sem,reduceIte,Nat.reduceEqDiff,Nat.reduceLT, e0, e1, e2, e7, e8], by simp only [go_sem,reduceIte,Nat.reduceEqDiff,Nat.reduceLT, e0, e1, e2, e7, e8], by simp only [go_sem,reduceIte,Nat.reduceEqDiff,Nat.reduceLT, e0, e1, e2, e7, e8]⟩ fun β ⟨g0, g1, g2, g7, g8, g9, g56, g60, g69⟩ => ?_
        by_cases a1 : 0 < r i i' <;> by_cases a2 : p i' - p i < 1 <;> (
          simp (maxSteps := 1000000) (disch := omega) only [go_sem,reduceIte,Nat.reduceEqDiff,Nat.reduceLT, g0, g1, g2, g7, g8, g9, g56, g60, g69, a1, a2, idxA22, idxA23, load23, load3, Int.toNat_natCast, Nat.mul_one, l1, l3, l1', l3']
          first
          | exact no fun a => a.2 i i' (by omega) (by omega) hii (by omega)
          | (refine GuardO_cut (Φ := fun β => β.get 0 = some (.slice (some ⟨b, off, none⟩) n c) ∧ β.get 1 = some (.slice (some ⟨b', off', none⟩) n c2) ∧ β.get 2 = some (.slice (some ⟨b3, off3, none⟩) n c3) ∧ β.get 7 = some (.int .i64 i) ∧ β.get 8 = some (.int .i64 i') ∧ β.get 9 = some (.int .i64 (p i' - p i)) ∧ β.get 56 = some (.bool false) ∧ β.get 60 = some (.bool true) ∧ β.get 73 = some (.bool false) ∧ β.get 89 = some (.bool (decide (r i i' < f i i')))) ⟨by simp only [go_sem,reduceIte,Nat.reduceEqDiff,Nat.reduceLT, g0, g1, g2, g7, g8, g9, g56, g60, g69, a1, a2], by simp only [go_sem,reduceIte,Nat.reduceEqDiff,Nat.reduceLT, g0, g1, g2, g7, g8, g9, g56, g60, g69, a1, a2], by simp only [go_sem,reduceIte,Nat.reduceEqDiff,Nat.reduceLT, g0, g1, g2, g7, g8, g9, g56, g60, g69, a1, a2], by simp only [go_sem,reduceIte,Nat.reduceEqDiff,Nat.reduceLT, g0, g1, g2, g7, g8, g9, g56, g60, g69, a1, a2], by simp only [go_sem,reduceIte,Nat.reduceEqDiff,Nat.reduceLT, g0, g1, g2, g7, g8, g9, g56, g60, g69, a1, a2], by simp only [go_sem,reduceIte,Nat.reduceEqDiff,Nat.reduceLT, g0, g1, g2, g7, g8, g9, g56, g60, g69, a1, a2], by simp only [go_sem,reduceIte,Nat.reduceEqDiff,Nat.reduceLT, g0, g1, g2, g7, g8, g9, g56, g60, g69, a1, a2], by simp only [go_sem,reduceIte,Nat.reduceEqDiff,Nat.reduceLT, g0, g1, g2, g7, g8, g9, g56, g60, g69, a1, a2], by simp only [go_sem,reduceIte,Nat.reduceEqDiff,Nat.reduceLT, g0, g1, g2, g7, g8, g9, g56, g60, g69, a1, a2], by simp only [go_sem,reduceIte,Nat.reduceEqDiff,Nat.reduceLT, g0, g1, g2, g7, g8, g9, g56, g60, g69, a1, a2]⟩ fun β ⟨k0, k1, k2, k7, k8, k9, k56, k60, k73, k89⟩ => ?_
             by_cases a3 : r i i' < f i i' <;> by_cases a4 : 1 < p i' - p i <;> (
               simp (maxSteps := 1000000) (disch := omega) only [go_sem,reduceIte,Nat.reduceEqDiff,Nat.reduceLT, k0, k1, k2, k7, k8, k9, k56, k60, k73, k89, a3, a4, wrap_i64]
               first
               | exact no fun a => a.2 i i' (by omega) (by omega) hii (by omega)
               | (refine hJ' (n - (i' + 1)) _ _ (by omega) ⟨i' + 1, by omega, rfl, by simp only [go_sem,reduceIte,Nat.reduceEqDiff,Nat.reduceLT, k0], by simp only [go_sem,reduceIte,Nat.reduceEqDiff,Nat.reduceLT, k1], by simp only [go_sem,reduceIte,Nat.reduceEqDiff,Nat.reduceLT, k2], by simp only [go_sem,reduceIte,Nat.reduceEqDiff,Nat.reduceLT, k7], by (simp only [go_sem,reduceIte,Nat.reduceEqDiff,Nat.reduceLT]) <;> rfl, fun k hk => ?_, fun k hk hne => ?_⟩
                  · by_cases hk2 : k = i'
                    · subst hk2; omega
                    · exact hallb' k (by omega)
                  · by_cases hk2 : k = i'
                    · subst hk2; omega
                    · exact hall' k (by omega) hne))))
    · simp (disch := omega) only [go_sem,reduceIte,Nat.reduceEqDiff,Nat.reduceLT, e0, e7, e8, hlt', len22, wrap_i64]
      refine hJ (n - (i + 1)) _ _ (by omega) ⟨i + 1, by omega, rfl, by simp only [go_sem,reduceIte,Nat.reduceEqDiff,Nat.reduceLT, e0], by simp only [go_sem,reduceIte,Nat.reduceEqDiff,Nat.reduceLT, e1], by simp only [go_sem,reduceIte,Nat.reduceEqDiff,Nat.reduceLT, e2], by (simp only [go_sem,reduceIte,Nat.reduceEqDiff,Nat.reduceLT]) <;> rfl, fun k j hk hj => ?_, fun k j hk hj hne => ?_⟩
      · by_cases hk2 : k = i
        · subst hk2
          exact hallb' j (by omega)
        · exact hallb k j (by omega) hj
      · by_cases hk2 : k = i
        · subst hk2
          exact hall' j (by omega) hne
        · exact hall k j (by omega) hj hne
  · obtain rfl : i = n := by omega
    have hb : BdOk i f r := fun k j hk hj => hallb k j hk hj
    have hz : Pz i f r p := fun k j hk hj hne => hall k j hk hj hne
    simp (disch := omega) only [go_sem,reduceIte,Nat.reduceEqDiff,Nat.reduceLT, e0, e1, e7, hlt, len22]
    refine CallO_same (refRest_spec hm hm2 hn hg hg2 hf hb) (by omega) fun u hu => ?_
    obtain ⟨x, rfl, hx⟩ := hu
    simp only [go_sem,reduceIte,Nat.reduceEqDiff,Nat.reduceLT]
    exact hQ' _ _ ⟨Pres.refl _ _, ⟨x, rfl, hx.trans ⟨fun a => ⟨⟨hb, a⟩, hz⟩, fun a => a.1.2⟩⟩, rfl⟩
end
end Go.Proofs.YtngpoamjhngcgaaGreatDoor.Ev


