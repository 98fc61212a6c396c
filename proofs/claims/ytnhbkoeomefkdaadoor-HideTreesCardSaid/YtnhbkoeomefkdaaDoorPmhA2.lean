/- Squares that cover a rectangle; a copy; sizes. -/
import Derived.Test.YtnhbkoeomefkdaaDoorPmhA1
set_option linter.unusedSimpArgs false
set_option linter.unusedVariables false
namespace Go.Proofs.YtnhbkoeomefkdaaDoor.Ev
open Go Go.Proofs
noncomputable section

theorem disT {L : List Sq} {i : Nat} : (∀ (i' k : Nat) (a b : Sq), i' < i → L[i']? = some a → L[k]? = some b → k < i' → ¬ ovl a b) → i = L.length → dis L := fun h hi i' k a b h1 h2 h3 => h i' k a b (by have := (List.getElem?_eq_some_iff.1 h1).1; omega) h1 h2 h3
set_option maxRecDepth 100000 in
set_option maxHeartbeats 16000000 in
theorem cover_spec {G lo hi c : Nat} {L : List Sq} {A : Option Addr} {W Ht : Int} {h : H} (hG : G ≤ h.next) (hhi : hi ≤ h.next) (hv : SlV h.blks lo hi 3 L.length (sqc L) (.slice A L.length c)) (hl : L.length ≤ 24) (hok : ∀ q ∈ L, okSq q) (hW : 0 ≤ W ∧ W ≤ 1000) (hH : 0 ≤ Ht ∧ Ht ≤ 1000) :
    Spec Tryd.prog (En G) 53 [.slice A L.length c, .int .i64 W, .int .i64 Ht] h fun v _ => ∃ r : Bool, v = .bool r ∧ (r = true ↔ 0 < L.length ∧ dis L ∧ are L = W * Ht) := by
  refine CallsE_enter (En_known (by decide)) (En_f.trans Tryd.func53) rfl ⟨Nat.le_of_ble_eq_true rfl, by decide⟩ fun Q' hQ' => ?_
  simp only [Tryd.f53, go_sem,reduceIte,Nat.reduceEqDiff,Nat.reduceLT, len22]
  refine WK_loopN (fun j α h2 => ∃ i : Nat, i + j = L.length ∧ Pres h.next h h2 ∧ (∀ (i' k : Nat) (a b : Sq), i' < i → L[i']? = some a → L[k]? = some b → k < i' → ¬ ovl a b) ∧ α.get 0 = some (.slice A L.length c) ∧ α.get 1 = some (.int .i64 W) ∧ α.get 2 = some (.int .i64 Ht) ∧ α.get 7 = some (.int .i64 (are (L.take i))) ∧ α.get 12 = some (.slice A L.length c) ∧ α.get 13 = some (.int .i64 L.length) ∧ α.get 14 = some (.int .i64 i)) L.length
    ⟨0, by omega, Pres.refl _ _, fun i' k a b h => by omega, by simp only [go_sem,reduceIte,Nat.reduceEqDiff,Nat.reduceLT], by simp only [go_sem,reduceIte,Nat.reduceEqDiff,Nat.reduceLT], by simp only [go_sem,reduceIte,Nat.reduceEqDiff,Nat.reduceLT], by (simp only [go_sem,reduceIte,Nat.reduceEqDiff,Nat.reduceLT]) <;> rfl, by simp only [go_sem,reduceIte,Nat.reduceEqDiff,Nat.reduceLT], by (simp only [go_sem,reduceIte,Nat.reduceEqDiff,Nat.reduceLT]) <;> rfl, by (simp only [go_sem,reduceIte,Nat.reduceEqDiff,Nat.reduceLT]) <;> rfl⟩ (by omega) ?_
  rintro J j α h2 ⟨i, hij, pr, hd, e0, e1, e2, e7, e12, e13, e14⟩ hJ
  have nx := pr.next
  have hb := bounds (L.take i) fun q hq => hok q (List.mem_of_mem_take hq)
  have hbl : (L.take i).length ≤ 24 := by rw [List.length_take]; omega
  have hv2 := hv.mono (B' := h2.blks) fun b _ hb => pr.get b (by omega)
  by_cases hlt : (i : Int) < (L.length : Int)
  · obtain ⟨q, hq⟩ : ∃ q, L[i]? = some q := ⟨_, List.getElem?_eq_getElem (show i < L.length by omega)⟩
    have hqo := hok q (List.mem_of_getElem? hq)
    have hqs := sq_le hqo.1 hqo.2.1
    obtain ⟨bA, oA, rfl, _, _, _⟩ := hv2.at_ (by omega)
    obtain ⟨la, _, _, _⟩ := hv2.sq_at (G := G) hq rfl
    simp (disch := omega) only [go_sem,reduceIte,Nat.reduceEqDiff,Nat.reduceLT, e0, e1, e2, e7, e12, e13, e14, hlt, idxA22, Int.toNat_natCast, la]
    refine At_alloc i61 zero61 rfl (by omega) fun h3 hnh3 => ?_
    have nh3 := hnh3.next
    have wh3 := hnh3.var
    have ph3 : Pres h2.next h2 h3 := hnh3.pres (Nat.le_refl _)
    try simp only [go_sem,reduceIte,Nat.reduceEqDiff,Nat.reduceLT]
    refine At_storeV (v := sqv q) i61 (by simp only [go_sem,reduceIte,Nat.reduceEqDiff,Nat.reduceLT]) (by (simp only [go_sem,reduceIte,Nat.reduceEqDiff,Nat.reduceLT]) <;> rfl) wh3 (by rw [size61]; rfl) (by rw [size61]; rfl) rfl (by rw [En_G]; omega) fun h4 hsh4 vh4 => ?_
    rw [sqv_cells] at vh4
    have ph4 : Pres h2.next h2 h4 := ph3.trans (hsh4.pres (Nat.le_refl _))
    have nh4 : h4.next = h3.next := hsh4.next
    obtain ⟨vh40, vh41, vh42⟩ := vh4.sq
    have pr4 : Pres h.next h h4 := pr.trans (ph4.le (by omega))
    have ha1 : are (L.take (i + 1)) = are (L.take i) + q.2.2 * q.2.2 := by rw [take_snoc hq, are_snoc]
    simp (disch := omega) only [go_sem,reduceIte,Nat.reduceEqDiff,Nat.reduceLT, e0, e1, e2, e7, fld61_2, load3, Nat.zero_add, vh42, wrap_i64]
    obtain ⟨A', c', hsl, hv4⟩ := sliceO_take (E := En G) (kd := .i64) (m := i) u22 i61 size61 (hv.mono (B' := h4.blks) fun b _ hb => pr4.get b (by omega)) (by omega)
    rw [sqc_take] at hv4
    simp (disch := omega) only [go_sem,reduceIte,Nat.reduceEqDiff,Nat.reduceLT, e0, hsl, len22]
    have hti : (L.take i).length = i := by rw [List.length_take]; omega
    refine WK_loopN (fun j α h5 => ∃ k : Nat, k + j = i ∧ Pres h4.next h4 h5 ∧ (∀ (k' : Nat) (b : Sq), L[k']? = some b → k' < k → ¬ ovl q b) ∧ α.get 0 = some (.slice (some ⟨bA, oA, none⟩) L.length c) ∧ α.get 1 = some (.int .i64 W) ∧ α.get 2 = some (.int .i64 Ht) ∧ α.get 7 = some (.int .i64 (are (L.take i) + q.2.2 * q.2.2)) ∧ α.get 9 = some (.pointer (some ⟨h2.next, 0, none⟩)) ∧ α.get 12 = some (.slice (some ⟨bA, oA, none⟩) L.length c) ∧ α.get 13 = some (.int .i64 L.length) ∧ α.get 14 = some (.int .i64 i) ∧ α.get 28 = some (.slice A' i c') ∧ α.get 29 = some (.int .i64 i) ∧ α.get 30 = some (.int .i64 k)) i
      ⟨0, by omega, Pres.refl _ _, fun k' b _ h => by omega, by simp only [go_sem,reduceIte,Nat.reduceEqDiff,Nat.reduceLT, e0], by simp only [go_sem,reduceIte,Nat.reduceEqDiff,Nat.reduceLT, e1], by simp only [go_sem,reduceIte,Nat.reduceEqDiff,Nat.reduceLT, e2], by simp only [go_sem,reduceIte,Nat.reduceEqDiff,Nat.reduceLT], by (simp only [go_sem,reduceIte,Nat.reduceEqDiff,Nat.reduceLT]) <;> rfl, by simp only [go_sem,reduceIte,Nat.reduceEqDiff,Nat.reduceLT, e12], by simp only [go_sem,reduceIte,Nat.reduceEqDiff,Nat.reduceLT, e13], by simp only [go_sem,reduceIte,Nat.reduceEqDiff,Nat.reduceLT, e14], by simp only [go_sem,reduceIte,Nat.reduceEqDiff,Nat.reduceLT], by (simp only [go_sem,reduceIte,Nat.reduceEqDiff,Nat.reduceLT]) <;> rfl, by (simp only [go_sem,reduceIte,Nat.reduceEqDiff,Nat.reduceLT]) <;> rfl⟩ (by omega) ?_
    rintro J2 j2 α2 h5 ⟨k, hkj, pr5, hd2, g0, g1, g2, g7, g9, g12, g13, g14, g28, g29, g30⟩ hJ2
    have nx5 := pr5.next
    by_cases hlt2 : (k : Int) < (i : Int)
    · obtain ⟨b, hb'⟩ : ∃ b, L[k]? = some b := ⟨_, List.getElem?_eq_getElem (show k < L.length by omega)⟩
      have hbo := hok b (List.mem_of_getElem? hb')
      have hv5 := hv4.mono (B' := h5.blks) fun b _ hb => pr5.get b (by omega)
      obtain ⟨bB, oB, rfl, _, _, _⟩ := hv5.at_ (by omega)
      obtain ⟨lb, _, _, _⟩ := hv5.sq_at (G := G) (q := b) (i := k) (by rw [List.getElem?_take, if_pos (by omega)]; exact hb') hti.symm
      simp (disch := omega) only [go_sem,reduceIte,Nat.reduceEqDiff,Nat.reduceLT, g28, g29, g30, hlt2, idxA22, Int.toNat_natCast, lb]
      refine At_alloc i61 zero61 rfl (by omega) fun h6 hnh6 => ?_
      have nh6 := hnh6.next
      have wh6 := hnh6.var
      have ph6 : Pres h5.next h5 h6 := hnh6.pres (Nat.le_refl _)
      try simp only [go_sem,reduceIte,Nat.reduceEqDiff,Nat.reduceLT]
      refine At_storeV (v := sqv b) i61 (by simp only [go_sem,reduceIte,Nat.reduceEqDiff,Nat.reduceLT]) (by (simp only [go_sem,reduceIte,Nat.reduceEqDiff,Nat.reduceLT]) <;> rfl) wh6 (by rw [size61]; rfl) (by rw [size61]; rfl) rfl (by rw [En_G]; omega) fun h7 hsh7 vh7 => ?_
      rw [sqv_cells] at vh7
      have ph7 : Pres h5.next h5 h7 := ph6.trans (hsh7.pres (Nat.le_refl _))
      have nh7 : h7.next = h6.next := hsh7.next
      obtain ⟨vh70, vh71, vh72⟩ := vh7.sq
      have pr7 : Pres h4.next h4 h7 := pr5.trans (ph7.le (by omega))
      have v4' := vh4.mono (B' := h7.blks) (pr7.get _ (by omega))
      simp (disch := omega) only [go_sem,reduceIte,Nat.reduceEqDiff,Nat.reduceLT, g9, v4'.sqA, vh7.sqA]
      refine CallO_f (overlap_spec (by omega) hqo hbo) (by omega) fun u h8 pr8 hu => ?_
      subst hu
      have n8 := pr8.next
      by_cases ho : ovl q b
      · have d : decide (ovl q b) = true := decide_eq_true ho
        simp only [go_sem,reduceIte,Nat.reduceEqDiff,Nat.reduceLT, d]
        exact hQ' _ _ ⟨pr4.trans ((pr7.trans (pr8.le (by omega))).le (by omega)), false, rfl, (fun e => by cases e), fun e => absurd ho (e.2.1 i k q b hq hb' (by omega))⟩
      · have d : decide (ovl q b) = false := decide_eq_false ho
        simp (disch := omega) only [go_sem,reduceIte,Nat.reduceEqDiff,Nat.reduceLT, d, g30, wrap_i64]
        exact hJ2 (i - (k + 1)) _ _ (by omega) ⟨k + 1, by omega, pr7.trans (pr8.le (by omega)), fun k' b' h1 h2 => by
          by_cases e : k' = k
          · subst e; rw [hb'] at h1; injection h1 with h1; subst h1; exact ho
          · exact hd2 k' b' h1 (by omega), by simp only [go_sem,reduceIte,Nat.reduceEqDiff,Nat.reduceLT, g0], by simp only [go_sem,reduceIte,Nat.reduceEqDiff,Nat.reduceLT, g1], by simp only [go_sem,reduceIte,Nat.reduceEqDiff,Nat.reduceLT, g2], by simp only [go_sem,reduceIte,Nat.reduceEqDiff,Nat.reduceLT, g7], by simp only [go_sem,reduceIte,Nat.reduceEqDiff,Nat.reduceLT, g9], by simp only [go_sem,reduceIte,Nat.reduceEqDiff,Nat.reduceLT, g12], by simp only [go_sem,reduceIte,Nat.reduceEqDiff,Nat.reduceLT, g13], by simp only [go_sem,reduceIte,Nat.reduceEqDiff,Nat.reduceLT, g14], by simp only [go_sem,reduceIte,Nat.reduceEqDiff,Nat.reduceLT, g28], by simp only [go_sem,reduceIte,Nat.reduceEqDiff,Nat.reduceLT, g29], by (simp only [go_sem,reduceIte,Nat.reduceEqDiff,Nat.reduceLT]) <;> rfl⟩
    · obtain rfl : k = i := by omega
      simp (disch := omega) only [go_sem,reduceIte,Nat.reduceEqDiff,Nat.reduceLT, g14, g28, g29, g30, hlt2, wrap_i64]
      exact hJ (L.length - (k + 1)) _ _ (by omega) ⟨k + 1, by omega, pr4.trans (pr5.le (by omega)), fun i' k' a b h1 h2 h3 h4 => by
        by_cases e : i' = k
        · subst e; rw [hq] at h2; injection h2 with h2; subst h2; exact hd2 k' b h3 h4
        · exact hd i' k' a b (by omega) h2 h3 h4, by simp only [go_sem,reduceIte,Nat.reduceEqDiff,Nat.reduceLT, g0], by simp only [go_sem,reduceIte,Nat.reduceEqDiff,Nat.reduceLT, g1], by simp only [go_sem,reduceIte,Nat.reduceEqDiff,Nat.reduceLT, g2], by rw [ha1]; simp only [go_sem,reduceIte,Nat.reduceEqDiff,Nat.reduceLT, g7], by simp only [go_sem,reduceIte,Nat.reduceEqDiff,Nat.reduceLT, g12], by simp only [go_sem,reduceIte,Nat.reduceEqDiff,Nat.reduceLT, g13], by (simp only [go_sem,reduceIte,Nat.reduceEqDiff,Nat.reduceLT]) <;> rfl⟩
  · obtain rfl : i = L.length := by omega
    rw [List.take_length] at e7 hb
    have hWH : 0 ≤ W * Ht ∧ W * Ht ≤ 1000000 := ⟨Int.mul_nonneg hW.1 hH.1, by have := Int.mul_le_mul hW.2 hH.2 hH.1 (by omega); omega⟩
    have hdis := disT hd rfl
    by_cases h0 : (0 : Int) < (L.length : Int)
    · by_cases ha : are L = W * Ht
      · have d : decide (are L = W * Ht) = true := decide_eq_true ha
        simp (disch := omega) only [go_sem,reduceIte,Nat.reduceEqDiff,Nat.reduceLT, e0, e1, e2, e7, e12, e13, e14, hlt, len22, h0, wrap_i64, d]
        exact hQ' _ _ ⟨pr, true, rfl, fun _ => ⟨by omega, hdis, ha⟩, fun _ => rfl⟩
      · have d : decide (are L = W * Ht) = false := decide_eq_false ha
        simp (disch := omega) only [go_sem,reduceIte,Nat.reduceEqDiff,Nat.reduceLT, e0, e1, e2, e7, e12, e13, e14, hlt, len22, h0, wrap_i64, d]
        exact hQ' _ _ ⟨pr, false, rfl, (fun e => by cases e), fun e => absurd e.2.2 ha⟩
    · simp (disch := omega) only [go_sem,reduceIte,Nat.reduceEqDiff,Nat.reduceLT, e0, e1, e2, e7, e12, e13, e14, hlt, len22, h0]
      exact hQ' _ _ ⟨pr, false, rfl, (fun e => by cases e), fun e => absurd e.1 (by omega)⟩

end
end Go.Proofs.YtnhbkoeomefkdaaDoor.Ev

