/- The document's Covers, Check, Measure, Code, Perfect. -/
import Derived.Test.YtnhbkoeomefkdaaDoorPmhA6
set_option linter.unusedSimpArgs false
set_option linter.unusedVariables false
namespace Go.Proofs.YtnhbkoeomefkdaaDoor.Ev
open Go Go.Proofs
noncomputable section

/-- how far squares reach beyond a corner -/
def widx (X : Int) (L : List Sq) : Int := L.foldl (fun a q => max a (q.1 + q.2.2 - X)) 0
def heix (Y : Int) (L : List Sq) : Int := L.foldl (fun a q => max a (q.2.1 + q.2.2 - Y)) 0
theorem widx_snoc {X : Int} {L : List Sq} {q : Sq} : widx X (L ++ [q]) = max (widx X L) (q.1 + q.2.2 - X) := by simp [widx, List.foldl_append]
theorem heix_snoc {Y : Int} {L : List Sq} {q : Sq} : heix Y (L ++ [q]) = max (heix Y L) (q.2.1 + q.2.2 - Y) := by simp [heix, List.foldl_append]
theorem widx_zero {L : List Sq} : widx 0 L = wid L := by simp [widx, wid]
theorem heix_zero {L : List Sq} : heix 0 L = hei L := by simp [heix, hei]
theorem boundx {X Y : Int} (hX : 0 ≤ X) (hY : 0 ≤ Y) (L : List Sq) : (∀ q ∈ L, okSq q) → (0 ≤ widx X L ∧ widx X L ≤ 1000) ∧ 0 ≤ heix Y L ∧ heix Y L ≤ 1000 := by
  refine snoc_ind (p := fun L => (∀ q ∈ L, okSq q) → (0 ≤ widx X L ∧ widx X L ≤ 1000) ∧ 0 ≤ heix Y L ∧ heix Y L ≤ 1000) (fun _ => by simp [widx, heix]) (fun L q ih h => ?_) L
  have h1 := ih fun q hq => h q (List.mem_append_left _ hq)
  obtain ⟨a1, a2, ⟨a3, a4⟩, a5, a6⟩ := h q (by simp)
  rw [widx_snoc, heix_snoc]
  omega
/-- they cover a rectangle with that corner -/
def covX (X Y : Int) (L : List Sq) : Prop := dis L ∧ (∀ q ∈ L, X ≤ q.1 ∧ Y ≤ q.2.1) ∧ are L = widx X L * heix Y L
theorem covX_zero {L : List Sq} (hok : ∀ q ∈ L, okSq q) : covX 0 0 L ↔ dis L ∧ are L = wid L * hei L := by
  unfold covX
  rw [widx_zero, heix_zero]
  constructor
  · rintro ⟨a, _, b⟩; exact ⟨a, b⟩
  · rintro ⟨a, b⟩
    exact ⟨a, fun q hq => ⟨(hok q hq).2.2.1.1, (hok q hq).2.2.2.1⟩, b⟩
set_option maxRecDepth 100000 in
set_option maxHeartbeats 32000000 in
theorem Covers_spec {G lo hi c : Nat} {L : List Sq} {A : Option Addr} {X Y : Int} {h : H} (hG : G ≤ h.next) (hhi : hi ≤ h.next) (hv : SlV h.blks lo hi 3 L.length (sqc L) (.slice A L.length c)) (hl : L.length ≤ 24) (hok : ∀ q ∈ L, okSq q) (hX : 0 ≤ X ∧ X ≤ 1000) (hY : 0 ≤ Y ∧ Y ≤ 1000) :
    Spec Tryd.prog (En G) 39 [.slice A L.length c, .int .i64 X, .int .i64 Y] h fun v _ => ∃ r : Bool, v = .bool r ∧ (r = true ↔ covX X Y L) := by
  refine CallsE_enter (En_known (by decide)) (En_f.trans Tryd.func39) rfl ⟨Nat.le_of_ble_eq_true rfl, by decide⟩ fun Q' hQ' => ?_
  simp only [Tryd.f39, go_sem,reduceIte,Nat.reduceEqDiff,Nat.reduceLT]
  refine WK_loopN (fun j α h2 => ∃ i : Nat, i + j = L.length ∧ Pres h.next h h2 ∧ (∀ (i' k : Nat) (a b : Sq), i' < i → L[i']? = some a → L[k]? = some b → k < i' → ¬ ovl a b) ∧ (∀ q ∈ L.take i, X ≤ q.1 ∧ Y ≤ q.2.1) ∧ α.get 0 = some (.slice A L.length c) ∧ α.get 1 = some (.int .i64 X) ∧ α.get 2 = some (.int .i64 Y) ∧ α.get 7 = some (.int .i64 (widx X (L.take i))) ∧ α.get 8 = some (.int .i64 (heix Y (L.take i))) ∧ α.get 9 = some (.int .i64 (are (L.take i))) ∧ α.get 10 = some (.int .i64 i)) L.length
    ⟨0, by omega, Pres.refl _ _, fun i' k a b h => by omega, fun q hq => by simp at hq, by simp only [go_sem,reduceIte,Nat.reduceEqDiff,Nat.reduceLT], by simp only [go_sem,reduceIte,Nat.reduceEqDiff,Nat.reduceLT], by simp only [go_sem,reduceIte,Nat.reduceEqDiff,Nat.reduceLT], by (simp only [go_sem,reduceIte,Nat.reduceEqDiff,Nat.reduceLT]) <;> rfl, by (simp only [go_sem,reduceIte,Nat.reduceEqDiff,Nat.reduceLT]) <;> rfl, by (simp only [go_sem,reduceIte,Nat.reduceEqDiff,Nat.reduceLT]) <;> rfl, by (simp only [go_sem,reduceIte,Nat.reduceEqDiff,Nat.reduceLT]) <;> rfl⟩ (by omega) ?_
  rintro J j α h2 ⟨i, hij, pr, hd, hge, e0, e1, e2, e7, e8, e9, e10⟩ hJ
  have nx := pr.next
  have hb := bounds (L.take i) fun q hq => hok q (List.mem_of_mem_take hq)
  have hbx := boundx hX.1 hY.1 (L.take i) fun q hq => hok q (List.mem_of_mem_take hq)
  have hbl : (L.take i).length ≤ 24 := by rw [List.length_take]; omega
  have hv2 := hv.mono (B' := h2.blks) fun b _ hb => pr.get b (by omega)
  by_cases hlt : (i : Int) < (L.length : Int)
  · obtain ⟨q, hq⟩ : ∃ q, L[i]? = some q := ⟨_, List.getElem?_eq_getElem (show i < L.length by omega)⟩
    have hqo := hok q (List.mem_of_getElem? hq)
    have hqs := sq_le hqo.1 hqo.2.1
    obtain ⟨x1, x2, ⟨x3, x4⟩, x5, x6⟩ := id hqo
    obtain ⟨bA, oA, rfl, _, _, _⟩ := hv2.at_ (by omega)
    simp (disch := omega) only [go_sem,reduceIte,Nat.reduceEqDiff,Nat.reduceLT, e0, e10, hlt, len22]
    refine WK_loopN (fun j α h5 => ∃ k : Nat, k + j = i ∧ Pres h2.next h2 h5 ∧ (∀ (k' : Nat) (b : Sq), L[k']? = some b → k' < k → ¬ ovl q b) ∧ α.get 0 = some (.slice (some ⟨bA, oA, none⟩) L.length c) ∧ α.get 1 = some (.int .i64 X) ∧ α.get 2 = some (.int .i64 Y) ∧ α.get 7 = some (.int .i64 (widx X (L.take i))) ∧ α.get 8 = some (.int .i64 (heix Y (L.take i))) ∧ α.get 9 = some (.int .i64 (are (L.take i))) ∧ α.get 10 = some (.int .i64 i) ∧ α.get 11 = some (.int .i64 k)) i
      ⟨0, by omega, Pres.refl _ _, fun k' b _ h => by omega, by simp only [go_sem,reduceIte,Nat.reduceEqDiff,Nat.reduceLT, e0], by simp only [go_sem,reduceIte,Nat.reduceEqDiff,Nat.reduceLT, e1], by simp only [go_sem,reduceIte,Nat.reduceEqDiff,Nat.reduceLT, e2], by simp only [go_sem,reduceIte,Nat.reduceEqDiff,Nat.reduceLT, e7], by simp only [go_sem,reduceIte,Nat.reduceEqDiff,Nat.reduceLT, e8], by simp only [go_sem,reduceIte,Nat.reduceEqDiff,Nat.reduceLT, e9], by simp only [go_sem,reduceIte,Nat.reduceEqDiff,Nat.reduceLT, e10], by (simp only [go_sem,reduceIte,Nat.reduceEqDiff,Nat.reduceLT]) <;> rfl⟩ (by omega) ?_
    rintro J2 j2 α2 h5 ⟨k, hkj, pr5, hd2, g0, g1, g2, g7, g8, g9, g10, g11⟩ hJ2
    have nx5 := pr5.next
    have prh5 : Pres h.next h h5 := pr.trans (pr5.le (by omega))
    have hv5 := hv.mono (B' := h5.blks) fun b _ hb => prh5.get b (by omega)
    obtain ⟨la, la0, la1, la2⟩ := hv5.sq_at (G := G) hq rfl
    by_cases hlt2 : (k : Int) < (i : Int)
    · obtain ⟨b, hb'⟩ : ∃ b, L[k]? = some b := ⟨_, List.getElem?_eq_getElem (show k < L.length by omega)⟩
      have hbo := hok b (List.mem_of_getElem? hb')
      obtain ⟨lb, _, _, _⟩ := hv5.sq_at (G := G) hb' rfl
      simp (disch := omega) only [go_sem,reduceIte,Nat.reduceEqDiff,Nat.reduceLT, g10, g11, hlt2]
      refine WK_regionT 8 ⟨by kernel_rfl, by kernel_rfl, by kernel_rfl⟩ ?_
      simp (disch := omega) only [go_sem,reduceIte,Nat.reduceEqDiff,Nat.reduceLT, g0, g10, g11, idxA22, Int.toNat_natCast, la, lb]
      refine CallO_f (apart_spec (by omega) hqo hbo) (by omega) fun u h8 pr8 hu => ?_
      subst hu
      have n8 := pr8.next
      by_cases ho : ovl q b
      · have d : decide (ovl q b) = true := decide_eq_true ho
        simp only [go_sem,reduceIte,Nat.reduceEqDiff,Nat.reduceLT, d]
        exact hQ' _ _ ⟨prh5.trans (pr8.le (by omega)), false, rfl, (fun e => by cases e), fun e => absurd ho (e.1 i k q b hq hb' (by omega))⟩
      · have d : decide (ovl q b) = false := decide_eq_false ho
        simp (disch := omega) only [go_sem,reduceIte,Nat.reduceEqDiff,Nat.reduceLT, d, g11, wrap_i64]
        exact hJ2 (i - (k + 1)) _ _ (by omega) ⟨k + 1, by omega, pr5.trans (pr8.le (by omega)), fun k' b' h1 h2 => by
          by_cases e : k' = k
          · subst e; rw [hb'] at h1; injection h1 with h1; subst h1; exact ho
          · exact hd2 k' b' h1 (by omega), by simp only [go_sem,reduceIte,Nat.reduceEqDiff,Nat.reduceLT, g0], by simp only [go_sem,reduceIte,Nat.reduceEqDiff,Nat.reduceLT, g1], by simp only [go_sem,reduceIte,Nat.reduceEqDiff,Nat.reduceLT, g2], by simp only [go_sem,reduceIte,Nat.reduceEqDiff,Nat.reduceLT, g7], by simp only [go_sem,reduceIte,Nat.reduceEqDiff,Nat.reduceLT, g8], by simp only [go_sem,reduceIte,Nat.reduceEqDiff,Nat.reduceLT, g9], by simp only [go_sem,reduceIte,Nat.reduceEqDiff,Nat.reduceLT, g10], by (simp only [go_sem,reduceIte,Nat.reduceEqDiff,Nat.reduceLT]) <;> rfl⟩
    · obtain rfl : k = i := by omega
      by_cases cx : q.1 < X
      · simp (maxSteps := 3000000) (disch := omega) only [go_sem,reduceIte,Nat.reduceEqDiff,Nat.reduceLT, g0, g1, g2, g10, g11, hlt2, idxA22, Int.toNat_natCast, fld61_0, fld61_1, Nat.add_zero, load3, la0, la1, cx]
        exact hQ' _ _ ⟨prh5, false, rfl, (fun e => by cases e), fun e => by have := (e.2.1 q (List.mem_of_getElem? hq)).1; omega⟩
      by_cases cy : q.2.1 < Y
      · simp (maxSteps := 3000000) (disch := omega) only [go_sem,reduceIte,Nat.reduceEqDiff,Nat.reduceLT, g0, g1, g2, g10, g11, hlt2, idxA22, Int.toNat_natCast, fld61_0, fld61_1, Nat.add_zero, load3, la0, la1, cx, cy]
        exact hQ' _ _ ⟨prh5, false, rfl, (fun e => by cases e), fun e => by have := (e.2.1 q (List.mem_of_getElem? hq)).2; omega⟩
      simp (maxSteps := 3000000) (disch := omega) only [go_sem,reduceIte,Nat.reduceEqDiff,Nat.reduceLT, g0, g1, g2, g10, g11, hlt2, idxA22, Int.toNat_natCast, fld61_0, fld61_1, Nat.add_zero, load3, la0, la1, cx, cy]
      refine WK_regionT 45 ⟨by kernel_rfl, by kernel_rfl, by kernel_rfl⟩ ?_
      simp (maxSteps := 6000000) (disch := omega) only [go_sem,reduceIte,Nat.reduceEqDiff,Nat.reduceLT, g0, g1, g2, g7, g8, g9, g10, idxA22, Int.toNat_natCast, fld61_0, fld61_1, fld61_2, Nat.add_zero, load3, la0, la1, la2, wrap_i64]
      exact hJ (L.length - (k + 1)) _ _ (by omega) ⟨k + 1, by omega, prh5, fun i' k' a b h1 h2 h3 h4 => by
        by_cases e : i' = k
        · subst e; rw [hq] at h2; injection h2 with h2; subst h2; exact hd2 k' b h3 h4
        · exact hd i' k' a b (by omega) h2 h3 h4, fun q' hq' => by
        rw [take_snoc hq] at hq'
        rcases List.mem_append.1 hq' with hq' | hq'
        · exact hge q' hq'
        · simp at hq'; subst hq'; omega, by simp only [go_sem,reduceIte,Nat.reduceEqDiff,Nat.reduceLT, g0], by simp only [go_sem,reduceIte,Nat.reduceEqDiff,Nat.reduceLT, g1], by simp only [go_sem,reduceIte,Nat.reduceEqDiff,Nat.reduceLT, g2], by rw [take_snoc hq, widx_snoc]; simp only [go_sem,reduceIte,Nat.reduceEqDiff,Nat.reduceLT], by rw [take_snoc hq, heix_snoc]; simp only [go_sem,reduceIte,Nat.reduceEqDiff,Nat.reduceLT], by rw [take_snoc hq, are_snoc]; simp only [go_sem,reduceIte,Nat.reduceEqDiff,Nat.reduceLT], by (simp only [go_sem,reduceIte,Nat.reduceEqDiff,Nat.reduceLT]) <;> rfl⟩
  · obtain rfl : i = L.length := by omega
    rw [List.take_length] at e7 e8 e9 hb hbx hge
    have hWH : 0 ≤ widx X L * heix Y L ∧ widx X L * heix Y L ≤ 1000000 := ⟨Int.mul_nonneg hbx.1.1 hbx.2.1, by have := Int.mul_le_mul hbx.1.2 hbx.2.2 hbx.2.1 (by omega); omega⟩
    have hdis := disT hd rfl
    by_cases ha : are L = widx X L * heix Y L
    · have d : decide (are L = widx X L * heix Y L) = true := decide_eq_true ha
      simp (disch := omega) only [go_sem,reduceIte,Nat.reduceEqDiff,Nat.reduceLT, e0, e7, e8, e9, e10, hlt, len22, wrap_i64, d]
      exact hQ' _ _ ⟨pr, true, rfl, fun _ => ⟨hdis, hge, ha⟩, fun _ => rfl⟩
    · have d : decide (are L = widx X L * heix Y L) = false := decide_eq_false ha
      simp (disch := omega) only [go_sem,reduceIte,Nat.reduceEqDiff,Nat.reduceLT, e0, e7, e8, e9, e10, hlt, len22, wrap_i64, d]
      exact hQ' _ _ ⟨pr, false, rfl, (fun e => by cases e), fun e => absurd e.2.2 ha⟩

set_option maxRecDepth 100000 in
set_option maxHeartbeats 16000000 in
theorem Check_spec {G lo hi c : Nat} {L : List Sq} {A : Option Addr} {h : H} (hG : G ≤ h.next) (hhi : hi ≤ h.next) (hv : SlV h.blks lo hi 3 L.length (sqc L) (.slice A L.length c)) (hl : L.length ≤ 1000) :
    Spec Tryd.prog (En G) 17 [.slice A L.length c] h fun v _ => v = .int .i64 (chk L) := by
  refine CallsE_enter (En_known (by decide)) (En_f.trans Tryd.func17) rfl ⟨Nat.le_of_ble_eq_true rfl, by decide⟩ fun Q' hQ' => ?_
  simp only [Tryd.f17, go_sem,reduceIte,Nat.reduceEqDiff,Nat.reduceLT, len22]
  by_cases c1 : (24 : Int) < L.length
  · simp (disch := omega) only [go_sem,reduceIte,Nat.reduceEqDiff,Nat.reduceLT, c1]
    exact hQ' _ _ ⟨Pres.refl _ _, by rw [chk_long (by omega)]⟩
  simp (disch := omega) only [go_sem,reduceIte,Nat.reduceEqDiff,Nat.reduceLT, c1]
  refine WK_loopN (fun j α h2 => ∃ i : Nat, i + j = L.length ∧ Pres h.next h h2 ∧ (∀ q ∈ L.take i, okSq q) ∧ α.get 0 = some (.slice A L.length c) ∧ α.get 3 = some (.int .i64 i)) L.length
    ⟨0, by omega, Pres.refl _ _, fun q hq => by simp at hq, by simp only [go_sem,reduceIte,Nat.reduceEqDiff,Nat.reduceLT], by (simp only [go_sem,reduceIte,Nat.reduceEqDiff,Nat.reduceLT]) <;> rfl⟩ (by omega) ?_
  rintro J j α h2 ⟨i, hij, pr, hoks, e0, e3⟩ hJ
  have nx := pr.next
  have hv2 := hv.mono (B' := h2.blks) fun b _ hb => pr.get b (by omega)
  by_cases hlt : (i : Int) < (L.length : Int)
  · obtain ⟨q, hq⟩ : ∃ q, L[i]? = some q := ⟨_, List.getElem?_eq_getElem (show i < L.length by omega)⟩
    obtain ⟨bA, oA, rfl, _, _, _⟩ := hv2.at_ (by omega)
    obtain ⟨la, _, _, _⟩ := hv2.sq_at (G := G) hq rfl
    simp (disch := omega) only [go_sem,reduceIte,Nat.reduceEqDiff,Nat.reduceLT, e0, e3, hlt, len22, idxA22, Int.toNat_natCast, la]
    refine At_alloc i61 zero61 rfl (by omega) fun h3 hnh3 => ?_
    have nh3 := hnh3.next
    have wh3 := hnh3.var
    have ph3 : Pres h2.next h2 h3 := hnh3.pres (Nat.le_refl _)
    try simp only [go_sem,reduceIte,Nat.reduceEqDiff,Nat.reduceLT]
    refine At_storeV (v := sqv q) i61 (by simp only [go_sem,reduceIte,Nat.reduceEqDiff,Nat.reduceLT]) (by (simp only [go_sem,reduceIte,Nat.reduceEqDiff,Nat.reduceLT]) <;> rfl) wh3 (by rw [size61]; rfl) (by rw [size61]; rfl) rfl (by rw [En_G]; omega) fun h4 hsh4 vh4 => ?_
    rw [sqv_cells] at vh4
    have ph4 : Pres h2.next h2 h4 := ph3.trans (hsh4.pres (Nat.le_refl _))
    have nh4 : h4.next = h3.next := hsh4.next
    obtain ⟨vh40, vh41, vh42⟩ := vh4.sq
    have pr4 : Pres h.next h h4 := pr.trans (ph4.le (by omega))
    simp (disch := omega) only [go_sem,reduceIte,Nat.reduceEqDiff,Nat.reduceLT, fld61_2, load3, Nat.zero_add, vh42]
    refine CallO_same (Q := fun v => v = .bool (sideB q.2.2)) in_spec (by omega) fun u hu => ?_
    subst hu
    by_cases d1 : sideB q.2.2 = true
    rotate_left
    · have d1' : sideB q.2.2 = false := by simpa using d1
      simp (disch := omega) only [go_sem,reduceIte,Nat.reduceEqDiff,Nat.reduceLT, d1']
      exact hQ' _ _ ⟨pr4, by rw [chk_bad (by omega) fun hall => d1 (okSq_iff.1 (hall q (List.mem_of_getElem? hq))).1]⟩
    have hsd : 1 ≤ q.2.2 ∧ q.2.2 ≤ 1000 := of_decide_eq_true d1
    simp (maxSteps := 3000000) (disch := omega) only [go_sem,reduceIte,Nat.reduceEqDiff,Nat.reduceLT, d1, fld61_0, fld61_1, fld61_2, load3, Nat.zero_add, Nat.add_zero, vh40, vh41, vh42, wrap_i64]
    refine CallO_same (Q := fun v => v = .bool (atB q.1 q.2.2)) in_spec (by omega) fun u hu => ?_
    subst hu
    by_cases d2 : atB q.1 q.2.2 = true
    rotate_left
    · have d2' : atB q.1 q.2.2 = false := by simpa using d2
      simp (disch := omega) only [go_sem,reduceIte,Nat.reduceEqDiff,Nat.reduceLT, d2']
      exact hQ' _ _ ⟨pr4, by rw [chk_bad (by omega) fun hall => d2 (okSq_iff.1 (hall q (List.mem_of_getElem? hq))).2.1]⟩
    simp (maxSteps := 3000000) (disch := omega) only [go_sem,reduceIte,Nat.reduceEqDiff,Nat.reduceLT, d2, fld61_0, fld61_1, fld61_2, load3, Nat.zero_add, Nat.add_zero, vh40, vh41, vh42, wrap_i64]
    refine CallO_same (Q := fun v => v = .bool (atB q.2.1 q.2.2)) in_spec (by omega) fun u hu => ?_
    subst hu
    by_cases d3 : atB q.2.1 q.2.2 = true
    rotate_left
    · have d3' : atB q.2.1 q.2.2 = false := by simpa using d3
      simp (disch := omega) only [go_sem,reduceIte,Nat.reduceEqDiff,Nat.reduceLT, d3']
      exact hQ' _ _ ⟨pr4, by rw [chk_bad (by omega) fun hall => d3 (okSq_iff.1 (hall q (List.mem_of_getElem? hq))).2.2]⟩
    have hqo : okSq q := okSq_iff.2 ⟨d1, d2, d3⟩
    simp (disch := omega) only [go_sem,reduceIte,Nat.reduceEqDiff,Nat.reduceLT, d3, e3, wrap_i64]
    exact hJ (L.length - (i + 1)) _ _ (by omega) ⟨i + 1, by omega, pr4, fun q' hq' => by
      rw [take_snoc hq] at hq'
      rcases List.mem_append.1 hq' with hq' | hq'
      · exact hoks q' hq'
      · simp at hq'; subst hq'; exact hqo, by simp only [go_sem,reduceIte,Nat.reduceEqDiff,Nat.reduceLT, e0], by (simp only [go_sem,reduceIte,Nat.reduceEqDiff,Nat.reduceLT]) <;> rfl⟩
  · obtain rfl : i = L.length := by omega
    rw [List.take_length] at hoks
    by_cases h0 : L.length = 0
    · have d : decide ((L.length : Int) = 0) = true := decide_eq_true (by omega)
      simp (disch := omega) only [go_sem,reduceIte,Nat.reduceEqDiff,Nat.reduceLT, e0, e3, hlt, len22, d]
      exact hQ' _ _ ⟨pr, by rw [chk_form (by omega) hoks fun hc => by have := hc.1; omega]⟩
    · have d : decide ((L.length : Int) = 0) = false := decide_eq_false (by omega)
      simp (disch := omega) only [go_sem,reduceIte,Nat.reduceEqDiff,Nat.reduceLT, e0, e3, hlt, len22, d]
      refine CallO_f (Covers_spec (by omega) (by omega) hv2 (by omega) hoks ⟨Int.le_refl 0, by decide⟩ ⟨Int.le_refl 0, by decide⟩) (by omega) fun u h4 ph4 ⟨r, hu, hr⟩ => ?_
      subst hu
      rw [covX_zero hoks] at hr
      have pr4 : Pres h.next h h4 := pr.trans (ph4.le (by omega))
      cases r with
      | true =>
        simp only [go_sem,reduceIte,Nat.reduceEqDiff,Nat.reduceLT]
        exact hQ' _ _ ⟨pr4, by rw [chk_ok (by omega) hoks ⟨by omega, hr.1 rfl⟩]⟩
      | false =>
        simp only [go_sem,reduceIte,Nat.reduceEqDiff,Nat.reduceLT]
        exact hQ' _ _ ⟨pr4, by rw [chk_form (by omega) hoks fun hc => Bool.noConfusion (hr.2 hc.2)]⟩

end
end Go.Proofs.YtnhbkoeomefkdaaDoor.Ev

