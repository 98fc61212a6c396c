/- Round straps: multipliers, canons. -/
import Derived.Test.YtoeblkenmjbfiaaDoorPmoI3b
set_option linter.unusedSimpArgs false
set_option linter.unusedVariables false
namespace Go.Proofs.YtoeblkenmjbfiaaDoor.Ev
open Go Go.Proofs
noncomputable section

def mlP (V : Nat) (l : List Int) (us : List Nat) : List Int := (mP V l us).map fun t : Nat => (t : Int)
theorem mlP_len {V : Nat} {l : List Int} {us : List Nat} : (mlP V l us).length ≤ us.length := by
  have := List.length_filter_le (fun t : Nat => lst V t l (V - 1) == lst V 1 l (V - 1)) us
  simpa [mlP, mP] using this
theorem mlP_snoc {V t : Nat} {l : List Int} {us : List Nat} : mlP V l (us ++ [t]) = if lst V t l (V - 1) = lst V 1 l (V - 1) then mlP V l us ++ [(t : Int)] else mlP V l us := by
  unfold mlP
  rw [mP_snoc]
  split
  · rw [List.map_append]; rfl
  · rfl
theorem ul_at {V k : Nat} (hk : k < (ul V V).length) : ∃ u : Nat, (ul V V)[k] = (u : Int) ∧ u < V ∧ (uL V V).take (k + 1) = (uL V V).take k ++ [u] := by
  have h2 : k < (uL V V).length := by rw [← ul_len]; exact hk
  refine ⟨(uL V V)[k], by simp [ul], (uL_mem.1 (List.getElem_mem h2)).1, List.take_succ_eq_append_getElem h2⟩
set_option maxHeartbeats 8000000 in
theorem multipliers_spec {G V lo hi c : Nat} {l : List Int} {A : Option Addr} {h : H} (hG : G ≤ h.next) (hhi : hi ≤ h.next) (hv : SlV h.blks lo hi 1 l.length (ints l) (.slice A l.length c)) (hl : l.length ≤ 31) (hV : 2 ≤ V) (hV2 : V ≤ 31) (hin : InV V l) :
    Spec Tryd.prog (En G) 19 [.agg #[.int .i64 V, .slice A l.length c]] h fun v h' => ∃ A', v = .slice A' (mlP V l (uL V V)).length (mlP V l (uL V V)).length ∧ SlV h'.blks h.next h'.next 1 (mlP V l (uL V V)).length (ints (mlP V l (uL V V))) v := by
  refine CallsE_enter (En_known (by decide)) (En_f.trans Tryd.func19) rfl ⟨Nat.le_of_ble_eq_true rfl, by decide⟩ fun Q' hQ' => ?_
  simp only [Tryd.f19, go_sem,reduceIte,Nat.reduceEqDiff,Nat.reduceLT]
  refine At_box (v := .agg #[.int .i64 V, .slice A l.length c]) (by (simp only [go_sem,reduceIte,Nat.reduceEqDiff,Nat.reduceLT]) <;> rfl) (by omega) fun h0 hn0 => ?_
  have lz : (Value.agg #[Value.int IntKind.i64 V, Value.slice A l.length c]).cells.toList = [.int .i64 (V : Int), .slice A l.length c] := rfl
  have hvar := hn0.var
  rw [lz] at hvar
  have n0 := hn0.next
  have pr0 : Pres h.next h h0 := hn0.pres (Nat.le_refl _)
  have hv0 : SlV h0.blks lo hi 1 l.length (ints l) (.slice A l.length c) := hv.mono fun b _ hb => pr0.get b (by omega)
  simp only [go_sem,reduceIte,Nat.reduceEqDiff,Nat.reduceLT, hvar.loadA agg43 i43 (by rw [size43]; rfl)]
  refine CallO_f (least_spec (t := 1) (by omega) (by omega) hv0 hl hV hV2 (by omega) hin) (by omega) fun u h1 pr1 ⟨As, hu, hss⟩ => ?_
  subst hu
  have n1 := pr1.next
  have hvar1 := hvar.mono (B' := h1.blks) (pr1.get _ (by omega))
  simp only [go_sem,reduceIte,Nat.reduceEqDiff,Nat.reduceLT, hvar1.loadA agg43 i43 (by rw [size43]; rfl)]
  refine CallO_f (units_spec (by omega) hV hV2) (by omega) fun u h2 pr2 ⟨Au, hu, hus⟩ => ?_
  subst hu
  have n2 := pr2.next
  have hss2 := hss.mono (B' := h2.blks) fun b _ hb => pr2.get b hb
  have hvar2 := hvar1.mono (B' := h2.blks) (pr2.get _ (by omega))
  obtain ⟨f, hfe, hf, _⟩ := fnOf (ul V V)
  have hul : (ul V V).length ≤ V := by rw [ul_len]; exact uL_len
  rw [hfe] at hus
  simp only [go_sem,reduceIte,Nat.reduceEqDiff,Nat.reduceLT, len24]
  refine WK_loopN (fun j α h3 => ∃ (k : Nat) (A' : Option Addr), k + j = (ul V V).length ∧ α.get 1 = some (.pointer (some ⟨h.next, 0, none⟩)) ∧ α.get 3 = some (.slice As l.length l.length) ∧ α.get 4 = some (.slice A' (mlP V l ((uL V V).take k)).length (mlP V l ((uL V V).take k)).length) ∧ α.get 10 = some (.slice Au (ul V V).length (ul V V).length) ∧ α.get 11 = some (.int .i64 (ul V V).length) ∧ α.get 12 = some (.int .i64 k) ∧
      SlV h3.blks h2.next h3.next 1 (mlP V l ((uL V V).take k)).length (ints (mlP V l ((uL V V).take k))) (.slice A' (mlP V l ((uL V V).take k)).length (mlP V l ((uL V V).take k)).length) ∧ Pres h2.next h2 h3) (ul V V).length
    ⟨0, none, by omega, by simp only [go_sem,reduceIte,Nat.reduceEqDiff,Nat.reduceLT], by simp only [go_sem,reduceIte,Nat.reduceEqDiff,Nat.reduceLT], by (simp only [go_sem,reduceIte,Nat.reduceEqDiff,Nat.reduceLT]) <;> rfl, by simp only [go_sem,reduceIte,Nat.reduceEqDiff,Nat.reduceLT], by simp only [go_sem,reduceIte,Nat.reduceEqDiff,Nat.reduceLT], by (simp only [go_sem,reduceIte,Nat.reduceEqDiff,Nat.reduceLT]) <;> rfl, .nil rfl rfl, Pres.refl _ _⟩ (by omega) ?_
  rintro J j α h3 ⟨k, A', hij, e1, e3, e4, e10, e11, e12, hsv, pr⟩ hJ
  have nx3 := pr.next
  by_cases hlt : (k : Int) < ((ul V V).length : Int)
  · have hk : k < (ul V V).length := by omega
    obtain ⟨u, hu1, hu2, hu3⟩ := ul_at hk
    have hml : (mlP V l ((uL V V).take k)).length ≤ 31 := by
      have := mlP_len (V := V) (l := l) (us := (uL V V).take k)
      rw [List.length_take] at this
      omega
    have hus3 := hus.mono (B' := h3.blks) fun b _ hb => pr.get b hb
    obtain ⟨bu, ou, rfl, hldu⟩ := hus3.ints_at (by omega)
    have l1 := hldu k hk
    rw [hf k hk, hu1] at l1
    have hvar3 := hvar2.mono (B' := h3.blks) (pr.get _ (by omega))
    have hv3 : SlV h3.blks lo hi 1 l.length (ints l) (.slice A l.length c) := hv0.mono fun b _ hb => (pr.get b (by omega)).trans ((pr2.get b (by omega)).trans (pr1.get b (by omega)))
    simp (disch := omega) only [go_sem,reduceIte,Nat.reduceEqDiff,Nat.reduceLT, e1, e3, e4, e10, e11, e12, hlt, idxA24, load3, Int.toNat_natCast, Nat.mul_one, l1, hvar3.loadA agg43 i43 (by rw [size43]; rfl)]
    refine CallO_f (least_spec (t := u) (by omega) (by omega) hv3 hl hV hV2 (by omega) hin) (by omega) fun w h4 pr4 ⟨A4, hw, hs4⟩ => ?_
    subst hw
    have nx4 := pr4.next
    have hss4 := hss2.mono (B' := h4.blks) fun b _ hb => (pr4.get b (by omega)).trans (pr.get b (by omega))
    simp (disch := omega) only [go_sem,reduceIte,Nat.reduceEqDiff,Nat.reduceLT, e3]
    refine CallO_same (Equal_l lst_len lst_len hs4 hss4 (by omega)) (by omega) fun w ⟨b, hw, hb⟩ => ?_
    subst hw
    have hb' : b = true ↔ lst V u l (V - 1) = lst V 1 l (V - 1) := hb
    have hsv4 := hsv.mono (B' := h4.blks) fun b _ hb => pr4.get b hb
    cases b with
    | true =>
      simp (disch := omega) only [go_sem,reduceIte,Nat.reduceEqDiff,Nat.reduceLT, e4]
      refine At_pushI (lo := h2.next) (hi := h3.next) (l := mlP V l ((uL V V).take k)) (z := u) (by (simp only [go_sem,reduceIte,Nat.reduceEqDiff,Nat.reduceLT]) <;> rfl) (by simp only [go_sem,reduceIte,Nat.reduceEqDiff,Nat.reduceLT]) hsv4 (by omega) (by omega) (by omega) (by omega) (by decide) (by decide) (by decide) fun A5 h5 pr5 hs5 nx5 => ?_
      have e : mlP V l ((uL V V).take k) ++ [(u : Int)] = mlP V l ((uL V V).take (k + 1)) := by rw [hu3, mlP_snoc, if_pos (hb'.1 rfl)]
      rw [e] at hs5 ⊢
      simp (disch := omega) only [go_sem,reduceIte,Nat.reduceEqDiff,Nat.reduceLT, e12, wrap_i64]
      refine hJ ((ul V V).length - (k + 1)) _ _ (by omega) ⟨k + 1, A5, by omega, by simp only [go_sem,reduceIte,Nat.reduceEqDiff,Nat.reduceLT, e1], by simp only [go_sem,reduceIte,Nat.reduceEqDiff,Nat.reduceLT, e3], by simp only [go_sem,reduceIte,Nat.reduceEqDiff,Nat.reduceLT], by simp only [go_sem,reduceIte,Nat.reduceEqDiff,Nat.reduceLT, e10], by simp only [go_sem,reduceIte,Nat.reduceEqDiff,Nat.reduceLT, e11], by (simp only [go_sem,reduceIte,Nat.reduceEqDiff,Nat.reduceLT]) <;> rfl, hs5, (pr.trans (pr4.le (by omega))).trans pr5⟩
    | false =>
      simp (disch := omega) only [go_sem,reduceIte,Nat.reduceEqDiff,Nat.reduceLT, e12, wrap_i64]
      have e : mlP V l ((uL V V).take (k + 1)) = mlP V l ((uL V V).take k) := by
        rw [hu3, mlP_snoc, if_neg fun hh => Bool.noConfusion (hb'.2 hh)]
      refine hJ ((ul V V).length - (k + 1)) _ _ (by omega) ⟨k + 1, A', by omega, by simp only [go_sem,reduceIte,Nat.reduceEqDiff,Nat.reduceLT, e1], by simp only [go_sem,reduceIte,Nat.reduceEqDiff,Nat.reduceLT, e3], by rw [e]; simp only [go_sem,reduceIte,Nat.reduceEqDiff,Nat.reduceLT, e4], by simp only [go_sem,reduceIte,Nat.reduceEqDiff,Nat.reduceLT, e10], by simp only [go_sem,reduceIte,Nat.reduceEqDiff,Nat.reduceLT, e11], by (simp only [go_sem,reduceIte,Nat.reduceEqDiff,Nat.reduceLT]) <;> rfl, by rw [e]; exact hsv4.wide (Nat.le_refl _) (by omega), pr.trans (pr4.le (by omega))⟩
  · obtain rfl : k = (ul V V).length := by omega
    rw [ul_len, List.take_length] at e4 hsv
    simp (disch := omega) only [go_sem,reduceIte,Nat.reduceEqDiff,Nat.reduceLT, e1, e3, e4, e10, e11, e12, hlt]
    exact hQ' _ _ ⟨pr0.trans ((pr1.le (by omega)).trans ((pr2.le (by omega)).trans (pr.le (by omega)))), A', rfl, hsv.wide (by omega) (Nat.le_refl _)⟩
end
end Go.Proofs.YtoeblkenmjbfiaaDoor.Ev


