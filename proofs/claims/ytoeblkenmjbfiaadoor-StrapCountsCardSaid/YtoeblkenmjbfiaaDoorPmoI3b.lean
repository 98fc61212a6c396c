/- Round straps: changed sets, the least one. -/
import Derived.Test.YtoeblkenmjbfiaaDoorPmoI2
set_option linter.unusedSimpArgs false
set_option linter.unusedVariables false
namespace Go.Proofs.YtoeblkenmjbfiaaDoor.Ev
open Go Go.Proofs
noncomputable section

theorem fnOf (l : List Int) : ∃ f : Nat → Int, ints l = intsL l.length f ∧ (∀ i (h : i < l.length), f i = l[i]) ∧ ∀ i, f i = l.getD i 0 :=
  ⟨fun i => l.getD i 0, ints_intsL, fun i h => by simp [h], fun _ => rfl⟩
theorem tn_take {V i : Nat} {t s : Int} {l : List Int} (h : i < l.length) : tn V t s (l.take (i + 1)) = tn V t s (l.take i) ++ [(l[i] * t + s) % V] := by
  unfold tn
  rw [List.take_succ_eq_append_getElem h, List.map_append]
  rfl
set_option maxHeartbeats 4000000 in
theorem changed_spec {G V lo hi t s c : Nat} {l : List Int} {A : Option Addr} {h : H} (hG : G ≤ h.next) (hhi : hi ≤ h.next) (hv : SlV h.blks lo hi 1 l.length (ints l) (.slice A l.length c)) (hl : l.length ≤ 31) (hV : 2 ≤ V) (hV2 : V ≤ 31) (ht : t ≤ 31) (hs : s ≤ 31) (hin : InV V l) :
    Spec Tryd.prog (En G) 38 [.agg #[.int .i64 V, .slice A l.length c], .int .i64 t, .int .i64 s] h fun v h' => ∃ A', v = .slice A' l.length l.length ∧ SlV h'.blks h.next h'.next 1 l.length (ints (cg V t s l)) v ∧ (l.length = 0 → A' = none) := by
  refine CallsE_enter (En_known (by decide)) (En_f.trans Tryd.func38) rfl ⟨Nat.le_of_ble_eq_true rfl, by decide⟩ fun Q' hQ' => ?_
  simp only [Tryd.f38, go_sem,reduceIte,Nat.reduceEqDiff,Nat.reduceLT]
  refine At_box (v := .agg #[.int .i64 V, .slice A l.length c]) (by (simp only [go_sem,reduceIte,Nat.reduceEqDiff,Nat.reduceLT]) <;> rfl) (by omega) fun h0 hn0 => ?_
  have lz : (Value.agg #[Value.int IntKind.i64 V, Value.slice A l.length c]).cells.toList = [.int .i64 (V : Int), .slice A l.length c] := rfl
  have hvar := hn0.var
  rw [lz] at hvar
  have n0 := hn0.next
  have pr0 : Pres h.next h h0 := hn0.pres (Nat.le_refl _)
  have la2 : loadv h0.blks h.next 1 = some (.slice A l.length c) := hvar.load (i := 1) (Nat.lt_succ_self 1)
  obtain ⟨f, hfe, hf, _⟩ := fnOf l
  simp only [go_sem,reduceIte,Nat.reduceEqDiff,Nat.reduceLT, fld43_1, load24, Nat.add_zero, Nat.zero_add, la2, len24]
  refine WK_loopN (fun j α h2 => ∃ (i : Nat) (A' : Option Addr), i + j = l.length ∧ α.get 1 = some (.int .i64 t) ∧ α.get 2 = some (.int .i64 s) ∧ α.get 3 = some (.pointer (some ⟨h.next, 0, none⟩)) ∧ α.get 7 = some (.slice A' i i) ∧ α.get 11 = some (.slice A l.length c) ∧ α.get 12 = some (.int .i64 l.length) ∧ α.get 13 = some (.int .i64 i) ∧
      SlV h2.blks h0.next h2.next 1 i (ints (tn V t s (l.take i))) (.slice A' i i) ∧ Pres h0.next h0 h2 ∧ (i = 0 → A' = none)) l.length
    ⟨0, none, by omega, by simp only [go_sem,reduceIte,Nat.reduceEqDiff,Nat.reduceLT], by simp only [go_sem,reduceIte,Nat.reduceEqDiff,Nat.reduceLT], by simp only [go_sem,reduceIte,Nat.reduceEqDiff,Nat.reduceLT], by (simp only [go_sem,reduceIte,Nat.reduceEqDiff,Nat.reduceLT]) <;> rfl, by simp only [go_sem,reduceIte,Nat.reduceEqDiff,Nat.reduceLT], by simp only [go_sem,reduceIte,Nat.reduceEqDiff,Nat.reduceLT], by (simp only [go_sem,reduceIte,Nat.reduceEqDiff,Nat.reduceLT]) <;> rfl, .nil rfl rfl, Pres.refl _ _, fun _ => rfl⟩ (by omega) ?_
  rintro J j α h2 ⟨i, A', hij, e1, e2, e3, e7, e11, e12, e13, hsv, pr, hno⟩ hJ
  have nx2 := pr.next
  by_cases hlt : (i : Int) < (l.length : Int)
  · have hil : i < l.length := by omega
    have hvar2 := hvar.mono (B' := h2.blks) (pr.get _ (by omega))
    have lb : loadv h2.blks h.next 0 = some (.int .i64 (V : Int)) := hvar2.load (i := 0) (Nat.zero_lt_succ 1)
    have hv2 : SlV h2.blks lo hi 1 l.length (intsL l.length f) (.slice A l.length c) := by
      rw [← hfe]
      exact hv.mono fun b _ hb => (pr.get b (by omega)).trans (pr0.get b (by omega))
    obtain ⟨b, off, rfl, hld⟩ := hv2.ints_at (by omega)
    have l1 := hld i hil
    have hfi := hin (l[i]) (List.getElem_mem hil)
    rw [← hf i hil] at hfi
    have hm1 : 0 ≤ f i * (t : Int) := Int.mul_nonneg hfi.1 (by omega)
    have hm2 : f i * (t : Int) ≤ 31 * 31 := Int.mul_le_mul (by omega) (by omega) (by omega) (by omega)
    have hmod : (f i * (t : Int) + (s : Int)).tmod (V : Int) = (f i * t + s) % V := Int.tmod_eq_emod_of_nonneg (by omega)
    simp (disch := omega) only [go_sem,reduceIte,Nat.reduceEqDiff,Nat.reduceLT, e1, e2, e3, e7, e11, e12, e13, hlt, idxA24, load3, fld43_0, Nat.add_zero, Nat.zero_add, lb, Int.toNat_natCast, Nat.mul_one, l1, wrap_i64, hmod]
    have hlen : (tn V t s (l.take i)).length = i := by rw [tn_len, List.length_take]; omega
    refine At_pushI (lo := h0.next) (hi := h2.next) (l := tn V t s (l.take i)) (z := (f i * t + s) % V) (A := A') (by (simp only [go_sem,reduceIte,Nat.reduceEqDiff,Nat.reduceLT]) <;> rfl) (by rw [hlen]; simp only [go_sem,reduceIte,Nat.reduceEqDiff,Nat.reduceLT, e7]) (by rw [hlen]; exact hsv) (Nat.le_refl _) (by omega) (by omega) (by omega) (by decide) (by decide) (by decide) fun A3 h3 pr3 hs3 nx3 => ?_
    have e : tn V t s (l.take i) ++ [(f i * t + s) % V] = tn V t s (l.take (i + 1)) := by rw [tn_take hil, hf i hil]
    have hlen2 : (tn V t s (l.take (i + 1))).length = i + 1 := by rw [tn_len, List.length_take]; omega
    rw [e, hlen2] at hs3 ⊢
    simp (disch := omega) only [go_sem,reduceIte,Nat.reduceEqDiff,Nat.reduceLT, e13, wrap_i64]
    refine hJ (l.length - (i + 1)) _ _ (by omega) ⟨i + 1, A3, by omega, by simp only [go_sem,reduceIte,Nat.reduceEqDiff,Nat.reduceLT, e1], by simp only [go_sem,reduceIte,Nat.reduceEqDiff,Nat.reduceLT, e2], by simp only [go_sem,reduceIte,Nat.reduceEqDiff,Nat.reduceLT, e3], by simp only [go_sem,reduceIte,Nat.reduceEqDiff,Nat.reduceLT], by simp only [go_sem,reduceIte,Nat.reduceEqDiff,Nat.reduceLT, e11], by simp only [go_sem,reduceIte,Nat.reduceEqDiff,Nat.reduceLT, e12], by (simp only [go_sem,reduceIte,Nat.reduceEqDiff,Nat.reduceLT]) <;> rfl, hs3, pr.trans pr3, fun e => by omega⟩
  · obtain rfl : i = l.length := by omega
    rw [List.take_length] at hsv
    have hA : A' = none ∨ 0 < l.length := by
      rcases Nat.eq_zero_or_pos l.length with e | e
      · exact .inl (hno e)
      · exact .inr e
    simp (disch := omega) only [go_sem,reduceIte,Nat.reduceEqDiff,Nat.reduceLT, e1, e2, e3, e7, e11, e12, e13, hlt]
    refine CallO_any (sort_calls (by rw [tn_len]) hsv hA (by omega) (by omega)) (by omega) fun u h3 ⟨hu, pr3, nx3, hs3⟩ => ?_
    subst hu
    simp (disch := omega) only [go_sem,reduceIte,Nat.reduceEqDiff,Nat.reduceLT, e7]
    refine hQ' _ _ ⟨pr0.trans ((pr.trans pr3).le (by omega)), A', rfl, ?_, hno⟩
    rw [nx3]
    exact hs3.wide (by omega) (Nat.le_refl _)

theorem Compare_l {G lo hi lo2 hi2 n c c2 : Nat} {A A2 : Option Addr} {l m : List Int} {h : H} (hl : l.length = n) (hm : m.length = n) (hv : SlV h.blks lo hi 1 n (ints l) (.slice A n c)) (hw : SlV h.blks lo2 hi2 1 n (ints m) (.slice A2 n c2)) (hn : n < 2147483648) :
    Spec Tryd.prog (En G) 39 [.slice A n c, .slice A2 n c2] h fun v h' => (∃ z, v = .int .i64 z ∧ (z < 0 ↔ l < m)) ∧ h' = h := by
  subst hl
  rw [ints_intsL] at hv hw
  rw [hm] at hw
  refine Spec.mono (Compare_spec hv hw hn) fun v h' _ ⟨⟨z, b, e1, e2, e3⟩, e4⟩ => ⟨⟨z, e1, ?_⟩, e4⟩
  rw [e2]
  exact bef_lt hm.symm (by rw [hm]; exact e3)
theorem Equal_l {G lo hi lo2 hi2 n c c2 : Nat} {A A2 : Option Addr} {l m : List Int} {h : H} (hl : l.length = n) (hm : m.length = n) (hv : SlV h.blks lo hi 1 n (ints l) (.slice A n c)) (hw : SlV h.blks lo2 hi2 1 n (ints m) (.slice A2 n c2)) (hn : n < 2147483648) :
    Spec Tryd.prog (En G) 30 [.slice A n c, .slice A2 n c2] h fun v h' => (∃ b, v = .bool b ∧ (b = true ↔ l = m)) ∧ h' = h := by
  subst hl
  rw [ints_intsL] at hv hw
  rw [hm] at hw
  refine Spec.mono (Equal_spec hv hw hn) fun v h' _ ⟨⟨b, e1, e2⟩, e4⟩ => ⟨⟨b, e1, ?_⟩, e4⟩
  rw [e2]
  exact list_eq hm.symm
theorem SlV.none_len {B : Tr Blk} {lo hi sz n c : Nat} {L : List Value} (s : SlV B lo hi sz n L (.slice none n c)) : n = 0 := by cases s; rfl
set_option maxHeartbeats 8000000 in
theorem least_spec {G V lo hi t c : Nat} {l : List Int} {A : Option Addr} {h : H} (hG : G ≤ h.next) (hhi : hi ≤ h.next) (hv : SlV h.blks lo hi 1 l.length (ints l) (.slice A l.length c)) (hl : l.length ≤ 31) (hV : 2 ≤ V) (hV2 : V ≤ 31) (ht : t ≤ 31) (hin : InV V l) :
    Spec Tryd.prog (En G) 28 [.agg #[.int .i64 V, .slice A l.length c], .int .i64 t] h fun v h' => ∃ A', v = .slice A' l.length l.length ∧ SlV h'.blks h.next h'.next 1 l.length (ints (lst V t l (V - 1))) v := by
  refine CallsE_enter (En_known (by decide)) (En_f.trans Tryd.func28) rfl ⟨Nat.le_of_ble_eq_true rfl, by decide⟩ fun Q' hQ' => ?_
  simp only [Tryd.f28, go_sem,reduceIte,Nat.reduceEqDiff,Nat.reduceLT]
  refine At_box (v := .agg #[.int .i64 V, .slice A l.length c]) (by (simp only [go_sem,reduceIte,Nat.reduceEqDiff,Nat.reduceLT]) <;> rfl) (by omega) fun h0 hn0 => ?_
  have lz : (Value.agg #[Value.int IntKind.i64 V, Value.slice A l.length c]).cells.toList = [.int .i64 (V : Int), .slice A l.length c] := rfl
  have hvar := hn0.var
  rw [lz] at hvar
  have n0 := hn0.next
  have pr0 : Pres h.next h h0 := hn0.pres (Nat.le_refl _)
  have la2 : loadv h0.blks h.next 0 = some (.int .i64 (V : Int)) := hvar.load (i := 0) (Nat.zero_lt_succ 1)
  simp only [go_sem,reduceIte,Nat.reduceEqDiff,Nat.reduceLT, fld43_0, load3, Nat.add_zero, Nat.zero_add, la2]
  refine WK_loopN (fun j α h2 => ∃ (i m : Nat) (A' : Option Addr) (L : List Int), i + j = V ∧ α.get 1 = some (.int .i64 t) ∧ α.get 2 = some (.pointer (some ⟨h.next, 0, none⟩)) ∧ α.get 5 = some (.slice A' m m) ∧ α.get 9 = some (.int .i64 V) ∧ α.get 10 = some (.int .i64 i) ∧
      SlV h2.blks h0.next h2.next 1 m (ints L) (.slice A' m m) ∧ Pres h0.next h0 h2 ∧ (i = 0 → A' = none) ∧ (0 < i → m = l.length ∧ L = lst V t l (i - 1)) ∧ (m = 0 → A' = none)) V
    ⟨0, 0, none, [], by omega, by simp only [go_sem,reduceIte,Nat.reduceEqDiff,Nat.reduceLT], by (simp only [go_sem,reduceIte,Nat.reduceEqDiff,Nat.reduceLT]) <;> rfl, by (simp only [go_sem,reduceIte,Nat.reduceEqDiff,Nat.reduceLT]) <;> rfl, by simp only [go_sem,reduceIte,Nat.reduceEqDiff,Nat.reduceLT], by (simp only [go_sem,reduceIte,Nat.reduceEqDiff,Nat.reduceLT]) <;> rfl, .nil rfl rfl, Pres.refl _ _, fun _ => rfl, fun e => by omega, fun _ => rfl⟩ (by omega) ?_
  rintro J j α h2 ⟨i, m, A', L, hij, e1, e2, e5, e9, e10, hsv, pr, hz, hp, hm0⟩ hJ
  have nx2 := pr.next
  by_cases hlt : (i : Int) < (V : Int)
  · have hvar2 := hvar.mono (B' := h2.blks) (pr.get _ (by omega))
    have hv2 : SlV h2.blks lo hi 1 l.length (ints l) (.slice A l.length c) := hv.mono fun b _ hb => (pr.get b (by omega)).trans (pr0.get b (by omega))
    simp (disch := omega) only [go_sem,reduceIte,Nat.reduceEqDiff,Nat.reduceLT, e1, e2, e5, e9, e10, hlt, hvar2.loadA agg43 i43 (by rw [size43]; rfl)]
    refine CallO_f (changed_spec (t := t) (s := i) (by omega) (by omega) hv2 hl hV hV2 ht (by omega) hin) (by omega) fun u h3 pr3 ⟨A3, hu, hs3, hno3⟩ => ?_
    subst hu
    have nx3 := pr3.next
    have hcl : (cg V t i l).length = l.length := cg_len
    have hnew : (A' = none ∨ cg V t i l < L) → cg V t i l = lst V t l i := fun hc => by
      rcases Nat.eq_zero_or_pos i with e | e
      · subst e; rfl
      · obtain ⟨h5, h6⟩ := hp e
        obtain ⟨i', rfl⟩ : ∃ i', i = i' + 1 := ⟨i - 1, by omega⟩
        rcases hc with hc | hc
        · subst hc
          have hm := hsv.none_len
          have hl0 : l = [] := List.eq_nil_of_length_eq_zero (by omega)
          subst hl0
          have e3 : ∀ x : List Int, x.length = ([] : List Int).length → x = [] := fun x hx => List.eq_nil_of_length_eq_zero hx
          rw [e3 _ cg_len, e3 _ lst_len]
        · rw [lst_succ, if_pos]
          · rfl
          · rw [h6] at hc; exact hc
    have hsetA : SlV h3.blks h0.next h3.next 1 l.length (ints (cg V t i l)) (.slice A3 l.length l.length) := hs3.wide (by omega) (Nat.le_refl _)
    cases hA' : A' with
    | none =>
      subst hA'
      have hm := hsv.none_len
      subst hm
      simp (disch := omega) only [go_sem,reduceIte,Nat.reduceEqDiff,Nat.reduceLT, e5, nil_nil u24, e10, wrap_i64]
      refine hJ (V - (i + 1)) _ _ (by omega) ⟨i + 1, l.length, A3, cg V t i l, by omega, by simp only [go_sem,reduceIte,Nat.reduceEqDiff,Nat.reduceLT, e1], by simp only [go_sem,reduceIte,Nat.reduceEqDiff,Nat.reduceLT, e2], by simp only [go_sem,reduceIte,Nat.reduceEqDiff,Nat.reduceLT], by simp only [go_sem,reduceIte,Nat.reduceEqDiff,Nat.reduceLT, e9], by (simp only [go_sem,reduceIte,Nat.reduceEqDiff,Nat.reduceLT]) <;> rfl, hsetA, pr.trans (pr3.le (by omega)), fun e => by omega, fun _ => ⟨rfl, hnew (.inl rfl)⟩, hno3⟩
    | some a =>
      subst hA'
      have hi0 : 0 < i := by
        rcases Nat.eq_zero_or_pos i with e | e
        · have := hz e; cases this
        · exact e
      obtain ⟨h5, h6⟩ := hp hi0
      subst h5
      have hLl : L.length = l.length := by rw [h6, lst_len]
      have hsv3 : SlV h3.blks h0.next h2.next 1 l.length (ints L) (.slice (some a) l.length l.length) := hsv.mono fun b _ hb => pr3.get b (by omega)
      simp (disch := omega) only [go_sem,reduceIte,Nat.reduceEqDiff,Nat.reduceLT, e5, nil_some u24]
      refine CallO_same (Compare_l hcl hLl hsetA hsv3 (by omega)) (by omega) fun u ⟨z, hu, hzc⟩ => ?_
      subst hu
      by_cases c1 : z < 0
      · simp (disch := omega) only [go_sem,reduceIte,Nat.reduceEqDiff,Nat.reduceLT, e10, c1, wrap_i64]
        refine hJ (V - (i + 1)) _ _ (by omega) ⟨i + 1, l.length, A3, cg V t i l, by omega, by simp only [go_sem,reduceIte,Nat.reduceEqDiff,Nat.reduceLT, e1], by simp only [go_sem,reduceIte,Nat.reduceEqDiff,Nat.reduceLT, e2], by simp only [go_sem,reduceIte,Nat.reduceEqDiff,Nat.reduceLT], by simp only [go_sem,reduceIte,Nat.reduceEqDiff,Nat.reduceLT, e9], by (simp only [go_sem,reduceIte,Nat.reduceEqDiff,Nat.reduceLT]) <;> rfl, hsetA, pr.trans (pr3.le (by omega)), fun e => by omega, fun _ => ⟨rfl, hnew (.inr (hzc.1 c1))⟩, hno3⟩
      · simp (disch := omega) only [go_sem,reduceIte,Nat.reduceEqDiff,Nat.reduceLT, e5, e10, c1, wrap_i64]
        have hold : L = lst V t l i := by
          obtain ⟨i', rfl⟩ : ∃ i', i = i' + 1 := ⟨i - 1, by omega⟩
          rw [lst_succ, if_neg]
          · exact h6
          · have := fun hh => c1 (hzc.2 hh)
            rw [h6] at this
            exact this
        refine hJ (V - (i + 1)) _ _ (by omega) ⟨i + 1, l.length, some a, L, by omega, by simp only [go_sem,reduceIte,Nat.reduceEqDiff,Nat.reduceLT, e1], by simp only [go_sem,reduceIte,Nat.reduceEqDiff,Nat.reduceLT, e2], by simp only [go_sem,reduceIte,Nat.reduceEqDiff,Nat.reduceLT, e5], by simp only [go_sem,reduceIte,Nat.reduceEqDiff,Nat.reduceLT, e9], by (simp only [go_sem,reduceIte,Nat.reduceEqDiff,Nat.reduceLT]) <;> rfl, hsv3.wide (Nat.le_refl _) (by omega), pr.trans (pr3.le (by omega)), fun e => by omega, fun _ => ⟨rfl, hold⟩, hm0⟩
  · obtain rfl : i = V := by omega
    obtain ⟨h5, h6⟩ := hp (by omega)
    subst h5
    subst h6
    simp (disch := omega) only [go_sem,reduceIte,Nat.reduceEqDiff,Nat.reduceLT, e1, e2, e5, e9, e10, hlt]
    exact hQ' _ _ ⟨pr0.trans (pr.le (by omega)), A', rfl, hsv.wide (by omega) (Nat.le_refl _)⟩
end
end Go.Proofs.YtoeblkenmjbfiaaDoor.Ev


