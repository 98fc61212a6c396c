/- Differences on a round strap; whether each comes equally often. -/
import Derived.Test.YtoeblkenmjbfiaaDoorPmoG8
set_option linter.unusedSimpArgs false
set_option linter.unusedVariables false
namespace Go.Proofs.YtoeblkenmjbfiaaDoor.Ev
open Go Go.Proofs
noncomputable section

/-- the same, for any number -/
def cpz (f : Nat → Int) (i j : Nat) (z : Int) : Int := ((dpc z (ilst i f) + dnc (f i) z (ilst j f) : Nat) : Int)
theorem cpz_row {f : Nat → Int} {i : Nat} {z : Int} : cpz f i i z = cpz f (i + 1) 0 z := by
  unfold cpz
  rw [ilst_succ, dpc_snoc]
  simp [dnc, ilst]
theorem cpz_step {f : Nat → Int} {i j : Nat} {z : Int} : cpz f i (j + 1) z = if f i - f j = z then cpz f i j z + 1 else cpz f i j z := by
  unfold cpz dnc
  rw [ilst_succ, List.countP_append, List.countP_cons, List.countP_nil]
  by_cases h : f i - f j = z
  · simp [h]; omega
  · simp [h]
theorem cpz_bound {f : Nat → Int} {i j : Nat} {z : Int} (hi : i ≤ 40) (hj : j ≤ 40) : 0 ≤ cpz f i j z ∧ cpz f i j z ≤ 1640 := by
  unfold cpz dnc
  have h1 := dpc_le (d := z) (ilst i f)
  have h2 : (ilst j f).countP (fun a => decide (f i - a = z)) ≤ (ilst j f).length := List.countP_le_length
  rw [ilst_len] at h1 h2
  have h3 : i * i ≤ 40 * 40 := Nat.mul_le_mul hi hi
  omega
theorem cpz_all {n : Nat} {z : Int} {f : Nat → Int} : cpz f n 0 z = (dpc z (ilst n f) : Int) := by
  simp [cpz, dnc, ilst]
/-- how often a number is a difference, when so much is counted -/
def dcp (f : Nat → Int) (V i j d : Nat) : Int := cpz f i j d + cpz f i j ((V : Int) - d)

set_option maxHeartbeats 16000000 in
theorem differences_spec {G lo hi n c V : Nat} {A : Option Addr} {f : Nat → Int} {h : H} (hG : G ≤ h.next) (hhi : hi ≤ h.next) (hv : SlV h.blks lo hi 1 n (intsL n f) (.slice A n c)) (hn : n ≤ 31) (hV : 2 ≤ V) (hV2 : V ≤ 31) (hr : RiseP n ((V : Int) - 1) f) :
    Spec Tryd.prog (En G) 23 [.agg #[.int .i64 V, .slice A n c]] h fun v h' => ∃ b, v = .slice (some ⟨b, 0, none⟩) V V ∧ SlV h'.blks h.next h'.next 1 V (intsL V (dcp f V n 0)) v := by
  refine CallsE_enter (En_known (by decide)) (En_f.trans Tryd.func23) rfl ⟨Nat.le_of_ble_eq_true rfl, by decide⟩ fun Q' hQ' => ?_
  simp only [Tryd.f23, go_sem,reduceIte,Nat.reduceEqDiff,Nat.reduceLT]
  refine At_box (v := .agg #[.int .i64 V, .slice A n c]) (by (simp only [go_sem,reduceIte,Nat.reduceEqDiff,Nat.reduceLT]) <;> rfl) (by omega) fun h0 hn0 => ?_
  have lz : (Value.agg #[Value.int IntKind.i64 V, Value.slice A n c]).cells.toList = [.int .i64 (V : Int), .slice A n c] := rfl
  have hvar := hn0.var
  rw [lz] at hvar
  have n0 := hn0.next
  have pr0 : Pres h.next h h0 := hn0.pres (Nat.le_refl _)
  have la := hvar.load (i := 0) (Nat.zero_lt_succ 1)
  have la2 : loadv h0.blks h.next 0 = some (.int .i64 (V : Int)) := la
  simp only [go_sem,reduceIte,Nat.reduceEqDiff,Nat.reduceLT, fld43_0, fld43_1, load3, load24, Nat.add_zero, Nat.zero_add, la2]
  refine At_make (k1 := .i64) (k2 := .i64) (l := V) (c := V) u24 i3 zero3 (by rw [size3, bytes3]; rfl) (by simp only [go_sem,reduceIte,Nat.reduceEqDiff,Nat.reduceLT]) (by simp only [go_sem,reduceIte,Nat.reduceEqDiff,Nat.reduceLT]) (Nat.le_refl _) (by rw [size3]; omega) (by omega) (by omega) fun h1 hn1 => ?_
  rw [size3] at hn1
  have n1 := hn1.next
  have hz := hn1.slv (n := V) (c := V) (by rw [zeros_length]; rfl)
  have hzz : zeros (Value.int IntKind.i64 0).cells.toList V = intsL V (dcp f V 0 0) := (zeros_ints V).trans (intsL_congr fun k _ => rfl)
  rw [hzz] at hz
  have pr1 : Pres h0.next h0 h1 := hn1.pres (Nat.le_refl _)
  have hvar1 := hvar.mono (B' := h1.blks) (pr1.get _ (by omega))
  have lb : loadv h1.blks h.next 1 = some (.slice A n c) := hvar1.load (i := 1) (Nat.lt_succ_self 1)
  simp only [go_sem,reduceIte,Nat.reduceEqDiff,Nat.reduceLT, fld43_0, fld43_1, load3, load24, Nat.add_zero, Nat.zero_add, lb, len24]
  refine WK_loopN (fun j α h2 => ∃ i : Nat, i + j = n ∧ α.get 1 = some (.pointer (some ⟨h.next, 0, none⟩)) ∧ α.get 3 = some (.slice (some ⟨h0.next, 0, none⟩) V V) ∧ α.get 12 = some (.slice A n c) ∧ α.get 13 = some (.int .i64 n) ∧ α.get 14 = some (.int .i64 i) ∧
      SlV h2.blks h0.next h1.next 1 V (intsL V (dcp f V i 0)) (.slice (some ⟨h0.next, 0, none⟩) V V) ∧ Pres h0.next h0 h2 ∧ h1.next ≤ h2.next) n
    ⟨0, by omega, by simp only [go_sem,reduceIte,Nat.reduceEqDiff,Nat.reduceLT], by simp only [go_sem,reduceIte,Nat.reduceEqDiff,Nat.reduceLT], by simp only [go_sem,reduceIte,Nat.reduceEqDiff,Nat.reduceLT], by simp only [go_sem,reduceIte,Nat.reduceEqDiff,Nat.reduceLT], by (simp only [go_sem,reduceIte,Nat.reduceEqDiff,Nat.reduceLT]) <;> rfl, hz.wide (by omega) (by omega), pr1, Nat.le_refl _⟩ (by omega) ?_
  rintro J j α h2 ⟨i, hij, e1, e3, e12, e13, e14, hsv, pr, hnx⟩ hJ
  by_cases hlt : (i : Int) < n
  · have hv2 : SlV h2.blks lo hi 1 n (intsL n f) (.slice A n c) := hv.mono fun b _ hb => (pr.get b (by omega)).trans (pr0.get b (by omega))
    have hvar2 := hvar.mono (B' := h2.blks) (pr.get _ (by omega))
    have lb2 : loadv h2.blks h.next 1 = some (.slice A n c) := hvar2.load (i := 1) (Nat.lt_succ_self 1)
    obtain ⟨b, off, hA, hld⟩ := hv2.ints_at (by omega)
    have l1 := hld i (by omega)
    obtain ⟨A', c', hsl, hv'⟩ := sliceO_take (E := En G) (kd := .i64) (m := i) u24 i3 size3 hv2 (by omega)
    rw [Nat.mul_one, intsL_take (by omega)] at hv'
    rw [hA] at e12 hsl lb2
    simp (disch := omega) only [go_sem,reduceIte,Nat.reduceEqDiff,Nat.reduceLT, e1, e3, e12, e13, e14, hlt, len24, idxA24, load3, load24, fld43_1, Nat.zero_add, Int.toNat_natCast, Nat.mul_one, l1, lb2, hsl]
    refine WK_loopN (fun j' α h3 => ∃ i' : Nat, i' + j' = i ∧ α.get 1 = some (.pointer (some ⟨h.next, 0, none⟩)) ∧ α.get 3 = some (.slice (some ⟨h0.next, 0, none⟩) V V) ∧ α.get 5 = some (.int .i64 (f i)) ∧ α.get 12 = some (.slice (some ⟨b, off, none⟩) n c) ∧ α.get 13 = some (.int .i64 n) ∧ α.get 14 = some (.int .i64 i) ∧
        α.get 22 = some (.slice A' i c') ∧ α.get 23 = some (.int .i64 i) ∧ α.get 24 = some (.int .i64 i') ∧
        SlV h3.blks h0.next h1.next 1 V (intsL V (dcp f V i i')) (.slice (some ⟨h0.next, 0, none⟩) V V) ∧ Pres h0.next h0 h3 ∧ h1.next ≤ h3.next) i
      ⟨0, by omega, by simp only [go_sem,reduceIte,Nat.reduceEqDiff,Nat.reduceLT, e1], by simp only [go_sem,reduceIte,Nat.reduceEqDiff,Nat.reduceLT, e3], by simp only [go_sem,reduceIte,Nat.reduceEqDiff,Nat.reduceLT], by simp only [go_sem,reduceIte,Nat.reduceEqDiff,Nat.reduceLT, e12], by simp only [go_sem,reduceIte,Nat.reduceEqDiff,Nat.reduceLT, e13], by simp only [go_sem,reduceIte,Nat.reduceEqDiff,Nat.reduceLT, e14], by simp only [go_sem,reduceIte,Nat.reduceEqDiff,Nat.reduceLT], by simp only [go_sem,reduceIte,Nat.reduceEqDiff,Nat.reduceLT], by (simp only [go_sem,reduceIte,Nat.reduceEqDiff,Nat.reduceLT]) <;> rfl, hsv, pr, hnx⟩ (by omega) ?_
    have hpr2 := pr
    clear e1 e3 e12 e13 e14 hld l1 hsv pr hnx lb2
    rintro J' j' α h3 ⟨i', hij', e1, e3, e5, e12, e13, e14, e22, e23, e24, hsv, pr, hnx⟩ hJ'
    by_cases hlt' : (i' : Int) < i
    · have hv3 : SlV h3.blks lo hi 1 i (intsL i f) (.slice A' i c') := hv'.mono fun b _ hb => (pr.get b (by omega)).trans (hpr2.get b (by omega)).symm
      obtain ⟨b2, off2, rfl, hld2⟩ := hv3.ints_at (by omega)
      have l2 := hld2 i' (by omega)
      have g1 := hr.lt (i := i') (j := i) (by omega) (by omega)
      have g2 := hr.1 i (by omega)
      have g3 := hr.1 i' (by omega)
      obtain ⟨D, hD⟩ : ∃ D : Nat, f i - f i' = (D : Int) := ⟨(f i - f i').toNat, by omega⟩
      have hVD : (V : Int) - (D : Int) = ((V - D : Nat) : Int) := by omega
      have l3 := hsv.ints_at' (j := D) (by omega)
      have b3 := cpz_bound (f := f) (i := i) (j := i') (z := D) (by omega) (by omega)
      have b4 := cpz_bound (f := f) (i := i) (j := i') (z := (V : Int) - D) (by omega) (by omega)
      have b5 : 0 ≤ dcp f V i i' D ∧ dcp f V i i' D ≤ 4000 := by unfold dcp; omega
      simp (disch := omega) only [go_sem,reduceIte,Nat.reduceEqDiff,Nat.reduceLT, e1, e3, e5, e12, e13, e14, e22, e23, e24, hlt', idxA24, load3, Int.toNat_natCast, Nat.mul_one, l2, wrap_i64, hD, l3]
      refine At_setInt (lo := h0.next) (hi := h1.next) (f := dcp f V i i') (z := dcp f V i i' D + 1) (N := V) (c := V) (b := h0.next) (i := D) (by simp only [go_sem,reduceIte,Nat.reduceEqDiff,Nat.reduceLT]) (by simp only [go_sem,reduceIte,Nat.reduceEqDiff,Nat.reduceLT]) hsv (by omega) (by omega) fun h4 hs4 hsv4 => ?_
      have n4 := hs4.next
      have pr4 : Pres h0.next h0 h4 := pr.trans (hs4.pres (Nat.le_refl _))
      have hvar4 := hvar.mono (B' := h4.blks) (pr4.get _ (by omega))
      have lb4 : loadv h4.blks h.next 0 = some (.int .i64 (V : Int)) := hvar4.load (i := 0) (Nat.zero_lt_succ 1)
      have l5 := hsv4.ints_at' (j := V - D) (by omega)
      have b6 := cpz_bound (f := f) (i := i) (j := i') (z := ((V - D : Nat) : Int)) (by omega) (by omega)
      have b7 := cpz_bound (f := f) (i := i) (j := i') (z := (V : Int) - ((V - D : Nat) : Int)) (by omega) (by omega)
      have b8 : 0 ≤ dcp f V i i' (V - D) ∧ dcp f V i i' (V - D) ≤ 4000 := by unfold dcp; omega
      have b9 : 0 ≤ (if V - D = D then dcp f V i i' D + 1 else dcp f V i i' (V - D)) ∧ (if V - D = D then dcp f V i i' D + 1 else dcp f V i i' (V - D)) ≤ 4001 := by split <;> omega
      simp (disch := omega) only [go_sem,reduceIte,Nat.reduceEqDiff,Nat.reduceLT, e1, e3, e5, fld43_0, lb4, idxA24, load3, Int.toNat_natCast, Nat.mul_one, wrap_i64, hD, hVD, l5]
      refine At_setInt (lo := h0.next) (hi := h1.next) (f := fun r => if r = D then dcp f V i i' D + 1 else dcp f V i i' r) (z := (if V - D = D then dcp f V i i' D + 1 else dcp f V i i' (V - D)) + 1) (N := V) (c := V) (b := h0.next) (i := V - D) (by simp only [go_sem,reduceIte,Nat.reduceEqDiff,Nat.reduceLT]) (by simp only [go_sem,reduceIte,Nat.reduceEqDiff,Nat.reduceLT]) hsv4 (by omega) (by omega) fun h5 hs5 hsv5 => ?_
      have n5 := hs5.next
      have hfin : (intsL V fun r => if r = V - D then (if V - D = D then dcp f V i i' D + 1 else dcp f V i i' (V - D)) + 1 else if r = D then dcp f V i i' D + 1 else dcp f V i i' r) = intsL V (dcp f V i (i' + 1)) := intsL_congr fun k hk => by
        unfold dcp
        rw [cpz_step, cpz_step, hD]
        by_cases q1 : k = V - D
        · subst q1
          rw [if_pos rfl, if_pos (show (D : Int) = (V : Int) - ((V - D : Nat) : Int) by omega)]
          by_cases q2 : V - D = D
          · rw [if_pos q2, if_pos (show (D : Int) = ((V - D : Nat) : Int) by omega), q2]
            omega
          · rw [if_neg q2, if_neg (show ¬ (D : Int) = ((V - D : Nat) : Int) by omega)]
            omega
        · rw [if_neg q1, if_neg (show ¬ (D : Int) = (V : Int) - (k : Int) by omega)]
          by_cases q2 : k = D
          · subst q2
            rw [if_pos rfl, if_pos rfl]
            omega
          · rw [if_neg q2, if_neg (show ¬ (D : Int) = (k : Int) by omega)]
      rw [hfin] at hsv5
      simp (disch := omega) only [go_sem,reduceIte,Nat.reduceEqDiff,Nat.reduceLT, e24, wrap_i64]
      refine hJ' (i - (i' + 1)) _ _ (by omega) ⟨i' + 1, by omega, by simp only [go_sem,reduceIte,Nat.reduceEqDiff,Nat.reduceLT, e1], by simp only [go_sem,reduceIte,Nat.reduceEqDiff,Nat.reduceLT, e3], by simp only [go_sem,reduceIte,Nat.reduceEqDiff,Nat.reduceLT, e5], by simp only [go_sem,reduceIte,Nat.reduceEqDiff,Nat.reduceLT, e12], by simp only [go_sem,reduceIte,Nat.reduceEqDiff,Nat.reduceLT, e13], by simp only [go_sem,reduceIte,Nat.reduceEqDiff,Nat.reduceLT, e14], by simp only [go_sem,reduceIte,Nat.reduceEqDiff,Nat.reduceLT, e22], by simp only [go_sem,reduceIte,Nat.reduceEqDiff,Nat.reduceLT, e23], by (simp only [go_sem,reduceIte,Nat.reduceEqDiff,Nat.reduceLT]) <;> rfl, hsv5, pr4.trans (hs5.pres (Nat.le_refl _)), by omega⟩
    · obtain rfl : i' = i := by omega
      have hrow : intsL V (dcp f V i' i') = intsL V (dcp f V (i' + 1) 0) := intsL_congr fun k hk => by unfold dcp; rw [cpz_row, cpz_row]
      rw [hrow] at hsv
      simp (disch := omega) only [go_sem,reduceIte,Nat.reduceEqDiff,Nat.reduceLT, e14, e22, e23, e24, hlt', wrap_i64]
      refine hJ (n - (i' + 1)) _ _ (by omega) ⟨i' + 1, by omega, by simp only [go_sem,reduceIte,Nat.reduceEqDiff,Nat.reduceLT, e1], by simp only [go_sem,reduceIte,Nat.reduceEqDiff,Nat.reduceLT, e3], by simp only [go_sem,reduceIte,Nat.reduceEqDiff,Nat.reduceLT, e12, hA], by simp only [go_sem,reduceIte,Nat.reduceEqDiff,Nat.reduceLT, e13], by (simp only [go_sem,reduceIte,Nat.reduceEqDiff,Nat.reduceLT]) <;> rfl, hsv, pr, hnx⟩
  · obtain rfl : i = n := by omega
    simp (disch := omega) only [go_sem,reduceIte,Nat.reduceEqDiff,Nat.reduceLT, e1, e3, e12, e13, e14, hlt]
    exact hQ' _ _ ⟨pr0.trans (pr.le (by omega)), h0.next, rfl, hsv.wide (by omega) hnx⟩

/-- each difference comes so often -/
def EvenP (f : Nat → Int) (V n : Nat) (o : Int) : Prop := ∀ d, 1 ≤ d → d < V → dcp f V n 0 d = o

set_option maxHeartbeats 8000000 in
theorem often_spec {G lo hi n c V : Nat} {A : Option Addr} {f : Nat → Int} {h : H} (hG : G ≤ h.next) (hhi : hi ≤ h.next) (hv : SlV h.blks lo hi 1 n (intsL n f) (.slice A n c)) (hn : n ≤ 31) (hV : 2 ≤ V) (hV2 : V ≤ 31) (hr : RiseP n ((V : Int) - 1) f) :
    Spec Tryd.prog (En G) 15 [.agg #[.int .i64 V, .slice A n c]] h fun v _ => (EvenP f V n (dcp f V n 0 1) ∧ v = .tuple #[.int .i64 (dcp f V n 0 1), .bool true]) ∨ (¬ EvenP f V n (dcp f V n 0 1) ∧ v = .tuple #[.int .i64 0, .bool false]) := by
  refine CallsE_enter (En_known (by decide)) (En_f.trans Tryd.func15) rfl ⟨Nat.le_of_ble_eq_true rfl, by decide⟩ fun Q' hQ' => ?_
  simp only [Tryd.f15, go_sem,reduceIte,Nat.reduceEqDiff,Nat.reduceLT]
  refine At_box (v := .agg #[.int .i64 V, .slice A n c]) (by (simp only [go_sem,reduceIte,Nat.reduceEqDiff,Nat.reduceLT]) <;> rfl) (by omega) fun h0 hn0 => ?_
  have lz : (Value.agg #[Value.int IntKind.i64 V, Value.slice A n c]).cells.toList = [.int .i64 (V : Int), .slice A n c] := rfl
  have hvar := hn0.var
  rw [lz] at hvar
  have n0 := hn0.next
  have pr0 : Pres h.next h h0 := hn0.pres (Nat.le_refl _)
  have hv0 : SlV h0.blks lo hi 1 n (intsL n f) (.slice A n c) := hv.mono fun b _ hb => pr0.get b (by omega)
  simp only [go_sem,reduceIte,Nat.reduceEqDiff,Nat.reduceLT, hvar.loadA agg43 i43 (by rw [size43]; rfl)]
  refine CallO_f (differences_spec (by omega) (by omega) hv0 hn hV hV2 hr) (by omega) fun u h1 pr1 ⟨b, hu, hc⟩ => ?_
  subst hu
  have n1 := pr1.next
  obtain ⟨A2, c2, hsl, hv'⟩ := sliceO_drop (E := En G) (kd := .i64) (m := 1) u24 i3 size3 hc (by omega)
  rw [Nat.mul_one] at hv'
  have hdr : (intsL V (dcp f V n 0)).drop 1 = intsL (V - 1) fun j => dcp f V n 0 (1 + j) := by
    apply List.ext_getElem?
    intro q
    rw [List.getElem?_drop]
    by_cases hq : q < V - 1
    · rw [intsL_get hq, intsL_get (by omega)]
    · rw [List.getElem?_eq_none (by rw [intsL_len]; omega), List.getElem?_eq_none (by rw [intsL_len]; omega)]
  rw [hdr] at hv'
  have hsl' : sliceO (En G) 24 h1.blks (some (.slice (some ⟨b, 0, none⟩) V V)) (some [.int .i64 1]) (some []) = some (.slice A2 (V - 1) c2) := hsl
  have lone := hc.ints_at' (j := 1) (by omega)
  have pr01 : Pres h.next h h1 := pr0.trans (pr1.le (by omega))
  simp only [go_sem,reduceIte,Nat.reduceEqDiff,Nat.reduceLT, hsl', len24]
  refine WK_loopN (fun j α h2 => ∃ i : Nat, i + j = V - 1 ∧ h2 = h1 ∧ α.get 4 = some (.slice (some ⟨b, 0, none⟩) V V) ∧ α.get 10 = some (.slice A2 (V - 1) c2) ∧ α.get 11 = some (.int .i64 ((V - 1 : Nat) : Int)) ∧ α.get 12 = some (.int .i64 i) ∧ ∀ k, k < i → dcp f V n 0 (1 + k) = dcp f V n 0 1) (V - 1)
    ⟨0, by omega, rfl, by simp only [go_sem,reduceIte,Nat.reduceEqDiff,Nat.reduceLT], by simp only [go_sem,reduceIte,Nat.reduceEqDiff,Nat.reduceLT], by simp only [go_sem,reduceIte,Nat.reduceEqDiff,Nat.reduceLT], by (simp only [go_sem,reduceIte,Nat.reduceEqDiff,Nat.reduceLT]) <;> rfl, fun k hk => absurd hk (Nat.not_lt_zero k)⟩ (by omega) ?_
  rintro J j α h2 ⟨i, hij, rfl, e4, e10, e11, e12, hall⟩ hJ
  have i1 : Int.toNat 1 = 1 := rfl
  by_cases hlt : (i : Int) < ((V - 1 : Nat) : Int)
  · obtain ⟨b2, off2, rfl, hld2⟩ := hv'.ints_at (by omega)
    have l2 := hld2 i (by omega)
    by_cases c1 : dcp f V n 0 (1 + i) = dcp f V n 0 1
    · have d1 : decide (dcp f V n 0 (1 + i) ≠ dcp f V n 0 1) = false := decide_eq_false fun e => e c1
      simp (disch := omega) only [go_sem,reduceIte,Nat.reduceEqDiff,Nat.reduceLT, e4, e10, e11, e12, hlt, idxA24, load3, Int.toNat_natCast, Nat.mul_one, i1, l2, lone, d1, wrap_i64]
      refine hJ (V - 1 - (i + 1)) _ _ (by omega) ⟨i + 1, by omega, rfl, by simp only [go_sem,reduceIte,Nat.reduceEqDiff,Nat.reduceLT, e4], by simp only [go_sem,reduceIte,Nat.reduceEqDiff,Nat.reduceLT, e10], by simp only [go_sem,reduceIte,Nat.reduceEqDiff,Nat.reduceLT, e11], by (simp only [go_sem,reduceIte,Nat.reduceEqDiff,Nat.reduceLT]) <;> rfl, fun k hk => ?_⟩
      by_cases e : k = i
      · subst e; exact c1
      · exact hall k (by omega)
    · have d1 : decide (dcp f V n 0 (1 + i) ≠ dcp f V n 0 1) = true := decide_eq_true c1
      simp (disch := omega) only [go_sem,reduceIte,Nat.reduceEqDiff,Nat.reduceLT, e4, e10, e11, e12, hlt, idxA24, load3, Int.toNat_natCast, Nat.mul_one, i1, l2, lone, d1]
      exact hQ' _ _ ⟨pr01, .inr ⟨fun a => c1 (a (1 + i) (by omega) (by omega)), rfl⟩⟩
  · obtain rfl : i = V - 1 := by omega
    simp (disch := omega) only [go_sem,reduceIte,Nat.reduceEqDiff,Nat.reduceLT, e4, e10, e11, e12, hlt, idxA24, load3, Nat.mul_one, i1, lone]
    exact hQ' _ _ ⟨pr01, .inl ⟨fun d h1 h2 => by have := hall (d - 1) (by omega); rwa [show 1 + (d - 1) = d by omega] at this, rfl⟩⟩

/-- what 'Even' says -/
def evenR (v : Int) (n : Nat) (f : Nat → Int) (o e : Int) : Prop :=
  (e ≠ 0 ∧ roundE v n f e ∧ o = 0) ∨ (roundE v n f 0 ∧ ∃ V : Nat, v = V ∧ ((EvenP f V n (dcp f V n 0 1) ∧ o = dcp f V n 0 1 ∧ e = 0) ∨ (¬ EvenP f V n (dcp f V n 0 1) ∧ o = 0 ∧ e = 5)))
theorem roundE_zero {v : Int} {n : Nat} {f : Nat → Int} (h : roundE v n f 0) : n ≤ 31 ∧ (2 ≤ v ∧ v ≤ 31) ∧ RiseP n (v - 1) f := by
  rcases h with ⟨_, e⟩ | ⟨_, _, e⟩ | ⟨_, _, _, e⟩ | ⟨a, b, c, _⟩
  · omega
  · omega
  · omega
  · exact ⟨a, b, c⟩

set_option maxHeartbeats 8000000 in
theorem Even_spec {G lo hi n c : Nat} {A : Option Addr} {v : Int} {f : Nat → Int} {h : H} (hG : G ≤ h.next) (hhi : hi ≤ h.next) (hv : SlV h.blks lo hi 1 n (intsL n f) (.slice A n c)) (hn : n < 2147483648) :
    Spec Tryd.prog (En G) 8 [.int .i64 v, .slice A n c] h fun w _ => ∃ o e, w = .tuple #[.int .i64 o, .int .i64 e] ∧ evenR v n f o e := by
  refine CallsE_enter (En_known (by decide)) (En_f.trans Tryd.func8) rfl ⟨Nat.le_of_ble_eq_true rfl, by decide⟩ fun Q' hQ' => ?_
  simp only [Tryd.f8, go_sem,reduceIte,Nat.reduceEqDiff,Nat.reduceLT]
  refine CallO_f (newRound_spec hG hv hhi hn) (by omega) fun u h1 pr1 ⟨e, r, hu, he, ⟨x, A0, n0', c0, hr⟩, hr0⟩ => ?_
  subst hu
  have n1 := pr1.next
  simp only [go_sem,reduceIte,Nat.reduceEqDiff,Nat.reduceLT]
  refine At_alloc i43 zero52 rfl (by omega) fun h2 hn2 => ?_
  have n2 := hn2.next
  have hvar := hn2.var
  have lz : (Value.agg #[Value.int IntKind.i64 0, Value.slice none 0 0]).cells.toList = [.int .i64 0, .slice none 0 0] := rfl
  rw [lz] at hvar
  have pr2 : Pres h1.next h1 h2 := hn2.pres (Nat.le_refl _)
  subst hr
  try simp only [go_sem,reduceIte,Nat.reduceEqDiff,Nat.reduceLT]
  refine At_storeV (b := h1.next) (L := [.int .i64 0, .slice none 0 0]) (v := .agg #[.int .i64 x, .slice A0 n0' c0]) i43 (by simp only [go_sem,reduceIte,Nat.reduceEqDiff,Nat.reduceLT]) (by (simp only [go_sem,reduceIte,Nat.reduceEqDiff,Nat.reduceLT]) <;> rfl) hvar (by rw [size43]; rfl) (by rw [size43]; rfl) rfl (by rw [En_G]; omega) fun h3 hs3 hv3 => ?_
  first | rw [lz] at hv3 | skip
  have lz2 : (Value.agg #[Value.int IntKind.i64 x, Value.slice A0 n0' c0]).cells.toList = [.int .i64 x, .slice A0 n0' c0] := rfl
  rw [lz2] at hv3
  have pr3 : Pres h1.next h2 h3 := hs3.pres (Nat.le_refl _)
  have n3 := pr3.next
  have pr03 : Pres h.next h h3 := pr1.trans ((pr2.trans pr3).le n1)
  by_cases e0 : e = 0
  · subst e0
    have d0 : decide ((0 : Int) ≠ 0) = false := rfl
    have hr := hr0 rfl
    injection hr with hr
    have hr' : [Value.int .i64 x, .slice A0 n0' c0] = [Value.int .i64 v, .slice A n c] := by simpa using hr
    simp only [List.cons.injEq, Value.int.injEq, Value.slice.injEq, true_and, and_true] at hr'
    obtain ⟨rfl, rfl, rfl, rfl⟩ := hr'
    obtain ⟨hn31, ⟨hv2, hv31⟩, hrise⟩ := roundE_zero he
    obtain ⟨V, rfl⟩ : ∃ V : Nat, x = V := ⟨x.toNat, by omega⟩
    have hsv : SlV h3.blks lo hi 1 n0' (intsL n0' f) (.slice A0 n0' c0) := hv.mono fun b _ hb => pr03.get b (by omega)
    simp only [go_sem,reduceIte,Nat.reduceEqDiff,Nat.reduceLT, d0, hv3.loadA agg43 i43 (by rw [size43]; rfl)]
    refine CallO_f (often_spec (by omega) (by omega) hsv hn31 (by omega) (by omega) hrise) (by omega) fun u h4 pr4 hu => ?_
    rcases hu with ⟨hev, hu⟩ | ⟨hev, hu⟩
    · subst hu
      simp only [go_sem,reduceIte,Nat.reduceEqDiff,Nat.reduceLT]
      exact hQ' _ _ ⟨pr03.trans (pr4.le (by omega)), _, 0, rfl, .inr ⟨he, V, rfl, .inl ⟨hev, rfl, rfl⟩⟩⟩
    · subst hu
      simp only [go_sem,reduceIte,Nat.reduceEqDiff,Nat.reduceLT]
      exact hQ' _ _ ⟨pr03.trans (pr4.le (by omega)), 0, 5, rfl, .inr ⟨he, V, rfl, .inr ⟨hev, rfl, rfl⟩⟩⟩
  · have d0 : decide (e ≠ 0) = true := decide_eq_true e0
    simp only [go_sem,reduceIte,Nat.reduceEqDiff,Nat.reduceLT, d0]
    exact hQ' _ _ ⟨pr03, 0, e, rfl, .inl ⟨e0, he, rfl⟩⟩
end
end Go.Proofs.YtoeblkenmjbfiaaDoor.Ev


