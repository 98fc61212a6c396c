/- The law StrapRest. -/
import Derived.Test.YtoeblkenmjbfiaaDoorPmoJ1
set_option linter.unusedSimpArgs false
set_option linter.unusedVariables false
namespace Go.Proofs.YtoeblkenmjbfiaaDoor.Ev
open Go Go.Proofs
noncomputable section

theorem Even_l {G V lo hi c o : Nat} {l : List Int} {A : Option Addr} {h : H} (hG : G ≤ h.next) (hhi : hi ≤ h.next) (hv : SlV h.blks lo hi 1 l.length (ints l) (.slice A l.length c)) (hl : l.length ≤ 31) (h0 : 0 < l.length) (hV : 2 ≤ V) (hV2 : V ≤ 31) (hin : InV V l) (hlt : l.Pairwise (· < ·)) (he : Ev V l o) :
    Spec Tryd.prog (En G) 8 [.int .i64 V, .slice A l.length c] h fun w _ => w = .tuple #[.int .i64 o, .int .i64 0] := by
  have hr := round_ok hV hV2 hl hin hlt h0
  have hd : ∀ d : Nat, 1 ≤ d → d < V → dcp (fun i => l.getD i 0) V l.length 0 d = (o : Int) := fun d h1 h2 => by
    unfold dcp
    rw [cpz_all, cpz_all, ilst_getD]
    have := he d (by omega) (by omega)
    unfold rdc at this
    omega
  rw [ints_intsL] at hv
  refine Spec.mono (Even_spec hG hhi hv (by omega)) fun w h' _ ⟨o', e, hw, hev⟩ => ?_
  subst hw
  rcases hev with ⟨hne, hre, _⟩ | ⟨_, V', hV', hrest⟩
  · exact absurd (roundE_one hre hr) hne
  · obtain rfl : V' = V := by omega
    have h1 := hd 1 (by omega) (by omega)
    rcases hrest with ⟨_, rfl, rfl⟩ | ⟨hno, _, _⟩
    · rw [h1]
    · exact absurd (fun d a b => (hd d a b).trans h1.symm) hno

def rsn (l : List Int) (n : Nat) : List Int := ((List.range n).filter fun q : Nat => decide (¬ (q : Int) ∈ l)).map fun q : Nat => (q : Int)
theorem rsn_succ {l : List Int} {n : Nat} : rsn l (n + 1) = if (n : Int) ∈ l then rsn l n else rsn l n ++ [(n : Int)] := by
  unfold rsn
  rw [List.range_succ, List.filter_append]
  by_cases h : (n : Int) ∈ l
  · simp [h]
  · simp [h]
theorem rsn_len {l : List Int} {n : Nat} : (rsn l n).length ≤ n := by
  have := List.length_filter_le (fun q : Nat => decide (¬ (q : Int) ∈ l)) (List.range n)
  simpa [rsn] using this
theorem rsn_rs {l : List Int} {V : Nat} : rsn l V = rs V l := rfl

set_option maxHeartbeats 16000000 in
theorem law_StrapRest {G hi : Nat} {x0 x1 x2 : UInt8} {h : H} (hG : G ≤ h.next) (hhi : hi ≤ G) (hT : EvenT h.blks hi) :
    Spec Tryd.prog (En G) 4 [.agg #[.int .u8 x0.toNat, .int .u8 x1.toNat, .int .u8 x2.toNat]] h fun w _ => w = .bool true := by
  refine CallsE_enter (En_known (by decide)) (En_f.trans Tryd.func4) rfl ⟨Nat.le_of_ble_eq_true rfl, by decide⟩ fun Q' hQ' => ?_
  simp only [Tryd.f4, go_sem,reduceIte,Nat.reduceEqDiff,Nat.reduceLT]
  refine At_box (v := .agg #[.int .u8 x0.toNat, .int .u8 x1.toNat, .int .u8 x2.toNat]) (by (simp only [go_sem,reduceIte,Nat.reduceEqDiff,Nat.reduceLT]) <;> rfl) (by omega) fun h0 hn0 => ?_
  have lz : (Value.agg #[Value.int IntKind.u8 x0.toNat, Value.int IntKind.u8 x1.toNat, Value.int IntKind.u8 x2.toNat]).cells.toList = [.int .u8 (x0.toNat : Int), .int .u8 (x1.toNat : Int), .int .u8 (x2.toNat : Int)] := rfl
  have hvar := hn0.var
  rw [lz] at hvar
  have n0 := hn0.next
  have pr0 : Pres h.next h h0 := hn0.pres (Nat.le_refl _)
  have hT0 := hT.mono (B' := h0.blks) fun b hb => pr0.get b (by omega)
  simp only [go_sem,reduceIte,Nat.reduceEqDiff,Nat.reduceLT, hvar.loadA agg22 i22 (by rw [size22]; rfl)]
  refine CallO_f (made_spec (x0 := x0) (x1 := x1) (x2 := x2) (by omega) hhi hT0) (by omega) fun u h1 pr1 ⟨k, V, t, s, S, o, A, hk, ht, hg, hs, hu, hsv⟩ => ?_
  subst hu
  have n1 := pr1.next
  have hk10 : k < 10 := (List.getElem?_eq_some_iff.1 hk).1
  obtain ⟨V', S', o', he, hV, hV2, hS0, hS31, hSi, hSl, hEv, hEr, h2k, hr0, hkk⟩ := evT_at hk10
  rw [hk] at he
  simp only [Option.some.injEq, Prod.mk.injEq] at he
  obtain ⟨rfl, rfl, rfl⟩ := he
  have ho31 : o ≤ 1000 := by
    have a1 : o ≤ o * (V - 1) := Nat.le_mul_of_pos_right o (by omega)
    have a2 : S.length * (S.length - 1) ≤ 31 * 31 := Nat.mul_le_mul hS31 (by omega)
    omega
  clear hkk
  have hLi : InV V (cg V t s S) := cg_in (by omega)
  have hLt := cg_lt' (s := (s : Int)) (show 0 < V by omega) hSi hSl hg
  have hLl : (cg V t s S).length = S.length := cg_len
  have hLe := hEv.cg (s := (s : Int)) hV hV2 ht hg hSi hSl
  have hRe := hEr.cg (s := (s : Int)) hV hV2 ht hg rs_in rs_lt
  have hRc := rs_cg (s := (s : Int)) hV hV2 ht hg hSi hSl
  rw [← hRc] at hRe
  have hRl : (rs V (cg V t s S)).length = (rs V S).length := by rw [hRc, cg_len]
  have hMl : mlP V (rs V (cg V t s S)) (uL V V) = mlP V (cg V t s S) (uL V V) := by
    unfold mlP
    rw [mP_rs hV hV2 hLi hLt]
  rw [← hLl] at hsv h2k hRe ⊢
  have hL0 : 0 < (cg V t s S).length := by omega
  have hL31 : (cg V t s S).length ≤ 31 := by omega
  rw [← hRl] at hr0
  clear hRl hRc
  generalize cg V t s S = l at *
  have hR31 := rsn_len (l := l) (n := V)
  rw [rsn_rs] at hR31
  obtain ⟨f, hfe, hf, _⟩ := fnOf l
  simp only [go_sem,reduceIte,Nat.reduceEqDiff,Nat.reduceLT]
  refine At_make (k1 := .i64) (k2 := .i64) (l := V) (c := V) u32 i4 zero4 (by rw [size4, bytes4]; rfl) (by simp only [go_sem,reduceIte,Nat.reduceEqDiff,Nat.reduceLT]) (by simp only [go_sem,reduceIte,Nat.reduceEqDiff,Nat.reduceLT]) (Nat.le_refl _) (by rw [size4]; omega) (by omega) (by omega) fun h2 hn2 => ?_
  rw [size4] at hn2
  have n2 := hn2.next
  have hz := hn2.slv (n := V) (c := V) (by rw [zeros_length]; rfl)
  have hzz : zeros (Value.bool false).cells.toList V = boolsL V fun p => decide ((p : Int) ∈ l.take 0) := (zeros_bools V).trans (boolsL_congr fun k _ => rfl)
  rw [hzz] at hz
  have pr2 : Pres h1.next h1 h2 := hn2.pres (Nat.le_refl _)
  try simp only [go_sem,reduceIte,Nat.reduceEqDiff,Nat.reduceLT]
  refine At_lit0 u24 i3 zero3 (by rw [size3]; rfl) (by omega) ?_
  simp only [go_sem,reduceIte,Nat.reduceEqDiff,Nat.reduceLT]
  refine WK_loopN (fun j α h3 => ∃ i : Nat, i + j = l.length ∧ α.get 3 = some (.int .i64 V) ∧ α.get 4 = some (.slice A l.length l.length) ∧ α.get 5 = some (.slice (some ⟨h1.next, 0, none⟩) V V) ∧ α.get 6 = some (.slice (some ⟨0, 0, some 0⟩) 0 0) ∧ α.get 7 = some (.int .i64 i) ∧
      SlV h3.blks h1.next h2.next 1 V (boolsL V fun p => decide ((p : Int) ∈ l.take i)) (.slice (some ⟨h1.next, 0, none⟩) V V) ∧ Pres h1.next h1 h3 ∧ h3.next = h2.next) l.length
    ⟨0, by omega, by simp only [go_sem,reduceIte,Nat.reduceEqDiff,Nat.reduceLT], by simp only [go_sem,reduceIte,Nat.reduceEqDiff,Nat.reduceLT], by simp only [go_sem,reduceIte,Nat.reduceEqDiff,Nat.reduceLT], by (simp only [go_sem,reduceIte,Nat.reduceEqDiff,Nat.reduceLT]) <;> rfl, by (simp only [go_sem,reduceIte,Nat.reduceEqDiff,Nat.reduceLT]) <;> rfl, hz, pr2, rfl⟩ (by omega) ?_
  rintro J j α h3 ⟨i, hij, e3, e4, e5, e6, e7, hbv, pr3, hnx⟩ hJ
  have hsv3 : SlV h3.blks h0.next h1.next 1 l.length (ints l) (.slice A l.length l.length) := hsv.mono fun b _ hb => pr3.get b hb
  by_cases hlt : (i : Int) < (l.length : Int)
  · have hil : i < l.length := by omega
    rw [hfe] at hsv3
    obtain ⟨b, off, rfl, hld⟩ := hsv3.ints_at (by omega)
    have l1 := hld i hil
    have hfi := hLi (l[i]) (List.getElem_mem hil)
    rw [← hf i hil] at hfi
    obtain ⟨y, hy⟩ : ∃ y : Nat, f i = (y : Int) := ⟨(f i).toNat, by omega⟩
    rw [hy] at l1 hfi
    simp (disch := omega) only [go_sem,reduceIte,Nat.reduceEqDiff,Nat.reduceLT, e3, e4, e5, e6, e7, hlt, len24, idxA24, idxA32, load3, Int.toNat_natCast, Nat.mul_one, l1]
    refine At_setBool (i := y) (z := true) (by (simp only [go_sem,reduceIte,Nat.reduceEqDiff,Nat.reduceLT]) <;> rfl) (by (simp only [go_sem,reduceIte,Nat.reduceEqDiff,Nat.reduceLT]) <;> rfl) hbv (by omega) (by omega) fun h4 hs4 hbv4 => ?_
    have e : (boolsL V fun r => if r = y then true else decide ((r : Int) ∈ l.take i)) = boolsL V fun p => decide ((p : Int) ∈ l.take (i + 1)) := boolsL_congr fun k _ => by
      rw [List.take_succ_eq_append_getElem hil, ← hf i hil, hy]
      by_cases hk : k = y
      · subst hk; simp
      · have : ¬ ((k : Int) = (y : Int)) := by omega
        simp [hk, this]
    rw [e] at hbv4
    simp (disch := omega) only [go_sem,reduceIte,Nat.reduceEqDiff,Nat.reduceLT, e7, wrap_i64]
    exact hJ (l.length - (i + 1)) _ _ (by omega) ⟨i + 1, by omega, by simp only [go_sem,reduceIte,Nat.reduceEqDiff,Nat.reduceLT, e3], by simp only [go_sem,reduceIte,Nat.reduceEqDiff,Nat.reduceLT, e4], by simp only [go_sem,reduceIte,Nat.reduceEqDiff,Nat.reduceLT, e5], by simp only [go_sem,reduceIte,Nat.reduceEqDiff,Nat.reduceLT, e6], by (simp only [go_sem,reduceIte,Nat.reduceEqDiff,Nat.reduceLT]) <;> rfl, hbv4, pr3.trans (hs4.pres (Nat.le_refl _)), hs4.next.trans hnx⟩
  · obtain rfl : i = l.length := by omega
    rw [List.take_length] at hbv
    simp (disch := omega) only [go_sem,reduceIte,Nat.reduceEqDiff,Nat.reduceLT, e3, e4, e5, e6, e7, hlt, len24]
    refine WK_loopN (fun j α h4 => ∃ (p : Nat) (A' : Option Addr), p + j = V ∧ α.get 3 = some (.int .i64 V) ∧ α.get 4 = some (.slice A l.length l.length) ∧ α.get 5 = some (.slice (some ⟨h1.next, 0, none⟩) V V) ∧ α.get 6 = some (.slice A' (rsn l p).length (rsn l p).length) ∧ α.get 8 = some (.int .i64 p) ∧
        SlV h4.blks h2.next h4.next 1 (rsn l p).length (ints (rsn l p)) (.slice A' (rsn l p).length (rsn l p).length) ∧ Pres h2.next h3 h4 ∧ h3.next ≤ h4.next) V
      ⟨0, some ⟨0, 0, some 0⟩, by omega, by simp only [go_sem,reduceIte,Nat.reduceEqDiff,Nat.reduceLT, e3], by simp only [go_sem,reduceIte,Nat.reduceEqDiff,Nat.reduceLT, e4], by simp only [go_sem,reduceIte,Nat.reduceEqDiff,Nat.reduceLT, e5], by (simp only [go_sem,reduceIte,Nat.reduceEqDiff,Nat.reduceLT, e6]) <;> rfl, by (simp only [go_sem,reduceIte,Nat.reduceEqDiff,Nat.reduceLT]) <;> rfl, .emp rfl rfl, Pres.refl _ _, Nat.le_refl _⟩ (by omega) ?_
    rintro J2 j2 α2 h4 ⟨p, A', hpj, g3, g4, g5, g6, g8, hpv, pr4, nx4⟩ hJ2
    have hbv4 := hbv.mono (B' := h4.blks) fun b _ hb => pr4.get b (by omega)
    by_cases hlt2 : (p : Int) < (V : Int)
    · have l2 := hbv4.bools_at' (j := p) (by omega)
      have hpl := rsn_len (l := l) (n := p)
      by_cases c1 : (p : Int) ∈ l
      · have d1 : decide ((p : Int) ∈ l) = true := decide_eq_true c1
        rw [d1] at l2
        have e : rsn l (p + 1) = rsn l p := by rw [rsn_succ, if_pos c1]
        simp (disch := omega) only [go_sem,reduceIte,Nat.reduceEqDiff,Nat.reduceLT, g3, g5, g6, g8, hlt2, idxA32, load4, Int.toNat_natCast, Nat.mul_one, l2, wrap_i64]
        exact hJ2 (V - (p + 1)) _ _ (by omega) ⟨p + 1, A', by omega, by simp only [go_sem,reduceIte,Nat.reduceEqDiff,Nat.reduceLT, g3], by simp only [go_sem,reduceIte,Nat.reduceEqDiff,Nat.reduceLT, g4], by simp only [go_sem,reduceIte,Nat.reduceEqDiff,Nat.reduceLT, g5], by rw [e]; simp only [go_sem,reduceIte,Nat.reduceEqDiff,Nat.reduceLT, g6], by (simp only [go_sem,reduceIte,Nat.reduceEqDiff,Nat.reduceLT]) <;> rfl, by rw [e]; exact hpv, pr4, nx4⟩
      · have d1 : decide ((p : Int) ∈ l) = false := decide_eq_false c1
        rw [d1] at l2
        have e : rsn l p ++ [(p : Int)] = rsn l (p + 1) := by rw [rsn_succ, if_neg c1]
        simp (disch := omega) only [go_sem,reduceIte,Nat.reduceEqDiff,Nat.reduceLT, g3, g5, g6, g8, hlt2, idxA32, load4, Int.toNat_natCast, Nat.mul_one, l2]
        refine At_pushI (lo := h2.next) (hi := h4.next) (l := rsn l p) (z := p) (by (simp only [go_sem,reduceIte,Nat.reduceEqDiff,Nat.reduceLT]) <;> rfl) (by simp only [go_sem,reduceIte,Nat.reduceEqDiff,Nat.reduceLT, g6]) hpv (by omega) (by omega) (by omega) (by omega) (by decide) (by decide) (by decide) fun A3 h5 pr5 hs5 nx5 => ?_
        rw [e] at hs5 ⊢
        simp (disch := omega) only [go_sem,reduceIte,Nat.reduceEqDiff,Nat.reduceLT, g8, wrap_i64]
        exact hJ2 (V - (p + 1)) _ _ (by omega) ⟨p + 1, A3, by omega, by simp only [go_sem,reduceIte,Nat.reduceEqDiff,Nat.reduceLT, g3], by simp only [go_sem,reduceIte,Nat.reduceEqDiff,Nat.reduceLT, g4], by simp only [go_sem,reduceIte,Nat.reduceEqDiff,Nat.reduceLT, g5], by simp only [go_sem,reduceIte,Nat.reduceEqDiff,Nat.reduceLT], by (simp only [go_sem,reduceIte,Nat.reduceEqDiff,Nat.reduceLT]) <;> rfl, hs5, pr4.trans pr5, by omega⟩
    · obtain rfl : p = V := by omega
      rw [rsn_rs] at hpv g6
      have hsv4 : SlV h4.blks h0.next h1.next 1 l.length (ints l) (.slice A l.length l.length) := hsv3.mono fun b _ hb => pr4.get b (by omega)
      have pr14 : Pres h1.next h1 h4 := pr3.trans (pr4.le (by omega))
      simp (disch := omega) only [go_sem,reduceIte,Nat.reduceEqDiff,Nat.reduceLT, g3, g4, g6, g8, hlt2]
      refine CallO_f (Even_l (by omega) (by omega) hsv4 hL31 hL0 hV hV2 hLi hLt hLe) (by omega) fun u h5 pr5 hu => ?_
      subst hu
      have n5 := pr5.next
      have hsv5 := hsv4.mono (B' := h5.blks) fun b _ hb => pr5.get b (by omega)
      have hpv5 := hpv.mono (B' := h5.blks) fun b _ hb => pr5.get b (by omega)
      simp only [go_sem,reduceIte,Nat.reduceEqDiff,Nat.reduceLT, g3, g6]
      refine CallO_f (Even_l (by omega) (by omega) hpv5 (by omega) hr0 hV hV2 rs_in rs_lt hRe) (by omega) fun u h6 pr6 hu => ?_
      subst hu
      have n6 := pr6.next
      have hsv6 := hsv5.mono (B' := h6.blks) fun b _ hb => pr6.get b (by omega)
      have hpv6 := hpv5.mono (B' := h6.blks) fun b _ hb => pr6.get b (by omega)
      simp only [go_sem,reduceIte,Nat.reduceEqDiff,Nat.reduceLT, g3, g4]
      refine CallO_f (Multipliers_l (by omega) (by omega) hsv6 hL31 hL0 hV hV2 hLi hLt) (by omega) fun u h7 pr7 ⟨A7, hu, hs7⟩ => ?_
      subst hu
      have n7 := pr7.next
      have hpv7 := hpv6.mono (B' := h7.blks) fun b _ hb => pr7.get b (by omega)
      simp only [go_sem,reduceIte,Nat.reduceEqDiff,Nat.reduceLT, g3, g6]
      refine CallO_f (Multipliers_l (by omega) (by omega) hpv7 (by omega) hr0 hV hV2 rs_in rs_lt) (by omega) fun u h8 pr8 ⟨A8, hu, hs8⟩ => ?_
      subst hu
      have n8 := pr8.next
      rw [hMl] at hs8 ⊢
      have hs7' := hs7.mono (B' := h8.blks) fun b _ hb => pr8.get b (by omega)
      have hm31 : (mlP p l (uL p p)).length ≤ 31 := by
        have := mlP_len (V := p) (l := l) (us := uL p p)
        have := uL_len (V := p) (n := p)
        omega
      have d0 : decide ((0 : Int) = 0) = true := rfl
      have d9 : decide (((p + o - 2 * l.length : Nat) : Int) = (p : Int) - 2 * (l.length : Int) + (o : Int)) = true := decide_eq_true (by omega)
      simp (maxSteps := 3000000) (disch := omega) only [go_sem,reduceIte,Nat.reduceEqDiff,Nat.reduceLT, g3, g4, d0, len24, wrap_i64, d9]
      refine CallO_same (Same_l hs7' hs8 (by omega) (by omega)) (by omega) fun u ⟨b, hu, hb⟩ => ?_
      subst hu
      obtain rfl := hb.2 rfl
      simp only [go_sem,reduceIte,Nat.reduceEqDiff,Nat.reduceLT]
      refine Call_lives (by omega) ?_
      simp only [go_sem,reduceIte,Nat.reduceEqDiff,Nat.reduceLT]
      exact hQ' _ _ ⟨pr0.trans ((pr1.le (by omega)).trans ((pr14.le (by omega)).trans ((pr5.le (by omega)).trans ((pr6.le (by omega)).trans ((pr7.le (by omega)).trans (pr8.le (by omega))))))), rfl⟩
end
end Go.Proofs.YtoeblkenmjbfiaaDoor.Ev

