/- The law StrapCanons. -/
import Derived.Test.YtlblehmnanagaaaPmI9
set_option linter.unusedSimpArgs false
set_option linter.unusedVariables false
namespace Go.Proofs.Ytlblehmnanagaaa.Ev
open Go Go.Proofs
noncomputable section

theorem add_nat {x : Nat} : (x : Int) + 1 = ((x + 1 : Nat) : Int) := rfl
set_option maxHeartbeats 16000000 in
theorem law_StrapCanons {G set : Nat} {v x0 x1 : UInt8} {h : H} (hG : G ≤ h.next) (hset : set < 4294967296) :
    Spec Try.prog (En G) 7 [.int .u8 v.toNat, .int .u32 set, .agg #[.int .u8 x0.toNat, .int .u8 x1.toNat]] h fun w _ => w = .bool true := by
  refine CallsE_enter (En_known (by decide)) (En_f.trans Try.func7) rfl ⟨Nat.le_of_ble_eq_true rfl, by decide⟩ fun Q' hQ' => ?_
  simp only [Try.f7, go_sem,reduceIte,Nat.reduceEqDiff,Nat.reduceLT]
  refine At_box (v := .agg #[.int .u8 x0.toNat, .int .u8 x1.toNat]) (by (simp only [go_sem,reduceIte,Nat.reduceEqDiff,Nat.reduceLT]) <;> rfl) (by omega) fun h0 hn0 => ?_
  have lz : (Value.agg #[Value.int IntKind.u8 x0.toNat, Value.int IntKind.u8 x1.toNat]).cells.toList = [.int .u8 (x0.toNat : Int), .int .u8 (x1.toNat : Int)] := rfl
  have hvar := hn0.var
  rw [lz] at hvar
  have n0 := hn0.next
  have pr0 : Pres h.next h h0 := hn0.pres (Nat.le_refl _)
  have i0 : Int.toNat 0 = 0 := rfl
  have i1 : Int.toNat 1 = 1 := rfl
  obtain ⟨N, hN⟩ : ∃ N, v.toNat % 30 + 2 = N := ⟨_, rfl⟩
  have h30 : ((v.toNat : Nat) : Int).tmod 30 = ((v.toNat % 30 : Nat) : Int) := rfl
  have hNi : ((v.toNat % 30 : Nat) : Int) + 2 = (N : Int) := by omega
  have hN2 : 2 ≤ N := by omega
  have hN31 : N ≤ 31 := by omega
  simp (disch := omega) only [go_sem,reduceIte,Nat.reduceEqDiff,Nat.reduceLT, h30, wrap_i64, hNi]
  refine At_lit0 u23 i3 zero3 (by rw [size3]; rfl) (by omega) ?_
  simp only [go_sem,reduceIte,Nat.reduceEqDiff,Nat.reduceLT]
  obtain ⟨p, hp⟩ : ∃ p : Nat → Bool, ∀ i, p i = decide ((((set >>> i) % 2 : Nat) : Int) = 1) := ⟨_, fun _ => rfl⟩
  refine WK_loopN (fun j α h2 => ∃ (i : Nat) (A' : Option Addr), i + j = N ∧ α.get 1 = some (.int .u32 set) ∧ α.get 5 = some (.pointer (some ⟨h.next, 0, none⟩)) ∧ α.get 7 = some (.int .i64 N) ∧ α.get 8 = some (.slice A' (bl p i).length (bl p i).length) ∧ α.get 9 = some (.int .i64 i) ∧
      SlV h2.blks h0.next h2.next 1 (bl p i).length (ints (bl p i)) (.slice A' (bl p i).length (bl p i).length) ∧ Pres h0.next h0 h2) N
    ⟨0, some ⟨0, 0, some 0⟩, by omega, by simp only [go_sem,reduceIte,Nat.reduceEqDiff,Nat.reduceLT], by (simp only [go_sem,reduceIte,Nat.reduceEqDiff,Nat.reduceLT]) <;> rfl, by simp only [go_sem,reduceIte,Nat.reduceEqDiff,Nat.reduceLT], by (simp only [go_sem,reduceIte,Nat.reduceEqDiff,Nat.reduceLT]) <;> rfl, by (simp only [go_sem,reduceIte,Nat.reduceEqDiff,Nat.reduceLT]) <;> rfl, .emp rfl rfl, Pres.refl _ _⟩ (by omega) ?_
  rintro J j α h2 ⟨i, A', hij, e1, e5, e7, e8, e9, hsv, pr⟩ hJ
  have nx2 := pr.next
  by_cases hlt : (i : Int) < (N : Int)
  · have hbl := bl_len (p := p) (n := i)
    have hsh : set >>> i < 4294967296 := Nat.lt_of_le_of_lt (by rw [Nat.shiftRight_eq_div_pow]; exact Nat.div_le_self _ _) hset
    cases hpi : p i with
    | true =>
      have d1 : decide ((((set >>> i) % 2 : Nat) : Int) = 1) = true := by rw [← hp]; exact hpi
      simp (disch := omega) only [go_sem,reduceIte,Nat.reduceEqDiff,Nat.reduceLT, e1, e5, e7, e8, e9, hlt, shr32 (show i < 32 by omega), and32 hsh, d1]
      refine At_pushI (lo := h0.next) (hi := h2.next) (l := bl p i) (z := i) (by (simp only [go_sem,reduceIte,Nat.reduceEqDiff,Nat.reduceLT]) <;> rfl) (by simp only [go_sem,reduceIte,Nat.reduceEqDiff,Nat.reduceLT]) hsv (Nat.le_refl _) (by omega) (by omega) (by omega) (by decide) (by decide) (by decide) fun A3 h3 pr3 hs3 nx3 => ?_
      have e : bl p i ++ [(i : Int)] = bl p (i + 1) := by rw [bl_succ, if_pos hpi]
      rw [e] at hs3 ⊢
      simp (disch := omega) only [go_sem,reduceIte,Nat.reduceEqDiff,Nat.reduceLT, e9, wrap_i64]
      exact hJ (N - (i + 1)) _ _ (by omega) ⟨i + 1, A3, by omega, by simp only [go_sem,reduceIte,Nat.reduceEqDiff,Nat.reduceLT, e1], by simp only [go_sem,reduceIte,Nat.reduceEqDiff,Nat.reduceLT, e5], by simp only [go_sem,reduceIte,Nat.reduceEqDiff,Nat.reduceLT, e7], by simp only [go_sem,reduceIte,Nat.reduceEqDiff,Nat.reduceLT], by (simp only [go_sem,reduceIte,Nat.reduceEqDiff,Nat.reduceLT]) <;> rfl, hs3, pr.trans pr3⟩
    | false =>
      have d1 : decide ((((set >>> i) % 2 : Nat) : Int) = 1) = false := by rw [← hp]; exact hpi
      have e : bl p (i + 1) = bl p i := by rw [bl_succ, if_neg (by rw [hpi]; exact Bool.noConfusion)]
      simp (disch := omega) only [go_sem,reduceIte,Nat.reduceEqDiff,Nat.reduceLT, e1, e5, e7, e8, e9, hlt, shr32 (show i < 32 by omega), and32 hsh, d1, wrap_i64]
      exact hJ (N - (i + 1)) _ _ (by omega) ⟨i + 1, A', by omega, by simp only [go_sem,reduceIte,Nat.reduceEqDiff,Nat.reduceLT, e1], by simp only [go_sem,reduceIte,Nat.reduceEqDiff,Nat.reduceLT, e5], by simp only [go_sem,reduceIte,Nat.reduceEqDiff,Nat.reduceLT, e7], by rw [e]; simp only [go_sem,reduceIte,Nat.reduceEqDiff,Nat.reduceLT, e8], by (simp only [go_sem,reduceIte,Nat.reduceEqDiff,Nat.reduceLT]) <;> rfl, by rw [e]; exact hsv, pr⟩
  · obtain rfl : i = N := by omega
    have hbl := bl_len (p := p) (n := i)
    have hbin := bl_in (p := p) (n := i)
    have hblt := bl_lt (p := p) (n := i)
    have hN1 : (i : Int) - 1 = ((i - 1 : Nat) : Int) := by omega
    generalize bl p i = l at *
    by_cases hempty : l.length = 0
    · have d1 : decide (((l.length : Nat) : Int) = 0) = true := decide_eq_true (by omega)
      simp (disch := omega) only [go_sem,reduceIte,Nat.reduceEqDiff,Nat.reduceLT, e1, e5, e7, e8, e9, hlt, len23, d1]
      refine At_lit u23 i3 zero3 (by rw [size3]; rfl) (vs := [(0, .int .i64 0)]) (by (simp only [go_sem,reduceIte,Nat.reduceEqDiff,Nat.reduceLT]) <;> rfl) (cs := #[.int .i64 0]) (by rw [size3]; rfl) (by omega) fun h3 hn3 => ?_
      rw [size3] at hn3
      have n3 := hn3.next
      have pr3 : Pres h0.next h0 h3 := pr.trans (hn3.pres (by omega))
      have hL : SlV h3.blks h0.next h3.next 1 ([0] : List Int).length (ints [0]) (.slice (some ⟨h2.next, 0, none⟩) ([0] : List Int).length ([0] : List Int).length) := (hn3.slv (n := 1) (c := 1) rfl).wide (by omega) (Nat.le_refl _)
      have hLi : InV i [0] := fun x hx => by simp at hx; omega
      have hLt : ([0] : List Int).Pairwise (· < ·) := by simp
      have hL0 : 0 < ([0] : List Int).length := by decide
      have hL31 : ([0] : List Int).length ≤ 31 := by decide
      obtain ⟨L, hLe⟩ : ∃ L : List Int, [0] = L := ⟨_, rfl⟩
      have hone : L.length = 1 := by rw [← hLe]; rfl
      rw [hLe] at hL hLi hLt hL0 hL31
      have h8 : (Value.slice (some ⟨h2.next, 0, none⟩) 1 1) = .slice (some ⟨h2.next, 0, none⟩) L.length L.length := by rw [hone]
      generalize (some (⟨h2.next, 0, none⟩ : Addr)) = AL at hL h8 ⊢
      have hvar3 := hvar.mono (B' := h3.blks) (pr3.get _ (by omega))
      have nx3 := pr3.next
      have ht0 : x0.toNat % (i - 1) + 1 ≤ i - 1 := by have := Nat.mod_lt x0.toNat (show 0 < i - 1 by omega); omega
      have la0 : loadv h3.blks h.next 0 = some (.int .u8 (x0.toNat : Int)) := hvar3.load (i := 0) (Nat.zero_lt_succ 1)
      simp (disch := omega) only [go_sem,reduceIte,Nat.reduceEqDiff,Nat.reduceLT, e5, e7, idxP43, load5, i0, Nat.zero_mul, Nat.mul_one, Nat.add_zero, Nat.zero_add, la0, wrap_i64, hN1, tmod_nat, add_nat]
      refine WK_loopN (fun j α h4 => ∃ t : Nat, t + j = i ∧ 1 ≤ t ∧ t ≤ i - 1 ∧ h4 = h3 ∧ α.get 5 = some (.pointer (some ⟨h.next, 0, none⟩)) ∧ α.get 7 = some (.int .i64 i) ∧ α.get 8 = some (.slice AL L.length L.length) ∧ α.get 10 = some (.int .i64 t)) (i - (x0.toNat % (i - 1) + 1))
        ⟨x0.toNat % (i - 1) + 1, by omega, by omega, ht0, rfl, by simp only [go_sem,reduceIte,Nat.reduceEqDiff,Nat.reduceLT, e5], by simp only [go_sem,reduceIte,Nat.reduceEqDiff,Nat.reduceLT, e7], by rw [← h8]; simp only [go_sem,reduceIte,Nat.reduceEqDiff,Nat.reduceLT], by simp only [go_sem,reduceIte,Nat.reduceEqDiff,Nat.reduceLT]⟩ (by omega) ?_
      rintro J2 j2 α2 h4 ⟨t, htj, ht1, htN, rfl, g5, g7, g8, g10⟩ hJ2
      simp (disch := omega) only [go_sem,reduceIte,Nat.reduceEqDiff,Nat.reduceLT, g7, g10]
      refine CallO_same (Gcd_spec (a := t) (b := i) (by omega)) (by omega) fun u hu => ?_
      subst hu
      by_cases hg : Nat.gcd t i = 1
      · have d2 : decide (((Nat.gcd t i : Nat) : Int) ≠ 1) = false := decide_eq_false (by omega)
        have hS : x1.toNat % i ≤ 31 := by have := Nat.mod_lt x1.toNat (show 0 < i by omega); omega
        have la1 : loadv h4.blks h.next 1 = some (.int .u8 (x1.toNat : Int)) := hvar3.load (i := 1) (Nat.lt_succ_self 1)
        have hLe : L.Pairwise (· ≤ ·) := hLt.imp fun h => by omega
        simp (disch := omega) only [go_sem,reduceIte,Nat.reduceEqDiff,Nat.reduceLT, g5, g7, g8, g10, d2, idxP43, load5, i1, Nat.zero_mul, Nat.one_mul, Nat.mul_one, Nat.add_zero, Nat.zero_add, la1, tmod_nat]
        refine CallO_f (Turned_spec (t := t) (s := x1.toNat % i) (by omega) (Nat.le_refl _) hL hL31 hN2 hN31 (by omega) hS hLi) (by omega) fun u h5 pr5 ⟨A5, hu, hs5⟩ => ?_
        subst hu
        have n5 := pr5.next
        have eP := cP_cg (s := ((x1.toNat % i : Nat) : Int)) hN2 hN31 (show t < i by omega) hg hLi hLe
        have eM : mlP i (cg i t ((x1.toNat % i : Nat) : Int) L) (uL i i) = mlP i L (uL i i) := by
          unfold mlP
          rw [mP_cg hN2 hN31 (show t < i by omega) hg hLi hLe]
        have hoi : InV i (cg i t ((x1.toNat % i : Nat) : Int) L) := cg_in (by omega)
        have hol := cg_len (V := i) (t := t) (s := ((x1.toNat % i : Nat) : Int)) (l := L)
        have hot := cg_lt (s := ((x1.toNat % i : Nat) : Int)) (show 0 < i by omega) hLi hLt hg
        rw [turned_cg (by omega) hLi hLt hg] at hs5 ⊢
        generalize cg i t ((x1.toNat % i : Nat) : Int) L = o at *
        have hL5 := hL.mono (B' := h5.blks) fun b _ hb => pr5.get b (by omega)
        simp only [go_sem,reduceIte,Nat.reduceEqDiff,Nat.reduceLT, g7, g8]
        refine CallO_f (Canon_l (by omega) (by omega) hL5 hL31 hL0 hN2 hN31 hLi hLt) (by omega) fun u h6 pr6 ⟨A6, hu, hs6⟩ => ?_
        subst hu
        have n6 := pr6.next
        have hL6 := hL5.mono (B' := h6.blks) fun b _ hb => pr6.get b (by omega)
        have ho6 := hs5.mono (B' := h6.blks) fun b _ hb => pr6.get b (by omega)
        simp only [go_sem,reduceIte,Nat.reduceEqDiff,Nat.reduceLT, g7]
        refine CallO_f (Canon_l (by omega) (by omega) ho6 (by omega) (by omega) hN2 hN31 hoi hot) (by omega) fun u h7 pr7 ⟨A7, hu, hs7⟩ => ?_
        subst hu
        rw [eP] at hs7
        have n7 := pr7.next
        have hL7 := hL6.mono (B' := h7.blks) fun b _ hb => pr7.get b (by omega)
        have ho7 := ho6.mono (B' := h7.blks) fun b _ hb => pr7.get b (by omega)
        have ha7 := hs6.mono (B' := h7.blks) fun b _ hb => pr7.get b (by omega)
        have hal : (cP i L (uL i i)).length = L.length := cP_len
        obtain ⟨u2, b2, hu2, hg2, hb2, eA⟩ := (cP_mn (l := L) hN2).1
        have hai : InV i (cP i L (uL i i)) := by rw [eA]; exact cg_in (by omega)
        have hat : (cP i L (uL i i)).Pairwise (· < ·) := by rw [eA]; exact cg_lt (by omega) hLi hLt hg2
        have eA2 : cP i (cP i L (uL i i)) (uL i i) = cP i L (uL i i) := by
          have := cP_cg (s := (b2 : Int)) hN2 hN31 hu2 hg2 hLi hLe
          rw [← eA] at this
          exact this
        simp only [go_sem,reduceIte,Nat.reduceEqDiff,Nat.reduceLT, g7]
        have hcal : Spec Try.prog (En G) 24 [.int .i64 i, .slice A6 L.length L.length] h7 fun w h' => ∃ A', w = .tuple #[.slice A' L.length L.length, .int .i64 0] ∧ SlV h'.blks h7.next h'.next 1 L.length (ints (cP i L (uL i i))) (.slice A' L.length L.length) := by
          have := Canon_l (G := G) (V := i) (lo := h5.next) (hi := h6.next) (c := L.length) (l := cP i L (uL i i)) (A := A6) (h := h7) (by omega) (by omega) (by rw [hal]; exact ha7) (by omega) (by omega) hN2 hN31 hai hat
          rw [hal, eA2] at this
          exact this
        refine CallO_f hcal (by omega) fun u h8 pr8 ⟨A8, hu, hs8⟩ => ?_
        subst hu
        have n8 := pr8.next
        have hL8 := hL7.mono (B' := h8.blks) fun b _ hb => pr8.get b (by omega)
        have ho8 := ho7.mono (B' := h8.blks) fun b _ hb => pr8.get b (by omega)
        simp only [go_sem,reduceIte,Nat.reduceEqDiff,Nat.reduceLT, g7, g8]
        refine CallO_f (Multipliers_l (by omega) (by omega) hL8 hL31 hL0 hN2 hN31 hLi hLt) (by omega) fun u h9 pr9 ⟨A9, hu, hs9⟩ => ?_
        subst hu
        have n9 := pr9.next
        have ho9 := ho8.mono (B' := h9.blks) fun b _ hb => pr9.get b (by omega)
        simp only [go_sem,reduceIte,Nat.reduceEqDiff,Nat.reduceLT, g7]
        refine CallO_f (Multipliers_l (by omega) (by omega) ho9 (by omega) (by omega) hN2 hN31 hoi hot) (by omega) fun u h10 pr10 ⟨A10, hu, hs10⟩ => ?_
        subst hu
        have n10 := pr10.next
        rw [eM]
        have hsA : SlV h10.blks h5.next h6.next 1 L.length (ints (cP i L (uL i i))) (.slice A6 L.length L.length) := ha7.mono fun b _ hb => (pr10.get b (by omega)).trans ((pr9.get b (by omega)).trans (pr8.get b (by omega)))
        have hsC : SlV h10.blks h6.next h7.next 1 o.length (ints (cP i L (uL i i))) (.slice A7 o.length o.length) := hs7.mono fun b _ hb => (pr10.get b (by omega)).trans ((pr9.get b (by omega)).trans (pr8.get b (by omega)))
        have hsD : SlV h10.blks h7.next h8.next 1 L.length (ints (cP i L (uL i i))) (.slice A8 L.length L.length) := hs8.mono fun b _ hb => (pr10.get b (by omega)).trans (pr9.get b (by omega))
        rw [hol] at hsC ⊢
        have d0 : decide ((0 : Int) = 0) = true := rfl
        have hsame : ∀ {B1 B2 : Option Addr} {lo1 hi1 lo2 hi2 : Nat}, SlV h10.blks lo1 hi1 1 L.length (ints (cP i L (uL i i))) (.slice B1 L.length L.length) → SlV h10.blks lo2 hi2 1 L.length (ints (cP i L (uL i i))) (.slice B2 L.length L.length) →
            Spec Try.prog (En G) 12 [.slice B1 L.length L.length, .slice B2 L.length L.length] h10 fun v h' => v = .bool true ∧ h' = h10 := by
          intro B1 B2 lo1 hi1 lo2 hi2 k1 k2
          have := Same_l (G := G) (lo := lo1) (hi := hi1) (lo2 := lo2) (hi2 := hi2) (c := L.length) (c2 := L.length) (A := B1) (A2 := B2) (l := cP i L (uL i i)) (m := cP i L (uL i i)) (h := h10) (by rw [hal]; exact k1) (by rw [hal]; exact k2) (by omega) (by omega)
          rw [hal] at this
          refine Spec.mono this fun v h' _ ⟨⟨b, e1, e2⟩, e3⟩ => ?_
          obtain rfl := e2.2 rfl
          exact ⟨e1, e3⟩
        simp only [go_sem,reduceIte,Nat.reduceEqDiff,Nat.reduceLT, d0]
        refine CallO_same (hsame hsA hsC) (by omega) fun u hu => ?_
        subst hu
        simp only [go_sem,reduceIte,Nat.reduceEqDiff,Nat.reduceLT, d0]
        refine CallO_same (hsame hsA hsD) (by omega) fun u hu => ?_
        subst hu
        have d9 : decide (((mlP i L (uL i i)).length : Int) = ((mlP i L (uL i i)).length : Int)) = true := decide_eq_true rfl
        simp only [go_sem,reduceIte,Nat.reduceEqDiff,Nat.reduceLT, len23, d9]
        refine Call_lives (by omega) ?_
        simp only [go_sem,reduceIte,Nat.reduceEqDiff,Nat.reduceLT]
        exact hQ' _ _ ⟨pr0.trans ((pr3.le (by omega)).trans ((pr5.le (by omega)).trans ((pr6.le (by omega)).trans ((pr7.le (by omega)).trans ((pr8.le (by omega)).trans ((pr9.le (by omega)).trans (pr10.le (by omega)))))))), rfl⟩
      · have d2 : decide (((Nat.gcd t i : Nat) : Int) ≠ 1) = true := decide_eq_true (by omega)
        have htl : t < i - 1 := by
          rcases Nat.lt_or_ge t (i - 1) with e | e
          · exact e
          · have : t = i - 1 := by omega
            subst this
            exact absurd (last_gcd hN2) hg
        have hmt : t % (i - 1) = t := Nat.mod_eq_of_lt htl
        simp (disch := omega) only [go_sem,reduceIte,Nat.reduceEqDiff,Nat.reduceLT, g5, g7, g8, g10, d2, wrap_i64, hN1, tmod_nat, hmt, add_nat]
        exact hJ2 (i - (t + 1)) _ _ (by omega) ⟨t + 1, by omega, by omega, by omega, rfl, by simp only [go_sem,reduceIte,Nat.reduceEqDiff,Nat.reduceLT, g5], by simp only [go_sem,reduceIte,Nat.reduceEqDiff,Nat.reduceLT, g7], by simp only [go_sem,reduceIte,Nat.reduceEqDiff,Nat.reduceLT, g8], by simp only [go_sem,reduceIte,Nat.reduceEqDiff,Nat.reduceLT]⟩
    · have d1 : decide (((l.length : Nat) : Int) = 0) = false := decide_eq_false (by omega)
      simp (disch := omega) only [go_sem,reduceIte,Nat.reduceEqDiff,Nat.reduceLT, e1, e5, e7, e8, e9, hlt, len23, d1]
      have hL := hsv
      have hLi := hbin
      have hLt := hblt
      have hL0 : 0 < l.length := by omega
      have hL31 : l.length ≤ 31 := by omega
      have pr3 := pr
      have nx3 := nx2
      have hvar3 := hvar.mono (B' := h2.blks) (pr.get _ (by omega))
      have ht0 : x0.toNat % (i - 1) + 1 ≤ i - 1 := by have := Nat.mod_lt x0.toNat (show 0 < i - 1 by omega); omega
      have la0 : loadv h2.blks h.next 0 = some (.int .u8 (x0.toNat : Int)) := hvar3.load (i := 0) (Nat.zero_lt_succ 1)
      simp (disch := omega) only [go_sem,reduceIte,Nat.reduceEqDiff,Nat.reduceLT, e5, e7, idxP43, load5, i0, Nat.zero_mul, Nat.mul_one, Nat.add_zero, Nat.zero_add, la0, wrap_i64, hN1, tmod_nat, add_nat]
      refine WK_loopN (fun j α h4 => ∃ t : Nat, t + j = i ∧ 1 ≤ t ∧ t ≤ i - 1 ∧ h4 = h2 ∧ α.get 5 = some (.pointer (some ⟨h.next, 0, none⟩)) ∧ α.get 7 = some (.int .i64 i) ∧ α.get 8 = some (.slice A' l.length l.length) ∧ α.get 10 = some (.int .i64 t)) (i - (x0.toNat % (i - 1) + 1))
        ⟨x0.toNat % (i - 1) + 1, by omega, by omega, ht0, rfl, by simp only [go_sem,reduceIte,Nat.reduceEqDiff,Nat.reduceLT, e5], by simp only [go_sem,reduceIte,Nat.reduceEqDiff,Nat.reduceLT, e7], by simp only [go_sem,reduceIte,Nat.reduceEqDiff,Nat.reduceLT, e8], by simp only [go_sem,reduceIte,Nat.reduceEqDiff,Nat.reduceLT]⟩ (by omega) ?_
      rintro J2 j2 α2 h4 ⟨t, htj, ht1, htN, rfl, g5, g7, g8, g10⟩ hJ2
      simp (disch := omega) only [go_sem,reduceIte,Nat.reduceEqDiff,Nat.reduceLT, g7, g10]
      refine CallO_same (Gcd_spec (a := t) (b := i) (by omega)) (by omega) fun u hu => ?_
      subst hu
      by_cases hg : Nat.gcd t i = 1
      · have d2 : decide (((Nat.gcd t i : Nat) : Int) ≠ 1) = false := decide_eq_false (by omega)
        have hS : x1.toNat % i ≤ 31 := by have := Nat.mod_lt x1.toNat (show 0 < i by omega); omega
        have la1 : loadv h4.blks h.next 1 = some (.int .u8 (x1.toNat : Int)) := hvar3.load (i := 1) (Nat.lt_succ_self 1)
        have hLe : l.Pairwise (· ≤ ·) := hLt.imp fun h => by omega
        simp (disch := omega) only [go_sem,reduceIte,Nat.reduceEqDiff,Nat.reduceLT, g5, g7, g8, g10, d2, idxP43, load5, i1, Nat.zero_mul, Nat.one_mul, Nat.mul_one, Nat.add_zero, Nat.zero_add, la1, tmod_nat]
        refine CallO_f (Turned_spec (t := t) (s := x1.toNat % i) (by omega) (Nat.le_refl _) hL hL31 hN2 hN31 (by omega) hS hLi) (by omega) fun u h5 pr5 ⟨A5, hu, hs5⟩ => ?_
        subst hu
        have n5 := pr5.next
        have eP := cP_cg (s := ((x1.toNat % i : Nat) : Int)) hN2 hN31 (show t < i by omega) hg hLi hLe
        have eM : mlP i (cg i t ((x1.toNat % i : Nat) : Int) l) (uL i i) = mlP i l (uL i i) := by
          unfold mlP
          rw [mP_cg hN2 hN31 (show t < i by omega) hg hLi hLe]
        have hoi : InV i (cg i t ((x1.toNat % i : Nat) : Int) l) := cg_in (by omega)
        have hol := cg_len (V := i) (t := t) (s := ((x1.toNat % i : Nat) : Int)) (l := l)
        have hot := cg_lt (s := ((x1.toNat % i : Nat) : Int)) (show 0 < i by omega) hLi hLt hg
        rw [turned_cg (by omega) hLi hLt hg] at hs5 ⊢
        generalize cg i t ((x1.toNat % i : Nat) : Int) l = o at *
        have hL5 := hL.mono (B' := h5.blks) fun b _ hb => pr5.get b (by omega)
        simp only [go_sem,reduceIte,Nat.reduceEqDiff,Nat.reduceLT, g7, g8]
        refine CallO_f (Canon_l (by omega) (by omega) hL5 hL31 hL0 hN2 hN31 hLi hLt) (by omega) fun u h6 pr6 ⟨A6, hu, hs6⟩ => ?_
        subst hu
        have n6 := pr6.next
        have hL6 := hL5.mono (B' := h6.blks) fun b _ hb => pr6.get b (by omega)
        have ho6 := hs5.mono (B' := h6.blks) fun b _ hb => pr6.get b (by omega)
        simp only [go_sem,reduceIte,Nat.reduceEqDiff,Nat.reduceLT, g7]
        refine CallO_f (Canon_l (by omega) (by omega) ho6 (by omega) (by omega) hN2 hN31 hoi hot) (by omega) fun u h7 pr7 ⟨A7, hu, hs7⟩ => ?_
        subst hu
        rw [eP] at hs7
        have n7 := pr7.next
        have hL7 := hL6.mono (B' := h7.blks) fun b _ hb => pr7.get b (by omega)
        have ho7 := ho6.mono (B' := h7.blks) fun b _ hb => pr7.get b (by omega)
        have ha7 := hs6.mono (B' := h7.blks) fun b _ hb => pr7.get b (by omega)
        have hal : (cP i l (uL i i)).length = l.length := cP_len
        obtain ⟨u2, b2, hu2, hg2, hb2, eA⟩ := (cP_mn (l := l) hN2).1
        have hai : InV i (cP i l (uL i i)) := by rw [eA]; exact cg_in (by omega)
        have hat : (cP i l (uL i i)).Pairwise (· < ·) := by rw [eA]; exact cg_lt (by omega) hLi hLt hg2
        have eA2 : cP i (cP i l (uL i i)) (uL i i) = cP i l (uL i i) := by
          have := cP_cg (s := (b2 : Int)) hN2 hN31 hu2 hg2 hLi hLe
          rw [← eA] at this
          exact this
        simp only [go_sem,reduceIte,Nat.reduceEqDiff,Nat.reduceLT, g7]
        have hcal : Spec Try.prog (En G) 24 [.int .i64 i, .slice A6 l.length l.length] h7 fun w h' => ∃ A', w = .tuple #[.slice A' l.length l.length, .int .i64 0] ∧ SlV h'.blks h7.next h'.next 1 l.length (ints (cP i l (uL i i))) (.slice A' l.length l.length) := by
          have := Canon_l (G := G) (V := i) (lo := h5.next) (hi := h6.next) (c := l.length) (l := cP i l (uL i i)) (A := A6) (h := h7) (by omega) (by omega) (by rw [hal]; exact ha7) (by omega) (by omega) hN2 hN31 hai hat
          rw [hal, eA2] at this
          exact this
        refine CallO_f hcal (by omega) fun u h8 pr8 ⟨A8, hu, hs8⟩ => ?_
        subst hu
        have n8 := pr8.next
        have hL8 := hL7.mono (B' := h8.blks) fun b _ hb => pr8.get b (by omega)
        have ho8 := ho7.mono (B' := h8.blks) fun b _ hb => pr8.get b (by omega)
        simp only [go_sem,reduceIte,Nat.reduceEqDiff,Nat.reduceLT, g7, g8]
        refine CallO_f (Multipliers_l (by omega) (by omega) hL8 hL31 hL0 hN2 hN31 hLi hLt) (by omega) fun u h9 pr9 ⟨A9, hu, hs9⟩ => ?_
        subst hu
        have n9 := pr9.next
        have ho9 := ho8.mono (B' := h9.blks) fun b _ hb => pr9.get b (by omega)
        simp only [go_sem,reduceIte,Nat.reduceEqDiff,Nat.reduceLT, g7]
        refine CallO_f (Multipliers_l (by omega) (by omega) ho9 (by omega) (by omega) hN2 hN31 hoi hot) (by omega) fun u h10 pr10 ⟨A10, hu, hs10⟩ => ?_
        subst hu
        have n10 := pr10.next
        rw [eM]
        have hsA : SlV h10.blks h5.next h6.next 1 l.length (ints (cP i l (uL i i))) (.slice A6 l.length l.length) := ha7.mono fun b _ hb => (pr10.get b (by omega)).trans ((pr9.get b (by omega)).trans (pr8.get b (by omega)))
        have hsC : SlV h10.blks h6.next h7.next 1 o.length (ints (cP i l (uL i i))) (.slice A7 o.length o.length) := hs7.mono fun b _ hb => (pr10.get b (by omega)).trans ((pr9.get b (by omega)).trans (pr8.get b (by omega)))
        have hsD : SlV h10.blks h7.next h8.next 1 l.length (ints (cP i l (uL i i))) (.slice A8 l.length l.length) := hs8.mono fun b _ hb => (pr10.get b (by omega)).trans (pr9.get b (by omega))
        rw [hol] at hsC ⊢
        have d0 : decide ((0 : Int) = 0) = true := rfl
        have hsame : ∀ {B1 B2 : Option Addr} {lo1 hi1 lo2 hi2 : Nat}, SlV h10.blks lo1 hi1 1 l.length (ints (cP i l (uL i i))) (.slice B1 l.length l.length) → SlV h10.blks lo2 hi2 1 l.length (ints (cP i l (uL i i))) (.slice B2 l.length l.length) →
            Spec Try.prog (En G) 12 [.slice B1 l.length l.length, .slice B2 l.length l.length] h10 fun v h' => v = .bool true ∧ h' = h10 := by
          intro B1 B2 lo1 hi1 lo2 hi2 k1 k2
          have := Same_l (G := G) (lo := lo1) (hi := hi1) (lo2 := lo2) (hi2 := hi2) (c := l.length) (c2 := l.length) (A := B1) (A2 := B2) (l := cP i l (uL i i)) (m := cP i l (uL i i)) (h := h10) (by rw [hal]; exact k1) (by rw [hal]; exact k2) (by omega) (by omega)
          rw [hal] at this
          refine Spec.mono this fun v h' _ ⟨⟨b, e1, e2⟩, e3⟩ => ?_
          obtain rfl := e2.2 rfl
          exact ⟨e1, e3⟩
        simp only [go_sem,reduceIte,Nat.reduceEqDiff,Nat.reduceLT, d0]
        refine CallO_same (hsame hsA hsC) (by omega) fun u hu => ?_
        subst hu
        simp only [go_sem,reduceIte,Nat.reduceEqDiff,Nat.reduceLT, d0]
        refine CallO_same (hsame hsA hsD) (by omega) fun u hu => ?_
        subst hu
        have d9 : decide (((mlP i l (uL i i)).length : Int) = ((mlP i l (uL i i)).length : Int)) = true := decide_eq_true rfl
        simp only [go_sem,reduceIte,Nat.reduceEqDiff,Nat.reduceLT, len23, d9]
        refine Call_lives (by omega) ?_
        simp only [go_sem,reduceIte,Nat.reduceEqDiff,Nat.reduceLT]
        exact hQ' _ _ ⟨pr0.trans ((pr3.le (by omega)).trans ((pr5.le (by omega)).trans ((pr6.le (by omega)).trans ((pr7.le (by omega)).trans ((pr8.le (by omega)).trans ((pr9.le (by omega)).trans (pr10.le (by omega)))))))), rfl⟩
      · have d2 : decide (((Nat.gcd t i : Nat) : Int) ≠ 1) = true := decide_eq_true (by omega)
        have htl : t < i - 1 := by
          rcases Nat.lt_or_ge t (i - 1) with e | e
          · exact e
          · have : t = i - 1 := by omega
            subst this
            exact absurd (last_gcd hN2) hg
        have hmt : t % (i - 1) = t := Nat.mod_eq_of_lt htl
        simp (disch := omega) only [go_sem,reduceIte,Nat.reduceEqDiff,Nat.reduceLT, g5, g7, g8, g10, d2, wrap_i64, hN1, tmod_nat, hmt, add_nat]
        exact hJ2 (i - (t + 1)) _ _ (by omega) ⟨t + 1, by omega, by omega, by omega, rfl, by simp only [go_sem,reduceIte,Nat.reduceEqDiff,Nat.reduceLT, g5], by simp only [go_sem,reduceIte,Nat.reduceEqDiff,Nat.reduceLT, g7], by simp only [go_sem,reduceIte,Nat.reduceEqDiff,Nat.reduceLT, g8], by simp only [go_sem,reduceIte,Nat.reduceEqDiff,Nat.reduceLT]⟩
end
end Go.Proofs.Ytlblehmnanagaaa.Ev

