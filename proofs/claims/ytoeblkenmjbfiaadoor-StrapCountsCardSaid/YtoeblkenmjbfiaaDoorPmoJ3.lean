/- The law StrapGroup. -/
import Derived.Test.YtoeblkenmjbfiaaDoorPmoJ2
set_option linter.unusedSimpArgs false
set_option linter.unusedVariables false
namespace Go.Proofs.YtoeblkenmjbfiaaDoor.Ev
open Go Go.Proofs
noncomputable section

theorem uL_one {V : Nat} (hV : 2 ≤ V) : ∃ us, uL V V = 1 :: us := by
  obtain ⟨W, rfl⟩ : ∃ W, V = W + 2 := ⟨V - 2, by omega⟩
  unfold uL
  rw [List.range_succ_eq_map, List.range_succ_eq_map]
  simp only [List.map_cons, List.filter_cons]
  have h0 : (Nat.gcd 0 (W + 2) == 1) = false := by rw [Nat.gcd_zero_left]; simp
  have h1 : (Nat.gcd (Nat.succ 0) (W + 2) == 1) = true := by rw [Nat.gcd_one_left]; rfl
  simp only [h0, h1, if_true, Bool.false_eq_true, if_false]
  exact ⟨_, rfl⟩
theorem mP_unit {V u : Nat} {l : List Int} (hV : 2 ≤ V) (h : u ∈ mP V l (uL V V)) : 1 ≤ u ∧ u < V := by
  have h1 := uL_mem.1 (List.mem_filter.1 h).1
  refine ⟨?_, h1.1⟩
  rcases Nat.eq_zero_or_pos u with e | e
  · subst e
    have h2 := h1.2
    rw [Nat.gcd_zero_left] at h2
    omega
  · exact e
set_option maxHeartbeats 32000000 in
theorem law_StrapGroup {G hi set : Nat} {v x0 x1 x2 : UInt8} {h : H} (hG : G ≤ h.next) (hhi : hi ≤ G) (hT : EvenT h.blks hi) (hset : set < 4294967296) :
    Spec Tryd.prog (En G) 5 [.int .u8 v.toNat, .int .u32 set, .agg #[.int .u8 x0.toNat, .int .u8 x1.toNat, .int .u8 x2.toNat]] h fun w _ => w = .bool true := by
  refine CallsE_enter (En_known (by decide)) (En_f.trans Tryd.func5) rfl ⟨Nat.le_of_ble_eq_true rfl, by decide⟩ fun Q' hQ' => ?_
  simp only [Tryd.f5, go_sem,reduceIte,Nat.reduceEqDiff,Nat.reduceLT]
  refine At_box (v := .agg #[.int .u8 x0.toNat, .int .u8 x1.toNat, .int .u8 x2.toNat]) (by (simp only [go_sem,reduceIte,Nat.reduceEqDiff,Nat.reduceLT]) <;> rfl) (by omega) fun h0 hn0 => ?_
  have lz : (Value.agg #[Value.int IntKind.u8 x0.toNat, Value.int IntKind.u8 x1.toNat, Value.int IntKind.u8 x2.toNat]).cells.toList = [.int .u8 (x0.toNat : Int), .int .u8 (x1.toNat : Int), .int .u8 (x2.toNat : Int)] := rfl
  have hvar := hn0.var
  rw [lz] at hvar
  have n0 := hn0.next
  have pr0 : Pres h.next h h0 := hn0.pres (Nat.le_refl _)
  have hT0 := hT.mono (B' := h0.blks) fun b hb => pr0.get b (by omega)
  obtain ⟨N, hN⟩ : ∃ N, v.toNat % 30 + 2 = N := ⟨_, rfl⟩
  have h30 : ((v.toNat : Nat) : Int).tmod 30 = ((v.toNat % 30 : Nat) : Int) := rfl
  have hNi : ((v.toNat % 30 : Nat) : Int) + 2 = (N : Int) := by omega
  have hN2 : 2 ≤ N := by omega
  have hN31 : N ≤ 31 := by omega
  simp (disch := omega) only [go_sem,reduceIte,Nat.reduceEqDiff,Nat.reduceLT, h30, wrap_i64, hNi]
  refine At_lit0 u24 i3 zero3 (by rw [size3]; rfl) (by omega) ?_
  simp only [go_sem,reduceIte,Nat.reduceEqDiff,Nat.reduceLT]
  obtain ⟨p, hp⟩ : ∃ p : Nat → Bool, ∀ i, p i = decide ((((set >>> i) % 2 : Nat) : Int) = 1) := ⟨_, fun _ => rfl⟩
  refine WK_loopN (fun j α h2 => ∃ (i : Nat) (A' : Option Addr), i + j = N ∧ α.get 1 = some (.int .u32 set) ∧ α.get 5 = some (.pointer (some ⟨h.next, 0, none⟩)) ∧ α.get 7 = some (.int .i64 N) ∧ α.get 8 = some (.slice A' (bl p i).length (bl p i).length) ∧ α.get 9 = some (.int .i64 i) ∧
      SlV h2.blks h0.next h2.next 1 (bl p i).length (ints (bl p i)) (.slice A' (bl p i).length (bl p i).length) ∧ Pres h0.next h0 h2) N
    ⟨0, some ⟨0, 0, some 0⟩, by omega, by simp only [go_sem,reduceIte,Nat.reduceEqDiff,Nat.reduceLT], by (simp only [go_sem,reduceIte,Nat.reduceEqDiff,Nat.reduceLT]) <;> rfl, by simp only [go_sem,reduceIte,Nat.reduceEqDiff,Nat.reduceLT], by (simp only [go_sem,reduceIte,Nat.reduceEqDiff,Nat.reduceLT]) <;> rfl, by (simp only [go_sem,reduceIte,Nat.reduceEqDiff,Nat.reduceLT]) <;> rfl, .emp rfl rfl, Pres.refl _ _⟩ (by omega) ?_
  rintro J j α h2 ⟨i, A', hij, e1, e5, e7, e8, e9, hsv, pr⟩ hJ
  have nx2 := pr.next
  by_cases hlt : (i : Int) < (N : Int)
  · have hbl := bl_len (p := p) (n := i)
    have hsh : set >>> i < 4294967296 := Nat.lt_of_le_of_lt (by rw [Nat.shiftRight_eq_div_pow]; exact Nat.div_le_self _ _) hset
    cases hpi : p i with
    | true =>
      have d1 : decide ((((set >>> i) % 2 : Nat) : Int) = 1) = true := by rw [← hp]; exact hpi
      simp (disch := omega) only [go_sem,reduceIte,Nat.reduceEqDiff,Nat.reduceLT, e1, e5, e7, e8, e9, hlt, shr32 (show i < 32 by omega), and32 hsh, d1]
      refine At_pushI (lo := h0.next) (hi := h2.next) (l := bl p i) (z := i) (by (simp only [go_sem,reduceIte,Nat.reduceEqDiff,Nat.reduceLT]) <;> rfl) (by simp only [go_sem,reduceIte,Nat.reduceEqDiff,Nat.reduceLT]) hsv (Nat.le_refl _) (by omega) (by omega) (by omega) (by decide) (by decide) (by decide) fun A3 h3 pr3 hs3 nx3 => ?_
      have e : bl p i ++ [(i : Int)] = bl p (i + 1) := by rw [bl_succ, if_pos hpi]
      rw [e] at hs3 ⊢
      simp (disch := omega) only [go_sem,reduceIte,Nat.reduceEqDiff,Nat.reduceLT, e9, wrap_i64]
      exact hJ (N - (i + 1)) _ _ (by omega) ⟨i + 1, A3, by omega, by simp only [go_sem,reduceIte,Nat.reduceEqDiff,Nat.reduceLT, e1], by simp only [go_sem,reduceIte,Nat.reduceEqDiff,Nat.reduceLT, e5], by simp only [go_sem,reduceIte,Nat.reduceEqDiff,Nat.reduceLT, e7], by simp only [go_sem,reduceIte,Nat.reduceEqDiff,Nat.reduceLT], by (simp only [go_sem,reduceIte,Nat.reduceEqDiff,Nat.reduceLT]) <;> rfl, hs3, pr.trans pr3⟩
    | false =>
      have d1 : decide ((((set >>> i) % 2 : Nat) : Int) = 1) = false := by rw [← hp]; exact hpi
      have e : bl p (i + 1) = bl p i := by rw [bl_succ, if_neg (by rw [hpi]; exact Bool.noConfusion)]
      simp (disch := omega) only [go_sem,reduceIte,Nat.reduceEqDiff,Nat.reduceLT, e1, e5, e7, e8, e9, hlt, shr32 (show i < 32 by omega), and32 hsh, d1, wrap_i64]
      exact hJ (N - (i + 1)) _ _ (by omega) ⟨i + 1, A', by omega, by simp only [go_sem,reduceIte,Nat.reduceEqDiff,Nat.reduceLT, e1], by simp only [go_sem,reduceIte,Nat.reduceEqDiff,Nat.reduceLT, e5], by simp only [go_sem,reduceIte,Nat.reduceEqDiff,Nat.reduceLT, e7], by rw [e]; simp only [go_sem,reduceIte,Nat.reduceEqDiff,Nat.reduceLT, e8], by (simp only [go_sem,reduceIte,Nat.reduceEqDiff,Nat.reduceLT]) <;> rfl, by rw [e]; exact hsv, pr⟩
  · obtain rfl : i = N := by omega
    have hbl := bl_len (p := p) (n := i)
    have hbin := bl_in (p := p) (n := i)
    have hblt := bl_lt (p := p) (n := i)
    generalize bl p i = l at *
    by_cases hempty : l.length = 0
    · have d1 : decide (((l.length : Nat) : Int) = 0) = true := decide_eq_true (by omega)
      have hT2 := hT0.mono (B' := h2.blks) fun b hb => pr.get b (by omega)
      have hvar2 := hvar.mono (B' := h2.blks) (pr.get _ (by omega))
      simp (disch := omega) only [go_sem,reduceIte,Nat.reduceEqDiff,Nat.reduceLT, e1, e5, e7, e8, e9, hlt, len24, d1, hvar2.loadA agg22 i22 (by rw [size22]; rfl)]
      refine CallO_f (made_spec (x0 := x0) (x1 := x1) (x2 := x2) (by omega) hhi hT2) (by omega) fun u h3 prm ⟨k, V, t, s, S, o, AL, hk, ht, hg, hs, hu, hL⟩ => ?_
      subst hu
      have n3 := prm.next
      have hk10 : k < 10 := (List.getElem?_eq_some_iff.1 hk).1
      obtain ⟨V', S', o', he, hV, hV2, hS0, hS31, hSi, hSl, _⟩ := evT_at hk10
      rw [hk] at he
      simp only [Option.some.injEq, Prod.mk.injEq] at he
      obtain ⟨rfl, rfl, rfl⟩ := he
      have hLi : InV V (cg V t s S) := cg_in (by omega)
      have hLt := cg_lt' (s := (s : Int)) (show 0 < V by omega) hSi hSl hg
      have hLl : (cg V t s S).length = S.length := cg_len
      rw [← hLl] at hL hS0 hS31 ⊢
      generalize cg V t s S = L at *
      have pr3 : Pres h0.next h0 h3 := pr.trans (prm.le (by omega))
      have nx3 : h0.next ≤ h3.next := by omega
      simp only [go_sem,reduceIte,Nat.reduceEqDiff,Nat.reduceLT]
      refine CallO_f (Multipliers_l (by omega) (Nat.le_refl _) hL hS31 hS0 hV hV2 hLi hLt) (by omega) fun u h5 pr5 ⟨AM, hu, hsM⟩ => ?_
      subst hu
      have n5 := pr5.next
      have hone : ∃ ms, mP V L (uL V V) = 1 :: ms := by
        obtain ⟨us, hus⟩ := uL_one hV
        rw [hus, mP_one]
        exact ⟨_, rfl⟩
      have hunit : ∀ u, u ∈ mP V L (uL V V) → 1 ≤ u ∧ u < V := fun u hu => mP_unit hV hu
      have hmul : ∀ a b, a ∈ mP V L (uL V V) → b ∈ mP V L (uL V V) → (a * b) % V ∈ mP V L (uL V V) := fun a b ha hb => mP_mul hV hLi (hLt.imp fun h => by omega) ha hb
      have hM31 : (mP V L (uL V V)).length ≤ 31 := by
        have h1 : (mP V L (uL V V)).length ≤ (uL V V).length := List.length_filter_le _ _
        have h2 := uL_len (V := V) (n := V)
        omega
      have hMe : mlP V L (uL V V) = (mP V L (uL V V)).map fun t : Nat => (t : Int) := rfl
      rw [hMe] at hsM ⊢
      generalize mP V L (uL V V) = mm at *
      obtain ⟨ms, hms⟩ := hone
      obtain ⟨f, hfe, hf, _⟩ := fnOf (mm.map fun t : Nat => (t : Int))
      have hml : (mm.map fun t : Nat => (t : Int)).length = mm.length := List.length_map _
      rw [hfe] at hsM
      have hfm : ∀ k, k < mm.length → ∃ u : Nat, f k = u ∧ u ∈ mm := fun k hk => by
        refine ⟨mm[k], ?_, List.getElem_mem hk⟩
        rw [hf k (by omega)]
        simp
      have hf0 : f 0 = 1 := by
        rw [hf 0 (by rw [hml, hms]; simp)]
        simp [hms]
      have hmpos : 0 < mm.length := by rw [hms]; simp
      rw [hml] at hsM ⊢
      have d0 : decide ((0 : Int) ≠ 0) = false := rfl
      have d2 : decide (((mm.length : Nat) : Int) = 0) = false := decide_eq_false (by omega)
      have d3 : decide ((1 : Int) ≠ 1) = false := rfl
      obtain ⟨bM, oM, hAM, hldM⟩ := hsM.ints_at (by omega)
      subst hAM
      have lM0 : loadv h5.blks bM oM = some (.int .i64 1) := by
        have := hldM 0 (by omega)
        rw [hf0] at this
        exact this
      have i0 : Int.toNat 0 = 0 := rfl
      simp (maxSteps := 3000000) (disch := omega) only [go_sem,reduceIte,Nat.reduceEqDiff,Nat.reduceLT, d0, len24, d2, idxA24, i0, Nat.zero_mul, Nat.mul_one, Nat.add_zero, load3, lM0, d3]
      refine Call_lives (by omega) ?_
      simp only [go_sem,reduceIte,Nat.reduceEqDiff,Nat.reduceLT]
      refine At_make (k1 := .i64) (k2 := .i64) (l := V) (c := V) u32 i4 zero4 (by rw [size4, bytes4]; rfl) (by simp only [go_sem,reduceIte,Nat.reduceEqDiff,Nat.reduceLT]) (by simp only [go_sem,reduceIte,Nat.reduceEqDiff,Nat.reduceLT]) (Nat.le_refl _) (by rw [size4]; omega) (by omega) (by omega) fun h6 hn6 => ?_
      rw [size4] at hn6
      have n6 := hn6.next
      have hz := hn6.slv (n := V) (c := V) (by rw [zeros_length]; rfl)
      have hzz : zeros (Value.bool false).cells.toList V = boolsL V fun p => decide (p ∈ mm.take 0) := (zeros_bools V).trans (boolsL_congr fun k _ => rfl)
      rw [hzz] at hz
      have pr6 : Pres h5.next h5 h6 := hn6.pres (Nat.le_refl _)
      try simp only [go_sem,reduceIte,Nat.reduceEqDiff,Nat.reduceLT]
      refine WK_loopN (fun j α h7 => ∃ q : Nat, q + j = mm.length ∧ α.get 7 = some (.int .i64 V) ∧ α.get 10 = some (.slice (some ⟨bM, oM, none⟩) mm.length mm.length) ∧ α.get 12 = some (.slice (some ⟨h5.next, 0, none⟩) V V) ∧ α.get 13 = some (.int .i64 q) ∧
          SlV h7.blks h5.next h6.next 1 V (boolsL V fun p => decide (p ∈ mm.take q)) (.slice (some ⟨h5.next, 0, none⟩) V V) ∧ Pres h5.next h5 h7 ∧ h7.next = h6.next) mm.length
        ⟨0, by omega, by simp only [go_sem,reduceIte,Nat.reduceEqDiff,Nat.reduceLT], by simp only [go_sem,reduceIte,Nat.reduceEqDiff,Nat.reduceLT], by simp only [go_sem,reduceIte,Nat.reduceEqDiff,Nat.reduceLT], by (simp only [go_sem,reduceIte,Nat.reduceEqDiff,Nat.reduceLT]) <;> rfl, hz, pr6, rfl⟩ (by omega) ?_
      rintro J3 j3 α3 h7 ⟨q, hqj, f7, f10, f12, f13, hbv, pr7, hnx7⟩ hJ3
      have hsM7 := hsM.mono (B' := h7.blks) fun b _ hb => pr7.get b hb
      by_cases hlt3 : (q : Int) < (mm.length : Int)
      · have hql : q < mm.length := by omega
        obtain ⟨y, hy, hymem⟩ := hfm q hql
        have hyr := hunit y hymem
        have l1 := hsM7.ints_at' (j := q) hql
        rw [hy] at l1
        have d4 : decide ((y : Int) < 1) = false := decide_eq_false (by omega)
        have d5 : decide ((V : Int) ≤ (y : Int)) = false := decide_eq_false (by omega)
        simp (maxSteps := 3000000) (disch := omega) only [go_sem,reduceIte,Nat.reduceEqDiff,Nat.reduceLT, f7, f10, f12, f13, hlt3, len24, idxA24, idxA32, load3, Int.toNat_natCast, Nat.mul_one, l1, d4, d5]
        refine At_setBool (i := y) (z := true) (by (simp only [go_sem,reduceIte,Nat.reduceEqDiff,Nat.reduceLT]) <;> rfl) (by (simp only [go_sem,reduceIte,Nat.reduceEqDiff,Nat.reduceLT]) <;> rfl) hbv (by omega) (by omega) fun h8 hs8 hbv8 => ?_
        have hmq : mm[q] = y := by
          have := hf q (by omega)
          rw [hy] at this
          have e2 : (mm.map fun t : Nat => (t : Int))[q]'(by omega) = (mm[q] : Int) := by simp
          rw [e2] at this
          omega
        have e : (boolsL V fun r => if r = y then true else decide (r ∈ mm.take q)) = boolsL V fun p => decide (p ∈ mm.take (q + 1)) := boolsL_congr fun k _ => by
          rw [List.take_succ_eq_append_getElem hql, hmq]
          by_cases hk : k = y
          · subst hk; simp
          · simp [hk]
        rw [e] at hbv8
        simp (disch := omega) only [go_sem,reduceIte,Nat.reduceEqDiff,Nat.reduceLT, f13, wrap_i64]
        exact hJ3 (mm.length - (q + 1)) _ _ (by omega) ⟨q + 1, by omega, by simp only [go_sem,reduceIte,Nat.reduceEqDiff,Nat.reduceLT, f7], by simp only [go_sem,reduceIte,Nat.reduceEqDiff,Nat.reduceLT, f10], by simp only [go_sem,reduceIte,Nat.reduceEqDiff,Nat.reduceLT, f12], by (simp only [go_sem,reduceIte,Nat.reduceEqDiff,Nat.reduceLT]) <;> rfl, hbv8, pr7.trans (hs8.pres (Nat.le_refl _)), hs8.next.trans hnx7⟩
      · obtain rfl : q = mm.length := by omega
        rw [List.take_length] at hbv
        simp (disch := omega) only [go_sem,reduceIte,Nat.reduceEqDiff,Nat.reduceLT, f7, f10, f12, f13, hlt3, len24]
        refine WK_loopN (fun j α h9 => ∃ a : Nat, a + j = mm.length ∧ h9 = h7 ∧ α.get 7 = some (.int .i64 V) ∧ α.get 10 = some (.slice (some ⟨bM, oM, none⟩) mm.length mm.length) ∧ α.get 12 = some (.slice (some ⟨h5.next, 0, none⟩) V V) ∧ α.get 14 = some (.int .i64 a)) mm.length
          ⟨0, by omega, rfl, by simp only [go_sem,reduceIte,Nat.reduceEqDiff,Nat.reduceLT, f7], by simp only [go_sem,reduceIte,Nat.reduceEqDiff,Nat.reduceLT, f10], by simp only [go_sem,reduceIte,Nat.reduceEqDiff,Nat.reduceLT, f12], by (simp only [go_sem,reduceIte,Nat.reduceEqDiff,Nat.reduceLT]) <;> rfl⟩ (by omega) ?_
        rintro J4 j4 α4 h9 ⟨a, haj, rfl, k7, k10, k12, k14⟩ hJ4
        by_cases hlt4 : (a : Int) < (mm.length : Int)
        · obtain ⟨ya, hya, hyam⟩ := hfm a (by omega)
          have hyar := hunit ya hyam
          have l3 := hsM7.ints_at' (j := a) (by omega)
          rw [hya] at l3
          simp (disch := omega) only [go_sem,reduceIte,Nat.reduceEqDiff,Nat.reduceLT, k7, k10, k12, k14, hlt4, len24]
          refine WK_loopN (fun j α h10 => ∃ c : Nat, c + j = mm.length ∧ h10 = h9 ∧ α.get 7 = some (.int .i64 V) ∧ α.get 10 = some (.slice (some ⟨bM, oM, none⟩) mm.length mm.length) ∧ α.get 12 = some (.slice (some ⟨h5.next, 0, none⟩) V V) ∧ α.get 14 = some (.int .i64 a) ∧ α.get 15 = some (.int .i64 c)) mm.length
            ⟨0, by omega, rfl, by simp only [go_sem,reduceIte,Nat.reduceEqDiff,Nat.reduceLT, k7], by simp only [go_sem,reduceIte,Nat.reduceEqDiff,Nat.reduceLT, k10], by simp only [go_sem,reduceIte,Nat.reduceEqDiff,Nat.reduceLT, k12], by simp only [go_sem,reduceIte,Nat.reduceEqDiff,Nat.reduceLT, k14], by (simp only [go_sem,reduceIte,Nat.reduceEqDiff,Nat.reduceLT]) <;> rfl⟩ (by omega) ?_
          rintro J5 j5 α5 h10 ⟨c, hcj, rfl, m7, m10, m12, m14, m15⟩ hJ5
          by_cases hlt5 : (c : Int) < (mm.length : Int)
          · obtain ⟨yc, hyc, hycm⟩ := hfm c (by omega)
            have hycr := hunit yc hycm
            have l4 := hsM7.ints_at' (j := c) (by omega)
            rw [hyc] at l4
            have hprod : (ya : Int) * (yc : Int) = ((ya * yc : Nat) : Int) := by simp
            have hpb : ya * yc ≤ 31 * 31 := Nat.mul_le_mul (by omega) (by omega)
            have hmod : (ya * yc) % V < V := Nat.mod_lt _ (by omega)
            have l5 := hbv.bools_at' (j := (ya * yc) % V) hmod
            have d6 : decide ((ya * yc) % V ∈ mm) = true := decide_eq_true (hmul ya yc hyam hycm)
            rw [d6] at l5
            simp (disch := omega) only [go_sem,reduceIte,Nat.reduceEqDiff,Nat.reduceLT, m7, m10, m12, m14, m15, hlt5, len24]
            refine WK_regionT 11 ⟨by kernel_rfl, by kernel_rfl, by kernel_rfl⟩ ?_
            simp (maxSteps := 3000000) (disch := omega) only [go_sem,reduceIte,Nat.reduceEqDiff,Nat.reduceLT, m7, m10, m12, m14, m15, idxA24, idxA32, load3, load4, Int.toNat_natCast, Nat.mul_one, l3, l4, hprod, wrap_i64, tmod_nat, l5]
            exact hJ5 (mm.length - (c + 1)) _ _ (by omega) ⟨c + 1, by omega, rfl, by simp only [go_sem,reduceIte,Nat.reduceEqDiff,Nat.reduceLT, m7], by simp only [go_sem,reduceIte,Nat.reduceEqDiff,Nat.reduceLT, m10], by simp only [go_sem,reduceIte,Nat.reduceEqDiff,Nat.reduceLT, m12], by simp only [go_sem,reduceIte,Nat.reduceEqDiff,Nat.reduceLT, m14], by (simp only [go_sem,reduceIte,Nat.reduceEqDiff,Nat.reduceLT]) <;> rfl⟩
          · simp (disch := omega) only [go_sem,reduceIte,Nat.reduceEqDiff,Nat.reduceLT, m7, m10, m12, m14, m15, hlt5, len24, wrap_i64]
            exact hJ4 (mm.length - (a + 1)) _ _ (by omega) ⟨a + 1, by omega, rfl, by simp only [go_sem,reduceIte,Nat.reduceEqDiff,Nat.reduceLT, m7], by simp only [go_sem,reduceIte,Nat.reduceEqDiff,Nat.reduceLT, m10], by simp only [go_sem,reduceIte,Nat.reduceEqDiff,Nat.reduceLT, m12], by (simp only [go_sem,reduceIte,Nat.reduceEqDiff,Nat.reduceLT]) <;> rfl⟩
        · simp (disch := omega) only [go_sem,reduceIte,Nat.reduceEqDiff,Nat.reduceLT, k7, k10, k12, k14, hlt4, len24]
          exact hQ' _ _ ⟨pr0.trans ((pr3.le (by omega)).trans ((pr5.le (by omega)).trans (pr7.le (by omega)))), rfl⟩
    · have d1 : decide (((l.length : Nat) : Int) = 0) = false := decide_eq_false (by omega)
      simp (disch := omega) only [go_sem,reduceIte,Nat.reduceEqDiff,Nat.reduceLT, e1, e5, e7, e8, e9, hlt, len24, d1]
      have hL := hsv
      have hLi := hbin
      have hLt := hblt
      have hS0 : 0 < l.length := by omega
      have hS31 : l.length ≤ 31 := by omega
      have pr3 := pr
      have nx3 := nx2
      have hV := hN2
      have hV2 := hN31
      refine CallO_f (Multipliers_l (by omega) (Nat.le_refl _) hL hS31 hS0 hV hV2 hLi hLt) (by omega) fun u h5 pr5 ⟨AM, hu, hsM⟩ => ?_
      subst hu
      have n5 := pr5.next
      have hone : ∃ ms, mP i l (uL i i) = 1 :: ms := by
        obtain ⟨us, hus⟩ := uL_one hV
        rw [hus, mP_one]
        exact ⟨_, rfl⟩
      have hunit : ∀ u, u ∈ mP i l (uL i i) → 1 ≤ u ∧ u < i := fun u hu => mP_unit hV hu
      have hmul : ∀ a b, a ∈ mP i l (uL i i) → b ∈ mP i l (uL i i) → (a * b) % i ∈ mP i l (uL i i) := fun a b ha hb => mP_mul hV hLi (hLt.imp fun h => by omega) ha hb
      have hM31 : (mP i l (uL i i)).length ≤ 31 := by
        have h1 : (mP i l (uL i i)).length ≤ (uL i i).length := List.length_filter_le _ _
        have h2 := uL_len (V := i) (n := i)
        omega
      have hMe : mlP i l (uL i i) = (mP i l (uL i i)).map fun t : Nat => (t : Int) := rfl
      rw [hMe] at hsM ⊢
      generalize mP i l (uL i i) = mm at *
      obtain ⟨ms, hms⟩ := hone
      obtain ⟨f, hfe, hf, _⟩ := fnOf (mm.map fun t : Nat => (t : Int))
      have hml : (mm.map fun t : Nat => (t : Int)).length = mm.length := List.length_map _
      rw [hfe] at hsM
      have hfm : ∀ k, k < mm.length → ∃ u : Nat, f k = u ∧ u ∈ mm := fun k hk => by
        refine ⟨mm[k], ?_, List.getElem_mem hk⟩
        rw [hf k (by omega)]
        simp
      have hf0 : f 0 = 1 := by
        rw [hf 0 (by rw [hml, hms]; simp)]
        simp [hms]
      have hmpos : 0 < mm.length := by rw [hms]; simp
      rw [hml] at hsM ⊢
      have d0 : decide ((0 : Int) ≠ 0) = false := rfl
      have d2 : decide (((mm.length : Nat) : Int) = 0) = false := decide_eq_false (by omega)
      have d3 : decide ((1 : Int) ≠ 1) = false := rfl
      obtain ⟨bM, oM, hAM, hldM⟩ := hsM.ints_at (by omega)
      subst hAM
      have lM0 : loadv h5.blks bM oM = some (.int .i64 1) := by
        have := hldM 0 (by omega)
        rw [hf0] at this
        exact this
      have i0 : Int.toNat 0 = 0 := rfl
      simp (maxSteps := 3000000) (disch := omega) only [go_sem,reduceIte,Nat.reduceEqDiff,Nat.reduceLT, d0, len24, d2, idxA24, i0, Nat.zero_mul, Nat.mul_one, Nat.add_zero, load3, lM0, d3]
      refine Call_lives (by omega) ?_
      simp only [go_sem,reduceIte,Nat.reduceEqDiff,Nat.reduceLT, e7]
      refine At_make (k1 := .i64) (k2 := .i64) (l := i) (c := i) u32 i4 zero4 (by rw [size4, bytes4]; rfl) (by simp only [go_sem,reduceIte,Nat.reduceEqDiff,Nat.reduceLT, e7]) (by simp only [go_sem,reduceIte,Nat.reduceEqDiff,Nat.reduceLT, e7]) (Nat.le_refl _) (by rw [size4]; omega) (by omega) (by omega) fun h6 hn6 => ?_
      rw [size4] at hn6
      have n6 := hn6.next
      have hz := hn6.slv (n := i) (c := i) (by rw [zeros_length]; rfl)
      have hzz : zeros (Value.bool false).cells.toList i = boolsL i fun p => decide (p ∈ mm.take 0) := (zeros_bools i).trans (boolsL_congr fun k _ => rfl)
      rw [hzz] at hz
      have pr6 : Pres h5.next h5 h6 := hn6.pres (Nat.le_refl _)
      try simp only [go_sem,reduceIte,Nat.reduceEqDiff,Nat.reduceLT]
      refine WK_loopN (fun j α h7 => ∃ q : Nat, q + j = mm.length ∧ α.get 7 = some (.int .i64 i) ∧ α.get 10 = some (.slice (some ⟨bM, oM, none⟩) mm.length mm.length) ∧ α.get 12 = some (.slice (some ⟨h5.next, 0, none⟩) i i) ∧ α.get 13 = some (.int .i64 q) ∧
          SlV h7.blks h5.next h6.next 1 i (boolsL i fun p => decide (p ∈ mm.take q)) (.slice (some ⟨h5.next, 0, none⟩) i i) ∧ Pres h5.next h5 h7 ∧ h7.next = h6.next) mm.length
        ⟨0, by omega, by simp only [go_sem,reduceIte,Nat.reduceEqDiff,Nat.reduceLT, e7], by simp only [go_sem,reduceIte,Nat.reduceEqDiff,Nat.reduceLT], by simp only [go_sem,reduceIte,Nat.reduceEqDiff,Nat.reduceLT], by (simp only [go_sem,reduceIte,Nat.reduceEqDiff,Nat.reduceLT]) <;> rfl, hz, pr6, rfl⟩ (by omega) ?_
      rintro J3 j3 α3 h7 ⟨q, hqj, f7, f10, f12, f13, hbv, pr7, hnx7⟩ hJ3
      have hsM7 := hsM.mono (B' := h7.blks) fun b _ hb => pr7.get b hb
      by_cases hlt3 : (q : Int) < (mm.length : Int)
      · have hql : q < mm.length := by omega
        obtain ⟨y, hy, hymem⟩ := hfm q hql
        have hyr := hunit y hymem
        have l1 := hsM7.ints_at' (j := q) hql
        rw [hy] at l1
        have d4 : decide ((y : Int) < 1) = false := decide_eq_false (by omega)
        have d5 : decide ((i : Int) ≤ (y : Int)) = false := decide_eq_false (by omega)
        simp (maxSteps := 3000000) (disch := omega) only [go_sem,reduceIte,Nat.reduceEqDiff,Nat.reduceLT, f7, f10, f12, f13, hlt3, len24, idxA24, idxA32, load3, Int.toNat_natCast, Nat.mul_one, l1, d4, d5]
        refine At_setBool (i := y) (z := true) (by (simp only [go_sem,reduceIte,Nat.reduceEqDiff,Nat.reduceLT]) <;> rfl) (by (simp only [go_sem,reduceIte,Nat.reduceEqDiff,Nat.reduceLT]) <;> rfl) hbv (by omega) (by omega) fun h8 hs8 hbv8 => ?_
        have hmq : mm[q] = y := by
          have := hf q (by omega)
          rw [hy] at this
          have e2 : (mm.map fun t : Nat => (t : Int))[q]'(by omega) = (mm[q] : Int) := by simp
          rw [e2] at this
          omega
        have e : (boolsL i fun r => if r = y then true else decide (r ∈ mm.take q)) = boolsL i fun p => decide (p ∈ mm.take (q + 1)) := boolsL_congr fun k _ => by
          rw [List.take_succ_eq_append_getElem hql, hmq]
          by_cases hk : k = y
          · subst hk; simp
          · simp [hk]
        rw [e] at hbv8
        simp (disch := omega) only [go_sem,reduceIte,Nat.reduceEqDiff,Nat.reduceLT, f13, wrap_i64]
        exact hJ3 (mm.length - (q + 1)) _ _ (by omega) ⟨q + 1, by omega, by simp only [go_sem,reduceIte,Nat.reduceEqDiff,Nat.reduceLT, f7], by simp only [go_sem,reduceIte,Nat.reduceEqDiff,Nat.reduceLT, f10], by simp only [go_sem,reduceIte,Nat.reduceEqDiff,Nat.reduceLT, f12], by (simp only [go_sem,reduceIte,Nat.reduceEqDiff,Nat.reduceLT]) <;> rfl, hbv8, pr7.trans (hs8.pres (Nat.le_refl _)), hs8.next.trans hnx7⟩
      · obtain rfl : q = mm.length := by omega
        rw [List.take_length] at hbv
        simp (disch := omega) only [go_sem,reduceIte,Nat.reduceEqDiff,Nat.reduceLT, f7, f10, f12, f13, hlt3, len24]
        refine WK_loopN (fun j α h9 => ∃ a : Nat, a + j = mm.length ∧ h9 = h7 ∧ α.get 7 = some (.int .i64 i) ∧ α.get 10 = some (.slice (some ⟨bM, oM, none⟩) mm.length mm.length) ∧ α.get 12 = some (.slice (some ⟨h5.next, 0, none⟩) i i) ∧ α.get 14 = some (.int .i64 a)) mm.length
          ⟨0, by omega, rfl, by simp only [go_sem,reduceIte,Nat.reduceEqDiff,Nat.reduceLT, f7], by simp only [go_sem,reduceIte,Nat.reduceEqDiff,Nat.reduceLT, f10], by simp only [go_sem,reduceIte,Nat.reduceEqDiff,Nat.reduceLT, f12], by (simp only [go_sem,reduceIte,Nat.reduceEqDiff,Nat.reduceLT]) <;> rfl⟩ (by omega) ?_
        rintro J4 j4 α4 h9 ⟨a, haj, rfl, k7, k10, k12, k14⟩ hJ4
        by_cases hlt4 : (a : Int) < (mm.length : Int)
        · obtain ⟨ya, hya, hyam⟩ := hfm a (by omega)
          have hyar := hunit ya hyam
          have l3 := hsM7.ints_at' (j := a) (by omega)
          rw [hya] at l3
          simp (disch := omega) only [go_sem,reduceIte,Nat.reduceEqDiff,Nat.reduceLT, k7, k10, k12, k14, hlt4, len24]
          refine WK_loopN (fun j α h10 => ∃ c : Nat, c + j = mm.length ∧ h10 = h9 ∧ α.get 7 = some (.int .i64 i) ∧ α.get 10 = some (.slice (some ⟨bM, oM, none⟩) mm.length mm.length) ∧ α.get 12 = some (.slice (some ⟨h5.next, 0, none⟩) i i) ∧ α.get 14 = some (.int .i64 a) ∧ α.get 15 = some (.int .i64 c)) mm.length
            ⟨0, by omega, rfl, by simp only [go_sem,reduceIte,Nat.reduceEqDiff,Nat.reduceLT, k7], by simp only [go_sem,reduceIte,Nat.reduceEqDiff,Nat.reduceLT, k10], by simp only [go_sem,reduceIte,Nat.reduceEqDiff,Nat.reduceLT, k12], by simp only [go_sem,reduceIte,Nat.reduceEqDiff,Nat.reduceLT, k14], by (simp only [go_sem,reduceIte,Nat.reduceEqDiff,Nat.reduceLT]) <;> rfl⟩ (by omega) ?_
          rintro J5 j5 α5 h10 ⟨c, hcj, rfl, m7, m10, m12, m14, m15⟩ hJ5
          by_cases hlt5 : (c : Int) < (mm.length : Int)
          · obtain ⟨yc, hyc, hycm⟩ := hfm c (by omega)
            have hycr := hunit yc hycm
            have l4 := hsM7.ints_at' (j := c) (by omega)
            rw [hyc] at l4
            have hprod : (ya : Int) * (yc : Int) = ((ya * yc : Nat) : Int) := by simp
            have hpb : ya * yc ≤ 31 * 31 := Nat.mul_le_mul (by omega) (by omega)
            have hmod : (ya * yc) % i < i := Nat.mod_lt _ (by omega)
            have l5 := hbv.bools_at' (j := (ya * yc) % i) hmod
            have d6 : decide ((ya * yc) % i ∈ mm) = true := decide_eq_true (hmul ya yc hyam hycm)
            rw [d6] at l5
            simp (disch := omega) only [go_sem,reduceIte,Nat.reduceEqDiff,Nat.reduceLT, m7, m10, m12, m14, m15, hlt5, len24]
            refine WK_regionT 11 ⟨by kernel_rfl, by kernel_rfl, by kernel_rfl⟩ ?_
            simp (maxSteps := 3000000) (disch := omega) only [go_sem,reduceIte,Nat.reduceEqDiff,Nat.reduceLT, m7, m10, m12, m14, m15, idxA24, idxA32, load3, load4, Int.toNat_natCast, Nat.mul_one, l3, l4, hprod, wrap_i64, tmod_nat, l5]
            exact hJ5 (mm.length - (c + 1)) _ _ (by omega) ⟨c + 1, by omega, rfl, by simp only [go_sem,reduceIte,Nat.reduceEqDiff,Nat.reduceLT, m7], by simp only [go_sem,reduceIte,Nat.reduceEqDiff,Nat.reduceLT, m10], by simp only [go_sem,reduceIte,Nat.reduceEqDiff,Nat.reduceLT, m12], by simp only [go_sem,reduceIte,Nat.reduceEqDiff,Nat.reduceLT, m14], by (simp only [go_sem,reduceIte,Nat.reduceEqDiff,Nat.reduceLT]) <;> rfl⟩
          · simp (disch := omega) only [go_sem,reduceIte,Nat.reduceEqDiff,Nat.reduceLT, m7, m10, m12, m14, m15, hlt5, len24, wrap_i64]
            exact hJ4 (mm.length - (a + 1)) _ _ (by omega) ⟨a + 1, by omega, rfl, by simp only [go_sem,reduceIte,Nat.reduceEqDiff,Nat.reduceLT, m7], by simp only [go_sem,reduceIte,Nat.reduceEqDiff,Nat.reduceLT, m10], by simp only [go_sem,reduceIte,Nat.reduceEqDiff,Nat.reduceLT, m12], by (simp only [go_sem,reduceIte,Nat.reduceEqDiff,Nat.reduceLT]) <;> rfl⟩
        · simp (disch := omega) only [go_sem,reduceIte,Nat.reduceEqDiff,Nat.reduceLT, k7, k10, k12, k14, hlt4, len24]
          exact hQ' _ _ ⟨pr0.trans ((pr3.le (by omega)).trans ((pr5.le (by omega)).trans (pr7.le (by omega)))), rfl⟩
end
end Go.Proofs.YtoeblkenmjbfiaaDoor.Ev

