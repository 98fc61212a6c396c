/- The law StitchCartier. -/
import Derived.Test.YthankillfhmfkaaGreatDoorPmGB
import Derived.Test.YthankillfhmfkaaGreatDoorPmsD1
set_option linter.unusedSimpArgs false
set_option linter.unusedVariables false
namespace Go.Proofs.YthankillfhmfkaaGreatDoor.Ev
open Go Go.Proofs Go.Lm
noncomputable section
/-- what is added up after s sizes -/
def part (cl : List Nat) (n s : Nat) : Int := if s = 0 then 0 else cnt cl (n + 1) - psum cl (cnts cl n) (n + 1) (s - 1)
theorem part_step {cl : List Nat} {n s : Nat} (h0 : cl.getD 0 0 = 1) (hs : s ≤ n + 1) : part cl n (s + 1) = part cl n s + (cl.getD s 0 : Int) * (1 - 2 * ((s % 2 : Nat) : Int)) * cnt cl (n + 1 - s) := by
  cases s with
  | zero =>
    show cnt cl (n + 1) - 0 = 0 + ((cl.getD 0 0 : Nat) : Int) * (1 - 2 * ((0 : Nat) : Int)) * cnt cl (n + 1 - 0)
    rw [h0, show ((1 : Nat) : Int) * (1 - 2 * ((0 : Nat) : Int)) = 1 from rfl, Int.one_mul, Nat.sub_zero]
    omega
  | succ s =>
    have e1 : part cl n (s + 1 + 1) = cnt cl (n + 1) - psum cl (cnts cl n) (n + 1) (s + 1) := rfl
    have e2 : part cl n (s + 1) = cnt cl (n + 1) - psum cl (cnts cl n) (n + 1) s := rfl
    have e3 : (cnts cl n).getD (n + 1 - (s + 1)) 0 = cnt cl (n + 1 - (s + 1)) := cnts_getD (by omega)
    rw [e1, e2, psum, e3]
    unfold sg
    generalize ((cl.getD (s + 1) 0 : Nat) : Int) = y
    generalize cnt cl (n + 1 - (s + 1)) = c
    by_cases hev : (s + 1) % 2 = 0
    · rw [if_pos hev, hev, show (1 : Int) - 2 * ((0 : Nat) : Int) = 1 from rfl, Int.mul_one, Int.neg_one_mul, Int.neg_mul]
      omega
    · rw [if_neg hev, show (s + 1) % 2 = 1 by omega, show (1 : Int) - 2 * ((1 : Nat) : Int) = -1 from rfl, Int.mul_neg, Int.mul_one, Int.one_mul, Int.neg_mul]
      omega
theorem part_end {cl : List Nat} {n : Nat} : part cl n (szs cl (n + 1) + 1) = 0 := by
  have h2 : cnt cl (n + 1) = psum cl (cnts cl (n + 1)) (n + 1) (szs cl (n + 1)) := cnt_rec (by omega)
  have h3 : psum cl (cnts cl (n + 1)) (n + 1) (szs cl (n + 1)) = psum cl (cnts cl n) (n + 1) (szs cl (n + 1)) := by
    refine psum_congr (by simp only [szs]; omega) fun i hi => ?_
    rw [cnts_getD (by omega), cnts_getD (by omega)]
  show cnt cl (n + 1) - psum cl (cnts cl n) (n + 1) (szs cl (n + 1)) = 0
  rw [h2, h3]; omega
theorem part_bound {cl : List Nat} (hc : cl.sum ≤ 64) {n s : Nat} (hs : s ≤ szs cl (n + 1) + 1) : (part cl n s).natAbs ≤ 2 * 64 ^ (n + 1) := by
  cases s with
  | zero => simp [part]
  | succ s =>
    have e1 : part cl n (s + 1) = cnt cl (n + 1) - psum cl (cnts cl n) (n + 1) s := rfl
    have h1 := cnt_bound hc (n + 1)
    have h2 := psum_bound2 hc (n := n) (s := s) (by omega)
    rw [e1]; omega
theorem srM {x : Nat} (h : x ≤ 64 ^ 60) : Sr x := ⟨100, by omega, Nat.lt_of_le_of_lt h (Nat.le_of_ble_eq_true rfl)⟩
theorem ldCloth {G b : Nat} {K Fr : Int} {B : Tr Blk} (v : Var B b [.int .u8 K, .int .u16 Fr]) : loadO (En G) 72 B (some (.pointer (some ⟨b, 0, none⟩))) = some (.agg #[.int .u8 K, .int .u16 Fr]) :=
  v.loadA agg72 i72 (by rw [size72]; rfl)
theorem dk60 {x : Nat} (h : x ≤ 64 ^ 60) : Dk x := ⟨199, by decide, Nat.lt_of_le_of_lt h (Nat.le_of_ble_eq_true rfl)⟩
set_option maxHeartbeats 16000000 in
set_option maxRecDepth 100000 in
theorem law_StitchCartier {G : Nat} {K Fr nn : Int} {h0 : H} (h4 : 4 ≤ h0.next) (hG : G ≤ h0.next) (hG4 : 4 ≤ G) (ht : TabsIn tabs h0.blks) (hK : 0 ≤ K) (hK2 : K ≤ 255) (hn0 : 0 ≤ nn) (hn2 : nn ≤ 255) :
    Spec Tryz.prog (En G) 12 [.agg #[.int .u8 K, .int .u16 Fr], .int .u8 nn] h0 fun v _ => v = .bool true := by
  refine CallsE_enter (En_known (by decide)) (En_f.trans Tryz.func12) rfl ⟨Nat.le_of_ble_eq_true rfl, by decide⟩ fun Q' hQ' => ?_
  obtain ⟨m, rfl⟩ := Int.eq_ofNat_of_zero_le hn0
  have hm : m ≤ 255 := by omega
  obtain ⟨n, hn⟩ : ∃ n, m % 24 = n := ⟨_, rfl⟩
  have hn24 : n < 24 := by omega
  have cv : ∀ {B : Tr Blk}, convO Tryz.prog (En G) B 5 3 (some (.int .u8 (m : Int))) = some (.int .i64 (m : Int)) := fun {B} => conv53z (by omega) (by omega)
  have hrem : ((m : Nat) : Int).tmod 24 = (n : Int) := by
    rw [Int.tmod_eq_emod_of_nonneg (by omega)]; omega
  have wn : IntKind.i64.wrap ((n : Int) + 1) = ((n + 1 : Nat) : Int) := wrap_nat (by omega) (by omega)
  simp (disch := omega) only [Tryz.f12, go_sem,reduceIte,Nat.reduceEqDiff,Nat.reduceLT]
  refine At_box (v := .agg #[.int .u8 K, .int .u16 Fr]) (by simp only [go_sem,reduceIte,Nat.reduceEqDiff,Nat.reduceLT]) (by omega) fun h1 hn1' => ?_
  have m1 := hn1'.next
  have l1 := ldCloth (G := G) (hn1'.var : Var h1.blks h0.next [.int .u8 K, .int .u16 Fr])
  have pr1 : Pres h0.next h0 h1 := hn1'.pres (Nat.le_refl _)
  simp (disch := omega) only [go_sem,reduceIte,Nat.reduceEqDiff,Nat.reduceLT, l1]
  refine CallO_f (made_spec (by omega) hK hK2) (by omega) fun u h2 hp2 hu => ?_
  obtain ⟨k, ps, A, rfl, hT, hvp⟩ := hu
  have m2 := hp2.next
  have pr2 : Pres h0.next h0 h2 := pr1.trans (hp2.le (by omega))
  obtain ⟨k1, k6, pl, hps⟩ := okT_okP hT
  simp (disch := omega) only [go_sem,reduceIte,Nat.reduceEqDiff,Nat.reduceLT, cv, hrem, wn]
  refine CallO_f (Cliques_spec (k := k) (by omega) hvp (Nat.le_refl _) (by omega)) (by omega) fun u h3 hp3 hu => ?_
  have m3 := hp3.next
  have pr3 : Pres h0.next h0 h3 := pr2.trans (hp3.le (by omega))
  rcases hu with ⟨hno, _⟩ | ⟨_, Ac, rfl, hcs⟩
  · rw [hT] at hno; cases hno
  rw [Int.toNat_natCast] at hcs ⊢
  have hc0 := clq_zero (cm := pc ps) (k := k) (by omega)
  have hc1 := clq_one (cm := pc ps) (k := k) (by omega)
  have hc2 := clq_two (cm := pc ps) (k := k) (by omega) (by omega)
  have hcS := clq_sum (cm := pc ps) (k := k) (by omega)
  have hcL := clq_len (cm := pc ps) (k := k)
  have hcG : ∀ i, (clq (pc ps) k).getD i 0 ≤ 64 := fun i => clq_getD_le (by omega)
  have hvp3 : SlV h3.blks (h1.next + 1) h2.next 2 ps.length (prs ps) (.slice A ps.length ps.length) := hvp.mono fun b _ hb => hp3.get b (by omega)
  obtain ⟨cl, hcl⟩ : ∃ cl, clq (pc ps) k = cl := ⟨_, rfl⟩
  rw [hcl] at hcs hc0 hc1 hc2 hcS hcL hcG ⊢
  have q0 : cl[0]? = some 1 := by
    rw [List.getElem?_eq_getElem (by omega)]
    rw [List.getD_eq_getElem?_getD, List.getElem?_eq_getElem (by omega)] at hc0
    exact congrArg some hc0
  have q1 : cl[1]? = some k := by
    rw [List.getElem?_eq_getElem (by omega)]
    rw [List.getD_eq_getElem?_getD, List.getElem?_eq_getElem (by omega)] at hc1
    exact congrArg some hc1
  obtain ⟨bc, oc, rfl, _, _, lc0⟩ := nats_at hcs q0
  replace lc0 : loadv h3.blks bc (oc + 0) = some (.int .i64 1) := lc0
  have lc1 : loadv h3.blks bc (oc + 1) = some (.int .i64 (k : Int)) := by
    obtain ⟨b9, o9, e9, _, _, q⟩ := nats_at hcs q1
    injection e9 with e9
    injection e9 with p1 p2
    subst p1; subst p2; exact q
  have ht3 := ht.pres pr3 (fun x hx => by have := tabs_lt x hx; omega)
  have d1 : decide ((0 : Int) ≠ 0) = false := rfl
  have d2 : decide ((cl.length : Int) < 2) = false := decide_eq_false (by omega)
  have d3 : decide ((1 : Int) ≠ 1) = false := rfl
  have d4 : decide ((k : Int) ≠ (k : Int)) = false := decide_eq_false (by omega)
  have ia0 : idxAddrO (En G) 34 (some (.slice (some ⟨bc, oc, none⟩) cl.length cl.length)) (some (.int .i64 0)) = some (.pointer (some ⟨bc, oc + 0, none⟩)) := idxA34 (by omega) (by omega)
  have ia1 : idxAddrO (En G) 34 (some (.slice (some ⟨bc, oc, none⟩) cl.length cl.length)) (some (.int .i64 1)) = some (.pointer (some ⟨bc, oc + 1, none⟩)) := idxA34 (by omega) (by omega)
  simp (maxSteps := 3000000) (disch := omega) only [go_sem,reduceIte,Nat.reduceEqDiff,Nat.reduceLT, d1, d2, len34, ia0, ia1, load3, lc0, lc1, d3, d4]
  refine Call_lives ht3 (by omega) ?_
  simp (disch := omega) only [go_sem,reduceIte,Nat.reduceEqDiff,Nat.reduceLT]
  refine CallO_f (Whole_ref (z := 0) (by omega) (by omega) (by omega)) (by omega) fun w5 h5 pr5 hw5 => ?_
  have m5 := pr5.next
  have hw50 := hw5
  obtain ⟨A5, A5', k5, k5', c5, c5', rfl⟩ := hw5.shape
  try simp (disch := omega) only [go_sem,reduceIte,Nat.reduceEqDiff,Nat.reduceLT]
  refine At_alloc i64 zero64 rfl (by omega) fun h6 hn6 => ?_
  have m6 := hn6.next
  have pr6 : Pres h5.next h5 h6 := hn6.pres (Nat.le_refl _)
  have x6 : Var h6.blks h5.next [.bool false, .slice none 0 0, .bool false, .slice none 0 0] := hn6.var
  try simp (disch := omega) only [go_sem,reduceIte,Nat.reduceEqDiff,Nat.reduceLT]
  refine At_storeV (inf := inf64) (v := .agg #[.bool (decide ((0 : Int) < 0)), .slice A5 k5 c5, .bool (decide ((1 : Int) < 0)), .slice A5' k5' c5']) i64 (by simp only [go_sem,reduceIte,Nat.reduceEqDiff,Nat.reduceLT]) (by simp only [go_sem,reduceIte,Nat.reduceEqDiff,Nat.reduceLT]) x6 (by rw [size64]; rfl) (by rw [size64]; rfl) rfl (by show G ≤ h5.next; omega) fun h7 hs7 x7 => ?_
  have m7 := hs7.next
  have pr57 : Pres h5.next h5 h7 := pr6.trans (hs7.pres (Nat.le_refl _))
  have pr37 : Pres h3.next h3 h7 := pr5.trans (pr57.le (by omega))
  have pr7 : Pres h0.next h0 h7 := pr3.trans (pr37.le (by omega))
  have hz7 : QV h7.blks h7.next (part cl n 0) 1 (.agg #[.bool (decide (part cl n 0 < 0)), .slice A5 k5 c5, .bool (decide ((1 : Int) < 0)), .slice A5' k5' c5']) := (hw50.pres pr57 (Nat.le_refl _)).wide (by omega)
  replace x7 : Var h7.blks h5.next [.bool (decide (part cl n 0 < 0)), .slice A5 k5 c5, .bool (decide ((1 : Int) < 0)), .slice A5' k5' c5'] := x7
  have hvp7 : SlV h7.blks (h1.next + 1) h2.next 2 ps.length (prs ps) (.slice A ps.length ps.length) := hvp3.mono fun b _ hb => pr37.get b (by omega)
  have hcs7 := hcs.mono (B' := h7.blks) fun b _ hb => pr37.get b hb
  simp (disch := omega) only [go_sem,reduceIte,Nat.reduceEqDiff,Nat.reduceLT]
  refine WK_loopN (fun j α h8 => ∃ (s : Nat) (B B' : Option Addr) (e e' f f' : Nat), s + j = szs cl (n + 1) + 1 ∧ α.get 5 = some (.int .i64 (k : Int)) ∧ α.get 6 = some (.slice A ps.length ps.length) ∧ α.get 7 = some (.int .i64 ((n + 1 : Nat) : Int)) ∧ α.get 8 = some (.slice (some ⟨bc, oc, none⟩) cl.length cl.length) ∧ α.get 10 = some (.pointer (some ⟨h5.next, 0, none⟩)) ∧ α.get 11 = some (.int .i64 (s : Int)) ∧
      Var h8.blks h5.next [.bool (decide (part cl n s < 0)), .slice B e f, .bool (decide ((1 : Int) < 0)), .slice B' e' f'] ∧ QV h8.blks h8.next (part cl n s) 1 (.agg #[.bool (decide (part cl n s < 0)), .slice B e f, .bool (decide ((1 : Int) < 0)), .slice B' e' f']) ∧
      SlV h8.blks (h1.next + 1) h2.next 2 ps.length (prs ps) (.slice A ps.length ps.length) ∧ SlV h8.blks h2.next h3.next 1 cl.length (nats cl) (.slice (some ⟨bc, oc, none⟩) cl.length cl.length) ∧ Pres h0.next h0 h8 ∧ h7.next ≤ h8.next) (szs cl (n + 1) + 1)
    ⟨0, _, _, _, _, _, _, by omega, by simp only [go_sem,reduceIte,Nat.reduceEqDiff,Nat.reduceLT], by simp only [go_sem,reduceIte,Nat.reduceEqDiff,Nat.reduceLT], by simp only [go_sem,reduceIte,Nat.reduceEqDiff,Nat.reduceLT], by simp only [go_sem,reduceIte,Nat.reduceEqDiff,Nat.reduceLT], by simp only [go_sem,reduceIte,Nat.reduceEqDiff,Nat.reduceLT], by (simp only [go_sem,reduceIte,Nat.reduceEqDiff,Nat.reduceLT]) <;> rfl, x7, hz7, hvp7, hcs7, pr7, Nat.le_refl _⟩ (by simp only [szs]; omega) ?_
  clear x7 hz7 hvp7 hcs7 pr7 pr37 pr57 x6 hw50 hw5 pr6 hn6 hs7 lc0 lc1 hcs hvp3 hvp ht3 pr3 pr5 hp3
  rintro J j α h8 ⟨s, B, B', e, e', f, f', hsj, e5, e6, e7, e8, e10, e11, x8, hz8, hv8, hcs8, pr8, m8⟩ hJ
  have ht8 := ht.pres pr8 (fun x hx => by have := tabs_lt x hx; omega)
  by_cases hs : s ≤ szs cl (n + 1)
  · have hs' := hs
    simp only [szs] at hs'
    have g1 : decide ((s : Int) < (cl.length : Int)) = true := decide_eq_true (by omega)
    have g2 : decide ((s : Int) ≤ ((n + 1 : Nat) : Int)) = true := decide_eq_true (by omega)
    have ws : IntKind.i64.wrap (((n + 1 : Nat) : Int) - (s : Int)) = ((n + 1 - s : Nat) : Int) := wrap_nat (by omega) (by omega)
    simp (disch := omega) only [go_sem,reduceIte,Nat.reduceEqDiff,Nat.reduceLT, e5, e6, e7, e8, e10, e11, len34, g1, g2, ws]
    refine CallO_f (Count_spec (k := k) (z := ((n + 1 - s : Nat) : Int)) (by omega) hG4 ht8 hv8 (by omega) (by omega)) (by omega) fun u h9 pr9 hu => ?_
    have m9 := pr9.next
    rcases hu with ⟨hbad, _⟩ | ⟨_, _, _, rfl⟩
    · rw [hT] at hbad
      rcases hbad with hbad | hbad | hbad
      · cases hbad
      · omega
      · omega
    rw [Int.toNat_natCast, Int.toNat_natCast, hcl]
    have hcb : (cnt cl (n + 1 - s)).natAbs ≤ 64 ^ 24 := Nat.le_trans (cnt_bound hcS _) (Nat.pow_le_pow_right (by omega) (by omega))
    have h64 : (64 : Nat) ^ 24 < 64 ^ 60 := Nat.pow_lt_pow_right (by omega) (by omega)
    have hcd : Dk (cnt cl (n + 1 - s)).natAbs := dk60 (Nat.le_trans hcb (Nat.le_of_lt h64))
    simp (disch := omega) only [go_sem,reduceIte,Nat.reduceEqDiff,Nat.reduceLT, d1]
    refine CallO_f (Integer_spec (z := cnt cl (n + 1 - s)) (by omega) hcd) (by omega) fun u h10 pr10 hu => ?_
    subst hu
    have m10 := pr10.next
    have pr8a : Pres h8.next h8 h10 := pr9.trans (pr10.le (by omega))
    have y8 := x8.mono (B' := h10.blks) (pr8a.get _ (by omega))
    have hz10 := (hz8.pres pr8a (Nat.le_refl _)).wide (N' := h10.next) (by omega)
    have hcs10 := hcs8.mono (B' := h10.blks) fun b _ hb => pr8a.get b (by omega)
    have r10 := y8.qn (G := G) rfl
    obtain ⟨y, hy⟩ := limb_at (l := cl) (i := s) (by omega)
    have hyd : cl.getD s 0 = y := by rw [List.getD_eq_getElem?_getD, hy]; rfl
    have hy64 : y ≤ 64 := by rw [← hyd]; exact hcG s
    have ly : loadv h10.blks bc (oc + s) = some (.int .i64 (y : Int)) := by
      obtain ⟨b9, o9, e9, _, _, q⟩ := nats_at hcs10 hy
      injection e9 with e9
      injection e9 with p1 p2
      subst p1; subst p2; exact q
    have hmod2 : ((s : Nat) : Int).tmod 2 = ((s % 2 : Nat) : Int) := by
      rw [Int.tmod_eq_emod_of_nonneg (by omega)]; rfl
    have w2 : IntKind.i64.wrap (2 * ((s % 2 : Nat) : Int)) = 2 * ((s % 2 : Nat) : Int) := wrap_i64 (by omega) (by omega)
    have w3 : IntKind.i64.wrap (1 - 2 * ((s % 2 : Nat) : Int)) = 1 - 2 * ((s % 2 : Nat) : Int) := wrap_i64 (by omega) (by omega)
    obtain ⟨c, hc, hcc⟩ : ∃ c : Int, (y : Int) * (1 - 2 * ((s % 2 : Nat) : Int)) = c ∧ c.natAbs ≤ 64 := by
      refine ⟨_, rfl, ?_⟩
      rcases Nat.mod_two_eq_zero_or_one s with e2 | e2 <;> rw [e2] <;> omega
    have w4 : IntKind.i64.wrap ((y : Int) * (1 - 2 * ((s % 2 : Nat) : Int))) = c := by rw [hc]; exact wrap_i64 (by omega) (by omega)
    have w5 : IntKind.i64.wrap ((s : Int) + 1) = ((s + 1 : Nat) : Int) := wrap_nat (by omega) (by omega)
    have hst := part_step (cl := cl) (n := n) (s := s) hc0 (by omega)
    rw [hyd, hc] at hst
    have hpb := part_bound hcS (n := n) (s := s) (by omega)
    have hpow : (64 : Nat) ^ (n + 1) ≤ 64 ^ 24 := Nat.pow_le_pow_right (by omega) (by omega)
    have h24 : 64 * (64 : Nat) ^ 24 < 64 ^ 60 := Nat.lt_of_lt_of_le (Nat.mul_lt_mul_of_pos_left (Nat.pow_lt_pow_right (show 1 < 64 by omega) (show 24 < 25 by omega)) (by omega)) (Nat.le_of_ble_eq_true rfl)
    have hpr : (c * cnt cl (n + 1 - s)).natAbs ≤ 64 * 64 ^ 24 := by
      rw [Int.natAbs_mul]; exact Nat.mul_le_mul hcc hcb
    generalize (64 : Nat) ^ 24 = P24 at *
    generalize hP60 : (64 : Nat) ^ 60 = P60 at *
    simp (disch := omega) only [go_sem,reduceIte,Nat.reduceEqDiff,Nat.reduceLT, e5, e6, e7, e8, e10, e11]
    refine WK_regionT 14 ⟨by kernel_rfl, by kernel_rfl, by kernel_rfl⟩ ?_
    simp (maxSteps := 3000000) (disch := omega) only [go_sem,reduceIte,Nat.reduceEqDiff,Nat.reduceLT, e5, e6, e7, e8, e10, e11, r10, idxA34, Int.toNat_natCast, Nat.mul_one, load3, ly, hmod2, w2, w3, w4]
    refine CallO_spec (Whole_ref (z := c) (by rw [st_next]; omega) (by omega) (by omega)) (by omega) (fun _ _ _ h => h) fun w11 h11 pr11 hw11 => ?_
    have m11 := pr11.next
    simp (disch := omega) only [go_sem,reduceIte,Nat.reduceEqDiff,Nat.reduceLT]
    refine CallO_spec (Of_spec (z := cnt cl (n + 1 - s)) (by rw [st_next]; omega) hcd) (by omega) (fun _ _ _ h => h) fun w12 h12 pr12 hw12 => ?_
    have m12 := pr12.next
    simp (disch := omega) only [go_sem,reduceIte,Nat.reduceEqDiff,Nat.reduceLT]
    refine CallO_spec (MulQ_spec (N := h12.next) (by rw [st_next]; omega) (by rw [st_next]; omega) (by rw [st_blks]; exact (hw11.pres pr12 (Nat.le_refl _)).wide m12) (by rw [st_blks]; exact hw12) (srM (by omega)) sr_one (srM (by omega)) sr_one) (by omega) (fun _ _ _ h => h) fun w13 h13 pr13 hw13 => ?_
    have m13 := pr13.next
    have pr10a : Pres h10.next h10 h13 := (pr11.trans (pr12.le (by omega))).trans (pr13.le (by omega))
    rw [Int.mul_one] at hw13
    simp (disch := omega) only [go_sem,reduceIte,Nat.reduceEqDiff,Nat.reduceLT]
    refine CallO_spec (AddQ_spec (N := h13.next) (by rw [st_next]; omega) (by rw [st_next]; omega) (by rw [st_blks]; exact (hz10.pres pr10a (Nat.le_refl _)).wide (by omega)) (by rw [st_blks]; exact hw13) (srM (by omega)) sr_one (srM (by omega)) sr_one (by rw [Int.mul_one]; exact srM (by omega)) (by rw [Int.mul_one]; exact srM (by omega))) (by omega) (fun _ _ _ h => h) fun w14 h14 pr14 hw14 => ?_
    have m14 := pr14.next
    rw [Int.mul_one, Int.mul_one, Int.mul_one, ← hst] at hw14
    have hw140 := hw14
    obtain ⟨D, D', d, d', g, g', rfl⟩ := hw14.shape
    have pr10b : Pres h10.next h10 h14 := pr10a.trans (pr14.le (by omega))
    have y14 := y8.mono (B' := h14.blks) (pr10b.get _ (by omega))
    have noQ : [Value.bool (decide (part cl n s < 0)), .slice B e f, .bool (decide ((1 : Int) < 0)), .slice B' e' f'].all (fun v => !isI v) = true := rfl
    have pr8b : Pres h8.next h8 h14 := pr8a.trans (pr10b.le (by omega))
    try simp (disch := omega) only [go_sem,reduceIte,Nat.reduceEqDiff,Nat.reduceLT]
    refine At_storeV (inf := inf64) (v := .agg #[.bool (decide (part cl n (s + 1) < 0)), .slice D d g, .bool (decide ((1 : Int) < 0)), .slice D' d' g']) i64 (by simp only [go_sem,reduceIte,Nat.reduceEqDiff,Nat.reduceLT, e10]) (by simp only [go_sem,reduceIte,Nat.reduceEqDiff,Nat.reduceLT]) y14 (by rw [size64]; rfl) (by rw [size64]; rfl) rfl (by show G ≤ h5.next; omega) fun h15 hs15 x15 => ?_
    have m15 := hs15.next
    simp (disch := omega) only [go_sem,reduceIte,Nat.reduceEqDiff,Nat.reduceLT, e11, w5]
    refine hJ (j - 1) _ _ (by omega) ⟨s + 1, D, D', d, d', g, g', by omega, by simp only [go_sem,reduceIte,Nat.reduceEqDiff,Nat.reduceLT, e5], by simp only [go_sem,reduceIte,Nat.reduceEqDiff,Nat.reduceLT, e6], by simp only [go_sem,reduceIte,Nat.reduceEqDiff,Nat.reduceLT, e7], by simp only [go_sem,reduceIte,Nat.reduceEqDiff,Nat.reduceLT, e8], by simp only [go_sem,reduceIte,Nat.reduceEqDiff,Nat.reduceLT, e10], by simp only [go_sem,reduceIte,Nat.reduceEqDiff,Nat.reduceLT], x15, (hw140.sto hs15 y14 noQ).wide (by omega), hv8.mono fun b _ hb => (hs15.get b (by omega)).trans (pr8b.get b (by omega)), hcs8.mono fun b _ hb => (hs15.get b (by omega)).trans (pr8b.get b (by omega)), (pr8.trans (pr8b.le (by omega))).trans (hs15.pres (by omega)), by omega⟩
  · obtain rfl : s = szs cl (n + 1) + 1 := by omega
    have hend := part_end (cl := cl) (n := n)
    have x8' := x8
    have fin : ∀ (β : Tr Value) (h9 : H), True := fun _ _ => trivial
    have r8 := x8.q0 (G := G)
    rw [hend] at r8
    have hz0 : ZV h8.blks h8.next 0 (.agg #[.bool (decide ((0 : Int) < 0)), .slice B e f]) := by
      obtain ⟨_, _, _, _, _, _, ee, z1, _⟩ := hz8
      rw [hend] at z1 ee
      injection ee with ee
      have := congrArg Array.toList ee
      simp only [List.cons.injEq, Value.slice.injEq, and_true] at this
      obtain ⟨_, ⟨p1, p2, p3⟩, _⟩ := this
      subst p1; subst p2; subst p3
      exact z1
    have ds : decide (sgnI 0 = 0) = true := rfl
    by_cases c1 : szs cl (n + 1) + 1 < cl.length
    · have g1 : decide (((szs cl (n + 1) + 1 : Nat) : Int) < (cl.length : Int)) = true := decide_eq_true (by omega)
      have g2 : decide (((szs cl (n + 1) + 1 : Nat) : Int) ≤ ((n + 1 : Nat) : Int)) = false := decide_eq_false (by simp only [szs] at c1 ⊢; omega)
      simp (disch := omega) only [go_sem,reduceIte,Nat.reduceEqDiff,Nat.reduceLT, e5, e6, e7, e8, e10, e11, len34, g1, g2, fld64_0, Nat.zero_add, r8]
      refine CallO_f (Sign_spec (N := h8.next) (a := 0) (by omega) hz0) (by omega) fun u h9 pr9 hu => ?_
      subst hu
      simp (disch := omega) only [go_sem,reduceIte,Nat.reduceEqDiff,Nat.reduceLT, ds]
      exact hQ' _ _ ⟨pr8.trans (pr9.le (by omega)), rfl⟩
    · have g1 : decide (((szs cl (n + 1) + 1 : Nat) : Int) < (cl.length : Int)) = false := decide_eq_false (by omega)
      simp (disch := omega) only [go_sem,reduceIte,Nat.reduceEqDiff,Nat.reduceLT, e5, e6, e7, e8, e10, e11, len34, g1, fld64_0, Nat.zero_add, r8]
      refine CallO_f (Sign_spec (N := h8.next) (a := 0) (by omega) hz0) (by omega) fun u h9 pr9 hu => ?_
      subst hu
      simp (disch := omega) only [go_sem,reduceIte,Nat.reduceEqDiff,Nat.reduceLT, ds]
      exact hQ' _ _ ⟨pr8.trans (pr9.le (by omega)), rfl⟩
end
end Go.Proofs.YthankillfhmfkaaGreatDoor.Ev

