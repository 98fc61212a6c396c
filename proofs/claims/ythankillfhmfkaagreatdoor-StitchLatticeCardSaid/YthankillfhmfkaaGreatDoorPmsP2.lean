/- The law StitchLattice. -/
import Derived.Test.YthankillfhmfkaaGreatDoorPmsT5
import Derived.Test.YthankillfhmfkaaGreatDoorPmsM2
set_option linter.unusedSimpArgs false
set_option linter.unusedVariables false
namespace Go.Proofs.YthankillfhmfkaaGreatDoor.Ev
open Go Go.Proofs
noncomputable section

section
variable {P : Program} {E : Env} {n : Nat} {ops : List Oper} {q : Bool} {r tl : List Oper} {k : List Frm} {α : Tr Value} {h : H} {R : Rt}
/-- only what holds of the variables goes on -/
theorem At_cut {Φ : Tr Value → Prop} (hα : Φ α) (hk : ∀ β, Φ β → At P E n ops q r tl k β h R) : At P E n ops q r tl k α h R := hk α hα
end
theorem pc_irr {k : Nat} {ps : List (Int × Int)} (h : OkP k ps) (a : Nat) : pc ps a a = false := by
  cases e : pc ps a a with
  | false => rfl
  | true =>
    unfold pc at e
    obtain ⟨p, hp, hp2⟩ := List.any_eq_true.1 e
    have := h p hp
    simp only [decide_eq_true_eq] at hp2
    omega

set_option maxHeartbeats 64000000 in
set_option maxRecDepth 100000 in
theorem law_StitchLattice {G lo1 hi1 n1 c1 lo2 hi2 n2 c2 lo3 hi3 n3 c3 : Nat} {K Fr : Int} {A1 A2 A3 : Option Addr} {x y z : List UInt8} {h0 : H} (h4 : 4 ≤ h0.next) (hG : G ≤ h0.next) (ht : TabsIn tabs h0.blks) (hK : 0 ≤ K) (hK2 : K ≤ 255)
    (hv1 : SlV h0.blks lo1 hi1 1 n1 (byts x) (.slice A1 n1 c1)) (hhi1 : hi1 ≤ h0.next) (hv2 : SlV h0.blks lo2 hi2 1 n2 (byts y) (.slice A2 n2 c2)) (hhi2 : hi2 ≤ h0.next) (hv3 : SlV h0.blks lo3 hi3 1 n3 (byts z) (.slice A3 n3 c3)) (hhi3 : hi3 ≤ h0.next)
    (hn1 : n1 < 4611686018427387904) (hn2 : n2 < 4611686018427387904) (hn3 : n3 < 4611686018427387904) :
    Spec Tryz.prog (En G) 14 [.agg #[.int .u8 K, .int .u16 Fr], .agg #[.slice A1 n1 c1, .slice A2 n2 c2], .slice A3 n3 c3] h0 fun v _ => v = .bool true := by
  refine CallsE_enter (En_known (by decide)) (En_f.trans Tryz.func14) rfl ⟨Nat.le_of_ble_eq_true rfl, by decide⟩ fun Q' hQ' => ?_
  simp only [Tryz.f14, go_sem,reduceIte,Nat.reduceEqDiff,Nat.reduceLT]
  refine At_box (v := .agg #[.int .u8 K, .int .u16 Fr]) (by simp only [go_sem,reduceIte,Nat.reduceEqDiff,Nat.reduceLT]) (by omega) fun h1 hb1 => ?_
  have m1 := hb1.next
  have w1 : Var h1.blks h0.next [.int .u8 K, .int .u16 Fr] := hb1.var
  try simp only [go_sem,reduceIte,Nat.reduceEqDiff,Nat.reduceLT]
  refine At_box (v := .agg #[.slice A1 n1 c1, .slice A2 n2 c2]) (by simp only [go_sem,reduceIte,Nat.reduceEqDiff,Nat.reduceLT]) (by omega) fun h2 hb2 => ?_
  have m2 := hb2.next
  have w2 : Var h2.blks h1.next [.slice A1 n1 c1, .slice A2 n2 c2] := hb2.var
  replace w1 := w1.mono (B' := h2.blks) (by rw [hb2.get, if_neg (by omega)])
  have pr2 : Pres h0.next h0 h2 := (hb1.pres (Nat.le_refl _)).trans (hb2.pres (by omega))
  have l1 := load54 (G := G) w1
  simp only [go_sem,reduceIte,Nat.reduceEqDiff,Nat.reduceLT, l1]
  refine CallO_f (made_spec (by omega) hK hK2) (by omega) fun u h5 hp5 hu => ?_
  obtain ⟨k, ps, A, rfl, hT, hvp⟩ := hu
  have m5 := hp5.next
  have pr5 : Pres h0.next h0 h5 := pr2.trans (hp5.le (by omega))
  obtain ⟨k1, k6, pl, hps⟩ := okT_okP hT
  rw [Int.toNat_natCast] at hps
  replace w2 := w2.mono (B' := h5.blks) (hp5.get _ (by omega))
  have hx5 : SlV h5.blks lo1 hi1 1 n1 (byts x) (.slice A1 n1 c1) := hv1.mono fun b _ hb => pr5.get b (by omega)
  have hy5 : SlV h5.blks lo2 hi2 1 n2 (byts y) (.slice A2 n2 c2) := hv2.mono fun b _ hb => pr5.get b (by omega)
  have hz5 : SlV h5.blks lo3 hi3 1 n3 (byts z) (.slice A3 n3 c3) := hv3.mono fun b _ hb => pr5.get b (by omega)
  have ls0 : loadv h5.blks h1.next 0 = some (.slice A1 n1 c1) := by rw [w2.load (by simp)]; rfl
  have ls1 : loadv h5.blks h1.next 1 = some (.slice A2 n2 c2) := by rw [w2.load (by simp)]; rfl
  simp only [go_sem,reduceIte,Nat.reduceEqDiff,Nat.reduceLT]
  refine CallO_same (mkseam_spec (k := k) (mo := 8) hz5 (by omega) (by omega) (by omega) (by omega)) (by omega) fun u hu => ?_
  obtain ⟨a, rfl, ha, al⟩ := hu
  simp only [go_sem,reduceIte,Nat.reduceEqDiff,Nat.reduceLT]
  refine WK_regionT 16 ⟨by kernel_rfl, by kernel_rfl, by kernel_rfl⟩ ?_
  simp (maxSteps := 400000) (disch := omega) only [go_sem,reduceIte,Nat.reduceEqDiff,Nat.reduceLT, idxP86, load73, Int.toNat_zero, Int.reduceToNat, Nat.zero_mul, Nat.one_mul, Nat.mul_one, Nat.add_zero, Nat.zero_add, ls0, ls1]
  refine CallO_same (mkseam_spec (k := k) (mo := 12) hx5 (by omega) (by omega) (by omega) (by omega)) (by omega) fun u hu => ?_
  obtain ⟨b1, rfl, ob1, bl1⟩ := hu
  have hadd1 : ∀ {t : TypeId}, binO Tryz.prog (En G) .add t (some (strV a)) (some (strV b1)) = some (strV (a ++ b1)) := add_str (by omega)
  simp (maxSteps := 400000) (disch := omega) only [go_sem,reduceIte,Nat.reduceEqDiff,Nat.reduceLT, hadd1, idxP86, load73, Int.toNat_zero, Int.reduceToNat, Nat.zero_mul, Nat.one_mul, Nat.mul_one, Nat.add_zero, Nat.zero_add, ls0, ls1]
  refine CallO_same (mkseam_spec (k := k) (mo := 12) hy5 (by omega) (by omega) (by omega) (by omega)) (by omega) fun u hu => ?_
  obtain ⟨b2, rfl, ob2, bl2⟩ := hu
  have hadd2 : ∀ {t : TypeId}, binO Tryz.prog (En G) .add t (some (strV a)) (some (strV b2)) = some (strV (a ++ b2)) := add_str (by omega)
  simp (maxSteps := 400000) (disch := omega) only [go_sem,reduceIte,Nat.reduceEqDiff,Nat.reduceLT, hadd1, hadd2, idxP86, load73, Int.toNat_zero, Int.reduceToNat, Nat.zero_mul, Nat.one_mul, Nat.mul_one, Nat.add_zero, Nat.zero_add, ls0, ls1]
  refine CallO_same (shuffled_spec (k := k) (s := a ++ b2) (by0 := x) hvp (by omega) (by omega) hps hx5 (by omega) ((ha.append ob2).mono (by omega)) (by rw [List.length_append]; omega)) (by omega) fun u hu => ?_
  obtain ⟨t, rfl, hsw⟩ := hu
  have tl := hsw.len
  have ot : OkL k t := hsw.ok (ha.append ob2)
  have os : OkL k (a ++ b1) := ha.append ob1
  have sl : (a ++ b1).length = a.length + b1.length := List.length_append
  rw [List.length_append] at tl
  have hlat := lat_law (pc_sym' ps) (pc_irr hps) (a := a) (s' := b1) (t' := b2) (ha.mono (k' := 6) (by omega)) (os.mono (k' := 6) (by omega)) (ot.mono (k' := 6) (by omega)) (ob1.mono (k' := 6) (by omega)) (ob2.mono (k' := 6) (by omega)) (.refl _) hsw
  obtain ⟨s, es⟩ : ∃ s, a ++ b1 = s := ⟨_, rfl⟩
  rw [es] at hlat os sl ⊢
  have hok : MtOk (pc ps) k s t (mt (pc ps) 6 s t) := by
    rw [mt_same (cm := pc ps) (cm' := pc ps) (fun _ _ _ _ => rfl) (show k ≤ 6 by omega) os (ot.mono (by omega))]
    exact mt_ok (by omega) _ rfl os ot
  obtain ⟨hswp, hdiv, hnone, hall⟩ := hlat
  obtain ⟨r, hr⟩ : ∃ r, mt (pc ps) 6 s t = r := ⟨_, rfl⟩
  rw [hr] at hok hswp hdiv hnone hall
  have hl1 := hok.l1
  have hl2 := hok.l2
  obtain ⟨w, hw⟩ := hdiv
  have hwl := takeB_len _ _ _ hw
  have ly : lst (pc ps) 6 r.2.1 = lst (pc ps) k r.2.1 := lst_wide (K := 6) hok.o2 (by omega)
  have lz : lst (pc ps) 6 r.2.2 = lst (pc ps) k r.2.2 := lst_wide (K := 6) hok.o3 (by omega)
  rw [ly, lz] at hnone
  have yl := lst_len (cm := pc ps) (K := k) (l := r.2.1)
  have zl := lst_len (cm := pc ps) (K := k) (l := r.2.2)
  have oy : OkL k (lst (pc ps) k r.2.1) := lst_ok (by omega)
  have oz : OkL k (lst (pc ps) k r.2.2) := lst_ok (by omega)
  have e1 : chkE k ps 40 [s, t] = 0 := chk_two hT os ot (by omega) (by omega)
  have e1' : chkE k ps 40 [t, s] = 0 := chk_two hT ot os (by omega) (by omega)
  have e2 : chkE k ps 40 [r.1, s] = 0 := chk_two hT hok.o1 os (by omega) (by omega)
  have e3 : chkE k ps 40 [r.1, t] = 0 := chk_two hT hok.o1 ot (by omega) (by omega)
  have e4 : chkE k ps 40 [a, r.1] = 0 := chk_two hT ha hok.o1 (by omega) (by omega)
  have e5 : chkE k ps 40 [lst (pc ps) k r.2.1, lst (pc ps) k r.2.2] = 0 := chk_two hT oy oz (by omega) (by omega)
  have dn : decide ((0 : Int) ≠ 0) = false := rfl
  have d0 : decide ((0 : Int) = 0) = true := rfl
  simp only [go_sem,reduceIte,Nat.reduceEqDiff,Nat.reduceLT]
  refine CallO_f (Meet_spec (k := k) (by omega) hvp (by omega) (by omega) (by omega) (by omega)) (by omega) fun q h6 hp6 hq => ?_
  have m6 := hp6.next
  have pr6 : Pres h0.next h0 h6 := pr5.trans (hp6.le (by omega))
  have hvp6 : SlV h6.blks (h2.next + 1) h5.next 2 ps.length (prs ps) (.slice A ps.length ps.length) := hvp.mono fun b _ hb => hp6.get b (by omega)
  obtain rfl : q = .tuple #[strV r.1, .int .i64 0] := by
    rcases hq with ⟨h, _⟩ | ⟨_, rfl⟩
    · exact absurd e1 h
    · rw [hr]
  refine At_cut (Φ := fun β => β.get 7 = some (.int .i64 k) ∧ β.get 8 = some (.slice A ps.length ps.length) ∧ β.get 9 = some (strV a) ∧ β.get 10 = some (strV s) ∧ β.get 11 = some (strV t) ∧ β.get 65 = some (.tuple #[strV r.1, .int .i64 0])) ⟨by simp only [go_sem,reduceIte,Nat.reduceEqDiff,Nat.reduceLT], by simp only [go_sem,reduceIte,Nat.reduceEqDiff,Nat.reduceLT], by simp only [go_sem,reduceIte,Nat.reduceEqDiff,Nat.reduceLT], by simp only [go_sem,reduceIte,Nat.reduceEqDiff,Nat.reduceLT], by simp only [go_sem,reduceIte,Nat.reduceEqDiff,Nat.reduceLT], by simp only [go_sem,reduceIte,Nat.reduceEqDiff,Nat.reduceLT]⟩ fun β ⟨g7, g8, g9, g10, g11, g65⟩ => ?_
  simp only [go_sem,reduceIte,Nat.reduceEqDiff,Nat.reduceLT, g7, g8, g9, g10, g11, g65]
  refine CallO_f (Meet_spec (k := k) (by omega) hvp6 (by omega) (by omega) (by omega) (by omega)) (by omega) fun q h7 hp7 hq => ?_
  have m7 := hp7.next
  have pr7 : Pres h0.next h0 h7 := pr6.trans (hp7.le (by omega))
  have hvp7 : SlV h7.blks (h2.next + 1) h5.next 2 ps.length (prs ps) (.slice A ps.length ps.length) := hvp6.mono fun b _ hb => hp7.get b (by omega)
  have ht7 := ht.pres pr7 (fun x hx => by have := tabs_lt x hx; omega)
  obtain rfl : q = .tuple #[strV r.1, .int .i64 0] := by
    rcases hq with ⟨h, _⟩ | ⟨_, rfl⟩
    · exact absurd e1' h
    · rw [hswp]
  refine At_cut (Φ := fun β => β.get 7 = some (.int .i64 k) ∧ β.get 8 = some (.slice A ps.length ps.length) ∧ β.get 9 = some (strV a) ∧ β.get 10 = some (strV s) ∧ β.get 11 = some (strV t) ∧ β.get 12 = some (strV r.1) ∧ β.get 13 = some (.int .i64 0) ∧ β.get 73 = some (.tuple #[strV r.1, .int .i64 0])) ⟨by simp only [go_sem,reduceIte,Nat.reduceEqDiff,Nat.reduceLT, g7, g8, g9, g10, g11, g65], by simp only [go_sem,reduceIte,Nat.reduceEqDiff,Nat.reduceLT, g7, g8, g9, g10, g11, g65], by simp only [go_sem,reduceIte,Nat.reduceEqDiff,Nat.reduceLT, g7, g8, g9, g10, g11, g65], by simp only [go_sem,reduceIte,Nat.reduceEqDiff,Nat.reduceLT, g7, g8, g9, g10, g11, g65], by simp only [go_sem,reduceIte,Nat.reduceEqDiff,Nat.reduceLT, g7, g8, g9, g10, g11, g65], by simp only [go_sem,reduceIte,Nat.reduceEqDiff,Nat.reduceLT, g7, g8, g9, g10, g11, g65], by simp only [go_sem,reduceIte,Nat.reduceEqDiff,Nat.reduceLT, g7, g8, g9, g10, g11, g65], by simp only [go_sem,reduceIte,Nat.reduceEqDiff,Nat.reduceLT, g7, g8, g9, g10, g11, g65]⟩ fun β ⟨g7, g8, g9, g10, g11, g12, g13, g73⟩ => ?_
  have dm : decide (r.1 ≠ r.1) = false := decide_eq_false fun h => h rfl
  have dl : decide ((r.1.length : Int) < a.length) = false := decide_eq_false (by omega)
  simp (maxSteps := 2000000) (disch := omega) only [go_sem,reduceIte,Nat.reduceEqDiff,Nat.reduceLT, g7, g8, g9, g10, g11, g12, g13, g73, dn, dm, dl]
  refine Call_lives ht7 (by omega) ?_
  simp only [go_sem,reduceIte,Nat.reduceEqDiff,Nat.reduceLT, g7, g8, g9, g10, g11, g12, g13, g73]
  refine CallO_f (Rest_spec (k := k) (by omega) hvp7 (by omega) (by omega) (by omega) (by omega)) (by omega) fun q h8 hp8 hq => ?_
  have m8 := hp8.next
  have pr8 : Pres h0.next h0 h8 := pr7.trans (hp8.le (by omega))
  have hvp8 : SlV h8.blks (h2.next + 1) h5.next 2 ps.length (prs ps) (.slice A ps.length ps.length) := hvp7.mono fun b _ hb => hp8.get b (by omega)
  obtain rfl : q = .tuple #[strV (lst (pc ps) k r.2.1), .int .i64 0] := by
    rcases hq with ⟨h, _⟩ | ⟨_, rfl⟩
    · exact absurd e2 h
    · rw [hok.t1, Int.toNat_natCast]; rfl
  simp only [go_sem,reduceIte,Nat.reduceEqDiff,Nat.reduceLT, g7, g8, g9, g10, g11, g12, g13, g73]
  refine CallO_f (Rest_spec (k := k) (by omega) hvp8 (by omega) (by omega) (by omega) (by omega)) (by omega) fun q h9 hp9 hq => ?_
  have m9 := hp9.next
  have pr9 : Pres h0.next h0 h9 := pr8.trans (hp9.le (by omega))
  have hvp9 : SlV h9.blks (h2.next + 1) h5.next 2 ps.length (prs ps) (.slice A ps.length ps.length) := hvp8.mono fun b _ hb => hp9.get b (by omega)
  obtain rfl : q = .tuple #[strV (lst (pc ps) k r.2.2), .int .i64 0] := by
    rcases hq with ⟨h, _⟩ | ⟨_, rfl⟩
    · exact absurd e3 h
    · rw [hok.t2, Int.toNat_natCast]; rfl
  simp only [go_sem,reduceIte,Nat.reduceEqDiff,Nat.reduceLT, g7, g8, g9, g10, g11, g12, g13, g73]
  refine CallO_f (Rest_spec (k := k) (by omega) hvp9 (by omega) (by omega) (by omega) (by omega)) (by omega) fun q h10 hp10 hq => ?_
  have m10 := hp10.next
  have pr10 : Pres h0.next h0 h10 := pr9.trans (hp10.le (by omega))
  have hvp10 : SlV h10.blks (h2.next + 1) h5.next 2 ps.length (prs ps) (.slice A ps.length ps.length) := hvp9.mono fun b _ hb => hp10.get b (by omega)
  obtain rfl : q = .tuple #[strV (lst (pc ps) k w), .int .i64 0] := by
    rcases hq with ⟨h, _⟩ | ⟨_, rfl⟩
    · exact absurd e4 h
    · rw [hw, Int.toNat_natCast]; rfl
  obtain ⟨Y, eY⟩ : ∃ Y, lst (pc ps) k r.2.1 = Y := ⟨_, rfl⟩
  obtain ⟨Z, eZ⟩ : ∃ Z, lst (pc ps) k r.2.2 = Z := ⟨_, rfl⟩
  rw [eY] at hnone yl oy e5 ⊢
  rw [eZ] at hnone zl oz e5 ⊢
  refine At_cut (Φ := fun β => β.get 7 = some (.int .i64 k) ∧ β.get 8 = some (.slice A ps.length ps.length) ∧ β.get 10 = some (strV s) ∧ β.get 11 = some (strV t) ∧ β.get 12 = some (strV r.1) ∧ β.get 16 = some (strV Y) ∧ β.get 17 = some (.int .i64 0) ∧ β.get 18 = some (strV Z) ∧ β.get 19 = some (.int .i64 0) ∧ β.get 119 = some (.tuple #[strV (lst (pc ps) k w), .int .i64 0])) ⟨by simp only [go_sem,reduceIte,Nat.reduceEqDiff,Nat.reduceLT, g7, g8, g9, g10, g11, g12, g13, g73], by simp only [go_sem,reduceIte,Nat.reduceEqDiff,Nat.reduceLT, g7, g8, g9, g10, g11, g12, g13, g73], by simp only [go_sem,reduceIte,Nat.reduceEqDiff,Nat.reduceLT, g7, g8, g9, g10, g11, g12, g13, g73], by simp only [go_sem,reduceIte,Nat.reduceEqDiff,Nat.reduceLT, g7, g8, g9, g10, g11, g12, g13, g73], by simp only [go_sem,reduceIte,Nat.reduceEqDiff,Nat.reduceLT, g7, g8, g9, g10, g11, g12, g13, g73], by simp only [go_sem,reduceIte,Nat.reduceEqDiff,Nat.reduceLT, g7, g8, g9, g10, g11, g12, g13, g73], by simp only [go_sem,reduceIte,Nat.reduceEqDiff,Nat.reduceLT, g7, g8, g9, g10, g11, g12, g13, g73], by simp only [go_sem,reduceIte,Nat.reduceEqDiff,Nat.reduceLT, g7, g8, g9, g10, g11, g12, g13, g73], by simp only [go_sem,reduceIte,Nat.reduceEqDiff,Nat.reduceLT, g7, g8, g9, g10, g11, g12, g13, g73], by simp only [go_sem,reduceIte,Nat.reduceEqDiff,Nat.reduceLT, g7, g8, g9, g10, g11, g12, g13, g73]⟩ fun β ⟨g7, g8, g10, g11, g12, g16, g17, g18, g19, g119⟩ => ?_
  simp only [go_sem,reduceIte,Nat.reduceEqDiff,Nat.reduceLT, g7, g8, g10, g11, g12, g16, g17, g18, g19, g119, dn]
  refine CallO_f (Meet_spec (k := k) (by omega) hvp10 (by omega) (by omega) (by omega) (by omega)) (by omega) fun q h11 hp11 hq => ?_
  have m11 := hp11.next
  have pr11 : Pres h0.next h0 h11 := pr10.trans (hp11.le (by omega))
  have hvp11 : SlV h11.blks (h2.next + 1) h5.next 2 ps.length (prs ps) (.slice A ps.length ps.length) := hvp10.mono fun b _ hb => hp11.get b (by omega)
  obtain rfl : q = .tuple #[strV [], .int .i64 0] := by
    rcases hq with ⟨h, _⟩ | ⟨_, rfl⟩
    · exact absurd e5 h
    · rw [hnone]
  refine At_cut (Φ := fun β => β.get 7 = some (.int .i64 k) ∧ β.get 8 = some (.slice A ps.length ps.length) ∧ β.get 10 = some (strV s) ∧ β.get 11 = some (strV t) ∧ β.get 12 = some (strV r.1) ∧ β.get 137 = some (.tuple #[strV [], .int .i64 0])) ⟨by simp only [go_sem,reduceIte,Nat.reduceEqDiff,Nat.reduceLT, g7, g8, g10, g11, g12, g16, g17, g18, g19, g119], by simp only [go_sem,reduceIte,Nat.reduceEqDiff,Nat.reduceLT, g7, g8, g10, g11, g12, g16, g17, g18, g19, g119], by simp only [go_sem,reduceIte,Nat.reduceEqDiff,Nat.reduceLT, g7, g8, g10, g11, g12, g16, g17, g18, g19, g119], by simp only [go_sem,reduceIte,Nat.reduceEqDiff,Nat.reduceLT, g7, g8, g10, g11, g12, g16, g17, g18, g19, g119], by simp only [go_sem,reduceIte,Nat.reduceEqDiff,Nat.reduceLT, g7, g8, g10, g11, g12, g16, g17, g18, g19, g119], by simp only [go_sem,reduceIte,Nat.reduceEqDiff,Nat.reduceLT, g7, g8, g10, g11, g12, g16, g17, g18, g19, g119]⟩ fun β ⟨g7, g8, g10, g11, g12, g137⟩ => ?_
  simp only [go_sem,reduceIte,Nat.reduceEqDiff,Nat.reduceLT, g7, g8, g10, g11, g12, g137]
  refine CallO_f (Join_spec (k := k) (by omega) hvp11 (by omega) (by omega) (by omega) (by omega)) (by omega) fun q h12 hp12 hq => ?_
  have m12 := hp12.next
  have pr12 : Pres h0.next h0 h12 := pr11.trans (hp12.le (by omega))
  have hvp12 : SlV h12.blks (h2.next + 1) h5.next 2 ps.length (prs ps) (.slice A ps.length ps.length) := hvp11.mono fun b _ hb => hp12.get b (by omega)
  have dnil : decide (([] : List UInt8) ≠ []) = false := rfl
  by_cases hC : allC (pc ps) r.2.1 r.2.2 = true
  · obtain ⟨hJJ, hJl, ⟨w1', hw1'⟩, ⟨w2', hw2'⟩, hback⟩ := hall hC
    obtain rfl : q = .tuple #[strV (joinL (pc ps) 6 r), .int .i64 0] := by
      rcases hq with ⟨h, _⟩ | ⟨_, rfl⟩
      · exact absurd e1 h
      · rw [hr, if_pos hC]
    simp only [go_sem,reduceIte,Nat.reduceEqDiff,Nat.reduceLT, g7, g8, g10, g11, g12, g137]
    refine CallO_f (Join_spec (k := k) (by omega) hvp12 (by omega) (by omega) (by omega) (by omega)) (by omega) fun q h13 hp13 hq => ?_
    have m13 := hp13.next
    have pr13 : Pres h0.next h0 h13 := pr12.trans (hp13.le (by omega))
    have hvp13 : SlV h13.blks (h2.next + 1) h5.next 2 ps.length (prs ps) (.slice A ps.length ps.length) := hvp12.mono fun b _ hb => hp13.get b (by omega)
    obtain rfl : q = .tuple #[strV (joinL (pc ps) 6 r), .int .i64 0] := by
      rcases hq with ⟨h, _⟩ | ⟨_, rfl⟩
      · exact absurd e1' h
      · rw [hJJ, hswp, if_pos (by rw [allC_symm (pc_sym' ps)]; exact hC)]
    have oJ : OkL k (joinL (pc ps) 6 r) := by
      unfold joinL
      rw [lst_wide (K := 6) ((hok.o1.append hok.o2).append hok.o3) (by omega)]
      exact lst_ok (by omega)
    obtain ⟨Jn, eJ⟩ : ∃ Jn, joinL (pc ps) 6 r = Jn := ⟨_, rfl⟩
    rw [eJ] at hJl hw1' hw2' hback oJ ⊢
    refine At_cut (Φ := fun β => β.get 7 = some (.int .i64 k) ∧ β.get 8 = some (.slice A ps.length ps.length) ∧ β.get 10 = some (strV s) ∧ β.get 11 = some (strV t) ∧ β.get 12 = some (strV r.1) ∧ β.get 22 = some (strV []) ∧ β.get 23 = some (.int .i64 0) ∧ β.get 24 = some (strV Jn) ∧ β.get 25 = some (.int .i64 0) ∧ β.get 153 = some (.tuple #[strV Jn, .int .i64 0])) ⟨by simp only [go_sem,reduceIte,Nat.reduceEqDiff,Nat.reduceLT, g7, g8, g10, g11, g12, g137], by simp only [go_sem,reduceIte,Nat.reduceEqDiff,Nat.reduceLT, g7, g8, g10, g11, g12, g137], by simp only [go_sem,reduceIte,Nat.reduceEqDiff,Nat.reduceLT, g7, g8, g10, g11, g12, g137], by simp only [go_sem,reduceIte,Nat.reduceEqDiff,Nat.reduceLT, g7, g8, g10, g11, g12, g137], by simp only [go_sem,reduceIte,Nat.reduceEqDiff,Nat.reduceLT, g7, g8, g10, g11, g12, g137], by simp only [go_sem,reduceIte,Nat.reduceEqDiff,Nat.reduceLT, g7, g8, g10, g11, g12, g137], by simp only [go_sem,reduceIte,Nat.reduceEqDiff,Nat.reduceLT, g7, g8, g10, g11, g12, g137], by simp only [go_sem,reduceIte,Nat.reduceEqDiff,Nat.reduceLT, g7, g8, g10, g11, g12, g137], by simp only [go_sem,reduceIte,Nat.reduceEqDiff,Nat.reduceLT, g7, g8, g10, g11, g12, g137], by simp only [go_sem,reduceIte,Nat.reduceEqDiff,Nat.reduceLT, g7, g8, g10, g11, g12, g137]⟩ fun β ⟨g7, g8, g10, g11, g12, g22, g23, g24, g25, g153⟩ => ?_
    have e6 : chkE k ps 40 [s, Jn] = 0 := chk_two hT os oJ (by omega) (by omega)
    have e7 : chkE k ps 40 [t, Jn] = 0 := chk_two hT ot oJ (by omega) (by omega)
    have e8 : chkE k ps 40 [s] = 0 := chk_one hT os (by omega)
    have dJ : decide (Jn ≠ Jn) = false := decide_eq_false fun h => h rfl
    simp (maxSteps := 2000000) only [go_sem,reduceIte,Nat.reduceEqDiff,Nat.reduceLT, g7, g8, g10, g11, g12, g22, g23, g24, g25, g153, dn, dnil, dJ]
    refine CallO_f (Rest_spec (k := k) (by omega) hvp13 (by omega) (by omega) (by omega) (by omega)) (by omega) fun q h14 hp14 hq => ?_
    have m14 := hp14.next
    have pr14 : Pres h0.next h0 h14 := pr13.trans (hp14.le (by omega))
    have hvp14 : SlV h14.blks (h2.next + 1) h5.next 2 ps.length (prs ps) (.slice A ps.length ps.length) := hvp13.mono fun b _ hb => hp14.get b (by omega)
    obtain rfl : q = .tuple #[strV (lst (pc ps) k w1'), .int .i64 0] := by
      rcases hq with ⟨h, _⟩ | ⟨_, rfl⟩
      · exact absurd e6 h
      · rw [hw1', Int.toNat_natCast]; rfl
    simp only [go_sem,reduceIte,Nat.reduceEqDiff,Nat.reduceLT, g7, g8, g10, g11, g12, g22, g23, g24, g25, g153]
    refine CallO_f (Rest_spec (k := k) (by omega) hvp14 (by omega) (by omega) (by omega) (by omega)) (by omega) fun q h15 hp15 hq => ?_
    have m15 := hp15.next
    have pr15 : Pres h0.next h0 h15 := pr14.trans (hp15.le (by omega))
    have hvp15 : SlV h15.blks (h2.next + 1) h5.next 2 ps.length (prs ps) (.slice A ps.length ps.length) := hvp14.mono fun b _ hb => hp15.get b (by omega)
    obtain rfl : q = .tuple #[strV (lst (pc ps) k w2'), .int .i64 0] := by
      rcases hq with ⟨h, _⟩ | ⟨_, rfl⟩
      · exact absurd e7 h
      · rw [hw2', Int.toNat_natCast]; rfl
    refine At_cut (Φ := fun β => β.get 7 = some (.int .i64 k) ∧ β.get 8 = some (.slice A ps.length ps.length) ∧ β.get 10 = some (strV s) ∧ β.get 11 = some (strV t) ∧ β.get 12 = some (strV r.1) ∧ β.get 24 = some (strV Jn) ∧ β.get 29 = some (.int .i64 0) ∧ β.get 195 = some (.tuple #[strV (lst (pc ps) k w2'), .int .i64 0])) ⟨by simp only [go_sem,reduceIte,Nat.reduceEqDiff,Nat.reduceLT, g7, g8, g10, g11, g12, g22, g23, g24, g25, g153], by simp only [go_sem,reduceIte,Nat.reduceEqDiff,Nat.reduceLT, g7, g8, g10, g11, g12, g22, g23, g24, g25, g153], by simp only [go_sem,reduceIte,Nat.reduceEqDiff,Nat.reduceLT, g7, g8, g10, g11, g12, g22, g23, g24, g25, g153], by simp only [go_sem,reduceIte,Nat.reduceEqDiff,Nat.reduceLT, g7, g8, g10, g11, g12, g22, g23, g24, g25, g153], by simp only [go_sem,reduceIte,Nat.reduceEqDiff,Nat.reduceLT, g7, g8, g10, g11, g12, g22, g23, g24, g25, g153], by simp only [go_sem,reduceIte,Nat.reduceEqDiff,Nat.reduceLT, g7, g8, g10, g11, g12, g22, g23, g24, g25, g153], by simp only [go_sem,reduceIte,Nat.reduceEqDiff,Nat.reduceLT, g7, g8, g10, g11, g12, g22, g23, g24, g25, g153], by simp only [go_sem,reduceIte,Nat.reduceEqDiff,Nat.reduceLT, g7, g8, g10, g11, g12, g22, g23, g24, g25, g153]⟩ fun β ⟨g7, g8, g10, g11, g12, g24, g29, g195⟩ => ?_
    simp only [go_sem,reduceIte,Nat.reduceEqDiff,Nat.reduceLT, g7, g8, g10, g11, g12, g24, g29, g195]
    refine CallO_f (Meet_spec (k := k) (by omega) hvp15 (by omega) (by omega) (by omega) (by omega)) (by omega) fun q h16 hp16 hq => ?_
    have m16 := hp16.next
    have pr16 : Pres h0.next h0 h16 := pr15.trans (hp16.le (by omega))
    have hvp16 : SlV h16.blks (h2.next + 1) h5.next 2 ps.length (prs ps) (.slice A ps.length ps.length) := hvp15.mono fun b _ hb => hp16.get b (by omega)
    obtain rfl : q = .tuple #[strV (lst (pc ps) k s), .int .i64 0] := by
      rcases hq with ⟨h, _⟩ | ⟨_, rfl⟩
      · exact absurd e6 h
      · rw [hback, lst_wide (K := 6) os (by omega)]
    simp only [go_sem,reduceIte,Nat.reduceEqDiff,Nat.reduceLT, g7, g8, g10, g11, g12, g24, g29, g195]
    refine CallO_f (Least_spec (k := k) (by omega) hvp16 (by omega) (by omega) (by omega)) (by omega) fun q h17 hp17 hq => ?_
    have pr17 : Pres h0.next h0 h17 := pr16.trans (hp17.le (by omega))
    obtain rfl : q = .tuple #[strV (lst (pc ps) k s), .int .i64 0] := by
      rcases hq with ⟨h, _⟩ | ⟨_, rfl⟩
      · exact absurd e8 h
      · rw [Int.toNat_natCast]
    refine At_cut (Φ := fun β => β.get 10 = some (strV s) ∧ β.get 11 = some (strV t) ∧ β.get 12 = some (strV r.1) ∧ β.get 24 = some (strV Jn) ∧ β.get 29 = some (.int .i64 0) ∧ β.get 31 = some (.int .i64 0) ∧ β.get 32 = some (strV (lst (pc ps) k s)) ∧ β.get 33 = some (.int .i64 0) ∧ β.get 210 = some (.tuple #[strV (lst (pc ps) k s), .int .i64 0])) ⟨by simp only [go_sem,reduceIte,Nat.reduceEqDiff,Nat.reduceLT, g7, g8, g10, g11, g12, g24, g29, g195], by simp only [go_sem,reduceIte,Nat.reduceEqDiff,Nat.reduceLT, g7, g8, g10, g11, g12, g24, g29, g195], by simp only [go_sem,reduceIte,Nat.reduceEqDiff,Nat.reduceLT, g7, g8, g10, g11, g12, g24, g29, g195], by simp only [go_sem,reduceIte,Nat.reduceEqDiff,Nat.reduceLT, g7, g8, g10, g11, g12, g24, g29, g195], by simp only [go_sem,reduceIte,Nat.reduceEqDiff,Nat.reduceLT, g7, g8, g10, g11, g12, g24, g29, g195], by simp only [go_sem,reduceIte,Nat.reduceEqDiff,Nat.reduceLT, g7, g8, g10, g11, g12, g24, g29, g195], by simp only [go_sem,reduceIte,Nat.reduceEqDiff,Nat.reduceLT, g7, g8, g10, g11, g12, g24, g29, g195], by simp only [go_sem,reduceIte,Nat.reduceEqDiff,Nat.reduceLT, g7, g8, g10, g11, g12, g24, g29, g195], by simp only [go_sem,reduceIte,Nat.reduceEqDiff,Nat.reduceLT, g7, g8, g10, g11, g12, g24, g29, g195]⟩ fun β ⟨g10, g11, g12, g24, g29, g31, g32, g33, g210⟩ => ?_
    have dsl : decide (lst (pc ps) k s = lst (pc ps) k s) = true := decide_eq_true rfl
    have djl : decide ((Jn.length : Int) = (s.length : Int) + t.length - r.1.length) = true := decide_eq_true (by omega)
    simp (maxSteps := 2000000) (disch := omega) only [go_sem,reduceIte,Nat.reduceEqDiff,Nat.reduceLT, g10, g11, g12, g24, g29, g31, g32, g33, g210, d0, dsl, wrap_i64, djl]
    exact hQ' _ _ ⟨pr17, rfl⟩
  · obtain rfl : q = .tuple #[strV [], .int .i64 5] := by
      rcases hq with ⟨h, _⟩ | ⟨_, rfl⟩
      · exact absurd e1 h
      · rw [hr, if_neg hC]
    simp only [go_sem,reduceIte,Nat.reduceEqDiff,Nat.reduceLT, g7, g8, g10, g11, g12, g137]
    refine CallO_f (Join_spec (k := k) (by omega) hvp12 (by omega) (by omega) (by omega) (by omega)) (by omega) fun q h13 hp13 hq => ?_
    have m13 := hp13.next
    have pr13 : Pres h0.next h0 h13 := pr12.trans (hp13.le (by omega))
    obtain rfl : q = .tuple #[strV [], .int .i64 5] := by
      rcases hq with ⟨h, _⟩ | ⟨_, rfl⟩
      · exact absurd e1' h
      · rw [hswp, if_neg (by rw [allC_symm (pc_sym' ps)]; exact hC)]
    refine At_cut (Φ := fun β => β.get 22 = some (strV []) ∧ β.get 23 = some (.int .i64 0) ∧ β.get 24 = some (strV []) ∧ β.get 25 = some (.int .i64 5) ∧ β.get 153 = some (.tuple #[strV [], .int .i64 5])) ⟨by simp only [go_sem,reduceIte,Nat.reduceEqDiff,Nat.reduceLT, g7, g8, g10, g11, g12, g137], by simp only [go_sem,reduceIte,Nat.reduceEqDiff,Nat.reduceLT, g7, g8, g10, g11, g12, g137], by simp only [go_sem,reduceIte,Nat.reduceEqDiff,Nat.reduceLT, g7, g8, g10, g11, g12, g137], by simp only [go_sem,reduceIte,Nat.reduceEqDiff,Nat.reduceLT, g7, g8, g10, g11, g12, g137], by simp only [go_sem,reduceIte,Nat.reduceEqDiff,Nat.reduceLT, g7, g8, g10, g11, g12, g137]⟩ fun β ⟨g22, g23, g24, g25, g153⟩ => ?_
    have d55 : decide ((5 : Int) ≠ 5) = false := rfl
    have d50 : decide ((5 : Int) ≠ 0) = true := rfl
    simp (maxSteps := 2000000) only [go_sem,reduceIte,Nat.reduceEqDiff,Nat.reduceLT, g22, g23, g24, g25, g153, dn, dnil, d55, d50]
    exact hQ' _ _ ⟨pr13, rfl⟩
end
end Go.Proofs.YthankillfhmfkaaGreatDoor.Ev


