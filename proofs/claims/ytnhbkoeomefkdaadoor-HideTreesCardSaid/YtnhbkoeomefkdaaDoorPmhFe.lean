/- Facts of the program's types, where nothing is known of any call. By program. -/
import Derived.Test.YtnhbkoeomefkdaaDoorPmhS1
set_option linter.unusedSimpArgs false
set_option linter.unusedVariables false
namespace Go.Proofs.YtnhbkoeomefkdaaDoor.Es
open Go Go.Proofs Go.Proofs.YtnhbkoeomefkdaaDoor.Ev
noncomputable section
/-- nothing is known of any call -/
noncomputable def Es (G : Nat) : Env := strictE (envOf Tryd.prog 179 3 G)
theorem Es_u {G t : Nat} : (Es G).u t = (envOf Tryd.prog 179 3 G).u t := strictE_u
theorem Es_i {G t : Nat} : (Es G).i t = (envOf Tryd.prog 179 3 G).i t := strictE_i
theorem Es_G {G : Nat} : (Es G).G = G := strictE_G.trans envOf_G
instance {G : Nat} : NoFz (Es G) := ⟨strictE_fzl.trans envOf_fzl⟩
theorem Es_known {G f : Nat} : (Es G).known.get f = none ∧ (Es G).orc.get f = none := by
  have e1 : (Es G).known = .e := strictE_known.trans envOf_known
  have e2 : (Es G).orc = .e := strictE_orc.trans envOf_orc
  rw [e1, e2]
  exact ⟨Tr.get_e f, Tr.get_e f⟩
theorem Es_f {G : Nat} {f : FuncId} : (Es G).fns.get f = Tryd.prog.funcs[f]? := by
  have : (Es G).fns = (envOf Tryd.prog 179 3 G).fns := strictE_f
  rw [this]; exact envOf_f
theorem Es_ok {G : Nat} : EnvOK Tryd.prog (Es G) := strict_ok (envOf_ok mixed) envOf_known envOf_orc
theorem Es_strict {G : Nat} : (Es G).strict = true := strictE_s
theorem Es_N {G : Nat} : (Es G).N = 3 := strictE_N.trans envOf_N
theorem u2 {G : Nat} : (Es G).u 2 = some (.int .i64) := Es_u.trans <| (envOf_u (by decide)).trans Tryd.underlying2
theorem i2 {G : Nat} : (Es G).i 2 = some inf2 := Es_i.trans <| (envOf_i (by decide)).trans (by kernel_rfl)
theorem u3 {G : Nat} : (Es G).u 3 = some (.int .i64) := Es_u.trans <| (envOf_u (by decide)).trans Tryd.underlying3
theorem agg3 {G : Nat} : (Es G).agg 3 = some false := by unfold Env.agg; rw [u3]
theorem load3 {G : Nat} {B : Tr Blk} {b off : Nat} : loadO (Es G) 3 B (some (.pointer (some ⟨b, off, none⟩))) = loadv B b off := loadO_one agg3
theorem i3 {G : Nat} : (Es G).i 3 = some inf3 := Es_i.trans <| (envOf_i (by decide)).trans (by kernel_rfl)
theorem i4 {G : Nat} : (Es G).i 4 = some inf4 := Es_i.trans <| (envOf_i (by decide)).trans (by kernel_rfl)
theorem u27 {G : Nat} : (Es G).u 27 = some (.slice 3) := Es_u.trans <| (envOf_u (by decide)).trans Tryd.underlying27
theorem len27 {G n c : Nat} {A : Option Addr} {B : Tr Blk} : lenO (Es G) B 27 (some (.slice A n c)) = some (.int .i64 n) := lenO_slice u27
theorem i61 {G : Nat} : (Es G).i 61 = some inf61 := Es_i.trans <| (envOf_i (by decide)).trans (by kernel_rfl)
theorem i100 {G : Nat} : (Es G).i 100 = some inf100 := Es_i.trans <| (envOf_i (by decide)).trans (by kernel_rfl)
theorem us61 {G : Nat} : (Es G).u 61 = Tryd.prog.underlying 61 := Es_u.trans <| envOf_u (by decide)
theorem agg61 {G : Nat} : (Es G).agg 61 = some true := by unfold Env.agg; rw [us61, Tryd.underlying61]
theorem us100 {G : Nat} : (Es G).u 100 = Tryd.prog.underlying 100 := Es_u.trans <| envOf_u (by decide)
theorem agg100 {G : Nat} : (Es G).agg 100 = some true := by unfold Env.agg; rw [us100, Tryd.underlying100]
theorem idxA27 {G b off n c : Nat} {kd : IntKind} {z : Int} (h0 : 0 ≤ z) (h1 : z < n) : idxAddrO (Es G) 27 (some (.slice (some ⟨b, off, none⟩) n c)) (some (.int kd z)) = some (.pointer (some ⟨b, off + z.toNat * 1, none⟩)) := by
  rw [idxAddrO_slice u27 i3 h0 h1, size3]
theorem fld61_0 {G b off : Nat} : fieldAddrO (Es G) 61 0 (some (.pointer (some ⟨b, off, none⟩))) = some (.pointer (some ⟨b, off + 0, none⟩)) := by
  simp only [fieldAddrO, evFieldAddr, us61, Tryd.underlying61, List.getElem?_toArray, List.getElem?_cons_zero, List.getElem?_cons_succ, i3, size3, forceN_eq]
  rfl
theorem fld61_1 {G b off : Nat} : fieldAddrO (Es G) 61 1 (some (.pointer (some ⟨b, off, none⟩))) = some (.pointer (some ⟨b, off + 1, none⟩)) := by
  simp only [fieldAddrO, evFieldAddr, us61, Tryd.underlying61, List.getElem?_toArray, List.getElem?_cons_zero, List.getElem?_cons_succ, i3, size3, forceN_eq]
  rfl
theorem fld61_2 {G b off : Nat} : fieldAddrO (Es G) 61 2 (some (.pointer (some ⟨b, off, none⟩))) = some (.pointer (some ⟨b, off + 2, none⟩)) := by
  simp only [fieldAddrO, evFieldAddr, us61, Tryd.underlying61, List.getElem?_toArray, List.getElem?_cons_zero, List.getElem?_cons_succ, i3, size3, forceN_eq]
  rfl
theorem fld100_0 {G b off : Nat} : fieldAddrO (Es G) 100 0 (some (.pointer (some ⟨b, off, none⟩))) = some (.pointer (some ⟨b, off + 0, none⟩)) := by
  simp only [fieldAddrO, evFieldAddr, us100, Tryd.underlying100, List.getElem?_toArray, List.getElem?_cons_zero, List.getElem?_cons_succ, i3, size3, forceN_eq]
  rfl
theorem fld100_1 {G b off : Nat} : fieldAddrO (Es G) 100 1 (some (.pointer (some ⟨b, off, none⟩))) = some (.pointer (some ⟨b, off + 1, none⟩)) := by
  simp only [fieldAddrO, evFieldAddr, us100, Tryd.underlying100, List.getElem?_toArray, List.getElem?_cons_zero, List.getElem?_cons_succ, i3, size3, forceN_eq]
  rfl
theorem fld100_2 {G b off : Nat} : fieldAddrO (Es G) 100 2 (some (.pointer (some ⟨b, off, none⟩))) = some (.pointer (some ⟨b, off + 2, none⟩)) := by
  simp only [fieldAddrO, evFieldAddr, us100, Tryd.underlying100, List.getElem?_toArray, List.getElem?_cons_zero, List.getElem?_cons_succ, i3, size3, forceN_eq]
  rfl

theorem isNaN_spec {G : Nat} {x : Int} {h : H} : Ev.Spec Tryd.prog (Es G) 82 [.int .i64 x] h fun v h' => v = .bool false ∧ h' = h := by
  refine CallsE_enter Es_known (Es_f.trans Tryd.func82) rfl ⟨Nat.le_of_ble_eq_true rfl, by decide⟩ fun Q' hQ' => ?_
  have d : decide (x ≠ x) = false := decide_eq_false fun e => e rfl
  simp only [Tryd.f82, go_sem,reduceIte,Nat.reduceEqDiff,Nat.reduceLT, d]
  exact hQ' _ _ ⟨Pres.refl _ _, rfl, rfl⟩
def cmp (x y : Int) : Int := if x < y then -1 else if y < x then 1 else 0
theorem Compare_spec {G : Nat} {x y : Int} {h : H} : Ev.Spec Tryd.prog (Es G) 68 [.int .i64 x, .int .i64 y] h fun v h' => v = .int .i64 (cmp x y) ∧ h' = h := by
  refine CallsE_enter Es_known (Es_f.trans Tryd.func68) rfl ⟨Nat.le_of_ble_eq_true rfl, by decide⟩ fun Q' hQ' => ?_
  simp only [Tryd.f68, go_sem,reduceIte,Nat.reduceEqDiff,Nat.reduceLT]
  refine CallO_same (Q := fun v => v = .bool false) isNaN_spec (by omega) fun u hu => ?_
  subst hu
  simp only [go_sem,reduceIte,Nat.reduceEqDiff,Nat.reduceLT]
  refine CallO_same (Q := fun v => v = .bool false) isNaN_spec (by omega) fun u hu => ?_
  subst hu
  by_cases h1 : x < y
  · simp only [go_sem,reduceIte,Nat.reduceEqDiff,Nat.reduceLT, h1]
    exact hQ' _ _ ⟨Pres.refl _ _, by unfold cmp; rw [if_pos h1], rfl⟩
  · by_cases h2 : y < x
    · simp only [go_sem,reduceIte,Nat.reduceEqDiff,Nat.reduceLT, h1, h2]
      exact hQ' _ _ ⟨Pres.refl _ _, by unfold cmp; rw [if_neg h1, if_pos h2], rfl⟩
    · simp only [go_sem,reduceIte,Nat.reduceEqDiff,Nat.reduceLT, h1, h2]
      exact hQ' _ _ ⟨Pres.refl _ _, by unfold cmp; rw [if_neg h1, if_neg h2], rfl⟩
/-- cmp.Or of two numbers -/
theorem Or_spec {G lo hi : Nat} {x y : Int} {A : Option Addr} {c : Nat} {h : H} (hv : SlV h.blks lo hi 1 2 [.int .i64 x, .int .i64 y] (.slice A 2 c)) : Ev.Spec Tryd.prog (Es G) 67 [.slice A 2 c] h fun v h' => v = .int .i64 (if x ≠ 0 then x else y) ∧ h' = h := by
  refine CallsE_enter Es_known (Es_f.trans Tryd.func67) rfl ⟨Nat.le_of_ble_eq_true rfl, by decide⟩ fun Q' hQ' => ?_
  obtain ⟨b, off, rfl, _, _, hld⟩ := hv.at_ (by omega)
  have l0 := hld 0 (by simp)
  have l1 := hld 1 (by simp)
  simp only [List.getElem?_cons_zero, List.getElem?_cons_succ, Nat.add_zero] at l0 l1
  simp only [Tryd.f67, go_sem,reduceIte,Nat.reduceEqDiff,Nat.reduceLT, len27]
  refine WK_loopN (fun j α h2 => ∃ i : Nat, i + j = 2 ∧ h2 = h ∧ (i = 1 → x = 0) ∧ (i = 2 → x = 0 ∧ y = 0) ∧ α.get 3 = some (.int .i64 0) ∧ α.get 6 = some (.slice (some ⟨b, off, none⟩) 2 c) ∧ α.get 7 = some (.int .i64 2) ∧ α.get 8 = some (.int .i64 i)) 2
    ⟨0, rfl, rfl, by omega, by omega, by simp only [go_sem,reduceIte,Nat.reduceEqDiff,Nat.reduceLT], by simp only [go_sem,reduceIte,Nat.reduceEqDiff,Nat.reduceLT], by (simp only [go_sem,reduceIte,Nat.reduceEqDiff,Nat.reduceLT]) <;> rfl, by (simp only [go_sem,reduceIte,Nat.reduceEqDiff,Nat.reduceLT]) <;> rfl⟩ (by omega) ?_
  rintro J j α h2 ⟨i, hij, rfl, hx, hy, e3, e6, e7, e8⟩ hJ
  obtain rfl | rfl | rfl : i = 0 ∨ i = 1 ∨ i = 2 := by omega
  · have c1 : ((0 : Nat) : Int) < 2 := by decide
    have i0 : Int.toNat ((0 : Nat) : Int) = 0 := rfl
    by_cases h0 : x = 0
    · have d : decide (x ≠ 0) = false := decide_eq_false fun e => e h0
      simp (disch := omega) only [go_sem,reduceIte,Nat.reduceEqDiff,Nat.reduceLT, e3, e6, e7, e8, c1, idxA27, i0, Nat.zero_mul, Nat.add_zero, load3, l0, d, wrap_i64]
      exact hJ 1 _ _ (by omega) ⟨1, rfl, rfl, fun _ => h0, by omega, by simp only [go_sem,reduceIte,Nat.reduceEqDiff,Nat.reduceLT, e3], by simp only [go_sem,reduceIte,Nat.reduceEqDiff,Nat.reduceLT, e6], by simp only [go_sem,reduceIte,Nat.reduceEqDiff,Nat.reduceLT, e7], by (simp only [go_sem,reduceIte,Nat.reduceEqDiff,Nat.reduceLT]) <;> rfl⟩
    · have d : decide (x ≠ 0) = true := decide_eq_true h0
      simp (disch := omega) only [go_sem,reduceIte,Nat.reduceEqDiff,Nat.reduceLT, e3, e6, e7, e8, c1, idxA27, i0, Nat.zero_mul, Nat.add_zero, load3, l0, d]
      exact hQ' _ _ ⟨Pres.refl _ _, by rw [if_pos h0], rfl⟩
  · have c1 : ((1 : Nat) : Int) < 2 := by decide
    have i0 : Int.toNat ((1 : Nat) : Int) = 1 := rfl
    have hx0 := hx rfl
    by_cases h0 : y = 0
    · have d : decide (y ≠ 0) = false := decide_eq_false fun e => e h0
      simp (disch := omega) only [go_sem,reduceIte,Nat.reduceEqDiff,Nat.reduceLT, e3, e6, e7, e8, c1, idxA27, i0, Nat.one_mul, load3, l1, d, wrap_i64]
      exact hJ 0 _ _ (by omega) ⟨2, rfl, rfl, by omega, fun _ => ⟨hx0, h0⟩, by simp only [go_sem,reduceIte,Nat.reduceEqDiff,Nat.reduceLT, e3], by simp only [go_sem,reduceIte,Nat.reduceEqDiff,Nat.reduceLT, e6], by simp only [go_sem,reduceIte,Nat.reduceEqDiff,Nat.reduceLT, e7], by (simp only [go_sem,reduceIte,Nat.reduceEqDiff,Nat.reduceLT]) <;> rfl⟩
    · have d : decide (y ≠ 0) = true := decide_eq_true h0
      simp (disch := omega) only [go_sem,reduceIte,Nat.reduceEqDiff,Nat.reduceLT, e3, e6, e7, e8, c1, idxA27, i0, Nat.one_mul, load3, l1, d]
      exact hQ' _ _ ⟨Pres.refl _ _, by rw [if_neg (fun e => e hx0)], rfl⟩
  · have c1 : ¬ ((2 : Nat) : Int) < 2 := by decide
    obtain ⟨hx0, hy0⟩ := hy rfl
    simp (disch := omega) only [go_sem,reduceIte,Nat.reduceEqDiff,Nat.reduceLT, e3, e6, e7, e8, c1]
    exact hQ' _ _ ⟨Pres.refl _ _, by rw [if_neg (fun e => e hx0), hy0], rfl⟩
end
end Go.Proofs.YtnhbkoeomefkdaaDoor.Es

