/- The comparisons of this seat; its sorts are known. -/
import Derived.Test.YtnhbkoeomefkdaaDoorPmhFe
set_option linter.unusedSimpArgs false
set_option linter.unusedVariables false
namespace Go.Proofs.YtnhbkoeomefkdaaDoor.Es
open Go Go.Proofs Go.Proofs.YtnhbkoeomefkdaaDoor.Ev
noncomputable section

theorem or_cmp {p p' q q' : Int} : (if cmp p p' ≠ 0 then cmp p p' else cmp q q') = lex2 p p' q q' := by
  unfold cmp lex2
  by_cases h1 : p < p'
  · rw [if_pos h1, if_pos h1, if_pos (by decide)]
  · rw [if_neg h1, if_neg h1]
    by_cases h2 : p' < p
    · rw [if_pos h2, if_pos h2, if_pos (by decide)]
    · rw [if_neg h2, if_neg h2, if_neg (fun e => e rfl)]

theorem tri_cells {a b c : Int} : (Value.agg (tri a b c).toArray).cells.toList = [.int .i64 a, .int .i64 b, .int .i64 c] := rfl
set_option maxHeartbeats 4000000 in
theorem inOrder_spec {G : Nat} {a b c a' b' c' : Int} {h : H} (hG : G ≤ h.next) : Ev.Spec Tryd.prog (Es G) 56 [.agg (tri a b c).toArray, .agg (tri a' b' c').toArray] h fun v _ => v = .int .i64 (lex2 b b' a a') := by
  refine CallsE_enter Es_known (Es_f.trans Tryd.func56) rfl ⟨Nat.le_of_ble_eq_true rfl, by decide⟩ fun Q' hQ' => ?_
  simp only [Tryd.f56, go_sem,reduceIte,Nat.reduceEqDiff,Nat.reduceLT]
  refine At_box (v := .agg (tri a b c).toArray) (by (simp only [go_sem,reduceIte,Nat.reduceEqDiff,Nat.reduceLT]) <;> rfl) (by omega) fun h0 hn0 => ?_
  have v0 := hn0.var
  rw [tri_cells] at v0
  have n0 := hn0.next
  have pr0 : Pres h.next h h0 := hn0.pres (Nat.le_refl _)
  try simp only [go_sem,reduceIte,Nat.reduceEqDiff,Nat.reduceLT]
  refine At_box (v := .agg (tri a' b' c').toArray) (by (simp only [go_sem,reduceIte,Nat.reduceEqDiff,Nat.reduceLT]) <;> rfl) (by omega) fun h1 hn1 => ?_
  have v1 := hn1.var
  rw [tri_cells] at v1
  have n1 := hn1.next
  have pr1 : Pres h0.next h0 h1 := hn1.pres (Nat.le_refl _)
  have v0' := v0.mono (B' := h1.blks) (pr1.get _ (by omega))
  have la : loadv h1.blks h.next 0 = some (.int .i64 a) := v0'.load (i := 0) (by simp only [List.length_cons, List.length_nil]; omega)
  have lb : loadv h1.blks h.next 1 = some (.int .i64 b) := v0'.load (i := 1) (by simp only [List.length_cons, List.length_nil]; omega)
  have la' : loadv h1.blks h0.next 0 = some (.int .i64 a') := v1.load (i := 0) (by simp only [List.length_cons, List.length_nil]; omega)
  have lb' : loadv h1.blks h0.next 1 = some (.int .i64 b') := v1.load (i := 1) (by simp only [List.length_cons, List.length_nil]; omega)
  simp only [go_sem,reduceIte,Nat.reduceEqDiff,Nat.reduceLT]
  refine WK_regionT 9 ⟨by kernel_rfl, by kernel_rfl, by kernel_rfl⟩ ?_
  simp only [go_sem,reduceIte,Nat.reduceEqDiff,Nat.reduceLT, fld61_0, fld61_1, Nat.add_zero, Nat.zero_add, load3, la, lb, la', lb']
  refine CallO_same (Q := fun v => v = .int .i64 (cmp b b')) Compare_spec (by omega) fun u hu => ?_
  subst hu
  simp only [go_sem,reduceIte,Nat.reduceEqDiff,Nat.reduceLT, fld61_0, fld61_1, Nat.add_zero, Nat.zero_add, load3, la, lb, la', lb']
  refine CallO_same (Q := fun v => v = .int .i64 (cmp a a')) Compare_spec (by omega) fun u hu => ?_
  subst hu
  try simp only [go_sem,reduceIte,Nat.reduceEqDiff,Nat.reduceLT]
  refine At_lit (vs := [(0, .int .i64 (cmp b b')), (1, .int .i64 (cmp a a'))]) (cs := #[.int .i64 (cmp b b'), .int .i64 (cmp a a')]) u27 i3 zero3 (by rw [size3]; rfl) (by simp only [go_sem,reduceIte,Nat.reduceEqDiff,Nat.reduceLT]) (by rw [size3]; rfl) (by omega) fun h2 hn2 => ?_
  rw [size3] at hn2
  have n2 := hn2.next
  have pr2 : Pres h1.next h1 h2 := hn2.pres (Nat.le_refl _)
  have sv := hn2.slv (n := 2) (c := 2) rfl
  simp only [go_sem,reduceIte,Nat.reduceEqDiff,Nat.reduceLT]
  refine CallO_f (Or_spec sv) (by omega) fun u h3 pr3 ⟨hu, he⟩ => ?_
  subst hu
  subst he
  rw [or_cmp]
  simp only [go_sem,reduceIte,Nat.reduceEqDiff,Nat.reduceLT]
  exact hQ' _ _ ⟨pr0.trans ((pr1.le (by omega)).trans (pr2.le (by omega))), rfl⟩

set_option maxHeartbeats 4000000 in
theorem line_spec {G : Nat} {a b c a' b' c' : Int} {h : H} (hG : G ≤ h.next) : Ev.Spec Tryd.prog (Es G) 66 [.agg (tri a b c).toArray, .agg (tri a' b' c').toArray] h fun v _ => v = .int .i64 (lex2 a a' b b') := by
  refine CallsE_enter Es_known (Es_f.trans Tryd.func66) rfl ⟨Nat.le_of_ble_eq_true rfl, by decide⟩ fun Q' hQ' => ?_
  simp only [Tryd.f66, go_sem,reduceIte,Nat.reduceEqDiff,Nat.reduceLT]
  refine At_box (v := .agg (tri a b c).toArray) (by (simp only [go_sem,reduceIte,Nat.reduceEqDiff,Nat.reduceLT]) <;> rfl) (by omega) fun h0 hn0 => ?_
  have v0 := hn0.var
  rw [tri_cells] at v0
  have n0 := hn0.next
  have pr0 : Pres h.next h h0 := hn0.pres (Nat.le_refl _)
  try simp only [go_sem,reduceIte,Nat.reduceEqDiff,Nat.reduceLT]
  refine At_box (v := .agg (tri a' b' c').toArray) (by (simp only [go_sem,reduceIte,Nat.reduceEqDiff,Nat.reduceLT]) <;> rfl) (by omega) fun h1 hn1 => ?_
  have v1 := hn1.var
  rw [tri_cells] at v1
  have n1 := hn1.next
  have pr1 : Pres h0.next h0 h1 := hn1.pres (Nat.le_refl _)
  have v0' := v0.mono (B' := h1.blks) (pr1.get _ (by omega))
  have la : loadv h1.blks h.next 0 = some (.int .i64 a) := v0'.load (i := 0) (by simp only [List.length_cons, List.length_nil]; omega)
  have lb : loadv h1.blks h.next 1 = some (.int .i64 b) := v0'.load (i := 1) (by simp only [List.length_cons, List.length_nil]; omega)
  have la' : loadv h1.blks h0.next 0 = some (.int .i64 a') := v1.load (i := 0) (by simp only [List.length_cons, List.length_nil]; omega)
  have lb' : loadv h1.blks h0.next 1 = some (.int .i64 b') := v1.load (i := 1) (by simp only [List.length_cons, List.length_nil]; omega)
  simp only [go_sem,reduceIte,Nat.reduceEqDiff,Nat.reduceLT]
  refine WK_regionT 9 ⟨by kernel_rfl, by kernel_rfl, by kernel_rfl⟩ ?_
  simp only [go_sem,reduceIte,Nat.reduceEqDiff,Nat.reduceLT, fld100_0, fld100_1, Nat.add_zero, Nat.zero_add, load3, la, lb, la', lb']
  refine CallO_same (Q := fun v => v = .int .i64 (cmp a a')) Compare_spec (by omega) fun u hu => ?_
  subst hu
  simp only [go_sem,reduceIte,Nat.reduceEqDiff,Nat.reduceLT, fld100_0, fld100_1, Nat.add_zero, Nat.zero_add, load3, la, lb, la', lb']
  refine CallO_same (Q := fun v => v = .int .i64 (cmp b b')) Compare_spec (by omega) fun u hu => ?_
  subst hu
  try simp only [go_sem,reduceIte,Nat.reduceEqDiff,Nat.reduceLT]
  refine At_lit (vs := [(0, .int .i64 (cmp a a')), (1, .int .i64 (cmp b b'))]) (cs := #[.int .i64 (cmp a a'), .int .i64 (cmp b b')]) u27 i3 zero3 (by rw [size3]; rfl) (by simp only [go_sem,reduceIte,Nat.reduceEqDiff,Nat.reduceLT]) (by rw [size3]; rfl) (by omega) fun h2 hn2 => ?_
  rw [size3] at hn2
  have n2 := hn2.next
  have pr2 : Pres h1.next h1 h2 := hn2.pres (Nat.le_refl _)
  have sv := hn2.slv (n := 2) (c := 2) rfl
  simp only [go_sem,reduceIte,Nat.reduceEqDiff,Nat.reduceLT]
  refine CallO_f (Or_spec sv) (by omega) fun u h3 pr3 ⟨hu, he⟩ => ?_
  subst hu
  subst he
  rw [or_cmp]
  simp only [go_sem,reduceIte,Nat.reduceEqDiff,Nat.reduceLT]
  exact hQ' _ _ ⟨pr0.trans ((pr1.le (by omega)).trans (pr2.le (by omega))), rfl⟩

theorem cmpOK {f : FuncId} {cf : H → List Value → List Value → Int} (hcf : ∀ h x y, okTri 0 h x → okTri 0 h y → ∀ h', cf h' x y = cf h x y)
    (hlex : ∃ sel : List Value → Int × Int, ∀ h x y, okTri 0 h x → okTri 0 h y → cf h x y = lex2 (sel x).1 (sel y).1 (sel x).2 (sel y).2)
    (hrun : ∀ h x y, okTri 0 h x → okTri 0 h y → Ev.Spec Tryd.prog (Es h.next) f [.agg x.toArray, .agg y.toArray] h fun v _ => v = .int .i64 (cf h x y)) : CmpOK Tryd.prog Es f 3 okTri cf := by
  obtain ⟨sel, hsel⟩ := hlex
  refine ⟨fun b h h' x hx _ _ => hx, fun b h h' x y hx hy _ _ => hcf h x y hx hy h', fun b h x hx => ?_, fun b h x y z hx hy hz h1 h2 => ?_, fun b h x y z hx hy hz h1 h2 => ?_, fun b h x y _ hx hy _ _ => ?_⟩
  · rw [hsel h x x hx hx, lex2_neg]; omega
  · rw [hsel h x y hx hy, lex2_neg] at h1
    rw [hsel h y z hy hz, lex2_neg] at h2
    rw [hsel h x z hx hz, lex2_neg]; omega
  · rw [hsel h x y hx hy, lex2_neg] at h1
    rw [hsel h y z hy hz, lex2_neg] at h2
    rw [hsel h x z hx hz, lex2_neg]; omega
  · obtain ⟨F, v, h2, hc, _, hv⟩ := hrun h x y hx hy
    subst hv
    exact ⟨F, h2, hc⟩
theorem cmpSq : CmpOK Tryd.prog Es 56 3 okTri cfSq := cmpOK (fun h x y hx hy h' => by
    obtain ⟨a, b, c, rfl⟩ := hx
    obtain ⟨a', b', c', rfl⟩ := hy
    rfl) ⟨fun | [.int .i64 a, .int .i64 b, _] => (b, a) | _ => (0, 0), fun h x y hx hy => by
    obtain ⟨a, b, c, rfl⟩ := hx
    obtain ⟨a', b', c', rfl⟩ := hy
    rfl⟩ fun h x y hx hy => by
    obtain ⟨a, b, c, rfl⟩ := hx
    obtain ⟨a', b', c', rfl⟩ := hy
    exact inOrder_spec (Nat.le_refl _)
theorem cmpLn : CmpOK Tryd.prog Es 66 3 okTri cfLn := cmpOK (fun h x y hx hy h' => by
    obtain ⟨a, b, c, rfl⟩ := hx
    obtain ⟨a', b', c', rfl⟩ := hy
    rfl) ⟨fun | [.int .i64 a, .int .i64 b, _] => (a, b) | _ => (0, 0), fun h x y hx hy => by
    obtain ⟨a, b, c, rfl⟩ := hx
    obtain ⟨a', b', c', rfl⟩ := hy
    rfl⟩ fun h x y hx hy => by
    obtain ⟨a, b, c, rfl⟩ := hx
    obtain ⟨a', b', c', rfl⟩ := hy
    exact line_spec (Nat.le_refl _)
end
end Go.Proofs.YtnhbkoeomefkdaaDoor.Es

