/- Round straps: the program's Multipliers and Canon. -/
import Derived.Test.YtoeblkenmjbfiaaDoorPmoI5
set_option linter.unusedSimpArgs false
set_option linter.unusedVariables false
namespace Go.Proofs.YtoeblkenmjbfiaaDoor.Ev
open Go Go.Proofs
noncomputable section

theorem rise_in {n V : Nat} {f : Nat → Int} (hr : RiseP n ((V : Int) - 1) f) : InV V (ilst n f) ∧ (ilst n f).Pairwise (· < ·) := by
  constructor
  · intro x hx
    obtain ⟨i, hi, rfl⟩ := List.mem_map.1 hx
    have := hr.1 i (List.mem_range.1 hi)
    omega
  · unfold ilst
    rw [List.pairwise_map]
    refine List.Pairwise.imp_of_mem (R := fun a b : Nat => a < b) (fun {a b} ha hb hab => ?_) List.pairwise_lt_range
    exact hr.lt hab (List.mem_range.1 hb)
def mulR (v : Int) (n : Nat) (f : Nat → Int) (B : Tr Blk) (lo hi : Nat) (w : Value) : Prop :=
  (∃ e, e ≠ 0 ∧ roundE v n f e ∧ w = .tuple #[.slice none 0 0, .int .i64 e]) ∨
  (roundE v n f 0 ∧ ∃ (V : Nat) (A' : Option Addr), v = V ∧ w = .tuple #[.slice A' (mlP V (ilst n f) (uL V V)).length (mlP V (ilst n f) (uL V V)).length, .int .i64 0] ∧ SlV B lo hi 1 (mlP V (ilst n f) (uL V V)).length (ints (mlP V (ilst n f) (uL V V))) (.slice A' (mlP V (ilst n f) (uL V V)).length (mlP V (ilst n f) (uL V V)).length))
set_option maxHeartbeats 4000000 in
theorem Multipliers_spec {G lo hi n c : Nat} {A : Option Addr} {v : Int} {f : Nat → Int} {h : H} (hG : G ≤ h.next) (hhi : hi ≤ h.next) (hv : SlV h.blks lo hi 1 n (intsL n f) (.slice A n c)) (hn : n < 2147483648) :
    Spec Tryd.prog (En G) 10 [.int .i64 v, .slice A n c] h fun w h' => mulR v n f h'.blks h.next h'.next w := by
  refine CallsE_enter (En_known (by decide)) (En_f.trans Tryd.func10) rfl ⟨Nat.le_of_ble_eq_true rfl, by decide⟩ fun Q' hQ' => ?_
  simp only [Tryd.f10, go_sem,reduceIte,Nat.reduceEqDiff,Nat.reduceLT]
  refine CallO_f (newRound_spec hG hv hhi hn) (by omega) fun u h1 pr1 ⟨e, r, hu, he, ⟨x, A0, n0', c0, hr⟩, hr0⟩ => ?_
  subst hu
  have n1 := pr1.next
  simp only [go_sem,reduceIte,Nat.reduceEqDiff,Nat.reduceLT]
  refine At_alloc i43 zero52 rfl (by omega) fun h2 hn2 => ?_
  have n2 := hn2.next
  have hvar := hn2.var
  have lz : (Value.agg #[Value.int IntKind.i64 0, Value.slice none 0 0]).cells.toList = [.int .i64 0, .slice none 0 0] := rfl
  rw [lz] at hvar
  have pr2 : Pres h1.next h1 h2 := hn2.pres (Nat.le_refl _)
  subst hr
  try simp only [go_sem,reduceIte,Nat.reduceEqDiff,Nat.reduceLT]
  refine At_storeV (b := h1.next) (L := [.int .i64 0, .slice none 0 0]) (v := .agg #[.int .i64 x, .slice A0 n0' c0]) i43 (by simp only [go_sem,reduceIte,Nat.reduceEqDiff,Nat.reduceLT]) (by (simp only [go_sem,reduceIte,Nat.reduceEqDiff,Nat.reduceLT]) <;> rfl) hvar (by rw [size43]; rfl) (by rw [size43]; rfl) rfl (by rw [En_G]; omega) fun h3 hs3 hv3 => ?_
  first | rw [lz] at hv3 | skip
  have lz2 : (Value.agg #[Value.int IntKind.i64 x, Value.slice A0 n0' c0]).cells.toList = [.int .i64 x, .slice A0 n0' c0] := rfl
  rw [lz2] at hv3
  have pr3 : Pres h1.next h2 h3 := hs3.pres (Nat.le_refl _)
  have n3 := pr3.next
  have pr03 : Pres h.next h h3 := pr1.trans ((pr2.trans pr3).le n1)
  by_cases e0 : e = 0
  · subst e0
    have d0 : decide ((0 : Int) ≠ 0) = false := rfl
    have hr := hr0 rfl
    injection hr with hr
    have hr' : [Value.int .i64 x, .slice A0 n0' c0] = [Value.int .i64 v, .slice A n c] := by simpa using hr
    simp only [List.cons.injEq, Value.int.injEq, Value.slice.injEq, true_and, and_true] at hr'
    obtain ⟨rfl, rfl, rfl, rfl⟩ := hr'
    obtain ⟨hn31, ⟨hv2, hv31⟩, hrise⟩ := roundE_zero he
    obtain ⟨V, rfl⟩ : ∃ V : Nat, x = V := ⟨x.toNat, by omega⟩
    have hsv : SlV h3.blks lo hi 1 n0' (intsL n0' f) (.slice A0 n0' c0) := hv.mono fun b _ hb => pr03.get b (by omega)
    rw [ints_ilst] at hsv
    have hsp : ∀ l : List Int, l.length = n0' → SlV h3.blks lo hi 1 n0' (ints l) (.slice A0 n0' c0) → InV V l → Spec Tryd.prog (En G) 19 [.agg #[.int .i64 V, .slice A0 n0' c0]] h3 fun v h' => ∃ A', v = .slice A' (mlP V l (uL V V)).length (mlP V l (uL V V)).length ∧ SlV h'.blks h3.next h'.next 1 (mlP V l (uL V V)).length (ints (mlP V l (uL V V))) v := by
      rintro l rfl hl hin
      exact multipliers_spec (by omega) (by omega) hl hn31 (by omega) (by omega) hin
    simp only [go_sem,reduceIte,Nat.reduceEqDiff,Nat.reduceLT, d0, hv3.loadA agg43 i43 (by rw [size43]; rfl)]
    refine CallO_f (hsp _ ilst_len hsv (rise_in hrise).1) (by omega) fun u h4 pr4 ⟨A4, hu, hs4⟩ => ?_
    subst hu
    simp only [go_sem,reduceIte,Nat.reduceEqDiff,Nat.reduceLT]
    exact hQ' _ _ ⟨pr03.trans (pr4.le (by omega)), .inr ⟨he, V, A4, rfl, rfl, hs4.wide (by omega) (Nat.le_refl _)⟩⟩
  · have d0 : decide (e ≠ 0) = true := decide_eq_true e0
    simp only [go_sem,reduceIte,Nat.reduceEqDiff,Nat.reduceLT, d0]
    exact hQ' _ _ ⟨pr03, .inl ⟨e, e0, he, rfl⟩⟩
end
end Go.Proofs.YtoeblkenmjbfiaaDoor.Ev


