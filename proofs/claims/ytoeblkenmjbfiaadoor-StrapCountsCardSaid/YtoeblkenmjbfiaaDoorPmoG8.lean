/- Round straps: what is one. -/
import Derived.Test.YtoeblkenmjbfiaaDoorPmoG6
set_option linter.unusedSimpArgs false
set_option linter.unusedVariables false
namespace Go.Proofs.YtoeblkenmjbfiaaDoor.Ev
open Go Go.Proofs
noncomputable section

theorem zero52 : inf43.zero = some (.agg #[.int .i64 0, .slice none 0 0]) := by kernel_rfl
theorem build52 {G : Nat} {a : Int} {A : Option Addr} {n c : Nat} : buildO (En G) 43 (some [(0, .int .i64 a), (1, .slice A n c)]) = some (.agg #[.int .i64 a, .slice A n c]) := by
  have hu : (En G).u 43 = _ := us43.trans Tryd.underlying43
  simp only [buildO, evBuild, i43, hu, zero52, places, i3, size3, i24, size24]
  rfl
theorem build52e {G : Nat} : buildO (En G) 43 (some []) = some (.agg #[.int .i64 0, .slice none 0 0]) := by
  have hu : (En G).u 43 = _ := us43.trans Tryd.underlying43
  simp only [buildO, evBuild, i43, hu, zero52, places, i3, size3, i24, size24]
  rfl

theorem isPlaces_spec {G : Nat} {v : Int} {h : H} : Spec Tryd.prog (En G) 21 [.int .i64 v] h fun r h' => r = .bool (decide (2 ≤ v) && decide (v ≤ 31)) ∧ h' = h := by
  refine CallsE_enter (En_known (by decide)) (En_f.trans Tryd.func21) rfl ⟨Nat.le_of_ble_eq_true rfl, by decide⟩ fun Q' hQ' => ?_
  simp only [Tryd.f21, go_sem,reduceIte,Nat.reduceEqDiff,Nat.reduceLT]
  by_cases h1 : 2 ≤ v
  · simp only [go_sem,reduceIte,Nat.reduceEqDiff,Nat.reduceLT, h1]
    exact hQ' _ _ ⟨Pres.refl _ _, by simp [h1], rfl⟩
  · simp only [go_sem,reduceIte,Nat.reduceEqDiff,Nat.reduceLT, h1]
    exact hQ' _ _ ⟨Pres.refl _ _, by simp [h1], rfl⟩

/-- why it is no round strap -/
def roundE (v : Int) (n : Nat) (f : Nat → Int) (e : Int) : Prop :=
  (31 < n ∧ e = 3) ∨ (n ≤ 31 ∧ ¬ (2 ≤ v ∧ v ≤ 31) ∧ e = 1) ∨ (n ≤ 31 ∧ (2 ≤ v ∧ v ≤ 31) ∧ ¬ RiseP n (v - 1) f ∧ e = 2) ∨ (n ≤ 31 ∧ (2 ≤ v ∧ v ≤ 31) ∧ RiseP n (v - 1) f ∧ e = 0)
theorem roundE_one {v : Int} {n : Nat} {f : Nat → Int} {e e' : Int} (h : roundE v n f e) (h' : roundE v n f e') : e = e' := by
  unfold roundE at h h'
  by_cases a : 31 < n
  · have : ¬ n ≤ 31 := by omega
    simp only [a, this, true_and, false_and, or_false] at h h'
    omega
  · have a' : n ≤ 31 := by omega
    by_cases b : 2 ≤ v ∧ v ≤ 31
    · by_cases c : RiseP n (v - 1) f
      · simp only [a, a', b, c, not_true, true_and, false_and, and_false, false_or, and_self] at h h'
        omega
      · simp only [a, a', b, c, not_true, not_false_iff, true_and, false_and, and_false, false_or, or_false, and_self] at h h'
        omega
    · simp only [a, a', b, not_false_iff, true_and, false_and, and_false, false_or, or_false] at h h'
      omega

set_option maxHeartbeats 8000000 in
theorem newRound_spec {G lo hi n c : Nat} {A : Option Addr} {v : Int} {f : Nat → Int} {h : H} (hG : G ≤ h.next) (hv : SlV h.blks lo hi 1 n (intsL n f) (.slice A n c)) (hhi : hi ≤ h.next) (hn : n < 2147483648) :
    Spec Tryd.prog (En G) 14 [.int .i64 v, .slice A n c] h fun w h' => ∃ e r, w = .tuple #[r, .int .i64 e] ∧ roundE v n f e ∧ (∃ x A' n' c', r = .agg #[.int .i64 x, .slice A' n' c']) ∧ (e = 0 → r = .agg #[.int .i64 v, .slice A n c]) := by
  refine CallsE_enter (En_known (by decide)) (En_f.trans Tryd.func14) rfl ⟨Nat.le_of_ble_eq_true rfl, by decide⟩ fun Q' hQ' => ?_
  simp only [Tryd.f14, go_sem,reduceIte,Nat.reduceEqDiff,Nat.reduceLT]
  refine At_alloc i43 zero52 rfl (by omega) fun h1 hn1 => ?_
  have n1 := hn1.next
  have hvar := hn1.var
  have lz : (Value.agg #[Value.int IntKind.i64 0, Value.slice none 0 0]).cells.toList = [.int .i64 0, .slice none 0 0] := rfl
  rw [lz] at hvar
  have pr1 : Pres h.next h h1 := hn1.pres (Nat.le_refl _)
  have hv1 : SlV h1.blks lo hi 1 n (intsL n f) (.slice A n c) := hv.mono fun b _ hb => pr1.get b (by omega)
  simp only [go_sem,reduceIte,Nat.reduceEqDiff,Nat.reduceLT, len24]
  by_cases c1 : (31 : Int) < n
  · simp (disch := omega) only [go_sem,reduceIte,Nat.reduceEqDiff,Nat.reduceLT, c1, build52e]
    refine At_storeV (b := h.next) (L := [.int .i64 0, .slice none 0 0]) (v := .agg #[.int .i64 0, .slice none 0 0]) i43 (by simp only [go_sem,reduceIte,Nat.reduceEqDiff,Nat.reduceLT]) (by simp only [go_sem,reduceIte,Nat.reduceEqDiff,Nat.reduceLT]) hvar (by rw [size43]; rfl) (by rw [size43]; rfl) rfl (by rw [En_G]; omega) fun h2 hs2 hv2 => ?_
    first | rw [lz] at hv2 | skip
    simp only [go_sem,reduceIte,Nat.reduceEqDiff,Nat.reduceLT, evLoad_loadO, hv2.loadA agg43 i43 (by rw [size43]; rfl)]
    exact hQ' _ _ ⟨pr1.trans (hs2.pres (Nat.le_refl _)), 3, _, rfl, .inl ⟨by omega, rfl⟩, ⟨0, none, 0, 0, rfl⟩, fun e => by omega⟩
  simp (disch := omega) only [go_sem,reduceIte,Nat.reduceEqDiff,Nat.reduceLT, c1]
  refine CallO_same isPlaces_spec (by omega) fun u hu => ?_
  subst hu
  by_cases c2 : 2 ≤ v ∧ v ≤ 31
  · have d2 : (decide (2 ≤ v) && decide (v ≤ 31)) = true := by simp [c2]
    simp (disch := omega) only [go_sem,reduceIte,Nat.reduceEqDiff,Nat.reduceLT, d2, wrap_i64]
    refine CallO_same (rise_spec (g := v - 1) hv1 hn) (by omega) fun u ⟨b, hu, hb⟩ => ?_
    subst hu
    cases b with
    | false =>
      simp (disch := omega) only [go_sem,reduceIte,Nat.reduceEqDiff,Nat.reduceLT, build52e]
      refine At_storeV (b := h.next) (L := [.int .i64 0, .slice none 0 0]) (v := .agg #[.int .i64 0, .slice none 0 0]) i43 (by simp only [go_sem,reduceIte,Nat.reduceEqDiff,Nat.reduceLT]) (by simp only [go_sem,reduceIte,Nat.reduceEqDiff,Nat.reduceLT]) hvar (by rw [size43]; rfl) (by rw [size43]; rfl) rfl (by rw [En_G]; omega) fun h2 hs2 hv2 => ?_
      first | rw [lz] at hv2 | skip
      simp only [go_sem,reduceIte,Nat.reduceEqDiff,Nat.reduceLT, evLoad_loadO, hv2.loadA agg43 i43 (by rw [size43]; rfl)]
      exact hQ' _ _ ⟨pr1.trans (hs2.pres (Nat.le_refl _)), 2, _, rfl, .inr (.inr (.inl ⟨by omega, c2, fun hr => Bool.noConfusion (hb.2 hr), rfl⟩)), ⟨0, none, 0, 0, rfl⟩, fun e => by omega⟩
    | true =>
      simp (disch := omega) only [go_sem,reduceIte,Nat.reduceEqDiff,Nat.reduceLT, build52]
      refine At_storeV (b := h.next) (L := [.int .i64 0, .slice none 0 0]) (v := .agg #[.int .i64 v, .slice A n c]) i43 (by simp only [go_sem,reduceIte,Nat.reduceEqDiff,Nat.reduceLT]) (by simp only [go_sem,reduceIte,Nat.reduceEqDiff,Nat.reduceLT]) hvar (by rw [size43]; rfl) (by rw [size43]; rfl) rfl (by rw [En_G]; omega) fun h2 hs2 hv2 => ?_
      first | rw [lz] at hv2 | skip
      have lz2 : (Value.agg #[Value.int IntKind.i64 v, Value.slice A n c]).cells.toList = [.int .i64 v, .slice A n c] := rfl
      rw [lz2] at hv2
      simp only [go_sem,reduceIte,Nat.reduceEqDiff,Nat.reduceLT, evLoad_loadO, hv2.loadA agg43 i43 (by rw [size43]; rfl)]
      exact hQ' _ _ ⟨pr1.trans (hs2.pres (Nat.le_refl _)), 0, _, rfl, .inr (.inr (.inr ⟨by omega, c2, hb.1 rfl, rfl⟩)), ⟨_, _, _, _, rfl⟩, fun e => rfl⟩
  · have d2 : (decide (2 ≤ v) && decide (v ≤ 31)) = false := by
      rw [Bool.eq_false_iff]; intro e; simp at e; exact c2 e
    simp (disch := omega) only [go_sem,reduceIte,Nat.reduceEqDiff,Nat.reduceLT, d2, build52e]
    refine At_storeV (b := h.next) (L := [.int .i64 0, .slice none 0 0]) (v := .agg #[.int .i64 0, .slice none 0 0]) i43 (by simp only [go_sem,reduceIte,Nat.reduceEqDiff,Nat.reduceLT]) (by simp only [go_sem,reduceIte,Nat.reduceEqDiff,Nat.reduceLT]) hvar (by rw [size43]; rfl) (by rw [size43]; rfl) rfl (by rw [En_G]; omega) fun h2 hs2 hv2 => ?_
    first | rw [lz] at hv2 | skip
    simp only [go_sem,reduceIte,Nat.reduceEqDiff,Nat.reduceLT, evLoad_loadO, hv2.loadA agg43 i43 (by rw [size43]; rfl)]
    exact hQ' _ _ ⟨pr1.trans (hs2.pres (Nat.le_refl _)), 1, _, rfl, .inr (.inl ⟨by omega, c2, rfl⟩), ⟨0, none, 0, 0, rfl⟩, fun e => by omega⟩

end
end Go.Proofs.YtoeblkenmjbfiaaDoor.Ev


