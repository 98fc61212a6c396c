/- The program's Lay. -/
import Derived.Test.YtnhbkoeomefkdaaDoorPmhL3
set_option linter.unusedSimpArgs false
set_option linter.unusedVariables false
namespace Go.Proofs.YtnhbkoeomefkdaaDoor.Ev.L
open Go Go.Proofs Go.Proofs.YtnhbkoeomefkdaaDoor.Ev
noncomputable section

/-- what Lay answers -/
def LayRes (h h' : H) (w : Int) (L : List Int) (v : Value) : Prop :=
  (24 < L.length ∧ v = .tuple #[.slice none 0 0, .int .i64 3]) ∨
  (L.length ≤ 24 ∧ ¬ (L ≠ [] ∧ sideOk w = true ∧ L.all sideOk = true) ∧ v = .tuple #[.slice none 0 0, .int .i64 1]) ∨
  (L.length ≤ 24 ∧ (L ≠ [] ∧ sideOk w = true ∧ L.all sideOk = true) ∧ layOn (List.replicate w.toNat 0) L = none ∧ v = .tuple #[.slice none 0 0, .int .i64 5]) ∨
  (L.length ≤ 24 ∧ (L ≠ [] ∧ sideOk w = true ∧ L.all sideOk = true) ∧ ∃ sq B, layOn (List.replicate w.toNat 0) L = some sq ∧ v = .tuple #[.slice B sq.length sq.length, .int .i64 0] ∧ SlV h'.blks h.next h'.next 3 sq.length (sqCells sq) (.slice B sq.length sq.length))

theorem sideOk_iff {z : Int} : sideOk z = true ↔ 1 ≤ z ∧ z ≤ 1000 := by simp [sideOk]

set_option maxHeartbeats 8000000 in
theorem hideLay_spec {G lo hi n c : Nat} {w : Int} {A : Option Addr} {L : List Int} {h : H} (hG : G ≤ h.next) (hv : SlV h.blks lo hi 1 n (ints L) (.slice A n c)) (hhi : hi ≤ h.next) (hn : n ≤ 25) :
    Spec Tryd.prog (En G) 23 [.int .i64 w, .slice A n c] h fun u h' => LayRes h h' w L u := by
  have hl : L.length = n := by have := hv.len; rw [ints_len] at this; omega
  refine CallsE_enter (En_known (by decide)) (En_f.trans Tryd.func23) rfl ⟨Nat.le_of_ble_eq_true rfl, by decide⟩ fun Q' hQ' => ?_
  by_cases h24 : (24 : Int) < n
  · simp only [Tryd.f23, go_sem,reduceIte,Nat.reduceEqDiff,Nat.reduceLT, len27, h24]
    exact hQ' _ _ ⟨Pres.refl _ _, .inl ⟨by omega, rfl⟩⟩
  · by_cases h0 : (n : Int) = 0
    · have d0 : decide ((n : Int) = 0) = true := decide_eq_true h0
      simp only [Tryd.f23, go_sem,reduceIte,Nat.reduceEqDiff,Nat.reduceLT, len27, h24, d0]
      exact hQ' _ _ ⟨Pres.refl _ _, .inr (.inl ⟨by omega, fun hh => hh.1 (List.length_eq_zero_iff.1 (by omega)), rfl⟩)⟩
    · have hne : L ≠ [] := fun e => by subst e; simp at hl; omega
      simp only [Tryd.f23, go_sem,reduceIte,Nat.reduceEqDiff,Nat.reduceLT, len27, h24, h0]
      refine At_lit (vs := [(0, .int .i64 w)]) (cs := #[.int .i64 w]) u27 i3 zero3 (by rw [size3]; rfl) (by simp only [go_sem,reduceIte,Nat.reduceEqDiff,Nat.reduceLT]) (by rw [size3]; rfl) (by omega) fun h1 hn1 => ?_
      rw [size3] at hn1
      have n1 := hn1.next
      have pr1 : Pres h.next h h1 := hn1.pres (Nat.le_refl _)
      simp only [go_sem,reduceIte,Nat.reduceEqDiff,Nat.reduceLT]
      refine CallO_f (areSides_spec (l := [w]) (hn1.slv rfl) (by omega)) (by omega) fun u h2 hp2 hu => ?_
      subst hu
      have pr2 : Pres h.next h h2 := pr1.trans (hp2.le (by omega))
      have hall : [w].all sideOk = sideOk w := by simp
      rw [hall]
      by_cases hw : sideOk w = true
      · simp only [go_sem,reduceIte,Nat.reduceEqDiff,Nat.reduceLT, hw]
        refine CallO_f (areSides_spec (hv.mono fun b _ hb => pr2.get b (by omega)) (by omega)) (by omega) fun u h3 hp3 hu => ?_
        subst hu
        have n2 := pr2.next
        have pr3 : Pres h.next h h3 := pr2.trans (hp3.le (by omega))
        by_cases hL : L.all sideOk = true
        · simp only [go_sem,reduceIte,Nat.reduceEqDiff,Nat.reduceLT, hL]
          obtain ⟨w', rfl⟩ := Int.eq_ofNat_of_zero_le (a := w) (by have := sideOk_iff.1 hw; omega)
          have n3 := pr3.next
          have hwb := sideOk_iff.1 hw
          refine CallO_f (laid_spec (w := w') (by omega) (hv.mono fun b _ hb => pr3.get b (by omega)) (by omega) hn (by omega) fun z hz => sideOk_iff.1 (List.all_eq_true.1 hL z hz)) (by omega) fun u h4 hp4 hu => ?_
          have pr4 : Pres h.next h h4 := pr3.trans (hp4.le (by omega))
          rcases hu with ⟨g1, rfl⟩ | ⟨sq, B, g1, rfl, g3⟩
          · have d0 : decide (((0 : Nat) : Int) = 0) = true := rfl
            simp only [go_sem,reduceIte,Nat.reduceEqDiff,Nat.reduceLT, len22, d0]
            exact hQ' _ _ ⟨pr4, .inr (.inr (.inl ⟨by omega, ⟨hne, hw, hL⟩, g1, rfl⟩))⟩
          · have hsl := layOn_len g1
            have hsz : ¬ (sq.length : Int) = 0 := by omega
            simp only [go_sem,reduceIte,Nat.reduceEqDiff,Nat.reduceLT, len22, hsz]
            exact hQ' _ _ ⟨pr4, .inr (.inr (.inr ⟨by omega, ⟨hne, hw, hL⟩, sq, B, g1, rfl, g3.wide (by omega) (Nat.le_refl _)⟩))⟩
        · have hL' : L.all sideOk = false := by simpa using hL
          simp only [go_sem,reduceIte,Nat.reduceEqDiff,Nat.reduceLT, hL']
          exact hQ' _ _ ⟨pr3, .inr (.inl ⟨by omega, fun hh => hL hh.2.2, rfl⟩)⟩
      · have hw' : sideOk w = false := by simpa using hw
        simp only [go_sem,reduceIte,Nat.reduceEqDiff,Nat.reduceLT, hw']
        exact hQ' _ _ ⟨pr2, .inr (.inl ⟨by omega, fun hh => hw hh.2.1, rfl⟩)⟩
end
end Go.Proofs.YtnhbkoeomefkdaaDoor.Ev.L

