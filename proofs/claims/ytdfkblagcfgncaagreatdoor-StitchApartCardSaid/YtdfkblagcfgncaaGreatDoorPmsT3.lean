/- Levi's lemma for seams. Mathematics alone. -/
import Derived.Test.YtdfkblagcfgncaaGreatDoorPmsD3
set_option linter.unusedSimpArgs false
namespace Go.Proofs.YtdfkblagcfgncaaGreatDoor.Ev

theorem er_append {cm : Nat → Nat → Bool} {y : Nat} : ∀ (a a' b : List UInt8), er cm y a = some a' → er cm y (a ++ b) = some (a' ++ b)
  | [], a', b, h => by cases h
  | c :: r, a', b, h => by
    rw [List.cons_append]
    unfold er at h ⊢
    by_cases h1 : lt c = y
    · rw [if_pos h1] at h ⊢
      cases h; rfl
    · rw [if_neg h1] at h ⊢
      by_cases h2 : cm (lt c) y = true
      · rw [if_pos h2] at h ⊢
        cases e : er cm y r with
        | none => rw [e] at h; cases h
        | some r' =>
          rw [e] at h
          cases h
          rw [er_append r r' b e]
          rfl
      · rw [if_neg h2] at h; cases h
theorem er_append_none {cm : Nat → Nat → Bool} {y : Nat} : ∀ (a b w : List UInt8), er cm y a = none → er cm y (a ++ b) = some w → (∀ c ∈ a, cm (lt c) y = true ∧ lt c ≠ y) ∧ ∃ b', er cm y b = some b' ∧ w = a ++ b'
  | [], b, w, _, h => ⟨fun c hc => (by cases hc), w, h, rfl⟩
  | c :: r, b, w, hn, h => by
    rw [List.cons_append] at h
    unfold er at h hn
    by_cases h1 : lt c = y
    · rw [if_pos h1] at hn; cases hn
    · rw [if_neg h1] at h hn
      by_cases h2 : cm (lt c) y = true
      · rw [if_pos h2] at h hn
        have hn' : er cm y r = none := by
          cases e : er cm y r with
          | none => rfl
          | some q => rw [e] at hn; cases hn
        cases e : er cm y (r ++ b) with
        | none => rw [e] at h; cases h
        | some q =>
          rw [e] at h
          cases h
          obtain ⟨i1, b', i2, i3⟩ := er_append_none r b q hn' e
          refine ⟨fun d hd => ?_, b', i2, by rw [i3]; rfl⟩
          rcases List.mem_cons.1 hd with rfl | hd
          · exact ⟨h2, h1⟩
          · exact i1 d hd
      · rw [if_neg h2] at h; cases h
end Go.Proofs.YtdfkblagcfgncaaGreatDoor.Ev


