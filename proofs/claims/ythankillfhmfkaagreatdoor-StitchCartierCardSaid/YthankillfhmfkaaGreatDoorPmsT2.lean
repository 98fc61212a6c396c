/- Equal seams; the longest common beginning. Mathematics alone. -/
import Derived.Test.YthankillfhmfkaaGreatDoorPmAA
import Derived.Test.YthankillfhmfkaaGreatDoorPmsS1
set_option linter.unusedSimpArgs false
set_option linter.unusedVariables false
namespace Go.Proofs.YthankillfhmfkaaGreatDoor.Ev

/-- seams that are equal -/
inductive Sw (cm : Nat → Nat → Bool) : List UInt8 → List UInt8 → Prop
  | refl (l : List UInt8) : Sw cm l l
  | cons (c : UInt8) {a b : List UInt8} : Sw cm a b → Sw cm (c :: a) (c :: b)
  | swap (a b : UInt8) (r : List UInt8) : lt a ≠ lt b → cm (lt a) (lt b) = true → cm (lt b) (lt a) = true → Sw cm (a :: b :: r) (b :: a :: r)
  | trans {a b c : List UInt8} : Sw cm a b → Sw cm b c → Sw cm a c

theorem Sw.len {cm : Nat → Nat → Bool} {a b : List UInt8} (h : Sw cm a b) : a.length = b.length := by
  induction h with
  | refl => rfl
  | cons c _ ih => simp [ih]
  | swap => simp
  | trans _ _ h1 h2 => exact h1.trans h2
theorem Sw.mem {cm : Nat → Nat → Bool} {a b : List UInt8} (h : Sw cm a b) (c : UInt8) : c ∈ a ↔ c ∈ b := by
  induction h with
  | refl => exact Iff.rfl
  | cons d _ ih => simp [ih]
  | swap x y r =>
    simp only [List.mem_cons]
    constructor
    · rintro (h | h | h)
      · exact .inr (.inl h)
      · exact .inl h
      · exact .inr (.inr h)
    · rintro (h | h | h)
      · exact .inr (.inl h)
      · exact .inl h
      · exact .inr (.inr h)
  | trans _ _ h1 h2 => exact h1.trans h2
theorem Sw.right {cm : Nat → Nat → Bool} {a b : List UInt8} (h : Sw cm a b) (q : List UInt8) : Sw cm (a ++ q) (b ++ q) := by
  induction h with
  | refl => exact .refl _
  | cons c _ ih => exact .cons c ih
  | swap x y r h1 h2 h3 => exact .swap x y _ h1 h2 h3
  | trans _ _ h1 h2 => exact h1.trans h2
theorem Sw.left {cm : Nat → Nat → Bool} {a b : List UInt8} (h : Sw cm a b) : ∀ p : List UInt8, Sw cm (p ++ a) (p ++ b)
  | [] => h
  | c :: p => .cons c (h.left p)
end Go.Proofs.YthankillfhmfkaaGreatDoor.Ev


