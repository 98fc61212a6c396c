/- What is gathered: the best order. -/
import Derived.Test.YthiodndhokooiaaGreatDoorPmmB2
set_option linter.unusedSimpArgs false
namespace Go.Proofs.YthiodndhokooiaaGreatDoor.Ev
open Go Go.Proofs
noncomputable section

section
variable {P : Program} {E : Env} {n : Nat} {ops : List Oper} {q : Bool} {r tl : List Oper} {k : List Frm} {α : Tr Value} {h : H} {R : Rt} {d : Nat}
end

/-- a start that lies in memory -/
def StV (B : Tr Blk) (lo hi : Nat) (ln wt : Nat → Nat) (o : List Nat) (v : Value) : Prop := ∃ A, v = stV A ln wt o ∧ SlV B lo hi 1 o.length (ints (o.map Int.ofNat)) (.slice A o.length o.length) ∧ A ≠ some ⟨0, 0, some 0⟩
theorem StV.mono {B B' : Tr Blk} {lo hi : Nat} {ln wt : Nat → Nat} {o : List Nat} {v : Value} (s : StV B lo hi ln wt o v) (hB : ∀ b, lo ≤ b → b < hi → B'.get b = B.get b) : StV B' lo hi ln wt o v := by
  obtain ⟨A, h1, h2, h3⟩ := s
  exact ⟨A, h1, h2.mono hB, h3⟩
theorem StV.wide {B : Tr Blk} {lo hi hi' : Nat} {ln wt : Nat → Nat} {o : List Nat} {v : Value} (s : StV B lo hi ln wt o v) (h : hi ≤ hi') : StV B lo hi' ln wt o v := by
  obtain ⟨A, h1, h2, h3⟩ := s
  exact ⟨A, h1, h2.wide (Nat.le_refl _) h, h3⟩
/-- what the map's values stand for -/
def MapS (B : Tr Blk) (lo hi : Nat) (ln wt : Nat → Nat) (f : Nat → Option Value) (g : Nat → Option (List Nat)) : Prop := ∀ k, (g k = none → f k = none) ∧ ∀ o, g k = some o → ∃ v, f k = some v ∧ StV B lo hi ln wt o v
theorem MapS.mono {B B' : Tr Blk} {lo hi : Nat} {ln wt : Nat → Nat} {f : Nat → Option Value} {g : Nat → Option (List Nat)} (s : MapS B lo hi ln wt f g) (hB : ∀ b, lo ≤ b → b < hi → B'.get b = B.get b) : MapS B' lo hi ln wt f g := fun k => ⟨(s k).1, fun o ho => by
  obtain ⟨v, h1, h2⟩ := (s k).2 o ho
  exact ⟨v, h1, h2.mono hB⟩⟩
theorem MapS.wide {B : Tr Blk} {lo hi hi' : Nat} {ln wt : Nat → Nat} {f : Nat → Option Value} {g : Nat → Option (List Nat)} (s : MapS B lo hi ln wt f g) (h : hi ≤ hi') : MapS B lo hi' ln wt f g := fun k => ⟨(s k).1, fun o ho => by
  obtain ⟨v, h1, h2⟩ := (s k).2 o ho
  exact ⟨v, h1, h2.wide h⟩⟩
theorem MapS.put {B : Tr Blk} {lo hi : Nat} {ln wt : Nat → Nat} {f : Nat → Option Value} {g : Nat → Option (List Nat)} {k : Nat} {o : List Nat} {v : Value} (s : MapS B lo hi ln wt f g) (hv : StV B lo hi ln wt o v) : MapS B lo hi ln wt (gup f k (some v)) (gup g k (some o)) := fun x => by
  by_cases e : x = k
  · subst e
    rw [gup_same, gup_same]
    exact ⟨fun h => (by cases h), fun o' h => by cases h; exact ⟨v, rfl, hv⟩⟩
  · rw [gup_ne e, gup_ne e]; exact s x
end
end Go.Proofs.YthiodndhokooiaaGreatDoor.Ev

