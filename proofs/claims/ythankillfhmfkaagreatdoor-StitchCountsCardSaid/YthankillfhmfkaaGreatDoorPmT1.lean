/- Seams: letters that can come first, the least equal seam. Mathematics alone. -/
set_option linter.unusedVariables false
namespace Go.Proofs.YthankillfhmfkaaGreatDoor.Ev
def lt (c : UInt8) : Nat := c.toNat - 97
def OkL (k : Nat) (l : List UInt8) : Prop := ∀ c ∈ l, 97 ≤ c.toNat ∧ c.toNat < 97 + k
theorem OkL.mono {k k' : Nat} {l : List UInt8} (h : OkL k l) (hk : k ≤ k') : OkL k' l := fun c hc => by have := h c hc; omega
def fg (cm : Nat → Nat → Bool) (x : Nat) : List UInt8 → Nat → Int
  | [], _ => -1
  | c :: r, i => if lt c = x then i else if cm (lt c) x then fg cm x r (i + 1) else -1
def wo (l : List UInt8) (i : Nat) : List UInt8 := l.take i ++ l.drop (i + 1)
theorem wo_mem {l : List UInt8} {i : Nat} {c : UInt8} (h : c ∈ wo l i) : c ∈ l := by
  rcases List.mem_append.1 h with h | h
  · exact List.mem_of_mem_take h
  · exact List.mem_of_mem_drop h
theorem OkL.wo {k i : Nat} {l : List UInt8} (h : OkL k l) : OkL k (wo l i) := fun c hc => h c (wo_mem hc)
def nx (cm : Nat → Nat → Bool) (K : Nat) (l : List UInt8) : Option Nat := (List.range K).find? fun x => decide (0 ≤ fg cm x l 0)
def at0 (cm : Nat → Nat → Bool) (x : Nat) (l : List UInt8) : Nat := (fg cm x l 0).toNat
def least (cm : Nat → Nat → Bool) (K : Nat) : Nat → List UInt8 → List UInt8
  | 0, _ => []
  | f + 1, l => match nx cm K l with
    | none => []
    | some x => UInt8.ofNat (97 + x) :: least cm K f (wo l (at0 cm x l))
end Go.Proofs.YthankillfhmfkaaGreatDoor.Ev
