/- Arguments that lie in memory: a heap of tables and of the arguments' blocks, which are only read. -/
import Derived.Test.YtoeblkenmjbfiaaDoorPmEvL
namespace Go.Proofs.YtoeblkenmjbfiaaDoor.Ev
open Go
variable {P : Program} {E : Env}

/-- an argument's block: its cells as the evaluator has them; where they lie in the model's memory -/
structure ArgB where
  L : List Value
  blk : Nat
  off : Nat
  es : Nat
  top : Nat

noncomputable def putArgs : List ArgB → Nat → Tr Blk → Tr Blk
  | [], _, t => t
  | a :: r, i, t => putArgs r (i + 1) (Tr.put t i (.mk (Tr.ofList a.L) a.L.length a.es))

theorem putArgs_get : ∀ (l : List ArgB) (i : Nat) (t : Tr Blk) (b : Nat), (putArgs l i t).get b = if i ≤ b ∧ b < i + l.length then (l[b - i]?).map fun a => .mk (Tr.ofList a.L) a.L.length a.es else t.get b
  | [], i, t, b => by simp [putArgs]; omega
  | a :: l, i, t, b => by
    rw [putArgs, putArgs_get l (i + 1), Tr.get_put]
    simp only [List.length_cons]
    by_cases h1 : b = i
    · subst h1
      rw [if_neg (by omega), if_pos rfl, if_pos (by omega)]
      simp
    · by_cases h2 : i + 1 ≤ b ∧ b < i + 1 + l.length
      · rw [if_pos h2, if_pos (by omega)]
        have : b - i = (b - (i + 1)) + 1 := by omega
        rw [this, List.getElem?_cons_succ]
      · rw [if_neg h2, if_neg h1, if_neg (by omega)]

/-- the arguments' cells in the model's memory -/
def ArgsIn (φ : Phi) (args : List ArgB) (w : World) : Prop := ∀ (i : Nat) (a : ArgB), args[i]? = some a → a.off + a.L.length ≤ a.top ∧
  ∃ cs ty fr, w.heap[a.blk]? = some (.cells cs ty fr) ∧ a.top ≤ cs.size ∧ ∀ (j : Nat) (v : Value), a.L[j]? = some v → ∃ v', cs[a.off + j]? = some v' ∧ VR φ v v'

section
variable {N : Nat} {tabs : List (Nat × List Value)} {args : List ArgB}
end

/-- cells of a slice that was handed in -/
theorem cells_world {w : World} {a : Addr} {n : Nat} (h0 : 0 < n) {V : Nat → Value} (hsp : a.spot = none) (h : ∀ i, i < n → w.cell? (a.add i) = some (V i)) :
    ∃ cs ty fr, w.heap[a.block]? = some (.cells cs ty fr) ∧ a.off + n ≤ cs.size ∧ ∀ i, i < n → cs[a.off + i]? = some (V i) := by
  have ha : ∀ i, a.add i = ⟨a.block, a.off + i, none⟩ := fun i => by
    cases a
    simp only at hsp
    subst hsp
    rw [add_mk]
  have hc := h 0 h0
  rw [ha] at hc
  unfold World.cell? at hc
  simp only at hc
  split at hc
  · rename_i cs ty fr hh
    have hall : ∀ i, i < n → cs[a.off + i]? = some (V i) := fun i hi => by
      have h2 := h i hi
      rw [ha] at h2
      unfold World.cell? at h2
      simpa [hh] using h2
    refine ⟨cs, ty, fr, hh, ?_, hall⟩
    have := (Array.getElem?_eq_some_iff.1 (hall (n - 1) (by omega))).1
    omega
  · cases hc
end Go.Proofs.YtoeblkenmjbfiaaDoor.Ev

