/- slices.Sort of whole numbers, by what the library's contract says. -/
import Derived.Test.YtnhbkoeomefkdaaDoorPmOr
import Derived.Sort.Grow
import Derived.Sort.Row
set_option linter.unusedVariables false
namespace Go.Proofs.YtnhbkoeomefkdaaDoor.Ev
open Go Go.RowKit
variable {P : Program} {E : Env}
noncomputable section

/-- values laid into cells, one after the other -/
def setL : Nat → List Value → Array Value → Array Value
  | _, [], c => c
  | o, v :: r, c => setL (o + 1) r (c.setIfInBounds o v)
theorem setL_get : ∀ (vs : List Value) (o : Nat) (c : Array Value) (k : Nat), (setL o vs c)[k]? = if o ≤ k ∧ k < o + vs.length ∧ k < c.size then vs[k - o]? else c[k]?
  | [], o, c, k => by
    have : ¬ (o ≤ k ∧ k < o + 0 ∧ k < c.size) := by omega
    simp only [setL, List.length_nil, this, if_false]
  | v :: r, o, c, k => by
    simp only [setL]
    rw [setL_get r (o + 1) _ k]
    simp only [Array.size_setIfInBounds, List.length_cons, Array.getElem?_setIfInBounds]
    by_cases h1 : o = k
    · subst h1
      by_cases h2 : o < c.size
      · simp [h2]
        intro h3
        omega
      · simp [h2]
    · by_cases h2 : o ≤ k ∧ k < o + (r.length + 1) ∧ k < c.size
      · rw [if_pos h2, if_pos ⟨by omega, by omega, h2.2.2⟩, show k - o = (k - (o + 1)) + 1 by omega]
        rfl
      · rw [if_neg h2, if_neg (by omega), if_neg h1]

theorem storeCells_ok {c o : Nat} {ty : TypeId} {fr : Nat × Nat} : ∀ (vs : List Value) (i : Nat) (w w1 : World) (cs : Array Value), (∀ v ∈ vs, oneB v = true) → w.heap[c]? = some (.cells cs ty fr) → o + i + vs.length ≤ cs.size →
    (storeCells ⟨c, o, none⟩ vs i).run P w = .ok () w1 → (∀ j, j < vs.length → w.frozen? ⟨c, o + i + j, none⟩ = false) ∧ w1 = Sort.mapBlock w c (setL (o + i) vs)
  | [], i, w, w1, cs, _, hh, _, hr => by
    simp only [storeCells, Sem.run_pure, Result.ok.injEq] at hr
    refine ⟨fun j hj => by simp at hj, ?_⟩
    rw [← hr.2]
    exact (Sort.mapBlock_id w c _ fun _ _ _ _ => rfl).symm
  | v :: r, i, w, w1, cs, hv, hh, hs, hr => by
    simp only [List.length_cons] at hs
    have hc : w.cell? ⟨c, o + i, none⟩ = some cs[o + i] := by rw [cell_at hh]; exact Array.getElem?_eq_getElem (show o + i < cs.size by omega)
    have hst : (store ⟨c, o + i, none⟩ v).run P w = if w.frozen? ⟨c, o + i, none⟩ then .halt (.unsupported (.unsafePointer "a write to bytes that a string shares")) w else .ok () (w.setCell ⟨c, o + i, none⟩ v) := by
      have hv := hv v (by simp)
      unfold store
      cases v <;> first | (simp [oneB] at hv; done) | simp [Sem.run, hc]
    simp only [storeCells, Sem.run_bind, add_mk, hst] at hr
    by_cases hf : w.frozen? ⟨c, o + i, none⟩ = true
    · simp [hf, Result.andThen] at hr
    · simp only [hf, if_false, Bool.false_eq_true] at hr
      have hf' : w.frozen? ⟨c, o + i, none⟩ = false := by simpa using hf
      have hh1 : (w.setCell ⟨c, o + i, none⟩ v).heap[c]? = some (.cells (cs.setIfInBounds (o + i) v) ty fr) := by simp [World.setCell, Array.getElem?_modify, hh]
      obtain ⟨h1, h2⟩ := storeCells_ok (c := c) (o := o) r (i + 1) _ w1 (cs.setIfInBounds (o + i) v) (fun v hv' => hv v (by simp [hv'])) hh1 (by simp only [Array.size_setIfInBounds]; omega) (by simpa [Result.andThen] using hr)
      refine ⟨fun j hj => ?_, ?_⟩
      · cases j with
        | zero => exact hf'
        | succ j =>
          have := h1 j (by simp at hj; omega)
          rw [Sort.setCell_eq, Sort.frozen?_mapBlock] at this
          rw [show o + i + (j + 1) = o + (i + 1) + j by omega]
          exact this
      · rw [h2, Sort.setCell_eq, Sort.mapBlock_mapBlock]
        rfl

end
end Go.Proofs.YtnhbkoeomefkdaaDoor.Ev

