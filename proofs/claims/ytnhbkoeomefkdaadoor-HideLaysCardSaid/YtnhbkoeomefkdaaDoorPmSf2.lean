/- slices.SortFunc of structs: the library's contract, in the evaluator's words. -/
import Derived.Test.YtnhbkoeomefkdaaDoorPmSf1
import Derived.Shelf.SlSortCmp.WholeK
set_option linter.unusedVariables false
set_option linter.unusedSimpArgs false
namespace Go.Proofs.YtnhbkoeomefkdaaDoor.Ev
open Go Go.RowKit
variable {P : Program} {E : Env}
noncomputable section

/-- what is asked of a comparison -/
structure CmpOK (P : Program) (Es : Nat → Env) (g : FuncId) (k : Nat) (ok : Nat → H → List Value → Prop) (cf : H → List Value → List Value → Int) : Prop where
  okm : ∀ b h h' x, ok b h x → (∀ j, j ≠ b → h'.blks.get j = h.blks.get j) → h.next ≤ h'.next → ok b h' x
  cfm : ∀ b h h' x y, ok b h x → ok b h y → (∀ j, j ≠ b → h'.blks.get j = h.blks.get j) → h.next ≤ h'.next → cf h' x y = cf h x y
  irr : ∀ b h x, ok b h x → ¬ cf h x x < 0
  tr : ∀ b h x y z, ok b h x → ok b h y → ok b h z → cf h x y < 0 → cf h y z < 0 → cf h x z < 0
  ntr : ∀ b h x y z, ok b h x → ok b h y → ok b h z → ¬ cf h x y < 0 → ¬ cf h y z < 0 → ¬ cf h x z < 0
  run : ∀ b h x y, Hok h → ok b h x → ok b h y → x.length = k → y.length = k → ∃ F h2, callWith (Es h.next) (run P (Es h.next) F) g [.agg x.toArray, .agg y.toArray] h = some (.int .i64 (cf h x y), h2)

open Classical in
/-- slices.SortFunc of structs of k cells -/
def gSortF (k : Nat) (g : FuncId) (ok : Nat → H → List Value → Prop) (cf : H → List Value → List Value → Int) : List Value → H → Option Value
  | [.slice (some ⟨b, off, none⟩) n _, .func (.func f) fs cs], h => match rd h b off (n * k) with
    | some cells => if f = g ∧ fs = #[] ∧ cs = #[] ∧ 0 < n ∧ 0 < k ∧ cells.length = n * k ∧ n < 4611686018427387904 ∧ (∀ x ∈ chunks k n cells, ok b h x) ∧ (∀ x ∈ chunks k n cells, ∀ y ∈ chunks k n cells, ¬ cf h x y < 0 → ¬ cf h y x < 0 → x = y) ∧ cells.all oneB = true then
        some (wrV b off (srtL (fun x y => decide (cf h x y < 0)) (chunks k n cells)).flatten) else none
    | none => none
  | [.slice none 0 0, .func (.func _) fs cs], _ => if fs = #[] ∧ cs = #[] then some (.tuple #[]) else none
  | _, _ => none

theorem VRs.take {φ : Phi} {l l' : List Value} (h : VRs φ l l') : ∀ n, VRs φ (l.take n) (l'.take n) := by
  induction h with
  | nil => intro n; simp; exact .nil
  | cons h _ ih => intro n; cases n with
    | zero => exact .nil
    | succ n => exact .cons h (ih n)
theorem VRs.drop {φ : Phi} {l l' : List Value} (h : VRs φ l l') : ∀ n, VRs φ (l.drop n) (l'.drop n) := by
  induction h with
  | nil => intro n; simp; exact .nil
  | cons h t ih => intro n; cases n with
    | zero => exact .cons h t
    | succ n => exact ih n
theorem VRs.flat' {φ : Phi} {α : Type} {e e' : α → List Value} (h : ∀ i, VRs φ (e i) (e' i)) : ∀ l : List α, VRs φ (l.map e).flatten (l.map e').flatten
  | [] => .nil
  | x :: l => by
    simp only [List.map_cons, List.flatten_cons]
    exact (h x).append (VRs.flat' h l)
theorem flat_len {α : Type} {e : α → List Value} {k : Nat} (hk : ∀ x, (e x).length = k) : ∀ l : List α, (l.map e).flatten.length = l.length * k
  | [] => by simp
  | x :: l => by
    simp only [List.map_cons, List.flatten_cons, List.length_append, hk, flat_len hk l, List.length_cons, Nat.add_mul]
    omega
theorem flat_get {α : Type} {e : α → List Value} {k : Nat} (h0 : 0 < k) (hk : ∀ x, (e x).length = k) : ∀ (l : List α) (j : Nat) (h : j < l.length * k), (l.map e).flatten[j]? = (e (l[j / k]'(Nat.div_lt_of_lt_mul (by rw [Nat.mul_comm]; exact h))))[j % k]?
  | [], j, h => by simp at h
  | x :: l, j, h => by
    simp only [List.map_cons, List.flatten_cons]
    by_cases hj : j < k
    · rw [List.getElem?_append_left (by rw [hk]; exact hj)]
      have h1 : j / k = 0 := Nat.div_eq_of_lt hj
      simp only [h1, List.getElem_cons_zero, Nat.mod_eq_of_lt hj]
    · rw [List.getElem?_append_right (by rw [hk]; omega), hk]
      simp only [List.length_cons, Nat.add_mul, Nat.one_mul] at h
      rw [flat_get h0 hk l (j - k) (by omega)]
      have h1 : j / k = (j - k) / k + 1 := by rw [← Nat.add_div_right _ h0, Nat.sub_add_cancel (by omega)]
      have h2 : j % k = (j - k) % k := by rw [Nat.mod_eq_sub_mod (by omega)]
      simp only [h1, List.getElem_cons_succ, h2]
theorem flatK_list {e : Nat → List Value} {k : Nat} (h0 : 0 < k) (hk : ∀ x, (e x).length = k) (d : Array Nat) : (Go.Sort.flatK e k d).toList = (d.toList.map e).flatten := by
  apply List.ext_getElem?
  intro j
  by_cases hj : j < d.size * k
  · rw [flat_get h0 hk d.toList j (by simpa using hj)]
    have hd : j / k < d.size := Nat.div_lt_of_lt_mul (by rw [Nat.mul_comm]; exact hj)
    have hm : j % k < k := Nat.mod_lt _ h0
    simp only [Go.Sort.flatK, Array.toList_map, List.getElem?_map, Array.toList_range, List.getElem?_range hj, Option.map_some, Array.getElem_toList]
    have h1 : d[j / k]! = d[j / k] := by simp [hd]
    rw [h1, List.getElem?_eq_getElem (by rw [hk]; exact hm)]
    simp [hk, hm]
  · rw [List.getElem?_eq_none (by simpa [Go.Sort.flatK] using Nat.le_of_not_lt hj), List.getElem?_eq_none (by rw [flat_len hk]; simpa using Nat.le_of_not_lt hj)]
theorem setL_putid {o : Nat} {c : Array Value} (F : Array Value) : setL o F.toList c = Sort.putCells id o F c := by
  apply Array.ext_getElem?
  intro k
  rw [setL_get]
  unfold Sort.putCells
  simp only [Array.getElem?_mapIdx, Array.length_toList]
  by_cases hk : k < c.size
  · rw [Array.getElem?_eq_getElem hk]
    simp only [Option.map_some, hk, and_true]
    by_cases h : o ≤ k ∧ k < o + F.size
    · rw [if_pos h, if_pos h]
      have : k - o < F.size := by omega
      simp [this]
    · rw [if_neg h, if_neg h]
  · rw [Array.getElem?_eq_none (Nat.le_of_not_lt hk)]
    simp [hk]
theorem below_putF {w : World} {n bk o : Nat} {F : Array Value} {os : Array Obj} : Below (Sort.mapBlock w bk (setL o F.toList)).heap.size (Sort.mapBlock w bk (setL o F.toList)) (Sort.grow (Sort.putRow id (Sort.ahead w n) bk o F) os) := by
  have he : Sort.mapBlock w bk (setL o F.toList) = Sort.putRow id w bk o F := by
    unfold Sort.putRow
    exact Sort.mapBlock_congr _ _ _ _ fun c _ _ _ => setL_putid F
  rw [he, Sort.putRow_ahead]
  refine ⟨rfl, rfl, rfl, by simp [Sort.grow, Sort.ahead], fun k hk => ?_⟩
  simp only [Sort.grow, Sort.ahead]
  rw [Array.getElem?_append_left hk]
theorem grown_of {W w' : World} (hb : Below W.heap.size W w') (hd : W.drawn ≤ w'.drawn) : ∃ q os, w' = Sort.grow (W.drewN q) os := by
  refine ⟨w'.drawn - W.drawn, w'.heap.extract W.heap.size w'.heap.size, ?_⟩
  have hh : w'.heap = W.heap ++ w'.heap.extract W.heap.size w'.heap.size := by
    apply Array.ext_getElem?
    intro i
    by_cases hi : i < W.heap.size
    · rw [Array.getElem?_append_left hi]
      exact hb.block i hi
    · rw [Array.getElem?_append_right (by omega), Array.getElem?_extract]
      by_cases h2 : i < w'.heap.size
      · rw [if_pos (by omega)]
        congr 1
        omega
      · rw [if_neg (by omega)]
        exact Array.getElem?_eq_none (by omega)
  have h1 := hb.os
  have h2 := hb.tape
  have h3 := hb.output
  have h4 : W.drawn + (w'.drawn - W.drawn) = w'.drawn := by omega
  obtain ⟨heap, tape, drawn, os, output⟩ := w'
  simp only [Sort.grow, World.drewN] at *
  rw [h4, ← hh]
  subst h1; subst h2; subst h3
  rfl
theorem oneB_cell {v : Value} (h : oneB v = true) : v.oneCell' = true := by cases v <;> first | rfl | (simp [oneB] at h)
end
end Go.Proofs.YtnhbkoeomefkdaaDoor.Ev

