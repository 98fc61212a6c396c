/- slices.Sort of whole numbers, by what the library's contract says. -/
import Derived.Test.YtoeblkenmjbfiaaDoorPmOr
import Derived.Sort.Grow
import Derived.Sort.Row
set_option linter.unusedVariables false
namespace Go.Proofs.YtoeblkenmjbfiaaDoor.Ev
open Go Go.RowKit
variable {P : Program} {E : Env}
noncomputable section

/-- numbers in their order -/
def srt : List Int → List Int
  | [] => []
  | x :: r => ins x (srt r)
where ins (x : Int) : List Int → List Int
  | [] => [x]
  | y :: r => if x ≤ y then x :: y :: r else y :: ins x r

theorem ins_perm (x : Int) : ∀ l, (srt.ins x l).Perm (x :: l)
  | [] => .refl _
  | y :: r => by
    unfold srt.ins
    split
    · exact .refl _
    · exact ((ins_perm x r).cons y).trans (.swap x y r)
theorem srt_perm : ∀ l, (srt l).Perm l
  | [] => .refl _
  | x :: r => (ins_perm x _).trans ((srt_perm r).cons x)
theorem ins_le (x : Int) : ∀ l : List Int, l.Pairwise (· ≤ ·) → (srt.ins x l).Pairwise (· ≤ ·)
  | [], _ => by simp [srt.ins]
  | y :: r, h => by
    unfold srt.ins
    have h1 := List.pairwise_cons.1 h
    split
    · rename_i hxy
      exact List.pairwise_cons.2 ⟨fun z hz => by
        rcases List.mem_cons.1 hz with rfl | hz
        · exact hxy
        · have := h1.1 z hz; omega, h⟩
    · refine List.pairwise_cons.2 ⟨fun z hz => ?_, ins_le x r h1.2⟩
      rcases List.mem_cons.1 ((ins_perm x r).mem_iff.1 hz) with rfl | hz
      · omega
      · exact h1.1 z hz
theorem srt_le : ∀ l : List Int, (srt l).Pairwise (· ≤ ·)
  | [] => .nil
  | x :: r => ins_le x _ (srt_le r)
theorem srt_len (l : List Int) : (srt l).length = l.length := (srt_perm l).length_eq
theorem le_unique {l m : List Int} (h : l.Perm m) (hl : l.Pairwise (· ≤ ·)) (hm : m.Pairwise (· ≤ ·)) : l = m :=
  h.eq_of_pairwise (fun a b _ _ h1 h2 => Int.le_antisymm h1 h2) hl hm
theorem srt_of_perm {l m : List Int} (h : l.Perm m) : srt l = srt m := le_unique (((srt_perm l).trans h).trans (srt_perm m).symm) (srt_le l) (srt_le m)
theorem srt_self {l : List Int} (h : l.Pairwise (· ≤ ·)) : srt l = l := le_unique (srt_perm l) (srt_le l) h
theorem merge_srt (l : List Int) : (l.mergeSort fun x y => decide (x ≤ y)) = srt l := by
  refine le_unique ((List.mergeSort_perm _ _).trans (srt_perm l).symm) ?_ (srt_le l)
  have := List.pairwise_mergeSort (le := fun x y : Int => decide (x ≤ y)) (fun a b c h1 h2 => by simp at *; omega) (fun a b => by simp; omega) l
  exact this.imp fun h => by simpa using h

def intsOf : List Value → Option (List Int)
  | [] => some []
  | .int .i64 s :: r => match intsOf r with
    | some l => some (s :: l)
    | none => none
  | _ => none
theorem intsOf_map : ∀ {l : List Int}, intsOf (l.map (Value.int .i64)) = some l
  | [] => rfl
  | s :: l => by simp only [List.map_cons, intsOf, intsOf_map (l := l)]
theorem intsOf_some : ∀ {L : List Value} {l : List Int}, intsOf L = some l → L = l.map (Value.int .i64)
  | [], l, h => by cases h; rfl
  | v :: r, l, h => by
    unfold intsOf at h
    split at h
    · cases h; rename_i he; cases he
    · rename_i s r' he
      injection he with he1 he2
      subst he1; subst he2
      split at h
      · rename_i l' hl
        cases h
        rw [List.map_cons, intsOf_some hl]
      · cases h
    · cases h
/-- slices.Sort of a []int -/
def gSortI : List Value → H → Option Value
  | [.slice (some ⟨b, off, none⟩) n _], h => match rd h b off n with
    | some cells => match intsOf cells with
      | some zs => if 0 < n ∧ zs.length = n ∧ n < 4611686018427387904 then some (wrV b off ((srt zs).map (Value.int .i64))) else none
      | none => none
    | none => none
  | [.slice none 0 0], _ => some (.tuple #[])
  | _, _ => none

/-- values laid into cells, one after the other -/
def setL : Nat → List Value → Array Value → Array Value
  | _, [], c => c
  | o, v :: r, c => setL (o + 1) r (c.setIfInBounds o v)
theorem setL_get : ∀ (vs : List Value) (o : Nat) (c : Array Value) (k : Nat), (setL o vs c)[k]? = if o ≤ k ∧ k < o + vs.length ∧ k < c.size then vs[k - o]? else c[k]?
  | [], o, c, k => by
    have : ¬ (o ≤ k ∧ k < o + 0 ∧ k < c.size) := by omega
    simp only [setL, List.length_nil, this, if_false]
  | v :: r, o, c, k => by
    simp only [setL]
    rw [setL_get r (o + 1) _ k]
    simp only [Array.size_setIfInBounds, List.length_cons, Array.getElem?_setIfInBounds]
    by_cases h1 : o = k
    · subst h1
      by_cases h2 : o < c.size
      · simp [h2]
        intro h3
        omega
      · simp [h2]
    · by_cases h2 : o ≤ k ∧ k < o + (r.length + 1) ∧ k < c.size
      · rw [if_pos h2, if_pos ⟨by omega, by omega, h2.2.2⟩, show k - o = (k - (o + 1)) + 1 by omega]
        rfl
      · rw [if_neg h2, if_neg (by omega), if_neg h1]

theorem storeCells_ok {c o : Nat} {ty : TypeId} {fr : Nat × Nat} : ∀ (vs : List Value) (i : Nat) (w w1 : World) (cs : Array Value), (∀ v ∈ vs, oneB v = true) → w.heap[c]? = some (.cells cs ty fr) → o + i + vs.length ≤ cs.size →
    (storeCells ⟨c, o, none⟩ vs i).run P w = .ok () w1 → (∀ j, j < vs.length → w.frozen? ⟨c, o + i + j, none⟩ = false) ∧ w1 = Sort.mapBlock w c (setL (o + i) vs)
  | [], i, w, w1, cs, _, hh, _, hr => by
    simp only [storeCells, Sem.run_pure, Result.ok.injEq] at hr
    refine ⟨fun j hj => by simp at hj, ?_⟩
    rw [← hr.2]
    exact (Sort.mapBlock_id w c _ fun _ _ _ _ => rfl).symm
  | v :: r, i, w, w1, cs, hv, hh, hs, hr => by
    simp only [List.length_cons] at hs
    have hc : w.cell? ⟨c, o + i, none⟩ = some cs[o + i] := by rw [cell_at hh]; exact Array.getElem?_eq_getElem (show o + i < cs.size by omega)
    have hst : (store ⟨c, o + i, none⟩ v).run P w = if w.frozen? ⟨c, o + i, none⟩ then .halt (.unsupported (.unsafePointer "a write to bytes that a string shares")) w else .ok () (w.setCell ⟨c, o + i, none⟩ v) := by
      have hv := hv v (by simp)
      unfold store
      cases v <;> first | (simp [oneB] at hv; done) | simp [Sem.run, hc]
    simp only [storeCells, Sem.run_bind, add_mk, hst] at hr
    by_cases hf : w.frozen? ⟨c, o + i, none⟩ = true
    · simp [hf, Result.andThen] at hr
    · simp only [hf, if_false, Bool.false_eq_true] at hr
      have hf' : w.frozen? ⟨c, o + i, none⟩ = false := by simpa using hf
      have hh1 : (w.setCell ⟨c, o + i, none⟩ v).heap[c]? = some (.cells (cs.setIfInBounds (o + i) v) ty fr) := by simp [World.setCell, Array.getElem?_modify, hh]
      obtain ⟨h1, h2⟩ := storeCells_ok (c := c) (o := o) r (i + 1) _ w1 (cs.setIfInBounds (o + i) v) (fun v hv' => hv v (by simp [hv'])) hh1 (by simp only [Array.size_setIfInBounds]; omega) (by simpa [Result.andThen] using hr)
      refine ⟨fun j hj => ?_, ?_⟩
      · cases j with
        | zero => exact hf'
        | succ j =>
          have := h1 j (by simp at hj; omega)
          rw [Sort.setCell_eq, Sort.frozen?_mapBlock] at this
          rw [show o + i + (j + 1) = o + (i + 1) + j by omega]
          exact this
      · rw [h2, Sort.setCell_eq, Sort.mapBlock_mapBlock]
        rfl

theorem setL_put {zs : List Int} {o : Nat} {c : Array Value} : setL o (zs.map (Value.int .i64)) c = Sort.putCells (Value.int .i64) o zs.toArray c := by
  apply Array.ext_getElem?
  intro k
  rw [setL_get]
  unfold Sort.putCells
  simp only [List.length_map, Array.getElem?_mapIdx, List.size_toArray]
  by_cases hk : k < c.size
  · rw [Array.getElem?_eq_getElem hk]
    simp only [Option.map_some, hk, and_true]
    by_cases h : o ≤ k ∧ k < o + zs.length
    · rw [if_pos h, if_pos h, List.getElem?_map]
      have : k - o < zs.length := by omega
      simp [this]
    · rw [if_neg h, if_neg h]
  · rw [Array.getElem?_eq_none (Nat.le_of_not_lt hk)]
    simp [hk]

theorem below_put {w : World} {n bk o : Nat} {zs : List Int} {os : Array Obj} : Below (Sort.mapBlock w bk (setL o (zs.map (Value.int .i64)))).heap.size (Sort.mapBlock w bk (setL o (zs.map (Value.int .i64)))) (Sort.grow (Sort.putRow (Value.int .i64) (Sort.ahead w n) bk o zs.toArray) os) := by
  have he : Sort.mapBlock w bk (setL o (zs.map (Value.int .i64))) = Sort.putRow (Value.int .i64) w bk o zs.toArray := by
    unfold Sort.putRow
    exact Sort.mapBlock_congr _ _ _ _ fun c _ _ _ => setL_put
  rw [he, Sort.putRow_ahead]
  refine ⟨rfl, rfl, rfl, by simp [Sort.grow, Sort.ahead], fun k hk => ?_⟩
  simp only [Sort.grow, Sort.ahead]
  rw [Array.getElem?_append_left hk]

theorem orcSortI {f : FuncId} (hfn : ∃ fn, P.funcs[f]? = some fn ∧ fn.body.isSome = true ∧ fn.name ≠ "runtime.NumGoroutine")
    (h0 : ∀ w, Calls P f #[.slice none 0 0] w fun e w' => e = .returned (.tuple #[]) ∧ Below w.heap.size w w')
    (hc : ∀ (bk o c : Nat) (zs : List Int) (w : World), Sort.Holds (Value.int .i64) w bk o zs.toArray → bk < w.heap.size → zs.length < 4611686018427387904 →
      Calls P f #[.slice (some ⟨bk, o, none⟩) zs.length c] w fun e w' => e = .returned (.tuple #[]) ∧ ∃ n os, w' = Sort.grow (Sort.putRow (Value.int .i64) (Sort.ahead w n) bk o (zs.mergeSort fun x y => decide (x ≤ y)).toArray) os) : OrcOK P E f gSortI := by
  refine ⟨hfn, fun args h v hv => ?_⟩
  unfold gSortI at hv
  split at hv
  · refine .inr ?_
    rename_i b off n m
    split at hv
    · rename_i cells hrd
      split at hv
      · rename_i zs hzs
        split at hv
        · rename_i hb
          obtain ⟨h0, hlen, hbn⟩ := hb
          injection hv with hv
          subst hv
          refine ⟨b, off, _, rfl, fun φ w args' hr ht ha => ?_⟩
          cases ha with
          | cons a1 a2 =>
            cases a2
            cases a1 with
            | slc hφ hn hm htop hA =>
              rename_i c sh es top m' A
              have hA : A = ⟨c, sh + off, none⟩ := by
                rcases hA with h1 | h1
                · exact h1
                · omega
              subst hA
              have hcell := intsOf_some hzs
              unfold rd at hrd
              split at hrd
              · rename_i cs0 size es0 hb0
                split at hrd
                · rename_i hsz
                  have hlt := hr.lt hb0 hφ
                  obtain ⟨_, cs, ty, fr, hh, _, h3, h4, h5⟩ := hr.blk b _ _ _ hb0 _ hφ
                  have hget : ∀ j, j < n → cs0.get (off + j) = cells[j]? := fun j hj => (getCells_some _ _ _ _ hrd).2 j hj
                  refine ⟨c, sh, es, top, (srt zs).map (Value.int .i64), hφ, VRs.of_get rfl (fun i h h' => VR.of_plain (by simp [plain])), fun w1 hrun => ?_⟩
                  obtain ⟨hfz, hw1⟩ := storeCells_ok _ _ _ _ cs (fun v hv => by
                    obtain ⟨z, _, rfl⟩ := List.mem_map.1 hv
                    rfl) hh (by simp only [List.length_map, srt_len]; omega) hrun
                  simp only [Nat.add_zero, List.length_map, srt_len] at hfz hw1
                  have := hc c (sh + off) m' zs w (fun j hj => by
                    have hj : j < n := by simpa [hlen] using hj
                    obtain ⟨v, v', q1, q2, q3⟩ := h5 (off + j) (by omega)
                    rw [hget j hj, hcell, List.getElem?_map, List.getElem?_eq_getElem (by omega)] at q1
                    simp only [Option.map_some, Option.some.injEq] at q1
                    subst q1
                    obtain rfl := q3.plain rfl
                    refine ⟨?_, hfz j (by omega)⟩
                    simp only [World.cell?, hh]
                    rw [show sh + off + j = sh + (off + j) by omega]
                    have hjz : j < zs.length := by omega
                    simpa [hjz] using q2) hlt (by omega)
                  rw [hlen] at this
                  refine this.mono fun e w' ⟨he, k, os, hw'⟩ => ⟨he, ?_⟩
                  rw [hw', hw1, merge_srt]
                  exact below_put
                · cases hrd
              · cases hrd
        · cases hv
      · cases hv
    · cases hv
  · injection hv with hv
    subst hv
    refine .inl ⟨rfl, fun _ => .tuple rfl fun i h3 h4 => by simp at h3, fun φ w args' hr ht ha => ?_⟩
    cases ha with
    | cons a1 a2 =>
      cases a2
      cases a1 with
      | nils => exact h0 w
  · cases hv
end
end Go.Proofs.YtoeblkenmjbfiaaDoor.Ev

