/- Reading, writing, new blocks: what the evaluator does is what the model does. -/
import Derived.Test.YtngpoamjhngcgaaGreatDoorPmEvHeap
import Derived.Tactics
namespace Go.Proofs.YtngpoamjhngcgaaGreatDoor.Ev
open Go

variable {E : Env} {φ : Phi} {P : Program}

def upd (g : Nat → Option Blk) (b : Nat) (B : Blk) : Nat → Option Blk := fun k => if k = b then some B else g k
theorem upd_upd (g : Nat → Option Blk) (b : Nat) (B C : Blk) : upd (upd g b B) b C = upd g b C := by
  funext k; unfold upd; split <;> rfl

theorem add_mk (c o k : Nat) : (⟨c, o, none⟩ : Addr).add k = ⟨c, o + k, none⟩ := by
  unfold Addr.add
  by_cases hk : k = 0
  · subst hk; simp
  · simp [hk]

theorem cell_at {w : World} {c : Nat} {cs : Array Value} {ty : TypeId} {fr : Nat × Nat} (h : w.heap[c]? = some (.cells cs ty fr)) (i : Nat) : w.cell? ⟨c, i, none⟩ = cs[i]? := by
  simp [World.cell?, h]

theorem run_loadFrom (w : World) (c o : Nat) : ∀ (n i : Nat) (acc : Array Value) (vs : List Value), vs.length = n → (∀ j v, vs[j]? = some v → w.cell? ⟨c, o + (i + j), none⟩ = some v) →
    (loadCellsFrom ⟨c, o, none⟩ i n acc).run P w = .ok (acc ++ vs.toArray) w
  | 0, i, acc, vs, hl, _ => by
    have : vs = [] := List.eq_nil_of_length_eq_zero hl
    subst this
    simp [loadCellsFrom]
  | n + 1, i, acc, vs, hl, hc => by
    match vs, hl with
    | v :: vs, hl =>
      have h0 := hc 0 v rfl
      have ih := run_loadFrom w c o n (i + 1) (acc.push v) vs (by simpa using hl) (fun j u hj => by
        have := hc (j + 1) u (by simpa using hj)
        rw [show i + 1 + j = i + (j + 1) by omega]; exact this)
      simp only [Nat.add_zero] at h0
      simp only [loadCellsFrom, Sem.run_bind, add_mk, load, Sem.run, h0, Result.andThen_ok, ih]
      simp

theorem getCells_some : ∀ (n i : Nat) (t : Tr Value) (vs : List Value), getCells t i n = some vs → vs.length = n ∧ ∀ j, j < n → t.get (i + j) = vs[j]?
  | 0, i, t, vs, h => by simp [getCells] at h; subst h; exact ⟨rfl, fun j hj => by omega⟩
  | n + 1, i, t, vs, h => by
    simp only [getCells] at h
    cases h1 : t.get i with
    | none => rw [h1] at h; cases h
    | some v =>
      rw [h1] at h
      simp only at h
      cases h2 : getCells t (i + 1) n with
      | none => rw [h2] at h; cases h
      | some us =>
        rw [h2] at h
        simp only [Option.some.injEq] at h
        subst h
        obtain ⟨hl, hg⟩ := getCells_some n (i + 1) t us h2
        refine ⟨by simp [hl], fun j hj => ?_⟩
        cases j with
        | zero => simpa using h1
        | succ j =>
          have := hg j (by omega)
          rw [show i + (j + 1) = i + 1 + j by omega, this]; simp

theorem rd_sound {h : H} {w : World} (hr : HR E φ h.blks.get w) {b off n : Nat} {vs : List Value} (hv : rd h b off n = some vs) {c sh es top : Nat} (hφ : φ b = some (c, sh, es, top)) :
    ∃ vs' : List Value, vs'.length = n ∧ (∀ j v, vs'[j]? = some v → w.cell? ⟨c, sh + off + j, none⟩ = some v) ∧ VRs φ vs vs' := by
  unfold rd at hv
  split at hv
  · rename_i cells size es' hb
    split at hv
    · rename_i hle
      obtain ⟨hl, hg⟩ := getCells_some n off cells vs hv
      obtain ⟨_, cs, ty, _, hh, _, h1, h2, hc⟩ := hr.blk b cells size es' hb _ hφ
      have key : ∀ j, j < n → ∃ v v', vs[j]? = some v ∧ cs[sh + (off + j)]? = some v' ∧ VR φ v v' := fun j hj => by
        obtain ⟨v, v', e1, e2, e3⟩ := hc (off + j) (by omega)
        exact ⟨v, v', by rw [← hg j hj]; exact e1, e2, e3⟩
      refine ⟨(List.range n).map fun j => (cs[sh + (off + j)]?).getD undef, by simp, fun j v hj => ?_, VRs.of_get (by simp [hl]) fun i h3 h4 => ?_⟩
      · rw [List.getElem?_map] at hj
        cases hjn : (List.range n)[j]? with
        | none => rw [hjn] at hj; cases hj
        | some k =>
          have hkj : k = j ∧ j < n := by
            rw [List.getElem?_eq_some_iff] at hjn
            obtain ⟨h5, h6⟩ := hjn
            simp at h5 h6
            omega
          obtain ⟨rfl, hjlt⟩ := hkj
          rw [hjn] at hj
          obtain ⟨u, u', _, e2, _⟩ := key k hjlt
          simp only [Option.map_some, e2, Option.getD_some, Option.some.injEq] at hj
          subst hj
          rw [cell_at hh, Nat.add_assoc]; exact e2
      · obtain ⟨v, v', e1, e2, e3⟩ := key i (by omega)
        rw [List.getElem?_eq_getElem h3] at e1
        injection e1 with e1
        simpa [e1, e2] using e3
    · cases hv
  · cases hv

theorem run_loadCells {w : World} {c o n : Nat} {vs : List Value} (hl : vs.length = n) (hc : ∀ j v, vs[j]? = some v → w.cell? ⟨c, o + j, none⟩ = some v) :
    (loadCells ⟨c, o, none⟩ n).run P w = .ok vs.toArray w := by
  have := run_loadFrom (P := P) w c o n 0 #[] vs hl (fun j v hj => by rw [Nat.zero_add]; exact hc j v hj)
  simpa [loadCells] using this

/-- one cell -/
theorem HR.set1 {g : Nat → Option Blk} {w : World} (hr : HR E φ g w) {b : Nat} (hG : E.G ≤ b) (hfz : E.frz b = false) {cells : Tr Value} {size es : Nat} (hb : g b = some (.mk cells size es)) {c sh es' top : Nat} (hφ : φ b = some (c, sh, es', top))
    {i : Nat} (hi : i < size) {v v' : Value} (hv : VR φ v v') :
    HR E φ (upd g b (.mk (Tr.put cells i v) size es)) (w.setCell ⟨c, sh + i, none⟩ v') := by
  obtain ⟨hes, cs, ty, fr, hh, hfr, h1, h2, hc⟩ := hr.blk b cells size es hb _ hφ
  have hclt : c < w.heap.size := by
    rcases Nat.lt_or_ge c w.heap.size with h | h
    · exact h
    · rw [Array.getElem?_eq_none h] at hh; cases hh
  have hheap : ∀ k, (w.setCell ⟨c, sh + i, none⟩ v').heap[k]? = if k = c then some (.cells (cs.setIfInBounds (sh + i) v') ty fr) else w.heap[k]? := fun k => by
    simp only [World.setCell, Array.getElem?_modify]
    by_cases hk : k = c
    · subst hk; simp [hh]
    · simp [hk, Ne.symm hk]
  refine ⟨fun b' cells' size' es'' hb' x hx => ?_, fun b1 b2 x1 x2 c1 s1 e1 c2 s2 e2 hG1 hb1 hb2 hx1 hx2 he => ?_, fun b' cells' size' es'' hlt hlN hb' => ?_, fun b1 b2 x1 x2 c1 s1 e1 c2 s2 e2 hf1 hf2 hlt hb1 hb2 hx1 hx2 he => ?_, ?_⟩
  · unfold upd at hb'
    split at hb'
    · rename_i hbb
      subst hbb
      injection hb' with hb'
      injection hb' with e1 e2 e3
      subst e1; subst e2; subst e3
      rw [hφ] at hx
      injection hx with hx
      subst hx
      refine ⟨hes, cs.setIfInBounds (sh + i) v', ty, fr, by rw [hheap, if_pos rfl], ⟨fun hw => by simpa using hfr.1 hw, fun hw => by simpa using hfr.2 hw⟩, h1, by simpa using h2, fun j hj => ?_⟩
      rw [Tr.get_put]
      by_cases hji : j = i
      · subst hji
        refine ⟨v, v', by simp, ?_, hv⟩
        rw [Array.getElem?_setIfInBounds_self_of_lt (by omega)]
      · obtain ⟨u, u', e1, e2, e3⟩ := hc j hj
        exact ⟨u, u', by rw [if_neg hji]; exact e1, by rw [Array.getElem?_setIfInBounds_ne (by omega)]; exact e2, e3⟩
    · rename_i hbb
      obtain ⟨c', sh', es3, top'⟩ := x
      obtain ⟨hes', cs', ty', fr', hh', hfr', h1', h2', hc'⟩ := hr.blk b' cells' size' es'' hb' _ hx
      have hne : c' ≠ c := fun e => by
        rcases hr.inj b b' _ _ _ _ _ _ _ _ hG hb hb' hφ hx e.symm with h3 | h3
        · exact hbb h3.symm
        · rw [hfz] at h3; cases h3.1
      exact ⟨hes', cs', ty', fr', by rw [hheap, if_neg hne]; exact hh', hfr', h1', h2', hc'⟩
  · have old : ∀ {k : Nat} {cc : Tr Value} {ss ee : Nat}, upd g b (.mk (Tr.put cells i v) size es) k = some (.mk cc ss ee) → ∃ cc' ss' ee', g k = some (.mk cc' ss' ee') := fun {k cc ss ee} hk => by
      unfold upd at hk
      split at hk
      · rename_i hkb; subst hkb; exact ⟨_, _, _, hb⟩
      · exact ⟨_, _, _, hk⟩
    obtain ⟨_, _, _, g1⟩ := old hb1
    obtain ⟨_, _, _, g2⟩ := old hb2
    exact hr.inj b1 b2 x1 x2 _ _ _ _ _ _ hG1 g1 g2 hx1 hx2 he
  · unfold upd at hb'
    split at hb'
    · rename_i hbb; subst hbb; exact hr.glob _ _ _ _ hlt hlN hb
    · exact hr.glob _ _ _ _ hlt hlN hb'
  · have n1 : b1 ≠ b := fun e => by rw [e, hfz] at hf1; cases hf1
    have n2 : b2 ≠ b := fun e => by rw [e, hfz] at hf2; cases hf2
    unfold upd at hb1 hb2
    rw [if_neg n1] at hb1
    rw [if_neg n2] at hb2
    exact hr.mono b1 b2 x1 x2 _ _ _ _ _ _ hf1 hf2 hlt hb1 hb2 hx1 hx2 he
  · refine hr.mp.move (fun _ _ h => h) (fun k l hk => ?_) (fun _ _ _ _ h => h) (fun k es2 clk hk => ?_)
    · unfold upd at hk
      split at hk
      · cases hk
      · exact hk
    · rw [hheap]
      split
      · rename_i hkc; subst hkc; rw [hk] at hh; cases hh
      · exact hk

theorem run_store1 {w : World} {c i : Nat} {cs : Array Value} {ty : TypeId} {fr : Nat × Nat} (hh : w.heap[c]? = some (.cells cs ty fr)) (hfr : NoFr fr cs.size) (hi : i < cs.size) {v : Value} (hv : oneB v = true) :
    (store ⟨c, i, none⟩ v).run P w = .ok () (w.setCell ⟨c, i, none⟩ v) := by
  have hc : w.cell? ⟨c, i, none⟩ = some cs[i] := by rw [cell_at hh]; exact Array.getElem?_eq_getElem hi
  have hf : w.frozen? ⟨c, i, none⟩ = false := hfr.at_ hi hh
  unfold store
  cases v <;> first | (simp [oneB] at hv; done) | simp [Sem.run, hc, hf]

/-- a list of cells -/
theorem store_list {b : Nat} {size es : Nat} {c sh es' top : Nat} (hφ : φ b = some (c, sh, es', top)) (hG : E.G ≤ b) (hfz : E.frz b = false) :
    ∀ (vs vs' : List Value) (off i : Nat) (cells : Tr Value) (g : Nat → Option Blk) (w : World), HR E φ g w → g b = some (.mk cells size es) → VRs φ vs vs' → off + i + vs.length ≤ size → vs'.all oneB = true →
      ∃ w', (storeCells ⟨c, sh + off, none⟩ vs' i).run P w = .ok () w' ∧ HR E φ (upd g b (.mk (setCells cells (off + i) vs) size es)) w' ∧
        w'.os = w.os ∧ (w'.tape = w.tape ∧ w'.drawn = w.drawn) ∧ w'.output = w.output ∧ w'.heap.size = w.heap.size ∧ ∀ k, k ≠ c → w'.heap[k]? = w.heap[k]?
  | [], _, off, i, cells, g, w, hr, hb, hv, _, _ => by
    cases hv
    refine ⟨w, by simp [storeCells], ?_, rfl, ⟨rfl, rfl⟩, rfl, rfl, fun _ _ => rfl⟩
    have : upd g b (.mk (setCells cells (off + i) []) size es) = g := by
      funext k; unfold upd setCells; split
      · rename_i hk; subst hk; exact hb.symm
      · rfl
    rw [this]; exact hr
  | v :: vs, _, off, i, cells, g, w, hr, hb, hv, hle, ho => by
    cases hv with
    | cons hv0 hvs =>
      rename_i v' vs'
      simp only [List.length_cons] at hle
      simp only [List.all_cons, Bool.and_eq_true] at ho
      obtain ⟨_, cs, ty, fr, hh, hfr, h1, h2, _⟩ := hr.blk b cells size es hb _ hφ
      have hst := run_store1 (P := P) (i := sh + (off + i)) hh (hfr.1 hG) (by omega) (v := v') ho.1
      have hr1 := hr.set1 hG hfz hb hφ (i := off + i) (by omega) hv0
      obtain ⟨w', hrun, hr', e1, e2, e3, e4, e5⟩ := store_list hφ hG hfz vs vs' off (i + 1) (Tr.put cells (off + i) v) _ _ hr1 (show upd g b (.mk (Tr.put cells (off + i) v) size es) b = _ from by unfold upd; rw [if_pos rfl]) hvs (by omega) ho.2
      refine ⟨w', ?_, ?_, e1, e2, e3, by rw [e4]; simp [World.setCell], fun k hk => ?_⟩
      · simp only [storeCells, Sem.run_bind, add_mk]
        rw [show sh + off + i = sh + (off + i) by omega, hst]
        simpa [Result.andThen_ok] using hrun
      · rw [upd_upd] at hr'
        simpa [setCells, Tr.force_eq, Nat.add_assoc] using hr'
      · rw [e5 k hk]
        simp [World.setCell, Array.getElem?_modify, Ne.symm hk]

theorem VR.one {v v' : Value} (h : VR φ v v') : oneB v' = oneB v := by cases h <;> rfl
theorem VRs.one {l l' : List Value} (h : VRs φ l l') : l'.all oneB = l.all oneB := by
  induction h with
  | nil => rfl
  | cons h _ ih => simp [h.one, ih]

theorem wr_sound {h h' : H} {w : World} (hr : HR E φ h.blks.get w) {b off : Nat} {vs vs' : List Value} (hw : wr E h b off vs = some h') {c sh es top : Nat} (hφ : φ b = some (c, sh, es, top)) (hv : VRs φ vs vs') :
    ∃ w', (storeCells ⟨c, sh + off, none⟩ vs').run P w = .ok () w' ∧ HR E φ h'.blks.get w' ∧ Ext E φ h w φ h' w' := by
  obtain ⟨cells, size, es', hb, hle, hG, hone, hfz, rfl⟩ := wr_some hw
  obtain ⟨w', hrun, hr', e1, e2, e3, e4, e5⟩ := store_list (P := P) hφ hG hfz vs vs' off 0 cells h.blks.get w hr hb hv (by omega) (by rw [hv.one]; exact hone)
  refine ⟨w', hrun, ?_, ⟨fun _ _ h => h, fun _ _ h => .inl h, fun _ _ h h' => (by rw [h'] at h; cases h), e1, e2.1, e3, by omega, fun k hk hno => e5 k fun e => (by have := (hno b _ (live_mk hb) hG hφ e.symm).1; rw [hfz] at this; cases this), fun _ => Nat.le_of_eq e2.2.symm⟩⟩
  have : (Tr.put h.blks b (.mk (setCells cells off vs) size es')).get = upd h.blks.get b (.mk (setCells cells (off + 0) vs) size es') := by
    funext k
    rw [Tr.get_put]
    rfl
  simp only
  rw [this]
  exact hr'

/-- a new block -/
theorem HR.newF {fr : Nat × Nat} {h : H} {w : World} (hG : E.G ≤ h.next) (hr : HR E φ h.blks.get w) (hf : φ h.next = none) {cells : List Value} {cells' : Array Value} (hfr : NoFr fr cells'.size) {es b : Nat} {h' : H} (ty : TypeId)
    (hn : aNew h cells es = some (b, h')) (hl : cells.length ≤ cells'.size) (hv : ∀ (i : Nat) (v : Value), cells[i]? = some v → ∃ v', cells'[i]? = some v' ∧ VR φ v v') :
    ∃ φ', φ' h.next = some (w.heap.size, 0, es, cells'.size) ∧ HR E φ' h'.blks.get { w with heap := w.heap.push (.cells cells' ty fr) } ∧ Ext E φ h w φ' h' { w with heap := w.heap.push (.cells cells' ty fr) } := by
  obtain ⟨rfl, rfl⟩ := aNew_some hn
  have hg : ∀ k, (Tr.put h.blks h.next (.mk (Tr.ofList cells) cells.length es)).get k = if k = h.next then some (.mk (Tr.ofList cells) cells.length es) else h.blks.get k :=
    fun k => Tr.get_put _ _ _ _
  have hle : ∀ b x, φ b = some x → (fun k => if k = h.next then some (w.heap.size, 0, es, cells'.size) else φ k) b = some x := fun b x hx => by
    by_cases hb : b = h.next
    · subst hb; rw [hf] at hx; cases hx
    · simp [hb, hx]
  have hold : ∀ k, k < w.heap.size → (w.heap.push (.cells cells' ty fr))[k]? = w.heap[k]? := fun k hk => by rw [Array.getElem?_push_lt hk]; exact (Array.getElem?_eq_getElem hk).symm
  refine ⟨fun k => if k = h.next then some (w.heap.size, 0, es, cells'.size) else φ k, by simp, ⟨fun b cs size es' hb x hx => ?_, fun b1 b2 x1 x2 c1 s1 e1 c2 s2 e2 hG1 hb1 hb2 hx1 hx2 he => ?_, fun b cs size es' hlt' hlN hb => ?_, fun b1 b2 x1 x2 c1 s1 e1 c2 s2 e2 hf1 hf2 hlt hb1 hb2 hx1 hx2 he => ?_, ?_⟩,
    ⟨hle, fun b x hx => ?_, fun b x hx h0 => ?_, rfl, rfl, rfl, by simp, fun k hk _ => hold k hk, fun _ => Nat.le_refl _⟩⟩
  · simp only at hb
    rw [hg] at hb
    split at hb
    · rename_i hbb
      subst hbb
      injection hb with hb
      injection hb with f1 f2 f3
      subst f1; subst f2; subst f3
      simp only [if_true, Option.some.injEq] at hx
      subst hx
      refine ⟨rfl, cells', ty, _, by simp, ⟨fun _ => hfr, fun hg => absurd hg.1 (by omega)⟩, by simpa using hl, Nat.le_refl _, fun i hi => ?_⟩
      rw [Tr.ofList_get]
      obtain ⟨v', hv', hvr⟩ := hv i _ (List.getElem?_eq_getElem hi)
      exact ⟨cells[i], v', List.getElem?_eq_getElem hi, by simpa using hv', hvr.mono hle⟩
    · rename_i hbb
      simp only [hbb, if_false] at hx
      obtain ⟨c, sh, es3, top⟩ := x
      have hclt := hr.lt hb hx
      obtain ⟨f1, cs', ty', fr', hh, hfr', f2, f3, hc⟩ := hr.blk b cs size es' hb _ hx
      refine ⟨f1, cs', ty', fr', by simp only; rw [hold c hclt]; exact hh, hfr', f2, f3, fun i hi => ?_⟩
      obtain ⟨v, v', g1, g2, g3⟩ := hc i hi
      exact ⟨v, v', g1, g2, g3.mono hle⟩
  · simp only at hb1 hb2
    rw [hg] at hb1 hb2
    by_cases k1 : b1 = h.next
    · by_cases k2 : b2 = h.next
      · omega
      · simp only [k1, if_true, Option.some.injEq] at hx1
        subst hx1
        rw [if_neg k2] at hb2
        simp only [k2, if_false] at hx2
        have := hr.lt hb2 hx2
        simp only at he
        omega
    · rw [if_neg k1] at hb1
      simp only [k1, if_false] at hx1
      by_cases k2 : b2 = h.next
      · simp only [k2, if_true, Option.some.injEq] at hx2
        subst hx2
        have := hr.lt hb1 hx1
        simp only at he
        omega
      · rw [if_neg k2] at hb2
        simp only [k2, if_false] at hx2
        exact hr.inj b1 b2 x1 x2 _ _ _ _ _ _ hG1 hb1 hb2 hx1 hx2 he
  · simp only at hb
    rw [hg, if_neg (by omega)] at hb
    obtain ⟨es2, top, h1⟩ := hr.glob b cs size es' hlt' hlN hb
    exact ⟨es2, top, hle _ _ h1⟩
  · simp only at hb1 hb2
    rw [hg] at hb1 hb2
    by_cases k1 : b1 = h.next
    · exfalso
      rw [if_neg (by omega)] at hb2
      simp only [show b2 ≠ h.next by omega, if_false] at hx2
      simp only [k1, if_true, Option.some.injEq] at hx1
      subst hx1
      have := hr.lt hb2 hx2
      simp only at he
      omega
    · rw [if_neg k1] at hb1
      simp only [k1, if_false] at hx1
      by_cases k2 : b2 = h.next
      · exfalso
        simp only [k2, if_true, Option.some.injEq] at hx2
        subst hx2
        have := hr.lt hb1 hx1
        simp only at he
        omega
      · rw [if_neg k2] at hb2
        simp only [k2, if_false] at hx2
        exact hr.mono b1 b2 x1 x2 _ _ _ _ _ _ hf1 hf2 hlt hb1 hb2 hx1 hx2 he
  · refine hr.mp.move hle (fun k l hk => ?_) (fun k l x hk hx => ?_) (fun k es2 clk hk => ?_)
    · simp only at hk
      rw [hg] at hk
      split at hk
      · cases hk
      · exact hk
    · simp only at hk
      rw [hg] at hk
      split at hk
      · cases hk
      · rename_i hkn; simpa [hkn] using hx
    · have hkl : k < w.heap.size := by
        rcases Nat.lt_or_ge k w.heap.size with h1 | h1
        · exact h1
        · rw [Array.getElem?_eq_none h1] at hk; cases hk
      simp only; rw [hold k hkl]; exact hk
  · by_cases hb : b = h.next
    · exact .inr ⟨by rw [hb]; exact hf, by omega, by simp only; omega⟩
    · simp only [hb, if_false] at hx
      exact .inl hx
  · by_cases hb : b = h.next
    · simp only [hb, if_true, Option.some.injEq] at hx
      subst hx
      exact .inl (Nat.le_refl _)
    · simp only [hb, if_false] at hx
      rw [h0] at hx; cases hx

theorem HR.new' {h : H} {w : World} (hG : E.G ≤ h.next) (hr : HR E φ h.blks.get w) (hf : φ h.next = none) {cells : List Value} {cells' : Array Value} {es b : Nat} {h' : H} (ty : TypeId)
    (hn : aNew h cells es = some (b, h')) (hl : cells.length ≤ cells'.size) (hv : ∀ (i : Nat) (v : Value), cells[i]? = some v → ∃ v', cells'[i]? = some v' ∧ VR φ v v') :
    ∃ φ', φ' h.next = some (w.heap.size, 0, es, cells'.size) ∧ HR E φ' h'.blks.get { w with heap := w.heap.push (.cells cells' ty) } ∧ Ext E φ h w φ' h' { w with heap := w.heap.push (.cells cells' ty) } :=
  HR.newF (fr := (0, 0)) hG hr hf NoFr.zero ty hn hl hv

theorem HR.new {h : H} {w : World} (hG : E.G ≤ h.next) (hr : HR E φ h.blks.get w) (hf : φ h.next = none) {cells : List Value} {cells' : Array Value} {es b : Nat} {h' : H} (ty : TypeId)
    (hn : aNew h cells es = some (b, h')) (hv : VRs φ cells cells'.toList) :
    ∃ φ', φ' h.next = some (w.heap.size, 0, es, cells'.size) ∧ HR E φ' h'.blks.get { w with heap := w.heap.push (.cells cells' ty) } ∧ Ext E φ h w φ' h' { w with heap := w.heap.push (.cells cells' ty) } :=
  HR.new' hG hr hf ty hn (by simpa using Nat.le_of_eq hv.length) (fun i v hi => by simpa using hv.get i v hi)
end Go.Proofs.YtngpoamjhngcgaaGreatDoor.Ev

