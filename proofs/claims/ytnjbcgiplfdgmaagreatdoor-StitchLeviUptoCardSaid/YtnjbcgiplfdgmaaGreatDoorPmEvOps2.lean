/- Operations on slices and memory. -/
import Derived.Test.YtnjbcgiplfdgmaaGreatDoorPmEvOps
import Derived.Laws.Tables
namespace Go.Proofs.YtnjbcgiplfdgmaaGreatDoor.Ev
open Go
variable {P : Program} {E : Env} {φ : Phi} {w : World}

inductive OV (φ : Phi) : Option Value → Option Value → Prop
  | none : OV φ .none .none
  | some {v v' : Value} (h : VR φ v v') : OV φ (.some v) (.some v')

theorem bound_ov {v v' : Option Value} {d top i : Nat} (h : bound v d top = some i) (hv : OV φ v v') : (v' = none ∧ i = d) ∨ (∃ k, v' = some (.int k (i : Int)) ∧ i ≤ top) := by
  unfold bound at h
  split at h
  · simp only [Option.some.injEq] at h
    cases hv
    exact .inl ⟨rfl, h.symm⟩
  · rename_i k j
    split at h
    · rename_i hle
      simp only [Option.some.injEq] at h; subst h
      cases hv with
      | some hr => cases hr; exact .inr ⟨k, rfl, hle⟩
    · cases h
  · cases h

theorem run_bound (k : IntKind) (i top : Nat) (c : BoundsCode) (h : i ≤ top) : (Instr.sliceBound (.int k (i : Int)) top c).run P w = .ok i w := by
  have h1 : (0 : Int) ≤ (i : Int) ∧ (i : Int) ≤ (top : Int) := ⟨by omega, by omega⟩
  simp [Instr.sliceBound, asIntOf, h]

theorem run_bounds (b : Bool) (len cap l hi : Nat) (lo' hi' : Option Value) (h1 : (hi' = none ∧ hi = len) ∨ (∃ k, hi' = some (.int k (hi : Int)) ∧ hi ≤ cap)) (h2 : (lo' = none ∧ l = 0) ∨ (∃ k, lo' = some (.int k (l : Int)) ∧ l ≤ hi)) :
    (Instr.sliceBounds b len cap lo' hi' none).run P w = .ok (l, hi, cap) w := by
  rcases h1 with ⟨rfl, rfl⟩ | ⟨k, rfl, h1⟩ <;> rcases h2 with ⟨rfl, rfl⟩ | ⟨k', rfl, h2⟩ <;> simp [Instr.sliceBounds, run_bound, *]

theorem evSlice_sound (hE : EnvOK P E) {h : H} (hr : HR E φ h.blks.get w) {t : TypeId} {x v x' : Value} {lo hi lo' hi' : Option Value} (hs : evSlice E h t x lo hi = some v) (hx : VR φ x x') (hlo : OV φ lo lo') (hhi : OV φ hi hi') :
    ∃ v', (Instr.sliceAt t x' lo' hi' none).run P w = .ok v' w ∧ VR φ v v' := by
  unfold evSlice at hs
  split at hs
  · rename_i s hu
    split at hs
    · rename_i hi1 hh
      split at hs
      · rename_i l1 hl
        simp only [Option.some.injEq] at hs; subst hs
        cases hx
        have hb := run_bounds (P := P) (w := w) false s.size s.size l1 hi1 lo' hi' (bound_ov hh hhi) (bound_ov hl hlo)
        exact ⟨_, by simp [Instr.sliceAt, Instr.slice, und_run hE hu, hb], .string _⟩
      · cases hs
    · cases hs
  · rename_i elem b off n m hu
    split at hs
    · rename_i hi1 hh
      split at hs
      · rename_i l1 hl
        split at hs
        · rename_i inf cells size es hinf hb
          split at hs
          · rename_i hes
            simp only [forceN_eq, Option.some.injEq] at hs; subst hs
            cases hx with
            | slc hφ hn hcm ht hA =>
              rename_i c sh es' top m' A
              have h1 := bound_ov hh hhi
              have h2 := bound_ov hl hlo
              have hhn : hi1 ≤ n := by rcases h1 with ⟨_, h⟩ | ⟨_, _, h⟩ <;> omega
              have hlh : l1 ≤ hi1 := by rcases h2 with ⟨_, h⟩ | ⟨_, _, h⟩ <;> omega
              have hb' := run_bounds (P := P) (w := w) true n m' l1 hi1 lo' hi' (by rcases h1 with h | ⟨k, h, h'⟩; exact .inl h; exact .inr ⟨k, h, by omega⟩) h2
              obtain ⟨hee, _⟩ := hr.blk b cells size es hb _ hφ
              have hmul : l1 * es' + (m' - l1) * es' = m' * es' := by rw [← Nat.add_mul]; congr 1; omega
              refine ⟨.slice (some (if m' = l1 then A else A.add (l1 * inf.size))) (hi1 - l1) (m' - l1), ?_, ?_⟩
              · have hgo : (Instr.sliceAt t (.slice (some A) n m') lo' hi' none).run P w = (Result.ok (.slice (if m' = l1 then some A else (some A).map (·.add (l1 * inf.size))) (hi1 - l1) (m' - l1)) w) := by
                  simp [Instr.sliceAt, Instr.slice, und_run hE hu, hb', sz_run hE hinf]
                rw [hgo]
                split <;> rfl
              · by_cases hml : m' = l1
                · rw [if_pos hml]
                  exact .slc hφ (by omega) (by omega) (by rw [← hee]; rw [show m' - l1 = 0 by omega, Nat.zero_mul]; omega) (.inr (by omega))
                · rw [if_neg hml]
                  refine .slc hφ (by omega) (by omega) (by rw [← hee]; omega) (.inl ?_)
                  rcases hA with rfl | h0
                  · rw [add_mk, ← hes, Nat.add_assoc]
                  · omega
          · cases hs
        · cases hs
      · cases hs
    · cases hs
  · rename_i elem m hu
    split at hs
    · rename_i inf hi1 hinf hh
      split at hs
      · rename_i l1 hl
        simp only [Option.some.injEq] at hs; subst hs
        cases hx with
        | nils =>
          have h1 := bound_ov hh hhi
          have h2 := bound_ov hl hlo
          have hhn : hi1 = 0 := by rcases h1 with ⟨_, h⟩ | ⟨_, _, h⟩ <;> omega
          subst hhn
          have hl0 : l1 = 0 := by rcases h2 with ⟨_, h⟩ | ⟨_, _, h⟩ <;> omega
          subst hl0
          have hb := run_bounds (P := P) (w := w) true 0 0 0 0 lo' hi' h1 h2
          exact ⟨_, by simp [Instr.sliceAt, Instr.slice, und_run hE hu, hb, sz_run hE hinf], .nils⟩
      · cases hs
    · cases hs
  · rename_i elem b0 o0 s0 hu
    split at hs
    · rename_i inf hi1 hinf hh
      split at hs
      · rename_i l1 hl
        simp only [Option.some.injEq] at hs; subst hs
        cases hx with
        | emp =>
          have h1 := bound_ov hh hhi
          have h2 := bound_ov hl hlo
          have hhn : hi1 = 0 := by rcases h1 with ⟨_, h⟩ | ⟨_, _, h⟩ <;> omega
          subst hhn
          have hl0 : l1 = 0 := by rcases h2 with ⟨_, h⟩ | ⟨_, _, h⟩ <;> omega
          subst hl0
          have hb := run_bounds (P := P) (w := w) true 0 0 0 0 lo' hi' h1 h2
          rename_i A0
          exact ⟨.slice (some A0) 0 0, by simp [Instr.sliceAt, Instr.slice, und_run hE hu, hb, sz_run hE hinf], .emp⟩
      · cases hs
    · cases hs
  · cases hs

theorem evLoad_sound (hE : EnvOK P E) {h : H} (hr : HR E φ h.blks.get w) {t : TypeId} {x v x' : Value} (hs : evLoad E h t x = some v) (hx : VR φ x x') : ∃ v', (Instr.loadAt t x').run P w = .ok v' w ∧ VR φ v v' := by
  unfold evLoad at hs
  split at hs
  · rename_i b off
    cases hx with
    | ptr hφ =>
      rename_i c sh es top
      split at hs
      · rename_i ha
        split at hs
        · rename_i inf hinf
          split at hs
          · rename_i vs hv
            simp only [Option.some.injEq] at hs; subst hs
            obtain ⟨vs', hl, hc, hvr⟩ := rd_sound hr hv hφ
            have hrun := run_loadCells (P := P) hl hc
            exact ⟨.agg vs'.toArray, by simp [Instr.loadAt, Instr.sureAddr, loadVar, agg_run hE ha, sz_run hE hinf, hrun], .agg hvr.arr.1 hvr.arr.2⟩
          · cases hs
        · cases hs
      · rename_i ha
        split at hs
        · rename_i u hv
          simp only [Option.some.injEq] at hs; subst hs
          obtain ⟨vs', hl, hc, hvr⟩ := rd_sound hr hv hφ
          match vs', hl, hvr with
          | [v'], _, .cons h0 _ =>
            have := hc 0 v' rfl
            simp only [Nat.add_zero] at this
            exact ⟨v', by simp [Instr.loadAt, Instr.sureAddr, loadVar, agg_run hE ha, load, Sem.run, this], h0⟩
        · cases hs
      · cases hs
  · cases hs

theorem evStore_sound (hE : EnvOK P E) {h h' : H} (hr : HR E φ h.blks.get w) {t : TypeId} {x v x' v' : Value} (hs : evStore E h t x v = some h') (hx : VR φ x x') (hv : VR φ v v') :
    ∃ w', (Instr.storeAt t x' v').run P w = .ok () w' ∧ HR E φ h'.blks.get w' ∧ Ext E φ h w φ h' w' := by
  unfold evStore at hs
  split at hs
  · rename_i b off inf hinf
    cases hx with
    | ptr hφ =>
      rename_i c sh es top
      split at hs
      · rename_i hsz
        obtain ⟨w', hrun, h1, h2⟩ := wr_sound (P := P) hr hs hφ hv.cells
        refine ⟨w', ?_, h1, h2⟩
        have hsz' : v'.cells.size = inf.size := by rw [← hsz]; simpa using hv.cells.length.symm
        simp [Instr.storeAt, Instr.sureAddr, storeVar, sz_run hE hinf, hsz', hrun]
      · cases hs
  · cases hs

/-- what an operation that may allocate leaves -/
def Good (E : Env) (φ : Phi) (h : H) (w : World) (v : Value) (h' : H) (v' : Value) (w' : World) : Prop :=
  ∃ φ', VR φ' v v' ∧ HR E φ' h'.blks.get w' ∧ Ext E φ h w φ' h' w'

theorem newVal_sound {h h' : H} (hG : E.G ≤ h.next) (hr : HR E φ h.blks.get w) (hf : φ h.next = none) {cells : List Value} {cells' : Array Value} {es : Nat} {v : Value} (ty : TypeId)
    (hn : newVal h cells es = some (v, h')) (hv : VRs φ cells cells'.toList) : ∃ v' w', (newRow ty cells').run P w = .ok v' w' ∧ Good E φ h w v h' (.pointer (some v')) w' := by
  unfold newVal at hn
  split at hn
  · rename_i b h1 hb
    simp only [Option.some.injEq, Prod.mk.injEq] at hn
    obtain ⟨rfl, rfl⟩ := hn
    obtain ⟨φ', h2, h3, h4⟩ := HR.new hG hr hf ty hb hv
    obtain ⟨rfl, _⟩ := aNew_some hb
    exact ⟨⟨w.heap.size, 0, none⟩, _, by simp [newRow, newObj, Sem.run], φ', .ptr (off := 0) h2, h3, h4⟩
  · cases hn

theorem evAlloc_sound (hE : EnvOK P E) {h h' : H} (hG : E.G ≤ h.next) (hr : HR E φ h.blks.get w) (hf : φ h.next = none) {t : TypeId} {inf : TypeInfo} {z v : Value} (hi : E.i t = some inf) (hz : inf.zero = some z) (hc : okConst z = true)
    (hn : newVal h z.cells.toList 0 = some (v, h')) : ∃ v' w', (Instr.alloc t true (.tuple #[])).run P w = .ok v' w' ∧ Good E φ h w v h' v' w' := by
  obtain ⟨a, w', hrun, hg⟩ := newVal_sound (P := P) (cells' := z.cells) hG hr hf t hn (VR.const hc).cells
  exact ⟨_, w', by simp [Instr.alloc, zero_run hE hi hz, newVar, hrun], hg⟩

theorem evBox_sound {h h' : H} (hG : E.G ≤ h.next) (hr : HR E φ h.blks.get w) (hf : φ h.next = none) (t : TypeId) {v x x' : Value} (hx : VR φ x x')
    (hn : newVal h x.cells.toList 0 = some (v, h')) : ∃ v' w', (Instr.box t x').run P w = .ok v' w' ∧ Good E φ h w v h' v' w' := by
  obtain ⟨a, w', hrun, hg⟩ := newVal_sound (P := P) (cells' := x'.cells) hG hr hf t hn hx.cells
  exact ⟨_, w', by simp [Instr.box, newVar, hrun], hg⟩
end Go.Proofs.YtnjbcgiplfdgmaaGreatDoor.Ev
