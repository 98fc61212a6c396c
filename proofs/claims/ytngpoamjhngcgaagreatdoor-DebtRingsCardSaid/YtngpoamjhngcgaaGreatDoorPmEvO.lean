/- Operations one by one: what the evaluator gives is what the model's run gives. -/
import Derived.Test.YtngpoamjhngcgaaGreatDoorPmEvMem
import Derived.Test.YtngpoamjhngcgaaGreatDoorPmEvIter
import Derived.Below
import Derived.Laws.Tables
import Derived.Laws.MakeOwn
import Derived.Laws.Append
import Derived.Laws.BytesString
import Derived.KernelRfl
import Derived.Laws.IdiomStrings
namespace Go.Proofs.YtngpoamjhngcgaaGreatDoor.Ev
open Go

/-- the tables in the model's memory -/
def TabsW (tabs : List (Nat × List Value)) (w : World) : Prop := ∀ x ∈ tabs, ∃ cs ty fr, w.heap[x.1]? = some (.cells cs ty fr) ∧ (∀ (i : Nat) (v : Value), x.2[i]? = some v → cs[i]? = some v) ∧ cs.size = x.2.length

structure EnvOK (P : Program) (E : Env) : Prop where
  u : ∀ t d, E.u t = some d → P.underlying t = some d
  i : ∀ t d, E.i t = some d → P.info? t = some d
  f : ∀ f fn, E.fns.get f = some fn → P.funcs[f]? = some fn
  mixed : P.follows .mixedOrders = true
  known : ∀ f v, E.known.get f = some v → plain v = true ∧ (∃ fn, P.funcs[f]? = some fn ∧ fn.body.isSome = true ∧ fn.name ≠ "runtime.NumGoroutine") ∧ ∀ w, TabsW E.tabs w → Calls P f #[] w fun e w' => e = .returned v ∧ RowKit.Below w.heap.size w w'
  tabs : ∀ x ∈ E.tabs, x.1 < E.N ∧ x.1 < E.G ∧ x.2.all plain = true
  iters : ∀ g, E.iters.get g = some 0 → IterOK P g
  orc : ∀ f g, E.orc.get f = some g → (∃ fn, P.funcs[f]? = some fn ∧ fn.body.isSome = true ∧ fn.name ≠ "runtime.NumGoroutine") ∧ ∀ args h v, g args h = some v →
    (wrOf v = none ∧ (∀ φ : Phi, VR φ v v) ∧ ∀ φ w args', HR E φ h.blks.get w → TabsW E.tabs w → VRs φ args args' → Calls P f args'.toArray w fun e w' => e = .returned v ∧ RowKit.Below w.heap.size w w') ∨
    (∃ b off vs, v = wrV b off vs ∧ ∀ φ w args', Hok h → E.G ≤ b → E.frz b = false → HR E φ h.blks.get w → TabsW E.tabs w → VRs φ args args' → ∃ c sh es top vs', φ b = some (c, sh, es, top) ∧ VRs φ vs vs' ∧
      ∀ w1, (storeCells ⟨c, sh + off, none⟩ vs').run P w = .ok () w1 → Calls P f args'.toArray w fun e w' => e = .returned (.tuple #[]) ∧ RowKit.Below w1.heap.size w1 w')
  strict : E.strict = true → (∀ f, E.known.get f = none) ∧ (∀ f, E.orc.get f = none) ∧ ∀ f, E.iters.get f = none

variable {P : Program} {E : Env} {φ : Phi} {w : World}

theorem und_run (hE : EnvOK P E) {t : TypeId} {d : TypeDesc} (h : E.u t = some d) : (underlying t).run P w = .ok d w := by
  simp [underlying, hE.u t d h]
theorem ti_run (hE : EnvOK P E) {t : TypeId} {d : TypeInfo} (h : E.i t = some d) : (typeInfo t).run P w = .ok d w := by
  simp [typeInfo, hE.i t d h]
theorem sz_run (hE : EnvOK P E) {t : TypeId} {d : TypeInfo} (h : E.i t = some d) : (sizeOf t).run P w = .ok d.size w := by
  simp [sizeOf, ti_run hE h]
theorem zero_run (hE : EnvOK P E) {t : TypeId} {d : TypeInfo} {z : Value} (h : E.i t = some d) (hz : d.zero = some z) : (zeroValue t).run P w = .ok z w := by
  simp [zeroValue, ti_run hE h, hz]
theorem agg_run (hE : EnvOK P E) {t : TypeId} {b : Bool} (h : E.agg t = some b) : (isAgg t).run P w = .ok b w := by
  unfold Env.agg at h
  split at h
  · rename_i f hu; simp at h; subst h; simp [isAgg, und_run hE hu]
  · rename_i n e hu; simp at h; subst h; simp [isAgg, und_run hE hu]
  · rename_i d h1 h2 hu
    simp only [Option.some.injEq] at h; subst h
    simp only [isAgg, Sem.run_bind, und_run hE hu, Result.andThen_ok]
    rfl
  · cases h

theorem idx_some {v : Value} {len i : Nat} (h : idx v len = some i) : ∃ k, v = .int k (i : Int) ∧ i < len := by
  unfold idx at h
  split at h
  · rename_i k j
    split at h
    · rename_i hlt; simp only [Option.some.injEq] at h; subst h; exact ⟨k, rfl, hlt⟩
    · cases h
  · cases h

theorem evIndexAddr_sound (hE : EnvOK P E) {t : TypeId} {x ix v x' ix' : Value} (h : evIndexAddr E t x ix = some v) (hx : VR φ x x') (hi : VR φ ix ix') :
    ∃ v', (Instr.indexAt t x' ix').run P w = .ok v' w ∧ VR φ v v' := by
  unfold evIndexAddr at h
  split at h
  · rename_i elem b off n m hu
    split at h
    · rename_i i inf hidx hinf
      obtain ⟨k, rfl, hlt⟩ := idx_some hidx
      cases hi
      simp only [forceN_eq, Option.some.injEq] at h
      subst h
      cases hx with
      | slc hφ hn hcm ht hA =>
        rename_i c sh es top m' A
        have hA' : A = ⟨c, sh + off, none⟩ := hA.resolve_right (by omega)
        subst hA'
        have h1 : (0 : Int) ≤ (i : Int) ∧ (i : Int) < (n : Int) := ⟨by omega, by omega⟩
        refine ⟨.pointer (some ⟨c, sh + off + i * inf.size, none⟩), ?_, ?_⟩
        · simp [Instr.indexAt, asIntOf, und_run hE hu, h1.1, sz_run hE hinf, add_mk, hlt]
        · rw [Nat.add_assoc]; exact .ptr hφ
    · cases h
  · rename_i len elem b off hu
    split at h
    · rename_i i inf hidx hinf
      obtain ⟨k, rfl, hlt⟩ := idx_some hidx
      cases hi
      simp only [forceN_eq, Option.some.injEq] at h
      subst h
      cases hx with
      | ptr hφ =>
        rename_i c sh es top
        refine ⟨.pointer (some ⟨c, sh + off + i * inf.size, none⟩), ?_, ?_⟩
        · simp [Instr.indexAt, Instr.sureAddr, asIntOf, und_run hE hu, sz_run hE hinf, add_mk, hlt]
        · rw [Nat.add_assoc]; exact .ptr hφ
    · cases h
  · cases h

theorem evFieldAddr_sound (hE : EnvOK P E) {t : TypeId} {x v x' : Value} {f : Nat} (h : evFieldAddr E t x f = some v) (hx : VR φ x x') :
    ∃ v', (Instr.fieldAt t x' f).run P w = .ok v' w ∧ VR φ v v' := by
  unfold evFieldAddr at h
  split at h
  · rename_i fields b off hu
    split at h
    · rename_i fd hf
      split at h
      · rename_i inf hinf
        split at h
        · cases h
        · rename_i hsz
          simp only [forceN_eq, Option.some.injEq] at h
          subst h
          cases hx with
          | ptr hφ =>
            rename_i c sh es top
            refine ⟨.pointer (some ⟨c, sh + off + fd.offset, none⟩), ?_, ?_⟩
            · simp [Instr.fieldAt, Instr.sureAddr, und_run hE hu, hf, fieldPlace, sz_run hE hinf, hsz, add_mk]
            · rw [Nat.add_assoc]; exact .ptr hφ
      · cases h
    · cases h
  · cases h

theorem evPart_sound (hE : EnvOK P E) {t : TypeId} {cs cs' : Array Value} {off : Nat} {v : Value} (h : evPart E t cs off = some v) (h2 : cs.size = cs'.size) (h4 : ∀ (i : Nat) (h : i < cs.size) (h' : i < cs'.size), VR φ cs[i] cs'[i]) :
    ∃ v', (part t cs' off).run P w = .ok v' w ∧ VR φ v v' := by
  unfold evPart at h
  split at h
  · rename_i ha
    split at h
    · rename_i inf hinf
      simp only [Option.some.injEq] at h
      subst h
      refine ⟨.agg (cs'.extract off (off + inf.size)), by simp [part, agg_run hE ha, sz_run hE hinf], .agg (by simp [h2]) fun i h5 h6 => ?_⟩
      simp only [Array.getElem_extract]
      exact h4 _ _ _
    · cases h
  · rename_i ha
    rw [Array.getElem?_eq_some_iff] at h
    obtain ⟨hlt, rfl⟩ := h
    have hlt' : off < cs'.size := by omega
    exact ⟨cs'[off], by simp [part, agg_run hE ha, Array.getElem?_eq_getElem hlt'], h4 _ _ _⟩
  · cases h

theorem evField_sound (hE : EnvOK P E) {t : TypeId} {x v x' : Value} {f : Nat} (h : evField E t x f = some v) (hx : VR φ x x') :
    ∃ v', (Instr.field t x' f).run P w = .ok v' w ∧ VR φ v v' := by
  unfold evField at h
  split at h
  · rename_i fields cs hu
    split at h
    · rename_i fd hf
      cases hx with
      | agg h2 h4 =>
        obtain ⟨v', hr, hv⟩ := evPart_sound (w := w) hE h h2 h4
        exact ⟨v', by simp [Instr.field, und_run hE hu, hf, asAgg, hr], hv⟩
    · cases h
  · cases h

theorem evIndex_sound (hE : EnvOK P E) {t : TypeId} {x ix v x' ix' : Value} (h : evIndex E t x ix = some v) (hx : VR φ x x') (hi : VR φ ix ix') :
    ∃ v', (Instr.index t x' ix').run P w = .ok v' w ∧ VR φ v v' := by
  unfold evIndex at h
  split at h
  · rename_i len elem cs hu
    split at h
    · rename_i i inf hidx hinf
      obtain ⟨k, rfl, hlt⟩ := idx_some hidx
      cases hi
      cases hx with
      | agg h2 h4 =>
        obtain ⟨v', hr, hv⟩ := evPart_sound (w := w) hE h h2 h4
        exact ⟨v', by simp [Instr.index, und_run hE hu, asIntOf, hlt, sz_run hE hinf, hr], hv⟩
    · cases h
  · rename_i s hu
    split at h
    · rename_i i hidx
      obtain ⟨k, rfl, hlt⟩ := idx_some hidx
      split at h
      · rename_i b hb
        simp only [forceN_eq, Option.some.injEq] at h
        subst h
        cases hi
        cases hx
        exact ⟨.int .u8 b.toNat, by simp [Instr.index, und_run hE hu, asIntOf, hb], .int _ _⟩
      · cases h
    · cases h
  · cases h

theorem evLen_sound (hE : EnvOK P E) {t : TypeId} {x v x' : Value} (h : evLen E t x = some v) (hx : VR φ x x') (ty : TypeId) :
    (Builtin.len_ #[t] ty #[x']).run P w = .ok v w ∧ VR φ v v := by
  unfold evLen at h
  split at h
  · rename_i s hu
    simp only [forceN_eq, Option.some.injEq] at h; subst h
    cases hx
    exact ⟨by simp [Builtin.len_, und_run hE hu, goInt], .int _ _⟩
  · rename_i e a n c hu
    simp only [Option.some.injEq] at h; subst h
    cases hx with
    | nils => exact ⟨by simp [Builtin.len_, und_run hE hu, goInt], .int _ _⟩
    | emp => exact ⟨by simp [Builtin.len_, und_run hE hu, goInt], .int _ _⟩
    | slc _ _ _ _ => exact ⟨by simp [Builtin.len_, und_run hE hu, goInt], .int _ _⟩
  · rename_i n e hu
    simp only [Option.some.injEq] at h; subst h
    exact ⟨by simp [Builtin.len_, und_run hE hu, goInt], .int _ _⟩
  · cases h

theorem evNil_in (hE : EnvOK P E) {t : TypeId} {x y x' y' : Value} {b : Bool} (h : evNil E t x y = some b) (hx : VR φ x x') (hy : VR φ y y') (d : Nat) : (Op.equalIn (d + 1) t x' y').run P w = .ok b w := by
  unfold evNil at h
  split at h
  · rename_i e hu
    simp only [Option.some.injEq] at h; subst h
    cases hx
    cases hy <;> simp [Op.equalIn, und_run hE hu]
  · rename_i e hu
    simp only [Option.some.injEq] at h; subst h
    cases hx <;> cases hy <;> simp [Op.equalIn, und_run hE hu]
  · rename_i e hu
    simp only [Option.some.injEq] at h; subst h
    cases hx
    cases hy <;> simp [Op.equalIn, und_run hE hu]
  · rename_i e hu
    simp only [Option.some.injEq] at h; subst h
    cases hx <;> cases hy <;> simp [Op.equalIn, und_run hE hu]
  · cases h
theorem evNil_sound (hE : EnvOK P E) {t : TypeId} {x y x' y' : Value} {b : Bool} (h : evNil E t x y = some b) (hx : VR φ x x') (hy : VR φ y y') : (Op.equal t x' y').run P w = .ok b w :=
  evNil_in hE h hx hy 9999

theorem plainRun_sound {α : Type} {P : Program} {w : World} : ∀ (s : Sem α) (a : α), pureRun P s = some a → s.run P w = .ok a w := by
  intro s
  induction s with
  | pure b => intro a h; simp only [pureRun, Option.some.injEq] at h; subst h; rfl
  | program k ih => intro a h; simp only [pureRun] at h; simp only [Sem.run]; exact ih _ _ h
  | _ => intro a h; simp [pureRun] at h
end Go.Proofs.YtngpoamjhngcgaaGreatDoor.Ev

/- Operations on slices and memory. -/
namespace Go.Proofs.YtngpoamjhngcgaaGreatDoor.Ev
open Go
variable {P : Program} {E : Env} {φ : Phi} {w : World}

inductive OV (φ : Phi) : Option Value → Option Value → Prop
  | none : OV φ .none .none
  | some {v v' : Value} (h : VR φ v v') : OV φ (.some v) (.some v')

theorem bound_ov {v v' : Option Value} {d top i : Nat} (h : bound v d top = some i) (hv : OV φ v v') : (v' = none ∧ i = d) ∨ (∃ k, v' = some (.int k (i : Int)) ∧ i ≤ top) := by
  unfold bound at h
  split at h
  · simp only [Option.some.injEq] at h
    cases hv
    exact .inl ⟨rfl, h.symm⟩
  · rename_i k j
    split at h
    · rename_i hle
      simp only [Option.some.injEq] at h; subst h
      cases hv with
      | some hr => cases hr; exact .inr ⟨k, rfl, hle⟩
    · cases h
  · cases h

theorem run_bound (k : IntKind) (i top : Nat) (c : BoundsCode) (h : i ≤ top) : (Instr.sliceBound (.int k (i : Int)) top c).run P w = .ok i w := by
  have h1 : (0 : Int) ≤ (i : Int) ∧ (i : Int) ≤ (top : Int) := ⟨by omega, by omega⟩
  simp [Instr.sliceBound, asIntOf, h]

theorem run_bounds (b : Bool) (len cap l hi : Nat) (lo' hi' : Option Value) (h1 : (hi' = none ∧ hi = len) ∨ (∃ k, hi' = some (.int k (hi : Int)) ∧ hi ≤ cap)) (h2 : (lo' = none ∧ l = 0) ∨ (∃ k, lo' = some (.int k (l : Int)) ∧ l ≤ hi)) :
    (Instr.sliceBounds b len cap lo' hi' none).run P w = .ok (l, hi, cap) w := by
  rcases h1 with ⟨rfl, rfl⟩ | ⟨k, rfl, h1⟩ <;> rcases h2 with ⟨rfl, rfl⟩ | ⟨k', rfl, h2⟩ <;> simp [Instr.sliceBounds, run_bound, *]

theorem evSlice_sound (hE : EnvOK P E) {h : H} (hr : HR E φ h.blks.get w) {t : TypeId} {x v x' : Value} {lo hi lo' hi' : Option Value} (hs : evSlice E h t x lo hi = some v) (hx : VR φ x x') (hlo : OV φ lo lo') (hhi : OV φ hi hi') :
    ∃ v', (Instr.sliceAt t x' lo' hi' none).run P w = .ok v' w ∧ VR φ v v' := by
  unfold evSlice at hs
  split at hs
  · rename_i s hu
    split at hs
    · rename_i hi1 hh
      split at hs
      · rename_i l1 hl
        simp only [Option.some.injEq] at hs; subst hs
        cases hx
        have hb := run_bounds (P := P) (w := w) false s.size s.size l1 hi1 lo' hi' (bound_ov hh hhi) (bound_ov hl hlo)
        exact ⟨_, by simp [Instr.sliceAt, Instr.slice, und_run hE hu, hb], .string _⟩
      · cases hs
    · cases hs
  · rename_i elem b off n m hu
    split at hs
    · rename_i hi1 hh
      split at hs
      · rename_i l1 hl
        split at hs
        · rename_i inf cells size es hinf hb
          split at hs
          · rename_i hes
            simp only [forceN_eq, Option.some.injEq] at hs; subst hs
            cases hx with
            | slc hφ hn hcm ht hA =>
              rename_i c sh es' top m' A
              have h1 := bound_ov hh hhi
              have h2 := bound_ov hl hlo
              have hhn : hi1 ≤ n := by rcases h1 with ⟨_, h⟩ | ⟨_, _, h⟩ <;> omega
              have hlh : l1 ≤ hi1 := by rcases h2 with ⟨_, h⟩ | ⟨_, _, h⟩ <;> omega
              have hb' := run_bounds (P := P) (w := w) true n m' l1 hi1 lo' hi' (by rcases h1 with h | ⟨k, h, h'⟩; exact .inl h; exact .inr ⟨k, h, by omega⟩) h2
              obtain ⟨hee, _⟩ := hr.blk b cells size es hb _ hφ
              have hmul : l1 * es' + (m' - l1) * es' = m' * es' := by rw [← Nat.add_mul]; congr 1; omega
              refine ⟨.slice (some (if m' = l1 then A else A.add (l1 * inf.size))) (hi1 - l1) (m' - l1), ?_, ?_⟩
              · have hgo : (Instr.sliceAt t (.slice (some A) n m') lo' hi' none).run P w = (Result.ok (.slice (if m' = l1 then some A else (some A).map (·.add (l1 * inf.size))) (hi1 - l1) (m' - l1)) w) := by
                  simp [Instr.sliceAt, Instr.slice, und_run hE hu, hb', sz_run hE hinf]
                rw [hgo]
                split <;> rfl
              · by_cases hml : m' = l1
                · rw [if_pos hml]
                  exact .slc hφ (by omega) (by omega) (by rw [← hee]; rw [show m' - l1 = 0 by omega, Nat.zero_mul]; omega) (.inr (by omega))
                · rw [if_neg hml]
                  refine .slc hφ (by omega) (by omega) (by rw [← hee]; omega) (.inl ?_)
                  rcases hA with rfl | h0
                  · rw [add_mk, ← hes, Nat.add_assoc]
                  · omega
          · cases hs
        · cases hs
      · cases hs
    · cases hs
  · rename_i elem m hu
    split at hs
    · rename_i inf hi1 hinf hh
      split at hs
      · rename_i l1 hl
        simp only [Option.some.injEq] at hs; subst hs
        cases hx with
        | nils =>
          have h1 := bound_ov hh hhi
          have h2 := bound_ov hl hlo
          have hhn : hi1 = 0 := by rcases h1 with ⟨_, h⟩ | ⟨_, _, h⟩ <;> omega
          subst hhn
          have hl0 : l1 = 0 := by rcases h2 with ⟨_, h⟩ | ⟨_, _, h⟩ <;> omega
          subst hl0
          have hb := run_bounds (P := P) (w := w) true 0 0 0 0 lo' hi' h1 h2
          exact ⟨_, by simp [Instr.sliceAt, Instr.slice, und_run hE hu, hb, sz_run hE hinf], .nils⟩
      · cases hs
    · cases hs
  · rename_i elem b0 o0 s0 hu
    split at hs
    · rename_i inf hi1 hinf hh
      split at hs
      · rename_i l1 hl
        simp only [Option.some.injEq] at hs; subst hs
        cases hx with
        | emp =>
          have h1 := bound_ov hh hhi
          have h2 := bound_ov hl hlo
          have hhn : hi1 = 0 := by rcases h1 with ⟨_, h⟩ | ⟨_, _, h⟩ <;> omega
          subst hhn
          have hl0 : l1 = 0 := by rcases h2 with ⟨_, h⟩ | ⟨_, _, h⟩ <;> omega
          subst hl0
          have hb := run_bounds (P := P) (w := w) true 0 0 0 0 lo' hi' h1 h2
          rename_i A0
          exact ⟨.slice (some A0) 0 0, by simp [Instr.sliceAt, Instr.slice, und_run hE hu, hb, sz_run hE hinf], .emp⟩
      · cases hs
    · cases hs
  · rename_i len elem b off hu
    split at hs
    · rename_i hi1 hh
      split at hs
      · rename_i l1 hl
        split at hs
        · rename_i inf cells size es hinf hb
          split at hs
          · rename_i hes
            obtain ⟨rfl, hle⟩ := hes
            simp only [forceN_eq, Option.some.injEq] at hs; subst hs
            cases hx with
            | ptr hφ =>
              rename_i c sh es' top
              have h1 := bound_ov hh hhi
              have h2 := bound_ov hl hlo
              have hhn : hi1 ≤ len := by rcases h1 with ⟨_, h⟩ | ⟨_, _, h⟩ <;> omega
              have hlh : l1 ≤ hi1 := by rcases h2 with ⟨_, h⟩ | ⟨_, _, h⟩ <;> omega
              have hb' := run_bounds (P := P) (w := w) false len len l1 hi1 lo' hi' h1 h2
              obtain ⟨hee, _, _, _, _, _, htop, _⟩ := hr.blk b cells size 0 hb _ hφ
              subst hee
              refine ⟨.slice (some (if len = l1 then ⟨c, sh + off, none⟩ else (⟨c, sh + off, none⟩ : Addr).add (l1 * inf.size))) (hi1 - l1) (len - l1), ?_, ?_⟩
              · simp [Instr.sliceAt, Instr.sureAddr, und_run hE hu, hb', sz_run hE hinf]
              · by_cases hml : len = l1
                · rw [if_pos hml]
                  exact .slc hφ (by omega) (Nat.le_refl _) (by omega) (.inr (by omega))
                · rw [if_neg hml]
                  exact .slc hφ (by omega) (Nat.le_refl _) (by omega) (.inl (by rw [add_mk, Nat.add_assoc]))
          · cases hs
        · cases hs
      · cases hs
    · cases hs
  · cases hs

theorem evLoad_sound (hE : EnvOK P E) {h : H} (hr : HR E φ h.blks.get w) {t : TypeId} {x v x' : Value} (hs : evLoad E h t x = some v) (hx : VR φ x x') : ∃ v', (Instr.loadAt t x').run P w = .ok v' w ∧ VR φ v v' := by
  unfold evLoad at hs
  split at hs
  · rename_i b off
    cases hx with
    | ptr hφ =>
      rename_i c sh es top
      split at hs
      · rename_i ha
        split at hs
        · rename_i inf hinf
          split at hs
          · rename_i vs hv
            simp only [Option.some.injEq] at hs; subst hs
            obtain ⟨vs', hl, hc, hvr⟩ := rd_sound hr hv hφ
            have hrun := run_loadCells (P := P) hl hc
            exact ⟨.agg vs'.toArray, by simp [Instr.loadAt, Instr.sureAddr, loadVar, agg_run hE ha, sz_run hE hinf, hrun], .agg hvr.arr.1 hvr.arr.2⟩
          · cases hs
        · cases hs
      · rename_i ha
        split at hs
        · rename_i u hv
          simp only [Option.some.injEq] at hs; subst hs
          obtain ⟨vs', hl, hc, hvr⟩ := rd_sound hr hv hφ
          match vs', hl, hvr with
          | [v'], _, .cons h0 _ =>
            have := hc 0 v' rfl
            simp only [Nat.add_zero] at this
            exact ⟨v', by simp [Instr.loadAt, Instr.sureAddr, loadVar, agg_run hE ha, load, Sem.run, this], h0⟩
        · cases hs
      · cases hs
  · cases hs

theorem evStore_sound (hE : EnvOK P E) {h h' : H} (hr : HR E φ h.blks.get w) {t : TypeId} {x v x' v' : Value} (hs : evStore E h t x v = some h') (hx : VR φ x x') (hv : VR φ v v') :
    ∃ w', (Instr.storeAt t x' v').run P w = .ok () w' ∧ HR E φ h'.blks.get w' ∧ Ext E φ h w φ h' w' := by
  unfold evStore at hs
  split at hs
  · rename_i b off inf hinf
    cases hx with
    | ptr hφ =>
      rename_i c sh es top
      split at hs
      · rename_i hsz
        obtain ⟨w', hrun, h1, h2⟩ := wr_sound (P := P) hr hs hφ hv.cells
        refine ⟨w', ?_, h1, h2⟩
        have hsz' : v'.cells.size = inf.size := by rw [← hsz]; simpa using hv.cells.length.symm
        simp [Instr.storeAt, Instr.sureAddr, storeVar, sz_run hE hinf, hsz', hrun]
      · cases hs
  · cases hs

/-- what an operation that may allocate leaves -/
def Good (E : Env) (φ : Phi) (h : H) (w : World) (v : Value) (h' : H) (v' : Value) (w' : World) : Prop :=
  ∃ φ', VR φ' v v' ∧ HR E φ' h'.blks.get w' ∧ Ext E φ h w φ' h' w'

theorem newVal_sound {h h' : H} (hG : E.G ≤ h.next) (hr : HR E φ h.blks.get w) (hf : φ h.next = none) {cells : List Value} {cells' : Array Value} {es : Nat} {v : Value} (ty : TypeId)
    (hn : newVal h cells es = some (v, h')) (hv : VRs φ cells cells'.toList) : ∃ v' w', (newRow ty cells').run P w = .ok v' w' ∧ Good E φ h w v h' (.pointer (some v')) w' := by
  unfold newVal at hn
  split at hn
  · rename_i b h1 hb
    simp only [Option.some.injEq, Prod.mk.injEq] at hn
    obtain ⟨rfl, rfl⟩ := hn
    obtain ⟨φ', h2, h3, h4⟩ := HR.new hG hr hf ty hb hv
    obtain ⟨rfl, _⟩ := aNew_some hb
    exact ⟨⟨w.heap.size, 0, none⟩, _, by simp [newRow, newObj, Sem.run], φ', .ptr (off := 0) h2, h3, h4⟩
  · cases hn

theorem evAlloc_sound (hE : EnvOK P E) {h h' : H} (hG : E.G ≤ h.next) (hr : HR E φ h.blks.get w) (hf : φ h.next = none) {t : TypeId} {inf : TypeInfo} {z v : Value} (hi : E.i t = some inf) (hz : inf.zero = some z) (hc : okConst z = true)
    (hn : newVal h z.cells.toList 0 = some (v, h')) : ∃ v' w', (Instr.alloc t true (.tuple #[])).run P w = .ok v' w' ∧ Good E φ h w v h' v' w' := by
  obtain ⟨a, w', hrun, hg⟩ := newVal_sound (P := P) (cells' := z.cells) hG hr hf t hn (VR.const hc).cells
  exact ⟨_, w', by simp [Instr.alloc, zero_run hE hi hz, newVar, hrun], hg⟩

theorem evBox_sound {h h' : H} (hG : E.G ≤ h.next) (hr : HR E φ h.blks.get w) (hf : φ h.next = none) (t : TypeId) {v x x' : Value} (hx : VR φ x x')
    (hn : newVal h x.cells.toList 0 = some (v, h')) : ∃ v' w', (Instr.box t x').run P w = .ok v' w' ∧ Good E φ h w v h' v' w' := by
  obtain ⟨a, w', hrun, hg⟩ := newVal_sound (P := P) (cells' := x'.cells) hG hr hf t hn hx.cells
  exact ⟨_, w', by simp [Instr.box, newVar, hrun], hg⟩
end Go.Proofs.YtngpoamjhngcgaaGreatDoor.Ev

/- Building values, making slices, append, copy, clear. -/
namespace Go.Proofs.YtngpoamjhngcgaaGreatDoor.Ev
open Go
variable {P : Program} {E : Env} {φ : Phi} {w : World}

inductive PV (φ : Phi) : List (Nat × Value) → List (Nat × Value) → Prop
  | nil : PV φ [] []
  | cons {i : Nat} {v v' : Value} {l l' : List (Nat × Value)} (h : VR φ v v') (t : PV φ l l') : PV φ ((i, v) :: l) ((i, v') :: l')

theorem VRs.set {l l' : List Value} (h : VRs φ l l') : ∀ (i : Nat) {v v' : Value}, VR φ v v' → VRs φ (l.set i v) (l'.set i v') := by
  induction h with
  | nil => intro i v v' _; exact .nil
  | cons h t ih =>
    intro i v v' hv
    cases i with
    | zero => exact .cons hv t
    | succ i => exact .cons h (ih i hv)

theorem fold_sound (off : Nat) : ∀ {l l' : List Value}, VRs φ l l' → ∀ (k : Nat) {c c' : Array Value}, VRs φ c.toList c'.toList →
    VRs φ ((l.zipIdx k).foldl (fun (cs : Array Value) (x : Value × Nat) => cs.setIfInBounds (off + x.2) x.1) c).toList ((l'.zipIdx k).foldl (fun (cs : Array Value) (x : Value × Nat) => cs.setIfInBounds (off + x.2) x.1) c').toList := by
  intro l l' h
  induction h with
  | nil => intro k c c' hc; exact hc
  | cons h t ih =>
    intro k c c' hc
    simp only [List.zipIdx_cons, List.foldl_cons]
    exact ih (k + 1) (by simpa using hc.set (off + k) h)

theorem fill_sound (pl : Nat → Option (Nat × Nat)) : ∀ {ps ps' : List (Nat × Value)}, PV φ ps ps' → ∀ {c c' cs : Array Value}, VRs φ c.toList c'.toList → Instr.fill pl c ps = some cs → ∃ cs', Instr.fill pl c' ps' = some cs' ∧ VRs φ cs.toList cs'.toList := by
  intro ps ps' h
  induction h with
  | nil => intro c c' cs hc hf; simp only [Instr.fill, Option.some.injEq] at hf; subst hf; exact ⟨c', rfl, hc⟩
  | cons hv t ih =>
    rename_i i v v' l l'
    intro c c' cs hc hf
    simp only [Instr.fill] at hf ⊢
    have hs : v'.cells.size = v.cells.size := by simpa using hv.cells.length.symm
    have hs2 : c'.size = c.size := by simpa using hc.length.symm
    cases hp : pl i with
    | none => rw [hp] at hf; cases hf
    | some x =>
      obtain ⟨off, size⟩ := x
      rw [hp] at hf
      simp only [hs, hs2] at hf ⊢
      split at hf
      · cases hf
      · rename_i hcond
        rw [if_neg hcond]
        refine ih ?_ hf
        have := fold_sound (φ := φ) off hv.cells 0 hc
        rw [← Array.toList_zipIdx, ← Array.toList_zipIdx, ← Array.foldl_toList, ← Array.foldl_toList] at *
        exact this

theorem fill_size (pl : Nat → Option (Nat × Nat)) : ∀ {ps : List (Nat × Value)} {c cs : Array Value}, Instr.fill pl c ps = some cs → cs.size = c.size
  | [], c, cs, h => by simp only [Instr.fill, Option.some.injEq] at h; rw [h]
  | (i, v) :: ps, c, cs, h => by
    simp only [Instr.fill] at h
    split at h
    · cases h
    · rename_i off size _
      split at h
      · cases h
      · rw [fill_size pl h]
        have key : ∀ (l : List (Value × Nat)) (c : Array Value), (l.foldl (fun (cs : Array Value) (x : Value × Nat) => cs.setIfInBounds (off + x.2) x.1) c).size = c.size := by
          intro l
          induction l with
          | nil => intro c; rfl
          | cons x l ih => intro c; rw [List.foldl_cons, ih]; simp
        rw [← Array.foldl_toList]
        exact key _ _

theorem places_sound (hE : EnvOK P E) : ∀ {fs : List Field} {pl : List (Nat × Nat)}, places E fs = some pl → fs.mapM (fun f => (P.info? f.type).map fun i => (f.offset, i.size)) = some pl
  | [], pl, h => by simp only [places, Option.some.injEq] at h; subst h; rfl
  | f :: r, pl, h => by
    simp only [places] at h
    split at h
    · rename_i inf hinf
      split at h
      · rename_i l hl
        simp only [Option.some.injEq] at h; subst h
        simp [List.mapM_cons, hE.i _ _ hinf, places_sound hE hl]
      · cases h
    · cases h

theorem evBuild_sound (hE : EnvOK P E) {t : TypeId} {ps : List (Nat × Value)} {ps' : Array (Nat × Value)} {v : Value} (h : evBuild E t ps = some v) (hp : PV φ ps ps'.toList) : ∃ v', (Instr.build t ps').run P w = .ok v' w ∧ VR φ v v' := by
  unfold evBuild at h
  split at h
  · rename_i inf fields hinf hu
    split at h
    · rename_i z pl hz hpl
      split at h
      · rename_i hc
        split at h
        · rename_i cs hf
          simp only [Option.some.injEq] at h; subst h
          obtain ⟨cs', hf', hv⟩ := fill_sound (φ := φ) _ hp (VR.const hc).cells hf
          have hb : P.built t ps'.toList = some cs' := by
            simp only [Program.built, hE.i _ _ hinf, hE.u _ _ hu, hz, places_sound hE hpl]
            exact hf'
          exact ⟨_, run_build w t ps' cs' hb, .agg (by simpa using hv.length) fun i h1 h2 => by have := hv.at_ i (by simpa using h1) (by simpa using h2); rwa [Array.getElem_toList, Array.getElem_toList] at this⟩
        · cases h
      · cases h
    · cases h
  · rename_i inf n elem hinf hu
    split at h
    · rename_i z ie hz hie
      split at h
      · rename_i hc
        split at h
        · rename_i cs hf
          simp only [Option.some.injEq] at h; subst h
          obtain ⟨cs', hf', hv⟩ := fill_sound (φ := φ) _ hp (VR.const hc).cells hf
          have hb : P.built t ps'.toList = some cs' := by
            simp only [Program.built, hE.i _ _ hinf, hE.u _ _ hu, hz, hE.i _ _ hie]
            exact hf'
          exact ⟨_, run_build w t ps' cs' hb, .agg (by simpa using hv.length) fun i h1 h2 => by have := hv.at_ i (by simpa using h1) (by simpa using h2); rwa [Array.getElem_toList, Array.getElem_toList] at this⟩
        · cases h
      · cases h
    · cases h
  · cases h

theorem zeros_length (z : List Value) : ∀ n, (zeros z n).length = n * z.length
  | 0 => by simp [zeros]
  | n + 1 => by simp [zeros, zeros_length z n, Nat.add_mul]; omega

theorem zeros_get (z : List Value) (hz : 0 < z.length) : ∀ (n i : Nat), i < n * z.length → (zeros z n)[i]? = z[i % z.length]?
  | 0, i, h => by omega
  | n + 1, i, h => by
    simp only [zeros]
    by_cases hi : i < z.length
    · rw [List.getElem?_append_left hi, Nat.mod_eq_of_lt hi]
    · rw [List.getElem?_append_right (by omega), zeros_get z hz n (i - z.length) (by rw [Nat.add_mul] at h; omega)]
      congr 1
      conv => rhs; rw [show i = (i - z.length) + z.length by omega]
      rw [Nat.add_mod_right]

theorem zeros_vrs {z : List Value} (h : VRs φ z z) : ∀ n, VRs φ (zeros z n) (zeros z n)
  | 0 => .nil
  | n + 1 => h.append (zeros_vrs h n)

theorem made_eq (z : Array Value) (hz : 0 < z.size) (n : Nat) : (madeCells z (n * z.size)).toList = zeros z.toList n := by
  apply List.ext_getElem?
  intro i
  unfold madeCells
  simp only [Array.toList_map, Array.toList_range, List.getElem?_map]
  by_cases hi : i < n * z.size
  · rw [zeros_get z.toList (by simpa using hz) n i (by simpa using hi), List.getElem?_range hi]
    have hm : i % z.size < z.size := Nat.mod_lt _ hz
    simp [hm]
  · rw [List.getElem?_eq_none (l := zeros z.toList n) (by rw [zeros_length]; simpa using hi), List.getElem?_eq_none (by simpa using hi)]
    rfl

theorem evMakeSlice_sound (hE : EnvOK P E) {h h' : H} (hG : E.G ≤ h.next) (hr : HR E φ h.blks.get w) (hf : φ h.next = none) {t : TypeId} {l c l' c' v : Value} (hs : evMakeSlice E h t l c = some (v, h')) (hl : VR φ l l') (hc : VR φ c c') :
    ∃ v' w', (Instr.makeSlice t l' c').run P w = .ok v' w' ∧ Good E φ h w v h' v' w' := by
  unfold evMakeSlice at hs
  split at hs
  · rename_i elem k1 l k2 c hu
    cases hl; cases hc
    split at hs
    · rename_i inf hinf
      split at hs
      · rename_i z hz
        split at hs
        · rename_i hcond
          simp only [Bool.and_eq_true, decide_eq_true_eq] at hcond
          obtain ⟨⟨⟨⟨⟨⟨hc, h1⟩, h2⟩, h3⟩, h4⟩, h5⟩, h6⟩ := hcond
          split at hs
          · rename_i b h1' hb
            simp only [Option.some.injEq, Prod.mk.injEq] at hs
            obtain ⟨rfl, rfl⟩ := hs
            have hzs : 0 < z.cells.size := by omega
            have hmade := made_eq z.cells hzs c
            have hbytes : (inf.bytes : Int) * (c : Int) ≤ 281474976710656 := by
              have : inf.bytes * c ≤ 65536 * 2147483648 := Nat.mul_le_mul (by omega) (by omega)
              have h' : ((inf.bytes * c : Nat) : Int) ≤ 281474976710656 := by omega
              rwa [Int.natCast_mul] at h'
            have hrun := run_make (P := P) w t elem inf z (hE.u _ _ hu) (hE.i _ _ hinf) hz k1 k2 (l : Int) (c : Int) (by omega) (by omega) hbytes (by omega)
            simp only [Int.toNat_natCast] at hrun
            obtain ⟨φ', g1, g2, g3⟩ := HR.new (cells' := madeCells z.cells (c * inf.size)) hG hr hf elem hb (by rw [← h5, hmade]; exact zeros_vrs (VR.const hc).cells c)
            obtain ⟨rfl, _⟩ := aNew_some hb
            refine ⟨_, _, hrun, φ', .slc (off := 0) g1 h3 (Nat.le_refl _) ?_ (.inl rfl), g2, g3⟩
            have hsz : (madeCells z.cells (c * inf.size)).size = c * inf.size := by simp [madeCells]
            rw [hsz]; omega
          · cases hs
        · cases hs
      · cases hs
    · cases hs
  · cases hs

theorem evBuildSlice_sound (hE : EnvOK P E) {h h' : H} (hG : E.G ≤ h.next) (hr : HR E φ h.blks.get w) (hf0 : h.next < h'.next → φ h.next = none) {t : TypeId} {len : Nat} {ps : List (Nat × Value)} {ps' : Array (Nat × Value)} {v : Value}
    (hs : evBuildSlice E h t len ps = some (v, h')) (hp : PV φ ps ps'.toList) : ∃ v' w', (Instr.buildSlice t len ps').run P w = .ok v' w' ∧ Good E φ h w v h' v' w' := by
  unfold evBuildSlice at hs
  split at hs
  · rename_i elem hu
    split at hs
    · rename_i inf hinf
      split at hs
      · rename_i z hz
        split at hs
        · rename_i hcond
          simp only [Bool.and_eq_true, decide_eq_true_eq] at hcond
          obtain ⟨⟨⟨hc, h1⟩, h5⟩, h6⟩ := hcond
          split at hs
          · rename_i cs hfill
            split at hs
            · rename_i hlen0
              subst hlen0
              simp only [Option.some.injEq, Prod.mk.injEq] at hs
              obtain ⟨rfl, rfl⟩ := hs
              have hzs : 0 < z.cells.size := by omega
              have hmade := made_eq z.cells hzs 0
              rw [h5] at hmade
              obtain ⟨cs', hf', hv⟩ := fill_sound (φ := φ) (fun i => some (i * inf.size, inf.size)) hp (c' := madeCells z.cells (0 * inf.size)) (by rw [hmade]; simpa using zeros_vrs (VR.const hc).cells 0) hfill
              have h0 : 0 * inf.size = 0 := Nat.zero_mul _
              have hm0 : madeCells z.cells (0 * inf.size) = #[] := by simp [madeCells]
              rw [hm0] at hf'
              have e0 : ∀ f : Nat → Value, Array.map f (Array.range 0) = #[] := fun f => by simp [Array.range]
              have hold : ∀ k, k < w.heap.size → (w.heap.push (.cells cs' elem))[k]? = w.heap[k]? := fun k hk => by rw [Array.getElem?_push_lt hk]; exact (Array.getElem?_eq_getElem hk).symm
              refine ⟨.slice (some ⟨w.heap.size, 0, none⟩) 0 0, { w with heap := w.heap.push (.cells cs' elem) }, ?_, φ, .emp, ⟨fun b cells size es hbl x hx => ?_, hr.inj, hr.glob, hr.mono, hr.mp.move (fun _ _ h => h) (fun _ _ h => h) (fun _ _ _ _ h => h) fun k es2 clk hk => (hold k (Array.getElem?_eq_some_iff.1 hk).1).trans hk⟩, ⟨fun _ _ h => h, fun _ _ h => .inl h, fun _ _ h h' => (by rw [h'] at h; cases h), rfl, rfl, rfl, by simp, fun c hc _ => hold c hc, fun _ => Nat.le_refl _⟩⟩
              · simp [Instr.buildSlice, und_run hE hu, sz_run hE hinf, e0, hf', newRow, newObj, Sem.run]
              · have hlt := hr.lt hbl hx
                obtain ⟨c, sh, es', top⟩ := x
                obtain ⟨h1, cs2, ty2, fr2, h2, h3⟩ := hr.blk b cells size es hbl _ hx
                exact ⟨h1, cs2, ty2, fr2, (hold c hlt).trans h2, h3⟩
            split at hs
            · rename_i b h1' hb
              simp only [Option.some.injEq, Prod.mk.injEq] at hs
              obtain ⟨rfl, rfl⟩ := hs
              have hf : φ h.next = none := hf0 (by rw [(aNew_some hb).2]; exact Nat.lt_succ_self _)
              have hzs : 0 < z.cells.size := by omega
              have hmade := made_eq z.cells hzs len
              rw [h5] at hmade
              obtain ⟨cs', hf', hv⟩ := fill_sound (φ := φ) (fun i => some (i * inf.size, inf.size)) hp (c' := madeCells z.cells (len * inf.size)) (by rw [hmade]; simpa using zeros_vrs (VR.const hc).cells len) hfill
              obtain ⟨φ', g1, g2, g3⟩ := HR.new (cells' := cs') hG hr hf elem hb hv
              obtain ⟨rfl, _⟩ := aNew_some hb
              have hn24 : ¬ (len * inf.size > 2 ^ 24) := by omega
              have hlen : cs'.size = len * inf.size := by
                have := fill_size _ hf'
                rw [this]; simp [madeCells]
              refine ⟨.slice (some ⟨w.heap.size, 0, none⟩) len len, _, ?_, φ', .slc (off := 0) g1 (Nat.le_refl _) (Nat.le_refl _) (by rw [hlen]; omega) (.inl rfl), g2, g3⟩
              by_cases h0 : len * inf.size = 0
              · have hm0 : madeCells z.cells (len * inf.size) = #[] := by simp [madeCells, h0]
                rw [hm0] at hf'
                have e0 : ∀ f : Nat → Value, Array.map f (Array.range 0) = #[] := fun f => by simp [Array.range]
                simp [Instr.buildSlice, und_run hE hu, sz_run hE hinf, h0, e0, hf', newRow, newObj, Sem.run]
              · have hf2 : Instr.fill (fun i => some (i * inf.size, inf.size)) ((Array.range (len * inf.size)).map (z.cells[· % z.cells.size]!)) ps'.toList = some cs' := hf'
                simp [Instr.buildSlice, und_run hE hu, sz_run hE hinf, h0, hn24, zero_run hE hinf hz, hf2, newRow, newObj, Sem.run]
            · cases hs
          · cases hs
        · cases hs
      · cases hs
    · cases hs
  · cases hs
end Go.Proofs.YtngpoamjhngcgaaGreatDoor.Ev

/- append, copy, clear. -/
namespace Go.Proofs.YtngpoamjhngcgaaGreatDoor.Ev
open Go
variable {P : Program} {E : Env} {φ : Phi} {w : World}

theorem src_sound {h : H} (hr : HR E φ h.blks.get w) {size n m : Nat} {x x' : Value} {cs : List Value} (hl : srcLen x = some m) (hnm : n ≤ m) (hn : 0 < n) (hc : srcCells h size n x = some cs) (hx : VR φ x x') :
    (Builtin.lenOf x').run P w = .ok m w ∧ ∃ cs' : List Value, cs'.length = cs.length ∧ (∀ w2 : World, (∀ a, w2.cell? a = w.cell? a) → (Builtin.firstCells size n x').run P w2 = .ok cs'.toArray w2) ∧ VRs φ cs cs' := by
  cases hx with
  | nils =>
    simp only [srcLen, Option.some.injEq] at hl
    omega
  | emp =>
    simp only [srcLen, Option.some.injEq] at hl
    omega
  | slc hφ hle hcm ht hA =>
    rename_i b off k m0 c sh es top m' A
    simp only [srcLen, Option.some.injEq] at hl
    subst hl
    have hA' : A = ⟨c, sh + off, none⟩ := hA.resolve_right (by omega)
    subst hA'
    simp only [srcCells] at hc
    obtain ⟨vs', hlen, hcell, hv⟩ := rd_sound hr hc hφ
    refine ⟨by simp [Builtin.lenOf], vs', hv.length.symm, fun w2 hw2 => ?_, hv⟩
    have := run_loadCells (P := P) (w := w2) hlen (fun j v hj => by rw [hw2]; exact hcell j v hj)
    simpa [Builtin.firstCells] using this
  | string s =>
    simp only [srcLen, Option.some.injEq] at hl
    subst hl
    simp only [srcCells, Option.some.injEq] at hc
    subst hc
    refine ⟨by simp [Builtin.lenOf], _, rfl, fun w2 _ => ?_, VRs.flat ?_⟩
    · simp only [Builtin.firstCells, Sem.run_pure]
      congr 1
      rw [← Array.toList_inj]
      simp
    · rw [List.all_eq_true]
      intro x hx
      obtain ⟨b, _, rfl⟩ := List.mem_map.1 hx
      rfl
  | _ => simp [srcLen] at hl

theorem store_raw {c : Nat} {ty : TypeId} {o : Nat} {fr : Nat × Nat} : ∀ (vs : List Value) (i : Nat) (w : World) (cs : Array Value), w.heap[c]? = some (.cells cs ty fr) → NoFr fr cs.size → o + i + vs.length ≤ cs.size → vs.all oneB = true →
    ∃ w' cs', (storeCells ⟨c, o, none⟩ vs i).run P w = .ok () w' ∧ w'.heap[c]? = some (.cells cs' ty fr) ∧ cs'.size = cs.size ∧ (∀ j v, vs[j]? = some v → cs'[o + i + j]? = some v) ∧ (∀ k, k < o + i → cs'[k]? = cs[k]?) ∧
      w'.os = w.os ∧ (w'.tape = w.tape ∧ w'.drawn = w.drawn) ∧ w'.output = w.output ∧ w'.heap.size = w.heap.size ∧ ∀ k, k ≠ c → w'.heap[k]? = w.heap[k]?
  | [], i, w, cs, hh, _, _, _ => ⟨w, cs, by simp [storeCells], hh, rfl, fun j v hj => by simp at hj, fun _ _ => rfl, rfl, ⟨rfl, rfl⟩, rfl, rfl, fun _ _ => rfl⟩
  | v :: vs, i, w, cs, hh, hfr, hle, ho => by
    simp only [List.length_cons] at hle
    simp only [List.all_cons, Bool.and_eq_true] at ho
    have hst := run_store1 (P := P) (i := o + i) hh hfr (by omega) ho.1
    have hclt : c < w.heap.size := by
      rcases Nat.lt_or_ge c w.heap.size with h | h
      · exact h
      · rw [Array.getElem?_eq_none h] at hh; cases hh
    have hheap : (w.setCell ⟨c, o + i, none⟩ v).heap[c]? = some (.cells (cs.setIfInBounds (o + i) v) ty fr) := by
      simp only [World.setCell, Array.getElem?_modify]
      simp [hh]
    obtain ⟨w', cs', hrun, e1, e2, e3, e4, e5, e6, e7, e8, e9⟩ := store_raw vs (i + 1) _ _ hheap (by simpa using hfr) (by simpa using (by omega : o + (i + 1) + vs.length ≤ cs.size)) ho.2
    refine ⟨w', cs', ?_, e1, by simpa using e2, fun j u hj => ?_, fun k hk => ?_, e5, e6, e7, by rw [e8]; simp [World.setCell], fun k hk => ?_⟩
    · simp only [storeCells, Sem.run_bind, add_mk, hst]
      simpa [Result.andThen_ok] using hrun
    · cases j with
      | zero =>
        simp only [List.getElem?_cons_zero, Option.some.injEq] at hj
        subst hj
        rw [Nat.add_zero, e4 _ (by omega), Array.getElem?_setIfInBounds_self_of_lt (by omega)]
      | succ j =>
        have := e3 j u (by simpa using hj)
        rw [show o + i + (j + 1) = o + (i + 1) + j by omega]; exact this
    · rw [e4 k (by omega), Array.getElem?_setIfInBounds_ne (by omega)]
    · rw [e9 k hk]
      simp [World.setCell, Array.getElem?_modify, Ne.symm hk]

theorem evCopy_sound (hE : EnvOK P E) {h h' : H} (hr : HR E φ h.blks.get w) {td tx ty : TypeId} {d x d' x' v : Value} (hs : evCopy E h td d x = some (v, h')) (hd : VR φ d d') (hx : VR φ x x') :
    ∃ v' w', (Builtin.copy_ #[td, tx] ty #[d', x']).run P w = .ok v' w' ∧ Good E φ h w v h' v' w' := by
  unfold evCopy at hs
  split at hs
  · rename_i elem m base dl dc hu hm
    split at hs
    · rename_i inf hinf
      rw [forceN_eq] at hs
      split at hs
      · rename_i h0
        simp only [Option.some.injEq, Prod.mk.injEq] at hs
        obtain ⟨rfl, rfl⟩ := hs
        refine ⟨.int .i64 0, w, ?_, φ, .int _ _, hr, Ext.refl _ _ _ _⟩
        have hlen : (Builtin.lenOf x').run P w = .ok m w := by
          cases hx <;> simp only [srcLen, Option.some.injEq, reduceCtorEq] at hm <;> subst hm <;> simp [Builtin.lenOf]
        have hfirst : (Builtin.firstCells inf.size 0 x').run P w = .ok #[] w := by
          cases hx <;> simp only [srcLen, Option.some.injEq, reduceCtorEq] at hm <;> simp [Builtin.firstCells, loadCells, loadCellsFrom]
        have hmin : Nat.min m dl = 0 := h0
        cases hd with
        | nils => simp [Builtin.copy_, und_run hE hu, sz_run hE hinf, hlen, hfirst, goInt]
        | emp => simp [Builtin.copy_, und_run hE hu, sz_run hE hinf, hlen, hfirst, goInt, storeCells]
        | slc _ _ _ _ => simp [Builtin.copy_, und_run hE hu, sz_run hE hinf, hlen, hfirst, goInt, hmin, storeCells]
      · rename_i h0
        split at hs
        · rename_i cs b off hcs
          split at hs
          · rename_i h1 hw
            simp only [Option.some.injEq, Prod.mk.injEq] at hs
            obtain ⟨rfl, rfl⟩ := hs
            have hmin : Nat.min m dl = min m dl := rfl
            obtain ⟨hlen, cs', _, hfirst, hv⟩ := src_sound (P := P) hr hm (Nat.min_le_left m dl) (by omega) hcs hx
            cases hd with
            | slc hφ hle hcm ht hA =>
              rename_i c sh es top m' A
              have hA' : A = ⟨c, sh + off, none⟩ := hA.resolve_right (by omega)
              subst hA'
              obtain ⟨w', hrun, g1, g2⟩ := wr_sound (P := P) hr hw hφ hv
              refine ⟨.int .i64 (min m dl : Nat), w', ?_, φ, .int _ _, g1, g2⟩
              simp [Builtin.copy_, und_run hE hu, sz_run hE hinf, hlen, hmin, hfirst w (fun _ => rfl), hrun, goInt]
          · cases hs
        · cases hs
    · cases hs
  · cases hs

theorem zeroCells_eq (z : Array Value) (hz : 0 < z.size) (n : Nat) : (Builtin.zeroCells z n).toList = zeros z.toList n := made_eq z hz n

theorem evClear_sound (hE : EnvOK P E) {h h' : H} (hr : HR E φ h.blks.get w) {t ty : TypeId} {x x' v : Value} (hs : evClear E h t x = some (v, h')) (hx : VR φ x x') :
    ∃ v' w', (Builtin.clear_ #[t] ty #[x']).run P w = .ok v' w' ∧ Good E φ h w v h' v' w' := by
  unfold evClear at hs
  split at hs
  · rename_i elem base n c hu
    split at hs
    · rename_i h0
      simp only [Option.some.injEq, Prod.mk.injEq] at hs
      obtain ⟨rfl, rfl⟩ := hs
      subst h0
      refine ⟨undef, w, ?_, φ, VR.undef, hr, Ext.refl _ _ _ _⟩
      cases hx with
      | nils => simp [Builtin.clear_, und_run hE hu, undef]
      | emp => simp [Builtin.clear_, und_run hE hu, undef]
      | slc _ _ _ _ => simp [Builtin.clear_, und_run hE hu, undef]
    · rename_i h0
      split at hs
      · rename_i inf b off hinf
        split at hs
        · rename_i z hz
          split at hs
          · rename_i hc
            split at hs
            · rename_i h1 hw
              simp only [Option.some.injEq, Prod.mk.injEq] at hs
              obtain ⟨rfl, rfl⟩ := hs
              cases hx with
              | slc hφ hle hcm ht hA =>
                rename_i c sh es top m' A
                have hA' : A = ⟨c, sh + off, none⟩ := hA.resolve_right (by omega)
                subst hA'
                obtain ⟨w', hrun, g1, g2⟩ := wr_sound (P := P) hr hw hφ (zeros_vrs (VR.const hc).cells n)
                refine ⟨undef, w', ?_, φ, VR.undef, g1, g2⟩
                by_cases hzs : 0 < z.cells.size
                · simp [Builtin.clear_, und_run hE hu, zero_run hE hinf hz, zeroCells_eq _ hzs, hrun, undef, h0]
                · have e : (Builtin.zeroCells z.cells n).toList = zeros z.cells.toList n := by
                    have h2 : z.cells.size = 0 := by omega
                    have h3 : z.cells.toList = [] := by simpa using h2
                    have h4 : ∀ k, zeros ([] : List Value) k = [] := fun k => by induction k with
                      | zero => rfl
                      | succ k ih => simp [zeros, ih]
                    rw [h3, h4]
                    simp [Builtin.zeroCells, h2]
                  simp [Builtin.clear_, und_run hE hu, zero_run hE hinf hz, e, hrun, undef, h0]
            · cases hs
          · cases hs
        · cases hs
      · cases hs
  · cases hs

theorem HR.kill {h h' : H} {b : Nat} (hr : HR E φ h.blks.get w) (hk : kill E h b = some h') : HR E φ h'.blks.get w := by
  obtain ⟨cells, size, es, hb, hG, rfl⟩ := kill_some hk
  have hg : ∀ k, (Tr.put h.blks b .dead).get k = if k = b then some .dead else h.blks.get k := fun k => Tr.get_put _ _ _ _
  have old : ∀ {k : Nat} {cc : Tr Value} {ss ee : Nat}, (Tr.put h.blks b .dead).get k = some (.mk cc ss ee) → h.blks.get k = some (.mk cc ss ee) := fun {k cc ss ee} hk => by
    rw [hg] at hk
    split at hk
    · cases hk
    · exact hk
  exact ⟨fun k cc ss ee hk x hx => hr.blk k cc ss ee (old hk) x hx, fun b1 b2 x1 x2 _ _ _ _ _ _ hG1 h1 h2 hx1 hx2 he => hr.inj b1 b2 x1 x2 _ _ _ _ _ _ hG1 (old h1) (old h2) hx1 hx2 he,
    fun k cc ss ee hlt hlN hk => hr.glob k cc ss ee hlt hlN (old hk), fun b1 b2 x1 x2 _ _ _ _ _ _ hf1 hf2 hlt h1 h2 hx1 hx2 he => hr.mono b1 b2 x1 x2 _ _ _ _ _ _ hf1 hf2 hlt (old h1) (old h2) hx1 hx2 he,
    hr.mp.move (fun _ _ h => h) (fun k l hk => by
      rw [hg] at hk
      split at hk
      · cases hk
      · exact hk) (fun _ _ _ _ h => h) (fun _ _ _ h => h)⟩

set_option maxHeartbeats 4000000 in
/-- append where it grows: the run -/
theorem run_grow (hE : EnvOK P E) {ts tx : TypeId} {elem : TypeId} {ux : TypeDesc} {inf : TypeInfo} {z : Value} (hu : E.u ts = some (.slice elem)) (hni : notInt ux = true) (hux : E.u tx = some ux) (hinf : E.i elem = some inf) (hz : inf.zero = some z)
    (hb : inf.bytes < 65536) {A : Option Addr} {sl sc n : Nat} {x : Value} {old news : List Value} (hlen : (Builtin.lenOf x).run P w = .ok n w) (hlt : sc < sl + n) (hsm : sl + n < 2147483648) (_ : sl ≤ sc) (ty : TypeId)
    (hold : ∀ w2 : World, (∀ a, w2.cell? a = w.cell? a) → (Builtin.firstCells inf.size sl (.slice A sl sc)).run P w2 = .ok old.toArray w2) (hnew : ∀ w2 : World, (∀ a, w2.cell? a = w.cell? a) → (Builtin.firstCells inf.size n x).run P w2 = .ok news.toArray w2) :
    ∃ cap, sl + n ≤ cap ∧ (Builtin.append_ #[ts, tx] ty #[.slice A sl sc, x]).run P w =
      .ok (.slice (some ⟨w.heap.size, 0, none⟩) (sl + n) cap) (w.drew.alloc (.cells (old.toArray ++ (news.toArray ++ Builtin.zeroCells z.cells (cap - (sl + n)))) elem)) := by
  have hfit : ¬ (Builtin.nextslicecap (sl + n) sc * inf.bytes > 2 ^ 48) := by
    have h1 := nextslicecap_le hlt
    have h2 : Builtin.nextslicecap (sl + n) sc * inf.bytes ≤ (2 * (sl + n)) * 65536 := Nat.mul_le_mul h1 (by omega)
    omega
  have h63 : ¬ ((sl : Int) + (n : Int) > IntKind.i64.max) := by simp [IntKind.max, IntKind.signed, IntKind.bits]; omega
  have hnle : ¬ (sl + n ≤ sc) := by omega
  refine ⟨sl + n + w.tape w.drawn (.appendCap (sl + n) sc elem) % (2 ^ 63 - (sl + n)), by omega, ?_⟩
  have hq : (Question.appendCap (sl + n) sc elem).forced = false := rfl
  have ho := hold w.drew (fun _ => rfl)
  have hn := hnew w.drew (fun _ => rfl)
  have hzr : (zeroValue elem).run P w.drew = .ok z w.drew := zero_run hE hinf hz
  have h63' : ¬ (9223372036854775807 < (sl : Int) + (n : Int)) := by omega
  cases ux with
  | int k => simp [notInt] at hni
  | _ => simp [Builtin.append_, und_run hE hu, und_run hE hux, sz_run hE hinf, hlen, hnle, ti_run hE hinf, h63', hfit, choose, Sem.run, hq, Question.cut, ho, hn, hzr, newRow, newObj]

set_option maxHeartbeats 4000000 in
/-- append where there is room: the run -/
theorem run_fits (hE : EnvOK P E) {ts tx : TypeId} {elem : TypeId} {ux : TypeDesc} {inf : TypeInfo} (hu : E.u ts = some (.slice elem)) (hni : notInt ux = true) (hux : E.u tx = some ux) (hinf : E.i elem = some inf)
    {c o : Nat} {sl sc n : Nat} {x : Value} {news : List Value} (hlen : (Builtin.lenOf x).run P w = .ok n w) (hle : sl + n ≤ sc) (ty : TypeId) (hnew : (Builtin.firstCells inf.size n x).run P w = .ok news.toArray w)
    {w' : World} (hst : (storeCells ⟨c, o + sl * inf.size, none⟩ news).run P w = .ok () w') :
    (Builtin.append_ #[ts, tx] ty #[.slice (some ⟨c, o, none⟩) sl sc, x]).run P w = .ok (.slice (some ⟨c, o, none⟩) (sl + n) sc) w' := by
  cases ux with
  | int k => simp [notInt] at hni
  | _ => simp [Builtin.append_, und_run hE hu, und_run hE hux, sz_run hE hinf, hlen, hle, hnew, add_mk, hst]

set_option maxHeartbeats 4000000 in
/-- append of nothing: the run -/
theorem run_none (hE : EnvOK P E) {ts tx : TypeId} {elem : TypeId} {ux : TypeDesc} {inf : TypeInfo} (hu : E.u ts = some (.slice elem)) (hni : notInt ux = true) (hux : E.u tx = some ux) (hinf : E.i elem = some inf)
    {A : Option Addr} {sl sc : Nat} {x : Value} (hlen : (Builtin.lenOf x).run P w = .ok 0 w) (hle : sl ≤ sc) (ty : TypeId) (hnew : (Builtin.firstCells inf.size 0 x).run P w = .ok #[] w) :
    (Builtin.append_ #[ts, tx] ty #[.slice A sl sc, x]).run P w = .ok (.slice A sl sc) w := by
  cases ux with
  | int k => simp [notInt] at hni
  | _ => cases A <;> simp [Builtin.append_, und_run hE hu, und_run hE hux, sz_run hE hinf, hlen, hle, hnew, storeCells]
end Go.Proofs.YtngpoamjhngcgaaGreatDoor.Ev

/- append. -/
namespace Go.Proofs.YtngpoamjhngcgaaGreatDoor.Ev
open Go
variable {P : Program} {E : Env} {φ : Phi} {w : World}

theorem vrs_prefix {l : List Value} {l' more : Array Value} (h : VRs φ l l'.toList) : l.length ≤ (l' ++ more).size ∧ ∀ (i : Nat) (v : Value), l[i]? = some v → ∃ v', (l' ++ more)[i]? = some v' ∧ VR φ v v' := by
  have hl : l.length = l'.size := by simpa using h.length
  refine ⟨by simp; omega, fun i v hi => ?_⟩
  obtain ⟨v', h1, h2⟩ := h.get i v hi
  refine ⟨v', ?_, h2⟩
  have hlt : i < l'.size := by
    rcases Nat.lt_or_ge i l'.size with h3 | h3
    · exact h3
    · rw [List.getElem?_eq_none (by simpa using h3)] at h1; cases h1
  rw [Array.getElem?_append_left hlt]
  simpa using h1

theorem HR.drew {g : Nat → Option Blk} (h : HR E φ g w) : HR E φ g w.drew := ⟨h.blk, h.inj, h.glob, h.mono, ⟨h.mp.blk, h.mp.inj⟩⟩

theorem Ext.of_drew {h h' : H} {φ' : Phi} {w' : World} (x : Ext E φ h w.drew φ' h' w') : Ext E φ h w φ' h' w' := ⟨x.le, x.dom, x.src, x.os, x.tape, x.output, x.size, x.frame, fun hs => Nat.le_trans (Nat.le_succ _) (x.drawn hs)⟩

theorem Ext.kill {h h' : H} {b : Nat} (_ : Ev.kill E h b = some h') : Ext E φ h w φ h' w :=
  ⟨fun _ _ h => h, fun _ _ h => .inl h, fun _ _ h h' => (by rw [h'] at h; cases h), rfl, rfl, rfl, Nat.le_refl _, fun _ _ _ => rfl, fun _ => Nat.le_refl _⟩

/-- the block that was appended to goes on under another number -/
theorem HR.moved {h h1 h' : H} (ok : Hok h) (hG : E.G ≤ h.next) (hr : HR E φ h.blks.get w) (hf : φ h.next = none) {b : Nat} (hnf : E.frz b = false) (hk : Ev.kill E h b = some h1) {cells : List Value} {es : Nat} {b' : Nat} (hn : aNew h1 cells es = some (b', h'))
    {c sh top o : Nat} (hφ : φ b = some (c, sh, es, top)) {w' : World} {cs' : Array Value} {ty : TypeId} {fr : Nat × Nat} (hz0 : NoFr fr cs'.size) (hh : w'.heap[c]? = some (.cells cs' ty fr)) (hot : o + cells.length ≤ top) (htop : top ≤ cs'.size)
    (hc : ∀ i v, cells[i]? = some v → ∃ v', cs'[o + i]? = some v' ∧ VR φ v v') (e1 : w'.os = w.os) (e2 : w'.tape = w.tape ∧ w'.drawn = w.drawn) (e3 : w'.output = w.output) (e4 : w'.heap.size = w.heap.size) (e5 : ∀ k, k ≠ c → w'.heap[k]? = w.heap[k]?) :
    ∃ φ', φ' h.next = some (c, o, es, top) ∧ HR E φ' h'.blks.get w' ∧ Ext E φ h w φ' h' w' := by
  obtain ⟨cells0, size0, es0, hb, hbG, rfl⟩ := kill_some hk
  obtain ⟨rfl, rfl⟩ := aNew_some hn
  have hbn := get_lt ok hb
  have hg : ∀ k, (Tr.put (Tr.put h.blks b .dead) h.next (.mk (Tr.ofList cells) cells.length es)).get k = if k = h.next then some (.mk (Tr.ofList cells) cells.length es) else if k = b then some .dead else h.blks.get k := fun k => by
    rw [Tr.get_put, Tr.get_put]
  have hle : ∀ k x, φ k = some x → (fun k => if k = h.next then some (c, o, es, top) else φ k) k = some x := fun k x hx => by
    by_cases hk : k = h.next
    · subst hk; rw [hf] at hx; cases hx
    · simp [hk, hx]
  have old : ∀ {k : Nat} {cc : Tr Value} {ss ee : Nat}, k ≠ h.next → (Tr.put (Tr.put h.blks b .dead) h.next (.mk (Tr.ofList cells) cells.length es)).get k = some (.mk cc ss ee) → k ≠ b ∧ h.blks.get k = some (.mk cc ss ee) := fun {k cc ss ee} hkn hk => by
    rw [hg, if_neg hkn] at hk
    split at hk
    · cases hk
    · rename_i hkb; exact ⟨hkb, hk⟩
  have far : ∀ {k : Nat} {cc : Tr Value} {ss ee : Nat} {x : Nat × Nat × Nat × Nat}, k ≠ b → h.blks.get k = some (.mk cc ss ee) → φ k = some x → x.1 ≠ c := fun {k cc ss ee x} hkb hk hx he =>
    (hr.inj b k _ x _ _ _ _ _ _ hbG hb hk hφ hx he.symm).elim (fun e => hkb e.symm) fun e => by rw [hnf] at e; cases e.1
  refine ⟨fun k => if k = h.next then some (c, o, es, top) else φ k, by simp, ⟨fun k cc ss ee hk x hx => ?_, fun b1 b2 x1 x2 _ _ _ _ _ _ hG1 h1 h2 hx1 hx2 he => ?_, fun k cc ss ee hlt' hlN hk => ?_, fun b1 b2 x1 x2 _ _ _ _ _ _ hf1 hf2 hlt' h1 h2 hx1 hx2 he => ?_, ?_⟩,
    ⟨hle, fun k x hx => ?_, fun k x hx h0 => ?_, e1, e2.1, e3, by omega, fun k hk hno => e5 k fun e => (by have := (hno b _ (live_mk hb) hbG hφ e.symm).1; rw [hnf] at this; cases this), fun _ => Nat.le_of_eq e2.2.symm⟩⟩
  · by_cases hkn : k = h.next
    · subst hkn
      simp only at hk
      rw [hg, if_pos rfl] at hk
      injection hk with hk
      injection hk with f1 f2 f3
      subst f1; subst f2; subst f3
      simp only [if_true, Option.some.injEq] at hx
      subst hx
      refine ⟨rfl, cs', ty, fr, hh, ⟨fun _ => hz0, fun hg => absurd hg.1 (by omega)⟩, hot, htop, fun i hi => ?_⟩
      rw [Tr.ofList_get]
      obtain ⟨v', h1, h2⟩ := hc i _ (List.getElem?_eq_getElem hi)
      exact ⟨cells[i], v', List.getElem?_eq_getElem hi, h1, h2.mono hle⟩
    · obtain ⟨hkb, hk'⟩ := old hkn hk
      simp only [hkn, if_false] at hx
      obtain ⟨c2, sh2, es2, top2⟩ := x
      have hne := far hkb hk' hx
      obtain ⟨f1, cs2, ty2, fr2, hh2, hfr2, f2, f3, hc2⟩ := hr.blk k cc ss ee hk' _ hx
      refine ⟨f1, cs2, ty2, fr2, by rw [e5 c2 hne]; exact hh2, hfr2, f2, f3, fun i hi => ?_⟩
      obtain ⟨v, v', g1, g2, g3⟩ := hc2 i hi
      exact ⟨v, v', g1, g2, g3.mono hle⟩
  · by_cases k1 : b1 = h.next
    · by_cases k2 : b2 = h.next
      · exact .inl (by omega)
      · obtain ⟨hkb, hk'⟩ := old k2 h2
        simp only [k1, if_true, Option.some.injEq] at hx1
        subst hx1
        simp only [k2, if_false] at hx2
        exact absurd he.symm (far hkb hk' hx2)
    · obtain ⟨hkb, hk'⟩ := old k1 h1
      simp only [k1, if_false] at hx1
      by_cases k2 : b2 = h.next
      · simp only [k2, if_true, Option.some.injEq] at hx2
        subst hx2
        exact absurd he (far hkb hk' hx1)
      · obtain ⟨hkb2, hk2'⟩ := old k2 h2
        simp only [k2, if_false] at hx2
        exact hr.inj b1 b2 x1 x2 _ _ _ _ _ _ hG1 hk' hk2' hx1 hx2 he
  · have hkn : k ≠ h.next := by omega
    obtain ⟨hkb, hk'⟩ := old hkn hk
    obtain ⟨es2, top2, h3⟩ := hr.glob k cc ss ee hlt' hlN hk'
    exact ⟨es2, top2, hle _ _ h3⟩
  · by_cases k1 : b1 = h.next
    · obtain ⟨hkb, hk'⟩ := old (by omega) h2
      have := get_lt ok hk'
      omega
    · obtain ⟨hkb, hk'⟩ := old k1 h1
      simp only [k1, if_false] at hx1
      by_cases k2 : b2 = h.next
      · simp only [k2, if_true, Option.some.injEq] at hx2
        subst hx2
        exact absurd he (far hkb hk' hx1)
      · obtain ⟨hkb2, hk2'⟩ := old k2 h2
        simp only [k2, if_false] at hx2
        exact hr.mono b1 b2 x1 x2 _ _ _ _ _ _ hf1 hf2 hlt' hk' hk2' hx1 hx2 he
  · refine hr.mp.move hle (fun k l hk => ?_) (fun k l x hk hx => ?_) (fun k es2 clk hk => ?_)
    · simp only at hk
      rw [hg] at hk
      split at hk
      · cases hk
      · split at hk
        · cases hk
        · exact hk
    · simp only at hk
      rw [hg] at hk
      split at hk
      · cases hk
      · rename_i hkn; simpa [hkn] using hx
    · have hkc : k ≠ c := fun e => by
        obtain ⟨_, cs0, ty0, _, hh0, _⟩ := hr.blk b _ _ _ hb _ hφ
        rw [e, hh0] at hk; cases hk
      rw [e5 k hkc]; exact hk
  · by_cases hk : k = h.next
    · exact .inr ⟨by rw [hk]; exact hf, by omega, by simp only; omega⟩
    · simp only [hk, if_false] at hx
      exact .inl hx
  · by_cases hk : k = h.next
    · simp only [hk, if_true, Option.some.injEq] at hx
      subst hx
      exact .inr ⟨b, _, live_mk hb, hbG, hφ, rfl, fun e => by rw [hnf] at e; cases e⟩
    · simp only [hk, if_false] at hx
      rw [h0] at hx; cases hx

/-- the block that was appended to stays beside the new one, which begins with the same cells -/
theorem HR.kept {h h' : H} (ok : Hok h) (hr : HR E φ h.blks.get w) (hf : φ h.next = none) {b size0 es0 : Nat} {cells0 : Tr Value} (hb : h.blks.get b = some (.mk cells0 size0 es0)) (hfb : E.frz b = true) (hfn : E.frz h.next = true)
    (htop : fzTop E h b = true) {cells : List Value} {es : Nat} {b' : Nat} (hn : aNew h cells es = some (b', h')) (hsz : size0 ≤ cells.length)
    {c sh top : Nat} (hφ : φ b = some (c, sh, es, top)) {w' : World} {cs cs' : Array Value} {ty : TypeId} {fr : Nat × Nat} (hz0 : NoFr fr cs'.size) (hh0 : w.heap[c]? = some (.cells cs ty fr)) (hh : w'.heap[c]? = some (.cells cs' ty fr)) (hcs : cs'.size = cs.size) (hsame : ∀ k, k < sh + size0 → cs'[k]? = cs[k]?)
    (hot : sh + cells.length ≤ top) (htp : top ≤ cs'.size)
    (hc : ∀ i v, cells[i]? = some v → ∃ v', cs'[sh + i]? = some v' ∧ VR φ v v') (e1 : w'.os = w.os) (e2 : w'.tape = w.tape ∧ w'.drawn = w.drawn) (e3 : w'.output = w.output) (e4 : w'.heap.size = w.heap.size) (e5 : ∀ k, k ≠ c → w'.heap[k]? = w.heap[k]?) :
    ∃ φ', φ' h.next = some (c, sh, es, top) ∧ HR E φ' h'.blks.get w' ∧ Ext E φ h w φ' h' w' := by
  obtain ⟨rfl, rfl⟩ := aNew_some hn
  have hbG := frz_G hfb
  have hbn := get_lt ok hb
  have hg : ∀ k, (Tr.put h.blks h.next (.mk (Tr.ofList cells) cells.length es)).get k = if k = h.next then some (.mk (Tr.ofList cells) cells.length es) else h.blks.get k := fun k => by
    rw [Tr.get_put]
  have hle : ∀ k x, φ k = some x → (fun k => if k = h.next then some (c, sh, es, top) else φ k) k = some x := fun k x hx => by
    by_cases hk : k = h.next
    · subst hk; rw [hf] at hx; cases hx
    · simp [hk, hx]
  have old : ∀ {k : Nat} {cc : Tr Value} {ss ee : Nat}, k ≠ h.next → (Tr.put h.blks h.next (.mk (Tr.ofList cells) cells.length es)).get k = some (.mk cc ss ee) → h.blks.get k = some (.mk cc ss ee) := fun {k cc ss ee} hkn hk => by
    rw [hg, if_neg hkn] at hk
    exact hk
  -- who shares the cells
  have near : ∀ {k : Nat} {cc : Tr Value} {ss ee : Nat} {x : Nat × Nat × Nat × Nat}, h.blks.get k = some (.mk cc ss ee) → φ k = some x → x.1 = c → E.frz k = true ∧ x.2.1 = sh ∧ ss ≤ size0 := fun {k cc ss ee x} hk hx he => by
    by_cases hkb : k = b
    · subst hkb
      rw [hb] at hk
      injection hk with hk
      injection hk with f1 f2 f3
      rw [hφ] at hx
      injection hx with hx
      subst hx
      exact ⟨hfb, rfl, by omega⟩
    · rcases hr.inj b k _ x _ _ _ _ _ _ hbG hb hk hφ hx he.symm with h3 | ⟨_, h3⟩
      · exact absurd h3.symm hkb
      · rcases Nat.lt_or_gt_of_ne hkb with h4 | h4
        · obtain ⟨g1, g2⟩ := hr.mono k b x _ _ _ _ _ _ _ h3 hfb h4 hk hb hx hφ he
          exact ⟨h3, g1, g2⟩
        · have := fzTop_dead htop h3 h4
          rw [liveC_mk hk] at this; cases this
  refine ⟨fun k => if k = h.next then some (c, sh, es, top) else φ k, by simp, ⟨fun k cc ss ee hk x hx => ?_, fun b1 b2 x1 x2 _ _ _ _ _ _ hG1 h1 h2 hx1 hx2 he => ?_, fun k cc ss ee hlt' hlN hk => ?_, fun b1 b2 x1 x2 _ _ _ _ _ _ hf1 hf2 hlt' h1 h2 hx1 hx2 he => ?_, ?_⟩,
    ⟨hle, fun k x hx => ?_, fun k x hx h0 => ?_, e1, e2.1, e3, by omega, fun k hk hno => e5 k fun e => (hno b _ (live_mk hb) hbG hφ e.symm).2 h.next hfn (Nat.le_refl _) (Nat.lt_succ_self _), fun _ => Nat.le_of_eq e2.2.symm⟩⟩
  · by_cases hkn : k = h.next
    · subst hkn
      simp only at hk
      rw [hg, if_pos rfl] at hk
      injection hk with hk
      injection hk with f1 f2 f3
      subst f1; subst f2; subst f3
      simp only [if_true, Option.some.injEq] at hx
      subst hx
      refine ⟨rfl, cs', ty, fr, hh, ⟨fun _ => hz0, fun hg => absurd hg.1 (by omega)⟩, hot, htp, fun i hi => ?_⟩
      rw [Tr.ofList_get]
      obtain ⟨v', h1, h2⟩ := hc i _ (List.getElem?_eq_getElem hi)
      exact ⟨cells[i], v', List.getElem?_eq_getElem hi, h1, h2.mono hle⟩
    · have hk' := old hkn hk
      simp only [hkn, if_false] at hx
      obtain ⟨c2, sh2, es2, top2⟩ := x
      obtain ⟨f1, cs2, ty2, fr2, hh2, hfr2, f2, f3, hc2⟩ := hr.blk k cc ss ee hk' _ hx
      by_cases hcc : c2 = c
      · subst hcc
        obtain ⟨_, g1, g2⟩ := near hk' hx rfl
        simp only at g1
        subst g1
        rw [hh0] at hh2
        injection hh2 with hh2
        injection hh2 with i1 i2 i3
        subst i1; subst i2; subst i3
        refine ⟨f1, cs', _, fr, hh, ⟨fun hk0 => by rw [hcs]; exact hfr2.1 hk0, fun hg => by rw [hcs]; exact hfr2.2 hg⟩, f2, by omega, fun i hi => ?_⟩
        obtain ⟨v, v', j1, j2, j3⟩ := hc2 i hi
        exact ⟨v, v', j1, by rw [hsame _ (by omega)]; exact j2, j3.mono hle⟩
      · refine ⟨f1, cs2, ty2, fr2, by rw [e5 c2 hcc]; exact hh2, hfr2, f2, f3, fun i hi => ?_⟩
        obtain ⟨v, v', g1, g2, g3⟩ := hc2 i hi
        exact ⟨v, v', g1, g2, g3.mono hle⟩
  · by_cases k1 : b1 = h.next
    · by_cases k2 : b2 = h.next
      · exact .inl (by omega)
      · have hk' := old k2 h2
        simp only [k1, if_true, Option.some.injEq] at hx1
        subst hx1
        simp only [k2, if_false] at hx2
        exact .inr ⟨k1 ▸ hfn, (near hk' hx2 he.symm).1⟩
    · have hk' := old k1 h1
      simp only [k1, if_false] at hx1
      by_cases k2 : b2 = h.next
      · simp only [k2, if_true, Option.some.injEq] at hx2
        subst hx2
        exact .inr ⟨(near hk' hx1 he).1, k2 ▸ hfn⟩
      · have hk2' := old k2 h2
        simp only [k2, if_false] at hx2
        exact hr.inj b1 b2 x1 x2 _ _ _ _ _ _ hG1 hk' hk2' hx1 hx2 he
  · have hkn : k ≠ h.next := fun e => by
      rw [e] at hlt'
      have := frz_G hfn
      omega
    obtain ⟨es2, top2, h3⟩ := hr.glob k cc ss ee hlt' hlN (old hkn hk)
    exact ⟨es2, top2, hle _ _ h3⟩
  · by_cases k1 : b1 = h.next
    · have hk' := old (by omega) h2
      have := get_lt ok hk'
      omega
    · have hk' := old k1 h1
      simp only [k1, if_false] at hx1
      by_cases k2 : b2 = h.next
      · simp only [k2, if_true, Option.some.injEq] at hx2
        subst hx2
        obtain ⟨_, g1, g2⟩ := near hk' hx1 he
        rw [k2] at h2
        simp only at h2
        rw [hg, if_pos rfl] at h2
        injection h2 with h2
        injection h2 with i1 i2 i3
        exact ⟨g1, by omega⟩
      · have hk2' := old k2 h2
        simp only [k2, if_false] at hx2
        exact hr.mono b1 b2 x1 x2 _ _ _ _ _ _ hf1 hf2 hlt' hk' hk2' hx1 hx2 he
  · refine hr.mp.move hle (fun k l hk => ?_) (fun k l x hk hx => ?_) (fun k es2 clk hk => ?_)
    · simp only at hk
      rw [hg] at hk
      split at hk
      · cases hk
      · exact hk
    · simp only at hk
      rw [hg] at hk
      split at hk
      · cases hk
      · rename_i hkn; simpa [hkn] using hx
    · have hkc : k ≠ c := fun e => by
        rw [e, hh0] at hk; cases hk
      rw [e5 k hkc]; exact hk
  · by_cases hk : k = h.next
    · exact .inr ⟨by rw [hk]; exact hf, by omega, by simp only; omega⟩
    · simp only [hk, if_false] at hx
      exact .inl hx
  · by_cases hk : k = h.next
    · simp only [hk, if_true, Option.some.injEq] at hx
      subst hx
      exact .inr ⟨b, _, live_mk hb, hbG, hφ, rfl, fun _ => hk ▸ hfn⟩
    · simp only [hk, if_false] at hx
      rw [h0] at hx; cases hx

theorem evAppend_sound (hE : EnvOK P E) {h h' : H} (ok : Hok h) (hG : E.G ≤ h.next) (hr : HR E φ h.blks.get w) (hf0 : h.next < h'.next → φ h.next = none) {ts tx ty : TypeId} {s x s' x' v : Value} (hs : evAppend E h ts tx s x = some (v, h')) (hvs : VR φ s s') (hx : VR φ x x') :
    ∃ v' w', (Builtin.append_ #[ts, tx] ty #[s', x']).run P w = .ok v' w' ∧ Good E φ h w v h' v' w' := by
  unfold evAppend at hs
  split at hs
  · rename_i elem ux n hu hux hn
    split at hs
    · cases hs
    · rename_i hni0
      have hni : notInt ux = true := by simpa using hni0
      split at hs
      · rename_i inf base sl sc hinf
        split at hs
        · rename_i h0
          subst h0
          simp only [Option.some.injEq, Prod.mk.injEq] at hs
          obtain ⟨rfl, rfl⟩ := hs
          have hlen : (Builtin.lenOf x').run P w = .ok 0 w := by
            cases hx <;> simp only [srcLen, Option.some.injEq, reduceCtorEq] at hn <;> simp [Builtin.lenOf, hn]
          have hfirst : (Builtin.firstCells inf.size 0 x').run P w = .ok #[] w := by
            cases hx <;> simp only [srcLen, Option.some.injEq, reduceCtorEq] at hn <;> simp [Builtin.firstCells, loadCells, loadCellsFrom]
          cases hvs with
          | nils => exact ⟨_, w, run_none hE hu hni hux hinf hlen (Nat.le_refl _) ty hfirst, φ, .nils, hr, Ext.refl _ _ _ _⟩
          | emp => exact ⟨_, w, run_none hE hu hni hux hinf hlen (Nat.le_refl _) ty hfirst, φ, .emp, hr, Ext.refl _ _ _ _⟩
          | slc hφ hle hcm ht hA => exact ⟨_, w, run_none hE hu hni hux hinf hlen hle ty hfirst, φ, .slc hφ hle hcm ht hA, hr, Ext.refl _ _ _ _⟩
        · rename_i h0
          split at hs
          · rename_i z news hz hnews
            split at hs
            · rename_i hcond
              simp only [Bool.and_eq_true, decide_eq_true_eq] at hcond
              obtain ⟨⟨⟨⟨⟨⟨hc, h5⟩, h6⟩, h7⟩, h8⟩, h9⟩, h10⟩ := hcond
              obtain ⟨hlen, news', hnl, hfirst, hv⟩ := src_sound (P := P) hr hn (Nat.le_refl n) (by omega) hnews hx
              split at hs
              · -- a nil slice
                split at hs
                · rename_i b' h1 hb
                  rw [forceN_eq] at hs
                  split at hs
                  · rename_i hsl
                    subst hsl
                    simp only [Option.some.injEq, Prod.mk.injEq] at hs
                    obtain ⟨rfl, rfl⟩ := hs
                    have hf : φ h.next = none := hf0 (by rw [(aNew_some hb).2]; exact Nat.lt_succ_self _)
                    cases hvs with
                    | nils =>
                      obtain ⟨cap, hcap, hrun⟩ := run_grow (P := P) hE hu hni hux hinf hz h7 (A := none) (sl := 0) (sc := 0) (old := []) hlen (by omega) h8 (Nat.le_refl _) ty (fun w2 _ => by simp [Builtin.firstCells]) hfirst
                      obtain ⟨hp1, hp2⟩ := vrs_prefix (more := Builtin.zeroCells z.cells (cap - (0 + n))) (l' := news'.toArray) (by simpa using hv)
                      obtain ⟨φ', g1, g2, g3⟩ := HR.new' hG hr.drew hf elem (cells' := news'.toArray ++ Builtin.zeroCells z.cells (cap - (0 + n))) hb hp1 hp2
                      obtain ⟨rfl, _⟩ := aNew_some hb
                      have e : ∀ a : Array Value, ([] : List Value).toArray ++ a = a := fun a => by simp
                      rw [e] at hrun
                      refine ⟨_, _, hrun, φ', .slc (off := 0) g1 hcap hcap ?_ (.inl rfl), g2, g3.of_drew⟩
                      have hz1 : (Builtin.zeroCells z.cells (cap - (0 + n))).size = (cap - (0 + n)) * inf.size := by simp [Builtin.zeroCells, h5]
                      have hmul : n * inf.size + (cap - (0 + n)) * inf.size = cap * inf.size := by rw [← Nat.add_mul]; congr 1; omega
                      simp only [Array.size_append, List.size_toArray, hz1, hnl, h10]
                      omega
                  · cases hs
                · cases hs
              · -- an empty one
                split at hs
                · rename_i b' h1 hb
                  rw [forceN_eq] at hs
                  split at hs
                  · rename_i hsl
                    subst hsl
                    simp only [Option.some.injEq, Prod.mk.injEq] at hs
                    obtain ⟨rfl, rfl⟩ := hs
                    have hf : φ h.next = none := hf0 (by rw [(aNew_some hb).2]; exact Nat.lt_succ_self _)
                    cases hvs with
                    | emp =>
                      rename_i A0
                      obtain ⟨cap, hcap, hrun⟩ := run_grow (P := P) hE hu hni hux hinf hz h7 (A := some A0) (sl := 0) (sc := 0) (old := []) hlen (by omega) h8 (Nat.le_refl _) ty (fun w2 _ => by simp [Builtin.firstCells, loadCells, loadCellsFrom]) hfirst
                      obtain ⟨hp1, hp2⟩ := vrs_prefix (more := Builtin.zeroCells z.cells (cap - (0 + n))) (l' := news'.toArray) (by simpa using hv)
                      obtain ⟨φ', g1, g2, g3⟩ := HR.new' hG hr.drew hf elem (cells' := news'.toArray ++ Builtin.zeroCells z.cells (cap - (0 + n))) hb hp1 hp2
                      obtain ⟨rfl, _⟩ := aNew_some hb
                      have e : ∀ a : Array Value, ([] : List Value).toArray ++ a = a := fun a => by simp
                      rw [e] at hrun
                      refine ⟨_, _, hrun, φ', .slc (off := 0) g1 hcap hcap ?_ (.inl rfl), g2, g3.of_drew⟩
                      have hz1 : (Builtin.zeroCells z.cells (cap - (0 + n))).size = (cap - (0 + n)) * inf.size := by simp [Builtin.zeroCells, h5]
                      have hmul : n * inf.size + (cap - (0 + n)) * inf.size = cap * inf.size := by rw [← Nat.add_mul]; congr 1; omega
                      simp only [Array.size_append, List.size_toArray, hz1, hnl, h10]
                      omega
                  · cases hs
                · cases hs
              · rename_i b off
                split at hs
                · rename_i cells size es hb
                  split at hs
                  · rename_i hes
                    split at hs
                    · rename_i hroom
                      split at hs
                      · rename_i h1 hwr
                        simp only [forceN_eq, Option.some.injEq, Prod.mk.injEq] at hs
                        obtain ⟨rfl, rfl⟩ := hs
                        cases hvs with
                        | slc hφ hle hcm ht hA =>
                          rename_i c sh es' top m' A
                          have hfit : sl + n ≤ m' := by omega
                          have hA' : A = ⟨c, sh + off, none⟩ := hA.resolve_right (by omega)
                          subst hA'
                          obtain ⟨w', hst, hr', hx'⟩ := wr_sound (P := P) hr hwr hφ hv
                          rw [← Nat.add_assoc] at hst
                          exact ⟨_, w', run_fits (P := P) hE hu hni hux hinf hlen hfit ty (hfirst w (fun _ => rfl)) hst, φ, .slc hφ hfit hcm ht (.inl rfl), hr', hx'⟩
                      · cases hs
                    split at hs
                    · rename_i old hold
                      split at hs
                      · rename_i b' h2 hgr
                        simp only [forceN_eq, Option.some.injEq, Prod.mk.injEq] at hs
                        obtain ⟨rfl, rfl⟩ := hs
                        rcases evGrow_some hgr with ⟨hnf, h1, hk, hn2⟩ | ⟨hfb, hfn, htop, hwh, hn2⟩
                        · have hb' : b' = h.next := by
                            obtain ⟨_, _, _, _, _, rfl⟩ := kill_some hk
                            exact (aNew_some hn2).1
                          subst hb'
                          have hf : φ h.next = none := hf0 (by
                            rw [(aNew_some hn2).2]
                            obtain ⟨_, _, _, _, _, rfl⟩ := kill_some hk
                            exact Nat.lt_succ_self _)
                          cases hvs with
                          | slc hφ hle hcm ht hA =>
                            rename_i c sh es' top m' A
                            obtain ⟨hes', cs, ty', fr, hh, hfr, f2, f3, _⟩ := hr.blk b cells size es hb _ hφ
                            have hbG : E.G ≤ b := by obtain ⟨_, _, _, _, hbG, _⟩ := kill_some hk; exact hbG
                            have hz0 := hfr.1 hbG
                            subst hes'
                            obtain ⟨old', hol, hocell, hov⟩ := rd_sound hr hold hφ
                            have hol' : old.length = sl * inf.size := by rw [hov.length]; exact hol
                            by_cases hfit : sl + n ≤ m'
                            · have hA' : A = ⟨c, sh + off, none⟩ := hA.resolve_right (by omega)
                              subst hA'
                              have hmle : (sl + n) * es' ≤ m' * es' := Nat.mul_le_mul_right _ hfit
                              have hsplit : (sl + n) * es' = sl * es' + n * es' := Nat.add_mul _ _ _
                              have hnl' : news'.length = n * es' := by rw [hnl, h10, ← hes]
                              obtain ⟨w', cs', hrun, e1, e2, e3, e4, e5, e6, e7, e8, e9⟩ := store_raw (P := P) (o := sh + off + sl * inf.size) news' 0 w cs hh hz0 (by rw [hnl', ← hes]; omega) (by rw [hv.one]; exact h9)
                              have hrun2 := run_fits (P := P) hE hu hni hux hinf hlen hfit ty (hfirst w (fun _ => rfl)) hrun
                              rw [← hes] at hn2
                              obtain ⟨φ', g1, g2, g3⟩ := HR.moved ok hG hr hf hnf hk hn2 hφ (o := sh + off) (by rw [e2]; exact hz0) e1 (by rw [List.length_append, hol', h10, ← hes]; omega) (by rw [e2]; exact f3) (fun i v hi => by
                                by_cases hio : i < old.length
                                · rw [List.getElem?_append_left hio] at hi
                                  obtain ⟨v', k1, k2⟩ := hov.get i v hi
                                  have hcell := hocell i v' k1
                                  rw [cell_at hh] at hcell
                                  exact ⟨v', by rw [e4 _ (by rw [← hol']; omega)]; exact hcell, k2⟩
                                · rw [List.getElem?_append_right (by omega)] at hi
                                  obtain ⟨v', k1, k2⟩ := hv.get _ v hi
                                  have := e3 _ v' k1
                                  refine ⟨v', ?_, k2⟩
                                  rw [← this]
                                  congr 1
                                  rw [← hol']
                                  omega) e5 e6 e7 e8 e9
                              exact ⟨_, w', hrun2, φ', .slc (off := 0) g1 hfit hfit (by omega) (.inl rfl), g2, g3⟩
                            · obtain ⟨cap, hcap, hrun⟩ := run_grow (P := P) hE hu hni hux hinf hz h7 (A := some A) (sl := sl) (sc := m') (old := old') hlen (by omega) h8 hle ty (fun w2 hw2 => by
                                rcases hA with rfl | h0'
                                · have := run_loadCells (P := P) (w := w2) hol (fun j v hj => by rw [hw2]; exact hocell j v hj)
                                  simpa [Builtin.firstCells] using this
                                · have hsl : sl = 0 := by omega
                                  subst hsl
                                  have : old' = [] := List.eq_nil_of_length_eq_zero (by simpa using hol)
                                  subst this
                                  simp [Builtin.firstCells, loadCells, loadCellsFrom]) hfirst
                              have hboth : VRs φ (old ++ news) (old'.toArray ++ news'.toArray).toList := by simpa using hov.append hv
                              obtain ⟨hp1, hp2⟩ := vrs_prefix (more := Builtin.zeroCells z.cells (cap - (sl + n))) hboth
                              have hke := kill_ae ok hk
                              have hG1 : E.G ≤ h1.next := Nat.le_trans hG hke.next
                              have hn1 : h1.next = h.next := by obtain ⟨_, _, _, _, _, rfl⟩ := kill_some hk; rfl
                              obtain ⟨φ', g1, g2, g3⟩ := HR.new' (φ := φ) hG1 (hr.drew.kill hk) (by rw [hn1]; exact hf) elem hn2 hp1 hp2
                              rw [hn1] at g1
                              rw [Array.append_assoc] at g1 g2 g3
                              refine ⟨_, _, hrun, φ', .slc (off := 0) g1 hcap hcap ?_ (.inl rfl), g2, ?_⟩
                              · have hz1 : (Builtin.zeroCells z.cells (cap - (sl + n))).size = (cap - (sl + n)) * inf.size := by simp [Builtin.zeroCells, h5]
                                have hmul : (sl + n) * inf.size + (cap - (sl + n)) * inf.size = cap * inf.size := by rw [← Nat.add_mul]; congr 1; omega
                                have hsplit : (sl + n) * inf.size = sl * inf.size + n * inf.size := Nat.add_mul _ _ _
                                simp only [Array.size_append, List.size_toArray, hz1, hnl, h10, hol]
                                omega
                              · exact Ext.trans (fun k h3 h4 => by rw [hn1] at h4; omega) (Ext.kill hk) hke g3.of_drew (aNew_ae hke.ok hG1 hn2)
                        · simp only [Bool.and_eq_true] at hwh
                          obtain ⟨hw0, hw1⟩ := hwh
                          have hoff : off = 0 := Nat.eq_of_beq_eq_true hw0
                          subst hoff
                          have hwh1 := Nat.le_of_ble_eq_true hw1
                          obtain ⟨rfl, _⟩ := aNew_some hn2
                          have hf : φ h.next = none := hf0 (by rw [(aNew_some hn2).2]; exact Nat.lt_succ_self _)
                          cases hvs with
                          | slc hφ hle hcm ht hA =>
                            rename_i c sh es' top m' A
                            obtain ⟨hes', cs, ty', fr, hh, hfr, f2, f3, _⟩ := hr.blk b cells size es hb _ hφ
                            have hbG : E.G ≤ b := frz_G hfb
                            have hz0 := hfr.1 hbG
                            subst hes'
                            obtain ⟨old', hol, hocell, hov⟩ := rd_sound hr hold hφ
                            have hol' : old.length = sl * inf.size := by rw [hov.length]; exact hol
                            by_cases hfit : sl + n ≤ m'
                            · have hA' : A = ⟨c, sh + 0, none⟩ := hA.resolve_right (by omega)
                              subst hA'
                              have hmle : (sl + n) * es' ≤ m' * es' := Nat.mul_le_mul_right _ hfit
                              have hsplit : (sl + n) * es' = sl * es' + n * es' := Nat.add_mul _ _ _
                              have hnl' : news'.length = n * es' := by rw [hnl, h10, ← hes]
                              obtain ⟨w', cs', hrun, e1, e2, e3, e4, e5, e6, e7, e8, e9⟩ := store_raw (P := P) (o := sh + 0 + sl * inf.size) news' 0 w cs hh hz0 (by rw [hnl', ← hes]; omega) (by rw [hv.one]; exact h9)
                              have hrun2 := run_fits (P := P) hE hu hni hux hinf hlen hfit ty (hfirst w (fun _ => rfl)) hrun
                              rw [← hes] at hn2
                              obtain ⟨φ', g1, g2, g3⟩ := HR.kept ok hr hf hb hfb hfn htop hn2 (by rw [List.length_append, hol']; omega) hφ (by rw [e2]; exact hz0) hh e1 e2 (fun k hk => e4 k (by omega)) (by rw [List.length_append, hol', h10, ← hes]; omega) (by rw [e2]; exact f3) (fun i v hi => by
                                by_cases hio : i < old.length
                                · rw [List.getElem?_append_left hio] at hi
                                  obtain ⟨v', k1, k2⟩ := hov.get i v hi
                                  have hcell := hocell i v' k1
                                  rw [cell_at hh] at hcell
                                  exact ⟨v', by rw [e4 _ (by rw [← hol']; omega)]; exact hcell, k2⟩
                                · rw [List.getElem?_append_right (by omega)] at hi
                                  obtain ⟨v', k1, k2⟩ := hv.get _ v hi
                                  have := e3 _ v' k1
                                  refine ⟨v', ?_, k2⟩
                                  rw [← this]
                                  congr 1
                                  rw [← hol']
                                  omega) e5 e6 e7 e8 e9
                              exact ⟨_, w', hrun2, φ', .slc (off := 0) g1 hfit hfit (by omega) (.inl rfl), g2, g3⟩
                            · obtain ⟨cap, hcap, hrun⟩ := run_grow (P := P) hE hu hni hux hinf hz h7 (A := some A) (sl := sl) (sc := m') (old := old') hlen (by omega) h8 hle ty (fun w2 hw2 => by
                                rcases hA with rfl | h0'
                                · have := run_loadCells (P := P) (w := w2) hol (fun j v hj => by rw [hw2]; exact hocell j v hj)
                                  simpa [Builtin.firstCells] using this
                                · have hsl : sl = 0 := by omega
                                  subst hsl
                                  have : old' = [] := List.eq_nil_of_length_eq_zero (by simpa using hol)
                                  subst this
                                  simp [Builtin.firstCells, loadCells, loadCellsFrom]) hfirst
                              have hboth : VRs φ (old ++ news) (old'.toArray ++ news'.toArray).toList := by simpa using hov.append hv
                              obtain ⟨hp1, hp2⟩ := vrs_prefix (more := Builtin.zeroCells z.cells (cap - (sl + n))) hboth
                              obtain ⟨φ', g1, g2, g3⟩ := HR.new' (φ := φ) hG hr.drew hf elem hn2 hp1 hp2
                              rw [Array.append_assoc] at g1 g2 g3
                              refine ⟨_, _, hrun, φ', .slc (off := 0) g1 hcap hcap ?_ (.inl rfl), g2, g3.of_drew⟩
                              have hz1 : (Builtin.zeroCells z.cells (cap - (sl + n))).size = (cap - (sl + n)) * inf.size := by simp [Builtin.zeroCells, h5]
                              have hmul : (sl + n) * inf.size + (cap - (sl + n)) * inf.size = cap * inf.size := by rw [← Nat.add_mul]; congr 1; omega
                              have hsplit : (sl + n) * inf.size = sl * inf.size + n * inf.size := Nat.add_mul _ _ _
                              simp only [Array.size_append, List.size_toArray, hz1, hnl, h10, hol]
                              omega
                      · cases hs
                    · cases hs
                  · cases hs
                · cases hs
            · cases hs
          · cases hs
      · cases hs
  · cases hs

theorem bytesOf_some : ∀ (vs : List Value) (s r : ByteArray), bytesOf vs s = some r → ∃ ns : List Int, vs = ns.map (Value.int .u8) ∧ r = ns.foldl (fun r n => r.push (UInt8.ofNat n.toNat)) s
  | [], s, r, h => by
    simp only [bytesOf, Option.some.injEq] at h
    exact ⟨[], rfl, h.symm⟩
  | v :: vs, s, r, h => by
    cases v <;> first | (simp [bytesOf] at h; done) | skip
    rename_i k n
    cases k <;> first | (simp [bytesOf] at h; done) | skip
    simp only [bytesOf] at h
    obtain ⟨ns, rfl, h2⟩ := bytesOf_some vs _ r h
    exact ⟨n :: ns, rfl, h2⟩
theorem vrs_bytes {ns : List Int} {l : List Value} (h : VRs φ (ns.map (Value.int .u8)) l) : l = ns.map (Value.int .u8) := by
  induction ns generalizing l with
  | nil => cases h; rfl
  | cons n ns ih =>
    cases h with
    | cons h1 h2 =>
      cases h1
      rw [ih h2]; rfl
theorem evBytes_sound (hE : EnvOK P E) {h : H} (hr : HR E φ h.blks.get w) {t d : TypeId} {x x' v : Value} (hs : evBytes E h t d x = some v) (hx : VR φ x x') : (convert t d x').run P w = .ok v w ∧ plain v = true := by
  unfold evBytes at hs
  split at hs
  · rename_i e _ _ h1 h2
    split at hs
    · rename_i h3
      simp only [Option.some.injEq] at hs
      subst hs
      cases hx
      refine ⟨?_, rfl⟩
      simp [convert, und_run hE h1, und_run hE h2, und_run hE h3, Conv.bytesToString]
    · cases hs
  · rename_i e _ _ _ h1 h2
    split at hs
    · rename_i h3
      simp only [Option.some.injEq] at hs
      subst hs
      cases hx
      rename_i A0
      refine ⟨?_, rfl⟩
      have hload : (loadCells A0 0).run P w = .ok (([] : List Int).map (Value.int .u8)).toArray w := by simp [loadCells, loadCellsFrom]
      have := run_bytesToString (P := P) w A0 0 0 [] hload
      simp only [convert, Sem.run_bind, und_run hE h1, und_run hE h2, und_run hE h3, Result.andThen_ok, this]
      rfl
    · cases hs
  · rename_i e b off n _ h1 h2
    split at hs
    · rename_i h3
      split at hs
      · rename_i vs hrd
        split at hs
        · rename_i s hb
          simp only [Option.some.injEq] at hs
          subst hs
          obtain ⟨ns, rfl, rfl⟩ := bytesOf_some _ _ _ hb
          refine ⟨?_, rfl⟩
          cases hx with
          | slc hφ hle hcm ht hA =>
            rename_i c sh es top m' A
            obtain ⟨vs', hlen, hcell, hv⟩ := rd_sound hr hrd hφ
            have hvs := vrs_bytes hv
            subst hvs
            have hload : (loadCells A n).run P w = .ok (ns.map (Value.int .u8)).toArray w := by
              rcases hA with rfl | hm0
              · exact run_loadCells hlen hcell
              · have hn0 : n = 0 := by omega
                subst hn0
                have : ns = [] := by simpa using hlen
                subst this
                simp [loadCells, loadCellsFrom]
            have := run_bytesToString (P := P) w A n m' ns hload
            simp only [convert, Sem.run_bind, und_run hE h1, und_run hE h2, und_run hE h3, Result.andThen_ok, this]
        · cases hs
      · cases hs
    · cases hs
  · cases hs
end Go.Proofs.YtngpoamjhngcgaaGreatDoor.Ev

/- Maps: what the evaluator does is what the model does. -/
namespace Go.Proofs.YtngpoamjhngcgaaGreatDoor.Ev
open Go
set_option linter.unusedSimpArgs false
set_option linter.unusedVariables false
variable {P : Program} {E : Env} {φ : Phi} {w : World}

theorem forceL_eq {α β : Type} : ∀ (l : List α) (k : List α → β), forceL l k = k l
  | [], _ => rfl
  | x :: r, k => by unfold forceL; exact forceL_eq r _

theorem EsR.length {l : List (Value × Value)} {es : List MapEntry} (h : EsR φ l es) : l.length = es.length := by
  induction h with
  | nil => rfl
  | cons _ _ _ _ ih => simp [ih]
theorem EsR.isEmpty {l : List (Value × Value)} {es : List MapEntry} (h : EsR φ l es) : l.isEmpty = es.isEmpty := by cases h <;> rfl
theorem EsR.get {l : List (Value × Value)} {es : List MapEntry} (h : EsR φ l es) : ∀ (i : Nat) (x : Value × Value), l[i]? = some x → ∃ e, es[i]? = some e ∧ e.key = x.1 ∧ VR φ x.2 e.val := by
  induction h with
  | nil => intro i x hx; simp at hx
  | cons hp hk hv _ ih =>
    intro i x hx
    cases i with
    | zero => simp at hx; subst hx; exact ⟨_, by simp, hk, hv⟩
    | succ i => simp at hx; simpa using ih i x hx
theorem EsR.push {l : List (Value × Value)} {es : List MapEntry} (h : EsR φ l es) {k v : Value} {e : MapEntry} (hp : plainA k = true) (hk : e.key = k) (hv : VR φ v e.val) : EsR φ (l ++ [(k, v)]) (es ++ [e]) := by
  induction h with
  | nil => exact .cons hp hk hv .nil
  | cons a b c _ ih => exact .cons a b c ih
theorem EsR.modify {l : List (Value × Value)} {es : List MapEntry} (h : EsR φ l es) {k v : Value} {f : MapEntry → MapEntry} (hp : plainA k = true) (hk : ∀ e, (f e).key = k) (hv : ∀ e, VR φ v (f e).val) : ∀ i : Nat, EsR φ (l.set i (k, v)) (es.modify i f) := by
  induction h with
  | nil => intro i; cases i <;> exact .nil
  | cons a b c t ih =>
    intro i
    cases i with
    | zero => simpa using .cons hp (hk _) (hv _) t
    | succ i => simpa using .cons a b c (ih i)
theorem EsR.erase {l : List (Value × Value)} {es : List MapEntry} (h : EsR φ l es) : ∀ i : Nat, EsR φ (l.eraseIdx i) (es.eraseIdx i) := by
  induction h with
  | nil => intro i; exact .nil
  | cons a b c t ih =>
    intro i
    cases i with
    | zero => simpa using t
    | succ i => simpa using .cons a b c (ih i)

def FndR (φ : Phi) (r r' : Option (Nat × Value)) : Prop := (r = none ∧ r' = none) ∨ ∃ i v v', r = some (i, v) ∧ r' = some (i, v') ∧ VR φ v v'

theorem evFindNow_sound {kind : TypeDesc} {k : Value} {l : List (Value × Value)} {es : List MapEntry} (h : EsR φ l es) : ∀ {i : Nat} {r : Option (Nat × Value)}, evFindNow kind k l i = some r → ∃ r', Instr.findNow kind k es i = some r' ∧ FndR φ r r' := by
  induction h with
  | nil => intro i r hs; simp only [evFindNow, Option.some.injEq] at hs; exact ⟨none, rfl, .inl ⟨hs.symm, rfl⟩⟩
  | cons hp hk hv _ ih =>
    intro i r hs
    subst hk
    simp only [evFindNow] at hs
    simp only [Instr.findNow]
    split at hs
    · rename_i hb
      rw [hb]
      simp only [Option.some.injEq] at hs
      exact ⟨_, rfl, .inr ⟨_, _, _, hs.symm, rfl, hv⟩⟩
    · rename_i hb
      rw [hb]
      exact ih hs
    · cases hs
theorem evFindNow_none {kind : TypeDesc} {k : Value} {l : List (Value × Value)} {es : List MapEntry} (h : EsR φ l es) : ∀ {i : Nat}, evFindNow kind k l i = none → Instr.findNow kind k es i = none := by
  induction h with
  | nil => intro i hs; simp [evFindNow] at hs
  | cons hp hk hv _ ih =>
    intro i hs
    subst hk
    simp only [evFindNow] at hs
    simp only [Instr.findNow]
    split at hs
    · cases hs
    · rename_i hb
      rw [hb]
      exact ih hs
    · rename_i hb; rw [hb]
theorem evFindAsk_sound {kt : TypeId} {k : Value} {l : List (Value × Value)} {es : List MapEntry} (h : EsR φ l es) : ∀ {i : Nat} {r : Option (Nat × Value)}, evFindAsk P kt k l i = some r → ∃ r', (Instr.findAsking kt k es i).run P w = .ok r' w ∧ FndR φ r r' := by
  induction h with
  | nil => intro i r hs; simp only [evFindAsk, Option.some.injEq] at hs; exact ⟨none, rfl, .inl ⟨hs.symm, rfl⟩⟩
  | cons hp hk hv _ ih =>
    intro i r hs
    subst hk
    simp only [evFindAsk] at hs
    simp only [Instr.findAsking]
    split at hs
    · rename_i hb
      simp only [Option.some.injEq] at hs
      exact ⟨_, by simp [plainRun_sound (w := w) _ _ hb], .inr ⟨_, _, _, hs.symm, rfl, hv⟩⟩
    · rename_i hb
      obtain ⟨r', h1, h2⟩ := ih hs
      exact ⟨r', by simp [plainRun_sound (w := w) _ _ hb, h1], h2⟩
    · cases hs
theorem evFind_sound (hE : EnvOK P E) {kt : TypeId} {k : Value} {l : List (Value × Value)} {es : List MapEntry} (h : EsR φ l es) {r : Option (Nat × Value)} (hs : evFind P E kt k l = some r) : ∃ r', (Instr.findKey kt k es).run P w = .ok r' w ∧ FndR φ r r' := by
  unfold evFind at hs
  split at hs
  · rename_i kind hu
    split at hs
    · rename_i r0 hn
      simp only [Option.some.injEq] at hs
      subst hs
      obtain ⟨r', h1, h2⟩ := evFindNow_sound h hn
      exact ⟨r', by simp [Instr.findKey, und_run hE hu, h1], h2⟩
    · rename_i hn
      obtain ⟨r', h1, h2⟩ := evFindAsk_sound (w := w) h hs
      exact ⟨r', by simp [Instr.findKey, und_run hE hu, evFindNow_none h hn, h1], h2⟩
  · cases hs

theorem checkKey_plain (hE : EnvOK P E) {kt : TypeId} {d : TypeDesc} (hu : E.u kt = some d) (hd : (∃ k, d = .int k) ∨ d = .string) (k : Value) (em : Bool) (n : Nat) : (Instr.checkKey em (n + 1) kt k).run P w = .ok () w := by
  unfold Instr.checkKey
  simp only [Sem.run_bind, und_run hE hu, Result.andThen_ok]
  rcases hd with ⟨j, rfl⟩ | rfl <;> cases k <;> rfl

theorem keys_run (hE : EnvOK P E) {kt : TypeId} {k : Value} {em : Bool} (hs : keysOK P E kt k em = true) : plainA k = true ∧ ∀ w : World, (Instr.checkKey em 10000 kt k).run P w = .ok () w := by
  unfold keysOK at hs
  cases hp : plainA k with
  | false => rw [hp] at hs; cases hs
  | true =>
    refine ⟨rfl, fun w => ?_⟩
    rw [hp] at hs
    simp only at hs
    split at hs
    · rename_i j hu; exact checkKey_plain hE hu (.inl ⟨j, rfl⟩) k em 9999
    · rename_i hu; exact checkKey_plain hE hu (.inr rfl) k em 9999
    · split at hs
      · rename_i hr; exact plainRun_sound _ _ hr
      · cases hs

theorem get_map {c : Nat} {es : Array MapEntry} {clk : Nat} (hh : w.heap[c]? = some (.map es clk)) : (getObj c).run P w = .ok (.map es clk) w := by
  simp [getObj, Sem.run, hh]
theorem set_map {c : Nat} {es : Array MapEntry} {clk : Nat} (hh : w.heap[c]? = some (.map es clk)) (o : Obj) : (setObj c o).run P w = .ok () { w with heap := w.heap.setIfInBounds c o } := by
  simp [setObj, Sem.run, hh]

theorem mpGet_some {h : H} {b : Nat} {l : List (Value × Value)} (hs : mpGet h (.map (some b)) = some l) : h.blks.get b = some (.mp l) := by
  unfold mpGet at hs
  simp only at hs
  split at hs
  · rename_i l' hb
    injection hs with hs
    subst hs
    exact hb
  · cases hs

theorem commaOk_vr {ok : Bool} {v v' : Value} (b : Bool) (hv : VR φ v v') : VR φ (commaOk ok v b) (if ok then .tuple #[v', .bool b] else v') := by
  cases ok with
  | false => exact hv
  | true => exact .tuple rfl (VRs.arr (l := [v, .bool b]) (l' := [v', .bool b]) (.cons hv (.cons (.bool b) .nil))).2

theorem evLookup_sound (hE : EnvOK P E) {h : H} (hr : HR E φ h.blks.get w) {t : TypeId} {m k m' k' v : Value} {ok : Bool} (hs : evLookup P E h t m k ok = some v) (hm : VR φ m m') (hk : VR φ k k') :
    ∃ v', (Instr.lookup t m' k' ok).run P w = .ok v' w ∧ VR φ v v' := by
  unfold evLookup at hs
  split at hs
  · rename_i kt et hu
    split at hs
    · rename_i l hl
      split at hs
      · rename_i hkey
        obtain ⟨hp, hck⟩ := keys_run hE hkey
        obtain rfl := hk.plainA hp
        have main : ∀ es : Array MapEntry, EsR φ l es.toList → (m' = .map none ∧ es = #[] ∨ ∃ c clk, m' = .map (some c) ∧ w.heap[c]? = some (.map es clk)) → ∃ v', (Instr.lookup t m' k' ok).run P w = .ok v' w ∧ VR φ v v' := fun es hes hmm => by
          have hem : l.isEmpty = es.isEmpty := by rw [hes.isEmpty]; simp [List.isEmpty_iff, Array.isEmpty]
          rw [hem] at hck
          have hlook : (Instr.lookup t m' k' ok).run P w = ((do
              Instr.checkKey es.isEmpty 10000 kt k'
              let (v, b) ← match ← Instr.findKey kt k' es.toList with
                | some (_, v) => pure (v, true)
                | none => pure (← zeroValue et, false)
              pure (if ok then .tuple #[v, .bool b] else v)) : Sem Value).run P w := by
            unfold Instr.lookup
            simp only [Sem.run_bind, und_run hE hu, Result.andThen_ok]
            rcases hmm with ⟨rfl, rfl⟩ | ⟨c, clk, rfl, hh⟩
            · simp
              exact congrArg _ (funext fun _ => funext fun _ => congrArg _ (funext fun a => funext fun _ => by rcases a with _ | ⟨_, _⟩ <;> rfl))
            · simp [get_map hh]
              exact congrArg _ (funext fun _ => funext fun _ => congrArg _ (funext fun a => funext fun _ => by rcases a with _ | ⟨_, _⟩ <;> rfl))
          rw [hlook]
          simp only [Sem.run_bind, hck, Result.andThen_ok]
          split at hs
          · rename_i i u hf
            obtain ⟨r', h1, h2⟩ := evFind_sound (w := w) hE hes hf
            simp only [Option.some.injEq] at hs
            subst hs
            rcases h2 with ⟨h3, _⟩ | ⟨i2, v2, v3, h3, rfl, h5⟩
            · cases h3
            · injection h3 with h3
              injection h3 with h3 h4
              subst h4
              refine ⟨_, ?_, commaOk_vr true h5⟩
              simp [h1]
          · rename_i hf
            obtain ⟨r', h1, h2⟩ := evFind_sound (w := w) hE hes hf
            rcases h2 with ⟨_, rfl⟩ | ⟨i2, v2, v3, h3, _⟩
            · split at hs
              · rename_i inf hinf
                split at hs
                · rename_i z hz
                  split at hs
                  · rename_i hc
                    simp only [Option.some.injEq] at hs
                    subst hs
                    refine ⟨_, ?_, commaOk_vr false (VR.const hc)⟩
                    simp [h1, zero_run hE hinf hz]
                  · cases hs
                · cases hs
              · cases hs
            · cases h3
          · cases hs
        cases hm with
        | map =>
          simp only [mpGet, Option.some.injEq] at hl
          subst hl
          exact main #[] .nil (.inl ⟨rfl, rfl⟩)
        | mapr hφ =>
          obtain ⟨es, clk, hh, hes⟩ := hr.mp.blk _ _ (mpGet_some hl) _ hφ
          exact main es hes (.inr ⟨_, clk, rfl, hh⟩)
        | _ => simp [mpGet] at hl
      · cases hs
    · cases hs
  · cases hs

theorem mpPut_some {h h' : H} {b : Nat} {l : List (Value × Value)} (hs : mpPut E h b l = some h') : ∃ l0, h.blks.get b = some (.mp l0) ∧ E.G ≤ b ∧ E.frz b = false ∧ h' = { blks := Tr.put h.blks b (.mp l), next := h.next, wm := min h.wm b } := by
  unfold mpPut at hs
  split at hs
  · rename_i l0 hb
    split at hs
    · rename_i hc
      simp only [forceL_eq, Tr.force_eq, forceN_eq, Option.some.injEq] at hs
      exact ⟨l0, hb, hc.1, hc.2, hs.symm⟩
    · cases hs
  · cases hs

theorem mpPut_ae {h h' : H} (ok : Hok h) {b : Nat} {l : List (Value × Value)} (hs : mpPut E h b l = some h') : AE E h h' := by
  obtain ⟨l0, hb, hG, _, rfl⟩ := mpPut_some hs
  have hbn := get_lt ok hb
  have hg : ∀ k, (Tr.put h.blks b (.mp l)).get k = if k = b then some (.mp l) else h.blks.get k := fun k => Tr.get_put _ _ _ _
  refine ⟨fun k hk => ?_, Nat.le_refl _, fun k hk hl => ?_, Nat.min_le_left _ _, fun k hk hw => ?_, fun k hk => ?_⟩
  · simp only at hk ⊢; rw [hg, if_neg (by omega)]; exact ok k hk
  · by_cases hkb : k = b
    · subst hkb; exact live_mp hb
    · simpa [live, hg, hkb] using hl
  · simp only at hw ⊢; rw [hg, if_neg (by omega)]
  · simp only; rw [hg, if_neg (by omega)]

theorem mpPut_sound {h h' : H} (hr : HR E φ h.blks.get w) {b : Nat} {l : List (Value × Value)} (hs : mpPut E h b l = some h') {c sh es' top : Nat} (hφ : φ b = some (c, sh, es', top)) {es es2 : Array MapEntry} {clk clk2 : Nat}
    (hh : w.heap[c]? = some (.map es clk)) (hes : EsR φ l es2.toList) : HR E φ h'.blks.get { w with heap := w.heap.setIfInBounds c (.map es2 clk2) } ∧ Ext E φ h w φ h' { w with heap := w.heap.setIfInBounds c (.map es2 clk2) } := by
  obtain ⟨l0, hb, hG, hfz, rfl⟩ := mpPut_some hs
  have hg : ∀ k, (Tr.put h.blks b (.mp l)).get k = if k = b then some (.mp l) else h.blks.get k := fun k => Tr.get_put _ _ _ _
  have hclt : c < w.heap.size := (Array.getElem?_eq_some_iff.1 hh).1
  have hold : ∀ k, k ≠ c → (w.heap.setIfInBounds c (.map es2 clk2))[k]? = w.heap[k]? := fun k hk => Array.getElem?_setIfInBounds_ne (Ne.symm hk)
  have hnew : (w.heap.setIfInBounds c (.map es2 clk2))[c]? = some (.map es2 clk2) := Array.getElem?_setIfInBounds_self_of_lt hclt
  have old : ∀ {k : Nat} {cc : Tr Value} {ss ee : Nat}, (Tr.put h.blks b (.mp l)).get k = some (.mk cc ss ee) → h.blks.get k = some (.mk cc ss ee) := fun {k cc ss ee} hk => by
    rw [hg] at hk
    split at hk
    · cases hk
    · exact hk
  have oldm : ∀ {k : Nat} {l1 : List (Value × Value)}, (Tr.put h.blks b (.mp l)).get k = some (.mp l1) → ∃ l2, h.blks.get k = some (.mp l2) := fun {k l1} hk => by
    rw [hg] at hk
    split at hk
    · rename_i hkb; subst hkb; exact ⟨_, hb⟩
    · exact ⟨_, hk⟩
  refine ⟨⟨fun k cc ss ee hk x hx => ?_, fun b1 b2 x1 x2 _ _ _ _ _ _ hG1 h1 h2 hx1 hx2 he => hr.inj b1 b2 x1 x2 _ _ _ _ _ _ hG1 (old h1) (old h2) hx1 hx2 he, fun k cc ss ee hlt hlN hk => hr.glob k cc ss ee hlt hlN (old hk),
      fun b1 b2 x1 x2 _ _ _ _ _ _ hf1 hf2 hlt h1 h2 hx1 hx2 he => hr.mono b1 b2 x1 x2 _ _ _ _ _ _ hf1 hf2 hlt (old h1) (old h2) hx1 hx2 he, ⟨fun k l1 hk x hx => ?_, fun b1 b2 l1 l2 x1 x2 h1 h2 hx1 hx2 he => ?_⟩⟩,
    ⟨fun _ _ h => h, fun _ _ h => .inl h, fun _ _ h h' => (by rw [h'] at h; cases h), rfl, rfl, rfl, by simp, fun k hk hno => hold k fun e => ?_, fun _ => Nat.le_refl _⟩⟩
  · have hne : x.1 ≠ c := hr.kind (old hk) hb hx hφ
    obtain ⟨c1, sh1, es1, top1⟩ := x
    obtain ⟨f1, cs, ty, fr, f2, f3⟩ := hr.blk k cc ss ee (old hk) _ hx
    exact ⟨f1, cs, ty, fr, (hold c1 hne).trans f2, f3⟩
  · by_cases hkb : k = b
    · subst hkb
      simp only at hk
      rw [hg, if_pos rfl] at hk
      injection hk with hk
      injection hk with hk
      subst hk
      rw [hφ] at hx
      injection hx with hx
      subst hx
      exact ⟨es2, clk2, hnew, hes⟩
    · simp only at hk
      rw [hg, if_neg hkb] at hk
      obtain ⟨es3, clk3, g1, g2⟩ := hr.mp.blk k l1 hk x hx
      exact ⟨es3, clk3, (hold _ fun e => hkb (hr.mp.inj k b _ _ _ _ hk hb hx hφ e)).trans g1, g2⟩
  · obtain ⟨_, g1⟩ := oldm h1
    obtain ⟨_, g2⟩ := oldm h2
    exact hr.mp.inj b1 b2 _ _ _ _ g1 g2 hx1 hx2 he
  · have := (hno b _ (live_mp hb) hG hφ e.symm).1
    rw [hfz] at this; cases this

theorem mpNew_some {h h' : H} {v : Value} (hs : mpNew h = some (v, h')) : v = .map (some h.next) ∧ h' = { blks := Tr.put h.blks h.next (.mp []), next := h.next + 1, wm := h.wm } := by
  unfold mpNew at hs
  simp only [forceN_eq, Tr.force_eq, Option.some.injEq, Prod.mk.injEq] at hs
  exact ⟨hs.1.symm, hs.2.symm⟩

theorem mpNew_ae {h h' : H} (ok : Hok h) (hG : E.G ≤ h.next) {v : Value} (hs : mpNew h = some (v, h')) : AE E h h' ∧ h'.next = h.next + 1 := by
  obtain ⟨rfl, rfl⟩ := mpNew_some hs
  have hg : ∀ k, (Tr.put h.blks h.next (.mp [])).get k = if k = h.next then some (.mp []) else h.blks.get k := fun k => Tr.get_put _ _ _ _
  refine ⟨⟨fun k hk => ?_, Nat.le_succ _, fun k hk hl => ?_, Nat.le_refl _, fun k hk hw => ?_, fun k hk => ?_⟩, rfl⟩
  · simp only at hk ⊢; rw [hg, if_neg (by omega)]; exact ok k (by omega)
  · have : k ≠ h.next := by omega
    simpa [live, hg, this] using hl
  · simp only; rw [hg, if_neg (by omega)]
  · simp only; rw [hg, if_neg (by omega)]

theorem mpNew_sound {h h' : H} (hr : HR E φ h.blks.get w) (hf : φ h.next = none) (hG : E.G ≤ h.next) {v : Value} (t : TypeId) (hs : mpNew h = some (v, h')) :
    ∃ v' w', (Instr.makeMap t none).run P w = .ok v' w' ∧ Good E φ h w v h' v' w' := by
  obtain ⟨rfl, rfl⟩ := mpNew_some hs
  have hg : ∀ k, (Tr.put h.blks h.next (.mp [])).get k = if k = h.next then some (.mp []) else h.blks.get k := fun k => Tr.get_put _ _ _ _
  have hle : ∀ b x, φ b = some x → (fun k => if k = h.next then some (w.heap.size, 0, 0, 0) else φ k) b = some x := fun b x hx => by
    by_cases hb : b = h.next
    · subst hb; rw [hf] at hx; cases hx
    · simp [hb, hx]
  have hold : ∀ k, k < w.heap.size → (w.heap.push (.map #[] 0))[k]? = w.heap[k]? := fun k hk => by rw [Array.getElem?_push_lt hk]; exact (Array.getElem?_eq_getElem hk).symm
  have old : ∀ {k : Nat} {cc : Tr Value} {ss ee : Nat}, (Tr.put h.blks h.next (.mp [])).get k = some (.mk cc ss ee) → k ≠ h.next ∧ h.blks.get k = some (.mk cc ss ee) := fun {k cc ss ee} hk => by
    rw [hg] at hk
    split at hk
    · cases hk
    · rename_i hkn; exact ⟨hkn, hk⟩
  refine ⟨.map (some w.heap.size), { w with heap := w.heap.push (.map #[] 0) }, by simp [Instr.makeMap, newObj, Sem.run], fun k => if k = h.next then some (w.heap.size, 0, 0, 0) else φ k, .mapr (sh := 0) (es := 0) (top := 0) (by simp), ⟨fun k cc ss ee hk x hx => ?_, fun b1 b2 x1 x2 _ _ _ _ _ _ hG1 h1 h2 hx1 hx2 he => ?_, fun k cc ss ee hlt hlN hk => ?_,
      fun b1 b2 x1 x2 _ _ _ _ _ _ hf1 hf2 hlt h1 h2 hx1 hx2 he => ?_, ⟨fun k l hk x hx => ?_, fun b1 b2 l1 l2 x1 x2 h1 h2 hx1 hx2 he => ?_⟩⟩, ⟨hle, fun b x hx => ?_, fun b x hx h0 => ?_, rfl, rfl, rfl, by simp, fun k hk _ => hold k hk, fun _ => Nat.le_refl _⟩⟩
  · obtain ⟨hkn, hk'⟩ := old hk
    simp only [hkn, if_false] at hx
    have hlt := hr.lt hk' hx
    obtain ⟨c1, sh1, es1, top1⟩ := x
    obtain ⟨f1, cs, ty, fr, f2, f3, f4, f5, f6⟩ := hr.blk k cc ss ee hk' _ hx
    refine ⟨f1, cs, ty, fr, (hold c1 hlt).trans f2, f3, f4, f5, fun i hi => ?_⟩
    obtain ⟨u, u', g1, g2, g3⟩ := f6 i hi
    exact ⟨u, u', g1, g2, g3.mono hle⟩
  · obtain ⟨k1, h1'⟩ := old h1
    obtain ⟨k2, h2'⟩ := old h2
    simp only [k1, if_false] at hx1
    simp only [k2, if_false] at hx2
    exact hr.inj b1 b2 x1 x2 _ _ _ _ _ _ hG1 h1' h2' hx1 hx2 he
  · obtain ⟨es2, top2, h3⟩ := hr.glob k cc ss ee hlt hlN (old hk).2
    exact ⟨es2, top2, hle _ _ h3⟩
  · obtain ⟨k1, h1'⟩ := old h1
    obtain ⟨k2, h2'⟩ := old h2
    simp only [k1, if_false] at hx1
    simp only [k2, if_false] at hx2
    exact hr.mono b1 b2 x1 x2 _ _ _ _ _ _ hf1 hf2 hlt h1' h2' hx1 hx2 he
  · simp only at hk
    rw [hg] at hk
    by_cases hkn : k = h.next
    · rw [if_pos hkn] at hk
      injection hk with hk
      injection hk with hk
      subst hk
      simp only [hkn, if_true, Option.some.injEq] at hx
      subst hx
      exact ⟨#[], 0, by simp, .nil⟩
    · rw [if_neg hkn] at hk
      simp only [hkn, if_false] at hx
      obtain ⟨es3, clk3, g1, g2⟩ := hr.mp.blk k l hk x hx
      exact ⟨es3, clk3, (hold _ (hr.mp.lt hk hx)).trans g1, g2.mono hle⟩
  · simp only at h1 h2
    rw [hg] at h1 h2
    by_cases k1 : b1 = h.next
    · by_cases k2 : b2 = h.next
      · omega
      · rw [if_neg k2] at h2
        simp only [k1, if_true, Option.some.injEq] at hx1
        simp only [k2, if_false] at hx2
        subst hx1
        have := hr.mp.lt h2 hx2
        simp only at he
        omega
    · rw [if_neg k1] at h1
      simp only [k1, if_false] at hx1
      by_cases k2 : b2 = h.next
      · simp only [k2, if_true, Option.some.injEq] at hx2
        subst hx2
        have := hr.mp.lt h1 hx1
        simp only at he
        omega
      · rw [if_neg k2] at h2
        simp only [k2, if_false] at hx2
        exact hr.mp.inj b1 b2 _ _ _ _ h1 h2 hx1 hx2 he
  · by_cases hb : b = h.next
    · exact .inr ⟨by rw [hb]; exact hf, by omega, by simp only; omega⟩
    · simp only [hb, if_false] at hx
      exact .inl hx
  · by_cases hb : b = h.next
    · simp only [hb, if_true, Option.some.injEq] at hx
      subst hx
      exact .inl (Nat.le_refl _)
    · simp only [hb, if_false] at hx
      rw [h0] at hx; cases hx

theorem evMapSet_ae {h h' : H} (ok : Hok h) {t : TypeId} {m k v : Value} (hs : evMapSet P E h t m k v = some h') : AE E h h' := by
  unfold evMapSet at hs
  repeat' split at hs
  all_goals first
    | (cases hs; done)
    | exact mpPut_ae ok hs

theorem evMapSet_sound (hE : EnvOK P E) {h h' : H} (hr : HR E φ h.blks.get w) {t : TypeId} {m k v m' k' v' : Value} (hs : evMapSet P E h t m k v = some h') (hm : VR φ m m') (hk : VR φ k k') (hv : VR φ v v') :
    ∃ w', (Instr.mapUpdate t m' k' v').run P w = .ok () w' ∧ HR E φ h'.blks.get w' ∧ Ext E φ h w φ h' w' := by
  unfold evMapSet at hs
  split at hs
  · rename_i kt et b hu
    split at hs
    · rename_i l hl
      split at hs
      · rename_i hkey
        obtain ⟨hp, hck⟩ := keys_run hE hkey
        obtain rfl := hk.plainA hp
        have hck := hck w
        cases hm with
        | mapr hφ =>
          obtain ⟨es, clk, hh, hes⟩ := hr.mp.blk _ _ (mpGet_some hl) _ hφ
          split at hs
          · rename_i i u hf
            obtain ⟨r', h1, h2⟩ := evFind_sound (w := w) hE hes hf
            rcases h2 with ⟨h3, _⟩ | ⟨i2, v2, v3, h3, rfl, h5⟩
            · cases h3
            · injection h3 with h3
              injection h3 with h3 h4
              subst h3; subst h4
              split at hs
              · rename_i hsame
                unfold sameAt at hsame
                split at hsame
                · rename_i x hx
                  obtain ⟨e, he1, he2, _⟩ := hes.get i x hx
                  have he1' : es[i]? = some e := by simpa using he1
                  rw [← he2] at hsame
                  obtain ⟨g1, g2⟩ := mpPut_sound (clk2 := clk) (es2 := es.modify i fun e => { e with key := k', val := v' }) hr hs hφ hh (by
                    rw [Array.toList_modify]
                    exact hes.modify hp (fun _ => rfl) (fun _ => hv) i)
                  refine ⟨_, ?_, g1, g2⟩
                  simp [Instr.mapUpdate, und_run hE hu, get_map hh, hck, h1, he1', Instr.keyThatStays, hsame, set_map hh]
                · cases hsame
              · cases hs
          · rename_i hf
            obtain ⟨r', h1, h2⟩ := evFind_sound (w := w) hE hes hf
            rcases h2 with ⟨_, rfl⟩ | ⟨i2, v2, v3, h3, _⟩
            · obtain ⟨g1, g2⟩ := mpPut_sound (clk2 := clk + 1) (es2 := es.push { key := k', val := v', born := clk }) hr hs hφ hh (by
                rw [Array.toList_push]
                exact hes.push hp rfl hv)
              refine ⟨_, ?_, g1, g2⟩
              simp [Instr.mapUpdate, und_run hE hu, get_map hh, hck, h1, set_map hh]
            · cases h3
          · cases hs
      · cases hs
    · cases hs
  · cases hs

theorem evDelete_ae {h h' : H} (ok : Hok h) {t : TypeId} {m k : Value} (hs : evDelete P E h t m k = some h') : AE E h h' := by
  unfold evDelete at hs
  repeat' split at hs
  all_goals first
    | (cases hs; done)
    | exact mpPut_ae ok hs

theorem erase_toList {es : Array MapEntry} {i : Nat} : (es.eraseIdxIfInBounds i).toList = es.toList.eraseIdx i := by
  unfold Array.eraseIdxIfInBounds
  split
  · simp
  · rename_i h
    rw [List.eraseIdx_of_length_le (by simpa using h)]

theorem evDelete_sound (hE : EnvOK P E) {h h' : H} (hr : HR E φ h.blks.get w) {t : TypeId} {m k m' k' : Value} {ts : Array TypeId} (ht : ts[0]? = some t) (ty : TypeId) (hs : evDelete P E h t m k = some h') (hm : VR φ m m') (hk : VR φ k k') :
    ∃ w', (Builtin.delete_ ts ty #[m', k']).run P w = .ok undef w' ∧ HR E φ h'.blks.get w' ∧ Ext E φ h w φ h' w' := by
  unfold evDelete at hs
  split at hs
  · rename_i kt et b hu
    split at hs
    · rename_i l hl
      split at hs
      · rename_i hkey
        obtain ⟨hp, hck⟩ := keys_run hE hkey
        obtain rfl := hk.plainA hp
        have hck := hck w
        cases hm with
        | mapr hφ =>
          obtain ⟨es, clk, hh, hes⟩ := hr.mp.blk _ _ (mpGet_some hl) _ hφ
          have hem : l.isEmpty = es.isEmpty := by rw [hes.isEmpty]; simp [List.isEmpty_iff, Array.isEmpty]
          rw [hem] at hck
          split at hs
          · rename_i i u hf
            obtain ⟨r', h1, h2⟩ := evFind_sound (w := w) hE hes hf
            rcases h2 with ⟨h3, _⟩ | ⟨i2, v2, v3, h3, rfl, h5⟩
            · cases h3
            · injection h3 with h3
              injection h3 with h3 h4
              subst h3; subst h4
              obtain ⟨g1, g2⟩ := mpPut_sound (clk2 := clk) (es2 := es.eraseIdxIfInBounds i) hr hs hφ hh (by
                rw [erase_toList]
                exact hes.erase i)
              refine ⟨_, ?_, g1, g2⟩
              simp [Builtin.delete_, ht, und_run hE hu, get_map hh, hck, h1, set_map hh, undef]
          · rename_i hf
            obtain ⟨r', h1, h2⟩ := evFind_sound (w := w) hE hes hf
            rcases h2 with ⟨_, rfl⟩ | ⟨i2, v2, v3, h3, _⟩
            · obtain ⟨g1, g2⟩ := mpPut_sound (clk2 := clk) (es2 := es) hr hs hφ hh hes
              refine ⟨_, ?_, g1, g2⟩
              simp [Builtin.delete_, ht, und_run hE hu, get_map hh, hck, h1, set_map hh, undef]
            · cases h3
          · cases hs
      · cases hs
    · cases hs
  · cases hs

theorem evLenM_sound (hE : EnvOK P E) {h : H} (hr : HR E φ h.blks.get w) {t : TypeId} {x x' v : Value} (hs : evLenM E h t x = some v) (hx : VR φ x x') (ty : TypeId) : (Builtin.len_ #[t] ty #[x']).run P w = .ok v w ∧ VR φ v v := by
  unfold evLenM at hs
  split at hs
  · rename_i kt et r hu
    split at hs
    · rename_i l hl
      simp only [forceN_eq, Option.some.injEq] at hs
      subst hs
      refine ⟨?_, .int _ _⟩
      cases hx with
      | map =>
        simp only [mpGet, Option.some.injEq] at hl
        subst hl
        simp [Builtin.len_, und_run hE hu, goInt]
      | mapr hφ =>
        obtain ⟨es, clk, hh, hes⟩ := hr.mp.blk _ _ (mpGet_some hl) _ hφ
        have : l.length = es.size := by simpa using hes.length
        simp [Builtin.len_, und_run hE hu, get_map hh, goInt, this]
    · cases hs
  · cases hs
end Go.Proofs.YtngpoamjhngcgaaGreatDoor.Ev

/- Functions without a body: what the evaluator does is what the model's rows do. -/
namespace Go.Proofs.YtngpoamjhngcgaaGreatDoor.Ev
open Go
variable {P : Program} {E : Env} {φ : Phi} {w : World}

theorem next_none : (Extern.allNextRows.lookup "internal/bytealg.IndexByteString").isNone = true := by kernel_rfl
theorem next_none' : (Extern.allNextRows.lookup "").isNone = true := by kernel_rfl
theorem gen_none : (Extern.allGenericRows.lookup "internal/bytealg.IndexByteString").isNone = true := by kernel_rfl
theorem typ_none : (Extern.allTypedRows.lookup "internal/bytealg.IndexByteString").isNone = true := by kernel_rfl
theorem row_some : Extern.allRows.lookup "internal/bytealg.IndexByteString" = some Extern.BytealgIndexByte.indexByte := by kernel_rfl
theorem none_of {α : Type} {x : Option α} (h : x.isNone = true) : x = none := by cases x with
  | none => rfl
  | some _ => cases h
theorem find_index {fn : Func} (h1 : fn.name = "internal/bytealg.IndexByteString") (h2 : fn.origin = "") : Extern.findNext fn = none ∧ Extern.find fn = some Extern.BytealgIndexByte.indexByte := by
  constructor
  · simp only [Extern.findNext, h1, h2, none_of next_none, none_of next_none']
    rfl
  · simp only [Extern.find, h1, none_of gen_none, none_of typ_none, row_some]
    rfl

theorem evExt_some {fn : Func} {args : List Value} {h h' : H} {v : Value} (hs : evExt fn args h = some (v, h')) : h' = h ∧ fn.name = "internal/bytealg.IndexByteString" ∧ fn.origin = "" ∧ ∃ (s : ByteArray) (c : Int), args = [.string s, .int .u8 c] ∧
    (Extern.BytealgIndexByte.indexByte #[.string s, .int .u8 c]) = pure v ∧ ∃ z, v = .int .i64 z := by
  unfold evExt at hs
  split at hs
  · rename_i hn
    split at hs
    · rename_i s c
      split at hs
      · rename_i i hf
        simp only [forceN_eq, Option.some.injEq, Prod.mk.injEq] at hs
        obtain ⟨rfl, rfl⟩ := hs
        refine ⟨rfl, hn.1, hn.2, s, c, rfl, ?_, _, rfl⟩
        show (match (List.range s.size).find? fun i => s[i]! == c.toNat.toUInt8 with
          | some i => pure (goInt i)
          | none => pure (goInt (-1))) = _
        rw [hf]; rfl
      · rename_i hf
        simp only [Option.some.injEq, Prod.mk.injEq] at hs
        obtain ⟨rfl, rfl⟩ := hs
        refine ⟨rfl, hn.1, hn.2, s, c, rfl, ?_, _, rfl⟩
        show (match (List.range s.size).find? fun i => s[i]! == c.toNat.toUInt8 with
          | some i => pure (goInt i)
          | none => pure (goInt (-1))) = _
        rw [hf]; rfl
    · cases hs
  · cases hs

theorem evExt_sound {f : FuncId} {fn : Func} (hf : P.funcs[f]? = some fn) (hb : fn.body = none) {args args' : List Value} {h h' : H} (hr : HR E φ h.blks.get w) {v : Value} (hs : evExt fn args h = some (v, h')) (ha : VRs φ args args') :
    ∃ v' w', (callFunc f args'.toArray).run P w = .ok (.value v') w' ∧ Good E φ h w v h' v' w' := by
  obtain ⟨rfl, h1, h2, s, c, rfl, hrun, z, rfl⟩ := evExt_some hs
  obtain ⟨g1, g2⟩ := find_index h1 h2
  cases ha with
  | cons a1 a2 =>
    cases a2 with
    | cons a2 a3 =>
      cases a3
      obtain rfl := a1.plain rfl
      obtain rfl := a2.plain rfl
      have hn : ¬ fn.name = "runtime.NumGoroutine" := by rw [h1]; decide
      refine ⟨_, w, ?_, φ, VR.int _ _, hr, Ext.refl _ _ _ _⟩
      simp [callFunc, program, Sem.run, hf, hn, hb, g1, g2, hrun, mark]

theorem evStrBytes_ae {h h' : H} (ok : Hok h) (hG : E.G ≤ h.next) {d : TypeId} {v u : Value} (hs : evStrBytes E h d v = some (u, h')) : AE E h h' ∧ h'.next = h.next + 1 := by
  unfold evStrBytes at hs
  repeat' split at hs
  all_goals first
    | (cases hs; done)
    | (rename_i hn
       rw [forceN_eq] at hs
       simp only [Option.some.injEq, Prod.mk.injEq] at hs
       obtain ⟨_, rfl⟩ := hs
       exact ⟨aNew_ae ok hG hn, by rw [(aNew_some hn).2]⟩)
theorem le_grown (w : World) (n : Nat) (e : TypeId) : n ≤ grownCap w n 0 e := by
  show n ≤ n + _ % _
  omega
theorem evStrBytes_sound (hE : EnvOK P E) {h h' : H} (hG : E.G ≤ h.next) (hr : HR E φ h.blks.get w) (hf : φ h.next = none) {t d : TypeId} (ht : E.u t = some .string) {v u : Value} (hs : evStrBytes E h d v = some (u, h')) :
    ∃ v' w', (convert t d v).run P w = .ok v' w' ∧ Good E φ h w u h' v' w' := by
  unfold evStrBytes at hs
  split at hs
  · rename_i s
    split at hs
    · rename_i e hd
      split at hs
      · rename_i he
        split at hs
        · rename_i b h1 hn
          rw [forceN_eq] at hs
          simp only [Option.some.injEq, Prod.mk.injEq] at hs
          obtain ⟨rfl, rfl⟩ := hs
          have hrun := run_bytes_of_string (P := P) w t d e s (hE.u _ _ ht) (hE.u _ _ hd) (hE.u _ _ he)
          have hcap := le_grown w s.size e
          generalize grownCap w s.size 0 e = cap at hrun hcap
          have hds : s.data.size = s.size := rfl
          have hsz : (bytesRow s cap).size = cap := by
            unfold bytesRow
            rw [Array.size_append, Array.size_map, Array.size_replicate]
            omega
          have hsl : s.data.toList.length = s.size := by rw [Array.length_toList]; rfl
          obtain ⟨φ', g1, g2, g3⟩ := HR.newF (fr := ((bytesRow s cap).size, (bytesRow s cap).size + 1)) hG hr.drew hf (cells' := bytesRow s cap) (.inr (Nat.le_refl _)) e hn (by simp only [List.length_map]; omega) fun i v hi => by
            simp only [List.getElem?_map, Option.map_eq_some_iff] at hi
            obtain ⟨c, hc, rfl⟩ := hi
            refine ⟨_, ?_, VR.int _ _⟩
            have hlt : i < s.data.toList.length := (List.getElem?_eq_some_iff.1 hc).1
            unfold bytesRow
            rw [Array.getElem?_append_left (by simpa using hlt)]
            simp only [Array.getElem?_map]
            have : s.data[i]? = some c := by simpa using hc
            rw [this]; rfl
          obtain ⟨rfl, _⟩ := aNew_some hn
          exact ⟨_, _, hrun, φ', .slc (off := 0) g1 hcap hcap (by rw [hsz]; omega) (.inl rfl), g2, g3.of_drew⟩
        · cases hs
      · cases hs
    · cases hs
  · cases hs
end Go.Proofs.YtngpoamjhngcgaaGreatDoor.Ev

