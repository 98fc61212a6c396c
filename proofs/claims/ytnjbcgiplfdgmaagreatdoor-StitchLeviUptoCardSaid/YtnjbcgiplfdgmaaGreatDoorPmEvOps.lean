/- Operations one by one: what the evaluator gives is what the model's run gives. -/
import Derived.Test.YtnjbcgiplfdgmaaGreatDoorPmEvMem
import Derived.Test.YtnjbcgiplfdgmaaGreatDoorPmEvIter
import Derived.Below
namespace Go.Proofs.YtnjbcgiplfdgmaaGreatDoor.Ev
open Go

/-- the tables in the model's memory -/
def TabsW (tabs : List (Nat × List Value)) (w : World) : Prop := ∀ x ∈ tabs, ∃ cs ty fr, w.heap[x.1]? = some (.cells cs ty fr) ∧ ∀ (i : Nat) (v : Value), x.2[i]? = some v → cs[i]? = some v

structure EnvOK (P : Program) (E : Env) : Prop where
  u : ∀ t d, E.u t = some d → P.underlying t = some d
  i : ∀ t d, E.i t = some d → P.info? t = some d
  f : ∀ f fn, E.fns.get f = some fn → P.funcs[f]? = some fn
  mixed : P.follows .mixedOrders = true
  known : ∀ f v, E.known.get f = some v → plain v = true ∧ (∃ fn, P.funcs[f]? = some fn ∧ fn.body.isSome = true ∧ fn.name ≠ "runtime.NumGoroutine") ∧ ∀ w, TabsW E.tabs w → Calls P f #[] w fun e w' => e = .returned v ∧ RowKit.Below w.heap.size w w'
  tabs : ∀ x ∈ E.tabs, x.1 < E.N ∧ x.1 < E.G ∧ x.2.all plain = true
  iters : ∀ g, E.iters.get g = some 0 → IterOK P g

variable {P : Program} {E : Env} {φ : Phi} {w : World}

theorem und_run (hE : EnvOK P E) {t : TypeId} {d : TypeDesc} (h : E.u t = some d) : (underlying t).run P w = .ok d w := by
  simp [underlying, hE.u t d h]
theorem ti_run (hE : EnvOK P E) {t : TypeId} {d : TypeInfo} (h : E.i t = some d) : (typeInfo t).run P w = .ok d w := by
  simp [typeInfo, hE.i t d h]
theorem sz_run (hE : EnvOK P E) {t : TypeId} {d : TypeInfo} (h : E.i t = some d) : (sizeOf t).run P w = .ok d.size w := by
  simp [sizeOf, ti_run hE h]
theorem zero_run (hE : EnvOK P E) {t : TypeId} {d : TypeInfo} {z : Value} (h : E.i t = some d) (hz : d.zero = some z) : (zeroValue t).run P w = .ok z w := by
  simp [zeroValue, ti_run hE h, hz]
theorem agg_run (hE : EnvOK P E) {t : TypeId} {b : Bool} (h : E.agg t = some b) : (isAgg t).run P w = .ok b w := by
  unfold Env.agg at h
  split at h
  · rename_i f hu; simp at h; subst h; simp [isAgg, und_run hE hu]
  · rename_i n e hu; simp at h; subst h; simp [isAgg, und_run hE hu]
  · rename_i d h1 h2 hu
    simp only [Option.some.injEq] at h; subst h
    simp only [isAgg, Sem.run_bind, und_run hE hu, Result.andThen_ok]
    rfl
  · cases h

theorem idx_some {v : Value} {len i : Nat} (h : idx v len = some i) : ∃ k, v = .int k (i : Int) ∧ i < len := by
  unfold idx at h
  split at h
  · rename_i k j
    split at h
    · rename_i hlt; simp only [Option.some.injEq] at h; subst h; exact ⟨k, rfl, hlt⟩
    · cases h
  · cases h

theorem evIndexAddr_sound (hE : EnvOK P E) {t : TypeId} {x ix v x' ix' : Value} (h : evIndexAddr E t x ix = some v) (hx : VR φ x x') (hi : VR φ ix ix') :
    ∃ v', (Instr.indexAt t x' ix').run P w = .ok v' w ∧ VR φ v v' := by
  unfold evIndexAddr at h
  split at h
  · rename_i elem b off n m hu
    split at h
    · rename_i i inf hidx hinf
      obtain ⟨k, rfl, hlt⟩ := idx_some hidx
      cases hi
      simp only [forceN_eq, Option.some.injEq] at h
      subst h
      cases hx with
      | slc hφ hn hcm ht hA =>
        rename_i c sh es top m' A
        have hA' : A = ⟨c, sh + off, none⟩ := hA.resolve_right (by omega)
        subst hA'
        have h1 : (0 : Int) ≤ (i : Int) ∧ (i : Int) < (n : Int) := ⟨by omega, by omega⟩
        refine ⟨.pointer (some ⟨c, sh + off + i * inf.size, none⟩), ?_, ?_⟩
        · simp [Instr.indexAt, asIntOf, und_run hE hu, h1.1, sz_run hE hinf, add_mk, hlt]
        · rw [Nat.add_assoc]; exact .ptr hφ
    · cases h
  · rename_i len elem b off hu
    split at h
    · rename_i i inf hidx hinf
      obtain ⟨k, rfl, hlt⟩ := idx_some hidx
      cases hi
      simp only [forceN_eq, Option.some.injEq] at h
      subst h
      cases hx with
      | ptr hφ =>
        rename_i c sh es top
        refine ⟨.pointer (some ⟨c, sh + off + i * inf.size, none⟩), ?_, ?_⟩
        · simp [Instr.indexAt, Instr.sureAddr, asIntOf, und_run hE hu, sz_run hE hinf, add_mk, hlt]
        · rw [Nat.add_assoc]; exact .ptr hφ
    · cases h
  · cases h

theorem evFieldAddr_sound (hE : EnvOK P E) {t : TypeId} {x v x' : Value} {f : Nat} (h : evFieldAddr E t x f = some v) (hx : VR φ x x') :
    ∃ v', (Instr.fieldAt t x' f).run P w = .ok v' w ∧ VR φ v v' := by
  unfold evFieldAddr at h
  split at h
  · rename_i fields b off hu
    split at h
    · rename_i fd hf
      split at h
      · rename_i inf hinf
        split at h
        · cases h
        · rename_i hsz
          simp only [forceN_eq, Option.some.injEq] at h
          subst h
          cases hx with
          | ptr hφ =>
            rename_i c sh es top
            refine ⟨.pointer (some ⟨c, sh + off + fd.offset, none⟩), ?_, ?_⟩
            · simp [Instr.fieldAt, Instr.sureAddr, und_run hE hu, hf, fieldPlace, sz_run hE hinf, hsz, add_mk]
            · rw [Nat.add_assoc]; exact .ptr hφ
      · cases h
    · cases h
  · cases h

theorem evPart_sound (hE : EnvOK P E) {t : TypeId} {cs cs' : Array Value} {off : Nat} {v : Value} (h : evPart E t cs off = some v) (h2 : cs.size = cs'.size) (h4 : ∀ (i : Nat) (h : i < cs.size) (h' : i < cs'.size), VR φ cs[i] cs'[i]) :
    ∃ v', (part t cs' off).run P w = .ok v' w ∧ VR φ v v' := by
  unfold evPart at h
  split at h
  · rename_i ha
    split at h
    · rename_i inf hinf
      simp only [Option.some.injEq] at h
      subst h
      refine ⟨.agg (cs'.extract off (off + inf.size)), by simp [part, agg_run hE ha, sz_run hE hinf], .agg (by simp [h2]) fun i h5 h6 => ?_⟩
      simp only [Array.getElem_extract]
      exact h4 _ _ _
    · cases h
  · rename_i ha
    rw [Array.getElem?_eq_some_iff] at h
    obtain ⟨hlt, rfl⟩ := h
    have hlt' : off < cs'.size := by omega
    exact ⟨cs'[off], by simp [part, agg_run hE ha, Array.getElem?_eq_getElem hlt'], h4 _ _ _⟩
  · cases h

theorem evField_sound (hE : EnvOK P E) {t : TypeId} {x v x' : Value} {f : Nat} (h : evField E t x f = some v) (hx : VR φ x x') :
    ∃ v', (Instr.field t x' f).run P w = .ok v' w ∧ VR φ v v' := by
  unfold evField at h
  split at h
  · rename_i fields cs hu
    split at h
    · rename_i fd hf
      cases hx with
      | agg h2 h4 =>
        obtain ⟨v', hr, hv⟩ := evPart_sound (w := w) hE h h2 h4
        exact ⟨v', by simp [Instr.field, und_run hE hu, hf, asAgg, hr], hv⟩
    · cases h
  · cases h

theorem evIndex_sound (hE : EnvOK P E) {t : TypeId} {x ix v x' ix' : Value} (h : evIndex E t x ix = some v) (hx : VR φ x x') (hi : VR φ ix ix') :
    ∃ v', (Instr.index t x' ix').run P w = .ok v' w ∧ VR φ v v' := by
  unfold evIndex at h
  split at h
  · rename_i len elem cs hu
    split at h
    · rename_i i inf hidx hinf
      obtain ⟨k, rfl, hlt⟩ := idx_some hidx
      cases hi
      cases hx with
      | agg h2 h4 =>
        obtain ⟨v', hr, hv⟩ := evPart_sound (w := w) hE h h2 h4
        exact ⟨v', by simp [Instr.index, und_run hE hu, asIntOf, hlt, sz_run hE hinf, hr], hv⟩
    · cases h
  · rename_i s hu
    split at h
    · rename_i i hidx
      obtain ⟨k, rfl, hlt⟩ := idx_some hidx
      split at h
      · rename_i b hb
        simp only [forceN_eq, Option.some.injEq] at h
        subst h
        cases hi
        cases hx
        exact ⟨.int .u8 b.toNat, by simp [Instr.index, und_run hE hu, asIntOf, hb], .int _ _⟩
      · cases h
    · cases h
  · cases h

theorem evLen_sound (hE : EnvOK P E) {t : TypeId} {x v x' : Value} (h : evLen E t x = some v) (hx : VR φ x x') (ty : TypeId) :
    (Builtin.len_ #[t] ty #[x']).run P w = .ok v w ∧ VR φ v v := by
  unfold evLen at h
  split at h
  · rename_i s hu
    simp only [forceN_eq, Option.some.injEq] at h; subst h
    cases hx
    exact ⟨by simp [Builtin.len_, und_run hE hu, goInt], .int _ _⟩
  · rename_i e a n c hu
    simp only [Option.some.injEq] at h; subst h
    cases hx with
    | nils => exact ⟨by simp [Builtin.len_, und_run hE hu, goInt], .int _ _⟩
    | emp => exact ⟨by simp [Builtin.len_, und_run hE hu, goInt], .int _ _⟩
    | slc _ _ _ _ => exact ⟨by simp [Builtin.len_, und_run hE hu, goInt], .int _ _⟩
  · rename_i n e hu
    simp only [Option.some.injEq] at h; subst h
    exact ⟨by simp [Builtin.len_, und_run hE hu, goInt], .int _ _⟩
  · cases h

theorem evNil_in (hE : EnvOK P E) {t : TypeId} {x y x' y' : Value} {b : Bool} (h : evNil E t x y = some b) (hx : VR φ x x') (hy : VR φ y y') (d : Nat) : (Op.equalIn (d + 1) t x' y').run P w = .ok b w := by
  unfold evNil at h
  split at h
  · rename_i e hu
    simp only [Option.some.injEq] at h; subst h
    cases hx
    cases hy <;> simp [Op.equalIn, und_run hE hu]
  · rename_i e hu
    simp only [Option.some.injEq] at h; subst h
    cases hx <;> cases hy <;> simp [Op.equalIn, und_run hE hu]
  · rename_i e hu
    simp only [Option.some.injEq] at h; subst h
    cases hx
    cases hy <;> simp [Op.equalIn, und_run hE hu]
  · rename_i e hu
    simp only [Option.some.injEq] at h; subst h
    cases hx <;> cases hy <;> simp [Op.equalIn, und_run hE hu]
  · cases h
theorem evNil_sound (hE : EnvOK P E) {t : TypeId} {x y x' y' : Value} {b : Bool} (h : evNil E t x y = some b) (hx : VR φ x x') (hy : VR φ y y') : (Op.equal t x' y').run P w = .ok b w :=
  evNil_in hE h hx hy 9999

theorem bound_some {v v' : Option Value} {d top i : Nat} (h : bound v d top = some i) (hv : ∀ x, v = some x → ∃ x', v' = some x' ∧ VR φ x x') (hn : v = none → v' = none) :
    (v = none ∧ v' = none ∧ i = d) ∨ (∃ k, v' = some (.int k (i : Int)) ∧ i ≤ top) := by
  unfold bound at h
  split at h
  · simp only [Option.some.injEq] at h
    exact .inl ⟨rfl, hn rfl, h.symm⟩
  · rename_i k j
    split at h
    · rename_i hle
      simp only [Option.some.injEq] at h; subst h
      obtain ⟨x', rfl, hr⟩ := hv _ rfl
      cases hr
      exact .inr ⟨k, rfl, hle⟩
    · cases h
  · cases h

theorem plainRun_sound {α : Type} {P : Program} {w : World} : ∀ (s : Sem α) (a : α), pureRun P s = some a → s.run P w = .ok a w := by
  intro s
  induction s with
  | pure b => intro a h; simp only [pureRun, Option.some.injEq] at h; subst h; rfl
  | program k ih => intro a h; simp only [pureRun] at h; simp only [Sem.run]; exact ih _ _ h
  | _ => intro a h; simp [pureRun] at h
end Go.Proofs.YtnjbcgiplfdgmaaGreatDoor.Ev
