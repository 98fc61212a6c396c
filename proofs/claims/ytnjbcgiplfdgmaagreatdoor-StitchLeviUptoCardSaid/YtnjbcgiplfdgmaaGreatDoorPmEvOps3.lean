/- Building values, making slices, append, copy, clear. -/
import Derived.Test.YtnjbcgiplfdgmaaGreatDoorPmEvOps2
import Derived.Laws.MakeOwn
import Derived.Laws.Append
namespace Go.Proofs.YtnjbcgiplfdgmaaGreatDoor.Ev
open Go
variable {P : Program} {E : Env} {φ : Phi} {w : World}

inductive PV (φ : Phi) : List (Nat × Value) → List (Nat × Value) → Prop
  | nil : PV φ [] []
  | cons {i : Nat} {v v' : Value} {l l' : List (Nat × Value)} (h : VR φ v v') (t : PV φ l l') : PV φ ((i, v) :: l) ((i, v') :: l')

theorem VRs.set {l l' : List Value} (h : VRs φ l l') : ∀ (i : Nat) {v v' : Value}, VR φ v v' → VRs φ (l.set i v) (l'.set i v') := by
  induction h with
  | nil => intro i v v' _; exact .nil
  | cons h t ih =>
    intro i v v' hv
    cases i with
    | zero => exact .cons hv t
    | succ i => exact .cons h (ih i hv)

theorem fold_sound (off : Nat) : ∀ {l l' : List Value}, VRs φ l l' → ∀ (k : Nat) {c c' : Array Value}, VRs φ c.toList c'.toList →
    VRs φ ((l.zipIdx k).foldl (fun (cs : Array Value) (x : Value × Nat) => cs.setIfInBounds (off + x.2) x.1) c).toList ((l'.zipIdx k).foldl (fun (cs : Array Value) (x : Value × Nat) => cs.setIfInBounds (off + x.2) x.1) c').toList := by
  intro l l' h
  induction h with
  | nil => intro k c c' hc; exact hc
  | cons h t ih =>
    intro k c c' hc
    simp only [List.zipIdx_cons, List.foldl_cons]
    exact ih (k + 1) (by simpa using hc.set (off + k) h)

theorem fill_sound (pl : Nat → Option (Nat × Nat)) : ∀ {ps ps' : List (Nat × Value)}, PV φ ps ps' → ∀ {c c' cs : Array Value}, VRs φ c.toList c'.toList → Instr.fill pl c ps = some cs → ∃ cs', Instr.fill pl c' ps' = some cs' ∧ VRs φ cs.toList cs'.toList := by
  intro ps ps' h
  induction h with
  | nil => intro c c' cs hc hf; simp only [Instr.fill, Option.some.injEq] at hf; subst hf; exact ⟨c', rfl, hc⟩
  | cons hv t ih =>
    rename_i i v v' l l'
    intro c c' cs hc hf
    simp only [Instr.fill] at hf ⊢
    have hs : v'.cells.size = v.cells.size := by simpa using hv.cells.length.symm
    have hs2 : c'.size = c.size := by simpa using hc.length.symm
    cases hp : pl i with
    | none => rw [hp] at hf; cases hf
    | some x =>
      obtain ⟨off, size⟩ := x
      rw [hp] at hf
      simp only [hs, hs2] at hf ⊢
      split at hf
      · cases hf
      · rename_i hcond
        rw [if_neg hcond]
        refine ih ?_ hf
        have := fold_sound (φ := φ) off hv.cells 0 hc
        rw [← Array.toList_zipIdx, ← Array.toList_zipIdx, ← Array.foldl_toList, ← Array.foldl_toList] at *
        exact this

theorem fill_size (pl : Nat → Option (Nat × Nat)) : ∀ {ps : List (Nat × Value)} {c cs : Array Value}, Instr.fill pl c ps = some cs → cs.size = c.size
  | [], c, cs, h => by simp only [Instr.fill, Option.some.injEq] at h; rw [h]
  | (i, v) :: ps, c, cs, h => by
    simp only [Instr.fill] at h
    split at h
    · cases h
    · rename_i off size _
      split at h
      · cases h
      · rw [fill_size pl h]
        have key : ∀ (l : List (Value × Nat)) (c : Array Value), (l.foldl (fun (cs : Array Value) (x : Value × Nat) => cs.setIfInBounds (off + x.2) x.1) c).size = c.size := by
          intro l
          induction l with
          | nil => intro c; rfl
          | cons x l ih => intro c; rw [List.foldl_cons, ih]; simp
        rw [← Array.foldl_toList]
        exact key _ _

theorem places_sound (hE : EnvOK P E) : ∀ {fs : List Field} {pl : List (Nat × Nat)}, places E fs = some pl → fs.mapM (fun f => (P.info? f.type).map fun i => (f.offset, i.size)) = some pl
  | [], pl, h => by simp only [places, Option.some.injEq] at h; subst h; rfl
  | f :: r, pl, h => by
    simp only [places] at h
    split at h
    · rename_i inf hinf
      split at h
      · rename_i l hl
        simp only [Option.some.injEq] at h; subst h
        simp [List.mapM_cons, hE.i _ _ hinf, places_sound hE hl]
      · cases h
    · cases h

theorem evBuild_sound (hE : EnvOK P E) {t : TypeId} {ps : List (Nat × Value)} {ps' : Array (Nat × Value)} {v : Value} (h : evBuild E t ps = some v) (hp : PV φ ps ps'.toList) : ∃ v', (Instr.build t ps').run P w = .ok v' w ∧ VR φ v v' := by
  unfold evBuild at h
  split at h
  · rename_i inf fields hinf hu
    split at h
    · rename_i z pl hz hpl
      split at h
      · rename_i hc
        split at h
        · rename_i cs hf
          simp only [Option.some.injEq] at h; subst h
          obtain ⟨cs', hf', hv⟩ := fill_sound (φ := φ) _ hp (VR.const hc).cells hf
          have hb : P.built t ps'.toList = some cs' := by
            simp only [Program.built, hE.i _ _ hinf, hE.u _ _ hu, hz, places_sound hE hpl]
            exact hf'
          exact ⟨_, run_build w t ps' cs' hb, .agg (by simpa using hv.length) fun i h1 h2 => by have := hv.at_ i (by simpa using h1) (by simpa using h2); rwa [Array.getElem_toList, Array.getElem_toList] at this⟩
        · cases h
      · cases h
    · cases h
  · rename_i inf n elem hinf hu
    split at h
    · rename_i z ie hz hie
      split at h
      · rename_i hc
        split at h
        · rename_i cs hf
          simp only [Option.some.injEq] at h; subst h
          obtain ⟨cs', hf', hv⟩ := fill_sound (φ := φ) _ hp (VR.const hc).cells hf
          have hb : P.built t ps'.toList = some cs' := by
            simp only [Program.built, hE.i _ _ hinf, hE.u _ _ hu, hz, hE.i _ _ hie]
            exact hf'
          exact ⟨_, run_build w t ps' cs' hb, .agg (by simpa using hv.length) fun i h1 h2 => by have := hv.at_ i (by simpa using h1) (by simpa using h2); rwa [Array.getElem_toList, Array.getElem_toList] at this⟩
        · cases h
      · cases h
    · cases h
  · cases h

theorem zeros_length (z : List Value) : ∀ n, (zeros z n).length = n * z.length
  | 0 => by simp [zeros]
  | n + 1 => by simp [zeros, zeros_length z n, Nat.add_mul]; omega

theorem zeros_get (z : List Value) (hz : 0 < z.length) : ∀ (n i : Nat), i < n * z.length → (zeros z n)[i]? = z[i % z.length]?
  | 0, i, h => by omega
  | n + 1, i, h => by
    simp only [zeros]
    by_cases hi : i < z.length
    · rw [List.getElem?_append_left hi, Nat.mod_eq_of_lt hi]
    · rw [List.getElem?_append_right (by omega), zeros_get z hz n (i - z.length) (by rw [Nat.add_mul] at h; omega)]
      congr 1
      conv => rhs; rw [show i = (i - z.length) + z.length by omega]
      rw [Nat.add_mod_right]

theorem zeros_vrs {z : List Value} (h : VRs φ z z) : ∀ n, VRs φ (zeros z n) (zeros z n)
  | 0 => .nil
  | n + 1 => h.append (zeros_vrs h n)

theorem made_eq (z : Array Value) (hz : 0 < z.size) (n : Nat) : (madeCells z (n * z.size)).toList = zeros z.toList n := by
  apply List.ext_getElem?
  intro i
  unfold madeCells
  simp only [Array.toList_map, Array.toList_range, List.getElem?_map]
  by_cases hi : i < n * z.size
  · rw [zeros_get z.toList (by simpa using hz) n i (by simpa using hi), List.getElem?_range hi]
    have hm : i % z.size < z.size := Nat.mod_lt _ hz
    simp [hm]
  · rw [List.getElem?_eq_none (l := zeros z.toList n) (by rw [zeros_length]; simpa using hi), List.getElem?_eq_none (by simpa using hi)]
    rfl

theorem evMakeSlice_sound (hE : EnvOK P E) {h h' : H} (hG : E.G ≤ h.next) (hr : HR E φ h.blks.get w) (hf : φ h.next = none) {t : TypeId} {l c l' c' v : Value} (hs : evMakeSlice E h t l c = some (v, h')) (hl : VR φ l l') (hc : VR φ c c') :
    ∃ v' w', (Instr.makeSlice t l' c').run P w = .ok v' w' ∧ Good E φ h w v h' v' w' := by
  unfold evMakeSlice at hs
  split at hs
  · rename_i elem k1 l k2 c hu
    cases hl; cases hc
    split at hs
    · rename_i inf hinf
      split at hs
      · rename_i z hz
        split at hs
        · rename_i hcond
          simp only [Bool.and_eq_true, decide_eq_true_eq] at hcond
          obtain ⟨⟨⟨⟨⟨⟨hc, h1⟩, h2⟩, h3⟩, h4⟩, h5⟩, h6⟩ := hcond
          split at hs
          · rename_i b h1' hb
            simp only [Option.some.injEq, Prod.mk.injEq] at hs
            obtain ⟨rfl, rfl⟩ := hs
            have hzs : 0 < z.cells.size := by omega
            have hmade := made_eq z.cells hzs c
            have hbytes : (inf.bytes : Int) * (c : Int) ≤ 281474976710656 := by
              have : inf.bytes * c ≤ 65536 * 2147483648 := Nat.mul_le_mul (by omega) (by omega)
              have h' : ((inf.bytes * c : Nat) : Int) ≤ 281474976710656 := by omega
              rwa [Int.natCast_mul] at h'
            have hrun := run_make (P := P) w t elem inf z (hE.u _ _ hu) (hE.i _ _ hinf) hz k1 k2 (l : Int) (c : Int) (by omega) (by omega) hbytes (by omega)
            simp only [Int.toNat_natCast] at hrun
            obtain ⟨φ', g1, g2, g3⟩ := HR.new (cells' := madeCells z.cells (c * inf.size)) hG hr hf elem hb (by rw [← h5, hmade]; exact zeros_vrs (VR.const hc).cells c)
            obtain ⟨rfl, _⟩ := aNew_some hb
            refine ⟨_, _, hrun, φ', .slc (off := 0) g1 h3 (Nat.le_refl _) ?_ (.inl rfl), g2, g3⟩
            have hsz : (madeCells z.cells (c * inf.size)).size = c * inf.size := by simp [madeCells]
            rw [hsz]; omega
          · cases hs
        · cases hs
      · cases hs
    · cases hs
  · cases hs

theorem evBuildSlice_sound (hE : EnvOK P E) {h h' : H} (hG : E.G ≤ h.next) (hr : HR E φ h.blks.get w) (hf0 : h.next < h'.next → φ h.next = none) {t : TypeId} {len : Nat} {ps : List (Nat × Value)} {ps' : Array (Nat × Value)} {v : Value}
    (hs : evBuildSlice E h t len ps = some (v, h')) (hp : PV φ ps ps'.toList) : ∃ v' w', (Instr.buildSlice t len ps').run P w = .ok v' w' ∧ Good E φ h w v h' v' w' := by
  unfold evBuildSlice at hs
  split at hs
  · rename_i elem hu
    split at hs
    · rename_i inf hinf
      split at hs
      · rename_i z hz
        split at hs
        · rename_i hcond
          simp only [Bool.and_eq_true, decide_eq_true_eq] at hcond
          obtain ⟨⟨⟨hc, h1⟩, h5⟩, h6⟩ := hcond
          split at hs
          · rename_i cs hfill
            split at hs
            · rename_i hlen0
              subst hlen0
              simp only [Option.some.injEq, Prod.mk.injEq] at hs
              obtain ⟨rfl, rfl⟩ := hs
              have hzs : 0 < z.cells.size := by omega
              have hmade := made_eq z.cells hzs 0
              rw [h5] at hmade
              obtain ⟨cs', hf', hv⟩ := fill_sound (φ := φ) (fun i => some (i * inf.size, inf.size)) hp (c' := madeCells z.cells (0 * inf.size)) (by rw [hmade]; simpa using zeros_vrs (VR.const hc).cells 0) hfill
              have h0 : 0 * inf.size = 0 := Nat.zero_mul _
              have hm0 : madeCells z.cells (0 * inf.size) = #[] := by simp [madeCells]
              rw [hm0] at hf'
              have e0 : ∀ f : Nat → Value, Array.map f (Array.range 0) = #[] := fun f => by simp [Array.range]
              have hold : ∀ k, k < w.heap.size → (w.heap.push (.cells cs' elem))[k]? = w.heap[k]? := fun k hk => by rw [Array.getElem?_push_lt hk]; exact (Array.getElem?_eq_getElem hk).symm
              refine ⟨.slice (some ⟨w.heap.size, 0, none⟩) 0 0, { w with heap := w.heap.push (.cells cs' elem) }, ?_, φ, .emp, ⟨fun b cells size es hbl x hx => ?_, hr.inj, hr.glob⟩, ⟨fun _ _ h => h, fun _ _ h => .inl h, fun _ _ h h' => (by rw [h'] at h; cases h), rfl, rfl, rfl, by simp, fun c hc _ => hold c hc⟩⟩
              · simp [Instr.buildSlice, und_run hE hu, sz_run hE hinf, e0, hf', newRow, newObj, Sem.run]
              · have hlt := hr.lt hbl hx
                obtain ⟨c, sh, es', top⟩ := x
                obtain ⟨h1, cs2, ty2, fr2, h2, h3⟩ := hr.blk b cells size es hbl _ hx
                exact ⟨h1, cs2, ty2, fr2, (hold c hlt).trans h2, h3⟩
            split at hs
            · rename_i b h1' hb
              simp only [Option.some.injEq, Prod.mk.injEq] at hs
              obtain ⟨rfl, rfl⟩ := hs
              have hf : φ h.next = none := hf0 (by rw [(aNew_some hb).2]; exact Nat.lt_succ_self _)
              have hzs : 0 < z.cells.size := by omega
              have hmade := made_eq z.cells hzs len
              rw [h5] at hmade
              obtain ⟨cs', hf', hv⟩ := fill_sound (φ := φ) (fun i => some (i * inf.size, inf.size)) hp (c' := madeCells z.cells (len * inf.size)) (by rw [hmade]; simpa using zeros_vrs (VR.const hc).cells len) hfill
              obtain ⟨φ', g1, g2, g3⟩ := HR.new (cells' := cs') hG hr hf elem hb hv
              obtain ⟨rfl, _⟩ := aNew_some hb
              have hn24 : ¬ (len * inf.size > 2 ^ 24) := by omega
              have hlen : cs'.size = len * inf.size := by
                have := fill_size _ hf'
                rw [this]; simp [madeCells]
              refine ⟨.slice (some ⟨w.heap.size, 0, none⟩) len len, _, ?_, φ', .slc (off := 0) g1 (Nat.le_refl _) (Nat.le_refl _) (by rw [hlen]; omega) (.inl rfl), g2, g3⟩
              by_cases h0 : len * inf.size = 0
              · have hm0 : madeCells z.cells (len * inf.size) = #[] := by simp [madeCells, h0]
                rw [hm0] at hf'
                have e0 : ∀ f : Nat → Value, Array.map f (Array.range 0) = #[] := fun f => by simp [Array.range]
                simp [Instr.buildSlice, und_run hE hu, sz_run hE hinf, h0, e0, hf', newRow, newObj, Sem.run]
              · have hf2 : Instr.fill (fun i => some (i * inf.size, inf.size)) ((Array.range (len * inf.size)).map (z.cells[· % z.cells.size]!)) ps'.toList = some cs' := hf'
                simp [Instr.buildSlice, und_run hE hu, sz_run hE hinf, h0, hn24, zero_run hE hinf hz, hf2, newRow, newObj, Sem.run]
            · cases hs
          · cases hs
        · cases hs
      · cases hs
    · cases hs
  · cases hs
end Go.Proofs.YtnjbcgiplfdgmaaGreatDoor.Ev
