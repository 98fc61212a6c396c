/- append, copy, clear. -/
import Derived.Test.YtnjbcgiplfdgmaaGreatDoorPmEvOps3
namespace Go.Proofs.YtnjbcgiplfdgmaaGreatDoor.Ev
open Go
variable {P : Program} {E : Env} {φ : Phi} {w : World}

theorem src_sound {h : H} (hr : HR E φ h.blks.get w) {size n m : Nat} {x x' : Value} {cs : List Value} (hl : srcLen x = some m) (hnm : n ≤ m) (hn : 0 < n) (hc : srcCells h size n x = some cs) (hx : VR φ x x') :
    (Builtin.lenOf x').run P w = .ok m w ∧ ∃ cs' : List Value, cs'.length = cs.length ∧ (∀ w2 : World, (∀ a, w2.cell? a = w.cell? a) → (Builtin.firstCells size n x').run P w2 = .ok cs'.toArray w2) ∧ VRs φ cs cs' := by
  cases hx with
  | nils =>
    simp only [srcLen, Option.some.injEq] at hl
    omega
  | emp =>
    simp only [srcLen, Option.some.injEq] at hl
    omega
  | slc hφ hle hcm ht hA =>
    rename_i b off k m0 c sh es top m' A
    simp only [srcLen, Option.some.injEq] at hl
    subst hl
    have hA' : A = ⟨c, sh + off, none⟩ := hA.resolve_right (by omega)
    subst hA'
    simp only [srcCells] at hc
    obtain ⟨vs', hlen, hcell, hv⟩ := rd_sound hr hc hφ
    refine ⟨by simp [Builtin.lenOf], vs', hv.length.symm, fun w2 hw2 => ?_, hv⟩
    have := run_loadCells (P := P) (w := w2) hlen (fun j v hj => by rw [hw2]; exact hcell j v hj)
    simpa [Builtin.firstCells] using this
  | string s =>
    simp only [srcLen, Option.some.injEq] at hl
    subst hl
    simp only [srcCells, Option.some.injEq] at hc
    subst hc
    refine ⟨by simp [Builtin.lenOf], _, rfl, fun w2 _ => ?_, VRs.flat ?_⟩
    · simp only [Builtin.firstCells, Sem.run_pure]
      congr 1
      rw [← Array.toList_inj]
      simp
    · rw [List.all_eq_true]
      intro x hx
      obtain ⟨b, _, rfl⟩ := List.mem_map.1 hx
      rfl
  | _ => simp [srcLen] at hl

theorem store_raw {c : Nat} {ty : TypeId} {o : Nat} : ∀ (vs : List Value) (i : Nat) (w : World) (cs : Array Value), w.heap[c]? = some (.cells cs ty (0, 0)) → o + i + vs.length ≤ cs.size → vs.all oneB = true →
    ∃ w' cs', (storeCells ⟨c, o, none⟩ vs i).run P w = .ok () w' ∧ w'.heap[c]? = some (.cells cs' ty (0, 0)) ∧ cs'.size = cs.size ∧ (∀ j v, vs[j]? = some v → cs'[o + i + j]? = some v) ∧ (∀ k, k < o + i → cs'[k]? = cs[k]?) ∧
      w'.os = w.os ∧ w'.tape = w.tape ∧ w'.output = w.output ∧ w'.heap.size = w.heap.size ∧ ∀ k, k ≠ c → w'.heap[k]? = w.heap[k]?
  | [], i, w, cs, hh, _, _ => ⟨w, cs, by simp [storeCells], hh, rfl, fun j v hj => by simp at hj, fun _ _ => rfl, rfl, rfl, rfl, rfl, fun _ _ => rfl⟩
  | v :: vs, i, w, cs, hh, hle, ho => by
    simp only [List.length_cons] at hle
    simp only [List.all_cons, Bool.and_eq_true] at ho
    have hst := run_store1 (P := P) (i := o + i) hh (by omega) ho.1
    have hclt : c < w.heap.size := by
      rcases Nat.lt_or_ge c w.heap.size with h | h
      · exact h
      · rw [Array.getElem?_eq_none h] at hh; cases hh
    have hheap : (w.setCell ⟨c, o + i, none⟩ v).heap[c]? = some (.cells (cs.setIfInBounds (o + i) v) ty (0, 0)) := by
      simp only [World.setCell, Array.getElem?_modify]
      simp [hh]
    obtain ⟨w', cs', hrun, e1, e2, e3, e4, e5, e6, e7, e8, e9⟩ := store_raw vs (i + 1) _ _ hheap (by simpa using (by omega : o + (i + 1) + vs.length ≤ cs.size)) ho.2
    refine ⟨w', cs', ?_, e1, by simpa using e2, fun j u hj => ?_, fun k hk => ?_, e5, e6, e7, by rw [e8]; simp [World.setCell], fun k hk => ?_⟩
    · simp only [storeCells, Sem.run_bind, add_mk, hst]
      simpa [Result.andThen_ok] using hrun
    · cases j with
      | zero =>
        simp only [List.getElem?_cons_zero, Option.some.injEq] at hj
        subst hj
        rw [Nat.add_zero, e4 _ (by omega), Array.getElem?_setIfInBounds_self_of_lt (by omega)]
      | succ j =>
        have := e3 j u (by simpa using hj)
        rw [show o + i + (j + 1) = o + (i + 1) + j by omega]; exact this
    · rw [e4 k (by omega), Array.getElem?_setIfInBounds_ne (by omega)]
    · rw [e9 k hk]
      simp [World.setCell, Array.getElem?_modify, Ne.symm hk]

theorem evCopy_sound (hE : EnvOK P E) {h h' : H} (hr : HR E φ h.blks.get w) {td tx ty : TypeId} {d x d' x' v : Value} (hs : evCopy E h td d x = some (v, h')) (hd : VR φ d d') (hx : VR φ x x') :
    ∃ v' w', (Builtin.copy_ #[td, tx] ty #[d', x']).run P w = .ok v' w' ∧ Good E φ h w v h' v' w' := by
  unfold evCopy at hs
  split at hs
  · rename_i elem m base dl dc hu hm
    split at hs
    · rename_i inf hinf
      rw [forceN_eq] at hs
      split at hs
      · rename_i h0
        simp only [Option.some.injEq, Prod.mk.injEq] at hs
        obtain ⟨rfl, rfl⟩ := hs
        refine ⟨.int .i64 0, w, ?_, φ, .int _ _, hr, Ext.refl _ _ _ _⟩
        have hlen : (Builtin.lenOf x').run P w = .ok m w := by
          cases hx <;> simp only [srcLen, Option.some.injEq, reduceCtorEq] at hm <;> subst hm <;> simp [Builtin.lenOf]
        have hfirst : (Builtin.firstCells inf.size 0 x').run P w = .ok #[] w := by
          cases hx <;> simp only [srcLen, Option.some.injEq, reduceCtorEq] at hm <;> simp [Builtin.firstCells, loadCells, loadCellsFrom]
        have hmin : Nat.min m dl = 0 := h0
        cases hd with
        | nils => simp [Builtin.copy_, und_run hE hu, sz_run hE hinf, hlen, hfirst, goInt]
        | emp => simp [Builtin.copy_, und_run hE hu, sz_run hE hinf, hlen, hfirst, goInt, storeCells]
        | slc _ _ _ _ => simp [Builtin.copy_, und_run hE hu, sz_run hE hinf, hlen, hfirst, goInt, hmin, storeCells]
      · rename_i h0
        split at hs
        · rename_i cs b off hcs
          split at hs
          · rename_i h1 hw
            simp only [Option.some.injEq, Prod.mk.injEq] at hs
            obtain ⟨rfl, rfl⟩ := hs
            have hmin : Nat.min m dl = min m dl := rfl
            obtain ⟨hlen, cs', _, hfirst, hv⟩ := src_sound (P := P) hr hm (Nat.min_le_left m dl) (by omega) hcs hx
            cases hd with
            | slc hφ hle hcm ht hA =>
              rename_i c sh es top m' A
              have hA' : A = ⟨c, sh + off, none⟩ := hA.resolve_right (by omega)
              subst hA'
              obtain ⟨w', hrun, g1, g2⟩ := wr_sound (P := P) hr hw hφ hv
              refine ⟨.int .i64 (min m dl : Nat), w', ?_, φ, .int _ _, g1, g2⟩
              simp [Builtin.copy_, und_run hE hu, sz_run hE hinf, hlen, hmin, hfirst w (fun _ => rfl), hrun, goInt]
          · cases hs
        · cases hs
    · cases hs
  · cases hs

theorem zeroCells_eq (z : Array Value) (hz : 0 < z.size) (n : Nat) : (Builtin.zeroCells z n).toList = zeros z.toList n := made_eq z hz n

theorem evClear_sound (hE : EnvOK P E) {h h' : H} (hr : HR E φ h.blks.get w) {t ty : TypeId} {x x' v : Value} (hs : evClear E h t x = some (v, h')) (hx : VR φ x x') :
    ∃ v' w', (Builtin.clear_ #[t] ty #[x']).run P w = .ok v' w' ∧ Good E φ h w v h' v' w' := by
  unfold evClear at hs
  split at hs
  · rename_i elem base n c hu
    split at hs
    · rename_i h0
      simp only [Option.some.injEq, Prod.mk.injEq] at hs
      obtain ⟨rfl, rfl⟩ := hs
      subst h0
      refine ⟨undef, w, ?_, φ, VR.undef, hr, Ext.refl _ _ _ _⟩
      cases hx with
      | nils => simp [Builtin.clear_, und_run hE hu, undef]
      | emp => simp [Builtin.clear_, und_run hE hu, undef]
      | slc _ _ _ _ => simp [Builtin.clear_, und_run hE hu, undef]
    · rename_i h0
      split at hs
      · rename_i inf b off hinf
        split at hs
        · rename_i z hz
          split at hs
          · rename_i hc
            split at hs
            · rename_i h1 hw
              simp only [Option.some.injEq, Prod.mk.injEq] at hs
              obtain ⟨rfl, rfl⟩ := hs
              cases hx with
              | slc hφ hle hcm ht hA =>
                rename_i c sh es top m' A
                have hA' : A = ⟨c, sh + off, none⟩ := hA.resolve_right (by omega)
                subst hA'
                obtain ⟨w', hrun, g1, g2⟩ := wr_sound (P := P) hr hw hφ (zeros_vrs (VR.const hc).cells n)
                refine ⟨undef, w', ?_, φ, VR.undef, g1, g2⟩
                by_cases hzs : 0 < z.cells.size
                · simp [Builtin.clear_, und_run hE hu, zero_run hE hinf hz, zeroCells_eq _ hzs, hrun, undef, h0]
                · have e : (Builtin.zeroCells z.cells n).toList = zeros z.cells.toList n := by
                    have h2 : z.cells.size = 0 := by omega
                    have h3 : z.cells.toList = [] := by simpa using h2
                    have h4 : ∀ k, zeros ([] : List Value) k = [] := fun k => by induction k with
                      | zero => rfl
                      | succ k ih => simp [zeros, ih]
                    rw [h3, h4]
                    simp [Builtin.zeroCells, h2]
                  simp [Builtin.clear_, und_run hE hu, zero_run hE hinf hz, e, hrun, undef, h0]
            · cases hs
          · cases hs
        · cases hs
      · cases hs
  · cases hs

theorem HR.kill {h h' : H} {b : Nat} (hr : HR E φ h.blks.get w) (hk : kill E h b = some h') : HR E φ h'.blks.get w := by
  obtain ⟨cells, size, es, hb, hG, rfl⟩ := kill_some hk
  have hg : ∀ k, (Tr.put h.blks b .dead).get k = if k = b then some .dead else h.blks.get k := fun k => Tr.get_put _ _ _ _
  have old : ∀ {k : Nat} {cc : Tr Value} {ss ee : Nat}, (Tr.put h.blks b .dead).get k = some (.mk cc ss ee) → h.blks.get k = some (.mk cc ss ee) := fun {k cc ss ee} hk => by
    rw [hg] at hk
    split at hk
    · cases hk
    · exact hk
  exact ⟨fun k cc ss ee hk x hx => hr.blk k cc ss ee (old hk) x hx, fun b1 b2 x1 x2 _ _ _ _ _ _ hG1 h1 h2 hx1 hx2 he => hr.inj b1 b2 x1 x2 _ _ _ _ _ _ hG1 (old h1) (old h2) hx1 hx2 he,
    fun k cc ss ee hlt hlN hk => hr.glob k cc ss ee hlt hlN (old hk)⟩

set_option maxHeartbeats 4000000 in
/-- append where it grows: the run -/
theorem run_grow (hE : EnvOK P E) {ts tx : TypeId} {elem : TypeId} {ux : TypeDesc} {inf : TypeInfo} {z : Value} (hu : E.u ts = some (.slice elem)) (hni : notInt ux = true) (hux : E.u tx = some ux) (hinf : E.i elem = some inf) (hz : inf.zero = some z)
    (hb : inf.bytes < 65536) {A : Option Addr} {sl sc n : Nat} {x : Value} {old news : List Value} (hlen : (Builtin.lenOf x).run P w = .ok n w) (hlt : sc < sl + n) (hsm : sl + n < 2147483648) (_ : sl ≤ sc) (ty : TypeId)
    (hold : ∀ w2 : World, (∀ a, w2.cell? a = w.cell? a) → (Builtin.firstCells inf.size sl (.slice A sl sc)).run P w2 = .ok old.toArray w2) (hnew : ∀ w2 : World, (∀ a, w2.cell? a = w.cell? a) → (Builtin.firstCells inf.size n x).run P w2 = .ok news.toArray w2) :
    ∃ cap, sl + n ≤ cap ∧ (Builtin.append_ #[ts, tx] ty #[.slice A sl sc, x]).run P w =
      .ok (.slice (some ⟨w.heap.size, 0, none⟩) (sl + n) cap) (w.drew.alloc (.cells (old.toArray ++ (news.toArray ++ Builtin.zeroCells z.cells (cap - (sl + n)))) elem)) := by
  have hfit : ¬ (Builtin.nextslicecap (sl + n) sc * inf.bytes > 2 ^ 48) := by
    have h1 := nextslicecap_le hlt
    have h2 : Builtin.nextslicecap (sl + n) sc * inf.bytes ≤ (2 * (sl + n)) * 65536 := Nat.mul_le_mul h1 (by omega)
    omega
  have h63 : ¬ ((sl : Int) + (n : Int) > IntKind.i64.max) := by simp [IntKind.max, IntKind.signed, IntKind.bits]; omega
  have hnle : ¬ (sl + n ≤ sc) := by omega
  refine ⟨sl + n + w.tape w.drawn (.appendCap (sl + n) sc elem) % (2 ^ 63 - (sl + n)), by omega, ?_⟩
  have hq : (Question.appendCap (sl + n) sc elem).forced = false := rfl
  have ho := hold w.drew (fun _ => rfl)
  have hn := hnew w.drew (fun _ => rfl)
  have hzr : (zeroValue elem).run P w.drew = .ok z w.drew := zero_run hE hinf hz
  have h63' : ¬ (9223372036854775807 < (sl : Int) + (n : Int)) := by omega
  cases ux with
  | int k => simp [notInt] at hni
  | _ => simp [Builtin.append_, und_run hE hu, und_run hE hux, sz_run hE hinf, hlen, hnle, ti_run hE hinf, h63', hfit, choose, Sem.run, hq, Question.cut, ho, hn, hzr, newRow, newObj]

set_option maxHeartbeats 4000000 in
/-- append where there is room: the run -/
theorem run_fits (hE : EnvOK P E) {ts tx : TypeId} {elem : TypeId} {ux : TypeDesc} {inf : TypeInfo} (hu : E.u ts = some (.slice elem)) (hni : notInt ux = true) (hux : E.u tx = some ux) (hinf : E.i elem = some inf)
    {c o : Nat} {sl sc n : Nat} {x : Value} {news : List Value} (hlen : (Builtin.lenOf x).run P w = .ok n w) (hle : sl + n ≤ sc) (ty : TypeId) (hnew : (Builtin.firstCells inf.size n x).run P w = .ok news.toArray w)
    {w' : World} (hst : (storeCells ⟨c, o + sl * inf.size, none⟩ news).run P w = .ok () w') :
    (Builtin.append_ #[ts, tx] ty #[.slice (some ⟨c, o, none⟩) sl sc, x]).run P w = .ok (.slice (some ⟨c, o, none⟩) (sl + n) sc) w' := by
  cases ux with
  | int k => simp [notInt] at hni
  | _ => simp [Builtin.append_, und_run hE hu, und_run hE hux, sz_run hE hinf, hlen, hle, hnew, add_mk, hst]

set_option maxHeartbeats 4000000 in
/-- append of nothing: the run -/
theorem run_none (hE : EnvOK P E) {ts tx : TypeId} {elem : TypeId} {ux : TypeDesc} {inf : TypeInfo} (hu : E.u ts = some (.slice elem)) (hni : notInt ux = true) (hux : E.u tx = some ux) (hinf : E.i elem = some inf)
    {A : Option Addr} {sl sc : Nat} {x : Value} (hlen : (Builtin.lenOf x).run P w = .ok 0 w) (hle : sl ≤ sc) (ty : TypeId) (hnew : (Builtin.firstCells inf.size 0 x).run P w = .ok #[] w) :
    (Builtin.append_ #[ts, tx] ty #[.slice A sl sc, x]).run P w = .ok (.slice A sl sc) w := by
  cases ux with
  | int k => simp [notInt] at hni
  | _ => cases A <;> simp [Builtin.append_, und_run hE hu, und_run hE hux, sz_run hE hinf, hlen, hle, hnew, storeCells]
end Go.Proofs.YtnjbcgiplfdgmaaGreatDoor.Ev
