/- append. -/
import Derived.Test.YtnjbcgiplfdgmaaGreatDoorPmEvOps4
import Derived.Laws.BytesString
namespace Go.Proofs.YtnjbcgiplfdgmaaGreatDoor.Ev
open Go
variable {P : Program} {E : Env} {φ : Phi} {w : World}

theorem vrs_prefix {l : List Value} {l' more : Array Value} (h : VRs φ l l'.toList) : l.length ≤ (l' ++ more).size ∧ ∀ (i : Nat) (v : Value), l[i]? = some v → ∃ v', (l' ++ more)[i]? = some v' ∧ VR φ v v' := by
  have hl : l.length = l'.size := by simpa using h.length
  refine ⟨by simp; omega, fun i v hi => ?_⟩
  obtain ⟨v', h1, h2⟩ := h.get i v hi
  refine ⟨v', ?_, h2⟩
  have hlt : i < l'.size := by
    rcases Nat.lt_or_ge i l'.size with h3 | h3
    · exact h3
    · rw [List.getElem?_eq_none (by simpa using h3)] at h1; cases h1
  rw [Array.getElem?_append_left hlt]
  simpa using h1

theorem HR.drew {g : Nat → Option Blk} (h : HR E φ g w) : HR E φ g w.drew := ⟨h.blk, h.inj, h.glob⟩

theorem Ext.of_drew {h h' : H} {φ' : Phi} {w' : World} (x : Ext E φ h w.drew φ' h' w') : Ext E φ h w φ' h' w' := ⟨x.le, x.dom, x.src, x.os, x.tape, x.output, x.size, x.frame⟩

theorem Ext.kill {h h' : H} {b : Nat} (_ : Ev.kill E h b = some h') : Ext E φ h w φ h' w :=
  ⟨fun _ _ h => h, fun _ _ h => .inl h, fun _ _ h h' => (by rw [h'] at h; cases h), rfl, rfl, rfl, Nat.le_refl _, fun _ _ _ => rfl⟩

/-- the block that was appended to goes on under another number -/
theorem HR.moved {h h1 h' : H} (ok : Hok h) (hG : E.G ≤ h.next) (hr : HR E φ h.blks.get w) (hf : φ h.next = none) {b : Nat} (hk : Ev.kill E h b = some h1) {cells : List Value} {es : Nat} {b' : Nat} (hn : aNew h1 cells es = some (b', h'))
    {c sh top o : Nat} (hφ : φ b = some (c, sh, es, top)) {w' : World} {cs' : Array Value} {ty : TypeId} (hh : w'.heap[c]? = some (.cells cs' ty (0, 0))) (hot : o + cells.length ≤ top) (htop : top ≤ cs'.size)
    (hc : ∀ i v, cells[i]? = some v → ∃ v', cs'[o + i]? = some v' ∧ VR φ v v') (e1 : w'.os = w.os) (e2 : w'.tape = w.tape) (e3 : w'.output = w.output) (e4 : w'.heap.size = w.heap.size) (e5 : ∀ k, k ≠ c → w'.heap[k]? = w.heap[k]?) :
    ∃ φ', φ' h.next = some (c, o, es, top) ∧ HR E φ' h'.blks.get w' ∧ Ext E φ h w φ' h' w' := by
  obtain ⟨cells0, size0, es0, hb, hbG, rfl⟩ := kill_some hk
  obtain ⟨rfl, rfl⟩ := aNew_some hn
  have hbn := get_lt ok hb
  have hg : ∀ k, (Tr.put (Tr.put h.blks b .dead) h.next (.mk (Tr.ofList cells) cells.length es)).get k = if k = h.next then some (.mk (Tr.ofList cells) cells.length es) else if k = b then some .dead else h.blks.get k := fun k => by
    rw [Tr.get_put, Tr.get_put]
  have hle : ∀ k x, φ k = some x → (fun k => if k = h.next then some (c, o, es, top) else φ k) k = some x := fun k x hx => by
    by_cases hk : k = h.next
    · subst hk; rw [hf] at hx; cases hx
    · simp [hk, hx]
  have old : ∀ {k : Nat} {cc : Tr Value} {ss ee : Nat}, k ≠ h.next → (Tr.put (Tr.put h.blks b .dead) h.next (.mk (Tr.ofList cells) cells.length es)).get k = some (.mk cc ss ee) → k ≠ b ∧ h.blks.get k = some (.mk cc ss ee) := fun {k cc ss ee} hkn hk => by
    rw [hg, if_neg hkn] at hk
    split at hk
    · cases hk
    · rename_i hkb; exact ⟨hkb, hk⟩
  have far : ∀ {k : Nat} {cc : Tr Value} {ss ee : Nat} {x : Nat × Nat × Nat × Nat}, k ≠ b → h.blks.get k = some (.mk cc ss ee) → φ k = some x → x.1 ≠ c := fun {k cc ss ee x} hkb hk hx he =>
    hkb (hr.inj b k _ x _ _ _ _ _ _ hbG hb hk hφ hx he.symm).symm
  refine ⟨fun k => if k = h.next then some (c, o, es, top) else φ k, by simp, ⟨fun k cc ss ee hk x hx => ?_, fun b1 b2 x1 x2 _ _ _ _ _ _ hG1 h1 h2 hx1 hx2 he => ?_, fun k cc ss ee hlt' hlN hk => ?_⟩,
    ⟨hle, fun k x hx => ?_, fun k x hx h0 => ?_, e1, e2, e3, by omega, fun k hk hno => e5 k fun e => hno b _ (live_mk hb) hbG hφ e.symm⟩⟩
  · by_cases hkn : k = h.next
    · subst hkn
      simp only at hk
      rw [hg, if_pos rfl] at hk
      injection hk with hk
      injection hk with f1 f2 f3
      subst f1; subst f2; subst f3
      simp only [if_true, Option.some.injEq] at hx
      subst hx
      refine ⟨rfl, cs', ty, (0, 0), hh, fun _ => rfl, hot, htop, fun i hi => ?_⟩
      rw [Tr.ofList_get]
      obtain ⟨v', h1, h2⟩ := hc i _ (List.getElem?_eq_getElem hi)
      exact ⟨cells[i], v', List.getElem?_eq_getElem hi, h1, h2.mono hle⟩
    · obtain ⟨hkb, hk'⟩ := old hkn hk
      simp only [hkn, if_false] at hx
      obtain ⟨c2, sh2, es2, top2⟩ := x
      have hne := far hkb hk' hx
      obtain ⟨f1, cs2, ty2, fr2, hh2, hfr2, f2, f3, hc2⟩ := hr.blk k cc ss ee hk' _ hx
      refine ⟨f1, cs2, ty2, fr2, by rw [e5 c2 hne]; exact hh2, hfr2, f2, f3, fun i hi => ?_⟩
      obtain ⟨v, v', g1, g2, g3⟩ := hc2 i hi
      exact ⟨v, v', g1, g2, g3.mono hle⟩
  · by_cases k1 : b1 = h.next
    · by_cases k2 : b2 = h.next
      · omega
      · obtain ⟨hkb, hk'⟩ := old k2 h2
        simp only [k1, if_true, Option.some.injEq] at hx1
        subst hx1
        simp only [k2, if_false] at hx2
        exact absurd he.symm (far hkb hk' hx2)
    · obtain ⟨hkb, hk'⟩ := old k1 h1
      simp only [k1, if_false] at hx1
      by_cases k2 : b2 = h.next
      · simp only [k2, if_true, Option.some.injEq] at hx2
        subst hx2
        exact absurd he (far hkb hk' hx1)
      · obtain ⟨hkb2, hk2'⟩ := old k2 h2
        simp only [k2, if_false] at hx2
        exact hr.inj b1 b2 x1 x2 _ _ _ _ _ _ hG1 hk' hk2' hx1 hx2 he
  · have hkn : k ≠ h.next := by omega
    obtain ⟨hkb, hk'⟩ := old hkn hk
    obtain ⟨es2, top2, h3⟩ := hr.glob k cc ss ee hlt' hlN hk'
    exact ⟨es2, top2, hle _ _ h3⟩
  · by_cases hk : k = h.next
    · exact .inr ⟨by rw [hk]; exact hf, by omega, by simp only; omega⟩
    · simp only [hk, if_false] at hx
      exact .inl hx
  · by_cases hk : k = h.next
    · simp only [hk, if_true, Option.some.injEq] at hx
      subst hx
      exact .inr ⟨b, _, live_mk hb, hbG, hφ, rfl⟩
    · simp only [hk, if_false] at hx
      rw [h0] at hx; cases hx

theorem evAppend_sound (hE : EnvOK P E) {h h' : H} (ok : Hok h) (hG : E.G ≤ h.next) (hr : HR E φ h.blks.get w) (hf0 : h.next < h'.next → φ h.next = none) {ts tx ty : TypeId} {s x s' x' v : Value} (hs : evAppend E h ts tx s x = some (v, h')) (hvs : VR φ s s') (hx : VR φ x x') :
    ∃ v' w', (Builtin.append_ #[ts, tx] ty #[s', x']).run P w = .ok v' w' ∧ Good E φ h w v h' v' w' := by
  unfold evAppend at hs
  split at hs
  · rename_i elem ux n hu hux hn
    split at hs
    · cases hs
    · rename_i hni0
      have hni : notInt ux = true := by simpa using hni0
      split at hs
      · rename_i inf base sl sc hinf
        split at hs
        · rename_i h0
          subst h0
          simp only [Option.some.injEq, Prod.mk.injEq] at hs
          obtain ⟨rfl, rfl⟩ := hs
          have hlen : (Builtin.lenOf x').run P w = .ok 0 w := by
            cases hx <;> simp only [srcLen, Option.some.injEq, reduceCtorEq] at hn <;> simp [Builtin.lenOf, hn]
          have hfirst : (Builtin.firstCells inf.size 0 x').run P w = .ok #[] w := by
            cases hx <;> simp only [srcLen, Option.some.injEq, reduceCtorEq] at hn <;> simp [Builtin.firstCells, loadCells, loadCellsFrom]
          cases hvs with
          | nils => exact ⟨_, w, run_none hE hu hni hux hinf hlen (Nat.le_refl _) ty hfirst, φ, .nils, hr, Ext.refl _ _ _ _⟩
          | emp => exact ⟨_, w, run_none hE hu hni hux hinf hlen (Nat.le_refl _) ty hfirst, φ, .emp, hr, Ext.refl _ _ _ _⟩
          | slc hφ hle hcm ht hA => exact ⟨_, w, run_none hE hu hni hux hinf hlen hle ty hfirst, φ, .slc hφ hle hcm ht hA, hr, Ext.refl _ _ _ _⟩
        · rename_i h0
          split at hs
          · rename_i z news hz hnews
            split at hs
            · rename_i hcond
              simp only [Bool.and_eq_true, decide_eq_true_eq] at hcond
              obtain ⟨⟨⟨⟨⟨⟨hc, h5⟩, h6⟩, h7⟩, h8⟩, h9⟩, h10⟩ := hcond
              obtain ⟨hlen, news', hnl, hfirst, hv⟩ := src_sound (P := P) hr hn (Nat.le_refl n) (by omega) hnews hx
              split at hs
              · -- a nil slice
                split at hs
                · rename_i b' h1 hb
                  rw [forceN_eq] at hs
                  split at hs
                  · rename_i hsl
                    subst hsl
                    simp only [Option.some.injEq, Prod.mk.injEq] at hs
                    obtain ⟨rfl, rfl⟩ := hs
                    have hf : φ h.next = none := hf0 (by rw [(aNew_some hb).2]; exact Nat.lt_succ_self _)
                    cases hvs with
                    | nils =>
                      obtain ⟨cap, hcap, hrun⟩ := run_grow (P := P) hE hu hni hux hinf hz h7 (A := none) (sl := 0) (sc := 0) (old := []) hlen (by omega) h8 (Nat.le_refl _) ty (fun w2 _ => by simp [Builtin.firstCells]) hfirst
                      obtain ⟨hp1, hp2⟩ := vrs_prefix (more := Builtin.zeroCells z.cells (cap - (0 + n))) (l' := news'.toArray) (by simpa using hv)
                      obtain ⟨φ', g1, g2, g3⟩ := HR.new' hG hr.drew hf elem (cells' := news'.toArray ++ Builtin.zeroCells z.cells (cap - (0 + n))) hb hp1 hp2
                      obtain ⟨rfl, _⟩ := aNew_some hb
                      have e : ∀ a : Array Value, ([] : List Value).toArray ++ a = a := fun a => by simp
                      rw [e] at hrun
                      refine ⟨_, _, hrun, φ', .slc (off := 0) g1 hcap hcap ?_ (.inl rfl), g2, g3.of_drew⟩
                      have hz1 : (Builtin.zeroCells z.cells (cap - (0 + n))).size = (cap - (0 + n)) * inf.size := by simp [Builtin.zeroCells, h5]
                      have hmul : n * inf.size + (cap - (0 + n)) * inf.size = cap * inf.size := by rw [← Nat.add_mul]; congr 1; omega
                      simp only [Array.size_append, List.size_toArray, hz1, hnl, h10]
                      omega
                  · cases hs
                · cases hs
              · -- an empty one
                split at hs
                · rename_i b' h1 hb
                  rw [forceN_eq] at hs
                  split at hs
                  · rename_i hsl
                    subst hsl
                    simp only [Option.some.injEq, Prod.mk.injEq] at hs
                    obtain ⟨rfl, rfl⟩ := hs
                    have hf : φ h.next = none := hf0 (by rw [(aNew_some hb).2]; exact Nat.lt_succ_self _)
                    cases hvs with
                    | emp =>
                      rename_i A0
                      obtain ⟨cap, hcap, hrun⟩ := run_grow (P := P) hE hu hni hux hinf hz h7 (A := some A0) (sl := 0) (sc := 0) (old := []) hlen (by omega) h8 (Nat.le_refl _) ty (fun w2 _ => by simp [Builtin.firstCells, loadCells, loadCellsFrom]) hfirst
                      obtain ⟨hp1, hp2⟩ := vrs_prefix (more := Builtin.zeroCells z.cells (cap - (0 + n))) (l' := news'.toArray) (by simpa using hv)
                      obtain ⟨φ', g1, g2, g3⟩ := HR.new' hG hr.drew hf elem (cells' := news'.toArray ++ Builtin.zeroCells z.cells (cap - (0 + n))) hb hp1 hp2
                      obtain ⟨rfl, _⟩ := aNew_some hb
                      have e : ∀ a : Array Value, ([] : List Value).toArray ++ a = a := fun a => by simp
                      rw [e] at hrun
                      refine ⟨_, _, hrun, φ', .slc (off := 0) g1 hcap hcap ?_ (.inl rfl), g2, g3.of_drew⟩
                      have hz1 : (Builtin.zeroCells z.cells (cap - (0 + n))).size = (cap - (0 + n)) * inf.size := by simp [Builtin.zeroCells, h5]
                      have hmul : n * inf.size + (cap - (0 + n)) * inf.size = cap * inf.size := by rw [← Nat.add_mul]; congr 1; omega
                      simp only [Array.size_append, List.size_toArray, hz1, hnl, h10]
                      omega
                  · cases hs
                · cases hs
              · rename_i b off
                split at hs
                · rename_i cells size es hb
                  split at hs
                  · rename_i hes
                    split at hs
                    · rename_i hroom
                      split at hs
                      · rename_i h1 hwr
                        simp only [forceN_eq, Option.some.injEq, Prod.mk.injEq] at hs
                        obtain ⟨rfl, rfl⟩ := hs
                        cases hvs with
                        | slc hφ hle hcm ht hA =>
                          rename_i c sh es' top m' A
                          have hfit : sl + n ≤ m' := by omega
                          have hA' : A = ⟨c, sh + off, none⟩ := hA.resolve_right (by omega)
                          subst hA'
                          obtain ⟨w', hst, hr', hx'⟩ := wr_sound (P := P) hr hwr hφ hv
                          rw [← Nat.add_assoc] at hst
                          exact ⟨_, w', run_fits (P := P) hE hu hni hux hinf hlen hfit ty (hfirst w (fun _ => rfl)) hst, φ, .slc hφ hfit hcm ht (.inl rfl), hr', hx'⟩
                      · cases hs
                    split at hs
                    · rename_i old hold
                      split at hs
                      · rename_i h1 hk
                        split at hs
                        · rename_i b' h2 hn2
                          simp only [forceN_eq, Option.some.injEq, Prod.mk.injEq] at hs
                          obtain ⟨rfl, rfl⟩ := hs
                          have hb' : b' = h.next := by
                            obtain ⟨_, _, _, _, _, rfl⟩ := kill_some hk
                            exact (aNew_some hn2).1
                          subst hb'
                          have hf : φ h.next = none := hf0 (by
                            rw [(aNew_some hn2).2]
                            obtain ⟨_, _, _, _, _, rfl⟩ := kill_some hk
                            exact Nat.lt_succ_self _)
                          cases hvs with
                          | slc hφ hle hcm ht hA =>
                            rename_i c sh es' top m' A
                            obtain ⟨hes', cs, ty', fr, hh, hfr, f2, f3, _⟩ := hr.blk b cells size es hb _ hφ
                            have hbG : E.G ≤ b := by obtain ⟨_, _, _, _, hbG, _⟩ := kill_some hk; exact hbG
                            obtain rfl := hfr hbG
                            subst hes'
                            obtain ⟨old', hol, hocell, hov⟩ := rd_sound hr hold hφ
                            have hol' : old.length = sl * inf.size := by rw [hov.length]; exact hol
                            by_cases hfit : sl + n ≤ m'
                            · have hA' : A = ⟨c, sh + off, none⟩ := hA.resolve_right (by omega)
                              subst hA'
                              have hmle : (sl + n) * es' ≤ m' * es' := Nat.mul_le_mul_right _ hfit
                              have hsplit : (sl + n) * es' = sl * es' + n * es' := Nat.add_mul _ _ _
                              have hnl' : news'.length = n * es' := by rw [hnl, h10, ← hes]
                              obtain ⟨w', cs', hrun, e1, e2, e3, e4, e5, e6, e7, e8, e9⟩ := store_raw (P := P) (o := sh + off + sl * inf.size) news' 0 w cs hh (by rw [hnl', ← hes]; omega) (by rw [hv.one]; exact h9)
                              have hrun2 := run_fits (P := P) hE hu hni hux hinf hlen hfit ty (hfirst w (fun _ => rfl)) hrun
                              rw [← hes] at hn2
                              obtain ⟨φ', g1, g2, g3⟩ := HR.moved ok hG hr hf hk hn2 hφ (o := sh + off) e1 (by rw [List.length_append, hol', h10, ← hes]; omega) (by rw [e2]; exact f3) (fun i v hi => by
                                by_cases hio : i < old.length
                                · rw [List.getElem?_append_left hio] at hi
                                  obtain ⟨v', k1, k2⟩ := hov.get i v hi
                                  have hcell := hocell i v' k1
                                  rw [cell_at hh] at hcell
                                  exact ⟨v', by rw [e4 _ (by rw [← hol']; omega)]; exact hcell, k2⟩
                                · rw [List.getElem?_append_right (by omega)] at hi
                                  obtain ⟨v', k1, k2⟩ := hv.get _ v hi
                                  have := e3 _ v' k1
                                  refine ⟨v', ?_, k2⟩
                                  rw [← this]
                                  congr 1
                                  rw [← hol']
                                  omega) e5 e6 e7 e8 e9
                              exact ⟨_, w', hrun2, φ', .slc (off := 0) g1 hfit hfit (by omega) (.inl rfl), g2, g3⟩
                            · obtain ⟨cap, hcap, hrun⟩ := run_grow (P := P) hE hu hni hux hinf hz h7 (A := some A) (sl := sl) (sc := m') (old := old') hlen (by omega) h8 hle ty (fun w2 hw2 => by
                                rcases hA with rfl | h0'
                                · have := run_loadCells (P := P) (w := w2) hol (fun j v hj => by rw [hw2]; exact hocell j v hj)
                                  simpa [Builtin.firstCells] using this
                                · have hsl : sl = 0 := by omega
                                  subst hsl
                                  have : old' = [] := List.eq_nil_of_length_eq_zero (by simpa using hol)
                                  subst this
                                  simp [Builtin.firstCells, loadCells, loadCellsFrom]) hfirst
                              have hboth : VRs φ (old ++ news) (old'.toArray ++ news'.toArray).toList := by simpa using hov.append hv
                              obtain ⟨hp1, hp2⟩ := vrs_prefix (more := Builtin.zeroCells z.cells (cap - (sl + n))) hboth
                              have hke := kill_ae ok hk
                              have hG1 : E.G ≤ h1.next := Nat.le_trans hG hke.next
                              have hn1 : h1.next = h.next := by obtain ⟨_, _, _, _, _, rfl⟩ := kill_some hk; rfl
                              obtain ⟨φ', g1, g2, g3⟩ := HR.new' (φ := φ) hG1 (hr.drew.kill hk) (by rw [hn1]; exact hf) elem hn2 hp1 hp2
                              rw [hn1] at g1
                              rw [Array.append_assoc] at g1 g2 g3
                              refine ⟨_, _, hrun, φ', .slc (off := 0) g1 hcap hcap ?_ (.inl rfl), g2, ?_⟩
                              · have hz1 : (Builtin.zeroCells z.cells (cap - (sl + n))).size = (cap - (sl + n)) * inf.size := by simp [Builtin.zeroCells, h5]
                                have hmul : (sl + n) * inf.size + (cap - (sl + n)) * inf.size = cap * inf.size := by rw [← Nat.add_mul]; congr 1; omega
                                have hsplit : (sl + n) * inf.size = sl * inf.size + n * inf.size := Nat.add_mul _ _ _
                                simp only [Array.size_append, List.size_toArray, hz1, hnl, h10, hol]
                                omega
                              · exact Ext.trans (fun k h3 h4 => by rw [hn1] at h4; omega) (Ext.kill hk) hke g3.of_drew (aNew_ae hke.ok hG1 hn2)
                        · cases hs
                      · cases hs
                    · cases hs
                  · cases hs
                · cases hs
            · cases hs
          · cases hs
      · cases hs
  · cases hs

theorem bytesOf_some : ∀ (vs : List Value) (s r : ByteArray), bytesOf vs s = some r → ∃ ns : List Int, vs = ns.map (Value.int .u8) ∧ r = ns.foldl (fun r n => r.push (UInt8.ofNat n.toNat)) s
  | [], s, r, h => by
    simp only [bytesOf, Option.some.injEq] at h
    exact ⟨[], rfl, h.symm⟩
  | v :: vs, s, r, h => by
    cases v <;> first | (simp [bytesOf] at h; done) | skip
    rename_i k n
    cases k <;> first | (simp [bytesOf] at h; done) | skip
    simp only [bytesOf] at h
    obtain ⟨ns, rfl, h2⟩ := bytesOf_some vs _ r h
    exact ⟨n :: ns, rfl, h2⟩
theorem vrs_bytes {ns : List Int} {l : List Value} (h : VRs φ (ns.map (Value.int .u8)) l) : l = ns.map (Value.int .u8) := by
  induction ns generalizing l with
  | nil => cases h; rfl
  | cons n ns ih =>
    cases h with
    | cons h1 h2 =>
      cases h1
      rw [ih h2]; rfl
theorem evBytes_sound (hE : EnvOK P E) {h : H} (hr : HR E φ h.blks.get w) {t d : TypeId} {x x' v : Value} (hs : evBytes E h t d x = some v) (hx : VR φ x x') : (convert t d x').run P w = .ok v w ∧ plain v = true := by
  unfold evBytes at hs
  split at hs
  · rename_i e _ _ h1 h2
    split at hs
    · rename_i h3
      simp only [Option.some.injEq] at hs
      subst hs
      cases hx
      refine ⟨?_, rfl⟩
      simp [convert, und_run hE h1, und_run hE h2, und_run hE h3, Conv.bytesToString]
    · cases hs
  · rename_i e _ _ _ h1 h2
    split at hs
    · rename_i h3
      simp only [Option.some.injEq] at hs
      subst hs
      cases hx
      rename_i A0
      refine ⟨?_, rfl⟩
      have hload : (loadCells A0 0).run P w = .ok (([] : List Int).map (Value.int .u8)).toArray w := by simp [loadCells, loadCellsFrom]
      have := run_bytesToString (P := P) w A0 0 0 [] hload
      simp only [convert, Sem.run_bind, und_run hE h1, und_run hE h2, und_run hE h3, Result.andThen_ok, this]
      rfl
    · cases hs
  · rename_i e b off n _ h1 h2
    split at hs
    · rename_i h3
      split at hs
      · rename_i vs hrd
        split at hs
        · rename_i s hb
          simp only [Option.some.injEq] at hs
          subst hs
          obtain ⟨ns, rfl, rfl⟩ := bytesOf_some _ _ _ hb
          refine ⟨?_, rfl⟩
          cases hx with
          | slc hφ hle hcm ht hA =>
            rename_i c sh es top m' A
            obtain ⟨vs', hlen, hcell, hv⟩ := rd_sound hr hrd hφ
            have hvs := vrs_bytes hv
            subst hvs
            have hload : (loadCells A n).run P w = .ok (ns.map (Value.int .u8)).toArray w := by
              rcases hA with rfl | hm0
              · exact run_loadCells hlen hcell
              · have hn0 : n = 0 := by omega
                subst hn0
                have : ns = [] := by simpa using hlen
                subst this
                simp [loadCells, loadCellsFrom]
            have := run_bytesToString (P := P) w A n m' ns hload
            simp only [convert, Sem.run_bind, und_run hE h1, und_run hE h2, und_run hE h3, Result.andThen_ok, this]
        · cases hs
      · cases hs
    · cases hs
  · cases hs
end Go.Proofs.YtnjbcgiplfdgmaaGreatDoor.Ev
