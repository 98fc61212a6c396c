/- slices.SortFunc of structs, by what the library's contract says: what an evaluator may know of it. -/
import Derived.Test.YtnhbkoeomefkdaaDoorPmSf2
set_option linter.unusedVariables false
set_option linter.unusedSimpArgs false
namespace Go.Proofs.YtnhbkoeomefkdaaDoor.Ev
open Go Go.RowKit
variable {P : Program} {E : Env}
noncomputable section

/-- the i-th element; beyond the last one: the last one -/
def elt (k n : Nat) (l : List Value) (i : Nat) : List Value := (chunks k n l).getD (min i (n - 1)) []
theorem elt_get {k n : Nat} {l : List Value} {i : Nat} (hi : i < n) : (chunks k n l)[i]? = some (elt k n l i) := by
  unfold elt
  rw [show min i (n - 1) = i by omega]
  have : i < (chunks k n l).length := by rw [chunks_len]; exact hi
  rw [List.getD_eq_getElem?_getD, List.getElem?_eq_getElem this]
  rfl
theorem elt_mem {k n : Nat} {l : List Value} {i : Nat} (hn : 0 < n) : elt k n l i ∈ chunks k n l := by
  have h1 : elt k n l i = elt k n l (min i (n - 1)) := by
    unfold elt
    rw [show min (min i (n - 1)) (n - 1) = min i (n - 1) by omega]
  rw [h1]
  exact List.mem_of_getElem? (elt_get (by omega))
theorem elt_eq {k n : Nat} {l : List Value} {i : Nat} (hn : 0 < n) : elt k n l i = (l.drop (min i (n - 1) * k)).take k := by
  have h1 : elt k n l i = elt k n l (min i (n - 1)) := by
    unfold elt
    rw [show min (min i (n - 1)) (n - 1) = min i (n - 1) by omega]
  rw [h1]
  have h2 := elt_get (k := k) (l := l) (show min i (n - 1) < n by omega)
  rw [chunks_get (by omega)] at h2
  injection h2 with h2
  exact h2.symm
theorem elt_range {k n : Nat} {l : List Value} : (List.range n).map (elt k n l) = chunks k n l := by
  apply List.ext_getElem?
  intro i
  by_cases hi : i < n
  · rw [elt_get hi, List.getElem?_map, List.getElem?_range hi]
    rfl
  · rw [List.getElem?_eq_none (by simp; omega), List.getElem?_eq_none (by rw [chunks_len]; omega)]

theorem strictE_u {t : TypeId} : (strictE E).u t = E.u t := rfl
theorem strictE_i {t : TypeId} : (strictE E).i t = E.i t := rfl
theorem strictE_f : (strictE E).fns = E.fns := rfl
theorem strictE_G : (strictE E).G = E.G := rfl
theorem strictE_N : (strictE E).N = E.N := rfl
theorem strictE_fzl : (strictE E).fzl = E.fzl := rfl
theorem strictE_known : (strictE E).known = E.known := rfl
theorem strictE_orc : (strictE E).orc = E.orc := rfl
theorem strictE_s : (strictE E).strict = true := rfl
theorem envOf_N {types N G : Nat} {fzl : List Nat} : (envOf P types N G fzl).N = N := rfl
theorem envOf_G {types N G : Nat} {fzl : List Nat} : (envOf P types N G fzl).G = G := rfl
theorem envOf_known {types N G : Nat} {fzl : List Nat} : (envOf P types N G fzl).known = .e := rfl
theorem envOf_orc {types N G : Nat} {fzl : List Nat} : (envOf P types N G fzl).orc = .e := rfl

set_option maxHeartbeats 8000000 in
theorem orcSortF {f g : FuncId} {k : Nat} {ok : Nat → H → List Value → Prop} {cf : H → List Value → List Value → Int} {Es : Nat → Env} (hfn : ∃ fn, P.funcs[f]? = some fn ∧ fn.body.isSome = true ∧ fn.name ≠ "runtime.NumGoroutine")
    (hEs : ∀ G, EnvOK P (Es G)) (hst : ∀ G, (Es G).strict = true) (hG : ∀ G, (Es G).G = G) (hN : ∀ G, (Es G).N = E.N) (hfs : ∀ G b, (Es G).frz b = false) (hNG : E.N ≤ E.G) (hfz : ∀ b, E.frz b = false)
    (hgb : ((P.funcs[g]?).map fun fn => fn.body.isSome) = some true) (hC : CmpOK P Es g k ok cf)
    (h0 : ∀ (p : Option Addr) (cap : Nat) (fv : Value) (w : World), Calls P f #[.slice p 0 cap, fv] w fun e w' => e = .returned (.tuple #[]) ∧ w' = w)
    (hc : ∀ (enc : Nat → List Value) (cfa : Nat → Nat → Int) (blk off cap : Nat) (d : Array Nat) (w : World), (∀ x, (enc x).length = k) → (∀ x, ∀ v ∈ enc x, v.oneCell' = true) → Sort.SWO (Go.Proofs.ltOf cfa) → Go.Proofs.CmpLays P g #[] enc k cfa blk off d.size w → Sort.HoldsK enc k w blk off d → blk < w.heap.size → d.size < 4611686018427387904 →
      Calls P f #[.slice (some ⟨blk, off, none⟩) d.size cap, .func (.func g) #[] #[]] w fun e w' => e = .returned (.tuple #[]) ∧ ∃ n os, w' = Go.Proofs.sortWorldK enc k w blk off n (Sort.pdq (Go.Proofs.ltOf cfa) d 0 d.size (Lib.bitLen d.size) true true) os) : OrcOK P E f (gSortF k g ok cf) := by
  refine ⟨hfn, fun args h v hv => ?_⟩
  unfold gSortF at hv
  split at hv
  · refine .inr ?_
    rename_i b off n m f' fs csv
    split at hv
    · rename_i cells hrd
      split at hv
      · rename_i hcond
        obtain ⟨rfl, rfl, rfl, hn0, hk0, hlen, hnb, hok, huq, hone⟩ := hcond
        injection hv with hv
        subst hv
        obtain ⟨lt, hlt⟩ : ∃ lt : List Value → List Value → Bool, lt = fun x y => decide (cf h x y < 0) := ⟨_, rfl⟩
        rw [← hlt]
        refine ⟨b, off, _, rfl, fun φ w args' hHok hGb hfb hr ht ha => ?_⟩
        obtain ⟨M, φ', hM, hM1, hM2, hM3, hr', ha'⟩ := HR.cut hHok hr ha
        cases ha' with
        | cons a1 a2 =>
          cases a2 with
          | cons a2 a3 =>
            cases a3
            cases a2 with
            | func fn q1 q2 q3 q4 =>
              rename_i fs' cs'
              obtain rfl : fs' = #[] := Array.eq_empty_of_size_eq_zero (by simpa using q1.symm)
              obtain rfl : cs' = #[] := Array.eq_empty_of_size_eq_zero (by simpa using q2.symm)
              cases a1 with
              | slc hφ hn hm htop hA =>
                rename_i c sh es top m' A
                have hA : A = ⟨c, sh + off, none⟩ := by
                  rcases hA with h1 | h1
                  · exact h1
                  · omega
                subst hA
                unfold rd at hrd
                split at hrd
                · rename_i cs0 size es0 hb0
                  split at hrd
                  · rename_i hsz
                    have hltc := hr'.lt hb0 hφ
                    have hbn : b < h.next := by
                      rcases Nat.lt_or_ge b h.next with g | g
                      · exact g
                      · rw [hHok b g] at hb0; cases hb0
                    obtain ⟨_, cs, ty, fr, hh, _, h3, h4, h5⟩ := hr'.blk b _ _ _ hb0 _ hφ
                    have hget : ∀ j, j < n * k → cs0.get (off + j) = cells[j]? := fun j hj => (getCells_some _ _ _ _ hrd).2 j hj
                    -- the world's own cells
                    obtain ⟨wc, hwc⟩ : ∃ wc : List Value, wc = (List.range (n * k)).map fun j => cs[sh + off + j]?.getD undef := ⟨_, rfl⟩
                    have hwl : wc.length = n * k := by rw [hwc]; simp
                    have hwg : ∀ j, j < n * k → wc[j]? = some (cs[sh + off + j]?.getD undef) := fun j hj => by
                      rw [hwc, List.getElem?_map, List.getElem?_range hj]
                      rfl
                    have hvr : VRs φ' cells wc := VRs.of_get (by omega) fun j h1 h2 => by
                      obtain ⟨u, u', p1, p2, p3⟩ := h5 (off + j) (by omega)
                      rw [hget j (by omega), List.getElem?_eq_getElem h1] at p1
                      injection p1 with p1
                      subst p1
                      have := hwg j (by omega)
                      rw [List.getElem?_eq_getElem h2] at this
                      injection this with this
                      rw [this, show sh + off + j = sh + (off + j) by omega, p2]
                      exact p3
                    have hwone : wc.all oneB = true := by rw [hvr.one]; exact hone
                    have hev : ∀ i, VRs φ' (elt k n cells i) (elt k n wc i) := fun i => by
                      rw [elt_eq hn0, elt_eq hn0]
                      exact (hvr.drop _).take _
                    have hel : ∀ i, (elt k n cells i).length = k := fun i => chunks_mem_len hlen _ (elt_mem hn0)
                    have hwl' : ∀ i, (elt k n wc i).length = k := fun i => chunks_mem_len hwl _ (elt_mem hn0)
                    have hwo : ∀ i, ∀ v ∈ elt k n wc i, oneB v = true := fun i v hv => by
                      rw [elt_eq hn0] at hv
                      exact List.all_eq_true.1 hwone v (List.mem_of_mem_drop (List.mem_of_mem_take hv))
                    have hoke : ∀ i, ok b h (elt k n cells i) := fun i => hok _ (elt_mem hn0)
                    obtain ⟨cfa, hcfa⟩ : ∃ cfa : Nat → Nat → Int, cfa = fun i j => cf h (elt k n cells i) (elt k n cells j) := ⟨_, rfl⟩
                    have hlta : ∀ i j, Go.Proofs.ltOf cfa i j = lt (elt k n cells i) (elt k n cells j) := fun i j => by rw [hlt, hcfa]; rfl
                    have hswo : Sort.SWO (Go.Proofs.ltOf cfa) := by
                      refine ⟨fun x => ?_, fun x y z h1 h2 => ?_, fun x y z h1 h2 => ?_⟩
                      · rw [hcfa]; exact decide_eq_false (hC.irr b h _ (hoke x))
                      · rw [hcfa] at h1 h2 ⊢
                        exact decide_eq_true (hC.tr b h _ _ _ (hoke x) (hoke y) (hoke z) (of_decide_eq_true h1) (of_decide_eq_true h2))
                      · rw [hcfa] at h1 h2 ⊢
                        exact decide_eq_false (hC.ntr b h _ _ _ (hoke x) (hoke y) (hoke z) (of_decide_eq_false h1) (of_decide_eq_false h2))
                    -- what the sort makes
                    obtain ⟨D, hD⟩ : ∃ D, D = Sort.pdq (Go.Proofs.ltOf cfa) (Array.range n) 0 (Array.range n).size (Lib.bitLen (Array.range n).size) true true := ⟨_, rfl⟩
                    have hrs : (Array.range n).size = n := by simp
                    obtain ⟨hperm, hsort⟩ := Sort.pdq_sorts (Go.Proofs.ltOf cfa) hswo (Array.range n) 0 (Array.range n).size (Lib.bitLen (Array.range n).size) true true (Nat.zero_le _) (Nat.le_refl _) (Or.inl rfl)
                    rw [← hD] at hperm hsort
                    obtain ⟨hDs, _, hDp⟩ := hperm
                    rw [hrs] at hDs hDp hsort
                    have hDp' : D.toList.Perm (List.range n) := by
                      have e1 : D.extract 0 n = D := by
                        rw [← hDs]
                        exact Array.extract_size
                      have e2 : (Array.range n).extract 0 n = Array.range n := by
                        have := Array.extract_size (xs := Array.range n)
                        rwa [hrs] at this
                      rw [e1, e2, Array.toList_range] at hDp
                      exact hDp
                    have hres : srtL lt (chunks k n cells) = D.toList.map (elt k n cells) := by
                      have hmem : ∀ x ∈ chunks k n cells, ok b h x := hok
                      refine sorted_unique (lt := lt) ((srtL_perm _).trans ?_) (srtL_sorted _ (fun x hx y hy z hz h1 h2 => ?_) fun x hx y hy h1 => ?_) ?_ fun x hx y hy h1 h2 => ?_
                      · rw [← elt_range]
                        exact (hDp'.map _).symm
                      · rw [hlt] at h1 h2 ⊢
                        exact decide_eq_false (hC.ntr b h _ _ _ (hmem z hz) (hmem y hy) (hmem x hx) (of_decide_eq_false h2) (of_decide_eq_false h1))
                      · rw [hlt] at h1 ⊢
                        refine decide_eq_false fun h2 => hC.irr b h x (hmem x hx) (hC.tr b h _ _ _ (hmem x hx) (hmem y hy) (hmem x hx) (of_decide_eq_true h1) h2)
                      · rw [List.pairwise_map]
                        refine List.pairwise_iff_getElem.2 fun i j hi hj hij => ?_
                        have := hsort i j (Nat.zero_le _) hij (by simpa [hDs] using hj)
                        rw [← hlta]
                        have e1 : D[i]! = D.toList[i] := by simp at hi; simp [hi]
                        have e2 : D[j]! = D.toList[j] := by simp at hj; simp [hj]
                        rw [e1, e2] at this
                        exact this
                      · have hx' := (srtL_perm (lt := lt) _).mem_iff.1 hx
                        have hy' := (srtL_perm (lt := lt) _).mem_iff.1 hy
                        rw [hlt] at h1 h2
                        exact huq x hx' y hy' (of_decide_eq_false h1) (of_decide_eq_false h2)
                    rw [hres]
                    have hDl : D.toList.length = n := by simpa using hDs
                    refine ⟨c, sh, es, top, (D.toList.map (elt k n wc)).flatten, ?_, ?_, fun w1 hrun => ?_⟩
                    · rw [← hM2 b hbn]; exact hφ
                    · have := VRs.flat' hev D.toList
                      exact this.mono hM3
                    · have hfl : ∀ d : List Nat, ∀ v ∈ (d.map (elt k n wc)).flatten, oneB v = true := fun d v hv => by
                        obtain ⟨l, hl, hv⟩ := List.mem_flatten.1 hv
                        obtain ⟨i, _, rfl⟩ := List.mem_map.1 hl
                        exact hwo i v hv
                      obtain ⟨hfr, hw1⟩ := storeCells_ok _ 0 w w1 cs (hfl D.toList) hh (by rw [flat_len hwl', hDl]; omega) hrun
                      rw [flat_len hwl', hDl] at hfr
                      simp only [Nat.add_zero] at hfr hw1
                      have hflK : ∀ d : Array Nat, Sort.flatK (elt k n wc) k d = ((d.toList.map (elt k n wc)).flatten).toArray := fun d => by
                        apply Array.toList_inj.1
                        rw [flatK_list hk0 hwl']
                      have hHolds : Sort.HoldsK (elt k n wc) k w c (sh + off) (Array.range n) := by
                        intro j hj
                        have hj' : j < n * k := by rw [Sort.size_flatK] at hj; simpa using hj
                        refine ⟨?_, hfr j hj'⟩
                        have e1 : (Sort.flatK (elt k n wc) k (Array.range n))[j]! = wc[j]?.getD undef := by
                          rw [hflK, Array.toList_range, elt_range, chunks_flatten hwl]
                          rw [hwg j hj']
                          have : j < wc.length := by omega
                          have h2 := hwg j hj'
                          rw [List.getElem?_eq_getElem this] at h2
                          injection h2 with h2
                          simp [this, h2]
                        rw [e1, hwg j hj']
                        simp only [id, Option.getD_some, World.cell?, hh]
                        have : sh + off + j < cs.size := by omega
                        simp [this]
                      have hcmp : Go.Proofs.CmpLays P f' #[] (elt k n wc) k cfa c (sh + off) (Array.range n).size w := by
                        intro q os dk hdk x y
                        rw [hrs] at hdk
                        have hdl : dk.toList.length = n := by simpa using hdk
                        -- the heap of the evaluator, with the row in this order
                        obtain ⟨w2, hrun2, hr2, _⟩ := store_list (P := P) hφ hGb (hfz b) (dk.toList.map (elt k n cells)).flatten (dk.toList.map (elt k n wc)).flatten off 0 cs0 h.blks.get w hr' hb0 (VRs.flat' hev _) (by rw [flat_len hel, hdl]; omega) (List.all_eq_true.2 (hfl dk.toList))
                        obtain ⟨_, hw2⟩ := storeCells_ok _ 0 w w2 cs (hfl dk.toList) hh (by rw [flat_len hwl', hdl]; omega) hrun2
                        simp only [Nat.add_zero] at hw2
                        have hF : (Sort.flatK (elt k n wc) k dk).toList = (dk.toList.map (elt k n wc)).flatten := flatK_list hk0 hwl' dk
                        have hbel : Below w2.heap.size w2 (Go.Proofs.sortWorldK (elt k n wc) k w c (sh + off) q dk os) := by
                          rw [hw2, ← hF]
                          exact below_putF
                        have hrW := hr2.below hbel
                        generalize Go.Proofs.sortWorldK (elt k n wc) k w c (sh + off) q dk os = W at hrW
                        obtain ⟨h2, hh2⟩ : ∃ h2 : H, h2 = { blks := Tr.put h.blks b (.mk (setCells cs0 (off + 0) (dk.toList.map (elt k n cells)).flatten) size es0), next := M, wm := h.wm } := ⟨_, rfl⟩
                        have hput : h2.blks.get = upd h.blks.get b (.mk (setCells cs0 (off + 0) (dk.toList.map (elt k n cells)).flatten) size es0) := by
                          rw [hh2]
                          funext j
                          rw [Tr.get_put]
                          rfl
                        have hnx2 : h2.next = M := by rw [hh2]
                        have hHok2 : Hok h2 := fun j hj => by
                          rw [hnx2] at hj
                          rw [hput]
                          unfold upd
                          rw [if_neg (by omega)]
                          exact hHok j (by omega)
                        have hsame : ∀ j, j ≠ b → h2.blks.get j = h.blks.get j := fun j hj => by
                          rw [hput]
                          unfold upd
                          rw [if_neg hj]
                        have ok2 : ∀ i, ok b h2 (elt k n cells i) := fun i => hC.okm b h h2 _ (hoke i) hsame (by omega)
                        have cf2 : cf h2 (elt k n cells x) (elt k n cells y) = cfa x y := by
                          rw [hcfa]
                          exact hC.cfm b h h2 _ _ (hoke x) (hoke y) hsame (by omega)
                        obtain ⟨F, h3, hcall⟩ := hC.run b h2 _ _ hHok2 (ok2 x) (ok2 y) (hel x) (hel y)
                        rw [cf2, hnx2] at hcall
                        have hrE : HR (Es M) φ' h2.blks.get W := by
                          rw [hput]
                          exact HR.env hrW (hN M) (by rw [hG]; have : b < h.next := hbn; omega) hNG hfz (hfs M)
                        have hargs : VRs φ' [.agg (elt k n cells x).toArray, .agg (elt k n cells y).toArray] [.agg (elt k n wc x).toArray, .agg (elt k n wc y).toArray] :=
                          .cons (.agg (hev x).arr.1 (hev x).arr.2) (.cons (.agg (hev y).arr.1 (hev y).arr.2) .nil)
                        have := callRunS (hst M) (hEs M) hcall rfl hHok2 (by rw [hG, hnx2]) hrE hargs (fun j hj => hM1 j (by rw [hnx2] at hj; exact hj)) hgb
                        exact this.mono fun e w' ⟨he, hb1, hd1⟩ => ⟨he, grown_of hb1 hd1⟩
                      have := hc (elt k n wc) cfa c (sh + off) m' (Array.range n) w hwl' (fun x v hv => oneB_cell (hwo x v hv)) hswo hcmp hHolds hltc (by rw [hrs]; exact hnb)
                      rw [hrs] at this
                      refine this.mono fun e w' ⟨he, q, os, hw'⟩ => ⟨he, ?_⟩
                      have hD2 : Sort.pdq (Go.Proofs.ltOf cfa) (Array.range n) 0 n (Lib.bitLen n) true true = D := by rw [hD, hrs]
                      rw [hw', hw1, hD2, ← flatK_list hk0 hwl']
                      exact below_putF
                  · cases hrd
                · cases hrd
      · cases hv
    · cases hv
  · split at hv
    · rename_i fs cs hcond
      obtain ⟨rfl, rfl⟩ := hcond
      injection hv with hv
      subst hv
      refine .inl ⟨rfl, fun _ => .tuple rfl fun i h3 h4 => by simp at h3, fun φ w args' hr ht ha => ?_⟩
      cases ha with
      | cons a1 a2 =>
        cases a2 with
        | cons a2 a3 =>
          cases a3
          cases a1 with
          | nils => exact (h0 none 0 _ w).mono fun e w' ⟨he, hw⟩ => ⟨he, by rw [hw]; exact Below.refl _ _⟩
    · cases hv
  · cases hv
end
end Go.Proofs.YtnhbkoeomefkdaaDoor.Ev

