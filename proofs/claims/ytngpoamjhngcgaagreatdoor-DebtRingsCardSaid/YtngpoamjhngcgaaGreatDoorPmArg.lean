/- Arguments that lie in memory: a heap of tables and of the arguments' blocks, which are only read. -/
import Derived.Test.YtngpoamjhngcgaaGreatDoorPmEvL
namespace Go.Proofs.YtngpoamjhngcgaaGreatDoor.Ev
open Go
variable {P : Program} {E : Env}

/-- an argument's block: its cells as the evaluator has them; where they lie in the model's memory -/
structure ArgB where
  L : List Value
  blk : Nat
  off : Nat
  es : Nat
  top : Nat

noncomputable def putArgs : List ArgB → Nat → Tr Blk → Tr Blk
  | [], _, t => t
  | a :: r, i, t => putArgs r (i + 1) (Tr.put t i (.mk (Tr.ofList a.L) a.L.length a.es))

theorem putArgs_get : ∀ (l : List ArgB) (i : Nat) (t : Tr Blk) (b : Nat), (putArgs l i t).get b = if i ≤ b ∧ b < i + l.length then (l[b - i]?).map fun a => .mk (Tr.ofList a.L) a.L.length a.es else t.get b
  | [], i, t, b => by simp [putArgs]; omega
  | a :: l, i, t, b => by
    rw [putArgs, putArgs_get l (i + 1), Tr.get_put]
    simp only [List.length_cons]
    by_cases h1 : b = i
    · subst h1
      rw [if_neg (by omega), if_pos rfl, if_pos (by omega)]
      simp
    · by_cases h2 : i + 1 ≤ b ∧ b < i + 1 + l.length
      · rw [if_pos h2, if_pos (by omega)]
        have : b - i = (b - (i + 1)) + 1 := by omega
        rw [this, List.getElem?_cons_succ]
      · rw [if_neg h2, if_neg h1, if_neg (by omega)]

/-- tables below N, then the arguments -/
noncomputable def heapA (N : Nat) (tabs : List (Nat × List Value)) (args : List ArgB) : H :=
  { blks := putArgs args N (heapOf N tabs).blks, next := N + args.length, wm := N + args.length }

noncomputable def phiA (N : Nat) (tabs : List (Nat × List Value)) (args : List ArgB) : Phi := fun b =>
  if b < N then tabPhi N tabs b else (args[b - N]?).map fun a => (a.blk, a.off, a.es, a.top)

/-- the arguments' cells in the model's memory -/
def ArgsIn (φ : Phi) (args : List ArgB) (w : World) : Prop := ∀ (i : Nat) (a : ArgB), args[i]? = some a → a.off + a.L.length ≤ a.top ∧
  ∃ cs ty fr, w.heap[a.blk]? = some (.cells cs ty fr) ∧ a.top ≤ cs.size ∧ ∀ (j : Nat) (v : Value), a.L[j]? = some v → ∃ v', cs[a.off + j]? = some v' ∧ VR φ v v'

section
variable {N : Nat} {tabs : List (Nat × List Value)} {args : List ArgB}
theorem heapA_low {b : Nat} (hb : b < N) : (heapA N tabs args).blks.get b = (heapOf N tabs).blks.get b := by
  show (putArgs args N (heapOf N tabs).blks).get b = _
  rw [putArgs_get, if_neg (by omega)]
theorem heapA_arg {b : Nat} (hb : N ≤ b) (htabs : ∀ x ∈ tabs, x.1 < N) : (heapA N tabs args).blks.get b = (args[b - N]?).map fun a => .mk (Tr.ofList a.L) a.L.length a.es := by
  show (putArgs args N (heapOf N tabs).blks).get b = _
  rw [putArgs_get]
  by_cases h : N ≤ b ∧ b < N + args.length
  · rw [if_pos h]
  · rw [if_neg h, List.getElem?_eq_none (by omega)]
    exact heapOf_ok htabs b hb
theorem heapA_ok (htabs : ∀ x ∈ tabs, x.1 < N) : Hok (heapA N tabs args) := fun b hb => by
  have hb' : N + args.length ≤ b := hb
  rw [heapA_arg (by omega) htabs, List.getElem?_eq_none (by omega)]
  rfl
theorem phiA_fresh (b : Nat) (hb : N + args.length ≤ b) : phiA N tabs args b = none := by
  show (if b < N then tabPhi N tabs b else (args[b - N]?).map _) = none
  rw [if_neg (by omega), List.getElem?_eq_none (by omega)]
  rfl
theorem phiA_arg {i : Nat} {a : ArgB} (h : args[i]? = some a) : phiA N tabs args (N + i) = some (a.blk, a.off, a.es, a.top) := by
  show (if N + i < N then tabPhi N tabs (N + i) else (args[N + i - N]?).map _) = _
  rw [if_neg (by omega), Nat.add_sub_cancel_left, h]
  rfl

theorem heapA_rel (P : Program) {w : World} (hGN : E.G = N + args.length) (hN : E.N = N) (htabs : ∀ x ∈ tabs, x.1 < N ∧ x.2.all flat1 = true) (hw : TabsW tabs w) (ha : ArgsIn (phiA N tabs args) args w) :
    HR E (phiA N tabs args) (heapA N tabs args).blks.get w := by
  have ht1 : ∀ x ∈ tabs, x.1 < N := fun x hx => (htabs x hx).1
  have hr0 := heapOf_rel (P := P) (types := 0) (fzl := []) htabs hw
  have hmono : ∀ b x, tabPhi N tabs b = some x → phiA N tabs args b = some x := fun b x hx => by
    have hb : b < N := by
      rcases Nat.lt_or_ge b N with h | h
      · exact h
      · rw [tabPhi_fresh ht1 b h] at hx; cases hx
    show (if b < N then tabPhi N tabs b else _) = _
    rw [if_pos hb]; exact hx
  have hno : ∀ (b : Nat) (l : List (Value × Value)), (heapA N tabs args).blks.get b = some (.mp l) → False := fun b l hb => by
    by_cases hlt : b < N
    · rw [heapA_low hlt] at hb
      rcases heapOf_get N tabs .e b _ hb with h | ⟨_, _, _, h⟩
      · rw [Tr.get_e] at h; cases h
      · cases h
    · rw [heapA_arg (by omega) ht1] at hb
      cases hai : args[b - N]? with
      | none => rw [hai] at hb; cases hb
      | some a => rw [hai] at hb; cases hb
  refine ⟨fun b cells size es hb x hx => ?_, fun b b' x x' cells size es cells' size' es' hG hb hb' hx hx' he => ?_, fun b cells size es hlt hbN hb => ?_, fun b b' _ _ _ _ _ _ _ _ hf _ _ hb => ?_, ⟨fun b l hb => (hno b l hb).elim, fun b _ l _ _ _ hb => (hno b l hb).elim⟩⟩
  · by_cases hlt : b < N
    · rw [heapA_low hlt] at hb
      have hx' : tabPhi N tabs b = some x := by
        have : phiA N tabs args b = tabPhi N tabs b := by
          show (if b < N then tabPhi N tabs b else _) = _
          rw [if_pos hlt]
        rw [this] at hx; exact hx
      obtain ⟨c, sh, es2, top⟩ := x
      obtain ⟨h1, cs, ty, fr, h2, h3, h4, h5, h6⟩ := hr0.blk b cells size es hb _ hx'
      exact ⟨h1, cs, ty, fr, h2, ⟨fun hGb => by omega, fun _ => h3.2 ⟨hlt, hlt⟩⟩, h4, h5, fun i hi => by
        obtain ⟨v, v', g1, g2, g3⟩ := h6 i hi
        exact ⟨v, v', g1, g2, g3.mono hmono⟩⟩
    · rw [heapA_arg (by omega) ht1] at hb
      cases hai : args[b - N]? with
      | none => rw [hai] at hb; cases hb
      | some a =>
        rw [hai] at hb
        injection hb with hb
        injection hb with e1 e2 e3
        subst e1; subst e2; subst e3
        have hphi := phiA_arg (N := N) (tabs := tabs) hai
        rw [show N + (b - N) = b by omega, hx] at hphi
        injection hphi with hphi
        subst hphi
        obtain ⟨h1, cs, ty, fr, h2, h3, h4⟩ := ha _ a hai
        have hlt2 : b - N < args.length := (List.getElem?_eq_some_iff.1 hai).1
        refine ⟨rfl, cs, ty, fr, h2, ⟨fun hGb => by omega, fun hg => absurd hg.2 (by omega)⟩, h1, h3, fun i hi => ?_⟩
        obtain ⟨v', g1, g2⟩ := h4 i _ (List.getElem?_eq_getElem hi)
        exact ⟨a.L[i], v', by rw [Tr.ofList_get]; exact List.getElem?_eq_getElem hi, g1, g2⟩
  · exfalso
    have : b < N + args.length := by
      rcases Nat.lt_or_ge b (N + args.length) with h | h
      · exact h
      · rw [heapA_ok ht1 b h] at hb; cases hb
    omega
  · have hbN' : b < N := by omega
    rw [heapA_low hbN'] at hb
    exact ⟨es, size, hmono _ _ (tabPhi_mk hb)⟩
  · intros
    exfalso
    have h1 := frz_G hf
    have : b < N + args.length := by
      rcases Nat.lt_or_ge b (N + args.length) with h | h
      · exact h
      · rw [heapA_ok ht1 b h] at hb; cases hb
    omega
end

/-- cells of a slice that was handed in -/
theorem cells_world {w : World} {a : Addr} {n : Nat} (h0 : 0 < n) {V : Nat → Value} (hsp : a.spot = none) (h : ∀ i, i < n → w.cell? (a.add i) = some (V i)) :
    ∃ cs ty fr, w.heap[a.block]? = some (.cells cs ty fr) ∧ a.off + n ≤ cs.size ∧ ∀ i, i < n → cs[a.off + i]? = some (V i) := by
  have ha : ∀ i, a.add i = ⟨a.block, a.off + i, none⟩ := fun i => by
    cases a
    simp only at hsp
    subst hsp
    rw [add_mk]
  have hc := h 0 h0
  rw [ha] at hc
  unfold World.cell? at hc
  simp only at hc
  split at hc
  · rename_i cs ty fr hh
    have hall : ∀ i, i < n → cs[a.off + i]? = some (V i) := fun i hi => by
      have h2 := h i hi
      rw [ha] at h2
      unfold World.cell? at h2
      simpa [hh] using h2
    refine ⟨cs, ty, fr, hh, ?_, hall⟩
    have := (Array.getElem?_eq_some_iff.1 (hall (n - 1) (by omega))).1
    omega
  · cases hc
end Go.Proofs.YtngpoamjhngcgaaGreatDoor.Ev

