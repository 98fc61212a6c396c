/- A global variable whose cells point into memory, beside the arguments: a heap that is only read. -/
import Derived.Test.YtoeblkenmjbfiaaDoorPmArg
set_option linter.unusedVariables false
set_option linter.unusedSimpArgs false
namespace Go.Proofs.YtoeblkenmjbfiaaDoor.Ev
open Go
variable {P : Program} {E : Env}

/-- the variable 0 with its cells, then blocks of arguments -/
noncomputable def heapG (vs : List Value) (args : List ArgB) : H :=
  { blks := Tr.put (putArgs args 1 .e) 0 (.mk (Tr.ofList vs) vs.length 1), next := 1 + args.length, wm := 1 + args.length }
noncomputable def phiG (vs : List Value) (args : List ArgB) : Phi := fun b => if b = 0 then some (0, 0, 1, vs.length) else (args[b - 1]?).map fun a => (a.blk, a.off, a.es, a.top)

section
variable {vs : List Value} {args : List ArgB}
theorem heapG_zero : (heapG vs args).blks.get 0 = some (.mk (Tr.ofList vs) vs.length 1) := by
  show (Tr.put _ 0 _).get 0 = _
  rw [Tr.get_put, if_pos rfl]
theorem heapG_arg {b : Nat} (hb : b ≠ 0) : (heapG vs args).blks.get b = (args[b - 1]?).map fun a => .mk (Tr.ofList a.L) a.L.length a.es := by
  show (Tr.put _ 0 _).get b = _
  rw [Tr.get_put, if_neg hb, putArgs_get]
  by_cases h : 1 ≤ b ∧ b < 1 + args.length
  · rw [if_pos h]
  · rw [if_neg h, List.getElem?_eq_none (by omega), Tr.get_e]
    rfl
theorem heapG_ok : Hok (heapG vs args) := fun b hb => by
  have hb' : 1 + args.length ≤ b := hb
  rw [heapG_arg (by omega), List.getElem?_eq_none (by omega)]
  rfl
theorem phiG_fresh : ∀ b, (heapG vs args).next ≤ b → phiG vs args b = none := fun b hb => by
  have hb' : 1 + args.length ≤ b := hb
  show (if b = 0 then _ else _) = _
  rw [if_neg (by omega), List.getElem?_eq_none (by omega)]
  rfl
theorem phiG_arg {i : Nat} {a : ArgB} (h : args[i]? = some a) : phiG vs args (1 + i) = some (a.blk, a.off, a.es, a.top) := by
  show (if 1 + i = 0 then _ else _) = _
  rw [if_neg (by omega), show 1 + i - 1 = i by omega, h]
  rfl
theorem heapG_rel (P : Program) {w : World} (hG : E.G = 1 + args.length) (hN : E.N = 1)
    (hg : ∃ cs ty fr, w.heap[0]? = some (.cells cs ty fr) ∧ cs.size = vs.length ∧ ∀ (i : Nat) (v : Value), vs[i]? = some v → ∃ v', cs[i]? = some v' ∧ VR (phiG vs args) v v')
    (ha : ArgsIn (phiG vs args) args w) : HR E (phiG vs args) (heapG vs args).blks.get w := by
  have hlow : ∀ b B, (heapG vs args).blks.get b = some B → b < 1 + args.length := fun b B hb => by
    rcases Nat.lt_or_ge b (1 + args.length) with h | h
    · exact h
    · have := heapG_ok (vs := vs) (args := args) b h
      rw [hb] at this; cases this
  have hno : ∀ (b : Nat) (l : List (Value × Value)), (heapG vs args).blks.get b = some (.mp l) → False := fun b l hb => by
    by_cases h0 : b = 0
    · subst h0; rw [heapG_zero] at hb; cases hb
    · rw [heapG_arg h0] at hb
      cases hai : args[b - 1]? with
      | none => rw [hai] at hb; cases hb
      | some a => rw [hai] at hb; cases hb
  refine ⟨fun b cells size es hb x hx => ?_, fun b b' x x' cells size es cells' size' es' hG' hb hb' hx hx' he => ?_, fun b cells size es hlt hbN hb => ?_, fun b b' _ _ _ _ _ _ _ _ hf hf' hlt hb hb' _ _ _ => ?_, ⟨fun b l hb => (hno b l hb).elim, fun b _ l _ _ _ hb => (hno b l hb).elim⟩⟩
  · by_cases h0 : b = 0
    · subst h0
      rw [heapG_zero] at hb
      injection hb with hb
      injection hb with e1 e2 e3
      subst e1; subst e2; subst e3
      have : phiG vs args 0 = some (0, 0, 1, vs.length) := rfl
      rw [this] at hx
      injection hx with hx
      subst hx
      obtain ⟨cs, ty, fr, h1, h2, h3⟩ := hg
      refine ⟨rfl, cs, ty, fr, h1, ⟨fun hGb => by omega, fun _ => h2⟩, by omega, by omega, fun i hi => ?_⟩
      obtain ⟨v', g1, g2⟩ := h3 i _ (List.getElem?_eq_getElem hi)
      exact ⟨vs[i], v', by rw [Tr.ofList_get]; exact List.getElem?_eq_getElem hi, by rw [Nat.zero_add]; exact g1, g2⟩
    · rw [heapG_arg h0] at hb
      cases hai : args[b - 1]? with
      | none => rw [hai] at hb; cases hb
      | some a =>
        rw [hai] at hb
        injection hb with hb
        injection hb with e1 e2 e3
        subst e1; subst e2; subst e3
        have hphi := phiG_arg (vs := vs) hai
        rw [show 1 + (b - 1) = b by omega, hx] at hphi
        injection hphi with hphi
        subst hphi
        obtain ⟨h1, cs, ty, fr, h2, h3, h4⟩ := ha _ a hai
        have hlt2 : b - 1 < args.length := (List.getElem?_eq_some_iff.1 hai).1
        refine ⟨rfl, cs, ty, fr, h2, ⟨fun hGb => by omega, fun hg => absurd hg.2 (by omega)⟩, h1, h3, fun i hi => ?_⟩
        obtain ⟨v', g1, g2⟩ := h4 i _ (List.getElem?_eq_getElem hi)
        exact ⟨a.L[i], v', by rw [Tr.ofList_get]; exact List.getElem?_eq_getElem hi, g1, g2⟩
  · exfalso
    have := hlow b _ hb
    omega
  · obtain rfl : b = 0 := by omega
    exact ⟨1, vs.length, rfl⟩
  · have h1 := frz_G hf
    have := hlow b _ hb
    omega
end
end Go.Proofs.YtoeblkenmjbfiaaDoor.Ev

