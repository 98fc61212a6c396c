/- A call: what the evaluator gives is what the call returns, in every world that holds what was read, on every tape. -/
import Derived.Test.YtnjbcgiplfdgmaaGreatDoorPmEvCode
import Derived.Below
namespace Go.Proofs.YtnjbcgiplfdgmaaGreatDoor.Ev
open Go
variable {P : Program} {E : Env}

theorem envOf_u {types N G : Nat} {t : TypeId} (ht : t < types) : (envOf P types N G).u t = P.underlying t := by
  unfold Env.u envOf
  simp only
  rw [Tr.ofList_get, List.getElem?_map, List.getElem?_range ht]
  rfl
theorem envOf_i {types N G : Nat} {t : TypeId} (ht : t < types) : (envOf P types N G).i t = P.info? t := by
  unfold Env.i envOf
  simp only
  rw [Tr.ofList_get, List.getElem?_map, List.getElem?_range ht]
  rfl
theorem envOf_f {types N G : Nat} {f : FuncId} : (envOf P types N G).fns.get f = P.funcs[f]? := by
  unfold envOf
  simp only
  rw [Tr.ofList_get]
  simp

theorem envOf_ok {types N G : Nat} (hm : P.follows .mixedOrders = true) : EnvOK P (envOf P types N G) := by
  refine ⟨fun t d h => ?_, fun t d h => ?_, fun f fn h => ?_, hm, fun f v h => ?_, fun x hx => (by cases hx), fun g h => ?_⟩
  · by_cases ht : t < types
    · rw [envOf_u ht] at h; exact h
    · unfold Env.u envOf at h
      simp only at h
      rw [Tr.ofList_get, List.getElem?_eq_none (by simpa using ht)] at h; cases h
  · by_cases ht : t < types
    · rw [envOf_i ht] at h; exact h
    · unfold Env.i envOf at h
      simp only at h
      rw [Tr.ofList_get, List.getElem?_eq_none (by simpa using ht)] at h; cases h
  · rw [envOf_f] at h; exact h
  · have : (none : Option Value) = some v := h
    cases this
  · have : (none : Option Nat) = some 0 := h
    cases this

/-- what a call of the evaluator says of the call itself, where all that there was is read alone -/
theorem callRun (hE : EnvOK P E) {F : Nat} {f : FuncId} {args args' : List Value} {h h' : H} {v : Value} (hrun : callWith E (run P E F) f args h = some (v, h')) (hp : plain v = true) {φ : Phi} {w : World} (hok : Hok h) (hG : E.G = h.next)
    (hr : HR E φ h.blks.get w) (hargs : VRs φ args args') (hfresh : ∀ b, h.next ≤ b → φ b = none) : Calls P f args'.toArray w fun e w' => e = .returned v ∧ RowKit.Below w.heap.size w w' := by
  have hc := callWith_ok hE (run_ok hE F)
  obtain ⟨_, hcall⟩ := hc.run f args h v h' hrun φ w args' hok (Nat.le_of_eq hG) hr hargs (fun b hb _ => hfresh b hb)
  refine hcall.mono fun e w' hh => ?_
  obtain ⟨v', rfl, φ', hvr, hr', x⟩ := hh
  rw [hvr.plain hp]
  refine ⟨rfl, x.os, x.tape, x.output, x.size, fun k hk => x.frame k hk fun b y hl hGb => ?_⟩
  exfalso
  have := live_lt hok hl
  omega

/-- the tables that a call may read: variable, cells -/
noncomputable def heapOf (G : Nat) (tabs : List (Nat × List Value)) : H :=
  { blks := tabs.foldl (fun t x => Tr.put t x.1 (.mk (Tr.ofList x.2) x.2.length 1)) .e, next := G, wm := G }

theorem heapOf_get (G : Nat) : ∀ (tabs : List (Nat × List Value)) (t0 : Tr Blk) (b : Nat), ∀ B, (tabs.foldl (fun t x => Tr.put t x.1 (.mk (Tr.ofList x.2) x.2.length 1)) t0).get b = some B →
    t0.get b = some B ∨ ∃ x ∈ tabs, x.1 = b ∧ B = .mk (Tr.ofList x.2) x.2.length 1
  | [], t0, b, B, h => .inl h
  | x :: r, t0, b, B, h => by
    simp only [List.foldl_cons] at h
    rcases heapOf_get G r _ b B h with h1 | ⟨y, hy, h2⟩
    · rw [Tr.get_put] at h1
      split at h1
      · rename_i he
        injection h1 with h1
        exact .inr ⟨x, List.mem_cons_self, he.symm, h1.symm⟩
      · exact .inl h1
    · exact .inr ⟨y, List.mem_cons_of_mem _ hy, h2⟩

/-- where each block of the tables lies -/
noncomputable def tabPhi (G : Nat) (tabs : List (Nat × List Value)) : Phi := fun b => match (heapOf G tabs).blks.get b with
    | some (.mk _ size es) => some (b, 0, es, size)
    | _ => none

theorem tabPhi_mk {G : Nat} {tabs : List (Nat × List Value)} {b : Nat} {cells : Tr Value} {size es : Nat} (hb : (heapOf G tabs).blks.get b = some (.mk cells size es)) : tabPhi G tabs b = some (b, 0, es, size) := by
  show (match (heapOf G tabs).blks.get b with
    | some (.mk _ size es) => some (b, 0, es, size)
    | _ => none) = _
  rw [hb]
theorem tabPhi_none {G : Nat} {tabs : List (Nat × List Value)} {b : Nat} (hb : (heapOf G tabs).blks.get b = none) : tabPhi G tabs b = none := by
  show (match (heapOf G tabs).blks.get b with
    | some (.mk _ size es) => some (b, 0, es, size)
    | _ => none) = _
  rw [hb]

theorem heapOf_ok {G : Nat} {tabs : List (Nat × List Value)} (htabs : ∀ x ∈ tabs, x.1 < G) : Hok (heapOf G tabs) := fun b hb => by
    cases hx : (heapOf G tabs).blks.get b with
    | none => rfl
    | some B =>
      rcases heapOf_get G tabs .e b B hx with h | ⟨x, hx1, hx2, _⟩
      · rw [Tr.get_e] at h; cases h
      · have := htabs x hx1
        have hb' : G ≤ b := hb
        omega

theorem heapOf_rel {types G : Nat} {tabs : List (Nat × List Value)} (htabs : ∀ x ∈ tabs, x.1 < G ∧ x.2.all flat1 = true) {w : World}
    (hw : TabsW tabs w) : HR (envOf P types G G) (tabPhi G tabs) (heapOf G tabs).blks.get w := by
  have hget : ∀ b B, (heapOf G tabs).blks.get b = some B → ∃ x ∈ tabs, x.1 = b ∧ B = .mk (Tr.ofList x.2) x.2.length 1 := fun b B hb => by
    rcases heapOf_get G tabs .e b B hb with h | h
    · rw [Tr.get_e] at h; cases h
    · exact h
  refine ⟨fun b cells size es hb x hx => ?_, fun b b' x x' _ s1 e1 _ s2 e2 _ hb hb' hx hx' he => ?_, fun b cells size es hlt _ hb => ⟨es, size, ?_⟩⟩
  · have hx0 : tabPhi G tabs b = some (b, 0, es, size) := tabPhi_mk hb
    rw [hx0] at hx
    injection hx with hx
    subst hx
    obtain ⟨y, hy1, hy2, hy3⟩ := hget b _ hb
    injection hy3 with e1 e2 e3
    subst e1; subst e2; subst e3
    obtain ⟨cs, ty, fr, hh, hcs⟩ := hw y hy1
    obtain ⟨hyG, hfl⟩ := htabs y hy1
    refine ⟨rfl, cs, ty, fr, by rw [← hy2]; exact hh, fun hGb => ?_, by simp, ?_, fun i hi => ?_⟩
    · exfalso
      have : G ≤ b := hGb
      omega
    · rcases Nat.eq_zero_or_pos y.2.length with h0 | h0
      · omega
      · have := hcs (y.2.length - 1) _ (List.getElem?_eq_getElem (by omega))
        have := (Array.getElem?_eq_some_iff.1 this).1
        omega
    refine ⟨y.2[i], y.2[i], ?_, by simpa using hcs i _ (List.getElem?_eq_getElem hi), VR.flat1 (List.all_eq_true.1 hfl _ (List.getElem_mem hi))⟩
    rw [Tr.ofList_get]
    exact List.getElem?_eq_getElem hi
  · have hx0 : tabPhi G tabs b = some (b, 0, e1, s1) := tabPhi_mk hb
    have hx0' : tabPhi G tabs b' = some (b', 0, e2, s2) := tabPhi_mk hb'
    rw [hx0] at hx
    rw [hx0'] at hx'
    injection hx with hx
    injection hx' with hx'
    subst hx; subst hx'
    exact he
  · exact tabPhi_mk hb

theorem tabPhi_fresh {G : Nat} {tabs : List (Nat × List Value)} (htabs : ∀ x ∈ tabs, x.1 < G) (b : Nat) (hb : G ≤ b) : tabPhi G tabs b = none := tabPhi_none (heapOf_ok htabs b hb)

/-- a call with plain arguments alone -/
theorem closed {types G fuel : Nat} {tabs : List (Nat × List Value)} {f : FuncId} {v : Value} {h' : H} {args : List Value} (hm : P.follows .mixedOrders = true)
    (htabs : ∀ x ∈ tabs, x.1 < G ∧ x.2.all flat1 = true) (hargs : args.all flat1 = true) (hrun : callWith (envOf P types G G) (run P (envOf P types G G) fuel) f args (heapOf G tabs) = some (v, h')) (hp : plain v = true) (w : World)
    (hw : TabsW tabs w) : Calls P f args.toArray w fun e w' => e = .returned v ∧ RowKit.Below w.heap.size w w' :=
  callRun (envOf_ok (types := types) (N := G) (G := G) hm) hrun hp (heapOf_ok fun x hx => (htabs x hx).1) rfl (heapOf_rel htabs hw) (VRs.flat hargs) (tabPhi_fresh fun x hx => (htabs x hx).1)
/-- with what is known of some calls -/
def withKnown (E : Env) (known : Tr Value) (tabs : List (Nat × List Value)) (iters : Tr Nat := .e) : Env := { E with known := known, tabs := tabs, iters := iters }
theorem withKnown_u {kn : Tr Value} {tb : List (Nat × List Value)} {it : Tr Nat} {t : TypeId} : (withKnown E kn tb it).u t = E.u t := rfl
theorem withKnown_i {kn : Tr Value} {tb : List (Nat × List Value)} {it : Tr Nat} {t : TypeId} : (withKnown E kn tb it).i t = E.i t := rfl
theorem withKnown_f {kn : Tr Value} {tb : List (Nat × List Value)} {it : Tr Nat} : (withKnown E kn tb it).fns = E.fns := rfl
theorem withKnown_G {kn : Tr Value} {tb : List (Nat × List Value)} {it : Tr Nat} : (withKnown E kn tb it).G = E.G := rfl
theorem withKnown_iters {kn : Tr Value} {tb : List (Nat × List Value)} {it : Tr Nat} : (withKnown E kn tb it).iters = it := rfl
theorem withKnown_known {kn : Tr Value} {tb : List (Nat × List Value)} {it : Tr Nat} : (withKnown E kn tb it).known = kn := rfl
theorem withKnown_ok {kn : Tr Value} {tb : List (Nat × List Value)} {it : Tr Nat} (hE : EnvOK P E) (hk : ∀ f v, kn.get f = some v → plain v = true ∧ (∃ fn, P.funcs[f]? = some fn ∧ fn.body.isSome = true ∧ fn.name ≠ "runtime.NumGoroutine") ∧ ∀ w, TabsW tb w → Calls P f #[] w fun e w' => e = .returned v ∧ RowKit.Below w.heap.size w w')
    (ht : ∀ x ∈ tb, x.1 < E.N ∧ x.1 < E.G ∧ x.2.all plain = true) (hi : ∀ g, it.get g = some 0 → IterOK P g := by intro g h; cases h) : EnvOK P (withKnown E kn tb it) :=
  ⟨hE.u, hE.i, hE.f, hE.mixed, hk, ht, hi⟩
end Go.Proofs.YtnjbcgiplfdgmaaGreatDoor.Ev
