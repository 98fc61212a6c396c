/- A law's call whose arguments lie in memory, out of the evaluator's run. -/
import Derived.Test.YtnhbkoeomefkdaaDoorPmhC0b
import Derived.Test.YtnhbkoeomefkdaaDoorPmArg
import Derived.Carry
import Derived.SizedLaws
import Derived.Deep.Slices
import Derived.Test.YtnhbkoeomefkdaaDoorPmhQ1
set_option linter.unusedVariables false
set_option linter.unusedSimpArgs false
namespace Go.Proofs.YtnhbkoeomefkdaaDoor.PmC
open Go.ChangeShapes Go.WideShapes Go.ChangeAt Go.RowKit
open Go.Proofs Go.Proofs.YtnhbkoeomefkdaaDoor
open Go.Proofs.YtnhbkoeomefkdaaDoor.Ev (TabsW TabsIn tabs vals0 vals1 vals2 En H CallsE callRun Hok HR Tr VR VRs Phi ArgB heapA phiA ArgsIn heapA_rel heapA_ok heapA_low heapA_arg phiA_fresh phiA_arg cells_world SlV Blk)

/-- one argument's cells in the model's memory -/
def ArgIn (φ : Phi) (a : ArgB) (w : World) : Prop := a.off + a.L.length ≤ a.top ∧
  ∃ cs ty fr, w.heap[a.blk]? = some (.cells cs ty fr) ∧ a.top ≤ cs.size ∧ ∀ (j : Nat) (v : Value), a.L[j]? = some v → ∃ v', cs[a.off + j]? = some v' ∧ VR φ v v'
theorem argsIn_mk {φ : Phi} {l : List ArgB} {w : World} (h : ∀ a ∈ l, ArgIn φ a w) : ArgsIn φ l w := fun _ a ha => h a (List.mem_of_getElem? ha)

theorem heapA_tabs (bs : List ArgB) : TabsIn tabs (heapA 3 tabs bs).blks := fun x hx => by
  obtain ⟨c, s, e, h⟩ := heap_tabs x hx
  exact ⟨c, s, e, by rw [heapA_low (tabs_small x hx).1]; exact h.1, h.2⟩

/-- a law, its arguments read where they lie -/
theorem calls_args {f : FuncId} {args args' : List Value} {bs : List ArgB} {W : World} (hargs : VRs (phiA 3 tabs bs) args args') (hbs : ArgsIn (phiA 3 tabs bs) bs W)
    (hs : CallsE Tryd.prog (En (3 + bs.length)) f args (heapA 3 tabs bs) fun v _ => v = .bool true) (hW : TabsW tabs W) (hb : ((Tryd.prog.funcs[f]?).map fun fn => fn.body.isSome) = some true := by kernel_rfl) :
    Calls Tryd.prog f args'.toArray W fun e w' => e = .returned (.bool true) ∧ Below W.heap.size W w' := by
  obtain ⟨F, v, h', hrun, rfl⟩ := hs
  have ht : ∀ x ∈ tabs, x.1 < 3 := fun x hx => (tabs_small x hx).1
  have hEG : (En (3 + bs.length)).G = 3 + bs.length := Ev.En_G
  exact callRun (En_ok (by omega)) hrun rfl (heapA_ok ht) hEG (heapA_rel Tryd.prog hEG rfl tabs_small hW hbs) hargs (phiA_fresh) hb

theorem tab_there {W : World} (hW : TabsW tabs W) : ∃ cs ty fr, W.heap[0]? = some (.cells cs ty fr) := by
  obtain ⟨cs, ty, fr, h, _⟩ := hW (0, vals0) (by simp [tabs])
  exact ⟨cs, ty, fr, h⟩

/-- a slice that came in is what was read of it, so long -/
def Long {H : Type} (d : DataW H) (n : Nat) : Prop := n = 0 ∨ ∃ elems spare, d = .slice elems spare ∧ elems.length = n
theorem Long.top {H : Type} {d : DataW H} {n : Nat} (h : Long d n) (hs : ∀ elems spare, d = .slice elems spare → (elems.length + spare.length) * Tryd.prog.bytesOf 61 ≤ reachBytes) : n < 4611686018427387904 := by
  rcases h with rfl | ⟨e, s, hd, rfl⟩
  · decide
  · have h1 := hs e s hd
    have hb : Tryd.prog.bytesOf 61 = 24 := by kernel_rfl
    rw [hb] at h1
    have h2 := reachBytes_lt
    omega
end Go.Proofs.YtnhbkoeomefkdaaDoor.PmC

