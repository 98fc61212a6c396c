/- Functions of Go's library, by what the library's contracts say of them. -/
import Derived.Test.YtngpoamjhngcgaaGreatDoorPmEvL
import Derived.Lib.Join
import Derived.Lib.Repeat
import Derived.Lib.ItoaNum
import Derived.Lib.LaidTab
set_option linter.unusedVariables false
namespace Go.Proofs.YtngpoamjhngcgaaGreatDoor.Ev
open Go Go.RowKit
variable {P : Program} {E : Env}
noncomputable section
/-- with some functions by their contracts -/
def withOrc (E : Env) (orc : Tr (List Value → H → Option Value)) : Env := { E with orc := orc }
theorem withOrc_u {o : Tr (List Value → H → Option Value)} {t : TypeId} : (withOrc E o).u t = E.u t := rfl
theorem withOrc_i {o : Tr (List Value → H → Option Value)} {t : TypeId} : (withOrc E o).i t = E.i t := rfl
theorem withOrc_f {o : Tr (List Value → H → Option Value)} : (withOrc E o).fns = E.fns := rfl
theorem withOrc_G {o : Tr (List Value → H → Option Value)} : (withOrc E o).G = E.G := rfl
theorem withOrc_fzl {o : Tr (List Value → H → Option Value)} : (withOrc E o).fzl = E.fzl := rfl
theorem withOrc_known {o : Tr (List Value → H → Option Value)} : (withOrc E o).known = E.known := rfl
theorem withOrc_orc {o : Tr (List Value → H → Option Value)} : (withOrc E o).orc = o := rfl
theorem HR.orc {o : Tr (List Value → H → Option Value)} {φ : Phi} {g : Nat → Option Blk} {w : World} : HR (withOrc E o) φ g w ↔ HR E φ g w := ⟨fun h => ⟨h.blk, h.inj, h.glob, h.mono, ⟨h.mp.blk, h.mp.inj⟩⟩, fun h => ⟨h.blk, h.inj, h.glob, h.mono, ⟨h.mp.blk, h.mp.inj⟩⟩⟩
/-- what is asked of a contract -/
def OrcOK (P : Program) (E : Env) (f : FuncId) (g : List Value → H → Option Value) : Prop :=
  (∃ fn, P.funcs[f]? = some fn ∧ fn.body.isSome = true ∧ fn.name ≠ "runtime.NumGoroutine") ∧ ∀ args h v, g args h = some v →
    (wrOf v = none ∧ (∀ φ : Phi, VR φ v v) ∧ ∀ φ w args', HR E φ h.blks.get w → TabsW E.tabs w → VRs φ args args' → Calls P f args'.toArray w fun e w' => e = .returned v ∧ Below w.heap.size w w') ∨
    (∃ b off vs, v = wrV b off vs ∧ ∀ φ w args', Hok h → E.G ≤ b → E.frz b = false → HR E φ h.blks.get w → TabsW E.tabs w → VRs φ args args' → ∃ c sh es top vs', φ b = some (c, sh, es, top) ∧ VRs φ vs vs' ∧
      ∀ w1, (storeCells ⟨c, sh + off, none⟩ vs').run P w = .ok () w1 → Calls P f args'.toArray w fun e w' => e = .returned (.tuple #[]) ∧ Below w1.heap.size w1 w')
theorem withOrc_ok {o : Tr (List Value → H → Option Value)} (hE : EnvOK P E) (ho : ∀ f g, o.get f = some g → OrcOK P E f g) (hs : E.strict = false := by rfl) : EnvOK P (withOrc E o) :=
  ⟨hE.u, hE.i, hE.f, hE.mixed, hE.known, hE.tabs, hE.iters, fun f g h => ⟨(ho f g h).1, fun args h v hv => by
    rcases (ho f g ‹_›).2 args h v hv with ⟨h0, h1, h2⟩ | ⟨b, off, vs, h1, h2⟩
    · exact .inl ⟨h0, h1, fun φ w args' hr ht ha => h2 φ w args' (HR.orc.1 hr) ht ha⟩
    · exact .inr ⟨b, off, vs, h1, fun φ w args' hk hG hf hr ht ha => h2 φ w args' hk hG hf (HR.orc.1 hr) ht ha⟩⟩, fun h => by rw [show (withOrc E o).strict = E.strict from rfl, hs] at h; cases h⟩
end
end Go.Proofs.YtngpoamjhngcgaaGreatDoor.Ev

