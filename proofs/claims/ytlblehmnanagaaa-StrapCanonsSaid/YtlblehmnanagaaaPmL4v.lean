/- 'lives()' of stage 4: true on every tape. -/
import Derived.Test.YtlblehmnanagaaaProg
import Derived.Test.YtlblehmnanagaaaPmEvL
import Derived.Test.YtlblehmnanagaaaPmTabs
import Derived.KernelRfl
namespace Go.Proofs.Ytlblehmnanagaaa.PmLives3
open Go Go.Proofs.Ytlblehmnanagaaa.Ev
def isTrue : Option (Value × H) → Bool
  | some (.bool true, _) => true
  | _ => false
theorem of_isTrue {x : Option (Value × H)} (h : isTrue x = true) : ∃ h', x = some (.bool true, h') := by
  unfold isTrue at h
  split at h
  · exact ⟨_, rfl⟩
  · cases h
noncomputable def EnL : Env := envOf Try.prog 108 0 0 [2, 6, 10, 18, 22, 30, 38, 46, 50, 58, 70, 75, 80, 85]
noncomputable def got : Option (Value × H) := callWith EnL (run Try.prog EnL 4000) 13 [] (heapOf 0 tabs)
set_option maxRecDepth 100000 in
theorem lives_run : isTrue got = true := by kernel_rfl
theorem mixed : Try.prog.follows .mixedOrders = true := by kernel_rfl
theorem lives_true (w : World) (h : TabsW tabs w) : Calls Try.prog 13 #[] w fun e w' => e = .returned (.bool true) ∧ RowKit.Below w.heap.size w w' := by
  obtain ⟨h', hrun⟩ := of_isTrue lives_run
  exact closed (types := 108) (G := 0) (fuel := 4000) (tabs := tabs) (args := []) mixed (fun x hx => by cases hx) rfl hrun rfl w h
end Go.Proofs.Ytlblehmnanagaaa.PmLives3

