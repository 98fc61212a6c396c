/- 'lives()' of stage 4: true on every tape. -/
import Derived.Test.YtoeblkenmjbfiaaDoorProg
import Derived.Test.YtoeblkenmjbfiaaDoorPmEvL
import Derived.Test.YtoeblkenmjbfiaaDoorPmoTabs
import Derived.KernelRfl
namespace Go.Proofs.YtoeblkenmjbfiaaDoor.PmoLives
open Go Go.Proofs.YtoeblkenmjbfiaaDoor.Ev
def isTrue : Option (Value × H) → Bool
  | some (.bool true, _) => true
  | _ => false
theorem of_isTrue {x : Option (Value × H)} (h : isTrue x = true) : ∃ h', x = some (.bool true, h') := by
  unfold isTrue at h
  split at h
  · exact ⟨_, rfl⟩
  · cases h
noncomputable def EnL : Env := envOf Tryd.prog 106 0 0 [2, 6, 10, 18, 22, 30, 38, 46, 50, 58, 70, 75, 80, 85]
noncomputable def got : Option (Value × H) := callWith EnL (run Tryd.prog EnL 4000) 9 [] (heapOf 0 tabs)
set_option maxRecDepth 100000 in
theorem lives_run : isTrue got = true := by kernel_rfl
theorem mixed : Tryd.prog.follows .mixedOrders = true := by kernel_rfl
theorem lives_true (w : World) (h : TabsW tabs w) : Calls Tryd.prog 9 #[] w fun e w' => e = .returned (.bool true) ∧ RowKit.Below w.heap.size w w' := by
  obtain ⟨h', hrun⟩ := of_isTrue lives_run
  exact closed (types := 106) (G := 0) (fuel := 4000) (tabs := tabs) (args := []) mixed (fun x hx => by cases hx) rfl hrun rfl w h
end Go.Proofs.YtoeblkenmjbfiaaDoor.PmoLives

