/- 'lives()' of stage 2: true in every world that holds the tables, on every tape. -/
import Derived.Test.YtngpoamjhngcgaaGreatDoorProg
import Derived.Test.YtngpoamjhngcgaaGreatDoorPmeTabs
import Derived.KernelRfl
namespace Go.Proofs.YtngpoamjhngcgaaGreatDoor.PmeLives
open Go Go.Proofs.YtngpoamjhngcgaaGreatDoor.Ev
def isTrue : Option (Value × H) → Bool
  | some (.bool true, _) => true
  | _ => false
theorem of_isTrue {x : Option (Value × H)} (h : isTrue x = true) : ∃ h', x = some (.bool true, h') := by
  unfold isTrue at h
  split at h
  · exact ⟨_, rfl⟩
  · cases h
noncomputable def got : Option (Value × H) := callWith (envOf Tryz.prog 270 4 4) (run Tryz.prog (envOf Tryz.prog 270 4 4) 4000) 22 [] (heapOf 4 tabs)
set_option maxRecDepth 100000 in
theorem lives_run : isTrue got = true := by kernel_rfl
theorem mixed : Tryz.prog.follows .mixedOrders = true := by kernel_rfl
theorem lives_true (w : World) (h : TabsW tabs w) : Calls Tryz.prog 22 #[] w fun e w' => e = .returned (.bool true) ∧ RowKit.Below w.heap.size w w' := by
  obtain ⟨h', hrun⟩ := of_isTrue lives_run
  refine closed (types := 270) (G := 4) (fuel := 4000) (tabs := tabs) (args := []) mixed (fun x hx => ?_) rfl hrun rfl w h
  simp only [tabs, List.mem_cons, List.not_mem_nil, or_false] at hx
  rcases hx with rfl | rfl | rfl <;> exact ⟨by decide, by decide⟩
end Go.Proofs.YtngpoamjhngcgaaGreatDoor.PmeLives

