/- 'lives()' of stage 2: true in every world that holds the tables, on every tape. -/
import Derived.Test.YtnhbkoeomefkdaaDoorProg
import Derived.Test.YtnhbkoeomefkdaaDoorPmhTabs
import Derived.KernelRfl
namespace Go.Proofs.YtnhbkoeomefkdaaDoor.PmhLives
open Go Go.Proofs.YtnhbkoeomefkdaaDoor.Ev
def isTrue : Option (Value × H) → Bool
  | some (.bool true, _) => true
  | _ => false
theorem of_isTrue {x : Option (Value × H)} (h : isTrue x = true) : ∃ h', x = some (.bool true, h') := by
  unfold isTrue at h
  split at h
  · exact ⟨_, rfl⟩
  · cases h
noncomputable def got : Option (Value × H) := callWith (envOf Tryd.prog 179 3 3) (run Tryd.prog (envOf Tryd.prog 179 3 3) 4000) 18 [] (heapOf 3 tabs)
set_option maxRecDepth 100000 in
theorem lives_run : isTrue got = true := by kernel_rfl
theorem mixed : Tryd.prog.follows .mixedOrders = true := by kernel_rfl
theorem lives_true (w : World) (h : TabsW tabs w) : Calls Tryd.prog 18 #[] w fun e w' => e = .returned (.bool true) ∧ RowKit.Below w.heap.size w w' := by
  obtain ⟨h', hrun⟩ := of_isTrue lives_run
  refine closed (types := 179) (G := 3) (fuel := 4000) (tabs := tabs) (args := []) mixed (fun x hx => ?_) rfl hrun rfl w h
  simp only [tabs, List.mem_cons, List.not_mem_nil, or_false] at hx
  rcases hx with rfl | rfl | rfl <;> exact ⟨by decide, by decide⟩
end Go.Proofs.YtnhbkoeomefkdaaDoor.PmhLives

