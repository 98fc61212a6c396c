/- 'lives()' of stage 6: true in every world that holds the tables, on every tape. -/
import Derived.Test.YthiodndhokooiaaGreatDoorProg
import Derived.Test.YthiodndhokooiaaGreatDoorPmEvL
import Derived.Test.YthiodndhokooiaaGreatDoorPmmTabs
import Derived.KernelRfl
namespace Go.Proofs.YthiodndhokooiaaGreatDoor.PmmLives
open Go Go.Proofs.YthiodndhokooiaaGreatDoor.Ev
def isTrue : Option (Value × H) → Bool
  | some (.bool true, _) => true
  | _ => false
theorem of_isTrue {x : Option (Value × H)} (h : isTrue x = true) : ∃ h', x = some (.bool true, h') := by
  unfold isTrue at h
  split at h
  · exact ⟨_, rfl⟩
  · cases h
noncomputable def EnL : Env := envOf Tryz.prog 222 4 4 [54, 56, 67, 69]
noncomputable def got : Option (Value × H) := callWith EnL (run Tryz.prog EnL 4000) 14 [] (heapOf 4 tabs)
set_option maxRecDepth 100000 in
theorem lives_run : isTrue got = true := by kernel_rfl
theorem mixed : Tryz.prog.follows .mixedOrders = true := by kernel_rfl
set_option maxRecDepth 100000 in
theorem lives_true (w : World) (h : TabsW tabs w) : Calls Tryz.prog 14 #[] w fun e w' => e = .returned (.bool true) ∧ RowKit.Below w.heap.size w w' := by
  obtain ⟨h', hrun⟩ := of_isTrue lives_run
  have htabs : ∀ x ∈ tabs, x.1 < 4 ∧ x.2.all flat1 = true := fun x hx => by
    simp only [tabs, List.mem_cons, List.not_mem_nil, or_false] at hx
    rcases hx with rfl | rfl | rfl <;> exact ⟨by decide, by decide⟩
  exact closed (types := 222) (G := 4) (fuel := 4000) (tabs := tabs) (args := []) mixed htabs rfl hrun rfl w h
end Go.Proofs.YthiodndhokooiaaGreatDoor.PmmLives

