/- 'lives()' of DebtProves: true in every world that holds the tables, on every tape. -/
import Derived.Test.YtihmbbgnielbnaaGreatDoorProg
import Derived.Test.YtihmbbgnielbnaaGreatDoorPmEvL
import Derived.Test.YtihmbbgnielbnaaGreatDoorPmdTabs
import Derived.KernelRfl
namespace Go.Proofs.YtihmbbgnielbnaaGreatDoor.PmLives3
open Go Go.Proofs.YtihmbbgnielbnaaGreatDoor.Ev
def isTrue : Option (Value × H) → Bool
  | some (.bool true, _) => true
  | _ => false
theorem of_isTrue {x : Option (Value × H)} (h : isTrue x = true) : ∃ h', x = some (.bool true, h') := by
  unfold isTrue at h
  split at h
  · exact ⟨_, rfl⟩
  · cases h
noncomputable def EnL : Env := withKnown (envOf Tryz.prog 161 4 4) .e [] .e
noncomputable def got : Option (Value × H) := callWith EnL (run Tryz.prog EnL 4000) 10 [] (heapOf 4 tabs)
set_option maxRecDepth 100000 in
theorem lives_run : isTrue got = true := by kernel_rfl
theorem mixed : Tryz.prog.follows .mixedOrders = true := by kernel_rfl
theorem lives_true (w : World) (h : TabsW tabs w) : Calls Tryz.prog 10 #[] w fun e w' => e = .returned (.bool true) ∧ RowKit.Below w.heap.size w w' := by
  obtain ⟨h', hrun⟩ := of_isTrue lives_run
  have htabs : ∀ x ∈ tabs, x.1 < 4 ∧ x.2.all flat1 = true := fun x hx => by
    simp only [tabs, List.mem_cons, List.not_mem_nil, or_false] at hx
    rcases hx with rfl | rfl | rfl <;> exact ⟨by decide, by decide⟩
  have hE : EnvOK Tryz.prog EnL := withKnown_ok (envOf_ok mixed) (fun f v h => by rw [Tr.get_e] at h; cases h) (fun x hx => by cases hx) (fun g h => by rw [Tr.get_e] at h; cases h)
  have hr := heapOf_rel (P := Tryz.prog) (types := 161) htabs h
  exact callRun hE hrun rfl (heapOf_ok fun x hx => (htabs x hx).1) rfl ⟨hr.blk, hr.inj, hr.glob⟩ .nil (tabPhi_fresh fun x hx => (htabs x hx).1)
end Go.Proofs.YtihmbbgnielbnaaGreatDoor.PmLives3
