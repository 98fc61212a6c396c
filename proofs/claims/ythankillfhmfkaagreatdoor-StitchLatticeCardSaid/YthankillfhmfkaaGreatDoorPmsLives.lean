/- 'lives()' of stage 3: true in every world that holds the tables, on every tape. -/
import Derived.Test.YthankillfhmfkaaGreatDoorPmsI3
import Derived.Test.YthankillfhmfkaaGreatDoorPmsTabs
import Derived.KernelRfl
namespace Go.Proofs.YthankillfhmfkaaGreatDoor.PmsLives
open Go Go.Proofs.YthankillfhmfkaaGreatDoor.Ev
def isTrue : Option (Value × H) → Bool
  | some (.bool true, _) => true
  | _ => false
theorem of_isTrue {x : Option (Value × H)} (h : isTrue x = true) : ∃ h', x = some (.bool true, h') := by
  unfold isTrue at h
  split at h
  · exact ⟨_, rfl⟩
  · cases h
noncomputable def EnL : Env := withKnown (envOf Tryz.prog 249 4 4) .e [] (Tr.put .e 111 0)
noncomputable def got : Option (Value × H) := callWith EnL (run Tryz.prog EnL 4000) 24 [] (heapOf 4 tabs)
set_option maxRecDepth 100000 in
theorem lives_run : isTrue got = true := by kernel_rfl
theorem mixed : Tryz.prog.follows .mixedOrders = true := by kernel_rfl
theorem iters_ok : ∀ g, (Tr.put Tr.e 111 0).get g = some 0 → IterOK Tryz.prog g := fun g h => by
  rw [Tr.get_put] at h
  split at h
  · rename_i e; subst e; exact PmsI3.letters_iter
  · rw [Tr.get_e] at h; cases h
theorem envOf_orc {P : Program} {t N G : Nat} {l : List Nat} : (envOf P t N G l).orc = .e := rfl
set_option maxRecDepth 100000 in
theorem lives_true (w : World) (h : TabsW tabs w) : Calls Tryz.prog 24 #[] w fun e w' => e = .returned (.bool true) ∧ RowKit.Below w.heap.size w w' := by
  obtain ⟨h', hrun⟩ := of_isTrue lives_run
  have htabs : ∀ x ∈ tabs, x.1 < 4 ∧ x.2.all flat1 = true := fun x hx => by
    simp only [tabs, List.mem_cons, List.not_mem_nil, or_false] at hx
    rcases hx with rfl | rfl | rfl <;> exact ⟨by decide, by decide⟩
  have hE : EnvOK Tryz.prog EnL := withKnown_ok (envOf_ok mixed) (fun f v h => by rw [Tr.get_e] at h; cases h) (fun x hx => by cases hx) iters_ok envOf_orc
  have hr := heapOf_rel (P := Tryz.prog) (types := 249) (fzl := []) htabs h
  exact callRun hE hrun rfl (heapOf_ok fun x hx => (htabs x hx).1) rfl ⟨hr.blk, hr.inj, hr.glob, hr.mono, ⟨hr.mp.blk, hr.mp.inj⟩⟩ .nil (tabPhi_fresh fun x hx => (htabs x hx).1)
end Go.Proofs.YthankillfhmfkaaGreatDoor.PmsLives

