/- The law's few; the law of Cost. -/
import Derived.Test.YthiodndhokooiaaGreatDoorPmmA8
set_option linter.unusedSimpArgs false
namespace Go.Proofs.YthiodndhokooiaaGreatDoor.Ev
open Go Go.Proofs
noncomputable section

theorem En_tabs {G : Nat} : (En G).tabs = tabs := rfl
section
variable {G n : Nat} {ops : List Oper} {r tl : List Oper} {k : List Frm} {α : Tr Value} {h : H} {R : Rt} {d : Nat}
theorem Call_lives (ht : TabsIn tabs h.blks) (hd : d < n) (hk : At Tryz.prog (En G) n ops false r tl k (Tr.put α d (.bool true)) h R) : CallO Tryz.prog (En G) n ops false r tl k α h R (some d) (some (.func (.func 14) #[] #[])) (some []) := by
  refine CallO_of (Q := fun v h' => v = .bool true ∧ h' = h) (CallsE_known En_lives (by rw [En_tabs]; exact ht) ⟨rfl, rfl⟩) hd fun v h' ⟨e1, e2⟩ => ?_
  subst e1; subst e2
  exact ⟨fun e => (by cases e), hk⟩
end
theorem TabsIn.pres {tbs : List (Nat × List Value)} {m : Nat} {h h' : H} (ht : TabsIn tbs h.blks) (hp : Pres m h h') (hm : ∀ x ∈ tbs, x.1 < m) : TabsIn tbs h'.blks := fun x hx => by
  obtain ⟨c, s, e, h1, h2⟩ := ht x hx
  exact ⟨c, s, e, by rw [hp.get _ (hm x hx)]; exact h1, h2⟩
theorem tabs_lt : ∀ x ∈ tabs, x.1 < 4 := fun x hx => by
  simp only [tabs, List.mem_cons, List.not_mem_nil, or_false] at hx
  rcases hx with rfl | rfl | rfl <;> decide

theorem Pres.st {m : Nat} {h h' : H} {_q : Bool} (a : Pres m h h') : Pres m h h' := a
theorem min_cast {a b : Nat} : min (a : Int) (b : Int) = ((min a b : Nat) : Int) := by omega
end
end Go.Proofs.YthiodndhokooiaaGreatDoor.Ev

