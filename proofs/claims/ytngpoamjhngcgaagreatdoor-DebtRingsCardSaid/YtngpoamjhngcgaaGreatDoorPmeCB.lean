/- Arguments: small numbers. -/
import Derived.Test.YtngpoamjhngcgaaGreatDoorPmeCA
import Derived.Test.YtngpoamjhngcgaaGreatDoorPmeD9
set_option linter.unusedVariables false
set_option linter.unusedSimpArgs false
namespace Go.Proofs.YtngpoamjhngcgaaGreatDoor.PmC
open Go.ChangeShapes Go.WideShapes Go.ChangeAt Go.RowKit
open Go.Proofs Go.Proofs.YtngpoamjhngcgaaGreatDoor
open Go.Proofs.YtngpoamjhngcgaaGreatDoor.Ev (TabsW TabsIn tabs VR VRs Phi ArgB heapA phiA ArgsIn cells_world SlV Blk Tr)
theorem wf_u8 {z : Int} (h : (Lit.int .u8 z).wf = true) : 0 ≤ z ∧ z ≤ 255 := by
  simp only [Lit.wf, Bool.and_eq_true, decide_eq_true_eq] at h
  simp [IntKind.min, IntKind.max, IntKind.signed, IntKind.bits] at h
  omega
theorem wf_u16 {z : Int} (h : (Lit.int .u16 z).wf = true) : 0 ≤ z ∧ z ≤ 65535 := by
  simp only [Lit.wf, Bool.and_eq_true, decide_eq_true_eq] at h
  simp [IntKind.min, IntKind.max, IntKind.signed, IntKind.bits] at h
  omega
/-- small numbers in the evaluator's memory -/
theorem nats_of {k : IntKind} {m : Int} (hk : ∀ z, (Lit.int k z).wf = true → 0 ≤ z ∧ z ≤ m) : ∀ zs : List Int, (∀ z ∈ zs, (Lit.int k z).wf = true) → ∃ l : List Nat, l.length = zs.length ∧ (∀ n ∈ l, (n : Int) ≤ m) ∧ zs.map (Value.int k) = l.map fun (n : Nat) => Value.int k (n : Int)
  | [], _ => ⟨[], rfl, fun n hn => (by cases hn), rfl⟩
  | z :: zs, h => by
    obtain ⟨l, h1, h2, h3⟩ := nats_of hk zs fun z hz => h z (List.mem_cons_of_mem _ hz)
    have hz := hk z (h z List.mem_cons_self)
    have hn : ((z.toNat : Nat) : Int) = z := by omega
    refine ⟨z.toNat :: l, by simp [h1], fun n hn => ?_, by simp only [List.map_cons, h3, hn]⟩
    rcases List.mem_cons.1 hn with rfl | hn
    · omega
    · exact h2 n hn
end Go.Proofs.YtngpoamjhngcgaaGreatDoor.PmC

