/- Closures that hand yield the letters of a string: what is asked of them. -/
import Derived.Test.YtngpoamjhngcgaaGreatDoorPmEvDefs
import Derived.OrdersIn
import Derived.LoopNIn
import Derived.RangeFuncSeq
import Derived.RangeFuncCalls
import Derived.RangeFuncLeaves
namespace Go.Proofs.YtngpoamjhngcgaaGreatDoor.Ev
open Go

structure IterOK (P : Program) (g : FuncId) : Prop where
  enters : ∀ (args : Array Value) (w : World), (callFunc g args).run P w = .ok (.enter g args) w
  run : ∀ (l N : Nat) (A : Addr) (J Jx : Nat → World → Prop) (W : World),
    (∀ i A' B, J i A' → RowKit.Below A'.heap.size A' B → J i B) → (∀ i A' B, Jx i A' → RowKit.Below A'.heap.size A' B → Jx i B) →
    (∀ i W1, J i W1 → i < N → ∃ s c, W1.cell? A = some (.string s) ∧ s[i]? = some c ∧ YieldAt Fence.wide 0 P l #[.int .i64 (Int.ofNat i), .int .i64 (Int.ofNat c.toNat - 97)] W1 fun e W' =>
      (e = .returned (.bool true) ∧ J (i + 1) W') ∨ (e = .returned (.bool false) ∧ Jx (i + 1) W')) →
    (∃ s, W.cell? A = some (.string s) ∧ s.size = N) → N < 4611686018427387904 → J 0 W →
    CallsIn Fence.wide 0 P g #[.func (.yield l) #[] #[], .pointer (some A)] W fun e W' => (∃ v, e = .returned v) ∧ (J N W' ∨ ∃ i, Jx i W')
end Go.Proofs.YtngpoamjhngcgaaGreatDoor.Ev

