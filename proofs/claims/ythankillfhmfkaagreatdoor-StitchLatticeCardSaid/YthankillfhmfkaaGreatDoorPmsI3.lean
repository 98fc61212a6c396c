/- The closure that 'letters' returns: it hands yield the letters of the string that it has caught. -/
import Derived.RangeFuncBox
import Derived.Shelf.Abstract
import Derived.WalkKit
import Derived.OwnWalkIn
import Derived.TacticsInMore
import Derived.LoopIn
import Derived.Test.YthankillfhmfkaaGreatDoorPmEvIter
import Derived.Test.YthankillfhmfkaaGreatDoorProg
namespace Go.Proofs.YthankillfhmfkaaGreatDoor.PmsI3
open Go Go.Proofs Go.RowKit Go.Shelf Go.Proofs.YthankillfhmfkaaGreatDoor.Ev
attribute [local go_sem] Oper.semAt_some

set_option maxRecDepth 100000 in
set_option maxHeartbeats 2000000 in
theorem letters_run (l N : Nat) (A : Addr) (J Jx : Nat → World → Prop) (W : World)
    (hY : ∀ i W1, J i W1 → i < N → ∃ s c, W1.cell? A = some (.string s) ∧ s[i]? = some c ∧ YieldAt Fence.wide 0 Tryz.prog l #[.int .i64 (Int.ofNat i), .int .i64 (Int.ofNat c.toNat - 97)] W1 fun e W' =>
      (e = .returned (.bool true) ∧ J (i + 1) W') ∨ (e = .returned (.bool false) ∧ Jx (i + 1) W'))
    (s0 : ByteArray) (hs : W.cell? A = some (.string s0)) (hN : s0.size = N) (hNl : N < 4611686018427387904) (h0 : J 0 W) :
    CallsIn Fence.wide 1 Tryz.prog 111 #[.func (.yield l) #[] #[], .pointer (some A)] W fun e W' => (∃ v, e = .returned v) ∧ (J N W' ∨ ∃ i, Jx i W') := by
  refine callsIn_of_wp Tryz.func111 rfl trivial ?_ rfl
  simp only [Tryz.ntmps111, List.size_toArray, List.length_cons, List.length_nil, Nat.reduceAdd, Nat.reduceSub, Array.replicate_succ, Array.replicate_zero, List.push_toArray, List.append_toArray, List.nil_append, List.cons_append]
  gi_wp2
  gi_loopw [6] (fun i wr => ∃ k : Nat, k ≤ N ∧ i = .int .i64 k ∧ J k wr)
    (fun i _ => N - (intOf i).toNat)
  case atStart => exact ⟨0, Nat.zero_le _, rfl, h0⟩
  case round =>
    obtain ⟨k, hk, rfl, hJs⟩ := hrel
    by_cases hlt : k < N
    · obtain ⟨s, c, hc, hsc, fn, tmps, assign, body, hy, hR⟩ := hY k wr hJs hlt
      have hks : k < s.size := by
        rcases Nat.lt_or_ge k s.size with h | h
        · exact h
        · rw [getElem?_neg s k (by omega)] at hsc; cases hsc
      have hkc : s[k] = c := by
        rw [getElem?_pos s k hks] at hsc
        exact Option.some.inj hsc
      have hcl : c.toNat < 256 := UInt8.toNat_lt c
      have hw : wrap64 (c.toNat : Int) = (c.toNat : Int) := by unfold wrap64; omega
      have hw2 : wrap64 ((c.toNat : Int) - 97) = (c.toNat : Int) - 97 := by unfold wrap64; omega
      simp only [Int.ofNat_eq_natCast] at hy
      gi_wp2
      refine hR.mono ?_
      rintro e W3 (⟨rfl, hJ3⟩ | ⟨rfl, hJx3⟩)
      · gi_wp2
        go_roundw
        case rel =>
          refine ⟨k + 1, by omega, ?_, hJ3⟩
          first | rfl | (simp; done) | (have : wrap64 ((k : Int) + 1) = (k : Int) + 1 := (by unfold wrap64; omega)
                                        simp [this])
        case measure =>
          have : wrap64 ((k : Int) + 1) = (k : Int) + 1 := (by unfold wrap64; omega)
          show N - ((k : Int) + 1).toNat < N - (k : Int).toNat
          omega
      · gi_wp2
        refine bodyPost_ret (results_none rfl _ _ _) rfl ?_
        exact ⟨⟨_, rfl⟩, .inr ⟨_, hJx3⟩⟩
    · obtain rfl : k = N := by omega
      gi_wp2
      go_end0
      exact ⟨⟨_, rfl⟩, .inl hJs⟩
theorem letters_iter : IterOK Tryz.prog 111 := ⟨fun args w => enters_of Tryz.func111 (by kernel_rfl) rfl args w, fun l N A J Jx W hJ hJx hY ⟨s0, hs, hN⟩ hNl h0 =>
  (callsIn_wide (n := 0)).2 ((callsIn_wide (n := 1)).1 (letters_run l N A J Jx W hY s0 hs hN hNl h0))⟩
end Go.Proofs.YthankillfhmfkaaGreatDoor.PmsI3

