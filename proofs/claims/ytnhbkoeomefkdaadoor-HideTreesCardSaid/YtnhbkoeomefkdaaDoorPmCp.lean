/- Symbolic runs: a slice that grows and shrinks, with room behind it (append in place). -/
import Derived.Test.YtnhbkoeomefkdaaDoorPmSS
set_option linter.unusedVariables false
set_option linter.unusedSimpArgs false
namespace Go.Proofs.YtnhbkoeomefkdaaDoor.Ev
open Go
variable {P : Program} {E : Env}
noncomputable section

/-- a slice, and so many places that it may have -/
inductive CpV (B : Tr Blk) (lo hi sz n c : Nat) (L : List Value) : Value → Prop
  | nil : n = 0 → c = 0 → L = [] → CpV B lo hi sz n c L (.slice none 0 0)
  | mk {b off size : Nat} {cells : Tr Value} : B.get b = some (.mk cells size sz) → lo ≤ b → b < hi → off + c * sz ≤ size → n ≤ c → L.length = n * sz → (∀ i, i < n * sz → cells.get (off + i) = L[i]?) → CpV B lo hi sz n c L (.slice (some ⟨b, off, none⟩) n c)

variable {B B' : Tr Blk} {lo hi sz n c : Nat} {L : List Value} {v : Value}
theorem CpV.slv (s : CpV B lo hi sz n c L v) : SlV B lo hi sz n L v := by
  cases s with
  | nil h1 h2 h3 => subst h1; exact .nil rfl h3
  | mk hb hlo hhi hs hnc hL hc => exact .mk hb hlo hhi (by have := Nat.mul_le_mul_right sz hnc; omega) hL hc
theorem CpV.mono (s : CpV B lo hi sz n c L v) (hB : ∀ b, lo ≤ b → b < hi → B'.get b = B.get b) : CpV B' lo hi sz n c L v := by
  cases s with
  | nil h1 h2 h3 => exact .nil h1 h2 h3
  | mk hb hlo hhi hs hnc hL hc => exact .mk ((hB _ hlo hhi).trans hb) hlo hhi hs hnc hL hc
theorem CpV.wide (s : CpV B lo hi sz n c L v) {lo' hi' : Nat} (h1 : lo' ≤ lo) (h2 : hi ≤ hi') : CpV B lo' hi' sz n c L v := by
  cases s with
  | nil h1 h2 h3 => exact .nil h1 h2 h3
  | mk hb hlo hhi hs hnc hL hc => exact .mk hb (by omega) (by omega) hs hnc hL hc
theorem CpV.shape (s : CpV B lo hi sz n c L v) : ∃ A, v = .slice A n c := by
  cases s with
  | nil h1 h2 h3 => exact ⟨none, by rw [h1, h2]⟩
  | mk hb hlo hhi hs hnc hL hc => exact ⟨_, rfl⟩
/-- the first so many -/
theorem CpV.take {E : Env} {m : Nat} {kd : IntKind} {t elem : TypeId} {inf : TypeInfo} {A : Option Addr} (hu : E.u t = some (.slice elem)) (hi' : E.i elem = some inf) (hsz : inf.size = sz) (s : CpV B lo hi sz n c L (.slice A n c)) (hm : m ≤ n) :
    sliceO E t B (some (.slice A n c)) (some []) (some [.int kd m]) = some (.slice A m c) ∧ CpV B lo hi sz m c (L.take (m * sz)) (.slice A m c) := by
  cases s with
  | nil hn hc hL =>
    subst hL
    obtain rfl : m = 0 := by omega
    refine ⟨?_, .nil rfl rfl (by simp)⟩
    show evSlice E ⟨B, 0, 0⟩ t (.slice none 0 0) none (some (.int kd (Int.ofNat 0))) = _
    simp [evSlice, hu, hi', bound]
  | mk hb hlo hhi hs hnc hL hc =>
    rename_i b off size cells
    have hmul : m * sz ≤ n * sz := Nat.mul_le_mul_right _ hm
    refine ⟨?_, .mk hb hlo hhi hs (by omega) (by simp; omega) fun i hi => ?_⟩
    · show evSlice E ⟨B, 0, 0⟩ t (.slice (some ⟨b, off, none⟩) n c) none (some (.int kd (Int.ofNat m))) = _
      simp [evSlice, hu, hi', bound, hm, hb, hsz, forceN_eq]
    · rw [hc i (by omega), List.getElem?_take, if_pos hi]

section
variable {nn : Nat} {ops : List Oper} {q : Bool} {r tl : List Oper} {k : List Frm} {α : Tr Value} {h : H} {R : Rt} {d : Nat} {ty : TypeId} {pos : String} {af : Array Edge}
end
end
end Go.Proofs.YtnhbkoeomefkdaaDoor.Ev

