/- Slices of numbers at this seat. -/
import Derived.Test.YtnhbkoeomefkdaaDoorPmhS1
import Derived.Test.YtnhbkoeomefkdaaDoorPmQ1
set_option linter.unusedSimpArgs false
set_option linter.unusedVariables false
namespace Go.Proofs.YtnhbkoeomefkdaaDoor.Ev
open Go Go.Proofs
noncomputable section

theorem sliceO_take {E : Env} {B : Tr Blk} {lo hi sz n c m : Nat} {kd : IntKind} {t elem : TypeId} {inf : TypeInfo} {A : Option Addr} {L : List Value} (hu : E.u t = some (.slice elem)) (hi' : E.i elem = some inf) (hsz : inf.size = sz) (s : SlV B lo hi sz n L (.slice A n c)) (hm : m ≤ n) :
    ∃ A' c', sliceO E t B (some (.slice A n c)) (some []) (some [.int kd m]) = some (.slice A' m c') ∧ SlV B lo hi sz m (L.take (m * sz)) (.slice A' m c') := by
  cases s with
  | nil hn hL =>
    subst hL
    obtain rfl : m = 0 := by omega
    refine ⟨none, 0, ?_, .nil rfl (by simp)⟩
    show evSlice E ⟨B, 0, 0⟩ t (.slice none 0 0) none (some (.int kd (Int.ofNat 0))) = _
    simp [evSlice, hu, hi', bound]
  | emp hn hL =>
    subst hL
    obtain rfl : m = 0 := by omega
    refine ⟨some ⟨0, 0, some 0⟩, 0, ?_, .emp rfl (by simp)⟩
    show evSlice E ⟨B, 0, 0⟩ t (.slice (some ⟨0, 0, some 0⟩) 0 0) none (some (.int kd (Int.ofNat 0))) = _
    simp [evSlice, hu, hi', bound]
  | mk hb hlo hhi hs hL hc =>
    rename_i b off size cells
    have hmul : m * sz ≤ n * sz := Nat.mul_le_mul_right _ hm
    refine ⟨some ⟨b, off, none⟩, c, ?_, .mk hb hlo hhi (by omega) (by simp; omega) fun i hi => ?_⟩
    · show evSlice E ⟨B, 0, 0⟩ t (.slice (some ⟨b, off, none⟩) n c) none (some (.int kd (Int.ofNat m))) = _
      simp [evSlice, hu, hi', bound, hm, hb, hsz, forceN_eq]
    · rw [hc i (by omega), List.getElem?_take, if_pos hi]

theorem sliceO_drop {E : Env} {B : Tr Blk} {lo hi sz n c m : Nat} {kd : IntKind} {t elem : TypeId} {inf : TypeInfo} {A : Option Addr} {L : List Value} (hu : E.u t = some (.slice elem)) (hi' : E.i elem = some inf) (hsz : inf.size = sz) (s : SlV B lo hi sz n L (.slice A n c)) (hm : m ≤ n) :
    ∃ A' c', sliceO E t B (some (.slice A n c)) (some [.int kd m]) (some []) = some (.slice A' (n - m) c') ∧ SlV B lo hi sz (n - m) (L.drop (m * sz)) (.slice A' (n - m) c') := by
  cases s with
  | nil hn hL =>
    subst hL
    obtain rfl : m = 0 := by omega
    refine ⟨none, 0, ?_, .nil rfl (by simp)⟩
    show evSlice E ⟨B, 0, 0⟩ t (.slice none 0 0) (some (.int kd (Int.ofNat 0))) none = _
    simp [evSlice, hu, hi', bound]
  | emp hn hL =>
    subst hL
    obtain rfl : m = 0 := by omega
    refine ⟨some ⟨0, 0, some 0⟩, 0, ?_, .emp rfl (by simp)⟩
    show evSlice E ⟨B, 0, 0⟩ t (.slice (some ⟨0, 0, some 0⟩) 0 0) (some (.int kd (Int.ofNat 0))) none = _
    simp [evSlice, hu, hi', bound]
  | mk hb hlo hhi hs hL hc =>
    rename_i b off size cells
    have hmul : (n - m) * sz = n * sz - m * sz := Nat.sub_mul _ _ _
    have hmn : m * sz ≤ n * sz := Nat.mul_le_mul_right _ hm
    refine ⟨some ⟨b, off + m * sz, none⟩, c - m, ?_, .mk hb hlo hhi (by omega) (by simp; omega) fun i hi => ?_⟩
    · show evSlice E ⟨B, 0, 0⟩ t (.slice (some ⟨b, off, none⟩) n c) (some (.int kd (Int.ofNat m))) none = _
      simp [evSlice, hu, hi', bound, hm, hb, hsz, forceN_eq]
    · rw [Nat.add_assoc, hc (m * sz + i) (by omega), List.getElem?_drop]

section
variable {P : Program} {n : Nat} {ops : List Oper} {r tl : List Oper} {k : List Frm} {α : Tr Value} {h : H} {R : Rt} {ty : TypeId} {pos : String} {af : Array Edge}
end


theorem SlV.blk {B : Tr Blk} {lo hi sz n : Nat} {L : List Value} {v : Value} (s : SlV B lo hi sz n L v) (b : Nat) (hb : blkOf v = some b) : lo ≤ b := by
  cases s with
  | nil _ _ => cases hb
  | emp _ _ => cases hb
  | mk _ hlo _ _ _ _ => simp only [blkOf, Option.some.injEq] at hb; omega
section
variable {P : Program} {n : Nat} {ops : List Oper} {r tl : List Oper} {k : List Frm} {α : Tr Value} {h : H} {R : Rt} {ty : TypeId} {pos : String} {af : Array Edge}
end
end
end Go.Proofs.YtnhbkoeomefkdaaDoor.Ev



