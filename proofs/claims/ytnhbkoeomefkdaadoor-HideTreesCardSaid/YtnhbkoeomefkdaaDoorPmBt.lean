/- Symbolic runs: bits of whole numbers. -/
import Derived.Test.YtnhbkoeomefkdaaDoorPmSS
import Derived.Test.YtnhbkoeomefkdaaDoorPmmQ1
namespace Go.Proofs.YtnhbkoeomefkdaaDoor.Ev
open Go
variable {P : Program} {E : Env}
noncomputable section

/-- kinds of 64 bits -/
class K64 (kd : IntKind) : Prop where
  is : kd = .i64 ∨ kd = .u64
instance : K64 .i64 := ⟨.inl rfl⟩
instance : K64 .u64 := ⟨.inr rfl⟩
theorem K64.wrap {kd : IntKind} [hk : K64 kd] {x : Nat} (hx : x < 2 ^ 63) : kd.wrap (x : Int) = x := by
  rcases hk.is with rfl | rfl
  · rw [IntKind.wrap_i64]; omega
  · rw [IntKind.wrap_u64]; omega
theorem K64.bits {kd : IntKind} [hk : K64 kd] : kd.bits = 64 := by
  rcases hk.is with rfl | rfl <;> rfl

theorem bv_and {a b : Nat} (ha : a < 2 ^ 63) (hb : b < 2 ^ 63) : (BitVec.ofInt 64 (a : Int) &&& BitVec.ofInt 64 (b : Int)).toNat = a &&& b := by
  rw [BitVec.ofInt_natCast, BitVec.ofInt_natCast, BitVec.toNat_and, BitVec.toNat_ofNat, BitVec.toNat_ofNat, Nat.mod_eq_of_lt (by omega), Nat.mod_eq_of_lt (by omega)]
theorem bin_and {kd : IntKind} [hk : K64 kd] {t : TypeId} {a b : Nat} (ha : a < 2 ^ 63) (hb : b < 2 ^ 63) : binO P E .and t (some (.int kd a)) (some (.int kd b)) = some (.int kd ((a &&& b : Nat) : Int)) := by
  have hw : kd.wrap ((a &&& b : Nat) : Int) = ((a &&& b : Nat) : Int) := K64.wrap (by have := Nat.and_le_left (n := a) (m := b); omega)
  refine binO_slow rfl ?_ rfl
  rcases hk.is with rfl | rfl
  · show pureRun P (pure (Value.int .i64 (IntKind.i64.wrap ((BitVec.ofInt 64 (a : Int) &&& BitVec.ofInt 64 (b : Int)).toNat : Int))) : Sem Value) = _
    rw [bv_and ha hb, hw]; rfl
  · show pureRun P (pure (Value.int .u64 (IntKind.u64.wrap ((BitVec.ofInt 64 (a : Int) &&& BitVec.ofInt 64 (b : Int)).toNat : Int))) : Sem Value) = _
    rw [bv_and ha hb, hw]; rfl
theorem binO_shift {op : BinOp} {k1 k2 : IntKind} {t : TypeId} {a b : Int} {r : Value} (hf : fastBin op (.int k1 a) (.int k2 b) = none) (hs : pureRun P (do eqGuard op t (.tmp 0) (.tmp 0) (.int k1 a) (.int k2 b); binOp op t (.int k1 a) (.int k2 b)) = some r) (hp : plain r = true) : binO P E op t (some (.int k1 a)) (some (.int k2 b)) = some r := by
  have h1 : (Ev.plainA (.int k1 a) && Ev.plainA (.int k2 b)) = true := rfl
  simp only [binO, h1, if_true, hf, slowBin, hs, hp]
theorem fast_shift {op : BinOp} (ho : op = .shl ∨ op = .shr) {k1 k2 : IntKind} {a b : Int} : fastBin op (.int k1 a) (.int k2 b) = none := by
  show Bool.casesOn (motive := fun _ => Option Value) (Nat.beq (kNum k1) (kNum k2)) none (fastInt op k1 a b) = none
  rcases ho with rfl | rfl <;> cases Nat.beq (kNum k1) (kNum k2) <;> rfl
theorem bin_shr {kd k2 : IntKind} [hk : K64 kd] {t : TypeId} {a b : Nat} (hb : b < 64) : binO P E .shr t (some (.int kd a)) (some (.int k2 b)) = some (.int kd ((a >>> b : Nat) : Int)) := by
  refine binO_shift (fast_shift (.inr rfl)) ?_ rfl
  have hn : ¬ ((b : Int) < 0) := by omega
  have e : binOp .shr t (.int kd a) (.int k2 b) = pure (.int kd ((a : Int).fdiv (2 ^ min ((b : Int)).toNat kd.bits))) := by
    show Op.shift .shr kd a k2 b = _
    unfold Op.shift
    rw [if_neg hn]
  have e2 : (a : Int).fdiv (2 ^ min ((b : Int)).toNat kd.bits) = ((a >>> b : Nat) : Int) := by
    rw [K64.bits, Int.toNat_natCast, Nat.min_eq_left (by omega), Nat.shiftRight_eq_div_pow]
    have : (2 : Int) ^ b = ((2 ^ b : Nat) : Int) := by simp
    rw [this, Int.fdiv_eq_ediv_of_nonneg _ (Int.natCast_nonneg _)]
    rfl
  show pureRun P (binOp .shr t (.int kd a) (.int k2 b)) = _
  rw [e, e2]; rfl
theorem bin_shl {kd k2 : IntKind} [hk : K64 kd] {t : TypeId} {b : Nat} (hb : b < 63) : binO P E .shl t (some (.int kd 1)) (some (.int k2 b)) = some (.int kd ((2 ^ b : Nat) : Int)) := by
  refine binO_shift (fast_shift (.inl rfl)) ?_ rfl
  have hn : ¬ ((b : Int) < 0) := by omega
  have e : binOp .shl t (.int kd 1) (.int k2 b) = pure (.int kd (kd.wrap (1 * 2 ^ min ((b : Int)).toNat kd.bits))) := by
    show Op.shift .shl kd 1 k2 b = _
    unfold Op.shift
    rw [if_neg hn]
  have e2 : kd.wrap (1 * 2 ^ min ((b : Int)).toNat kd.bits) = ((2 ^ b : Nat) : Int) := by
    rw [K64.bits, Int.toNat_natCast, Nat.min_eq_left (by omega)]
    have : (1 : Int) * 2 ^ b = ((2 ^ b : Nat) : Int) := by simp
    rw [this]
    exact K64.wrap (Nat.pow_lt_pow_right (by omega) hb)
  show pureRun P (binOp .shl t (.int kd 1) (.int k2 b)) = _
  rw [e, e2]; rfl
end
end Go.Proofs.YtnhbkoeomefkdaaDoor.Ev

