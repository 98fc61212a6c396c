/- Symbolic runs: bits of whole numbers. -/
import Derived.Test.YtnhbkoeomefkdaaDoorPmSS
import Derived.Test.YtnhbkoeomefkdaaDoorPmmQ1
namespace Go.Proofs.YtnhbkoeomefkdaaDoor.Ev
open Go
variable {P : Program} {E : Env}
noncomputable section

/-- kinds of 64 bits -/
class K64 (kd : IntKind) : Prop where
  is : kd = .i64 ∨ kd = .u64
instance : K64 .i64 := ⟨.inl rfl⟩
instance : K64 .u64 := ⟨.inr rfl⟩
theorem K64.wrap {kd : IntKind} [hk : K64 kd] {x : Nat} (hx : x < 2 ^ 63) : kd.wrap (x : Int) = x := by
  rcases hk.is with rfl | rfl
  · rw [IntKind.wrap_i64]; omega
  · rw [IntKind.wrap_u64]; omega
theorem K64.bits {kd : IntKind} [hk : K64 kd] : kd.bits = 64 := by
  rcases hk.is with rfl | rfl <;> rfl

end
end Go.Proofs.YtnhbkoeomefkdaaDoor.Ev

