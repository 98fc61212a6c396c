/- The law StitchEquals. -/
import Derived.Test.YtdfkblagcfgncaaGreatDoorPmsA5
set_option linter.unusedSimpArgs false
namespace Go.Proofs.YtdfkblagcfgncaaGreatDoor.Ev
open Go Go.Proofs
noncomputable section

theorem take_len {α : Type} {l : List α} {n : Nat} : (l.take n).length ≤ n := by simp; omega
theorem load24 {G b n c : Nat} {k : Int} {A : Option Addr} {B : Tr Blk} (v : Var B b [.int .i64 k, .slice A n c]) : loadO (En G) 24 B (some (.pointer (some ⟨b, 0, none⟩))) = some (.agg #[.int .i64 k, .slice A n c]) :=
  v.loadA agg24 i24 (by rw [size24]; rfl)

end
end Go.Proofs.YtdfkblagcfgncaaGreatDoor.Ev


