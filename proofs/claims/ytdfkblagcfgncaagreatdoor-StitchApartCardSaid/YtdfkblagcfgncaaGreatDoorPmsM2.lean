/- Meet and Join, by the program and by the reference. -/
import Derived.Test.YtdfkblagcfgncaaGreatDoorPmsA5
import Derived.Test.YtdfkblagcfgncaaGreatDoorPmsT2
set_option linter.unusedSimpArgs false
namespace Go.Proofs.YtdfkblagcfgncaaGreatDoor.Ev
open Go Go.Proofs
noncomputable section

theorem OkL.append {k : Nat} {a b : List UInt8} (ha : OkL k a) (hb : OkL k b) : OkL k (a ++ b) := fun c hc => (List.mem_append.1 hc).elim (ha c) (hb c)

end
end Go.Proofs.YtdfkblagcfgncaaGreatDoor.Ev


