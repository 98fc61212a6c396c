/- slices.Sort of few bytes. -/
import Derived.Test.YtdfkblagcfgncaaGreatDoorPmsA4
import Derived.Test.YtdfkblagcfgncaaGreatDoorPmsA2
import Derived.Test.YtdfkblagcfgncaaGreatDoorPmsS1
import Derived.Test.YtdfkblagcfgncaaGreatDoorPmsD2
set_option linter.unusedSimpArgs false
namespace Go.Proofs.YtdfkblagcfgncaaGreatDoor.Ev
open Go Go.Proofs
noncomputable section

section
variable {P : Program} {E : Env} {n : Nat} {ops : List Oper} {q : Bool} {r tl : List Oper} {k : List Frm} {α : Tr Value} {h : H} {R : Rt} {d : Option Nat}
end
/-- a write into a block of one's own -/
structure WroteOf (h h' : H) (b : Nat) : Prop where
  pres : Pres b h h'
  next : h'.next = h.next
  get : ∀ b', b' ≠ b → h'.blks.get b' = h.blks.get b'
theorem WroteOf.refl {h : H} {b : Nat} : WroteOf h h b := ⟨Pres.refl _ _, rfl, fun _ _ => rfl⟩
end
end Go.Proofs.YtdfkblagcfgncaaGreatDoor.Ev


