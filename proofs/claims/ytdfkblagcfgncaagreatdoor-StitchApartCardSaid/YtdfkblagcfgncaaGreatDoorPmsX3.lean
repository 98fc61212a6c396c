/- The law StitchForms. -/
import Derived.Test.YtdfkblagcfgncaaGreatDoorPmsX2
import Derived.Test.YtdfkblagcfgncaaGreatDoorPmsA4
import Derived.Test.YtdfkblagcfgncaaGreatDoorPmsP2
set_option linter.unusedSimpArgs false
namespace Go.Proofs.YtdfkblagcfgncaaGreatDoor.Ev
open Go Go.Proofs
noncomputable section

theorem chk16 {k : Nat} {ps : List (Int × Int)} {s : List UInt8} (hT : okT k ps = true) (hs : OkL k s) (ls : s.length ≤ 16) : chkE k ps 16 [s] = 0 := by
  rw [chkE, if_pos hT, if_neg, if_pos]
  · rw [List.all_eq_true]
    intro x hx
    rw [List.mem_singleton.1 hx, List.all_eq_true]
    intro c hc
    have := hs c hc
    exact decide_eq_true ⟨this.1, by omega⟩
  · simp; omega

end
end Go.Proofs.YtdfkblagcfgncaaGreatDoor.Ev

