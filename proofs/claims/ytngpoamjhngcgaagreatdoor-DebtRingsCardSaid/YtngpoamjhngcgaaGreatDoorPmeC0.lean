/- What each card of the seat needs: the tables, the row's last step, the law's call out of the evaluator's run. -/
import Derived.Test.YtngpoamjhngcgaaGreatDoorCards
import Derived.Test.YtngpoamjhngcgaaGreatDoorTie
import Derived.Test.YtngpoamjhngcgaaGreatDoorPmeLives
import Derived.Test.YtngpoamjhngcgaaGreatDoorPmeFacts
import Derived.WalkKit
import Derived.ProofKit
import Derived.OpenShut
import Derived.Deep.DeepHandedRow
import Derived.Lib.LaidTab
import Derived.Stop.LaidErr
import Derived.Below
import Derived.ChangeSame
set_option linter.unusedVariables false
set_option linter.unusedSimpArgs false
namespace Go.Proofs.YtngpoamjhngcgaaGreatDoor.PmC
open Go.ChangeShapes Go.WideShapes Go.ChangeAt Go.RowKit
open Go.Proofs Go.Proofs.YtngpoamjhngcgaaGreatDoor
open Go.Proofs.YtngpoamjhngcgaaGreatDoor.Ev (TabsW tabs vals0 vals1 vals3 En H CallsE callRun Hok HR tabPhi heapOf)

theorem own : ownKnob Tryz.prog.godebug = none := by kernel_rfl
theorem g0 : Tryz.prog.globalNamed "internal/strconv.uint64pow10" = some 3 := by kernel_rfl
theorem g1 : Tryz.prog.globalNamed "math/bits.deBruijn32tab" = some 0 := by kernel_rfl
theorem g2 : Tryz.prog.globalNamed "math/bits.deBruijn64tab" = some 1 := by kernel_rfl
theorem ty0 : (Tryz.prog.globals[3]?).map (·.type) = some 256 := by kernel_rfl
theorem ty1 : (Tryz.prog.globals[0]?).map (·.type) = some 220 := by kernel_rfl
theorem ty2 : (Tryz.prog.globals[1]?).map (·.type) = some 221 := by kernel_rfl
theorem ce5 : Tryz.prog.cellsOf 5 = 1 := by kernel_rfl
theorem ce125 : Tryz.prog.cellsOf 186 = 1 := by kernel_rfl
theorem ce194 : Tryz.prog.cellsOf 256 = 20 := by kernel_rfl
theorem ce196 : Tryz.prog.cellsOf 220 = 32 := by kernel_rfl
theorem ce197 : Tryz.prog.cellsOf 221 = 64 := by kernel_rfl

/-- the tables as integers -/
def ints0 : List Int := Ev.tab3.map Int.ofNat
def ints1 : List Int := Ev.tab0.map Int.ofNat
def ints2 : List Int := Ev.tab1.map Int.ofNat

/-- the rows' list of variables -/
abbrev laidList : List (String × DataW Unit) := [("math/bits.deBruijn32tab", Rows.laid_math_bits_deBruijn32tab), ("math/bits.deBruijn64tab", Rows.laid_math_bits_deBruijn64tab), ("internal/strconv.uint64pow10", Rows.laid_internal_strconv_uint64pow10)]

theorem tab_world {W : World} {name : String} {k : IntKind} {zs : List Int} {g : Nat} (h : Lib.TabIs Tryz.prog W name k zs) (hg : Tryz.prog.globalNamed name = some g) :
    ∃ cs ty fr, W.heap[g]? = some (.cells cs ty fr) ∧ (∀ (i : Nat) (v : Value), (zs.map fun z => Value.int k z)[i]? = some v → cs[i]? = some v) ∧ cs.size = zs.length := by
  unfold Lib.TabIs World.var? at h
  rw [hg] at h
  simp only [Option.bind_some] at h
  split at h
  · rename_i cs ty fr hh
    simp only [Option.some.injEq] at h
    subst h
    exact ⟨_, ty, fr, hh, fun i v hv => by rw [List.getElem?_toArray]; exact hv, by simp⟩
  · cases h

theorem tables {W : World} (h : laidMetH Tryz.prog laidList W) : TabsW tabs W := by
  have h1 : laidMet Tryz.prog laidList W := h
  have t1 : Lib.TabIs Tryz.prog W "math/bits.deBruijn32tab" .u8 ints1 := Lib.tabIs_of_head (zs := ints1) g1 ty1 Tryz.underlying220 Tryz.underlying5 ce5 ce196 h1
  have h2 := laidMet.tail h1
  have t2 : Lib.TabIs Tryz.prog W "math/bits.deBruijn64tab" .u8 ints2 := Lib.tabIs_of_head (zs := ints2) g2 ty2 Tryz.underlying221 Tryz.underlying5 ce5 ce197 h2
  have h3 := laidMet.tail h2
  have t0 : Lib.TabIs Tryz.prog W "internal/strconv.uint64pow10" .u64 ints0 := Lib.tabIs_of_head (zs := ints0) g0 ty0 Tryz.underlying256 Tryz.underlying186 ce125 ce194 h3
  intro x hx
  simp only [tabs, List.mem_cons, List.not_mem_nil, or_false] at hx
  rcases hx with rfl | rfl | rfl
  · obtain ⟨cs, ty, fr, g, hcs, hsz⟩ := tab_world t1 g1
    exact ⟨cs, ty, fr, g, fun i v hv => hcs i v (by simpa [vals0, ints1] using hv), by rw [hsz]; simp [vals0, ints1]⟩
  · obtain ⟨cs, ty, fr, g, hcs, hsz⟩ := tab_world t2 g2
    exact ⟨cs, ty, fr, g, fun i v hv => hcs i v (by simpa [vals1, ints2] using hv), by rw [hsz]; simp [vals1, ints2]⟩
  · obtain ⟨cs, ty, fr, g, hcs, hsz⟩ := tab_world t0 g0
    exact ⟨cs, ty, fr, g, fun i v hv => hcs i v (by simpa [vals3, ints0] using hv), by rw [hsz]; simp [vals3, ints0]⟩
end Go.Proofs.YtngpoamjhngcgaaGreatDoor.PmC

