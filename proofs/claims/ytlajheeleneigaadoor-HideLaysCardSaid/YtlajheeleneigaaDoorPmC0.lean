/- What each card of the seat needs: the tables, the row's last step, the law's call out of the evaluator's run. -/
import Derived.Test.YtlajheeleneigaaDoorCards
import Derived.Test.YtlajheeleneigaaDoorTie
import Derived.Test.YtlajheeleneigaaDoorPmH5
import Derived.WalkKit
import Derived.ProofKit
import Derived.OpenShut
import Derived.Deep.DeepHandedRow
import Derived.Lib.LaidTab
import Derived.Stop.LaidErr
import Derived.Below
import Derived.ChangeSame
namespace Go.Proofs.YtlajheeleneigaaDoor.PmC
open Go.ChangeShapes Go.WideShapes Go.ChangeAt Go.RowKit
open Go.Proofs Go.Proofs.YtlajheeleneigaaDoor
open Go.Proofs.YtlajheeleneigaaDoor.Ev (TabsW tabs vals0 vals1 vals2 En H CallsE callRun Hok HR tabPhi heapOf)

theorem own : ownKnob Tryd.prog.godebug = none := by kernel_rfl
theorem g0 : Tryd.prog.globalNamed "internal/strconv.uint64pow10" = some 0 := by kernel_rfl
theorem g1 : Tryd.prog.globalNamed "math/bits.deBruijn32tab" = some 1 := by kernel_rfl
theorem g2 : Tryd.prog.globalNamed "math/bits.deBruijn64tab" = some 2 := by kernel_rfl
theorem ty0 : (Tryd.prog.globals[0]?).map (·.type) = some 149 := by kernel_rfl
theorem ty1 : (Tryd.prog.globals[1]?).map (·.type) = some 151 := by kernel_rfl
theorem ty2 : (Tryd.prog.globals[2]?).map (·.type) = some 152 := by kernel_rfl
theorem ce5 : Tryd.prog.cellsOf 5 = 1 := by kernel_rfl
theorem ce125 : Tryd.prog.cellsOf 125 = 1 := by kernel_rfl
theorem ce149 : Tryd.prog.cellsOf 149 = 20 := by kernel_rfl
theorem ce151 : Tryd.prog.cellsOf 151 = 32 := by kernel_rfl
theorem ce152 : Tryd.prog.cellsOf 152 = 64 := by kernel_rfl

/-- the tables as integers -/
def ints0 : List Int := Ev.tab0.map Int.ofNat
def ints1 : List Int := Ev.tab1.map Int.ofNat
def ints2 : List Int := Ev.tab2.map Int.ofNat

/-- the rows' list of variables -/
abbrev laidList : List (String × DataW Unit) := [("math/bits.deBruijn32tab", Rows.laid_math_bits_deBruijn32tab), ("math/bits.deBruijn64tab", Rows.laid_math_bits_deBruijn64tab), ("internal/strconv.uint64pow10", Rows.laid_internal_strconv_uint64pow10)]

theorem tab_world {W : World} {name : String} {k : IntKind} {zs : List Int} {g : Nat} (h : Lib.TabIs Tryd.prog W name k zs) (hg : Tryd.prog.globalNamed name = some g) (h0 : 0 < zs.length) :
    ∃ cs ty fr, W.heap[g]? = some (.cells cs ty fr) ∧ ∀ (i : Nat) (v : Value), (zs.map fun z => Value.int k z)[i]? = some v → cs[i]? = some v := by
  have hc := h.cell hg 0 h0
  unfold World.cell? at hc
  simp only at hc
  split at hc
  · rename_i cs ty fr hh
    refine ⟨cs, ty, fr, hh, fun i v hv => ?_⟩
    have hi : i < zs.length := by
      have := (List.getElem?_eq_some_iff.1 hv).1
      simpa using this
    have h2 := h.cell hg i hi
    unfold World.cell? at h2
    simp only [hh] at h2
    rw [List.getElem?_map, List.getElem?_eq_getElem hi] at hv
    simp only [Option.map_some, Option.some.injEq] at hv
    subst hv
    simpa [hi] using h2
  · cases hc

theorem tables {W : World} (h : laidMetH Tryd.prog laidList W) : TabsW tabs W := by
  have h1 : laidMet Tryd.prog laidList W := h
  have t1 : Lib.TabIs Tryd.prog W "math/bits.deBruijn32tab" .u8 ints1 := Lib.tabIs_of_head (zs := ints1) g1 ty1 Tryd.underlying151 Tryd.underlying5 ce5 ce151 h1
  have h2 := laidMet.tail h1
  have t2 : Lib.TabIs Tryd.prog W "math/bits.deBruijn64tab" .u8 ints2 := Lib.tabIs_of_head (zs := ints2) g2 ty2 Tryd.underlying152 Tryd.underlying5 ce5 ce152 h2
  have h3 := laidMet.tail h2
  have t0 : Lib.TabIs Tryd.prog W "internal/strconv.uint64pow10" .u64 ints0 := Lib.tabIs_of_head (zs := ints0) g0 ty0 Tryd.underlying149 Tryd.underlying125 ce125 ce149 h3
  intro x hx
  simp only [tabs, List.mem_cons, List.not_mem_nil, or_false] at hx
  rcases hx with rfl | rfl | rfl
  · obtain ⟨cs, ty, fr, g, hcs⟩ := tab_world t0 g0 (by decide)
    exact ⟨cs, ty, fr, g, fun i v hv => hcs i v (by simpa [vals0, ints0] using hv)⟩
  · obtain ⟨cs, ty, fr, g, hcs⟩ := tab_world t1 g1 (by decide)
    exact ⟨cs, ty, fr, g, fun i v hv => hcs i v (by simpa [vals1, ints1] using hv)⟩
  · obtain ⟨cs, ty, fr, g, hcs⟩ := tab_world t2 g2 (by decide)
    exact ⟨cs, ty, fr, g, fun i v hv => hcs i v (by simpa [vals2, ints2] using hv)⟩
end Go.Proofs.YtlajheeleneigaaDoor.PmC
