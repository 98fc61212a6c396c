/- What each card of the seat needs: the tables, the row's last step, the law's call out of the evaluator's run. -/
import Derived.Test.YthiodndhokooiaaGreatDoorCards
import Derived.Test.YthiodndhokooiaaGreatDoorTie
import Derived.Test.YthiodndhokooiaaGreatDoorPmmLives
import Derived.Test.YthiodndhokooiaaGreatDoorPmmFacts
import Derived.WalkKit
import Derived.ProofKit
import Derived.OpenShut
import Derived.Deep.DeepHandedRow
import Derived.Lib.LaidTab
import Derived.Stop.LaidErr
import Derived.Below
import Derived.ChangeSame
namespace Go.Proofs.YthiodndhokooiaaGreatDoor.PmC
open Go.ChangeShapes Go.WideShapes Go.ChangeAt Go.RowKit
open Go.Proofs Go.Proofs.YthiodndhokooiaaGreatDoor
open Go.Proofs.YthiodndhokooiaaGreatDoor.Ev (TabsW tabs vals2 vals3 vals1 En H CallsE callRun Hok HR tabPhi heapOf)

theorem own : ownKnob Tryz.prog.godebug = none := by kernel_rfl
theorem g0 : Tryz.prog.globalNamed "internal/strconv.uint64pow10" = some 1 := by kernel_rfl
theorem g1 : Tryz.prog.globalNamed "math/bits.deBruijn32tab" = some 2 := by kernel_rfl
theorem g2 : Tryz.prog.globalNamed "math/bits.deBruijn64tab" = some 3 := by kernel_rfl
theorem ty0 : (Tryz.prog.globals[1]?).map (·.type) = some 205 := by kernel_rfl
theorem ty1 : (Tryz.prog.globals[2]?).map (·.type) = some 208 := by kernel_rfl
theorem ty2 : (Tryz.prog.globals[3]?).map (·.type) = some 209 := by kernel_rfl
theorem ce5 : Tryz.prog.cellsOf 5 = 1 := by kernel_rfl
theorem ce153 : Tryz.prog.cellsOf 153 = 1 := by kernel_rfl
theorem ce205 : Tryz.prog.cellsOf 205 = 20 := by kernel_rfl
theorem ce208 : Tryz.prog.cellsOf 208 = 32 := by kernel_rfl
theorem ce209 : Tryz.prog.cellsOf 209 = 64 := by kernel_rfl

/-- the tables as integers -/
def ints0 : List Int := Ev.tab1.map Int.ofNat
def ints2 : List Int := Ev.tab2.map Int.ofNat
def ints3 : List Int := Ev.tab3.map Int.ofNat

/-- the rows' list of variables -/
abbrev laidList : List (String × DataW Unit) := [("math/bits.deBruijn32tab", Rows.laid_math_bits_deBruijn32tab), ("math/bits.deBruijn64tab", Rows.laid_math_bits_deBruijn64tab), ("internal/strconv.uint64pow10", Rows.laid_internal_strconv_uint64pow10)]

theorem tab_world {W : World} {name : String} {k : IntKind} {zs : List Int} {g : Nat} (h : Lib.TabIs Tryz.prog W name k zs) (hg : Tryz.prog.globalNamed name = some g) (h0 : 0 < zs.length) :
    ∃ cs ty fr, W.heap[g]? = some (.cells cs ty fr) ∧ ∀ (i : Nat) (v : Value), (zs.map fun z => Value.int k z)[i]? = some v → cs[i]? = some v := by
  have hc := h.cell hg 0 h0
  unfold World.cell? at hc
  simp only at hc
  split at hc
  · rename_i cs ty fr hh
    refine ⟨cs, ty, fr, hh, fun i v hv => ?_⟩
    have hi : i < zs.length := by
      have := (List.getElem?_eq_some_iff.1 hv).1
      simpa using this
    have h2 := h.cell hg i hi
    unfold World.cell? at h2
    simp only [hh] at h2
    rw [List.getElem?_map, List.getElem?_eq_getElem hi] at hv
    simp only [Option.map_some, Option.some.injEq] at hv
    subst hv
    simpa [hi] using h2
  · cases hc

theorem tables {W : World} (h : laidMetH Tryz.prog laidList W) : TabsW tabs W := by
  have h1 : laidMet Tryz.prog laidList W := h
  have t1 : Lib.TabIs Tryz.prog W "math/bits.deBruijn32tab" .u8 ints2 := Lib.tabIs_of_head (zs := ints2) g1 ty1 Tryz.underlying208 Tryz.underlying5 ce5 ce208 h1
  have h2 := laidMet.tail h1
  have t2 : Lib.TabIs Tryz.prog W "math/bits.deBruijn64tab" .u8 ints3 := Lib.tabIs_of_head (zs := ints3) g2 ty2 Tryz.underlying209 Tryz.underlying5 ce5 ce209 h2
  have h3 := laidMet.tail h2
  have t0 : Lib.TabIs Tryz.prog W "internal/strconv.uint64pow10" .u64 ints0 := Lib.tabIs_of_head (zs := ints0) g0 ty0 Tryz.underlying205 Tryz.underlying153 ce153 ce205 h3
  intro x hx
  simp only [tabs, List.mem_cons, List.not_mem_nil, or_false] at hx
  rcases hx with rfl | rfl | rfl
  · obtain ⟨cs, ty, fr, g, hcs⟩ := tab_world t0 g0 (by decide)
    exact ⟨cs, ty, fr, g, fun i v hv => hcs i v (by simpa [vals1, ints0] using hv)⟩
  · obtain ⟨cs, ty, fr, g, hcs⟩ := tab_world t1 g1 (by decide)
    exact ⟨cs, ty, fr, g, fun i v hv => hcs i v (by simpa [vals2, ints2] using hv)⟩
  · obtain ⟨cs, ty, fr, g, hcs⟩ := tab_world t2 g2 (by decide)
    exact ⟨cs, ty, fr, g, fun i v hv => hcs i v (by simpa [vals3, ints3] using hv)⟩
end Go.Proofs.YthiodndhokooiaaGreatDoor.PmC

