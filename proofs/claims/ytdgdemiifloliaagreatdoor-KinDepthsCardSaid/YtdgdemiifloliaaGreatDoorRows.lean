/-
  NARROWER THAN 'FOR EVERY INPUT', by the rows' own cells (each row's printed sentence says how): KinFits: laid · KinTrees: laid · KinJoins: laid · KinDistances: laid · KinBuneman: laid · KinDress: laid · KinNeighbours: laid · KinDepths: laid · KinMoved: laid · KinTwice: laid · TopHoles: laid.
  DERIVED. THE GIVEN ROWS OF THIS SEAT. 11 by the template 'for every input the law returns true; each argument reads behind the call as it read before'; 0 by the template 'total and deterministic' (their statements: YtdgdemiifloliaaGreatDoorTotals.lean).
  GIVEN WITH THE SEED: the statements are not yours to turn. If you find one false, say at which input.
  Laid BY PROGRAM, IN A SANDBOX (cutbox-rows.mjs): the forced cells as the released guide's own fill.sh prints them over the translation 09f709fecead954a… (all of the seat's roots in one cut). By AI agents, Wed Nov 11 2026. No macro, syntax, notation, axiom, sorry.
-/
import Derived.Test.YtdgdemiifloliaaGreatDoorChecked
import GoSem.Claim
import GoSem.ClaimJoined
import GoSem.ClaimMapViews
import Derived.JoinedTies
import Derived.KernelRfl
namespace Go.Proofs.YtdgdemiifloliaaGreatDoor
/- THE CELL 'sum', in the pinned program and in every row, IS THE sha256 OF THE DUMP (.gsa) THAT YtdgdemiifloliaaGreatDoorProg.lean LOADS. Nothing in Lean hashes anything: it is a label: what it is worth is what the hold of that sum in a sandbox is worth. -/
noncomputable def Tryz.pinned : Pinned := { name := "ytdgdemiifloliaagreatdoor", sum := "09f709fecead954aeaba4349f72f8f0b541f1c5350621c605836dfc6aa60f37e", checked := Tryz.checked }
namespace Rows
def none {H : Type} : Left H := { results := [], args := [] }

/- WHAT THE LISTED PACKAGE-LEVEL VARIABLES READ AS WHEN THE CALL BEGINS. Each datum BY PROGRAM (the guide's laid-datum.mjs) off the statement by which the dump's own 'gosem.cut.vars' lays the variable. In a bare row this is a premise. The card (YtdgdemiifloliaaGreatDoorCards.lean) ties it to the program's text. -/
def laid_math_bits_deBruijn32tab {H : Type} : DataW H := .agg [.lit (.int .u8 0), .lit (.int .u8 1), .lit (.int .u8 28), .lit (.int .u8 2), .lit (.int .u8 29), .lit (.int .u8 14), .lit (.int .u8 24), .lit (.int .u8 3), .lit (.int .u8 30), .lit (.int .u8 22), .lit (.int .u8 20), .lit (.int .u8 15), .lit (.int .u8 25), .lit (.int .u8 17), .lit (.int .u8 4), .lit (.int .u8 8), .lit (.int .u8 31), .lit (.int .u8 27), .lit (.int .u8 13), .lit (.int .u8 23), .lit (.int .u8 21), .lit (.int .u8 19), .lit (.int .u8 16), .lit (.int .u8 7), .lit (.int .u8 26), .lit (.int .u8 12), .lit (.int .u8 18), .lit (.int .u8 6), .lit (.int .u8 11), .lit (.int .u8 5), .lit (.int .u8 10), .lit (.int .u8 9)]
def laid_math_bits_deBruijn64tab {H : Type} : DataW H := .agg [.lit (.int .u8 0), .lit (.int .u8 1), .lit (.int .u8 56), .lit (.int .u8 2), .lit (.int .u8 57), .lit (.int .u8 49), .lit (.int .u8 28), .lit (.int .u8 3), .lit (.int .u8 61), .lit (.int .u8 58), .lit (.int .u8 42), .lit (.int .u8 50), .lit (.int .u8 38), .lit (.int .u8 29), .lit (.int .u8 17), .lit (.int .u8 4), .lit (.int .u8 62), .lit (.int .u8 47), .lit (.int .u8 59), .lit (.int .u8 36), .lit (.int .u8 45), .lit (.int .u8 43), .lit (.int .u8 51), .lit (.int .u8 22), .lit (.int .u8 53), .lit (.int .u8 39), .lit (.int .u8 33), .lit (.int .u8 30), .lit (.int .u8 24), .lit (.int .u8 18), .lit (.int .u8 12), .lit (.int .u8 5), .lit (.int .u8 63), .lit (.int .u8 55), .lit (.int .u8 48), .lit (.int .u8 27), .lit (.int .u8 60), .lit (.int .u8 41), .lit (.int .u8 37), .lit (.int .u8 16), .lit (.int .u8 46), .lit (.int .u8 35), .lit (.int .u8 44), .lit (.int .u8 21), .lit (.int .u8 52), .lit (.int .u8 32), .lit (.int .u8 23), .lit (.int .u8 11), .lit (.int .u8 54), .lit (.int .u8 26), .lit (.int .u8 40), .lit (.int .u8 15), .lit (.int .u8 34), .lit (.int .u8 20), .lit (.int .u8 31), .lit (.int .u8 10), .lit (.int .u8 25), .lit (.int .u8 14), .lit (.int .u8 19), .lit (.int .u8 9), .lit (.int .u8 13), .lit (.int .u8 8), .lit (.int .u8 7), .lit (.int .u8 6)]
def laid_internal_strconv_uint64pow10 {H : Type} : DataW H := .agg [.lit (.int .u64 1), .lit (.int .u64 10), .lit (.int .u64 100), .lit (.int .u64 1000), .lit (.int .u64 10000), .lit (.int .u64 100000), .lit (.int .u64 1000000), .lit (.int .u64 10000000), .lit (.int .u64 100000000), .lit (.int .u64 1000000000), .lit (.int .u64 10000000000), .lit (.int .u64 100000000000), .lit (.int .u64 1000000000000), .lit (.int .u64 10000000000000), .lit (.int .u64 100000000000000), .lit (.int .u64 1000000000000000), .lit (.int .u64 10000000000000000), .lit (.int .u64 100000000000000000), .lit (.int .u64 1000000000000000000), .lit (.int .u64 10000000000000000000)]

/-- 'pommellaw05.KinFits': WHATEVER THE INPUT: true; the input reads as it did. -/
def kinFitsSpec : ChangeSpec := { name := "kinFits", fn := fun _ => fun
  | [d] => { results := [.lit (.bool true)], args := [d] }
  | _ => none }
def kinFitsRow : OpenClaim := { program := "ytdgdemiifloliaagreatdoor", sum := "09f709fecead954aeaba4349f72f8f0b541f1c5350621c605836dfc6aa60f37e", func := "pommel/pommellaw05.KinFits", spec := "kinFits", inPlace := ["internal/abi.NoEscape", "internal/bytealg.MakeNoZero"], unfollowed := true, recurses := true, named := ["internal/strconv.uint64pow10", "math/bits.deBruijn32tab", "math/bits.deBruijn64tab"], apart := false, laid := [("math/bits.deBruijn32tab", laid_math_bits_deBruijn32tab), ("math/bits.deBruijn64tab", laid_math_bits_deBruijn64tab), ("internal/strconv.uint64pow10", laid_internal_strconv_uint64pow10)] }
def KinFitsSaid : Prop := kinFitsRow.holds Tryz.pinned (OpenSpec.ofChange kinFitsSpec)

/-- ITS FALSE NEIGHBOUR: 'it returns false'. Refute it at one input. -/
def kinFitsWrong : ChangeSpec := { name := "kinFits", fn := fun _ => fun
  | [d] => { results := [.lit (.bool false)], args := [d] }
  | _ => none }
def KinFitsWrongFalsely : Prop := kinFitsRow.holds Tryz.pinned (OpenSpec.ofChange kinFitsWrong)

/-- 'pommellaw05.KinTrees': WHATEVER THE INPUT: true; the input reads as it did. -/
def kinTreesSpec : ChangeSpec := { name := "kinTrees", fn := fun _ => fun
  | [d] => { results := [.lit (.bool true)], args := [d] }
  | _ => none }
def kinTreesRow : OpenClaim := { program := "ytdgdemiifloliaagreatdoor", sum := "09f709fecead954aeaba4349f72f8f0b541f1c5350621c605836dfc6aa60f37e", func := "pommel/pommellaw05.KinTrees", spec := "kinTrees", inPlace := ["internal/abi.NoEscape", "internal/bytealg.MakeNoZero"], unfollowed := true, recurses := true, named := ["internal/strconv.uint64pow10", "math/bits.deBruijn32tab", "math/bits.deBruijn64tab"], apart := false, laid := [("math/bits.deBruijn32tab", laid_math_bits_deBruijn32tab), ("math/bits.deBruijn64tab", laid_math_bits_deBruijn64tab), ("internal/strconv.uint64pow10", laid_internal_strconv_uint64pow10)] }
def KinTreesSaid : Prop := kinTreesRow.holds Tryz.pinned (OpenSpec.ofChange kinTreesSpec)

/-- ITS FALSE NEIGHBOUR: 'it returns false'. Refute it at one input. -/
def kinTreesWrong : ChangeSpec := { name := "kinTrees", fn := fun _ => fun
  | [d] => { results := [.lit (.bool false)], args := [d] }
  | _ => none }
def KinTreesWrongFalsely : Prop := kinTreesRow.holds Tryz.pinned (OpenSpec.ofChange kinTreesWrong)

/-- 'pommellaw05.KinJoins': WHATEVER THE INPUT: true; the input reads as it did. -/
def kinJoinsSpec : ChangeSpec := { name := "kinJoins", fn := fun _ => fun
  | [d] => { results := [.lit (.bool true)], args := [d] }
  | _ => none }
def kinJoinsRow : OpenClaim := { program := "ytdgdemiifloliaagreatdoor", sum := "09f709fecead954aeaba4349f72f8f0b541f1c5350621c605836dfc6aa60f37e", func := "pommel/pommellaw05.KinJoins", spec := "kinJoins", inPlace := ["internal/abi.NoEscape", "internal/bytealg.MakeNoZero"], unfollowed := true, recurses := true, named := ["internal/strconv.uint64pow10", "math/bits.deBruijn32tab", "math/bits.deBruijn64tab"], apart := false, laid := [("math/bits.deBruijn32tab", laid_math_bits_deBruijn32tab), ("math/bits.deBruijn64tab", laid_math_bits_deBruijn64tab), ("internal/strconv.uint64pow10", laid_internal_strconv_uint64pow10)] }
def KinJoinsSaid : Prop := kinJoinsRow.holds Tryz.pinned (OpenSpec.ofChange kinJoinsSpec)

/-- ITS FALSE NEIGHBOUR: 'it returns false'. Refute it at one input. -/
def kinJoinsWrong : ChangeSpec := { name := "kinJoins", fn := fun _ => fun
  | [d] => { results := [.lit (.bool false)], args := [d] }
  | _ => none }
def KinJoinsWrongFalsely : Prop := kinJoinsRow.holds Tryz.pinned (OpenSpec.ofChange kinJoinsWrong)

/-- 'pommellaw05.KinDistances': WHATEVER THE INPUT: true; the input reads as it did. -/
def kinDistancesSpec : ChangeSpec := { name := "kinDistances", fn := fun _ => fun
  | [d1, d2] => { results := [.lit (.bool true)], args := [d1, d2] }
  | _ => none }
def kinDistancesRow : OpenClaim := { program := "ytdgdemiifloliaagreatdoor", sum := "09f709fecead954aeaba4349f72f8f0b541f1c5350621c605836dfc6aa60f37e", func := "pommel/pommellaw05.KinDistances", spec := "kinDistances", inPlace := ["internal/bytealg.IndexByteString", "internal/bytealg.IndexString", "internal/abi.NoEscape", "internal/bytealg.MakeNoZero"], unfollowed := true, recurses := true, named := ["internal/bytealg.MaxLen", "internal/strconv.uint64pow10", "math/bits.deBruijn32tab", "math/bits.deBruijn64tab"], apart := false, laid := [("math/bits.deBruijn32tab", laid_math_bits_deBruijn32tab), ("math/bits.deBruijn64tab", laid_math_bits_deBruijn64tab), ("internal/strconv.uint64pow10", laid_internal_strconv_uint64pow10)] }
def KinDistancesSaid : Prop := kinDistancesRow.holds Tryz.pinned (OpenSpec.ofChange kinDistancesSpec)

/-- ITS FALSE NEIGHBOUR: 'it returns false'. Refute it at one input. -/
def kinDistancesWrong : ChangeSpec := { name := "kinDistances", fn := fun _ => fun
  | [d1, d2] => { results := [.lit (.bool false)], args := [d1, d2] }
  | _ => none }
def KinDistancesWrongFalsely : Prop := kinDistancesRow.holds Tryz.pinned (OpenSpec.ofChange kinDistancesWrong)

/-- 'pommellaw05.KinBuneman': WHATEVER THE INPUT: true; the input reads as it did. -/
def kinBunemanSpec : ChangeSpec := { name := "kinBuneman", fn := fun _ => fun
  | [d1, d2, d3] => { results := [.lit (.bool true)], args := [d1, d2, d3] }
  | _ => none }
def kinBunemanRow : OpenClaim := { program := "ytdgdemiifloliaagreatdoor", sum := "09f709fecead954aeaba4349f72f8f0b541f1c5350621c605836dfc6aa60f37e", func := "pommel/pommellaw05.KinBuneman", spec := "kinBuneman", inPlace := ["internal/abi.NoEscape", "internal/bytealg.MakeNoZero", "internal/bytealg.IndexByteString", "internal/bytealg.IndexString"], unfollowed := true, recurses := true, named := ["internal/strconv.uint64pow10", "math/bits.deBruijn32tab", "math/bits.deBruijn64tab", "internal/bytealg.MaxLen"], apart := false, laid := [("math/bits.deBruijn32tab", laid_math_bits_deBruijn32tab), ("math/bits.deBruijn64tab", laid_math_bits_deBruijn64tab), ("internal/strconv.uint64pow10", laid_internal_strconv_uint64pow10)] }
def KinBunemanSaid : Prop := kinBunemanRow.holds Tryz.pinned (OpenSpec.ofChange kinBunemanSpec)

/-- ITS FALSE NEIGHBOUR: 'it returns false'. Refute it at one input. -/
def kinBunemanWrong : ChangeSpec := { name := "kinBuneman", fn := fun _ => fun
  | [d1, d2, d3] => { results := [.lit (.bool false)], args := [d1, d2, d3] }
  | _ => none }
def KinBunemanWrongFalsely : Prop := kinBunemanRow.holds Tryz.pinned (OpenSpec.ofChange kinBunemanWrong)

/-- 'pommellaw05.KinDress': WHATEVER THE INPUT: true; the input reads as it did. -/
def kinDressSpec : ChangeSpec := { name := "kinDress", fn := fun _ => fun
  | [d1, d2] => { results := [.lit (.bool true)], args := [d1, d2] }
  | _ => none }
def kinDressRow : OpenClaim := { program := "ytdgdemiifloliaagreatdoor", sum := "09f709fecead954aeaba4349f72f8f0b541f1c5350621c605836dfc6aa60f37e", func := "pommel/pommellaw05.KinDress", spec := "kinDress", inPlace := ["internal/abi.NoEscape", "internal/bytealg.MakeNoZero", "internal/bytealg.IndexByteString", "internal/bytealg.IndexString"], unfollowed := true, recurses := true, named := ["internal/strconv.uint64pow10", "math/bits.deBruijn32tab", "math/bits.deBruijn64tab", "internal/bytealg.MaxLen"], apart := false, laid := [("math/bits.deBruijn32tab", laid_math_bits_deBruijn32tab), ("math/bits.deBruijn64tab", laid_math_bits_deBruijn64tab), ("internal/strconv.uint64pow10", laid_internal_strconv_uint64pow10)] }
def KinDressSaid : Prop := kinDressRow.holds Tryz.pinned (OpenSpec.ofChange kinDressSpec)

/-- ITS FALSE NEIGHBOUR: 'it returns false'. Refute it at one input. -/
def kinDressWrong : ChangeSpec := { name := "kinDress", fn := fun _ => fun
  | [d1, d2] => { results := [.lit (.bool false)], args := [d1, d2] }
  | _ => none }
def KinDressWrongFalsely : Prop := kinDressRow.holds Tryz.pinned (OpenSpec.ofChange kinDressWrong)

/-- 'pommellaw05.KinNeighbours': WHATEVER THE INPUT: true; the input reads as it did. -/
def kinNeighboursSpec : ChangeSpec := { name := "kinNeighbours", fn := fun _ => fun
  | [d1, d2] => { results := [.lit (.bool true)], args := [d1, d2] }
  | _ => none }
def kinNeighboursRow : OpenClaim := { program := "ytdgdemiifloliaagreatdoor", sum := "09f709fecead954aeaba4349f72f8f0b541f1c5350621c605836dfc6aa60f37e", func := "pommel/pommellaw05.KinNeighbours", spec := "kinNeighbours", inPlace := ["internal/abi.NoEscape", "internal/bytealg.MakeNoZero"], unfollowed := true, recurses := true, named := ["internal/strconv.uint64pow10", "math/bits.deBruijn32tab", "math/bits.deBruijn64tab"], apart := false, laid := [("math/bits.deBruijn32tab", laid_math_bits_deBruijn32tab), ("math/bits.deBruijn64tab", laid_math_bits_deBruijn64tab), ("internal/strconv.uint64pow10", laid_internal_strconv_uint64pow10)] }
def KinNeighboursSaid : Prop := kinNeighboursRow.holds Tryz.pinned (OpenSpec.ofChange kinNeighboursSpec)

/-- ITS FALSE NEIGHBOUR: 'it returns false'. Refute it at one input. -/
def kinNeighboursWrong : ChangeSpec := { name := "kinNeighbours", fn := fun _ => fun
  | [d1, d2] => { results := [.lit (.bool false)], args := [d1, d2] }
  | _ => none }
def KinNeighboursWrongFalsely : Prop := kinNeighboursRow.holds Tryz.pinned (OpenSpec.ofChange kinNeighboursWrong)

/-- 'pommellaw05.KinDepths': WHATEVER THE INPUT: true; the input reads as it did. -/
def kinDepthsSpec : ChangeSpec := { name := "kinDepths", fn := fun _ => fun
  | [d1, d2, d3] => { results := [.lit (.bool true)], args := [d1, d2, d3] }
  | _ => none }
def kinDepthsRow : OpenClaim := { program := "ytdgdemiifloliaagreatdoor", sum := "09f709fecead954aeaba4349f72f8f0b541f1c5350621c605836dfc6aa60f37e", func := "pommel/pommellaw05.KinDepths", spec := "kinDepths", inPlace := ["internal/abi.NoEscape", "internal/bytealg.MakeNoZero"], unfollowed := true, recurses := true, named := ["internal/strconv.uint64pow10", "math/bits.deBruijn32tab", "math/bits.deBruijn64tab"], apart := false, laid := [("math/bits.deBruijn32tab", laid_math_bits_deBruijn32tab), ("math/bits.deBruijn64tab", laid_math_bits_deBruijn64tab), ("internal/strconv.uint64pow10", laid_internal_strconv_uint64pow10)] }
def KinDepthsSaid : Prop := kinDepthsRow.holds Tryz.pinned (OpenSpec.ofChange kinDepthsSpec)

/-- ITS FALSE NEIGHBOUR: 'it returns false'. Refute it at one input. -/
def kinDepthsWrong : ChangeSpec := { name := "kinDepths", fn := fun _ => fun
  | [d1, d2, d3] => { results := [.lit (.bool false)], args := [d1, d2, d3] }
  | _ => none }
def KinDepthsWrongFalsely : Prop := kinDepthsRow.holds Tryz.pinned (OpenSpec.ofChange kinDepthsWrong)

/-- 'pommellaw05.KinMoved': WHATEVER THE INPUT: true; the input reads as it did. -/
def kinMovedSpec : ChangeSpec := { name := "kinMoved", fn := fun _ => fun
  | [d1, d2, d3] => { results := [.lit (.bool true)], args := [d1, d2, d3] }
  | _ => none }
def kinMovedRow : OpenClaim := { program := "ytdgdemiifloliaagreatdoor", sum := "09f709fecead954aeaba4349f72f8f0b541f1c5350621c605836dfc6aa60f37e", func := "pommel/pommellaw05.KinMoved", spec := "kinMoved", inPlace := ["internal/abi.NoEscape", "internal/bytealg.MakeNoZero"], unfollowed := true, recurses := true, named := ["internal/strconv.uint64pow10", "math/bits.deBruijn32tab", "math/bits.deBruijn64tab"], apart := false, laid := [("math/bits.deBruijn32tab", laid_math_bits_deBruijn32tab), ("math/bits.deBruijn64tab", laid_math_bits_deBruijn64tab), ("internal/strconv.uint64pow10", laid_internal_strconv_uint64pow10)] }
def KinMovedSaid : Prop := kinMovedRow.holds Tryz.pinned (OpenSpec.ofChange kinMovedSpec)

/-- ITS FALSE NEIGHBOUR: 'it returns false'. Refute it at one input. -/
def kinMovedWrong : ChangeSpec := { name := "kinMoved", fn := fun _ => fun
  | [d1, d2, d3] => { results := [.lit (.bool false)], args := [d1, d2, d3] }
  | _ => none }
def KinMovedWrongFalsely : Prop := kinMovedRow.holds Tryz.pinned (OpenSpec.ofChange kinMovedWrong)

/-- 'pommellaw05.KinTwice': WHATEVER THE INPUT: true; the input reads as it did. -/
def kinTwiceSpec : ChangeSpec := { name := "kinTwice", fn := fun _ => fun
  | [d1, d2] => { results := [.lit (.bool true)], args := [d1, d2] }
  | _ => none }
def kinTwiceRow : OpenClaim := { program := "ytdgdemiifloliaagreatdoor", sum := "09f709fecead954aeaba4349f72f8f0b541f1c5350621c605836dfc6aa60f37e", func := "pommel/pommellaw05.KinTwice", spec := "kinTwice", inPlace := ["internal/abi.NoEscape", "internal/bytealg.MakeNoZero"], unfollowed := true, recurses := true, named := ["internal/strconv.uint64pow10", "math/bits.deBruijn32tab", "math/bits.deBruijn64tab"], apart := false, laid := [("math/bits.deBruijn32tab", laid_math_bits_deBruijn32tab), ("math/bits.deBruijn64tab", laid_math_bits_deBruijn64tab), ("internal/strconv.uint64pow10", laid_internal_strconv_uint64pow10)] }
def KinTwiceSaid : Prop := kinTwiceRow.holds Tryz.pinned (OpenSpec.ofChange kinTwiceSpec)

/-- ITS FALSE NEIGHBOUR: 'it returns false'. Refute it at one input. -/
def kinTwiceWrong : ChangeSpec := { name := "kinTwice", fn := fun _ => fun
  | [d1, d2] => { results := [.lit (.bool false)], args := [d1, d2] }
  | _ => none }
def KinTwiceWrongFalsely : Prop := kinTwiceRow.holds Tryz.pinned (OpenSpec.ofChange kinTwiceWrong)

/-- 'pommeltop.TopHoles': WHATEVER THE INPUT: true; the input reads as it did. -/
def topHolesSpec : ChangeSpec := { name := "topHoles", fn := fun _ => fun
  | [d1, d2] => { results := [.lit (.bool true)], args := [d1, d2] }
  | _ => none }
def topHolesRow : OpenClaim := { program := "ytdgdemiifloliaagreatdoor", sum := "09f709fecead954aeaba4349f72f8f0b541f1c5350621c605836dfc6aa60f37e", func := "pommel/pommeltop.TopHoles", spec := "topHoles", inPlace := ["internal/abi.NoEscape", "internal/bytealg.MakeNoZero", "internal/bytealg.IndexByteString", "internal/bytealg.IndexString"], unfollowed := true, recurses := true, named := ["internal/strconv.uint64pow10", "math/bits.deBruijn32tab", "math/bits.deBruijn64tab", "internal/bytealg.MaxLen"], apart := false, laid := [("math/bits.deBruijn32tab", laid_math_bits_deBruijn32tab), ("math/bits.deBruijn64tab", laid_math_bits_deBruijn64tab), ("internal/strconv.uint64pow10", laid_internal_strconv_uint64pow10)] }
def TopHolesSaid : Prop := topHolesRow.holds Tryz.pinned (OpenSpec.ofChange topHolesSpec)

/-- ITS FALSE NEIGHBOUR: 'it returns false'. Refute it at one input. -/
def topHolesWrong : ChangeSpec := { name := "topHoles", fn := fun _ => fun
  | [d1, d2] => { results := [.lit (.bool false)], args := [d1, d2] }
  | _ => none }
def TopHolesWrongFalsely : Prop := topHolesRow.holds Tryz.pinned (OpenSpec.ofChange topHolesWrong)

/- THE SECOND FORM. 'bulk': how many values and letters a reading holds, each counted each time it is reached (what is shared counts as often as it is met; a slice's spare places count too). A statement '..UptoSaid' is the law's where the arguments, and the package variables that the reading takes, are together of bulk at most 1048576: NARROWER than '..Said'. Prove '..Said' where nothing that the law and all that it calls make is longer than what came in: it says more and counts as full. Else prove '..UptoSaid'. A law counts once. -/
mutual
def uptoBulk {H : Type} : DataW H → Nat
  | .lit (.string bytes) => bytes.length + 1
  | .lit _ => 1
  | .nil => 1
  | .ptr d => uptoBulk d + 1
  | .slice elems spare => uptoBulkAll elems + uptoBulkAll spare + 1
  | .agg parts => uptoBulkAll parts + 1
  | .iface _ d => uptoBulk d + 1
  | .map entries => uptoBulkEntries entries + 1
  | .held _ => 1
def uptoBulkAll {H : Type} : List (DataW H) → Nat
  | [] => 0
  | d :: r => uptoBulk d + uptoBulkAll r
def uptoBulkEntries {H : Type} : List (Lit × DataW H) → Nat
  | [] => 0
  | x :: r => uptoBulkEntry x + uptoBulkEntries r
def uptoBulkEntry {H : Type} : Lit × DataW H → Nat
  | (.string bytes, d) => bytes.length + uptoBulk d + 1
  | (_, d) => uptoBulk d + 1
 end
def uptoSmall : (H : Type) → List (DataW H) → Bool := fun _ ds => decide (uptoBulkAll ds ≤ 1048576)
def OpenSpec.upto (s : _root_.Go.ChangeSpec) : _root_.Go.OpenSpec := { _root_.Go.OpenSpec.ofChange s with cond := some uptoSmall }

/-- 'pommellaw05.KinFits', WHERE WHAT IT READS IS OF BULK AT MOST 1048576: true; the input reads as it did. -/
def kinFitsUptoRow : OpenClaim := { program := "ytdgdemiifloliaagreatdoor", sum := "09f709fecead954aeaba4349f72f8f0b541f1c5350621c605836dfc6aa60f37e", func := "pommel/pommellaw05.KinFits", spec := "kinFits", inPlace := ["internal/abi.NoEscape", "internal/bytealg.MakeNoZero"], unfollowed := true, recurses := true, named := ["internal/strconv.uint64pow10", "math/bits.deBruijn32tab", "math/bits.deBruijn64tab"], apart := false, laid := [("math/bits.deBruijn32tab", laid_math_bits_deBruijn32tab), ("math/bits.deBruijn64tab", laid_math_bits_deBruijn64tab), ("internal/strconv.uint64pow10", laid_internal_strconv_uint64pow10)], narrowed := true }
def KinFitsUptoSaid : Prop := kinFitsUptoRow.holds Tryz.pinned (OpenSpec.upto kinFitsSpec)

/-- 'pommellaw05.KinTrees', WHERE WHAT IT READS IS OF BULK AT MOST 1048576: true; the input reads as it did. -/
def kinTreesUptoRow : OpenClaim := { program := "ytdgdemiifloliaagreatdoor", sum := "09f709fecead954aeaba4349f72f8f0b541f1c5350621c605836dfc6aa60f37e", func := "pommel/pommellaw05.KinTrees", spec := "kinTrees", inPlace := ["internal/abi.NoEscape", "internal/bytealg.MakeNoZero"], unfollowed := true, recurses := true, named := ["internal/strconv.uint64pow10", "math/bits.deBruijn32tab", "math/bits.deBruijn64tab"], apart := false, laid := [("math/bits.deBruijn32tab", laid_math_bits_deBruijn32tab), ("math/bits.deBruijn64tab", laid_math_bits_deBruijn64tab), ("internal/strconv.uint64pow10", laid_internal_strconv_uint64pow10)], narrowed := true }
def KinTreesUptoSaid : Prop := kinTreesUptoRow.holds Tryz.pinned (OpenSpec.upto kinTreesSpec)

/-- 'pommellaw05.KinJoins', WHERE WHAT IT READS IS OF BULK AT MOST 1048576: true; the input reads as it did. -/
def kinJoinsUptoRow : OpenClaim := { program := "ytdgdemiifloliaagreatdoor", sum := "09f709fecead954aeaba4349f72f8f0b541f1c5350621c605836dfc6aa60f37e", func := "pommel/pommellaw05.KinJoins", spec := "kinJoins", inPlace := ["internal/abi.NoEscape", "internal/bytealg.MakeNoZero"], unfollowed := true, recurses := true, named := ["internal/strconv.uint64pow10", "math/bits.deBruijn32tab", "math/bits.deBruijn64tab"], apart := false, laid := [("math/bits.deBruijn32tab", laid_math_bits_deBruijn32tab), ("math/bits.deBruijn64tab", laid_math_bits_deBruijn64tab), ("internal/strconv.uint64pow10", laid_internal_strconv_uint64pow10)], narrowed := true }
def KinJoinsUptoSaid : Prop := kinJoinsUptoRow.holds Tryz.pinned (OpenSpec.upto kinJoinsSpec)

/-- 'pommellaw05.KinDistances', WHERE WHAT IT READS IS OF BULK AT MOST 1048576: true; the input reads as it did. -/
def kinDistancesUptoRow : OpenClaim := { program := "ytdgdemiifloliaagreatdoor", sum := "09f709fecead954aeaba4349f72f8f0b541f1c5350621c605836dfc6aa60f37e", func := "pommel/pommellaw05.KinDistances", spec := "kinDistances", inPlace := ["internal/bytealg.IndexByteString", "internal/bytealg.IndexString", "internal/abi.NoEscape", "internal/bytealg.MakeNoZero"], unfollowed := true, recurses := true, named := ["internal/bytealg.MaxLen", "internal/strconv.uint64pow10", "math/bits.deBruijn32tab", "math/bits.deBruijn64tab"], apart := false, laid := [("math/bits.deBruijn32tab", laid_math_bits_deBruijn32tab), ("math/bits.deBruijn64tab", laid_math_bits_deBruijn64tab), ("internal/strconv.uint64pow10", laid_internal_strconv_uint64pow10)], narrowed := true }
def KinDistancesUptoSaid : Prop := kinDistancesUptoRow.holds Tryz.pinned (OpenSpec.upto kinDistancesSpec)

/-- 'pommellaw05.KinBuneman', WHERE WHAT IT READS IS OF BULK AT MOST 1048576: true; the input reads as it did. -/
def kinBunemanUptoRow : OpenClaim := { program := "ytdgdemiifloliaagreatdoor", sum := "09f709fecead954aeaba4349f72f8f0b541f1c5350621c605836dfc6aa60f37e", func := "pommel/pommellaw05.KinBuneman", spec := "kinBuneman", inPlace := ["internal/abi.NoEscape", "internal/bytealg.MakeNoZero", "internal/bytealg.IndexByteString", "internal/bytealg.IndexString"], unfollowed := true, recurses := true, named := ["internal/strconv.uint64pow10", "math/bits.deBruijn32tab", "math/bits.deBruijn64tab", "internal/bytealg.MaxLen"], apart := false, laid := [("math/bits.deBruijn32tab", laid_math_bits_deBruijn32tab), ("math/bits.deBruijn64tab", laid_math_bits_deBruijn64tab), ("internal/strconv.uint64pow10", laid_internal_strconv_uint64pow10)], narrowed := true }
def KinBunemanUptoSaid : Prop := kinBunemanUptoRow.holds Tryz.pinned (OpenSpec.upto kinBunemanSpec)

/-- 'pommellaw05.KinDress', WHERE WHAT IT READS IS OF BULK AT MOST 1048576: true; the input reads as it did. -/
def kinDressUptoRow : OpenClaim := { program := "ytdgdemiifloliaagreatdoor", sum := "09f709fecead954aeaba4349f72f8f0b541f1c5350621c605836dfc6aa60f37e", func := "pommel/pommellaw05.KinDress", spec := "kinDress", inPlace := ["internal/abi.NoEscape", "internal/bytealg.MakeNoZero", "internal/bytealg.IndexByteString", "internal/bytealg.IndexString"], unfollowed := true, recurses := true, named := ["internal/strconv.uint64pow10", "math/bits.deBruijn32tab", "math/bits.deBruijn64tab", "internal/bytealg.MaxLen"], apart := false, laid := [("math/bits.deBruijn32tab", laid_math_bits_deBruijn32tab), ("math/bits.deBruijn64tab", laid_math_bits_deBruijn64tab), ("internal/strconv.uint64pow10", laid_internal_strconv_uint64pow10)], narrowed := true }
def KinDressUptoSaid : Prop := kinDressUptoRow.holds Tryz.pinned (OpenSpec.upto kinDressSpec)

/-- 'pommellaw05.KinNeighbours', WHERE WHAT IT READS IS OF BULK AT MOST 1048576: true; the input reads as it did. -/
def kinNeighboursUptoRow : OpenClaim := { program := "ytdgdemiifloliaagreatdoor", sum := "09f709fecead954aeaba4349f72f8f0b541f1c5350621c605836dfc6aa60f37e", func := "pommel/pommellaw05.KinNeighbours", spec := "kinNeighbours", inPlace := ["internal/abi.NoEscape", "internal/bytealg.MakeNoZero"], unfollowed := true, recurses := true, named := ["internal/strconv.uint64pow10", "math/bits.deBruijn32tab", "math/bits.deBruijn64tab"], apart := false, laid := [("math/bits.deBruijn32tab", laid_math_bits_deBruijn32tab), ("math/bits.deBruijn64tab", laid_math_bits_deBruijn64tab), ("internal/strconv.uint64pow10", laid_internal_strconv_uint64pow10)], narrowed := true }
def KinNeighboursUptoSaid : Prop := kinNeighboursUptoRow.holds Tryz.pinned (OpenSpec.upto kinNeighboursSpec)

/-- 'pommellaw05.KinDepths', WHERE WHAT IT READS IS OF BULK AT MOST 1048576: true; the input reads as it did. -/
def kinDepthsUptoRow : OpenClaim := { program := "ytdgdemiifloliaagreatdoor", sum := "09f709fecead954aeaba4349f72f8f0b541f1c5350621c605836dfc6aa60f37e", func := "pommel/pommellaw05.KinDepths", spec := "kinDepths", inPlace := ["internal/abi.NoEscape", "internal/bytealg.MakeNoZero"], unfollowed := true, recurses := true, named := ["internal/strconv.uint64pow10", "math/bits.deBruijn32tab", "math/bits.deBruijn64tab"], apart := false, laid := [("math/bits.deBruijn32tab", laid_math_bits_deBruijn32tab), ("math/bits.deBruijn64tab", laid_math_bits_deBruijn64tab), ("internal/strconv.uint64pow10", laid_internal_strconv_uint64pow10)], narrowed := true }
def KinDepthsUptoSaid : Prop := kinDepthsUptoRow.holds Tryz.pinned (OpenSpec.upto kinDepthsSpec)

/-- 'pommellaw05.KinMoved', WHERE WHAT IT READS IS OF BULK AT MOST 1048576: true; the input reads as it did. -/
def kinMovedUptoRow : OpenClaim := { program := "ytdgdemiifloliaagreatdoor", sum := "09f709fecead954aeaba4349f72f8f0b541f1c5350621c605836dfc6aa60f37e", func := "pommel/pommellaw05.KinMoved", spec := "kinMoved", inPlace := ["internal/abi.NoEscape", "internal/bytealg.MakeNoZero"], unfollowed := true, recurses := true, named := ["internal/strconv.uint64pow10", "math/bits.deBruijn32tab", "math/bits.deBruijn64tab"], apart := false, laid := [("math/bits.deBruijn32tab", laid_math_bits_deBruijn32tab), ("math/bits.deBruijn64tab", laid_math_bits_deBruijn64tab), ("internal/strconv.uint64pow10", laid_internal_strconv_uint64pow10)], narrowed := true }
def KinMovedUptoSaid : Prop := kinMovedUptoRow.holds Tryz.pinned (OpenSpec.upto kinMovedSpec)

/-- 'pommellaw05.KinTwice', WHERE WHAT IT READS IS OF BULK AT MOST 1048576: true; the input reads as it did. -/
def kinTwiceUptoRow : OpenClaim := { program := "ytdgdemiifloliaagreatdoor", sum := "09f709fecead954aeaba4349f72f8f0b541f1c5350621c605836dfc6aa60f37e", func := "pommel/pommellaw05.KinTwice", spec := "kinTwice", inPlace := ["internal/abi.NoEscape", "internal/bytealg.MakeNoZero"], unfollowed := true, recurses := true, named := ["internal/strconv.uint64pow10", "math/bits.deBruijn32tab", "math/bits.deBruijn64tab"], apart := false, laid := [("math/bits.deBruijn32tab", laid_math_bits_deBruijn32tab), ("math/bits.deBruijn64tab", laid_math_bits_deBruijn64tab), ("internal/strconv.uint64pow10", laid_internal_strconv_uint64pow10)], narrowed := true }
def KinTwiceUptoSaid : Prop := kinTwiceUptoRow.holds Tryz.pinned (OpenSpec.upto kinTwiceSpec)

/-- 'pommeltop.TopHoles', WHERE WHAT IT READS IS OF BULK AT MOST 1048576: true; the input reads as it did. -/
def topHolesUptoRow : OpenClaim := { program := "ytdgdemiifloliaagreatdoor", sum := "09f709fecead954aeaba4349f72f8f0b541f1c5350621c605836dfc6aa60f37e", func := "pommel/pommeltop.TopHoles", spec := "topHoles", inPlace := ["internal/abi.NoEscape", "internal/bytealg.MakeNoZero", "internal/bytealg.IndexByteString", "internal/bytealg.IndexString"], unfollowed := true, recurses := true, named := ["internal/strconv.uint64pow10", "math/bits.deBruijn32tab", "math/bits.deBruijn64tab", "internal/bytealg.MaxLen"], apart := false, laid := [("math/bits.deBruijn32tab", laid_math_bits_deBruijn32tab), ("math/bits.deBruijn64tab", laid_math_bits_deBruijn64tab), ("internal/strconv.uint64pow10", laid_internal_strconv_uint64pow10)], narrowed := true }
def TopHolesUptoSaid : Prop := topHolesUptoRow.holds Tryz.pinned (OpenSpec.upto topHolesSpec)

end Rows
end Go.Proofs.YtdgdemiifloliaaGreatDoor
