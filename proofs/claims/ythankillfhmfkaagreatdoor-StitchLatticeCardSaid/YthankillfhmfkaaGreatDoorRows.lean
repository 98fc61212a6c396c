/-
  NARROWER THAN 'FOR EVERY INPUT', by the rows' own cells (each row's printed sentence says how): StitchSteps: laid · StitchEquals: laid · StitchWays: laid · StitchCounts: laid · StitchRests: laid · StitchMeets: laid · StitchParts: laid · StitchForms: laid · StitchPairs: laid · StitchCartier: laid · StitchRest: laid · StitchLattice: laid · StitchLevi: laid · StitchApart: laid · StitchFree: laid.
  DERIVED. THE GIVEN ROWS OF THIS SEAT. 15 by the template 'for every input the law returns true; each argument reads behind the call as it read before'; 0 by the template 'total and deterministic' (their statements: YthankillfhmfkaaGreatDoorTotals.lean).
  GIVEN WITH THE SEED: the statements are not yours to turn. If you find one false, say at which input.
  Laid BY PROGRAM, IN A SANDBOX (cutbox-rows.mjs): the forced cells as the released guide's own fill.sh prints them over the translation 4e5083df5eb0ce39… (all of the seat's roots in one cut). By AI agents, Wed Nov 11 2026. No macro, syntax, notation, axiom, sorry.
-/
import Derived.Test.YthankillfhmfkaaGreatDoorChecked
import GoSem.Claim
import GoSem.ClaimJoined
import GoSem.ClaimMapViews
import Derived.JoinedTies
import Derived.KernelRfl
namespace Go.Proofs.YthankillfhmfkaaGreatDoor
/- THE CELL 'sum', in the pinned program and in every row, IS THE sha256 OF THE DUMP (.gsa) THAT YthankillfhmfkaaGreatDoorProg.lean LOADS. Nothing in Lean hashes anything: it is a label: what it is worth is what the hold of that sum in a sandbox is worth. -/
noncomputable def Tryz.pinned : Pinned := { name := "ythankillfhmfkaagreatdoor", sum := "4e5083df5eb0ce39ff34f248163ae660e4a9e952bd8d39069f321cb611aaf122", checked := Tryz.checked }
namespace Rows
def none {H : Type} : Left H := { results := [], args := [] }

/- WHAT THE LISTED PACKAGE-LEVEL VARIABLES READ AS WHEN THE CALL BEGINS. Each datum BY PROGRAM (the guide's laid-datum.mjs) off the statement by which the dump's own 'gosem.cut.vars' lays the variable. In a bare row this is a premise. The card (YthankillfhmfkaaGreatDoorCards.lean) ties it to the program's text. -/
def laid_math_bits_deBruijn32tab {H : Type} : DataW H := .agg [.lit (.int .u8 0), .lit (.int .u8 1), .lit (.int .u8 28), .lit (.int .u8 2), .lit (.int .u8 29), .lit (.int .u8 14), .lit (.int .u8 24), .lit (.int .u8 3), .lit (.int .u8 30), .lit (.int .u8 22), .lit (.int .u8 20), .lit (.int .u8 15), .lit (.int .u8 25), .lit (.int .u8 17), .lit (.int .u8 4), .lit (.int .u8 8), .lit (.int .u8 31), .lit (.int .u8 27), .lit (.int .u8 13), .lit (.int .u8 23), .lit (.int .u8 21), .lit (.int .u8 19), .lit (.int .u8 16), .lit (.int .u8 7), .lit (.int .u8 26), .lit (.int .u8 12), .lit (.int .u8 18), .lit (.int .u8 6), .lit (.int .u8 11), .lit (.int .u8 5), .lit (.int .u8 10), .lit (.int .u8 9)]
def laid_math_bits_deBruijn64tab {H : Type} : DataW H := .agg [.lit (.int .u8 0), .lit (.int .u8 1), .lit (.int .u8 56), .lit (.int .u8 2), .lit (.int .u8 57), .lit (.int .u8 49), .lit (.int .u8 28), .lit (.int .u8 3), .lit (.int .u8 61), .lit (.int .u8 58), .lit (.int .u8 42), .lit (.int .u8 50), .lit (.int .u8 38), .lit (.int .u8 29), .lit (.int .u8 17), .lit (.int .u8 4), .lit (.int .u8 62), .lit (.int .u8 47), .lit (.int .u8 59), .lit (.int .u8 36), .lit (.int .u8 45), .lit (.int .u8 43), .lit (.int .u8 51), .lit (.int .u8 22), .lit (.int .u8 53), .lit (.int .u8 39), .lit (.int .u8 33), .lit (.int .u8 30), .lit (.int .u8 24), .lit (.int .u8 18), .lit (.int .u8 12), .lit (.int .u8 5), .lit (.int .u8 63), .lit (.int .u8 55), .lit (.int .u8 48), .lit (.int .u8 27), .lit (.int .u8 60), .lit (.int .u8 41), .lit (.int .u8 37), .lit (.int .u8 16), .lit (.int .u8 46), .lit (.int .u8 35), .lit (.int .u8 44), .lit (.int .u8 21), .lit (.int .u8 52), .lit (.int .u8 32), .lit (.int .u8 23), .lit (.int .u8 11), .lit (.int .u8 54), .lit (.int .u8 26), .lit (.int .u8 40), .lit (.int .u8 15), .lit (.int .u8 34), .lit (.int .u8 20), .lit (.int .u8 31), .lit (.int .u8 10), .lit (.int .u8 25), .lit (.int .u8 14), .lit (.int .u8 19), .lit (.int .u8 9), .lit (.int .u8 13), .lit (.int .u8 8), .lit (.int .u8 7), .lit (.int .u8 6)]
def laid_internal_strconv_uint64pow10 {H : Type} : DataW H := .agg [.lit (.int .u64 1), .lit (.int .u64 10), .lit (.int .u64 100), .lit (.int .u64 1000), .lit (.int .u64 10000), .lit (.int .u64 100000), .lit (.int .u64 1000000), .lit (.int .u64 10000000), .lit (.int .u64 100000000), .lit (.int .u64 1000000000), .lit (.int .u64 10000000000), .lit (.int .u64 100000000000), .lit (.int .u64 1000000000000), .lit (.int .u64 10000000000000), .lit (.int .u64 100000000000000), .lit (.int .u64 1000000000000000), .lit (.int .u64 10000000000000000), .lit (.int .u64 100000000000000000), .lit (.int .u64 1000000000000000000), .lit (.int .u64 10000000000000000000)]

/-- 'pommellaw03.StitchSteps': WHATEVER THE INPUT: true; the input reads as it did. -/
def stitchStepsSpec : ChangeSpec := { name := "stitchSteps", fn := fun _ => fun
  | [d1, d2] => { results := [.lit (.bool true)], args := [d1, d2] }
  | _ => none }
def stitchStepsRow : OpenClaim := { program := "ythankillfhmfkaagreatdoor", sum := "4e5083df5eb0ce39ff34f248163ae660e4a9e952bd8d39069f321cb611aaf122", func := "pommel/pommellaw03.StitchSteps", spec := "stitchSteps", inPlace := ["internal/abi.NoEscape", "internal/bytealg.MakeNoZero"], unfollowed := true, recurses := true, named := ["internal/strconv.uint64pow10", "math/bits.deBruijn32tab", "math/bits.deBruijn64tab"], apart := false, laid := [("math/bits.deBruijn32tab", laid_math_bits_deBruijn32tab), ("math/bits.deBruijn64tab", laid_math_bits_deBruijn64tab), ("internal/strconv.uint64pow10", laid_internal_strconv_uint64pow10)] }
def StitchStepsSaid : Prop := stitchStepsRow.holds Tryz.pinned (OpenSpec.ofChange stitchStepsSpec)

/-- ITS FALSE NEIGHBOUR: 'it returns false'. Refute it at one input. -/
def stitchStepsWrong : ChangeSpec := { name := "stitchSteps", fn := fun _ => fun
  | [d1, d2] => { results := [.lit (.bool false)], args := [d1, d2] }
  | _ => none }
def StitchStepsWrongFalsely : Prop := stitchStepsRow.holds Tryz.pinned (OpenSpec.ofChange stitchStepsWrong)

/-- 'pommellaw03.StitchEquals': WHATEVER THE INPUT: true; the input reads as it did. -/
def stitchEqualsSpec : ChangeSpec := { name := "stitchEquals", fn := fun _ => fun
  | [d1, d2, d3] => { results := [.lit (.bool true)], args := [d1, d2, d3] }
  | _ => none }
def stitchEqualsRow : OpenClaim := { program := "ythankillfhmfkaagreatdoor", sum := "4e5083df5eb0ce39ff34f248163ae660e4a9e952bd8d39069f321cb611aaf122", func := "pommel/pommellaw03.StitchEquals", spec := "stitchEquals", inPlace := ["internal/abi.NoEscape", "internal/bytealg.MakeNoZero"], unfollowed := true, recurses := true, named := ["internal/strconv.uint64pow10", "math/bits.deBruijn32tab", "math/bits.deBruijn64tab"], apart := false, laid := [("math/bits.deBruijn32tab", laid_math_bits_deBruijn32tab), ("math/bits.deBruijn64tab", laid_math_bits_deBruijn64tab), ("internal/strconv.uint64pow10", laid_internal_strconv_uint64pow10)] }
def StitchEqualsSaid : Prop := stitchEqualsRow.holds Tryz.pinned (OpenSpec.ofChange stitchEqualsSpec)

/-- ITS FALSE NEIGHBOUR: 'it returns false'. Refute it at one input. -/
def stitchEqualsWrong : ChangeSpec := { name := "stitchEquals", fn := fun _ => fun
  | [d1, d2, d3] => { results := [.lit (.bool false)], args := [d1, d2, d3] }
  | _ => none }
def StitchEqualsWrongFalsely : Prop := stitchEqualsRow.holds Tryz.pinned (OpenSpec.ofChange stitchEqualsWrong)

/-- 'pommellaw03.StitchWays': WHATEVER THE INPUT: true; the input reads as it did. -/
def stitchWaysSpec : ChangeSpec := { name := "stitchWays", fn := fun _ => fun
  | [d1, d2] => { results := [.lit (.bool true)], args := [d1, d2] }
  | _ => none }
def stitchWaysRow : OpenClaim := { program := "ythankillfhmfkaagreatdoor", sum := "4e5083df5eb0ce39ff34f248163ae660e4a9e952bd8d39069f321cb611aaf122", func := "pommel/pommellaw03.StitchWays", spec := "stitchWays", inPlace := ["internal/abi.NoEscape", "internal/bytealg.MakeNoZero"], unfollowed := true, recurses := true, named := ["internal/strconv.uint64pow10", "math/bits.deBruijn32tab", "math/bits.deBruijn64tab"], apart := false, laid := [("math/bits.deBruijn32tab", laid_math_bits_deBruijn32tab), ("math/bits.deBruijn64tab", laid_math_bits_deBruijn64tab), ("internal/strconv.uint64pow10", laid_internal_strconv_uint64pow10)] }
def StitchWaysSaid : Prop := stitchWaysRow.holds Tryz.pinned (OpenSpec.ofChange stitchWaysSpec)

/-- ITS FALSE NEIGHBOUR: 'it returns false'. Refute it at one input. -/
def stitchWaysWrong : ChangeSpec := { name := "stitchWays", fn := fun _ => fun
  | [d1, d2] => { results := [.lit (.bool false)], args := [d1, d2] }
  | _ => none }
def StitchWaysWrongFalsely : Prop := stitchWaysRow.holds Tryz.pinned (OpenSpec.ofChange stitchWaysWrong)

/-- 'pommellaw03.StitchCounts': WHATEVER THE INPUT: true; the input reads as it did. -/
def stitchCountsSpec : ChangeSpec := { name := "stitchCounts", fn := fun _ => fun
  | [d1, d2] => { results := [.lit (.bool true)], args := [d1, d2] }
  | _ => none }
def stitchCountsRow : OpenClaim := { program := "ythankillfhmfkaagreatdoor", sum := "4e5083df5eb0ce39ff34f248163ae660e4a9e952bd8d39069f321cb611aaf122", func := "pommel/pommellaw03.StitchCounts", spec := "stitchCounts", inPlace := ["internal/abi.NoEscape", "internal/bytealg.MakeNoZero"], unfollowed := true, recurses := true, named := ["internal/strconv.uint64pow10", "math/bits.deBruijn32tab", "math/bits.deBruijn64tab"], apart := false, laid := [("math/bits.deBruijn32tab", laid_math_bits_deBruijn32tab), ("math/bits.deBruijn64tab", laid_math_bits_deBruijn64tab), ("internal/strconv.uint64pow10", laid_internal_strconv_uint64pow10)] }
def StitchCountsSaid : Prop := stitchCountsRow.holds Tryz.pinned (OpenSpec.ofChange stitchCountsSpec)

/-- ITS FALSE NEIGHBOUR: 'it returns false'. Refute it at one input. -/
def stitchCountsWrong : ChangeSpec := { name := "stitchCounts", fn := fun _ => fun
  | [d1, d2] => { results := [.lit (.bool false)], args := [d1, d2] }
  | _ => none }
def StitchCountsWrongFalsely : Prop := stitchCountsRow.holds Tryz.pinned (OpenSpec.ofChange stitchCountsWrong)

/-- 'pommellaw03.StitchRests': WHATEVER THE INPUT: true; the input reads as it did. -/
def stitchRestsSpec : ChangeSpec := { name := "stitchRests", fn := fun _ => fun
  | [d1, d2, d3] => { results := [.lit (.bool true)], args := [d1, d2, d3] }
  | _ => none }
def stitchRestsRow : OpenClaim := { program := "ythankillfhmfkaagreatdoor", sum := "4e5083df5eb0ce39ff34f248163ae660e4a9e952bd8d39069f321cb611aaf122", func := "pommel/pommellaw03.StitchRests", spec := "stitchRests", inPlace := ["internal/abi.NoEscape", "internal/bytealg.MakeNoZero"], unfollowed := true, recurses := true, named := ["internal/strconv.uint64pow10", "math/bits.deBruijn32tab", "math/bits.deBruijn64tab"], apart := false, laid := [("math/bits.deBruijn32tab", laid_math_bits_deBruijn32tab), ("math/bits.deBruijn64tab", laid_math_bits_deBruijn64tab), ("internal/strconv.uint64pow10", laid_internal_strconv_uint64pow10)] }
def StitchRestsSaid : Prop := stitchRestsRow.holds Tryz.pinned (OpenSpec.ofChange stitchRestsSpec)

/-- ITS FALSE NEIGHBOUR: 'it returns false'. Refute it at one input. -/
def stitchRestsWrong : ChangeSpec := { name := "stitchRests", fn := fun _ => fun
  | [d1, d2, d3] => { results := [.lit (.bool false)], args := [d1, d2, d3] }
  | _ => none }
def StitchRestsWrongFalsely : Prop := stitchRestsRow.holds Tryz.pinned (OpenSpec.ofChange stitchRestsWrong)

/-- 'pommellaw03.StitchMeets': WHATEVER THE INPUT: true; the input reads as it did. -/
def stitchMeetsSpec : ChangeSpec := { name := "stitchMeets", fn := fun _ => fun
  | [d1, d2, d3] => { results := [.lit (.bool true)], args := [d1, d2, d3] }
  | _ => none }
def stitchMeetsRow : OpenClaim := { program := "ythankillfhmfkaagreatdoor", sum := "4e5083df5eb0ce39ff34f248163ae660e4a9e952bd8d39069f321cb611aaf122", func := "pommel/pommellaw03.StitchMeets", spec := "stitchMeets", inPlace := ["internal/abi.NoEscape", "internal/bytealg.MakeNoZero"], unfollowed := true, recurses := true, named := ["internal/strconv.uint64pow10", "math/bits.deBruijn32tab", "math/bits.deBruijn64tab"], apart := false, laid := [("math/bits.deBruijn32tab", laid_math_bits_deBruijn32tab), ("math/bits.deBruijn64tab", laid_math_bits_deBruijn64tab), ("internal/strconv.uint64pow10", laid_internal_strconv_uint64pow10)] }
def StitchMeetsSaid : Prop := stitchMeetsRow.holds Tryz.pinned (OpenSpec.ofChange stitchMeetsSpec)

/-- ITS FALSE NEIGHBOUR: 'it returns false'. Refute it at one input. -/
def stitchMeetsWrong : ChangeSpec := { name := "stitchMeets", fn := fun _ => fun
  | [d1, d2, d3] => { results := [.lit (.bool false)], args := [d1, d2, d3] }
  | _ => none }
def StitchMeetsWrongFalsely : Prop := stitchMeetsRow.holds Tryz.pinned (OpenSpec.ofChange stitchMeetsWrong)

/-- 'pommellaw03.StitchParts': WHATEVER THE INPUT: true; the input reads as it did. -/
def stitchPartsSpec : ChangeSpec := { name := "stitchParts", fn := fun _ => fun
  | [d1, d2] => { results := [.lit (.bool true)], args := [d1, d2] }
  | _ => none }
def stitchPartsRow : OpenClaim := { program := "ythankillfhmfkaagreatdoor", sum := "4e5083df5eb0ce39ff34f248163ae660e4a9e952bd8d39069f321cb611aaf122", func := "pommel/pommellaw03.StitchParts", spec := "stitchParts", inPlace := ["internal/abi.NoEscape", "internal/bytealg.MakeNoZero"], unfollowed := true, recurses := true, named := ["internal/strconv.uint64pow10", "math/bits.deBruijn32tab", "math/bits.deBruijn64tab"], apart := false, laid := [("math/bits.deBruijn32tab", laid_math_bits_deBruijn32tab), ("math/bits.deBruijn64tab", laid_math_bits_deBruijn64tab), ("internal/strconv.uint64pow10", laid_internal_strconv_uint64pow10)] }
def StitchPartsSaid : Prop := stitchPartsRow.holds Tryz.pinned (OpenSpec.ofChange stitchPartsSpec)

/-- ITS FALSE NEIGHBOUR: 'it returns false'. Refute it at one input. -/
def stitchPartsWrong : ChangeSpec := { name := "stitchParts", fn := fun _ => fun
  | [d1, d2] => { results := [.lit (.bool false)], args := [d1, d2] }
  | _ => none }
def StitchPartsWrongFalsely : Prop := stitchPartsRow.holds Tryz.pinned (OpenSpec.ofChange stitchPartsWrong)

/-- 'pommellaw03.StitchForms': WHATEVER THE INPUT: true; the input reads as it did. -/
def stitchFormsSpec : ChangeSpec := { name := "stitchForms", fn := fun _ => fun
  | [d1, d2, d3] => { results := [.lit (.bool true)], args := [d1, d2, d3] }
  | _ => none }
def stitchFormsRow : OpenClaim := { program := "ythankillfhmfkaagreatdoor", sum := "4e5083df5eb0ce39ff34f248163ae660e4a9e952bd8d39069f321cb611aaf122", func := "pommel/pommellaw03.StitchForms", spec := "stitchForms", inPlace := ["internal/abi.NoEscape", "internal/bytealg.MakeNoZero"], unfollowed := true, recurses := true, named := ["internal/strconv.uint64pow10", "math/bits.deBruijn32tab", "math/bits.deBruijn64tab"], apart := false, laid := [("math/bits.deBruijn32tab", laid_math_bits_deBruijn32tab), ("math/bits.deBruijn64tab", laid_math_bits_deBruijn64tab), ("internal/strconv.uint64pow10", laid_internal_strconv_uint64pow10)] }
def StitchFormsSaid : Prop := stitchFormsRow.holds Tryz.pinned (OpenSpec.ofChange stitchFormsSpec)

/-- ITS FALSE NEIGHBOUR: 'it returns false'. Refute it at one input. -/
def stitchFormsWrong : ChangeSpec := { name := "stitchForms", fn := fun _ => fun
  | [d1, d2, d3] => { results := [.lit (.bool false)], args := [d1, d2, d3] }
  | _ => none }
def StitchFormsWrongFalsely : Prop := stitchFormsRow.holds Tryz.pinned (OpenSpec.ofChange stitchFormsWrong)

/-- 'pommellaw03.StitchPairs': WHATEVER THE INPUT: true; the input reads as it did. -/
def stitchPairsSpec : ChangeSpec := { name := "stitchPairs", fn := fun _ => fun
  | [d1, d2, d3] => { results := [.lit (.bool true)], args := [d1, d2, d3] }
  | _ => none }
def stitchPairsRow : OpenClaim := { program := "ythankillfhmfkaagreatdoor", sum := "4e5083df5eb0ce39ff34f248163ae660e4a9e952bd8d39069f321cb611aaf122", func := "pommel/pommellaw03.StitchPairs", spec := "stitchPairs", inPlace := ["internal/abi.NoEscape", "internal/bytealg.MakeNoZero"], unfollowed := true, recurses := true, named := ["internal/strconv.uint64pow10", "math/bits.deBruijn32tab", "math/bits.deBruijn64tab"], apart := false, laid := [("math/bits.deBruijn32tab", laid_math_bits_deBruijn32tab), ("math/bits.deBruijn64tab", laid_math_bits_deBruijn64tab), ("internal/strconv.uint64pow10", laid_internal_strconv_uint64pow10)] }
def StitchPairsSaid : Prop := stitchPairsRow.holds Tryz.pinned (OpenSpec.ofChange stitchPairsSpec)

/-- ITS FALSE NEIGHBOUR: 'it returns false'. Refute it at one input. -/
def stitchPairsWrong : ChangeSpec := { name := "stitchPairs", fn := fun _ => fun
  | [d1, d2, d3] => { results := [.lit (.bool false)], args := [d1, d2, d3] }
  | _ => none }
def StitchPairsWrongFalsely : Prop := stitchPairsRow.holds Tryz.pinned (OpenSpec.ofChange stitchPairsWrong)

/-- 'pommellaw03.StitchCartier': WHATEVER THE INPUT: true; the input reads as it did. -/
def stitchCartierSpec : ChangeSpec := { name := "stitchCartier", fn := fun _ => fun
  | [d1, d2] => { results := [.lit (.bool true)], args := [d1, d2] }
  | _ => none }
def stitchCartierRow : OpenClaim := { program := "ythankillfhmfkaagreatdoor", sum := "4e5083df5eb0ce39ff34f248163ae660e4a9e952bd8d39069f321cb611aaf122", func := "pommel/pommellaw03.StitchCartier", spec := "stitchCartier", inPlace := ["internal/abi.NoEscape", "internal/bytealg.MakeNoZero"], unfollowed := true, recurses := true, named := ["internal/strconv.uint64pow10", "math/bits.deBruijn32tab", "math/bits.deBruijn64tab"], apart := false, laid := [("math/bits.deBruijn32tab", laid_math_bits_deBruijn32tab), ("math/bits.deBruijn64tab", laid_math_bits_deBruijn64tab), ("internal/strconv.uint64pow10", laid_internal_strconv_uint64pow10)] }
def StitchCartierSaid : Prop := stitchCartierRow.holds Tryz.pinned (OpenSpec.ofChange stitchCartierSpec)

/-- ITS FALSE NEIGHBOUR: 'it returns false'. Refute it at one input. -/
def stitchCartierWrong : ChangeSpec := { name := "stitchCartier", fn := fun _ => fun
  | [d1, d2] => { results := [.lit (.bool false)], args := [d1, d2] }
  | _ => none }
def StitchCartierWrongFalsely : Prop := stitchCartierRow.holds Tryz.pinned (OpenSpec.ofChange stitchCartierWrong)

/-- 'pommellaw03.StitchRest': WHATEVER THE INPUT: true; the input reads as it did. -/
def stitchRestSpec : ChangeSpec := { name := "stitchRest", fn := fun _ => fun
  | [d1, d2, d3] => { results := [.lit (.bool true)], args := [d1, d2, d3] }
  | _ => none }
def stitchRestRow : OpenClaim := { program := "ythankillfhmfkaagreatdoor", sum := "4e5083df5eb0ce39ff34f248163ae660e4a9e952bd8d39069f321cb611aaf122", func := "pommel/pommellaw03.StitchRest", spec := "stitchRest", inPlace := ["internal/abi.NoEscape", "internal/bytealg.MakeNoZero"], unfollowed := true, recurses := true, named := ["internal/strconv.uint64pow10", "math/bits.deBruijn32tab", "math/bits.deBruijn64tab"], apart := false, laid := [("math/bits.deBruijn32tab", laid_math_bits_deBruijn32tab), ("math/bits.deBruijn64tab", laid_math_bits_deBruijn64tab), ("internal/strconv.uint64pow10", laid_internal_strconv_uint64pow10)] }
def StitchRestSaid : Prop := stitchRestRow.holds Tryz.pinned (OpenSpec.ofChange stitchRestSpec)

/-- ITS FALSE NEIGHBOUR: 'it returns false'. Refute it at one input. -/
def stitchRestWrong : ChangeSpec := { name := "stitchRest", fn := fun _ => fun
  | [d1, d2, d3] => { results := [.lit (.bool false)], args := [d1, d2, d3] }
  | _ => none }
def StitchRestWrongFalsely : Prop := stitchRestRow.holds Tryz.pinned (OpenSpec.ofChange stitchRestWrong)

/-- 'pommellaw03.StitchLattice': WHATEVER THE INPUT: true; the input reads as it did. -/
def stitchLatticeSpec : ChangeSpec := { name := "stitchLattice", fn := fun _ => fun
  | [d1, d2, d3] => { results := [.lit (.bool true)], args := [d1, d2, d3] }
  | _ => none }
def stitchLatticeRow : OpenClaim := { program := "ythankillfhmfkaagreatdoor", sum := "4e5083df5eb0ce39ff34f248163ae660e4a9e952bd8d39069f321cb611aaf122", func := "pommel/pommellaw03.StitchLattice", spec := "stitchLattice", inPlace := ["internal/abi.NoEscape", "internal/bytealg.MakeNoZero"], unfollowed := true, recurses := true, named := ["internal/strconv.uint64pow10", "math/bits.deBruijn32tab", "math/bits.deBruijn64tab"], apart := false, laid := [("math/bits.deBruijn32tab", laid_math_bits_deBruijn32tab), ("math/bits.deBruijn64tab", laid_math_bits_deBruijn64tab), ("internal/strconv.uint64pow10", laid_internal_strconv_uint64pow10)] }
def StitchLatticeSaid : Prop := stitchLatticeRow.holds Tryz.pinned (OpenSpec.ofChange stitchLatticeSpec)

/-- ITS FALSE NEIGHBOUR: 'it returns false'. Refute it at one input. -/
def stitchLatticeWrong : ChangeSpec := { name := "stitchLattice", fn := fun _ => fun
  | [d1, d2, d3] => { results := [.lit (.bool false)], args := [d1, d2, d3] }
  | _ => none }
def StitchLatticeWrongFalsely : Prop := stitchLatticeRow.holds Tryz.pinned (OpenSpec.ofChange stitchLatticeWrong)

/-- 'pommellaw03.StitchLevi': WHATEVER THE INPUT: true; the input reads as it did. -/
def stitchLeviSpec : ChangeSpec := { name := "stitchLevi", fn := fun _ => fun
  | [d1, d2, d3] => { results := [.lit (.bool true)], args := [d1, d2, d3] }
  | _ => none }
def stitchLeviRow : OpenClaim := { program := "ythankillfhmfkaagreatdoor", sum := "4e5083df5eb0ce39ff34f248163ae660e4a9e952bd8d39069f321cb611aaf122", func := "pommel/pommellaw03.StitchLevi", spec := "stitchLevi", inPlace := ["internal/abi.NoEscape", "internal/bytealg.MakeNoZero"], unfollowed := true, recurses := true, named := ["internal/strconv.uint64pow10", "math/bits.deBruijn32tab", "math/bits.deBruijn64tab"], apart := false, laid := [("math/bits.deBruijn32tab", laid_math_bits_deBruijn32tab), ("math/bits.deBruijn64tab", laid_math_bits_deBruijn64tab), ("internal/strconv.uint64pow10", laid_internal_strconv_uint64pow10)] }
def StitchLeviSaid : Prop := stitchLeviRow.holds Tryz.pinned (OpenSpec.ofChange stitchLeviSpec)

/-- ITS FALSE NEIGHBOUR: 'it returns false'. Refute it at one input. -/
def stitchLeviWrong : ChangeSpec := { name := "stitchLevi", fn := fun _ => fun
  | [d1, d2, d3] => { results := [.lit (.bool false)], args := [d1, d2, d3] }
  | _ => none }
def StitchLeviWrongFalsely : Prop := stitchLeviRow.holds Tryz.pinned (OpenSpec.ofChange stitchLeviWrong)

/-- 'pommellaw03.StitchApart': WHATEVER THE INPUT: true; the input reads as it did. -/
def stitchApartSpec : ChangeSpec := { name := "stitchApart", fn := fun _ => fun
  | [d1, d2] => { results := [.lit (.bool true)], args := [d1, d2] }
  | _ => none }
def stitchApartRow : OpenClaim := { program := "ythankillfhmfkaagreatdoor", sum := "4e5083df5eb0ce39ff34f248163ae660e4a9e952bd8d39069f321cb611aaf122", func := "pommel/pommellaw03.StitchApart", spec := "stitchApart", inPlace := ["internal/abi.NoEscape", "internal/bytealg.MakeNoZero"], unfollowed := true, recurses := true, named := ["internal/strconv.uint64pow10", "math/bits.deBruijn32tab", "math/bits.deBruijn64tab"], apart := false, laid := [("math/bits.deBruijn32tab", laid_math_bits_deBruijn32tab), ("math/bits.deBruijn64tab", laid_math_bits_deBruijn64tab), ("internal/strconv.uint64pow10", laid_internal_strconv_uint64pow10)] }
def StitchApartSaid : Prop := stitchApartRow.holds Tryz.pinned (OpenSpec.ofChange stitchApartSpec)

/-- ITS FALSE NEIGHBOUR: 'it returns false'. Refute it at one input. -/
def stitchApartWrong : ChangeSpec := { name := "stitchApart", fn := fun _ => fun
  | [d1, d2] => { results := [.lit (.bool false)], args := [d1, d2] }
  | _ => none }
def StitchApartWrongFalsely : Prop := stitchApartRow.holds Tryz.pinned (OpenSpec.ofChange stitchApartWrong)

/-- 'pommellaw03.StitchFree': WHATEVER THE INPUT: true; the input reads as it did. -/
def stitchFreeSpec : ChangeSpec := { name := "stitchFree", fn := fun _ => fun
  | [d1, d2, d3] => { results := [.lit (.bool true)], args := [d1, d2, d3] }
  | _ => none }
def stitchFreeRow : OpenClaim := { program := "ythankillfhmfkaagreatdoor", sum := "4e5083df5eb0ce39ff34f248163ae660e4a9e952bd8d39069f321cb611aaf122", func := "pommel/pommellaw03.StitchFree", spec := "stitchFree", inPlace := ["internal/abi.NoEscape", "internal/bytealg.MakeNoZero"], unfollowed := true, recurses := true, named := ["internal/strconv.uint64pow10", "math/bits.deBruijn32tab", "math/bits.deBruijn64tab"], apart := false, laid := [("math/bits.deBruijn32tab", laid_math_bits_deBruijn32tab), ("math/bits.deBruijn64tab", laid_math_bits_deBruijn64tab), ("internal/strconv.uint64pow10", laid_internal_strconv_uint64pow10)] }
def StitchFreeSaid : Prop := stitchFreeRow.holds Tryz.pinned (OpenSpec.ofChange stitchFreeSpec)

/-- ITS FALSE NEIGHBOUR: 'it returns false'. Refute it at one input. -/
def stitchFreeWrong : ChangeSpec := { name := "stitchFree", fn := fun _ => fun
  | [d1, d2, d3] => { results := [.lit (.bool false)], args := [d1, d2, d3] }
  | _ => none }
def StitchFreeWrongFalsely : Prop := stitchFreeRow.holds Tryz.pinned (OpenSpec.ofChange stitchFreeWrong)

/- THE SECOND FORM. 'bulk': how many values and letters a reading holds, each counted each time it is reached (what is shared counts as often as it is met; a slice's spare places count too). A statement '..UptoSaid' is the law's where the arguments, and the package variables that the reading takes, are together of bulk at most 1048576: NARROWER than '..Said'. Prove '..Said' where nothing that the law and all that it calls make is longer than what came in: it says more and counts as full. Else prove '..UptoSaid'. A law counts once. -/
mutual
def uptoBulk {H : Type} : DataW H → Nat
  | .lit (.string bytes) => bytes.length + 1
  | .lit _ => 1
  | .nil => 1
  | .ptr d => uptoBulk d + 1
  | .slice elems spare => uptoBulkAll elems + uptoBulkAll spare + 1
  | .agg parts => uptoBulkAll parts + 1
  | .iface _ d => uptoBulk d + 1
  | .map entries => uptoBulkEntries entries + 1
  | .held _ => 1
def uptoBulkAll {H : Type} : List (DataW H) → Nat
  | [] => 0
  | d :: r => uptoBulk d + uptoBulkAll r
def uptoBulkEntries {H : Type} : List (Lit × DataW H) → Nat
  | [] => 0
  | x :: r => uptoBulkEntry x + uptoBulkEntries r
def uptoBulkEntry {H : Type} : Lit × DataW H → Nat
  | (.string bytes, d) => bytes.length + uptoBulk d + 1
  | (_, d) => uptoBulk d + 1
 end
def uptoSmall : (H : Type) → List (DataW H) → Bool := fun _ ds => decide (uptoBulkAll ds ≤ 1048576)
def OpenSpec.upto (s : _root_.Go.ChangeSpec) : _root_.Go.OpenSpec := { _root_.Go.OpenSpec.ofChange s with cond := some uptoSmall }

/-- 'pommellaw03.StitchSteps', WHERE WHAT IT READS IS OF BULK AT MOST 1048576: true; the input reads as it did. -/
def stitchStepsUptoRow : OpenClaim := { program := "ythankillfhmfkaagreatdoor", sum := "4e5083df5eb0ce39ff34f248163ae660e4a9e952bd8d39069f321cb611aaf122", func := "pommel/pommellaw03.StitchSteps", spec := "stitchSteps", inPlace := ["internal/abi.NoEscape", "internal/bytealg.MakeNoZero"], unfollowed := true, recurses := true, named := ["internal/strconv.uint64pow10", "math/bits.deBruijn32tab", "math/bits.deBruijn64tab"], apart := false, laid := [("math/bits.deBruijn32tab", laid_math_bits_deBruijn32tab), ("math/bits.deBruijn64tab", laid_math_bits_deBruijn64tab), ("internal/strconv.uint64pow10", laid_internal_strconv_uint64pow10)], narrowed := true }
def StitchStepsUptoSaid : Prop := stitchStepsUptoRow.holds Tryz.pinned (OpenSpec.upto stitchStepsSpec)

/-- 'pommellaw03.StitchEquals', WHERE WHAT IT READS IS OF BULK AT MOST 1048576: true; the input reads as it did. -/
def stitchEqualsUptoRow : OpenClaim := { program := "ythankillfhmfkaagreatdoor", sum := "4e5083df5eb0ce39ff34f248163ae660e4a9e952bd8d39069f321cb611aaf122", func := "pommel/pommellaw03.StitchEquals", spec := "stitchEquals", inPlace := ["internal/abi.NoEscape", "internal/bytealg.MakeNoZero"], unfollowed := true, recurses := true, named := ["internal/strconv.uint64pow10", "math/bits.deBruijn32tab", "math/bits.deBruijn64tab"], apart := false, laid := [("math/bits.deBruijn32tab", laid_math_bits_deBruijn32tab), ("math/bits.deBruijn64tab", laid_math_bits_deBruijn64tab), ("internal/strconv.uint64pow10", laid_internal_strconv_uint64pow10)], narrowed := true }
def StitchEqualsUptoSaid : Prop := stitchEqualsUptoRow.holds Tryz.pinned (OpenSpec.upto stitchEqualsSpec)

/-- 'pommellaw03.StitchWays', WHERE WHAT IT READS IS OF BULK AT MOST 1048576: true; the input reads as it did. -/
def stitchWaysUptoRow : OpenClaim := { program := "ythankillfhmfkaagreatdoor", sum := "4e5083df5eb0ce39ff34f248163ae660e4a9e952bd8d39069f321cb611aaf122", func := "pommel/pommellaw03.StitchWays", spec := "stitchWays", inPlace := ["internal/abi.NoEscape", "internal/bytealg.MakeNoZero"], unfollowed := true, recurses := true, named := ["internal/strconv.uint64pow10", "math/bits.deBruijn32tab", "math/bits.deBruijn64tab"], apart := false, laid := [("math/bits.deBruijn32tab", laid_math_bits_deBruijn32tab), ("math/bits.deBruijn64tab", laid_math_bits_deBruijn64tab), ("internal/strconv.uint64pow10", laid_internal_strconv_uint64pow10)], narrowed := true }
def StitchWaysUptoSaid : Prop := stitchWaysUptoRow.holds Tryz.pinned (OpenSpec.upto stitchWaysSpec)

/-- 'pommellaw03.StitchCounts', WHERE WHAT IT READS IS OF BULK AT MOST 1048576: true; the input reads as it did. -/
def stitchCountsUptoRow : OpenClaim := { program := "ythankillfhmfkaagreatdoor", sum := "4e5083df5eb0ce39ff34f248163ae660e4a9e952bd8d39069f321cb611aaf122", func := "pommel/pommellaw03.StitchCounts", spec := "stitchCounts", inPlace := ["internal/abi.NoEscape", "internal/bytealg.MakeNoZero"], unfollowed := true, recurses := true, named := ["internal/strconv.uint64pow10", "math/bits.deBruijn32tab", "math/bits.deBruijn64tab"], apart := false, laid := [("math/bits.deBruijn32tab", laid_math_bits_deBruijn32tab), ("math/bits.deBruijn64tab", laid_math_bits_deBruijn64tab), ("internal/strconv.uint64pow10", laid_internal_strconv_uint64pow10)], narrowed := true }
def StitchCountsUptoSaid : Prop := stitchCountsUptoRow.holds Tryz.pinned (OpenSpec.upto stitchCountsSpec)

/-- 'pommellaw03.StitchRests', WHERE WHAT IT READS IS OF BULK AT MOST 1048576: true; the input reads as it did. -/
def stitchRestsUptoRow : OpenClaim := { program := "ythankillfhmfkaagreatdoor", sum := "4e5083df5eb0ce39ff34f248163ae660e4a9e952bd8d39069f321cb611aaf122", func := "pommel/pommellaw03.StitchRests", spec := "stitchRests", inPlace := ["internal/abi.NoEscape", "internal/bytealg.MakeNoZero"], unfollowed := true, recurses := true, named := ["internal/strconv.uint64pow10", "math/bits.deBruijn32tab", "math/bits.deBruijn64tab"], apart := false, laid := [("math/bits.deBruijn32tab", laid_math_bits_deBruijn32tab), ("math/bits.deBruijn64tab", laid_math_bits_deBruijn64tab), ("internal/strconv.uint64pow10", laid_internal_strconv_uint64pow10)], narrowed := true }
def StitchRestsUptoSaid : Prop := stitchRestsUptoRow.holds Tryz.pinned (OpenSpec.upto stitchRestsSpec)

/-- 'pommellaw03.StitchMeets', WHERE WHAT IT READS IS OF BULK AT MOST 1048576: true; the input reads as it did. -/
def stitchMeetsUptoRow : OpenClaim := { program := "ythankillfhmfkaagreatdoor", sum := "4e5083df5eb0ce39ff34f248163ae660e4a9e952bd8d39069f321cb611aaf122", func := "pommel/pommellaw03.StitchMeets", spec := "stitchMeets", inPlace := ["internal/abi.NoEscape", "internal/bytealg.MakeNoZero"], unfollowed := true, recurses := true, named := ["internal/strconv.uint64pow10", "math/bits.deBruijn32tab", "math/bits.deBruijn64tab"], apart := false, laid := [("math/bits.deBruijn32tab", laid_math_bits_deBruijn32tab), ("math/bits.deBruijn64tab", laid_math_bits_deBruijn64tab), ("internal/strconv.uint64pow10", laid_internal_strconv_uint64pow10)], narrowed := true }
def StitchMeetsUptoSaid : Prop := stitchMeetsUptoRow.holds Tryz.pinned (OpenSpec.upto stitchMeetsSpec)

/-- 'pommellaw03.StitchParts', WHERE WHAT IT READS IS OF BULK AT MOST 1048576: true; the input reads as it did. -/
def stitchPartsUptoRow : OpenClaim := { program := "ythankillfhmfkaagreatdoor", sum := "4e5083df5eb0ce39ff34f248163ae660e4a9e952bd8d39069f321cb611aaf122", func := "pommel/pommellaw03.StitchParts", spec := "stitchParts", inPlace := ["internal/abi.NoEscape", "internal/bytealg.MakeNoZero"], unfollowed := true, recurses := true, named := ["internal/strconv.uint64pow10", "math/bits.deBruijn32tab", "math/bits.deBruijn64tab"], apart := false, laid := [("math/bits.deBruijn32tab", laid_math_bits_deBruijn32tab), ("math/bits.deBruijn64tab", laid_math_bits_deBruijn64tab), ("internal/strconv.uint64pow10", laid_internal_strconv_uint64pow10)], narrowed := true }
def StitchPartsUptoSaid : Prop := stitchPartsUptoRow.holds Tryz.pinned (OpenSpec.upto stitchPartsSpec)

/-- 'pommellaw03.StitchForms', WHERE WHAT IT READS IS OF BULK AT MOST 1048576: true; the input reads as it did. -/
def stitchFormsUptoRow : OpenClaim := { program := "ythankillfhmfkaagreatdoor", sum := "4e5083df5eb0ce39ff34f248163ae660e4a9e952bd8d39069f321cb611aaf122", func := "pommel/pommellaw03.StitchForms", spec := "stitchForms", inPlace := ["internal/abi.NoEscape", "internal/bytealg.MakeNoZero"], unfollowed := true, recurses := true, named := ["internal/strconv.uint64pow10", "math/bits.deBruijn32tab", "math/bits.deBruijn64tab"], apart := false, laid := [("math/bits.deBruijn32tab", laid_math_bits_deBruijn32tab), ("math/bits.deBruijn64tab", laid_math_bits_deBruijn64tab), ("internal/strconv.uint64pow10", laid_internal_strconv_uint64pow10)], narrowed := true }
def StitchFormsUptoSaid : Prop := stitchFormsUptoRow.holds Tryz.pinned (OpenSpec.upto stitchFormsSpec)

/-- 'pommellaw03.StitchPairs', WHERE WHAT IT READS IS OF BULK AT MOST 1048576: true; the input reads as it did. -/
def stitchPairsUptoRow : OpenClaim := { program := "ythankillfhmfkaagreatdoor", sum := "4e5083df5eb0ce39ff34f248163ae660e4a9e952bd8d39069f321cb611aaf122", func := "pommel/pommellaw03.StitchPairs", spec := "stitchPairs", inPlace := ["internal/abi.NoEscape", "internal/bytealg.MakeNoZero"], unfollowed := true, recurses := true, named := ["internal/strconv.uint64pow10", "math/bits.deBruijn32tab", "math/bits.deBruijn64tab"], apart := false, laid := [("math/bits.deBruijn32tab", laid_math_bits_deBruijn32tab), ("math/bits.deBruijn64tab", laid_math_bits_deBruijn64tab), ("internal/strconv.uint64pow10", laid_internal_strconv_uint64pow10)], narrowed := true }
def StitchPairsUptoSaid : Prop := stitchPairsUptoRow.holds Tryz.pinned (OpenSpec.upto stitchPairsSpec)

/-- 'pommellaw03.StitchCartier', WHERE WHAT IT READS IS OF BULK AT MOST 1048576: true; the input reads as it did. -/
def stitchCartierUptoRow : OpenClaim := { program := "ythankillfhmfkaagreatdoor", sum := "4e5083df5eb0ce39ff34f248163ae660e4a9e952bd8d39069f321cb611aaf122", func := "pommel/pommellaw03.StitchCartier", spec := "stitchCartier", inPlace := ["internal/abi.NoEscape", "internal/bytealg.MakeNoZero"], unfollowed := true, recurses := true, named := ["internal/strconv.uint64pow10", "math/bits.deBruijn32tab", "math/bits.deBruijn64tab"], apart := false, laid := [("math/bits.deBruijn32tab", laid_math_bits_deBruijn32tab), ("math/bits.deBruijn64tab", laid_math_bits_deBruijn64tab), ("internal/strconv.uint64pow10", laid_internal_strconv_uint64pow10)], narrowed := true }
def StitchCartierUptoSaid : Prop := stitchCartierUptoRow.holds Tryz.pinned (OpenSpec.upto stitchCartierSpec)

/-- 'pommellaw03.StitchRest', WHERE WHAT IT READS IS OF BULK AT MOST 1048576: true; the input reads as it did. -/
def stitchRestUptoRow : OpenClaim := { program := "ythankillfhmfkaagreatdoor", sum := "4e5083df5eb0ce39ff34f248163ae660e4a9e952bd8d39069f321cb611aaf122", func := "pommel/pommellaw03.StitchRest", spec := "stitchRest", inPlace := ["internal/abi.NoEscape", "internal/bytealg.MakeNoZero"], unfollowed := true, recurses := true, named := ["internal/strconv.uint64pow10", "math/bits.deBruijn32tab", "math/bits.deBruijn64tab"], apart := false, laid := [("math/bits.deBruijn32tab", laid_math_bits_deBruijn32tab), ("math/bits.deBruijn64tab", laid_math_bits_deBruijn64tab), ("internal/strconv.uint64pow10", laid_internal_strconv_uint64pow10)], narrowed := true }
def StitchRestUptoSaid : Prop := stitchRestUptoRow.holds Tryz.pinned (OpenSpec.upto stitchRestSpec)

/-- 'pommellaw03.StitchLattice', WHERE WHAT IT READS IS OF BULK AT MOST 1048576: true; the input reads as it did. -/
def stitchLatticeUptoRow : OpenClaim := { program := "ythankillfhmfkaagreatdoor", sum := "4e5083df5eb0ce39ff34f248163ae660e4a9e952bd8d39069f321cb611aaf122", func := "pommel/pommellaw03.StitchLattice", spec := "stitchLattice", inPlace := ["internal/abi.NoEscape", "internal/bytealg.MakeNoZero"], unfollowed := true, recurses := true, named := ["internal/strconv.uint64pow10", "math/bits.deBruijn32tab", "math/bits.deBruijn64tab"], apart := false, laid := [("math/bits.deBruijn32tab", laid_math_bits_deBruijn32tab), ("math/bits.deBruijn64tab", laid_math_bits_deBruijn64tab), ("internal/strconv.uint64pow10", laid_internal_strconv_uint64pow10)], narrowed := true }
def StitchLatticeUptoSaid : Prop := stitchLatticeUptoRow.holds Tryz.pinned (OpenSpec.upto stitchLatticeSpec)

/-- 'pommellaw03.StitchLevi', WHERE WHAT IT READS IS OF BULK AT MOST 1048576: true; the input reads as it did. -/
def stitchLeviUptoRow : OpenClaim := { program := "ythankillfhmfkaagreatdoor", sum := "4e5083df5eb0ce39ff34f248163ae660e4a9e952bd8d39069f321cb611aaf122", func := "pommel/pommellaw03.StitchLevi", spec := "stitchLevi", inPlace := ["internal/abi.NoEscape", "internal/bytealg.MakeNoZero"], unfollowed := true, recurses := true, named := ["internal/strconv.uint64pow10", "math/bits.deBruijn32tab", "math/bits.deBruijn64tab"], apart := false, laid := [("math/bits.deBruijn32tab", laid_math_bits_deBruijn32tab), ("math/bits.deBruijn64tab", laid_math_bits_deBruijn64tab), ("internal/strconv.uint64pow10", laid_internal_strconv_uint64pow10)], narrowed := true }
def StitchLeviUptoSaid : Prop := stitchLeviUptoRow.holds Tryz.pinned (OpenSpec.upto stitchLeviSpec)

/-- 'pommellaw03.StitchApart', WHERE WHAT IT READS IS OF BULK AT MOST 1048576: true; the input reads as it did. -/
def stitchApartUptoRow : OpenClaim := { program := "ythankillfhmfkaagreatdoor", sum := "4e5083df5eb0ce39ff34f248163ae660e4a9e952bd8d39069f321cb611aaf122", func := "pommel/pommellaw03.StitchApart", spec := "stitchApart", inPlace := ["internal/abi.NoEscape", "internal/bytealg.MakeNoZero"], unfollowed := true, recurses := true, named := ["internal/strconv.uint64pow10", "math/bits.deBruijn32tab", "math/bits.deBruijn64tab"], apart := false, laid := [("math/bits.deBruijn32tab", laid_math_bits_deBruijn32tab), ("math/bits.deBruijn64tab", laid_math_bits_deBruijn64tab), ("internal/strconv.uint64pow10", laid_internal_strconv_uint64pow10)], narrowed := true }
def StitchApartUptoSaid : Prop := stitchApartUptoRow.holds Tryz.pinned (OpenSpec.upto stitchApartSpec)

/-- 'pommellaw03.StitchFree', WHERE WHAT IT READS IS OF BULK AT MOST 1048576: true; the input reads as it did. -/
def stitchFreeUptoRow : OpenClaim := { program := "ythankillfhmfkaagreatdoor", sum := "4e5083df5eb0ce39ff34f248163ae660e4a9e952bd8d39069f321cb611aaf122", func := "pommel/pommellaw03.StitchFree", spec := "stitchFree", inPlace := ["internal/abi.NoEscape", "internal/bytealg.MakeNoZero"], unfollowed := true, recurses := true, named := ["internal/strconv.uint64pow10", "math/bits.deBruijn32tab", "math/bits.deBruijn64tab"], apart := false, laid := [("math/bits.deBruijn32tab", laid_math_bits_deBruijn32tab), ("math/bits.deBruijn64tab", laid_math_bits_deBruijn64tab), ("internal/strconv.uint64pow10", laid_internal_strconv_uint64pow10)], narrowed := true }
def StitchFreeUptoSaid : Prop := stitchFreeUptoRow.holds Tryz.pinned (OpenSpec.upto stitchFreeSpec)

end Rows
end Go.Proofs.YthankillfhmfkaaGreatDoor
