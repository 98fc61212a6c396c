/-
  NARROWER THAN 'FOR EVERY INPUT', by the rows' own cells (each row's printed sentence says how): DebtProves: laid · DebtCancels: laid · DebtRings: laid · DebtProof: laid · DebtGroups: laid · DebtFew: laid · DebtChecks: laid · DebtFails: laid · DebtClears: laid · DebtBetween: laid · DebtMore: laid · DebtRounds: laid · DebtKept: laid.
  DERIVED. THE GIVEN ROWS OF THIS SEAT. 13 by the template 'for every input the law returns true; each argument reads behind the call as it read before'; 0 by the template 'total and deterministic' (their statements: YtngpoamjhngcgaaGreatDoorTotals.lean).
  GIVEN WITH THE SEED: the statements are not yours to turn. If you find one false, say at which input.
  Laid BY PROGRAM, IN A SANDBOX (cutbox-rows.mjs): the forced cells as the released guide's own fill.sh prints them over the translation a71106dfa1c2e9bc… (all of the seat's roots in one cut). By AI agents, Wed Nov 11 2026. No macro, syntax, notation, axiom, sorry.
-/
import Derived.Test.YtngpoamjhngcgaaGreatDoorChecked
import GoSem.Claim
import GoSem.ClaimJoined
import GoSem.ClaimMapViews
import Derived.JoinedTies
import Derived.KernelRfl
namespace Go.Proofs.YtngpoamjhngcgaaGreatDoor
/- THE CELL 'sum', in the pinned program and in every row, IS THE sha256 OF THE DUMP (.gsa) THAT YtngpoamjhngcgaaGreatDoorProg.lean LOADS. Nothing in Lean hashes anything: it is a label: what it is worth is what the hold of that sum in a sandbox is worth. -/
noncomputable def Tryz.pinned : Pinned := { name := "ytngpoamjhngcgaagreatdoor", sum := "a71106dfa1c2e9bc3d785ac1f03d966f66af99b383411e2a3576de791c4a1041", checked := Tryz.checked }
namespace Rows
def none {H : Type} : Left H := { results := [], args := [] }

/- WHAT THE LISTED PACKAGE-LEVEL VARIABLES READ AS WHEN THE CALL BEGINS. Each datum BY PROGRAM (the guide's laid-datum.mjs) off the statement by which the dump's own 'gosem.cut.vars' lays the variable. In a bare row this is a premise. The card (YtngpoamjhngcgaaGreatDoorCards.lean) ties it to the program's text. -/
def laid_math_bits_deBruijn32tab {H : Type} : DataW H := .agg [.lit (.int .u8 0), .lit (.int .u8 1), .lit (.int .u8 28), .lit (.int .u8 2), .lit (.int .u8 29), .lit (.int .u8 14), .lit (.int .u8 24), .lit (.int .u8 3), .lit (.int .u8 30), .lit (.int .u8 22), .lit (.int .u8 20), .lit (.int .u8 15), .lit (.int .u8 25), .lit (.int .u8 17), .lit (.int .u8 4), .lit (.int .u8 8), .lit (.int .u8 31), .lit (.int .u8 27), .lit (.int .u8 13), .lit (.int .u8 23), .lit (.int .u8 21), .lit (.int .u8 19), .lit (.int .u8 16), .lit (.int .u8 7), .lit (.int .u8 26), .lit (.int .u8 12), .lit (.int .u8 18), .lit (.int .u8 6), .lit (.int .u8 11), .lit (.int .u8 5), .lit (.int .u8 10), .lit (.int .u8 9)]
def laid_math_bits_deBruijn64tab {H : Type} : DataW H := .agg [.lit (.int .u8 0), .lit (.int .u8 1), .lit (.int .u8 56), .lit (.int .u8 2), .lit (.int .u8 57), .lit (.int .u8 49), .lit (.int .u8 28), .lit (.int .u8 3), .lit (.int .u8 61), .lit (.int .u8 58), .lit (.int .u8 42), .lit (.int .u8 50), .lit (.int .u8 38), .lit (.int .u8 29), .lit (.int .u8 17), .lit (.int .u8 4), .lit (.int .u8 62), .lit (.int .u8 47), .lit (.int .u8 59), .lit (.int .u8 36), .lit (.int .u8 45), .lit (.int .u8 43), .lit (.int .u8 51), .lit (.int .u8 22), .lit (.int .u8 53), .lit (.int .u8 39), .lit (.int .u8 33), .lit (.int .u8 30), .lit (.int .u8 24), .lit (.int .u8 18), .lit (.int .u8 12), .lit (.int .u8 5), .lit (.int .u8 63), .lit (.int .u8 55), .lit (.int .u8 48), .lit (.int .u8 27), .lit (.int .u8 60), .lit (.int .u8 41), .lit (.int .u8 37), .lit (.int .u8 16), .lit (.int .u8 46), .lit (.int .u8 35), .lit (.int .u8 44), .lit (.int .u8 21), .lit (.int .u8 52), .lit (.int .u8 32), .lit (.int .u8 23), .lit (.int .u8 11), .lit (.int .u8 54), .lit (.int .u8 26), .lit (.int .u8 40), .lit (.int .u8 15), .lit (.int .u8 34), .lit (.int .u8 20), .lit (.int .u8 31), .lit (.int .u8 10), .lit (.int .u8 25), .lit (.int .u8 14), .lit (.int .u8 19), .lit (.int .u8 9), .lit (.int .u8 13), .lit (.int .u8 8), .lit (.int .u8 7), .lit (.int .u8 6)]
def laid_internal_strconv_uint64pow10 {H : Type} : DataW H := .agg [.lit (.int .u64 1), .lit (.int .u64 10), .lit (.int .u64 100), .lit (.int .u64 1000), .lit (.int .u64 10000), .lit (.int .u64 100000), .lit (.int .u64 1000000), .lit (.int .u64 10000000), .lit (.int .u64 100000000), .lit (.int .u64 1000000000), .lit (.int .u64 10000000000), .lit (.int .u64 100000000000), .lit (.int .u64 1000000000000), .lit (.int .u64 10000000000000), .lit (.int .u64 100000000000000), .lit (.int .u64 1000000000000000), .lit (.int .u64 10000000000000000), .lit (.int .u64 100000000000000000), .lit (.int .u64 1000000000000000000), .lit (.int .u64 10000000000000000000)]

/-- 'pommellaw01.DebtProves': WHATEVER THE INPUT: true; the input reads as it did. -/
def debtProvesSpec : ChangeSpec := { name := "debtProves", fn := fun _ => fun
  | [d1, d2, d3] => { results := [.lit (.bool true)], args := [d1, d2, d3] }
  | _ => none }
def debtProvesRow : OpenClaim := { program := "ytngpoamjhngcgaagreatdoor", sum := "a71106dfa1c2e9bc3d785ac1f03d966f66af99b383411e2a3576de791c4a1041", func := "pommel/pommellaw01.DebtProves", spec := "debtProves", inPlace := ["internal/abi.NoEscape", "internal/bytealg.MakeNoZero"], unfollowed := true, recurses := true, named := ["internal/strconv.uint64pow10", "math/bits.deBruijn32tab", "math/bits.deBruijn64tab"], apart := false, laid := [("math/bits.deBruijn32tab", laid_math_bits_deBruijn32tab), ("math/bits.deBruijn64tab", laid_math_bits_deBruijn64tab), ("internal/strconv.uint64pow10", laid_internal_strconv_uint64pow10)] }
def DebtProvesSaid : Prop := debtProvesRow.holds Tryz.pinned (OpenSpec.ofChange debtProvesSpec)

/-- ITS FALSE NEIGHBOUR: 'it returns false'. Refute it at one input. -/
def debtProvesWrong : ChangeSpec := { name := "debtProves", fn := fun _ => fun
  | [d1, d2, d3] => { results := [.lit (.bool false)], args := [d1, d2, d3] }
  | _ => none }
def DebtProvesWrongFalsely : Prop := debtProvesRow.holds Tryz.pinned (OpenSpec.ofChange debtProvesWrong)

/-- 'pommellaw01.DebtCancels': WHATEVER THE INPUT: true; the input reads as it did. -/
def debtCancelsSpec : ChangeSpec := { name := "debtCancels", fn := fun _ => fun
  | [d] => { results := [.lit (.bool true)], args := [d] }
  | _ => none }
def debtCancelsRow : OpenClaim := { program := "ytngpoamjhngcgaagreatdoor", sum := "a71106dfa1c2e9bc3d785ac1f03d966f66af99b383411e2a3576de791c4a1041", func := "pommel/pommellaw01.DebtCancels", spec := "debtCancels", inPlace := ["internal/abi.NoEscape", "internal/bytealg.MakeNoZero"], unfollowed := true, recurses := true, named := ["internal/strconv.uint64pow10", "math/bits.deBruijn32tab", "math/bits.deBruijn64tab"], apart := false, laid := [("math/bits.deBruijn32tab", laid_math_bits_deBruijn32tab), ("math/bits.deBruijn64tab", laid_math_bits_deBruijn64tab), ("internal/strconv.uint64pow10", laid_internal_strconv_uint64pow10)] }
def DebtCancelsSaid : Prop := debtCancelsRow.holds Tryz.pinned (OpenSpec.ofChange debtCancelsSpec)

/-- ITS FALSE NEIGHBOUR: 'it returns false'. Refute it at one input. -/
def debtCancelsWrong : ChangeSpec := { name := "debtCancels", fn := fun _ => fun
  | [d] => { results := [.lit (.bool false)], args := [d] }
  | _ => none }
def DebtCancelsWrongFalsely : Prop := debtCancelsRow.holds Tryz.pinned (OpenSpec.ofChange debtCancelsWrong)

/-- 'pommellaw01.DebtRings': WHATEVER THE INPUT: true; the input reads as it did. -/
def debtRingsSpec : ChangeSpec := { name := "debtRings", fn := fun _ => fun
  | [d1, d2] => { results := [.lit (.bool true)], args := [d1, d2] }
  | _ => none }
def debtRingsRow : OpenClaim := { program := "ytngpoamjhngcgaagreatdoor", sum := "a71106dfa1c2e9bc3d785ac1f03d966f66af99b383411e2a3576de791c4a1041", func := "pommel/pommellaw01.DebtRings", spec := "debtRings", inPlace := ["internal/abi.NoEscape", "internal/bytealg.MakeNoZero"], unfollowed := true, recurses := true, named := ["internal/strconv.uint64pow10", "math/bits.deBruijn32tab", "math/bits.deBruijn64tab"], apart := false, laid := [("math/bits.deBruijn32tab", laid_math_bits_deBruijn32tab), ("math/bits.deBruijn64tab", laid_math_bits_deBruijn64tab), ("internal/strconv.uint64pow10", laid_internal_strconv_uint64pow10)] }
def DebtRingsSaid : Prop := debtRingsRow.holds Tryz.pinned (OpenSpec.ofChange debtRingsSpec)

/-- ITS FALSE NEIGHBOUR: 'it returns false'. Refute it at one input. -/
def debtRingsWrong : ChangeSpec := { name := "debtRings", fn := fun _ => fun
  | [d1, d2] => { results := [.lit (.bool false)], args := [d1, d2] }
  | _ => none }
def DebtRingsWrongFalsely : Prop := debtRingsRow.holds Tryz.pinned (OpenSpec.ofChange debtRingsWrong)

/-- 'pommellaw01.DebtProof': WHATEVER THE INPUT: true; the input reads as it did. -/
def debtProofSpec : ChangeSpec := { name := "debtProof", fn := fun _ => fun
  | [d1, d2, d3] => { results := [.lit (.bool true)], args := [d1, d2, d3] }
  | _ => none }
def debtProofRow : OpenClaim := { program := "ytngpoamjhngcgaagreatdoor", sum := "a71106dfa1c2e9bc3d785ac1f03d966f66af99b383411e2a3576de791c4a1041", func := "pommel/pommellaw01.DebtProof", spec := "debtProof", inPlace := ["internal/abi.NoEscape", "internal/bytealg.MakeNoZero"], unfollowed := true, recurses := true, named := ["internal/strconv.uint64pow10", "math/bits.deBruijn32tab", "math/bits.deBruijn64tab"], apart := false, laid := [("math/bits.deBruijn32tab", laid_math_bits_deBruijn32tab), ("math/bits.deBruijn64tab", laid_math_bits_deBruijn64tab), ("internal/strconv.uint64pow10", laid_internal_strconv_uint64pow10)] }
def DebtProofSaid : Prop := debtProofRow.holds Tryz.pinned (OpenSpec.ofChange debtProofSpec)

/-- ITS FALSE NEIGHBOUR: 'it returns false'. Refute it at one input. -/
def debtProofWrong : ChangeSpec := { name := "debtProof", fn := fun _ => fun
  | [d1, d2, d3] => { results := [.lit (.bool false)], args := [d1, d2, d3] }
  | _ => none }
def DebtProofWrongFalsely : Prop := debtProofRow.holds Tryz.pinned (OpenSpec.ofChange debtProofWrong)

/-- 'pommellaw01.DebtGroups': WHATEVER THE INPUT: true; the input reads as it did. -/
def debtGroupsSpec : ChangeSpec := { name := "debtGroups", fn := fun _ => fun
  | [d] => { results := [.lit (.bool true)], args := [d] }
  | _ => none }
def debtGroupsRow : OpenClaim := { program := "ytngpoamjhngcgaagreatdoor", sum := "a71106dfa1c2e9bc3d785ac1f03d966f66af99b383411e2a3576de791c4a1041", func := "pommel/pommellaw01.DebtGroups", spec := "debtGroups", inPlace := ["internal/abi.NoEscape", "internal/bytealg.MakeNoZero"], unfollowed := true, recurses := true, named := ["math/bits.deBruijn32tab", "math/bits.deBruijn64tab", "internal/strconv.uint64pow10"], apart := false, laid := [("math/bits.deBruijn32tab", laid_math_bits_deBruijn32tab), ("math/bits.deBruijn64tab", laid_math_bits_deBruijn64tab), ("internal/strconv.uint64pow10", laid_internal_strconv_uint64pow10)] }
def DebtGroupsSaid : Prop := debtGroupsRow.holds Tryz.pinned (OpenSpec.ofChange debtGroupsSpec)

/-- ITS FALSE NEIGHBOUR: 'it returns false'. Refute it at one input. -/
def debtGroupsWrong : ChangeSpec := { name := "debtGroups", fn := fun _ => fun
  | [d] => { results := [.lit (.bool false)], args := [d] }
  | _ => none }
def DebtGroupsWrongFalsely : Prop := debtGroupsRow.holds Tryz.pinned (OpenSpec.ofChange debtGroupsWrong)

/-- 'pommellaw01.DebtFew': WHATEVER THE INPUT: true; the input reads as it did. -/
def debtFewSpec : ChangeSpec := { name := "debtFew", fn := fun _ => fun
  | [d] => { results := [.lit (.bool true)], args := [d] }
  | _ => none }
def debtFewRow : OpenClaim := { program := "ytngpoamjhngcgaagreatdoor", sum := "a71106dfa1c2e9bc3d785ac1f03d966f66af99b383411e2a3576de791c4a1041", func := "pommel/pommellaw01.DebtFew", spec := "debtFew", inPlace := ["internal/abi.NoEscape", "internal/bytealg.MakeNoZero"], unfollowed := true, recurses := true, named := ["math/bits.deBruijn32tab", "math/bits.deBruijn64tab", "internal/strconv.uint64pow10"], apart := false, laid := [("math/bits.deBruijn32tab", laid_math_bits_deBruijn32tab), ("math/bits.deBruijn64tab", laid_math_bits_deBruijn64tab), ("internal/strconv.uint64pow10", laid_internal_strconv_uint64pow10)] }
def DebtFewSaid : Prop := debtFewRow.holds Tryz.pinned (OpenSpec.ofChange debtFewSpec)

/-- ITS FALSE NEIGHBOUR: 'it returns false'. Refute it at one input. -/
def debtFewWrong : ChangeSpec := { name := "debtFew", fn := fun _ => fun
  | [d] => { results := [.lit (.bool false)], args := [d] }
  | _ => none }
def DebtFewWrongFalsely : Prop := debtFewRow.holds Tryz.pinned (OpenSpec.ofChange debtFewWrong)

/-- 'pommellaw01.DebtChecks': WHATEVER THE INPUT: true; the input reads as it did. -/
def debtChecksSpec : ChangeSpec := { name := "debtChecks", fn := fun _ => fun
  | [d1, d2, d3] => { results := [.lit (.bool true)], args := [d1, d2, d3] }
  | _ => none }
def debtChecksRow : OpenClaim := { program := "ytngpoamjhngcgaagreatdoor", sum := "a71106dfa1c2e9bc3d785ac1f03d966f66af99b383411e2a3576de791c4a1041", func := "pommel/pommellaw01.DebtChecks", spec := "debtChecks", inPlace := ["internal/bytealg.IndexByteString", "internal/bytealg.IndexString", "internal/abi.NoEscape", "internal/bytealg.MakeNoZero"], unfollowed := true, recurses := true, named := ["internal/bytealg.MaxLen", "internal/strconv.uint64pow10", "math/bits.deBruijn32tab", "math/bits.deBruijn64tab"], apart := false, laid := [("math/bits.deBruijn32tab", laid_math_bits_deBruijn32tab), ("math/bits.deBruijn64tab", laid_math_bits_deBruijn64tab), ("internal/strconv.uint64pow10", laid_internal_strconv_uint64pow10)] }
def DebtChecksSaid : Prop := debtChecksRow.holds Tryz.pinned (OpenSpec.ofChange debtChecksSpec)

/-- ITS FALSE NEIGHBOUR: 'it returns false'. Refute it at one input. -/
def debtChecksWrong : ChangeSpec := { name := "debtChecks", fn := fun _ => fun
  | [d1, d2, d3] => { results := [.lit (.bool false)], args := [d1, d2, d3] }
  | _ => none }
def DebtChecksWrongFalsely : Prop := debtChecksRow.holds Tryz.pinned (OpenSpec.ofChange debtChecksWrong)

/-- 'pommellaw01.DebtFails': WHATEVER THE INPUT: true; the input reads as it did. -/
def debtFailsSpec : ChangeSpec := { name := "debtFails", fn := fun _ => fun
  | [d1, d2] => { results := [.lit (.bool true)], args := [d1, d2] }
  | _ => none }
def debtFailsRow : OpenClaim := { program := "ytngpoamjhngcgaagreatdoor", sum := "a71106dfa1c2e9bc3d785ac1f03d966f66af99b383411e2a3576de791c4a1041", func := "pommel/pommellaw01.DebtFails", spec := "debtFails", inPlace := ["internal/abi.NoEscape", "internal/bytealg.MakeNoZero"], unfollowed := true, recurses := true, named := ["internal/strconv.uint64pow10", "math/bits.deBruijn32tab", "math/bits.deBruijn64tab"], apart := false, laid := [("math/bits.deBruijn32tab", laid_math_bits_deBruijn32tab), ("math/bits.deBruijn64tab", laid_math_bits_deBruijn64tab), ("internal/strconv.uint64pow10", laid_internal_strconv_uint64pow10)] }
def DebtFailsSaid : Prop := debtFailsRow.holds Tryz.pinned (OpenSpec.ofChange debtFailsSpec)

/-- ITS FALSE NEIGHBOUR: 'it returns false'. Refute it at one input. -/
def debtFailsWrong : ChangeSpec := { name := "debtFails", fn := fun _ => fun
  | [d1, d2] => { results := [.lit (.bool false)], args := [d1, d2] }
  | _ => none }
def DebtFailsWrongFalsely : Prop := debtFailsRow.holds Tryz.pinned (OpenSpec.ofChange debtFailsWrong)

/-- 'pommellaw01.DebtClears': WHATEVER THE INPUT: true; the input reads as it did. -/
def debtClearsSpec : ChangeSpec := { name := "debtClears", fn := fun _ => fun
  | [d1, d2] => { results := [.lit (.bool true)], args := [d1, d2] }
  | _ => none }
def debtClearsRow : OpenClaim := { program := "ytngpoamjhngcgaagreatdoor", sum := "a71106dfa1c2e9bc3d785ac1f03d966f66af99b383411e2a3576de791c4a1041", func := "pommel/pommellaw01.DebtClears", spec := "debtClears", inPlace := ["internal/abi.NoEscape", "internal/bytealg.MakeNoZero"], unfollowed := true, recurses := true, named := ["internal/strconv.uint64pow10", "math/bits.deBruijn32tab", "math/bits.deBruijn64tab"], apart := false, laid := [("math/bits.deBruijn32tab", laid_math_bits_deBruijn32tab), ("math/bits.deBruijn64tab", laid_math_bits_deBruijn64tab), ("internal/strconv.uint64pow10", laid_internal_strconv_uint64pow10)] }
def DebtClearsSaid : Prop := debtClearsRow.holds Tryz.pinned (OpenSpec.ofChange debtClearsSpec)

/-- ITS FALSE NEIGHBOUR: 'it returns false'. Refute it at one input. -/
def debtClearsWrong : ChangeSpec := { name := "debtClears", fn := fun _ => fun
  | [d1, d2] => { results := [.lit (.bool false)], args := [d1, d2] }
  | _ => none }
def DebtClearsWrongFalsely : Prop := debtClearsRow.holds Tryz.pinned (OpenSpec.ofChange debtClearsWrong)

/-- 'pommellaw01.DebtBetween': WHATEVER THE INPUT: true; the input reads as it did. -/
def debtBetweenSpec : ChangeSpec := { name := "debtBetween", fn := fun _ => fun
  | [d1, d2, d3] => { results := [.lit (.bool true)], args := [d1, d2, d3] }
  | _ => none }
def debtBetweenRow : OpenClaim := { program := "ytngpoamjhngcgaagreatdoor", sum := "a71106dfa1c2e9bc3d785ac1f03d966f66af99b383411e2a3576de791c4a1041", func := "pommel/pommellaw01.DebtBetween", spec := "debtBetween", inPlace := ["internal/abi.NoEscape", "internal/bytealg.MakeNoZero", "internal/bytealg.IndexByteString", "internal/bytealg.IndexString"], unfollowed := true, recurses := true, named := ["internal/strconv.uint64pow10", "math/bits.deBruijn32tab", "math/bits.deBruijn64tab", "internal/bytealg.MaxLen"], apart := false, laid := [("math/bits.deBruijn32tab", laid_math_bits_deBruijn32tab), ("math/bits.deBruijn64tab", laid_math_bits_deBruijn64tab), ("internal/strconv.uint64pow10", laid_internal_strconv_uint64pow10)] }
def DebtBetweenSaid : Prop := debtBetweenRow.holds Tryz.pinned (OpenSpec.ofChange debtBetweenSpec)

/-- ITS FALSE NEIGHBOUR: 'it returns false'. Refute it at one input. -/
def debtBetweenWrong : ChangeSpec := { name := "debtBetween", fn := fun _ => fun
  | [d1, d2, d3] => { results := [.lit (.bool false)], args := [d1, d2, d3] }
  | _ => none }
def DebtBetweenWrongFalsely : Prop := debtBetweenRow.holds Tryz.pinned (OpenSpec.ofChange debtBetweenWrong)

/-- 'pommellaw01.DebtMore': WHATEVER THE INPUT: true; the input reads as it did. -/
def debtMoreSpec : ChangeSpec := { name := "debtMore", fn := fun _ => fun
  | [d1, d2, d3] => { results := [.lit (.bool true)], args := [d1, d2, d3] }
  | _ => none }
def debtMoreRow : OpenClaim := { program := "ytngpoamjhngcgaagreatdoor", sum := "a71106dfa1c2e9bc3d785ac1f03d966f66af99b383411e2a3576de791c4a1041", func := "pommel/pommellaw01.DebtMore", spec := "debtMore", inPlace := ["internal/abi.NoEscape", "internal/bytealg.MakeNoZero"], unfollowed := true, recurses := true, named := ["internal/strconv.uint64pow10", "math/bits.deBruijn32tab", "math/bits.deBruijn64tab"], apart := false, laid := [("math/bits.deBruijn32tab", laid_math_bits_deBruijn32tab), ("math/bits.deBruijn64tab", laid_math_bits_deBruijn64tab), ("internal/strconv.uint64pow10", laid_internal_strconv_uint64pow10)] }
def DebtMoreSaid : Prop := debtMoreRow.holds Tryz.pinned (OpenSpec.ofChange debtMoreSpec)

/-- ITS FALSE NEIGHBOUR: 'it returns false'. Refute it at one input. -/
def debtMoreWrong : ChangeSpec := { name := "debtMore", fn := fun _ => fun
  | [d1, d2, d3] => { results := [.lit (.bool false)], args := [d1, d2, d3] }
  | _ => none }
def DebtMoreWrongFalsely : Prop := debtMoreRow.holds Tryz.pinned (OpenSpec.ofChange debtMoreWrong)

/-- 'pommellaw01.DebtRounds': WHATEVER THE INPUT: true; the input reads as it did. -/
def debtRoundsSpec : ChangeSpec := { name := "debtRounds", fn := fun _ => fun
  | [d1, d2, d3] => { results := [.lit (.bool true)], args := [d1, d2, d3] }
  | _ => none }
def debtRoundsRow : OpenClaim := { program := "ytngpoamjhngcgaagreatdoor", sum := "a71106dfa1c2e9bc3d785ac1f03d966f66af99b383411e2a3576de791c4a1041", func := "pommel/pommellaw01.DebtRounds", spec := "debtRounds", inPlace := ["internal/abi.NoEscape", "internal/bytealg.MakeNoZero"], unfollowed := true, recurses := true, named := ["internal/strconv.uint64pow10", "math/bits.deBruijn32tab", "math/bits.deBruijn64tab"], apart := false, laid := [("math/bits.deBruijn32tab", laid_math_bits_deBruijn32tab), ("math/bits.deBruijn64tab", laid_math_bits_deBruijn64tab), ("internal/strconv.uint64pow10", laid_internal_strconv_uint64pow10)] }
def DebtRoundsSaid : Prop := debtRoundsRow.holds Tryz.pinned (OpenSpec.ofChange debtRoundsSpec)

/-- ITS FALSE NEIGHBOUR: 'it returns false'. Refute it at one input. -/
def debtRoundsWrong : ChangeSpec := { name := "debtRounds", fn := fun _ => fun
  | [d1, d2, d3] => { results := [.lit (.bool false)], args := [d1, d2, d3] }
  | _ => none }
def DebtRoundsWrongFalsely : Prop := debtRoundsRow.holds Tryz.pinned (OpenSpec.ofChange debtRoundsWrong)

/-- 'pommellaw01.DebtKept': WHATEVER THE INPUT: true; the input reads as it did. -/
def debtKeptSpec : ChangeSpec := { name := "debtKept", fn := fun _ => fun
  | [d1, d2, d3] => { results := [.lit (.bool true)], args := [d1, d2, d3] }
  | _ => none }
def debtKeptRow : OpenClaim := { program := "ytngpoamjhngcgaagreatdoor", sum := "a71106dfa1c2e9bc3d785ac1f03d966f66af99b383411e2a3576de791c4a1041", func := "pommel/pommellaw01.DebtKept", spec := "debtKept", inPlace := ["internal/abi.NoEscape", "internal/bytealg.MakeNoZero"], unfollowed := true, recurses := true, named := ["internal/strconv.uint64pow10", "math/bits.deBruijn32tab", "math/bits.deBruijn64tab"], apart := false, laid := [("math/bits.deBruijn32tab", laid_math_bits_deBruijn32tab), ("math/bits.deBruijn64tab", laid_math_bits_deBruijn64tab), ("internal/strconv.uint64pow10", laid_internal_strconv_uint64pow10)] }
def DebtKeptSaid : Prop := debtKeptRow.holds Tryz.pinned (OpenSpec.ofChange debtKeptSpec)

/-- ITS FALSE NEIGHBOUR: 'it returns false'. Refute it at one input. -/
def debtKeptWrong : ChangeSpec := { name := "debtKept", fn := fun _ => fun
  | [d1, d2, d3] => { results := [.lit (.bool false)], args := [d1, d2, d3] }
  | _ => none }
def DebtKeptWrongFalsely : Prop := debtKeptRow.holds Tryz.pinned (OpenSpec.ofChange debtKeptWrong)

/- THE SECOND FORM. 'bulk': how many values and letters a reading holds, each counted each time it is reached (what is shared counts as often as it is met; a slice's spare places count too). A statement '..UptoSaid' is the law's where the arguments, and the package variables that the reading takes, are together of bulk at most 1048576: NARROWER than '..Said'. Prove '..Said' where nothing that the law and all that it calls make is longer than what came in: it says more and counts as full. Else prove '..UptoSaid'. A law counts once. -/
mutual
def uptoBulk {H : Type} : DataW H → Nat
  | .lit (.string bytes) => bytes.length + 1
  | .lit _ => 1
  | .nil => 1
  | .ptr d => uptoBulk d + 1
  | .slice elems spare => uptoBulkAll elems + uptoBulkAll spare + 1
  | .agg parts => uptoBulkAll parts + 1
  | .iface _ d => uptoBulk d + 1
  | .map entries => uptoBulkEntries entries + 1
  | .held _ => 1
def uptoBulkAll {H : Type} : List (DataW H) → Nat
  | [] => 0
  | d :: r => uptoBulk d + uptoBulkAll r
def uptoBulkEntries {H : Type} : List (Lit × DataW H) → Nat
  | [] => 0
  | x :: r => uptoBulkEntry x + uptoBulkEntries r
def uptoBulkEntry {H : Type} : Lit × DataW H → Nat
  | (.string bytes, d) => bytes.length + uptoBulk d + 1
  | (_, d) => uptoBulk d + 1
 end
def uptoSmall : (H : Type) → List (DataW H) → Bool := fun _ ds => decide (uptoBulkAll ds ≤ 1048576)
def OpenSpec.upto (s : _root_.Go.ChangeSpec) : _root_.Go.OpenSpec := { _root_.Go.OpenSpec.ofChange s with cond := some uptoSmall }

/-- 'pommellaw01.DebtProves', WHERE WHAT IT READS IS OF BULK AT MOST 1048576: true; the input reads as it did. -/
def debtProvesUptoRow : OpenClaim := { program := "ytngpoamjhngcgaagreatdoor", sum := "a71106dfa1c2e9bc3d785ac1f03d966f66af99b383411e2a3576de791c4a1041", func := "pommel/pommellaw01.DebtProves", spec := "debtProves", inPlace := ["internal/abi.NoEscape", "internal/bytealg.MakeNoZero"], unfollowed := true, recurses := true, named := ["internal/strconv.uint64pow10", "math/bits.deBruijn32tab", "math/bits.deBruijn64tab"], apart := false, laid := [("math/bits.deBruijn32tab", laid_math_bits_deBruijn32tab), ("math/bits.deBruijn64tab", laid_math_bits_deBruijn64tab), ("internal/strconv.uint64pow10", laid_internal_strconv_uint64pow10)], narrowed := true }
def DebtProvesUptoSaid : Prop := debtProvesUptoRow.holds Tryz.pinned (OpenSpec.upto debtProvesSpec)

/-- 'pommellaw01.DebtCancels', WHERE WHAT IT READS IS OF BULK AT MOST 1048576: true; the input reads as it did. -/
def debtCancelsUptoRow : OpenClaim := { program := "ytngpoamjhngcgaagreatdoor", sum := "a71106dfa1c2e9bc3d785ac1f03d966f66af99b383411e2a3576de791c4a1041", func := "pommel/pommellaw01.DebtCancels", spec := "debtCancels", inPlace := ["internal/abi.NoEscape", "internal/bytealg.MakeNoZero"], unfollowed := true, recurses := true, named := ["internal/strconv.uint64pow10", "math/bits.deBruijn32tab", "math/bits.deBruijn64tab"], apart := false, laid := [("math/bits.deBruijn32tab", laid_math_bits_deBruijn32tab), ("math/bits.deBruijn64tab", laid_math_bits_deBruijn64tab), ("internal/strconv.uint64pow10", laid_internal_strconv_uint64pow10)], narrowed := true }
def DebtCancelsUptoSaid : Prop := debtCancelsUptoRow.holds Tryz.pinned (OpenSpec.upto debtCancelsSpec)

/-- 'pommellaw01.DebtRings', WHERE WHAT IT READS IS OF BULK AT MOST 1048576: true; the input reads as it did. -/
def debtRingsUptoRow : OpenClaim := { program := "ytngpoamjhngcgaagreatdoor", sum := "a71106dfa1c2e9bc3d785ac1f03d966f66af99b383411e2a3576de791c4a1041", func := "pommel/pommellaw01.DebtRings", spec := "debtRings", inPlace := ["internal/abi.NoEscape", "internal/bytealg.MakeNoZero"], unfollowed := true, recurses := true, named := ["internal/strconv.uint64pow10", "math/bits.deBruijn32tab", "math/bits.deBruijn64tab"], apart := false, laid := [("math/bits.deBruijn32tab", laid_math_bits_deBruijn32tab), ("math/bits.deBruijn64tab", laid_math_bits_deBruijn64tab), ("internal/strconv.uint64pow10", laid_internal_strconv_uint64pow10)], narrowed := true }
def DebtRingsUptoSaid : Prop := debtRingsUptoRow.holds Tryz.pinned (OpenSpec.upto debtRingsSpec)

/-- 'pommellaw01.DebtProof', WHERE WHAT IT READS IS OF BULK AT MOST 1048576: true; the input reads as it did. -/
def debtProofUptoRow : OpenClaim := { program := "ytngpoamjhngcgaagreatdoor", sum := "a71106dfa1c2e9bc3d785ac1f03d966f66af99b383411e2a3576de791c4a1041", func := "pommel/pommellaw01.DebtProof", spec := "debtProof", inPlace := ["internal/abi.NoEscape", "internal/bytealg.MakeNoZero"], unfollowed := true, recurses := true, named := ["internal/strconv.uint64pow10", "math/bits.deBruijn32tab", "math/bits.deBruijn64tab"], apart := false, laid := [("math/bits.deBruijn32tab", laid_math_bits_deBruijn32tab), ("math/bits.deBruijn64tab", laid_math_bits_deBruijn64tab), ("internal/strconv.uint64pow10", laid_internal_strconv_uint64pow10)], narrowed := true }
def DebtProofUptoSaid : Prop := debtProofUptoRow.holds Tryz.pinned (OpenSpec.upto debtProofSpec)

/-- 'pommellaw01.DebtGroups', WHERE WHAT IT READS IS OF BULK AT MOST 1048576: true; the input reads as it did. -/
def debtGroupsUptoRow : OpenClaim := { program := "ytngpoamjhngcgaagreatdoor", sum := "a71106dfa1c2e9bc3d785ac1f03d966f66af99b383411e2a3576de791c4a1041", func := "pommel/pommellaw01.DebtGroups", spec := "debtGroups", inPlace := ["internal/abi.NoEscape", "internal/bytealg.MakeNoZero"], unfollowed := true, recurses := true, named := ["math/bits.deBruijn32tab", "math/bits.deBruijn64tab", "internal/strconv.uint64pow10"], apart := false, laid := [("math/bits.deBruijn32tab", laid_math_bits_deBruijn32tab), ("math/bits.deBruijn64tab", laid_math_bits_deBruijn64tab), ("internal/strconv.uint64pow10", laid_internal_strconv_uint64pow10)], narrowed := true }
def DebtGroupsUptoSaid : Prop := debtGroupsUptoRow.holds Tryz.pinned (OpenSpec.upto debtGroupsSpec)

/-- 'pommellaw01.DebtFew', WHERE WHAT IT READS IS OF BULK AT MOST 1048576: true; the input reads as it did. -/
def debtFewUptoRow : OpenClaim := { program := "ytngpoamjhngcgaagreatdoor", sum := "a71106dfa1c2e9bc3d785ac1f03d966f66af99b383411e2a3576de791c4a1041", func := "pommel/pommellaw01.DebtFew", spec := "debtFew", inPlace := ["internal/abi.NoEscape", "internal/bytealg.MakeNoZero"], unfollowed := true, recurses := true, named := ["math/bits.deBruijn32tab", "math/bits.deBruijn64tab", "internal/strconv.uint64pow10"], apart := false, laid := [("math/bits.deBruijn32tab", laid_math_bits_deBruijn32tab), ("math/bits.deBruijn64tab", laid_math_bits_deBruijn64tab), ("internal/strconv.uint64pow10", laid_internal_strconv_uint64pow10)], narrowed := true }
def DebtFewUptoSaid : Prop := debtFewUptoRow.holds Tryz.pinned (OpenSpec.upto debtFewSpec)

/-- 'pommellaw01.DebtChecks', WHERE WHAT IT READS IS OF BULK AT MOST 1048576: true; the input reads as it did. -/
def debtChecksUptoRow : OpenClaim := { program := "ytngpoamjhngcgaagreatdoor", sum := "a71106dfa1c2e9bc3d785ac1f03d966f66af99b383411e2a3576de791c4a1041", func := "pommel/pommellaw01.DebtChecks", spec := "debtChecks", inPlace := ["internal/bytealg.IndexByteString", "internal/bytealg.IndexString", "internal/abi.NoEscape", "internal/bytealg.MakeNoZero"], unfollowed := true, recurses := true, named := ["internal/bytealg.MaxLen", "internal/strconv.uint64pow10", "math/bits.deBruijn32tab", "math/bits.deBruijn64tab"], apart := false, laid := [("math/bits.deBruijn32tab", laid_math_bits_deBruijn32tab), ("math/bits.deBruijn64tab", laid_math_bits_deBruijn64tab), ("internal/strconv.uint64pow10", laid_internal_strconv_uint64pow10)], narrowed := true }
def DebtChecksUptoSaid : Prop := debtChecksUptoRow.holds Tryz.pinned (OpenSpec.upto debtChecksSpec)

/-- 'pommellaw01.DebtFails', WHERE WHAT IT READS IS OF BULK AT MOST 1048576: true; the input reads as it did. -/
def debtFailsUptoRow : OpenClaim := { program := "ytngpoamjhngcgaagreatdoor", sum := "a71106dfa1c2e9bc3d785ac1f03d966f66af99b383411e2a3576de791c4a1041", func := "pommel/pommellaw01.DebtFails", spec := "debtFails", inPlace := ["internal/abi.NoEscape", "internal/bytealg.MakeNoZero"], unfollowed := true, recurses := true, named := ["internal/strconv.uint64pow10", "math/bits.deBruijn32tab", "math/bits.deBruijn64tab"], apart := false, laid := [("math/bits.deBruijn32tab", laid_math_bits_deBruijn32tab), ("math/bits.deBruijn64tab", laid_math_bits_deBruijn64tab), ("internal/strconv.uint64pow10", laid_internal_strconv_uint64pow10)], narrowed := true }
def DebtFailsUptoSaid : Prop := debtFailsUptoRow.holds Tryz.pinned (OpenSpec.upto debtFailsSpec)

/-- 'pommellaw01.DebtClears', WHERE WHAT IT READS IS OF BULK AT MOST 1048576: true; the input reads as it did. -/
def debtClearsUptoRow : OpenClaim := { program := "ytngpoamjhngcgaagreatdoor", sum := "a71106dfa1c2e9bc3d785ac1f03d966f66af99b383411e2a3576de791c4a1041", func := "pommel/pommellaw01.DebtClears", spec := "debtClears", inPlace := ["internal/abi.NoEscape", "internal/bytealg.MakeNoZero"], unfollowed := true, recurses := true, named := ["internal/strconv.uint64pow10", "math/bits.deBruijn32tab", "math/bits.deBruijn64tab"], apart := false, laid := [("math/bits.deBruijn32tab", laid_math_bits_deBruijn32tab), ("math/bits.deBruijn64tab", laid_math_bits_deBruijn64tab), ("internal/strconv.uint64pow10", laid_internal_strconv_uint64pow10)], narrowed := true }
def DebtClearsUptoSaid : Prop := debtClearsUptoRow.holds Tryz.pinned (OpenSpec.upto debtClearsSpec)

/-- 'pommellaw01.DebtBetween', WHERE WHAT IT READS IS OF BULK AT MOST 1048576: true; the input reads as it did. -/
def debtBetweenUptoRow : OpenClaim := { program := "ytngpoamjhngcgaagreatdoor", sum := "a71106dfa1c2e9bc3d785ac1f03d966f66af99b383411e2a3576de791c4a1041", func := "pommel/pommellaw01.DebtBetween", spec := "debtBetween", inPlace := ["internal/abi.NoEscape", "internal/bytealg.MakeNoZero", "internal/bytealg.IndexByteString", "internal/bytealg.IndexString"], unfollowed := true, recurses := true, named := ["internal/strconv.uint64pow10", "math/bits.deBruijn32tab", "math/bits.deBruijn64tab", "internal/bytealg.MaxLen"], apart := false, laid := [("math/bits.deBruijn32tab", laid_math_bits_deBruijn32tab), ("math/bits.deBruijn64tab", laid_math_bits_deBruijn64tab), ("internal/strconv.uint64pow10", laid_internal_strconv_uint64pow10)], narrowed := true }
def DebtBetweenUptoSaid : Prop := debtBetweenUptoRow.holds Tryz.pinned (OpenSpec.upto debtBetweenSpec)

/-- 'pommellaw01.DebtMore', WHERE WHAT IT READS IS OF BULK AT MOST 1048576: true; the input reads as it did. -/
def debtMoreUptoRow : OpenClaim := { program := "ytngpoamjhngcgaagreatdoor", sum := "a71106dfa1c2e9bc3d785ac1f03d966f66af99b383411e2a3576de791c4a1041", func := "pommel/pommellaw01.DebtMore", spec := "debtMore", inPlace := ["internal/abi.NoEscape", "internal/bytealg.MakeNoZero"], unfollowed := true, recurses := true, named := ["internal/strconv.uint64pow10", "math/bits.deBruijn32tab", "math/bits.deBruijn64tab"], apart := false, laid := [("math/bits.deBruijn32tab", laid_math_bits_deBruijn32tab), ("math/bits.deBruijn64tab", laid_math_bits_deBruijn64tab), ("internal/strconv.uint64pow10", laid_internal_strconv_uint64pow10)], narrowed := true }
def DebtMoreUptoSaid : Prop := debtMoreUptoRow.holds Tryz.pinned (OpenSpec.upto debtMoreSpec)

/-- 'pommellaw01.DebtRounds', WHERE WHAT IT READS IS OF BULK AT MOST 1048576: true; the input reads as it did. -/
def debtRoundsUptoRow : OpenClaim := { program := "ytngpoamjhngcgaagreatdoor", sum := "a71106dfa1c2e9bc3d785ac1f03d966f66af99b383411e2a3576de791c4a1041", func := "pommel/pommellaw01.DebtRounds", spec := "debtRounds", inPlace := ["internal/abi.NoEscape", "internal/bytealg.MakeNoZero"], unfollowed := true, recurses := true, named := ["internal/strconv.uint64pow10", "math/bits.deBruijn32tab", "math/bits.deBruijn64tab"], apart := false, laid := [("math/bits.deBruijn32tab", laid_math_bits_deBruijn32tab), ("math/bits.deBruijn64tab", laid_math_bits_deBruijn64tab), ("internal/strconv.uint64pow10", laid_internal_strconv_uint64pow10)], narrowed := true }
def DebtRoundsUptoSaid : Prop := debtRoundsUptoRow.holds Tryz.pinned (OpenSpec.upto debtRoundsSpec)

/-- 'pommellaw01.DebtKept', WHERE WHAT IT READS IS OF BULK AT MOST 1048576: true; the input reads as it did. -/
def debtKeptUptoRow : OpenClaim := { program := "ytngpoamjhngcgaagreatdoor", sum := "a71106dfa1c2e9bc3d785ac1f03d966f66af99b383411e2a3576de791c4a1041", func := "pommel/pommellaw01.DebtKept", spec := "debtKept", inPlace := ["internal/abi.NoEscape", "internal/bytealg.MakeNoZero"], unfollowed := true, recurses := true, named := ["internal/strconv.uint64pow10", "math/bits.deBruijn32tab", "math/bits.deBruijn64tab"], apart := false, laid := [("math/bits.deBruijn32tab", laid_math_bits_deBruijn32tab), ("math/bits.deBruijn64tab", laid_math_bits_deBruijn64tab), ("internal/strconv.uint64pow10", laid_internal_strconv_uint64pow10)], narrowed := true }
def DebtKeptUptoSaid : Prop := debtKeptUptoRow.holds Tryz.pinned (OpenSpec.upto debtKeptSpec)

end Rows
end Go.Proofs.YtngpoamjhngcgaaGreatDoor
