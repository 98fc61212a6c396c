/-
  NARROWER THAN 'FOR EVERY INPUT', by the rows' own cells (each row's printed sentence says how): HideMeasures: laid · HideLays: laid · HideNets: laid · HideCompounds: laid · HideFewest: laid · HideEuclids: laid · HideCodes: laid · HideLess: laid · HideMirrored: laid · HideTrees: laid.
  DERIVED. THE GIVEN ROWS OF THIS SEAT. 10 by the template 'for every input the law returns true; each argument reads behind the call as it read before'; 0 by the template 'total and deterministic' (their statements: YtnhbkoeomefkdaaDoorTotals.lean).
  GIVEN WITH THE SEED: the statements are not yours to turn. If you find one false, say at which input.
  Laid BY PROGRAM, IN A SANDBOX (cutbox-rows.mjs): the forced cells as the released guide's own fill.sh prints them over the translation b2fe5045384f811d… (all of the seat's roots in one cut). By AI agents, Wed Nov 11 2026. No macro, syntax, notation, axiom, sorry.
-/
import Derived.Test.YtnhbkoeomefkdaaDoorChecked
import GoSem.Claim
import GoSem.ClaimJoined
import GoSem.ClaimMapViews
import Derived.JoinedTies
import Derived.KernelRfl
namespace Go.Proofs.YtnhbkoeomefkdaaDoor
/- THE CELL 'sum', in the pinned program and in every row, IS THE sha256 OF THE DUMP (.gsa) THAT YtnhbkoeomefkdaaDoorProg.lean LOADS. Nothing in Lean hashes anything: it is a label: what it is worth is what the hold of that sum in a sandbox is worth. -/
noncomputable def Tryd.pinned : Pinned := { name := "ytnhbkoeomefkdaadoor", sum := "b2fe5045384f811d402638a7926f02e037b39d523c4687a908d8addc8405307f", checked := Tryd.checked }
namespace Rows
def none {H : Type} : Left H := { results := [], args := [] }

/- WHAT THE LISTED PACKAGE-LEVEL VARIABLES READ AS WHEN THE CALL BEGINS. Each datum BY PROGRAM (the guide's laid-datum.mjs) off the statement by which the dump's own 'gosem.cut.vars' lays the variable. In a bare row this is a premise. The card (YtnhbkoeomefkdaaDoorCards.lean) ties it to the program's text. -/
def laid_math_bits_deBruijn32tab {H : Type} : DataW H := .agg [.lit (.int .u8 0), .lit (.int .u8 1), .lit (.int .u8 28), .lit (.int .u8 2), .lit (.int .u8 29), .lit (.int .u8 14), .lit (.int .u8 24), .lit (.int .u8 3), .lit (.int .u8 30), .lit (.int .u8 22), .lit (.int .u8 20), .lit (.int .u8 15), .lit (.int .u8 25), .lit (.int .u8 17), .lit (.int .u8 4), .lit (.int .u8 8), .lit (.int .u8 31), .lit (.int .u8 27), .lit (.int .u8 13), .lit (.int .u8 23), .lit (.int .u8 21), .lit (.int .u8 19), .lit (.int .u8 16), .lit (.int .u8 7), .lit (.int .u8 26), .lit (.int .u8 12), .lit (.int .u8 18), .lit (.int .u8 6), .lit (.int .u8 11), .lit (.int .u8 5), .lit (.int .u8 10), .lit (.int .u8 9)]
def laid_math_bits_deBruijn64tab {H : Type} : DataW H := .agg [.lit (.int .u8 0), .lit (.int .u8 1), .lit (.int .u8 56), .lit (.int .u8 2), .lit (.int .u8 57), .lit (.int .u8 49), .lit (.int .u8 28), .lit (.int .u8 3), .lit (.int .u8 61), .lit (.int .u8 58), .lit (.int .u8 42), .lit (.int .u8 50), .lit (.int .u8 38), .lit (.int .u8 29), .lit (.int .u8 17), .lit (.int .u8 4), .lit (.int .u8 62), .lit (.int .u8 47), .lit (.int .u8 59), .lit (.int .u8 36), .lit (.int .u8 45), .lit (.int .u8 43), .lit (.int .u8 51), .lit (.int .u8 22), .lit (.int .u8 53), .lit (.int .u8 39), .lit (.int .u8 33), .lit (.int .u8 30), .lit (.int .u8 24), .lit (.int .u8 18), .lit (.int .u8 12), .lit (.int .u8 5), .lit (.int .u8 63), .lit (.int .u8 55), .lit (.int .u8 48), .lit (.int .u8 27), .lit (.int .u8 60), .lit (.int .u8 41), .lit (.int .u8 37), .lit (.int .u8 16), .lit (.int .u8 46), .lit (.int .u8 35), .lit (.int .u8 44), .lit (.int .u8 21), .lit (.int .u8 52), .lit (.int .u8 32), .lit (.int .u8 23), .lit (.int .u8 11), .lit (.int .u8 54), .lit (.int .u8 26), .lit (.int .u8 40), .lit (.int .u8 15), .lit (.int .u8 34), .lit (.int .u8 20), .lit (.int .u8 31), .lit (.int .u8 10), .lit (.int .u8 25), .lit (.int .u8 14), .lit (.int .u8 19), .lit (.int .u8 9), .lit (.int .u8 13), .lit (.int .u8 8), .lit (.int .u8 7), .lit (.int .u8 6)]
def laid_internal_strconv_uint64pow10 {H : Type} : DataW H := .agg [.lit (.int .u64 1), .lit (.int .u64 10), .lit (.int .u64 100), .lit (.int .u64 1000), .lit (.int .u64 10000), .lit (.int .u64 100000), .lit (.int .u64 1000000), .lit (.int .u64 10000000), .lit (.int .u64 100000000), .lit (.int .u64 1000000000), .lit (.int .u64 10000000000), .lit (.int .u64 100000000000), .lit (.int .u64 1000000000000), .lit (.int .u64 10000000000000), .lit (.int .u64 100000000000000), .lit (.int .u64 1000000000000000), .lit (.int .u64 10000000000000000), .lit (.int .u64 100000000000000000), .lit (.int .u64 1000000000000000000), .lit (.int .u64 10000000000000000000)]

/-- 'pommellaw02.HideMeasures': WHATEVER THE INPUT: true; the input reads as it did. -/
def hideMeasuresSpec : ChangeSpec := { name := "hideMeasures", fn := fun _ => fun
  | [d] => { results := [.lit (.bool true)], args := [d] }
  | _ => none }
def hideMeasuresRow : OpenClaim := { program := "ytnhbkoeomefkdaadoor", sum := "b2fe5045384f811d402638a7926f02e037b39d523c4687a908d8addc8405307f", func := "pommel/pommellaw02.HideMeasures", spec := "hideMeasures", unfollowed := true, recurses := true, named := ["internal/strconv.uint64pow10", "math/bits.deBruijn32tab", "math/bits.deBruijn64tab"], apart := false, laid := [("math/bits.deBruijn32tab", laid_math_bits_deBruijn32tab), ("math/bits.deBruijn64tab", laid_math_bits_deBruijn64tab), ("internal/strconv.uint64pow10", laid_internal_strconv_uint64pow10)] }
def HideMeasuresSaid : Prop := hideMeasuresRow.holds Tryd.pinned (OpenSpec.ofChange hideMeasuresSpec)

/-- ITS FALSE NEIGHBOUR: 'it returns false'. Refute it at one input. -/
def hideMeasuresWrong : ChangeSpec := { name := "hideMeasures", fn := fun _ => fun
  | [d] => { results := [.lit (.bool false)], args := [d] }
  | _ => none }
def HideMeasuresWrongFalsely : Prop := hideMeasuresRow.holds Tryd.pinned (OpenSpec.ofChange hideMeasuresWrong)

/-- 'pommellaw02.HideLays': WHATEVER THE INPUT: true; the input reads as it did. -/
def hideLaysSpec : ChangeSpec := { name := "hideLays", fn := fun _ => fun
  | [d1, d2] => { results := [.lit (.bool true)], args := [d1, d2] }
  | _ => none }
def hideLaysRow : OpenClaim := { program := "ytnhbkoeomefkdaadoor", sum := "b2fe5045384f811d402638a7926f02e037b39d523c4687a908d8addc8405307f", func := "pommel/pommellaw02.HideLays", spec := "hideLays", unfollowed := true, recurses := true, named := ["internal/strconv.uint64pow10", "math/bits.deBruijn32tab", "math/bits.deBruijn64tab"], apart := false, laid := [("math/bits.deBruijn32tab", laid_math_bits_deBruijn32tab), ("math/bits.deBruijn64tab", laid_math_bits_deBruijn64tab), ("internal/strconv.uint64pow10", laid_internal_strconv_uint64pow10)] }
def HideLaysSaid : Prop := hideLaysRow.holds Tryd.pinned (OpenSpec.ofChange hideLaysSpec)

/-- ITS FALSE NEIGHBOUR: 'it returns false'. Refute it at one input. -/
def hideLaysWrong : ChangeSpec := { name := "hideLays", fn := fun _ => fun
  | [d1, d2] => { results := [.lit (.bool false)], args := [d1, d2] }
  | _ => none }
def HideLaysWrongFalsely : Prop := hideLaysRow.holds Tryd.pinned (OpenSpec.ofChange hideLaysWrong)

/-- 'pommellaw02.HideNets': WHATEVER THE INPUT: true; the input reads as it did. -/
def hideNetsSpec : ChangeSpec := { name := "hideNets", fn := fun _ => fun
  | [d] => { results := [.lit (.bool true)], args := [d] }
  | _ => none }
def hideNetsRow : OpenClaim := { program := "ytnhbkoeomefkdaadoor", sum := "b2fe5045384f811d402638a7926f02e037b39d523c4687a908d8addc8405307f", func := "pommel/pommellaw02.HideNets", spec := "hideNets", unfollowed := true, recurses := true, named := ["internal/strconv.uint64pow10", "math/bits.deBruijn32tab", "math/bits.deBruijn64tab"], apart := false, laid := [("math/bits.deBruijn32tab", laid_math_bits_deBruijn32tab), ("math/bits.deBruijn64tab", laid_math_bits_deBruijn64tab), ("internal/strconv.uint64pow10", laid_internal_strconv_uint64pow10)] }
def HideNetsSaid : Prop := hideNetsRow.holds Tryd.pinned (OpenSpec.ofChange hideNetsSpec)

/-- ITS FALSE NEIGHBOUR: 'it returns false'. Refute it at one input. -/
def hideNetsWrong : ChangeSpec := { name := "hideNets", fn := fun _ => fun
  | [d] => { results := [.lit (.bool false)], args := [d] }
  | _ => none }
def HideNetsWrongFalsely : Prop := hideNetsRow.holds Tryd.pinned (OpenSpec.ofChange hideNetsWrong)

/-- 'pommellaw02.HideCompounds': WHATEVER THE INPUT: true; the input reads as it did. -/
def hideCompoundsSpec : ChangeSpec := { name := "hideCompounds", fn := fun _ => fun
  | [d] => { results := [.lit (.bool true)], args := [d] }
  | _ => none }
def hideCompoundsRow : OpenClaim := { program := "ytnhbkoeomefkdaadoor", sum := "b2fe5045384f811d402638a7926f02e037b39d523c4687a908d8addc8405307f", func := "pommel/pommellaw02.HideCompounds", spec := "hideCompounds", unfollowed := true, recurses := true, named := ["internal/strconv.uint64pow10", "math/bits.deBruijn32tab", "math/bits.deBruijn64tab"], apart := false, laid := [("math/bits.deBruijn32tab", laid_math_bits_deBruijn32tab), ("math/bits.deBruijn64tab", laid_math_bits_deBruijn64tab), ("internal/strconv.uint64pow10", laid_internal_strconv_uint64pow10)] }
def HideCompoundsSaid : Prop := hideCompoundsRow.holds Tryd.pinned (OpenSpec.ofChange hideCompoundsSpec)

/-- ITS FALSE NEIGHBOUR: 'it returns false'. Refute it at one input. -/
def hideCompoundsWrong : ChangeSpec := { name := "hideCompounds", fn := fun _ => fun
  | [d] => { results := [.lit (.bool false)], args := [d] }
  | _ => none }
def HideCompoundsWrongFalsely : Prop := hideCompoundsRow.holds Tryd.pinned (OpenSpec.ofChange hideCompoundsWrong)

/-- 'pommellaw02.HideFewest': WHATEVER THE INPUT: true; the input reads as it did. -/
def hideFewestSpec : ChangeSpec := { name := "hideFewest", fn := fun _ => fun
  | [d1, d2] => { results := [.lit (.bool true)], args := [d1, d2] }
  | _ => none }
def hideFewestRow : OpenClaim := { program := "ytnhbkoeomefkdaadoor", sum := "b2fe5045384f811d402638a7926f02e037b39d523c4687a908d8addc8405307f", func := "pommel/pommellaw02.HideFewest", spec := "hideFewest", unfollowed := true, recurses := true, named := ["internal/strconv.uint64pow10", "math/bits.deBruijn32tab", "math/bits.deBruijn64tab"], apart := false, laid := [("math/bits.deBruijn32tab", laid_math_bits_deBruijn32tab), ("math/bits.deBruijn64tab", laid_math_bits_deBruijn64tab), ("internal/strconv.uint64pow10", laid_internal_strconv_uint64pow10)] }
def HideFewestSaid : Prop := hideFewestRow.holds Tryd.pinned (OpenSpec.ofChange hideFewestSpec)

/-- ITS FALSE NEIGHBOUR: 'it returns false'. Refute it at one input. -/
def hideFewestWrong : ChangeSpec := { name := "hideFewest", fn := fun _ => fun
  | [d1, d2] => { results := [.lit (.bool false)], args := [d1, d2] }
  | _ => none }
def HideFewestWrongFalsely : Prop := hideFewestRow.holds Tryd.pinned (OpenSpec.ofChange hideFewestWrong)

/-- 'pommellaw02.HideEuclids': WHATEVER THE INPUT: true; the input reads as it did. -/
def hideEuclidsSpec : ChangeSpec := { name := "hideEuclids", fn := fun _ => fun
  | [d1, d2] => { results := [.lit (.bool true)], args := [d1, d2] }
  | _ => none }
def hideEuclidsRow : OpenClaim := { program := "ytnhbkoeomefkdaadoor", sum := "b2fe5045384f811d402638a7926f02e037b39d523c4687a908d8addc8405307f", func := "pommel/pommellaw02.HideEuclids", spec := "hideEuclids", unfollowed := true, recurses := true, named := ["internal/strconv.uint64pow10", "math/bits.deBruijn32tab", "math/bits.deBruijn64tab"], apart := false, laid := [("math/bits.deBruijn32tab", laid_math_bits_deBruijn32tab), ("math/bits.deBruijn64tab", laid_math_bits_deBruijn64tab), ("internal/strconv.uint64pow10", laid_internal_strconv_uint64pow10)] }
def HideEuclidsSaid : Prop := hideEuclidsRow.holds Tryd.pinned (OpenSpec.ofChange hideEuclidsSpec)

/-- ITS FALSE NEIGHBOUR: 'it returns false'. Refute it at one input. -/
def hideEuclidsWrong : ChangeSpec := { name := "hideEuclids", fn := fun _ => fun
  | [d1, d2] => { results := [.lit (.bool false)], args := [d1, d2] }
  | _ => none }
def HideEuclidsWrongFalsely : Prop := hideEuclidsRow.holds Tryd.pinned (OpenSpec.ofChange hideEuclidsWrong)

/-- 'pommellaw02.HideCodes': WHATEVER THE INPUT: true; the input reads as it did. -/
def hideCodesSpec : ChangeSpec := { name := "hideCodes", fn := fun _ => fun
  | [d1, d2] => { results := [.lit (.bool true)], args := [d1, d2] }
  | _ => none }
def hideCodesRow : OpenClaim := { program := "ytnhbkoeomefkdaadoor", sum := "b2fe5045384f811d402638a7926f02e037b39d523c4687a908d8addc8405307f", func := "pommel/pommellaw02.HideCodes", spec := "hideCodes", unfollowed := true, recurses := true, named := ["internal/strconv.uint64pow10", "math/bits.deBruijn32tab", "math/bits.deBruijn64tab"], apart := false, laid := [("math/bits.deBruijn32tab", laid_math_bits_deBruijn32tab), ("math/bits.deBruijn64tab", laid_math_bits_deBruijn64tab), ("internal/strconv.uint64pow10", laid_internal_strconv_uint64pow10)] }
def HideCodesSaid : Prop := hideCodesRow.holds Tryd.pinned (OpenSpec.ofChange hideCodesSpec)

/-- ITS FALSE NEIGHBOUR: 'it returns false'. Refute it at one input. -/
def hideCodesWrong : ChangeSpec := { name := "hideCodes", fn := fun _ => fun
  | [d1, d2] => { results := [.lit (.bool false)], args := [d1, d2] }
  | _ => none }
def HideCodesWrongFalsely : Prop := hideCodesRow.holds Tryd.pinned (OpenSpec.ofChange hideCodesWrong)

/-- 'pommellaw02.HideLess': WHATEVER THE INPUT: true; the input reads as it did. -/
def hideLessSpec : ChangeSpec := { name := "hideLess", fn := fun _ => fun
  | [d1, d2] => { results := [.lit (.bool true)], args := [d1, d2] }
  | _ => none }
def hideLessRow : OpenClaim := { program := "ytnhbkoeomefkdaadoor", sum := "b2fe5045384f811d402638a7926f02e037b39d523c4687a908d8addc8405307f", func := "pommel/pommellaw02.HideLess", spec := "hideLess", unfollowed := true, recurses := true, named := ["internal/strconv.uint64pow10", "math/bits.deBruijn32tab", "math/bits.deBruijn64tab"], apart := false, laid := [("math/bits.deBruijn32tab", laid_math_bits_deBruijn32tab), ("math/bits.deBruijn64tab", laid_math_bits_deBruijn64tab), ("internal/strconv.uint64pow10", laid_internal_strconv_uint64pow10)] }
def HideLessSaid : Prop := hideLessRow.holds Tryd.pinned (OpenSpec.ofChange hideLessSpec)

/-- ITS FALSE NEIGHBOUR: 'it returns false'. Refute it at one input. -/
def hideLessWrong : ChangeSpec := { name := "hideLess", fn := fun _ => fun
  | [d1, d2] => { results := [.lit (.bool false)], args := [d1, d2] }
  | _ => none }
def HideLessWrongFalsely : Prop := hideLessRow.holds Tryd.pinned (OpenSpec.ofChange hideLessWrong)

/-- 'pommellaw02.HideMirrored': WHATEVER THE INPUT: true; the input reads as it did. -/
def hideMirroredSpec : ChangeSpec := { name := "hideMirrored", fn := fun _ => fun
  | [d] => { results := [.lit (.bool true)], args := [d] }
  | _ => none }
def hideMirroredRow : OpenClaim := { program := "ytnhbkoeomefkdaadoor", sum := "b2fe5045384f811d402638a7926f02e037b39d523c4687a908d8addc8405307f", func := "pommel/pommellaw02.HideMirrored", spec := "hideMirrored", unfollowed := true, recurses := true, named := ["internal/strconv.uint64pow10", "math/bits.deBruijn32tab", "math/bits.deBruijn64tab"], apart := false, laid := [("math/bits.deBruijn32tab", laid_math_bits_deBruijn32tab), ("math/bits.deBruijn64tab", laid_math_bits_deBruijn64tab), ("internal/strconv.uint64pow10", laid_internal_strconv_uint64pow10)] }
def HideMirroredSaid : Prop := hideMirroredRow.holds Tryd.pinned (OpenSpec.ofChange hideMirroredSpec)

/-- ITS FALSE NEIGHBOUR: 'it returns false'. Refute it at one input. -/
def hideMirroredWrong : ChangeSpec := { name := "hideMirrored", fn := fun _ => fun
  | [d] => { results := [.lit (.bool false)], args := [d] }
  | _ => none }
def HideMirroredWrongFalsely : Prop := hideMirroredRow.holds Tryd.pinned (OpenSpec.ofChange hideMirroredWrong)

/-- 'pommellaw02.HideTrees': WHATEVER THE INPUT: true; the input reads as it did. -/
def hideTreesSpec : ChangeSpec := { name := "hideTrees", fn := fun _ => fun
  | [d] => { results := [.lit (.bool true)], args := [d] }
  | _ => none }
def hideTreesRow : OpenClaim := { program := "ytnhbkoeomefkdaadoor", sum := "b2fe5045384f811d402638a7926f02e037b39d523c4687a908d8addc8405307f", func := "pommel/pommellaw02.HideTrees", spec := "hideTrees", unfollowed := true, recurses := true, named := ["internal/strconv.uint64pow10", "math/bits.deBruijn32tab", "math/bits.deBruijn64tab"], apart := false, laid := [("math/bits.deBruijn32tab", laid_math_bits_deBruijn32tab), ("math/bits.deBruijn64tab", laid_math_bits_deBruijn64tab), ("internal/strconv.uint64pow10", laid_internal_strconv_uint64pow10)] }
def HideTreesSaid : Prop := hideTreesRow.holds Tryd.pinned (OpenSpec.ofChange hideTreesSpec)

/-- ITS FALSE NEIGHBOUR: 'it returns false'. Refute it at one input. -/
def hideTreesWrong : ChangeSpec := { name := "hideTrees", fn := fun _ => fun
  | [d] => { results := [.lit (.bool false)], args := [d] }
  | _ => none }
def HideTreesWrongFalsely : Prop := hideTreesRow.holds Tryd.pinned (OpenSpec.ofChange hideTreesWrong)

/- THE SECOND FORM. 'bulk': how many values and letters a reading holds, each counted each time it is reached (what is shared counts as often as it is met; a slice's spare places count too). A statement '..UptoSaid' is the law's where the arguments, and the package variables that the reading takes, are together of bulk at most 1048576: NARROWER than '..Said'. Prove '..Said' where nothing that the law and all that it calls make is longer than what came in: it says more and counts as full. Else prove '..UptoSaid'. A law counts once. -/
mutual
def uptoBulk {H : Type} : DataW H → Nat
  | .lit (.string bytes) => bytes.length + 1
  | .lit _ => 1
  | .nil => 1
  | .ptr d => uptoBulk d + 1
  | .slice elems spare => uptoBulkAll elems + uptoBulkAll spare + 1
  | .agg parts => uptoBulkAll parts + 1
  | .iface _ d => uptoBulk d + 1
  | .map entries => uptoBulkEntries entries + 1
  | .held _ => 1
def uptoBulkAll {H : Type} : List (DataW H) → Nat
  | [] => 0
  | d :: r => uptoBulk d + uptoBulkAll r
def uptoBulkEntries {H : Type} : List (Lit × DataW H) → Nat
  | [] => 0
  | x :: r => uptoBulkEntry x + uptoBulkEntries r
def uptoBulkEntry {H : Type} : Lit × DataW H → Nat
  | (.string bytes, d) => bytes.length + uptoBulk d + 1
  | (_, d) => uptoBulk d + 1
 end
def uptoSmall : (H : Type) → List (DataW H) → Bool := fun _ ds => decide (uptoBulkAll ds ≤ 1048576)
def OpenSpec.upto (s : _root_.Go.ChangeSpec) : _root_.Go.OpenSpec := { _root_.Go.OpenSpec.ofChange s with cond := some uptoSmall }

/-- 'pommellaw02.HideMeasures', WHERE WHAT IT READS IS OF BULK AT MOST 1048576: true; the input reads as it did. -/
def hideMeasuresUptoRow : OpenClaim := { program := "ytnhbkoeomefkdaadoor", sum := "b2fe5045384f811d402638a7926f02e037b39d523c4687a908d8addc8405307f", func := "pommel/pommellaw02.HideMeasures", spec := "hideMeasures", unfollowed := true, recurses := true, named := ["internal/strconv.uint64pow10", "math/bits.deBruijn32tab", "math/bits.deBruijn64tab"], apart := false, laid := [("math/bits.deBruijn32tab", laid_math_bits_deBruijn32tab), ("math/bits.deBruijn64tab", laid_math_bits_deBruijn64tab), ("internal/strconv.uint64pow10", laid_internal_strconv_uint64pow10)], narrowed := true }
def HideMeasuresUptoSaid : Prop := hideMeasuresUptoRow.holds Tryd.pinned (OpenSpec.upto hideMeasuresSpec)

/-- 'pommellaw02.HideLays', WHERE WHAT IT READS IS OF BULK AT MOST 1048576: true; the input reads as it did. -/
def hideLaysUptoRow : OpenClaim := { program := "ytnhbkoeomefkdaadoor", sum := "b2fe5045384f811d402638a7926f02e037b39d523c4687a908d8addc8405307f", func := "pommel/pommellaw02.HideLays", spec := "hideLays", unfollowed := true, recurses := true, named := ["internal/strconv.uint64pow10", "math/bits.deBruijn32tab", "math/bits.deBruijn64tab"], apart := false, laid := [("math/bits.deBruijn32tab", laid_math_bits_deBruijn32tab), ("math/bits.deBruijn64tab", laid_math_bits_deBruijn64tab), ("internal/strconv.uint64pow10", laid_internal_strconv_uint64pow10)], narrowed := true }
def HideLaysUptoSaid : Prop := hideLaysUptoRow.holds Tryd.pinned (OpenSpec.upto hideLaysSpec)

/-- 'pommellaw02.HideNets', WHERE WHAT IT READS IS OF BULK AT MOST 1048576: true; the input reads as it did. -/
def hideNetsUptoRow : OpenClaim := { program := "ytnhbkoeomefkdaadoor", sum := "b2fe5045384f811d402638a7926f02e037b39d523c4687a908d8addc8405307f", func := "pommel/pommellaw02.HideNets", spec := "hideNets", unfollowed := true, recurses := true, named := ["internal/strconv.uint64pow10", "math/bits.deBruijn32tab", "math/bits.deBruijn64tab"], apart := false, laid := [("math/bits.deBruijn32tab", laid_math_bits_deBruijn32tab), ("math/bits.deBruijn64tab", laid_math_bits_deBruijn64tab), ("internal/strconv.uint64pow10", laid_internal_strconv_uint64pow10)], narrowed := true }
def HideNetsUptoSaid : Prop := hideNetsUptoRow.holds Tryd.pinned (OpenSpec.upto hideNetsSpec)

/-- 'pommellaw02.HideCompounds', WHERE WHAT IT READS IS OF BULK AT MOST 1048576: true; the input reads as it did. -/
def hideCompoundsUptoRow : OpenClaim := { program := "ytnhbkoeomefkdaadoor", sum := "b2fe5045384f811d402638a7926f02e037b39d523c4687a908d8addc8405307f", func := "pommel/pommellaw02.HideCompounds", spec := "hideCompounds", unfollowed := true, recurses := true, named := ["internal/strconv.uint64pow10", "math/bits.deBruijn32tab", "math/bits.deBruijn64tab"], apart := false, laid := [("math/bits.deBruijn32tab", laid_math_bits_deBruijn32tab), ("math/bits.deBruijn64tab", laid_math_bits_deBruijn64tab), ("internal/strconv.uint64pow10", laid_internal_strconv_uint64pow10)], narrowed := true }
def HideCompoundsUptoSaid : Prop := hideCompoundsUptoRow.holds Tryd.pinned (OpenSpec.upto hideCompoundsSpec)

/-- 'pommellaw02.HideFewest', WHERE WHAT IT READS IS OF BULK AT MOST 1048576: true; the input reads as it did. -/
def hideFewestUptoRow : OpenClaim := { program := "ytnhbkoeomefkdaadoor", sum := "b2fe5045384f811d402638a7926f02e037b39d523c4687a908d8addc8405307f", func := "pommel/pommellaw02.HideFewest", spec := "hideFewest", unfollowed := true, recurses := true, named := ["internal/strconv.uint64pow10", "math/bits.deBruijn32tab", "math/bits.deBruijn64tab"], apart := false, laid := [("math/bits.deBruijn32tab", laid_math_bits_deBruijn32tab), ("math/bits.deBruijn64tab", laid_math_bits_deBruijn64tab), ("internal/strconv.uint64pow10", laid_internal_strconv_uint64pow10)], narrowed := true }
def HideFewestUptoSaid : Prop := hideFewestUptoRow.holds Tryd.pinned (OpenSpec.upto hideFewestSpec)

/-- 'pommellaw02.HideEuclids', WHERE WHAT IT READS IS OF BULK AT MOST 1048576: true; the input reads as it did. -/
def hideEuclidsUptoRow : OpenClaim := { program := "ytnhbkoeomefkdaadoor", sum := "b2fe5045384f811d402638a7926f02e037b39d523c4687a908d8addc8405307f", func := "pommel/pommellaw02.HideEuclids", spec := "hideEuclids", unfollowed := true, recurses := true, named := ["internal/strconv.uint64pow10", "math/bits.deBruijn32tab", "math/bits.deBruijn64tab"], apart := false, laid := [("math/bits.deBruijn32tab", laid_math_bits_deBruijn32tab), ("math/bits.deBruijn64tab", laid_math_bits_deBruijn64tab), ("internal/strconv.uint64pow10", laid_internal_strconv_uint64pow10)], narrowed := true }
def HideEuclidsUptoSaid : Prop := hideEuclidsUptoRow.holds Tryd.pinned (OpenSpec.upto hideEuclidsSpec)

/-- 'pommellaw02.HideCodes', WHERE WHAT IT READS IS OF BULK AT MOST 1048576: true; the input reads as it did. -/
def hideCodesUptoRow : OpenClaim := { program := "ytnhbkoeomefkdaadoor", sum := "b2fe5045384f811d402638a7926f02e037b39d523c4687a908d8addc8405307f", func := "pommel/pommellaw02.HideCodes", spec := "hideCodes", unfollowed := true, recurses := true, named := ["internal/strconv.uint64pow10", "math/bits.deBruijn32tab", "math/bits.deBruijn64tab"], apart := false, laid := [("math/bits.deBruijn32tab", laid_math_bits_deBruijn32tab), ("math/bits.deBruijn64tab", laid_math_bits_deBruijn64tab), ("internal/strconv.uint64pow10", laid_internal_strconv_uint64pow10)], narrowed := true }
def HideCodesUptoSaid : Prop := hideCodesUptoRow.holds Tryd.pinned (OpenSpec.upto hideCodesSpec)

/-- 'pommellaw02.HideLess', WHERE WHAT IT READS IS OF BULK AT MOST 1048576: true; the input reads as it did. -/
def hideLessUptoRow : OpenClaim := { program := "ytnhbkoeomefkdaadoor", sum := "b2fe5045384f811d402638a7926f02e037b39d523c4687a908d8addc8405307f", func := "pommel/pommellaw02.HideLess", spec := "hideLess", unfollowed := true, recurses := true, named := ["internal/strconv.uint64pow10", "math/bits.deBruijn32tab", "math/bits.deBruijn64tab"], apart := false, laid := [("math/bits.deBruijn32tab", laid_math_bits_deBruijn32tab), ("math/bits.deBruijn64tab", laid_math_bits_deBruijn64tab), ("internal/strconv.uint64pow10", laid_internal_strconv_uint64pow10)], narrowed := true }
def HideLessUptoSaid : Prop := hideLessUptoRow.holds Tryd.pinned (OpenSpec.upto hideLessSpec)

/-- 'pommellaw02.HideMirrored', WHERE WHAT IT READS IS OF BULK AT MOST 1048576: true; the input reads as it did. -/
def hideMirroredUptoRow : OpenClaim := { program := "ytnhbkoeomefkdaadoor", sum := "b2fe5045384f811d402638a7926f02e037b39d523c4687a908d8addc8405307f", func := "pommel/pommellaw02.HideMirrored", spec := "hideMirrored", unfollowed := true, recurses := true, named := ["internal/strconv.uint64pow10", "math/bits.deBruijn32tab", "math/bits.deBruijn64tab"], apart := false, laid := [("math/bits.deBruijn32tab", laid_math_bits_deBruijn32tab), ("math/bits.deBruijn64tab", laid_math_bits_deBruijn64tab), ("internal/strconv.uint64pow10", laid_internal_strconv_uint64pow10)], narrowed := true }
def HideMirroredUptoSaid : Prop := hideMirroredUptoRow.holds Tryd.pinned (OpenSpec.upto hideMirroredSpec)

/-- 'pommellaw02.HideTrees', WHERE WHAT IT READS IS OF BULK AT MOST 1048576: true; the input reads as it did. -/
def hideTreesUptoRow : OpenClaim := { program := "ytnhbkoeomefkdaadoor", sum := "b2fe5045384f811d402638a7926f02e037b39d523c4687a908d8addc8405307f", func := "pommel/pommellaw02.HideTrees", spec := "hideTrees", unfollowed := true, recurses := true, named := ["internal/strconv.uint64pow10", "math/bits.deBruijn32tab", "math/bits.deBruijn64tab"], apart := false, laid := [("math/bits.deBruijn32tab", laid_math_bits_deBruijn32tab), ("math/bits.deBruijn64tab", laid_math_bits_deBruijn64tab), ("internal/strconv.uint64pow10", laid_internal_strconv_uint64pow10)], narrowed := true }
def HideTreesUptoSaid : Prop := hideTreesUptoRow.holds Tryd.pinned (OpenSpec.upto hideTreesSpec)

end Rows
end Go.Proofs.YtnhbkoeomefkdaaDoor
