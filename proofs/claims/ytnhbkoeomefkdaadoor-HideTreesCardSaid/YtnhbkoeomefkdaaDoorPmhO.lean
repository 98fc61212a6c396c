/- The library's sort at this seat: squares, and segments. -/
import Derived.Test.YtnhbkoeomefkdaaDoorPmSF
set_option linter.unusedVariables false
set_option linter.unusedSimpArgs false
namespace Go.Proofs.YtnhbkoeomefkdaaDoor.Ev
open Go
noncomputable section
/-- three numbers -/
def tri (a b c : Int) : List Value := [.int .i64 a, .int .i64 b, .int .i64 c]
def okTri (_ : Nat) (_ : H) (x : List Value) : Prop := ∃ a b c, x = tri a b c
/-- first by p, then by q -/
def lex2 (p p' q q' : Int) : Int := if p < p' then -1 else if p' < p then 1 else if q < q' then -1 else if q' < q then 1 else 0
/-- squares: by Y, then by X -/
def cfSq (_ : H) : List Value → List Value → Int
  | [.int .i64 a, .int .i64 b, _], [.int .i64 a', .int .i64 b', _] => lex2 b b' a a'
  | _, _ => 0
/-- segments: by y, then by from -/
def cfLn (_ : H) : List Value → List Value → Int
  | [.int .i64 a, .int .i64 b, _], [.int .i64 a', .int .i64 b', _] => lex2 a a' b b'
  | _, _ => 0
def gSq : List Value → H → Option Value := gSortF 3 56 okTri cfSq
def gLn : List Value → H → Option Value := gSortP 3 66 okTri cfLn
theorem cfSq_tri {h : H} {a b c a' b' c' : Int} : cfSq h (tri a b c) (tri a' b' c') = lex2 b b' a a' := rfl
theorem cfLn_tri {h : H} {a b c a' b' c' : Int} : cfLn h (tri a b c) (tri a' b' c') = lex2 a a' b b' := rfl
theorem lex2_neg {p p' q q' : Int} : lex2 p p' q q' < 0 ↔ p < p' ∨ (p = p' ∧ q < q') := by
  unfold lex2
  repeat' split
  all_goals constructor <;> intro h <;> omega
theorem lex2_pos {p p' q q' : Int} : ¬ lex2 p p' q q' < 0 ↔ p' < p ∨ (p = p' ∧ q' ≤ q) := by
  rw [lex2_neg]
  omega
end
end Go.Proofs.YtnhbkoeomefkdaaDoor.Ev

