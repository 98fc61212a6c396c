/- Arrays of three compared. -/
import Derived.Test.YtdgdemiifloliaaGreatDoorPmNS1
set_option linter.unusedSimpArgs false
namespace Go.Proofs.YtdgdemiifloliaaGreatDoor.Ev
open Go Go.Proofs
noncomputable section
theorem pureRun_bindS {α β : Type} {P : Program} : ∀ (m : Sem α) (f : α → Sem β), pureRun P (m >>= f) = (pureRun P m).bind fun a => pureRun P (f a) := by
  intro m
  induction m with
  | pure a => intro f; rfl
  | program k ih => intro f; exact ih P f
  | _ => intro f; rfl
theorem pureRun_pure {α : Type} {P : Program} {a : α} : pureRun P (pure a) = some a := rfl
theorem eq3 {d : Nat} {a b : Int} : pureRun Tryz.prog (Op.equalIn (d + 1) 3 (.int .i64 a) (.int .i64 b)) = some (a == b) := by kernel_rfl
theorem und113 : pureRun Tryz.prog (underlying 113) = some (.array 3 3) := by kernel_rfl
theorem sz3 : pureRun Tryz.prog (sizeOf 3) = some 1 := by kernel_rfl
theorem guard113 : Tryz.prog.eqGuardType Tryz.prog.depth 113 = false := by kernel_rfl
theorem pureProg {P : Program} : pureRun P program = some P := rfl
theorem part3_0 {x : Int} {y s : Value} : pureRun Tryz.prog (part 3 #[.int .i64 x, y, s] 0) = some (.int .i64 x) := by kernel_rfl
theorem part3_1 {y : Int} {x s : Value} : pureRun Tryz.prog (part 3 #[x, .int .i64 y, s] 1) = some (.int .i64 y) := by kernel_rfl
theorem part3_2 {s : Int} {x y : Value} : pureRun Tryz.prog (part 3 #[x, y, .int .i64 s] 2) = some (.int .i64 s) := by kernel_rfl
theorem eq113 {d : Nat} {x y z x' y' z' : Int} : pureRun Tryz.prog (Op.equalIn (d + 2) 113 (.agg #[.int .i64 x, .int .i64 y, .int .i64 z]) (.agg #[.int .i64 x', .int .i64 y', .int .i64 z'])) = some (x == x' && (y == y' && z == z')) := by
  rw [Op.equalIn]
  simp only [pureRun_bindS, und113, sz3, Option.bind_some]
  rw [Std.Legacy.Range.forIn_eq_forIn_range']
  have e : List.range' ([0:3] : Std.Legacy.Range).start ([0:3] : Std.Legacy.Range).size ([0:3] : Std.Legacy.Range).step = [0, 1, 2] := rfl
  rw [e]
  simp only [List.forIn_cons, List.forIn_nil, pureRun_bindS, Nat.zero_mul, Nat.one_mul, Nat.mul_one, part3_0, part3_1, part3_2, eq3, Option.bind_some]
  by_cases h1 : x = x' <;> by_cases h2 : y = y' <;> by_cases h3 : z = z' <;> simp [h1, h2, h3, pureRun_bindS, pureRun_pure, part3_0, part3_1, part3_2, eq3]
theorem ne113 {G : Nat} {x y z x' y' z' : Int} : binO Tryz.prog (En G) .neq 113 (some (.agg #[.int .i64 x, .int .i64 y, .int .i64 z])) (some (.agg #[.int .i64 x', .int .i64 y', .int .i64 z'])) = some (.bool (!(x == x' && (y == y' && z == z')))) := by
  have hg : pureRun Tryz.prog (eqGuard .neq 113 (.tmp 0) (.tmp 0) (.agg #[.int .i64 x, .int .i64 y, .int .i64 z]) (.agg #[.int .i64 x', .int .i64 y', .int .i64 z'])) = some () := by
    simp [eqGuard, pureRun_bindS, pureProg, guard113, pureRun_pure]
  have hb : pureRun Tryz.prog (binOp .neq 113 (.agg #[.int .i64 x, .int .i64 y, .int .i64 z]) (.agg #[.int .i64 x', .int .i64 y', .int .i64 z'])) = some (.bool (!(x == x' && (y == y' && z == z')))) := by
    simp only [binOp, Op.equal, pureRun_bindS]
    have : Op.maxDepth = 9998 + 2 := rfl
    rw [this, eq113]
    rfl
  have hs : slowBin Tryz.prog .neq 113 (.agg #[.int .i64 x, .int .i64 y, .int .i64 z]) (.agg #[.int .i64 x', .int .i64 y', .int .i64 z']) = some (.bool (!(x == x' && (y == y' && z == z')))) := by
    unfold slowBin
    rw [pureRun_bindS, hg]
    simp only [Option.bind_some, hb]
    rfl
  have h1 : (Ev.plainA (.agg #[.int .i64 x, .int .i64 y, .int .i64 z]) && Ev.plainA (.agg #[.int .i64 x', .int .i64 y', .int .i64 z'])) = true := rfl
  have h2 : fastBin .neq (.agg #[.int .i64 x, .int .i64 y, .int .i64 z]) (.agg #[.int .i64 x', .int .i64 y', .int .i64 z']) = none := rfl
  simp only [binO, h1, if_true, h2, hs]
end
end Go.Proofs.YtdgdemiifloliaaGreatDoor.Ev
