/- Variables that lie in memory; squares; put. -/
import Derived.Test.YtnhbkoeomefkdaaDoorPmhHH
set_option linter.unusedSimpArgs false
set_option linter.unusedVariables false
namespace Go.Proofs.YtnhbkoeomefkdaaDoor.Ev.L
open Go Go.Proofs Go.Proofs.YtnhbkoeomefkdaaDoor.Ev
noncomputable section

/-- a square -/
theorem u61 {G : Nat} : ∃ fs, (En G).u 61 = some (.struct fs) := ⟨_, En_u.trans <| (envOf_u (by decide)).trans Tryd.underlying61⟩
theorem agg61 {G : Nat} : (En G).agg 61 = some true := by
  obtain ⟨fs, h⟩ := @u61 G
  unfold Env.agg; rw [h]
theorem zero61 : inf61.zero = some (.agg #[.int .i64 0, .int .i64 0, .int .i64 0]) := by kernel_rfl
theorem build61 {G : Nat} {a b c : Int} : buildO (En G) 61 (some [(0, .int .i64 a), (1, .int .i64 b), (2, .int .i64 c)]) = some (.agg #[.int .i64 a, .int .i64 b, .int .i64 c]) := by
  have hu : (En G).u 61 = _ := En_u.trans <| (envOf_u (by decide)).trans Tryd.underlying61
  simp only [buildO, evBuild, i61, hu, zero61, places, i3, size3]
  rfl
end
end Go.Proofs.YtnhbkoeomefkdaaDoor.Ev.L

/- laid. -/
set_option linter.unusedSimpArgs false
set_option linter.unusedVariables false
namespace Go.Proofs.YtnhbkoeomefkdaaDoor.Ev.L
open Go Go.Proofs Go.Proofs.YtnhbkoeomefkdaaDoor.Ev
noncomputable section

theorem zeros_ints {w : Nat} : zeros (Value.int .i64 0).cells.toList w = ints (List.replicate w 0) := by
  induction w with
  | zero => rfl
  | succ w ih => rw [zeros, ih]; rfl

section
variable {P : Program} {E : Env} {n : Nat} {ops : List Oper} {r tl : List Oper} {k : List Frm} {α : Tr Value} {h : H} {R : Rt} {d : Nat}
theorem CallO_any {g : FuncId} {vs : List Value} {Q : Value → H → Prop} (hs : CallsE P E g vs h Q) (hd : d < n) (hk : ∀ v h', Q v h' → At P E n ops false r tl k (Tr.put α d v) h' R) :
    CallO P E n ops false r tl k α h R (some d) (some (.func (.func g) #[] #[])) (some vs) := CallO_of hs hd fun v h' hq => ⟨fun e => (by cases e), hk v h' hq⟩
end

end
end Go.Proofs.YtnhbkoeomefkdaaDoor.Ev.L

/- The reference's Lay. -/
set_option linter.unusedSimpArgs false
set_option linter.unusedVariables false
namespace Go.Proofs.YtnhbkoeomefkdaaDoor.Ev.L
open Go Go.Proofs Go.Proofs.YtnhbkoeomefkdaaDoor.Ev
noncomputable section

theorem sinv {B : Tr Blk} {lo hi sz n b off c : Nat} {L : List Value} (s : SlV B lo hi sz n L (.slice (some ⟨b, off, none⟩) n c)) : ∃ cells size, B.get b = some (.mk cells size sz) ∧ lo ≤ b ∧ b < hi ∧ off + n * sz ≤ size ∧ L.length = n * sz ∧ ∀ i, i < n * sz → cells.get (off + i) = L[i]? := by
  cases s with
  | mk hb hlo hhi hsz hL hc => exact ⟨_, _, hb, hlo, hhi, hsz, hL, hc⟩
end
end Go.Proofs.YtnhbkoeomefkdaaDoor.Ev.L

