/- One operation: its effect on the evaluator's heap, and its soundness. -/
import Derived.Test.YtnjbcgiplfdgmaaGreatDoorPmEvRun
namespace Go.Proofs.YtnjbcgiplfdgmaaGreatDoor.Ev
open Go
variable {P : Program} {E : Env} {φ : Phi} {w : World}

theorem evMakeSlice_ae {h h' : H} (ok : Hok h) (hG : E.G ≤ h.next) {t : TypeId} {l c v : Value} (hs : evMakeSlice E h t l c = some (v, h')) : AE E h h' ∧ h'.next = h.next + 1 := by
  unfold evMakeSlice at hs
  repeat' split at hs
  all_goals first
    | (cases hs; done)
    | (rename_i b h1 hb
       simp only [Option.some.injEq, Prod.mk.injEq] at hs
       obtain ⟨_, rfl⟩ := hs
       exact ⟨aNew_ae ok hG hb, by rw [(aNew_some hb).2]⟩)

theorem evBuildSlice_ae {h h' : H} (ok : Hok h) (hG : E.G ≤ h.next) {t : TypeId} {n : Nat} {ps : List (Nat × Value)} {v : Value} (hs : evBuildSlice E h t n ps = some (v, h')) : AE E h h' := by
  unfold evBuildSlice at hs
  repeat' split at hs
  all_goals first
    | (cases hs; done)
    | (rename_i b h1 hb
       simp only [Option.some.injEq, Prod.mk.injEq] at hs
       obtain ⟨_, rfl⟩ := hs
       exact aNew_ae ok hG hb)
    | (simp only [Option.some.injEq, Prod.mk.injEq] at hs
       obtain ⟨_, rfl⟩ := hs
       exact AE.refl ok)

theorem evAppend_ae {h h' : H} (ok : Hok h) (hG : E.G ≤ h.next) {ts tx : TypeId} {s x v : Value} (hs : evAppend E h ts tx s x = some (v, h')) : AE E h h' := by
  unfold evAppend at hs
  simp only [forceN_eq] at hs
  repeat' split at hs
  all_goals first
    | (cases hs; done)
    | (simp only [Option.some.injEq, Prod.mk.injEq] at hs
       obtain ⟨_, rfl⟩ := hs
       first
         | exact AE.refl ok
         | exact aNew_ae ok hG (by assumption)
         | exact wr_ae ok (by assumption)
         | exact AE.trans (kill_ae ok ‹kill E h _ = some _›) (aNew_ae (kill_ae ok ‹kill E h _ = some _›).ok (Nat.le_trans hG (kill_ae ok ‹kill E h _ = some _›).next) (by assumption)))

theorem evCopy_ae {h h' : H} (ok : Hok h) {t : TypeId} {d x v : Value} (hs : evCopy E h t d x = some (v, h')) : AE E h h' := by
  unfold evCopy at hs
  simp only [forceN_eq] at hs
  repeat' split at hs
  all_goals first
    | (cases hs; done)
    | (simp only [Option.some.injEq, Prod.mk.injEq] at hs
       obtain ⟨_, rfl⟩ := hs
       first
         | exact AE.refl ok
         | exact wr_ae ok (by assumption))

theorem evClear_ae {h h' : H} (ok : Hok h) {t : TypeId} {x v : Value} (hs : evClear E h t x = some (v, h')) : AE E h h' := by
  unfold evClear at hs
  repeat' split at hs
  all_goals first
    | (cases hs; done)
    | (simp only [Option.some.injEq, Prod.mk.injEq] at hs
       obtain ⟨_, rfl⟩ := hs
       first
         | exact AE.refl ok
         | exact wr_ae ok (by assumption))

theorem evStore_ae {h h' : H} (ok : Hok h) {t : TypeId} {x v : Value} (hs : evStore E h t x v = some h') : AE E h h' := by
  unfold evStore at hs
  repeat' split at hs
  all_goals first
    | (cases hs; done)
    | exact wr_ae ok hs

theorem evBuiltin_ae {h h' : H} (ok : Hok h) (hG : E.G ≤ h.next) {b : Builtin} {ts : Array TypeId} {vs : List Value} {v : Value} (hs : evBuiltin E h b ts vs = some (v, h')) : AE E h h' := by
  unfold evBuiltin at hs
  split at hs
  · split at hs
    · simp only [Option.some.injEq, Prod.mk.injEq] at hs
      obtain ⟨_, rfl⟩ := hs
      exact AE.refl ok
    · cases hs
  · exact evAppend_ae ok hG hs
  · exact evCopy_ae ok hs
  · exact evClear_ae ok hs
  · cases hs

theorem evOp_ae {call : Callf} (hc : CallOK P E call) {h h' : H} (ok : Hok h) (hG : E.G ≤ h.next) {α : Tr Value} {o : Oper} {v : Value} (hs : evOp P E call h α o = some (v, h')) : AE E h h' := by
  have same : ∀ {x : Option Value}, asV h x = some (v, h') → AE E h h' := fun hx => by rw [(asV_some hx).2]; exact AE.refl ok
  rw [evOp_eq] at hs
  unfold evOpS at hs
  repeat' split at hs
  all_goals first
    | (cases hs; done)
    | exact same hs
    | exact (newVal_ae ok hG hs).1
    | exact evBuildSlice_ae ok hG hs
    | exact (evMakeSlice_ae ok hG hs).1
    | exact evBuiltin_ae ok hG hs
    | exact hc.ae _ _ _ _ _ ok hG hs
    | (simp only [Option.some.injEq, Prod.mk.injEq] at hs
       obtain ⟨_, rfl⟩ := hs
       first
         | exact AE.refl ok
         | exact evStore_ae ok (by assumption))
end Go.Proofs.YtnjbcgiplfdgmaaGreatDoor.Ev
