/- More fuel gives no other answer; what a run comes to, as a predicate. -/
import Derived.Test.YtnjbcgiplfdgmaaGreatDoorPmEvFin
namespace Go.Proofs.YtnjbcgiplfdgmaaGreatDoor.Ev
open Go
variable {P : Program} {E : Env}

def CLe (s t : Callf) : Prop := ∀ f a h r, s f a h = some r → t f a h = some r
def SLe (s t : Self) : Prop := ∀ n c α h r, s n c α h = some r → t n c α h = some r

theorem evOp_mono {c d : Callf} (hc : CLe c d) {h : H} {α : Tr Value} {o : Oper} {r : Value × H} (hs : evOp P E c h α o = some r) : evOp P E d h α o = some r := by
  rw [evOp_eq] at hs ⊢
  unfold evOpS at hs ⊢
  split <;> first | exact hs | skip
  all_goals (rename_i ho; simp only [ho] at hs)
  all_goals first | exact hs | skip
  all_goals
    revert hs
    cases evs E h α _ with
    | none => exact id
    | some vs =>
      simp only
      split <;> first | exact id | skip
      split <;> first | exact id | exact hc _ _ _ _

theorem step1_mono {c d : Callf} (hc : CLe c d) {n : Nat} {ops : List Oper} {h : H} {α : Tr Value} {o : Oper} {r : Tr Value × H} (hs : step1 P E c n ops h α o = some r) : step1 P E d n ops h α o = some r := by
  unfold step1 at hs ⊢
  split
  · rename_i hw
    rw [hw] at hs
    simp only at hs
    split at hs
    · rename_i v h' hv
      rw [evOp_mono hc hv]; exact hs
    · cases hs
  · rename_i hw; rw [hw] at hs; exact hs
  · rename_i hw; rw [hw] at hs; cases hs

theorem evList_mono {c d : Callf} (hc : CLe c d) {n : Nat} {ops : List Oper} : ∀ {l : List Oper} {h : H} {α : Tr Value} {r : Tr Value × H}, evList P E c n ops l h α = some r → evList P E d n ops l h α = some r
  | [], _, _, _, hs => hs
  | o :: l, h, α, r, hs => by
    simp only [evList] at hs ⊢
    split at hs
    · rename_i α' h' hv
      rw [step1_mono hc hv]
      exact evList_mono hc hs
    · cases hs

theorem evQuiet_mono {c d : Callf} (hc : CLe c d) {n : Nat} {ops : List Oper} : ∀ {l : List Oper} {h : H} {α : Tr Value} {r : Tr Value × H}, evQuiet P E c n ops l h α = some r → evQuiet P E d n ops l h α = some r
  | [], _, _, _, hs => hs
  | o :: l, h, α, r, hs => by
    simp only [evQuiet] at hs ⊢
    split at hs
    · rename_i α' h' hv
      rw [step1_mono hc hv]
      simp only
      split at hs
      · rename_i hle
        rw [if_pos hle]
        exact evQuiet_mono hc hs
      · cases hs
    · cases hs

theorem callWith_mono {s t : Self} (hs : SLe s t) : CLe (callWith E s) (callWith E t) := by
  intro f a h r hr
  unfold callWith at hr ⊢
  split
  · rename_i hk; rw [hk] at hr; exact hr
  rename_i hk
  rw [hk] at hr
  simp only at hr
  split
  · rename_i fn hfn
    rw [hfn] at hr
    simp only at hr
    split
    · rename_i c hb
      rw [hb] at hr
      simp only at hr
      split
      · rename_i hcond
        rw [if_pos hcond] at hr
        split at hr
        all_goals first | (rename_i hx; rw [hs _ _ _ _ _ hx]; exact hr) | cases hr
      · rename_i hcond
        rw [if_neg hcond] at hr; cases hr
    · rename_i hb; rw [hb] at hr; cases hr
  · rename_i hfn; rw [hfn] at hr; cases hr

theorem evRegion_mono {s t : Self} (hs : SLe s t) {n : Nat} {ops : Array Oper} {draw : Bool} {α : Tr Value} {h : H} {r : Tr Value × H} (hr : evRegion P E s n ops draw α h = some r) : evRegion P E t n ops draw α h = some r := by
  have hc := callWith_mono (E := E) hs
  unfold evRegion at hr ⊢
  split
  · rename_i hd
    rw [if_pos hd] at hr
    simp only [forceN_eq] at hr ⊢
    split
    · rename_i hw
      rw [if_pos hw] at hr
      split
      · rename_i hk
        rw [if_pos hk] at hr
        split at hr
        · rename_i hq
          rw [evQuiet_mono hc hq]
          simp only
          split at hr
          · rename_i hl
            rw [if_pos hl]
            exact evList_mono hc hr
          · cases hr
        · cases hr
      · rename_i hk
        rw [if_neg hk] at hr; cases hr
    rename_i hw
    rw [if_neg hw] at hr
    split
    · rename_i hk
      rw [if_pos hk] at hr
      split at hr
      · rename_i hq
        rw [evQuiet_mono hc hq]
        exact evList_mono hc hr
      · cases hr
    · rename_i hk
      rw [if_neg hk] at hr; cases hr
  · rename_i hd
    rw [if_neg hd] at hr
    exact evList_mono hc hr

theorem evLoop_mono {s t : Self} (hs : SLe s t) {n : Nat} {b : Code} : ∀ {k : Nat} {α : Tr Value} {h : H} {r : Ex × Tr Value × H}, evLoop s n b k α h = some r → evLoop t n b k α h = some r
  | 0, _, _, _, hr => by cases hr
  | k + 1, α, h, r, hr => by
    simp only [evLoop] at hr ⊢
    split at hr
    · rename_i hx
      rw [hs _ _ _ _ _ hx]
      exact evLoop_mono hs hr
    · rename_i x hne
      rw [hs _ _ _ _ _ hr]
      obtain ⟨e, α', h'⟩ := r
      cases e with
      | normal => exact absurd hr (hne _ _)
      | _ => rfl
theorem evLoop_more {s : Self} {n : Nat} {b : Code} : ∀ {k : Nat} {α : Tr Value} {h : H} {r : Ex × Tr Value × H}, evLoop s n b k α h = some r → evLoop s n b (k + 1) α h = some r
  | 0, _, _, _, hr => by cases hr
  | k + 1, α, h, r, hr => by
    rw [evLoop] at hr ⊢
    split at hr
    · rename_i hx
      exact evLoop_more hr
    · exact hr
theorem evLoop_le {s : Self} {n : Nat} {b : Code} {k k' : Nat} (hk : k ≤ k') {α : Tr Value} {h : H} {r : Ex × Tr Value × H} (hr : evLoop s n b k α h = some r) : evLoop s n b k' α h = some r := by
  induction hk with
  | refl => exact hr
  | step _ ih => exact evLoop_more ih

theorem evRounds_mono {s t : Self} (hs : SLe s t) {n p0 p1 : Nat} {assign body : Code} {α : Tr Value} {cap : List Value} : ∀ {k i : Nat} {h : H} {r : Ex × H}, evRounds s n p0 p1 assign body α cap k i h = some r → evRounds t n p0 p1 assign body α cap k i h = some r
  | 0, _, _, _, hr => hr
  | k + 1, i, h, r, hr => by
    simp only [evRounds, forceI_eq, Tr.force_eq, forceN_eq] at hr ⊢
    split at hr
    · split at hr
      · split at hr
        · rename_i hA
          rw [hs _ _ _ _ _ hA]
          simp only
          split at hr
          · rename_i hB
            rw [hs _ _ _ _ _ hB]
            exact evRounds_mono hs hr
          · rename_i e1 _ _ hne hB
            rw [hs _ _ _ _ _ hB]
            cases e1 with
            | normal => exact (hne rfl).elim
            | _ => exact hr
          · cases hr
        · cases hr
      · cases hr
    · cases hr
theorem evRange_mono {s t : Self} (hs : SLe s t) {n : Nat} {v : Option Value} {ps : List Tmp} {assign body : Code} {α : Tr Value} {h : H} {r : Ex × Tr Value × H} (hr : evRange E s n v ps assign body α h = some r) : evRange E t n v ps assign body α h = some r := by
  unfold evRange at hr ⊢
  split
  · simp only at hr
    split
    · rename_i h1 h2 h3
      rw [h1, h2, h3] at hr
      simp only at hr
      split
      · rename_i hlt
        rw [if_pos hlt] at hr
        split at hr
        · rename_i hx
          rw [evRounds_mono hs hx]; exact hr
        · cases hr
      · rename_i hlt
        rw [if_neg hlt] at hr; cases hr
    · rename_i h1
      split at hr
      · rename_i e1 e2 e3
        exact (h1 _ e1 e2 e3).elim
      · cases hr
  · rename_i h1
    split at hr
    · exact (h1 _ _ _ _ _ rfl rfl).elim
    · cases hr

theorem evStep_mono {s t : Self} (hs : SLe s t) : SLe (evStep P E s) (evStep P E t) := by
  intro n c α h r hr
  unfold evStep at hr ⊢
  split
  · exact hr
  · exact hr
  · simp only at hr
    split at hr
    · rename_i hx; rw [evRegion_mono hs hx]; exact hr
    · cases hr
  · simp only at hr
    split at hr
    · rename_i hx; rw [hs _ _ _ _ _ hx]; exact hs _ _ _ _ _ hr
    · rename_i x hne
      rw [hs _ _ _ _ _ hr]
      obtain ⟨e, α', h'⟩ := r
      cases e with
      | normal => exact absurd hr (hne _ _)
      | _ => rfl
  · simp only at hr
    split at hr
    · exact hs _ _ _ _ _ hr
    · exact hs _ _ _ _ _ hr
    · cases hr
  · simp only at hr
    split at hr
    · rename_i hx; rw [hs _ _ _ _ _ hx]; exact hr
    · rename_i x hne
      rw [hs _ _ _ _ _ hr]
      obtain ⟨e, α', h'⟩ := r
      cases e with
      | exit _ => exact absurd hr (hne _ _ _)
      | _ => rfl
  · exact evLoop_mono hs hr
  · exact hr
  · exact hr
  · exact evRange_mono hs hr
  · simp only at hr; cases hr

theorem run_mono1 : ∀ f, SLe (run P E f) (run P E (f + 1))
  | 0 => fun n c α h r hr => by cases hr
  | f + 1 => evStep_mono (run_mono1 f)
theorem run_mono {f g : Nat} (h : f ≤ g) : SLe (run P E f) (run P E g) := by
  induction h with
  | refl => exact fun _ _ _ _ _ => id
  | step _ ih => exact fun n c α h r hr => run_mono1 _ _ _ _ _ _ (ih _ _ _ _ _ hr)
end Go.Proofs.YtnjbcgiplfdgmaaGreatDoor.Ev
