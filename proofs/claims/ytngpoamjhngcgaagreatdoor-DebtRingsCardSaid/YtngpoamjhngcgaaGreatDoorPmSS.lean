/- More fuel gives no other answer; what a run comes to, as a predicate. -/
import Derived.Test.YtngpoamjhngcgaaGreatDoorPmEvL
namespace Go.Proofs.YtngpoamjhngcgaaGreatDoor.Ev
open Go
variable {P : Program} {E : Env}

def CLe (s t : Callf) : Prop := ∀ f a h r, s f a h = some r → t f a h = some r
def SLe (s t : Self) : Prop := ∀ n c α h r, s n c α h = some r → t n c α h = some r

theorem evOp_mono {c d : Callf} (hc : CLe c d) {h : H} {α : Tr Value} {o : Oper} {r : Value × H} (hs : evOp P E c h α o = some r) : evOp P E d h α o = some r := by
  rw [evOp_eq] at hs ⊢
  unfold evOpS at hs ⊢
  split <;> first | exact hs | skip
  all_goals (rename_i ho; simp only [ho] at hs)
  all_goals first | exact hs | skip
  all_goals
    revert hs
    cases evs E h α _ with
    | none => exact id
    | some vs =>
      simp only
      split <;> first | exact id | skip
      split <;> first | exact id | exact hc _ _ _ _

theorem step1_mono {c d : Callf} (hc : CLe c d) {n : Nat} {ops : List Oper} {h : H} {α : Tr Value} {o : Oper} {r : Tr Value × H} (hs : step1 P E c n ops h α o = some r) : step1 P E d n ops h α o = some r := by
  unfold step1 at hs ⊢
  split
  · rename_i hw
    rw [hw] at hs
    simp only at hs
    split at hs
    · rename_i v h' hv
      rw [evOp_mono hc hv]; exact hs
    · cases hs
  · rename_i hw; rw [hw] at hs; exact hs
  · rename_i hw; rw [hw] at hs; cases hs

theorem evList_mono {c d : Callf} (hc : CLe c d) {n : Nat} {ops : List Oper} : ∀ {l : List Oper} {h : H} {α : Tr Value} {r : Tr Value × H}, evList P E c n ops l h α = some r → evList P E d n ops l h α = some r
  | [], _, _, _, hs => hs
  | o :: l, h, α, r, hs => by
    simp only [evList] at hs ⊢
    split at hs
    · rename_i α' h' hv
      rw [step1_mono hc hv]
      exact evList_mono hc hs
    · cases hs

theorem evQuiet_mono {c d : Callf} (hc : CLe c d) {n : Nat} {ops : List Oper} : ∀ {l : List Oper} {h : H} {α : Tr Value} {r : Tr Value × H}, evQuiet P E c n ops l h α = some r → evQuiet P E d n ops l h α = some r
  | [], _, _, _, hs => hs
  | o :: l, h, α, r, hs => by
    simp only [evQuiet] at hs ⊢
    split at hs
    · rename_i α' h' hv
      rw [step1_mono hc hv]
      simp only
      split at hs
      · rename_i hle
        rw [if_pos hle]
        exact evQuiet_mono hc hs
      · cases hs
    · cases hs

theorem fzMarks_mono {c d : Callf} (hc : CLe c d) {n : Nat} {ops : List Oper} : ∀ {l : List Oper} {h : H} {α : Tr Value} {r : Tr Value × H} (i : Nat), evQuiet P E c n ops l h α = some r → fzMarks P E c n ops l i h α = fzMarks P E d n ops l i h α
  | [], _, _, _, _, _ => rfl
  | o :: l, h, α, r, i, hs => by
    simp only [evQuiet] at hs
    simp only [fzMarks]
    split at hs
    · rename_i α' h' hv
      rw [step1_mono hc hv]
      simp only
      split at hs
      · rw [fzMarks_mono hc _ hs]
      · cases hs
    · cases hs
theorem fzOK_mono {c d : Callf} (hc : CLe c d) {n : Nat} {ops l : List Oper} {h h' : H} {α : Tr Value} {r : Tr Value × H} (hs : evQuiet P E c n ops l h α = some r) : fzOK P E c n ops l h α h' = fzOK P E d n ops l h α h' := by
  simp only [fzOK, fzMarks_mono hc _ hs]

theorem evPre_mono {c d : Callf} (hc : CLe c d) {n : Nat} {ops : List Oper} : ∀ {l : List Oper} {i : Nat} {h : H} {α : Tr Value} {x : Option (Nat × H × Oper)} {r : Tr Value × H × Option (Nat × H × Oper)}, evPre P E c n ops l i h α x = some r → evPre P E d n ops l i h α x = some r
  | [], _, _, _, _, _, hs => hs
  | o :: l, i, h, α, x, r, hs => by
    simp only [evPre, forceN_eq] at hs ⊢
    split at hs
    · rename_i α' h' hv
      rw [step1_mono hc hv]
      simp only
      split at hs
      · rename_i hle
        rw [if_pos hle]
        exact evPre_mono hc hs
      · rename_i hle
        rw [if_neg hle]
        split at hs
        · exact evPre_mono hc hs
        · cases hs
    · cases hs

theorem callWith_mono {s t : Self} (hs : SLe s t) : CLe (callWith E s) (callWith E t) := by
  intro f a h r hr
  unfold callWith at hr ⊢
  split
  · rename_i hk; rw [hk] at hr; exact hr
  rename_i hk
  rw [hk] at hr
  simp only at hr
  split
  · rename_i ho; rw [ho] at hr; exact hr
  rename_i ho
  rw [ho] at hr
  simp only at hr
  split
  · rename_i fn hfn
    rw [hfn] at hr
    simp only at hr
    split
    · rename_i c hb
      rw [hb] at hr
      simp only at hr
      split
      · rename_i hcond
        rw [if_pos hcond] at hr
        split at hr
        all_goals first | (rename_i hx; rw [hs _ _ _ _ _ hx]; exact hr) | cases hr
      · rename_i hcond
        rw [if_neg hcond] at hr; cases hr
    · rename_i hb; rw [hb] at hr; exact hr
  · rename_i hfn; rw [hfn] at hr; cases hr

theorem evRegion0_mono {s t : Self} (hs : SLe s t) {n : Nat} {ops : Array Oper} {draw : Bool} {α : Tr Value} {h : H} {r : Tr Value × H} (hr : evRegion0 P E s n ops draw α h = some r) : evRegion0 P E t n ops draw α h = some r := by
  have hc := callWith_mono (E := E) hs
  unfold evRegion0 at hr ⊢
  split
  · rename_i hd
    rw [if_pos hd] at hr
    simp only [forceN_eq] at hr ⊢
    split
    · rename_i hw
      rw [if_pos hw] at hr
      split
      · rename_i hk
        rw [if_pos hk] at hr
        split at hr
        · rename_i hq
          rw [evQuiet_mono hc hq]
          simp only
          rw [fzOK_mono hc hq] at hr
          split at hr
          · rename_i hl
            rw [if_pos hl]
            exact evList_mono hc hr
          · cases hr
        · cases hr
      · rename_i hk
        rw [if_neg hk] at hr; cases hr
    rename_i hw
    rw [if_neg hw] at hr
    split
    · rename_i hk
      rw [if_pos hk] at hr
      split at hr
      · rename_i d hq
        rw [evPre_mono hc hq]
        simp only
        have hpk : ∀ a b, preOK P E (callWith E s) n ops (sinkAt ops (ops.size - tailAt ops.toList) (tailAt ops.toList)) h α a b d = preOK P E (callWith E t) n ops (sinkAt ops (ops.size - tailAt ops.toList) (tailAt ops.toList)) h α a b d := fun a b => by
          cases d with
          | none => exact fzOK_mono hc (evPre_none hq)
          | some y => rfl
        rw [hpk] at hr
        split at hr
        · rename_i hl
          rw [if_pos hl]
          exact evList_mono hc hr
        · cases hr
      · cases hr
    · rename_i hk
      rw [if_neg hk] at hr; cases hr
  · rename_i hd
    rw [if_neg hd] at hr
    exact evList_mono hc hr

theorem evRegion_mono {s t : Self} (hs : SLe s t) {n : Nat} {ops : Array Oper} {draw : Bool} {α : Tr Value} {h : H} {r : Tr Value × H} (hr : evRegion P E s n ops draw α h = some r) : evRegion P E t n ops draw α h = some r := by
  cases draw with
  | false => exact evRegion0_mono hs hr
  | true => exact evRegion0_mono hs hr

/-- no block is kept beside what was appended to it -/
class NoFz (E : Env) : Prop where
  nil : E.fzl = []
theorem NoFz.frz {E : Env} [NoFz E] (b : Nat) : E.frz b = false := by simp [Env.frz, NoFz.nil (E := E)]
theorem NoFz.one {E : Env} [NoFz E] (n n' : Nat) : fzOne E n n' = true := by simp [fzOne, NoFz.nil (E := E)]
theorem NoFz.ok {P : Program} {E : Env} [NoFz E] (c : Callf) (n : Nat) (ops l : List Oper) (h : H) (α : Tr Value) (h' : H) : fzOK P E c n ops l h α h' = true := by simp only [fzOK, NoFz.one]
theorem NoFz.cut {E : Env} [NoFz E] (h : H) (α : Tr Value) (ops : List Oper) : fzCut E h α ops = h := by unfold fzCut; rw [NoFz.nil (E := E)]
theorem NoFz.grow {E : Env} [NoFz E] {h : H} {b : Nat} {whole : Bool} {cells : List Value} {es : Nat} : evGrow E h b whole cells es = match kill E h b with
    | some h1 => aNew h1 cells es
    | none => none := by
  unfold evGrow
  rw [NoFz.frz]
  cases kill E h b <;> rfl

theorem evLoop_mono {s t : Self} (hs : SLe s t) {n : Nat} {b : Code} : ∀ {k : Nat} {α : Tr Value} {h : H} {r : Ex × Tr Value × H}, evLoop s n b k α h = some r → evLoop t n b k α h = some r
  | 0, _, _, _, hr => by cases hr
  | k + 1, α, h, r, hr => by
    simp only [evLoop] at hr ⊢
    split at hr
    · rename_i hx
      rw [hs _ _ _ _ _ hx]
      exact evLoop_mono hs hr
    · rename_i x hne
      rw [hs _ _ _ _ _ hr]
      obtain ⟨e, α', h'⟩ := r
      cases e with
      | normal => exact absurd hr (hne _ _)
      | _ => rfl
theorem evLoop_more {s : Self} {n : Nat} {b : Code} : ∀ {k : Nat} {α : Tr Value} {h : H} {r : Ex × Tr Value × H}, evLoop s n b k α h = some r → evLoop s n b (k + 1) α h = some r
  | 0, _, _, _, hr => by cases hr
  | k + 1, α, h, r, hr => by
    rw [evLoop] at hr ⊢
    split at hr
    · rename_i hx
      exact evLoop_more hr
    · exact hr
theorem evLoop_le {s : Self} {n : Nat} {b : Code} {k k' : Nat} (hk : k ≤ k') {α : Tr Value} {h : H} {r : Ex × Tr Value × H} (hr : evLoop s n b k α h = some r) : evLoop s n b k' α h = some r := by
  induction hk with
  | refl => exact hr
  | step _ ih => exact evLoop_more ih

theorem evRounds_mono {s t : Self} (hs : SLe s t) {n p0 p1 : Nat} {assign body : Code} {α : Tr Value} {cap : List Value} : ∀ {k i : Nat} {h : H} {r : Ex × H}, evRounds s n p0 p1 assign body α cap k i h = some r → evRounds t n p0 p1 assign body α cap k i h = some r
  | 0, _, _, _, hr => hr
  | k + 1, i, h, r, hr => by
    simp only [evRounds, forceI_eq, Tr.force_eq, forceN_eq] at hr ⊢
    split at hr
    · split at hr
      · split at hr
        · rename_i hA
          rw [hs _ _ _ _ _ hA]
          simp only
          split at hr
          · rename_i hB
            rw [hs _ _ _ _ _ hB]
            exact evRounds_mono hs hr
          · rename_i e1 _ _ hne hB
            rw [hs _ _ _ _ _ hB]
            cases e1 with
            | normal => exact (hne rfl).elim
            | _ => exact hr
          · cases hr
        · cases hr
      · cases hr
    · cases hr
theorem evRange_mono {s t : Self} (hs : SLe s t) {n : Nat} {v : Option Value} {ps : List Tmp} {assign body : Code} {α : Tr Value} {h : H} {r : Ex × Tr Value × H} (hr : evRange E s n v ps assign body α h = some r) : evRange E t n v ps assign body α h = some r := by
  unfold evRange at hr ⊢
  split
  · simp only at hr
    split
    · rename_i h1 h2 h3
      rw [h1, h2, h3] at hr
      simp only at hr
      split
      · rename_i hlt
        rw [if_pos hlt] at hr
        split at hr
        · rename_i hx
          rw [evRounds_mono hs hx]; exact hr
        · cases hr
      · rename_i hlt
        rw [if_neg hlt] at hr; cases hr
    · rename_i h1
      split at hr
      · rename_i e1 e2 e3
        exact (h1 _ e1 e2 e3).elim
      · cases hr
  · rename_i h1
    split at hr
    · exact (h1 _ _ _ _ _ rfl rfl).elim
    · cases hr

theorem evStep_mono {s t : Self} (hs : SLe s t) : SLe (evStep P E s) (evStep P E t) := by
  intro n c α h r hr
  unfold evStep at hr ⊢
  split
  · exact hr
  · exact hr
  · simp only at hr
    split at hr
    · rename_i hx; rw [evRegion_mono hs hx]; exact hr
    · cases hr
  · simp only at hr
    split at hr
    · rename_i hx; rw [hs _ _ _ _ _ hx]; exact hs _ _ _ _ _ hr
    · rename_i x hne
      rw [hs _ _ _ _ _ hr]
      obtain ⟨e, α', h'⟩ := r
      cases e with
      | normal => exact absurd hr (hne _ _)
      | _ => rfl
  · simp only at hr
    split at hr
    · exact hs _ _ _ _ _ hr
    · exact hs _ _ _ _ _ hr
    · cases hr
  · simp only at hr
    split at hr
    · rename_i hx; rw [hs _ _ _ _ _ hx]; exact hr
    · rename_i x hne
      rw [hs _ _ _ _ _ hr]
      obtain ⟨e, α', h'⟩ := r
      cases e with
      | exit _ => exact absurd hr (hne _ _ _)
      | _ => rfl
  · exact evLoop_mono hs hr
  · exact hr
  · exact hr
  · exact evRange_mono hs hr
  · exact hs _ _ _ _ _ hr
  · simp only at hr; cases hr

theorem run_mono1 : ∀ f, SLe (run P E f) (run P E (f + 1))
  | 0 => fun n c α h r hr => by cases hr
  | f + 1 => evStep_mono (run_mono1 f)
theorem run_mono {f g : Nat} (h : f ≤ g) : SLe (run P E f) (run P E g) := by
  induction h with
  | refl => exact fun _ _ _ _ _ => id
  | step _ ih => exact fun n c α h r hr => run_mono1 _ _ _ _ _ _ (ih _ _ _ _ _ hr)
end Go.Proofs.YtngpoamjhngcgaaGreatDoor.Ev

/- Symbolic runs: what a run comes to, by equations that simp can use. Definitions and structure. -/
namespace Go.Proofs.YtngpoamjhngcgaaGreatDoor.Ev
open Go

/-- the call returns, and what it returns is so -/
def CallsE (P : Program) (E : Env) (f : FuncId) (args : List Value) (h : H) (Q : Value → H → Prop) : Prop :=
  ∃ F v h', callWith E (run P E F) f args h = some (v, h') ∧ Q v h'
def W (P : Program) (E : Env) (n : Nat) (c : Code) (α : Tr Value) (h : H) (Q : Ex → Tr Value → H → Prop) : Prop :=
  ∃ F e α' h', run P E F n c α h = some (e, α', h') ∧ Q e α' h'
def WL (P : Program) (E : Env) (n : Nat) (ops l : List Oper) (α : Tr Value) (h : H) (K : Tr Value → H → Prop) : Prop :=
  ∃ F α' h', evList P E (callWith E (run P E F)) n ops l h α = some (α', h') ∧ K α' h'
def WQ (P : Program) (E : Env) (n : Nat) (ops l : List Oper) (α : Tr Value) (h : H) (K : Tr Value → H → Prop) : Prop :=
  ∃ F α' h', evQuiet P E (callWith E (run P E F)) n ops l h α = some (α', h') ∧ K α' h'

/-- what is still to do, outside -/
inductive Frm where
  | seq (b : Code)
  | block (id : Nat)
  | inv (J : Tr Value → H → Prop)
  | round (J : H → Prop) (β : Tr Value)

structure Rt where
  rs : List ResultVar
  Q : Value → H → Prop

def RetO (Q : Value → H → Prop) (h : H) : Option (List Value) → Prop
  | some [v] => Q v h
  | some vs => Q (.tuple vs.toArray) h
  | none => False

def RetV (h : H) : Option (List Value) → Option (Value × H)
  | some [v] => some (v, h)
  | some vs => some (.tuple vs.toArray, h)
  | none => none

def cont (P : Program) (E : Env) (n : Nat) : List Frm → Ex → Tr Value → H → Rt → Prop
  | [], .exit _, _, _, _ => False
  | [], _, α, h, R => RetO R.Q h (resultsA E h α R.rs)
  | .seq b :: k, .normal, α, h, R => W P E n b α h fun e α' h' => cont P E n k e α' h' R
  | .seq _ :: k, e, α, h, R => cont P E n k e α h R
  | .block id :: k, .exit id', α, h, R => if id' = id then cont P E n k .normal α h R else cont P E n k (.exit id') α h R
  | .block _ :: k, e, α, h, R => cont P E n k e α h R
  | .inv J :: _, .normal, α, h, _ => J α h
  | .inv _ :: k, e, α, h, R => cont P E n k e α h R
  | .round J _ :: _, .normal, _, h, _ => J h
  | .round _ β :: k, e, _, h, R => cont P E n k e β h R

def WK (P : Program) (E : Env) (n : Nat) (c : Code) (k : List Frm) (α : Tr Value) (h : H) (R : Rt) : Prop :=
  W P E n c α h fun e α' h' => cont P E n k e α' h' R

def CondO (P : Program) (E : Env) (n : Nat) (a b : Code) (k : List Frm) (α : Tr Value) (h : H) (R : Rt) : Option Value → Prop
  | some (.bool true) => WK P E n a k α h R
  | some (.bool false) => WK P E n b k α h R
  | _ => False

/-- operations: 'q': in the first part of a region that draws -/
def At (P : Program) (E : Env) (n : Nat) (ops : List Oper) (q : Bool) (r t : List Oper) (k : List Frm) (α : Tr Value) (h : H) (R : Rt) : Prop :=
  match q with
  | false => WL P E n ops r α h fun α' h' => cont P E n k .normal α' h' R
  | true => WQ P E n ops r α h fun α' h' => WL P E n ops t α' h' fun α' h' => cont P E n k .normal α' h' R

def st (q : Bool) (h : H) : H := match q with
  | true => { blks := h.blks, next := h.next, wm := h.next }
  | false => h
def fin (q : Bool) (h h' : H) : H := match q with
  | true => { blks := h'.blks, next := h'.next, wm := h.wm }
  | false => h'

def PutO (P : Program) (E : Env) (n : Nat) (ops : List Oper) (q : Bool) (r t : List Oper) (k : List Frm) (α : Tr Value) (h : H) (R : Rt) (d : Option Tmp) : Option Value → Prop
  | some v => match put n α d v with
    | some α' => At P E n ops q r t k α' h R
    | none => False
  | none => False

def HeapO (P : Program) (E : Env) (n : Nat) (ops : List Oper) (q : Bool) (r t : List Oper) (k : List Frm) (α : Tr Value) (h : H) (R : Rt) (d : Option Tmp) : Option (Value × H) → Prop
  | some (v, h') => (q = true → h.next ≤ h'.wm) ∧ PutO P E n ops q r t k α (fin q h h') R d (some v)
  | none => False

def CallO (P : Program) (E : Env) (n : Nat) (ops : List Oper) (q : Bool) (r t : List Oper) (k : List Frm) (α : Tr Value) (h : H) (R : Rt) (d : Option Tmp) (g : Option Value) (args : Option (List Value)) : Prop :=
  match g, args with
  | some (.func (.func g) first captured), some vs => CallsE P E g (first.toList ++ vs ++ captured.toList) (st q h) fun v h' => HeapO P E n ops q r t k α h R d (some (v, h'))
  | _, _ => False

noncomputable def guardV (ops : List Oper) (α : Tr Value) (j : Nat) : Option Value := match nth ops j with
  | some oj => match oj.dst with
    | some d => α.get d
    | none => none
  | none => none

def GuardO (P : Program) (E : Env) (n : Nat) (ops : List Oper) (q : Bool) (o : Oper) (r t : List Oper) (k : List Frm) (α : Tr Value) (h : H) (R : Rt) (want : Bool) : Option Value → Prop
  | some (.bool b) => if b = want then At P E n ops q ({ o with guard := none } :: r) t k α h R else PutO P E n ops q r t k α h R o.dst (some undef)
  | some (.tuple _) => PutO P E n ops q r t k α h R o.dst (some undef)
  | _ => False

def nocall : Callf := fun _ _ _ => none

variable {P : Program} {E : Env}

theorem CallsE.mono {f : FuncId} {args : List Value} {h : H} {Q Q' : Value → H → Prop} (hc : CallsE P E f args h Q) (hq : ∀ v h', Q v h' → Q' v h') : CallsE P E f args h Q' := by
  obtain ⟨F, v, h', h1, h2⟩ := hc
  exact ⟨F, v, h', h1, hq _ _ h2⟩
theorem W.mono {n : Nat} {c : Code} {α : Tr Value} {h : H} {Q Q' : Ex → Tr Value → H → Prop} (hc : W P E n c α h Q) (hq : ∀ e α' h', Q e α' h' → Q' e α' h') : W P E n c α h Q' := by
  obtain ⟨F, e, α', h', h1, h2⟩ := hc
  exact ⟨F, e, α', h', h1, hq _ _ _ h2⟩

/- ### code -/
theorem W_skip {n : Nat} {α : Tr Value} {h : H} {Q : Ex → Tr Value → H → Prop} : W P E n .skip α h Q ↔ Q .normal α h := by
  constructor
  · rintro ⟨F, e, α', h', h1, h2⟩
    cases F with
    | zero => cases h1
    | succ F =>
      have h1' : some (Ex.normal, α, h) = some (e, α', h') := h1
      cases h1'; exact h2
  · intro hq; exact ⟨1, _, _, _, rfl, hq⟩
theorem W_label {n l : Nat} {α : Tr Value} {h : H} {Q : Ex → Tr Value → H → Prop} : W P E n (.label l) α h Q ↔ Q .normal α h := by
  constructor
  · rintro ⟨F, e, α', h', h1, h2⟩
    cases F with
    | zero => cases h1
    | succ F =>
      have h1' : some (Ex.normal, α, h) = some (e, α', h') := h1
      cases h1'; exact h2
  · intro hq; exact ⟨1, _, _, _, rfl, hq⟩
theorem W_exit {n id : Nat} {α : Tr Value} {h : H} {Q : Ex → Tr Value → H → Prop} : W P E n (.exit id) α h Q ↔ Q (.exit id) α h := by
  constructor
  · rintro ⟨F, e, α', h', h1, h2⟩
    cases F with
    | zero => cases h1
    | succ F =>
      have h1' : some (Ex.exit id, α, h) = some (e, α', h') := h1
      cases h1'; exact h2
  · intro hq; exact ⟨1, _, _, _, rfl, hq⟩
theorem W_ret {n : Nat} {α : Tr Value} {h : H} {Q : Ex → Tr Value → H → Prop} : W P E n .ret α h Q ↔ Q .ret α h := by
  constructor
  · rintro ⟨F, e, α', h', h1, h2⟩
    cases F with
    | zero => cases h1
    | succ F =>
      have h1' : some (Ex.ret, α, h) = some (e, α', h') := h1
      cases h1'; exact h2
  · intro hq; exact ⟨1, _, _, _, rfl, hq⟩

theorem W_seq {n : Nat} {a b : Code} {α : Tr Value} {h : H} {Q : Ex → Tr Value → H → Prop} :
    W P E n (.seq a b) α h Q ↔ W P E n a α h fun e α' h' => match e with
      | .normal => W P E n b α' h' Q
      | e => Q e α' h' := by
  constructor
  · rintro ⟨F, e, α', h', h1, h2⟩
    cases F with
    | zero => cases h1
    | succ F =>
      have h1' : (match run P E F n a α h with
        | some (.normal, α', h') => run P E F n b α' h'
        | r => r) = some (e, α', h') := h1
      split at h1'
      · rename_i α1 hh hx
        exact ⟨F, _, _, _, hx, F, _, _, _, h1', h2⟩
      · rename_i x hne
        refine ⟨F, _, _, _, h1', ?_⟩
        cases e with
        | normal => exact absurd h1' (hne _ _)
        | _ => exact h2
  · rintro ⟨F, e, α', h', h1, h2⟩
    cases e with
    | normal =>
      obtain ⟨F2, e2, α2, h2', h3, h4⟩ := h2
      refine ⟨max F F2 + 1, e2, α2, h2', ?_, h4⟩
      show (match run P E (max F F2) n a α h with
        | some (.normal, α', h') => run P E (max F F2) n b α' h'
        | r => r) = _
      rw [run_mono (Nat.le_max_left F F2) _ _ _ _ _ h1]
      exact run_mono (Nat.le_max_right F F2) _ _ _ _ _ h3
    | exit id =>
      refine ⟨F + 1, _, _, _, ?_, h2⟩
      show (match run P E F n a α h with
        | some (.normal, α', h') => run P E F n b α' h'
        | r => r) = _
      rw [h1]
    | ret =>
      refine ⟨F + 1, _, _, _, ?_, h2⟩
      show (match run P E F n a α h with
        | some (.normal, α', h') => run P E F n b α' h'
        | r => r) = _
      rw [h1]

theorem W_cond {n : Nat} {c : Operand} {a b : Code} {α : Tr Value} {h : H} {Q : Ex → Tr Value → H → Prop} :
    W P E n (.cond c a b) α h Q ↔ match ev E h α c with
      | some (.bool true) => W P E n a α h Q
      | some (.bool false) => W P E n b α h Q
      | _ => False := by
  constructor
  · rintro ⟨F, e, α', h', h1, h2⟩
    cases F with
    | zero => cases h1
    | succ F =>
      have h1' : (match ev E h α c with
        | some (.bool true) => run P E F n a α h
        | some (.bool false) => run P E F n b α h
        | _ => none) = some (e, α', h') := h1
      split at h1'
      · exact ⟨F, _, _, _, h1', h2⟩
      · exact ⟨F, _, _, _, h1', h2⟩
      · cases h1'
  · intro hq
    split at hq
    · rename_i hx
      obtain ⟨F, e, α', h', h1, h2⟩ := hq
      refine ⟨F + 1, e, α', h', ?_, h2⟩
      show (match ev E h α c with
        | some (.bool true) => run P E F n a α h
        | some (.bool false) => run P E F n b α h
        | _ => none) = _
      rw [hx]; exact h1
    · rename_i hx
      obtain ⟨F, e, α', h', h1, h2⟩ := hq
      refine ⟨F + 1, e, α', h', ?_, h2⟩
      show (match ev E h α c with
        | some (.bool true) => run P E F n a α h
        | some (.bool false) => run P E F n b α h
        | _ => none) = _
      rw [hx]; exact h1
    · exact hq.elim

theorem W_block {n id : Nat} {b : Code} {α : Tr Value} {h : H} {Q : Ex → Tr Value → H → Prop} :
    W P E n (.block id b) α h Q ↔ W P E n b α h fun e α' h' => match e with
      | .exit id' => if id' = id then Q .normal α' h' else Q (.exit id') α' h'
      | e => Q e α' h' := by
  constructor
  · rintro ⟨F, e, α', h', h1, h2⟩
    cases F with
    | zero => cases h1
    | succ F =>
      have h1' : (match run P E F n b α h with
        | some (.exit id', α', h') => if id' = id then some (Ex.normal, α', h') else some (Ex.exit id', α', h')
        | r => r) = some (e, α', h') := h1
      split at h1'
      · rename_i id' α1 hh hx
        refine ⟨F, _, _, _, hx, ?_⟩
        simp only
        split at h1' <;> rename_i hid
        · cases h1'; rw [if_pos hid]; exact h2
        · cases h1'; rw [if_neg hid]; exact h2
      · rename_i x hne
        refine ⟨F, _, _, _, h1', ?_⟩
        cases e with
        | exit _ => exact absurd h1' (hne _ _ _)
        | _ => exact h2
  · rintro ⟨F, e, α', h', h1, h2⟩
    have hs : ∀ r, run P E (F + 1) n (.block id b) α h = r ↔ (match run P E F n b α h with
        | some (.exit id', α', h') => if id' = id then some (Ex.normal, α', h') else some (Ex.exit id', α', h')
        | r => r) = r := fun r => Iff.rfl
    cases e with
    | exit id' =>
      simp only at h2
      split at h2 <;> rename_i hid
      · exact ⟨F + 1, _, _, _, by rw [hs, h1]; simp only; rw [if_pos hid], h2⟩
      · exact ⟨F + 1, _, _, _, by rw [hs, h1]; simp only; rw [if_neg hid], h2⟩
    | normal => exact ⟨F + 1, _, _, _, by rw [hs, h1], h2⟩
    | ret => exact ⟨F + 1, _, _, _, by rw [hs, h1], h2⟩

theorem W_scope {n : Nat} {c : Code} {α : Tr Value} {h : H} {Q : Ex → Tr Value → H → Prop} : W P E n (.scope c) α h Q ↔ W P E n c α h Q := by
  constructor
  · rintro ⟨F, e, α', h', h1, h2⟩
    cases F with
    | zero => cases h1
    | succ F => exact ⟨F, _, _, _, h1, h2⟩
  · rintro ⟨F, e, α', h', h1, h2⟩
    exact ⟨F + 1, _, _, _, h1, h2⟩
theorem W_congr {n : Nat} {c : Code} {α : Tr Value} {h : H} {Q Q' : Ex → Tr Value → H → Prop} (hq : ∀ e α' h', Q e α' h' ↔ Q' e α' h') : W P E n c α h Q ↔ W P E n c α h Q' :=
  ⟨fun x => x.mono fun _ _ _ => (hq _ _ _).1, fun x => x.mono fun _ _ _ => (hq _ _ _).2⟩

section
variable {n : Nat} {k : List Frm} {α : Tr Value} {h : H} {R : Rt}
theorem WK_seq {a b : Code} : WK P E n (.seq a b) k α h R ↔ WK P E n a (.seq b :: k) α h R := by
  unfold WK
  rw [W_seq]
  exact W_congr fun e _ _ => by cases e <;> rfl
theorem WK_block {id : Nat} {b : Code} : WK P E n (.block id b) k α h R ↔ WK P E n b (.block id :: k) α h R := by
  unfold WK
  rw [W_block]
  exact W_congr fun e _ _ => by cases e <;> rfl
theorem WK_cond {c : Operand} {a b : Code} : WK P E n (.cond c a b) k α h R ↔ CondO P E n a b k α h R (ev E h α c) := by
  unfold WK
  rw [W_cond]
  rfl
theorem WK_skip : WK P E n .skip k α h R ↔ cont P E n k .normal α h R := by unfold WK; rw [W_skip]
theorem WK_label {l : Nat} : WK P E n (.label l) k α h R ↔ cont P E n k .normal α h R := by unfold WK; rw [W_label]
theorem WK_scope {c : Code} : WK P E n (.scope c) k α h R ↔ WK P E n c k α h R := by unfold WK; exact W_scope
theorem WK_exit {id : Nat} : WK P E n (.exit id) k α h R ↔ cont P E n k (.exit id) α h R := by unfold WK; rw [W_exit]
theorem WK_ret : WK P E n .ret k α h R ↔ cont P E n k .ret α h R := by unfold WK; rw [W_ret]

theorem cont_seq {b : Code} : cont P E n (.seq b :: k) .normal α h R ↔ WK P E n b k α h R := Iff.rfl
theorem cont_seqE {b : Code} {id : Nat} : cont P E n (.seq b :: k) (.exit id) α h R ↔ cont P E n k (.exit id) α h R := Iff.rfl
theorem cont_seqR {b : Code} : cont P E n (.seq b :: k) .ret α h R ↔ cont P E n k .ret α h R := Iff.rfl
theorem cont_block {id : Nat} : cont P E n (.block id :: k) .normal α h R ↔ cont P E n k .normal α h R := Iff.rfl
theorem cont_blockE {id id' : Nat} : cont P E n (.block id :: k) (.exit id') α h R ↔ if id' = id then cont P E n k .normal α h R else cont P E n k (.exit id') α h R := Iff.rfl
theorem cont_blockR {id : Nat} : cont P E n (.block id :: k) .ret α h R ↔ cont P E n k .ret α h R := Iff.rfl
theorem cont_inv {J : Tr Value → H → Prop} : cont P E n (.inv J :: k) .normal α h R ↔ J α h := Iff.rfl
theorem cont_invE {J : Tr Value → H → Prop} {id : Nat} : cont P E n (.inv J :: k) (.exit id) α h R ↔ cont P E n k (.exit id) α h R := Iff.rfl
theorem cont_invR {J : Tr Value → H → Prop} : cont P E n (.inv J :: k) .ret α h R ↔ cont P E n k .ret α h R := Iff.rfl
theorem cont_round {J : H → Prop} {β : Tr Value} : cont P E n (.round J β :: k) .normal α h R ↔ J h := Iff.rfl
theorem cont_roundE {J : H → Prop} {β : Tr Value} {id : Nat} : cont P E n (.round J β :: k) (.exit id) α h R ↔ cont P E n k (.exit id) β h R := Iff.rfl
theorem cont_roundR {J : H → Prop} {β : Tr Value} : cont P E n (.round J β :: k) .ret α h R ↔ cont P E n k .ret β h R := Iff.rfl
theorem cont_nil : cont P E n [] .normal α h R ↔ RetO R.Q h (resultsA E h α R.rs) := Iff.rfl
theorem cont_nilR : cont P E n [] .ret α h R ↔ RetO R.Q h (resultsA E h α R.rs) := Iff.rfl

theorem Cond_true {a b : Code} : CondO P E n a b k α h R (some (.bool true)) ↔ WK P E n a k α h R := Iff.rfl
theorem Cond_false {a b : Code} : CondO P E n a b k α h R (some (.bool false)) ↔ WK P E n b k α h R := Iff.rfl
end

/- ### lists of operations -/
theorem CLe_run {F G : Nat} (h : F ≤ G) : CLe (callWith E (run P E F)) (callWith E (run P E G)) := callWith_mono (run_mono h)

def isCall : Op → Bool
  | .call c => match c.callee with
    | .value _ => true
    | _ => false
  | _ => false
theorem evOp_nocall {o : Oper} (ho : isCall o.op = false) (c d : Callf) (h : H) (α : Tr Value) : evOp P E c h α o = evOp P E d h α o := by
  rw [evOp_eq, evOp_eq]
  unfold evOpS
  split <;> first | rfl | skip
  rename_i cl hop
  rw [hop] at ho
  simp only [isCall] at ho
  split
  · rfl
  · split <;> first | rfl | skip
    rename_i f hcal
    rw [hcal] at ho
    cases ho

section
variable {n : Nat} {ops : List Oper} {q : Bool} {r t : List Oper} {k : List Frm} {α : Tr Value} {h : H} {R : Rt}

theorem WL_nil {K : Tr Value → H → Prop} : WL P E n ops [] α h K ↔ K α h :=
  ⟨fun ⟨_, _, _, h1, h2⟩ => by cases h1; exact h2, fun hk => ⟨0, _, _, rfl, hk⟩⟩
theorem WQ_nil {K : Tr Value → H → Prop} : WQ P E n ops [] α h K ↔ K α h :=
  ⟨fun ⟨_, _, _, h1, h2⟩ => by cases h1; exact h2, fun hk => ⟨0, _, _, rfl, hk⟩⟩

theorem WL_step {o : Oper} {K : Tr Value → H → Prop} {F0 : Nat} {α' : Tr Value} {h' : H} (hs : step1 P E (callWith E (run P E F0)) n ops h α o = some (α', h')) (hk : WL P E n ops r α' h' K) : WL P E n ops (o :: r) α h K := by
  obtain ⟨F, α2, h2, h3, h4⟩ := hk
  refine ⟨max F0 F, α2, h2, ?_, h4⟩
  rw [evList, step1_mono (CLe_run (Nat.le_max_left F0 F)) hs]
  exact evList_mono (CLe_run (Nat.le_max_right F0 F)) h3
theorem WL_un {o : Oper} {K : Tr Value → H → Prop} (hw : WL P E n ops (o :: r) α h K) : ∃ F0 α' h', step1 P E (callWith E (run P E F0)) n ops h α o = some (α', h') ∧ WL P E n ops r α' h' K := by
  obtain ⟨F, α2, h2, h3, h4⟩ := hw
  rw [evList] at h3
  split at h3
  · rename_i α' h' hs
    exact ⟨F, α', h', hs, F, α2, h2, h3, h4⟩
  · cases h3
theorem WQ_step {o : Oper} {K : Tr Value → H → Prop} {F0 : Nat} {α' : Tr Value} {h' : H} (hs : step1 P E (callWith E (run P E F0)) n ops (st true h) α o = some (α', h')) (hle : h.next ≤ h'.wm) (hk : WQ P E n ops r α' (fin true h h') K) : WQ P E n ops (o :: r) α h K := by
  obtain ⟨F, α2, h2, h3, h4⟩ := hk
  refine ⟨max F0 F, α2, h2, ?_, h4⟩
  rw [evQuiet]
  have := step1_mono (CLe_run (Nat.le_max_left F0 F)) hs
  simp only [st] at this
  rw [this]
  simp only
  rw [if_pos hle]
  exact evQuiet_mono (CLe_run (Nat.le_max_right F0 F)) h3
theorem WQ_un {o : Oper} {K : Tr Value → H → Prop} (hw : WQ P E n ops (o :: r) α h K) : ∃ F0 α' h', step1 P E (callWith E (run P E F0)) n ops (st true h) α o = some (α', h') ∧ h.next ≤ h'.wm ∧ WQ P E n ops r α' (fin true h h') K := by
  obtain ⟨F, α2, h2, h3, h4⟩ := hw
  rw [evQuiet] at h3
  split at h3
  · rename_i α' h' hs
    split at h3
    · rename_i hle
      exact ⟨F, α', h', hs, hle, F, α2, h2, h3, h4⟩
    · cases h3
  · cases h3

theorem At_step {o : Oper} {F0 : Nat} {α' : Tr Value} {h' : H} (hs : step1 P E (callWith E (run P E F0)) n ops (st q h) α o = some (α', h')) (hle : q = true → h.next ≤ h'.wm) (hk : At P E n ops q r t k α' (fin q h h') R) :
    At P E n ops q (o :: r) t k α h R := by
  cases q with
  | false => exact WL_step hs hk
  | true => exact WQ_step hs (hle rfl) hk
theorem At_un {o : Oper} (hw : At P E n ops q (o :: r) t k α h R) : ∃ F0 α' h', step1 P E (callWith E (run P E F0)) n ops (st q h) α o = some (α', h') ∧ (q = true → h.next ≤ h'.wm) ∧ At P E n ops q r t k α' (fin q h h') R := by
  cases q with
  | false =>
    obtain ⟨F0, α', h', h1, h2⟩ := WL_un hw
    exact ⟨F0, α', h', h1, fun e => (by cases e), h2⟩
  | true =>
    obtain ⟨F0, α', h', h1, h2, h3⟩ := WQ_un hw
    exact ⟨F0, α', h', h1, fun _ => h2, h3⟩

theorem At_nilF : At P E n ops false [] t k α h R ↔ cont P E n k .normal α h R := WL_nil
theorem At_nilT : At P E n ops true [] t k α h R ↔ At P E n ops false t [] k α h R := WQ_nil

theorem step1_none {c : Callf} {o : Oper} {h : H} (hg : o.guard = none) : step1 P E c n ops h α o = match evOp P E c h α o with
    | some (v, h') => match put n α o.dst v with
      | some α' => some (α', h')
      | none => none
    | none => none := by
  have hw : wantedA ops α o = some true := by unfold wantedA; rw [hg]
  unfold step1
  rw [hw]
  rfl

/-- an operation that calls nothing -/
theorem At_heap {o : Oper} (hg : o.guard = none) (ho : isCall o.op = false) : At P E n ops q (o :: r) t k α h R ↔ HeapO P E n ops q r t k α h R o.dst (evOp P E nocall (st q h) α o) := by
  constructor
  · intro hw
    obtain ⟨F0, α', h', h1, h2, h3⟩ := At_un hw
    rw [step1_none hg, evOp_nocall ho _ nocall] at h1
    split at h1
    · rename_i v h'' hv
      split at h1
      · rename_i α1 hp
        simp only [Option.some.injEq, Prod.mk.injEq] at h1
        obtain ⟨rfl, rfl⟩ := h1
        rw [hv]
        exact ⟨h2, by unfold PutO; simp only [hp]; exact h3⟩
      · cases h1
    · cases h1
  · intro hw
    cases hv : evOp P E nocall (st q h) α o with
    | none => rw [hv] at hw; exact hw.elim
    | some x =>
      obtain ⟨v, h'⟩ := x
      rw [hv] at hw
      obtain ⟨h2, h3⟩ := hw
      unfold PutO at h3
      simp only at h3
      split at h3
      · rename_i α1 hp
        refine At_step (F0 := 0) (α' := α1) (h' := h') ?_ h2 h3
        rw [step1_none hg, evOp_nocall ho _ nocall, hv]
        simp only [hp]
      · exact h3.elim

theorem fin_st : fin q h (st q h) = h := by cases q <;> rfl
theorem st_wm (hq : q = true) : h.next ≤ (st q h).wm := by subst hq; exact Nat.le_refl _

/-- an operation that leaves memory alone -/
theorem At_pure {o : Oper} (hg : o.guard = none) (ho : isCall o.op = false) {v : Option Value} (hv : ∀ h1 : H, h1.blks = h.blks → evOp P E nocall h1 α o = asV h1 v) : At P E n ops q (o :: r) t k α h R ↔ PutO P E n ops q r t k α h R o.dst v := by
  rw [At_heap hg ho, hv (st q h) (by cases q <;> rfl)]
  cases v with
  | none => exact Iff.rfl
  | some v =>
    show ((q = true → h.next ≤ (st q h).wm) ∧ PutO P E n ops q r t k α (fin q h (st q h)) R o.dst (some v)) ↔ _
    rw [fin_st]
    exact ⟨fun x => x.2, fun x => ⟨fun hq => st_wm hq, x⟩⟩

theorem wanted_guard {d : Option Tmp} {op : Op} {ty : TypeId} {pos : String} {af : Array Edge} {j : Nat} {want : Bool} : wantedA ops α ⟨d, op, ty, pos, af, some (j, want)⟩ = match guardV ops α j with
    | some (.bool b) => some (b == want)
    | some (.tuple _) => some false
    | _ => none := by
  unfold wantedA guardV
  simp only
  cases nth ops j with
  | none => rfl
  | some oj =>
    simp only
    cases oj.dst with
    | none => rfl
    | some dd => rfl
theorem step1_guard {c : Callf} {h : H} {d : Option Tmp} {op : Op} {ty : TypeId} {pos : String} {af : Array Edge} {j : Nat} {want : Bool} : step1 P E c n ops h α ⟨d, op, ty, pos, af, some (j, want)⟩ = match guardV ops α j with
      | some (.bool b) => if b = want then step1 P E c n ops h α ⟨d, op, ty, pos, af, none⟩ else (match put n α d undef with
        | some α' => some (α', h)
        | none => none)
      | some (.tuple _) => (match put n α d undef with
        | some α' => some (α', h)
        | none => none)
      | _ => none := by
  have hev : evOp P E c h α ⟨d, op, ty, pos, af, some (j, want)⟩ = evOp P E c h α ⟨d, op, ty, pos, af, none⟩ := by
    rw [evOp_eq, evOp_eq]
    cases op <;> rfl
  rw [show step1 P E c n ops h α ⟨d, op, ty, pos, af, none⟩ = _ from step1_none rfl]
  unfold step1
  rw [wanted_guard, hev]
  cases guardV ops α j with
  | none => rfl
  | some v =>
    cases v <;> first | rfl | skip
    rename_i b
    simp only
    cases b <;> cases want <;> rfl

theorem At_guard {d : Option Tmp} {op : Op} {ty : TypeId} {pos : String} {af : Array Edge} {j : Nat} {want : Bool} :
    At P E n ops q (⟨d, op, ty, pos, af, some (j, want)⟩ :: r) t k α h R ↔ GuardO P E n ops q ⟨d, op, ty, pos, af, none⟩ r t k α h R want (guardV ops α j) := by
  have hst : ∀ (c : Callf) (h : H), step1 P E c n ops h α ⟨d, op, ty, pos, af, some (j, want)⟩ = match guardV ops α j with
      | some (.bool b) => if b = want then step1 P E c n ops h α ⟨d, op, ty, pos, af, none⟩ else (match put n α d undef with
        | some α' => some (α', h)
        | none => none)
      | some (.tuple _) => (match put n α d undef with
        | some α' => some (α', h)
        | none => none)
      | _ => none := fun c h => step1_guard
  constructor
  · intro hw
    obtain ⟨F0, α', h', h1, h2, h3⟩ := At_un hw
    rw [hst] at h1
    cases hgv : guardV ops α j with
    | none => rw [hgv] at h1; cases h1
    | some v =>
      rw [hgv] at h1
      cases v <;> first | (cases h1; done) | skip
      case tuple vs =>
        simp only [GuardO] at h1 ⊢
        split at h1
        · rename_i α1 hp
          simp only [Option.some.injEq, Prod.mk.injEq] at h1
          obtain ⟨rfl, rfl⟩ := h1
          unfold PutO
          simp only [hp]
          rw [fin_st] at h3
          exact h3
        · cases h1
      rename_i b
      simp only [GuardO] at h1 ⊢
      split at h1
      · rename_i hbw
        rw [if_pos hbw]
        exact At_step h1 h2 h3
      · rename_i hbw
        rw [if_neg hbw]
        split at h1
        · rename_i α1 hp
          simp only [Option.some.injEq, Prod.mk.injEq] at h1
          obtain ⟨rfl, rfl⟩ := h1
          unfold PutO
          simp only [hp]
          rw [fin_st] at h3
          exact h3
        · cases h1
  · intro hw
    unfold GuardO at hw
    split at hw
    · rename_i b hb
      split at hw
      · rename_i hbw
        obtain ⟨F0, α', h', h1, h2, h3⟩ := At_un hw
        refine At_step (F0 := F0) (α' := α') (h' := h') ?_ h2 h3
        rw [hst, hb]
        simp only
        rw [if_pos hbw]; exact h1
      · rename_i hbw
        unfold PutO at hw
        simp only at hw
        split at hw
        · rename_i α1 hp
          refine At_step (F0 := 0) (α' := α1) (h' := st q h) ?_ (fun hq => st_wm hq) (by rw [fin_st]; exact hw)
          rw [hst, hb]
          simp only
          rw [if_neg hbw, hp]
        · exact hw.elim
    · rename_i vs hb
      unfold PutO at hw
      simp only at hw
      split at hw
      · rename_i α1 hp
        refine At_step (F0 := 0) (α' := α1) (h' := st q h) ?_ (fun hq => st_wm hq) (by rw [fin_st]; exact hw)
        rw [hst, hb]
        simp only
        rw [hp]
      · exact hw.elim
    · exact hw.elim

/-- a call of a function -/
theorem At_call {d : Option Tmp} {f : Operand} {args : Array Operand} {ats : Array TypeId} {ty : TypeId} {pos : String} {af : Array Edge} :
    At P E n ops q (⟨d, .call ⟨.value f, args, ats⟩, ty, pos, af, none⟩ :: r) t k α h R ↔ CallO P E n ops q r t k α h R d (ev E h α f) (evs E h α args.toList) := by
  have hev : ∀ x, ev E (st q h) α x = ev E h α x := fun x => by cases q <;> rfl
  have hevs : ∀ l, evs E (st q h) α l = evs E h α l := fun l => by
    induction l with
    | nil => rfl
    | cons x l ih => simp only [evs, hev, ih]
  have hop : ∀ c : Callf, evOp P E c (st q h) α ⟨d, .call ⟨.value f, args, ats⟩, ty, pos, af, none⟩ = match evs E h α args.toList with
      | none => none
      | some vs => match ev E h α f with
        | some (.func (.func g) first captured) => c g (first.toList ++ vs ++ captured.toList) (st q h)
        | _ => none := fun c => by
    rw [evOp_eq]
    show (match evs E (st q h) α args.toList with
      | none => none
      | some vs => match ev E (st q h) α f with
        | some (.func (.func g) first captured) => c g (first.toList ++ vs ++ captured.toList) (st q h)
        | _ => none) = _
    rw [hev, hevs]
  unfold CallO
  constructor
  · intro hw
    obtain ⟨F0, α', h', h1, h2, h3⟩ := At_un hw
    rw [step1_none rfl, hop] at h1
    cases hvs : evs E h α args.toList with
    | none => rw [hvs] at h1; cases h1
    | some vs =>
      rw [hvs] at h1
      simp only at h1
      split at h1
      · rename_i v h'' hv
        split at hv
        · rename_i g first captured hf
          rw [hf]
          simp only
          refine ⟨F0, v, h'', hv, ?_⟩
          split at h1
          · rename_i α1 hp
            simp only [Option.some.injEq, Prod.mk.injEq] at h1
            obtain ⟨rfl, rfl⟩ := h1
            exact ⟨h2, by unfold PutO; simp only [hp]; exact h3⟩
          · cases h1
        · cases hv
      · cases h1
  · intro hw
    split at hw
    · rename_i x y g first captured vs hf hvs
      obtain ⟨F0, v, h', h1, h2, h3⟩ := hw
      unfold PutO at h3
      simp only at h3
      split at h3
      · rename_i α1 hp
        refine At_step (F0 := F0) (α' := α1) (h' := h') ?_ h2 h3
        rw [step1_none rfl, hop, hvs, hf]
        simp only
        rw [h1]
        simp only
        rw [hp]
      · exact h3.elim
    · exact hw.elim
end

/- ### regions -/
section
variable {n : Nat} {k : List Frm} {α : Tr Value} {h : H} {R : Rt}
theorem WK_regionF {id : Nat} {ops : Array Oper} : WK P E n (.region id ops false) k α h R ↔ At P E n ops.toList false ops.toList [] k α h R := by
  constructor
  · rintro ⟨F, e, α', h', h1, h2⟩
    cases F with
    | zero => cases h1
    | succ F =>
      have h1' : (match evList P E (callWith E (run P E F)) n ops.toList ops.toList h α with
        | some (α', h') => some (Ex.normal, α', h')
        | none => none) = some (e, α', h') := h1
      split at h1'
      · rename_i α1 hh hx
        simp only [Option.some.injEq, Prod.mk.injEq] at h1'
        obtain ⟨rfl, rfl, rfl⟩ := h1'
        exact ⟨F, _, _, hx, h2⟩
      · cases h1'
  · rintro ⟨F, α', h', h1, h2⟩
    refine ⟨F + 1, .normal, α', h', ?_, h2⟩
    show (match evList P E (callWith E (run P E F)) n ops.toList ops.toList h α with
        | some (α', h') => some (Ex.normal, α', h')
        | none => none) = _
    rw [h1]

/-- where the first part of a region that draws ends -/
def cutAt (ops : Array Oper) : Nat := sinkAt ops (ops.size - tailAt ops.toList) (tailAt ops.toList)

theorem WK_regionT [NoFz E] {id : Nat} {ops : Array Oper} (m : Nat) (hm : cutAt ops = m ∧ wAt ops m = false ∧ regOk ops m = true) (hk : At P E n ops.toList true (ops.toList.take m) (ops.toList.drop m) k α h R) : WK P E n (.region id ops true) k α h R := by
  obtain ⟨F, α1, h1, hq, F2, α2, h2, hl, hc⟩ := hk
  refine ⟨max F F2 + 1, .normal, α2, h2, ?_, hc⟩
  have hreg : evRegion P E (run P E (max F F2)) n ops true α h = some (α2, h2) := by
    show evRegion0 P E (run P E (max F F2)) n ops true α (fzCut E h α ops.toList) = _
    unfold evRegion0
    simp only [forceN_eq, if_true, NoFz.cut]
    have e : sinkAt ops (ops.size - tailAt ops.toList) (tailAt ops.toList) = m := hm.1
    rw [e, if_neg (by rw [hm.2.1]; exact Bool.false_ne_true), if_pos hm.2.2, evPre_of_quiet (evQuiet_mono (CLe_run (Nat.le_max_left F F2)) hq)]
    simp only [preOK, NoFz.ok, if_true]
    exact evList_mono (CLe_run (Nat.le_max_right F F2)) hl
  show (match evRegion P E (run P E (max F F2)) n ops true α h with
    | some (α', h') => some (Ex.normal, α', h')
    | none => none) = _
  rw [hreg]
end

/-- a region of which a store may come ahead of some reads -/
theorem WK_regionW [NoFz E] {n : Nat} {k : List Frm} {α : Tr Value} {h : H} {R : Rt} {id : Nat} {ops : Array Oper} (p : Nat) (hm : cutAt ops = p + 1 ∧ wAt ops (p + 1) = true ∧ regOkW ops p = true)
    (hk : WQ P E n ops.toList (ops.toList.take p) α h fun α1 h1 => lateB E h1 α1 ops p = true ∧ At P E n ops.toList false (ops.toList.drop p) [] k α1 h1 R) : WK P E n (.region id ops true) k α h R := by
  obtain ⟨F, α1, h1, hq, hl, F2, α2, h2, hl2, hc⟩ := hk
  refine ⟨max F F2 + 1, .normal, α2, h2, ?_, hc⟩
  have hreg : evRegion P E (run P E (max F F2)) n ops true α h = some (α2, h2) := by
    show evRegion0 P E (run P E (max F F2)) n ops true α (fzCut E h α ops.toList) = _
    unfold evRegion0
    simp only [forceN_eq, if_true, NoFz.cut]
    have e : sinkAt ops (ops.size - tailAt ops.toList) (tailAt ops.toList) = p + 1 := hm.1
    rw [e, if_pos hm.2.1, Nat.add_sub_cancel, if_pos hm.2.2, evQuiet_mono (CLe_run (Nat.le_max_left F F2)) hq]
    simp only
    rw [hl, NoFz.ok]
    simp only [Bool.and_self, if_true]
    exact evList_mono (CLe_run (Nat.le_max_right F F2)) hl2
  show (match evRegion P E (run P E (max F F2)) n ops true α h with
    | some (α', h') => some (Ex.normal, α', h')
    | none => none) = _
  rw [hreg]

/- ### functions -/
theorem CallsE_enter {f : FuncId} {fn : Func} {c : Code} {args : List Value} {h : H} {Q : Value → H → Prop} (hkn : E.known.get f = none ∧ E.orc.get f = none) (hf : E.fns.get f = some fn) (hb : fn.body = some c) (hn : args.length ≤ fn.ntmps ∧ fn.name ≠ "runtime.NumGoroutine")
    (hw : ∀ Q' : Value → H → Prop, (∀ v h', Q v h' → Q' v h') → WK P E fn.ntmps c [] (Tr.ofList args) h ⟨fn.results.toList, Q'⟩) : CallsE P E f args h Q := by
  obtain ⟨F, e, α', h', h1, h2⟩ := hw Q fun _ _ => id
  have hcw : ∀ e', e = e' → (e' = .normal ∨ e' = .ret) → callWith E (run P E F) f args h = RetV h' (resultsA E h' α' fn.results.toList) := by
    intro e' he hor
    subst he
    unfold callWith
    rw [hkn.1]
    simp only
    rw [hkn.2]
    simp only
    rw [hf]
    simp only [hb]
    rw [if_pos hn, h1]
    rcases hor with rfl | rfl <;> (simp only; unfold RetV; cases resultsA E h' α' fn.results.toList with
      | none => rfl
      | some vs =>
        cases vs with
        | nil => rfl
        | cons v vs => cases vs <;> rfl)
  have hres : ∀ x : Option (List Value), RetO Q h' x → ∃ v, RetV h' x = some (v, h') ∧ Q v h' := fun x hx => by
    cases x with
    | none => exact hx.elim
    | some vs =>
      cases vs with
      | nil => exact ⟨_, rfl, hx⟩
      | cons v vs =>
        cases vs with
        | nil => exact ⟨_, rfl, hx⟩
        | cons u vs => exact ⟨_, rfl, hx⟩
  cases e with
  | normal =>
    obtain ⟨v, h3, h4⟩ := hres _ h2
    exact ⟨F, v, h', (hcw _ rfl (.inl rfl)).trans h3, h4⟩
  | ret =>
    obtain ⟨v, h3, h4⟩ := hres _ h2
    exact ⟨F, v, h', (hcw _ rfl (.inr rfl)).trans h3, h4⟩
  | exit id => exact h2.elim
/-- a call of which it is known what it returns -/
theorem CallsE_known {f : FuncId} {v : Value} {h : H} {Q : Value → H → Prop} (hk : E.known.get f = some v) (ht : TabsIn E.tabs h.blks) (hq : Q v h) : CallsE P E f [] h Q := by
  refine ⟨0, v, h, ?_, hq⟩
  unfold callWith
  rw [hk]
  simp only [knownRun]
  rw [if_pos ⟨rfl, ht⟩]
end Go.Proofs.YtngpoamjhngcgaaGreatDoor.Ev

/- Symbolic runs: each operation by an equation. -/
namespace Go.Proofs.YtngpoamjhngcgaaGreatDoor.Ev
open Go
variable {P : Program} {E : Env}
noncomputable section

/- ### values -/
def pickO (c a b : Option Value) : Option Value := match c with
  | some (.bool true) => a
  | some (.bool false) => b
  | _ => none
def loadO (E : Env) (t : TypeId) (B : Tr Blk) : Option Value → Option Value
  | some v => evLoad E ⟨B, 0, 0⟩ t v
  | none => none
def nilO : Option Value → Option Value
  | some (.pointer (some a)) => some (.pointer (some a))
  | _ => none
def slowBin (P : Program) (op : BinOp) (t : TypeId) (v u : Value) : Option Value := match pureRun P (do eqGuard op t (.tmp 0) (.tmp 0) v u; binOp op t v u) with
  | some r => if plain r then some r else none
  | none => none
def binO (P : Program) (E : Env) (op : BinOp) (t : TypeId) : Option Value → Option Value → Option Value
  | some v, some u => if plainA v && plainA u then (match fastBin op v u with
      | some r => some r
      | none => slowBin P op t v u) else
    match op, evNil E t v u with
    | .eql, some b => some (.bool b)
    | .neq, some b => some (.bool (!b))
    | _, _ => none
  | _, _ => none
def unO (P : Program) (op : UnOp) : Option Value → Option Value
  | some v => if plain v then (match pureRun P (Op.unary op v) with
    | some r => if plain r then some r else none
    | none => none) else none
  | none => none
def convO (P : Program) (E : Env) (B : Tr Blk) (s d : TypeId) : Option Value → Option Value
  | some v => if plain v then (match fastConv E s d v with
    | some r => some r
    | none => match pureRun P (convert s d v) with
      | some r => if plain r then some r else none
      | none => none) else evBytes E ⟨B, 0, 0⟩ s d v
  | none => none
def fieldO (E : Env) (t : TypeId) (f : Nat) : Option Value → Option Value
  | some v => evField E t v f
  | none => none
def fieldAddrO (E : Env) (t : TypeId) (f : Nat) : Option Value → Option Value
  | some v => evFieldAddr E t v f
  | none => none
def idxAddrO (E : Env) (t : TypeId) : Option Value → Option Value → Option Value
  | some v, some u => evIndexAddr E t v u
  | _, _ => none
def idxO (E : Env) (t : TypeId) : Option Value → Option Value → Option Value
  | some v, some u => evIndex E t v u
  | _, _ => none
def extrO (i : Nat) : Option Value → Option Value
  | some (.tuple vs) => vs[i]?
  | _ => none
def buildO (E : Env) (t : TypeId) : Option (List (Nat × Value)) → Option Value
  | some ps => evBuild E t ps
  | none => none
def funcO (fn : Fn) : Option (List Value) → Option (List Value) → Option Value
  | some f, some c => some (.func fn f.toArray c.toArray)
  | _, _ => none
def sliceO (E : Env) (t : TypeId) (B : Tr Blk) : Option Value → Option (List Value) → Option (List Value) → Option Value
  | some x, some lo, some hi => evSlice E ⟨B, 0, 0⟩ t x lo.head? hi.head?
  | _, _, _ => none
def lenO (E : Env) (B : Tr Blk) (t : TypeId) : Option Value → Option Value
  | some v => match evLen E t v with
    | some r => some r
    | none => evLenM E ⟨B, 0, 0⟩ t v
  | none => none
def mmO (P : Program) (f : Value → Value → Sem Value) : Option (List Value) → Option Value
  | some [v, u] => if plain v && plain u then (match pureRun P (f v u) with
    | some r => if plain r then some r else none
    | none => none) else none
  | _ => none

theorem pureRun_bind {α β : Type} (f : α → Sem β) : ∀ s : Sem α, pureRun P (s >>= f) = (pureRun P s).bind fun a => pureRun P (f a) := by
  intro s
  induction s with
  | pure a => rfl
  | program k ih => exact ih P
  | _ => rfl

theorem pure_next (s : Sem Value) : (match pureRun P (do pure (Next.value (← s))) with
    | some (.value v) => if plain v then forceV v some else none
    | _ => none) = match pureRun P s with
    | some r => if plain r then some r else none
    | none => none := by
  rw [pureRun_bind]
  cases pureRun P s with
  | none => rfl
  | some r =>
    show (if plain r then forceV r some else none) = if plain r then some r else none
    rw [forceV_eq]

section
variable {n : Nat} {ops : List Oper} {q : Bool} {r tl : List Oper} {k : List Frm} {α : Tr Value} {h : H} {R : Rt} {d : Option Tmp} {ty : TypeId} {pos : String} {af : Array Edge}

theorem ev_blks {h h1 : H} (hb : h1.blks = h.blks) (x : Operand) : ev E h1 α x = ev E h α x := by
  cases x <;> first | rfl | skip
  simp only [ev, liveC, hb]
  rfl
theorem evs_blks {h h1 : H} (hb : h1.blks = h.blks) : ∀ l, evs E h1 α l = evs E h α l
  | [] => rfl
  | x :: l => by simp only [evs, ev_blks hb, evs_blks hb l]
theorem evParts_blks {h h1 : H} (hb : h1.blks = h.blks) : ∀ l, evParts E h1 α l = evParts E h α l
  | [] => rfl
  | (i, x) :: l => by simp only [evParts, ev_blks hb, evParts_blks hb l]

theorem At_move {x : Operand} : At P E n ops q (⟨d, .move x, ty, pos, af, none⟩ :: r) tl k α h R ↔ PutO P E n ops q r tl k α h R d (ev E h α x) :=
  At_pure rfl rfl fun h1 hb => by rw [evOp_eq]; show asV h1 (ev E h1 α x) = _; rw [ev_blks hb]
theorem At_assign {x : Operand} : At P E n ops q (⟨d, .assign x, ty, pos, af, none⟩ :: r) tl k α h R ↔ PutO P E n ops q r tl k α h R d (ev E h α x) :=
  At_pure rfl rfl fun h1 hb => by rw [evOp_eq]; show asV h1 (ev E h1 α x) = _; rw [ev_blks hb]
theorem At_pick {c a b : Operand} : At P E n ops q (⟨d, .pick c a b, ty, pos, af, none⟩ :: r) tl k α h R ↔ PutO P E n ops q r tl k α h R d (pickO (ev E h α c) (ev E h α a) (ev E h α b)) :=
  At_pure rfl rfl fun h1 hb => by
    rw [evOp_eq]
    simp only [evOpS, ev_blks hb]
    generalize ev E h α c = x
    cases x with
    | none => rfl
    | some v => cases v <;> first | rfl | (rename_i b; cases b <;> rfl)
theorem At_load {t : TypeId} {x : Operand} : At P E n ops q (⟨d, .load t x, ty, pos, af, none⟩ :: r) tl k α h R ↔ PutO P E n ops q r tl k α h R d (loadO E t h.blks (ev E h α x)) :=
  At_pure rfl rfl fun h1 hb => by
    rw [evOp_eq]
    simp only [evOpS, ev_blks hb]
    cases ev E h α x with
    | none => rfl
    | some v =>
      have : ∀ h2 : H, h2.blks = h.blks → evLoad E h2 t v = evLoad E ⟨h.blks, 0, 0⟩ t v := fun h2 hb => by
        obtain ⟨b2, n2, w2⟩ := h2
        simp only at hb
        subst hb
        rfl
      show asV h1 (evLoad E h1 t v) = _
      rw [this h1 hb]
      rfl
theorem At_nilCheck {x : Operand} : At P E n ops q (⟨d, .nilCheck x, ty, pos, af, none⟩ :: r) tl k α h R ↔ PutO P E n ops q r tl k α h R d (nilO (ev E h α x)) :=
  At_pure rfl rfl fun h1 hb => by
    rw [evOp_eq]
    simp only [evOpS, ev_blks hb]
    generalize ev E h α x = x
    cases x with
    | none => rfl
    | some v => cases v <;> first | rfl | (rename_i b; cases b <;> rfl)
theorem plainOp_bin {op : BinOp} {t t' : TypeId} {x y : Operand} {ρ : Operand → Value} {v u : Value} (hp : plainA v = true) (hx : ρ x = v) (hy : ρ y = u) : plainOp P ρ ⟨d, .binOp op t x y t', ty, pos, af, none⟩ = slowBin P op t v u := by
  have hg : eqGuard op t x y v u = eqGuard op t (.tmp 0) (.tmp 0) v u := by
    unfold eqGuard
    cases v <;> first | (simp [plainA, plain] at hp; done) | rfl | (cases u <;> rfl)
  have e : execOp ρ ⟨d, .binOp op t x y t', ty, pos, af, none⟩ = (do pure (Next.value (← (do eqGuard op t (.tmp 0) (.tmp 0) v u; binOp op t v u)))) := by
    show (do pure (Next.value (← (do eqGuard op t x y (ρ x) (ρ y); binOp op t (ρ x) (ρ y))))) = _
    rw [hx, hy, hg]
  unfold plainOp slowBin
  rw [e]
  exact pure_next _
theorem At_bin {op : BinOp} {t t' : TypeId} {x y : Operand} : At P E n ops q (⟨d, .binOp op t x y t', ty, pos, af, none⟩ :: r) tl k α h R ↔ PutO P E n ops q r tl k α h R d (binO P E op t (ev E h α x) (ev E h α y)) :=
  At_pure rfl rfl fun h1 hb => by
    rw [evOp_eq]
    simp only [evOpS, ev_blks hb]
    cases hx : ev E h α x with
    | none => rfl
    | some v =>
      cases hy : ev E h α y with
      | none => rfl
      | some u =>
        simp only [binO]
        by_cases hp : (plainA v && plainA u) = true
        · rw [if_pos hp, if_pos hp]
          congr 1
          unfold binPlain
          cases fastBin op v u with
          | some r => rfl
          | none =>
            simp only
            simp only [Bool.and_eq_true] at hp
            exact plainOp_bin hp.1 (by simp only [hx, Option.getD_some]) (by simp only [hy, Option.getD_some])
        · rw [if_neg hp, if_neg hp]
          generalize evNil E t v u = z
          cases z <;> cases op <;> rfl
theorem At_un1 {op : UnOp} {t : TypeId} {x : Operand} : At P E n ops q (⟨d, .unOp op t x, ty, pos, af, none⟩ :: r) tl k α h R ↔ PutO P E n ops q r tl k α h R d (unO P op (ev E h α x)) :=
  At_pure rfl rfl fun h1 hb => by
    rw [evOp_eq]
    simp only [evOpS, ev_blks hb]
    cases hx : ev E h α x with
    | none => rfl
    | some v =>
      simp only [unO]
      by_cases hp : plain v = true
      · rw [if_pos hp, if_pos hp]
        congr 1
        unfold plainOp
        have e : execOp (fun z => (ev E h α z).getD undef) ⟨d, .unOp op t x, ty, pos, af, none⟩ = (do pure (Next.value (← Op.unary op v))) := by
          show (do pure (Next.value (← Op.unary op ((ev E h α x).getD undef)))) = _
          rw [hx]
          rfl
        rw [e]
        exact pure_next _
      · rw [if_neg hp, if_neg hp]; rfl
/-- a conversion: of a string it may make bytes -/
def ConvP (P : Program) (E : Env) (n : Nat) (ops : List Oper) (q : Bool) (r tl : List Oper) (k : List Frm) (α : Tr Value) (h : H) (R : Rt) (d : Option Tmp) (s t : TypeId) (v : Option Value) : Prop := match v with
  | some (.string b) => HeapO P E n ops q r tl k α h R d (match convO P E h.blks s t (some (.string b)) with
    | some u => some (u, st q h)
    | none => match E.u s with
      | some .string => evStrBytes E (st q h) t (.string b)
      | _ => none)
  | v => PutO P E n ops q r tl k α h R d (convO P E h.blks s t v)
theorem conv_eq {s t : TypeId} {x : Operand} {v : Value} (hx : ev E h α x = some v) (hp : plain v = true) {h1 : H} (hb : h1.blks = h.blks) : convPlain P E s t v (fun z => (ev E h1 α z).getD undef) ⟨d, .convert s t x, ty, pos, af, none⟩ = convO P E h.blks s t (some v) := by
  simp only [convO, hp, if_true]
  unfold convPlain
  cases fastConv E s t v with
  | some r => rfl
  | none =>
    simp only
    unfold plainOp
    have e : execOp (fun z => (ev E h1 α z).getD undef) ⟨d, .convert s t x, ty, pos, af, none⟩ = (do pure (Next.value (← convert s t v))) := by
      show (do pure (Next.value (← convert s t ((ev E h1 α x).getD undef)))) = _
      rw [ev_blks hb, hx]
      rfl
    rw [e]
    exact pure_next _
theorem At_convN {s t : TypeId} {x : Operand} (hn : ∀ b, ev E h α x ≠ some (.string b)) : At P E n ops q (⟨d, .convert s t x, ty, pos, af, none⟩ :: r) tl k α h R ↔ PutO P E n ops q r tl k α h R d (convO P E h.blks s t (ev E h α x)) :=
  At_pure rfl rfl fun h1 hb => by
    rw [evOp_eq]
    simp only [evOpS]
    cases hx : ev E h α x with
    | none => rw [ev_blks hb, hx]; rfl
    | some v =>
      have hx1 : ev E h1 α x = some v := by rw [ev_blks hb]; exact hx
      simp only [hx1]
      by_cases hp : plain v = true
      · rw [if_pos hp, conv_eq hx hp hb]
        cases convO P E h.blks s t (some v) with
        | some r => rfl
        | none =>
          have : evStrBytes E h1 t v = none := by
            cases v <;> first | rfl | (exact absurd hx (hn _))
          simp only [this]
          split <;> rfl
      · rw [if_neg hp]
        simp only [convO]
        rw [if_neg hp]
        obtain ⟨b2, n2, w2⟩ := h1
        simp only at hb
        subst hb
        rfl
theorem At_conv {s t : TypeId} {x : Operand} : At P E n ops q (⟨d, .convert s t x, ty, pos, af, none⟩ :: r) tl k α h R ↔ ConvP P E n ops q r tl k α h R d s t (ev E h α x) := by
  cases hx : ev E h α x with
  | none => rw [At_convN (fun b e => by rw [hx] at e; cases e), hx]; rfl
  | some v =>
    by_cases hs : ∃ b, v = .string b
    · obtain ⟨b, rfl⟩ := hs
      rw [At_heap rfl rfl]
      show HeapO P E n ops q r tl k α h R d _ ↔ HeapO P E n ops q r tl k α h R d _
      have hst : (st q h).blks = h.blks := by cases q <;> rfl
      have hx1 : ev E (st q h) α x = some (.string b) := by rw [ev_blks hst]; exact hx
      have : evOp P E nocall (st q h) α ⟨d, .convert s t x, ty, pos, af, none⟩ = (match convO P E h.blks s t (some (.string b)) with
          | some u => some (u, st q h)
          | none => match E.u s with
            | some .string => evStrBytes E (st q h) t (.string b)
            | _ => none) := by
        rw [evOp_eq]
        simp only [evOpS, hx1]
        rw [if_pos (show plain (.string b) = true from rfl), conv_eq hx rfl hst]
        cases convO P E h.blks s t (some (.string b)) with
        | some u => rfl
        | none =>
          cases E.u s with
          | none => rfl
          | some d => cases d <;> rfl
      rw [this]
    · rw [At_convN (fun b e => hs ⟨b, by rw [hx] at e; exact Option.some.inj e⟩), hx]
      cases v <;> first | exact Iff.rfl | exact absurd ⟨_, rfl⟩ hs
theorem ConvP_int {s t : TypeId} {kd : IntKind} {z : Int} : ConvP P E n ops q r tl k α h R d s t (some (.int kd z)) ↔ PutO P E n ops q r tl k α h R d (convO P E h.blks s t (some (.int kd z))) := Iff.rfl
theorem ConvP_slice {s t : TypeId} {A : Option Addr} {m c : Nat} : ConvP P E n ops q r tl k α h R d s t (some (.slice A m c)) ↔ PutO P E n ops q r tl k α h R d (convO P E h.blks s t (some (.slice A m c))) := Iff.rfl
theorem At_field {t : TypeId} {x : Operand} {f : Nat} : At P E n ops q (⟨d, .field t x f, ty, pos, af, none⟩ :: r) tl k α h R ↔ PutO P E n ops q r tl k α h R d (fieldO E t f (ev E h α x)) :=
  At_pure rfl rfl fun h1 hb => by
    rw [evOp_eq]
    simp only [evOpS, ev_blks hb]
    generalize ev E h α x = x
    cases x <;> rfl
theorem At_fieldAddr {t : TypeId} {x : Operand} {f : Nat} : At P E n ops q (⟨d, .fieldAddr t x f, ty, pos, af, none⟩ :: r) tl k α h R ↔ PutO P E n ops q r tl k α h R d (fieldAddrO E t f (ev E h α x)) :=
  At_pure rfl rfl fun h1 hb => by
    rw [evOp_eq]
    simp only [evOpS, ev_blks hb]
    generalize ev E h α x = x
    cases x <;> rfl
theorem At_idxAddr {t : TypeId} {x y : Operand} : At P E n ops q (⟨d, .indexAddr t x y, ty, pos, af, none⟩ :: r) tl k α h R ↔ PutO P E n ops q r tl k α h R d (idxAddrO E t (ev E h α x) (ev E h α y)) :=
  At_pure rfl rfl fun h1 hb => by
    rw [evOp_eq]
    simp only [evOpS, ev_blks hb]
    generalize ev E h α x = x
    generalize ev E h α y = y
    cases x <;> cases y <;> rfl
theorem At_idx {t : TypeId} {x y : Operand} : At P E n ops q (⟨d, .index t x y, ty, pos, af, none⟩ :: r) tl k α h R ↔ PutO P E n ops q r tl k α h R d (idxO E t (ev E h α x) (ev E h α y)) :=
  At_pure rfl rfl fun h1 hb => by
    rw [evOp_eq]
    simp only [evOpS, ev_blks hb]
    generalize ev E h α x = x
    generalize ev E h α y = y
    cases x <;> cases y <;> rfl
theorem At_extract {x : Operand} {i : Nat} : At P E n ops q (⟨d, .extract x i, ty, pos, af, none⟩ :: r) tl k α h R ↔ PutO P E n ops q r tl k α h R d (extrO i (ev E h α x)) :=
  At_pure rfl rfl fun h1 hb => by
    rw [evOp_eq]
    simp only [evOpS, ev_blks hb]
    generalize ev E h α x = x
    cases x with
    | none => rfl
    | some v => cases v <;> rfl
theorem At_build {t : TypeId} {ps : Array (Nat × Operand)} : At P E n ops q (⟨d, .build t ps, ty, pos, af, none⟩ :: r) tl k α h R ↔ PutO P E n ops q r tl k α h R d (buildO E t (evParts E h α ps.toList)) :=
  At_pure rfl rfl fun h1 hb => by
    rw [evOp_eq]
    simp only [evOpS, evParts_blks hb]
    generalize evParts E h α ps.toList = x
    cases x <;> rfl
theorem At_func {fn : Fn} {a b : Array Operand} : At P E n ops q (⟨d, .makeFunc fn a b, ty, pos, af, none⟩ :: r) tl k α h R ↔ PutO P E n ops q r tl k α h R d (funcO fn (evs E h α a.toList) (evs E h α b.toList)) :=
  At_pure rfl rfl fun h1 hb => by
    rw [evOp_eq]
    simp only [evOpS, evs_blks hb]
    generalize evs E h α a.toList = x
    generalize evs E h α b.toList = y
    cases x <;> cases y <;> rfl
theorem At_slice {t : TypeId} {x : Operand} {lo hi : Option Operand} : At P E n ops q (⟨d, .slice t x lo hi none, ty, pos, af, none⟩ :: r) tl k α h R ↔ PutO P E n ops q r tl k α h R d (sliceO E t h.blks (ev E h α x) (evs E h α lo.toList) (evs E h α hi.toList)) :=
  At_pure rfl rfl fun h1 hb => by
    rw [evOp_eq]
    simp only [evOpS, ev_blks hb, evs_blks hb]
    generalize ev E h α x = x
    generalize evs E h α lo.toList = y
    generalize evs E h α hi.toList = z
    have : ∀ v lo hi, evSlice E h1 t v lo hi = evSlice E ⟨h.blks, 0, 0⟩ t v lo hi := fun v lo hi => by
      obtain ⟨b2, n2, w2⟩ := h1
      simp only at hb
      subst hb
      rfl
    cases x <;> cases y <;> cases z <;> first | rfl | (simp only [sliceO, this])
theorem At_len {x : Operand} {t : TypeId} : At P E n ops q (⟨d, .call ⟨.builtin .len, #[x], #[t]⟩, ty, pos, af, none⟩ :: r) tl k α h R ↔ PutO P E n ops q r tl k α h R d (lenO E h.blks t (ev E h α x)) :=
  At_pure rfl rfl fun h1 hb => by
    rw [evOp_eq]
    simp only [evOpS, evs, ev_blks hb]
    generalize ev E h α x = x
    cases x with
    | none => rfl
    | some v =>
      simp only [evBuiltin, lenO]
      have : evLenM E h1 t v = evLenM E ⟨h.blks, 0, 0⟩ t v := by
        obtain ⟨b2, n2, w2⟩ := h1
        simp only at hb
        subst hb
        rfl
      rw [this]
      generalize evLen E t v = z
      generalize evLenM E ⟨h.blks, 0, 0⟩ t v = y
      cases z <;> cases y <;> rfl
end
end
end Go.Proofs.YtngpoamjhngcgaaGreatDoor.Ev

/- Symbolic runs: values, memory, slices. -/
namespace Go.Proofs.YtngpoamjhngcgaaGreatDoor.Ev
open Go
variable {P : Program} {E : Env}
noncomputable section

/- ### put -/
section
variable {n : Nat} {ops : List Oper} {q : Bool} {r tl : List Oper} {k : List Frm} {α : Tr Value} {h : H} {R : Rt} {d : Nat} {ty : TypeId} {pos : String} {af : Array Edge}

theorem put_lt {v : Value} (hd : d < n) : put n α (some d) v = some (Tr.put α d v) := by
  simp only [put, Nat.ble_eq_true_of_le (Nat.succ_le_of_lt hd), Tr.force_eq]
theorem PutO_some {v : Value} (hd : d < n) : PutO P E n ops q r tl k α h R (some d) (some v) ↔ At P E n ops q r tl k (Tr.put α d v) h R := by
  show (match put n α (some d) v with
    | some α' => At P E n ops q r tl k α' h R
    | none => False) ↔ _
  rw [put_lt hd]
theorem PutO_none {v : Value} : PutO P E n ops q r tl k α h R none (some v) ↔ At P E n ops q r tl k α h R := Iff.rfl
theorem HeapO_some {v : Value} {h' : H} (hd : d < n) : HeapO P E n ops q r tl k α h R (some d) (some (v, h')) ↔ (q = true → h.next ≤ h'.wm) ∧ At P E n ops q r tl k (Tr.put α d v) (fin q h h') R := by
  show ((q = true → h.next ≤ h'.wm) ∧ PutO P E n ops q r tl k α (fin q h h') R (some d) (some v)) ↔ _
  rw [PutO_some hd]
theorem HeapO_none {v : Value} {h' : H} : HeapO P E n ops q r tl k α h R none (some (v, h')) ↔ (q = true → h.next ≤ h'.wm) ∧ At P E n ops q r tl k α (fin q h h') R := Iff.rfl

theorem ev_tmp {t : Tmp} : ev E h α (.tmp t) = some ((α.get t).getD undef) := evTmp_eq α t
theorem ev_int {kd : IntKind} {z : Int} : ev E h α (.const (.int kd z)) = some (.int kd z) := rfl
theorem ev_bool {b : Bool} : ev E h α (.const (.bool b)) = some (.bool b) := rfl
theorem ev_str {s : ByteArray} : ev E h α (.const (.string s)) = some (.string s) := rfl
theorem ev_nils : ev E h α (.const (.slice none 0 0)) = some (.slice none 0 0) := rfl
theorem ev_func {f : FuncId} : ev E h α (.func f) = some (.func (.func f) #[] #[]) := rfl
theorem evs_nil : evs E h α [] = some [] := rfl
def consO (v : Option Value) (l : Option (List Value)) : Option (List Value) := match v, l with
  | some v, some l => some (v :: l)
  | _, _ => none
theorem evs_consO {x : Operand} {l : List Operand} : evs E h α (x :: l) = consO (ev E h α x) (evs E h α l) := by
  simp only [evs, consO]
  cases ev E h α x <;> cases evs E h α l <;> rfl
theorem consO_some {v : Value} {l : List Value} : consO (some v) (some l) = some (v :: l) := rfl
def consP (i : Nat) (v : Option Value) (l : Option (List (Nat × Value))) : Option (List (Nat × Value)) := match v, l with
  | some v, some l => some ((i, v) :: l)
  | _, _ => none
theorem evParts_nil : evParts E h α [] = some [] := rfl
theorem evParts_consO {i : Nat} {x : Operand} {l : List (Nat × Operand)} : evParts E h α ((i, x) :: l) = consP i (ev E h α x) (evParts E h α l) := by
  simp only [evParts, consP]
  cases ev E h α x <;> cases evParts E h α l <;> rfl
theorem consP_some {i : Nat} {v : Value} {l : List (Nat × Value)} : consP i (some v) (some l) = some ((i, v) :: l) := rfl

theorem At_min {x y : Operand} {ats : Array TypeId} : At P E n ops q (⟨some d, .call ⟨.builtin .min, #[x, y], ats⟩, ty, pos, af, none⟩ :: r) tl k α h R ↔ PutO P E n ops q r tl k α h R (some d) (mmO P Builtin.min2 (consO (ev E h α x) (consO (ev E h α y) (some [])))) :=
  At_pure rfl rfl fun h1 hb => by
    rw [evOp_eq]
    simp only [evOpS, evs, ev_blks hb]
    cases hx : ev E h α x with
    | none => rfl
    | some v =>
      cases hy : ev E h α y with
      | none => rfl
      | some u =>
        simp only [consO, mmO]
        by_cases hp : (plain v && plain u) = true
        · have hp' : ([v, u].all plain) = true := by simpa using hp
          rw [if_pos hp', if_pos hp]
          congr 1
          have e : execOp (fun z => (ev E h α z).getD undef) ⟨some d, .call ⟨.builtin .min, #[x, y], ats⟩, ty, pos, af, none⟩ = (do pure (Next.value (← Builtin.min_ ats ty #[v, u]))) := by
            simp only [execOp, resolve, List.map_toArray, List.map, hx, hy, Option.getD_some]
            rfl
          unfold plainOp
          rw [e]
          refine (pure_next _).trans ?_
          have e2 : pureRun P (Builtin.min_ ats ty #[v, u]) = pureRun P (Builtin.min2 v u) := by
            show pureRun P (Builtin.min2 v u >>= fun s => pure s) = _
            rw [pureRun_bind]
            cases pureRun P (Builtin.min2 v u) <;> rfl
          rw [e2]
        · have hp' : ¬ ([v, u].all plain) = true := by simpa using hp
          rw [if_neg hp', if_neg hp]
          rfl
theorem At_max {x y : Operand} {ats : Array TypeId} : At P E n ops q (⟨some d, .call ⟨.builtin .max, #[x, y], ats⟩, ty, pos, af, none⟩ :: r) tl k α h R ↔ PutO P E n ops q r tl k α h R (some d) (mmO P Builtin.max2 (consO (ev E h α x) (consO (ev E h α y) (some [])))) :=
  At_pure rfl rfl fun h1 hb => by
    rw [evOp_eq]
    simp only [evOpS, evs, ev_blks hb]
    cases hx : ev E h α x with
    | none => rfl
    | some v =>
      cases hy : ev E h α y with
      | none => rfl
      | some u =>
        simp only [consO, mmO]
        by_cases hp : (plain v && plain u) = true
        · have hp' : ([v, u].all plain) = true := by simpa using hp
          rw [if_pos hp', if_pos hp]
          congr 1
          have e : execOp (fun z => (ev E h α z).getD undef) ⟨some d, .call ⟨.builtin .max, #[x, y], ats⟩, ty, pos, af, none⟩ = (do pure (Next.value (← Builtin.max_ ats ty #[v, u]))) := by
            simp only [execOp, resolve, List.map_toArray, List.map, hx, hy, Option.getD_some]
            rfl
          unfold plainOp
          rw [e]
          refine (pure_next _).trans ?_
          have e2 : pureRun P (Builtin.max_ ats ty #[v, u]) = pureRun P (Builtin.max2 v u) := by
            show pureRun P (Builtin.max2 v u >>= fun s => pure s) = _
            rw [pureRun_bind]
            cases pureRun P (Builtin.max2 v u) <;> rfl
          rw [e2]
        · have hp' : ¬ ([v, u].all plain) = true := by simpa using hp
          rw [if_neg hp', if_neg hp]
          rfl
theorem mm_min {kd : IntKind} {a b : Int} : mmO P Builtin.min2 (some [.int kd a, .int kd b]) = some (.int kd (min a b)) := by
  have : Builtin.min2 (.int kd a) (.int kd b) = pure (.int kd (if b < a then b else a)) := rfl
  have e : (if b < a then b else a) = min a b := by split <;> omega
  simp only [mmO, plain, this, e]
  rfl
theorem mm_max {kd : IntKind} {a b : Int} : mmO P Builtin.max2 (some [.int kd a, .int kd b]) = some (.int kd (max a b)) := by
  have e : (if a < b then b else a) = max a b := by split <;> omega
  have : Builtin.max2 (.int kd a) (.int kd b) = pure (.int kd (max a b)) := by
    rw [← e]; rfl
  simp only [mmO, plain, this]
  rfl
end

/- ### arithmetic -/
section
variable {t : TypeId} {kd : IntKind} {a b : Int}
theorem fastBin_int {op : BinOp} : fastBin op (.int kd a) (.int kd b) = fastInt op kd a b := by
  show Bool.casesOn (motive := fun _ => Option Value) (Nat.beq (kNum kd) (kNum kd)) none (fastInt op kd a b) = _
  have : Nat.beq (kNum kd) (kNum kd) = true := Nat.beq_refl _
  rw [this]
theorem binO_int {op : BinOp} {r : Value} (hr : fastInt op kd a b = some r) : binO P E op t (some (.int kd a)) (some (.int kd b)) = some r := by
  have h1 : (Ev.plainA (.int kd a) && Ev.plainA (.int kd b)) = true := rfl
  simp only [binO, h1, if_true, fastBin_int, hr]
theorem binO_add : binO P E .add t (some (.int kd a)) (some (.int kd b)) = some (.int kd (kd.wrap (a + b))) := binO_int (by simp only [fastInt, mkI, forceI_eq, wrapF_eq])
theorem binO_sub : binO P E .sub t (some (.int kd a)) (some (.int kd b)) = some (.int kd (kd.wrap (a - b))) := binO_int (by simp only [fastInt, mkI, forceI_eq, wrapF_eq])
theorem binO_mul : binO P E .mul t (some (.int kd a)) (some (.int kd b)) = some (.int kd (kd.wrap (a * b))) := binO_int (by simp only [fastInt, mkI, forceI_eq, wrapF_eq])
theorem binO_eql : binO P E .eql t (some (.int kd a)) (some (.int kd b)) = some (.bool (decide (a = b))) := binO_int (by
  simp only [fastInt, mkB, forceB_eq, eqF_eq]; congr 2)
theorem binO_neq : binO P E .neq t (some (.int kd a)) (some (.int kd b)) = some (.bool (decide (a ≠ b))) := binO_int (by
  simp only [fastInt, mkB, forceB_eq, eqF_eq]; congr 2; by_cases h : a = b <;> simp [h])
theorem binO_lss : binO P E .lss t (some (.int kd a)) (some (.int kd b)) = some (.bool (decide (a < b))) := binO_int (by simp only [fastInt, mkB, forceB_eq, ltF_eq])
theorem binO_gtr : binO P E .gtr t (some (.int kd a)) (some (.int kd b)) = some (.bool (decide (b < a))) := binO_int (by simp only [fastInt, mkB, forceB_eq, ltF_eq])
theorem binO_leq : binO P E .leq t (some (.int kd a)) (some (.int kd b)) = some (.bool (decide (a ≤ b))) := binO_int (by
  simp only [fastInt, mkB, forceB_eq, ltF_eq]; congr 2; by_cases h : a ≤ b <;> simp [h] <;> omega)
theorem binO_geq : binO P E .geq t (some (.int kd a)) (some (.int kd b)) = some (.bool (decide (b ≤ a))) := binO_int (by
  simp only [fastInt, mkB, forceB_eq, ltF_eq]; congr 2; by_cases h : b ≤ a <;> simp [h] <;> omega)
theorem binO_slow {op : BinOp} {r : Value} (hf : fastInt op kd a b = none) (hs : pureRun P (do eqGuard op t (.tmp 0) (.tmp 0) (.int kd a) (.int kd b); binOp op t (.int kd a) (.int kd b)) = some r) (hp : plain r = true) : binO P E op t (some (.int kd a)) (some (.int kd b)) = some r := by
  have h1 : (Ev.plainA (.int kd a) && Ev.plainA (.int kd b)) = true := rfl
  simp only [binO, h1, if_true, fastBin_int, hf, slowBin, hs, hp]
theorem binO_rem (hb : b ≠ 0) : binO P E .rem t (some (.int kd a)) (some (.int kd b)) = some (.int kd (a.tmod b)) :=
  binO_slow rfl (by simp [binOp, Op.intDiv, hb]; rfl) rfl
theorem binO_quo (hb : b ≠ 0) : binO P E .quo t (some (.int kd a)) (some (.int kd b)) = some (.int kd (kd.wrap (a.tdiv b))) :=
  binO_slow rfl (by simp [binOp, Op.intDiv, hb]; rfl) rfl
theorem unO_not {b : Bool} : unO P .not (some (.bool b)) = some (.bool (!b)) := rfl
theorem unO_neg : unO P .neg (some (.int kd a)) = some (.int kd (kd.wrap (0 - a))) := rfl
theorem pickO_true {x y : Option Value} : pickO (some (.bool true)) x y = x := rfl
theorem pickO_false {x y : Option Value} : pickO (some (.bool false)) x y = y := rfl
theorem extrO_tuple {vs : Array Value} {i : Nat} : extrO i (some (.tuple vs)) = vs[i]? := rfl
theorem convO_int {B : Tr Blk} {s d : TypeId} {k' : IntKind} {ds : TypeDesc} (h1 : E.u s = some ds) (h2 : E.u d = some (.int k')) : convO P E B s d (some (.int kd a)) = some (.int k' (k'.wrap a)) := by
  simp only [convO, plain, if_true, fastConv, h1, h2, mkI, forceI_eq, wrapF_eq]
theorem lenO_slice {elem : TypeId} (hu : E.u t = some (.slice elem)) {A : Option Addr} {n c : Nat} {B : Tr Blk} : lenO E B t (some (.slice A n c)) = some (.int .i64 n) := by
  simp only [lenO, evLen, hu]
theorem wrap_i64 {x : Int} (h1 : -9223372036854775808 ≤ x) (h2 : x ≤ 9223372036854775807) : IntKind.i64.wrap x = x := by rw [IntKind.wrap_i64]; omega
theorem Guard_true {n : Nat} {ops : List Oper} {q : Bool} {r tl : List Oper} {k : List Frm} {α : Tr Value} {h : H} {R : Rt} {o : Oper} : GuardO P E n ops q o r tl k α h R true (some (.bool true)) ↔ At P E n ops q ({ o with guard := none } :: r) tl k α h R := by
  simp [GuardO]
theorem Guard_false {n : Nat} {ops : List Oper} {q : Bool} {r tl : List Oper} {k : List Frm} {α : Tr Value} {h : H} {R : Rt} {o : Oper} : GuardO P E n ops q o r tl k α h R false (some (.bool false)) ↔ At P E n ops q ({ o with guard := none } :: r) tl k α h R := by
  simp [GuardO]
theorem Guard_tf {n : Nat} {ops : List Oper} {q : Bool} {r tl : List Oper} {k : List Frm} {α : Tr Value} {h : H} {R : Rt} {o : Oper} : GuardO P E n ops q o r tl k α h R true (some (.bool false)) ↔ PutO P E n ops q r tl k α h R o.dst (some undef) := by
  simp [GuardO]
theorem Guard_ft {n : Nat} {ops : List Oper} {q : Bool} {r tl : List Oper} {k : List Frm} {α : Tr Value} {h : H} {R : Rt} {o : Oper} : GuardO P E n ops q o r tl k α h R false (some (.bool true)) ↔ PutO P E n ops q r tl k α h R o.dst (some undef) := by
  simp [GuardO]
theorem Guard_tup {n : Nat} {ops : List Oper} {q : Bool} {r tl : List Oper} {k : List Frm} {α : Tr Value} {h : H} {R : Rt} {o : Oper} {want : Bool} {vs : Array Value} : GuardO P E n ops q o r tl k α h R want (some (.tuple vs)) ↔ PutO P E n ops q r tl k α h R o.dst (some undef) := Iff.rfl
theorem Guard_und {n : Nat} {ops : List Oper} {q : Bool} {r tl : List Oper} {k : List Frm} {α : Tr Value} {h : H} {R : Rt} {o : Oper} {want : Bool} : GuardO P E n ops q o r tl k α h R want (some undef) ↔ PutO P E n ops q r tl k α h R o.dst (some undef) := Iff.rfl
end

/- ### memory -/
/-- one cell -/
def loadv (B : Tr Blk) (b off : Nat) : Option Value := match B.get b with
  | some (.mk cells size _) => if off < size then cells.get off else none
  | _ => none
theorem rd_one {B : Tr Blk} {b off n w : Nat} : rd ⟨B, n, w⟩ b off 1 = (loadv B b off).map fun v => [v] := by
  simp only [rd, loadv]
  cases B.get b with
  | none => rfl
  | some x =>
    cases x with
    | dead => rfl
    | mp l => rfl
    | mk cells size es =>
      simp only
      by_cases hlt : off < size
      · rw [if_pos hlt, if_pos (by omega)]
        simp only [getCells]
        cases cells.get off <;> rfl
      · rw [if_neg hlt, if_neg (by omega)]; rfl
theorem loadO_one {t : TypeId} (ht : E.agg t = some false) {B : Tr Blk} {b off : Nat} : loadO E t B (some (.pointer (some ⟨b, off, none⟩))) = loadv B b off := by
  simp only [loadO, evLoad, ht, rd_one]
  cases loadv B b off <;> rfl
theorem idx_ok {kd : IntKind} {z : Int} {n : Nat} (h0 : 0 ≤ z) (h1 : z < n) : idx (.int kd z) n = some z.toNat := by
  obtain ⟨m, rfl⟩ := Int.eq_ofNat_of_zero_le h0
  show (if m < n then some m else none) = _
  rw [if_pos (by omega)]
  simp
theorem idxAddrO_slice {t elem : TypeId} {inf : TypeInfo} (hu : E.u t = some (.slice elem)) (hi : E.i elem = some inf) {b off n c : Nat} {kd : IntKind} {z : Int} (h0 : 0 ≤ z) (h1 : z < n) :
    idxAddrO E t (some (.slice (some ⟨b, off, none⟩) n c)) (some (.int kd z)) = some (.pointer (some ⟨b, off + z.toNat * inf.size, none⟩)) := by
  simp only [idxAddrO, evIndexAddr, hu, idx_ok h0 h1, hi, forceN_eq]

/-- a new block -/
structure New (h h' : H) (cells : List Value) (es : Nat) : Prop where
  next : h'.next = h.next + 1
  wm : h'.wm = h.wm
  get : ∀ b, h'.blks.get b = if b = h.next then some (.mk (Tr.ofList cells) cells.length es) else h.blks.get b

/-- what lies below m is as it was -/
structure Pres (m : Nat) (h h' : H) : Prop where
  next : h.next ≤ h'.next
  wm : min h.wm m ≤ h'.wm
  get : ∀ b, b < m → h'.blks.get b = h.blks.get b

theorem Pres.refl (m : Nat) (h : H) : Pres m h h := ⟨Nat.le_refl _, Nat.min_le_left _ _, fun _ _ => rfl⟩
theorem Pres.trans {m : Nat} {h h1 h2 : H} (a : Pres m h h1) (b : Pres m h1 h2) : Pres m h h2 :=
  ⟨Nat.le_trans a.next b.next, by have := a.wm; have := b.wm; omega, fun x hx => (b.get x hx).trans (a.get x hx)⟩
theorem Pres.le {m m' : Nat} {h h' : H} (a : Pres m h h') (hm : m' ≤ m) : Pres m' h h' :=
  ⟨a.next, by have := a.wm; omega, fun x hx => a.get x (by omega)⟩
theorem New.pres {h h' : H} {cells : List Value} {es m : Nat} (a : New h h' cells es) (hm : m ≤ h.next) : Pres m h h' :=
  ⟨by have := a.next; omega, by have := a.wm; omega, fun x hx => by rw [a.get, if_neg (by omega)]⟩
theorem loadv_eq {B B' : Tr Blk} {b : Nat} (hb : B'.get b = B.get b) (off : Nat) : loadv B' b off = loadv B b off := by simp only [loadv, hb]

theorem aNew_mk (h : H) (cells : List Value) (es : Nat) : ∃ h', aNew h cells es = some (h.next, h') ∧ New h h' cells es := by
  exact ⟨{ blks := h.blks.put h.next (.mk (Tr.ofList cells) cells.length es), next := h.next + 1, wm := h.wm }, by simp only [aNew, forceN_eq, Tr.force_eq], rfl, rfl, fun b => Tr.get_put _ _ _ _⟩

section
variable {n : Nat} {ops : List Oper} {q : Bool} {r tl : List Oper} {k : List Frm} {α : Tr Value} {h : H} {R : Rt} {d : Nat} {ty : TypeId} {pos : String} {af : Array Edge}

theorem New.st {h h' : H} {cells : List Value} {es : Nat} (a : New (st q h) h' cells es) : New h (fin q h h') cells es := by
  cases q with
  | false => exact a
  | true => exact ⟨a.next, rfl, a.get⟩

theorem HeapO_new {v : Option (Value × H)} {cells : List Value} {es : Nat} (f : Nat → Value) (hd : d < n) (hv : v = (aNew (st q h) cells es).map fun x => (f x.1, x.2))
    (hk : ∀ h', New h h' cells es → At P E n ops q r tl k (Tr.put α d (f h.next)) h' R) : HeapO P E n ops q r tl k α h R (some d) v := by
  obtain ⟨h', h1, h2⟩ := aNew_mk (st q h) cells es
  rw [hv, h1]
  simp only [Option.map_some]
  rw [HeapO_some hd]
  have e : (st q h).next = h.next := by cases q <;> rfl
  rw [e]
  refine ⟨fun hq => ?_, hk _ h2.st⟩
  rw [h2.wm]
  exact st_wm hq

/-- a variable that lies in memory -/
theorem At_alloc {t : TypeId} {inf : TypeInfo} {z : Value} (hi : E.i t = some inf) (hz : inf.zero = some z) (hc : okConst z = true) (hd : d < n)
    (hk : ∀ h', New h h' z.cells.toList 0 → At P E n ops q r tl k (Tr.put α d (.pointer (some ⟨h.next, 0, none⟩))) h' R) : At P E n ops q (⟨some d, .alloc t, ty, pos, af, none⟩ :: r) tl k α h R := by
  rw [At_heap rfl rfl]
  refine HeapO_new (fun b => .pointer (some ⟨b, 0, none⟩)) hd ?_ hk
  rw [evOp_eq]
  simp only [evOpS, hi, hz, hc, if_true, newVal]
  cases aNew (st q h) z.cells.toList 0 <;> rfl
theorem At_box {t : TypeId} {x : Operand} {v : Value} (hx : ev E h α x = some v) (hd : d < n)
    (hk : ∀ h', New h h' v.cells.toList 0 → At P E n ops q r tl k (Tr.put α d (.pointer (some ⟨h.next, 0, none⟩))) h' R) : At P E n ops q (⟨some d, .box t x, ty, pos, af, none⟩ :: r) tl k α h R := by
  rw [At_heap rfl rfl]
  refine HeapO_new (fun b => .pointer (some ⟨b, 0, none⟩)) hd ?_ hk
  rw [evOp_eq]
  have hx' : ev E (st q h) α x = some v := by rw [ev_blks (h := h) (by cases q <;> rfl)]; exact hx
  simp only [evOpS, hx', newVal]
  cases aNew (st q h) v.cells.toList 0 <;> rfl

/-- a literal of a slice -/
theorem At_lit {t elem : TypeId} {inf : TypeInfo} {z : Value} {len : Nat} {ps : Array (Nat × Operand)} {vs : List (Nat × Value)} {cs : Array Value} (hu : E.u t = some (.slice elem)) (hi : E.i elem = some inf) (hz : inf.zero = some z)
    (hc : (okConst z && decide (len * inf.size < 16777216) && decide (z.cells.size = inf.size) && decide (0 < inf.size)) = true) (hp : evParts E h α ps.toList = some vs)
    (hf : Instr.fill (fun i => some (i * inf.size, inf.size)) (zeros z.cells.toList len).toArray vs = some cs) (hd : d < n)
    (hk : ∀ h', New h h' cs.toList inf.size → At P E n ops q r tl k (Tr.put α d (.slice (some ⟨h.next, 0, none⟩) len len)) h' R) (hlen0 : len ≠ 0 := by decide) : At P E n ops q (⟨some d, .buildSlice t len ps, ty, pos, af, none⟩ :: r) tl k α h R := by
  rw [At_heap rfl rfl]
  refine HeapO_new (fun b => .slice (some ⟨b, 0, none⟩) len len) hd ?_ hk
  rw [evOp_eq]
  have hp' : evParts E (st q h) α ps.toList = some vs := by rw [evParts_blks (h := h) (by cases q <;> rfl)]; exact hp
  simp only [evOpS, hp', evBuildSlice, hu, hi, hz]
  rw [if_pos hc]
  simp only [hf]
  rw [if_neg hlen0]
  cases aNew (st q h) cs.toList inf.size <;> rfl

/-- make -/
theorem At_make {t elem : TypeId} {inf : TypeInfo} {z : Value} {x y : Operand} {k1 k2 : IntKind} {l c : Nat} (hu : E.u t = some (.slice elem)) (hi : E.i elem = some inf) (hz : inf.zero = some z)
    (hc : (okConst z && decide (inf.bytes < 65536) && decide (z.cells.size = inf.size) && decide (0 < inf.size)) = true) (hx : ev E h α x = some (.int k1 l)) (hy : ev E h α y = some (.int k2 c)) (hl : l ≤ c) (hs : c * inf.size < 2147483648) (hs2 : c < 2147483648) (hd : d < n)
    (hk : ∀ h', New h h' (zeros z.cells.toList c) inf.size → At P E n ops q r tl k (Tr.put α d (.slice (some ⟨h.next, 0, none⟩) l c)) h' R) : At P E n ops q (⟨some d, .makeSlice t x y, ty, pos, af, none⟩ :: r) tl k α h R := by
  rw [At_heap rfl rfl]
  refine HeapO_new (fun b => .slice (some ⟨b, 0, none⟩) l c) hd ?_ hk
  rw [evOp_eq]
  have hst : (st q h).blks = h.blks := by cases q <;> rfl
  have hx' : ev E (st q h) α x = some (.int k1 (Int.ofNat l)) := by rw [ev_blks hst]; exact hx
  have hy' : ev E (st q h) α y = some (.int k2 (Int.ofNat c)) := by rw [ev_blks hst]; exact hy
  simp only [Bool.and_eq_true, decide_eq_true_eq] at hc
  obtain ⟨⟨⟨c1, c2⟩, c3⟩, c4⟩ := hc
  simp only [evOpS, hx', hy', evMakeSlice, hu, hi, hz]
  rw [if_pos (by simp only [Bool.and_eq_true, decide_eq_true_eq]; exact ⟨⟨⟨⟨⟨⟨c1, hs⟩, hs2⟩, hl⟩, c2⟩, c3⟩, c4⟩)]
  cases aNew (st q h) (zeros z.cells.toList c) inf.size <;> rfl

/-- a call, by what is known of it -/
theorem CallO_of {g : FuncId} {vs : List Value} {Q : Value → H → Prop} (hs : CallsE P E g vs (st q h) Q) (hd : d < n) (hk : ∀ v h', Q v h' → (q = true → h.next ≤ h'.wm) ∧ At P E n ops q r tl k (Tr.put α d v) (fin q h h') R) :
    CallO P E n ops q r tl k α h R (some d) (some (.func (.func g) #[] #[])) (some vs) := by
  unfold CallO
  have e : (#[] : Array Value).toList ++ vs ++ (#[] : Array Value).toList = vs := by simp
  simp only
  rw [e]
  refine hs.mono fun v h' hq => ?_
  rw [HeapO_some hd]
  exact hk v h' hq

/-- what a function that leaves all that was returns -/
def Spec (P : Program) (E : Env) (g : FuncId) (vs : List Value) (h : H) (Q : Value → H → Prop) : Prop := CallsE P E g vs h fun v h' => Pres h.next h h' ∧ Q v h'

theorem Spec.mono {g : FuncId} {vs : List Value} {Q Q' : Value → H → Prop} (hs : Spec P E g vs h Q) (hq : ∀ v h', Pres h.next h h' → Q v h' → Q' v h') : Spec P E g vs h Q' :=
  CallsE.mono hs fun v h' ⟨a, b⟩ => ⟨a, hq v h' a b⟩

theorem CallO_spec {g : FuncId} {vs : List Value} {Q : Value → H → Prop} (hs : Spec P E g vs (st q h) Q) (hd : d < n) (hq : ∀ v h' wm, Q v h' → Q v { h' with wm := wm }) (hk : ∀ v h', Pres h.next h h' → Q v h' → At P E n ops q r tl k (Tr.put α d v) h' R) :
    CallO P E n ops q r tl k α h R (some d) (some (.func (.func g) #[] #[])) (some vs) := by
  refine CallO_of hs hd fun v h' ⟨a, b⟩ => ?_
  cases q with
  | false => exact ⟨fun e => (by cases e), hk v h' a b⟩
  | true =>
    have hw := a.wm
    have hw' : min h.next h.next ≤ h'.wm := hw
    refine ⟨fun _ => by omega, hk v { h' with wm := h.wm } ⟨a.next, Nat.min_le_left _ _, a.get⟩ (hq _ _ _ b)⟩
/-- the same, where the text's order holds -/
theorem CallO_f {g : FuncId} {vs : List Value} {Q : Value → H → Prop} (hs : Spec P E g vs h Q) (hd : d < n) (hk : ∀ v h', Pres h.next h h' → Q v h' → At P E n ops false r tl k (Tr.put α d v) h' R) :
    CallO P E n ops false r tl k α h R (some d) (some (.func (.func g) #[] #[])) (some vs) :=
  CallO_of hs hd fun v h' ⟨a, b⟩ => ⟨fun e => (by cases e), hk v h' a b⟩
end
end
end Go.Proofs.YtngpoamjhngcgaaGreatDoor.Ev

/- Symbolic runs: slices, append, store. -/
namespace Go.Proofs.YtngpoamjhngcgaaGreatDoor.Ev
open Go
variable {P : Program} {E : Env}
noncomputable section

def blkOf : Value → Option Nat
  | .slice (some ⟨b, _, none⟩) _ _ => some b
  | _ => none
/-- a slice without elements that is not nil -/
def empV : Value := .slice (some ⟨0, 0, some 0⟩) 0 0

/-- a slice: n elements of sz cells each, the cells are L; its block lies from lo on, below hi -/
inductive SlV (B : Tr Blk) (lo hi sz n : Nat) (L : List Value) : Value → Prop
  | nil (hn : n = 0) (hL : L = []) : SlV B lo hi sz n L (.slice none 0 0)
  | emp (hn : n = 0) (hL : L = []) : SlV B lo hi sz n L (.slice (some ⟨0, 0, some 0⟩) 0 0)
  | mk {b off c size : Nat} {cells : Tr Value} (hb : B.get b = some (.mk cells size sz)) (hlo : lo ≤ b) (hhi : b < hi) (hsz : off + n * sz ≤ size) (hL : L.length = n * sz) (hc : ∀ i, i < n * sz → cells.get (off + i) = L[i]?) :
      SlV B lo hi sz n L (.slice (some ⟨b, off, none⟩) n c)

section
variable {B B' : Tr Blk} {lo hi sz n : Nat} {L : List Value} {v : Value}
theorem SlV.len (s : SlV B lo hi sz n L v) : L.length = n * sz := by
  cases s with
  | nil hn hL => subst hn; subst hL; simp
  | emp hn hL => subst hn; subst hL; simp
  | mk _ _ _ _ hL _ => exact hL
theorem SlV.shape (s : SlV B lo hi sz n L v) : ∃ A c, v = .slice A n c := by
  cases s with
  | nil hn hL => subst hn; exact ⟨none, 0, rfl⟩
  | emp hn hL => subst hn; exact ⟨some ⟨0, 0, some 0⟩, 0, rfl⟩
  | mk _ _ _ _ hL _ => exact ⟨_, _, rfl⟩
theorem SlV.mono (s : SlV B lo hi sz n L v) (hB : ∀ b, lo ≤ b → b < hi → B'.get b = B.get b) : SlV B' lo hi sz n L v := by
  cases s with
  | nil hn hL => exact .nil hn hL
  | emp hn hL => exact .emp hn hL
  | mk hb hlo hhi hsz hL hc => exact .mk ((hB _ hlo hhi).trans hb) hlo hhi hsz hL hc
theorem SlV.wide (s : SlV B lo hi sz n L v) {lo' hi' : Nat} (h1 : lo' ≤ lo) (h2 : hi ≤ hi') : SlV B lo' hi' sz n L v := by
  cases s with
  | nil hn hL => exact .nil hn hL
  | emp hn hL => exact .emp hn hL
  | mk hb hlo hhi hsz hL hc => exact .mk hb (Nat.le_trans h1 hlo) (Nat.lt_of_lt_of_le hhi h2) hsz hL hc
theorem SlV.at_ {A : Option Addr} {c : Nat} (s : SlV B lo hi sz n L (.slice A n c)) (h0 : 0 < n) : ∃ b off, A = some ⟨b, off, none⟩ ∧ lo ≤ b ∧ b < hi ∧ ∀ i, i < n * sz → loadv B b (off + i) = L[i]? := by
  cases s with
  | nil hn hL => omega
  | emp hn hL => omega
  | mk hb hlo hhi hsz hL hc =>
    refine ⟨_, _, rfl, hlo, hhi, fun i hi => ?_⟩
    simp only [loadv, hb]
    rw [if_pos (by omega)]
    exact hc i hi
end

theorem getCells_of : ∀ (n i : Nat) (t : Tr Value) (L : List Value), L.length = n → (∀ j, j < n → t.get (i + j) = L[j]?) → getCells t i n = some L
  | 0, i, t, L, hl, _ => by
    have : L = [] := List.eq_nil_of_length_eq_zero hl
    subst this; rfl
  | n + 1, i, t, [], hl, _ => by simp at hl
  | n + 1, i, t, v :: L, hl, hc => by
    have h0 := hc 0 (by omega)
    have ih := getCells_of n (i + 1) t L (by simpa using hl) (fun j hj => by
      have := hc (j + 1) (by omega)
      rw [show i + 1 + j = i + (j + 1) by omega, this]; simp)
    simp only [Nat.add_zero, List.getElem?_cons_zero] at h0
    simp only [getCells, h0, ih]

theorem setCells_get : ∀ (vs : List Value) (t : Tr Value) (i k : Nat), (setCells t i vs).get k = if i ≤ k ∧ k < i + vs.length then vs[k - i]? else t.get k
  | [], t, i, k => by simp [setCells]; omega
  | v :: vs, t, i, k => by
    simp only [setCells, Tr.force_eq]
    rw [setCells_get, Tr.get_put]
    simp only [List.length_cons]
    by_cases h1 : k = i
    · subst h1
      rw [if_neg (by omega), if_pos rfl, if_pos (by omega)]
      simp
    · by_cases h2 : i + 1 ≤ k ∧ k < i + 1 + vs.length
      · rw [if_pos h2, if_pos (by omega)]
        have : k - i = (k - (i + 1)) + 1 := by omega
        rw [this, List.getElem?_cons_succ]
      · rw [if_neg h2, if_neg h1, if_neg (by omega)]

/-- what append does -/
structure App (h h' : H) (ob : Option Nat) (cells : List Value) (es : Nat) : Prop where
  next : h'.next = h.next + 1
  wm : ∀ m, (∀ b, ob = some b → m ≤ b) → min h.wm m ≤ h'.wm
  get : ∀ b, h'.blks.get b = if b = h.next then some (.mk (Tr.ofList cells) cells.length es) else if ob = some b then some .dead else h.blks.get b
theorem App.pres {h h' : H} {ob : Option Nat} {cells : List Value} {es m : Nat} (a : App h h' ob cells es) (hm : m ≤ h.next) (hb : ∀ b, ob = some b → m ≤ b) : Pres m h h' :=
  ⟨by have := a.next; omega, a.wm m hb, fun x hx => by
    rw [a.get, if_neg (by omega)]
    split
    · rename_i hob
      have := hb x hob
      omega
    · rfl⟩
theorem App.slv {h h' : H} {ob : Option Nat} {cells : List Value} {es n c : Nat} (a : App h h' ob cells es) (hl : cells.length = n * es) : SlV h'.blks h.next h'.next es n cells (.slice (some ⟨h.next, 0, none⟩) n c) := by
  refine .mk (by rw [a.get, if_pos rfl]) (Nat.le_refl _) (by have := a.next; omega) (by omega) hl fun i hi => ?_
  rw [Tr.ofList_get, Nat.zero_add]
theorem New.slv {h h' : H} {cells : List Value} {es n c : Nat} (a : New h h' cells es) (hl : cells.length = n * es) : SlV h'.blks h.next h'.next es n cells (.slice (some ⟨h.next, 0, none⟩) n c) := by
  refine .mk (by rw [a.get, if_pos rfl]) (Nat.le_refl _) (by have := a.next; omega) (by omega) hl fun i hi => ?_
  rw [Tr.ofList_get, Nat.zero_add]

/-- what a write does -/
structure Sto (h h' : H) (b off : Nat) (vs : List Value) : Prop where
  next : h'.next = h.next
  wm : min h.wm b ≤ h'.wm
  get : ∀ b', b' ≠ b → h'.blks.get b' = h.blks.get b'
  at_ : ∀ cells size es, h.blks.get b = some (.mk cells size es) → h'.blks.get b = some (.mk (setCells cells off vs) size es)
theorem Sto.pres {h h' : H} {b off m : Nat} {vs : List Value} (a : Sto h h' b off vs) (hm : m ≤ b) : Pres m h h' :=
  ⟨by rw [a.next]; exact Nat.le_refl _, by have := a.wm; omega, fun x hx => a.get x (by omega)⟩
/-- the slice that was written to -/
theorem Sto.slv {h h' : H} {b off j sz n lo hi c : Nat} {vs L : List Value} (a : Sto h h' b (off + j) vs) (s : SlV h.blks lo hi sz n L (.slice (some ⟨b, off, none⟩) n c)) (hj : j + vs.length ≤ n * sz) :
    SlV h'.blks lo hi sz n (L.take j ++ vs ++ L.drop (j + vs.length)) (.slice (some ⟨b, off, none⟩) n c) := by
  cases s with
  | mk hb hlo hhi hsz hL hc =>
    refine .mk (a.at_ _ _ _ hb) hlo hhi hsz (by simp; omega) fun i hi => ?_
    rw [setCells_get]
    have hlt : (L.take j ++ vs).length = j + vs.length := by simp; omega
    by_cases h1 : off + j ≤ off + i ∧ off + i < off + j + vs.length
    · rw [if_pos h1, List.getElem?_append_left (by omega), List.getElem?_append_right (by simp; omega)]
      congr 1
      simp; omega
    · rw [if_neg h1, hc i hi]
      by_cases h2 : i < j
      · rw [List.getElem?_append_left (by omega), List.getElem?_append_left (by simp; omega), List.getElem?_take, if_pos h2]
      · rw [List.getElem?_append_right (by omega), List.getElem?_drop, hlt]
        congr 1
        omega

/-- a loop: j rounds at most are still to come -/
theorem WK_loopN {n : Nat} {b : Code} {k : List Frm} {R : Rt} (I : Nat → Tr Value → H → Prop) (N : Nat) {α : Tr Value} {h : H} (h0 : I N α h) (hN : N < 4611686018427387904)
    (step : ∀ (J : Tr Value → H → Prop) j α1 h1, I j α1 h1 → (∀ j' α2 h2, j' < j → I j' α2 h2 → J α2 h2) → WK P E n b (.inv J :: k) α1 h1 R) : WK P E n (.loop b) k α h R := by
  have key : ∀ j α h, I j α h → ∃ F e α' h', evLoop (run P E F) n b (j + 1) α h = some (e, α', h') ∧ cont P E n k e α' h' R := by
    intro j
    induction j using Nat.strongRecOn with
    | _ j ih =>
      intro α h hI
      obtain ⟨F, e, α', h', h1, h2⟩ := step (fun α2 h2 => ∃ j', j' < j ∧ I j' α2 h2) j α h hI fun j' α2 h2 hlt hI' => ⟨j', hlt, hI'⟩
      cases e with
      | normal =>
        obtain ⟨j', hlt, hI'⟩ := h2
        obtain ⟨F2, e2, α2, h2', h3, h4⟩ := ih j' hlt α' h' hI'
        refine ⟨max F F2, e2, α2, h2', ?_, h4⟩
        rw [evLoop, run_mono (Nat.le_max_left F F2) _ _ _ _ _ h1]
        exact evLoop_le (by omega) (evLoop_mono (run_mono (Nat.le_max_right F F2)) h3)
      | exit id => exact ⟨F, _, _, _, by rw [evLoop, h1], h2⟩
      | ret => exact ⟨F, _, _, _, by rw [evLoop, h1], h2⟩
  obtain ⟨F, e, α', h', h1, h2⟩ := key N α h h0
  exact ⟨F + 1, e, α', h', evLoop_le (by omega) h1, h2⟩

section
variable {n : Nat} {ops : List Oper} {q : Bool} {r tl : List Oper} {k : List Frm} {α : Tr Value} {h : H} {R : Rt} {d : Nat} {ty : TypeId} {pos : String} {af : Array Edge}

theorem srcCells_of {lo hi sz m : Nat} {M : List Value} {v : Value} (s : SlV h.blks lo hi sz m M v) (hm : 0 < m) : srcLen v = some m ∧ srcCells h sz m v = some M := by
  cases s with
  | nil hn hL => omega
  | emp hn hL => omega
  | mk hb hlo hhi hsz hL hc =>
    refine ⟨rfl, ?_⟩
    simp only [srcCells, rd, hb]
    rw [if_pos hsz]
    exact getCells_of _ _ _ _ hL hc

theorem notInt_slice {e : TypeId} : notInt (.slice e) = true := rfl

theorem At_append [NoFz E] {x y : Operand} {ts tx elem elem' : TypeId} {inf : TypeInfo} {z : Value} {lo hi lo2 hi2 sl m sc : Nat} {L M : List Value} {A : Option Addr} {v : Value} (hu : E.u ts = some (.slice elem)) (hux : E.u tx = some (.slice elem')) (hi' : E.i elem = some inf) (hz : inf.zero = some z)
    (hc : (okConst z && decide (z.cells.size = inf.size) && decide (0 < inf.size) && decide (inf.bytes < 65536)) = true) (hx : ev E h α x = some (.slice A sl sc)) (hs : SlV h.blks lo hi inf.size sl L (.slice A sl sc)) (hcap : sc < sl + m) (hG : E.G ≤ lo) (hy : ev E h α y = some v) (hv : SlV h.blks lo2 hi2 inf.size m M v)
    (hm : 0 < m) (hsm : sl + m < 2147483648) (hone : M.all oneB = true) (hd : d < n)
    (hk : ∀ h', App h h' (blkOf (.slice A sl sc)) (L ++ M) inf.size → At P E n ops false r tl k (Tr.put α d (.slice (some ⟨h.next, 0, none⟩) (sl + m) (sl + m))) h' R) :
    At P E n ops false (⟨some d, .call ⟨.builtin .append, #[x, y], #[ts, tx]⟩, ty, pos, af, none⟩ :: r) tl k α h R := by
  rw [At_heap rfl rfl]
  obtain ⟨e1, e2⟩ := srcCells_of hv hm
  simp only [Bool.and_eq_true, decide_eq_true_eq] at hc
  obtain ⟨⟨⟨c1, c2⟩, c3⟩, c4⟩ := hc
  have hcond : (okConst z && decide (z.cells.size = inf.size) && decide (0 < inf.size) && decide (inf.bytes < 65536) && decide (sl + m < 2147483648) && M.all oneB && decide (M.length = m * inf.size)) = true := by
    simp only [Bool.and_eq_true, decide_eq_true_eq]
    exact ⟨⟨⟨⟨⟨⟨c1, c2⟩, c3⟩, c4⟩, hsm⟩, hone⟩, hv.len⟩
  have hm0 : ¬ m = 0 := by omega
  have key : ∃ h', evAppend E h ts tx (.slice A sl sc) v = some (.slice (some ⟨h.next, 0, none⟩) (sl + m) (sl + m), h') ∧ App h h' (blkOf (.slice A sl sc)) (L ++ M) inf.size := by
    cases hs with
    | nil hn hL =>
      subst hL
      obtain ⟨h', h1, h2⟩ := aNew_mk h M inf.size
      refine ⟨h', ?_, ?_⟩
      · simp only [evAppend, hu, hux, e1, notInt_slice, hi', hm0, hz, e2, h1, forceN_eq]
        rw [if_pos hcond]
        simp
      · exact ⟨h2.next, fun mm _ => by have := h2.wm; omega, fun b => by
          rw [h2.get]
          simp [blkOf]⟩
    | emp hn hL =>
      subst hL
      obtain ⟨h', h1, h2⟩ := aNew_mk h M inf.size
      refine ⟨h', ?_, ?_⟩
      · simp only [evAppend, hu, hux, e1, notInt_slice, hi', hm0, hz, e2, h1, forceN_eq]
        rw [if_pos hcond]
        simp
      · exact ⟨h2.next, fun mm _ => by have := h2.wm; omega, fun b => by
          rw [h2.get]
          simp [blkOf]⟩
    | mk hb hlo hhi hsz hL hcl =>
      rename_i b off size cells
      have hroom : ¬ sl + m ≤ sc := by omega
      have hrd : rd h b off (sl * inf.size) = some L := by
        simp only [rd, hb]
        rw [if_pos hsz]
        exact getCells_of _ _ _ _ hL hcl
      have hkill : kill E h b = some { blks := Tr.put h.blks b .dead, next := h.next, wm := min h.wm b } := by
        simp only [kill, hb, Tr.force_eq, forceN_eq]
        rw [if_pos (by omega)]
      obtain ⟨h', h1, h2⟩ := aNew_mk { blks := Tr.put h.blks b .dead, next := h.next, wm := min h.wm b } (L ++ M) inf.size
      refine ⟨h', ?_, ?_⟩
      · simp only [evAppend, hu, hux, e1, notInt_slice, hi', hm0, hz, e2, hb, if_true, hroom, if_false, hrd, NoFz.grow, hkill, h1, forceN_eq]
        rw [if_pos hcond]
        simp
      · refine ⟨h2.next, fun mm hmm => ?_, fun b' => ?_⟩
        · have h3 := hmm b rfl
          have h4 := h2.wm
          simp only at h4
          omega
        · rw [h2.get]
          simp only [Tr.get_put, blkOf]
          by_cases hb' : b' = b
          · subst hb'; simp
          · rw [if_neg hb']
            simp [Ne.symm hb']
  obtain ⟨h', h1, h2⟩ := key
  have e : evOp P E nocall (st false h) α ⟨some d, .call ⟨.builtin .append, #[x, y], #[ts, tx]⟩, ty, pos, af, none⟩ = some (.slice (some ⟨h.next, 0, none⟩) (sl + m) (sl + m), h') := by
    rw [evOp_eq]
    simp only [evOpS, evs, st, hx, hy]
    exact h1
  rw [e, HeapO_some hd]
  exact ⟨fun e => (by cases e), hk h' h2⟩

/-- an empty literal -/
theorem At_lit0 {t elem : TypeId} {inf : TypeInfo} {z : Value} {d : Nat} (hu : E.u t = some (.slice elem)) (hi : E.i elem = some inf) (hz : inf.zero = some z)
    (hc : (okConst z && decide (0 * inf.size < 16777216) && decide (z.cells.size = inf.size) && decide (0 < inf.size)) = true) (hd : d < n) (hk : At P E n ops q r tl k (Tr.put α d empV) h R) :
    At P E n ops q (⟨some d, .buildSlice t 0 #[], ty, pos, af, none⟩ :: r) tl k α h R := by
  rw [At_pure (v := some empV) rfl rfl fun h1 hb => ?_]
  · exact (PutO_some hd).2 hk
  · rw [evOp_eq]
    simp only [evOpS, evParts, evBuildSlice, hu, hi, hz]
    rw [if_pos hc]
    rfl
/-- append of nothing -/
theorem At_append0 {x y : Operand} {ts tx elem elem' : TypeId} {inf : TypeInfo} {sl sc d : Nat} {A : Option Addr} {v : Value} (hu : E.u ts = some (.slice elem)) (hux : E.u tx = some (.slice elem')) (hi' : E.i elem = some inf)
    (hx : ev E h α x = some (.slice A sl sc)) (hy : ev E h α y = some v) (hv : srcLen v = some 0) (hd : d < n) (hk : At P E n ops q r tl k (Tr.put α d (.slice A sl sc)) h R) :
    At P E n ops q (⟨some d, .call ⟨.builtin .append, #[x, y], #[ts, tx]⟩, ty, pos, af, none⟩ :: r) tl k α h R := by
  rw [At_pure (v := some (.slice A sl sc)) rfl rfl fun h1 hb => ?_]
  · exact (PutO_some hd).2 hk
  · rw [evOp_eq]
    have hx1 := (ev_blks hb x).trans hx
    have hy1 := (ev_blks hb y).trans hy
    simp only [evOpS, evs, hx1, hy1]
    show evAppend E h1 ts tx (.slice A sl sc) v = _
    simp only [evAppend, hu, hux, hv, notInt_slice, hi']
    simp [asV]
/-- append to an empty literal: a new slice -/
theorem At_appendE {x y : Operand} {ts tx elem elem' : TypeId} {inf : TypeInfo} {z : Value} {lo2 hi2 m d : Nat} {M : List Value} {v : Value} (hu : E.u ts = some (.slice elem)) (hux : E.u tx = some (.slice elem')) (hi' : E.i elem = some inf) (hz : inf.zero = some z)
    (hc : (okConst z && decide (z.cells.size = inf.size) && decide (0 < inf.size) && decide (inf.bytes < 65536)) = true) (hx : ev E h α x = some empV) (hy : ev E h α y = some v) (hv : SlV h.blks lo2 hi2 inf.size m M v)
    (hsm : m < 2147483648) (hone : M.all oneB = true) (hd : d < n)
    (hk : ∀ A' c' h', Pres h.next h h' → SlV h'.blks h.next h'.next inf.size m M (.slice A' m c') → At P E n ops q r tl k (Tr.put α d (.slice A' m c')) h' R) :
    At P E n ops q (⟨some d, .call ⟨.builtin .append, #[x, y], #[ts, tx]⟩, ty, pos, af, none⟩ :: r) tl k α h R := by
  by_cases hm : m = 0
  · subst hm
    have hM : M = [] := List.length_eq_zero_iff.1 (by rw [hv.len]; simp)
    subst hM
    have hs : srcLen v = some 0 := by cases hv <;> first | (rename_i hn hL; rfl) | rfl
    exact At_append0 hu hux hi' hx hy hs hd (hk _ _ h (Pres.refl _ _) (.emp rfl rfl))
  · rw [At_heap rfl rfl]
    have hst : (st q h).blks = h.blks := by cases q <;> rfl
    have hv' : SlV (st q h).blks lo2 hi2 inf.size m M v := by rw [hst]; exact hv
    obtain ⟨e1, e2⟩ := srcCells_of hv' (by omega)
    simp only [Bool.and_eq_true, decide_eq_true_eq] at hc
    obtain ⟨⟨⟨c1, c2⟩, c3⟩, c4⟩ := hc
    have hcond : (okConst z && decide (z.cells.size = inf.size) && decide (0 < inf.size) && decide (inf.bytes < 65536) && decide (0 + m < 2147483648) && M.all oneB && decide (M.length = m * inf.size)) = true := by
      simp only [Bool.and_eq_true, decide_eq_true_eq]
      exact ⟨⟨⟨⟨⟨⟨c1, c2⟩, c3⟩, c4⟩, by omega⟩, hone⟩, hv.len⟩
    refine HeapO_new (cells := M) (es := inf.size) (fun b => .slice (some ⟨b, 0, none⟩) m m) hd ?_ fun h' hn => hk (some ⟨h.next, 0, none⟩) m h' (hn.pres (Nat.le_refl _)) (hn.slv hv.len)
    rw [evOp_eq]
    have hx1 := (ev_blks hst x).trans hx
    have hy1 := (ev_blks hst y).trans hy
    simp only [evOpS, evs, hx1, hy1]
    show evAppend E (st q h) ts tx empV v = _
    simp only [evAppend, empV, hu, hux, e1, notInt_slice, hi', hm, hz, e2]
    rw [if_pos hcond]
    cases aNew (st q h) M inf.size with
    | none => rfl
    | some x => simp [forceN_eq]

theorem At_store [NoFz E] {t : TypeId} {x y : Operand} {inf : TypeInfo} {b off size es : Nat} {cells : Tr Value} {v : Value} (hi : E.i t = some inf) (hx : ev E h α x = some (.pointer (some ⟨b, off, none⟩))) (hy : ev E h α y = some v)
    (hl : v.cells.size = inf.size) (hone : v.cells.toList.all oneB = true) (hb : h.blks.get b = some (.mk cells size es)) (hle : off + inf.size ≤ size) (hG : E.G ≤ b)
    (hk : ∀ h', Sto h h' b off v.cells.toList → At P E n ops false r tl k α h' R) : At P E n ops false (⟨none, .store t x y, ty, pos, af, none⟩ :: r) tl k α h R := by
  rw [At_heap rfl rfl]
  have hlen : v.cells.toList.length = inf.size := by simpa using hl
  have e : evOp P E nocall (st false h) α ⟨none, .store t x y, ty, pos, af, none⟩ = some (undef, { blks := Tr.put h.blks b (.mk (setCells cells off v.cells.toList) size es), next := h.next, wm := min h.wm b }) := by
    rw [evOp_eq]
    simp only [evOpS, st, hx, hy, evStore, hi, hl, if_true, wr, hb, Tr.force_eq, forceN_eq]
    rw [if_pos ⟨by omega, hG, hone, NoFz.frz _⟩]
  rw [e, HeapO_none]
  refine ⟨fun e => (by cases e), hk _ ⟨rfl, Nat.le_refl _, fun b' hb' => ?_, fun c2 s2 e2 h2 => ?_⟩⟩
  · show (Tr.put h.blks b _).get b' = _
    rw [Tr.get_put, if_neg hb']
  · show (Tr.put h.blks b _).get b = _
    rw [Tr.get_put, if_pos rfl]
    rw [hb] at h2
    injection h2 with h2
    injection h2 with f1 f2 f3
    subst f1; subst f2; subst f3
    rfl

/-- s = append(s, v) -/
structure Push (h h' : H) (ob : Option Nat) (cells : List Value) (es : Nat) : Prop where
  next : h'.next = h.next + 2
  wm : ∀ m, (∀ b, ob = some b → m ≤ b) → min h.wm m ≤ h'.wm
  get : ∀ b, b < h.next → h'.blks.get b = if ob = some b then some .dead else h.blks.get b
  new : h'.blks.get (h.next + 1) = some (.mk (Tr.ofList cells) cells.length es)
theorem Push.pres {h h' : H} {ob : Option Nat} {cells : List Value} {es m : Nat} (a : Push h h' ob cells es) (hm : m ≤ h.next) (hb : ∀ b, ob = some b → m ≤ b) : Pres m h h' :=
  ⟨by have := a.next; omega, a.wm m hb, fun x hx => by
    rw [a.get x (by omega)]
    split
    · rename_i hob
      have := hb x hob
      omega
    · rfl⟩
theorem Push.slv {h h' : H} {ob : Option Nat} {cells : List Value} {es n c : Nat} (a : Push h h' ob cells es) (hl : cells.length = n * es) : SlV h'.blks (h.next + 1) h'.next es n cells (.slice (some ⟨h.next + 1, 0, none⟩) n c) := by
  refine .mk a.new (Nat.le_refl _) (by have := a.next; omega) (by omega) hl fun i hi => ?_
  rw [Tr.ofList_get, Nat.zero_add]
/-- another slice -/
theorem Push.other {h h' : H} {ob : Option Nat} {cells : List Value} {es lo hi sz n : Nat} {L : List Value} {v : Value} (a : Push h h' ob cells es) (s : SlV h.blks lo hi sz n L v) (hhi : hi ≤ h.next) (hne : ∀ b, ob = some b → b < lo ∨ hi ≤ b) : SlV h'.blks lo hi sz n L v :=
  s.mono fun b h1 h2 => by
    rw [a.get b (by omega)]
    split
    · rename_i hob
      have := hne b hob
      omega
    · rfl

theorem At_push [NoFz E] {s d1 : Nat} {x : Operand} {t elem : TypeId} {inf : TypeInfo} {z v : Value} {lo hi sl sc : Nat} {L vs : List Value} {A : Option Addr} {ty' : TypeId} {pos' : String} {af' : Array Edge} (hu : E.u t = some (.slice elem)) (hi' : E.i elem = some inf) (hz : inf.zero = some z)
    (hc : (okConst z && decide (z.cells.size = inf.size) && decide (0 < inf.size) && decide (inf.bytes < 65536) && decide (inf.size < 16777216)) = true) (hx : ev E h α x = some v)
    (hf : Instr.fill (fun i => some (i * inf.size, inf.size)) (zeros z.cells.toList 1).toArray [(0, v)] = some vs.toArray) (hl : vs.length = inf.size) (hone : vs.all oneB = true)
    (hs : α.get s = some (.slice A sl sc)) (hsl : SlV h.blks lo hi inf.size sl L (.slice A sl sc)) (hhi : hi ≤ h.next) (hcap : sc ≤ sl) (hG : E.G ≤ lo) (hsm : sl < 2147483640) (hsd : s ≠ d1) (hd1 : d1 < n) (hd : d < n)
    (hk : ∀ h', Push h h' (blkOf (.slice A sl sc)) (L ++ vs) inf.size → At P E n ops false r tl k (Tr.put (Tr.put α d1 (.slice (some ⟨h.next, 0, none⟩) 1 1)) d (.slice (some ⟨h.next + 1, 0, none⟩) (sl + 1) (sl + 1))) h' R) :
    At P E n ops false (⟨some d1, .buildSlice t 1 #[(0, x)], ty, pos, af, none⟩ :: ⟨some d, .call ⟨.builtin .append, #[.tmp s, .tmp d1], #[t, t]⟩, ty', pos', af', none⟩ :: r) tl k α h R := by
  have hc' := hc
  simp only [Bool.and_eq_true, decide_eq_true_eq] at hc'
  obtain ⟨⟨⟨⟨c1, c2⟩, c3⟩, c4⟩, c5⟩ := hc'
  refine At_lit (vs := [(0, v)]) (cs := vs.toArray) hu hi' hz (by simp only [Bool.and_eq_true, decide_eq_true_eq]; exact ⟨⟨⟨c1, by omega⟩, c2⟩, c3⟩) (by simp only [evParts, hx]) hf hd1 fun h1 hn => ?_
  have hl1 : vs.length = 1 * inf.size := by omega
  have hsl1 : SlV h1.blks lo hi inf.size sl L (.slice A sl sc) := hsl.mono fun b g1 g2 => by rw [hn.get, if_neg (by omega)]
  refine At_append (m := 1) (L := L) (M := vs) hu hu hi' hz (by simp only [Bool.and_eq_true, decide_eq_true_eq]; exact ⟨⟨⟨c1, c2⟩, c3⟩, c4⟩) (by rw [ev_tmp, Tr.get_put, if_neg hsd, hs]; rfl) hsl1 (by omega) hG (by rw [ev_tmp, Tr.get_put, if_pos rfl]; rfl) (hn.slv (by simpa using hl1)) (by omega) (by omega) hone hd fun h2 ha => ?_
  have e := hn.next
  rw [e]
  refine hk h2 ⟨by rw [ha.next, e], fun m hm => by have := ha.wm m hm; rw [hn.wm] at this; exact this, fun b hb => ?_, ?_⟩
  · rw [ha.get, if_neg (by omega)]
    split
    · rfl
    · rw [hn.get, if_neg (by omega)]
  · have := ha.get (h.next + 1)
    rw [if_pos (by omega)] at this
    exact this
end
end
end Go.Proofs.YtngpoamjhngcgaaGreatDoor.Ev

