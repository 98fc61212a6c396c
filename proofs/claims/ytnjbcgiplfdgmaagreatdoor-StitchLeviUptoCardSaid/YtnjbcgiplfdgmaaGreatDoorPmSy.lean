/- Symbolic runs: what a run comes to, by equations that simp can use. Definitions and structure. -/
import Derived.Test.YtnjbcgiplfdgmaaGreatDoorPmSx
namespace Go.Proofs.YtnjbcgiplfdgmaaGreatDoor.Ev
open Go

/-- the call returns, and what it returns is so -/
def CallsE (P : Program) (E : Env) (f : FuncId) (args : List Value) (h : H) (Q : Value → H → Prop) : Prop :=
  ∃ F v h', callWith E (run P E F) f args h = some (v, h') ∧ Q v h'
def W (P : Program) (E : Env) (n : Nat) (c : Code) (α : Tr Value) (h : H) (Q : Ex → Tr Value → H → Prop) : Prop :=
  ∃ F e α' h', run P E F n c α h = some (e, α', h') ∧ Q e α' h'
def WL (P : Program) (E : Env) (n : Nat) (ops l : List Oper) (α : Tr Value) (h : H) (K : Tr Value → H → Prop) : Prop :=
  ∃ F α' h', evList P E (callWith E (run P E F)) n ops l h α = some (α', h') ∧ K α' h'
def WQ (P : Program) (E : Env) (n : Nat) (ops l : List Oper) (α : Tr Value) (h : H) (K : Tr Value → H → Prop) : Prop :=
  ∃ F α' h', evQuiet P E (callWith E (run P E F)) n ops l h α = some (α', h') ∧ K α' h'

/-- what is still to do, outside -/
inductive Frm where
  | seq (b : Code)
  | block (id : Nat)
  | inv (J : Tr Value → H → Prop)
  | round (J : H → Prop) (β : Tr Value)

structure Rt where
  rs : List ResultVar
  Q : Value → H → Prop

def RetO (Q : Value → H → Prop) (h : H) : Option (List Value) → Prop
  | some [v] => Q v h
  | some vs => Q (.tuple vs.toArray) h
  | none => False

def RetV (h : H) : Option (List Value) → Option (Value × H)
  | some [v] => some (v, h)
  | some vs => some (.tuple vs.toArray, h)
  | none => none

def cont (P : Program) (E : Env) (n : Nat) : List Frm → Ex → Tr Value → H → Rt → Prop
  | [], .exit _, _, _, _ => False
  | [], _, α, h, R => RetO R.Q h (resultsA E h α R.rs)
  | .seq b :: k, .normal, α, h, R => W P E n b α h fun e α' h' => cont P E n k e α' h' R
  | .seq _ :: k, e, α, h, R => cont P E n k e α h R
  | .block id :: k, .exit id', α, h, R => if id' = id then cont P E n k .normal α h R else cont P E n k (.exit id') α h R
  | .block _ :: k, e, α, h, R => cont P E n k e α h R
  | .inv J :: _, .normal, α, h, _ => J α h
  | .inv _ :: k, e, α, h, R => cont P E n k e α h R
  | .round J _ :: _, .normal, _, h, _ => J h
  | .round _ β :: k, e, _, h, R => cont P E n k e β h R

def WK (P : Program) (E : Env) (n : Nat) (c : Code) (k : List Frm) (α : Tr Value) (h : H) (R : Rt) : Prop :=
  W P E n c α h fun e α' h' => cont P E n k e α' h' R

def CondO (P : Program) (E : Env) (n : Nat) (a b : Code) (k : List Frm) (α : Tr Value) (h : H) (R : Rt) : Option Value → Prop
  | some (.bool true) => WK P E n a k α h R
  | some (.bool false) => WK P E n b k α h R
  | _ => False

/-- operations: 'q': in the first part of a region that draws -/
def At (P : Program) (E : Env) (n : Nat) (ops : List Oper) (q : Bool) (r t : List Oper) (k : List Frm) (α : Tr Value) (h : H) (R : Rt) : Prop :=
  match q with
  | false => WL P E n ops r α h fun α' h' => cont P E n k .normal α' h' R
  | true => WQ P E n ops r α h fun α' h' => WL P E n ops t α' h' fun α' h' => cont P E n k .normal α' h' R

def st (q : Bool) (h : H) : H := match q with
  | true => { blks := h.blks, next := h.next, wm := h.next }
  | false => h
def fin (q : Bool) (h h' : H) : H := match q with
  | true => { blks := h'.blks, next := h'.next, wm := h.wm }
  | false => h'

def PutO (P : Program) (E : Env) (n : Nat) (ops : List Oper) (q : Bool) (r t : List Oper) (k : List Frm) (α : Tr Value) (h : H) (R : Rt) (d : Option Tmp) : Option Value → Prop
  | some v => match put n α d v with
    | some α' => At P E n ops q r t k α' h R
    | none => False
  | none => False

def HeapO (P : Program) (E : Env) (n : Nat) (ops : List Oper) (q : Bool) (r t : List Oper) (k : List Frm) (α : Tr Value) (h : H) (R : Rt) (d : Option Tmp) : Option (Value × H) → Prop
  | some (v, h') => (q = true → h.next ≤ h'.wm) ∧ PutO P E n ops q r t k α (fin q h h') R d (some v)
  | none => False

def CallO (P : Program) (E : Env) (n : Nat) (ops : List Oper) (q : Bool) (r t : List Oper) (k : List Frm) (α : Tr Value) (h : H) (R : Rt) (d : Option Tmp) (g : Option Value) (args : Option (List Value)) : Prop :=
  match g, args with
  | some (.func (.func g) first captured), some vs => CallsE P E g (first.toList ++ vs ++ captured.toList) (st q h) fun v h' => HeapO P E n ops q r t k α h R d (some (v, h'))
  | _, _ => False

noncomputable def guardV (ops : List Oper) (α : Tr Value) (j : Nat) : Option Value := match nth ops j with
  | some oj => match oj.dst with
    | some d => α.get d
    | none => none
  | none => none

def GuardO (P : Program) (E : Env) (n : Nat) (ops : List Oper) (q : Bool) (o : Oper) (r t : List Oper) (k : List Frm) (α : Tr Value) (h : H) (R : Rt) (want : Bool) : Option Value → Prop
  | some (.bool b) => if b = want then At P E n ops q ({ o with guard := none } :: r) t k α h R else PutO P E n ops q r t k α h R o.dst (some undef)
  | some (.tuple _) => PutO P E n ops q r t k α h R o.dst (some undef)
  | _ => False

def nocall : Callf := fun _ _ _ => none

variable {P : Program} {E : Env}

theorem CallsE.mono {f : FuncId} {args : List Value} {h : H} {Q Q' : Value → H → Prop} (hc : CallsE P E f args h Q) (hq : ∀ v h', Q v h' → Q' v h') : CallsE P E f args h Q' := by
  obtain ⟨F, v, h', h1, h2⟩ := hc
  exact ⟨F, v, h', h1, hq _ _ h2⟩
theorem W.mono {n : Nat} {c : Code} {α : Tr Value} {h : H} {Q Q' : Ex → Tr Value → H → Prop} (hc : W P E n c α h Q) (hq : ∀ e α' h', Q e α' h' → Q' e α' h') : W P E n c α h Q' := by
  obtain ⟨F, e, α', h', h1, h2⟩ := hc
  exact ⟨F, e, α', h', h1, hq _ _ _ h2⟩

/- ### code -/
theorem W_skip {n : Nat} {α : Tr Value} {h : H} {Q : Ex → Tr Value → H → Prop} : W P E n .skip α h Q ↔ Q .normal α h := by
  constructor
  · rintro ⟨F, e, α', h', h1, h2⟩
    cases F with
    | zero => cases h1
    | succ F =>
      have h1' : some (Ex.normal, α, h) = some (e, α', h') := h1
      cases h1'; exact h2
  · intro hq; exact ⟨1, _, _, _, rfl, hq⟩
theorem W_label {n l : Nat} {α : Tr Value} {h : H} {Q : Ex → Tr Value → H → Prop} : W P E n (.label l) α h Q ↔ Q .normal α h := by
  constructor
  · rintro ⟨F, e, α', h', h1, h2⟩
    cases F with
    | zero => cases h1
    | succ F =>
      have h1' : some (Ex.normal, α, h) = some (e, α', h') := h1
      cases h1'; exact h2
  · intro hq; exact ⟨1, _, _, _, rfl, hq⟩
theorem W_exit {n id : Nat} {α : Tr Value} {h : H} {Q : Ex → Tr Value → H → Prop} : W P E n (.exit id) α h Q ↔ Q (.exit id) α h := by
  constructor
  · rintro ⟨F, e, α', h', h1, h2⟩
    cases F with
    | zero => cases h1
    | succ F =>
      have h1' : some (Ex.exit id, α, h) = some (e, α', h') := h1
      cases h1'; exact h2
  · intro hq; exact ⟨1, _, _, _, rfl, hq⟩
theorem W_ret {n : Nat} {α : Tr Value} {h : H} {Q : Ex → Tr Value → H → Prop} : W P E n .ret α h Q ↔ Q .ret α h := by
  constructor
  · rintro ⟨F, e, α', h', h1, h2⟩
    cases F with
    | zero => cases h1
    | succ F =>
      have h1' : some (Ex.ret, α, h) = some (e, α', h') := h1
      cases h1'; exact h2
  · intro hq; exact ⟨1, _, _, _, rfl, hq⟩

theorem W_seq {n : Nat} {a b : Code} {α : Tr Value} {h : H} {Q : Ex → Tr Value → H → Prop} :
    W P E n (.seq a b) α h Q ↔ W P E n a α h fun e α' h' => match e with
      | .normal => W P E n b α' h' Q
      | e => Q e α' h' := by
  constructor
  · rintro ⟨F, e, α', h', h1, h2⟩
    cases F with
    | zero => cases h1
    | succ F =>
      have h1' : (match run P E F n a α h with
        | some (.normal, α', h') => run P E F n b α' h'
        | r => r) = some (e, α', h') := h1
      split at h1'
      · rename_i α1 hh hx
        exact ⟨F, _, _, _, hx, F, _, _, _, h1', h2⟩
      · rename_i x hne
        refine ⟨F, _, _, _, h1', ?_⟩
        cases e with
        | normal => exact absurd h1' (hne _ _)
        | _ => exact h2
  · rintro ⟨F, e, α', h', h1, h2⟩
    cases e with
    | normal =>
      obtain ⟨F2, e2, α2, h2', h3, h4⟩ := h2
      refine ⟨max F F2 + 1, e2, α2, h2', ?_, h4⟩
      show (match run P E (max F F2) n a α h with
        | some (.normal, α', h') => run P E (max F F2) n b α' h'
        | r => r) = _
      rw [run_mono (Nat.le_max_left F F2) _ _ _ _ _ h1]
      exact run_mono (Nat.le_max_right F F2) _ _ _ _ _ h3
    | exit id =>
      refine ⟨F + 1, _, _, _, ?_, h2⟩
      show (match run P E F n a α h with
        | some (.normal, α', h') => run P E F n b α' h'
        | r => r) = _
      rw [h1]
    | ret =>
      refine ⟨F + 1, _, _, _, ?_, h2⟩
      show (match run P E F n a α h with
        | some (.normal, α', h') => run P E F n b α' h'
        | r => r) = _
      rw [h1]

theorem W_cond {n : Nat} {c : Operand} {a b : Code} {α : Tr Value} {h : H} {Q : Ex → Tr Value → H → Prop} :
    W P E n (.cond c a b) α h Q ↔ match ev E h α c with
      | some (.bool true) => W P E n a α h Q
      | some (.bool false) => W P E n b α h Q
      | _ => False := by
  constructor
  · rintro ⟨F, e, α', h', h1, h2⟩
    cases F with
    | zero => cases h1
    | succ F =>
      have h1' : (match ev E h α c with
        | some (.bool true) => run P E F n a α h
        | some (.bool false) => run P E F n b α h
        | _ => none) = some (e, α', h') := h1
      split at h1'
      · exact ⟨F, _, _, _, h1', h2⟩
      · exact ⟨F, _, _, _, h1', h2⟩
      · cases h1'
  · intro hq
    split at hq
    · rename_i hx
      obtain ⟨F, e, α', h', h1, h2⟩ := hq
      refine ⟨F + 1, e, α', h', ?_, h2⟩
      show (match ev E h α c with
        | some (.bool true) => run P E F n a α h
        | some (.bool false) => run P E F n b α h
        | _ => none) = _
      rw [hx]; exact h1
    · rename_i hx
      obtain ⟨F, e, α', h', h1, h2⟩ := hq
      refine ⟨F + 1, e, α', h', ?_, h2⟩
      show (match ev E h α c with
        | some (.bool true) => run P E F n a α h
        | some (.bool false) => run P E F n b α h
        | _ => none) = _
      rw [hx]; exact h1
    · exact hq.elim

theorem W_block {n id : Nat} {b : Code} {α : Tr Value} {h : H} {Q : Ex → Tr Value → H → Prop} :
    W P E n (.block id b) α h Q ↔ W P E n b α h fun e α' h' => match e with
      | .exit id' => if id' = id then Q .normal α' h' else Q (.exit id') α' h'
      | e => Q e α' h' := by
  constructor
  · rintro ⟨F, e, α', h', h1, h2⟩
    cases F with
    | zero => cases h1
    | succ F =>
      have h1' : (match run P E F n b α h with
        | some (.exit id', α', h') => if id' = id then some (Ex.normal, α', h') else some (Ex.exit id', α', h')
        | r => r) = some (e, α', h') := h1
      split at h1'
      · rename_i id' α1 hh hx
        refine ⟨F, _, _, _, hx, ?_⟩
        simp only
        split at h1' <;> rename_i hid
        · cases h1'; rw [if_pos hid]; exact h2
        · cases h1'; rw [if_neg hid]; exact h2
      · rename_i x hne
        refine ⟨F, _, _, _, h1', ?_⟩
        cases e with
        | exit _ => exact absurd h1' (hne _ _ _)
        | _ => exact h2
  · rintro ⟨F, e, α', h', h1, h2⟩
    have hs : ∀ r, run P E (F + 1) n (.block id b) α h = r ↔ (match run P E F n b α h with
        | some (.exit id', α', h') => if id' = id then some (Ex.normal, α', h') else some (Ex.exit id', α', h')
        | r => r) = r := fun r => Iff.rfl
    cases e with
    | exit id' =>
      simp only at h2
      split at h2 <;> rename_i hid
      · exact ⟨F + 1, _, _, _, by rw [hs, h1]; simp only; rw [if_pos hid], h2⟩
      · exact ⟨F + 1, _, _, _, by rw [hs, h1]; simp only; rw [if_neg hid], h2⟩
    | normal => exact ⟨F + 1, _, _, _, by rw [hs, h1], h2⟩
    | ret => exact ⟨F + 1, _, _, _, by rw [hs, h1], h2⟩

theorem W_congr {n : Nat} {c : Code} {α : Tr Value} {h : H} {Q Q' : Ex → Tr Value → H → Prop} (hq : ∀ e α' h', Q e α' h' ↔ Q' e α' h') : W P E n c α h Q ↔ W P E n c α h Q' :=
  ⟨fun x => x.mono fun _ _ _ => (hq _ _ _).1, fun x => x.mono fun _ _ _ => (hq _ _ _).2⟩

section
variable {n : Nat} {k : List Frm} {α : Tr Value} {h : H} {R : Rt}
theorem WK_seq {a b : Code} : WK P E n (.seq a b) k α h R ↔ WK P E n a (.seq b :: k) α h R := by
  unfold WK
  rw [W_seq]
  exact W_congr fun e _ _ => by cases e <;> rfl
theorem WK_block {id : Nat} {b : Code} : WK P E n (.block id b) k α h R ↔ WK P E n b (.block id :: k) α h R := by
  unfold WK
  rw [W_block]
  exact W_congr fun e _ _ => by cases e <;> rfl
theorem WK_cond {c : Operand} {a b : Code} : WK P E n (.cond c a b) k α h R ↔ CondO P E n a b k α h R (ev E h α c) := by
  unfold WK
  rw [W_cond]
  rfl
theorem WK_skip : WK P E n .skip k α h R ↔ cont P E n k .normal α h R := by unfold WK; rw [W_skip]
theorem WK_label {l : Nat} : WK P E n (.label l) k α h R ↔ cont P E n k .normal α h R := by unfold WK; rw [W_label]
theorem WK_exit {id : Nat} : WK P E n (.exit id) k α h R ↔ cont P E n k (.exit id) α h R := by unfold WK; rw [W_exit]
theorem WK_ret : WK P E n .ret k α h R ↔ cont P E n k .ret α h R := by unfold WK; rw [W_ret]

theorem cont_seq {b : Code} : cont P E n (.seq b :: k) .normal α h R ↔ WK P E n b k α h R := Iff.rfl
theorem cont_seqE {b : Code} {id : Nat} : cont P E n (.seq b :: k) (.exit id) α h R ↔ cont P E n k (.exit id) α h R := Iff.rfl
theorem cont_seqR {b : Code} : cont P E n (.seq b :: k) .ret α h R ↔ cont P E n k .ret α h R := Iff.rfl
theorem cont_block {id : Nat} : cont P E n (.block id :: k) .normal α h R ↔ cont P E n k .normal α h R := Iff.rfl
theorem cont_blockE {id id' : Nat} : cont P E n (.block id :: k) (.exit id') α h R ↔ if id' = id then cont P E n k .normal α h R else cont P E n k (.exit id') α h R := Iff.rfl
theorem cont_blockR {id : Nat} : cont P E n (.block id :: k) .ret α h R ↔ cont P E n k .ret α h R := Iff.rfl
theorem cont_inv {J : Tr Value → H → Prop} : cont P E n (.inv J :: k) .normal α h R ↔ J α h := Iff.rfl
theorem cont_invE {J : Tr Value → H → Prop} {id : Nat} : cont P E n (.inv J :: k) (.exit id) α h R ↔ cont P E n k (.exit id) α h R := Iff.rfl
theorem cont_invR {J : Tr Value → H → Prop} : cont P E n (.inv J :: k) .ret α h R ↔ cont P E n k .ret α h R := Iff.rfl
theorem cont_round {J : H → Prop} {β : Tr Value} : cont P E n (.round J β :: k) .normal α h R ↔ J h := Iff.rfl
theorem cont_roundE {J : H → Prop} {β : Tr Value} {id : Nat} : cont P E n (.round J β :: k) (.exit id) α h R ↔ cont P E n k (.exit id) β h R := Iff.rfl
theorem cont_roundR {J : H → Prop} {β : Tr Value} : cont P E n (.round J β :: k) .ret α h R ↔ cont P E n k .ret β h R := Iff.rfl
theorem cont_nil : cont P E n [] .normal α h R ↔ RetO R.Q h (resultsA E h α R.rs) := Iff.rfl
theorem cont_nilR : cont P E n [] .ret α h R ↔ RetO R.Q h (resultsA E h α R.rs) := Iff.rfl

theorem Cond_dec {a b : Code} {p : Prop} [Decidable p] (h1 : p → WK P E n a k α h R) (h2 : ¬ p → WK P E n b k α h R) : CondO P E n a b k α h R (some (.bool (decide p))) := by
  by_cases hp : p
  · simpa [hp, CondO] using h1 hp
  · simpa [hp, CondO] using h2 hp
theorem Cond_bool {a b : Code} {p : Bool} (h1 : p = true → WK P E n a k α h R) (h2 : p = false → WK P E n b k α h R) : CondO P E n a b k α h R (some (.bool p)) := by
  cases p
  · exact h2 rfl
  · exact h1 rfl
theorem Cond_true {a b : Code} : CondO P E n a b k α h R (some (.bool true)) ↔ WK P E n a k α h R := Iff.rfl
theorem Cond_false {a b : Code} : CondO P E n a b k α h R (some (.bool false)) ↔ WK P E n b k α h R := Iff.rfl
end

/- ### loops -/
theorem W_loop {n : Nat} {b : Code} {Q : Ex → Tr Value → H → Prop} (I : Tr Value → H → Prop) (m : Tr Value → H → Nat)
    (step : ∀ α h, I α h → W P E n b α h fun e α' h' => match e with
      | .normal => I α' h' ∧ m α' h' < m α h
      | e => Q e α' h') {α : Tr Value} {h : H} (h0 : I α h) (hm : m α h < 4611686018427387904) : W P E n (.loop b) α h Q := by
  have key : ∀ j α h, I α h → m α h = j → ∃ F e α' h', evLoop (run P E F) n b (j + 1) α h = some (e, α', h') ∧ Q e α' h' := by
    intro j
    induction j using Nat.strongRecOn with
    | _ j ih =>
      intro α h hI hj
      obtain ⟨F, e, α', h', h1, h2⟩ := step α h hI
      cases e with
      | normal =>
        obtain ⟨hI', hlt⟩ := h2
        obtain ⟨F2, e2, α2, h2', h3, h4⟩ := ih (m α' h') (by omega) α' h' hI' rfl
        refine ⟨max F F2, e2, α2, h2', ?_, h4⟩
        rw [evLoop, run_mono (Nat.le_max_left F F2) _ _ _ _ _ h1]
        exact evLoop_le (by omega) (evLoop_mono (run_mono (Nat.le_max_right F F2)) h3)
      | exit id => exact ⟨F, _, _, _, by rw [evLoop, h1], h2⟩
      | ret => exact ⟨F, _, _, _, by rw [evLoop, h1], h2⟩
  obtain ⟨F, e, α', h', h1, h2⟩ := key _ α h h0 rfl
  exact ⟨F + 1, e, α', h', evLoop_le (by omega) h1, h2⟩

theorem WK_loop {n : Nat} {b : Code} {k : List Frm} {R : Rt} (I : Tr Value → H → Prop) (m : Tr Value → H → Nat) {α : Tr Value} {h : H} (h0 : I α h) (hm : m α h < 4611686018427387904)
    (step : ∀ (J : Tr Value → H → Prop) α1 h1, I α1 h1 → (∀ α2 h2, I α2 h2 → m α2 h2 < m α1 h1 → J α2 h2) → WK P E n b (.inv J :: k) α1 h1 R) : WK P E n (.loop b) k α h R := by
  refine W_loop I m (fun α1 h1 hI => ?_) h0 hm
  refine W.mono (step (fun α2 h2 => I α2 h2 ∧ m α2 h2 < m α1 h1) α1 h1 hI fun α2 h2 h3 h4 => ⟨h3, h4⟩) fun e α' h' hq => ?_
  cases e with
  | normal => exact hq
  | exit id => exact hq
  | ret => exact hq

/-- code that goes on to its end -/
def straight : Code → Bool
  | .skip => true
  | .region _ _ _ => true
  | .seq a b => straight a && straight b
  | _ => false
theorem straight_normal : ∀ (F : Nat) (c : Code) {n : Nat} {α α' : Tr Value} {h h' : H} {e : Ex}, straight c = true → run P E F n c α h = some (e, α', h') → e = .normal
  | 0, _, _, _, _, _, _, _, _, h => by cases h
  | F + 1, c, n, α, α', h, h', e, hs, hr => by
    cases c <;> first | (simp [straight] at hs; done) | skip
    · have hr' : some (Ex.normal, α, h) = some (e, α', h') := hr
      cases hr'; rfl
    · rename_i id ops dr
      have hr' : (match evRegion P E (run P E F) n ops dr α h with
        | some (α', h') => some (Ex.normal, α', h')
        | none => none) = some (e, α', h') := hr
      split at hr'
      · cases hr'; rfl
      · cases hr'
    · rename_i a b
      simp only [straight, Bool.and_eq_true] at hs
      have hr' : (match run P E F n a α h with
        | some (.normal, α', h') => run P E F n b α' h'
        | r => r) = some (e, α', h') := hr
      split at hr'
      · exact straight_normal F b hs.2 hr'
      · exact straight_normal F a hs.1 hr'

/-- a range over a closure that hands out the letters of a string -/
theorem WK_range {n : Nat} {f : Operand} {ps : Array Tmp} {assign body : Code} {k : List Frm} {α : Tr Value} {h : H} {R : Rt} {g p0 p1 : Nat} {b off : Nat} {s : ByteArray} (hf : ev E h α f = some (.func (.func g) #[] #[.pointer (some ⟨b, off, none⟩)])) (hg : E.iters.get g = some 0) (hps : ps.toList = [p0, p1]) (h0 : p0 < n) (h1 : p1 < n) (hsz : s.size < 4611686018427387904) (hassign : straight assign = true)
    (I : Nat → H → Prop) (hI0 : I 0 h) (hstr : ∀ i h1, i ≤ s.size → I i h1 → iterStr h1 [.pointer (some ⟨b, off, none⟩)] = some s)
    (step : ∀ (J : H → Prop) i h1 c, I i h1 → s[i]? = some c → (∀ h2, I (i + 1) h2 → J h2) → WK P E n (.seq assign body) (.round J α :: k) (Tr.put (Tr.put α p0 (.int .i64 (Int.ofNat i))) p1 (.int .i64 (Int.ofNat c.toNat - 97))) h1 R)
    (hend : ∀ h1, I s.size h1 → cont P E n k .normal α h1 R) : WK P E n (.rangeFunc f ps assign body) k α h R := by
  have key : ∀ j i h1, i + j = s.size → I i h1 → ∃ F e h2, evRounds (run P E F) n p0 p1 assign body α [.pointer (some ⟨b, off, none⟩)] j i h1 = some (e, h2) ∧ cont P E n k e α h2 R := by
    intro j
    induction j with
    | zero =>
      intro i h1 hij hI
      obtain rfl : i = s.size := by omega
      exact ⟨0, .normal, h1, rfl, hend h1 hI⟩
    | succ j ih =>
      intro i h1 hij hI
      have hlt : i < s.size := by omega
      have hc : s[i]? = some (s[i]'hlt) := getElem?_pos s i hlt
      obtain ⟨F, e, α2, h2, hr, hq⟩ := step (fun h2 => I (i + 1) h2) i h1 _ hI hc fun _ x => x
      have hr1 : ∃ F1 α1 g1, run P E F1 n assign (Tr.put (Tr.put α p0 (.int .i64 (Int.ofNat i))) p1 (.int .i64 (Int.ofNat (s[i]'hlt).toNat - 97))) h1 = some (.normal, α1, g1) ∧ run P E F1 n body α1 g1 = some (e, α2, h2) := by
        cases F with
        | zero => cases hr
        | succ F =>
          have hr' : (match run P E F n assign (Tr.put (Tr.put α p0 (.int .i64 (Int.ofNat i))) p1 (.int .i64 (Int.ofNat (s[i]'hlt).toNat - 97))) h1 with
            | some (.normal, α', h') => run P E F n body α' h'
            | r => r) = some (e, α2, h2) := hr
          split at hr'
          · exact ⟨F, _, _, by assumption, hr'⟩
          · rename_i x hne
            obtain rfl := straight_normal F assign hassign hr'
            exact absurd hr' (hne _ _)
      obtain ⟨F1, α1, g1, hA, hB⟩ := hr1
      cases e with
      | normal =>
        obtain ⟨F2, e2, h3, h4, h5⟩ := ih (i + 1) h2 (by omega) hq
        refine ⟨max F1 F2, e2, h3, ?_, h5⟩
        simp only [evRounds, hstr i h1 (by omega) hI, hc, forceI_eq, Tr.force_eq, forceN_eq]
        rw [run_mono (Nat.le_max_left F1 F2) _ _ _ _ _ hA]
        simp only
        rw [run_mono (Nat.le_max_left F1 F2) _ _ _ _ _ hB]
        exact evRounds_mono (run_mono (Nat.le_max_right F1 F2)) h4
      | exit id =>
        refine ⟨F1, .exit id, h2, ?_, hq⟩
        simp only [evRounds, hstr i h1 (by omega) hI, hc, forceI_eq, Tr.force_eq, forceN_eq, hA, hB]
      | ret =>
        refine ⟨F1, .ret, h2, ?_, hq⟩
        simp only [evRounds, hstr i h1 (by omega) hI, hc, forceI_eq, Tr.force_eq, forceN_eq, hA, hB]
  obtain ⟨F, e, h2, h3, h4⟩ := key s.size 0 h (by omega) hI0
  refine ⟨F + 1, e, α, h2, ?_, h4⟩
  show evRange E (run P E F) n (ev E h α f) ps.toList assign body α h = _
  rw [hf, hps]
  simp only [evRange, hg]
  rw [hstr 0 h (Nat.zero_le _) hI0]
  simp only
  rw [if_pos ⟨h0, h1, hsz⟩, h3]

/- ### lists of operations -/
theorem CLe_run {F G : Nat} (h : F ≤ G) : CLe (callWith E (run P E F)) (callWith E (run P E G)) := callWith_mono (run_mono h)

def isCall : Op → Bool
  | .call c => match c.callee with
    | .value _ => true
    | _ => false
  | _ => false
theorem evOp_nocall {o : Oper} (ho : isCall o.op = false) (c d : Callf) (h : H) (α : Tr Value) : evOp P E c h α o = evOp P E d h α o := by
  rw [evOp_eq, evOp_eq]
  unfold evOpS
  split <;> first | rfl | skip
  rename_i cl hop
  rw [hop] at ho
  simp only [isCall] at ho
  split
  · rfl
  · split <;> first | rfl | skip
    rename_i f hcal
    rw [hcal] at ho
    cases ho

section
variable {n : Nat} {ops : List Oper} {q : Bool} {r t : List Oper} {k : List Frm} {α : Tr Value} {h : H} {R : Rt}

theorem WL_nil {K : Tr Value → H → Prop} : WL P E n ops [] α h K ↔ K α h :=
  ⟨fun ⟨_, _, _, h1, h2⟩ => by cases h1; exact h2, fun hk => ⟨0, _, _, rfl, hk⟩⟩
theorem WQ_nil {K : Tr Value → H → Prop} : WQ P E n ops [] α h K ↔ K α h :=
  ⟨fun ⟨_, _, _, h1, h2⟩ => by cases h1; exact h2, fun hk => ⟨0, _, _, rfl, hk⟩⟩

theorem WL_step {o : Oper} {K : Tr Value → H → Prop} {F0 : Nat} {α' : Tr Value} {h' : H} (hs : step1 P E (callWith E (run P E F0)) n ops h α o = some (α', h')) (hk : WL P E n ops r α' h' K) : WL P E n ops (o :: r) α h K := by
  obtain ⟨F, α2, h2, h3, h4⟩ := hk
  refine ⟨max F0 F, α2, h2, ?_, h4⟩
  rw [evList, step1_mono (CLe_run (Nat.le_max_left F0 F)) hs]
  exact evList_mono (CLe_run (Nat.le_max_right F0 F)) h3
theorem WL_un {o : Oper} {K : Tr Value → H → Prop} (hw : WL P E n ops (o :: r) α h K) : ∃ F0 α' h', step1 P E (callWith E (run P E F0)) n ops h α o = some (α', h') ∧ WL P E n ops r α' h' K := by
  obtain ⟨F, α2, h2, h3, h4⟩ := hw
  rw [evList] at h3
  split at h3
  · rename_i α' h' hs
    exact ⟨F, α', h', hs, F, α2, h2, h3, h4⟩
  · cases h3
theorem WQ_step {o : Oper} {K : Tr Value → H → Prop} {F0 : Nat} {α' : Tr Value} {h' : H} (hs : step1 P E (callWith E (run P E F0)) n ops (st true h) α o = some (α', h')) (hle : h.next ≤ h'.wm) (hk : WQ P E n ops r α' (fin true h h') K) : WQ P E n ops (o :: r) α h K := by
  obtain ⟨F, α2, h2, h3, h4⟩ := hk
  refine ⟨max F0 F, α2, h2, ?_, h4⟩
  rw [evQuiet]
  have := step1_mono (CLe_run (Nat.le_max_left F0 F)) hs
  simp only [st] at this
  rw [this]
  simp only
  rw [if_pos hle]
  exact evQuiet_mono (CLe_run (Nat.le_max_right F0 F)) h3
theorem WQ_un {o : Oper} {K : Tr Value → H → Prop} (hw : WQ P E n ops (o :: r) α h K) : ∃ F0 α' h', step1 P E (callWith E (run P E F0)) n ops (st true h) α o = some (α', h') ∧ h.next ≤ h'.wm ∧ WQ P E n ops r α' (fin true h h') K := by
  obtain ⟨F, α2, h2, h3, h4⟩ := hw
  rw [evQuiet] at h3
  split at h3
  · rename_i α' h' hs
    split at h3
    · rename_i hle
      exact ⟨F, α', h', hs, hle, F, α2, h2, h3, h4⟩
    · cases h3
  · cases h3

theorem At_step {o : Oper} {F0 : Nat} {α' : Tr Value} {h' : H} (hs : step1 P E (callWith E (run P E F0)) n ops (st q h) α o = some (α', h')) (hle : q = true → h.next ≤ h'.wm) (hk : At P E n ops q r t k α' (fin q h h') R) :
    At P E n ops q (o :: r) t k α h R := by
  cases q with
  | false => exact WL_step hs hk
  | true => exact WQ_step hs (hle rfl) hk
theorem At_un {o : Oper} (hw : At P E n ops q (o :: r) t k α h R) : ∃ F0 α' h', step1 P E (callWith E (run P E F0)) n ops (st q h) α o = some (α', h') ∧ (q = true → h.next ≤ h'.wm) ∧ At P E n ops q r t k α' (fin q h h') R := by
  cases q with
  | false =>
    obtain ⟨F0, α', h', h1, h2⟩ := WL_un hw
    exact ⟨F0, α', h', h1, fun e => (by cases e), h2⟩
  | true =>
    obtain ⟨F0, α', h', h1, h2, h3⟩ := WQ_un hw
    exact ⟨F0, α', h', h1, fun _ => h2, h3⟩

theorem At_nilF : At P E n ops false [] t k α h R ↔ cont P E n k .normal α h R := WL_nil
theorem At_nilT : At P E n ops true [] t k α h R ↔ At P E n ops false t [] k α h R := WQ_nil

theorem step1_none {c : Callf} {o : Oper} {h : H} (hg : o.guard = none) : step1 P E c n ops h α o = match evOp P E c h α o with
    | some (v, h') => match put n α o.dst v with
      | some α' => some (α', h')
      | none => none
    | none => none := by
  have hw : wantedA ops α o = some true := by unfold wantedA; rw [hg]
  unfold step1
  rw [hw]
  rfl

/-- an operation that calls nothing -/
theorem At_heap {o : Oper} (hg : o.guard = none) (ho : isCall o.op = false) : At P E n ops q (o :: r) t k α h R ↔ HeapO P E n ops q r t k α h R o.dst (evOp P E nocall (st q h) α o) := by
  constructor
  · intro hw
    obtain ⟨F0, α', h', h1, h2, h3⟩ := At_un hw
    rw [step1_none hg, evOp_nocall ho _ nocall] at h1
    split at h1
    · rename_i v h'' hv
      split at h1
      · rename_i α1 hp
        simp only [Option.some.injEq, Prod.mk.injEq] at h1
        obtain ⟨rfl, rfl⟩ := h1
        rw [hv]
        exact ⟨h2, by unfold PutO; simp only [hp]; exact h3⟩
      · cases h1
    · cases h1
  · intro hw
    cases hv : evOp P E nocall (st q h) α o with
    | none => rw [hv] at hw; exact hw.elim
    | some x =>
      obtain ⟨v, h'⟩ := x
      rw [hv] at hw
      obtain ⟨h2, h3⟩ := hw
      unfold PutO at h3
      simp only at h3
      split at h3
      · rename_i α1 hp
        refine At_step (F0 := 0) (α' := α1) (h' := h') ?_ h2 h3
        rw [step1_none hg, evOp_nocall ho _ nocall, hv]
        simp only [hp]
      · exact h3.elim

theorem fin_st : fin q h (st q h) = h := by cases q <;> rfl
theorem st_wm (hq : q = true) : h.next ≤ (st q h).wm := by subst hq; exact Nat.le_refl _

/-- an operation that leaves memory alone -/
theorem At_pure {o : Oper} (hg : o.guard = none) (ho : isCall o.op = false) {v : Option Value} (hv : ∀ h1 : H, h1.blks = h.blks → evOp P E nocall h1 α o = asV h1 v) : At P E n ops q (o :: r) t k α h R ↔ PutO P E n ops q r t k α h R o.dst v := by
  rw [At_heap hg ho, hv (st q h) (by cases q <;> rfl)]
  cases v with
  | none => exact Iff.rfl
  | some v =>
    show ((q = true → h.next ≤ (st q h).wm) ∧ PutO P E n ops q r t k α (fin q h (st q h)) R o.dst (some v)) ↔ _
    rw [fin_st]
    exact ⟨fun x => x.2, fun x => ⟨fun hq => st_wm hq, x⟩⟩

theorem wanted_guard {d : Option Tmp} {op : Op} {ty : TypeId} {pos : String} {af : Array Edge} {j : Nat} {want : Bool} : wantedA ops α ⟨d, op, ty, pos, af, some (j, want)⟩ = match guardV ops α j with
    | some (.bool b) => some (b == want)
    | some (.tuple _) => some false
    | _ => none := by
  unfold wantedA guardV
  simp only
  cases nth ops j with
  | none => rfl
  | some oj =>
    simp only
    cases oj.dst with
    | none => rfl
    | some dd => rfl
theorem step1_guard {c : Callf} {h : H} {d : Option Tmp} {op : Op} {ty : TypeId} {pos : String} {af : Array Edge} {j : Nat} {want : Bool} : step1 P E c n ops h α ⟨d, op, ty, pos, af, some (j, want)⟩ = match guardV ops α j with
      | some (.bool b) => if b = want then step1 P E c n ops h α ⟨d, op, ty, pos, af, none⟩ else (match put n α d undef with
        | some α' => some (α', h)
        | none => none)
      | some (.tuple _) => (match put n α d undef with
        | some α' => some (α', h)
        | none => none)
      | _ => none := by
  have hev : evOp P E c h α ⟨d, op, ty, pos, af, some (j, want)⟩ = evOp P E c h α ⟨d, op, ty, pos, af, none⟩ := by
    rw [evOp_eq, evOp_eq]
    cases op <;> rfl
  rw [show step1 P E c n ops h α ⟨d, op, ty, pos, af, none⟩ = _ from step1_none rfl]
  unfold step1
  rw [wanted_guard, hev]
  cases guardV ops α j with
  | none => rfl
  | some v =>
    cases v <;> first | rfl | skip
    rename_i b
    simp only
    cases b <;> cases want <;> rfl

theorem At_guard {d : Option Tmp} {op : Op} {ty : TypeId} {pos : String} {af : Array Edge} {j : Nat} {want : Bool} :
    At P E n ops q (⟨d, op, ty, pos, af, some (j, want)⟩ :: r) t k α h R ↔ GuardO P E n ops q ⟨d, op, ty, pos, af, none⟩ r t k α h R want (guardV ops α j) := by
  have hst : ∀ (c : Callf) (h : H), step1 P E c n ops h α ⟨d, op, ty, pos, af, some (j, want)⟩ = match guardV ops α j with
      | some (.bool b) => if b = want then step1 P E c n ops h α ⟨d, op, ty, pos, af, none⟩ else (match put n α d undef with
        | some α' => some (α', h)
        | none => none)
      | some (.tuple _) => (match put n α d undef with
        | some α' => some (α', h)
        | none => none)
      | _ => none := fun c h => step1_guard
  constructor
  · intro hw
    obtain ⟨F0, α', h', h1, h2, h3⟩ := At_un hw
    rw [hst] at h1
    cases hgv : guardV ops α j with
    | none => rw [hgv] at h1; cases h1
    | some v =>
      rw [hgv] at h1
      cases v <;> first | (cases h1; done) | skip
      case tuple vs =>
        simp only [GuardO] at h1 ⊢
        split at h1
        · rename_i α1 hp
          simp only [Option.some.injEq, Prod.mk.injEq] at h1
          obtain ⟨rfl, rfl⟩ := h1
          unfold PutO
          simp only [hp]
          rw [fin_st] at h3
          exact h3
        · cases h1
      rename_i b
      simp only [GuardO] at h1 ⊢
      split at h1
      · rename_i hbw
        rw [if_pos hbw]
        exact At_step h1 h2 h3
      · rename_i hbw
        rw [if_neg hbw]
        split at h1
        · rename_i α1 hp
          simp only [Option.some.injEq, Prod.mk.injEq] at h1
          obtain ⟨rfl, rfl⟩ := h1
          unfold PutO
          simp only [hp]
          rw [fin_st] at h3
          exact h3
        · cases h1
  · intro hw
    unfold GuardO at hw
    split at hw
    · rename_i b hb
      split at hw
      · rename_i hbw
        obtain ⟨F0, α', h', h1, h2, h3⟩ := At_un hw
        refine At_step (F0 := F0) (α' := α') (h' := h') ?_ h2 h3
        rw [hst, hb]
        simp only
        rw [if_pos hbw]; exact h1
      · rename_i hbw
        unfold PutO at hw
        simp only at hw
        split at hw
        · rename_i α1 hp
          refine At_step (F0 := 0) (α' := α1) (h' := st q h) ?_ (fun hq => st_wm hq) (by rw [fin_st]; exact hw)
          rw [hst, hb]
          simp only
          rw [if_neg hbw, hp]
        · exact hw.elim
    · rename_i vs hb
      unfold PutO at hw
      simp only at hw
      split at hw
      · rename_i α1 hp
        refine At_step (F0 := 0) (α' := α1) (h' := st q h) ?_ (fun hq => st_wm hq) (by rw [fin_st]; exact hw)
        rw [hst, hb]
        simp only
        rw [hp]
      · exact hw.elim
    · exact hw.elim

/-- a call of a function -/
theorem At_call {d : Option Tmp} {f : Operand} {args : Array Operand} {ats : Array TypeId} {ty : TypeId} {pos : String} {af : Array Edge} :
    At P E n ops q (⟨d, .call ⟨.value f, args, ats⟩, ty, pos, af, none⟩ :: r) t k α h R ↔ CallO P E n ops q r t k α h R d (ev E h α f) (evs E h α args.toList) := by
  have hev : ∀ x, ev E (st q h) α x = ev E h α x := fun x => by cases q <;> rfl
  have hevs : ∀ l, evs E (st q h) α l = evs E h α l := fun l => by
    induction l with
    | nil => rfl
    | cons x l ih => simp only [evs, hev, ih]
  have hop : ∀ c : Callf, evOp P E c (st q h) α ⟨d, .call ⟨.value f, args, ats⟩, ty, pos, af, none⟩ = match evs E h α args.toList with
      | none => none
      | some vs => match ev E h α f with
        | some (.func (.func g) first captured) => c g (first.toList ++ vs ++ captured.toList) (st q h)
        | _ => none := fun c => by
    rw [evOp_eq]
    show (match evs E (st q h) α args.toList with
      | none => none
      | some vs => match ev E (st q h) α f with
        | some (.func (.func g) first captured) => c g (first.toList ++ vs ++ captured.toList) (st q h)
        | _ => none) = _
    rw [hev, hevs]
  unfold CallO
  constructor
  · intro hw
    obtain ⟨F0, α', h', h1, h2, h3⟩ := At_un hw
    rw [step1_none rfl, hop] at h1
    cases hvs : evs E h α args.toList with
    | none => rw [hvs] at h1; cases h1
    | some vs =>
      rw [hvs] at h1
      simp only at h1
      split at h1
      · rename_i v h'' hv
        split at hv
        · rename_i g first captured hf
          rw [hf]
          simp only
          refine ⟨F0, v, h'', hv, ?_⟩
          split at h1
          · rename_i α1 hp
            simp only [Option.some.injEq, Prod.mk.injEq] at h1
            obtain ⟨rfl, rfl⟩ := h1
            exact ⟨h2, by unfold PutO; simp only [hp]; exact h3⟩
          · cases h1
        · cases hv
      · cases h1
  · intro hw
    split at hw
    · rename_i x y g first captured vs hf hvs
      obtain ⟨F0, v, h', h1, h2, h3⟩ := hw
      unfold PutO at h3
      simp only at h3
      split at h3
      · rename_i α1 hp
        refine At_step (F0 := F0) (α' := α1) (h' := h') ?_ h2 h3
        rw [step1_none rfl, hop, hvs, hf]
        simp only
        rw [h1]
        simp only
        rw [hp]
      · exact h3.elim
    · exact hw.elim
end

/- ### regions -/
section
variable {n : Nat} {k : List Frm} {α : Tr Value} {h : H} {R : Rt}
theorem WK_regionF {id : Nat} {ops : Array Oper} : WK P E n (.region id ops false) k α h R ↔ At P E n ops.toList false ops.toList [] k α h R := by
  constructor
  · rintro ⟨F, e, α', h', h1, h2⟩
    cases F with
    | zero => cases h1
    | succ F =>
      have h1' : (match evList P E (callWith E (run P E F)) n ops.toList ops.toList h α with
        | some (α', h') => some (Ex.normal, α', h')
        | none => none) = some (e, α', h') := h1
      split at h1'
      · rename_i α1 hh hx
        simp only [Option.some.injEq, Prod.mk.injEq] at h1'
        obtain ⟨rfl, rfl, rfl⟩ := h1'
        exact ⟨F, _, _, hx, h2⟩
      · cases h1'
  · rintro ⟨F, α', h', h1, h2⟩
    refine ⟨F + 1, .normal, α', h', ?_, h2⟩
    show (match evList P E (callWith E (run P E F)) n ops.toList ops.toList h α with
        | some (α', h') => some (Ex.normal, α', h')
        | none => none) = _
    rw [h1]

/-- where the first part of a region that draws ends -/
def cutAt (ops : Array Oper) : Nat := sinkAt ops (ops.size - tailAt ops.toList) (tailAt ops.toList)

theorem WK_regionT {id : Nat} {ops : Array Oper} (m : Nat) (hm : cutAt ops = m ∧ wAt ops m = false ∧ regOk ops m = true) (hk : At P E n ops.toList true (ops.toList.take m) (ops.toList.drop m) k α h R) : WK P E n (.region id ops true) k α h R := by
  obtain ⟨F, α1, h1, hq, F2, α2, h2, hl, hc⟩ := hk
  refine ⟨max F F2 + 1, .normal, α2, h2, ?_, hc⟩
  have hreg : evRegion P E (run P E (max F F2)) n ops true α h = some (α2, h2) := by
    unfold evRegion
    simp only [forceN_eq, if_true]
    have e : sinkAt ops (ops.size - tailAt ops.toList) (tailAt ops.toList) = m := hm.1
    rw [e, if_neg (by rw [hm.2.1]; exact Bool.false_ne_true), if_pos hm.2.2, evQuiet_mono (CLe_run (Nat.le_max_left F F2)) hq]
    exact evList_mono (CLe_run (Nat.le_max_right F F2)) hl
  show (match evRegion P E (run P E (max F F2)) n ops true α h with
    | some (α', h') => some (Ex.normal, α', h')
    | none => none) = _
  rw [hreg]
end

/-- a region of which a store may come ahead of some reads -/
theorem WK_regionW {n : Nat} {k : List Frm} {α : Tr Value} {h : H} {R : Rt} {id : Nat} {ops : Array Oper} (p : Nat) (hm : cutAt ops = p + 1 ∧ wAt ops (p + 1) = true ∧ regOkW ops p = true)
    (hk : WQ P E n ops.toList (ops.toList.take p) α h fun α1 h1 => lateB E h1 α1 ops p = true ∧ At P E n ops.toList false (ops.toList.drop p) [] k α1 h1 R) : WK P E n (.region id ops true) k α h R := by
  obtain ⟨F, α1, h1, hq, hl, F2, α2, h2, hl2, hc⟩ := hk
  refine ⟨max F F2 + 1, .normal, α2, h2, ?_, hc⟩
  have hreg : evRegion P E (run P E (max F F2)) n ops true α h = some (α2, h2) := by
    unfold evRegion
    simp only [forceN_eq, if_true]
    have e : sinkAt ops (ops.size - tailAt ops.toList) (tailAt ops.toList) = p + 1 := hm.1
    rw [e, if_pos hm.2.1, Nat.add_sub_cancel, if_pos hm.2.2, evQuiet_mono (CLe_run (Nat.le_max_left F F2)) hq]
    simp only
    rw [if_pos hl]
    exact evList_mono (CLe_run (Nat.le_max_right F F2)) hl2
  show (match evRegion P E (run P E (max F F2)) n ops true α h with
    | some (α', h') => some (Ex.normal, α', h')
    | none => none) = _
  rw [hreg]

/- ### functions -/
theorem CallsE_enter {f : FuncId} {fn : Func} {c : Code} {args : List Value} {h : H} {Q : Value → H → Prop} (hkn : E.known.get f = none) (hf : E.fns.get f = some fn) (hb : fn.body = some c) (hn : args.length ≤ fn.ntmps ∧ fn.name ≠ "runtime.NumGoroutine")
    (hw : ∀ Q' : Value → H → Prop, (∀ v h', Q v h' → Q' v h') → WK P E fn.ntmps c [] (Tr.ofList args) h ⟨fn.results.toList, Q'⟩) : CallsE P E f args h Q := by
  obtain ⟨F, e, α', h', h1, h2⟩ := hw Q fun _ _ => id
  have hcw : ∀ e', e = e' → (e' = .normal ∨ e' = .ret) → callWith E (run P E F) f args h = RetV h' (resultsA E h' α' fn.results.toList) := by
    intro e' he hor
    subst he
    unfold callWith
    rw [hkn]
    simp only
    rw [hf]
    simp only [hb]
    rw [if_pos hn, h1]
    rcases hor with rfl | rfl <;> (simp only; unfold RetV; cases resultsA E h' α' fn.results.toList with
      | none => rfl
      | some vs =>
        cases vs with
        | nil => rfl
        | cons v vs => cases vs <;> rfl)
  have hres : ∀ x : Option (List Value), RetO Q h' x → ∃ v, RetV h' x = some (v, h') ∧ Q v h' := fun x hx => by
    cases x with
    | none => exact hx.elim
    | some vs =>
      cases vs with
      | nil => exact ⟨_, rfl, hx⟩
      | cons v vs =>
        cases vs with
        | nil => exact ⟨_, rfl, hx⟩
        | cons u vs => exact ⟨_, rfl, hx⟩
  cases e with
  | normal =>
    obtain ⟨v, h3, h4⟩ := hres _ h2
    exact ⟨F, v, h', (hcw _ rfl (.inl rfl)).trans h3, h4⟩
  | ret =>
    obtain ⟨v, h3, h4⟩ := hres _ h2
    exact ⟨F, v, h', (hcw _ rfl (.inr rfl)).trans h3, h4⟩
  | exit id => exact h2.elim
/-- a call of which it is known what it returns -/
theorem CallsE_known {f : FuncId} {v : Value} {h : H} {Q : Value → H → Prop} (hk : E.known.get f = some v) (ht : TabsIn E.tabs h.blks) (hq : Q v h) : CallsE P E f [] h Q := by
  refine ⟨0, v, h, ?_, hq⟩
  unfold callWith
  rw [hk]
  simp only [knownRun]
  rw [if_pos ⟨rfl, ht⟩]
end Go.Proofs.YtnjbcgiplfdgmaaGreatDoor.Ev
