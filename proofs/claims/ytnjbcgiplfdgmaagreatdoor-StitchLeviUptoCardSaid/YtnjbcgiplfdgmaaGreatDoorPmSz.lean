/- Symbolic runs: each operation by an equation. -/
import Derived.Test.YtnjbcgiplfdgmaaGreatDoorPmSy
namespace Go.Proofs.YtnjbcgiplfdgmaaGreatDoor.Ev
open Go
variable {P : Program} {E : Env}
noncomputable section

/- ### values -/
def pickO (c a b : Option Value) : Option Value := match c with
  | some (.bool true) => a
  | some (.bool false) => b
  | _ => none
def loadO (E : Env) (t : TypeId) (B : Tr Blk) : Option Value → Option Value
  | some v => evLoad E ⟨B, 0, 0⟩ t v
  | none => none
def nilO : Option Value → Option Value
  | some (.pointer (some a)) => some (.pointer (some a))
  | _ => none
def slowBin (P : Program) (op : BinOp) (t : TypeId) (v u : Value) : Option Value := match pureRun P (do eqGuard op t (.tmp 0) (.tmp 0) v u; binOp op t v u) with
  | some r => if plain r then some r else none
  | none => none
def binO (P : Program) (E : Env) (op : BinOp) (t : TypeId) : Option Value → Option Value → Option Value
  | some v, some u => if plainA v && plainA u then (match fastBin op v u with
      | some r => some r
      | none => slowBin P op t v u) else
    match op, evNil E t v u with
    | .eql, some b => some (.bool b)
    | .neq, some b => some (.bool (!b))
    | _, _ => none
  | _, _ => none
def unO (P : Program) (op : UnOp) : Option Value → Option Value
  | some v => if plain v then (match pureRun P (Op.unary op v) with
    | some r => if plain r then some r else none
    | none => none) else none
  | none => none
def convO (P : Program) (E : Env) (B : Tr Blk) (s d : TypeId) : Option Value → Option Value
  | some v => if plain v then (match fastConv E s d v with
    | some r => some r
    | none => match pureRun P (convert s d v) with
      | some r => if plain r then some r else none
      | none => none) else evBytes E ⟨B, 0, 0⟩ s d v
  | none => none
def fieldO (E : Env) (t : TypeId) (f : Nat) : Option Value → Option Value
  | some v => evField E t v f
  | none => none
def fieldAddrO (E : Env) (t : TypeId) (f : Nat) : Option Value → Option Value
  | some v => evFieldAddr E t v f
  | none => none
def idxAddrO (E : Env) (t : TypeId) : Option Value → Option Value → Option Value
  | some v, some u => evIndexAddr E t v u
  | _, _ => none
def idxO (E : Env) (t : TypeId) : Option Value → Option Value → Option Value
  | some v, some u => evIndex E t v u
  | _, _ => none
def extrO (i : Nat) : Option Value → Option Value
  | some (.tuple vs) => vs[i]?
  | _ => none
def buildO (E : Env) (t : TypeId) : Option (List (Nat × Value)) → Option Value
  | some ps => evBuild E t ps
  | none => none
def funcO (fn : Fn) : Option (List Value) → Option (List Value) → Option Value
  | some f, some c => some (.func fn f.toArray c.toArray)
  | _, _ => none
def sliceO (E : Env) (t : TypeId) (B : Tr Blk) : Option Value → Option (List Value) → Option (List Value) → Option Value
  | some x, some lo, some hi => evSlice E ⟨B, 0, 0⟩ t x lo.head? hi.head?
  | _, _, _ => none
def lenO (E : Env) (t : TypeId) : Option Value → Option Value
  | some v => evLen E t v
  | none => none
def mmO (P : Program) (f : Value → Value → Sem Value) : Option (List Value) → Option Value
  | some [v, u] => if plain v && plain u then (match pureRun P (f v u) with
    | some r => if plain r then some r else none
    | none => none) else none
  | _ => none

theorem pureRun_bind {α β : Type} (f : α → Sem β) : ∀ s : Sem α, pureRun P (s >>= f) = (pureRun P s).bind fun a => pureRun P (f a) := by
  intro s
  induction s with
  | pure a => rfl
  | program k ih => exact ih P
  | _ => rfl

theorem pure_next (s : Sem Value) : (match pureRun P (do pure (Next.value (← s))) with
    | some (.value v) => if plain v then forceV v some else none
    | _ => none) = match pureRun P s with
    | some r => if plain r then some r else none
    | none => none := by
  rw [pureRun_bind]
  cases pureRun P s with
  | none => rfl
  | some r =>
    show (if plain r then forceV r some else none) = if plain r then some r else none
    rw [forceV_eq]

section
variable {n : Nat} {ops : List Oper} {q : Bool} {r tl : List Oper} {k : List Frm} {α : Tr Value} {h : H} {R : Rt} {d : Option Tmp} {ty : TypeId} {pos : String} {af : Array Edge}

theorem ev_blks {h h1 : H} (hb : h1.blks = h.blks) (x : Operand) : ev E h1 α x = ev E h α x := by
  cases x <;> first | rfl | skip
  simp only [ev, live, hb]
  rfl
theorem evs_blks {h h1 : H} (hb : h1.blks = h.blks) : ∀ l, evs E h1 α l = evs E h α l
  | [] => rfl
  | x :: l => by simp only [evs, ev_blks hb, evs_blks hb l]
theorem evParts_blks {h h1 : H} (hb : h1.blks = h.blks) : ∀ l, evParts E h1 α l = evParts E h α l
  | [] => rfl
  | (i, x) :: l => by simp only [evParts, ev_blks hb, evParts_blks hb l]

theorem At_move {x : Operand} : At P E n ops q (⟨d, .move x, ty, pos, af, none⟩ :: r) tl k α h R ↔ PutO P E n ops q r tl k α h R d (ev E h α x) :=
  At_pure rfl rfl fun h1 hb => by rw [evOp_eq]; show asV h1 (ev E h1 α x) = _; rw [ev_blks hb]
theorem At_assign {x : Operand} : At P E n ops q (⟨d, .assign x, ty, pos, af, none⟩ :: r) tl k α h R ↔ PutO P E n ops q r tl k α h R d (ev E h α x) :=
  At_pure rfl rfl fun h1 hb => by rw [evOp_eq]; show asV h1 (ev E h1 α x) = _; rw [ev_blks hb]
theorem At_pick {c a b : Operand} : At P E n ops q (⟨d, .pick c a b, ty, pos, af, none⟩ :: r) tl k α h R ↔ PutO P E n ops q r tl k α h R d (pickO (ev E h α c) (ev E h α a) (ev E h α b)) :=
  At_pure rfl rfl fun h1 hb => by
    rw [evOp_eq]
    simp only [evOpS, ev_blks hb]
    generalize ev E h α c = x
    cases x with
    | none => rfl
    | some v => cases v <;> first | rfl | (rename_i b; cases b <;> rfl)
theorem At_load {t : TypeId} {x : Operand} : At P E n ops q (⟨d, .load t x, ty, pos, af, none⟩ :: r) tl k α h R ↔ PutO P E n ops q r tl k α h R d (loadO E t h.blks (ev E h α x)) :=
  At_pure rfl rfl fun h1 hb => by
    rw [evOp_eq]
    simp only [evOpS, ev_blks hb]
    cases ev E h α x with
    | none => rfl
    | some v =>
      have : ∀ h2 : H, h2.blks = h.blks → evLoad E h2 t v = evLoad E ⟨h.blks, 0, 0⟩ t v := fun h2 hb => by
        obtain ⟨b2, n2, w2⟩ := h2
        simp only at hb
        subst hb
        rfl
      show asV h1 (evLoad E h1 t v) = _
      rw [this h1 hb]
      rfl
theorem At_nilCheck {x : Operand} : At P E n ops q (⟨d, .nilCheck x, ty, pos, af, none⟩ :: r) tl k α h R ↔ PutO P E n ops q r tl k α h R d (nilO (ev E h α x)) :=
  At_pure rfl rfl fun h1 hb => by
    rw [evOp_eq]
    simp only [evOpS, ev_blks hb]
    generalize ev E h α x = x
    cases x with
    | none => rfl
    | some v => cases v <;> first | rfl | (rename_i b; cases b <;> rfl)
theorem plainOp_bin {op : BinOp} {t t' : TypeId} {x y : Operand} {ρ : Operand → Value} {v u : Value} (hp : plainA v = true) (hx : ρ x = v) (hy : ρ y = u) : plainOp P ρ ⟨d, .binOp op t x y t', ty, pos, af, none⟩ = slowBin P op t v u := by
  have hg : eqGuard op t x y v u = eqGuard op t (.tmp 0) (.tmp 0) v u := by
    unfold eqGuard
    cases v <;> first | (simp [plainA, plain] at hp; done) | rfl | (cases u <;> rfl)
  have e : execOp ρ ⟨d, .binOp op t x y t', ty, pos, af, none⟩ = (do pure (Next.value (← (do eqGuard op t (.tmp 0) (.tmp 0) v u; binOp op t v u)))) := by
    show (do pure (Next.value (← (do eqGuard op t x y (ρ x) (ρ y); binOp op t (ρ x) (ρ y))))) = _
    rw [hx, hy, hg]
  unfold plainOp slowBin
  rw [e]
  exact pure_next _
theorem At_bin {op : BinOp} {t t' : TypeId} {x y : Operand} : At P E n ops q (⟨d, .binOp op t x y t', ty, pos, af, none⟩ :: r) tl k α h R ↔ PutO P E n ops q r tl k α h R d (binO P E op t (ev E h α x) (ev E h α y)) :=
  At_pure rfl rfl fun h1 hb => by
    rw [evOp_eq]
    simp only [evOpS, ev_blks hb]
    cases hx : ev E h α x with
    | none => rfl
    | some v =>
      cases hy : ev E h α y with
      | none => rfl
      | some u =>
        simp only [binO]
        by_cases hp : (plainA v && plainA u) = true
        · rw [if_pos hp, if_pos hp]
          congr 1
          unfold binPlain
          cases fastBin op v u with
          | some r => rfl
          | none =>
            simp only
            simp only [Bool.and_eq_true] at hp
            exact plainOp_bin hp.1 (by simp only [hx, Option.getD_some]) (by simp only [hy, Option.getD_some])
        · rw [if_neg hp, if_neg hp]
          generalize evNil E t v u = z
          cases z <;> cases op <;> rfl
theorem At_un1 {op : UnOp} {t : TypeId} {x : Operand} : At P E n ops q (⟨d, .unOp op t x, ty, pos, af, none⟩ :: r) tl k α h R ↔ PutO P E n ops q r tl k α h R d (unO P op (ev E h α x)) :=
  At_pure rfl rfl fun h1 hb => by
    rw [evOp_eq]
    simp only [evOpS, ev_blks hb]
    cases hx : ev E h α x with
    | none => rfl
    | some v =>
      simp only [unO]
      by_cases hp : plain v = true
      · rw [if_pos hp, if_pos hp]
        congr 1
        unfold plainOp
        have e : execOp (fun z => (ev E h α z).getD undef) ⟨d, .unOp op t x, ty, pos, af, none⟩ = (do pure (Next.value (← Op.unary op v))) := by
          show (do pure (Next.value (← Op.unary op ((ev E h α x).getD undef)))) = _
          rw [hx]
          rfl
        rw [e]
        exact pure_next _
      · rw [if_neg hp, if_neg hp]; rfl
theorem At_conv {s t : TypeId} {x : Operand} : At P E n ops q (⟨d, .convert s t x, ty, pos, af, none⟩ :: r) tl k α h R ↔ PutO P E n ops q r tl k α h R d (convO P E h.blks s t (ev E h α x)) :=
  At_pure rfl rfl fun h1 hb => by
    rw [evOp_eq]
    simp only [evOpS, ev_blks hb]
    cases hx : ev E h α x with
    | none => rfl
    | some v =>
      simp only [convO]
      by_cases hp : plain v = true
      · rw [if_pos hp, if_pos hp]
        congr 1
        unfold convPlain
        cases fastConv E s t v with
        | some r => rfl
        | none =>
          simp only
          unfold plainOp
          have e : execOp (fun z => (ev E h α z).getD undef) ⟨d, .convert s t x, ty, pos, af, none⟩ = (do pure (Next.value (← convert s t v))) := by
            show (do pure (Next.value (← convert s t ((ev E h α x).getD undef)))) = _
            rw [hx]
            rfl
          rw [e]
          exact pure_next _
      · rw [if_neg hp, if_neg hp]
        obtain ⟨b2, n2, w2⟩ := h1
        simp only at hb
        subst hb
        rfl
theorem At_field {t : TypeId} {x : Operand} {f : Nat} : At P E n ops q (⟨d, .field t x f, ty, pos, af, none⟩ :: r) tl k α h R ↔ PutO P E n ops q r tl k α h R d (fieldO E t f (ev E h α x)) :=
  At_pure rfl rfl fun h1 hb => by
    rw [evOp_eq]
    simp only [evOpS, ev_blks hb]
    generalize ev E h α x = x
    cases x <;> rfl
theorem At_fieldAddr {t : TypeId} {x : Operand} {f : Nat} : At P E n ops q (⟨d, .fieldAddr t x f, ty, pos, af, none⟩ :: r) tl k α h R ↔ PutO P E n ops q r tl k α h R d (fieldAddrO E t f (ev E h α x)) :=
  At_pure rfl rfl fun h1 hb => by
    rw [evOp_eq]
    simp only [evOpS, ev_blks hb]
    generalize ev E h α x = x
    cases x <;> rfl
theorem At_idxAddr {t : TypeId} {x y : Operand} : At P E n ops q (⟨d, .indexAddr t x y, ty, pos, af, none⟩ :: r) tl k α h R ↔ PutO P E n ops q r tl k α h R d (idxAddrO E t (ev E h α x) (ev E h α y)) :=
  At_pure rfl rfl fun h1 hb => by
    rw [evOp_eq]
    simp only [evOpS, ev_blks hb]
    generalize ev E h α x = x
    generalize ev E h α y = y
    cases x <;> cases y <;> rfl
theorem At_idx {t : TypeId} {x y : Operand} : At P E n ops q (⟨d, .index t x y, ty, pos, af, none⟩ :: r) tl k α h R ↔ PutO P E n ops q r tl k α h R d (idxO E t (ev E h α x) (ev E h α y)) :=
  At_pure rfl rfl fun h1 hb => by
    rw [evOp_eq]
    simp only [evOpS, ev_blks hb]
    generalize ev E h α x = x
    generalize ev E h α y = y
    cases x <;> cases y <;> rfl
theorem At_extract {x : Operand} {i : Nat} : At P E n ops q (⟨d, .extract x i, ty, pos, af, none⟩ :: r) tl k α h R ↔ PutO P E n ops q r tl k α h R d (extrO i (ev E h α x)) :=
  At_pure rfl rfl fun h1 hb => by
    rw [evOp_eq]
    simp only [evOpS, ev_blks hb]
    generalize ev E h α x = x
    cases x with
    | none => rfl
    | some v => cases v <;> rfl
theorem At_build {t : TypeId} {ps : Array (Nat × Operand)} : At P E n ops q (⟨d, .build t ps, ty, pos, af, none⟩ :: r) tl k α h R ↔ PutO P E n ops q r tl k α h R d (buildO E t (evParts E h α ps.toList)) :=
  At_pure rfl rfl fun h1 hb => by
    rw [evOp_eq]
    simp only [evOpS, evParts_blks hb]
    generalize evParts E h α ps.toList = x
    cases x <;> rfl
theorem At_func {fn : Fn} {a b : Array Operand} : At P E n ops q (⟨d, .makeFunc fn a b, ty, pos, af, none⟩ :: r) tl k α h R ↔ PutO P E n ops q r tl k α h R d (funcO fn (evs E h α a.toList) (evs E h α b.toList)) :=
  At_pure rfl rfl fun h1 hb => by
    rw [evOp_eq]
    simp only [evOpS, evs_blks hb]
    generalize evs E h α a.toList = x
    generalize evs E h α b.toList = y
    cases x <;> cases y <;> rfl
theorem At_slice {t : TypeId} {x : Operand} {lo hi : Option Operand} : At P E n ops q (⟨d, .slice t x lo hi none, ty, pos, af, none⟩ :: r) tl k α h R ↔ PutO P E n ops q r tl k α h R d (sliceO E t h.blks (ev E h α x) (evs E h α lo.toList) (evs E h α hi.toList)) :=
  At_pure rfl rfl fun h1 hb => by
    rw [evOp_eq]
    simp only [evOpS, ev_blks hb, evs_blks hb]
    generalize ev E h α x = x
    generalize evs E h α lo.toList = y
    generalize evs E h α hi.toList = z
    have : ∀ v lo hi, evSlice E h1 t v lo hi = evSlice E ⟨h.blks, 0, 0⟩ t v lo hi := fun v lo hi => by
      obtain ⟨b2, n2, w2⟩ := h1
      simp only at hb
      subst hb
      rfl
    cases x <;> cases y <;> cases z <;> first | rfl | (simp only [sliceO, this])
theorem At_len {x : Operand} {t : TypeId} : At P E n ops q (⟨d, .call ⟨.builtin .len, #[x], #[t]⟩, ty, pos, af, none⟩ :: r) tl k α h R ↔ PutO P E n ops q r tl k α h R d (lenO E t (ev E h α x)) :=
  At_pure rfl rfl fun h1 hb => by
    rw [evOp_eq]
    simp only [evOpS, evs, ev_blks hb]
    generalize ev E h α x = x
    cases x with
    | none => rfl
    | some v =>
      simp only [evBuiltin, lenO]
      generalize evLen E t v = z
      cases z <;> rfl
end
end
end Go.Proofs.YtnjbcgiplfdgmaaGreatDoor.Ev
