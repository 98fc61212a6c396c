/- Symbolic runs: maps. -/
import Derived.Test.YthiodndhokooiaaGreatDoorPmStr
namespace Go.Proofs.YthiodndhokooiaaGreatDoor.Ev
open Go
variable {P : Program} {E : Env}
noncomputable section

/-- a new map -/
structure NewM (h h' : H) : Prop where
  next : h'.next = h.next + 1
  wm : h'.wm = h.wm
  get : ∀ b, h'.blks.get b = if b = h.next then some (.mp []) else h.blks.get b
theorem NewM.pres {h h' : H} {m : Nat} (a : NewM h h') (hm : m ≤ h.next) : Pres m h h' :=
  ⟨by have := a.next; omega, by have := a.wm; omega, fun x hx => by rw [a.get, if_neg (by omega)]⟩

/-- a map that was written to -/
structure StoM (h h' : H) (b : Nat) (l : List (Value × Value)) : Prop where
  next : h'.next = h.next
  wm : min h.wm b ≤ h'.wm
  get : ∀ b', h'.blks.get b' = if b' = b then some (.mp l) else h.blks.get b'
theorem StoM.pres {h h' : H} {b m : Nat} {l : List (Value × Value)} (a : StoM h h' b l) (hm : m ≤ b) : Pres m h h' :=
  ⟨by rw [a.next]; exact Nat.le_refl _, by have := a.wm; omega, fun x hx => by rw [a.get, if_neg (by omega)]⟩

def lookO (P : Program) (E : Env) (t : TypeId) (B : Tr Blk) (ok : Bool) : Option Value → Option Value → Option Value
  | some m, some k => evLookup P E ⟨B, 0, 0⟩ t m k ok
  | _, _ => none

section
variable {n : Nat} {ops : List Oper} {q : Bool} {r tl : List Oper} {k : List Frm} {α : Tr Value} {h : H} {R : Rt} {ty : TypeId} {pos : String} {af : Array Edge}

theorem At_makeMap {t : TypeId} {d : Nat} (hd : d < n) (hk : ∀ h', NewM h h' → At P E n ops q r tl k (Tr.put α d (.map (some h.next))) h' R) :
    At P E n ops q (⟨some d, .makeMap t none, ty, pos, af, none⟩ :: r) tl k α h R := by
  rw [At_heap rfl rfl]
  have e : (st q h).next = h.next := by cases q <;> rfl
  have eb : (st q h).blks = h.blks := by cases q <;> rfl
  have : evOp P E nocall (st q h) α ⟨some d, .makeMap t none, ty, pos, af, none⟩ = some (.map (some h.next), { blks := Tr.put h.blks h.next (.mp []), next := h.next + 1, wm := (st q h).wm }) := by
    rw [evOp_eq]
    simp only [evOpS, mpNew, forceN_eq, Tr.force_eq, e, eb]
  rw [this, HeapO_some hd]
  refine ⟨fun hq => by simp only; exact st_wm hq, hk _ ⟨by cases q <;> rfl, by cases q <;> rfl, fun b => ?_⟩⟩
  have : (fin q h { blks := Tr.put h.blks h.next (.mp []), next := h.next + 1, wm := (st q h).wm }).blks = Tr.put h.blks h.next (.mp []) := by cases q <;> rfl
  rw [this]
  exact Tr.get_put _ _ _ _

theorem At_lookup {t : TypeId} {x y : Operand} {ok : Bool} {d : Option Tmp} : At P E n ops q (⟨d, .lookup t x y ok, ty, pos, af, none⟩ :: r) tl k α h R ↔ PutO P E n ops q r tl k α h R d (lookO P E t h.blks ok (ev E h α x) (ev E h α y)) :=
  At_pure rfl rfl fun h1 hb => by
    rw [evOp_eq]
    simp only [evOpS, ev_blks hb]
    generalize ev E h α x = x
    generalize ev E h α y = y
    have : ∀ m k, evLookup P E h1 t m k ok = evLookup P E ⟨h.blks, 0, 0⟩ t m k ok := fun m k => by
      obtain ⟨b2, n2, w2⟩ := h1
      simp only at hb
      subst hb
      rfl
    cases x <;> cases y <;> first | rfl | (simp only [lookO, this])

theorem mpPut_sto [NoFz E] {b : Nat} {l0 l : List (Value × Value)} (hb : h.blks.get b = some (.mp l0)) (hG : E.G ≤ b) : ∃ h', mpPut E h b l = some h' ∧ StoM h h' b l :=
  ⟨{ blks := Tr.put h.blks b (.mp l), next := h.next, wm := min h.wm b }, by
    simp only [mpPut, hb]
    rw [if_pos ⟨hG, NoFz.frz _⟩]
    simp only [forceL_eq, Tr.force_eq, forceN_eq], rfl, Nat.le_refl _, fun b' => Tr.get_put _ _ _ _⟩

theorem At_mapSet [NoFz E] {t : TypeId} {m x y : Operand} {b : Nat} {l0 l : List (Value × Value)} {kv v : Value} (hm : ev E h α m = some (.map (some b))) (hx : ev E h α x = some kv) (hy : ev E h α y = some v)
    (hb : h.blks.get b = some (.mp l0)) (hG : E.G ≤ b) (hs : evMapSet P E h t (.map (some b)) kv v = mpPut E h b l)
    (hk : ∀ h', StoM h h' b l → At P E n ops false r tl k α h' R) : At P E n ops false (⟨none, .mapUpdate t m x y, ty, pos, af, none⟩ :: r) tl k α h R := by
  rw [At_heap rfl rfl]
  obtain ⟨h', h1, h2⟩ := mpPut_sto (l := l) hb hG
  have e : evOp P E nocall (st false h) α ⟨none, .mapUpdate t m x y, ty, pos, af, none⟩ = some (undef, h') := by
    rw [evOp_eq]
    simp only [evOpS, st, hm, hx, hy, hs, h1]
  rw [e, HeapO_none]
  exact ⟨fun e => (by cases e), hk _ h2⟩
end

section
variable {t kt et : TypeId} {h : H} {b : Nat} {l : List (Value × Value)} {s : List UInt8} {G : Nat}
end
end
end Go.Proofs.YthiodndhokooiaaGreatDoor.Ev

