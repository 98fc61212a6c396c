/- Symbolic runs: maps. -/
import Derived.Test.YtdfkblagcfgncaaGreatDoorPmStr
namespace Go.Proofs.YtdfkblagcfgncaaGreatDoor.Ev
open Go
variable {P : Program} {E : Env}
noncomputable section

/-- a new map -/
structure NewM (h h' : H) : Prop where
  next : h'.next = h.next + 1
  wm : h'.wm = h.wm
  get : ∀ b, h'.blks.get b = if b = h.next then some (.mp []) else h.blks.get b
theorem NewM.pres {h h' : H} {m : Nat} (a : NewM h h') (hm : m ≤ h.next) : Pres m h h' :=
  ⟨by have := a.next; omega, by have := a.wm; omega, fun x hx => by rw [a.get, if_neg (by omega)]⟩

/-- a map that was written to -/
structure StoM (h h' : H) (b : Nat) (l : List (Value × Value)) : Prop where
  next : h'.next = h.next
  wm : min h.wm b ≤ h'.wm
  get : ∀ b', h'.blks.get b' = if b' = b then some (.mp l) else h.blks.get b'
theorem StoM.pres {h h' : H} {b m : Nat} {l : List (Value × Value)} (a : StoM h h' b l) (hm : m ≤ b) : Pres m h h' :=
  ⟨by rw [a.next]; exact Nat.le_refl _, by have := a.wm; omega, fun x hx => by rw [a.get, if_neg (by omega)]⟩

def lookO (P : Program) (E : Env) (t : TypeId) (B : Tr Blk) (ok : Bool) : Option Value → Option Value → Option Value
  | some m, some k => evLookup P E ⟨B, 0, 0⟩ t m k ok
  | _, _ => none

section
variable {n : Nat} {ops : List Oper} {q : Bool} {r tl : List Oper} {k : List Frm} {α : Tr Value} {h : H} {R : Rt} {ty : TypeId} {pos : String} {af : Array Edge}

theorem At_makeMap {t : TypeId} {d : Nat} (hd : d < n) (hk : ∀ h', NewM h h' → At P E n ops q r tl k (Tr.put α d (.map (some h.next))) h' R) :
    At P E n ops q (⟨some d, .makeMap t none, ty, pos, af, none⟩ :: r) tl k α h R := by
  rw [At_heap rfl rfl]
  have e : (st q h).next = h.next := by cases q <;> rfl
  have eb : (st q h).blks = h.blks := by cases q <;> rfl
  have : evOp P E nocall (st q h) α ⟨some d, .makeMap t none, ty, pos, af, none⟩ = some (.map (some h.next), { blks := Tr.put h.blks h.next (.mp []), next := h.next + 1, wm := (st q h).wm }) := by
    rw [evOp_eq]
    simp only [evOpS, mpNew, forceN_eq, Tr.force_eq, e, eb]
  rw [this, HeapO_some hd]
  refine ⟨fun hq => by simp only; exact st_wm hq, hk _ ⟨by cases q <;> rfl, by cases q <;> rfl, fun b => ?_⟩⟩
  have : (fin q h { blks := Tr.put h.blks h.next (.mp []), next := h.next + 1, wm := (st q h).wm }).blks = Tr.put h.blks h.next (.mp []) := by cases q <;> rfl
  rw [this]
  exact Tr.get_put _ _ _ _

theorem At_lookup {t : TypeId} {x y : Operand} {ok : Bool} {d : Option Tmp} : At P E n ops q (⟨d, .lookup t x y ok, ty, pos, af, none⟩ :: r) tl k α h R ↔ PutO P E n ops q r tl k α h R d (lookO P E t h.blks ok (ev E h α x) (ev E h α y)) :=
  At_pure rfl rfl fun h1 hb => by
    rw [evOp_eq]
    simp only [evOpS, ev_blks hb]
    generalize ev E h α x = x
    generalize ev E h α y = y
    have : ∀ m k, evLookup P E h1 t m k ok = evLookup P E ⟨h.blks, 0, 0⟩ t m k ok := fun m k => by
      obtain ⟨b2, n2, w2⟩ := h1
      simp only at hb
      subst hb
      rfl
    cases x <;> cases y <;> first | rfl | (simp only [lookO, this])

theorem mpPut_sto [NoFz E] {b : Nat} {l0 l : List (Value × Value)} (hb : h.blks.get b = some (.mp l0)) (hG : E.G ≤ b) : ∃ h', mpPut E h b l = some h' ∧ StoM h h' b l :=
  ⟨{ blks := Tr.put h.blks b (.mp l), next := h.next, wm := min h.wm b }, by
    simp only [mpPut, hb]
    rw [if_pos ⟨hG, NoFz.frz _⟩]
    simp only [forceL_eq, Tr.force_eq, forceN_eq], rfl, Nat.le_refl _, fun b' => Tr.get_put _ _ _ _⟩

theorem At_mapSet [NoFz E] {t : TypeId} {m x y : Operand} {b : Nat} {l0 l : List (Value × Value)} {kv v : Value} (hm : ev E h α m = some (.map (some b))) (hx : ev E h α x = some kv) (hy : ev E h α y = some v)
    (hb : h.blks.get b = some (.mp l0)) (hG : E.G ≤ b) (hs : evMapSet P E h t (.map (some b)) kv v = mpPut E h b l)
    (hk : ∀ h', StoM h h' b l → At P E n ops false r tl k α h' R) : At P E n ops false (⟨none, .mapUpdate t m x y, ty, pos, af, none⟩ :: r) tl k α h R := by
  rw [At_heap rfl rfl]
  obtain ⟨h', h1, h2⟩ := mpPut_sto (l := l) hb hG
  have e : evOp P E nocall (st false h) α ⟨none, .mapUpdate t m x y, ty, pos, af, none⟩ = some (undef, h') := by
    rw [evOp_eq]
    simp only [evOpS, st, hm, hx, hy, hs, h1]
  rw [e, HeapO_none]
  exact ⟨fun e => (by cases e), hk _ h2⟩
end

/- ### keys that are strings -/
def StrK (l : List (Value × Value)) : Prop := ∀ x ∈ l, ∃ s : List UInt8, x.1 = strV s
theorem ba_eq {a b : List UInt8} : ((⟨a.toArray⟩ : ByteArray) == ⟨b.toArray⟩) = decide (a = b) := by
  show (a.toArray == b.toArray) = _
  by_cases h : a = b
  · subst h; simp
  · simp [h]
theorem findNow_str {s : List UInt8} : ∀ {l : List (Value × Value)} (i : Nat), StrK l → (evFindNow .string (strV s) l i = some none ∧ ∀ x ∈ l, x.1 ≠ strV s) ∨ ∃ j v, evFindNow .string (strV s) l i = some (some (i + j, v)) ∧ l[j]? = some (strV s, v)
  | [], i, _ => .inl ⟨rfl, fun _ h => by cases h⟩
  | (k, v) :: r, i, hk => by
    obtain ⟨u, hu⟩ := hk (k, v) List.mem_cons_self
    simp only at hu
    subst hu
    have hs : Instr.sameNow .string (strV s) (strV u) = some (decide (s = u)) := by
      show some ((⟨s.toArray⟩ : ByteArray) == ⟨u.toArray⟩) = _
      rw [ba_eq]
    by_cases h : s = u
    · subst h
      refine .inr ⟨0, v, ?_, rfl⟩
      simp only [evFindNow, hs, decide_true, Nat.add_zero]
    · rcases findNow_str (i + 1) (fun x hx => hk x (List.mem_cons_of_mem _ hx)) with ⟨h1, h2⟩ | ⟨j, w, h1, h2⟩
      · refine .inl ⟨?_, fun x hx => ?_⟩
        · simp only [evFindNow, hs, h, decide_false]; exact h1
        · rcases List.mem_cons.1 hx with rfl | hx
          · intro e; exact h (strV_inj.1 e).symm
          · exact h2 x hx
      · refine .inr ⟨j + 1, w, ?_, by simpa using h2⟩
        simp only [evFindNow, hs, h, decide_false]
        rw [h1]
        congr 3
        omega

section
variable {t kt et : TypeId} {h : H} {b : Nat} {l : List (Value × Value)} {s : List UInt8} {G : Nat}
theorem keys_str (hk : E.u kt = some .string) {em : Bool} : keysOK P E kt (strV s) em = true := by
  unfold keysOK
  simp only [hk]
  rfl
theorem evFind_str (hk : E.u kt = some .string) (hl : StrK l) : (evFind P E kt (strV s) l = some none ∧ ∀ x ∈ l, x.1 ≠ strV s) ∨ ∃ j v, evFind P E kt (strV s) l = some (some (j, v)) ∧ l[j]? = some (strV s, v) := by
  rcases findNow_str (s := s) 0 hl with ⟨h1, h2⟩ | ⟨j, v, h1, h2⟩
  · exact .inl ⟨by simp only [evFind, hk, h1], h2⟩
  · exact .inr ⟨0 + j, v, by simp only [evFind, hk, h1], by simpa using h2⟩

/-- a lookup with a string: what is known, or nothing -/
theorem look_str {inf : TypeInfo} {z : Value} (hu : E.u t = some (.map kt et)) (hk : E.u kt = some .string) (hi : E.i et = some inf) (hz : inf.zero = some z) (hc : okConst z = true) {B : Tr Blk} (hb : B.get b = some (.mp l)) (hl : StrK l) :
    (lookO P E t B true (some (.map (some b))) (some (strV s)) = some (.tuple #[z, .bool false]) ∧ ∀ x ∈ l, x.1 ≠ strV s) ∨ ∃ v, lookO P E t B true (some (.map (some b))) (some (strV s)) = some (.tuple #[v, .bool true]) ∧ (strV s, v) ∈ l := by
  rcases evFind_str (P := P) (s := s) hk hl with ⟨h1, h2⟩ | ⟨j, v, h1, h2⟩
  · refine .inl ⟨?_, h2⟩
    simp only [lookO, evLookup, hu, mpGet, hb, keys_str hk, if_true, h1, hi, hz, hc, commaOk]
  · refine .inr ⟨v, ?_, List.mem_of_getElem? h2⟩
    simp only [lookO, evLookup, hu, mpGet, hb, keys_str hk, if_true, h1, commaOk]

/-- an update: what is in the map then -/
theorem set_str [NoFz E] {v : Value} (hu : E.u t = some (.map kt et)) (hk : E.u kt = some .string) (hb : h.blks.get b = some (.mp l)) (hl : StrK l) :
    ∃ l', evMapSet P E h t (.map (some b)) (strV s) v = mpPut E h b l' ∧ StrK l' ∧ ∀ x ∈ l', x ∈ l ∨ x = (strV s, v) := by
  rcases evFind_str (P := P) (s := s) hk hl with ⟨h1, h2⟩ | ⟨j, u, h1, h2⟩
  · refine ⟨l ++ [(strV s, v)], ?_, fun x hx => ?_, fun x hx => ?_⟩
    · simp only [evMapSet, hu, mpGet, hb, keys_str hk, if_true, h1]
    · rcases List.mem_append.1 hx with hx | hx
      · exact hl x hx
      · simp at hx; subst hx; exact ⟨s, rfl⟩
    · rcases List.mem_append.1 hx with hx | hx
      · exact .inl hx
      · simp at hx; exact .inr hx
  · refine ⟨l.set j (strV s, v), ?_, fun x hx => ?_, fun x hx => ?_⟩
    · have hsame : sameAt l j (strV s) = true := by
        simp only [sameAt, h2]
        show ((⟨s.toArray⟩ : ByteArray) == ⟨s.toArray⟩) = true
        rw [ba_eq]; simp
      simp only [evMapSet, hu, mpGet, hb, keys_str hk, if_true, h1, hsame]
    · rcases List.mem_or_eq_of_mem_set hx with hx | rfl
      · exact hl x hx
      · exact ⟨s, rfl⟩
    · exact List.mem_or_eq_of_mem_set hx
end
end
end Go.Proofs.YtdfkblagcfgncaaGreatDoor.Ev

