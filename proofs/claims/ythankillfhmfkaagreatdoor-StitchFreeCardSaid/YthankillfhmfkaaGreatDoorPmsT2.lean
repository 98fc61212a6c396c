/- Equal seams; the longest common beginning. Mathematics alone. -/
import Derived.Test.YthankillfhmfkaaGreatDoorPmAA
import Derived.Test.YthankillfhmfkaaGreatDoorPmsS1
set_option linter.unusedSimpArgs false
set_option linter.unusedVariables false
namespace Go.Proofs.YthankillfhmfkaaGreatDoor.Ev

/-- a seam without the letter that can come first -/
def er (cm : Nat → Nat → Bool) (y : Nat) : List UInt8 → Option (List UInt8)
  | [] => none
  | c :: r => if lt c = y then some r else if cm (lt c) y = true then (er cm y r).map (c :: ·) else none

theorem er_fg {cm : Nat → Nat → Bool} {y : Nat} : ∀ (l : List UInt8) (i : Nat), (∃ j, fg cm y l i = ((i + j : Nat) : Int) ∧ er cm y l = some (wo l j)) ∨ (fg cm y l i = -1 ∧ er cm y l = none)
  | [], i => .inr ⟨rfl, rfl⟩
  | c :: r, i => by
    unfold fg er
    by_cases h : lt c = y
    · rw [if_pos h, if_pos h]
      exact .inl ⟨0, by simp, by simp [wo]⟩
    · rw [if_neg h, if_neg h]
      by_cases h2 : cm (lt c) y = true
      · rw [if_pos h2, if_pos h2]
        rcases er_fg r (i + 1) with ⟨j, h3, h4⟩ | ⟨h3, h4⟩
        · exact .inl ⟨j + 1, by rw [h3]; congr 1; omega, by rw [h4]; simp [wo]⟩
        · exact .inr ⟨h3, by rw [h4]; rfl⟩
      · rw [if_neg h2, if_neg h2]; exact .inr ⟨rfl, rfl⟩
theorem er_some {cm : Nat → Nat → Bool} {y : Nat} {l : List UInt8} (h : 0 ≤ fg cm y l 0) : er cm y l = some (wo l (at0 cm y l)) := by
  rcases er_fg (cm := cm) (y := y) l 0 with ⟨j, h1, h2⟩ | ⟨h1, _⟩
  · have : at0 cm y l = j := by unfold at0; rw [h1]; omega
    rw [this]; exact h2
  · omega
theorem er_iff {cm : Nat → Nat → Bool} {y : Nat} {l : List UInt8} : 0 ≤ fg cm y l 0 ↔ er cm y l ≠ none := by
  rcases er_fg (cm := cm) (y := y) l 0 with ⟨j, h1, h2⟩ | ⟨h1, h2⟩
  · rw [h1, h2]; exact ⟨fun _ e => (by cases e), fun _ => by omega⟩
  · rw [h1, h2]; exact ⟨fun h => absurd h (by decide), fun h => absurd rfl h⟩

/-- seams that are equal -/
inductive Sw (cm : Nat → Nat → Bool) : List UInt8 → List UInt8 → Prop
  | refl (l : List UInt8) : Sw cm l l
  | cons (c : UInt8) {a b : List UInt8} : Sw cm a b → Sw cm (c :: a) (c :: b)
  | swap (a b : UInt8) (r : List UInt8) : lt a ≠ lt b → cm (lt a) (lt b) = true → cm (lt b) (lt a) = true → Sw cm (a :: b :: r) (b :: a :: r)
  | trans {a b c : List UInt8} : Sw cm a b → Sw cm b c → Sw cm a c

theorem Sw.er {cm : Nat → Nat → Bool} {y : Nat} {l1 l2 : List UInt8} (h : Sw cm l1 l2) : (Go.Proofs.YthankillfhmfkaaGreatDoor.Ev.er cm y l1 = none ∧ Go.Proofs.YthankillfhmfkaaGreatDoor.Ev.er cm y l2 = none) ∨ ∃ a b, Go.Proofs.YthankillfhmfkaaGreatDoor.Ev.er cm y l1 = some a ∧ Go.Proofs.YthankillfhmfkaaGreatDoor.Ev.er cm y l2 = some b ∧ Sw cm a b := by
  induction h with
  | refl l => cases Go.Proofs.YthankillfhmfkaaGreatDoor.Ev.er cm y l with
    | none => exact .inl ⟨rfl, rfl⟩
    | some a => exact .inr ⟨a, a, rfl, rfl, .refl a⟩
  | @cons c a b h ih =>
    simp only [Go.Proofs.YthankillfhmfkaaGreatDoor.Ev.er]
    by_cases h1 : lt c = y
    · rw [if_pos h1, if_pos h1]; exact .inr ⟨a, b, rfl, rfl, h⟩
    · rw [if_neg h1, if_neg h1]
      by_cases h2 : cm (lt c) y = true
      · rw [if_pos h2, if_pos h2]
        rcases ih with ⟨e1, e2⟩ | ⟨p, q, e1, e2, hpq⟩
        · rw [e1, e2]; exact .inl ⟨rfl, rfl⟩
        · rw [e1, e2]; exact .inr ⟨_, _, rfl, rfl, .cons c hpq⟩
      · rw [if_neg h2, if_neg h2]; exact .inl ⟨rfl, rfl⟩
  | swap a b r hab h1 h2 =>
    simp only [Go.Proofs.YthankillfhmfkaaGreatDoor.Ev.er]
    by_cases ha : lt a = y
    · subst ha
      rw [if_pos rfl, if_neg (Ne.symm hab), if_pos h2]
      exact .inr ⟨_, _, rfl, by rw [if_pos rfl]; rfl, .refl _⟩
    · by_cases hb : lt b = y
      · subst hb
        rw [if_neg ha, if_pos h1, if_pos rfl]
        exact .inr ⟨_, _, rfl, by rw [if_pos rfl], .refl _⟩
      · cases ca : cm (lt a) y <;> cases cb : cm (lt b) y <;> cases e : Go.Proofs.YthankillfhmfkaaGreatDoor.Ev.er cm y r <;> simp only [ha, hb, ca, cb, e, if_true, if_false, Option.map_some, Option.map_none, Bool.false_eq_true, reduceIte] <;>
          first | exact .inl ⟨rfl, rfl⟩ | exact .inl ⟨trivial, trivial⟩ | exact .inr ⟨_, _, rfl, rfl, .swap a b _ hab h1 h2⟩
  | trans _ _ ih1 ih2 =>
    rcases ih1 with ⟨e1, e2⟩ | ⟨p, q, e1, e2, h1⟩
    · rcases ih2 with ⟨e3, e4⟩ | ⟨p', q', e3, e4, h2⟩
      · exact .inl ⟨e1, e4⟩
      · rw [e2] at e3; cases e3
    · rcases ih2 with ⟨e3, e4⟩ | ⟨p', q', e3, e4, h2⟩
      · rw [e2] at e3; cases e3
      · rw [e2] at e3; cases e3
        exact .inr ⟨_, _, e1, e4, h1.trans h2⟩
theorem Sw.len {cm : Nat → Nat → Bool} {a b : List UInt8} (h : Sw cm a b) : a.length = b.length := by
  induction h with
  | refl => rfl
  | cons c _ ih => simp [ih]
  | swap => simp
  | trans _ _ h1 h2 => exact h1.trans h2
theorem Sw.mem {cm : Nat → Nat → Bool} {a b : List UInt8} (h : Sw cm a b) (c : UInt8) : c ∈ a ↔ c ∈ b := by
  induction h with
  | refl => exact Iff.rfl
  | cons d _ ih => simp [ih]
  | swap x y r =>
    simp only [List.mem_cons]
    constructor
    · rintro (h | h | h)
      · exact .inr (.inl h)
      · exact .inl h
      · exact .inr (.inr h)
    · rintro (h | h | h)
      · exact .inr (.inl h)
      · exact .inl h
      · exact .inr (.inr h)
  | trans _ _ h1 h2 => exact h1.trans h2
theorem Sw.right {cm : Nat → Nat → Bool} {a b : List UInt8} (h : Sw cm a b) (q : List UInt8) : Sw cm (a ++ q) (b ++ q) := by
  induction h with
  | refl => exact .refl _
  | cons c _ ih => exact .cons c ih
  | swap x y r h1 h2 h3 => exact .swap x y _ h1 h2 h3
  | trans _ _ h1 h2 => exact h1.trans h2
theorem Sw.left {cm : Nat → Nat → Bool} {a b : List UInt8} (h : Sw cm a b) : ∀ p : List UInt8, Sw cm (p ++ a) (p ++ b)
  | [] => h
  | c :: p => .cons c (h.left p)
theorem er_front {cm : Nat → Nat → Bool} (hsym : ∀ a b, cm a b = cm b a) {y : Nat} : ∀ (l l' : List UInt8), er cm y l = some l' → ∃ c, lt c = y ∧ c ∈ l ∧ Sw cm l (c :: l')
  | [], l', h => by cases h
  | d :: r, l', h => by
    unfold er at h
    by_cases h1 : lt d = y
    · rw [if_pos h1] at h
      cases h
      exact ⟨d, h1, List.mem_cons_self, .refl _⟩
    · rw [if_neg h1] at h
      by_cases h2 : cm (lt d) y = true
      · rw [if_pos h2] at h
        cases e : er cm y r with
        | none => rw [e] at h; cases h
        | some r' =>
          rw [e] at h
          cases h
          obtain ⟨c, hc, hm, hs⟩ := er_front hsym r r' e
          subst hc
          exact ⟨c, rfl, List.mem_cons_of_mem _ hm, (Sw.cons d hs).trans (.swap d c r' h1 h2 (by rw [hsym]; exact h2))⟩
      · rw [if_neg h2] at h; cases h

theorem lst_sw {cm : Nat → Nat → Bool} (hsym : ∀ a b, cm a b = cm b a) : ∀ (n : Nat) (l : List UInt8), l.length = n → OkL 6 l → Sw cm l (lst cm 6 l) := by
  intro n
  induction n with
  | zero =>
    intro l hn hl
    obtain rfl := List.eq_nil_of_length_eq_zero hn
    exact .refl _
  | succ n ih =>
    intro l hn hl
    cases e : nx cm 6 l with
    | none => exact absurd e (nx_ne hl (fun h => by rw [h] at hn; cases hn))
    | some x =>
      have hx := nx_some.1 e
      obtain ⟨c, hc, hm, hs⟩ := er_front hsym l _ (er_some hx.2.1)
      have hw := wo_len (at0_lt hx.2.1).1
      rw [lst_step e, byte_of (hl c hm).1 hc]
      exact hs.trans (.cons c (ih _ (by omega) hl.wo))
theorem Sw.lst {cm : Nat → Nat → Bool} {K : Nat} : ∀ (n : Nat) {a b : List UInt8}, a.length = n → Sw cm a b → lst cm K a = lst cm K b := by
  intro n
  induction n with
  | zero =>
    intro a b hn h
    have h2 := h.len
    obtain rfl := List.eq_nil_of_length_eq_zero hn
    obtain rfl := List.eq_nil_of_length_eq_zero (h2.symm.trans hn)
    rfl
  | succ n ih =>
    intro a b hn h
    have hiff : ∀ y, 0 ≤ fg cm y a 0 ↔ 0 ≤ fg cm y b 0 := fun y => by
      rw [er_iff, er_iff]
      rcases h.er (y := y) with ⟨e1, e2⟩ | ⟨p, q, e1, e2, _⟩
      · rw [e1, e2]
      · rw [e1, e2]; exact ⟨fun _ e => (by cases e), fun _ e => (by cases e)⟩
    cases e : nx cm K a with
    | none =>
      have e' : nx cm K b = none := nx_none.2 fun y hy hf => nx_none.1 e y hy ((hiff y).2 hf)
      rw [lst_stop e, lst_stop e']
    | some x =>
      obtain ⟨h1, h2, h3⟩ := nx_some.1 e
      have hb := (hiff x).1 h2
      have e' : nx cm K b = some x := nx_some.2 ⟨h1, hb, fun y hy hf => h3 y hy ((hiff y).2 hf)⟩
      rw [lst_step e, lst_step e']
      rcases h.er (y := x) with ⟨e1, e2⟩ | ⟨p, q, e1, e2, hpq⟩
      · rw [er_some h2] at e1; cases e1
      · rw [er_some h2] at e1
        rw [er_some hb] at e2
        cases e1; cases e2
        have hw := wo_len (at0_lt h2).1
        rw [ih (by omega) hpq]

theorem lt_byte {x : Nat} (hx : x < 6) : (UInt8.ofNat (97 + x)).toNat = 97 + x ∧ lt (UInt8.ofNat (97 + x)) = x := by
  have h : (UInt8.ofNat (97 + x)).toNat = 97 + x := by rw [UInt8.toNat_ofNat']; exact Nat.mod_eq_of_lt (by omega)
  exact ⟨h, by unfold lt; omega⟩
end Go.Proofs.YthankillfhmfkaaGreatDoor.Ev


