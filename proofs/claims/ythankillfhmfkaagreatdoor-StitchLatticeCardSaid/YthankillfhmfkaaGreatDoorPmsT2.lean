/- Equal seams; the longest common beginning. Mathematics alone. -/
import Derived.Test.YthankillfhmfkaaGreatDoorPmsR1
set_option linter.unusedSimpArgs false
set_option linter.unusedVariables false
namespace Go.Proofs.YthankillfhmfkaaGreatDoor.Ev

/-- a seam without the letter that can come first -/
def er (cm : Nat → Nat → Bool) (y : Nat) : List UInt8 → Option (List UInt8)
  | [] => none
  | c :: r => if lt c = y then some r else if cm (lt c) y = true then (er cm y r).map (c :: ·) else none

theorem er_fg {cm : Nat → Nat → Bool} {y : Nat} : ∀ (l : List UInt8) (i : Nat), (∃ j, fg cm y l i = ((i + j : Nat) : Int) ∧ er cm y l = some (wo l j)) ∨ (fg cm y l i = -1 ∧ er cm y l = none)
  | [], i => .inr ⟨rfl, rfl⟩
  | c :: r, i => by
    unfold fg er
    by_cases h : lt c = y
    · rw [if_pos h, if_pos h]
      exact .inl ⟨0, by simp, by simp [wo]⟩
    · rw [if_neg h, if_neg h]
      by_cases h2 : cm (lt c) y = true
      · rw [if_pos h2, if_pos h2]
        rcases er_fg r (i + 1) with ⟨j, h3, h4⟩ | ⟨h3, h4⟩
        · exact .inl ⟨j + 1, by rw [h3]; congr 1; omega, by rw [h4]; simp [wo]⟩
        · exact .inr ⟨h3, by rw [h4]; rfl⟩
      · rw [if_neg h2, if_neg h2]; exact .inr ⟨rfl, rfl⟩
theorem er_some {cm : Nat → Nat → Bool} {y : Nat} {l : List UInt8} (h : 0 ≤ fg cm y l 0) : er cm y l = some (wo l (at0 cm y l)) := by
  rcases er_fg (cm := cm) (y := y) l 0 with ⟨j, h1, h2⟩ | ⟨h1, _⟩
  · have : at0 cm y l = j := by unfold at0; rw [h1]; omega
    rw [this]; exact h2
  · omega
theorem er_iff {cm : Nat → Nat → Bool} {y : Nat} {l : List UInt8} : 0 ≤ fg cm y l 0 ↔ er cm y l ≠ none := by
  rcases er_fg (cm := cm) (y := y) l 0 with ⟨j, h1, h2⟩ | ⟨h1, h2⟩
  · rw [h1, h2]; exact ⟨fun _ e => (by cases e), fun _ => by omega⟩
  · rw [h1, h2]; exact ⟨fun h => absurd h (by decide), fun h => absurd rfl h⟩

/-- seams that are equal -/
inductive Sw (cm : Nat → Nat → Bool) : List UInt8 → List UInt8 → Prop
  | refl (l : List UInt8) : Sw cm l l
  | cons (c : UInt8) {a b : List UInt8} : Sw cm a b → Sw cm (c :: a) (c :: b)
  | swap (a b : UInt8) (r : List UInt8) : lt a ≠ lt b → cm (lt a) (lt b) = true → cm (lt b) (lt a) = true → Sw cm (a :: b :: r) (b :: a :: r)
  | trans {a b c : List UInt8} : Sw cm a b → Sw cm b c → Sw cm a c

theorem Sw.er {cm : Nat → Nat → Bool} {y : Nat} {l1 l2 : List UInt8} (h : Sw cm l1 l2) : (Go.Proofs.YthankillfhmfkaaGreatDoor.Ev.er cm y l1 = none ∧ Go.Proofs.YthankillfhmfkaaGreatDoor.Ev.er cm y l2 = none) ∨ ∃ a b, Go.Proofs.YthankillfhmfkaaGreatDoor.Ev.er cm y l1 = some a ∧ Go.Proofs.YthankillfhmfkaaGreatDoor.Ev.er cm y l2 = some b ∧ Sw cm a b := by
  induction h with
  | refl l => cases Go.Proofs.YthankillfhmfkaaGreatDoor.Ev.er cm y l with
    | none => exact .inl ⟨rfl, rfl⟩
    | some a => exact .inr ⟨a, a, rfl, rfl, .refl a⟩
  | @cons c a b h ih =>
    simp only [Go.Proofs.YthankillfhmfkaaGreatDoor.Ev.er]
    by_cases h1 : lt c = y
    · rw [if_pos h1, if_pos h1]; exact .inr ⟨a, b, rfl, rfl, h⟩
    · rw [if_neg h1, if_neg h1]
      by_cases h2 : cm (lt c) y = true
      · rw [if_pos h2, if_pos h2]
        rcases ih with ⟨e1, e2⟩ | ⟨p, q, e1, e2, hpq⟩
        · rw [e1, e2]; exact .inl ⟨rfl, rfl⟩
        · rw [e1, e2]; exact .inr ⟨_, _, rfl, rfl, .cons c hpq⟩
      · rw [if_neg h2, if_neg h2]; exact .inl ⟨rfl, rfl⟩
  | swap a b r hab h1 h2 =>
    simp only [Go.Proofs.YthankillfhmfkaaGreatDoor.Ev.er]
    by_cases ha : lt a = y
    · subst ha
      rw [if_pos rfl, if_neg (Ne.symm hab), if_pos h2]
      exact .inr ⟨_, _, rfl, by rw [if_pos rfl]; rfl, .refl _⟩
    · by_cases hb : lt b = y
      · subst hb
        rw [if_neg ha, if_pos h1, if_pos rfl]
        exact .inr ⟨_, _, rfl, by rw [if_pos rfl], .refl _⟩
      · cases ca : cm (lt a) y <;> cases cb : cm (lt b) y <;> cases e : Go.Proofs.YthankillfhmfkaaGreatDoor.Ev.er cm y r <;> simp only [ha, hb, ca, cb, e, if_true, if_false, Option.map_some, Option.map_none, Bool.false_eq_true, reduceIte] <;>
          first | exact .inl ⟨rfl, rfl⟩ | exact .inl ⟨trivial, trivial⟩ | exact .inr ⟨_, _, rfl, rfl, .swap a b _ hab h1 h2⟩
  | trans _ _ ih1 ih2 =>
    rcases ih1 with ⟨e1, e2⟩ | ⟨p, q, e1, e2, h1⟩
    · rcases ih2 with ⟨e3, e4⟩ | ⟨p', q', e3, e4, h2⟩
      · exact .inl ⟨e1, e4⟩
      · rw [e2] at e3; cases e3
    · rcases ih2 with ⟨e3, e4⟩ | ⟨p', q', e3, e4, h2⟩
      · rw [e2] at e3; cases e3
      · rw [e2] at e3; cases e3
        exact .inr ⟨_, _, e1, e4, h1.trans h2⟩
theorem Sw.len {cm : Nat → Nat → Bool} {a b : List UInt8} (h : Sw cm a b) : a.length = b.length := by
  induction h with
  | refl => rfl
  | cons c _ ih => simp [ih]
  | swap => simp
  | trans _ _ h1 h2 => exact h1.trans h2
theorem Sw.mem {cm : Nat → Nat → Bool} {a b : List UInt8} (h : Sw cm a b) (c : UInt8) : c ∈ a ↔ c ∈ b := by
  induction h with
  | refl => exact Iff.rfl
  | cons d _ ih => simp [ih]
  | swap x y r =>
    simp only [List.mem_cons]
    constructor
    · rintro (h | h | h)
      · exact .inr (.inl h)
      · exact .inl h
      · exact .inr (.inr h)
    · rintro (h | h | h)
      · exact .inr (.inl h)
      · exact .inl h
      · exact .inr (.inr h)
  | trans _ _ h1 h2 => exact h1.trans h2
theorem Sw.right {cm : Nat → Nat → Bool} {a b : List UInt8} (h : Sw cm a b) (q : List UInt8) : Sw cm (a ++ q) (b ++ q) := by
  induction h with
  | refl => exact .refl _
  | cons c _ ih => exact .cons c ih
  | swap x y r h1 h2 h3 => exact .swap x y _ h1 h2 h3
  | trans _ _ h1 h2 => exact h1.trans h2
theorem Sw.left {cm : Nat → Nat → Bool} {a b : List UInt8} (h : Sw cm a b) : ∀ p : List UInt8, Sw cm (p ++ a) (p ++ b)
  | [] => h
  | c :: p => .cons c (h.left p)
theorem er_front {cm : Nat → Nat → Bool} (hsym : ∀ a b, cm a b = cm b a) {y : Nat} : ∀ (l l' : List UInt8), er cm y l = some l' → ∃ c, lt c = y ∧ c ∈ l ∧ Sw cm l (c :: l')
  | [], l', h => by cases h
  | d :: r, l', h => by
    unfold er at h
    by_cases h1 : lt d = y
    · rw [if_pos h1] at h
      cases h
      exact ⟨d, h1, List.mem_cons_self, .refl _⟩
    · rw [if_neg h1] at h
      by_cases h2 : cm (lt d) y = true
      · rw [if_pos h2] at h
        cases e : er cm y r with
        | none => rw [e] at h; cases h
        | some r' =>
          rw [e] at h
          cases h
          obtain ⟨c, hc, hm, hs⟩ := er_front hsym r r' e
          subst hc
          exact ⟨c, rfl, List.mem_cons_of_mem _ hm, (Sw.cons d hs).trans (.swap d c r' h1 h2 (by rw [hsym]; exact h2))⟩
      · rw [if_neg h2] at h; cases h

theorem lst_sw {cm : Nat → Nat → Bool} (hsym : ∀ a b, cm a b = cm b a) : ∀ (n : Nat) (l : List UInt8), l.length = n → OkL 6 l → Sw cm l (lst cm 6 l) := by
  intro n
  induction n with
  | zero =>
    intro l hn hl
    obtain rfl := List.eq_nil_of_length_eq_zero hn
    exact .refl _
  | succ n ih =>
    intro l hn hl
    cases e : nx cm 6 l with
    | none => exact absurd e (nx_ne hl (fun h => by rw [h] at hn; cases hn))
    | some x =>
      have hx := nx_some.1 e
      obtain ⟨c, hc, hm, hs⟩ := er_front hsym l _ (er_some hx.2.1)
      have hw := wo_len (at0_lt hx.2.1).1
      rw [lst_step e, byte_of (hl c hm).1 hc]
      exact hs.trans (.cons c (ih _ (by omega) hl.wo))
theorem Sw.lst {cm : Nat → Nat → Bool} {K : Nat} : ∀ (n : Nat) {a b : List UInt8}, a.length = n → Sw cm a b → lst cm K a = lst cm K b := by
  intro n
  induction n with
  | zero =>
    intro a b hn h
    have h2 := h.len
    obtain rfl := List.eq_nil_of_length_eq_zero hn
    obtain rfl := List.eq_nil_of_length_eq_zero (h2.symm.trans hn)
    rfl
  | succ n ih =>
    intro a b hn h
    have hiff : ∀ y, 0 ≤ fg cm y a 0 ↔ 0 ≤ fg cm y b 0 := fun y => by
      rw [er_iff, er_iff]
      rcases h.er (y := y) with ⟨e1, e2⟩ | ⟨p, q, e1, e2, _⟩
      · rw [e1, e2]
      · rw [e1, e2]; exact ⟨fun _ e => (by cases e), fun _ e => (by cases e)⟩
    cases e : nx cm K a with
    | none =>
      have e' : nx cm K b = none := nx_none.2 fun y hy hf => nx_none.1 e y hy ((hiff y).2 hf)
      rw [lst_stop e, lst_stop e']
    | some x =>
      obtain ⟨h1, h2, h3⟩ := nx_some.1 e
      have hb := (hiff x).1 h2
      have e' : nx cm K b = some x := nx_some.2 ⟨h1, hb, fun y hy hf => h3 y hy ((hiff y).2 hf)⟩
      rw [lst_step e, lst_step e']
      rcases h.er (y := x) with ⟨e1, e2⟩ | ⟨p, q, e1, e2, hpq⟩
      · rw [er_some h2] at e1; cases e1
      · rw [er_some h2] at e1
        rw [er_some hb] at e2
        cases e1; cases e2
        have hw := wo_len (at0_lt h2).1
        rw [ih (by omega) hpq]

/-- the least letter that can come first in both -/
def nx2 (cm : Nat → Nat → Bool) (K : Nat) (a b : List UInt8) : Option Nat := (List.range K).find? fun x => decide (0 ≤ fg cm x a 0 ∧ 0 ≤ fg cm x b 0)
theorem nx2_some {cm : Nat → Nat → Bool} {K x : Nat} {a b : List UInt8} : nx2 cm K a b = some x ↔ x < K ∧ (0 ≤ fg cm x a 0 ∧ 0 ≤ fg cm x b 0) ∧ ∀ y, y < x → ¬ (0 ≤ fg cm y a 0 ∧ 0 ≤ fg cm y b 0) := by
  unfold nx2
  rw [List.find?_range_eq_some]
  simp only [decide_eq_true_eq, List.mem_range, Bool.not_eq_true', decide_eq_false_iff_not]
  constructor
  · rintro ⟨h1, h2, h3⟩; exact ⟨h2, h1, h3⟩
  · rintro ⟨h1, h2, h3⟩; exact ⟨h2, h1, h3⟩
theorem nx2_none {cm : Nat → Nat → Bool} {K : Nat} {a b : List UInt8} : nx2 cm K a b = none ↔ ∀ y, y < K → ¬ (0 ≤ fg cm y a 0 ∧ 0 ≤ fg cm y b 0) := by
  unfold nx2
  simp only [List.find?_eq_none, List.mem_range, decide_eq_true_eq]
/-- the longest common beginning, and what is left of both -/
def mtF (cm : Nat → Nat → Bool) (K : Nat) : Nat → List UInt8 → List UInt8 → List UInt8 × List UInt8 × List UInt8
  | 0, a, b => ([], a, b)
  | f + 1, a, b => match nx2 cm K a b with
    | none => ([], a, b)
    | some x => (UInt8.ofNat (97 + x) :: (mtF cm K f (wo a (at0 cm x a)) (wo b (at0 cm x b))).1, (mtF cm K f (wo a (at0 cm x a)) (wo b (at0 cm x b))).2)
def mt (cm : Nat → Nat → Bool) (K : Nat) (a b : List UInt8) : List UInt8 × List UInt8 × List UInt8 := mtF cm K a.length a b
theorem mt_step {cm : Nat → Nat → Bool} {K x : Nat} {a b : List UInt8} (h : nx2 cm K a b = some x) : mt cm K a b = (UInt8.ofNat (97 + x) :: (mt cm K (wo a (at0 cm x a)) (wo b (at0 cm x b))).1, (mt cm K (wo a (at0 cm x a)) (wo b (at0 cm x b))).2) := by
  have h1 := (at0_lt (nx2_some.1 h).2.1.1).1
  have h2 := wo_len h1
  unfold mt
  rw [← h2, mtF, h]
theorem mt_stop {cm : Nat → Nat → Bool} {K : Nat} {a b : List UInt8} (h : nx2 cm K a b = none) : mt cm K a b = ([], a, b) := by
  unfold mt
  cases a with
  | nil => rfl
  | cons c r => rw [List.length_cons, mtF, h]
theorem nx2_same {cm cm' : Nat → Nat → Bool} {k : Nat} (h : ∀ a b, a < 6 → b < 6 → cm a b = cm' a b) (hk : k ≤ 6) {a b : List UInt8} (ha : OkL k a) (hb : OkL 6 b) : nx2 cm 6 a b = nx2 cm' k a b := by
  have e1 : ∀ y, y < 6 → fg cm y a 0 = fg cm' y a 0 := fun y hy => fg_congr (fun z hz => h z y hz hy) a 0 (ha.mono hk)
  have e2 : ∀ y, y < 6 → fg cm y b 0 = fg cm' y b 0 := fun y hy => fg_congr (fun z hz => h z y hz hy) b 0 hb
  cases e : nx2 cm' k a b with
  | some x =>
    obtain ⟨h1, h2, h3⟩ := nx2_some.1 e
    exact nx2_some.2 ⟨by omega, by rw [e1 x (by omega), e2 x (by omega)]; exact h2, fun y hy => by rw [e1 y (by omega), e2 y (by omega)]; exact h3 y hy⟩
  | none =>
    refine nx2_none.2 fun y hy hf => ?_
    rw [e1 y hy, e2 y hy] at hf
    obtain ⟨j, c, h4, h5, h6, h7⟩ := fg_pos hf.1
    have hc := ha c (List.mem_of_getElem? h6)
    exact nx2_none.1 e y (by unfold lt at h7; omega) hf
theorem mtF_same {cm cm' : Nat → Nat → Bool} {k : Nat} (h : ∀ a b, a < 6 → b < 6 → cm a b = cm' a b) (hk : k ≤ 6) : ∀ (f : Nat) {a b : List UInt8}, OkL k a → OkL 6 b → mtF cm 6 f a b = mtF cm' k f a b
  | 0, _, _, _, _ => rfl
  | f + 1, a, b, ha, hb => by
    rw [mtF, mtF, nx2_same h hk ha hb]
    cases e : nx2 cm' k a b with
    | none => rfl
    | some x =>
      have hx := (nx2_some.1 e).1
      have g1 : at0 cm x a = at0 cm' x a := by unfold at0; rw [fg_congr (fun z hz => h z x hz (by omega)) a 0 (ha.mono hk)]
      have g2 : at0 cm x b = at0 cm' x b := by unfold at0; rw [fg_congr (fun z hz => h z x hz (by omega)) b 0 hb]
      simp only [g1, g2, mtF_same h hk f ha.wo hb.wo]
theorem mt_same {cm cm' : Nat → Nat → Bool} {k : Nat} (h : ∀ a b, a < 6 → b < 6 → cm a b = cm' a b) (hk : k ≤ 6) {a b : List UInt8} (ha : OkL k a) (hb : OkL 6 b) : mt cm 6 a b = mt cm' k a b := mtF_same h hk _ ha hb
theorem lt_byte {x : Nat} (hx : x < 6) : (UInt8.ofNat (97 + x)).toNat = 97 + x ∧ lt (UInt8.ofNat (97 + x)) = x := by
  have h : (UInt8.ofNat (97 + x)).toNat = 97 + x := by rw [UInt8.toNat_ofNat']; exact Nat.mod_eq_of_lt (by omega)
  exact ⟨h, by unfold lt; omega⟩
structure MtOk (cm : Nat → Nat → Bool) (K : Nat) (a b : List UInt8) (r : List UInt8 × List UInt8 × List UInt8) : Prop where
  o1 : OkL K r.1
  o2 : OkL K r.2.1
  o3 : OkL K r.2.2
  l1 : r.1.length + r.2.1.length = a.length
  l2 : r.1.length + r.2.2.length = b.length
  t1 : takeB cm r.1 a = some r.2.1
  t2 : takeB cm r.1 b = some r.2.2
  f : ∀ y, 0 ≤ fg cm y r.1 0 → 0 ≤ fg cm y a 0 ∧ 0 ≤ fg cm y b 0
  s : lst cm K r.1 = r.1
theorem er_wo {cm : Nat → Nat → Bool} {x y : Nat} (hxy : cm x y = true) : ∀ (a a' : List UInt8), er cm x a = some a' → er cm y a' ≠ none → er cm y a ≠ none
  | [], a', h, _ => by cases h
  | d :: r, a', h, h2 => by
    unfold er at h ⊢
    by_cases hy : lt d = y
    · rw [if_pos hy]; exact fun e => (by cases e)
    · rw [if_neg hy]
      by_cases hx : lt d = x
      · rw [if_pos hx] at h
        cases h
        rw [hx, if_pos hxy]
        cases e : er cm y r with
        | none => exact absurd e h2
        | some q => exact fun e => (by cases e)
      · rw [if_neg hx] at h
        by_cases hc : cm (lt d) x = true
        · rw [if_pos hc] at h
          cases e : er cm x r with
          | none => rw [e] at h; cases h
          | some r' =>
            rw [e] at h
            cases h
            have h3 : er cm y (d :: r') ≠ none := h2
            unfold er at h3
            rw [if_neg hy] at h3
            by_cases hd : cm (lt d) y = true
            · rw [if_pos hd] at h3 ⊢
              have h4 : er cm y r' ≠ none := fun e => h3 (by rw [e]; rfl)
              have h5 := er_wo hxy r r' e h4
              cases e2 : er cm y r with
              | none => exact absurd e2 h5
              | some q => exact fun e => (by cases e)
            · rw [if_neg hd] at h3; exact absurd rfl h3
        · rw [if_neg hc] at h; cases h
theorem mt_ok {cm : Nat → Nat → Bool} {K : Nat} (hK : K ≤ 6) : ∀ (n : Nat) {a b : List UInt8}, a.length = n → OkL K a → OkL K b → MtOk cm K a b (mt cm K a b) := by
  intro n
  induction n with
  | zero =>
    intro a b hn ha hb
    obtain rfl := List.eq_nil_of_length_eq_zero hn
    exact ⟨fun c hc => (by cases hc), ha, hb, rfl, Nat.zero_add _, rfl, rfl, fun y h => absurd h (by show ¬ (0 : Int) ≤ -1; decide), rfl⟩
  | succ n ih =>
    intro a b hn ha hb
    cases e : nx2 cm K a b with
    | none =>
      rw [mt_stop e]
      exact ⟨fun c hc => (by cases hc), ha, hb, Nat.zero_add _, Nat.zero_add _, rfl, rfl, fun y h => absurd h (by show ¬ (0 : Int) ≤ -1; decide), rfl⟩
    | some x =>
      obtain ⟨hx, ⟨hfa, hfb⟩, hmin⟩ := nx2_some.1 e
      have wa := wo_len (at0_lt hfa).1
      have wb := wo_len (at0_lt hfb).1
      have I := ih (a := wo a (at0 cm x a)) (b := wo b (at0 cm x b)) (by omega) ha.wo hb.wo
      rw [mt_step e]
      generalize mt cm K (wo a (at0 cm x a)) (wo b (at0 cm x b)) = r at I
      obtain ⟨lb1, lb2⟩ := lt_byte (x := x) (by omega)
      have hf : ∀ y, 0 ≤ fg cm y (UInt8.ofNat (97 + x) :: r.1) 0 → 0 ≤ fg cm y a 0 ∧ 0 ≤ fg cm y b 0 := by
        intro y hy
        rw [er_iff] at hy
        unfold er at hy
        rw [lb2] at hy
        by_cases hxy : x = y
        · subst hxy; exact ⟨hfa, hfb⟩
        · rw [if_neg hxy] at hy
          by_cases hc : cm x y = true
          · rw [if_pos hc] at hy
            have h1 : er cm y r.1 ≠ none := fun e => hy (by rw [e]; rfl)
            obtain ⟨h2, h3⟩ := I.f y (er_iff.2 h1)
            exact ⟨er_iff.2 (er_wo hc _ _ (er_some hfa) (er_iff.1 h2)), er_iff.2 (er_wo hc _ _ (er_some hfb) (er_iff.1 h3))⟩
          · rw [if_neg hc] at hy; exact absurd rfl hy
      have h0 : fg cm x (UInt8.ofNat (97 + x) :: r.1) 0 = 0 := by unfold fg; rw [if_pos lb2]; rfl
      have hnx : nx cm K (UInt8.ofNat (97 + x) :: r.1) = some x := nx_some.2 ⟨hx, by rw [h0]; exact Int.le_refl _, fun y hy h => hmin y hy (hf y h)⟩
      have hat : at0 cm x (UInt8.ofNat (97 + x) :: r.1) = 0 := by unfold at0; rw [h0]; rfl
      refine ⟨?_, I.o2, I.o3, ?_, ?_, ?_, ?_, hf, ?_⟩
      · intro c hc
        rcases List.mem_cons.1 hc with rfl | hc
        · omega
        · exact I.o1 c hc
      · have := I.l1; simp only [List.length_cons]; omega
      · have := I.l2; simp only [List.length_cons]; omega
      · show takeB cm (_ :: _) _ = _
        rw [takeB, lb2, if_pos hfa]; exact I.t1
      · show takeB cm (_ :: _) _ = _
        rw [takeB, lb2, if_pos hfb]; exact I.t2
      · show lst cm K (_ :: _) = _
        rw [lst_step hnx, hat]
        show _ :: lst cm K (wo _ 0) = _
        have : wo (UInt8.ofNat (97 + x) :: r.1) 0 = r.1 := rfl
        rw [this, I.s]

/-- each letter of one commutes with each of the other -/
def allC (cm : Nat → Nat → Bool) (a b : List UInt8) : Bool := a.all fun x => b.all fun y => cm (lt x) (lt y)
theorem allC_iff {cm : Nat → Nat → Bool} {a b : List UInt8} : allC cm a b = true ↔ ∀ x ∈ a, ∀ y ∈ b, cm (lt x) (lt y) = true := by simp [allC]
theorem allC_congr {cm cm' : Nat → Nat → Bool} (h : ∀ a b, a < 6 → b < 6 → cm a b = cm' a b) {a b : List UInt8} (ha : OkL 6 a) (hb : OkL 6 b) : allC cm a b = allC cm' a b := by
  rw [Bool.eq_iff_iff, allC_iff, allC_iff]
  have e : ∀ x ∈ a, ∀ y ∈ b, cm (lt x) (lt y) = cm' (lt x) (lt y) := fun x hx y hy => h _ _ (by have := ha x hx; unfold lt; omega) (by have := hb y hy; unfold lt; omega)
  exact ⟨fun h x hx y hy => by rw [← e x hx y hy]; exact h x hx y hy, fun h x hx y hy => by rw [e x hx y hy]; exact h x hx y hy⟩
end Go.Proofs.YthankillfhmfkaaGreatDoor.Ev


