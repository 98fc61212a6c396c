/- Shuffles; ways of two seams that commute; the parts of a seam. Mathematics alone. -/
import Derived.Test.YtdfkblagcfgncaaGreatDoorPmsT3
import Derived.Test.YtdfkblagcfgncaaGreatDoorPmT6
import Derived.Test.YtdfkblagcfgncaaGreatDoorPmsX1
set_option linter.unusedSimpArgs false
namespace Go.Proofs.YtdfkblagcfgncaaGreatDoor.Ev
variable {cm : Nat → Nat → Bool}

/-- the shuffles of two -/
def sh : Nat → Nat → Nat
  | 0, _ => 1
  | _ + 1, 0 => 1
  | a + 1, b + 1 => sh a (b + 1) + sh (a + 1) b
theorem sh_zero : ∀ a, sh a 0 = 1
  | 0 => by simp [sh]
  | _ + 1 => by simp [sh]
theorem sh_succ {a b : Nat} : sh (a + 1) (b + 1) = sh a (b + 1) + sh (a + 1) b := by rw [sh]
theorem sh_comm : ∀ (n a b : Nat), a + b = n → sh a b = sh b a := by
  intro n
  induction n with
  | zero => intro a b h; rw [show a = 0 by omega, show b = 0 by omega]
  | succ n ih =>
    intro a b h
    cases a with
    | zero => rw [sh_zero]; cases b <;> simp [sh]
    | succ a =>
      cases b with
      | zero => rw [sh_zero]; simp [sh]
      | succ b =>
        rw [sh_succ, sh_succ, ih a (b + 1) (by omega), ih (a + 1) b (by omega)]
        omega
theorem sh_mul : ∀ (n a b : Nat), a + b = n → (b + 1) * sh a (b + 1) = (a + b + 1) * sh a b := by
  intro n
  induction n using Nat.strongRecOn with
  | _ n ih =>
    intro a b h
    cases a with
    | zero => simp [sh]
    | succ a =>
      have h1 := ih (a + b) (by omega) a b rfl
      have h2 := ih (b + a) (by omega) b a rfl
      rw [sh_comm _ b (a + 1) rfl, sh_comm _ b a rfl] at h2
      rw [sh_succ, Nat.mul_add, h1]
      have e1 : (a + 1 + b + 1) * sh (a + 1) b = (a + 1) * sh (a + 1) b + (b + 1) * sh (a + 1) b := by rw [← Nat.add_mul, show a + 1 + b + 1 = a + 1 + (b + 1) by omega]
      rw [e1, h2, Nat.add_comm b a]
theorem sh_le : ∀ (n a b : Nat), a + b = n → sh a b ≤ 2 ^ n := by
  intro n
  induction n with
  | zero => intro a b h; rw [show a = 0 by omega]; simp [sh]
  | succ n ih =>
    intro a b h
    cases a with
    | zero => simp only [sh]; exact Nat.one_le_two_pow
    | succ a =>
      cases b with
      | zero => simp only [sh]; exact Nat.one_le_two_pow
      | succ b =>
        rw [sh_succ, Nat.pow_succ]
        have := ih a (b + 1) (by omega)
        have := ih (a + 1) b (by omega)
        omega

theorem er_letter {y : Nat} : ∀ {l r : List UInt8}, er cm y l = some r → ∃ c ∈ l, lt c = y
  | [], r, h => by cases h
  | c :: l, r, h => by
    unfold er at h
    by_cases h1 : lt c = y
    · exact ⟨c, List.mem_cons_self, h1⟩
    · rw [if_neg h1] at h
      by_cases h2 : cm (lt c) y = true
      · rw [if_pos h2] at h
        cases e : er cm y l with
        | none => rw [e] at h; cases h
        | some r' =>
          obtain ⟨d, hd, hy⟩ := er_letter e
          exact ⟨d, List.mem_cons_of_mem _ hd, hy⟩
      · rw [if_neg h2] at h; cases h
theorem er_skip {y : Nat} {b : List UInt8} : ∀ {a r : List UInt8}, (∀ c ∈ a, cm (lt c) y = true ∧ lt c ≠ y) → er cm y b = some r → er cm y (a ++ b) = some (a ++ r)
  | [], r, _, h => h
  | c :: a, r, hc, h => by
    obtain ⟨h1, h2⟩ := hc c List.mem_cons_self
    rw [List.cons_append]
    unfold er
    rw [if_neg h2, if_pos h1, er_skip (fun d hd => hc d (List.mem_cons_of_mem _ hd)) h]
    rfl
theorem sum_two {f g t : Nat → Nat} {u v : Nat} : ∀ (L : List Nat), (∀ x ∈ L, t x = f x * u + g x * v) → (L.map t).sum = (L.map f).sum * u + (L.map g).sum * v
  | [], _ => by simp
  | x :: L, h => by
    simp only [List.map_cons, List.sum_cons]
    rw [h x List.mem_cons_self, sum_two L fun y hy => h y (List.mem_cons_of_mem _ hy), Nat.add_mul, Nat.add_mul]
    omega
/-- letters of one seam commute with those of another one -/
def Comm (cm : Nat → Nat → Bool) (a b : List UInt8) : Prop := ∀ c ∈ a, ∀ d ∈ b, cm (lt c) (lt d) = true ∧ cm (lt d) (lt c) = true ∧ lt c ≠ lt d
theorem W'_append {K : Nat} : ∀ (n : Nat) (a b : List UInt8), a.length + b.length = n → Comm cm a b → W' cm K (a ++ b) = W' cm K a * W' cm K b * sh a.length b.length := by
  intro n
  induction n with
  | zero =>
    intro a b h _
    obtain rfl := List.eq_nil_of_length_eq_zero (show a.length = 0 by omega)
    simp [W'_nil, sh]
  | succ n ih =>
    intro a b h hc
    by_cases ha : a = []
    · subst ha; simp [W'_nil, sh]
    by_cases hb : b = []
    · subst hb; rw [List.append_nil, W'_nil, List.length_nil, sh_zero]; simp
    obtain ⟨p, hp⟩ : ∃ p, a.length = p + 1 := ⟨a.length - 1, by have := List.length_pos_iff.2 ha; omega⟩
    obtain ⟨q, hq⟩ : ∃ q, b.length = q + 1 := ⟨b.length - 1, by have := List.length_pos_iff.2 hb; omega⟩
    have key : ∀ x ∈ List.range K, wt cm K (a ++ b) x = wt cm K a x * (W' cm K b * sh p (q + 1)) + wt cm K b x * (W' cm K a * sh (p + 1) q) := fun x _ => by
      unfold wt
      cases ea : er cm x a with
      | some r =>
        obtain ⟨c, hca, hcx⟩ := er_letter ea
        have eb : er cm x b = none := by
          cases e : er cm x b with
          | none => rfl
          | some r' =>
            obtain ⟨d, hdb, hdx⟩ := er_letter e
            exact absurd (hcx.trans hdx.symm) (hc c hca d hdb).2.2
        rw [eb, er_append a r b ea]
        have hr := er_len ea
        have := ih r b (by omega) fun c' hc' => hc c' (er_mem ea c' hc')
        simp only
        rw [this, show r.length = p by omega, hq, Nat.mul_assoc]; omega
      | none =>
        cases eb : er cm x b with
        | none =>
          have : er cm x (a ++ b) = none := by
            cases e : er cm x (a ++ b) with
            | none => rfl
            | some w =>
              obtain ⟨_, b', hb', _⟩ := er_append_none a b w ea e
              rw [eb] at hb'; cases hb'
          rw [this]; simp
        | some r =>
          obtain ⟨d, hdb, hdx⟩ := er_letter eb
          have hall : ∀ c ∈ a, cm (lt c) x = true ∧ lt c ≠ x := fun c hca => by
            have := hc c hca d hdb
            rw [hdx] at this
            exact ⟨this.1, this.2.2⟩
          rw [er_skip hall eb]
          have hr := er_len eb
          have := ih a r (by omega) fun c' hc' d' hd' => hc c' hc' d' (er_mem eb d' hd')
          simp only
          rw [this, show r.length = q by omega, hp, Nat.mul_comm (W' cm K a) (W' cm K r), Nat.mul_assoc]; omega
    have hab : a ++ b ≠ [] := by simp [ha]
    rw [W'_step hab]
    unfold wsum
    rw [sum_two (List.range K) key]
    have e1 : ((List.range K).map (wt cm K a)).sum = W' cm K a := (W'_step ha).symm
    have e2 : ((List.range K).map (wt cm K b)).sum = W' cm K b := (W'_step hb).symm
    rw [e1, e2, hp, hq, sh_succ, Nat.mul_add, ← Nat.mul_assoc, ← Nat.mul_assoc, Nat.mul_comm (W' cm K b) (W' cm K a)]

/- ### parts -/
theorem sw_filter {p : UInt8 → Bool} : ∀ (l : List UInt8), (∀ c ∈ l, ∀ d ∈ l, p c = true → p d = false → cm (lt c) (lt d) = true ∧ cm (lt d) (lt c) = true ∧ lt c ≠ lt d) → Sw cm l (l.filter p ++ l.filter fun c => !p c)
  | [], _ => .refl _
  | c :: l, h => by
    have ih := sw_filter l fun x hx y hy => h x (List.mem_cons_of_mem _ hx) y (List.mem_cons_of_mem _ hy)
    cases hp : p c with
    | true =>
      have e1 : (c :: l).filter p = c :: l.filter p := by simp [hp]
      have e2 : ((c :: l).filter fun c => !p c) = l.filter fun c => !p c := by simp [hp]
      rw [e1, e2]
      exact .cons c ih
    | false =>
      have e1 : (c :: l).filter p = l.filter p := by simp [hp]
      have e2 : ((c :: l).filter fun c => !p c) = c :: l.filter fun c => !p c := by simp [hp]
      rw [e1, e2]
      have h1 : Sw cm (l.filter p ++ [c]) (c :: l.filter p) := sw_past fun d hd => by
        have hd' := List.mem_filter.1 hd
        exact h d (List.mem_cons_of_mem _ hd'.1) c List.mem_cons_self hd'.2 hp
      have h2 := h1.symm.right (l.filter fun c => !p c)
      have h3 : Sw cm (c :: l) (c :: (l.filter p ++ l.filter fun c => !p c)) := .cons c ih
      refine h3.trans ?_
      simpa using h2
open Classical in
/-- the letters that are left before x -/
noncomputable def lft (cm : Nat → Nat → Bool) (l : List UInt8) (x : Nat) : List UInt8 := l.filter fun c => decide (¬ Dn cm l x (lt c))
theorem rch_dn (hsym : ∀ a b, cm a b = cm b a) {l : List UInt8} {x z : Nat} (hx : ltr l x = true ∧ ¬ Dn cm l x x) (hr : Rch cm (ltr l) x z) : ¬ Dn cm l x z := fun ⟨y, h1, h2, h3⟩ => by
  exact hx.2 ⟨y, h1, h2, h3.trans (hr.symm hsym hx.1)⟩
open Classical in
theorem prts_sw (hsym : ∀ a b, cm a b = cm b a) (hirr : ∀ a, cm a a = false) {l : List UInt8} : ∀ x, Sw cm l ((prts cm l x).flatten ++ lft cm l x)
  | 0 => by
    have : lft cm l 0 = l := by
      unfold lft
      rw [List.filter_eq_self]
      intro c _
      exact decide_eq_true fun ⟨y, hy, _⟩ => absurd hy (Nat.not_lt_zero y)
    rw [this]; exact .refl _
  | x + 1 => by
    have ih := prts_sw hsym hirr (l := l) x
    by_cases hx : ltr l x = true ∧ ¬ Dn cm l x x
    · rw [prts_new hx, List.flatten_append]
      have hs : Sw cm (lft cm l x) (prt cm l x ++ lft cm l (x + 1)) := by
        have := sw_filter (cm := cm) (p := fun c => decide (Rch cm (ltr l) x (lt c))) (lft cm l x) fun c hc d hd h1 h2 => by
          have h1' : Rch cm (ltr l) x (lt c) := of_decide_eq_true h1
          have h2' : ¬ Rch cm (ltr l) x (lt d) := of_decide_eq_false h2
          have hdl : d ∈ l := (List.mem_filter.1 hd).1
          have hcd : cm (lt c) (lt d) = true := by
            cases e : cm (lt c) (lt d) with
            | true => rfl
            | false => exact absurd (.step h1' (ltr_iff.2 ⟨d, hdl, rfl⟩) e) h2'
          exact ⟨hcd, by rw [hsym]; exact hcd, fun he => h2' (he ▸ h1')⟩
        have e1 : ((lft cm l x).filter fun c => decide (Rch cm (ltr l) x (lt c))) = prt cm l x := by
          unfold lft prt
          rw [List.filter_filter]
          refine List.filter_congr fun c _ => ?_
          by_cases hr : Rch cm (ltr l) x (lt c)
          · simp [hr, rch_dn hsym hx hr]
          · simp [hr]
        have e2 : ((lft cm l x).filter fun c => !decide (Rch cm (ltr l) x (lt c))) = lft cm l (x + 1) := by
          unfold lft
          rw [List.filter_filter]
          refine List.filter_congr fun c _ => ?_
          by_cases hr : Rch cm (ltr l) x (lt c)
          · have : Dn cm l (x + 1) (lt c) := dn_step.2 (.inr ⟨hx.1, hr⟩)
            simp [hr, this]
          · have : Dn cm l (x + 1) (lt c) ↔ Dn cm l x (lt c) := by rw [dn_step]; exact ⟨fun h => h.elim id fun h => absurd h.2 hr, .inl⟩
            simp [hr, this]
        rwa [e1, e2] at this
      have := ih.trans (hs.left (prts cm l x).flatten)
      simpa using this
    · have : lft cm l (x + 1) = lft cm l x := by
        unfold lft
        refine List.filter_congr fun c _ => ?_
        rw [dn_skip hx]
      rw [prts_old hx, this]; exact ih
open Classical in
theorem prts_flat (hsym : ∀ a b, cm a b = cm b a) (hirr : ∀ a, cm a a = false) {l : List UInt8} {k : Nat} (hl : OkL k l) : Sw cm l (prts cm l k).flatten := by
  have := prts_sw hsym hirr (l := l) k
  have e : lft cm l k = [] := by
    unfold lft
    rw [List.filter_eq_nil_iff]
    intro c hc h
    have hk := hl c hc
    exact of_decide_eq_true h ⟨lt c, by unfold lt; omega, ltr_iff.2 ⟨c, hc, rfl⟩, .refl⟩
  rwa [e, List.append_nil] at this
open Classical in
theorem prts_in {l : List UInt8} : ∀ x, ∀ p ∈ prts cm l x, ∀ c ∈ p, c ∈ l ∧ Dn cm l x (lt c)
  | 0, p, hp, _, _ => by cases hp
  | x + 1, p, hp, c, hc => by
    by_cases h : ltr l x = true ∧ ¬ Dn cm l x x
    · rw [prts_new h] at hp
      rcases List.mem_append.1 hp with hp | hp
      · obtain ⟨h1, h2⟩ := prts_in x p hp c hc
        exact ⟨h1, dn_step.2 (.inl h2)⟩
      · rw [List.mem_singleton.1 hp] at hc
        unfold prt at hc
        obtain ⟨h1, h2⟩ := List.mem_filter.1 hc
        exact ⟨h1, dn_step.2 (.inr ⟨h.1, of_decide_eq_true h2⟩)⟩
    · rw [prts_old h] at hp
      obtain ⟨h1, h2⟩ := prts_in x p hp c hc
      exact ⟨h1, dn_step.2 (.inl h2)⟩
open Classical in
theorem prts_comm (hsym : ∀ a b, cm a b = cm b a) (hirr : ∀ a, cm a a = false) {l : List UInt8} : ∀ x, (prts cm l x).Pairwise (Comm cm)
  | 0 => List.Pairwise.nil
  | x + 1 => by
    have ih := prts_comm hsym hirr (l := l) x
    by_cases h : ltr l x = true ∧ ¬ Dn cm l x x
    · rw [prts_new h]
      refine List.pairwise_append.2 ⟨ih, List.pairwise_singleton _ _, fun p hp q hq c hc d hd => ?_⟩
      rw [List.mem_singleton.1 hq] at hd
      unfold prt at hd
      obtain ⟨d1, d2⟩ := List.mem_filter.1 hd
      have d2' : Rch cm (ltr l) x (lt d) := of_decide_eq_true d2
      obtain ⟨_, y, y1, y2, y3⟩ := prts_in x p hp c hc
      have hcd : cm (lt c) (lt d) = true := by
        cases e : cm (lt c) (lt d) with
        | true => rfl
        | false => exact absurd ⟨y, y1, y2, .step y3 (ltr_iff.2 ⟨d, d1, rfl⟩) e⟩ (rch_dn hsym h d2')
      exact ⟨hcd, by rw [hsym]; exact hcd, fun he => by rw [he, hirr] at hcd; cases hcd⟩
    · rw [prts_old h]; exact ih
/-- the first parts, and the next one -/
theorem comm_take {L : List (List UInt8)} (h : L.Pairwise (Comm cm)) {i : Nat} {p : List UInt8} (hi : L[i]? = some p) : Comm cm (L.take i).flatten p := fun c hc d hd => by
  obtain ⟨q, hq, hcq⟩ := List.mem_flatten.1 hc
  obtain ⟨j, hj, ej⟩ := List.getElem_of_mem hq
  have hjl : j < i ∧ j < L.length := by
    have := hj; simp only [List.length_take] at this; omega
  obtain ⟨hil, ei⟩ := List.getElem?_eq_some_iff.1 hi
  have := List.pairwise_iff_getElem.1 h j i hjl.2 hil hjl.1
  rw [List.getElem_take] at ej
  rw [ej, ei] at this
  exact this c hcq d hd
end Go.Proofs.YtdfkblagcfgncaaGreatDoor.Ev

