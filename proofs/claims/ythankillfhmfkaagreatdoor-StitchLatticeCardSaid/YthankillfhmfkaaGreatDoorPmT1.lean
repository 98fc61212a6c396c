/- Seams: letters that can come first, the least equal seam. Mathematics alone. -/
namespace Go.Proofs.YthankillfhmfkaaGreatDoor.Ev

/-- the number of a letter -/
def lt (c : UInt8) : Nat := c.toNat - 97
/-- letters of k -/
def OkL (k : Nat) (l : List UInt8) : Prop := ∀ c ∈ l, 97 ≤ c.toNat ∧ c.toNat < 97 + k
theorem OkL.mono {k k' : Nat} {l : List UInt8} (h : OkL k l) (hk : k ≤ k') : OkL k' l := fun c hc => by have := h c hc; omega

/-- the place of a letter that can come first; -1 if it cannot -/
def fg (cm : Nat → Nat → Bool) (x : Nat) : List UInt8 → Nat → Int
  | [], _ => -1
  | c :: r, i => if lt c = x then i else if cm (lt c) x then fg cm x r (i + 1) else -1

/-- a list without a place -/
def wo (l : List UInt8) (i : Nat) : List UInt8 := l.take i ++ l.drop (i + 1)
theorem wo_len {l : List UInt8} {i : Nat} (h : i < l.length) : (wo l i).length + 1 = l.length := by simp [wo]; omega
theorem wo_mem {l : List UInt8} {i : Nat} {c : UInt8} (h : c ∈ wo l i) : c ∈ l := by
  rcases List.mem_append.1 h with h | h
  · exact List.mem_of_mem_take h
  · exact List.mem_of_mem_drop h
theorem OkL.wo {k i : Nat} {l : List UInt8} (h : OkL k l) : OkL k (wo l i) := fun c hc => h c (wo_mem hc)

theorem fg_spec {cm : Nat → Nat → Bool} {x : Nat} : ∀ (l : List UInt8) (i : Nat), fg cm x l i = -1 ∨ ∃ j c, fg cm x l i = (i + j : Nat) ∧ l[j]? = some c ∧ lt c = x
  | [], i => .inl rfl
  | c :: r, i => by
    unfold fg
    by_cases h : lt c = x
    · rw [if_pos h]; exact .inr ⟨0, c, rfl, rfl, h⟩
    · rw [if_neg h]
      by_cases h2 : cm (lt c) x
      · rw [if_pos h2]
        rcases fg_spec r (i + 1) with h3 | ⟨j, c', h3, h4, h5⟩
        · exact .inl h3
        · exact .inr ⟨j + 1, c', by rw [h3]; congr 1; omega, by simpa using h4, h5⟩
      · rw [if_neg h2]; exact .inl rfl
theorem fg_pos {cm : Nat → Nat → Bool} {x : Nat} {l : List UInt8} (h : 0 ≤ fg cm x l 0) : ∃ j c, fg cm x l 0 = (j : Nat) ∧ j < l.length ∧ l[j]? = some c ∧ lt c = x := by
  rcases fg_spec (cm := cm) (x := x) l 0 with h1 | ⟨j, c, h1, h2, h3⟩
  · rw [h1] at h; omega
  · exact ⟨j, c, by simpa using h1, (List.getElem?_eq_some_iff.1 h2).1, h2, h3⟩
theorem fg_neg {cm : Nat → Nat → Bool} {x : Nat} {l : List UInt8} (h : ¬ 0 ≤ fg cm x l 0) : fg cm x l 0 = -1 := by
  rcases fg_spec (cm := cm) (x := x) l 0 with h1 | ⟨j, c, h1, h2, h3⟩
  · exact h1
  · rw [h1] at h; omega

/-- the least letter below K that can come first -/
def nx (cm : Nat → Nat → Bool) (K : Nat) (l : List UInt8) : Option Nat := (List.range K).find? fun x => decide (0 ≤ fg cm x l 0)
theorem nx_some {cm : Nat → Nat → Bool} {K x : Nat} {l : List UInt8} : nx cm K l = some x ↔ x < K ∧ 0 ≤ fg cm x l 0 ∧ ∀ y, y < x → ¬ 0 ≤ fg cm y l 0 := by
  unfold nx
  rw [List.find?_range_eq_some]
  simp
  constructor
  · rintro ⟨h1, h2, h3⟩; exact ⟨h2, h1, fun y hy => by have := h3 y hy; omega⟩
  · rintro ⟨h1, h2, h3⟩; exact ⟨h2, h1, fun y hy => by have := h3 y hy; omega⟩
theorem nx_none {cm : Nat → Nat → Bool} {K : Nat} {l : List UInt8} : nx cm K l = none ↔ ∀ y, y < K → ¬ 0 ≤ fg cm y l 0 := by
  unfold nx
  simp
/-- where it is -/
def at0 (cm : Nat → Nat → Bool) (x : Nat) (l : List UInt8) : Nat := (fg cm x l 0).toNat
/-- the least equal seam -/
def least (cm : Nat → Nat → Bool) (K : Nat) : Nat → List UInt8 → List UInt8
  | 0, _ => []
  | f + 1, l => match nx cm K l with
    | none => []
    | some x => UInt8.ofNat (97 + x) :: least cm K f (wo l (at0 cm x l))

/-- with fuel enough -/
def lst (cm : Nat → Nat → Bool) (K : Nat) (l : List UInt8) : List UInt8 := least cm K l.length l
theorem at0_lt {cm : Nat → Nat → Bool} {x : Nat} {l : List UInt8} (h : 0 ≤ fg cm x l 0) : at0 cm x l < l.length ∧ fg cm x l 0 = (at0 cm x l : Nat) ∧ ∃ c, l[at0 cm x l]? = some c ∧ lt c = x := by
  obtain ⟨j, c, h1, h2, h3, h4⟩ := fg_pos h
  have : at0 cm x l = j := by unfold at0; rw [h1]; rfl
  rw [this]
  exact ⟨h2, h1, c, h3, h4⟩
theorem byte_of {c : UInt8} {x : Nat} (h : 97 ≤ c.toNat) (hx : lt c = x) : UInt8.ofNat (97 + x) = c := by
  have : 97 + x = c.toNat := by unfold lt at hx; omega
  rw [this]; simp
theorem lst_step {cm : Nat → Nat → Bool} {K x : Nat} {l : List UInt8} (h : nx cm K l = some x) : lst cm K l = UInt8.ofNat (97 + x) :: lst cm K (wo l (at0 cm x l)) := by
  have h1 := (at0_lt (nx_some.1 h).2.1).1
  have h2 := wo_len h1
  unfold lst
  rw [← h2, least, h]
theorem lst_stop {cm : Nat → Nat → Bool} {K : Nat} {l : List UInt8} (h : nx cm K l = none) : lst cm K l = [] := by
  unfold lst
  cases l with
  | nil => rfl
  | cons c r => rw [List.length_cons, least, h]
theorem nx_ne {cm : Nat → Nat → Bool} {K : Nat} {l : List UInt8} (hl : OkL K l) (hne : l ≠ []) : nx cm K l ≠ none := by
  intro h
  cases l with
  | nil => exact hne rfl
  | cons c r =>
    have hc := hl c List.mem_cons_self
    have := nx_none.1 h (lt c) (by unfold lt; omega)
    apply this
    unfold fg
    rw [if_pos rfl]
    exact Int.le_refl _
theorem nx_wide {cm : Nat → Nat → Bool} {k K : Nat} {l : List UInt8} (hl : OkL k l) (hk : k ≤ K) : nx cm K l = nx cm k l := by
  cases h : nx cm K l with
  | some x =>
    obtain ⟨h1, h2, h3⟩ := nx_some.1 h
    obtain ⟨j, c, h4, h5, h6, h7⟩ := fg_pos h2
    have hc := hl c (List.mem_of_getElem? h6)
    exact (nx_some.2 ⟨by unfold lt at h7; omega, h2, h3⟩).symm
  | none =>
    have := nx_none.1 h
    exact (nx_none.2 fun y hy => this y (by omega)).symm
theorem least_wide {cm : Nat → Nat → Bool} {k K : Nat} (hk : k ≤ K) : ∀ (f : Nat) (l : List UInt8), OkL k l → least cm K f l = least cm k f l
  | 0, _, _ => rfl
  | f + 1, l, hl => by
    rw [least, least, nx_wide hl hk]
    cases nx cm k l with
    | none => rfl
    | some x => simp only [least_wide hk f _ (hl.wo)]
theorem lst_wide {cm : Nat → Nat → Bool} {k K : Nat} {l : List UInt8} (hl : OkL k l) (hk : k ≤ K) : lst cm K l = lst cm k l := least_wide hk _ _ hl
theorem fg_congr {cm cm' : Nat → Nat → Bool} {K x : Nat} (h : ∀ a, a < K → cm a x = cm' a x) : ∀ (l : List UInt8) (i : Nat), OkL K l → fg cm x l i = fg cm' x l i
  | [], _, _ => rfl
  | c :: r, i, hl => by
    have hc := hl c List.mem_cons_self
    unfold fg
    rw [fg_congr h r (i + 1) (fun c hc => hl c (List.mem_cons_of_mem _ hc)), h (lt c) (by unfold lt; omega)]
theorem nx_congr {cm cm' : Nat → Nat → Bool} {K : Nat} (h : ∀ a b, a < K → b < K → cm a b = cm' a b) {k : Nat} (hk : k ≤ K) {l : List UInt8} (hl : OkL K l) : nx cm k l = nx cm' k l := by
  cases e : nx cm' k l with
  | some x =>
    obtain ⟨h1, h2, h3⟩ := nx_some.1 e
    exact nx_some.2 ⟨h1, by rw [fg_congr (fun a ha => h a x ha (by omega)) l 0 hl]; exact h2, fun y hy => by rw [fg_congr (fun a ha => h a y ha (by omega)) l 0 hl]; exact h3 y hy⟩
  | none => exact nx_none.2 fun y hy => by rw [fg_congr (fun a ha => h a y ha (by omega)) l 0 hl]; exact nx_none.1 e y hy
theorem least_congr {cm cm' : Nat → Nat → Bool} {K k : Nat} (h : ∀ a b, a < K → b < K → cm a b = cm' a b) (hk : k ≤ K) : ∀ (f : Nat) (l : List UInt8), OkL K l → least cm k f l = least cm' k f l
  | 0, _, _ => rfl
  | f + 1, l, hl => by
    rw [least, least, nx_congr h hk hl]
    cases e : nx cm' k l with
    | none => rfl
    | some x =>
      have hx := (nx_some.1 e).1
      have : at0 cm x l = at0 cm' x l := by unfold at0; rw [fg_congr (fun a ha => h a x ha (by omega)) l 0 hl]
      simp only [this, least_congr h hk f _ (hl.wo)]
theorem lst_congr {cm cm' : Nat → Nat → Bool} {K k : Nat} (h : ∀ a b, a < K → b < K → cm a b = cm' a b) (hk : k ≤ K) {l : List UInt8} (hl : OkL K l) : lst cm k l = lst cm' k l := least_congr h hk _ _ hl
theorem least_len {cm : Nat → Nat → Bool} {K : Nat} : ∀ (f : Nat) (l : List UInt8), (least cm K f l).length ≤ f
  | 0, _ => Nat.le_refl 0
  | f + 1, l => by
    rw [least]
    cases nx cm K l with
    | none => simp
    | some x => simp only [List.length_cons]; have := least_len (cm := cm) (K := K) f (wo l (at0 cm x l)); omega
theorem lst_len {cm : Nat → Nat → Bool} {K : Nat} {l : List UInt8} : (lst cm K l).length ≤ l.length := least_len _ _
theorem least_ok {cm : Nat → Nat → Bool} {K : Nat} (hK : K ≤ 6) : ∀ (f : Nat) (l : List UInt8), OkL K (least cm K f l)
  | 0, _ => fun c hc => by cases hc
  | f + 1, l => by
    rw [least]
    cases e : nx cm K l with
    | none => exact fun c hc => by cases hc
    | some x =>
      intro c hc
      rcases List.mem_cons.1 hc with rfl | hc
      · have hx := (nx_some.1 e).1
        have : (UInt8.ofNat (97 + x)).toNat = 97 + x := by
          rw [UInt8.toNat_ofNat']
          exact Nat.mod_eq_of_lt (by omega)
        omega
      · exact least_ok hK f _ c hc
theorem lst_ok {cm : Nat → Nat → Bool} {K : Nat} (hK : K ≤ 6) {l : List UInt8} : OkL K (lst cm K l) := least_ok hK _ _
end Go.Proofs.YthankillfhmfkaaGreatDoor.Ev

