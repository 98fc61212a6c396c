/- Heights of the letters of a seam. Mathematics alone. -/
import Derived.Test.YtdfkblagcfgncaaGreatDoorPmT1
namespace Go.Proofs.YtdfkblagcfgncaaGreatDoor.Ev
variable {cm : Nat → Nat → Bool}

/-- the height of a letter over the first letters -/
def hR (cm : Nat → Nat → Bool) (l : List UInt8) (H : List Nat) (c : UInt8) : Nat → Nat
  | 0 => 1
  | k + 1 => if cm (lt (l.getD k 0)) (lt c) = true then hR cm l H c k else max (hR cm l H c k) (H.getD k 0 + 1)
/-- the heights of the first letters -/
def hts (cm : Nat → Nat → Bool) (l : List UInt8) : Nat → List Nat
  | 0 => []
  | i + 1 => hts cm l i ++ [hR cm l (hts cm l i) (l.getD i 0) i]
def ht (cm : Nat → Nat → Bool) (l : List UInt8) (i : Nat) : Nat := hR cm l (hts cm l i) (l.getD i 0) i
theorem hts_len {l : List UInt8} : ∀ i, (hts cm l i).length = i
  | 0 => rfl
  | i + 1 => by rw [hts, List.length_append, hts_len i]; rfl
theorem hts_get {l : List UInt8} {k : Nat} : ∀ {i : Nat}, k < i → (hts cm l i)[k]? = some (ht cm l k)
  | 0, h => by omega
  | i + 1, h => by
    rw [hts]
    by_cases e : k < i
    · rw [List.getElem?_append_left (by rw [hts_len]; exact e), hts_get e]
    · have : k = i := by omega
      subst this
      rw [List.getElem?_append_right (by rw [hts_len]; exact Nat.le_refl _), hts_len]
      simp [ht]
theorem hts_getD {l : List UInt8} {k i : Nat} (h : k < i) : (hts cm l i).getD k 0 = ht cm l k := by
  rw [List.getD_eq_getElem?_getD, hts_get h]; rfl
theorem hR_pos {l : List UInt8} {H : List Nat} {c : UInt8} : ∀ k, 1 ≤ hR cm l H c k
  | 0 => Nat.le_refl _
  | k + 1 => by
    have := hR_pos (l := l) (H := H) (c := c) k
    rw [hR]
    by_cases h : cm (lt (l.getD k 0)) (lt c) = true
    · rw [if_pos h]; exact this
    · rw [if_neg h]; omega
theorem hR_ge {l : List UInt8} {H : List Nat} {c : UInt8} {k : Nat} : ∀ {i : Nat}, k < i → cm (lt (l.getD k 0)) (lt c) = false → H.getD k 0 + 1 ≤ hR cm l H c i
  | 0, h, _ => by omega
  | i + 1, h, hc => by
    rw [hR]
    by_cases e : k = i
    · subst e
      rw [if_neg (by rw [hc]; decide)]
      omega
    · have := hR_ge (l := l) (H := H) (c := c) (show k < i by omega) hc
      by_cases h2 : cm (lt (l.getD i 0)) (lt c) = true
      · rw [if_pos h2]; exact this
      · rw [if_neg h2]; omega
theorem hR_cases {l : List UInt8} {H : List Nat} {c : UInt8} : ∀ i, hR cm l H c i = 1 ∨ ∃ k, k < i ∧ cm (lt (l.getD k 0)) (lt c) = false ∧ hR cm l H c i = H.getD k 0 + 1
  | 0 => .inl rfl
  | i + 1 => by
    have ih := hR_cases (l := l) (H := H) (c := c) i
    rw [hR]
    by_cases h : cm (lt (l.getD i 0)) (lt c) = true
    · rw [if_pos h]
      rcases ih with ih | ⟨k, h1, h2, h3⟩
      · exact .inl ih
      · exact .inr ⟨k, by omega, h2, h3⟩
    · rw [if_neg h]
      by_cases h4 : hR cm l H c i ≤ H.getD i 0 + 1
      · exact .inr ⟨i, by omega, by simpa using h, by omega⟩
      · rcases ih with ih | ⟨k, h1, h2, h3⟩
        · exact .inl (by omega)
        · exact .inr ⟨k, by omega, h2, by omega⟩
theorem ht_le {l : List UInt8} : ∀ i, ht cm l i ≤ i + 1 := fun i => by
  induction i using Nat.strongRecOn with
  | _ i ih =>
    rcases hR_cases (cm := cm) (l := l) (H := hts cm l i) (c := l.getD i 0) i with h | ⟨k, h1, _, h3⟩
    · unfold ht; omega
    · have h4 := ih k h1
      rw [hts_getD h1] at h3
      show hR cm l (hts cm l i) (l.getD i 0) i ≤ i + 1
      omega
theorem hR_le {l : List UInt8} {c : UInt8} {i k : Nat} (h : k ≤ i) : hR cm l (hts cm l i) c k ≤ k + 1 := by
  rcases hR_cases (cm := cm) (l := l) (H := hts cm l i) (c := c) k with h1 | ⟨j, h1, _, h3⟩
  · omega
  · rw [hts_getD (by omega)] at h3
    have := ht_le (cm := cm) (l := l) j
    omega

/-- the last heights of all letters, after some -/
structure LaOk (cm : Nat → Nat → Bool) (l : List UInt8) (i : Nat) (f : Nat → Nat) : Prop where
  ge : ∀ k, k < i → ht cm l k ≤ f (lt (l.getD k 0))
  is : ∀ o, f o = 0 ∨ ∃ k, k < i ∧ lt (l.getD k 0) = o ∧ f o = ht cm l k
theorem LaOk.le {l : List UInt8} {i o : Nat} {f : Nat → Nat} (h : LaOk cm l i f) : f o ≤ i := by
  rcases h.is o with h1 | ⟨k, h1, _, h3⟩
  · omega
  · have := ht_le (cm := cm) (l := l) k; omega
theorem LaOk.next {l : List UInt8} {i : Nat} {f : Nat → Nat} (hirr : ∀ a, cm a a = false) (h : LaOk cm l i f) : LaOk cm l (i + 1) (fun z => if z = lt (l.getD i 0) then ht cm l i else f z) := by
  refine ⟨fun k hk => ?_, fun o => ?_⟩
  · by_cases e : k = i
    · subst e
      show ht cm l k ≤ if _ then _ else _
      rw [if_pos rfl]; exact Nat.le_refl _
    · by_cases e2 : lt (l.getD k 0) = lt (l.getD i 0)
      · show ht cm l k ≤ if _ then _ else _
        rw [if_pos e2]
        have := hR_ge (cm := cm) (l := l) (H := hts cm l i) (c := l.getD i 0) (show k < i by omega) (by rw [e2]; exact hirr _)
        rw [hts_getD (by omega)] at this
        unfold ht at this ⊢; omega
      · show ht cm l k ≤ if _ then _ else _
        rw [if_neg e2]
        exact h.ge k (by omega)
  · by_cases e : o = lt (l.getD i 0)
    · right
      refine ⟨i, by omega, e.symm, ?_⟩
      show (if _ then _ else _) = _
      rw [if_pos e]
    · rcases h.is o with h1 | ⟨k, h1, h2, h3⟩
      · left
        show (if _ then _ else _) = _
        rw [if_neg e]; exact h1
      · right
        refine ⟨k, by omega, h2, ?_⟩
        show (if _ then _ else _) = _
        rw [if_neg e]; exact h3
/-- the height as the program finds it -/
def pR (cm : Nat → Nat → Bool) (f : Nat → Nat) (x : Nat) : Nat → Nat
  | 0 => 1
  | o + 1 => if cm x o = true then pR cm f x o else max (pR cm f x o) (f o + 1)
theorem pR_pos {f : Nat → Nat} {x : Nat} : ∀ k, 1 ≤ pR cm f x k
  | 0 => Nat.le_refl _
  | k + 1 => by
    have := pR_pos (f := f) (x := x) k
    rw [pR]
    by_cases h : cm x k = true
    · rw [if_pos h]; exact this
    · rw [if_neg h]; omega
theorem pR_ge {f : Nat → Nat} {x o : Nat} : ∀ {k : Nat}, o < k → cm x o = false → f o + 1 ≤ pR cm f x k
  | 0, h, _ => by omega
  | k + 1, h, hc => by
    rw [pR]
    by_cases e : o = k
    · subst e
      rw [if_neg (by rw [hc]; decide)]
      omega
    · have := pR_ge (f := f) (x := x) (show o < k by omega) hc
      by_cases h2 : cm x k = true
      · rw [if_pos h2]; exact this
      · rw [if_neg h2]; omega
theorem pR_cases {f : Nat → Nat} {x : Nat} : ∀ k, pR cm f x k = 1 ∨ ∃ o, o < k ∧ cm x o = false ∧ pR cm f x k = f o + 1
  | 0 => .inl rfl
  | k + 1 => by
    have ih := pR_cases (f := f) (x := x) k
    rw [pR]
    by_cases h : cm x k = true
    · rw [if_pos h]
      rcases ih with ih | ⟨o, h1, h2, h3⟩
      · exact .inl ih
      · exact .inr ⟨o, by omega, h2, h3⟩
    · rw [if_neg h]
      by_cases h4 : pR cm f x k ≤ f k + 1
      · exact .inr ⟨k, by omega, by simpa using h, by omega⟩
      · rcases ih with ih | ⟨o, h1, h2, h3⟩
        · exact .inl (by omega)
        · exact .inr ⟨o, by omega, h2, by omega⟩
theorem pR_le {l : List UInt8} {i k x : Nat} {f : Nat → Nat} (h : LaOk cm l i f) : pR cm f x k ≤ i + 1 := by
  rcases pR_cases (cm := cm) (f := f) (x := x) k with h1 | ⟨o, _, _, h3⟩
  · omega
  · have := h.le (o := o); omega
theorem pR_ht {l : List UInt8} {i k : Nat} {f : Nat → Nat} (hsym : ∀ a b, cm a b = cm b a) (h : LaOk cm l i f) (hl : ∀ j, j < i → lt (l.getD j 0) < k) : pR cm f (lt (l.getD i 0)) k = ht cm l i := by
  refine Nat.le_antisymm ?_ ?_
  · rcases pR_cases (cm := cm) (f := f) (x := lt (l.getD i 0)) k with h1 | ⟨o, h1, h2, h3⟩
    · rw [h1]; exact hR_pos _
    · rcases h.is o with h4 | ⟨j, h4, h5, h6⟩
      · have := hR_pos (cm := cm) (l := l) (H := hts cm l i) (c := l.getD i 0) i
        unfold ht; omega
      · have := hR_ge (cm := cm) (l := l) (H := hts cm l i) (c := l.getD i 0) h4 (by rw [h5, hsym]; exact h2)
        rw [hts_getD h4] at this
        unfold ht at *; omega
  · rcases hR_cases (cm := cm) (l := l) (H := hts cm l i) (c := l.getD i 0) i with h1 | ⟨j, h1, h2, h3⟩
    · unfold ht; rw [h1]; exact pR_pos _
    · rw [hts_getD h1] at h3
      have h4 := h.ge j h1
      have h5 := pR_ge (cm := cm) (f := f) (x := lt (l.getD i 0)) (hl j h1) (by rw [hsym]; exact h2)
      unfold ht at *; omega
end Go.Proofs.YtdfkblagcfgncaaGreatDoor.Ev

