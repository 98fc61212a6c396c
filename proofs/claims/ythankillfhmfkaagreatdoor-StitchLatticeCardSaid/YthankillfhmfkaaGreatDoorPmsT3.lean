/- Levi's lemma for seams. Mathematics alone. -/
import Derived.Test.YthankillfhmfkaaGreatDoorPmsD3
set_option linter.unusedSimpArgs false
set_option linter.unusedVariables false
namespace Go.Proofs.YthankillfhmfkaaGreatDoor.Ev

theorem er_append {cm : Nat → Nat → Bool} {y : Nat} : ∀ (a a' b : List UInt8), er cm y a = some a' → er cm y (a ++ b) = some (a' ++ b)
  | [], a', b, h => by cases h
  | c :: r, a', b, h => by
    rw [List.cons_append]
    unfold er at h ⊢
    by_cases h1 : lt c = y
    · rw [if_pos h1] at h ⊢
      cases h; rfl
    · rw [if_neg h1] at h ⊢
      by_cases h2 : cm (lt c) y = true
      · rw [if_pos h2] at h ⊢
        cases e : er cm y r with
        | none => rw [e] at h; cases h
        | some r' =>
          rw [e] at h
          cases h
          rw [er_append r r' b e]
          rfl
      · rw [if_neg h2] at h; cases h
theorem er_append_none {cm : Nat → Nat → Bool} {y : Nat} : ∀ (a b w : List UInt8), er cm y a = none → er cm y (a ++ b) = some w → (∀ c ∈ a, cm (lt c) y = true ∧ lt c ≠ y) ∧ ∃ b', er cm y b = some b' ∧ w = a ++ b'
  | [], b, w, _, h => ⟨fun c hc => (by cases hc), w, h, rfl⟩
  | c :: r, b, w, hn, h => by
    rw [List.cons_append] at h
    unfold er at h hn
    by_cases h1 : lt c = y
    · rw [if_pos h1] at hn; cases hn
    · rw [if_neg h1] at h hn
      by_cases h2 : cm (lt c) y = true
      · rw [if_pos h2] at h hn
        have hn' : er cm y r = none := by
          cases e : er cm y r with
          | none => rfl
          | some q => rw [e] at hn; cases hn
        cases e : er cm y (r ++ b) with
        | none => rw [e] at h; cases h
        | some q =>
          rw [e] at h
          cases h
          obtain ⟨i1, b', i2, i3⟩ := er_append_none r b q hn' e
          refine ⟨fun d hd => ?_, b', i2, by rw [i3]; rfl⟩
          rcases List.mem_cons.1 hd with rfl | hd
          · exact ⟨h2, h1⟩
          · exact i1 d hd
      · rw [if_neg h2] at h; cases h
theorem lt_inj {c d : UInt8} (hc : 97 ≤ c.toNat) (hd : 97 ≤ d.toNat) (h : lt c = lt d) : c = d := by
  have : c.toNat = d.toNat := by unfold lt at h; omega
  exact UInt8.toNat_inj.1 this
/-- Levi -/
theorem levi {cm : Nat → Nat → Bool} (hsym : ∀ a b, cm a b = cm b a) : ∀ (y z t v : List UInt8), OkL 6 y → OkL 6 v → (∀ d, ¬ (er cm d y ≠ none ∧ er cm d z ≠ none)) → Sw cm (y ++ t) (z ++ v) →
    allC cm y z = true ∧ ∃ w, Sw cm t (z ++ w) ∧ Sw cm v (y ++ w)
  | [], z, t, v, _, _, _, h => ⟨rfl, v, h, .refl _⟩
  | c :: y, z, t, v, hy, hv, hno, h => by
    have e0 : er cm (lt c) (c :: (y ++ t)) = some (y ++ t) := by unfold er; rw [if_pos rfl]
    rw [List.cons_append] at h
    rcases h.er (y := lt c) with ⟨e1, _⟩ | ⟨a, q, e1, e2, haq⟩
    · rw [e0] at e1; cases e1
    · rw [e0] at e1; cases e1
      have hz : er cm (lt c) z = none := by
        cases e : er cm (lt c) z with
        | none => rfl
        | some p =>
          refine absurd ⟨?_, ?_⟩ (hno (lt c))
          · unfold er; rw [if_pos rfl]; exact fun e => (by cases e)
          · rw [e]; exact fun e => (by cases e)
      obtain ⟨hall, v', ev, rfl⟩ := er_append_none z v q hz e2
      obtain ⟨c2, hc2, hm2, hs2⟩ := er_front hsym v v' ev
      have hcc : c2 = c := lt_inj (hv c2 hm2).1 (hy c List.mem_cons_self).1 hc2
      subst hcc
      have hy' : OkL 6 y := fun d hd => hy d (List.mem_cons_of_mem _ hd)
      have hv' : OkL 6 v' := fun d hd => hv d ((hs2.mem d).2 (List.mem_cons_of_mem _ hd))
      have hno' : ∀ d, ¬ (er cm d y ≠ none ∧ er cm d z ≠ none) := fun d ⟨d1, d2⟩ => by
        cases e : er cm d z with
        | none => exact d2 e
        | some p =>
          obtain ⟨c3, hc3, hm3, _⟩ := er_front hsym z p e
          obtain ⟨k1, k2⟩ := hall c3 hm3
          rw [hc3] at k1 k2
          refine hno d ⟨?_, d2⟩
          unfold er
          rw [if_neg (Ne.symm k2), if_pos (by rw [hsym]; exact k1)]
          cases e5 : er cm d y with
          | none => exact absurd e5 d1
          | some p => exact fun e => (by cases e)
      obtain ⟨i1, w, i2, i3⟩ := levi hsym y z t v' hy' hv' hno' haq
      refine ⟨?_, w, i2, hs2.trans (.cons c2 i3)⟩
      rw [allC_iff] at i1 ⊢
      intro x hx d hd
      rcases List.mem_cons.1 hx with rfl | hx
      · rw [hsym]; exact (hall d hd).1
      · exact i1 x hx d hd

theorem takeB_self {cm : Nat → Nat → Bool} : ∀ x b : List UInt8, takeB cm x (x ++ b) = some b
  | [], b => rfl
  | c :: x, b => by
    have h0 : fg cm (lt c) (c :: (x ++ b)) 0 = 0 := by unfold fg; rw [if_pos rfl]; rfl
    have hat : at0 cm (lt c) (c :: (x ++ b)) = 0 := by unfold at0; rw [h0]; rfl
    rw [List.cons_append, takeB, if_pos (by rw [h0]; exact Int.le_refl _), hat]
    exact takeB_self x b
theorem Sw.cancel {cm : Nat → Nat → Bool} {x a b : List UInt8} (h : Sw cm (x ++ a) (x ++ b)) : Sw cm a b := by
  obtain ⟨w, hw, hs⟩ := takeB_sw x h
  rw [takeB_self] at hw
  cases hw
  exact hs
theorem takeB_back {cm : Nat → Nat → Bool} (hsym : ∀ a b, cm a b = cm b a) : ∀ (b t r : List UInt8), OkL 6 b → OkL 6 t → takeB cm b t = some r → Sw cm t (b ++ r)
  | [], t, r, _, _, h => by
    unfold takeB at h
    cases h
    exact .refl _
  | c :: b, t, r, hb, ht, h => by
    unfold takeB at h
    by_cases hf : 0 ≤ fg cm (lt c) t 0
    · rw [if_pos hf] at h
      obtain ⟨c2, hc2, hm2, hs2⟩ := er_front hsym t _ (er_some hf)
      have hcc : c2 = c := lt_inj (ht c2 hm2).1 (hb c List.mem_cons_self).1 hc2
      subst hcc
      exact hs2.trans (.cons c2 (takeB_back hsym b _ r (fun d hd => hb d (List.mem_cons_of_mem _ hd)) ht.wo h))
    · rw [if_neg hf] at h; cases h
theorem mt_none {cm : Nat → Nat → Bool} {K : Nat} : ∀ (n : Nat) {a b : List UInt8}, a.length = n → nx2 cm K (mt cm K a b).2.1 (mt cm K a b).2.2 = none := by
  intro n
  induction n with
  | zero =>
    intro a b hn
    obtain rfl := List.eq_nil_of_length_eq_zero hn
    exact nx2_none.2 fun y _ h => absurd h.1 (by show ¬ (0 : Int) ≤ -1; decide)
  | succ n ih =>
    intro a b hn
    cases e : nx2 cm K a b with
    | none => rw [mt_stop e]; exact e
    | some x =>
      have wa := wo_len (at0_lt (nx2_some.1 e).2.1.1).1
      rw [mt_step e]
      exact ih (by omega)
end Go.Proofs.YthankillfhmfkaaGreatDoor.Ev


