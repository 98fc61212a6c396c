/- Seams are equal exactly if their parts of two letters are. Mathematics alone. -/
import Derived.Test.YtdfkblagcfgncaaGreatDoorPmsT3
set_option linter.unusedSimpArgs false
namespace Go.Proofs.YtdfkblagcfgncaaGreatDoor.Ev

/-- a seam without all letters but two -/
def on2 (a d : UInt8) (l : List UInt8) : List UInt8 := l.filter fun c => decide (c = a ∨ c = d)
theorem on2_cons {a d c : UInt8} {l : List UInt8} : on2 a d (c :: l) = if c = a ∨ c = d then c :: on2 a d l else on2 a d l := by
  by_cases h : c = a ∨ c = d
  · unfold on2
    rw [if_pos h, List.filter_cons, if_pos (decide_eq_true h)]
  · unfold on2
    rw [if_neg h, List.filter_cons, if_neg (by rw [decide_eq_false h]; decide)]
theorem on2_comm {a d : UInt8} {l : List UInt8} : on2 a d l = on2 d a l := by
  unfold on2
  congr 1
  funext c
  exact decide_eq_decide.2 or_comm
theorem on2_mem {a d c : UInt8} {l : List UInt8} (h : c ∈ on2 a d l) : c ∈ l ∧ (c = a ∨ c = d) := by
  obtain ⟨h1, h2⟩ := List.mem_filter.1 h
  exact ⟨h1, of_decide_eq_true h2⟩
theorem on2_append {a d : UInt8} {l m : List UInt8} : on2 a d (l ++ m) = on2 a d l ++ on2 a d m := List.filter_append ..

theorem on2_sw {cm : Nat → Nat → Bool} {a d : UInt8} (hsym : ∀ a b, cm a b = cm b a) (hn : a = d ∨ cm (lt a) (lt d) = false) {s t : List UInt8} (h : Sw cm s t) : on2 a d s = on2 a d t := by
  induction h with
  | refl l => rfl
  | cons c _ ih => rw [on2_cons, on2_cons, ih]
  | swap p q r hpq h1 h2 =>
    rw [on2_cons, on2_cons, on2_cons, on2_cons]
    by_cases hp : p = a ∨ p = d
    · by_cases hq : q = a ∨ q = d
      · exfalso
        rcases hn with e | hn
        · rcases hp with e1 | e1 <;> rcases hq with e2 | e2 <;> exact hpq (by simp only [e1, e2, e])
        · rcases hp with e1 | e1 <;> rcases hq with e2 | e2
          · exact hpq (by rw [e1, e2])
          · rw [e1, e2, hn] at h1; cases h1
          · rw [e1, e2, hn] at h2; cases h2
          · exact hpq (by rw [e1, e2])
      · simp only [if_neg hq, if_pos hp]
    · simp only [if_neg hp]
  | trans _ _ i1 i2 => exact i1.trans i2

theorem er_blocked {cm : Nat → Nat → Bool} {x : Nat} : ∀ (t : List UInt8), er cm x t = none → (∃ c ∈ t, lt c = x) → ∃ pre c post, t = pre ++ c :: post ∧ (∀ d ∈ pre, lt d ≠ x) ∧ lt c ≠ x ∧ cm (lt c) x = false
  | [], _, ⟨c, hc, _⟩ => by cases hc
  | c :: r, h, ⟨d, hd, hx⟩ => by
    unfold er at h
    by_cases h1 : lt c = x
    · rw [if_pos h1] at h; cases h
    · rw [if_neg h1] at h
      by_cases h2 : cm (lt c) x = true
      · rw [if_pos h2] at h
        have hn : er cm x r = none := by
          cases e : er cm x r with
          | none => rfl
          | some q => rw [e] at h; cases h
        have hm : ∃ c ∈ r, lt c = x := by
          rcases List.mem_cons.1 hd with rfl | hd
          · exact absurd hx h1
          · exact ⟨d, hd, hx⟩
        obtain ⟨pre, c', post, rfl, h3, h4, h5⟩ := er_blocked r hn hm
        exact ⟨c :: pre, c', post, rfl, fun d hd => (List.mem_cons.1 hd).elim (fun e => e ▸ h1) (h3 d), h4, h5⟩
      · exact ⟨[], c, r, rfl, fun d hd => (by cases hd), h1, by simpa using h2⟩

theorem sw_of_on2 {cm : Nat → Nat → Bool} (hsym : ∀ a b, cm a b = cm b a) : ∀ (s t : List UInt8), OkL 6 s → OkL 6 t → (∀ a d, (a ∈ s ∨ a ∈ t) → (d ∈ s ∨ d ∈ t) → (a = d ∨ cm (lt a) (lt d) = false) → on2 a d s = on2 a d t) → Sw cm s t
  | [], t, _, _, h => by
    cases t with
    | nil => exact .refl _
    | cons c r =>
      have := h c c (.inr List.mem_cons_self) (.inr List.mem_cons_self) (.inl rfl)
      rw [on2_cons, if_pos (.inl rfl)] at this
      cases this
  | c :: s, t, hs, ht, h => by
    have hcs : c ∈ c :: s := List.mem_cons_self
    have hcc := h c c (.inl hcs) (.inl hcs) (.inl rfl)
    have hct : c ∈ t := by
      have : c ∈ on2 c c (c :: s) := by rw [on2_cons, if_pos (.inl rfl)]; exact List.mem_cons_self
      rw [hcc] at this
      exact (on2_mem this).1
    cases e : er cm (lt c) t with
    | none =>
      exfalso
      obtain ⟨pre, d, post, et, h3, h4, h5⟩ := er_blocked t e ⟨c, hct, rfl⟩
      have hdt : d ∈ t := by rw [et]; simp
      have h6 := h c d (.inl hcs) (.inr hdt) (.inr (by rw [hsym]; exact h5))
      rw [et, on2_append, on2_cons, on2_cons, if_pos (.inl rfl), if_pos (.inr rfl)] at h6
      have h9 : ∀ e ∈ on2 c d pre, e = d := fun e he => by
        obtain ⟨m, e1 | e1⟩ := on2_mem he
        · exact absurd (by rw [e1]) (h3 _ m)
        · exact e1
      have hcd : c = d := by
        cases e2 : on2 c d pre with
        | nil => rw [e2] at h6; injection h6
        | cons a r =>
          have := h9 a (by rw [e2]; exact List.mem_cons_self)
          rw [e2] at h6
          injection h6 with h10
          rw [h10, this]
      exact h4 (by rw [hcd])
    | some t' =>
      obtain ⟨c2, hc2, hm2, hs2⟩ := er_front hsym t t' e
      have hcc : c2 = c := lt_inj (ht c2 hm2).1 (hs c hcs).1 hc2
      subst hcc
      have ht' : OkL 6 t' := fun d hd => ht d ((hs2.mem d).2 (List.mem_cons_of_mem _ hd))
      have hs' : OkL 6 s := fun d hd => hs d (List.mem_cons_of_mem _ hd)
      refine (Sw.cons c2 (sw_of_on2 hsym s t' hs' ht' fun a d ha hd hn => ?_)).trans hs2.symm
      have h1 := h a d (ha.imp (List.mem_cons_of_mem _) fun m => (hs2.mem a).2 (List.mem_cons_of_mem _ m)) (hd.imp (List.mem_cons_of_mem _) fun m => (hs2.mem d).2 (List.mem_cons_of_mem _ m)) hn
      rw [on2_sw hsym hn hs2, on2_cons, on2_cons] at h1
      by_cases hk : c2 = a ∨ c2 = d
      · rw [if_pos hk, if_pos hk] at h1; injection h1
      · rw [if_neg hk, if_neg hk] at h1; exact h1

theorem pairs_iff {cm : Nat → Nat → Bool} (hsym : ∀ a b, cm a b = cm b a) {k : Nat} (hk : k ≤ 6) {s t : List UInt8} (hs : OkL k s) (ht : OkL k t) :
    lst cm k s = lst cm k t ↔ ∀ a d : Nat, a ≤ d → d < k → (a = d ∨ cm a d = false) → on2 (UInt8.ofNat (97 + a)) (UInt8.ofNat (97 + d)) s = on2 (UInt8.ofNat (97 + a)) (UInt8.ofNat (97 + d)) t := by
  have w1 : lst cm 6 s = lst cm k s := lst_wide (K := 6) hs (by omega)
  have w2 : lst cm 6 t = lst cm k t := lst_wide (K := 6) ht (by omega)
  constructor
  · intro h a d had hd hn
    have h1 := lst_sw hsym _ s rfl (hs.mono (by omega))
    have h2 := lst_sw hsym _ t rfl (ht.mono (by omega))
    rw [w1] at h1
    rw [w2] at h2
    rw [h] at h1
    refine on2_sw hsym ?_ (h1.trans h2.symm)
    rcases hn with rfl | hn
    · exact .inl rfl
    · right
      rw [(lt_byte (by omega)).2, (lt_byte (by omega)).2]
      exact hn
  · intro h
    refine (sw_of_on2 hsym s t (hs.mono (by omega)) (ht.mono (by omega)) fun a d ha hd hn => ?_).lst'
    have oa : 97 ≤ a.toNat ∧ a.toNat < 97 + k := ha.elim (hs a) (ht a)
    have od : 97 ≤ d.toNat ∧ d.toNat < 97 + k := hd.elim (hs d) (ht d)
    have ea := byte_of (c := a) (x := lt a) oa.1 rfl
    have ed := byte_of (c := d) (x := lt d) od.1 rfl
    have la : lt a < k := by unfold lt; omega
    have ld : lt d < k := by unfold lt; omega
    by_cases hle : lt a ≤ lt d
    · have := h (lt a) (lt d) hle ld (hn.imp (fun e => by rw [e]) id)
      rw [ea, ed] at this
      exact this
    · have := h (lt d) (lt a) (by omega) la (hn.imp (fun e => by rw [e]) fun e => by rw [hsym]; exact e)
      rw [ea, ed] at this
      rw [on2_comm, this, on2_comm]
end Go.Proofs.YtdfkblagcfgncaaGreatDoor.Ev


