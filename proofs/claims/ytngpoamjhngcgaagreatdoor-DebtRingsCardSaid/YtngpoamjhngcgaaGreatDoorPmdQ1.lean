/- Cheapest ways, found in rounds. Mathematics alone. -/
namespace Go.Proofs.YtngpoamjhngcgaaGreatDoor.Ev

def upf {α : Type} (f : Nat → α) (j : Nat) (v : α) : Nat → α := fun k => if k = j then v else f k
theorem upf_same {α : Type} {f : Nat → α} {j : Nat} {v : α} : upf f j v j = v := if_pos rfl
theorem upf_other {α : Type} {f : Nat → α} {j k : Nat} {v : α} (h : k ≠ j) : upf f j v k = f k := if_neg h
/-- what a step costs -/
def stp (d r : Nat → Nat → Int) (i j : Nat) : Option Int := if 0 < r j i then some (-1) else if r i j < d i j then some 1 else none
theorem stp_val {d r : Nat → Nat → Int} {i j : Nat} {s : Int} (h : stp d r i j = some s) : s = -1 ∨ s = 1 := by
  unfold stp at h
  split at h
  · injection h with h; exact .inl h.symm
  · split at h
    · injection h with h; exact .inr h.symm
    · exact absurd h (by simp)
/-- costs, who comes before, whether something was found; when a cost was last changed, and how much was done -/
structure St where
  c : Nat → Int
  b : Nat → Int
  f : Bool
  T : Nat → Nat
  t : Nat
def rl (d r : Nat → Nat → Int) (i j : Nat) (x : St) : St := match stp d r i j with
  | some s => if x.c i < 1000 ∧ x.c i + s < x.c j then ⟨upf x.c j (x.c i + s), upf x.b j (i : Int), true, upf x.T j (x.t + 1), x.t + 1⟩ else { x with t := x.t + 1 }
  | none => { x with t := x.t + 1 }
def rowr (d r : Nat → Nat → Int) (x : St) (i : Nat) : Nat → St
  | 0 => x
  | J + 1 => rl d r i J (rowr d r x i J)
def pas (d r : Nat → Nat → Int) (n : Nat) (x : St) : Nat → St
  | 0 => x
  | I + 1 => rowr d r (pas d r n x I) I n
theorem rl_t {d r : Nat → Nat → Int} {i j : Nat} {x : St} : (rl d r i j x).t = x.t + 1 := by
  unfold rl
  split
  · split <;> rfl
  · rfl
theorem rl_cases {d r : Nat → Nat → Int} {i j : Nat} {x : St} : (rl d r i j x = { x with t := x.t + 1 } ∧ (∀ s, stp d r i j = some s → x.c i < 1000 → x.c j ≤ x.c i + s)) ∨ ∃ s, stp d r i j = some s ∧ x.c i < 1000 ∧ x.c i + s < x.c j ∧ rl d r i j x = ⟨upf x.c j (x.c i + s), upf x.b j (i : Int), true, upf x.T j (x.t + 1), x.t + 1⟩ := by
  unfold rl
  split
  · rename_i s hs
    split
    · rename_i h
      exact .inr ⟨s, hs, h.1, h.2, rfl⟩
    · rename_i h
      refine .inl ⟨rfl, fun s' hs' h1 => ?_⟩
      rw [hs] at hs'
      injection hs' with hs'
      subst hs'
      exact Int.not_lt.1 fun g => h ⟨h1, g⟩
  · rename_i hs
    refine .inl ⟨rfl, fun s' hs' => ?_⟩
    rw [hs] at hs'
    exact absurd hs' (by simp)
/-- a claim that each step keeps -/
theorem rowr_ind {d r : Nat → Nat → Int} {x : St} {i : Nat} {P : Nat → St → Prop} (h0 : P 0 x) {n : Nat} (hs : ∀ j y, j < n → P j y → P (j + 1) (rl d r i j y)) : ∀ J, J ≤ n → P J (rowr d r x i J)
  | 0, _ => h0
  | J + 1, h => hs J _ h (rowr_ind h0 hs J (by omega))
theorem pas_ind {d r : Nat → Nat → Int} {n : Nat} {x : St} {P : Nat → Nat → St → Prop} (h0 : P 0 0 x) (hs : ∀ i j y, i < n → j < n → P i j y → P i (j + 1) (rl d r i j y)) (hr : ∀ i y, i < n → P i n y → P (i + 1) 0 y) : ∀ I, I ≤ n → P I 0 (pas d r n x I)
  | 0, _ => h0
  | I + 1, h => hr I _ h (rowr_ind (P := P I) (pas_ind h0 hs hr I (by omega)) (fun j y hj hy => hs I j y h hj hy) n (Nat.le_refl _))

/-- what holds all the time -/
structure BF (d r : Nat → Nat → Int) (n : Nat) (st : Nat → Int) (x : St) : Prop where
  from_ : ∀ v, v < n → (x.b v = -1 ∧ x.c v = st v) ∨ ∃ u s, u < n ∧ u ≠ v ∧ x.b v = (u : Int) ∧ stp d r u v = some s ∧ x.c u < 1000 ∧ x.c u + s ≤ x.c v ∧ (x.c u + s = x.c v → x.T u < x.T v)
  T_le : ∀ v, v < n → x.T v ≤ x.t
  bd : ∀ v, v < n → x.c v = 1000 ∨ (-(x.t : Int) ≤ x.c v ∧ x.c v ≤ x.t)
theorem BF.start {d r : Nat → Nat → Int} {n : Nat} {st : Nat → Int} (h : ∀ v, v < n → st v = 0 ∨ st v = 1000) : BF d r n st ⟨st, fun _ => -1, false, fun _ => 0, 0⟩ :=
  ⟨fun v hv => .inl ⟨rfl, rfl⟩, fun v hv => Nat.le_refl _, fun v hv => (h v hv).elim (fun g => .inr (by simp only [g]; decide)) fun g => .inl g⟩
theorem BF.f {d r : Nat → Nat → Int} {n : Nat} {st : Nat → Int} {x : St} (h : BF d r n st x) (f : Bool) : BF d r n st { x with f := f } := ⟨h.from_, h.T_le, h.bd⟩
theorem BF.rl {d r : Nat → Nat → Int} {n i j : Nat} {st : Nat → Int} {x : St} (h : BF d r n st x) (hself : ∀ v, v < n → stp d r v v = none) (hi : i < n) (hj : j < n) (ht : x.t + 1 < 999) : BF d r n st (rl d r i j x) := by
  rcases rl_cases (d := d) (r := r) (i := i) (j := j) (x := x) with ⟨e, _⟩ | ⟨s, hs, h1, h2, e⟩
  · rw [e]
    refine ⟨h.from_, fun v hv => Nat.le_succ_of_le (h.T_le v hv), fun v hv => ?_⟩
    rcases h.bd v hv with g | g
    · exact .inl g
    · right; simp only; omega
  · rw [e]
    have hij : i ≠ j := fun g => by subst g; rw [hself i hi] at hs; exact absurd hs (by simp)
    have hsv := stp_val hs
    refine ⟨fun v hv => ?_, fun v hv => ?_, fun v hv => ?_⟩
    · simp only
      by_cases hvj : v = j
      · subst hvj
        right
        refine ⟨i, s, hi, hij, upf_same, hs, ?_, ?_, fun _ => ?_⟩
        · rw [upf_other hij]; exact h1
        · rw [upf_other hij, upf_same]; exact Int.le_refl _
        · rw [upf_other hij, upf_same]; exact Nat.lt_succ_of_le (h.T_le i hi)
      · rw [upf_other hvj, upf_other hvj, upf_other hvj]
        rcases h.from_ v hv with g | ⟨u, s', g1, g2, g3, g4, g5, g6, g7⟩
        · exact .inl g
        · right
          by_cases huj : u = j
          · subst huj
            exact ⟨u, s', g1, g2, g3, g4, by rw [upf_same]; omega, by rw [upf_same]; omega, fun g => by rw [upf_same] at g; omega⟩
          · exact ⟨u, s', g1, g2, g3, g4, by rw [upf_other huj]; exact g5, by rw [upf_other huj]; exact g6, fun g => by rw [upf_other huj] at g ⊢; exact g7 g⟩
    · simp only
      by_cases hvj : v = j
      · subst hvj; rw [upf_same]; exact Nat.le_refl _
      · rw [upf_other hvj]; exact Nat.le_succ_of_le (h.T_le v hv)
    · simp only
      by_cases hvj : v = j
      · subst hvj
        rw [upf_same]
        rcases h.bd i hi with g | g
        · omega
        · right; omega
      · rw [upf_other hvj]
        rcases h.bd v hv with g | g
        · exact .inl g
        · right; omega

/-- numbers by which no ring is cheaper than nothing -/
def Pot (d r : Nat → Nat → Int) (n : Nat) (q : Nat → Int) : Prop := ∀ i j s, i < n → j < n → stp d r i j = some s → q j ≤ q i + s
/-- nothing is left to be found -/
def Fix (d r : Nat → Nat → Int) (n : Nat) (c : Nat → Int) : Prop := ∀ i j s, i < n → j < n → stp d r i j = some s → c i < 1000 → c j ≤ c i + s
theorem Fix.same {d r : Nat → Nat → Int} {n : Nat} {x : St} (h : Fix d r n x.c) : (pas d r n x n).c = x.c ∧ (pas d r n x n).f = x.f := by
  have := pas_ind (d := d) (r := r) (n := n) (x := x) (P := fun _ _ y => y.c = x.c ∧ y.f = x.f) ⟨rfl, rfl⟩ (fun i j y hi hj ⟨e1, e2⟩ => by
    rcases rl_cases (d := d) (r := r) (i := i) (j := j) (x := y) with ⟨e, _⟩ | ⟨s, hs, h1, h2, e⟩
    · rw [e]; exact ⟨e1, e2⟩
    · rw [e1] at h1 h2
      have := h i j s hi hj hs h1
      omega) (fun i y _ h => h) n (Nat.le_refl _)
  exact this
/-- nothing was found: nothing is left -/
theorem pas_found {d r : Nat → Nat → Int} {n : Nat} {x : St} (hx : x.f = false) (hn : (pas d r n x n).f = false) : Fix d r n (pas d r n x n).c := by
  have := pas_ind (d := d) (r := r) (n := n) (x := x) (P := fun I J y => y.f = true ∨ (y.f = false ∧ ∀ i j s, i < n → j < n → (i < I ∨ (i = I ∧ j < J)) → stp d r i j = some s → y.c i < 1000 → y.c j ≤ y.c i + s)) (.inr ⟨hx, fun i j s _ _ h => by omega⟩) (fun I J y hi hj h => by
      rcases rl_cases (d := d) (r := r) (i := I) (j := J) (x := y) with ⟨e, hc⟩ | ⟨s, hs, h1, h2, e⟩
      · rw [e]
        rcases h with h | ⟨h1, h2⟩
        · exact .inl h
        · refine .inr ⟨h1, fun i j s a1 a2 a3 a4 a5 => ?_⟩
          by_cases hq : i = I ∧ j = J
          · obtain ⟨rfl, rfl⟩ := hq
            exact hc s a4 a5
          · exact h2 i j s a1 a2 (by omega) a4 a5
      · rw [e]; exact .inl rfl) (fun I y hi h => by
      rcases h with h | ⟨h1, h2⟩
      · exact .inl h
      · exact .inr ⟨h1, fun i j s a1 a2 a3 a4 a5 => h2 i j s a1 a2 (by omega) a4 a5⟩) n (Nat.le_refl _)
  rcases this with h | ⟨_, h⟩
  · rw [hn] at h; exact absurd h (by simp)
  · exact fun i j s a1 a2 a3 a4 => h i j s a1 a2 (.inl a1) a3 a4

/-- how many are in a set -/
def cnt (S : Nat → Bool) : Nat → Nat
  | 0 => 0
  | n + 1 => cnt S n + if S n then 1 else 0
theorem cnt_le {S : Nat → Bool} : ∀ n, cnt S n ≤ n
  | 0 => Nat.le_refl _
  | n + 1 => by
    have := cnt_le (S := S) n
    rw [cnt]
    split <;> omega
theorem cnt_all {S : Nat → Bool} : ∀ n, n ≤ cnt S n → ∀ i, i < n → S i = true
  | 0, _, i, hi => by omega
  | n + 1, h, i, hi => by
    have h1 := cnt_le (S := S) n
    rw [cnt] at h
    by_cases hn : S n = true
    · rw [if_pos hn] at h
      by_cases hin : i = n
      · subst hin; exact hn
      · exact cnt_all n (by omega) i (by omega)
    · rw [if_neg hn] at h
      omega
theorem cnt_put {S : Nat → Bool} {v : Nat} (hv : S v = false) : ∀ n, cnt (upf S v true) n = cnt S n + if v < n then 1 else 0
  | 0 => rfl
  | n + 1 => by
    have ih := cnt_put hv n
    rw [cnt, cnt, ih]
    by_cases hvn : v = n
    · subst hvn
      rw [upf_same, hv]
      simp
    · rw [upf_other (fun g => hvn g.symm)]
      by_cases h1 : v < n
      · rw [if_pos h1, if_pos (show v < n + 1 by omega)]; omega
      · rw [if_neg h1, if_neg (show ¬ v < n + 1 by omega)]; omega
/-- those in a set are final -/
structure Set_ (d r : Nat → Nat → Int) (n : Nat) (q : Nat → Int) (S : Nat → Bool) (c : Nat → Int) : Prop where
  act : ∀ s, s < n → S s = true → c s < 1000
  rel : ∀ s j w, s < n → j < n → S s = true → stp d r s j = some w → c j ≤ c s + w
  low : ∀ s j, s < n → j < n → S s = true → S j = false → c j < 1000 → c s - q s ≤ c j - q j
/-- the least of those that are not in a set -/
theorem least_out {S : Nat → Bool} {c y : Nat → Int} : ∀ n, (∀ j, j < n → S j = false → 1000 ≤ c j) ∨ ∃ v, v < n ∧ S v = false ∧ c v < 1000 ∧ ∀ j, j < n → S j = false → c j < 1000 → y v ≤ y j
  | 0 => .inl fun j hj => by omega
  | n + 1 => by
    by_cases hn : S n = false ∧ c n < 1000
    · rcases least_out (S := S) (c := c) (y := y) n with h | ⟨v, h1, h2, h3, h4⟩
      · refine .inr ⟨n, by omega, hn.1, hn.2, fun j hj h1 h2 => ?_⟩
        by_cases hjn : j = n
        · subst hjn; exact Int.le_refl _
        · have := h j (by omega) h1; omega
      · by_cases hle : y v ≤ y n
        · refine .inr ⟨v, by omega, h2, h3, fun j hj g1 g2 => ?_⟩
          by_cases hjn : j = n
          · subst hjn; exact hle
          · exact h4 j (by omega) g1 g2
        · refine .inr ⟨n, by omega, hn.1, hn.2, fun j hj g1 g2 => ?_⟩
          by_cases hjn : j = n
          · subst hjn; exact Int.le_refl _
          · have := h4 j (by omega) g1 g2; omega
    · rcases least_out (S := S) (c := c) (y := y) n with h | ⟨v, h1, h2, h3, h4⟩
      · refine .inl fun j hj g => ?_
        by_cases hjn : j = n
        · subst hjn; exact Int.not_lt.1 fun g2 => hn ⟨g, g2⟩
        · exact h j (by omega) g
      · refine .inr ⟨v, by omega, h2, h3, fun j hj g1 g2 => ?_⟩
        by_cases hjn : j = n
        · subst hjn; exact absurd ⟨g1, g2⟩ hn
        · exact h4 j (by omega) g1 g2
/-- one round more: one more is final -/
theorem Set_.pas {d r : Nat → Nat → Int} {n : Nat} {q : Nat → Int} {S : Nat → Bool} {x : St} (hq : Pot d r n q) (h : Set_ d r n q S x.c) : Fix d r n x.c ∨ ∃ S', cnt S' n = cnt S n + 1 ∧ Set_ d r n q S' (pas d r n x n).c := by
  rcases least_out (S := S) (c := x.c) (y := fun v => x.c v - q v) n with h0 | ⟨v, hv, v1, v2, v3⟩
  · refine .inl fun i j s hi hj hs hc => ?_
    by_cases hS : S i = true
    · exact h.rel i j s hi hj hS hs
    · have := h0 i hi (by simpa using hS); omega
  · right
    refine ⟨upf S v true, by rw [cnt_put v1, if_pos hv], ?_⟩
    have key := pas_ind (d := d) (r := r) (n := n) (x := x) (P := fun I J y => (∀ s, s < n → S s = true → y.c s = x.c s) ∧ y.c v = x.c v ∧ (∀ j, j < n → y.c j ≤ x.c j) ∧ (∀ j, j < n → S j = false → y.c j < 1000 → x.c v - q v ≤ y.c j - q j) ∧
        ∀ j w, j < n → (v < I ∨ (v = I ∧ j < J)) → stp d r v j = some w → y.c j ≤ y.c v + w) ⟨fun _ _ _ => rfl, rfl, fun _ _ => Int.le_refl _, v3, fun j w _ g => by omega⟩ (fun I J y hi hj ⟨k1, k2, k3, k4, k5⟩ => by
      rcases rl_cases (d := d) (r := r) (i := I) (j := J) (x := y) with ⟨e, hc⟩ | ⟨s, hs, h1, h2, e⟩
      · rw [e]
        refine ⟨k1, k2, k3, k4, fun j w a1 a2 a3 => ?_⟩
        simp only
        by_cases hq' : v = I ∧ j = J
        · obtain ⟨rfl, rfl⟩ := hq'
          exact hc w a3 (by rw [k2]; exact v2)
        · exact k5 j w a1 (by omega) a3
      · rw [e]
        have hp := hq I J s hi hj hs
        have hIS : S I = false := by
          refine Classical.byContradiction fun g => ?_
          have g : S I = true := by simpa using g
          have a1 := h.rel I J s hi hj g hs
          have a2 := k1 I hi g
          have a3 := k3 J hj
          omega
        have hy := k4 I hi hIS h1
        have hJS : S J = false := by
          refine Classical.byContradiction fun g => ?_
          have g : S J = true := by simpa using g
          have a1 := h.low J v hj hv g v1 v2
          have a2 := k1 J hj g
          omega
        have hJv : J ≠ v := fun g => by subst g; omega
        refine ⟨fun s' a1 a2 => ?_, ?_, fun j a1 => ?_, fun j a1 a2 a3 => ?_, fun j w a1 a2 a3 => ?_⟩
        · simp only
          rw [upf_other (fun g => by subst g; rw [hJS] at a2; exact absurd a2 (by simp))]
          exact k1 s' a1 a2
        · simp only
          rw [upf_other (fun g => hJv g.symm)]
          exact k2
        · simp only
          by_cases hjJ : j = J
          · subst hjJ; rw [upf_same]; have := k3 j a1; omega
          · rw [upf_other hjJ]; exact k3 j a1
        · simp only at a3 ⊢
          by_cases hjJ : j = J
          · subst hjJ; rw [upf_same]; omega
          · rw [upf_other hjJ] at a3 ⊢; exact k4 j a1 a2 a3
        · simp only
          rw [upf_other (fun g => hJv g.symm)]
          by_cases hjJ : j = J
          · subst hjJ
            rw [upf_same]
            by_cases hvI : v = I
            · subst hvI
              rw [hs] at a3
              injection a3 with a3
              omega
            · have := k5 j w a1 (by omega) a3; omega
          · rw [upf_other hjJ]
            exact k5 j w a1 (by omega) a3) (fun I y hi ⟨k1, k2, k3, k4, k5⟩ => ⟨k1, k2, k3, k4, fun j w a1 a2 a3 => k5 j w a1 (by omega) a3⟩) n (Nat.le_refl _)
    obtain ⟨k1, k2, k3, k4, k5⟩ := key
    refine ⟨fun s a1 a2 => ?_, fun s j w a1 a2 a3 a4 => ?_, fun s j a1 a2 a3 a4 a5 => ?_⟩
    · by_cases hsv : s = v
      · subst hsv; rw [k2]; exact v2
      · rw [upf_other hsv] at a2
        rw [k1 s a1 a2]
        exact h.act s a1 a2
    · by_cases hsv : s = v
      · subst hsv; exact k5 j w a2 (.inl hv) a4
      · rw [upf_other hsv] at a3
        have b1 := h.rel s j w a1 a2 a3 a4
        have b2 := k1 s a1 a3
        have b3 := k3 j a2
        omega
    · have hjv : j ≠ v := fun g => by subst g; rw [upf_same] at a4; exact absurd a4 (by simp)
      rw [upf_other hjv] at a4
      have b1 := k4 j a2 a4 a5
      by_cases hsv : s = v
      · subst hsv; omega
      · rw [upf_other hsv] at a3
        have b2 := h.low s v a1 hv a3 v1 v2
        have b3 := k1 s a1 a3
        omega
/-- after so many rounds -/
def Stl (d r : Nat → Nat → Int) (n : Nat) (q : Nat → Int) (k : Nat) (c : Nat → Int) : Prop := Fix d r n c ∨ ∃ S, k ≤ cnt S n ∧ Set_ d r n q S c
theorem Stl.zero {d r : Nat → Nat → Int} {n : Nat} {q c : Nat → Int} : Stl d r n q 0 c := .inr ⟨fun _ => false, Nat.zero_le _, fun s _ h => by simp at h, fun s j w _ _ h => by simp at h, fun s j _ _ h => by simp at h⟩
theorem Stl.pas {d r : Nat → Nat → Int} {n k : Nat} {q : Nat → Int} {x : St} (hq : Pot d r n q) (h : Stl d r n q k x.c) : Stl d r n q (k + 1) (pas d r n x n).c := by
  rcases h with h | ⟨S, h1, h2⟩
  · left
    rw [h.same.1]
    exact h
  · rcases h2.pas hq with g | ⟨S', g1, g2⟩
    · left
      rw [g.same.1]
      exact g
    · exact .inr ⟨S', by omega, g2⟩
theorem Stl.all {d r : Nat → Nat → Int} {n k : Nat} {q c : Nat → Int} (h : Stl d r n q k c) (hk : n ≤ k) : Fix d r n c := by
  rcases h with h | ⟨S, h1, h2⟩
  · exact h
  · exact fun i j s hi hj hs _ => h2.rel i j s hi hj (cnt_all n (by omega) i hi) hs
end Go.Proofs.YtngpoamjhngcgaaGreatDoor.Ev

