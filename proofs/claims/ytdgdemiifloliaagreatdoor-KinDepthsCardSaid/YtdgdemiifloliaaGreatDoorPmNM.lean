/- Mathematics of the closures: the phases of 'by way of v', for max (equal depths) and for + (shortest ways). -/
namespace Go.Proofs.YtdgdemiifloliaaGreatDoor.Ev

/-- one phase -/
def ph (o : Int → Int → Int) (v : Nat) (f : Nat → Nat → Int) : Nat → Nat → Int := fun i j => min (f i j) (o (f i v) (f v j))
/-- the first k phases -/
def clo (o : Int → Int → Int) : Nat → (Nat → Nat → Int) → Nat → Nat → Int
  | 0, f => f
  | k + 1, f => ph o k (clo o k f)
/-- a phase that is under way: what comes before (i, j) is done -/
def pt (o : Int → Int → Int) (v : Nat) (f : Nat → Nat → Int) (i j : Nat) : Nat → Nat → Int := fun a b => if a < i ∨ (a = i ∧ b < j) then ph o v f a b else f a b
/-- a phase leaves its own row and column as they are -/
def Keeps (o : Int → Int → Int) (n v : Nat) (f : Nat → Nat → Int) : Prop := ∀ i, i < n → ph o v f i v = f i v ∧ ph o v f v i = f v i

theorem keeps_max {n v : Nat} {f : Nat → Nat → Int} : Keeps max n v f := fun i _ => by simp only [ph]; omega
theorem keeps_add {n v : Nat} {f : Nat → Nat → Int} (h : 0 ≤ f v v) : Keeps (· + ·) n v f := fun i _ => by simp only [ph]; omega

theorem pt_self {o : Int → Int → Int} {v i j : Nat} {f : Nat → Nat → Int} : pt o v f i j i j = f i j := by
  unfold pt
  rw [if_neg (by omega)]
theorem pt_col {o : Int → Int → Int} {n v i j a : Nat} {f : Nat → Nat → Int} (h : Keeps o n v f) (ha : a < n) : pt o v f i j a v = f a v := by
  unfold pt
  split
  · exact (h a ha).1
  · rfl
theorem pt_row {o : Int → Int → Int} {n v i j b : Nat} {f : Nat → Nat → Int} (h : Keeps o n v f) (hb : b < n) : pt o v f i j v b = f v b := by
  unfold pt
  split
  · exact (h b hb).2
  · rfl
/-- one step in place -/
theorem pt_step {o : Int → Int → Int} {n v i j : Nat} {f : Nat → Nat → Int} (h : Keeps o n v f) (hi : i < n) (hj : j < n) :
    min (pt o v f i j i j) (o (pt o v f i j i v) (pt o v f i j v j)) = ph o v f i j := by
  rw [pt_self, pt_col h hi, pt_row h hj]
  rfl
theorem pt_next {o : Int → Int → Int} {v i j a b : Nat} {f : Nat → Nat → Int} : pt o v f i (j + 1) a b = if a = i ∧ b = j then ph o v f i j else pt o v f i j a b := by
  unfold pt
  by_cases h : a = i ∧ b = j
  · obtain ⟨rfl, rfl⟩ := h
    rw [if_pos (by omega), if_pos ⟨rfl, rfl⟩]
  · rw [if_neg h]
    by_cases h2 : a < i ∨ (a = i ∧ b < j)
    · rw [if_pos h2, if_pos (by omega)]
    · rw [if_neg h2, if_neg (by omega)]
theorem pt_down {o : Int → Int → Int} {n v i a b : Nat} {f : Nat → Nat → Int} (hb : b < n) : pt o v f i n a b = pt o v f (i + 1) 0 a b := by
  unfold pt
  by_cases h2 : a < i + 1
  · rw [if_pos (by omega), if_pos (by omega)]
  · rw [if_neg (by omega), if_neg (by omega)]
theorem pt_start {o : Int → Int → Int} {v a b : Nat} {f : Nat → Nat → Int} : pt o v f 0 0 a b = f a b := by
  unfold pt
  rw [if_neg (by omega)]
theorem pt_end {o : Int → Int → Int} {n v a b : Nat} {f : Nat → Nat → Int} (ha : a < n) : pt o v f n 0 a b = ph o v f a b := by
  unfold pt
  rw [if_pos (.inl ha)]

theorem clo_le {o : Int → Int → Int} {f : Nat → Nat → Int} : ∀ {k i j : Nat}, clo o k f i j ≤ f i j
  | 0, _, _ => Int.le_refl _
  | k + 1, i, j => by
    have := @clo_le o f k i j
    simp only [clo, ph]
    omega

/-- for max -/
def Ultra (n : Nat) (f : Nat → Nat → Int) : Prop := ∀ i j v, i < n → j < n → v < n → f i j ≤ max (f i v) (f v j)
theorem ultra_to {n : Nat} {f : Nat → Nat → Int} : ∀ k, k ≤ n → ∀ i j v, i < n → j < n → v < k → clo max k f i j ≤ max (clo max k f i v) (clo max k f v j)
  | 0, _, _, _, _, _, _, h => absurd h (Nat.not_lt_zero _)
  | k + 1, hk, i, j, v, hi, hj, hv => by
    simp only [clo, ph]
    by_cases e : v = k
    · subst e; omega
    · have h1 := ultra_to k (by omega) i j v hi hj (by omega) (f := f)
      have h2 := ultra_to k (by omega) k j v (by omega) hj (by omega) (f := f)
      have h3 := ultra_to k (by omega) i k v hi (by omega) (by omega) (f := f)
      omega
theorem clo_ultra {n : Nat} {f : Nat → Nat → Int} : Ultra n (clo max n f) := fun i j v hi hj hv => ultra_to n (Nat.le_refl _) i j v hi hj hv
theorem clo_mono {n : Nat} {f g : Nat → Nat → Int} (h : ∀ i j, i < n → j < n → f i j ≤ g i j) : ∀ k, k ≤ n → ∀ i j, i < n → j < n → clo max k f i j ≤ clo max k g i j
  | 0, _, i, j, hi, hj => h i j hi hj
  | k + 1, hk, i, j, hi, hj => by
    have h1 := clo_mono h k (by omega) i j hi hj
    have h2 := clo_mono h k (by omega) i k hi (by omega)
    have h3 := clo_mono h k (by omega) k j (by omega) hj
    simp only [clo, ph]
    omega
theorem clo_same {n : Nat} {f : Nat → Nat → Int} (h : Ultra n f) : ∀ k, k ≤ n → ∀ i j, i < n → j < n → clo max k f i j = f i j
  | 0, _, _, _, _, _ => rfl
  | k + 1, hk, i, j, hi, hj => by
    have h1 := clo_same h k (by omega) i j hi hj
    have h2 := clo_same h k (by omega) i k hi (by omega)
    have h3 := clo_same h k (by omega) k j (by omega) hj
    have h4 := h i j k hi hj (by omega)
    simp only [clo, ph]
    omega
theorem clo_congr {o : Int → Int → Int} {n : Nat} {f g : Nat → Nat → Int} (h : ∀ i j, i < n → j < n → f i j = g i j) : ∀ k, k ≤ n → ∀ i j, i < n → j < n → clo o k f i j = clo o k g i j
  | 0, _, i, j, hi, hj => h i j hi hj
  | k + 1, hk, i, j, hi, hj => by
    simp only [clo, ph]
    rw [clo_congr h k (by omega) i j hi hj, clo_congr h k (by omega) i k hi (by omega), clo_congr h k (by omega) k j (by omega) hj]

/-- what a distance table keeps through the phases -/
structure Dist (n : Nat) (b : Int) (f : Nat → Nat → Int) : Prop where
  low : ∀ i j, i < n → j < n → 0 ≤ f i j
  high : ∀ i j, i < n → j < n → f i j ≤ b
  sym : ∀ i j, i < n → j < n → f i j = f j i
  diag : ∀ i, i < n → f i i = 0
theorem Dist.pmax {n k : Nat} {b : Int} {f : Nat → Nat → Int} (d : Dist n b f) (hk : k < n) : Dist n b (ph max k f) where
  low := fun i j hi hj => by have := d.low i j hi hj; have := d.low i k hi hk; simp only [ph]; omega
  high := fun i j hi hj => by have := d.high i j hi hj; simp only [ph]; omega
  sym := fun i j hi hj => by have := d.sym i j hi hj; have := d.sym i k hi hk; have := d.sym k j hk hj; simp only [ph]; omega
  diag := fun i hi => by have := d.diag i hi; have := d.low i k hi hk; simp only [ph]; omega
theorem Dist.padd {n k : Nat} {b : Int} {f : Nat → Nat → Int} (d : Dist n b f) (hk : k < n) : Dist n b (ph (· + ·) k f) where
  low := fun i j hi hj => by have := d.low i j hi hj; have := d.low i k hi hk; have := d.low k j hk hj; simp only [ph]; omega
  high := fun i j hi hj => by have := d.high i j hi hj; simp only [ph]; omega
  sym := fun i j hi hj => by have := d.sym i j hi hj; have := d.sym i k hi hk; have := d.sym k j hk hj; simp only [ph]; omega
  diag := fun i hi => by have := d.diag i hi; have := d.low i k hi hk; have := d.low k i hk hi; simp only [ph]; omega
theorem Dist.clo_max {n : Nat} {b : Int} {f : Nat → Nat → Int} (d : Dist n b f) : ∀ k, k ≤ n → Dist n b (clo max k f)
  | 0, _ => d
  | k + 1, hk => (Dist.clo_max d k (Nat.le_of_succ_le hk)).pmax hk
theorem Dist.clo_add {n : Nat} {b : Int} {f : Nat → Nat → Int} (d : Dist n b f) : ∀ k, k ≤ n → Dist n b (clo (· + ·) k f)
  | 0, _ => d
  | k + 1, hk => (Dist.clo_add d k (Nat.le_of_succ_le hk)).padd hk

/-- for + -/
theorem short_to {n : Nat} {b : Int} {f : Nat → Nat → Int} (d : Dist n b f) : ∀ k, k ≤ n → ∀ i j v, i < n → j < n → v < k → clo (· + ·) k f i j ≤ clo (· + ·) k f i v + clo (· + ·) k f v j
  | 0, _, _, _, _, _, _, h => absurd h (Nat.not_lt_zero _)
  | k + 1, hk, i, j, v, hi, hj, hv => by
    have dk := d.clo_add k (by omega)
    have d0 := dk.diag k (by omega)
    simp only [clo, ph]
    by_cases e : v = k
    · subst e; omega
    · have h1 := short_to d k (by omega) i j v hi hj (by omega)
      have h2 := short_to d k (by omega) k j v (by omega) hj (by omega)
      have h3 := short_to d k (by omega) i k v hi (by omega) (by omega)
      have h4 := dk.low k v (by omega) (by omega)
      have h5 := dk.low v k (by omega) (by omega)
      omega

/-- of equal depths: of three distances the greatest is there twice -/
theorem ultra_three {n : Nat} {f : Nat → Nat → Int} (u : Ultra n f) (s : ∀ i j, i < n → j < n → f i j = f j i) {i j k : Nat} (hi : i < n) (hj : j < n) (hk : k < n) :
    f i j ≤ max (f i k) (f j k) ∧ f i k ≤ max (f i j) (f j k) ∧ f j k ≤ max (f i j) (f i k) := by
  have h1 := u i j k hi hj hk
  have h2 := u i k j hi hk hj
  have h3 := u j k i hj hk hi
  have := s i j hi hj
  have := s k j hk hj
  omega
/-- of equal depths: four points fit a tree -/
theorem four_max {a b c d e g : Int} (h1 : a ≤ max b d ∧ b ≤ max a d ∧ d ≤ max a b) (h2 : a ≤ max c e ∧ c ≤ max a e ∧ e ≤ max a c) (h3 : b ≤ max c g ∧ c ≤ max b g ∧ g ≤ max b c) (h4 : d ≤ max e g ∧ e ≤ max d g ∧ g ≤ max d e) :
    ¬ ((b + e < a + g ∧ c + d < a + g) ∨ (a + g < b + e ∧ c + d < b + e) ∨ (a + g < c + d ∧ b + e < c + d)) := by
  -- a = ij, b = ik, c = il, d = jk, e = jl, g = kl
  rintro (⟨x, y⟩ | ⟨x, y⟩ | ⟨x, y⟩) <;> omega
end Go.Proofs.YtdgdemiifloliaaGreatDoor.Ev
