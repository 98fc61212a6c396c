/- Sets of jobs as numbers; what is gathered over all sets. Mathematics alone. -/
namespace Go.Proofs.YthiodndhokooiaaGreatDoor.Ev

/-- the bits of a that b does not have -/
def an (a b : Nat) : Nat := a ^^^ (a &&& b)
theorem an_tb {a b i : Nat} : (an a b).testBit i = (a.testBit i && !b.testBit i) := by
  unfold an
  rw [Nat.testBit_xor, Nat.testBit_and]
  cases a.testBit i <;> cases b.testBit i <;> rfl
theorem an_zero {a b : Nat} : an a b = 0 ↔ ∀ i, a.testBit i = true → b.testBit i = true := by
  constructor
  · intro h i hi
    have : (an a b).testBit i = false := by rw [h]; exact Nat.zero_testBit i
    rw [an_tb, hi] at this
    simpa using this
  · intro h
    refine Nat.eq_of_testBit_eq fun i => ?_
    rw [an_tb, Nat.zero_testBit]
    cases hi : a.testBit i
    · rfl
    · rw [h i hi]; rfl
theorem or_tb {d j i : Nat} : (d ||| 2 ^ j).testBit i = (d.testBit i || decide (j = i)) := by
  rw [Nat.testBit_or, Nat.testBit_two_pow]
theorem or_inj {d j k : Nat} (hj : d.testBit j = false) (e : d ||| 2 ^ j = d ||| 2 ^ k) : j = k := by
  have h : (d ||| 2 ^ j).testBit j = (d ||| 2 ^ k).testBit j := by rw [e]
  rw [or_tb, or_tb, hj] at h
  have h' := h.symm
  simp only [decide_true, Bool.or_true, Bool.false_or] at h
  exact (of_decide_eq_true h.symm).symm
theorem or_ne {d j : Nat} (hj : d.testBit j = false) : d ||| 2 ^ j ≠ d := by
  intro e
  have h : (d ||| 2 ^ j).testBit j = d.testBit j := by rw [e]
  rw [or_tb, hj] at h
  simp at h
theorem or_gt {d j : Nat} (hj : d.testBit j = false) : d < d ||| 2 ^ j :=
  Nat.lt_of_le_of_ne Nat.left_le_or (Ne.symm (or_ne hj))
theorem or_lt {d j n : Nat} (hd : d < 2 ^ n) (hj : j < n) : d ||| 2 ^ j < 2 ^ n :=
  Nat.or_lt_two_pow hd (Nat.pow_lt_pow_right (by omega) hj)
/-- without one -/
theorem an_two {S j i : Nat} : (an S (2 ^ j)).testBit i = (S.testBit i && !decide (j = i)) := by
  rw [an_tb, Nat.testBit_two_pow]
theorem an_or {d j : Nat} (hj : d.testBit j = false) : an (d ||| 2 ^ j) (2 ^ j) = d := by
  refine Nat.eq_of_testBit_eq fun i => ?_
  rw [an_two, or_tb]
  by_cases h : j = i
  · subst h; rw [hj]; simp
  · simp [h]
theorem or_an {S j : Nat} (hj : S.testBit j = true) : an S (2 ^ j) ||| 2 ^ j = S := by
  refine Nat.eq_of_testBit_eq fun i => ?_
  rw [or_tb, an_two]
  by_cases h : j = i
  · subst h; rw [hj]; simp
  · simp [h]
theorem an_self {S j : Nat} : (an S (2 ^ j)).testBit j = false := by rw [an_two]; simp
theorem an_lt {S j : Nat} (hj : S.testBit j = true) : an S (2 ^ j) < S := by
  have := or_gt (d := an S (2 ^ j)) (j := j) an_self
  rwa [or_an hj] at this

/-- the jobs that can be done next -/
def rdy (bf : Nat → Nat) (n S : Nat) : List Nat := (List.range n).filter fun j => !S.testBit j && an (bf j) S == 0
theorem mem_rdy {bf : Nat → Nat} {n S j : Nat} : j ∈ rdy bf n S ↔ j < n ∧ S.testBit j = false ∧ an (bf j) S = 0 := by
  simp [rdy]
theorem rdy_nodup {bf : Nat → Nat} {n S : Nat} : (rdy bf n S).Nodup := List.Nodup.sublist List.filter_sublist List.nodup_range
theorem rdy_le {bf : Nat → Nat} {n S : Nat} : (rdy bf n S).length ≤ n := by
  have := List.length_filter_le (fun j => !S.testBit j && an (bf j) S == 0) (List.range n)
  rw [List.length_range] at this
  exact this

section
variable {T : Type} (w : T → Nat → T) (jn : T → T → T) (n : Nat) (bf : Nat → Nat)

def gup (f : Nat → Option T) (k : Nat) (v : Option T) : Nat → Option T := fun x => if x = k then v else f x
def comb (o : Option T) (x : T) : T := match o with
  | some y => jn y x
  | none => x
def one (here : T) (d : Nat) (f : Nat → Option T) (j : Nat) : Nat → Option T := gup f (d ||| 2 ^ j) (some (comb jn (f (d ||| 2 ^ j)) (w here j)))
def proc (f : Nat → Option T) (d : Nat) : Nat → Option T := match f d with
  | none => f
  | some here => gup ((rdy bf n d).foldl (one w jn here d) f) d none
def gath (z : T) : Nat → Nat → Option T
  | 0 => gup (fun _ => none) 0 (some z)
  | d + 1 => proc w jn n bf (gath z d) d

variable {w jn n bf} {z : T}
theorem gup_same {f : Nat → Option T} {k : Nat} {v : Option T} : gup f k v k = v := by simp [gup]
theorem gup_ne {f : Nat → Option T} {k x : Nat} {v : Option T} (h : x ≠ k) : gup f k v x = f x := by simp [gup, h]
theorem fold_miss {here : T} {d S : Nat} : ∀ (L : List Nat) (f : Nat → Option T), (∀ k ∈ L, S ≠ d ||| 2 ^ k) → L.foldl (one w jn here d) f S = f S
  | [], _, _ => rfl
  | k :: L, f, h => by
    rw [List.foldl_cons, fold_miss L _ fun j hj => h j (List.mem_cons_of_mem _ hj)]
    exact gup_ne (h k List.mem_cons_self)
theorem fold_hit {here : T} {d j : Nat} : ∀ (L : List Nat) (f : Nat → Option T), L.Nodup → (∀ k ∈ L, d.testBit k = false) → j ∈ L → L.foldl (one w jn here d) f (d ||| 2 ^ j) = some (comb jn (f (d ||| 2 ^ j)) (w here j))
  | [], _, _, _, h => by cases h
  | k :: L, f, hn, hb, hj => by
    rw [List.nodup_cons] at hn
    rw [List.foldl_cons]
    by_cases e : j = k
    · subst e
      rw [fold_miss L _ fun i hi he => hn.1 (by rw [or_inj (hb j List.mem_cons_self) he]; exact hi)]
      exact gup_same
    · have hj' : j ∈ L := by
        rcases List.mem_cons.1 hj with h | h
        · exact absurd h e
        · exact h
      rw [fold_hit L _ hn.2 (fun i hi => hb i (List.mem_cons_of_mem _ hi)) hj']
      have : one w jn here d f k (d ||| 2 ^ j) = f (d ||| 2 ^ j) := gup_ne fun he => e (or_inj (hb j hj) he)
      rw [this]
theorem gath_hit {d j : Nat} {h : T} (hd : gath w jn n bf z d d = some h) (hj : j ∈ rdy bf n d) : gath w jn n bf z (d + 1) (d ||| 2 ^ j) = some (comb jn (gath w jn n bf z d (d ||| 2 ^ j)) (w h j)) := by
  show proc w jn n bf (gath w jn n bf z d) d _ = _
  unfold proc
  rw [hd]
  simp only
  rw [gup_ne (or_ne (mem_rdy.1 hj).2.1)]
  exact fold_hit _ _ rdy_nodup (fun k hk => (mem_rdy.1 hk).2.1) hj
theorem gath_miss {d S : Nat} (hS : S ≠ d) (h : gath w jn n bf z d d = none ∨ ∀ j ∈ rdy bf n d, S ≠ d ||| 2 ^ j) : gath w jn n bf z (d + 1) S = gath w jn n bf z d S := by
  show proc w jn n bf (gath w jn n bf z d) d _ = _
  unfold proc
  cases hd : gath w jn n bf z d d with
  | none => rfl
  | some x =>
    simp only
    rw [gup_ne hS]
    rcases h with h | h
    · rw [hd] at h; cases h
    · exact fold_miss _ _ h
theorem gath_self {d : Nat} : gath w jn n bf z (d + 1) d = none := by
  show proc w jn n bf (gath w jn n bf z d) d _ = _
  unfold proc
  cases hd : gath w jn n bf z d d with
  | none => exact hd
  | some x => exact gup_same
theorem gath_lt {S : Nat} : ∀ {d : Nat}, S < d → gath w jn n bf z d S = none
  | 0, h => by omega
  | d + 1, h => by
    by_cases e : S = d
    · subst e; exact gath_self
    · rw [gath_miss e (.inr fun j hj he => by
        have := or_gt (mem_rdy.1 hj).2.1
        omega)]
      exact gath_lt (by omega)
theorem gath_zero {S : Nat} : gath w jn n bf z 0 S = if S = 0 then some z else none := rfl
end

/-- an order of the jobs of a set -/
inductive Ord (bf : Nat → Nat) (n : Nat) : List Nat → Nat → Prop
  | nil : Ord bf n [] 0
  | snoc {l : List Nat} {S j : Nat} : Ord bf n l S → j ∈ rdy bf n S → Ord bf n (l ++ [j]) (S ||| 2 ^ j)

section
variable {bf : Nat → Nat} {n : Nat}
theorem Ord.lt {l : List Nat} {S : Nat} (h : Ord bf n l S) : S < 2 ^ n := by
  induction h with
  | nil => exact Nat.two_pow_pos n
  | snoc _ hj ih => exact or_lt ih (mem_rdy.1 hj).1
theorem Ord.mem {l : List Nat} {S : Nat} (h : Ord bf n l S) : ∀ i, i ∈ l ↔ S.testBit i = true := by
  induction h with
  | nil => intro i; simp
  | snoc _ hj ih =>
    intro i
    rw [List.mem_append, ih i, or_tb, List.mem_singleton, Bool.or_eq_true, decide_eq_true_eq]
    constructor <;> (rintro (h | h); exact .inl h; exact .inr h.symm)
theorem Ord.nodup {l : List Nat} {S : Nat} (h : Ord bf n l S) : l.Nodup := by
  induction h with
  | nil => exact List.nodup_nil
  | @snoc l S j ho hj ih =>
    rw [List.nodup_append]
    refine ⟨ih, by simp, ?_⟩
    intro a ha b hb
    simp at hb
    subst hb
    intro e
    subst e
    have := (ho.mem a).1 ha
    rw [(mem_rdy.1 hj).2.1] at this
    cases this
theorem Ord.cases_snoc {l : List Nat} {S : Nat} (h : Ord bf n l S) : (l = [] ∧ S = 0) ∨ ∃ l' P j, l = l' ++ [j] ∧ S = P ||| 2 ^ j ∧ Ord bf n l' P ∧ j ∈ rdy bf n P := by
  cases h with
  | nil => exact .inl ⟨rfl, rfl⟩
  | snoc h hj => exact .inr ⟨_, _, _, rfl, rfl, h, hj⟩

/-- what is gathered, by a measure of orders: the least of all -/
structure Best (le : List Nat → List Nat → Prop) : Prop where
  refl : ∀ a, le a a
  trans : ∀ a b c, le a b → le b c → le a c
  total : ∀ a b, le a b ∨ le b a
  snoc : ∀ a b j, a.Perm b → le a b → le (a ++ [j]) (b ++ [j])

theorem Ord.perm {l m : List Nat} {S : Nat} (h : Ord bf n l S) (h' : Ord bf n m S) : l.Perm m :=
  (List.perm_ext_iff_of_nodup h.nodup h'.nodup).2 fun a => by rw [h.mem, h'.mem]

variable {le : List Nat → List Nat → Prop} {jn : List Nat → List Nat → List Nat}
theorem gath_best (B : Best le) (hjn : ∀ a b, (jn a b = a ∧ le a b) ∨ (jn a b = b ∧ le b a)) : ∀ (d S : Nat), d ≤ S →
    (∀ l, gath (fun l j => l ++ [j]) jn n bf [] d S = some l → Ord bf n l S) ∧
    (∀ l P j, Ord bf n l P → j ∈ rdy bf n P → P ||| 2 ^ j = S → P < d → ∃ m, gath (fun l j => l ++ [j]) jn n bf [] d S = some m ∧ le m (l ++ [j])) ∧ (S = 0 → gath (fun l j => l ++ [j]) jn n bf [] d S = some [])
  | 0, S, _ => by
    rw [gath_zero]
    refine ⟨fun l hl => ?_, fun l P j _ _ _ h => by omega, fun h => by rw [if_pos h]⟩
    split at hl
    · cases hl; subst S; exact .nil
    · cases hl
  | d + 1, S, hS => by
    obtain ⟨i1, i2, i3⟩ := gath_best B hjn d S (by omega)
    obtain ⟨k1, k2, k3⟩ := gath_best B hjn d d (Nat.le_refl _)
    have hne : S ≠ d := by omega
    have min : ∀ l, Ord bf n l d → ∃ m, gath (fun l j => l ++ [j]) jn n bf [] d d = some m ∧ le m l := by
      intro l hl
      rcases hl.cases_snoc with ⟨rfl, h0⟩ | ⟨l', P, j, rfl, hP, ho, hj⟩
      · exact ⟨[], k3 h0, B.refl _⟩
      · exact k2 l' P j ho hj hP.symm (by rw [hP]; exact or_gt (mem_rdy.1 hj).2.1)
    by_cases hit : ∃ j, j ∈ rdy bf n d ∧ S = d ||| 2 ^ j
    · obtain ⟨j, hj, rfl⟩ := hit
      cases hd : gath (fun l j => l ++ [j]) jn n bf [] d d with
      | none =>
        rw [gath_miss hne (.inl hd)]
        refine ⟨i1, fun l P j' ho hj' he hP => ?_, fun h => by omega⟩
        by_cases e : P = d
        · subst e
          obtain ⟨m, hm, _⟩ := min l ho
          rw [hd] at hm; cases hm
        · exact i2 l P j' ho hj' he (by omega)
      | some h =>
        rw [gath_hit hd hj]
        have hh := k1 h hd
        refine ⟨fun l hl => ?_, fun l P j' ho hj' he hP => ?_, fun h => by omega⟩
        · cases hl
          cases hg : gath (fun l j => l ++ [j]) jn n bf [] d (d ||| 2 ^ j) with
          | none => exact .snoc hh hj
          | some y =>
            rcases hjn y (h ++ [j]) with ⟨e, _⟩ | ⟨e, _⟩
            · simp only [comb, e]; exact i1 y hg
            · simp only [comb, e]; exact .snoc hh hj
        · refine ⟨_, rfl, ?_⟩
          have low : ∀ y, gath (fun l j => l ++ [j]) jn n bf [] d (d ||| 2 ^ j) = some y → le (comb jn (some y) (h ++ [j])) y := fun y hy => by
            rcases hjn y (h ++ [j]) with ⟨e, _⟩ | ⟨e, h2⟩
            · simp only [comb, e]; exact B.refl _
            · simp only [comb, e]; exact h2
          have low2 : le (comb jn (gath (fun l j => l ++ [j]) jn n bf [] d (d ||| 2 ^ j)) (h ++ [j])) (h ++ [j]) := by
            cases hg : gath (fun l j => l ++ [j]) jn n bf [] d (d ||| 2 ^ j) with
            | none => exact B.refl _
            | some y =>
              rcases hjn y (h ++ [j]) with ⟨e, h2⟩ | ⟨e, _⟩
              · simp only [comb, e]; exact h2
              · simp only [comb, e]; exact B.refl _
          by_cases e : P = d
          · subst e
            obtain rfl := or_inj (mem_rdy.1 hj').2.1 he
            obtain ⟨m, hm, hle⟩ := min l ho
            rw [hd] at hm; cases hm
            exact B.trans _ _ _ low2 (B.snoc _ _ _ (hh.perm ho) hle)
          · obtain ⟨m, hm, hle⟩ := i2 l P j' ho hj' he (by omega)
            rw [hm]
            exact B.trans _ _ _ (low m hm) hle
    · rw [gath_miss hne (.inr fun j hj he => hit ⟨j, hj, he⟩)]
      refine ⟨i1, fun l P j' ho hj' he hP => ?_, fun h => by omega⟩
      by_cases e : P = d
      · subst e; exact absurd ⟨j', hj', he.symm⟩ hit
      · exact i2 l P j' ho hj' he (by omega)
theorem gath_least (B : Best le) (hjn : ∀ a b, (jn a b = a ∧ le a b) ∨ (jn a b = b ∧ le b a)) {S : Nat} {l : List Nat} (hl : Ord bf n l S) :
    ∃ m, gath (fun l j => l ++ [j]) jn n bf [] S S = some m ∧ Ord bf n m S ∧ ∀ l, Ord bf n l S → le m l := by
  obtain ⟨k1, k2, k3⟩ := gath_best (bf := bf) (n := n) B hjn S S (Nat.le_refl _)
  have min : ∀ l, Ord bf n l S → ∃ m, gath (fun l j => l ++ [j]) jn n bf [] S S = some m ∧ le m l := by
    intro l hl
    rcases hl.cases_snoc with ⟨rfl, h0⟩ | ⟨l', P, j, rfl, hP, ho, hj⟩
    · exact ⟨[], k3 h0, B.refl _⟩
    · exact k2 l' P j ho hj hP.symm (by rw [hP]; exact or_gt (mem_rdy.1 hj).2.1)
  obtain ⟨m, hm, _⟩ := min l hl
  refine ⟨m, hm, k1 m hm, fun l' hl' => ?_⟩
  obtain ⟨m', hm', hle⟩ := min l' hl'
  rw [hm] at hm'; cases hm'
  exact hle
end
end Go.Proofs.YthiodndhokooiaaGreatDoor.Ev

