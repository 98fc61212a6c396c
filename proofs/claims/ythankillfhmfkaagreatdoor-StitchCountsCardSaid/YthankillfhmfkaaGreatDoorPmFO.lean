/- Rows of steps, counted by their last and by their first one. -/
import Derived.Test.YthankillfhmfkaaGreatDoorPmNN
import Derived.Test.YthankillfhmfkaaGreatDoorPmT1
set_option linter.unusedVariables false
namespace Go.Lm
section sums
variable {α β : Type}
def sm (l : List α) (f : α → Int) : Int := (l.map f).sum
theorem sm_nil {f : α → Int} : sm [] f = 0 := rfl
theorem sm_cons {a : α} {l : List α} {f : α → Int} : sm (a :: l) f = f a + sm l f := by simp [sm]
theorem sm_append {l m : List α} {f : α → Int} : sm (l ++ m) f = sm l f + sm m f := by simp [sm]
theorem sm_congr {l : List α} {f g : α → Int} (h : ∀ a ∈ l, f a = g a) : sm l f = sm l g := by
  induction l with
  | nil => rfl
  | cons a l ih => rw [sm_cons, sm_cons, h a (List.mem_cons_self ..), ih fun x hx => h x (List.mem_cons_of_mem _ hx)]
theorem sm_zero {l : List α} : sm l (fun _ => 0) = 0 := by
  induction l with
  | nil => rfl
  | cons a l ih => rw [sm_cons, ih]; rfl
theorem sm_add {l : List α} {f g : α → Int} : sm l (fun a => f a + g a) = sm l f + sm l g := by
  induction l with
  | nil => rfl
  | cons a l ih => rw [sm_cons, sm_cons, sm_cons, ih]; omega
theorem sm_mul {l : List α} {f : α → Int} {c : Int} : sm l (fun a => c * f a) = c * sm l f := by
  induction l with
  | nil => simp [sm_nil]
  | cons a l ih => rw [sm_cons, sm_cons, ih, Int.mul_add]
theorem sm_mulr {l : List α} {f : α → Int} {c : Int} : sm l (fun a => f a * c) = sm l f * c := by
  rw [Int.mul_comm, ← sm_mul]
  exact sm_congr fun a _ => Int.mul_comm _ _
theorem sm_comm {l : List α} {m : List β} {f : α → β → Int} : sm l (fun a => sm m fun b => f a b) = sm m fun b => sm l fun a => f a b := by
  induction l with
  | nil => simp only [sm_nil, sm_zero]
  | cons a l ih => simp only [sm_cons, ih, sm_add]
theorem sm_map {l : List α} {g : α → β} {f : β → Int} : sm (l.map g) f = sm l fun a => f (g a) := by simp [sm, List.map_map, Function.comp_def]
theorem sm_perm {l m : List α} {f : α → Int} (h : l.Perm m) : sm l f = sm m f := by
  induction h with
  | nil => rfl
  | cons a _ ih => rw [sm_cons, sm_cons, ih]
  | swap a b l => simp only [sm_cons]; omega
  | trans _ _ h1 h2 => rw [h1, h2]
theorem sm_filter {l : List α} {p : α → Bool} {f : α → Int} : sm (l.filter p) f = sm l fun a => if p a then f a else 0 := by
  induction l with
  | nil => rfl
  | cons a l ih =>
    rw [List.filter_cons, sm_cons]
    by_cases h : p a = true
    · rw [if_pos h, if_pos h, sm_cons, ih]
    · rw [if_neg h, if_neg h, ih]; omega
theorem sm_range_succ {n : Nat} {f : Nat → Int} : sm (List.range (n + 1)) f = sm (List.range n) f + f n := by
  rw [List.range_succ, sm_append, sm_cons, sm_nil]; omega
theorem sm_range_cut {f : Nat → Int} {m : Nat} : ∀ {n : Nat}, m ≤ n → (∀ i, m ≤ i → i < n → f i = 0) → sm (List.range n) f = sm (List.range m) f
  | n, h, h0 => by
    induction n with
    | zero => obtain rfl : m = 0 := by omega
              rfl
    | succ n ih =>
      by_cases e : m = n + 1
      · rw [e]
      · rw [sm_range_succ, ih (by omega) fun i h1 h2 => h0 i h1 (by omega), h0 n (by omega) (by omega)]; omega
theorem sm_range_shift {f : Nat → Int} {w : Nat} : ∀ {n : Nat}, w ≤ n → (∀ i, i < w → f i = 0) → sm (List.range n) f = sm (List.range (n - w)) fun i => f (i + w)
  | n, h, h0 => by
    induction n with
    | zero => obtain rfl : w = 0 := by omega
              rfl
    | succ n ih =>
      by_cases e : w = n + 1
      · subst e
        rw [Nat.sub_self, sm_range_cut (m := 0) (by omega) fun i _ hi => h0 i hi]; rfl
      · rw [sm_range_succ, ih (by omega), show n + 1 - w = (n - w) + 1 by omega, sm_range_succ, show n - w + w = n by omega]
theorem sm_one {n k : Nat} {f : Nat → Int} (hk : k < n) : sm (List.range n) (fun i => if i = k then f i else 0) = f k := by
  rw [sm_range_cut (m := k + 1) (by omega) fun i h1 _ => if_neg (by omega), sm_range_succ, if_pos rfl, sm_range_cut (m := 0) (by omega) fun i _ h2 => if_neg (by omega)]
  show 0 + f k = f k
  omega
end sums
section
variable {α : Type} (Vs : List α) (w : α → Nat) (A : α → α → Bool)
def iv (b : Bool) : Int := if b then 1 else 0
def Es (m : Nat) (V : α) : Int := iv (decide (w V = m))
def Ls (F : Nat → α → Int) (m : Nat) (V : α) : Int := if w V ≤ m then sm Vs fun U => iv (A U V) * F (m - w V) U else 0
def Rs (G : Nat → α → Int) (m : Nat) (V : α) : Int := if w V ≤ m then sm Vs fun U => iv (A V U) * G (m - w V) U else 0
def prs2 (F G : Nat → α → Int) (m : Nat) : Int := sm (List.range (m + 1)) fun a => sm Vs fun U => sm Vs fun V => iv (A U V) * F a U * G (m - a) V
variable {Vs w A} {F G F' G' : Nat → α → Int}
theorem prs2_addr {m : Nat} : prs2 Vs A F (fun a V => G a V + G' a V) m = prs2 Vs A F G m + prs2 Vs A F G' m := by
  simp only [prs2, Int.mul_add, sm_add]
theorem prs2_addl {m : Nat} : prs2 Vs A (fun a V => F a V + F' a V) G m = prs2 Vs A F G m + prs2 Vs A F' G m := by
  simp only [prs2, Int.mul_add, Int.add_mul, sm_add]
theorem prs2_congr {m : Nat} (h1 : ∀ a, ∀ V ∈ Vs, F a V = F' a V) (h2 : ∀ a, ∀ V ∈ Vs, G a V = G' a V) : prs2 Vs A F G m = prs2 Vs A F' G' m := by
  refine sm_congr fun a _ => sm_congr fun U hU => sm_congr fun V hV => ?_
  rw [h1 _ U hU, h2 _ V hV]
theorem shift_ab {f : Nat → Nat → Int} {v m : Nat} : sm (List.range (m + 1)) (fun a => if v ≤ a then f (a - v) (m - a) else 0) = sm (List.range (m + 1)) (fun a => if v ≤ m - a then f a (m - a - v) else 0) := by
  by_cases hv : v ≤ m
  · rw [sm_range_shift (w := v) (by omega) fun i hi => if_neg (by omega), sm_range_cut (m := m + 1 - v) (n := m + 1) (by omega) fun i h1 h2 => if_neg (by omega)]
    refine sm_congr fun a ha => ?_
    rw [List.mem_range] at ha
    rw [if_pos (by omega), if_pos (by omega), show a + v - v = a by omega, show m - (a + v) = m - a - v by omega]
  · rw [sm_congr (g := fun _ => 0) fun a ha => if_neg (by rw [List.mem_range] at ha; omega), sm_congr (f := fun a => if v ≤ m - a then f a (m - a - v) else 0) (g := fun _ => 0) fun a ha => if_neg (by omega)]
theorem prs2_mid {m : Nat} : prs2 Vs A (Ls Vs w A F) G m = prs2 Vs A F (Rs Vs w A G) m := by
  have e1 : prs2 Vs A (Ls Vs w A F) G m = sm Vs fun V => sm (List.range (m + 1)) fun a => if w V ≤ a then (fun x y => sm Vs fun U => sm Vs fun X => iv (A U V) * F x U * (iv (A V X) * G y X)) (a - w V) (m - a) else 0 := by
    rw [prs2, sm_comm]
    refine sm_congr fun V hV => sm_congr fun a ha => ?_
    simp only [Ls]
    by_cases h : w V ≤ a
    · simp only [if_pos h]
      rw [sm_comm]
      refine sm_congr fun X hX => ?_
      rw [← sm_mul, ← sm_mulr]
      refine sm_congr fun U hU => ?_
      grind
    · simp only [if_neg h]
      exact (sm_congr (g := fun _ => 0) fun X hX => by simp).trans sm_zero
  have e2 : prs2 Vs A F (Rs Vs w A G) m = sm Vs fun V => sm (List.range (m + 1)) fun a => if w V ≤ m - a then (fun x y => sm Vs fun U => sm Vs fun X => iv (A U V) * F x U * (iv (A V X) * G y X)) a (m - a - w V) else 0 := by
    rw [prs2]
    rw [sm_congr (g := fun a => sm Vs fun V => sm Vs fun U => iv (A U V) * F a U * Rs Vs w A G (m - a) V) fun a _ => sm_comm, sm_comm]
    refine sm_congr fun V hV => sm_congr fun a ha => ?_
    simp only [Rs]
    by_cases h : w V ≤ m - a
    · simp only [if_pos h]
      refine sm_congr fun U hU => ?_
      rw [← sm_mul]
    · simp only [if_neg h]
      exact (sm_congr (g := fun _ => 0) fun X hX => by simp).trans sm_zero
  rw [e1, e2]
  exact sm_congr fun V _ => shift_ab (f := fun x y => sm Vs fun U => sm Vs fun X => iv (A U V) * F x U * (iv (A V X) * G y X))
theorem prs2_es {m : Nat} : prs2 Vs A F (Es w) m = sm Vs (Ls Vs w A F m) := by
  rw [prs2, sm_congr (g := fun a => sm Vs fun V => sm Vs fun U => iv (A U V) * F a U * Es w (m - a) V) fun a _ => sm_comm, sm_comm]
  refine sm_congr fun V hV => ?_
  rw [sm_comm, Ls]
  by_cases h : w V ≤ m
  · rw [if_pos h]
    refine sm_congr fun U hU => ?_
    have e : sm (List.range (m + 1)) (fun a => iv (A U V) * F a U * Es w (m - a) V) = sm (List.range (m + 1)) (fun a => if a = m - w V then iv (A U V) * F a U else 0) := by
      refine sm_congr fun a ha => ?_
      rw [List.mem_range] at ha
      simp only [Es, iv]
      by_cases h2 : a = m - w V
      · rw [if_pos h2]; simp [show w V = m - a by omega]
      · rw [if_neg h2]; simp [show w V ≠ m - a by omega]
    rw [e, sm_one (by omega)]
  · rw [if_neg h]
    refine (sm_congr (g := fun _ => 0) fun U hU => (sm_congr (g := fun _ => 0) fun a ha => ?_).trans sm_zero).trans sm_zero
    simp [Es, iv, show w V ≠ m - a by omega]
theorem prs2_se {m : Nat} : prs2 Vs A (Es w) G m = sm Vs (Rs Vs w A G m) := by
  rw [prs2, sm_comm]
  refine sm_congr fun V hV => ?_
  rw [sm_comm, Rs]
  by_cases h : w V ≤ m
  · rw [if_pos h]
    refine sm_congr fun U hU => ?_
    have e : sm (List.range (m + 1)) (fun a => iv (A V U) * Es w a V * G (m - a) U) = sm (List.range (m + 1)) (fun a => if a = w V then iv (A V U) * G (m - a) U else 0) := by
      refine sm_congr fun a ha => ?_
      simp only [Es, iv]
      by_cases h2 : a = w V
      · rw [if_pos h2]; simp [h2]
      · rw [if_neg h2]; simp [Ne.symm h2]
    rw [e, sm_one (by omega)]
  · rw [if_neg h]
    refine (sm_congr (g := fun _ => 0) fun U hU => (sm_congr (g := fun _ => 0) fun a ha => ?_).trans sm_zero).trans sm_zero
    rw [List.mem_range] at ha
    simp [Es, iv, show w V ≠ a by omega]
theorem ends_starts (hF : ∀ m, ∀ V ∈ Vs, F m V = Es w m V + Ls Vs w A F m V) (hG : ∀ m, ∀ V ∈ Vs, G m V = Es w m V + Rs Vs w A G m V) (m : Nat) : sm Vs (F m) = sm Vs (G m) := by
  have h1 : prs2 Vs A F G m = prs2 Vs A F (Es w) m + prs2 Vs A F (Rs Vs w A G) m := by
    rw [← prs2_addr]; exact prs2_congr (fun _ _ _ => rfl) hG
  have h2 : prs2 Vs A F G m = prs2 Vs A (Es w) G m + prs2 Vs A (Ls Vs w A F) G m := by
    rw [← prs2_addl]; exact prs2_congr hF (fun _ _ _ => rfl)
  have h3 := prs2_mid (Vs := Vs) (w := w) (A := A) (F := F) (G := G) (m := m)
  have h4 : prs2 Vs A F (Es w) m = prs2 Vs A (Es w) G m := by omega
  rw [prs2_es, prs2_se] at h4
  rw [sm_congr (hF m), sm_congr (hG m), sm_add, sm_add, h4]
end
end Go.Lm
namespace Go.Lm
def sub (X Y : Nat) : Bool := decide (X &&& Y = X)
theorem sub_iff {X Y : Nat} : sub X Y = true ↔ ∀ i, X.testBit i = true → Y.testBit i = true := by
  rw [sub, decide_eq_true_eq]
  constructor
  · intro h i hi
    have := congrArg (fun z => z.testBit i) h
    simp only [Nat.testBit_and, hi, Bool.true_and] at this
    exact this
  · intro h
    refine Nat.eq_of_testBit_eq fun i => ?_
    rw [Nat.testBit_and]
    cases hx : X.testBit i with
    | false => rfl
    | true => rw [h i hx]; rfl
theorem and_zero_iff {X Y : Nat} : X &&& Y = 0 ↔ ∀ i, X.testBit i = true → Y.testBit i = false := by
  constructor
  · intro h i hi
    have := congrArg (fun z => z.testBit i) h
    simpa only [Nat.testBit_and, hi, Bool.true_and, Nat.zero_testBit] using this
  · intro h
    refine Nat.eq_of_testBit_eq fun i => ?_
    rw [Nat.testBit_and, Nat.zero_testBit]
    cases hx : X.testBit i with
    | false => rfl
    | true => rw [h i hx]; rfl
def sgn (X : Nat) : Int := if pop X % 2 = 0 then 1 else -1
theorem sub_sums : ((List.range 64).all fun Z => decide (sm (List.range 64) (fun X => iv (sub X Z) * sgn X) = iv (decide (Z = 0)))) = true := by decide +kernel
theorem pop_or : ((List.range 64).all fun X => (List.range 64).all fun Y => !decide (X &&& Y = 0) || decide (pop (X ||| Y) = pop X + pop Y)) = true := by decide +kernel
theorem sub_sum {Z : Nat} (h : Z < 64) : sm (List.range 64) (fun X => iv (sub X Z) * sgn X) = iv (decide (Z = 0)) :=
  of_decide_eq_true (List.all_eq_true.1 sub_sums Z (List.mem_range.2 h))
theorem pop_disj {X Y : Nat} (hx : X < 64) (hy : Y < 64) (h : X &&& Y = 0) : pop (X ||| Y) = pop X + pop Y := by
  have := List.all_eq_true.1 (List.all_eq_true.1 pop_or X (List.mem_range.2 hx)) Y (List.mem_range.2 hy)
  simpa [h] using this
theorem or_lt {X Y : Nat} (hx : X < 64) (hy : Y < 64) : X ||| Y < 64 := Nat.or_lt_two_pow (n := 6) hx hy
theorem xor_lt {X Y : Nat} (hx : X < 64) (hy : Y < 64) : X ^^^ Y < 64 := Nat.xor_lt_two_pow (n := 6) hx hy
theorem and_lt {X Y : Nat} (hx : X < 64) : X &&& Y < 64 := Nat.lt_of_le_of_lt Nat.and_le_left hx
theorem tb_big {X i : Nat} (hx : X < 64) (hi : 6 ≤ i) : X.testBit i = false := Nat.testBit_lt_two_pow (Nat.lt_of_lt_of_le hx (Nat.pow_le_pow_right (n := 2) (i := 6) (by omega) hi))
theorem perm_or {X : Nat} (hX : X < 64) : (((List.range 64).filter fun U => decide (U &&& X = 0)).map fun U => U ||| X).Perm ((List.range 64).filter fun Y => sub X Y) := by
  have n1 : (((List.range 64).filter fun U => decide (U &&& X = 0)).map fun U => U ||| X).Nodup := by
    rw [List.Nodup, List.pairwise_map]
    refine (List.Pairwise.and_mem.1 (List.Pairwise.filter _ List.nodup_range)).imp ?_
    rintro a b ⟨ha, hb, hne⟩ e
    refine hne ?_
    have ha := (List.mem_filter.1 ha).2
    have hb := (List.mem_filter.1 hb).2
    rw [decide_eq_true_eq, and_zero_iff] at ha hb
    refine Nat.eq_of_testBit_eq fun i => ?_
    have e2 := congrArg (fun z => z.testBit i) e
    simp only [Nat.testBit_or] at e2
    have h1 := ha i; have h2 := hb i
    cases h3 : a.testBit i <;> cases h4 : b.testBit i <;> cases h5 : X.testBit i <;> simp_all
  have n2 : ((List.range 64).filter fun Y => sub X Y).Nodup := List.Pairwise.filter _ List.nodup_range
  refine (List.perm_ext_iff_of_nodup n1 n2).2 fun Y => ?_
  rw [List.mem_map, List.mem_filter, List.mem_range]
  constructor
  · rintro ⟨U, hU, rfl⟩
    rw [List.mem_filter, List.mem_range] at hU
    refine ⟨or_lt hU.1 hX, sub_iff.2 fun i hi => ?_⟩
    rw [Nat.testBit_or, hi, Bool.or_true]
  · rintro ⟨hY, hs⟩
    rw [sub_iff] at hs
    refine ⟨Y ^^^ X, List.mem_filter.2 ⟨List.mem_range.2 (xor_lt hY hX), ?_⟩, ?_⟩
    · rw [decide_eq_true_eq, and_zero_iff]
      intro i hi
      have := hs i
      rw [Nat.testBit_xor] at hi
      cases h3 : X.testBit i with
      | false => rfl
      | true => rw [this h3, h3] at hi; cases hi
    · refine Nat.eq_of_testBit_eq fun i => ?_
      rw [Nat.testBit_or, Nat.testBit_xor]
      have := hs i
      cases h3 : X.testBit i <;> cases h4 : Y.testBit i <;> simp_all
theorem iv_and {a b : Bool} : iv (a && b) = iv a * iv b := by cases a <;> cases b <;> rfl
theorem iv_true {a : Bool} (h : a = true) : iv a = 1 := by rw [h]; rfl
theorem iv_false {a : Bool} (h : a = false) : iv a = 0 := by rw [h]; rfl
theorem sum_or {X : Nat} (hX : X < 64) {f : Nat → Int} : sm (List.range 64) (fun U => iv (decide (U &&& X = 0)) * f (U ||| X)) = sm (List.range 64) (fun Y => iv (sub X Y) * f Y) := by
  have h := sm_perm (f := f) (perm_or hX)
  rw [sm_map, sm_filter, sm_filter] at h
  refine Eq.trans (sm_congr fun U _ => ?_) (h.trans (sm_congr fun Y _ => ?_))
  · cases decide (U &&& X = 0) <;> simp [iv]
  · cases sub X Y <;> simp [iv]
section main
structure Com (C : Nat → Bool) (J : Nat → Nat) : Prop where
  zero : C 0 = true
  down : ∀ X Y, X < 64 → Y < 64 → sub X Y = true → C Y = true → C X = true
  jlt : ∀ U, U < 64 → J U < 64
  jdis : ∀ U, U < 64 → U &&& J U = 0
  join : ∀ U X, U < 64 → X < 64 → U &&& X = 0 → (C U && C X && sub X (J U)) = C (U ||| X)
variable {C : Nat → Bool} {J : Nat → Nat}
def aft (J : Nat → Nat) (V U : Nat) : Bool := decide (U &&& J V = 0)
def stps (C : Nat → Bool) : List Nat := (List.range 64).filter fun V => C V && decide (V ≠ 0)
def tot (C : Nat → Bool) (G : Nat → Nat → Int) (n : Nat) : Int := if n = 0 then 1 else sm (stps C) (G n)
def tz (C : Nat → Bool) (G : Nat → Nat → Int) (n s : Nat) : Int := if s ≤ n then tot C G (n - s) else 0
theorem mem_stps {V : Nat} : V ∈ stps C ↔ V < 64 ∧ C V = true ∧ V ≠ 0 := by
  simp [stps, List.mem_filter, List.mem_range]
theorem pop_posS {V : Nat} (h : V < 64) (h0 : V ≠ 0) : 1 ≤ pop V := by
  rcases Nat.lt_or_ge (pop V) 1 with h1 | h1
  · exact absurd ((pop_zero V h).1 (by omega)) h0
  · exact h1
theorem sub_and {X Y Z : Nat} : sub X (Y &&& Z) = (sub X Y && sub X Z) := by
  rw [Bool.eq_iff_iff, Bool.and_eq_true, sub_iff, sub_iff, sub_iff]
  constructor
  · intro h
    refine ⟨fun i hi => ?_, fun i hi => ?_⟩
    · have := h i hi; rw [Nat.testBit_and, Bool.and_eq_true] at this; exact this.1
    · have := h i hi; rw [Nat.testBit_and, Bool.and_eq_true] at this; exact this.2
  · rintro ⟨h1, h2⟩ i hi
    rw [Nat.testBit_and, h1 i hi, h2 i hi]; rfl
theorem sgn_zero : sgn 0 = 1 := rfl
theorem sub_zero {Y : Nat} : sub 0 Y = true := by simp [sub]
theorem sm_stps {f : Nat → Int} : sm (stps C) f = sm (List.range 64) fun V => iv (C V && decide (V ≠ 0)) * f V := by
  rw [stps, sm_filter]
  refine sm_congr fun V _ => ?_
  cases C V && decide (V ≠ 0) <;> simp [iv]
variable {G : Nat → Nat → Int}
theorem G_zero (hG : ∀ m, ∀ V ∈ stps C, G m V = Es pop m V + Rs (stps C) pop (aft J) G m V) : ∀ V ∈ stps C, G 0 V = 0 := by
  intro V hV
  have h := mem_stps.1 hV
  have := pop_posS h.1 h.2.2
  rw [hG 0 V hV, Es, Rs, if_neg (by omega), iv_false (by simp; omega)]; rfl
theorem avoid (hc : Com C J) {m : Nat} {Z : Nat} (hG0 : ∀ V ∈ stps C, G 0 V = 0) (ih : ∀ V, V ∈ stps C → sm (stps C) (fun U => iv (sub V U) * G m U) = tz C G m (pop V)) :
    iv (decide (m = 0)) + sm (stps C) (fun W => iv (decide (W &&& Z = 0)) * G m W) = sm (List.range 64) fun X => iv (C X && sub X Z) * (sgn X * tz C G m (pop X)) := by
  have e1 : sm (stps C) (fun W => iv (decide (W &&& Z = 0)) * G m W) = sm (List.range 64) fun X => iv (C X && sub X Z) * (sgn X * sm (stps C) fun W => iv (sub X W) * G m W) := by
    have : ∀ W ∈ stps C, iv (decide (W &&& Z = 0)) * G m W = sm (List.range 64) fun X => iv (C X && sub X Z) * sgn X * (iv (sub X W) * G m W) := by
      intro W hW
      have hw := mem_stps.1 hW
      rw [← sub_sum (and_lt hw.1), ← sm_mulr]
      refine sm_congr fun X hX => ?_
      rw [List.mem_range] at hX
      rw [sub_and]
      by_cases h1 : sub X W = true
      · have := hc.down X W hX hw.1 h1 hw.2.1
        rw [h1, this]
        cases sub X Z <;> simp [iv]
      · rw [Bool.not_eq_true] at h1
        rw [h1]
        simp [iv]
    rw [sm_congr this, sm_comm]
    refine sm_congr fun X _ => ?_
    rw [sm_mul, Int.mul_assoc]
  have e2 : iv (decide (m = 0)) = sm (List.range 64) fun X => if X = 0 then iv (decide (m = 0)) else 0 := (sm_one (by omega) (f := fun _ => iv (decide (m = 0)))).symm
  rw [e1, e2, ← sm_add]
  refine sm_congr fun X hX => ?_
  rw [List.mem_range] at hX
  by_cases h0 : X = 0
  · subst h0
    rw [if_pos rfl, hc.zero, sub_zero, sgn_zero]
    have e3 : sm (stps C) (fun W => iv (sub 0 W) * G m W) = sm (stps C) (G m) := sm_congr fun W _ => by rw [sub_zero]; simp [iv]
    have e4 : pop 0 = 0 := rfl
    rw [e3, e4, tz, if_pos (by omega), Nat.sub_zero, tot]
    by_cases hm : m = 0
    · subst hm
      have : sm (stps C) (G 0) = 0 := (sm_congr hG0).trans sm_zero
      rw [this]; rfl
    · rw [if_neg hm, iv_false (by simpa using hm)]
      simp [iv]
  · rw [if_neg h0]
    by_cases hC : C X = true
    · rw [ih X (mem_stps.2 ⟨hX, hC, h0⟩)]; omega
    · rw [Bool.not_eq_true] at hC
      rw [hC]; simp [iv]
theorem tz_sub {n u x : Nat} (h : u ≤ n) : tz C G (n - u) x = tz C G n (u + x) := by
  simp only [tz]
  by_cases h1 : x ≤ n - u
  · rw [if_pos h1, if_pos (by omega), Nat.sub_sub]
  · rw [if_neg h1, if_neg (by omega)]
theorem first_sub (hc : Com C J) (hG : ∀ m, ∀ V ∈ stps C, G m V = Es pop m V + Rs (stps C) pop (aft J) G m V) : ∀ n, ∀ V, V ∈ stps C → sm (stps C) (fun U => iv (sub V U) * G n U) = tz C G n (pop V) := by
  intro n
  induction n using Nat.strongRecOn with
  | _ n ih =>
    have hG0 := G_zero hG
    intro V hV
    have hv := mem_stps.1 hV
    have hGU : ∀ U ∈ stps C, G n U = sm (List.range 64) fun X => iv (C X && sub X (J U)) * (sgn X * tz C G n (pop U + pop X)) := by
      intro U hU
      have hu := mem_stps.1 hU
      have hp := pop_posS hu.1 hu.2.2
      rw [hG n U hU, Es, Rs]
      by_cases hle : pop U ≤ n
      · rw [if_pos hle]
        have := avoid hc (m := n - pop U) (Z := J U) hG0 (ih (n - pop U) (by omega))
        rw [show decide (pop U = n) = decide (n - pop U = 0) by rw [decide_eq_decide]; omega]
        refine Eq.trans this (sm_congr fun X _ => ?_)
        rw [tz_sub hle]
      · rw [if_neg hle, iv_false (by simp; omega)]
        refine Eq.symm (Eq.trans (sm_congr (g := fun _ => 0) fun X _ => ?_) sm_zero)
        rw [tz, if_neg (by omega)]; simp
    rw [sm_congr (g := fun U => sm (List.range 64) fun X => iv (sub V U) * (iv (C X && sub X (J U)) * (sgn X * tz C G n (pop U + pop X)))) fun U hU => by rw [hGU U hU, ← sm_mul], sm_stps]
    -- both sums over all sets
    have e1 : sm (List.range 64) (fun U => iv (C U && decide (U ≠ 0)) * sm (List.range 64) fun X => iv (sub V U) * (iv (C X && sub X (J U)) * (sgn X * tz C G n (pop U + pop X)))) =
        sm (List.range 64) fun X => sm (List.range 64) fun U => iv (decide (U &&& X = 0)) * ((fun Y => iv (C Y && sub V Y && decide (V &&& X = 0)) * (sgn X * tz C G n (pop Y))) (U ||| X)) := by
      rw [sm_congr (g := fun U => sm (List.range 64) fun X => iv (C U && decide (U ≠ 0)) * (iv (sub V U) * (iv (C X && sub X (J U)) * (sgn X * tz C G n (pop U + pop X))))) fun U _ => sm_mul.symm, sm_comm]
      refine sm_congr fun X hX => sm_congr fun U hU => ?_
      rw [List.mem_range] at hX hU
      by_cases hd : U &&& X = 0
      · rw [decide_eq_true hd]
        simp only
        rw [← hc.join U X hU hX hd, pop_disj hU hX hd]
        by_cases hs : sub V U = true
        · have hs2 := sub_iff.1 hs
          have hne : U ≠ 0 := by
            rintro rfl
            apply hv.2.2
            refine Nat.eq_of_testBit_eq fun i => ?_
            cases h : V.testBit i with
            | false => simp
            | true => have := hs2 i h; simp at this
          have hvo : sub V (U ||| X) = true := sub_iff.2 fun i hi => by rw [Nat.testBit_or, hs2 i hi]; rfl
          have hvx : V &&& X = 0 := and_zero_iff.2 fun i hi => (and_zero_iff.1 hd) i (hs2 i hi)
          rw [hs, hvo, decide_eq_true hvx, decide_eq_true hne]
          cases C U <;> cases C X <;> cases sub X (J U) <;> simp [iv]
        · rw [Bool.not_eq_true] at hs
          have hno : (sub V (U ||| X) && decide (V &&& X = 0)) = false := by
            rw [Bool.eq_false_iff]
            intro h
            rw [Bool.and_eq_true, decide_eq_true_eq, sub_iff, and_zero_iff] at h
            have : sub V U = true := sub_iff.2 fun i hi => by
              have h1 := h.1 i hi
              rw [Nat.testBit_or, h.2 i hi, Bool.or_false] at h1
              exact h1
            rw [this] at hs; cases hs
          rw [hs, Bool.and_assoc, hno, Bool.and_false]
          simp [iv]
      · have hno : sub X (J U) = false := by
          rw [Bool.eq_false_iff]
          intro h
          rw [sub_iff] at h
          exact hd (and_zero_iff.2 fun i hi => by
            cases hx : X.testBit i with
            | false => rfl
            | true =>
              have := (and_zero_iff.1 (hc.jdis U hU)) i hi
              rw [h i hx] at this; cases this)
        rw [hno, decide_eq_false hd, Bool.and_false]
        simp [iv]
    rw [e1]
    rw [sm_congr fun X hX => sum_or (f := fun Y => iv (C Y && sub V Y && decide (V &&& X = 0)) * (sgn X * tz C G n (pop Y))) (List.mem_range.1 hX), sm_comm]
    rw [sm_congr (g := fun Y => if Y = V then tz C G n (pop V) else 0) fun Y hY => ?_, sm_one hv.1 (f := fun _ => tz C G n (pop V))]
    rw [List.mem_range] at hY
    by_cases hs : (C Y && sub V Y) = true
    · rw [hs]
      have hs2 := sub_iff.1 (Bool.and_eq_true _ _ ▸ hs).2
      have e2 : sm (List.range 64) (fun X => iv (sub X Y) * (iv (true && decide (V &&& X = 0)) * (sgn X * tz C G n (pop Y)))) = sm (List.range 64) (fun X => iv (sub X (Y ^^^ V)) * sgn X) * tz C G n (pop Y) := by
        rw [← sm_mulr]
        refine sm_congr fun X hX => ?_
        have : sub X (Y ^^^ V) = (sub X Y && decide (V &&& X = 0)) := by
          rw [Bool.eq_iff_iff, Bool.and_eq_true, decide_eq_true_eq, sub_iff, sub_iff, and_zero_iff]
          constructor
          · intro h
            refine ⟨fun i hi => ?_, fun i hi => ?_⟩
            · have := h i hi
              rw [Nat.testBit_xor] at this
              cases h1 : Y.testBit i with
              | true => rfl
              | false =>
                cases h2 : V.testBit i with
                | false => rw [h1, h2] at this; cases this
                | true => have := hs2 i h2; rw [h1] at this; cases this
            · cases h1 : X.testBit i with
              | false => rfl
              | true =>
                have := h i h1
                rw [Nat.testBit_xor, hi, hs2 i hi] at this; cases this
          · rintro ⟨h1, h2⟩ i hi
            rw [Nat.testBit_xor, h1 i hi]
            cases h3 : V.testBit i with
            | false => rfl
            | true => have := h2 i h3; rw [hi] at this; cases this
        rw [this, Bool.true_and, iv_and]
        grind
      rw [e2, sub_sum (xor_lt hY hv.1)]
      by_cases he : Y = V
      · subst he
        rw [if_pos rfl, iv_true (by simp)]; omega
      · rw [if_neg he, iv_false]
        · simp
        · rw [decide_eq_false_iff_not]
          intro h0
          apply he
          refine Nat.eq_of_testBit_eq fun i => ?_
          have := congrArg (fun z => z.testBit i) h0
          simp only [Nat.testBit_xor, Nat.zero_testBit] at this
          cases h1 : Y.testBit i <;> cases h2 : V.testBit i <;> simp_all
    · rw [Bool.not_eq_true] at hs
      have hne : Y ≠ V := by
        rintro rfl
        rw [hv.2.1] at hs
        simp [sub] at hs
      rw [if_neg hne]
      refine (sm_congr (g := fun _ => 0) fun X _ => ?_).trans sm_zero
      rw [hs]; simp [iv]
theorem cartier (hc : Com C J) (hG : ∀ m, ∀ V ∈ stps C, G m V = Es pop m V + Rs (stps C) pop (aft J) G m V) {n : Nat} (hn : 1 ≤ n) : sm (List.range 64) (fun S => iv (C S) * (sgn S * tz C G n (pop S))) = 0 := by
  have h := avoid hc (m := n) (Z := 63) (G_zero hG) (first_sub hc hG n)
  have e : sm (List.range 64) (fun S => iv (C S) * (sgn S * tz C G n (pop S))) = sm (List.range 64) fun X => iv (C X && sub X 63) * (sgn X * tz C G n (pop X)) := by
    refine sm_congr fun X hX => ?_
    rw [List.mem_range] at hX
    have : sub X 63 = true := sub_iff.2 fun i hi => by
      rcases Nat.lt_or_ge i 6 with h6 | h6
      · have : (2 ^ 6 - 1).testBit i = decide (i < 6) := Nat.testBit_two_pow_sub_one 6 i
        rw [show (63 : Nat) = 2 ^ 6 - 1 from rfl, this, decide_eq_true h6]
      · rw [tb_big hX h6] at hi; cases hi
    rw [this, Bool.and_true]
  rw [e, ← h, iv_false (by simp; omega)]
  refine Eq.trans (congrArg (0 + ·) ((sm_congr (g := fun _ => 0) fun W hW => ?_).trans sm_zero)) rfl
  have hw := mem_stps.1 hW
  have : W &&& 63 = W := by
    have h3 := Nat.and_two_pow_sub_one_of_lt_two_pow (n := 6) (x := W) hw.1
    exact h3
  rw [this, iv_false (by simpa using hw.2.2)]
  simp
end main
end Go.Lm
namespace Go.Lm
structure Sym (cm : Nat → Nat → Bool) : Prop where
  irr : ∀ a, cm a a = false
  sym : ∀ a b, cm a b = cm b a
def clK (cm : Nat → Nat → Bool) (k S : Nat) : Bool := decide (S < 2 ^ k) && isCl cm k S
def jay (cm : Nat → Nat → Bool) (k U : Nat) : Nat := (List.range k).foldl (fun M j => if (List.range k).all fun i => !U.testBit i || cm i j then M ||| 2 ^ j else M) 0
theorem jay_tb {cm : Nat → Nat → Bool} {U i : Nat} {p : Nat → Bool} : ∀ k, ((List.range k).foldl (fun M j => if p j then M ||| 2 ^ j else M) 0).testBit i = (decide (i < k) && p i)
  | 0 => by simp
  | k + 1 => by
    rw [List.range_succ, List.foldl_append, List.foldl_cons, List.foldl_nil]
    have ih := jay_tb (cm := cm) (U := U) (i := i) (p := p) k
    by_cases hp : p k = true
    · rw [if_pos hp, Nat.testBit_or, ih, Nat.testBit_two_pow]
      by_cases h : i = k
      · subst h; simp [hp]
      · have h2 : decide (k = i) = false := decide_eq_false (by omega)
        have h3 : decide (i < k + 1) = decide (i < k) := by rw [decide_eq_decide]; omega
        rw [h2, h3, Bool.or_false]
    · rw [if_neg hp, ih]
      by_cases h : i = k
      · subst h; simp [hp]
      · have h3 : decide (i < k + 1) = decide (i < k) := by rw [decide_eq_decide]; omega
        rw [h3]
theorem jay_bit {cm : Nat → Nat → Bool} {k U i : Nat} : (jay cm k U).testBit i = (decide (i < k) && (List.range k).all fun a => !U.testBit a || cm a i) := jay_tb (cm := cm) (U := U) k
theorem tb_lt {k S i : Nat} (h : S < 2 ^ k) (hi : S.testBit i = true) : i < k := by
  rcases Nat.lt_or_ge i k with h1 | h1
  · exact h1
  · rw [Nat.testBit_lt_two_pow (Nat.lt_of_lt_of_le h (Nat.pow_le_pow_right (by omega) h1))] at hi; cases hi
theorem lt_of_tb {k S : Nat} (h : ∀ i, S.testBit i = true → i < k) : S < 2 ^ k := by
  refine Nat.lt_pow_two_of_testBit _ fun i hi => ?_
  cases h1 : S.testBit i with
  | false => rfl
  | true => have := h i h1; omega
theorem isCl_iff {cm : Nat → Nat → Bool} {k S : Nat} (hs : Sym cm) : isCl cm k S = true ↔ ∀ a b, a < k → b < k → a ≠ b → S.testBit a = true → S.testBit b = true → cm a b = true := by
  rw [isCl, List.all_eq_true]
  constructor
  · intro h a b ha hb hne h1 h2
    rcases Nat.lt_or_gt_of_ne hne with h3 | h3
    · have := List.all_eq_true.1 (h b (List.mem_range.2 hb)) a (List.mem_range.2 h3)
      rw [h1, h2] at this
      rw [hs.sym]
      simpa using this
    · have := List.all_eq_true.1 (h a (List.mem_range.2 ha)) b (List.mem_range.2 h3)
      rw [h1, h2] at this
      simpa using this
  · intro h a ha
    rw [List.all_eq_true]
    intro b hb
    rw [List.mem_range] at ha hb
    cases h1 : S.testBit a with
    | false => rfl
    | true =>
      cases h2 : S.testBit b with
      | false => rfl
      | true => rw [h a b ha (by omega) (by omega) h1 h2]; rfl
theorem clK_iff {cm : Nat → Nat → Bool} {k S : Nat} (hs : Sym cm) : clK cm k S = true ↔ (∀ i, S.testBit i = true → i < k) ∧ ∀ a b, a ≠ b → S.testBit a = true → S.testBit b = true → cm a b = true := by
  rw [clK, Bool.and_eq_true, decide_eq_true_eq, isCl_iff hs]
  constructor
  · rintro ⟨h1, h2⟩
    exact ⟨fun i hi => tb_lt h1 hi, fun a b hne ha hb => h2 a b (tb_lt h1 ha) (tb_lt h1 hb) hne ha hb⟩
  · rintro ⟨h1, h2⟩
    exact ⟨lt_of_tb h1, fun a b _ _ hne ha hb => h2 a b hne ha hb⟩
theorem com_cl {cm : Nat → Nat → Bool} {k : Nat} (hs : Sym cm) (hk : k ≤ 6) : Com (clK cm k) (jay cm k) where
  zero := (clK_iff hs).2 ⟨fun i h => by simp at h, fun a b _ h => by simp at h⟩
  down := fun X Y hX hY hsub hY2 => by
    rw [sub_iff] at hsub
    obtain ⟨h1, h2⟩ := (clK_iff hs).1 hY2
    exact (clK_iff hs).2 ⟨fun i hi => h1 i (hsub i hi), fun a b hne ha hb => h2 a b hne (hsub a ha) (hsub b hb)⟩
  jlt := fun U _ => Nat.lt_of_lt_of_le (lt_of_tb (k := k) fun i hi => by
    rw [jay_bit, Bool.and_eq_true, decide_eq_true_eq] at hi; exact hi.1) (Nat.pow_le_pow_right (n := 2) (j := 6) (by omega) hk)
  jdis := fun U _ => and_zero_iff.2 fun i hi => by
    rw [jay_bit]
    by_cases h : i < k
    · rw [Bool.and_eq_false_iff]
      right
      rw [List.all_eq_false]
      exact ⟨i, List.mem_range.2 h, by simp [hi, hs.irr]⟩
    · simp [h]
  join := fun U X hU hX hd => by
    rw [Bool.eq_iff_iff, Bool.and_eq_true, Bool.and_eq_true, clK_iff hs, clK_iff hs, clK_iff hs, sub_iff]
    rw [and_zero_iff] at hd
    constructor
    · rintro ⟨⟨⟨u1, u2⟩, x1, x2⟩, j⟩
      have hj : ∀ a b, U.testBit a = true → X.testBit b = true → cm a b = true := fun a b ha hb => by
        have := j b hb
        rw [jay_bit, Bool.and_eq_true, List.all_eq_true] at this
        have h3 := this.2 a (List.mem_range.2 (u1 a ha))
        simpa [ha] using h3
      refine ⟨fun i hi => ?_, fun a b hne ha hb => ?_⟩
      · rw [Nat.testBit_or, Bool.or_eq_true] at hi
        exact hi.elim (u1 i) (x1 i)
      · rw [Nat.testBit_or, Bool.or_eq_true] at ha hb
        rcases ha with ha | ha <;> rcases hb with hb | hb
        · exact u2 a b hne ha hb
        · exact hj a b ha hb
        · rw [hs.sym]; exact hj b a hb ha
        · exact x2 a b hne ha hb
    · rintro ⟨h1, h2⟩
      refine ⟨⟨⟨fun i hi => h1 i ?_, fun a b hne ha hb => h2 a b hne ?_ ?_⟩, fun i hi => h1 i ?_, fun a b hne ha hb => h2 a b hne ?_ ?_⟩, fun i hi => ?_⟩
      · rw [Nat.testBit_or, hi]; rfl
      · rw [Nat.testBit_or, ha]; rfl
      · rw [Nat.testBit_or, hb]; rfl
      · rw [Nat.testBit_or, hi, Bool.or_true]
      · rw [Nat.testBit_or, ha, Bool.or_true]
      · rw [Nat.testBit_or, hb, Bool.or_true]
      · rw [jay_bit, Bool.and_eq_true, decide_eq_true_eq, List.all_eq_true]
        refine ⟨h1 i (by rw [Nat.testBit_or, hi, Bool.or_true]), fun a ha => ?_⟩
        cases h3 : U.testBit a with
        | false => rfl
        | true =>
          have hne : a ≠ i := by
            rintro rfl
            rw [hd a h3] at hi; cases hi
          rw [h2 a i hne (by rw [Nat.testBit_or, h3]; rfl) (by rw [Nat.testBit_or, hi, Bool.or_true])]; rfl
theorem sum_sizes {l : List Nat} {C : Nat → Bool} {f : Nat → Int} (hl : ∀ S ∈ l, pop S ≤ 6) : sm l (fun S => iv (C S) * f (pop S)) = sm (List.range 7) fun i => ((l.countP fun S => C S && decide (pop S = i) : Nat) : Int) * f i := by
  induction l with
  | nil => simp [sm, List.range_succ]
  | cons S l ih =>
    rw [sm_cons, ih fun x hx => hl x (List.mem_cons_of_mem _ hx)]
    have h1 : iv (C S) * f (pop S) = sm (List.range 7) fun i => if i = pop S then iv (C S) * f i else 0 := (sm_one (by have := hl S (List.mem_cons_self ..); omega) (f := fun i => iv (C S) * f i)).symm
    rw [h1, ← sm_add]
    refine sm_congr fun i _ => ?_
    rw [List.countP_cons]
    by_cases h : i = pop S
    · rw [if_pos h]
      cases hC : C S <;> simp [h, iv]
      grind
    · rw [if_neg h]
      simp [Ne.symm h]
theorem countP_cut {p : Nat → Bool} {m : Nat} : ∀ {n : Nat}, m ≤ n → (List.range n).countP (fun S => decide (S < m) && p S) = (List.range m).countP p
  | n, h => by
    induction n with
    | zero => obtain rfl : m = 0 := by omega
              rfl
    | succ n ih =>
      by_cases e : m = n + 1
      · subst e
        refine countP_congr' fun x hx => ?_
        rw [List.mem_range] at hx
        simp [hx]
      · rw [List.range_succ, List.countP_append, ih (by omega)]
        have : ¬ n < m := by omega
        simp [this]
theorem clq_count {cm : Nat → Nat → Bool} {k i : Nat} (hk : k ≤ 6) : (List.range 64).countP (fun S => clK cm k S && decide (pop S = i)) = (clq cm k).getD i 0 := by
  rw [clq, clqs_getD, ← countP_cut (m := 2 ^ k) (n := 64) (Nat.pow_le_pow_right (n := 2) (j := 6) (by omega) hk)]
  refine countP_congr' fun S _ => ?_
  simp only [clK, Bool.and_assoc]
def sz (i : Nat) : Int := if i % 2 = 0 then 1 else -1
theorem sg_sz {i : Nat} : sg i = -sz i := by unfold sg sz; split <;> rfl
variable {cm : Nat → Nat → Bool} {k : Nat} {G : Nat → Nat → Int}
theorem psum_sm {cl : List Nat} {L : List Int} {len : Nat} : ∀ s, psum cl L len s = -sm (List.range s) (fun i => ((cl.getD (i + 1) 0 : Nat) : Int) * (sz (i + 1) * L.getD (len - (i + 1)) 0))
  | 0 => rfl
  | s + 1 => by
    rw [psum, psum_sm s, sm_range_succ, sg_sz]
    grind
theorem tot_cnt (hs : Sym cm) (hk : k ≤ 6) (h0 : 0 < k) (hG : ∀ m, ∀ V ∈ stps (clK cm k), G m V = Es pop m V + Rs (stps (clK cm k)) pop (aft (jay cm k)) G m V) : ∀ n, tot (clK cm k) G n = cnt (clq cm k) n := by
  intro n
  induction n using Nat.strongRecOn with
  | _ n ih =>
    cases n with
    | zero => rfl
    | succ n =>
      have h : sm (List.range 64) (fun S => iv (clK cm k S) * (sz (pop S) * tz (clK cm k) G (n + 1) (pop S))) = 0 := cartier (com_cl hs hk) hG (n := n + 1) (by omega)
      rw [sum_sizes (C := clK cm k) (f := fun i => sz i * tz (clK cm k) G (n + 1) i) fun S _ => pop_le] at h
      rw [sm_congr (g := fun i => (((clq cm k).getD i 0 : Nat) : Int) * (sz i * tz (clK cm k) G (n + 1) i)) fun i _ => by rw [clq_count hk]] at h
      rw [show (7 : Nat) = 6 + 1 from rfl] at h
      have hcut : sm (List.range (6 + 1)) (fun i => (((clq cm k).getD i 0 : Nat) : Int) * (sz i * tz (clK cm k) G (n + 1) i)) =
          (((clq cm k).getD 0 0 : Nat) : Int) * (sz 0 * tz (clK cm k) G (n + 1) 0) + sm (List.range 6) (fun i => (((clq cm k).getD (i + 1) 0 : Nat) : Int) * (sz (i + 1) * tz (clK cm k) G (n + 1) (i + 1))) := by
        rw [List.range_succ_eq_map, sm_cons, sm_map]
      rw [hcut, clq_zero hk] at h
      have hlen := clq_len (cm := cm) (k := k)
      have h2 := clq_two (cm := cm) hk h0
      have hcut2 : sm (List.range 6) (fun i => (((clq cm k).getD (i + 1) 0 : Nat) : Int) * (sz (i + 1) * tz (clK cm k) G (n + 1) (i + 1))) =
          sm (List.range (szs (clq cm k) (n + 1))) (fun i => (((clq cm k).getD (i + 1) 0 : Nat) : Int) * (sz (i + 1) * (cnts (clq cm k) n).getD (n + 1 - (i + 1)) 0)) := by
        rw [sm_range_cut (m := szs (clq cm k) (n + 1)) (by simp only [szs]; omega) fun i h1 h2 => ?_]
        · refine sm_congr fun i hi => ?_
          rw [List.mem_range] at hi
          simp only [szs] at hi
          rw [tz, if_pos (by omega), ih _ (by omega), cnts_getD (by omega)]
        · simp only [szs] at h1
          by_cases h3 : (clq cm k).length ≤ i + 1
          · have : (clq cm k).getD (i + 1) 0 = 0 := by rw [List.getD_eq_getElem?_getD, List.getElem?_eq_none h3]; rfl
            rw [this]; simp
          · rw [tz, if_neg (by omega)]; simp
      have hr := cnt_rec (cl := clq cm k) (n := n) (N := n + 1) (by omega)
      have hr2 : cnt (clq cm k) (n + 1) = psum (clq cm k) (cnts (clq cm k) n) (n + 1) (szs (clq cm k) (n + 1)) := by
        rw [hr]
        refine psum_congr (by simp only [szs]; omega) fun i hi => ?_
        rw [cnts_getD (by omega), cnts_getD (by omega)]
      rw [hr2, psum_sm, ← hcut2]
      have ht : tz (clK cm k) G (n + 1) 0 = tot (clK cm k) G (n + 1) := by rw [tz, if_pos (by omega), Nat.sub_zero]
      rw [ht] at h
      have hz : sz 0 = 1 := rfl
      rw [hz] at h
      have h1 : ((1 : Nat) : Int) = 1 := rfl
      rw [h1] at h
      omega
end Go.Lm
namespace Go.Lm
open Go.Proofs.YthankillfhmfkaaGreatDoor.Ev (lt OkL)
def sts (cm : Nat → Nat → Bool) : Nat → List (List UInt8)
  | 0 => [[]]
  | x + 1 => sts cm x ++ ((sts cm x).filter fun s => s.all fun c => cm (lt c) x).map fun s => s ++ [UInt8.ofNat (97 + x)]
def bt (s : List UInt8) : Nat := (s.map fun c => 2 ^ lt c).sum
theorem bt_snoc {s : List UInt8} {x : Nat} (hx : x < 6) : bt (s ++ [UInt8.ofNat (97 + x)]) = 2 ^ x + bt s := by
  have : lt (UInt8.ofNat (97 + x)) = x := by
    unfold lt
    have : (UInt8.ofNat (97 + x)).toNat = 97 + x := by simp; omega
    omega
  simp only [bt, List.map_append, List.sum_append, List.map_cons, List.map_nil, List.sum_cons, List.sum_nil, this]
  omega
theorem bit_lt {S x i : Nat} (h : S < 2 ^ x) (hi : x ≤ i) : S.testBit i = false := Nat.testBit_lt_two_pow (Nat.lt_of_lt_of_le h (Nat.pow_le_pow_right (by omega) hi))
theorem bit_add {S x i : Nat} (h : S < 2 ^ x) : (2 ^ x + S).testBit i = (decide (i = x) || S.testBit i) := by
  rcases Nat.lt_trichotomy i x with h1 | h1 | h1
  · rw [Nat.testBit_two_pow_add_gt h1]
    simp [show i ≠ x by omega]
  · subst h1
    rw [Nat.testBit_two_pow_add_eq, bit_lt h (Nat.le_refl _)]
    simp
  · rw [bit_lt (x := x + 1) (by rw [Nat.pow_succ]; omega) (by omega), bit_lt h (by omega)]
    simp [show i ≠ x by omega]
structure StOk (x : Nat) (s : List UInt8) : Prop where
  ok : OkL x s
  lt : bt s < 2 ^ x
  bit : ∀ i, (bt s).testBit i = s.any fun c => decide (Go.Proofs.YthankillfhmfkaaGreatDoor.Ev.lt c = i)
  pop : (List.range 6).countP (fun a => (bt s).testBit a) = s.length
theorem countP_or {f : Nat → Bool} {x n : Nat} (hx : x < n) (h : f x = false) : (List.range n).countP (fun a => decide (a = x) || f a) = (List.range n).countP f + 1 := by
  induction n with
  | zero => omega
  | succ n ih =>
    rw [List.range_succ, List.countP_append, List.countP_append]
    by_cases e : x = n
    · subst e
      have : (List.range x).countP (fun a => decide (a = x) || f a) = (List.range x).countP f := List.countP_congr fun a ha => by
        rw [List.mem_range] at ha
        simp [show a ≠ x by omega]
      rw [this]
      simp [h]
    · rw [ih (by omega)]
      simp [show n ≠ x by omega]
      omega
theorem sts_ok {cm : Nat → Nat → Bool} : ∀ x, x ≤ 6 → ∀ s ∈ sts cm x, StOk x s
  | 0, _, s, hs => by
    rw [sts, List.mem_singleton] at hs
    subst hs
    exact ⟨fun c hc => (by cases hc), by decide, fun i => by simp [bt], by simp [bt]⟩
  | x + 1, h6, s, hs => by
    rw [sts] at hs
    rcases List.mem_append.1 hs with hs | hs
    · have h := sts_ok x (by omega) s hs
      exact ⟨h.ok.mono (by omega), Nat.lt_of_lt_of_le h.lt (Nat.pow_le_pow_right (by omega) (by omega)), h.bit, h.pop⟩
    · obtain ⟨s0, hs0, rfl⟩ := List.mem_map.1 hs
      have h := sts_ok x (by omega) s0 (List.mem_filter.1 hs0).1
      have hb := bt_snoc (s := s0) (x := x) (by omega)
      have hto : (UInt8.ofNat (97 + x)).toNat = 97 + x := by simp; omega
      have hlt : Go.Proofs.YthankillfhmfkaaGreatDoor.Ev.lt (UInt8.ofNat (97 + x)) = x := by unfold Go.Proofs.YthankillfhmfkaaGreatDoor.Ev.lt; omega
      have hbit : ∀ i, (bt (s0 ++ [UInt8.ofNat (97 + x)])).testBit i = (decide (i = x) || (bt s0).testBit i) := fun i => by rw [hb, bit_add h.lt]
      refine ⟨fun c hc => ?_, by rw [hb, Nat.pow_succ]; have := h.lt; omega, fun i => ?_, ?_⟩
      · rcases List.mem_append.1 hc with hc | hc
        · have := h.ok c hc; omega
        · rw [List.mem_singleton.1 hc]; omega
      · rw [hbit, h.bit, List.any_append]
        simp only [List.any_cons, List.any_nil, Bool.or_false, hlt]
        rw [Bool.or_comm]
        congr 1
        exact decide_eq_decide.2 eq_comm
      · rw [List.countP_congr (q := fun a => decide (a = x) || (bt s0).testBit a) fun a _ => by rw [hbit], countP_or (by omega) (bit_lt h.lt (Nat.le_refl _)), h.pop]
        simp
theorem isCl_low {cm : Nat → Nat → Bool} {x S : Nat} (h : S < 2 ^ x) : isCl cm (x + 1) S = isCl cm x S := by
  unfold isCl
  rw [List.range_succ, List.all_append]
  simp [bit_lt h (Nat.le_refl x)]
theorem all_congr' {l : List Nat} {p q : Nat → Bool} (h : ∀ a ∈ l, p a = q a) : l.all p = l.all q := by
  rw [Bool.eq_iff_iff, List.all_eq_true, List.all_eq_true]
  exact ⟨fun hh a ha => by rw [← h a ha]; exact hh a ha, fun hh a ha => by rw [h a ha]; exact hh a ha⟩
theorem isCl_high {cm : Nat → Nat → Bool} {x S : Nat} (h : S < 2 ^ x) : isCl cm (x + 1) (2 ^ x + S) = (isCl cm x S && (List.range x).all fun b => !(S.testBit b && !cm x b)) := by
  unfold isCl
  rw [List.range_succ, List.all_append]
  congr 1
  · refine all_congr' fun a ha => all_congr' fun b hb => ?_
    rw [List.mem_range] at ha hb
    rw [bit_add h, bit_add h]
    simp [show a ≠ x by omega, show b ≠ x by omega]
  · simp only [List.all_cons, List.all_nil, Bool.and_true]
    refine all_congr' fun b hb => ?_
    rw [List.mem_range] at hb
    rw [bit_add h, bit_add h]
    simp [show b ≠ x by omega]
theorem q_bt {cm : Nat → Nat → Bool} (hs : Sym cm) {x : Nat} {s : List UInt8} (h : StOk x s) : ((List.range x).all fun b => !((bt s).testBit b && !cm x b)) = s.all fun c => cm (lt c) x := by
  have hs' : ∀ a b, cm a b = cm b a := hs.sym
  rw [Bool.eq_iff_iff, List.all_eq_true, List.all_eq_true]
  constructor
  · intro hh c hc
    have hcb := h.ok c hc
    have := hh (lt c) (List.mem_range.2 (by unfold Go.Proofs.YthankillfhmfkaaGreatDoor.Ev.lt; omega))
    rw [h.bit] at this
    have hany : (s.any fun d => decide (lt d = lt c)) = true := List.any_eq_true.2 ⟨c, hc, by simp⟩
    rw [hany] at this
    rw [hs' (lt c) x]
    simpa using this
  · intro hh b hb
    rw [h.bit]
    cases hany : s.any fun d => decide (lt d = b) with
    | false => simp
    | true =>
      obtain ⟨d, hd, hdb⟩ := List.any_eq_true.1 hany
      have := hh d hd
      rw [decide_eq_true_eq] at hdb
      rw [hdb, hs' b x] at this
      simp [this]
theorem sts_bt {cm : Nat → Nat → Bool} (hs : Sym cm) : ∀ x, x ≤ 6 → (sts cm x).map bt = (List.range (2 ^ x)).filter fun S => isCl cm x S
  | 0, _ => by
    have : (List.range (2 ^ 0)) = [0] := rfl
    rw [this]
    simp [sts, bt, isCl]
  | x + 1, h6 => by
    have ih := sts_bt hs x (by omega)
    have e : 2 ^ (x + 1) = 2 ^ x + 2 ^ x := by rw [Nat.pow_succ]; omega
    rw [e, List.range_add, List.filter_append, sts, List.map_append]
    congr 1
    · rw [ih]
      refine List.filter_congr fun S hS => ?_
      rw [isCl_low (List.mem_range.1 hS)]
    · rw [List.filter_map, List.map_map]
      have e2 : (List.range (2 ^ x)).filter ((fun S => isCl cm (x + 1) S) ∘ fun y => 2 ^ x + y) = ((List.range (2 ^ x)).filter fun S => isCl cm x S).filter fun S => (List.range x).all fun b => !(S.testBit b && !cm x b) := by
        rw [List.filter_filter]
        refine List.filter_congr fun S hS => ?_
        show isCl cm (x + 1) (2 ^ x + S) = _
        rw [isCl_high (List.mem_range.1 hS), Bool.and_comm]
      rw [e2, ← ih, List.filter_map, List.map_map]
      have e3 : (sts cm x).filter ((fun S => (List.range x).all fun b => !(S.testBit b && !cm x b)) ∘ bt) = (sts cm x).filter fun s => s.all fun c => cm (lt c) x := by
        refine List.filter_congr fun s hsm => ?_
        exact q_bt hs (sts_ok x (by omega) s hsm)
      rw [e3]
      refine List.map_congr_left fun s _ => ?_
      exact bt_snoc (by omega)
theorem sts_clq {cm : Nat → Nat → Bool} (hs : Sym cm) {k : Nat} (hk : k ≤ 6) : (sts cm k).foldl (fun L s => bump L s.length) [] = clq cm k := by
  have h1 : clq cm k = ((List.range (2 ^ k)).filter fun S => isCl cm k S).foldl (fun L S => bump L (pop S)) [] := by
    rw [clq, clqs, List.foldl_filter]
  rw [h1, ← sts_bt hs k hk, List.foldl_map]
  have : ∀ (l : List (List UInt8)) (L : List Nat), (∀ s ∈ l, StOk k s) → l.foldl (fun L s => bump L s.length) L = l.foldl (fun L s => bump L (pop (bt s))) L := by
    intro l
    induction l with
    | nil => intro L _; rfl
    | cons s l ih =>
      intro L h
      rw [List.foldl_cons, List.foldl_cons]
      have hp : pop (bt s) = s.length := (h s List.mem_cons_self).pop
      rw [hp]
      exact ih _ fun t ht => h t (List.mem_cons_of_mem _ ht)
  exact this _ _ fun s hsm => sts_ok k hk s hsm
def fol (cm : Nat → Nat → Bool) (s t : List UInt8) : Bool := t.all fun c => s.any fun b => !cm (lt b) (lt c)
def rowv (cm : Nat → Nat → Bool) (L : List (List UInt8)) (ends : List (List Int)) (m : Nat) (s : List UInt8) : Int :=
  if s = [] ∨ m < s.length then 0 else if s.length = m then 1 else sm (List.range L.length) fun j => if L.getD j [] ≠ [] ∧ fol cm (L.getD j []) s = true then (ends.getD (m - s.length) []).getD j 0 else 0
def endsL (cm : Nat → Nat → Bool) (L : List (List UInt8)) : Nat → List (List Int)
  | 0 => []
  | m + 1 => endsL cm L m ++ [L.map (rowv cm L (endsL cm L m) m)]
theorem endsL_len {cm : Nat → Nat → Bool} {L : List (List UInt8)} : ∀ m, (endsL cm L m).length = m
  | 0 => rfl
  | m + 1 => by rw [endsL, List.length_append, endsL_len m]; rfl
theorem endsL_get {cm : Nat → Nat → Bool} {L : List (List UInt8)} {i : Nat} : ∀ {m}, i < m → (endsL cm L m).getD i [] = L.map (rowv cm L (endsL cm L i) i)
  | 0, h => by omega
  | m + 1, h => by
    rw [endsL, List.getD_eq_getElem?_getD]
    by_cases e : i = m
    · subst e
      rw [List.getElem?_append_right (by rw [endsL_len]; exact Nat.le_refl _), endsL_len]
      simp
    · rw [List.getElem?_append_left (by rw [endsL_len]; omega), ← List.getD_eq_getElem?_getD]
      exact endsL_get (by omega)
def Fr (cm : Nat → Nat → Bool) (L : List (List UInt8)) (m V : Nat) : Int := (L.map (rowv cm L (endsL cm L m) m)).getD ((L.map bt).idxOf V) 0
theorem Fr_at {cm : Nat → Nat → Bool} {L : List (List UInt8)} (hn : (L.map bt).Nodup) {m j : Nat} (hj : j < L.length) : Fr cm L m (bt (L.getD j [])) = rowv cm L (endsL cm L m) m (L.getD j []) := by
  have e : (L.map bt).idxOf (bt (L.getD j [])) = j := by
    have h1 : bt (L.getD j []) = (L.map bt)[j]'(by rw [List.length_map]; exact hj) := by
      rw [List.getElem_map, List.getD_eq_getElem?_getD, List.getElem?_eq_getElem hj]; rfl
    rw [h1]
    exact List.Nodup.idxOf_getElem hn j _
  rw [Fr, e, List.getD_eq_getElem?_getD, List.getElem?_map, List.getD_eq_getElem?_getD, List.getElem?_eq_getElem hj]
  rfl
theorem rowv_small {cm : Nat → Nat → Bool} {L : List (List UInt8)} {ends : List (List Int)} {m : Nat} {s : List UInt8} (h : s = [] ∨ m < s.length) : rowv cm L ends m s = 0 := by rw [rowv, if_pos h]
theorem sm_idx {L : List (List UInt8)} {f : List UInt8 → Int} : sm (List.range L.length) (fun j => f (L.getD j [])) = sm L f := by
  have : L = (List.range L.length).map fun j => L.getD j [] := by
    apply List.ext_getElem?
    intro i
    rw [List.getElem?_map]
    by_cases h : i < L.length
    · rw [List.getElem?_range h, List.getElem?_eq_getElem h]
      simp [List.getD_eq_getElem?_getD, List.getElem?_eq_getElem h]
    · rw [List.getElem?_eq_none (by omega), List.getElem?_eq_none (by simp; omega)]; rfl
  conv => rhs; rw [this, sm_map]
theorem stps_list {cm : Nat → Nat → Bool} (hs : Sym cm) {k : Nat} (hk : k ≤ 6) {f : Nat → Int} : sm (stps (clK cm k)) f = sm (sts cm k) fun s => if s ≠ [] then f (bt s) else 0 := by
  have h64 : 2 ^ k ≤ 64 := Nat.le_trans (Nat.pow_le_pow_right (by omega) hk) (by decide)
  have e1 : stps (clK cm k) = ((sts cm k).map bt).filter fun V => decide (V ≠ 0) := by
    rw [sts_bt hs k hk, List.filter_filter, stps]
    obtain ⟨d, hd⟩ : ∃ d, 64 = 2 ^ k + d := ⟨64 - 2 ^ k, by omega⟩
    rw [hd, List.range_add, List.filter_append]
    have h2 : ((List.range d).map (2 ^ k + ·)).filter (fun V => clK cm k V && decide (V ≠ 0)) = [] := by
      rw [List.filter_eq_nil_iff]
      intro V hV
      obtain ⟨x, _, rfl⟩ := List.mem_map.1 hV
      simp only [clK, Bool.and_eq_true, decide_eq_true_eq]
      omega
    rw [h2, List.append_nil]
    refine List.filter_congr fun S hS => ?_
    have := List.mem_range.1 hS
    simp [clK, this, Bool.and_comm]
  rw [e1, sm_filter, sm_map]
  refine sm_congr fun s hsm => ?_
  have h := sts_ok k hk s hsm
  have : bt s ≠ 0 ↔ s ≠ [] := by
    constructor
    · rintro h1 rfl; exact h1 rfl
    · intro h1 h2
      have hp := h.pop
      rw [h2] at hp
      simp at hp
      exact h1 (List.length_eq_zero_iff.1 hp.symm)
  by_cases e : s = []
  · simp [e, bt]
  · rw [if_pos (by simp [this.2 e]), if_pos e]
theorem aft_fol {cm : Nat → Nat → Bool} (hs : Sym cm) {k : Nat} {s t : List UInt8} (h1 : StOk k s) (h2 : StOk k t) : aft (jay cm k) (bt s) (bt t) = fol cm s t := by
  rw [aft, fol, Bool.eq_iff_iff, decide_eq_true_eq, and_zero_iff, List.all_eq_true]
  constructor
  · intro h c hc
    have hcb := h2.ok c hc
    have hb : (bt t).testBit (lt c) = true := by rw [h2.bit]; exact List.any_eq_true.2 ⟨c, hc, by simp⟩
    have := h _ hb
    rw [jay_bit] at this
    have hlk : lt c < k := by unfold Go.Proofs.YthankillfhmfkaaGreatDoor.Ev.lt; omega
    simp only [hlk, decide_true, Bool.true_and] at this
    rw [List.all_eq_false] at this
    obtain ⟨a, ha, hna⟩ := this
    simp only [Bool.or_eq_true, Bool.not_eq_true', not_or, Bool.not_eq_false, Bool.not_eq_true] at hna
    rw [h1.bit] at hna
    obtain ⟨b, hb1, hb2⟩ := List.any_eq_true.1 hna.1
    rw [decide_eq_true_eq] at hb2
    exact List.any_eq_true.2 ⟨b, hb1, by rw [hb2, hna.2]; rfl⟩
  · intro h i hi
    rw [h2.bit] at hi
    obtain ⟨c, hc, hci⟩ := List.any_eq_true.1 hi
    rw [decide_eq_true_eq] at hci
    obtain ⟨b, hb, hbc⟩ := List.any_eq_true.1 (h c hc)
    have hbb := h1.ok b hb
    rw [jay_bit]
    have hlk : lt b < k := by unfold Go.Proofs.YthankillfhmfkaaGreatDoor.Ev.lt; omega
    have : ((List.range k).all fun a => !(bt s).testBit a || cm a i) = false := by
      rw [List.all_eq_false]
      refine ⟨lt b, List.mem_range.2 hlk, ?_⟩
      have : (bt s).testBit (lt b) = true := by rw [h1.bit]; exact List.any_eq_true.2 ⟨b, hb, by simp⟩
      rw [this, ← hci]
      simpa using hbc
    rw [this, Bool.and_false]
theorem ref_count {cm : Nat → Nat → Bool} (hs : Sym cm) {k : Nat} (hk : k ≤ 6) (h0 : 0 < k) (G : Nat → Nat → Int) (hG : ∀ m, ∀ V ∈ stps (clK cm k), G m V = Es pop m V + Rs (stps (clK cm k)) pop (aft (jay cm k)) G m V) {n : Nat} (hn : n ≠ 0) :
    sm (sts cm k) (rowv cm (sts cm k) (endsL cm (sts cm k) n) n) = cnt (clq cm k) n := by
  have hnd : ((sts cm k).map bt).Nodup := by
    rw [sts_bt hs k hk]; exact List.Pairwise.filter _ List.nodup_range
  have hF : ∀ m, ∀ V ∈ stps (clK cm k), Fr cm (sts cm k) m V = Es pop m V + Ls (stps (clK cm k)) pop (aft (jay cm k)) (Fr cm (sts cm k)) m V := by
    have hidx : ∀ V ∈ stps (clK cm k), ∃ j, j < (sts cm k).length ∧ bt ((sts cm k).getD j []) = V ∧ (sts cm k).getD j [] ≠ [] ∧ StOk k ((sts cm k).getD j []) := by
      intro V hV
      obtain ⟨h1, h2, h3⟩ := mem_stps.1 hV
      have hm : V ∈ (sts cm k).map bt := by
        rw [sts_bt hs k hk, List.mem_filter]
        simp only [clK, Bool.and_eq_true, decide_eq_true_eq] at h2
        exact ⟨List.mem_range.2 h2.1, h2.2⟩
      obtain ⟨s, hsm, hsV⟩ := List.mem_map.1 hm
      obtain ⟨j, hj, hjs⟩ := List.getElem_of_mem hsm
      have e : (sts cm k).getD j [] = s := by rw [List.getD_eq_getElem?_getD, List.getElem?_eq_getElem hj, hjs]; rfl
      rw [← e] at hsV hsm
      refine ⟨j, hj, hsV, ?_, sts_ok k hk _ hsm⟩
      intro hnil
      rw [hnil] at hsV
      exact h3 hsV.symm
    have hzero : ∀ V ∈ stps (clK cm k), Fr cm (sts cm k) 0 V = 0 := by
      intro V hV
      obtain ⟨j, hj, rfl, hne, _⟩ := hidx V hV
      rw [Fr_at hnd hj]
      exact rowv_small (.inr (List.length_pos_iff.2 hne))
    intro m V hV
    obtain ⟨j, hj, rfl, hne, hok⟩ := hidx V hV
    rw [Fr_at hnd hj]
    generalize hsj : (sts cm k).getD j [] = s at *
    have hp : pop (bt s) = s.length := hok.pop
    have hsl := List.length_pos_iff.2 hne
    simp only [Es, Ls, hp]
    rcases Nat.lt_trichotomy m s.length with h1 | h1 | h1
    · rw [rowv_small (.inr h1), if_neg (by omega)]
      simp [iv, show s.length ≠ m by omega]
    · rw [rowv, if_neg (by rintro (h | h); exact hne h; omega), if_pos h1.symm, if_pos (by omega)]
      rw [sm_congr (g := fun _ => 0) fun U hU => by rw [h1, Nat.sub_self, hzero U hU, Int.mul_zero], sm_zero]
      simp [iv, h1]
    · rw [rowv, if_neg (by rintro (h | h); exact hne h; omega), if_neg (by omega), if_pos (by omega), stps_list hs hk, ← sm_idx]
      have e0 : iv (decide (s.length = m)) = 0 := by simp [iv, show s.length ≠ m by omega]
      rw [e0, Int.zero_add]
      refine sm_congr fun i hi => ?_
      have hi := List.mem_range.1 hi
      have hmem : (sts cm k).getD i [] ∈ sts cm k := by
        rw [List.getD_eq_getElem?_getD, List.getElem?_eq_getElem hi]; exact List.getElem_mem hi
      have hoki := sts_ok k hk _ hmem
      rw [endsL_get (by omega)]
      have e1 : ((sts cm k).map (rowv cm (sts cm k) (endsL cm (sts cm k) (m - s.length)) (m - s.length))).getD i 0 = Fr cm (sts cm k) (m - s.length) (bt ((sts cm k).getD i [])) := by
        rw [Fr_at hnd hi, List.getD_eq_getElem?_getD, List.getElem?_map, List.getD_eq_getElem?_getD, List.getElem?_eq_getElem hi]; rfl
      rw [e1, aft_fol hs hoki hok]
      by_cases c1 : (sts cm k).getD i [] = []
      · rw [if_neg (by rintro ⟨h, _⟩; exact h c1), if_neg (by simpa using c1)]
      · rw [if_pos c1]
        cases c2 : fol cm ((sts cm k).getD i []) s with
        | false => rw [if_neg (by rintro ⟨_, h⟩; cases h)]; simp [iv]
        | true => rw [if_pos ⟨c1, rfl⟩]; simp [iv]
  have h := ends_starts hF hG n
  have ht := tot_cnt hs hk h0 hG n
  rw [tot, if_neg hn, ← h, stps_list hs hk] at ht
  rw [← ht]
  refine sm_congr fun s hsm => ?_
  by_cases e : s = []
  · rw [if_neg (by simpa using e), rowv_small (.inl e)]
  · rw [if_pos e]
    obtain ⟨j, hj, hjs⟩ := List.getElem_of_mem hsm
    have e2 : (sts cm k).getD j [] = s := by rw [List.getD_eq_getElem?_getD, List.getElem?_eq_getElem hj, hjs]; rfl
    rw [← e2, Fr_at hnd hj]
def Ge (Vs : List Nat) (w : Nat → Nat) (A : Nat → Nat → Bool) : Nat → Nat → Nat → Int
  | 0, _, _ => 0
  | f + 1, m, V => Es w m V + (if w V ≤ m then sm Vs fun U => iv (A V U) * Ge Vs w A f (m - w V) U else 0)
theorem Ge_stable {Vs : List Nat} {w : Nat → Nat} {A : Nat → Nat → Bool} (hw : ∀ V ∈ Vs, 1 ≤ w V) : ∀ (f f' m : Nat), m < f → m < f' → ∀ V ∈ Vs, Ge Vs w A f m V = Ge Vs w A f' m V
  | 0, _, _, h, _, _, _ => by omega
  | f + 1, 0, _, _, h, _, _ => by omega
  | f + 1, f' + 1, m, h, h', V, hV => by
    rw [Ge, Ge]
    by_cases hle : w V ≤ m
    · have := hw V hV
      rw [if_pos hle, if_pos hle, sm_congr fun U hU => by rw [Ge_stable hw f f' (m - w V) (by omega) (by omega) U hU]]
    · rw [if_neg hle, if_neg hle]
theorem ref_total {cm : Nat → Nat → Bool} (hs : Sym cm) {k : Nat} (hk : k ≤ 6) (h0 : 0 < k) {n : Nat} (hn : n ≠ 0) : sm (sts cm k) (rowv cm (sts cm k) (endsL cm (sts cm k) n) n) = cnt (clq cm k) n := by
  have hw : ∀ V ∈ stps (clK cm k), 1 ≤ pop V := fun V hV => by
    obtain ⟨h1, _, h3⟩ := mem_stps.1 hV
    exact pop_posS h1 h3
  refine ref_count hs hk h0 (fun m V => Ge (stps (clK cm k)) pop (aft (jay cm k)) (m + 1) m V) (fun m V hV => ?_) hn
  show Ge _ _ _ (m + 1) m V = _
  rw [Ge, Rs]
  by_cases hle : pop V ≤ m
  · have := hw V hV
    rw [if_pos hle, if_pos hle]
    congr 1
    refine sm_congr fun U hU => ?_
    rw [Ge_stable hw m (m - pop V + 1) (m - pop V) (by omega) (by omega) U hU]
  · rw [if_neg hle, if_neg hle]
end Go.Lm
