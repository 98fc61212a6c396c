/- A cut covers its rectangle; laying its code gives it back in order. Mathematics alone. -/
import Derived.Test.YtnhbkoeomefkdaaDoorPmhLL
set_option linter.unusedVariables false
set_option linter.unusedSimpArgs false
namespace Go.Proofs.YtnhbkoeomefkdaaDoor.Ev.L
open Go Go.Proofs.YtnhbkoeomefkdaaDoor.Ev
noncomputable section

/-! sums -/
def sm : Nat → (Nat → Int) → Int
  | 0, _ => 0
  | n + 1, f => sm n f + f n
theorem sm_congr {n : Nat} {f g : Nat → Int} (h : ∀ i, i < n → f i = g i) : sm n f = sm n g := by
  induction n with
  | zero => rfl
  | succ n ih => rw [sm, sm, ih fun i hi => h i (by omega), h n (by omega)]
theorem sm_add {n : Nat} {f g : Nat → Int} : sm n (fun i => f i + g i) = sm n f + sm n g := by
  induction n with
  | zero => rfl
  | succ n ih => rw [sm, sm, sm, ih]; omega
theorem sm_mul {n : Nat} {c : Int} {f : Nat → Int} : sm n (fun i => c * f i) = c * sm n f := by
  induction n with
  | zero => simp [sm]
  | succ n ih => rw [sm, sm, ih, Int.mul_add]
theorem sm_const {n : Nat} {c : Int} : sm n (fun _ => c) = n * c := by
  induction n with
  | zero => simp [sm]
  | succ n ih =>
    rw [sm, ih]
    have : ((n + 1 : Nat) : Int) * c = n * c + c := by rw [Int.natCast_add, Int.add_mul]; simp
    rw [this]
theorem sm_nn {n : Nat} {f : Nat → Int} (h : ∀ i, i < n → 0 ≤ f i) : 0 ≤ sm n f := by
  induction n with
  | zero => exact Int.le_refl _
  | succ n ih =>
    rw [sm]
    have h1 := ih fun i hi => h i (by omega)
    have h2 := h n (by omega)
    omega
theorem sm_pos {n j : Nat} {f : Nat → Int} (h : ∀ i, i < n → 0 ≤ f i) (hj : j < n) (h1 : 1 ≤ f j) : 1 ≤ sm n f := by
  induction n with
  | zero => omega
  | succ n ih =>
    rw [sm]
    by_cases hjn : j = n
    · subst hjn
      have := sm_nn (n := j) (f := f) fun i hi => h i (by omega)
      omega
    · have h2 := ih (fun i hi => h i (by omega)) (by omega)
      have h3 := h n (by omega)
      omega
/-- one where a number lies in an interval -/
def iv (a s : Int) (i : Nat) : Int := if a ≤ i ∧ (i : Int) < a + s then 1 else 0
theorem sm_iv {a s : Int} {n : Nat} (ha : 0 ≤ a) (hs : 0 ≤ s) (hn : a + s ≤ n) : sm n (iv a s) = s := by
  have key : ∀ m : Nat, sm m (iv a s) = if (m : Int) ≤ a then 0 else if (m : Int) ≤ a + s then m - a else s := by
    intro m
    induction m with
    | zero => rw [sm, if_pos (by omega)]
    | succ m ih =>
      rw [sm, ih, iv]
      repeat' split
      all_goals omega
  rw [key n]
  repeat' split
  all_goals omega

/-- a square covers a cell -/
def ins (q : Sq) (x y : Nat) : Prop := (q.1 ≤ x ∧ (x : Int) < q.1 + q.2.2) ∧ q.2.1 ≤ y ∧ (y : Int) < q.2.1 + q.2.2
def cn : List Sq → Nat → Nat → Int
  | [], _, _ => 0
  | q :: L, x, y => iv q.1 q.2.2 x * iv q.2.1 q.2.2 y + cn L x y
theorem iv_in {q : Sq} {x y : Nat} (h : ins q x y) : iv q.1 q.2.2 x * iv q.2.1 q.2.2 y = 1 := by
  rw [iv, iv, if_pos h.1, if_pos h.2]; rfl
theorem iv_out {q : Sq} {x y : Nat} (h : ¬ ins q x y) : iv q.1 q.2.2 x * iv q.2.1 q.2.2 y = 0 := by
  rw [iv, iv]
  by_cases h1 : q.1 ≤ x ∧ (x : Int) < q.1 + q.2.2
  · rw [if_pos h1, if_neg fun h2 => h ⟨h1, h2⟩]; rfl
  · rw [if_neg h1, Int.zero_mul]
theorem cn_none : ∀ {L : List Sq} {x y : Nat}, (∀ q ∈ L, ¬ ins q x y) → cn L x y = 0
  | [], _, _, _ => rfl
  | q :: L, x, y, h => by
    rw [cn, iv_out (h q List.mem_cons_self), cn_none fun q hq => h q (List.mem_cons_of_mem _ hq)]; rfl
theorem ins_ovl {a b : Sq} {x y : Nat} (ha : ins a x y) (hb : ins b x y) : ovl a b := by
  obtain ⟨⟨a1, a2⟩, a3, a4⟩ := ha
  obtain ⟨⟨b1, b2⟩, b3, b4⟩ := hb
  unfold ovl
  omega
theorem cn_le : ∀ {L : List Sq} {x y : Nat}, (L.Pairwise fun a b => ¬ ovl a b) → cn L x y ≤ 1
  | [], _, _, _ => by show (0 : Int) ≤ 1; decide
  | q :: L, x, y, h => by
    obtain ⟨h1, h2⟩ := List.pairwise_cons.1 h
    rw [cn]
    by_cases hq : ins q x y
    · rw [iv_in hq, cn_none fun b hb hib => h1 b hb (ins_ovl hq hib)]; decide
    · rw [iv_out hq]
      have := cn_le (x := x) (y := y) h2
      omega
theorem are_from {L : List Sq} {c : Int} : L.foldl (fun a q => a + q.2.2 * q.2.2) c = c + are L := by
  induction L generalizing c with
  | nil => simp [are]
  | cons q L ih =>
    have h1 := ih (c := c + q.2.2 * q.2.2)
    have h2 := ih (c := 0 + q.2.2 * q.2.2)
    simp only [List.foldl_cons, are] at *
    rw [h1, h2]
    omega
theorem are_cons {L : List Sq} {q : Sq} : are (q :: L) = q.2.2 * q.2.2 + are L := by
  have := are_from (L := L) (c := 0 + q.2.2 * q.2.2)
  rw [are, List.foldl_cons, this]
  omega
theorem cn_sum {W H : Nat} : ∀ {L : List Sq}, (∀ q ∈ L, okSq q ∧ q.1 + q.2.2 ≤ W ∧ q.2.1 + q.2.2 ≤ H) → sm W (fun x => sm H fun y => cn L x y) = are L
  | [], _ => by
    have : sm W (fun _ => sm H fun _ => 0) = 0 := by
      rw [sm_const (n := H), Int.mul_zero, sm_const, Int.mul_zero]
    exact this
  | q :: L, h => by
    obtain ⟨⟨q1, q2, ⟨q3, q4⟩, q5, q6⟩, q7, q8⟩ := h q List.mem_cons_self
    have ih := cn_sum (W := W) (H := H) fun q hq => h q (List.mem_cons_of_mem _ hq)
    have e1 : ∀ x, sm H (fun y => cn (q :: L) x y) = q.2.2 * iv q.1 q.2.2 x + sm H fun y => cn L x y := fun x => by
      have : sm H (fun y => cn (q :: L) x y) = sm H (fun y => iv q.1 q.2.2 x * iv q.2.1 q.2.2 y + cn L x y) := rfl
      rw [this, sm_add, sm_mul]
      have := sm_iv (a := q.2.1) (s := q.2.2) (n := H) q5 (by omega) q8
      rw [show sm H (fun y => iv q.2.1 q.2.2 y) = sm H (iv q.2.1 q.2.2) from rfl, this, Int.mul_comm]
    rw [sm_congr (g := fun x => q.2.2 * iv q.1 q.2.2 x + sm H fun y => cn L x y) fun x _ => e1 x, sm_add, sm_mul, ih, are_cons]
    have := sm_iv (a := q.1) (s := q.2.2) (n := W) q3 (by omega) q7
    rw [show sm W (fun x => iv q.1 q.2.2 x) = sm W (iv q.1 q.2.2) from rfl, this]
/-- what has the area is covered -/
theorem covered {L : List Sq} {W H x y : Nat} (h : ∀ q ∈ L, okSq q ∧ q.1 + q.2.2 ≤ W ∧ q.2.1 + q.2.2 ≤ H) (hp : L.Pairwise fun a b => ¬ ovl a b) (ha : are L = W * H) (hx : x < W) (hy : y < H) : ∃ q ∈ L, ins q x y := by
  by_cases hn : ∃ q ∈ L, ins q x y
  · exact hn
  · exfalso
    have h0 : cn L x y = 0 := cn_none fun q hq hi => hn ⟨q, hq, hi⟩
    have hd : sm W (fun x => sm H fun y => 1 + (-1) * cn L x y) = 0 := by
      have e1 : ∀ x, sm H (fun y => 1 + (-1) * cn L x y) = H + (-1) * sm H fun y => cn L x y := fun x => by
        rw [sm_add (f := fun _ => 1) (g := fun y => (-1) * cn L x y), sm_const, sm_mul, Int.mul_one]
      rw [sm_congr (g := fun x => (H : Int) + (-1) * sm H fun y => cn L x y) fun x _ => e1 x, sm_add (f := fun _ => (H : Int)) (g := fun x => (-1) * sm H fun y => cn L x y), sm_const, sm_mul, cn_sum h, ha]
      omega
    have h1 : ∀ x y, 0 ≤ 1 + (-1) * cn L x y := fun x y => by
      have := cn_le (x := x) (y := y) hp
      omega
    have h2 : 1 ≤ sm W (fun x => sm H fun y => 1 + (-1) * cn L x y) := sm_pos (j := x) (fun i _ => sm_nn fun j _ => h1 i j) hx (sm_pos (j := y) (fun j _ => h1 x j) hy (by rw [h0]; decide))
    omega

theorem wid_ge : ∀ (L : List Sq), ∀ q ∈ L, q.1 + q.2.2 ≤ wid L ∧ q.2.1 + q.2.2 ≤ hei L := fun L => by
  refine snoc_ind (p := fun L => ∀ q ∈ L, q.1 + q.2.2 ≤ wid L ∧ q.2.1 + q.2.2 ≤ hei L) (fun q hq => by cases hq) (fun L q ih p hp => ?_) L
  rw [wid_snoc, hei_snoc]
  rcases List.mem_append.1 hp with hp | hp
  · have := ih p hp
    omega
  · rw [List.mem_singleton.1 hp]
    omega

end
end Go.Proofs.YtnhbkoeomefkdaaDoor.Ev.L

