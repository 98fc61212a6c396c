/- Pairs of a list and their distances; counts. Mathematics alone. -/
namespace Go.Proofs.Ytlhpjnopkfndfaa.Ev

/-- how many are so far below -/
def dnc (b d : Int) (l : List Int) : Nat := l.countP fun a => decide (b - a = d)
/-- how many pairs have that distance -/
def dpc (d : Int) : List Int → Nat
  | [] => 0
  | a :: l => (l.countP fun b => decide (b - a = d)) + dpc d l
theorem dpc_snoc {d b : Int} : ∀ l : List Int, dpc d (l ++ [b]) = dpc d l + dnc b d l
  | [] => rfl
  | a :: l => by
    have := dpc_snoc (d := d) (b := b) l
    simp only [List.cons_append, dpc, dnc, List.countP_append, List.countP_cons, List.countP_nil] at this ⊢
    omega
/-- counted from the other end -/
def mir (L : Int) (l : List Int) : List Int := l.reverse.map (L - ·)
theorem dpc_mir {d L : Int} : ∀ l : List Int, dpc d (mir L l) = dpc d l
  | [] => rfl
  | a :: l => by
    have ih := dpc_mir (d := d) (L := L) l
    have e : mir L (a :: l) = mir L l ++ [L - a] := by simp [mir]
    rw [e, dpc_snoc, ih, dpc]
    have : dnc (L - a) d (mir L l) = l.countP fun b => decide (b - a = d) := by
      unfold dnc mir
      rw [List.countP_map, List.countP_reverse]
      congr 1
      funext b
      show decide (L - a - (L - b) = d) = decide (b - a = d)
      rw [show L - a - (L - b) = b - a by omega]
    omega
theorem countP_le' {α : Type} {p : α → Bool} {l : List α} : l.countP p ≤ l.length := List.countP_le_length
theorem dpc_le {d : Int} : ∀ l : List Int, dpc d l ≤ l.length * l.length
  | [] => Nat.le_refl _
  | a :: l => by
    have h1 := dpc_le (d := d) l
    have h2 : (l.countP fun b => decide (b - a = d)) ≤ l.length := countP_le'
    have h3 : (l.length + 1) * (l.length + 1) = l.length * l.length + 2 * l.length + 1 := by
      rw [Nat.add_mul, Nat.mul_add]; omega
    simp only [dpc, List.length_cons, h3]
    omega

/-- a function's values as a list -/
def tbl (n : Nat) (f : Nat → Nat) : List Int := (List.range n).map fun d => (f d : Int)
theorem tbl_len {n : Nat} {f : Nat → Nat} : (tbl n f).length = n := by simp [tbl]
theorem tbl_get {n i : Nat} {f : Nat → Nat} (h : i < n) : (tbl n f)[i]? = some (f i : Int) := by simp [tbl, h]
theorem tbl_set {n i : Nat} {f g : Nat → Nat} {z : Int} (hi : i < n) (hz : z = g i) (h : ∀ d, d < n → d ≠ i → f d = g d) : (tbl n f).set i z = tbl n g := by
  apply List.ext_getElem?
  intro j
  by_cases hj : j < n
  · by_cases hji : j = i
    · subst hji
      rw [List.getElem?_set_self (by rw [tbl_len]; exact hj), tbl_get hj, hz]
    · rw [List.getElem?_set_ne (Ne.symm hji), tbl_get hj, tbl_get hj, h j hj hji]
  · rw [List.getElem?_eq_none (by rw [List.length_set, tbl_len]; omega), List.getElem?_eq_none (by rw [tbl_len]; omega)]
theorem tbl_congr {n : Nat} {f g : Nat → Nat} (h : ∀ d, d < n → f d = g d) : tbl n f = tbl n g := by
  apply List.map_congr_left
  intro d hd
  rw [h d (List.mem_range.1 hd)]
theorem tbl_zero {n : Nat} : tbl n (fun _ => 0) = List.replicate n 0 := by
  apply List.ext_getElem?
  intro j
  by_cases hj : j < n
  · rw [tbl_get hj, List.getElem?_replicate, if_pos hj]; rfl
  · rw [List.getElem?_eq_none (by rw [tbl_len]; omega), List.getElem?_eq_none (by simp; omega)]

/-- sums -/
def sm (f : Nat → Nat) : Nat → Nat
  | 0 => 0
  | n + 1 => sm f n + f n
theorem sm_congr {f g : Nat → Nat} : ∀ n, (∀ i, i < n → f i = g i) → sm f n = sm g n
  | 0, _ => rfl
  | n + 1, h => by rw [sm, sm, sm_congr n fun i hi => h i (by omega), h n (by omega)]
theorem sm_shift {f : Nat → Nat} : ∀ n, sm f (n + 1) = f 0 + sm (fun i => f (i + 1)) n
  | 0 => by simp [sm]
  | n + 1 => by rw [sm, sm_shift n, sm]; omega
theorem sm_add {f g : Nat → Nat} : ∀ n, sm (fun i => f i + g i) n = sm f n + sm g n
  | 0 => rfl
  | n + 1 => by rw [sm, sm, sm, sm_add n]; omega

theorem dpc_down {d : Int} (l : List Int) : ∀ n, n ≤ l.length → dpc d (l.take n) = sm (fun i => dnc (l.getD i 0) d (l.take i)) n
  | 0, _ => rfl
  | n + 1, h => by
    have e : l.take (n + 1) = l.take n ++ [l.getD n 0] := by
      rw [List.take_add_one, List.getElem?_eq_getElem (by omega)]
      simp [List.getD, show n < l.length by omega]
    rw [e, dpc_snoc, dpc_down l n (by omega), sm]
theorem dpc_up {d : Int} : ∀ l : List Int, dpc d l = sm (fun i => (l.drop (i + 1)).countP fun b => decide (b - l.getD i 0 = d)) l.length
  | [] => rfl
  | a :: l => by
    rw [dpc, dpc_up l, List.length_cons, sm_shift]
    rfl
end Go.Proofs.Ytlhpjnopkfndfaa.Ev
