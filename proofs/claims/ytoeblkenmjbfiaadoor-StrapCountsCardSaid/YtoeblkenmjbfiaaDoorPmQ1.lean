/- Pairs of a list and their distances; counts. Mathematics alone. -/
namespace Go.Proofs.YtoeblkenmjbfiaaDoor.Ev

/-- how many are so far below -/
def dnc (b d : Int) (l : List Int) : Nat := l.countP fun a => decide (b - a = d)
/-- how many pairs have that distance -/
def dpc (d : Int) : List Int → Nat
  | [] => 0
  | a :: l => (l.countP fun b => decide (b - a = d)) + dpc d l
theorem dpc_snoc {d b : Int} : ∀ l : List Int, dpc d (l ++ [b]) = dpc d l + dnc b d l
  | [] => rfl
  | a :: l => by
    have := dpc_snoc (d := d) (b := b) l
    simp only [List.cons_append, dpc, dnc, List.countP_append, List.countP_cons, List.countP_nil] at this ⊢
    omega
theorem countP_le' {α : Type} {p : α → Bool} {l : List α} : l.countP p ≤ l.length := List.countP_le_length
theorem dpc_le {d : Int} : ∀ l : List Int, dpc d l ≤ l.length * l.length
  | [] => Nat.le_refl _
  | a :: l => by
    have h1 := dpc_le (d := d) l
    have h2 : (l.countP fun b => decide (b - a = d)) ≤ l.length := countP_le'
    have h3 : (l.length + 1) * (l.length + 1) = l.length * l.length + 2 * l.length + 1 := by
      rw [Nat.add_mul, Nat.mul_add]; omega
    simp only [dpc, List.length_cons, h3]
    omega

/-- sums -/
def sm (f : Nat → Nat) : Nat → Nat
  | 0 => 0
  | n + 1 => sm f n + f n
theorem sm_congr {f g : Nat → Nat} : ∀ n, (∀ i, i < n → f i = g i) → sm f n = sm g n
  | 0, _ => rfl
  | n + 1, h => by rw [sm, sm, sm_congr n fun i hi => h i (by omega), h n (by omega)]
theorem sm_shift {f : Nat → Nat} : ∀ n, sm f (n + 1) = f 0 + sm (fun i => f (i + 1)) n
  | 0 => by simp [sm]
  | n + 1 => by rw [sm, sm_shift n, sm]; omega
theorem sm_add {f g : Nat → Nat} : ∀ n, sm (fun i => f i + g i) n = sm f n + sm g n
  | 0 => rfl
  | n + 1 => by rw [sm, sm, sm, sm_add n]; omega

end Go.Proofs.YtoeblkenmjbfiaaDoor.Ev

