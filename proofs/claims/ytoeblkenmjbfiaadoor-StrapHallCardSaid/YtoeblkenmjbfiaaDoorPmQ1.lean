/- Pairs of a list and their distances; counts. Mathematics alone. -/
namespace Go.Proofs.YtoeblkenmjbfiaaDoor.Ev

/-- how many are so far below -/
def dnc (b d : Int) (l : List Int) : Nat := l.countP fun a => decide (b - a = d)
/-- how many pairs have that distance -/
def dpc (d : Int) : List Int → Nat
  | [] => 0
  | a :: l => (l.countP fun b => decide (b - a = d)) + dpc d l
theorem dpc_snoc {d b : Int} : ∀ l : List Int, dpc d (l ++ [b]) = dpc d l + dnc b d l
  | [] => rfl
  | a :: l => by
    have := dpc_snoc (d := d) (b := b) l
    simp only [List.cons_append, dpc, dnc, List.countP_append, List.countP_cons, List.countP_nil] at this ⊢
    omega
theorem countP_le' {α : Type} {p : α → Bool} {l : List α} : l.countP p ≤ l.length := List.countP_le_length
theorem dpc_le {d : Int} : ∀ l : List Int, dpc d l ≤ l.length * l.length
  | [] => Nat.le_refl _
  | a :: l => by
    have h1 := dpc_le (d := d) l
    have h2 : (l.countP fun b => decide (b - a = d)) ≤ l.length := countP_le'
    have h3 : (l.length + 1) * (l.length + 1) = l.length * l.length + 2 * l.length + 1 := by
      rw [Nat.add_mul, Nat.mul_add]; omega
    simp only [dpc, List.length_cons, h3]
    omega

end Go.Proofs.YtoeblkenmjbfiaaDoor.Ev

