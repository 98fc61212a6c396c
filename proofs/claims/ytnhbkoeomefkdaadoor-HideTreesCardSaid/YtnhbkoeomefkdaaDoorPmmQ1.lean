/- Sets of jobs as numbers; what is gathered over all sets. Mathematics alone. -/
namespace Go.Proofs.YtnhbkoeomefkdaaDoor.Ev

/-- the bits of a that b does not have -/
def an (a b : Nat) : Nat := a ^^^ (a &&& b)
theorem or_tb {d j i : Nat} : (d ||| 2 ^ j).testBit i = (d.testBit i || decide (j = i)) := by
  rw [Nat.testBit_or, Nat.testBit_two_pow]
theorem or_lt {d j n : Nat} (hd : d < 2 ^ n) (hj : j < n) : d ||| 2 ^ j < 2 ^ n :=
  Nat.or_lt_two_pow hd (Nat.pow_lt_pow_right (by omega) hj)
/-- the jobs that can be done next -/
def rdy (bf : Nat → Nat) (n S : Nat) : List Nat := (List.range n).filter fun j => !S.testBit j && an (bf j) S == 0
theorem mem_rdy {bf : Nat → Nat} {n S j : Nat} : j ∈ rdy bf n S ↔ j < n ∧ S.testBit j = false ∧ an (bf j) S = 0 := by
  simp [rdy]
section
variable {T : Type} (w : T → Nat → T) (jn : T → T → T) (n : Nat) (bf : Nat → Nat)

def gup (f : Nat → Option T) (k : Nat) (v : Option T) : Nat → Option T := fun x => if x = k then v else f x
def comb (o : Option T) (x : T) : T := match o with
  | some y => jn y x
  | none => x
def one (here : T) (d : Nat) (f : Nat → Option T) (j : Nat) : Nat → Option T := gup f (d ||| 2 ^ j) (some (comb jn (f (d ||| 2 ^ j)) (w here j)))
variable {w jn n bf} {z : T}
end

/-- an order of the jobs of a set -/
inductive Ord (bf : Nat → Nat) (n : Nat) : List Nat → Nat → Prop
  | nil : Ord bf n [] 0
  | snoc {l : List Nat} {S j : Nat} : Ord bf n l S → j ∈ rdy bf n S → Ord bf n (l ++ [j]) (S ||| 2 ^ j)

section
variable {bf : Nat → Nat} {n : Nat}
theorem Ord.lt {l : List Nat} {S : Nat} (h : Ord bf n l S) : S < 2 ^ n := by
  induction h with
  | nil => exact Nat.two_pow_pos n
  | snoc _ hj ih => exact or_lt ih (mem_rdy.1 hj).1
theorem Ord.mem {l : List Nat} {S : Nat} (h : Ord bf n l S) : ∀ i, i ∈ l ↔ S.testBit i = true := by
  induction h with
  | nil => intro i; simp
  | snoc _ hj ih =>
    intro i
    rw [List.mem_append, ih i, or_tb, List.mem_singleton, Bool.or_eq_true, decide_eq_true_eq]
    constructor <;> (rintro (h | h); exact .inl h; exact .inr h.symm)
theorem Ord.nodup {l : List Nat} {S : Nat} (h : Ord bf n l S) : l.Nodup := by
  induction h with
  | nil => exact List.nodup_nil
  | @snoc l S j ho hj ih =>
    rw [List.nodup_append]
    refine ⟨ih, by simp, ?_⟩
    intro a ha b hb
    simp at hb
    subst hb
    intro e
    subst e
    have := (ho.mem a).1 ha
    rw [(mem_rdy.1 hj).2.1] at this
    cases this
theorem Ord.perm {l m : List Nat} {S : Nat} (h : Ord bf n l S) (h' : Ord bf n m S) : l.Perm m :=
  (List.perm_ext_iff_of_nodup h.nodup h'.nodup).2 fun a => by rw [h.mem, h'.mem]

variable {le : List Nat → List Nat → Prop} {jn : List Nat → List Nat → List Nat}
end
end Go.Proofs.YtnhbkoeomefkdaaDoor.Ev

