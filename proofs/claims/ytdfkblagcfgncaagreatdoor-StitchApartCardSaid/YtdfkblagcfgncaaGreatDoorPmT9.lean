/- Letters with their heights, as a list of pairs; rows. Mathematics alone. -/
import Derived.Test.YtdfkblagcfgncaaGreatDoorPmT8
namespace Go.Proofs.YtdfkblagcfgncaaGreatDoor.Ev
variable {cm : Nat → Nat → Bool}

theorem foldl_perm {α β : Type} {f : β → α → β} (hf : ∀ m p q, f (f m p) q = f (f m q) p) {a b : List α} (h : a.Perm b) : ∀ m, a.foldl f m = b.foldl f m := by
  induction h with
  | nil => intro m; rfl
  | cons x _ ih => intro m; exact ih _
  | swap x y l => intro m; simp only [List.foldl_cons, hf]
  | trans _ _ h1 h2 => intro m; exact (h1 m).trans (h2 m)

/-- the height of a letter over others -/
def tp (cm : Nat → Nat → Bool) (c : UInt8) (ps : List (UInt8 × Nat)) : Nat := ps.foldl (fun m p => if cm (lt p.1) (lt c) = true then m else max m (p.2 + 1)) 1
theorem tp_snoc {c : UInt8} {ps : List (UInt8 × Nat)} {p : UInt8 × Nat} : tp cm c (ps ++ [p]) = if cm (lt p.1) (lt c) = true then tp cm c ps else max (tp cm c ps) (p.2 + 1) := by
  simp [tp, List.foldl_append]
theorem tp_perm {c : UInt8} {ps qs : List (UInt8 × Nat)} (h : ps.Perm qs) : tp cm c ps = tp cm c qs := by
  unfold tp
  refine foldl_perm (fun m p q => ?_) h 1
  by_cases h1 : cm (lt p.1) (lt c) = true <;> by_cases h2 : cm (lt q.1) (lt c) = true <;> simp only [h1, h2, if_true, Bool.false_eq_true, reduceIte] <;> omega
/-- letters with their heights, behind others -/
def hpF (cm : Nat → Nat → Bool) : List (UInt8 × Nat) → List UInt8 → List (UInt8 × Nat)
  | ps, [] => ps
  | ps, c :: l => hpF cm (ps ++ [(c, tp cm c ps)]) l
theorem hpF_perm : ∀ (l : List UInt8) {ps qs : List (UInt8 × Nat)}, ps.Perm qs → (hpF cm ps l).Perm (hpF cm qs l)
  | [], _, _, h => h
  | c :: l, ps, qs, h => hpF_perm l (by rw [tp_perm h]; exact h.append_right _)
theorem hpF_append : ∀ (a b : List UInt8) (ps : List (UInt8 × Nat)), hpF cm ps (a ++ b) = hpF cm (hpF cm ps a) b
  | [], _, _ => rfl
  | _ :: a, b, _ => hpF_append a b _
def hp (cm : Nat → Nat → Bool) (l : List UInt8) : List (UInt8 × Nat) := hpF cm [] l
theorem hp_snoc {l : List UInt8} {c : UInt8} : hp cm (l ++ [c]) = hp cm l ++ [(c, tp cm c (hp cm l))] := by
  unfold hp; rw [hpF_append]; rfl

/-- as the heights by places -/
def hpi (cm : Nat → Nat → Bool) (l : List UInt8) (i : Nat) : List (UInt8 × Nat) := (List.range i).map fun j => (l.getD j 0, ht cm l j)
theorem hpi_succ {l : List UInt8} {i : Nat} : hpi cm l (i + 1) = hpi cm l i ++ [(l.getD i 0, ht cm l i)] := by simp [hpi, List.range_succ]
theorem hR_tp {l : List UInt8} {c : UInt8} {i : Nat} : ∀ {k : Nat}, k ≤ i → hR cm l (hts cm l i) c k = tp cm c (hpi cm l k)
  | 0, _ => rfl
  | k + 1, h => by
    rw [hR, hpi_succ, tp_snoc, hR_tp (show k ≤ i by omega), hts_getD (by omega)]
theorem ht_tp {l : List UInt8} {i : Nat} : ht cm l i = tp cm (l.getD i 0) (hpi cm l i) := hR_tp (Nat.le_refl _)
theorem hp_take {l : List UInt8} : ∀ {i : Nat}, i ≤ l.length → hp cm (l.take i) = hpi cm l i
  | 0, _ => by simp [hp, hpF, hpi]
  | i + 1, h => by
    have e : l.take (i + 1) = l.take i ++ [l.getD i 0] := by
      rw [List.take_add_one, List.getElem?_eq_getElem (by omega), List.getD_eq_getElem?_getD, List.getElem?_eq_getElem (by omega)]; rfl
    rw [e, hp_snoc, hp_take (show i ≤ l.length by omega), hpi_succ, ht_tp]
theorem hp_hpi {l : List UInt8} : hp cm l = hpi cm l l.length := by
  have := hp_take (cm := cm) (l := l) (Nat.le_refl l.length)
  rwa [List.take_length] at this

/-- the letters of a height -/
def row (ps : List (UInt8 × Nat)) (n : Nat) : List UInt8 := (ps.filter fun p => decide (p.2 = n)).map Prod.fst
/-- the greatest height -/
def mxp (ps : List (UInt8 × Nat)) : Nat := ps.foldl (fun m p => max m p.2) 0
theorem mxp_snoc {ps : List (UInt8 × Nat)} {p : UInt8 × Nat} : mxp (ps ++ [p]) = max (mxp ps) p.2 := by simp [mxp, List.foldl_append]
theorem mxp_perm {ps qs : List (UInt8 × Nat)} (h : ps.Perm qs) : mxp ps = mxp qs := by
  unfold mxp
  exact foldl_perm (fun m p q => by show max (max m p.2) q.2 = max (max m q.2) p.2; omega) h 0
theorem mx_mxp {l : List UInt8} : ∀ {i : Nat}, mx cm l i = mxp (hpi cm l i)
  | 0 => rfl
  | i + 1 => by rw [mx, hpi_succ, mxp_snoc, mx_mxp]

end Go.Proofs.YtdfkblagcfgncaaGreatDoor.Ev

