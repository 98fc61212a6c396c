/- The rounds of a search; what is kept from move to move. Mathematics alone. -/
import Derived.Test.YtngpoamjhngcgaaGreatDoorPmdQ5
namespace Go.Proofs.YtngpoamjhngcgaaGreatDoor.Ev

theorem mul_next {I J n : Nat} (hI : I < n) (hJ : J < n) : I * n + J + 1 ≤ n * n := by
  have h1 : (I + 1) * n ≤ n * n := Nat.mul_le_mul_right n hI
  rw [Nat.succ_mul] at h1
  omega
theorem BF.pas {d r : Nat → Nat → Int} {n : Nat} {st : Nat → Int} {x : St} (h : BF d r n st x) (hself : ∀ v, v < n → stp d r v v = none) (ht : x.t + n * n < 998) : BF d r n st (pas d r n x n) ∧ (Go.Proofs.YtngpoamjhngcgaaGreatDoor.Ev.pas d r n x n).t = x.t + n * n := by
  have := pas_ind (d := d) (r := r) (n := n) (x := x) (P := fun I J y => BF d r n st y ∧ y.t = x.t + I * n + J) ⟨h, by omega⟩ (fun I J y hi hj ⟨h1, h2⟩ => by
    have hm := mul_next hi hj
    exact ⟨h1.rl hself hi hj (by omega), by rw [rl_t]; omega⟩) (fun I y hi ⟨h1, h2⟩ => ⟨h1, by rw [Nat.succ_mul]; omega⟩) n (Nat.le_refl _)
  exact ⟨this.1, by have := this.2; omega⟩
/-- after k rounds of a search -/
structure Srch (d r : Nat → Nat → Int) (n : Nat) (st : Nat → Int) (k : Nat) (x : St) : Prop where
  bf : BF d r n st x
  stl : ∀ q, Pot d r n q → Stl d r n q k x.c
  t : x.t = k * (n * n)
theorem Srch.zero {d r : Nat → Nat → Int} {n : Nat} {st : Nat → Int} (h : ∀ v, v < n → st v = 0 ∨ st v = 1000) : Srch d r n st 0 ⟨st, fun _ => -1, false, fun _ => 0, 0⟩ :=
  ⟨BF.start h, fun q _ => Stl.zero, by simp⟩
theorem Srch.next {d r : Nat → Nat → Int} {n k : Nat} {st : Nat → Int} {x : St} (h : Srch d r n st k x) (hself : ∀ v, v < n → stp d r v v = none) (hn : n ≤ 8) (hk : k < 8) : Srch d r n st (k + 1) (pas d r n { x with f := false } n) := by
  have hnn : n * n ≤ 64 := Nat.mul_le_mul hn hn
  have hkn : k * (n * n) ≤ 7 * 64 := Nat.mul_le_mul (by omega) hnn
  have ht := h.t
  obtain ⟨b1, b2⟩ := (h.bf.f false).pas hself (by show x.t + n * n < 998; omega)
  refine ⟨b1, fun q hq => (h.stl q hq).pas (x := { x with f := false }) hq, ?_⟩
  rw [b2, Nat.succ_mul]
  show x.t + n * n = _
  omega
theorem Srch.cheap {d r : Nat → Nat → Int} {n k : Nat} {st : Nat → Int} {x : St} (h : Srch d r n st k x) (hn : n ≤ 8) (hk : k ≤ 8) (hf : Fix d r n x.c) : Cheap d r n st x.c x.b x.T := by
  have hnn : n * n ≤ 64 := Nat.mul_le_mul hn hn
  have hkn : k * (n * n) ≤ 8 * 64 := Nat.mul_le_mul hk hnn
  have ht := h.t
  exact h.bf.cheap hf (by omega)

/-- what is kept from move to move -/
structure Can (d r : Nat → Nat → Int) (n : Nat) : Prop where
  bd : Bd d r n
  pot : ∃ q, Pot d r n q
theorem Can.zero {d : Nat → Nat → Int} {n : Nat} (h : ∀ i j, i < n → j < n → 0 ≤ d i j) : Can d (fun _ _ => 0) n :=
  ⟨fun i j hi hj => ⟨Int.le_refl _, h i j hi hj⟩, fun _ => 0, fun i j s hi hj hs => by
    unfold stp at hs
    rw [if_neg (Int.lt_irrefl _)] at hs
    split at hs
    · injection hs with hs
      show (0 : Int) ≤ 0 + s
      omega
    · exact absurd hs (by simp)⟩
theorem Can.self {d r : Nat → Nat → Int} {n : Nat} (h : Can d r n) (hd : ∀ i, i < n → d i i = 0) : ∀ v, v < n → stp d r v v = none := fun v hv => by
  have := h.bd v v hv hv
  have := hd v hv
  unfold stp
  rw [if_neg (by omega), if_neg (by omega)]
theorem opn_zero {d : Nat → Nat → Int} {n v : Nat} : opn d (fun _ _ => 0) n v = bl n d v := by
  unfold opn
  have : bl n (fun _ _ => 0) v = 0 := by unfold bl; rw [sm_zero]; rfl
  rw [this, Int.sub_zero]
/-- all moves along a way -/
theorem Can.moves {d r r' : Nat → Nat → Int} {n : Nat} {o st c b : Nat → Int} {T : Nat → Nat} {w : List Nat} {q : Nat → Int} {a : Int} {m : Nat} (hq : Mvd d r n q w a m r') (ho : ∀ v, v < n → o v = opn d r n v) (hij : w.getD 0 0 ≠ w.getD m 0) :
    Can d r' n ∧ ∀ v, v < n → upf (upf o (w.getD 0 0) (o (w.getD 0 0) - a)) (w.getD m 0) (o (w.getD m 0) + a) v = opn d r' n v := by
  refine ⟨⟨hq.bd, q, hq.pot⟩, fun v hv => ?_⟩
  have hb := hq.bal v
  have h0 := ho v hv
  unfold opn at h0 ⊢
  rw [hb]
  by_cases g1 : v = w.getD m 0
  · rw [if_neg (fun g => hij (g.symm.trans g1)), if_pos g1, g1, upf_same, ← g1]
    omega
  · by_cases g2 : v = w.getD 0 0
    · rw [if_neg g1, if_pos g2, upf_other g1, g2, upf_same, ← g2]
      omega
    · rw [if_neg g1, if_neg g2, upf_other g1, upf_other g2]
      omega
/-- potentials of which the costs are a part -/
theorem Can.mix {d r : Nat → Nat → Int} {n : Nat} {st c b : Nat → Int} {T : Nat → Nat} (h : Can d r n) (hc : Cheap d r n st c b T) : ∃ q, Pot d r n q ∧ ∀ v, v < n → c v < 1000 → q v = c v := by
  obtain ⟨q, hq⟩ := h.pot
  obtain ⟨K, hK⟩ := low_bound (q := q) n
  exact ⟨_, mix_pot hc hq hK, fun v _ hv => if_pos hv⟩
end Go.Proofs.YtngpoamjhngcgaaGreatDoor.Ev

