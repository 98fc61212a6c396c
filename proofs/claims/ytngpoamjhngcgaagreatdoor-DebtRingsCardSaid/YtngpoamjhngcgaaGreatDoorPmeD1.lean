/- What a step costs; how much can be moved; a move. -/
import Derived.Test.YtngpoamjhngcgaaGreatDoorPmeW
set_option linter.unusedVariables false
set_option linter.unusedSimpArgs false
namespace Go.Proofs.YtngpoamjhngcgaaGreatDoor.Ev
open Go Go.Proofs
noncomputable section

def costV (d r : Nat → Nat → Int) (i j : Nat) : Value := if 0 < r j i then .tuple #[.int .i64 (-1), .bool true] else .tuple #[.int .i64 1, .bool (decide (r i j < d i j))]
theorem costV_some {d r : Nat → Nat → Int} {i j : Nat} {s : Int} (h : stp d r i j = some s) : costV d r i j = .tuple #[.int .i64 s, .bool true] := by
  unfold stp at h
  unfold costV
  split at h
  · rename_i h0
    injection h with h
    subst h
    rw [if_pos h0]
  · rename_i h0
    rw [if_neg h0]
    split at h
    · rename_i h1
      injection h with h
      subst h
      rw [decide_eq_true h1]
    · exact absurd h (by simp)
theorem costV_none {d r : Nat → Nat → Int} {i j : Nat} (h : stp d r i j = none) : costV d r i j = .tuple #[.int .i64 1, .bool false] := by
  unfold stp at h
  unfold costV
  split at h
  · exact absurd h (by simp)
  · rename_i h0
    rw [if_neg h0]
    split at h
    · exact absurd h (by simp)
    · rename_i h1
      rw [decide_eq_false h1]

section
variable {G lo hi lo2 hi2 n c c2 i j : Nat} {g g2 : Nat → Nat} {d r : Nat → Nat → Int} {RA RA2 : Nat → Option Addr} {rc rc2 : Nat → Nat} {A A2 : Option Addr} {h : H}
theorem cost_spec (hm : MatV h.blks lo hi n g d RA rc (.slice A n c)) (hg : ∀ i, i < n → g i = n) (hm2 : MatV h.blks lo2 hi2 n g2 r RA2 rc2 (.slice A2 n c2)) (hg2 : ∀ i, i < n → g2 i = n) (hn : n ≤ 8) (hi' : i < n) (hj : j < n) :
    Spec Tryz.prog (En G) 105 [.slice A n c, .slice A2 n c2, .int .i64 (i : Int), .int .i64 (j : Int)] h fun v h' => v = costV d r i j ∧ h' = h := by
  refine CallsE_enter (En_known (by decide)) (En_f.trans Tryz.func105) rfl ⟨Nat.le_of_ble_eq_true rfl, by decide⟩ fun Q' hQ' => ?_
  obtain ⟨bd, od, rfl, hd⟩ := hm.acc hg (by omega)
  obtain ⟨br, orr, rfl, hr⟩ := hm2.acc hg2 (by omega)
  obtain ⟨x1, y1, d1, d2⟩ := hd i hi'
  obtain ⟨x2, y2, r1, r2⟩ := hr i hi'
  obtain ⟨x3, y3, s1, s2⟩ := hr j hj
  have dij := d2 j hj
  have rij := r2 j hj
  have rji := s2 i hi'
  by_cases h0 : 0 < r j i
  · simp (disch := omega) only [Tryz.f105, go_sem,reduceIte,Nat.reduceEqDiff,Nat.reduceLT, idxA22, idxA23, load22, load23, load3, Int.toNat_natCast, Nat.mul_one, s1, rji, h0]
    exact hQ' _ _ ⟨Pres.refl _ _, by unfold costV; rw [if_pos h0], rfl⟩
  · simp (disch := omega) only [Tryz.f105, go_sem,reduceIte,Nat.reduceEqDiff,Nat.reduceLT, idxA22, idxA23, load22, load23, load3, Int.toNat_natCast, Nat.mul_one, s1, rji, h0]
    refine WK_regionT 16 ⟨by kernel_rfl, by kernel_rfl, by kernel_rfl⟩ ?_
    simp (disch := omega) only [go_sem,reduceIte,Nat.reduceEqDiff,Nat.reduceLT, idxA22, idxA23, load22, load23, load3, Int.toNat_natCast, Nat.mul_one, d1, dij, r1, rij]
    exact hQ' _ _ ⟨Pres.refl _ _, by unfold costV; rw [if_neg h0], rfl⟩
theorem room_spec (hm : MatV h.blks lo hi n g d RA rc (.slice A n c)) (hg : ∀ i, i < n → g i = n) (hm2 : MatV h.blks lo2 hi2 n g2 r RA2 rc2 (.slice A2 n c2)) (hg2 : ∀ i, i < n → g2 i = n) (hn : n ≤ 8) (hi' : i < n) (hj : j < n) (hb : Bd d r n) (hd1 : d i j ≤ 1000) :
    Spec Tryz.prog (En G) 102 [.slice A n c, .slice A2 n c2, .int .i64 (i : Int), .int .i64 (j : Int)] h fun v h' => v = .int .i64 (room d r i j) ∧ h' = h := by
  refine CallsE_enter (En_known (by decide)) (En_f.trans Tryz.func102) rfl ⟨Nat.le_of_ble_eq_true rfl, by decide⟩ fun Q' hQ' => ?_
  obtain ⟨bd, od, rfl, hd⟩ := hm.acc hg (by omega)
  obtain ⟨br, orr, rfl, hr⟩ := hm2.acc hg2 (by omega)
  obtain ⟨x1, y1, d1, d2⟩ := hd i hi'
  obtain ⟨x2, y2, r1, r2⟩ := hr i hi'
  obtain ⟨x3, y3, s1, s2⟩ := hr j hj
  have dij := d2 j hj
  have rij := r2 j hj
  have rji := s2 i hi'
  have hbij := hb i j hi' hj
  by_cases h0 : 0 < r j i
  · simp (disch := omega) only [Tryz.f102, go_sem,reduceIte,Nat.reduceEqDiff,Nat.reduceLT, idxA22, idxA23, load22, load23, load3, Int.toNat_natCast, Nat.mul_one, s1, rji, h0]
    exact hQ' _ _ ⟨Pres.refl _ _, by unfold room; rw [if_pos h0], rfl⟩
  · simp (disch := omega) only [Tryz.f102, go_sem,reduceIte,Nat.reduceEqDiff,Nat.reduceLT, idxA22, idxA23, load22, load23, load3, Int.toNat_natCast, Nat.mul_one, s1, rji, h0]
    refine WK_regionT 14 ⟨by kernel_rfl, by kernel_rfl, by kernel_rfl⟩ ?_
    simp (disch := omega) only [go_sem,reduceIte,Nat.reduceEqDiff,Nat.reduceLT, idxA22, idxA23, load22, load23, load3, Int.toNat_natCast, Nat.mul_one, d1, dij, r1, rij, wrap_i64]
    exact hQ' _ _ ⟨Pres.refl _ _, by unfold room; rw [if_neg h0], rfl⟩
end
/-- what is written lies between -/
structure Wri (lo hi : Nat) (h h' : H) : Prop where
  next : h'.next = h.next
  wm : min h.wm lo ≤ h'.wm
  get : ∀ b, b < lo ∨ hi ≤ b → h'.blks.get b = h.blks.get b
theorem Wri.refl {lo hi : Nat} {h : H} : Wri lo hi h h := ⟨rfl, Nat.min_le_left _ _, fun _ _ => rfl⟩
theorem Wri.trans {lo hi : Nat} {h h1 h2 : H} (a : Wri lo hi h h1) (b : Wri lo hi h1 h2) : Wri lo hi h h2 := ⟨b.next.trans a.next, by have := a.wm; have := b.wm; omega, fun x hx => (b.get x hx).trans (a.get x hx)⟩
theorem Wri.pres {lo hi m : Nat} {h h' : H} (a : Wri lo hi h h') (hm : m ≤ lo) : Pres m h h' := ⟨by rw [a.next]; exact Nat.le_refl _, by have := a.wm; omega, fun b hb => a.get b (.inl (by omega))⟩
theorem Sto.wri {h h' : H} {b off lo hi : Nat} {vs : List Value} (a : Sto h h' b off vs) (h1 : lo ≤ b) (h2 : b < hi) : Wri lo hi h h' := ⟨a.next, by have := a.wm; omega, fun x hx => a.get x (by omega)⟩
set_option maxHeartbeats 4000000 in
theorem move_spec {G lo hi n c i j : Nat} {r : Nat → Nat → Int} {a : Int} {R O rc : Nat → Nat} {A : Option Addr} {h : H} (hG : G ≤ lo) (hm : MatW h.blks lo hi n n r R O rc (.slice A n c)) (hn : n ≤ 8) (hi' : i < n) (hj : j < n) (hr : ∀ i j, i < n → j < n → 0 ≤ r i j ∧ r i j ≤ 1000) (ha : 0 ≤ a ∧ a ≤ 1000000) :
    CallsE Tryz.prog (En G) 103 [.slice A n c, .int .i64 (i : Int), .int .i64 (j : Int), .int .i64 a] h fun v h' => MatW h'.blks lo hi n n (mv r i j a) R O rc (.slice A n c) ∧ Wri lo hi h h' := by
  refine CallsE_enter (En_known (by decide)) (En_f.trans Tryz.func103) rfl ⟨Nat.le_of_ble_eq_true rfl, by decide⟩ fun Q' hQ' => ?_
  obtain ⟨br, orr, rfl, hld⟩ := hm.at_ (by omega)
  have l1 := hld i hi'
  have l2 := hld j hj
  have rij := hm.cell hi' hj
  have rji := hm.cell hj hi'
  have b1 := hr i j hi' hj
  have b2 := hr j i hj hi'
  obtain ⟨w1, w2, ci, si, w3, w4, _⟩ := hm.row i hi'
  obtain ⟨v1, v2, cj, sj, v3, v4, _⟩ := hm.row j hj
  by_cases h0 : 0 < r j i
  · simp (disch := omega) only [Tryz.f103, go_sem,reduceIte,Nat.reduceEqDiff,Nat.reduceLT, idxA22, idxA23, load22, load23, load3, Int.toNat_natCast, Nat.mul_one, l2, rji, h0, wrap_i64]
    refine At_store (inf := inf3) (b := R j) (off := O j + i) (v := .int .i64 (r j i - a)) i3 (by simp only [go_sem,reduceIte,Nat.reduceEqDiff,Nat.reduceLT]) (by simp only [go_sem,reduceIte,Nat.reduceEqDiff,Nat.reduceLT]) (by rw [size3]; rfl) rfl v3 (by rw [size3]; omega) (by rw [En_G]; omega) fun h2 hs2 => ?_
    have hw2 := hm.sto hj hs2
    simp only [go_sem,reduceIte,Nat.reduceEqDiff,Nat.reduceLT]
    refine hQ' _ _ ⟨?_, hs2.wri v1 v2⟩
    unfold mv
    rw [if_pos h0]
    exact hw2
  · simp (disch := omega) only [Tryz.f103, go_sem,reduceIte,Nat.reduceEqDiff,Nat.reduceLT, idxA22, idxA23, load22, load23, load3, Int.toNat_natCast, Nat.mul_one, l1, l2, rij, rji, h0, wrap_i64]
    refine At_store (inf := inf3) (b := R i) (off := O i + j) (v := .int .i64 (r i j + a)) i3 (by simp only [go_sem,reduceIte,Nat.reduceEqDiff,Nat.reduceLT]) (by simp only [go_sem,reduceIte,Nat.reduceEqDiff,Nat.reduceLT]) (by rw [size3]; rfl) rfl w3 (by rw [size3]; omega) (by rw [En_G]; omega) fun h2 hs2 => ?_
    have hw2 := hm.sto hi' hs2
    simp only [go_sem,reduceIte,Nat.reduceEqDiff,Nat.reduceLT]
    refine hQ' _ _ ⟨?_, hs2.wri w1 w2⟩
    unfold mv
    rw [if_neg h0]
    exact hw2
end
end Go.Proofs.YtngpoamjhngcgaaGreatDoor.Ev

