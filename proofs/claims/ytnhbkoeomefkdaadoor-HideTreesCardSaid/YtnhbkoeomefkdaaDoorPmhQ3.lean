/- Cuts that are made: a row of equal squares is added at a side. Mathematics alone. -/
import Derived.Test.YtnhbkoeomefkdaaDoorPmhQ2
set_option linter.unusedVariables false
set_option linter.unusedSimpArgs false
namespace Go.Proofs.YtnhbkoeomefkdaaDoor.Ev.L
open Go Go.Proofs.YtnhbkoeomefkdaaDoor.Ev
noncomputable section

/-- squares that cut a rectangle of width w and height h -/
structure Mk (L : List Sq) (w h : Nat) : Prop where
  w1 : 1 ≤ w
  h1 : 1 ≤ h
  inn : ∀ q ∈ L, 1 ≤ q.2.2 ∧ 0 ≤ q.1 ∧ 0 ≤ q.2.1 ∧ q.1 + q.2.2 ≤ w ∧ q.2.1 + q.2.2 ≤ h
  pw : L.Pairwise fun a b => ¬ ovl a b
  ar : are L = w * h

theorem Mk.ok {L : List Sq} {w h : Nat} (m : Mk L w h) (hw : w ≤ 1000) (hh : h ≤ 1000) : ∀ q ∈ L, okSq q := fun q hq => by
  obtain ⟨a1, a2, a3, a4, a5⟩ := m.inn q hq
  exact ⟨a1, by omega, ⟨a2, by omega⟩, a3, by omega⟩
theorem pair_dis {L : List Sq} (h : L.Pairwise fun a b => ¬ ovl a b) : dis L := fun i k a b hi hk hki ho => by
  obtain ⟨gi, rfl⟩ := List.getElem?_eq_some_iff.1 hi
  obtain ⟨gk, rfl⟩ := List.getElem?_eq_some_iff.1 hk
  exact List.pairwise_iff_getElem.1 h k i gk gi hki (ovl_symm ho)
theorem wid_le (L : List Sq) {w h : Int} : 0 ≤ w → 0 ≤ h → (∀ q ∈ L, q.1 + q.2.2 ≤ w ∧ q.2.1 + q.2.2 ≤ h) → wid L ≤ w ∧ hei L ≤ h := by
  refine snoc_ind (p := fun L => 0 ≤ w → 0 ≤ h → (∀ q ∈ L, q.1 + q.2.2 ≤ w ∧ q.2.1 + q.2.2 ≤ h) → wid L ≤ w ∧ hei L ≤ h) (fun h1 h2 _ => ⟨h1, h2⟩) (fun L q ih h1 h2 hq => ?_) L
  rw [wid_snoc, hei_snoc]
  have := ih h1 h2 fun p hp => hq p (List.mem_append_left _ hp)
  have := hq q (by simp)
  omega
theorem Mk.cov {L : List Sq} {w h : Nat} (m : Mk L w h) (hw : w ≤ 1000) (hh : h ≤ 1000) : cov L ∧ wid L = w ∧ hei L = h := by
  have hok := m.ok hw hh
  have w1 := m.w1
  have h1 := m.h1
  obtain ⟨p, hp, ⟨p1, p2⟩, p3, p4⟩ := covered (W := w) (H := h) (x := w - 1) (y := h - 1) (fun q hq => ⟨hok q hq, (m.inn q hq).2.2.2.1, (m.inn q hq).2.2.2.2⟩) m.pw m.ar (by omega) (by omega)
  have hge := wid_ge L p hp
  have hle := wid_le L (w := w) (h := h) (by omega) (by omega) fun q hq => ⟨(m.inn q hq).2.2.2.1, (m.inn q hq).2.2.2.2⟩
  have e1 : wid L = w := by omega
  have e2 : hei L = h := by omega
  refine ⟨⟨List.length_pos_of_mem hp, pair_dis m.pw, ?_⟩, e1, e2⟩
  rw [m.ar, e1, e2]
theorem Mk.one : Mk [(0, 0, 1)] 1 1 := ⟨Nat.le_refl _, Nat.le_refl _, fun q hq => by rw [List.mem_singleton.1 hq]; decide, by simp, rfl⟩
/-- every square is so many times as great -/
def scl (m : Int) (q : Sq) : Sq := (q.1 * m, q.2.1 * m, q.2.2 * m)
theorem mul_lt_of {a b m : Int} (h0 : 1 ≤ m) (h : a * m < b * m) : a < b := Int.lt_of_mul_lt_mul_right h (by omega)
theorem ovl_scl {a b : Sq} {m : Int} (h0 : 1 ≤ m) (h : ovl (scl m a) (scl m b)) : ovl a b := by
  obtain ⟨h1, h2, h3, h4⟩ := h
  simp only [scl] at h1 h2 h3 h4
  rw [← Int.add_mul] at h1 h2 h3 h4
  exact ⟨mul_lt_of h0 h1, mul_lt_of h0 h2, mul_lt_of h0 h3, mul_lt_of h0 h4⟩
theorem are_scl {m : Int} : ∀ {L : List Sq}, are (L.map (scl m)) = are L * (m * m)
  | [] => by simp [are]
  | q :: L => by
    rw [List.map_cons, are_cons, are_cons, are_scl (L := L), Int.add_mul]
    simp only [scl]
    have : q.2.2 * m * (q.2.2 * m) = q.2.2 * q.2.2 * (m * m) := by ac_rfl
    rw [this]
theorem Mk.scale {L : List Sq} {w h m : Nat} (k : Mk L w h) (h0 : 1 ≤ m) : Mk (L.map (scl m)) (w * m) (h * m) := by
  have hm : (1 : Int) ≤ m := by omega
  have up : ∀ a b : Int, a ≤ b → a * m ≤ b * m := fun a b hab => Int.mul_le_mul_of_nonneg_right hab (by omega)
  refine ⟨Nat.mul_pos k.w1 h0, Nat.mul_pos k.h1 h0, fun q hq => ?_, ?_, ?_⟩
  · obtain ⟨p, hp, rfl⟩ := List.mem_map.1 hq
    obtain ⟨a1, a2, a3, a4, a5⟩ := k.inn p hp
    simp only [scl]
    have e1 := up _ _ a4
    have e2 := up _ _ a5
    have e3 := up _ _ a1
    rw [Int.add_mul] at e1 e2
    have e4 := Int.mul_nonneg a2 (show (0 : Int) ≤ m by omega)
    have e5 := Int.mul_nonneg a3 (show (0 : Int) ≤ m by omega)
    refine ⟨by omega, e4, e5, ?_, ?_⟩
    · rw [Int.natCast_mul]; exact e1
    · rw [Int.natCast_mul]; exact e2
  · exact List.pairwise_map.2 (k.pw.imp fun hn ho => hn (ovl_scl hm ho))
  · rw [are_scl, k.ar, Int.natCast_mul, Int.natCast_mul]
    ac_rfl
theorem are_app {L M : List Sq} : are (L ++ M) = are L + are M := by
  induction L with
  | nil => simp [are]
  | cons q L ih => rw [List.cons_append, are_cons, are_cons, ih]; omega
/-- so many squares side by side, at the bottom -/
def rowB (h s : Int) (n : Nat) : List Sq := (List.range n).map fun k : Nat => (((k : Int) * s, h, s) : Sq)
/-- .. one below the other, at the right -/
def rowR (w s : Int) (n : Nat) : List Sq := (List.range n).map fun k : Nat => ((w, (k : Int) * s, s) : Sq)
theorem rowB_succ {h s : Int} {n : Nat} : rowB h s (n + 1) = rowB h s n ++ [((n : Int) * s, h, s)] := by simp [rowB, List.range_succ]
theorem rowR_succ {w s : Int} {n : Nat} : rowR w s (n + 1) = rowR w s n ++ [(w, (n : Int) * s, s)] := by simp [rowR, List.range_succ]
theorem are_rowB {h s : Int} {n : Nat} : are (rowB h s n) = n * s * s := by
  induction n with
  | zero => simp [rowB, are]
  | succ n ih =>
    rw [rowB_succ, are_snoc, ih]
    simp only [Int.natCast_add, Int.add_mul]
    simp
theorem are_rowR {w s : Int} {n : Nat} : are (rowR w s n) = n * s * s := by
  induction n with
  | zero => simp [rowR, are]
  | succ n ih =>
    rw [rowR_succ, are_snoc, ih]
    simp only [Int.natCast_add, Int.add_mul]
    simp
theorem step_le {i j : Nat} {s : Int} (h0 : 0 ≤ s) (h : i < j) : (i : Int) * s + s ≤ (j : Int) * s := by
  have := Int.mul_le_mul_of_nonneg_right (show (i : Int) + 1 ≤ j by omega) h0
  rw [Int.add_mul] at this
  omega
theorem Mk.bottom {L : List Sq} {w h m s : Nat} (k : Mk L w h) (h0 : 1 ≤ s) (hs : w = m * s) : Mk (L ++ rowB h s m) w (h + s) := by
  have hs0 : (0 : Int) ≤ s := by omega
  refine ⟨k.w1, by have := k.h1; omega, fun q hq => ?_, ?_, ?_⟩
  · rcases List.mem_append.1 hq with hq | hq
    · obtain ⟨a1, a2, a3, a4, a5⟩ := k.inn q hq
      omega
    · obtain ⟨i, hi, rfl⟩ := List.mem_map.1 hq
      have hi := List.mem_range.1 hi
      have := step_le hs0 hi
      have hn := Int.mul_nonneg (show (0 : Int) ≤ (i : Int) by omega) hs0
      simp only
      rw [hs, Int.natCast_mul]
      omega
  · refine List.pairwise_append.2 ⟨k.pw, ?_, fun a ha b hb => ?_⟩
    · refine List.pairwise_map.2 (List.pairwise_lt_range.imp fun {i j} hij ho => ?_)
      obtain ⟨_, h2, _, _⟩ := ho
      have := step_le hs0 hij
      simp only at h2
      omega
    · obtain ⟨i, hi, rfl⟩ := List.mem_map.1 hb
      obtain ⟨a1, a2, a3, a4, a5⟩ := k.inn a ha
      rintro ⟨_, _, _, h4⟩
      simp only at h4
      omega
  · rw [are_app, k.ar, are_rowB, hs]
    simp only [Int.natCast_mul, Int.natCast_add, Int.mul_add]
theorem Mk.right {L : List Sq} {w h m s : Nat} (k : Mk L w h) (h0 : 1 ≤ s) (hs : h = m * s) : Mk (L ++ rowR w s m) (w + s) h := by
  have hs0 : (0 : Int) ≤ s := by omega
  refine ⟨by have := k.w1; omega, k.h1, fun q hq => ?_, ?_, ?_⟩
  · rcases List.mem_append.1 hq with hq | hq
    · obtain ⟨a1, a2, a3, a4, a5⟩ := k.inn q hq
      omega
    · obtain ⟨i, hi, rfl⟩ := List.mem_map.1 hq
      have hi := List.mem_range.1 hi
      have := step_le hs0 hi
      have hn := Int.mul_nonneg (show (0 : Int) ≤ (i : Int) by omega) hs0
      simp only
      rw [hs, Int.natCast_mul]
      omega
  · refine List.pairwise_append.2 ⟨k.pw, ?_, fun a ha b hb => ?_⟩
    · refine List.pairwise_map.2 (List.pairwise_lt_range.imp fun {i j} hij ho => ?_)
      obtain ⟨_, _, _, h4⟩ := ho
      have := step_le hs0 hij
      simp only at h4
      omega
    · obtain ⟨i, hi, rfl⟩ := List.mem_map.1 hb
      obtain ⟨a1, a2, a3, a4, a5⟩ := k.inn a ha
      rintro ⟨_, h2, _, _⟩
      simp only at h2
      omega
  · rw [are_app, k.ar, are_rowR, hs]
    simp only [Int.natCast_mul, Int.natCast_add, Int.mul_add, Int.add_mul]
    have : (m : Int) * s * s = s * (m * s) := by ac_rfl
    omega
/-- turning the list around keeps a cut -/
theorem Mk.perm {L M : List Sq} {w h : Nat} (k : Mk L w h) (hp : M.Perm L) : Mk M w h := by
  have har : are M = are L := by
    have key : ∀ {A B : List Sq}, A.Perm B → are A = are B := fun h => by
      induction h with
      | nil => rfl
      | cons x _ ih => rw [are_cons, are_cons, ih]
      | swap x y l => rw [are_cons, are_cons, are_cons, are_cons]; omega
      | trans _ _ h1 h2 => rw [h1, h2]
    exact key hp
  exact ⟨k.w1, k.h1, fun q hq => k.inn q (hp.mem_iff.1 hq), hp.symm.pairwise k.pw fun h1 h2 => h1 (ovl_symm h2), har.trans k.ar⟩
end
end Go.Proofs.YtnhbkoeomefkdaaDoor.Ev.L

