/- A matrix whose rows are blocks of its own: it may be written to. -/
import Derived.Test.YtngpoamjhngcgaaGreatDoorPmeX8
import Derived.Test.YtngpoamjhngcgaaGreatDoorPmCy
set_option linter.unusedSimpArgs false
set_option linter.unusedVariables false
namespace Go.Proofs.YtngpoamjhngcgaaGreatDoor.Ev
open Go Go.Proofs
noncomputable section

def cR (R O : Nat → Nat) (i : Nat) : Option Addr := some ⟨R i, O i, none⟩
/-- n rows of m numbers, each row a block of its own -/
structure MatW (B : Tr Blk) (lo hi n m : Nat) (f : Nat → Nat → Int) (R O : Nat → Nat) (rc : Nat → Nat) (v : Value) : Prop where
  top : SlV B lo hi 1 n (rowsL n (fun _ => m) (cR R O) rc) v
  row : ∀ i, i < n → lo ≤ R i ∧ R i < hi ∧ ∃ cells size, B.get (R i) = some (.mk cells size 1) ∧ O i + m ≤ size ∧ ∀ j, j < m → cells.get (O i + j) = some (.int .i64 (f i j))
  inj : ∀ i j, i < n → j < n → R i = R j → i = j
  ne : ∀ i b, i < n → blkOf v = some b → R i ≠ b

section
variable {B B' : Tr Blk} {lo hi n m c : Nat} {f g : Nat → Nat → Int} {R O rc : Nat → Nat} {v : Value} {A : Option Addr}
theorem MatW.congr (w : MatW B lo hi n m f R O rc v) (h : ∀ i j, i < n → j < m → f i j = g i j) : MatW B lo hi n m g R O rc v :=
  ⟨w.top, fun i hi => by
    obtain ⟨h1, h2, cells, size, h3, h4, h5⟩ := w.row i hi
    exact ⟨h1, h2, cells, size, h3, h4, fun j hj => by rw [h5 j hj, h i j hi hj]⟩, w.inj, w.ne⟩
theorem MatW.mono (w : MatW B lo hi n m f R O rc v) (hB : ∀ b, lo ≤ b → b < hi → B'.get b = B.get b) : MatW B' lo hi n m f R O rc v :=
  ⟨w.top.mono hB, fun i hi => by
    obtain ⟨h1, h2, cells, size, h3, h4, h5⟩ := w.row i hi
    exact ⟨h1, h2, cells, size, (hB _ h1 h2).trans h3, h4, h5⟩, w.inj, w.ne⟩
theorem MatW.wide (w : MatW B lo hi n m f R O rc v) {lo' hi' : Nat} (h1 : lo' ≤ lo) (h2 : hi ≤ hi') : MatW B lo' hi' n m f R O rc v :=
  ⟨w.top.wide h1 h2, fun i hi => by
    obtain ⟨h3, h4, h5⟩ := w.row i hi
    exact ⟨by omega, by omega, h5⟩, w.inj, w.ne⟩
theorem MatW.mat (w : MatW B lo hi n m f R O rc v) : MatV B lo hi n (fun _ => m) f (cR R O) rc v :=
  ⟨w.top, fun i hi => by
    obtain ⟨h1, h2, cells, size, h3, h4, h5⟩ := w.row i hi
    exact .mk h3 h1 h2 (by omega) (by rw [intsL_len]; omega) fun j hj => by rw [h5 j (by omega), intsL_get (by omega)]⟩
theorem MatW.at_ (w : MatW B lo hi n m f R O rc (.slice A n c)) (h : 0 < n) : ∃ b off, A = some ⟨b, off, none⟩ ∧ ∀ i, i < n → loadv B b (off + i) = some (.slice (some ⟨R i, O i, none⟩) m (rc i)) := w.mat.at_ h
theorem MatW.cell (w : MatW B lo hi n m f R O rc v) {i j : Nat} (hi' : i < n) (hj : j < m) : loadv B (R i) (O i + j) = some (.int .i64 (f i j)) := by
  obtain ⟨h1, h2, cells, size, h3, h4, h5⟩ := w.row i hi'
  simp only [loadv, h3]
  rw [if_pos (by omega)]
  exact h5 j hj
/-- one number is written -/
theorem MatW.sto {h h' : H} {i0 j0 : Nat} {x : Int} (w : MatW h.blks lo hi n m f R O rc v) (hi0 : i0 < n) (s : Sto h h' (R i0) (O i0 + j0) [.int .i64 x]) :
    MatW h'.blks lo hi n m (fun a b => if a = i0 ∧ b = j0 then x else f a b) R O rc v := by
  refine ⟨?_, fun i hi => ?_, w.inj, w.ne⟩
  · have ht := w.top
    have hne := w.ne i0
    cases ht with
    | nil a b => exact .nil a b
    | emp a b => exact .emp a b
    | mk hb hlo hhi hsz hL hc => exact .mk ((s.get _ (hne _ hi0 rfl).symm).trans hb) hlo hhi hsz hL hc
  · obtain ⟨h1, h2, cells, size, h3, h4, h5⟩ := w.row i hi
    by_cases e : i = i0
    · subst e
      refine ⟨h1, h2, _, size, s.at_ _ _ _ h3, h4, fun j hj => ?_⟩
      rw [setCells_get]
      by_cases e2 : j = j0
      · subst e2
        rw [if_pos ⟨Nat.le_refl _, by simp⟩, if_pos ⟨rfl, rfl⟩]
        simp
      · rw [if_neg (by simp; omega), if_neg fun h => e2 h.2, h5 j hj]
    · refine ⟨h1, h2, cells, size, (s.get _ fun e3 => e (w.inj _ _ hi hi0 e3)).trans h3, h4, fun j hj => ?_⟩
      rw [h5 j hj, if_neg fun h => e h.1]
end
theorem rowsL_congr {n : Nat} {g g' : Nat → Nat} {RA RA' : Nat → Option Addr} {rc rc' : Nat → Nat} (h : ∀ k, k < n → RA k = RA' k ∧ g k = g' k ∧ rc k = rc' k) : rowsL n g RA rc = rowsL n g' RA' rc' :=
  List.map_congr_left fun k hk => by
    obtain ⟨a, b, c⟩ := h k (List.mem_range.1 hk)
    rw [a, b, c]
theorem rowsL_set {n i m c : Nat} {g : Nat → Nat} {RA : Nat → Option Addr} {rc : Nat → Nat} {A : Option Addr} (h : i < n) :
    (rowsL n g RA rc).take i ++ [.slice A m c] ++ (rowsL n g RA rc).drop (i + 1) = rowsL n (fun k => if k = i then m else g k) (fun k => if k = i then A else RA k) (fun k => if k = i then c else rc k) := by
  have e : (rowsL n g RA rc).take i ++ [.slice A m c] ++ (rowsL n g RA rc).drop (i + 1) = (rowsL n g RA rc).set i (.slice A m c) := by
    rw [List.set_eq_take_append_cons_drop, if_pos (by rw [rowsL_len]; exact h)]
    simp
  rw [e]
  apply List.ext_getElem?
  intro j
  rw [List.getElem?_set]
  by_cases hj : j < n
  · rw [rowsL_get hj, rowsL_len]
    by_cases e2 : i = j
    · subst e2
      simp [h, rowsL_get h]
    · simp [e2, rowsL_get hj, Ne.symm e2]
  · by_cases e2 : i = j
    · omega
    · simp only [e2, if_false]
      rw [List.getElem?_eq_none (by rw [rowsL_len]; omega), List.getElem?_eq_none (by rw [rowsL_len]; omega)]
theorem zeros_rows : ∀ n, zeros [.slice none 0 0] n = rowsL n (fun _ => 0) (fun _ => none) (fun _ => 0) := fun n => by
  apply List.ext_getElem?
  intro i
  by_cases h : i < n
  · rw [rowsL_get h, zeros_get _ (by decide) n i (by simpa using h)]
    simp [Nat.mod_one]
  · rw [List.getElem?_eq_none (by rw [zeros_length]; simp; omega), List.getElem?_eq_none (by rw [rowsL_len]; omega)]

/-- the first i rows of a matrix under way -/
structure Fill (B : Tr Blk) (T hi n i m : Nat) (f : Nat → Nat → Int) (R O rc : Nat → Nat) : Prop where
  top : SlV B T (T + 1) 1 n (rowsL n (fun k => if k < i then m else 0) (fun k => if k < i then cR R O k else none) (fun k => if k < i then rc k else 0)) (.slice (some ⟨T, 0, none⟩) n n)
  row : ∀ k, k < i → T + 1 ≤ R k ∧ R k < hi ∧ ∃ cells size, B.get (R k) = some (.mk cells size 1) ∧ O k + m ≤ size ∧ ∀ j, j < m → cells.get (O k + j) = some (.int .i64 (f k j))
  inj : ∀ a b, a < i → b < i → R a = R b → a = b
theorem Fill.done {B : Tr Blk} {T hi n m : Nat} {f : Nat → Nat → Int} {R O rc : Nat → Nat} (w : Fill B T hi n n m f R O rc) (hT : T < hi) : MatW B T hi n m f R O rc (.slice (some ⟨T, 0, none⟩) n n) := by
  refine ⟨?_, fun i hi' => ?_, w.inj, fun i b hi' hb => ?_⟩
  · have e : rowsL n (fun k => if k < n then m else 0) (fun k => if k < n then cR R O k else none) (fun k => if k < n then rc k else 0) = rowsL n (fun _ => m) (cR R O) rc :=
      rowsL_congr fun k hk => by simp only [if_pos hk, and_self]
    rw [← e]
    exact w.top.wide (Nat.le_refl _) hT
  · obtain ⟨h1, h2, h3⟩ := w.row i hi'
    exact ⟨by omega, h2, h3⟩
  · obtain ⟨h1, h2, h3⟩ := w.row i hi'
    simp only [blkOf, Option.some.injEq] at hb
    omega
/-- the next row -/
theorem Fill.next {h h2 h3 : H} {T n i m c b off : Nat} {f : Nat → Nat → Int} {R O rc : Nat → Nat} (w : Fill h.blks T h.next n i m f R O rc) (hT : T < h.next) (hi : i < n) (pr : Pres h.next h h2)
    (hv : SlV h2.blks h.next h2.next 1 m (intsL m (f i)) (.slice (some ⟨b, off, none⟩) m c)) (s : Sto h2 h3 T (0 + i) [.slice (some ⟨b, off, none⟩) m c]) :
    Fill h3.blks T h3.next n (i + 1) m f (fun k => if k = i then b else R k) (fun k => if k = i then off else O k) (fun k => if k = i then c else rc k) := by
  have n2 := pr.next
  have n3 := s.next
  have hb := hv.blk b rfl
  refine ⟨?_, fun k hk => ?_, fun x y hx hy e => ?_⟩
  · have t2 := s.slv (w.top.mono fun x h1 h2 => pr.get x (by omega)) (by simp; omega)
    rw [show ([Value.slice (some ⟨b, off, none⟩) m c] : List Value).length = 1 from rfl, rowsL_set hi] at t2
    have e := rowsL_congr (n := n) (g := fun k => if k = i then m else if k < i then m else 0) (g' := fun k => if k < i + 1 then m else 0)
      (RA := fun k => if k = i then some ⟨b, off, none⟩ else if k < i then cR R O k else none) (RA' := fun k => if k < i + 1 then cR (fun k => if k = i then b else R k) (fun k => if k = i then off else O k) k else none)
      (rc := fun k => if k = i then c else if k < i then rc k else 0) (rc' := fun k => if k < i + 1 then (if k = i then c else rc k) else 0) (fun k _ => by
        by_cases e : k = i
        · subst e
          simp [cR]
        · by_cases e2 : k < i
          · simp [e, e2, cR, show k < i + 1 by omega]
          · simp [e, e2, show ¬ k < i + 1 by omega])
    rw [e] at t2
    exact t2
  · by_cases e : k = i
    · subst e
      simp only [if_true]
      cases hv with
      | mk hb1 hlo hhi hsz hL hc =>
        exact ⟨by omega, by omega, _, _, (s.get _ (by omega)).trans hb1, by omega, fun j hj => by rw [hc j (by omega), intsL_get hj]⟩
    · obtain ⟨h1, h2', cells, size, h4, h5, h6⟩ := w.row k (by omega)
      simp only [e, if_false]
      exact ⟨h1, by omega, cells, size, ((s.get _ (by omega)).trans (pr.get _ h2')).trans h4, h5, h6⟩
  · by_cases e1 : x = i
    · by_cases e2 : y = i
      · omega
      · have := (w.row y (by omega)).2.1
        simp only [e1, e2, if_true, if_false] at e
        omega
    · by_cases e2 : y = i
      · have := (w.row x (by omega)).2.1
        simp only [e1, e2, if_true, if_false] at e
        omega
      · simp only [e1, e2, if_false] at e
        exact w.inj x y (by omega) (by omega) e
/-- a whole row is written -/
theorem row_over {h h' : H} {b off size m : Nat} {cells : Tr Value} {f0 : Nat → Int} (s : Sto h h' b off (intsL m f0)) (hb : h.blks.get b = some (.mk cells size 1)) (hle : off + m ≤ size) :
    ∃ cells size, h'.blks.get b = some (.mk cells size 1) ∧ off + m ≤ size ∧ ∀ j, j < m → cells.get (off + j) = some (.int .i64 (f0 j)) :=
  ⟨_, size, s.at_ _ _ _ hb, hle, fun j hj => by
    rw [setCells_get, if_pos ⟨by omega, by rw [intsL_len]; omega⟩, Nat.add_sub_cancel_left, intsL_get hj]⟩
theorem Fill.over {h h' : H} {T hi n i m k0 : Nat} {f : Nat → Nat → Int} {f0 : Nat → Int} {R O rc : Nat → Nat} (w : Fill h.blks T hi n i m f R O rc) (hk : k0 < i) (s : Sto h h' (R k0) (O k0) (intsL m f0)) : Fill h'.blks T hi n i m (fun k => if k = k0 then f0 else f k) R O rc := by
  refine ⟨?_, fun k hk2 => ?_, w.inj⟩
  · have h1 := (w.row k0 hk).1
    exact w.top.mono fun b h2 h3 => s.get b (by omega)
  · obtain ⟨h1, h2, cells, size, h3, h4, h5⟩ := w.row k hk2
    by_cases e : k = k0
    · subst e
      obtain ⟨c2, s2, g1, g2, g3⟩ := row_over s h3 h4
      exact ⟨h1, h2, c2, s2, g1, g2, fun j hj => by rw [g3 j hj, if_pos rfl]⟩
    · exact ⟨h1, h2, cells, size, (s.get _ fun g => e (w.inj _ _ hk2 hk g)).trans h3, h4, fun j hj => by rw [h5 j hj, if_neg e]⟩
theorem MatW.over {h h' : H} {lo hi n m i0 : Nat} {f : Nat → Nat → Int} {f0 : Nat → Int} {R O rc : Nat → Nat} {v : Value} (w : MatW h.blks lo hi n m f R O rc v) (hi0 : i0 < n) (s : Sto h h' (R i0) (O i0) (intsL m f0)) : MatW h'.blks lo hi n m (fun k => if k = i0 then f0 else f k) R O rc v := by
  refine ⟨?_, fun k hk2 => ?_, w.inj, w.ne⟩
  · have ht := w.top
    have hne := w.ne i0
    cases ht with
    | nil a b => exact .nil a b
    | emp a b => exact .emp a b
    | mk hb hlo hhi hsz hL hc => exact .mk ((s.get _ (hne _ hi0 rfl).symm).trans hb) hlo hhi hsz hL hc
  · obtain ⟨h1, h2, cells, size, h3, h4, h5⟩ := w.row k hk2
    by_cases e : k = i0
    · subst e
      obtain ⟨c2, s2, g1, g2, g3⟩ := row_over s h3 h4
      exact ⟨h1, h2, c2, s2, g1, g2, fun j hj => by rw [g3 j hj, if_pos rfl]⟩
    · exact ⟨h1, h2, cells, size, (s.get _ fun g => e (w.inj _ _ hk2 hi0 g)).trans h3, h4, fun j hj => by rw [h5 j hj, if_neg e]⟩
/-- a matrix that is read -/
theorem MatV.acc {B : Tr Blk} {lo hi n c : Nat} {g : Nat → Nat} {f : Nat → Nat → Int} {RA : Nat → Option Addr} {rc : Nat → Nat} {A : Option Addr} (m : MatV B lo hi n g f RA rc (.slice A n c)) (hg : ∀ i, i < n → g i = n) (h : 0 < n) :
    ∃ b off, A = some ⟨b, off, none⟩ ∧ ∀ i, i < n → ∃ b2 o2, loadv B b (off + i) = some (.slice (some ⟨b2, o2, none⟩) n (rc i)) ∧ ∀ j, j < n → loadv B b2 (o2 + j) = some (.int .i64 (f i j)) := by
  obtain ⟨b, off, hA, hld⟩ := m.at_ h
  refine ⟨b, off, hA, fun i hi => ?_⟩
  have hr := m.row i hi
  rw [hg i hi] at hr
  obtain ⟨b2, o2, h1, h2⟩ := hr.ints_at h
  exact ⟨b2, o2, by rw [hld i hi, h1, hg i hi], h2⟩
end
end Go.Proofs.YtngpoamjhngcgaaGreatDoor.Ev

