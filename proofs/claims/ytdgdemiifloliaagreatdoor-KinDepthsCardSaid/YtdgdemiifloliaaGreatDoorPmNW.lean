/- A matrix whose rows are blocks of its own: it may be written to. -/
import Derived.Test.YtdgdemiifloliaaGreatDoorPmN8
import Derived.Test.YtdgdemiifloliaaGreatDoorPmNM
set_option linter.unusedSimpArgs false
namespace Go.Proofs.YtdgdemiifloliaaGreatDoor.Ev
open Go Go.Proofs
noncomputable section

def cR (R O : Nat → Nat) (i : Nat) : Option Addr := some ⟨R i, O i, none⟩
/-- n rows of m numbers, each row a block of its own -/
structure MatW (B : Tr Blk) (lo hi n m : Nat) (f : Nat → Nat → Int) (R O : Nat → Nat) (rc : Nat → Nat) (v : Value) : Prop where
  top : SlV B lo hi 1 n (rowsL n (fun _ => m) (cR R O) rc) v
  row : ∀ i, i < n → lo ≤ R i ∧ R i < hi ∧ ∃ cells size, B.get (R i) = some (.mk cells size 1) ∧ O i + m ≤ size ∧ ∀ j, j < m → cells.get (O i + j) = some (.int .i64 (f i j))
  inj : ∀ i j, i < n → j < n → R i = R j → i = j
  ne : ∀ i b, i < n → blkOf v = some b → R i ≠ b

section
variable {B B' : Tr Blk} {lo hi n m c : Nat} {f g : Nat → Nat → Int} {R O rc : Nat → Nat} {v : Value} {A : Option Addr}
theorem MatW.congr (w : MatW B lo hi n m f R O rc v) (h : ∀ i j, i < n → j < m → f i j = g i j) : MatW B lo hi n m g R O rc v :=
  ⟨w.top, fun i hi => by
    obtain ⟨h1, h2, cells, size, h3, h4, h5⟩ := w.row i hi
    exact ⟨h1, h2, cells, size, h3, h4, fun j hj => by rw [h5 j hj, h i j hi hj]⟩, w.inj, w.ne⟩
theorem MatW.mono (w : MatW B lo hi n m f R O rc v) (hB : ∀ b, lo ≤ b → b < hi → B'.get b = B.get b) : MatW B' lo hi n m f R O rc v :=
  ⟨w.top.mono hB, fun i hi => by
    obtain ⟨h1, h2, cells, size, h3, h4, h5⟩ := w.row i hi
    exact ⟨h1, h2, cells, size, (hB _ h1 h2).trans h3, h4, h5⟩, w.inj, w.ne⟩
theorem MatW.wide (w : MatW B lo hi n m f R O rc v) {lo' hi' : Nat} (h1 : lo' ≤ lo) (h2 : hi ≤ hi') : MatW B lo' hi' n m f R O rc v :=
  ⟨w.top.wide h1 h2, fun i hi => by
    obtain ⟨h3, h4, h5⟩ := w.row i hi
    exact ⟨by omega, by omega, h5⟩, w.inj, w.ne⟩
theorem MatW.mat (w : MatW B lo hi n m f R O rc v) : MatV B lo hi n (fun _ => m) f (cR R O) rc v :=
  ⟨w.top, fun i hi => by
    obtain ⟨h1, h2, cells, size, h3, h4, h5⟩ := w.row i hi
    exact .mk h3 h1 h2 (by omega) (by rw [intsL_len]; omega) fun j hj => by rw [h5 j (by omega), intsL_get (by omega)]⟩
theorem MatW.at_ (w : MatW B lo hi n m f R O rc (.slice A n c)) (h : 0 < n) : ∃ b off, A = some ⟨b, off, none⟩ ∧ ∀ i, i < n → loadv B b (off + i) = some (.slice (some ⟨R i, O i, none⟩) m (rc i)) := w.mat.at_ h
theorem MatW.cell (w : MatW B lo hi n m f R O rc v) {i j : Nat} (hi' : i < n) (hj : j < m) : loadv B (R i) (O i + j) = some (.int .i64 (f i j)) := by
  obtain ⟨h1, h2, cells, size, h3, h4, h5⟩ := w.row i hi'
  simp only [loadv, h3]
  rw [if_pos (by omega)]
  exact h5 j hj
/-- one number is written -/
theorem MatW.sto {h h' : H} {i0 j0 : Nat} {x : Int} (w : MatW h.blks lo hi n m f R O rc v) (hi0 : i0 < n) (s : Sto h h' (R i0) (O i0 + j0) [.int .i64 x]) :
    MatW h'.blks lo hi n m (fun a b => if a = i0 ∧ b = j0 then x else f a b) R O rc v := by
  refine ⟨?_, fun i hi => ?_, w.inj, w.ne⟩
  · have ht := w.top
    have hne := w.ne i0
    cases ht with
    | nil a b => exact .nil a b
    | emp a b => exact .emp a b
    | mk hb hlo hhi hsz hL hc => exact .mk ((s.get _ (hne _ hi0 rfl).symm).trans hb) hlo hhi hsz hL hc
  · obtain ⟨h1, h2, cells, size, h3, h4, h5⟩ := w.row i hi
    by_cases e : i = i0
    · subst e
      refine ⟨h1, h2, _, size, s.at_ _ _ _ h3, h4, fun j hj => ?_⟩
      rw [setCells_get]
      by_cases e2 : j = j0
      · subst e2
        rw [if_pos ⟨Nat.le_refl _, by simp⟩, if_pos ⟨rfl, rfl⟩]
        simp
      · rw [if_neg (by simp; omega), if_neg fun h => e2 h.2, h5 j hj]
    · refine ⟨h1, h2, cells, size, (s.get _ fun e3 => e (w.inj _ _ hi hi0 e3)).trans h3, h4, fun j hj => ?_⟩
      rw [h5 j hj, if_neg fun h => e h.1]
/-- the next step of a phase in place -/
theorem MatW.step {h h' : H} {o : Int → Int → Int} {k i j : Nat} (w : MatW h.blks lo hi n n (pt o k f i j) R O rc v) (hi0 : i < n) (s : Sto h h' (R i) (O i + j) [.int .i64 (ph o k f i j)]) :
    MatW h'.blks lo hi n n (pt o k f i (j + 1)) R O rc v := (w.sto hi0 s).congr fun _ _ _ _ => pt_next.symm
end
end
end Go.Proofs.YtdgdemiifloliaaGreatDoor.Ev
