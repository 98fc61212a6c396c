/- Clone, with, cost. -/
import Derived.Test.YthiodndhokooiaaGreatDoorPmmA4
import Derived.Test.YthiodndhokooiaaGreatDoorPmDr
set_option linter.unusedSimpArgs false
namespace Go.Proofs.YthiodndhokooiaaGreatDoor.Ev
open Go Go.Proofs
noncomputable section

section
variable {P : Program} {E : Env} {n : Nat} {ops : List Oper} {q : Bool} {r tl : List Oper} {k : List Frm} {α : Tr Value} {h : H} {R : Rt} {ty : TypeId} {pos : String} {af : Array Edge}
/-- append to an empty literal: a new slice, and a full one -/
theorem At_appendF [NoFz E] {x y : Operand} {ts tx elem elem' : TypeId} {inf : TypeInfo} {z : Value} {lo2 hi2 m d : Nat} {M : List Value} {v : Value} (hu : E.u ts = some (.slice elem)) (hux : E.u tx = some (.slice elem')) (hi' : E.i elem = some inf) (hz : inf.zero = some z)
    (hc : (okConst z && decide (z.cells.size = inf.size) && decide (0 < inf.size) && decide (inf.bytes < 65536)) = true) (hx : ev E h α x = some empV) (hy : ev E h α y = some v) (hv : SlV h.blks lo2 hi2 inf.size m M v)
    (hsm : m < 2147483648) (hone : M.all oneB = true) (hd : d < n)
    (hk : ∀ A' h', Pres h.next h h' → SlV h'.blks h.next h'.next inf.size m M (.slice A' m m) → At P E n ops q r tl k (Tr.put α d (.slice A' m m)) h' R) :
    At P E n ops q (⟨some d, .call ⟨.builtin .append, #[x, y], #[ts, tx]⟩, ty, pos, af, none⟩ :: r) tl k α h R := by
  by_cases hm : m = 0
  · subst hm
    have hM : M = [] := List.length_eq_zero_iff.1 (by rw [hv.len]; simp)
    subst hM
    have hs : srcLen v = some 0 := by cases hv <;> first | (rename_i hn hL; rfl) | rfl
    exact At_append0 hu hux hi' hx hy hs hd (hk _ h (Pres.refl _ _) (.emp rfl rfl))
  · rw [At_heap rfl rfl]
    have hst : (st q h).blks = h.blks := by cases q <;> rfl
    have hv' : SlV (st q h).blks lo2 hi2 inf.size m M v := by rw [hst]; exact hv
    obtain ⟨e1, e2⟩ := srcCells_of hv' (by omega)
    simp only [Bool.and_eq_true, decide_eq_true_eq] at hc
    obtain ⟨⟨⟨c1, c2⟩, c3⟩, c4⟩ := hc
    have hcond : (okConst z && decide (z.cells.size = inf.size) && decide (0 < inf.size) && decide (inf.bytes < 65536) && decide (0 + m < 2147483648) && M.all oneB && decide (M.length = m * inf.size)) = true := by
      simp only [Bool.and_eq_true, decide_eq_true_eq]
      exact ⟨⟨⟨⟨⟨⟨c1, c2⟩, c3⟩, c4⟩, by omega⟩, hone⟩, hv.len⟩
    refine HeapO_new (cells := M) (es := inf.size) (fun b => .slice (some ⟨b, 0, none⟩) m m) hd ?_ fun h' hn => hk (some ⟨h.next, 0, none⟩) h' (hn.pres (Nat.le_refl _)) (hn.slv hv.len)
    rw [evOp_eq]
    have hx1 := (ev_blks hst x).trans hx
    have hy1 := (ev_blks hst y).trans hy
    simp only [evOpS, evs, hx1, hy1]
    show evAppend E (st q h) ts tx empV v = _
    simp only [evAppend, empV, hu, hux, e1, notInt_slice, hi', hm, hz, e2]
    rw [if_pos hcond]
    cases aNew (st q h) M inf.size with
    | none => rfl
    | some x => simp [forceN_eq]
/-- append to a full slice of one's own -/
theorem At_append2 [NoFz E] {x y : Operand} {ts tx elem elem' : TypeId} {inf : TypeInfo} {z : Value} {lo hi lo2 hi2 sl m d : Nat} {L M : List Value} {A : Option Addr} {v : Value} (hu : E.u ts = some (.slice elem)) (hux : E.u tx = some (.slice elem')) (hi' : E.i elem = some inf) (hz : inf.zero = some z)
    (hc : (okConst z && decide (z.cells.size = inf.size) && decide (0 < inf.size) && decide (inf.bytes < 65536)) = true) (hx : ev E h α x = some (.slice A sl sl)) (hs : SlV h.blks lo hi inf.size sl L (.slice A sl sl)) (hhi : hi ≤ h.next) (hG : E.G ≤ lo) (hlo : lo ≤ h.next) (hy : ev E h α y = some v) (hv : SlV h.blks lo2 hi2 inf.size m M v)
    (hsm : sl + m < 2147483648) (hone : M.all oneB = true) (hd : d < n)
    (hk : ∀ A' h', Pres lo h h' → SlV h'.blks lo h'.next inf.size (sl + m) (L ++ M) (.slice A' (sl + m) (sl + m)) → At P E n ops false r tl k (Tr.put α d (.slice A' (sl + m) (sl + m))) h' R) :
    At P E n ops false (⟨some d, .call ⟨.builtin .append, #[x, y], #[ts, tx]⟩, ty, pos, af, none⟩ :: r) tl k α h R := by
  by_cases hm : m = 0
  · subst hm
    have hM : M = [] := List.length_eq_zero_iff.1 (by rw [hv.len]; simp)
    subst hM
    have hs0 : srcLen v = some 0 := by cases hv <;> first | (rename_i hn hL; rfl) | rfl
    refine At_append0 hu hux hi' hx hy hs0 hd ?_
    have := hk A h (Pres.refl _ _) (by rw [List.append_nil]; exact hs.wide (Nat.le_refl _) hhi)
    simpa using this
  · refine At_append hu hux hi' hz hc hx hs (by omega) hG hy hv (by omega) hsm hone hd fun h' ha => hk _ h' (ha.pres hlo fun b hb => hs.blk b hb) ?_
    refine (ha.slv ?_).wide hlo (Nat.le_refl _)
    rw [List.length_append, hs.len, hv.len, Nat.add_mul]
end


theorem SlV.spot {B : Tr Blk} {lo hi sz n n' c : Nat} {L : List Value} {v : Value} {a : Addr} (s : SlV B lo hi sz n L v) (hv : v = .slice (some a) n' c) (hA : some a ≠ some ⟨0, 0, some 0⟩) : ∃ b off, a = ⟨b, off, none⟩ := by
  cases s with
  | nil _ _ => injection hv with h; cases h
  | emp _ _ => injection hv with h _ _; exact absurd h.symm hA
  | mk _ _ _ _ _ _ => injection hv with h _ _; injection h with h; exact ⟨_, _, h.symm⟩
theorem SlV.same {B : Tr Blk} {lo hi sz n c : Nat} {L : List Value} {A : Option Addr} (s : SlV B lo hi sz n L (.slice A n c)) (hA : A ≠ some ⟨0, 0, some 0⟩) : sameO (some (.slice A n c)) (some (.slice A n c)) = true := by
  cases A with
  | none => simp [sameO, sameA]
  | some a =>
    have : ∃ b off, a = ⟨b, off, none⟩ := s.spot rfl hA
    obtain ⟨b, off, rfl⟩ := this
    simp [sameO, sameA]
end
end Go.Proofs.YthiodndhokooiaaGreatDoor.Ev

