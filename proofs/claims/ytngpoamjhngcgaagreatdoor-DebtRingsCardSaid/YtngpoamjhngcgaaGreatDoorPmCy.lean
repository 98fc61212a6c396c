/- copy and clear. -/
import Derived.Test.YtngpoamjhngcgaaGreatDoorPmSS
set_option linter.unusedVariables false
set_option linter.unusedSimpArgs false
namespace Go.Proofs.YtngpoamjhngcgaaGreatDoor.Ev
open Go
noncomputable section
section
variable {P : Program} {E : Env} {n : Nat} {ops : List Oper} {r tl : List Oper} {k : List Frm} {α : Tr Value} {h : H} {R : Rt} {d : Nat} {ty : TypeId} {pos : String} {af : Array Edge}
theorem wr_sto [NoFz E] {b off size es : Nat} {cells : Tr Value} {L : List Value} (hone : L.all oneB = true) (hb : h.blks.get b = some (.mk cells size es)) (hle : off + L.length ≤ size) (hG : E.G ≤ b) : ∃ h', wr E (st false h) b off L = some h' ∧ Sto h h' b off L := by
  refine ⟨{ blks := Tr.put h.blks b (.mk (setCells cells off L) size es), next := h.next, wm := min h.wm b }, ?_, ⟨rfl, Nat.le_refl _, fun b' hb' => ?_, fun c2 s2 e2 h2 => ?_⟩⟩
  · simp only [wr, st, hb, Tr.force_eq, forceN_eq]
    rw [if_pos ⟨by omega, hG, hone, NoFz.frz _⟩]
  · show (Tr.put h.blks b _).get b' = _
    rw [Tr.get_put, if_neg hb']
  · show (Tr.put h.blks b _).get b = _
    rw [Tr.get_put, if_pos rfl]
    rw [hb] at h2
    injection h2 with h2
    injection h2 with f1 f2 f3
    subst f1; subst f2; subst f3
    rfl
/-- copy(x, y), all of y -/
theorem At_copy [NoFz E] {x y : Operand} {td tx elem : TypeId} {inf : TypeInfo} {lo2 hi2 m dl sc b off size es : Nat} {cells : Tr Value} {L : List Value} {v : Value} (hu : E.u td = some (.slice elem)) (hi' : E.i elem = some inf) (hx : ev E h α x = some (.slice (some ⟨b, off, none⟩) dl sc)) (hy : ev E h α y = some v) (hv : SlV h.blks lo2 hi2 inf.size m L v)
    (hm : 0 < m) (hmd : m ≤ dl) (hone : L.all oneB = true) (hb : h.blks.get b = some (.mk cells size es)) (hle : off + m * inf.size ≤ size) (hG : E.G ≤ b) (hd : d < n)
    (hk : ∀ h', Sto h h' b off L → At P E n ops false r tl k (Tr.put α d (.int .i64 m)) h' R) :
    At P E n ops false (⟨some d, .call ⟨.builtin .copy, #[x, y], #[td, tx]⟩, ty, pos, af, none⟩ :: r) tl k α h R := by
  rw [At_heap rfl rfl]
  have hst : (st false h).blks = h.blks := rfl
  obtain ⟨e1, e2⟩ := srcCells_of (h := st false h) hv hm
  obtain ⟨h', w1, w2⟩ := wr_sto (E := E) hone hb (by rw [hv.len]; exact hle) hG
  have hmin : min m dl = m := Nat.min_eq_left hmd
  have hm0 : ¬ m = 0 := by omega
  have e : evOp P E nocall (st false h) α ⟨some d, .call ⟨.builtin .copy, #[x, y], #[td, tx]⟩, ty, pos, af, none⟩ = some (.int .i64 m, h') := by
    rw [evOp_eq]
    have hx1 : ev E (st false h) α x = _ := hx
    have hy1 : ev E (st false h) α y = _ := hy
    simp only [evOpS, evs, hx1, hy1]
    show evCopy E (st false h) td (.slice (some ⟨b, off, none⟩) dl sc) v = _
    simp only [evCopy, hu, e1, hi', forceN_eq, hmin, hm0, if_false, e2, w1]
  rw [e, HeapO_some hd]
  exact ⟨fun e => (by cases e), hk h' w2⟩
end
end
end Go.Proofs.YtngpoamjhngcgaaGreatDoor.Ev

