/- Symbolic runs: a slice that grows and shrinks, with room behind it (append in place). -/
import Derived.Test.YtnhbkoeomefkdaaDoorPmSS
set_option linter.unusedVariables false
set_option linter.unusedSimpArgs false
namespace Go.Proofs.YtnhbkoeomefkdaaDoor.Ev
open Go
variable {P : Program} {E : Env}
noncomputable section

/-- a slice, and so many places that it may have -/
inductive CpV (B : Tr Blk) (lo hi sz n c : Nat) (L : List Value) : Value → Prop
  | nil : n = 0 → c = 0 → L = [] → CpV B lo hi sz n c L (.slice none 0 0)
  | mk {b off size : Nat} {cells : Tr Value} : B.get b = some (.mk cells size sz) → lo ≤ b → b < hi → off + c * sz ≤ size → n ≤ c → L.length = n * sz → (∀ i, i < n * sz → cells.get (off + i) = L[i]?) → CpV B lo hi sz n c L (.slice (some ⟨b, off, none⟩) n c)

variable {B B' : Tr Blk} {lo hi sz n c : Nat} {L : List Value} {v : Value}
theorem CpV.slv (s : CpV B lo hi sz n c L v) : SlV B lo hi sz n L v := by
  cases s with
  | nil h1 h2 h3 => subst h1; exact .nil rfl h3
  | mk hb hlo hhi hs hnc hL hc => exact .mk hb hlo hhi (by have := Nat.mul_le_mul_right sz hnc; omega) hL hc
theorem CpV.mono (s : CpV B lo hi sz n c L v) (hB : ∀ b, lo ≤ b → b < hi → B'.get b = B.get b) : CpV B' lo hi sz n c L v := by
  cases s with
  | nil h1 h2 h3 => exact .nil h1 h2 h3
  | mk hb hlo hhi hs hnc hL hc => exact .mk ((hB _ hlo hhi).trans hb) hlo hhi hs hnc hL hc
theorem CpV.wide (s : CpV B lo hi sz n c L v) {lo' hi' : Nat} (h1 : lo' ≤ lo) (h2 : hi ≤ hi') : CpV B lo' hi' sz n c L v := by
  cases s with
  | nil h1 h2 h3 => exact .nil h1 h2 h3
  | mk hb hlo hhi hs hnc hL hc => exact .mk hb (by omega) (by omega) hs hnc hL hc
theorem CpV.shape (s : CpV B lo hi sz n c L v) : ∃ A, v = .slice A n c := by
  cases s with
  | nil h1 h2 h3 => exact ⟨none, by rw [h1, h2]⟩
  | mk hb hlo hhi hs hnc hL hc => exact ⟨_, rfl⟩
/-- the first so many -/
theorem CpV.take {E : Env} {m : Nat} {kd : IntKind} {t elem : TypeId} {inf : TypeInfo} {A : Option Addr} (hu : E.u t = some (.slice elem)) (hi' : E.i elem = some inf) (hsz : inf.size = sz) (s : CpV B lo hi sz n c L (.slice A n c)) (hm : m ≤ n) :
    sliceO E t B (some (.slice A n c)) (some []) (some [.int kd m]) = some (.slice A m c) ∧ CpV B lo hi sz m c (L.take (m * sz)) (.slice A m c) := by
  cases s with
  | nil hn hc hL =>
    subst hL
    obtain rfl : m = 0 := by omega
    refine ⟨?_, .nil rfl rfl (by simp)⟩
    show evSlice E ⟨B, 0, 0⟩ t (.slice none 0 0) none (some (.int kd (Int.ofNat 0))) = _
    simp [evSlice, hu, hi', bound]
  | mk hb hlo hhi hs hnc hL hc =>
    rename_i b off size cells
    have hmul : m * sz ≤ n * sz := Nat.mul_le_mul_right _ hm
    refine ⟨?_, .mk hb hlo hhi hs (by omega) (by simp; omega) fun i hi => ?_⟩
    · show evSlice E ⟨B, 0, 0⟩ t (.slice (some ⟨b, off, none⟩) n c) none (some (.int kd (Int.ofNat m))) = _
      simp [evSlice, hu, hi', bound, hm, hb, hsz, forceN_eq]
    · rw [hc i (by omega), List.getElem?_take, if_pos hi]

section
variable {nn : Nat} {ops : List Oper} {q : Bool} {r tl : List Oper} {k : List Frm} {α : Tr Value} {h : H} {R : Rt} {d : Nat} {ty : TypeId} {pos : String} {af : Array Edge}
theorem At_appendC [NoFz E] {x y : Operand} {ts tx elem elem' : TypeId} {inf : TypeInfo} {z : Value} {lo hi lo2 hi2 sl m sc : Nat} {L M : List Value} {w v : Value} (hu : E.u ts = some (.slice elem)) (hux : E.u tx = some (.slice elem')) (hi' : E.i elem = some inf) (hz : inf.zero = some z)
    (hc : (okConst z && decide (z.cells.size = inf.size) && decide (0 < inf.size) && decide (inf.bytes < 65536)) = true) (hx : ev E h α x = some w) (hs : CpV h.blks lo hi inf.size sl sc L w) (hhi : hi ≤ h.next) (hlo : lo ≤ h.next) (hG : E.G ≤ lo) (hy : ev E h α y = some v) (hv : SlV h.blks lo2 hi2 inf.size m M v)
    (hm : 0 < m) (hsm : sl + m < 2147483648) (hone : M.all oneB = true) (hd : d < nn)
    (hk : ∀ w' c' h', Pres lo h h' → CpV h'.blks lo h'.next inf.size (sl + m) c' (L ++ M) w' → At P E nn ops false r tl k (Tr.put α d w') h' R) :
    At P E nn ops false (⟨some d, .call ⟨.builtin .append, #[x, y], #[ts, tx]⟩, ty, pos, af, none⟩ :: r) tl k α h R := by
  obtain ⟨A, rfl⟩ := hs.shape
  rcases Nat.lt_or_ge sc (sl + m) with hcap | hcap
  · refine At_append hu hux hi' hz hc hx hs.slv hcap hG hy hv hm hsm hone hd fun h' ha => ?_
    have hne := ha.next
    refine hk _ (sl + m) h' (ha.pres hlo fun b hb => ?_) ?_
    · cases hs with
      | nil h1 h2 h3 => cases hb
      | mk hb' hlo hhi hs hnc hL hc => simp only [blkOf, Option.some.injEq] at hb; omega
    · have hl : (L ++ M).length = (sl + m) * inf.size := by rw [List.length_append, hs.slv.len, hv.len, Nat.add_mul]
      refine .mk (by rw [ha.get, if_pos rfl]) hlo (by omega) (by rw [Nat.zero_add, hl]; exact Nat.le_refl _) (Nat.le_refl _) hl fun i hi => ?_
      rw [Tr.ofList_get, Nat.zero_add]
  · cases hs with
    | nil h1 h2 h3 => omega
    | mk hb hlo' hhi' hsz hnc hL hcl =>
      rename_i b off size cells
      rw [At_heap rfl rfl]
      obtain ⟨e1, e2⟩ := srcCells_of hv hm
      simp only [Bool.and_eq_true, decide_eq_true_eq] at hc
      obtain ⟨⟨⟨c1, c2⟩, c3⟩, c4⟩ := hc
      have hcond : (okConst z && decide (z.cells.size = inf.size) && decide (0 < inf.size) && decide (inf.bytes < 65536) && decide (sl + m < 2147483648) && M.all oneB && decide (M.length = m * inf.size)) = true := by
        simp only [Bool.and_eq_true, decide_eq_true_eq]
        exact ⟨⟨⟨⟨⟨⟨c1, c2⟩, c3⟩, c4⟩, hsm⟩, hone⟩, hv.len⟩
      have hm0 : ¬ m = 0 := by omega
      have hml := hv.len
      have hmul := Nat.mul_le_mul_right inf.size hcap
      rw [Nat.add_mul] at hmul
      let h1 : H := { blks := Tr.put h.blks b (.mk (setCells cells (off + sl * inf.size) M) size inf.size), next := h.next, wm := min h.wm b }
      have hwr : wr E h b (off + sl * inf.size) M = some h1 := by
        simp only [wr, hb, Tr.force_eq, forceN_eq]
        rw [if_pos ⟨by omega, by omega, hone, NoFz.frz _⟩]
      have e : evOp P E nocall (st false h) α ⟨some d, .call ⟨.builtin .append, #[x, y], #[ts, tx]⟩, ty, pos, af, none⟩ = some (.slice (some ⟨b, off, none⟩) (sl + m) sc, h1) := by
        rw [evOp_eq]
        simp only [evOpS, evs, st, hx, hy]
        show evAppend E h ts tx (.slice (some ⟨b, off, none⟩) sl sc) v = _
        simp only [evAppend, hu, hux, e1, notInt_slice, hi', hm0, hz, e2, hb, if_true, hcap, hwr, forceN_eq]
        rw [if_pos hcond]
        simp
      rw [e, HeapO_some hd]
      refine ⟨fun e => (by cases e), hk _ sc h1 ⟨Nat.le_refl _, by show min h.wm lo ≤ min h.wm b; omega, fun b' hb' => ?_⟩ ?_⟩
      · show (Tr.put h.blks b _).get b' = _
        rw [Tr.get_put, if_neg (by omega)]
      · refine .mk (b := b) (off := off) (size := size) (cells := setCells cells (off + sl * inf.size) M) ?_ hlo' (by show b < h.next; omega) hsz hcap (by rw [List.length_append, hL, hml, Nat.add_mul]) fun i hi => ?_
        · show (Tr.put h.blks b _).get b = _
          rw [Tr.get_put, if_pos rfl]
        · rw [setCells_get, Nat.add_mul] at *
          rcases Nat.lt_or_ge i (sl * inf.size) with hi1 | hi1
          · rw [if_neg (by omega), hcl i hi1, List.getElem?_append_left (by omega)]
          · rw [if_pos (by omega), List.getElem?_append_right (by omega), hL]
            congr 1
            omega
end
end
end Go.Proofs.YtnhbkoeomefkdaaDoor.Ev

