/- The evaluator's heap and the model's: reading, writing, new blocks. -/
import Derived.Test.YtihmbbgnielbnaaGreatDoorPmEvTr
namespace Go.Proofs.YtihmbbgnielbnaaGreatDoor.Ev
open Go

def Hok (h : H) : Prop := ∀ b, h.next ≤ b → h.blks.get b = none

/-- what a piece of evaluation may do to the heap -/
structure AE (E : Env) (h h' : H) : Prop where
  ok : Hok h'
  next : h.next ≤ h'.next
  nolive : ∀ b, b < h.next → live h' b = true → live h b = true
  wm : h'.wm ≤ h.wm
  pres : ∀ b, b < h.next → b < h'.wm → h'.blks.get b = h.blks.get b
  glob : ∀ b, b < E.G → h'.blks.get b = h.blks.get b

theorem AE.refl {E : Env} {h : H} (ok : Hok h) : AE E h h := ⟨ok, Nat.le_refl _, fun _ _ h => h, Nat.le_refl _, fun _ _ _ => rfl, fun _ _ => rfl⟩
theorem AE.trans {E : Env} {h h1 h2 : H} (a : AE E h h1) (b : AE E h1 h2) : AE E h h2 :=
  ⟨b.ok, Nat.le_trans a.next b.next, fun x hx hl => a.nolive x hx (b.nolive x (Nat.lt_of_lt_of_le hx a.next) hl), Nat.le_trans b.wm a.wm,
    fun x hx hw => (b.pres x (Nat.lt_of_lt_of_le hx a.next) hw).trans (a.pres x hx (Nat.lt_of_lt_of_le hw b.wm)), fun x hx => (b.glob x hx).trans (a.glob x hx)⟩


variable {E : Env} {h h' : H}

theorem live_mk {b : Nat} {cells : Tr Value} {size es : Nat} (hb : h.blks.get b = some (.mk cells size es)) : live h b = true := by simp [live, hb]
theorem live_lt (ok : Hok h) {b : Nat} (hl : live h b = true) : b < h.next := by
  rcases Nat.lt_or_ge b h.next with h1 | h1
  · exact h1
  · simp [live, ok b h1] at hl
theorem get_lt (ok : Hok h) {b : Nat} {B : Blk} (hb : h.blks.get b = some B) : b < h.next := by
  rcases Nat.lt_or_ge b h.next with h1 | h1
  · exact h1
  · rw [ok b h1] at hb; cases hb

theorem wr_some {b off : Nat} {vs : List Value} (hw : wr E h b off vs = some h') : ∃ cells size es, h.blks.get b = some (.mk cells size es) ∧ off + vs.length ≤ size ∧ E.G ≤ b ∧
    vs.all oneB = true ∧ h' = { blks := Tr.put h.blks b (.mk (setCells cells off vs) size es), next := h.next, wm := min h.wm b } := by
  unfold wr at hw
  split at hw
  · rename_i cells size es hb
    split at hw
    · rename_i hc
      simp only [Tr.force_eq, forceN_eq, Option.some.injEq] at hw
      exact ⟨cells, size, es, hb, hc.1, hc.2.1, hc.2.2, hw.symm⟩
    · cases hw
  · cases hw

theorem wr_ae (ok : Hok h) {b off : Nat} {vs : List Value} (hw : wr E h b off vs = some h') : AE E h h' := by
  obtain ⟨cells, size, es, hb, _, hG, _, rfl⟩ := wr_some hw
  have hbn := get_lt ok hb
  have hg : ∀ k, (Tr.put h.blks b (.mk (setCells cells off vs) size es)).get k = if k = b then some (.mk (setCells cells off vs) size es) else h.blks.get k :=
    fun k => Tr.get_put _ _ _ _
  refine ⟨fun k hk => ?_, Nat.le_refl _, fun k hk hl => ?_, Nat.min_le_left _ _, fun k hk hw => ?_, fun k hk => ?_⟩
  · simp only at hk ⊢; rw [hg, if_neg (by omega)]; exact ok k hk
  · by_cases hkb : k = b
    · subst hkb; exact live_mk hb
    · simpa [live, hg, hkb] using hl
  · simp only at hw ⊢; rw [hg, if_neg (by omega)]
  · simp only; rw [hg, if_neg (by omega)]

theorem aNew_some {cells : List Value} {es b : Nat} (hn : aNew h cells es = some (b, h')) : b = h.next ∧
    h' = { blks := Tr.put h.blks h.next (.mk (Tr.ofList cells) cells.length es), next := h.next + 1, wm := h.wm } := by
  unfold aNew at hn
  simp only [forceN_eq, Tr.force_eq, Option.some.injEq, Prod.mk.injEq] at hn
  exact ⟨hn.1.symm, hn.2.symm⟩

theorem aNew_ae (ok : Hok h) (hG : E.G ≤ h.next) {cells : List Value} {es b : Nat} (hn : aNew h cells es = some (b, h')) : AE E h h' := by
  obtain ⟨rfl, rfl⟩ := aNew_some hn
  have hg : ∀ k, (Tr.put h.blks h.next (.mk (Tr.ofList cells) cells.length es)).get k = if k = h.next then some (.mk (Tr.ofList cells) cells.length es) else h.blks.get k :=
    fun k => Tr.get_put _ _ _ _
  refine ⟨fun k hk => ?_, Nat.le_succ _, fun k hk hl => ?_, Nat.le_refl _, fun k hk hw => ?_, fun k hk => ?_⟩
  · simp only at hk ⊢; rw [hg, if_neg (by omega)]; exact ok k (by omega)
  · have : k ≠ h.next := by omega
    simpa [live, hg, this] using hl
  · simp only; rw [hg, if_neg (by omega)]
  · simp only; rw [hg, if_neg (by omega)]

theorem kill_some {b : Nat} (hk : kill E h b = some h') : ∃ cells size es, h.blks.get b = some (.mk cells size es) ∧ E.G ≤ b ∧
    h' = { blks := Tr.put h.blks b .dead, next := h.next, wm := min h.wm b } := by
  unfold kill at hk
  split at hk
  · rename_i cells size es hb
    split at hk
    · rename_i hc
      simp only [Tr.force_eq, forceN_eq, Option.some.injEq] at hk
      exact ⟨cells, size, es, hb, hc, hk.symm⟩
    · cases hk
  · cases hk

theorem kill_ae (ok : Hok h) {b : Nat} (hk : kill E h b = some h') : AE E h h' := by
  obtain ⟨cells, size, es, hb, hG, rfl⟩ := kill_some hk
  have hbn := get_lt ok hb
  have hg : ∀ k, (Tr.put h.blks b .dead).get k = if k = b then some .dead else h.blks.get k := fun k => Tr.get_put _ _ _ _
  refine ⟨fun k hk => ?_, Nat.le_refl _, fun k hk hl => ?_, Nat.min_le_left _ _, fun k hk hw => ?_, fun k hk => ?_⟩
  · simp only at hk ⊢; rw [hg, if_neg (by omega)]; exact ok k hk
  · by_cases hkb : k = b
    · subst hkb; exact live_mk hb
    · simpa [live, hg, hkb] using hl
  · simp only at hw ⊢; rw [hg, if_neg (by omega)]
  · simp only; rw [hg, if_neg (by omega)]

/- ### the relation with the model's memory -/

/-- a block of the evaluator and the block of the model that bears it -/
def Bears (φ : Phi) (w : World) (wr : Prop) (cells : Tr Value) (size es : Nat) : Nat × Nat × Nat × Nat → Prop
  | (c, sh, es', top) => es' = es ∧ ∃ cs ty fr, w.heap[c]? = some (.cells cs ty fr) ∧ (wr → fr = (0, 0)) ∧ sh + size ≤ top ∧ top ≤ cs.size ∧
      ∀ i, i < size → ∃ v v', cells.get i = some v ∧ cs[sh + i]? = some v' ∧ VR φ v v'

structure HR (E : Env) (φ : Phi) (g : Nat → Option Blk) (w : World) : Prop where
  blk : ∀ b cells size es, g b = some (.mk cells size es) → ∀ x, φ b = some x → Bears φ w (E.G ≤ b) cells size es x
  inj : ∀ b b' x x' cells size es cells' size' es', E.G ≤ b → g b = some (.mk cells size es) → g b' = some (.mk cells' size' es') → φ b = some x → φ b' = some x' → x.1 = x'.1 → b = b'
  glob : ∀ b cells size es, b < E.G → b < E.N → g b = some (.mk cells size es) → ∃ es' top, φ b = some (b, 0, es', top)

theorem HR.lt {φ : Phi} {g : Nat → Option Blk} {w : World} (hr : HR E φ g w) {b : Nat} {cells : Tr Value} {size es : Nat} (hb : g b = some (.mk cells size es)) {x : Nat × Nat × Nat × Nat} (hx : φ b = some x) : x.1 < w.heap.size := by
  obtain ⟨c, sh, es', top⟩ := x
  obtain ⟨_, cs, ty, _, hh, _⟩ := hr.blk b cells size es hb _ hx
  rcases Nat.lt_or_ge c w.heap.size with h1 | h1
  · exact h1
  · rw [Array.getElem?_eq_none h1] at hh; cases hh

/-- from a state of both to a later one -/
structure Ext (E : Env) (φ : Phi) (h : H) (w : World) (φ' : Phi) (h' : H) (w' : World) : Prop where
  le : ∀ b x, φ b = some x → φ' b = some x
  dom : ∀ b x, φ' b = some x → φ b = some x ∨ (φ b = none ∧ h.next ≤ b ∧ b < h'.next)
  src : ∀ b x, φ' b = some x → φ b = none → w.heap.size ≤ x.1 ∨ ∃ b0 x0, live h b0 = true ∧ E.G ≤ b0 ∧ φ b0 = some x0 ∧ x0.1 = x.1
  os : w'.os = w.os
  tape : w'.tape = w.tape
  output : w'.output = w.output
  size : w.heap.size ≤ w'.heap.size
  frame : ∀ c, c < w.heap.size → (∀ b x, live h b = true → E.G ≤ b → φ b = some x → x.1 ≠ c) → w'.heap[c]? = w.heap[c]?

theorem Ext.refl (E : Env) (φ : Phi) (h : H) (w : World) : Ext E φ h w φ h w :=
  ⟨fun _ _ h => h, fun _ _ h => .inl h, fun _ _ h h' => (by rw [h'] at h; cases h), rfl, rfl, rfl, Nat.le_refl _, fun _ _ _ => rfl⟩

theorem Ext.drew (E : Env) (φ : Phi) (h : H) (w : World) (n : Nat) : Ext E φ h w φ h { w with drawn := n } :=
  ⟨fun _ _ h => h, fun _ _ h => .inl h, fun _ _ h h' => (by rw [h'] at h; cases h), rfl, rfl, rfl, Nat.le_refl _, fun _ _ _ => rfl⟩

theorem Ext.trans {φ φ1 φ2 : Phi} {h h1 h2 : H} {w w1 w2 : World} (hf : ∀ b, h.next ≤ b → b < h1.next → φ b = none) (a : Ext E φ h w φ1 h1 w1) (aa : AE E h h1) (b : Ext E φ1 h1 w1 φ2 h2 w2) (ba : AE E h1 h2) : Ext E φ h w φ2 h2 w2 := by
  refine ⟨fun x y hx => b.le _ _ (a.le _ _ hx), fun x y hx => ?_, fun x y hx h0 => ?_, b.os.trans a.os, b.tape.trans a.tape, b.output.trans a.output, Nat.le_trans a.size b.size, fun c hc hno => ?_⟩
  · rcases b.dom x y hx with h3 | ⟨h3, h4, h5⟩
    · rcases a.dom x y h3 with h6 | ⟨h6, h7, h8⟩
      · exact .inl h6
      · exact .inr ⟨h6, h7, Nat.lt_of_lt_of_le h8 ba.next⟩
    · refine .inr ⟨?_, Nat.le_trans aa.next h4, h5⟩
      cases h6 : φ x with
      | none => rfl
      | some z => rw [a.le _ _ h6] at h3; cases h3
  · cases h3 : φ1 x with
    | some z =>
      have := b.le _ _ h3
      rw [hx] at this
      injection this with this
      subst this
      exact a.src x y h3 h0
    | none =>
      rcases b.src x y hx h3 with h4 | ⟨b0, x0, hl, hG, h5, h6⟩
      · exact .inl (Nat.le_trans a.size h4)
      · rcases a.dom b0 x0 h5 with h7 | ⟨h7, h8, h9⟩
        · have hlt : b0 < h.next := by
            rcases Nat.lt_or_ge b0 h.next with hh | hh
            · exact hh
            · rw [hf b0 hh (live_lt aa.ok hl)] at h7; cases h7
          exact .inr ⟨b0, x0, aa.nolive b0 hlt hl, hG, h7, h6⟩
        · rcases a.src b0 x0 h5 h7 with h10 | ⟨b1, x1, hl1, hG1, h11, h12⟩
          · exact .inl (h6 ▸ h10)
          · exact .inr ⟨b1, x1, hl1, hG1, h11, h12.trans h6⟩
  · have h3 := a.frame c hc hno
    rw [← h3]
    refine b.frame c (Nat.lt_of_lt_of_le hc a.size) fun b0 x0 hl hG h5 => ?_
    rcases a.dom b0 x0 h5 with h7 | ⟨h7, h8, h9⟩
    · have hlt : b0 < h.next := by
        rcases Nat.lt_or_ge b0 h.next with hh | hh
        · exact hh
        · rw [hf b0 hh (live_lt aa.ok hl)] at h7; cases h7
      exact hno b0 x0 (aa.nolive b0 hlt hl) hG h7
    · rcases a.src b0 x0 h5 h7 with h10 | ⟨b1, x1, hl1, hG1, h11, h12⟩
      · omega
      · intro he
        exact hno b1 x1 hl1 hG1 h11 (h12.trans he)
end Go.Proofs.YtihmbbgnielbnaaGreatDoor.Ev
