/- The evaluator's heap and the model's: reading, writing, new blocks. -/
import Derived.Test.YtngpoamjhngcgaaGreatDoorPmEvTr
namespace Go.Proofs.YtngpoamjhngcgaaGreatDoor.Ev
open Go

def Hok (h : H) : Prop := ∀ b, h.next ≤ b → h.blks.get b = none

/-- what a piece of evaluation may do to the heap -/
structure AE (E : Env) (h h' : H) : Prop where
  ok : Hok h'
  next : h.next ≤ h'.next
  nolive : ∀ b, b < h.next → live h' b = true → live h b = true
  wm : h'.wm ≤ h.wm
  pres : ∀ b, b < h.next → b < h'.wm → h'.blks.get b = h.blks.get b
  glob : ∀ b, b < E.G → h'.blks.get b = h.blks.get b

theorem AE.refl {E : Env} {h : H} (ok : Hok h) : AE E h h := ⟨ok, Nat.le_refl _, fun _ _ h => h, Nat.le_refl _, fun _ _ _ => rfl, fun _ _ => rfl⟩
theorem AE.trans {E : Env} {h h1 h2 : H} (a : AE E h h1) (b : AE E h1 h2) : AE E h h2 :=
  ⟨b.ok, Nat.le_trans a.next b.next, fun x hx hl => a.nolive x hx (b.nolive x (Nat.lt_of_lt_of_le hx a.next) hl), Nat.le_trans b.wm a.wm,
    fun x hx hw => (b.pres x (Nat.lt_of_lt_of_le hx a.next) hw).trans (a.pres x hx (Nat.lt_of_lt_of_le hw b.wm)), fun x hx => (b.glob x hx).trans (a.glob x hx)⟩


variable {E : Env} {h h' : H}

theorem frz_G {b : Nat} (hf : E.frz b = true) : E.G ≤ b := by
  simp only [Env.frz, Bool.and_eq_true] at hf
  exact Nat.le_of_ble_eq_true hf.1

theorem live_mk {b : Nat} {cells : Tr Value} {size es : Nat} (hb : h.blks.get b = some (.mk cells size es)) : live h b = true := by simp [live, hb]
theorem live_mp {b : Nat} {l : List (Value × Value)} (hb : h.blks.get b = some (.mp l)) : live h b = true := by simp [live, hb]
theorem liveC_mk {b : Nat} {cells : Tr Value} {size es : Nat} (hb : h.blks.get b = some (.mk cells size es)) : liveC h b = true := by simp [liveC, hb]
theorem live_get {b : Nat} (hl : live h b = true) : ∃ B, B ≠ .dead ∧ h.blks.get b = some B := by
  unfold live at hl
  split at hl
  · rename_i heq; exact ⟨_, (fun e => by cases e), heq⟩
  · rename_i heq; exact ⟨_, (fun e => by cases e), heq⟩
  · cases hl
theorem live_lt (ok : Hok h) {b : Nat} (hl : live h b = true) : b < h.next := by
  rcases Nat.lt_or_ge b h.next with h1 | h1
  · exact h1
  · simp [live, ok b h1] at hl
theorem get_lt (ok : Hok h) {b : Nat} {B : Blk} (hb : h.blks.get b = some B) : b < h.next := by
  rcases Nat.lt_or_ge b h.next with h1 | h1
  · exact h1
  · rw [ok b h1] at hb; cases hb

theorem wr_some {b off : Nat} {vs : List Value} (hw : wr E h b off vs = some h') : ∃ cells size es, h.blks.get b = some (.mk cells size es) ∧ off + vs.length ≤ size ∧ E.G ≤ b ∧
    vs.all oneB = true ∧ E.frz b = false ∧ h' = { blks := Tr.put h.blks b (.mk (setCells cells off vs) size es), next := h.next, wm := min h.wm b } := by
  unfold wr at hw
  split at hw
  · rename_i cells size es hb
    split at hw
    · rename_i hc
      simp only [Tr.force_eq, forceN_eq, Option.some.injEq] at hw
      exact ⟨cells, size, es, hb, hc.1, hc.2.1, hc.2.2.1, hc.2.2.2, hw.symm⟩
    · cases hw
  · cases hw

theorem wr_ae (ok : Hok h) {b off : Nat} {vs : List Value} (hw : wr E h b off vs = some h') : AE E h h' := by
  obtain ⟨cells, size, es, hb, _, hG, _, _, rfl⟩ := wr_some hw
  have hbn := get_lt ok hb
  have hg : ∀ k, (Tr.put h.blks b (.mk (setCells cells off vs) size es)).get k = if k = b then some (.mk (setCells cells off vs) size es) else h.blks.get k :=
    fun k => Tr.get_put _ _ _ _
  refine ⟨fun k hk => ?_, Nat.le_refl _, fun k hk hl => ?_, Nat.min_le_left _ _, fun k hk hw => ?_, fun k hk => ?_⟩
  · simp only at hk ⊢; rw [hg, if_neg (by omega)]; exact ok k hk
  · by_cases hkb : k = b
    · subst hkb; exact live_mk hb
    · simpa [live, hg, hkb] using hl
  · simp only at hw ⊢; rw [hg, if_neg (by omega)]
  · simp only; rw [hg, if_neg (by omega)]

theorem aNew_some {cells : List Value} {es b : Nat} (hn : aNew h cells es = some (b, h')) : b = h.next ∧
    h' = { blks := Tr.put h.blks h.next (.mk (Tr.ofList cells) cells.length es), next := h.next + 1, wm := h.wm } := by
  unfold aNew at hn
  simp only [forceN_eq, Tr.force_eq, Option.some.injEq, Prod.mk.injEq] at hn
  exact ⟨hn.1.symm, hn.2.symm⟩

theorem aNew_ae (ok : Hok h) (hG : E.G ≤ h.next) {cells : List Value} {es b : Nat} (hn : aNew h cells es = some (b, h')) : AE E h h' := by
  obtain ⟨rfl, rfl⟩ := aNew_some hn
  have hg : ∀ k, (Tr.put h.blks h.next (.mk (Tr.ofList cells) cells.length es)).get k = if k = h.next then some (.mk (Tr.ofList cells) cells.length es) else h.blks.get k :=
    fun k => Tr.get_put _ _ _ _
  refine ⟨fun k hk => ?_, Nat.le_succ _, fun k hk hl => ?_, Nat.le_refl _, fun k hk hw => ?_, fun k hk => ?_⟩
  · simp only at hk ⊢; rw [hg, if_neg (by omega)]; exact ok k (by omega)
  · have : k ≠ h.next := by omega
    simpa [live, hg, this] using hl
  · simp only; rw [hg, if_neg (by omega)]
  · simp only; rw [hg, if_neg (by omega)]

theorem kill_some {b : Nat} (hk : kill E h b = some h') : ∃ cells size es, h.blks.get b = some (.mk cells size es) ∧ E.G ≤ b ∧
    h' = { blks := Tr.put h.blks b .dead, next := h.next, wm := min h.wm b } := by
  unfold kill at hk
  split at hk
  · rename_i cells size es hb
    split at hk
    · rename_i hc
      simp only [Tr.force_eq, forceN_eq, Option.some.injEq] at hk
      exact ⟨cells, size, es, hb, hc, hk.symm⟩
    · cases hk
  · cases hk

theorem kill_ae (ok : Hok h) {b : Nat} (hk : kill E h b = some h') : AE E h h' := by
  obtain ⟨cells, size, es, hb, hG, rfl⟩ := kill_some hk
  have hbn := get_lt ok hb
  have hg : ∀ k, (Tr.put h.blks b .dead).get k = if k = b then some .dead else h.blks.get k := fun k => Tr.get_put _ _ _ _
  refine ⟨fun k hk => ?_, Nat.le_refl _, fun k hk hl => ?_, Nat.min_le_left _ _, fun k hk hw => ?_, fun k hk => ?_⟩
  · simp only at hk ⊢; rw [hg, if_neg (by omega)]; exact ok k hk
  · by_cases hkb : k = b
    · subst hkb; exact live_mk hb
    · simpa [live, hg, hkb] using hl
  · simp only at hw ⊢; rw [hg, if_neg (by omega)]
  · simp only; rw [hg, if_neg (by omega)]

/- ### the relation with the model's memory -/

/-- none of so many cells is frozen -/
def NoFr (fr : Nat × Nat) (n : Nat) : Prop := fr.2 ≤ fr.1 ∨ n ≤ fr.1
theorem NoFr.zero {n : Nat} : NoFr (0, 0) n := .inl (Nat.le_refl _)
theorem NoFr.at_ {fr : Nat × Nat} {n i : Nat} (h : NoFr fr n) (hi : i < n) {w : World} {c : Nat} {cs : Array Value} {ty : TypeId} (hh : w.heap[c]? = some (.cells cs ty fr)) : w.frozen? ⟨c, i, none⟩ = false := by
  obtain ⟨lo, hi'⟩ := fr
  simp only [World.frozen?, hh]
  rcases h with h | h
  · simp only at h
    by_cases h1 : lo ≤ i
    · have : ¬ i < hi' := by omega
      simp [h1, this]
    · simp [h1]
  · simp only at h
    have : ¬ lo ≤ i := by omega
    simp [this]

/-- a block of the evaluator and the block of the model that bears it -/
def Bears (φ : Phi) (w : World) (wr gl : Prop) (cells : Tr Value) (size es : Nat) : Nat × Nat × Nat × Nat → Prop
  | (c, sh, es', top) => es' = es ∧ ∃ cs ty fr, w.heap[c]? = some (.cells cs ty fr) ∧ ((wr → NoFr fr cs.size) ∧ (gl → cs.size = size)) ∧ sh + size ≤ top ∧ top ≤ cs.size ∧
      ∀ i, i < size → ∃ v v', cells.get i = some v ∧ cs[sh + i]? = some v' ∧ VR φ v v'

/-- the entries of a map -/
inductive EsR (φ : Phi) : List (Value × Value) → List MapEntry → Prop
  | nil : EsR φ [] []
  | cons {k v : Value} {e : MapEntry} {l : List (Value × Value)} {es : List MapEntry} (hp : plainA k = true) (hk : e.key = k) (hv : VR φ v e.val) (t : EsR φ l es) : EsR φ ((k, v) :: l) (e :: es)

theorem EsR.mono {φ φ' : Phi} (hl : ∀ b x, φ b = some x → φ' b = some x) {l : List (Value × Value)} {es : List MapEntry} (h : EsR φ l es) : EsR φ' l es := by
  induction h with
  | nil => exact .nil
  | cons hp hk hv _ ih => exact .cons hp hk (hv.mono hl) ih

/-- maps -/
structure MP (φ : Phi) (g : Nat → Option Blk) (w : World) : Prop where
  blk : ∀ b l, g b = some (.mp l) → ∀ x, φ b = some x → ∃ es clk, w.heap[x.1]? = some (.map es clk) ∧ EsR φ l es.toList
  inj : ∀ b b' l l' x x', g b = some (.mp l) → g b' = some (.mp l') → φ b = some x → φ b' = some x' → x.1 = x'.1 → b = b'

theorem MP.move {φ φ' : Phi} {g g' : Nat → Option Blk} {w w' : World} (h : MP φ g w) (hle : ∀ b x, φ b = some x → φ' b = some x) (hb : ∀ b l, g' b = some (.mp l) → g b = some (.mp l))
    (hφ : ∀ b l x, g' b = some (.mp l) → φ' b = some x → φ b = some x) (hw : ∀ (c : Nat) (es : Array MapEntry) (clk : Nat), w.heap[c]? = some (.map es clk) → w'.heap[c]? = some (.map es clk)) : MP φ' g' w' :=
  ⟨fun b l hbl x hx => by
    obtain ⟨es, clk, h1, h2⟩ := h.blk b l (hb b l hbl) x (hφ b l x hbl hx)
    exact ⟨es, clk, hw _ _ _ h1, h2.mono hle⟩,
   fun b b' l l' x x' h1 h2 h3 h4 he => h.inj b b' l l' x x' (hb _ _ h1) (hb _ _ h2) (hφ _ _ _ h1 h3) (hφ _ _ _ h2 h4) he⟩

theorem MP.lt {φ : Phi} {g : Nat → Option Blk} {w : World} (h : MP φ g w) {b : Nat} {l : List (Value × Value)} (hb : g b = some (.mp l)) {x : Nat × Nat × Nat × Nat} (hx : φ b = some x) : x.1 < w.heap.size := by
  obtain ⟨es, clk, hh, _⟩ := h.blk b l hb x hx
  rcases Nat.lt_or_ge x.1 w.heap.size with h1 | h1
  · exact h1
  · rw [Array.getElem?_eq_none h1] at hh; cases hh

structure HR (E : Env) (φ : Phi) (g : Nat → Option Blk) (w : World) : Prop where
  blk : ∀ b cells size es, g b = some (.mk cells size es) → ∀ x, φ b = some x → Bears φ w (E.G ≤ b) (b < E.G ∧ b < E.N) cells size es x
  inj : ∀ b b' x x' cells size es cells' size' es', E.G ≤ b → g b = some (.mk cells size es) → g b' = some (.mk cells' size' es') → φ b = some x → φ b' = some x' → x.1 = x'.1 → b = b' ∨ (E.frz b = true ∧ E.frz b' = true)
  glob : ∀ b cells size es, b < E.G → b < E.N → g b = some (.mk cells size es) → ∃ es' top, φ b = some (b, 0, es', top)
  mono : ∀ b b' x x' cells size es cells' size' es', E.frz b = true → E.frz b' = true → b < b' → g b = some (.mk cells size es) → g b' = some (.mk cells' size' es') → φ b = some x → φ b' = some x' → x.1 = x'.1 → x.2.1 = x'.2.1 ∧ size ≤ size'
  mp : MP φ g w

theorem HR.lt {φ : Phi} {g : Nat → Option Blk} {w : World} (hr : HR E φ g w) {b : Nat} {cells : Tr Value} {size es : Nat} (hb : g b = some (.mk cells size es)) {x : Nat × Nat × Nat × Nat} (hx : φ b = some x) : x.1 < w.heap.size := by
  obtain ⟨c, sh, es', top⟩ := x
  obtain ⟨_, cs, ty, _, hh, _⟩ := hr.blk b cells size es hb _ hx
  rcases Nat.lt_or_ge c w.heap.size with h1 | h1
  · exact h1
  · rw [Array.getElem?_eq_none h1] at hh; cases hh

/-- no map lies where cells lie -/
theorem HR.kind {φ : Phi} {g : Nat → Option Blk} {w : World} (hr : HR E φ g w) {b b' : Nat} {cells : Tr Value} {size es : Nat} {l : List (Value × Value)} (hb : g b = some (.mk cells size es)) (hb' : g b' = some (.mp l)) {x x' : Nat × Nat × Nat × Nat} (hx : φ b = some x) (hx' : φ b' = some x') : x.1 ≠ x'.1 := fun he => by
  obtain ⟨c, sh, es', top⟩ := x
  obtain ⟨_, cs, ty, _, hh, _⟩ := hr.blk b cells size es hb _ hx
  obtain ⟨es2, clk, hh', _⟩ := hr.mp.blk b' l hb' _ hx'
  simp only at he
  rw [he, hh'] at hh
  cases hh

theorem HR.kindC {φ : Phi} {h : H} {w : World} (hr : HR E φ h.blks.get w) {b b0 : Nat} (hl : live h b0 = true) {cells : Tr Value} {size es : Nat} (hb : h.blks.get b = some (.mk cells size es)) {x0 x : Nat × Nat × Nat × Nat} (hx0 : φ b0 = some x0) (hx : φ b = some x) (he : x0.1 = x.1) :
    ∃ cells size es, h.blks.get b0 = some (.mk cells size es) := by
  obtain ⟨B, hB, hb0⟩ := live_get hl
  cases B with
  | dead => exact absurd rfl hB
  | mk c s e => exact ⟨c, s, e, hb0⟩
  | mp l => exact absurd he.symm (hr.kind hb hb0 hx hx0)
theorem HR.kindM {φ : Phi} {h : H} {w : World} (hr : HR E φ h.blks.get w) {b b0 : Nat} (hl : live h b0 = true) {l : List (Value × Value)} (hb : h.blks.get b = some (.mp l)) {x0 x : Nat × Nat × Nat × Nat} (hx0 : φ b0 = some x0) (hx : φ b = some x) (he : x0.1 = x.1) :
    ∃ l0, h.blks.get b0 = some (.mp l0) := by
  obtain ⟨B, hB, hb0⟩ := live_get hl
  cases B with
  | dead => exact absurd rfl hB
  | mk c s e => exact absurd he (hr.kind hb0 hb hx0 hx)
  | mp l => exact ⟨l, hb0⟩

/-- from a state of both to a later one -/
structure Ext (E : Env) (φ : Phi) (h : H) (w : World) (φ' : Phi) (h' : H) (w' : World) : Prop where
  le : ∀ b x, φ b = some x → φ' b = some x
  dom : ∀ b x, φ' b = some x → φ b = some x ∨ (φ b = none ∧ h.next ≤ b ∧ b < h'.next)
  src : ∀ b x, φ' b = some x → φ b = none → w.heap.size ≤ x.1 ∨ ∃ b0 x0, live h b0 = true ∧ E.G ≤ b0 ∧ φ b0 = some x0 ∧ x0.1 = x.1 ∧ (E.frz b0 = true → E.frz b = true)
  os : w'.os = w.os
  tape : w'.tape = w.tape
  output : w'.output = w.output
  size : w.heap.size ≤ w'.heap.size
  frame : ∀ c, c < w.heap.size → (∀ b x, live h b = true → E.G ≤ b → φ b = some x → x.1 = c → E.frz b = true ∧ ∀ k, E.frz k = true → h.next ≤ k → k < h'.next → False) → w'.heap[c]? = w.heap[c]?
  drawn : E.strict = true → w.drawn ≤ w'.drawn

theorem Ext.refl (E : Env) (φ : Phi) (h : H) (w : World) : Ext E φ h w φ h w :=
  ⟨fun _ _ h => h, fun _ _ h => .inl h, fun _ _ h h' => (by rw [h'] at h; cases h), rfl, rfl, rfl, Nat.le_refl _, fun _ _ _ => rfl, fun _ => Nat.le_refl _⟩

theorem Ext.drew (E : Env) (φ : Phi) (h : H) (w : World) (n : Nat) (hn : w.drawn ≤ n) : Ext E φ h w φ h { w with drawn := n } :=
  ⟨fun _ _ h => h, fun _ _ h => .inl h, fun _ _ h h' => (by rw [h'] at h; cases h), rfl, rfl, rfl, Nat.le_refl _, fun _ _ _ => rfl, fun _ => hn⟩

theorem Ext.trans {φ φ1 φ2 : Phi} {h h1 h2 : H} {w w1 w2 : World} (hf : ∀ b, h.next ≤ b → b < h1.next → φ b = none) (a : Ext E φ h w φ1 h1 w1) (aa : AE E h h1) (b : Ext E φ1 h1 w1 φ2 h2 w2) (ba : AE E h1 h2) : Ext E φ h w φ2 h2 w2 := by
  refine ⟨fun x y hx => b.le _ _ (a.le _ _ hx), fun x y hx => ?_, fun x y hx h0 => ?_, b.os.trans a.os, b.tape.trans a.tape, b.output.trans a.output, Nat.le_trans a.size b.size, fun c hc hno => ?_, fun hs => Nat.le_trans (a.drawn hs) (b.drawn hs)⟩
  · rcases b.dom x y hx with h3 | ⟨h3, h4, h5⟩
    · rcases a.dom x y h3 with h6 | ⟨h6, h7, h8⟩
      · exact .inl h6
      · exact .inr ⟨h6, h7, Nat.lt_of_lt_of_le h8 ba.next⟩
    · refine .inr ⟨?_, Nat.le_trans aa.next h4, h5⟩
      cases h6 : φ x with
      | none => rfl
      | some z => rw [a.le _ _ h6] at h3; cases h3
  · cases h3 : φ1 x with
    | some z =>
      have := b.le _ _ h3
      rw [hx] at this
      injection this with this
      subst this
      exact a.src x y h3 h0
    | none =>
      rcases b.src x y hx h3 with h4 | ⟨b0, x0, hl, hG, h5, h6, hfz⟩
      · exact .inl (Nat.le_trans a.size h4)
      · rcases a.dom b0 x0 h5 with h7 | ⟨h7, h8, h9⟩
        · have hlt : b0 < h.next := by
            rcases Nat.lt_or_ge b0 h.next with hh | hh
            · exact hh
            · rw [hf b0 hh (live_lt aa.ok hl)] at h7; cases h7
          exact .inr ⟨b0, x0, aa.nolive b0 hlt hl, hG, h7, h6, hfz⟩
        · rcases a.src b0 x0 h5 h7 with h10 | ⟨b1, x1, hl1, hG1, h11, h12, hfz1⟩
          · exact .inl (h6 ▸ h10)
          · exact .inr ⟨b1, x1, hl1, hG1, h11, h12.trans h6, fun hh => hfz (hfz1 hh)⟩
  · have h3 := a.frame c hc fun b0 x0 hl hG h5 h6 => ⟨(hno b0 x0 hl hG h5 h6).1, fun k hk h7 h8 => (hno b0 x0 hl hG h5 h6).2 k hk h7 (Nat.lt_of_lt_of_le h8 ba.next)⟩
    rw [← h3]
    refine b.frame c (Nat.lt_of_lt_of_le hc a.size) fun b0 x0 hl hG h5 he => ?_
    rcases a.dom b0 x0 h5 with h7 | ⟨h7, h8, h9⟩
    · have hlt : b0 < h.next := by
        rcases Nat.lt_or_ge b0 h.next with hh | hh
        · exact hh
        · rw [hf b0 hh (live_lt aa.ok hl)] at h7; cases h7
      obtain ⟨g1, g2⟩ := hno b0 x0 (aa.nolive b0 hlt hl) hG h7 he
      exact ⟨g1, fun k hk h8 h9 => g2 k hk (Nat.le_trans aa.next h8) h9⟩
    · rcases a.src b0 x0 h5 h7 with h10 | ⟨b1, x1, hl1, hG1, h11, h12, hfz⟩
      · omega
      · obtain ⟨g1, g2⟩ := hno b1 x1 hl1 hG1 h11 (h12.trans he)
        exact ⟨hfz g1, fun k hk h8 h9 => g2 k hk (Nat.le_trans aa.next h8) h9⟩

theorem evGrow_some {h h' : H} {b b' : Nat} {whole : Bool} {cells : List Value} {es : Nat} (hg : evGrow E h b whole cells es = some (b', h')) :
    (E.frz b = false ∧ ∃ h1, kill E h b = some h1 ∧ aNew h1 cells es = some (b', h')) ∨ (E.frz b = true ∧ E.frz h.next = true ∧ fzTop E h b = true ∧ whole = true ∧ aNew h cells es = some (b', h')) := by
  unfold evGrow at hg
  cases hb : E.frz b with
  | false =>
    rw [hb] at hg
    simp only at hg
    split at hg
    · exact .inl ⟨rfl, _, by assumption, hg⟩
    · cases hg
  | true =>
    rw [hb] at hg
    simp only at hg
    cases hc : (E.frz h.next && fzTop E h b && whole) with
    | false => rw [hc] at hg; cases hg
    | true =>
      rw [hc] at hg
      simp only [Bool.and_eq_true] at hc
      exact .inr ⟨rfl, hc.1.1, hc.1.2, hc.2, hg⟩

theorem evGrow_ae {h h' : H} (ok : Hok h) (hG : E.G ≤ h.next) {b b' : Nat} {whole : Bool} {cells : List Value} {es : Nat} (hg : evGrow E h b whole cells es = some (b', h')) : AE E h h' := by
  rcases evGrow_some hg with ⟨_, h1, hk, hn⟩ | ⟨_, _, _, _, hn⟩
  · exact (kill_ae ok hk).trans (aNew_ae (kill_ae ok hk).ok (Nat.le_trans hG (kill_ae ok hk).next) hn)
  · exact aNew_ae ok hG hn

theorem fzTop_dead {h : H} {b k : Nat} (ht : fzTop E h b = true) (hk : E.frz k = true) (hbk : b < k) : liveC h k = false := by
  simp only [Env.frz, Bool.and_eq_true] at hk
  obtain ⟨x, hx, hxk⟩ := List.any_eq_true.1 hk.2
  have hxk' : x = k := Nat.eq_of_beq_eq_true hxk
  subst hxk'
  have := List.all_eq_true.1 ht x hx
  simp only [Bool.or_eq_true, Bool.not_eq_true'] at this
  rcases this with h1 | h1
  · exact absurd (Nat.le_of_ble_eq_true h1) (by omega)
  · exact h1

theorem fzOne_spec {n n' k k' : Nat} (h : fzOne E n n' = true) (hk : E.frz k = true) (hk' : E.frz k' = true) (h1 : n ≤ k) (h2 : k < n') (h3 : n ≤ k') (h4 : k' < n') : k = k' := by
  have mem : ∀ {x}, E.frz x = true → n ≤ x → x < n' → x ∈ E.fzl.filter fun k => Nat.ble n k && Nat.ble (k + 1) n' := fun {x} hx g1 g2 => by
    simp only [Env.frz, Bool.and_eq_true] at hx
    obtain ⟨y, hy, hyx⟩ := List.any_eq_true.1 hx.2
    have hyx' : y = x := Nat.eq_of_beq_eq_true hyx
    subst hyx'
    exact List.mem_filter.2 ⟨hy, by simp only [Bool.and_eq_true]; exact ⟨Nat.ble_eq_true_of_le g1, Nat.ble_eq_true_of_le g2⟩⟩
  have := List.all_eq_true.1 (List.all_eq_true.1 h k (mem hk h1 h2)) k' (mem hk' h3 h4)
  exact Nat.eq_of_beq_eq_true this

/-- what dies -/
theorem fzDead_spec {b : Nat} : ∀ (l : List Nat) (h : H), Hok h → AE E h (fzDead E l h b) ∧ (fzDead E l h b).next = h.next ∧ ∀ k B, B ≠ .dead → (fzDead E l h b).blks.get k = some B → h.blks.get k = some B
  | [], h, ok => ⟨AE.refl ok, rfl, fun _ _ _ hk => hk⟩
  | x :: r, h, ok => by
    unfold fzDead
    cases hc : (Nat.ble x b || !liveC h x || !Nat.ble E.G x) with
    | true => exact fzDead_spec r h ok
    | false =>
      simp only [Tr.force_eq, forceN_eq]
      simp only [Bool.or_eq_false_iff, Bool.not_eq_false'] at hc
      obtain ⟨⟨_, hl⟩, hG⟩ := hc
      have hk : kill E h x = some { blks := Tr.put h.blks x .dead, next := h.next, wm := min h.wm x } := by
        unfold liveC at hl
        split at hl
        · rename_i cells size es hb
          simp only [kill, hb, Tr.force_eq, forceN_eq]
          rw [if_pos (Nat.le_of_ble_eq_true hG)]
        · cases hl
      have ae := kill_ae ok hk
      obtain ⟨i1, i2, i3⟩ := fzDead_spec r _ ae.ok
      refine ⟨ae.trans i1, i2, fun k B hB hkk => ?_⟩
      have := i3 k B hB hkk
      simp only at this
      rw [Tr.get_put] at this
      split at this
      · injection this with this; exact absurd this.symm hB
      · exact this
theorem fzCut_spec {h : H} {α : Tr Value} {ops : List Oper} (ok : Hok h) : AE E h (fzCut E h α ops) ∧ (fzCut E h α ops).next = h.next ∧ ∀ k B, B ≠ .dead → (fzCut E h α ops).blks.get k = some B → h.blks.get k = some B := by
  unfold fzCut
  split
  · exact ⟨AE.refl ok, rfl, fun _ _ _ hk => hk⟩
  · split
    · exact fzDead_spec _ h ok
    · exact ⟨AE.refl ok, rfl, fun _ _ _ hk => hk⟩
theorem Ext.same (E : Env) (φ : Phi) (h h' : H) (w : World) : Ext E φ h w φ h' w :=
  ⟨fun _ _ h => h, fun _ _ h => .inl h, fun _ _ h h' => (by rw [h'] at h; cases h), rfl, rfl, rfl, Nat.le_refl _, fun _ _ _ => rfl, fun _ => Nat.le_refl _⟩
end Go.Proofs.YtngpoamjhngcgaaGreatDoor.Ev

