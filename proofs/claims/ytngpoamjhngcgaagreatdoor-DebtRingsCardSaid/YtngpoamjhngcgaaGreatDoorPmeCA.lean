/- A law's call whose arguments lie in memory, out of the evaluator's run. -/
import Derived.Test.YtngpoamjhngcgaaGreatDoorPmeC0b
import Derived.Test.YtngpoamjhngcgaaGreatDoorPmArg
import Derived.Carry
import Derived.SizedLaws
import Derived.Deep.Slices
import Derived.Test.YtngpoamjhngcgaaGreatDoorPmeX1
set_option linter.unusedVariables false
set_option linter.unusedSimpArgs false
namespace Go.Proofs.YtngpoamjhngcgaaGreatDoor.PmC
open Go.ChangeShapes Go.WideShapes Go.ChangeAt Go.RowKit
open Go.Proofs Go.Proofs.YtngpoamjhngcgaaGreatDoor
open Go.Proofs.YtngpoamjhngcgaaGreatDoor.Ev (TabsW TabsIn tabs vals0 vals1 vals3 En H CallsE callRun Hok HR Tr VR VRs Phi ArgB heapA phiA ArgsIn heapA_rel heapA_ok heapA_low heapA_arg phiA_fresh phiA_arg cells_world SlV Blk)

/-- one argument's cells in the model's memory -/
def ArgIn (φ : Phi) (a : ArgB) (w : World) : Prop := a.off + a.L.length ≤ a.top ∧
  ∃ cs ty fr, w.heap[a.blk]? = some (.cells cs ty fr) ∧ a.top ≤ cs.size ∧ ∀ (j : Nat) (v : Value), a.L[j]? = some v → ∃ v', cs[a.off + j]? = some v' ∧ VR φ v v'
theorem argsIn_mk {φ : Phi} {l : List ArgB} {w : World} (h : ∀ a ∈ l, ArgIn φ a w) : ArgsIn φ l w := fun _ a ha => h a (List.mem_of_getElem? ha)

theorem heapA_tabs (bs : List ArgB) : TabsIn tabs (heapA 4 tabs bs).blks := fun x hx => by
  obtain ⟨c, s, e, h⟩ := heap_tabs x hx
  exact ⟨c, s, e, by rw [heapA_low (tabs_small x hx).1]; exact h.1, h.2⟩

/-- a law, its arguments read where they lie -/
theorem calls_args {f : FuncId} {args args' : List Value} {bs : List ArgB} {W : World} (hargs : VRs (phiA 4 tabs bs) args args') (hbs : ArgsIn (phiA 4 tabs bs) bs W)
    (hs : CallsE Tryz.prog (En (4 + bs.length)) f args (heapA 4 tabs bs) fun v _ => v = .bool true) (hW : TabsW tabs W) (hb : ((Tryz.prog.funcs[f]?).map fun fn => fn.body.isSome) = some true := by kernel_rfl) :
    Calls Tryz.prog f args'.toArray W fun e w' => e = .returned (.bool true) ∧ Below W.heap.size W w' := by
  obtain ⟨F, v, h', hrun, rfl⟩ := hs
  have ht : ∀ x ∈ tabs, x.1 < 4 := fun x hx => (tabs_small x hx).1
  have hEG : (En (4 + bs.length)).G = 4 + bs.length := Ev.En_G
  exact callRun (En_ok (by omega)) hrun rfl (heapA_ok ht) hEG (heapA_rel Tryz.prog hEG rfl tabs_small hW hbs) hargs (phiA_fresh) hb

theorem tab_there {W : World} (hW : TabsW tabs W) : ∃ cs ty fr, W.heap[0]? = some (.cells cs ty fr) := by
  obtain ⟨cs, ty, fr, h, _⟩ := hW (0, vals0) (by simp [tabs])
  exact ⟨cs, ty, fr, h⟩

/-- a slice of numbers that came in -/
theorem arg_ints {H : Type} {enc : TypeId × Value → H} {P : Program} {w : World} {t e : TypeId} {k : IntKind} {v : Value} {d : DataW H} {p : List MemPlace} {r : Reach} {b0 : Nat} (h0 : ∃ cs ty fr, w.heap[0]? = some (.cells cs ty fr))
    (ht : P.underlying t = some (.slice e)) (he : P.underlying e = some (.int k)) (hc : P.cellsOf e = 1) (hval : Value.okWide P w r b0 t v) (hd : DataW.Trod enc P w 0 (fun _ => true) true t v d p) :
    ∃ (B : ArgB) (zs : List Int) (V : Nat → Value), (∀ z ∈ zs, (Lit.int k z).wf = true) ∧ zs.length ≤ maxLen ∧ B.L = zs.map (Value.int k) ∧ B.es = 1 ∧ (∀ φ, ArgIn φ B w) ∧
      (∀ (T : Tr Blk) (b : Nat), T.get b = some (.mk (Tr.ofList B.L) B.L.length 1) → SlV T b (b + 1) 1 zs.length (zs.map (Value.int k)) (V b)) ∧
      ∀ (φ : Phi) (b : Nat), φ b = some (B.blk, B.off, B.es, B.top) → VR φ (V b) v := by
  obtain ⟨a0, len, cap, rfl⟩ := okWide_slice ht hval
  obtain ⟨fuel, hf⟩ := hd
  rcases open_ints ht he hc hf with ⟨hcs, hx⟩ | ⟨a, len', cap', zs, hcs, _, hl, hm, hz, hx, hcell, hwz⟩
  · simp [Value.cells] at hcs
    obtain ⟨rfl, rfl, rfl⟩ := hcs
    obtain ⟨cs, ty, fr, hh⟩ := h0
    refine ⟨⟨[], 0, 0, 1, 0⟩, [], fun _ => .slice none 0 0, fun z hz => (by cases hz), Nat.zero_le _, rfl, rfl, fun φ => ⟨Nat.le_refl _, cs, ty, fr, hh, Nat.zero_le _, fun j v hv => by simp at hv⟩, fun T b _ => .nil rfl rfl, fun φ b _ => .nils⟩
  · simp [Value.cells] at hcs
    obtain ⟨rfl, rfl, rfl⟩ := hcs
    simp only [if_true] at hz
    have hlt : (zs.take len).length = len := by simp; omega
    have slv : ∀ (T : Tr Blk) (b : Nat), T.get b = some (.mk (Tr.ofList ((zs.take len).map (Value.int k))) ((zs.take len).map (Value.int k)).length 1) → SlV T b (b + 1) 1 (zs.take len).length ((zs.take len).map (Value.int k)) (.slice (some ⟨b, 0, none⟩) len len) := fun T b hT => by
      rw [hlt]
      refine .mk hT (Nat.le_refl _) (Nat.lt_succ_self _) (by simp; omega) (by simp; omega) fun i hi => ?_
      rw [Tr.ofList_get, Nat.zero_add]
    have hwt : ∀ z ∈ zs.take len, (Lit.int k z).wf = true := fun z hz => hwz z (List.mem_of_mem_take hz)
    by_cases hp : 0 < cap
    · obtain ⟨bl, off, rfl, hj⟩ := ints_at hcell (by omega)
      have hsp : (⟨bl, off, none⟩ : Addr).spot = none := rfl
      obtain ⟨cs, ty, fr, hh, hsz, hcs⟩ := cells_world (w := w) (a := ⟨bl, off, none⟩) (n := cap) hp (V := fun i => .int k (zs.getD i 0)) rfl (fun i hi => hcell i (by omega))
      refine ⟨⟨(zs.take len).map (Value.int k), bl, off, 1, off + cap⟩, zs.take len, fun b => .slice (some ⟨b, 0, none⟩) len len, hwt, by omega, rfl, rfl, fun φ => ⟨by simp; omega, cs, ty, fr, hh, hsz, fun j v hv => ?_⟩, slv, fun φ b hb => ?_⟩
      · have hv' : ((zs.take len).map (Value.int k))[j]? = some v := hv
        have hjl : j < len := by
          have := (List.getElem?_eq_some_iff.1 hv').1
          simp at this; omega
        rw [List.getElem?_map, List.getElem?_take, if_pos hjl, List.getElem?_eq_getElem (by omega)] at hv'
        simp only [Option.map_some, Option.some.injEq] at hv'
        subst hv'
        refine ⟨_, hcs j (by omega), ?_⟩
        rw [show zs.getD j 0 = zs[j]'(by omega) by simp [List.getD, show j < zs.length by omega]]
        exact .int k _
      · exact .slc hb hl hl (by show off + 0 + cap * 1 ≤ off + cap; omega) (.inl (by simp))
    · obtain rfl : cap = 0 := by omega
      obtain rfl : len = 0 := by omega
      obtain ⟨cs, ty, fr, hh⟩ := h0
      obtain rfl : zs = [] := List.length_eq_zero_iff.1 hz
      refine ⟨⟨[], 0, 0, 1, 0⟩, [], fun b => .slice (some ⟨b, 0, none⟩) 0 0, fun z hz => (by cases hz), Nat.zero_le _, rfl, rfl, fun φ => ⟨Nat.le_refl _, cs, ty, fr, hh, Nat.zero_le _, fun j v hv => by simp at hv⟩, slv, fun φ b hb => ?_⟩
      exact .slc hb (Nat.le_refl _) (Nat.le_refl _) (by simp) (.inr rfl)


/-- a slice of numbers -/
theorem arg_row {H : Type} {enc : TypeId × Value → H} {P : Program} {w : World} {t e : TypeId} {k : IntKind} {fuel : Nat} {cs : List Value} {x : DataW H × List MemPlace} (h0 : ∃ cs ty fr, w.heap[0]? = some (.cells cs ty fr))
    (ht : P.underlying t = some (.slice e)) (he : P.underlying e = some (.int k)) (hc : P.cellsOf e = 1) (hf : DataW.trod enc P w 0 (fun _ => true) true fuel t cs = some x) :
    ∃ (v : Value) (B : ArgB) (zs : List Int) (V : Nat → Value), cs = [v] ∧ B.L = zs.map (Value.int k) ∧ B.es = 1 ∧ (∀ φ, ArgIn φ B w) ∧
      (∀ (T : Tr Blk) (b : Nat), T.get b = some (.mk (Tr.ofList B.L) B.L.length 1) → SlV T b (b + 1) 1 zs.length (zs.map (Value.int k)) (V b)) ∧
      ∀ (φ : Phi) (b : Nat), φ b = some (B.blk, B.off, B.es, B.top) → VR φ (V b) v := by
  rcases open_ints ht he hc hf with ⟨rfl, hx⟩ | ⟨a, len, cap, zs, rfl, _, hl, hm, hz, hx, hcell, hwz⟩
  · obtain ⟨cs, ty, fr, hh⟩ := h0
    refine ⟨_, ⟨[], 0, 0, 1, 0⟩, [], fun _ => .slice none 0 0, rfl, rfl, rfl, fun φ => ⟨Nat.le_refl _, cs, ty, fr, hh, Nat.zero_le _, fun j v hv => by simp at hv⟩, fun T b _ => .nil rfl rfl, fun φ b _ => .nils⟩
  · simp only [if_true] at hz
    have hlt : (zs.take len).length = len := by simp; omega
    have slv : ∀ (T : Tr Blk) (b : Nat), T.get b = some (.mk (Tr.ofList ((zs.take len).map (Value.int k))) ((zs.take len).map (Value.int k)).length 1) → SlV T b (b + 1) 1 (zs.take len).length ((zs.take len).map (Value.int k)) (.slice (some ⟨b, 0, none⟩) len len) := fun T b hT => by
      rw [hlt]
      refine .mk hT (Nat.le_refl _) (Nat.lt_succ_self _) (by simp; omega) (by simp; omega) fun i hi => ?_
      rw [Tr.ofList_get, Nat.zero_add]
    by_cases hp : 0 < cap
    · obtain ⟨bl, off, rfl, hj⟩ := ints_at hcell (by omega)
      obtain ⟨cs, ty, fr, hh, hsz, hcs⟩ := cells_world (w := w) (a := ⟨bl, off, none⟩) (n := cap) hp (V := fun i => .int k (zs.getD i 0)) rfl (fun i hi => hcell i (by omega))
      refine ⟨_, ⟨(zs.take len).map (Value.int k), bl, off, 1, off + cap⟩, zs.take len, fun b => .slice (some ⟨b, 0, none⟩) len len, rfl, rfl, rfl, fun φ => ⟨by simp; omega, cs, ty, fr, hh, hsz, fun j v hv => ?_⟩, slv, fun φ b hb => ?_⟩
      · have hv' : ((zs.take len).map (Value.int k))[j]? = some v := hv
        have hjl : j < len := by
          have := (List.getElem?_eq_some_iff.1 hv').1
          simp at this; omega
        rw [List.getElem?_map, List.getElem?_take, if_pos hjl, List.getElem?_eq_getElem (by omega)] at hv'
        simp only [Option.map_some, Option.some.injEq] at hv'
        subst hv'
        refine ⟨_, hcs j (by omega), ?_⟩
        rw [show zs.getD j 0 = zs[j]'(by omega) by simp [List.getD, show j < zs.length by omega]]
        exact .int k _
      · exact .slc hb hl hl (by show off + 0 + cap * 1 ≤ off + cap; omega) (.inl (by simp))
    · obtain rfl : cap = 0 := by omega
      obtain rfl : len = 0 := by omega
      obtain ⟨cs, ty, fr, hh⟩ := h0
      obtain rfl : zs = [] := List.length_eq_zero_iff.1 hz
      refine ⟨_, ⟨[], 0, 0, 1, 0⟩, [], fun b => .slice (some ⟨b, 0, none⟩) 0 0, rfl, rfl, rfl, fun φ => ⟨Nat.le_refl _, cs, ty, fr, hh, Nat.zero_le _, fun j v hv => by simp at hv⟩, slv, fun φ b hb => ?_⟩
      exact .slc hb (Nat.le_refl _) (Nat.le_refl _) (by simp) (.inr rfl)

/-- a slice of rows of numbers: its own cells are one block, each row another -/
structure RowsArg (k : IntKind) (w : World) (v : Value) (n : Nat) (Z : Nat → List Int) (Br : Nat → ArgB) (Vr : Nat → Nat → Value) (Bt : Nat → ArgB) (Vt : Nat → Value) : Prop where
  es : ∀ b0, (Bt b0).es = 1
  row : ∀ i, i < n → (Br i).es = 1 ∧ (∀ φ, ArgIn φ (Br i) w) ∧ ∀ (T : Tr Blk) (b : Nat), T.get b = some (.mk (Tr.ofList (Br i).L) (Br i).L.length 1) → SlV T b (b + 1) 1 (Z i).length ((Z i).map (Value.int k)) (Vr i b)
  top : ∀ (φ : Phi) (b0 : Nat), (∀ i, i < n → φ (b0 + 1 + i) = some ((Br i).blk, (Br i).off, (Br i).es, (Br i).top)) → ArgIn φ (Bt b0) w
  slv : ∀ (T : Tr Blk) (b0 : Nat), T.get b0 = some (.mk (Tr.ofList (Bt b0).L) (Bt b0).L.length 1) → SlV T b0 (b0 + 1) 1 n ((List.range n).map fun i => Vr i (b0 + 1 + i)) (Vt b0)
  val : ∀ (φ : Phi) (b0 : Nat), φ b0 = some ((Bt b0).blk, (Bt b0).off, (Bt b0).es, (Bt b0).top) → VR φ (Vt b0) v

theorem arg_rows {H : Type} {enc : TypeId × Value → H} {P : Program} {w : World} {t e e2 : TypeId} {k : IntKind} {fuel : Nat} {cs : List Value} {x : DataW H × List MemPlace} (h0 : ∃ cs ty fr, w.heap[0]? = some (.cells cs ty fr))
    (ht : P.underlying t = some (.slice e)) (hc1 : P.cellsOf e = 1) (he : P.underlying e = some (.slice e2)) (he2 : P.underlying e2 = some (.int k)) (hc : P.cellsOf e2 = 1) (hf : DataW.trod enc P w 0 (fun _ => true) true fuel t cs = some x) :
    ∃ (v : Value) (n : Nat) (Z : Nat → List Int) (Br : Nat → ArgB) (Vr : Nat → Nat → Value) (Bt : Nat → ArgB) (Vt : Nat → Value), cs = [v] ∧ RowsArg k w v n Z Br Vr Bt Vt := by
  rcases Go.Deep.open_slice1 ht hc1 hf with ⟨rfl, rfl⟩ | ⟨a, len, cap, m, fu, V, D, Pl, rfl, _, hl, hm, hmm, rfl, hx⟩
  · obtain ⟨cs, ty, fr, hh⟩ := h0
    refine ⟨_, 0, fun _ => [], fun _ => ⟨[], 0, 0, 1, 0⟩, fun _ _ => .slice none 0 0, fun _ => ⟨[], 0, 0, 1, 0⟩, fun _ => .slice none 0 0, rfl, fun _ => rfl, fun i hi => absurd hi (Nat.not_lt_zero i), fun φ b0 _ => ⟨Nat.le_refl _, cs, ty, fr, hh, Nat.zero_le _, fun j v hv => by simp at hv⟩, fun T b _ => .nil rfl rfl, fun φ b _ => .nils⟩
  · simp only [if_true] at hmm
    subst hmm
    have each : ∀ i, i < m → ∃ q : ArgB × List Int × (Nat → Value), q.1.es = 1 ∧ (∀ φ, ArgIn φ q.1 w) ∧ (∀ (T : Tr Blk) (b : Nat), T.get b = some (.mk (Tr.ofList q.1.L) q.1.L.length 1) → SlV T b (b + 1) 1 q.2.1.length (q.2.1.map (Value.int k)) (q.2.2 b)) ∧
        ∀ (φ : Phi) (b : Nat), φ b = some (q.1.blk, q.1.off, q.1.es, q.1.top) → VR φ (q.2.2 b) (V i) := fun i hi => by
      obtain ⟨v, B, zs, Vv, hv, _, h2, h3, h4, h5⟩ := arg_row h0 he he2 hc (hx i hi).2
      have hv : V i = v := by simpa using hv
      exact ⟨(B, zs, Vv), h2, h3, h4, fun φ b hb => by rw [hv]; exact h5 φ b hb⟩
    haveI : Inhabited ArgB := ⟨⟨[], 0, 0, 1, 0⟩⟩
    obtain ⟨q, hq⟩ := Go.Deep.choose_lt each
    let L : Nat → List Value := fun b0 => (List.range len).map fun i => (q i).2.2 (b0 + 1 + i)
    have hLl : ∀ b0, (L b0).length = len := fun b0 => by simp [L]
    have hLg : ∀ b0 j v, (L b0)[j]? = some v → j < len ∧ v = (q j).2.2 (b0 + 1 + j) := fun b0 j v hv => by
      have h1 := (List.getElem?_eq_some_iff.1 hv).1
      rw [hLl] at h1
      simp only [L, List.getElem?_map, List.getElem?_range h1, Option.map_some, Option.some.injEq] at hv
      exact ⟨h1, hv.symm⟩
    have hrow : ∀ i, i < len → (q i).1.es = 1 ∧ (∀ φ, ArgIn φ (q i).1 w) ∧ ∀ (T : Tr Blk) (b : Nat), T.get b = some (.mk (Tr.ofList (q i).1.L) (q i).1.L.length 1) → SlV T b (b + 1) 1 (q i).2.1.length ((q i).2.1.map (Value.int k)) ((q i).2.2 b) := fun i hi =>
      ⟨(hq i (by omega)).1, (hq i (by omega)).2.1, (hq i (by omega)).2.2.1⟩
    have slv : ∀ (T : Tr Blk) (b0 : Nat), T.get b0 = some (.mk (Tr.ofList (L b0)) (L b0).length 1) → SlV T b0 (b0 + 1) 1 len (L b0) (.slice (some ⟨b0, 0, none⟩) len len) := fun T b0 hT =>
      .mk hT (Nat.le_refl _) (Nat.lt_succ_self _) (by rw [hLl]; omega) (by rw [hLl, Nat.mul_one]) fun i hi => by rw [Tr.ofList_get, Nat.zero_add]
    by_cases hp : 0 < m
    · have hsp : a.spot = none := by
        have := (hx 0 hp).1
        unfold World.cell? at this
        cases ha : a.spot with
        | none => rfl
        | some s =>
          simp [Addr.add, ha] at this
          exfalso
          split at this <;> cases this
      obtain ⟨bl, off, sp⟩ := a
      simp only at hsp
      subst hsp
      obtain ⟨cs, ty, fr, hh, hsz, hcs⟩ := cells_world (w := w) (a := ⟨bl, off, none⟩) (n := m) hp (V := V) rfl fun i hi => (hx i hi).1
      refine ⟨_, len, fun i => (q i).2.1, fun i => (q i).1, fun i b => (q i).2.2 b, fun b0 => ⟨L b0, bl, off, 1, off + m⟩, fun b0 => .slice (some ⟨b0, 0, none⟩) len len, rfl, fun _ => rfl, hrow, fun φ b0 hφ => ⟨by show off + (L b0).length ≤ off + m; rw [hLl]; omega, cs, ty, fr, hh, hsz, fun j v hv => ?_⟩, slv, fun φ b0 hb => ?_⟩
      · obtain ⟨hj, rfl⟩ := hLg b0 j v hv
        exact ⟨_, hcs j (by omega), (hq j (by omega)).2.2.2 φ _ (hφ j hj)⟩
      · exact .slc hb hl hl (by show off + 0 + m * 1 ≤ off + m; omega) (.inl (by simp))
    · obtain rfl : m = 0 := by omega
      obtain rfl : len = 0 := by omega
      obtain ⟨cs, ty, fr, hh⟩ := h0
      refine ⟨_, 0, fun i => (q i).2.1, fun i => (q i).1, fun i b => (q i).2.2 b, fun b0 => ⟨L b0, 0, 0, 1, 0⟩, fun b0 => .slice (some ⟨b0, 0, none⟩) 0 0, rfl, fun _ => rfl, hrow, fun φ b0 hφ => ⟨by show 0 + (L b0).length ≤ 0; rw [hLl]; omega, cs, ty, fr, hh, Nat.zero_le _, fun j v hv => ?_⟩, slv, fun φ b0 hb => ?_⟩
      · have := (hLg b0 j v hv).1
        omega
      · exact .slc hb (Nat.le_refl _) (Nat.le_refl _) (by simp) (.inr rfl)
open Go.Proofs.YtngpoamjhngcgaaGreatDoor.Ev (MatV intsL rowsL)
theorem map_ints (zs : List Int) : zs.map (Value.int .i64) = intsL zs.length fun j => zs.getD j 0 := by
  apply List.ext_getElem?
  intro j
  by_cases h : j < zs.length
  · rw [Ev.intsL_get h]
    simp [h]
  · rw [List.getElem?_eq_none (by simpa using h), List.getElem?_eq_none (by rw [Ev.intsL_len]; omega)]

/-- a slice value's address and capacity -/
def sA : Value → Option Addr | .slice A _ _ => A | _ => none
def sC : Value → Nat | .slice _ _ c => c | _ => 0
theorem shape_of {B : Tr Blk} {lo hi sz n : Nat} {L : List Value} {v : Value} (s : SlV B lo hi sz n L v) : v = .slice (sA v) n (sC v) := by
  obtain ⟨A, c, rfl⟩ := s.shape
  rfl

/-- rows in the evaluator's memory -/
theorem mat_of {w : World} {v : Value} {n b0 N : Nat} {Z : Nat → List Int} {Br : Nat → ArgB} {Vr : Nat → Nat → Value} {Bt : Nat → ArgB} {Vt : Nat → Value} {T : Tr Blk} (hR : RowsArg .i64 w v n Z Br Vr Bt Vt)
    (ht : T.get b0 = some (.mk (Tr.ofList (Bt b0).L) (Bt b0).L.length (Bt b0).es)) (hr : ∀ i, i < n → T.get (b0 + 1 + i) = some (.mk (Tr.ofList (Br i).L) (Br i).L.length (Br i).es)) (hN : b0 + 1 + n ≤ N) :
    MatV T 0 N n (fun i => (Z i).length) (fun i j => (Z i).getD j 0) (fun i => sA (Vr i (b0 + 1 + i))) (fun i => sC (Vr i (b0 + 1 + i))) (Vt b0) := by
  have hrow : ∀ i, i < n → SlV T (b0 + 1 + i) (b0 + 1 + i + 1) 1 (Z i).length ((Z i).map (Value.int .i64)) (Vr i (b0 + 1 + i)) := fun i hi => by
    obtain ⟨e, _, s⟩ := hR.row i hi
    refine s T _ ?_
    rw [hr i hi, e]
  refine ⟨?_, fun i hi => ?_⟩
  · have e : (rowsL n (fun i => (Z i).length) (fun i => sA (Vr i (b0 + 1 + i))) fun i => sC (Vr i (b0 + 1 + i))) = (List.range n).map fun i => Vr i (b0 + 1 + i) :=
      List.map_congr_left fun i hi => (shape_of (hrow i (List.mem_range.1 hi))).symm
    rw [e]
    refine (hR.slv T b0 ?_).wide (Nat.zero_le _) (by omega)
    rw [ht, hR.es]
  · have h1 := hrow i hi
    have h2 := shape_of h1
    rw [map_ints] at h1
    rw [← h2]
    exact h1.wide (Nat.zero_le _) (by omega)

end Go.Proofs.YtngpoamjhngcgaaGreatDoor.PmC

