/- A law's call whose arguments lie in memory, out of the evaluator's run. -/
import Derived.Test.YtnhbkoeomefkdaaDoorPmhC0b
import Derived.Test.YtnhbkoeomefkdaaDoorPmArg
import Derived.Carry
import Derived.SizedLaws
import Derived.Deep.Slices
import Derived.Test.YtnhbkoeomefkdaaDoorPmhQ1
set_option linter.unusedVariables false
set_option linter.unusedSimpArgs false
namespace Go.Proofs.YtnhbkoeomefkdaaDoor.PmC
open Go.ChangeShapes Go.WideShapes Go.ChangeAt Go.RowKit
open Go.Proofs Go.Proofs.YtnhbkoeomefkdaaDoor
open Go.Proofs.YtnhbkoeomefkdaaDoor.Ev (TabsW TabsIn tabs vals0 vals1 vals2 En H CallsE callRun Hok HR Tr VR VRs Phi ArgB heapA phiA ArgsIn heapA_rel heapA_ok heapA_low heapA_arg phiA_fresh phiA_arg cells_world SlV Blk)

/-- one argument's cells in the model's memory -/
def ArgIn (φ : Phi) (a : ArgB) (w : World) : Prop := a.off + a.L.length ≤ a.top ∧
  ∃ cs ty fr, w.heap[a.blk]? = some (.cells cs ty fr) ∧ a.top ≤ cs.size ∧ ∀ (j : Nat) (v : Value), a.L[j]? = some v → ∃ v', cs[a.off + j]? = some v' ∧ VR φ v v'
theorem argsIn_mk {φ : Phi} {l : List ArgB} {w : World} (h : ∀ a ∈ l, ArgIn φ a w) : ArgsIn φ l w := fun _ a ha => h a (List.mem_of_getElem? ha)

theorem heapA_tabs (bs : List ArgB) : TabsIn tabs (heapA 3 tabs bs).blks := fun x hx => by
  obtain ⟨c, s, e, h⟩ := heap_tabs x hx
  exact ⟨c, s, e, by rw [heapA_low (tabs_small x hx).1]; exact h.1, h.2⟩

/-- a law, its arguments read where they lie -/
theorem calls_args {f : FuncId} {args args' : List Value} {bs : List ArgB} {W : World} (hargs : VRs (phiA 3 tabs bs) args args') (hbs : ArgsIn (phiA 3 tabs bs) bs W)
    (hs : CallsE Tryd.prog (En (3 + bs.length)) f args (heapA 3 tabs bs) fun v _ => v = .bool true) (hW : TabsW tabs W) (hb : ((Tryd.prog.funcs[f]?).map fun fn => fn.body.isSome) = some true := by kernel_rfl) :
    Calls Tryd.prog f args'.toArray W fun e w' => e = .returned (.bool true) ∧ Below W.heap.size W w' := by
  obtain ⟨F, v, h', hrun, rfl⟩ := hs
  have ht : ∀ x ∈ tabs, x.1 < 3 := fun x hx => (tabs_small x hx).1
  have hEG : (En (3 + bs.length)).G = 3 + bs.length := Ev.En_G
  exact callRun (En_ok (by omega)) hrun rfl (heapA_ok ht) hEG (heapA_rel Tryd.prog hEG rfl tabs_small hW hbs) hargs (phiA_fresh) hb

theorem tab_there {W : World} (hW : TabsW tabs W) : ∃ cs ty fr, W.heap[0]? = some (.cells cs ty fr) := by
  obtain ⟨cs, ty, fr, h, _⟩ := hW (0, vals0) (by simp [tabs])
  exact ⟨cs, ty, fr, h⟩

/-- a slice that came in is what was read of it, so long -/
def Long {H : Type} (d : DataW H) (n : Nat) : Prop := n = 0 ∨ ∃ elems spare, d = .slice elems spare ∧ elems.length = n
theorem tri_of {cs : List Value} {m : Nat} (hl : cs.length = m) (hm : m = 3) : ∃ a b c, cs = [a, b, c] := by
  subst hm
  match cs, hl with
  | [a, b, c], _ => exact ⟨a, b, c, rfl⟩
theorem sqc_at {L : List Ev.Sq} : ∀ {j : Nat}, (Ev.sqc L)[j]? = (L[j / 3]?).bind fun q => (Ev.tri q.1 q.2.1 q.2.2)[j % 3]? := by
  induction L with
  | nil => intro j; simp [Ev.sqc]
  | cons q L ih =>
    intro j
    have : Ev.sqc (q :: L) = Ev.tri q.1 q.2.1 q.2.2 ++ Ev.sqc L := rfl
    rw [this]
    by_cases hj : j < 3
    · rw [List.getElem?_append_left (by exact hj), Nat.div_eq_of_lt hj, Nat.mod_eq_of_lt hj]
      rfl
    · rw [List.getElem?_append_right (by show 3 ≤ j; omega)]
      show (Ev.sqc L)[j - 3]? = _
      rw [ih, show j / 3 = (j - 3) / 3 + 1 by omega, show j % 3 = (j - 3) % 3 by omega, List.getElem?_cons_succ]
/-- a slice of squares that came in -/
theorem arg_sqs {H : Type} {enc : TypeId × Value → H} {P : Program} {w : World} {t e q : TypeId} {f0 f1 f2 : Field} {v : Value} {d : DataW H} {p : List MemPlace} {r : Reach} {b0 : Nat} (h0 : ∃ cs ty fr, w.heap[0]? = some (.cells cs ty fr)) (hval : Value.okWide P w r b0 t v)
    (ht : P.underlying t = some (.slice e)) (he : P.underlying e = some (.struct #[f0, f1, f2])) (ce : P.cellsOf e = 3) (o0 : f0.offset = 0) (o1 : f1.offset = 1) (o2 : f2.offset = 2) (t0 : f0.type = q) (t1 : f1.type = q) (t2 : f2.type = q) (cq : P.cellsOf q = 1) (kq : P.underlying q = some (.int .i64))
    (hd : DataW.Trod enc P w 0 (fun _ => true) true t v d p) :
    ∃ (B : ArgB) (X : List Ev.Sq) (V : Nat → Value), Long d X.length ∧ B.L = Ev.sqc X ∧ B.es = 3 ∧ (∀ φ, ArgIn φ B w) ∧
      (∀ (T : Tr Blk) (b : Nat), T.get b = some (.mk (Tr.ofList B.L) B.L.length 3) → SlV T b (b + 1) 3 X.length (Ev.sqc X) (V b)) ∧
      (∀ (φ : Phi) (b : Nat), φ b = some (B.blk, B.off, B.es, B.top) → VR φ (V b) v) ∧ ∀ q ∈ X, (Lit.int .i64 q.1).wf = true ∧ (Lit.int .i64 q.2.1).wf = true ∧ (Lit.int .i64 q.2.2).wf = true := by
  obtain ⟨fuel, hf⟩ := hd
  obtain ⟨a0, len, cap, rfl⟩ := okWide_slice ht hval
  rcases Go.Deep.open_slice ht hf with ⟨hv, hx⟩ | ⟨a, len', cap', m, n, D, Pl, hv, _, hl, hm, hmm, hx, hcell⟩
  · simp [Value.cells] at hv
    obtain ⟨rfl, rfl, rfl⟩ := hv
    obtain ⟨cs, ty, fr, hh⟩ := h0
    exact ⟨⟨[], 0, 0, 3, 0⟩, [], fun _ => .slice none 0 0, .inl rfl, rfl, rfl, fun φ => ⟨Nat.le_refl _, cs, ty, fr, hh, Nat.zero_le _, fun j v hv => by simp at hv⟩, fun T b _ => .nil rfl rfl, fun φ b _ => .nils, fun q hq => by cases hq⟩
  · simp [Value.cells] at hv
    obtain ⟨rfl, rfl, rfl⟩ := hv
    simp only [if_true] at hmm
    subst hmm
    have each : ∀ i, i < m → ∃ s : Ev.Sq, (w.cell? (a.add (i * 3)) = some (.int .i64 s.1) ∧ w.cell? (a.add (i * 3 + 1)) = some (.int .i64 s.2.1) ∧ w.cell? (a.add (i * 3 + 2)) = some (.int .i64 s.2.2)) ∧ (Lit.int .i64 s.1).wf = true ∧ (Lit.int .i64 s.2.1).wf = true ∧ (Lit.int .i64 s.2.2).wf = true := by
      intro i hi
      obtain ⟨cs', h1, h2⟩ := hcell i hi
      rw [ce] at h1
      obtain ⟨_, hlen, hc⟩ := World.cells?_some h1
      obtain ⟨xs, k, _, _, _, hxl, hfs⟩ := DataW.trod_struct he h2
      obtain ⟨v0, v1, v2, rfl⟩ := tri_of hlen rfl
      match xs, hxl with
      | [y0, y1, y2], _ =>
        have g0 := hfs 0 f0 rfl
        have g1 := hfs 1 f1 rfl
        have g2 := hfs 2 f2 rfl
        rw [o0, t0, cq] at g0
        rw [o1, t1, cq] at g1
        rw [o2, t2, cq] at g2
        obtain ⟨z0, e0, w0⟩ := DataW.trod_int kq g0
        obtain ⟨z1, e1, w1⟩ := DataW.trod_int kq g1
        obtain ⟨z2, e2, w2⟩ := DataW.trod_int kq g2
        have c0 := hc 0 (by decide)
        have c1 := hc 1 (by decide)
        have c2 := hc 2 (by decide)
        rw [Go.Deep.add_add] at c0 c1 c2
        simp at e0 e1 e2
        subst e0; subst e1; subst e2
        refine ⟨(z0, z1, z2), ⟨by simpa using c0, by simpa using c1, by simpa using c2⟩, ?_, ?_, ?_⟩
        · first | exact w0 | exact w0.1 | exact w0.2
        · first | exact w1 | exact w1.1 | exact w1.2
        · first | exact w2 | exact w2.1 | exact w2.2
    obtain ⟨f, hfc⟩ := Go.Deep.choose_lt each
    obtain ⟨X, hX⟩ : ∃ X : List Ev.Sq, X = (List.range len).map f := ⟨_, rfl⟩
    have hXl : X.length = len := by rw [hX]; simp
    have hXg : ∀ i, i < len → X[i]? = some (f i) := fun i hi => by rw [hX]; simp [hi]
    have hll := Ev.sqc_len (L := X)
    have slv : ∀ (T : Tr Blk) (b : Nat), T.get b = some (.mk (Tr.ofList (Ev.sqc X)) (Ev.sqc X).length 3) → SlV T b (b + 1) 3 X.length (Ev.sqc X) (.slice (some ⟨b, 0, none⟩) len len) := fun T b hT => by
      rw [hXl]
      refine .mk hT (Nat.le_refl _) (Nat.lt_succ_self _) (by omega) (by omega) fun i hi => ?_
      rw [Tr.ofList_get, Nat.zero_add]
    have hlong : Long d X.length := .inr ⟨_, _, (Prod.mk.inj hx).1, by simp [hXl]⟩
    have hwf : ∀ q ∈ X, (Lit.int .i64 q.1).wf = true ∧ (Lit.int .i64 q.2.1).wf = true ∧ (Lit.int .i64 q.2.2).wf = true := fun q hq => by
      rw [hX] at hq
      obtain ⟨i, hi, rfl⟩ := List.mem_map.1 hq
      have := List.mem_range.1 hi
      exact (hfc i (by omega)).2
    by_cases hp : 0 < m
    · have hsp : a.spot = none := by
        have := (hfc 0 hp).1.1
        unfold World.cell? at this
        cases ha : a.spot with
        | none => rfl
        | some s =>
          simp [Addr.add, ha] at this
          exfalso
          split at this <;> cases this
      obtain ⟨bl, off, sp⟩ := a
      simp only at hsp
      subst hsp
      let V : Nat → Value := fun j => if j % 3 = 0 then .int .i64 (f (j / 3)).1 else if j % 3 = 1 then .int .i64 (f (j / 3)).2.1 else .int .i64 (f (j / 3)).2.2
      have hcellV : ∀ j, j < m * 3 → w.cell? ((⟨bl, off, none⟩ : Addr).add j) = some (V j) := fun j hj => by
        obtain ⟨⟨g0, g1, g2⟩, _⟩ := hfc (j / 3) (by omega)
        by_cases h0 : j % 3 = 0
        · simp only [V, if_pos h0]
          rw [show j / 3 * 3 = j by omega] at g0
          exact g0
        · by_cases h1 : j % 3 = 1
          · simp only [V, if_neg h0, if_pos h1]
            rw [show j / 3 * 3 + 1 = j by omega] at g1
            exact g1
          · simp only [V, if_neg h0, if_neg h1]
            rw [show j / 3 * 3 + 2 = j by omega] at g2
            exact g2
      obtain ⟨cs, ty, fr, hh, hsz, hcs⟩ := cells_world (w := w) (a := ⟨bl, off, none⟩) (n := m * 3) (by omega) (V := V) rfl hcellV
      refine ⟨⟨Ev.sqc X, bl, off, 3, off + m * 3⟩, X, fun b => .slice (some ⟨b, 0, none⟩) len len, hlong, rfl, rfl, fun φ => ⟨?_, cs, ty, fr, hh, hsz, fun j v hv => ?_⟩, slv, fun φ b hb => ?_, hwf⟩
      · show off + (Ev.sqc X).length ≤ off + m * 3
        omega
      · have hv' : (Ev.sqc X)[j]? = some v := hv
        have hjl : j < len * 3 := by
          have := (List.getElem?_eq_some_iff.1 hv').1
          omega
        rw [sqc_at, hXg (j / 3) (by omega)] at hv'
        have hj2 := hcs j (by omega)
        refine ⟨_, hj2, ?_⟩
        have h3 : j % 3 = 0 ∨ j % 3 = 1 ∨ j % 3 = 2 := by omega
        rcases h3 with h3 | h3 | h3
        · simp only [V, h3, if_true]
          rw [h3] at hv'
          simp [Ev.tri] at hv'
          subst hv'
          exact .int _ _
        · simp only [V, h3, if_true]
          rw [h3] at hv'
          simp [Ev.tri] at hv'
          subst hv'
          exact .int _ _
        · simp only [V, h3]
          rw [h3] at hv'
          simp [Ev.tri] at hv'
          subst hv'
          exact .int _ _
      · exact .slc hb hl hl (by show off + 0 + m * 3 ≤ off + m * 3; omega) (.inl (by simp))
    · obtain rfl : m = 0 := by omega
      obtain rfl : len = 0 := by omega
      obtain ⟨cs, ty, fr, hh⟩ := h0
      obtain rfl : X = [] := List.length_eq_zero_iff.1 hXl
      refine ⟨⟨[], 0, 0, 3, 0⟩, [], fun b => .slice (some ⟨b, 0, none⟩) 0 0, .inl rfl, rfl, rfl, fun φ => ⟨Nat.le_refl _, cs, ty, fr, hh, Nat.zero_le _, fun j v hv => by simp at hv⟩, fun T b hT => slv T b hT, fun φ b hb => ?_, hwf⟩
      exact .slc hb (Nat.le_refl _) (Nat.le_refl _) (by simp) (.inr rfl)
theorem Long.top {H : Type} {d : DataW H} {n : Nat} (h : Long d n) (hs : ∀ elems spare, d = .slice elems spare → (elems.length + spare.length) * Tryd.prog.bytesOf 61 ≤ reachBytes) : n < 4611686018427387904 := by
  rcases h with rfl | ⟨e, s, hd, rfl⟩
  · decide
  · have h1 := hs e s hd
    have hb : Tryd.prog.bytesOf 61 = 24 := by kernel_rfl
    rw [hb] at h1
    have h2 := reachBytes_lt
    omega
end Go.Proofs.YtnhbkoeomefkdaaDoor.PmC

