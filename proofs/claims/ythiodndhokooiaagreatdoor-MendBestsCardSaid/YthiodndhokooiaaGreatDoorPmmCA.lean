/- A law's call whose arguments lie in memory, out of the evaluator's run. -/
import Derived.Test.YthiodndhokooiaaGreatDoorPmmC0b
import Derived.Test.YthiodndhokooiaaGreatDoorPmArg
import Derived.Carry
import Derived.Deep.SlicePairs
import Derived.Test.YthiodndhokooiaaGreatDoorPmmA0
namespace Go.Proofs.YthiodndhokooiaaGreatDoor.PmC
open Go.ChangeShapes Go.WideShapes Go.ChangeAt Go.RowKit
open Go.Proofs Go.Proofs.YthiodndhokooiaaGreatDoor
open Go.Proofs.YthiodndhokooiaaGreatDoor.Ev (TabsW TabsIn tabs vals1 vals2 vals3 En H CallsE callRun Hok HR Tr VR VRs Phi ArgB heapA phiA ArgsIn heapA_rel heapA_ok heapA_low heapA_arg phiA_fresh phiA_arg cells_world SlV Blk)

/-- one argument's cells in the model's memory -/
def ArgIn (φ : Phi) (a : ArgB) (w : World) : Prop := a.off + a.L.length ≤ a.top ∧
  ∃ cs ty fr, w.heap[a.blk]? = some (.cells cs ty fr) ∧ a.top ≤ cs.size ∧ ∀ (j : Nat) (v : Value), a.L[j]? = some v → ∃ v', cs[a.off + j]? = some v' ∧ VR φ v v'
theorem argsIn_mk {φ : Phi} {l : List ArgB} {w : World} (h : ∀ a ∈ l, ArgIn φ a w) : ArgsIn φ l w := fun _ a ha => h a (List.mem_of_getElem? ha)

theorem heapA_tabs (bs : List ArgB) : TabsIn tabs (heapA 4 tabs bs).blks := fun x hx => by
  obtain ⟨c, s, e, h⟩ := heap_tabs x hx
  exact ⟨c, s, e, by rw [heapA_low (tabs_small x hx).1]; exact h.1, h.2⟩

/-- a law, its arguments read where they lie -/
theorem calls_args {f : FuncId} {args args' : List Value} {bs : List ArgB} {W : World} (hargs : VRs (phiA 4 tabs bs) args args') (hbs : ArgsIn (phiA 4 tabs bs) bs W)
    (hs : CallsE Tryz.prog (En (4 + bs.length)) f args (heapA 4 tabs bs) fun v _ => v = .bool true) (hW : TabsW tabs W) (hb : ((Tryz.prog.funcs[f]?).map fun fn => fn.body.isSome) = some true := by kernel_rfl) :
    Calls Tryz.prog f args'.toArray W fun e w' => e = .returned (.bool true) ∧ Below W.heap.size W w' := by
  obtain ⟨F, v, h', hrun, rfl⟩ := hs
  have ht : ∀ x ∈ tabs, x.1 < 4 := fun x hx => (tabs_small x hx).1
  have hEG : (En (4 + bs.length)).G = 4 + bs.length := Ev.En_G
  exact callRun (En_ok (by omega)) hrun rfl (heapA_ok ht) hEG (heapA_rel Tryz.prog hEG rfl tabs_small hW hbs) hargs (phiA_fresh) hb

theorem tab_there {W : World} (hW : TabsW tabs W) : ∃ cs ty fr, W.heap[1]? = some (.cells cs ty fr) := by
  obtain ⟨cs, ty, fr, h, _⟩ := hW (1, vals1) (by simp [tabs])
  exact ⟨cs, ty, fr, h⟩

/-- a slice of pairs that came in -/
theorem arg_pairs {H : Type} {enc : TypeId × Value → H} {P : Program} {w : World} {t e : TypeId} {f0 f1 : Field} {fuel : Nat} {cs : List Value} {x : DataW H × List MemPlace} (h0 : ∃ cs ty fr, w.heap[1]? = some (.cells cs ty fr))
    (ht : P.underlying t = some (.slice e)) (he : P.underlying e = some (.struct #[f0, f1])) (ce : P.cellsOf e = 2) (o0 : f0.offset = 0) (o1 : f1.offset = 1) (c0 : P.cellsOf f0.type = 1) (c1 : P.cellsOf f1.type = 1)
    (k0 : P.underlying f0.type = some (.int .i64)) (k1 : P.underlying f1.type = some (.int .i64)) (hd : DataW.trod enc P w 0 (fun _ => true) true fuel t cs = some x) :
    ∃ (v : Value) (B : ArgB) (ps : List (Int × Int)) (V : Nat → Value), cs = [v] ∧ B.L = Ev.prs ps ∧ B.es = 2 ∧ (∀ φ, ArgIn φ B w) ∧
      (∀ (T : Tr Blk) (b : Nat), T.get b = some (.mk (Tr.ofList B.L) B.L.length 2) → SlV T b (b + 1) 2 ps.length (Ev.prs ps) (V b)) ∧
      ∀ (φ : Phi) (b : Nat), φ b = some (B.blk, B.off, B.es, B.top) → VR φ (V b) v := by
  rcases Go.Deep.open_slice_pairs ht he ce o0 o1 c0 c1 hd with ⟨rfl, rfl⟩ | ⟨a, len, cap, m, n, V0, V1, D0, D1, P0, P1, rfl, _, hl, hm, hmm, rfl, hx⟩
  · obtain ⟨cs, ty, fr, hh⟩ := h0
    exact ⟨_, ⟨[], 1, 0, 2, 0⟩, [], fun _ => .slice none 0 0, rfl, rfl, rfl, fun φ => ⟨Nat.le_refl _, cs, ty, fr, hh, Nat.zero_le _, fun j v hv => by simp at hv⟩, fun T b _ => .nil rfl rfl, fun φ b _ => .nils⟩
  · simp only [if_true] at hmm
    subst hmm
    have each : ∀ i, i < m → ∃ q : Int × Int, V0 i = .int .i64 q.1 ∧ V1 i = .int .i64 q.2 := fun i hi => by
      obtain ⟨_, _, h3, h4⟩ := hx i hi
      obtain ⟨z0, e0, _⟩ := DataW.trod_int k0 h3
      obtain ⟨z1, e1, _⟩ := DataW.trod_int k1 h4
      exact ⟨(z0, z1), by simpa using e0, by simpa using e1⟩
    obtain ⟨q, hq⟩ := Go.Deep.choose_lt each
    let ps : List (Int × Int) := (List.range len).map q
    have hpl : ps.length = len := by simp [ps]
    have hpg : ∀ i, i < len → ps[i]? = some (q i) := fun i hi => by simp [ps, hi]
    have slv : ∀ (T : Tr Blk) (b : Nat), T.get b = some (.mk (Tr.ofList (Ev.prs ps)) (Ev.prs ps).length 2) → SlV T b (b + 1) 2 ps.length (Ev.prs ps) (.slice (some ⟨b, 0, none⟩) len len) := fun T b hT => by
      rw [hpl]
      have hll := Ev.prs_len (ps := ps)
      refine .mk hT (Nat.le_refl _) (Nat.lt_succ_self _) (by omega) (by omega) fun i hi => ?_
      rw [Tr.ofList_get, Nat.zero_add]
    by_cases hp : 0 < m
    · have hsp : a.spot = none := by
        have := (hx 0 hp).1
        unfold World.cell? at this
        cases ha : a.spot with
        | none => rfl
        | some s =>
          simp [Addr.add, ha] at this
          exfalso
          split at this <;> cases this
      obtain ⟨bl, off, sp⟩ := a
      simp only at hsp
      subst hsp
      let V : Nat → Value := fun j => if j % 2 = 0 then V0 (j / 2) else V1 (j / 2)
      have hcellV : ∀ j, j < m * 2 → w.cell? ((⟨bl, off, none⟩ : Addr).add j) = some (V j) := fun j hj => by
        obtain ⟨g0, g1, _, _⟩ := hx (j / 2) (by omega)
        by_cases hev : j % 2 = 0
        · simp only [V, if_pos hev]
          rw [show j / 2 * 2 = j by omega] at g0
          exact g0
        · simp only [V, if_neg hev]
          rw [show j / 2 * 2 + 1 = j by omega] at g1
          exact g1
      obtain ⟨cs, ty, fr, hh, hsz, hcs⟩ := cells_world (w := w) (a := ⟨bl, off, none⟩) (n := m * 2) (by omega) (V := V) rfl hcellV
      refine ⟨_, ⟨Ev.prs ps, bl, off, 2, off + m * 2⟩, ps, fun b => .slice (some ⟨b, 0, none⟩) len len, rfl, rfl, rfl, fun φ => ⟨?_, cs, ty, fr, hh, hsz, fun j v hv => ?_⟩, slv, fun φ b hb => ?_⟩
      · have hll := Ev.prs_len (ps := ps)
        show off + (Ev.prs ps).length ≤ off + m * 2
        omega
      · have hv' : (Ev.prs ps)[j]? = some v := hv
        have hll := Ev.prs_len (ps := ps)
        have hjl : j < len * 2 := by
          have := (List.getElem?_eq_some_iff.1 hv').1
          omega
        obtain ⟨g0, g1⟩ := Ev.prs_get (hpg (j / 2) (by omega))
        obtain ⟨q0, q1⟩ := hq (j / 2) (by omega)
        have hj2 := hcs j (by omega)
        by_cases hev : j % 2 = 0
        · rw [show j / 2 * 2 = j by omega, hv'] at g0
          injection g0 with g0
          subst g0
          refine ⟨_, hj2, ?_⟩
          simp only [V, if_pos hev, q0]
          exact .int _ _
        · rw [show j / 2 * 2 + 1 = j by omega, hv'] at g1
          injection g1 with g1
          subst g1
          refine ⟨_, hj2, ?_⟩
          simp only [V, if_neg hev, q1]
          exact .int _ _
      · exact .slc hb hl hl (by show off + 0 + m * 2 ≤ off + m * 2; omega) (.inl (by simp))
    · obtain rfl : m = 0 := by omega
      obtain rfl : len = 0 := by omega
      obtain ⟨cs, ty, fr, hh⟩ := h0
      refine ⟨_, ⟨[], 1, 0, 2, 0⟩, [], fun b => .slice (some ⟨b, 0, none⟩) 0 0, rfl, rfl, rfl, fun φ => ⟨Nat.le_refl _, cs, ty, fr, hh, Nat.zero_le _, fun j v hv => by simp at hv⟩, fun T b hT => ?_, fun φ b hb => ?_⟩
      · exact .mk hT (Nat.le_refl _) (Nat.lt_succ_self _) (by simp) (by simp [Ev.prs]) fun i hi => by simp at hi
      · exact .slc hb (Nat.le_refl _) (Nat.le_refl _) (by simp) (.inr rfl)
end Go.Proofs.YthiodndhokooiaaGreatDoor.PmC


