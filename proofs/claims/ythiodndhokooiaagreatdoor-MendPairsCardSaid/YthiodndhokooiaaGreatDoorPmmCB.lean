/- Arguments: slices of two bytes each. -/
import Derived.Test.YthiodndhokooiaaGreatDoorPmmCA
import Derived.Test.YthiodndhokooiaaGreatDoorPmmM1
namespace Go.Proofs.YthiodndhokooiaaGreatDoor.PmC
open Go.ChangeShapes Go.WideShapes Go.ChangeAt Go.RowKit
open Go.Proofs Go.Proofs.YthiodndhokooiaaGreatDoor
open Go.Proofs.YthiodndhokooiaaGreatDoor.Ev (TabsW TabsIn tabs vals1 vals2 vals3 En H CallsE callRun Hok HR Tr VR VRs Phi ArgB heapA phiA ArgsIn heapA_rel heapA_ok heapA_low heapA_arg phiA_fresh phiA_arg cells_world SlV Blk)

theorem wf_u8 {z : Int} (h : (Lit.int .u8 z).wf = true) : 0 ≤ z ∧ z ≤ 255 := by
  simp only [Lit.wf, Bool.and_eq_true, decide_eq_true_eq] at h
  simp [IntKind.min, IntKind.max, IntKind.signed, IntKind.bits] at h
  omega
/-- a slice of pairs of bytes that came in -/
theorem arg_twos {H : Type} {enc : TypeId × Value → H} {P : Program} {w : World} {t e q : TypeId} {fuel : Nat} {cs : List Value} {x : DataW H × List MemPlace} (h0 : ∃ cs ty fr, w.heap[1]? = some (.cells cs ty fr))
    (ht : P.underlying t = some (.slice e)) (he : P.underlying e = some (.array 2 q)) (ce : P.cellsOf e = 2) (cq : P.cellsOf q = 1) (kq : P.underlying q = some (.int .u8)) (hd : DataW.trod enc P w 0 (fun _ => true) true fuel t cs = some x) :
    ∃ (v : Value) (B : ArgB) (xs : List (Nat × Nat)) (V : Nat → Value), cs = [v] ∧ Ev.Byt xs ∧ B.L = Ev.prB xs ∧ B.es = 2 ∧ (∀ φ, ArgIn φ B w) ∧
      (∀ (T : Tr Blk) (b : Nat), T.get b = some (.mk (Tr.ofList B.L) B.L.length 2) → SlV T b (b + 1) 2 xs.length (Ev.prB xs) (V b)) ∧
      ∀ (φ : Phi) (b : Nat), φ b = some (B.blk, B.off, B.es, B.top) → VR φ (V b) v := by
  rcases Go.Deep.open_slice ht hd with ⟨rfl, rfl⟩ | ⟨a, len, cap, m, n, D, Pl, rfl, _, hl, hm, hmm, rfl, hx⟩
  · obtain ⟨cs, ty, fr, hh⟩ := h0
    exact ⟨_, ⟨[], 1, 0, 2, 0⟩, [], fun _ => .slice none 0 0, rfl, fun p hp => (by cases hp), rfl, rfl, fun φ => ⟨Nat.le_refl _, cs, ty, fr, hh, Nat.zero_le _, fun j v hv => by simp at hv⟩, fun T b _ => .nil rfl rfl, fun φ b _ => .nils⟩
  · simp only [if_true] at hmm
    subst hmm
    have each : ∀ i, i < m → ∃ p : Nat × Nat, p.1 ≤ 255 ∧ p.2 ≤ 255 ∧ w.cell? (a.add (i * 2)) = some (.int .u8 (p.1 : Nat)) ∧ w.cell? (a.add (i * 2 + 1)) = some (.int .u8 (p.2 : Nat)) := by
      intro i hi
      obtain ⟨cs', h1, h2⟩ := hx i hi
      rw [ce] at h1
      obtain ⟨_, hlen, hcell⟩ := World.cells?_some h1
      obtain ⟨xs, k, _, _, _, hxl, hf⟩ := DataW.trod_array he h2
      match xs, hxl, cs', hlen with
      | [y0, y1], _, [v0, v1], _ =>
        have g0 := hf 0 (by decide)
        have g1 := hf 1 (by decide)
        simp [cq] at g0 g1
        obtain ⟨z0, e0, _, w0⟩ := DataW.trod_int kq g0
        obtain ⟨z1, e1, _, w1⟩ := DataW.trod_int kq g1
        obtain ⟨b0, b1⟩ := wf_u8 w0
        obtain ⟨b2, b3⟩ := wf_u8 w1
        obtain ⟨n0, rfl⟩ := Int.eq_ofNat_of_zero_le b0
        obtain ⟨n1, rfl⟩ := Int.eq_ofNat_of_zero_le b2
        have c0 := hcell 0 (by decide)
        have c1 := hcell 1 (by decide)
        rw [Go.Deep.add_add] at c0 c1
        simp at e0 e1
        subst e0; subst e1
        exact ⟨(n0, n1), by simp only; omega, by simp only; omega, by simpa using c0, by simpa using c1⟩
    obtain ⟨f, hf⟩ := Go.Deep.choose_lt each
    let xs : List (Nat × Nat) := (List.range len).map f
    have hpl : xs.length = len := by simp [xs]
    have hpg : ∀ i, i < len → xs[i]? = some (f i) := fun i hi => by simp [xs, hi]
    have hbyt : Ev.Byt xs := fun p hp => by
      obtain ⟨i, hi, rfl⟩ := List.mem_map.1 hp
      have := List.mem_range.1 hi
      exact ⟨(hf i (by omega)).1, (hf i (by omega)).2.1⟩
    have slv : ∀ (T : Tr Blk) (b : Nat), T.get b = some (.mk (Tr.ofList (Ev.prB xs)) (Ev.prB xs).length 2) → SlV T b (b + 1) 2 xs.length (Ev.prB xs) (.slice (some ⟨b, 0, none⟩) len len) := fun T b hT => by
      rw [hpl]
      have hll := Ev.prB_len (xs := xs)
      refine .mk hT (Nat.le_refl _) (Nat.lt_succ_self _) (by omega) (by omega) fun i hi => ?_
      rw [Tr.ofList_get, Nat.zero_add]
    by_cases hp : 0 < m
    · have hsp : a.spot = none := by
        have := (hf 0 hp).2.2.1
        unfold World.cell? at this
        cases ha : a.spot with
        | none => rfl
        | some s =>
          simp [Addr.add, ha] at this
          exfalso
          split at this <;> cases this
      obtain ⟨bl, off, sp⟩ := a
      simp only at hsp
      subst hsp
      let V : Nat → Value := fun j => if j % 2 = 0 then .int .u8 ((f (j / 2)).1 : Nat) else .int .u8 ((f (j / 2)).2 : Nat)
      have hcellV : ∀ j, j < m * 2 → w.cell? ((⟨bl, off, none⟩ : Addr).add j) = some (V j) := fun j hj => by
        obtain ⟨_, _, g0, g1⟩ := hf (j / 2) (by omega)
        by_cases hev : j % 2 = 0
        · simp only [V, if_pos hev]
          rw [show j / 2 * 2 = j by omega] at g0
          exact g0
        · simp only [V, if_neg hev]
          rw [show j / 2 * 2 + 1 = j by omega] at g1
          exact g1
      obtain ⟨cs, ty, fr, hh, hsz, hcs⟩ := cells_world (w := w) (a := ⟨bl, off, none⟩) (n := m * 2) (by omega) (V := V) rfl hcellV
      refine ⟨_, ⟨Ev.prB xs, bl, off, 2, off + m * 2⟩, xs, fun b => .slice (some ⟨b, 0, none⟩) len len, rfl, hbyt, rfl, rfl, fun φ => ⟨?_, cs, ty, fr, hh, hsz, fun j v hv => ?_⟩, slv, fun φ b hb => ?_⟩
      · have hll := Ev.prB_len (xs := xs)
        show off + (Ev.prB xs).length ≤ off + m * 2
        omega
      · have hv' : (Ev.prB xs)[j]? = some v := hv
        have hll := Ev.prB_len (xs := xs)
        have hjl : j < len * 2 := by
          have := (List.getElem?_eq_some_iff.1 hv').1
          omega
        obtain ⟨g0, g1⟩ := Ev.prB_get (hpg (j / 2) (by omega))
        have hj2 := hcs j (by omega)
        by_cases hev : j % 2 = 0
        · rw [show j / 2 * 2 = j by omega, hv'] at g0
          injection g0 with g0
          subst g0
          refine ⟨_, hj2, ?_⟩
          simp only [V, if_pos hev]
          exact .int _ _
        · rw [show j / 2 * 2 + 1 = j by omega, hv'] at g1
          injection g1 with g1
          subst g1
          refine ⟨_, hj2, ?_⟩
          simp only [V, if_neg hev]
          exact .int _ _
      · exact .slc hb hl hl (by show off + 0 + m * 2 ≤ off + m * 2; omega) (.inl (by simp))
    · obtain rfl : m = 0 := by omega
      obtain rfl : len = 0 := by omega
      obtain ⟨cs, ty, fr, hh⟩ := h0
      refine ⟨_, ⟨[], 1, 0, 2, 0⟩, [], fun b => .slice (some ⟨b, 0, none⟩) 0 0, rfl, fun p hp => (by cases hp), rfl, rfl, fun φ => ⟨Nat.le_refl _, cs, ty, fr, hh, Nat.zero_le _, fun j v hv => by simp at hv⟩, fun T b hT => ?_, fun φ b hb => ?_⟩
      · exact .mk hT (Nat.le_refl _) (Nat.lt_succ_self _) (by simp) (by simp [Ev.prB]) fun i hi => by simp at hi
      · exact .slc hb (Nat.le_refl _) (Nat.le_refl _) (by simp) (.inr rfl)
end Go.Proofs.YthiodndhokooiaaGreatDoor.PmC

