/- Proved: for every number, every slice of numbers and any three numbers the law KinDepths returns true, and its arguments read afterwards as before. Conditions: the three listed tables of the library hold what the program's text lays into them (the card ties that); nothing else. -/
import Derived.Test.YtdgdemiifloliaaGreatDoorPmNCA
import Derived.Test.YtdgdemiifloliaaGreatDoorPmND2
import Derived.OpenShut
set_option linter.unusedSimpArgs false
namespace Go.Proofs.YtdgdemiifloliaaGreatDoor.PmKinDepths
open Go.ChangeShapes Go.WideShapes Go.ChangeAt Go.RowKit
open Go.Proofs Go.Proofs.YtdgdemiifloliaaGreatDoor Go.Proofs.YtdgdemiifloliaaGreatDoor.PmC
open Go.Proofs.YtdgdemiifloliaaGreatDoor.Ev (tabs heapA phiA phiA_arg heapA_arg VR VRs SlV Tr ArgB Phi Blk cells_world)

theorem laidOut : laidOutB Tryz.prog = true := by kernel_rfl
theorem ce5 : Tryz.prog.cellsOf 5 = 1 := by kernel_rfl
theorem ce76 : Tryz.prog.cellsOf 76 = 3 := by kernel_rfl
theorem ce105 : Tryz.prog.cellsOf 105 = 1 := by kernel_rfl
theorem wf_u8 {z : Int} (h : (Lit.int .u8 z).wf = true) : 0 ≤ z ∧ z ≤ 255 := by
  simp only [Lit.wf, Bool.and_eq_true, decide_eq_true_eq] at h
  simp [IntKind.min, IntKind.max, IntKind.signed, IntKind.bits] at h
  omega
theorem wf_u16 {z : Int} (h : (Lit.int .u16 z).wf = true) : 0 ≤ z ∧ z ≤ 65535 := by
  simp only [Lit.wf, Bool.and_eq_true, decide_eq_true_eq] at h
  simp [IntKind.min, IntKind.max, IntKind.signed, IntKind.bits] at h
  omega
theorem map_u16 (zs : List Int) : zs.map (Value.int .u16) = Ev.u16L zs.length fun j => zs.getD j 0 := by
  apply List.ext_getElem?
  intro j
  by_cases h : j < zs.length
  · rw [Ev.u16L_get h]
    simp [h]
  · rw [List.getElem?_eq_none (by simpa using h), List.getElem?_eq_none (by rw [Ev.u16L_len]; omega)]

/-- a slice of numbers, each in its kind -/
theorem arg_rowz {H : Type} {enc : TypeId × Value → H} {P : Program} {w : World} {t e : TypeId} {k : IntKind} {fuel : Nat} {cs : List Value} {x : DataW H × List MemPlace} (h0 : ∃ cs ty fr, w.heap[1]? = some (.cells cs ty fr))
    (ht : P.underlying t = some (.slice e)) (he : P.underlying e = some (.int k)) (hc : P.cellsOf e = 1) (hf : DataW.trod enc P w 0 (fun _ => true) true fuel t cs = some x) :
    ∃ (v : Value) (B : ArgB) (zs : List Int) (V : Nat → Value), cs = [v] ∧ (∀ z ∈ zs, (Lit.int k z).wf = true) ∧ B.L = zs.map (Value.int k) ∧ B.es = 1 ∧ (∀ φ, ArgIn φ B w) ∧
      (∀ (T : Tr Blk) (b : Nat), T.get b = some (.mk (Tr.ofList B.L) B.L.length 1) → SlV T b (b + 1) 1 zs.length (zs.map (Value.int k)) (V b)) ∧
      ∀ (φ : Phi) (b : Nat), φ b = some (B.blk, B.off, B.es, B.top) → VR φ (V b) v := by
  rcases open_ints ht he hc hf with ⟨rfl, hx⟩ | ⟨a, len, cap, zs, rfl, _, hl, hm, hz, hx, hcell, hwz⟩
  · obtain ⟨cs, ty, fr, hh⟩ := h0
    refine ⟨_, ⟨[], 1, 0, 1, 0⟩, [], fun _ => .slice none 0 0, rfl, fun z hz => (by cases hz), rfl, rfl, fun φ => ⟨Nat.le_refl _, cs, ty, fr, hh, Nat.zero_le _, fun j v hv => by simp at hv⟩, fun T b _ => .nil rfl rfl, fun φ b _ => .nils⟩
  · simp only [if_true] at hz
    have hlt : (zs.take len).length = len := by simp; omega
    have slv : ∀ (T : Tr Blk) (b : Nat), T.get b = some (.mk (Tr.ofList ((zs.take len).map (Value.int k))) ((zs.take len).map (Value.int k)).length 1) → SlV T b (b + 1) 1 (zs.take len).length ((zs.take len).map (Value.int k)) (.slice (some ⟨b, 0, none⟩) len len) := fun T b hT => by
      rw [hlt]
      refine .mk hT (Nat.le_refl _) (Nat.lt_succ_self _) (by simp; omega) (by simp; omega) fun i hi => ?_
      rw [Tr.ofList_get, Nat.zero_add]
    by_cases hp : 0 < cap
    · obtain ⟨bl, off, rfl, hj⟩ := ints_at hcell (by omega)
      obtain ⟨cs, ty, fr, hh, hsz, hcs⟩ := cells_world (w := w) (a := ⟨bl, off, none⟩) (n := cap) hp (V := fun i => .int k (zs.getD i 0)) rfl (fun i hi => hcell i (by omega))
      refine ⟨_, ⟨(zs.take len).map (Value.int k), bl, off, 1, off + cap⟩, zs.take len, fun b => .slice (some ⟨b, 0, none⟩) len len, rfl, fun z hz => hwz z (List.mem_of_mem_take hz), rfl, rfl, fun φ => ⟨by simp; omega, cs, ty, fr, hh, hsz, fun j v hv => ?_⟩, slv, fun φ b hb => ?_⟩
      · have hv' : ((zs.take len).map (Value.int k))[j]? = some v := hv
        have hjl : j < len := by
          have := (List.getElem?_eq_some_iff.1 hv').1
          simp at this; omega
        rw [List.getElem?_map, List.getElem?_take, if_pos hjl, List.getElem?_eq_getElem (by omega)] at hv'
        simp only [Option.map_some, Option.some.injEq] at hv'
        subst hv'
        refine ⟨_, hcs j (by omega), ?_⟩
        rw [show zs.getD j 0 = zs[j]'(by omega) by simp [List.getD, show j < zs.length by omega]]
        exact .int k _
      · exact .slc hb hl hl (by show off + 0 + cap * 1 ≤ off + cap; omega) (.inl (by simp))
    · obtain rfl : cap = 0 := by omega
      obtain rfl : len = 0 := by omega
      obtain ⟨cs, ty, fr, hh⟩ := h0
      obtain rfl : zs = [] := List.length_eq_zero_iff.1 hz
      refine ⟨_, ⟨[], 1, 0, 1, 0⟩, [], fun b => .slice (some ⟨b, 0, none⟩) 0 0, rfl, fun z hz => (by cases hz), rfl, rfl, fun φ => ⟨Nat.le_refl _, cs, ty, fr, hh, Nat.zero_le _, fun j v hv => by simp at hv⟩, slv, fun φ b hb => ?_⟩
      exact .slc hb (Nat.le_refl _) (Nat.le_refl _) (by simp) (.inr rfl)

theorem okWide_arr {P : Program} {w : World} {r : Reach} {base : Nat} {t e : TypeId} {n : Nat} {v : Value} (ht : P.underlying t = some (.array n e)) (h : Value.okWide P w r base t v) : ∃ cs, v = .agg cs ∧ cs.size = P.cellsOf t := by
  simp only [Value.okWide, ht] at h
  obtain ⟨cs, h1, h2, _⟩ := h
  exact ⟨cs, h1, h2⟩
theorem three {cs : Array Value} {n : Nat} (h : cs.size = n) (h2 : n = 3) : ∃ c0 c1 c2, cs = #[c0, c1, c2] := by
  subst h2
  exact ⟨cs[0], cs[1], cs[2], by apply Array.ext (by simp [h]); intro i h3 h4; match i, h4 with
    | 0, _ => rfl
    | 1, _ => rfl
    | 2, _ => rfl⟩
def sA : Value → Option Addr | .slice A _ _ => A | _ => none
def sC : Value → Nat | .slice _ _ c => c | _ => 0
theorem shape_of {B : Tr Blk} {lo hi sz n : Nat} {L : List Value} {v : Value} (s : SlV B lo hi sz n L v) : v = .slice (sA v) n (sC v) := by
  obtain ⟨A, c, rfl⟩ := s.shape
  rfl

set_option maxRecDepth 100000 in
theorem contract (H : Type) (enc : TypeId × Value → H) (W : World) (base : Nat) (args : Array Value) (ds gs : List (DataW H)) (before : List MemPlace)
    (hval : ∀ (j : Nat) t v, Tryz.f10.params[j]? = some t → args[j]? = some v → Value.okWide Tryz.prog W .any base t v)
    (hW : DataW.Whole enc Tryz.prog Tryz.f10.params.toList Rows.kinDepthsSpec.vars false W args.toList ds gs before) (hL : laidMetH Tryz.prog Rows.kinDepthsRow.laid W) :
    Calls Tryz.prog 10 args W fun e W' => ∃ v, e = .returned v ∧ Rows.kinDepthsSpec.post enc Tryz.prog Tryz.f10 false true false false W args v W' := by
  have hW' := hW
  obtain ⟨p, q, hA0, hV, rfl, hfz, hnd⟩ := hW
  have hA : DataW.TrodAll enc Tryz.prog W 0 (fun _ => true) true Tryz.f10.params.toList args.toList ds p := hA0
  rw [Tryz.params10] at hA hval
  obtain ⟨v0, vs0, d0, ds0, p0, q0, hargs, rfl, rfl, h0, r0⟩ := trodAll_cons hA
  obtain ⟨v1, vs1, d1, ds1, p1, q1, hargs1, rfl, rfl, h1, r1⟩ := trodAll_cons r0
  obtain ⟨v2, vs2, d2, ds2, p2, q2, hargs2, rfl, rfl, h2, r2⟩ := trodAll_cons r1
  obtain ⟨rfl, rfl, rfl⟩ := trodAll_nil r2
  obtain rfl : args = #[v0, v1, v2] := by cases args; simp_all
  obtain ⟨rfl, rfl⟩ := trodVars_none hV
  clear hA0
  have hT := tables hL
  have slot3 : ∀ {m : Nat} {c0 c1 c2 : Value}, m = 1 → ((Value.agg #[c0, c1, c2]).cells.toList.drop (0 * m)).take m = [c0] ∧ ((Value.agg #[c0, c1, c2]).cells.toList.drop (1 * m)).take m = [c1] ∧ ((Value.agg #[c0, c1, c2]).cells.toList.drop (2 * m)).take m = [c2] := by rintro _ c0 c1 c2 rfl; exact ⟨rfl, rfl, rfl⟩
  obtain ⟨a, rfl, rfl, rfl, wa⟩ := open_int Tryz.underlying5 (hval 0 5 v0 rfl rfl) h0
  have har : 0 ≤ a ∧ a ≤ 255 := by first | exact wf_u8 wa | exact wf_u8 wa.1 | exact wf_u8 wa.2
  obtain ⟨a1, l1, c1, rfl⟩ := okWide_slice Tryz.underlying55 (hval 1 55 v1 rfl rfl)
  obtain ⟨f1, g1⟩ := id h1
  obtain ⟨y1, B, zs, Vw, e1, hzw, hBL, hBe, hBin, hBs, hBv⟩ := arg_rowz (tab_there hT) Tryz.underlying55 Tryz.underlying105 ce105 g1
  obtain rfl : Value.slice a1 l1 c1 = y1 := by simpa [Value.cells] using e1
  obtain ⟨cs2, rfl, hcs2⟩ := okWide_arr Tryz.underlying76 (hval 2 76 v2 rfl rfl)
  obtain ⟨q0, q1, q2, rfl⟩ := three hcs2 ce76
  obtain ⟨fuel2, hf2⟩ := id h2
  obtain ⟨xs2, m2, _, hxs2, _, hxl2, hfs2⟩ := DataW.trod_array Tryz.underlying76 hf2
  match xs2, hxl2 with
  | [t0, t1, t2], _ =>
  have b0 := hfs2 0 (by decide)
  have b1 := hfs2 1 (by decide)
  have b2 := hfs2 2 (by decide)
  rw [(slot3 ce5).1] at b0
  rw [(slot3 ce5).2.1] at b1
  rw [(slot3 ce5).2.2] at b2
  obtain ⟨z0, hz0, hzw0⟩ := DataW.trod_int Tryz.underlying5 b0
  obtain ⟨z1, hz1, hzw1⟩ := DataW.trod_int Tryz.underlying5 b1
  obtain ⟨z2, hz2, hzw2⟩ := DataW.trod_int Tryz.underlying5 b2
  obtain rfl : q0 = .int .u8 z0 := by simpa using hz0
  obtain rfl : q1 = .int .u8 z1 := by simpa using hz1
  obtain rfl : q2 = .int .u8 z2 := by simpa using hz2
  have hzr0 : 0 ≤ z0 ∧ z0 ≤ 255 := by first | exact wf_u8 hzw0 | exact wf_u8 hzw0.1 | exact wf_u8 hzw0.2
  have hzr1 : 0 ≤ z1 ∧ z1 ≤ 255 := by first | exact wf_u8 hzw1 | exact wf_u8 hzw1.1 | exact wf_u8 hzw1.2
  have hzr2 : 0 ≤ z2 ∧ z2 ≤ 255 := by first | exact wf_u8 hzw2 | exact wf_u8 hzw2.1 | exact wf_u8 hzw2.2
  have hlt1 : ∀ x ∈ p1, x.block < W.heap.size := fun x hx => hW'.lt x (by simp [hx])
  have hlt2 : ∀ x ∈ p2, x.block < W.heap.size := fun x hx => hW'.lt x (by simp [hx])
  have hphi : phiA 4 tabs [B] 4 = some (B.blk, B.off, B.es, B.top) := phiA_arg (N := 4) (tabs := tabs) (args := [B]) (i := 0) rfl
  have hsl := hBs (heapA 4 tabs [B]).blks 4 (by rw [heapA_arg (Nat.le_refl 4) fun x hx => (tabs_small x hx).1]; show some (Ev.Blk.mk (Ev.Tr.ofList B.L) B.L.length B.es) = _; rw [hBe])
  have hs := shape_of hsl
  have hvr := hBv (phiA 4 tabs [B]) 4 hphi
  rw [hs] at hsl hvr
  rw [map_u16] at hsl
  have harr : VR (phiA 4 tabs [B]) (.agg #[.int .u8 z0, .int .u8 z1, .int .u8 z2]) (.agg #[.int .u8 z0, .int .u8 z1, .int .u8 z2]) := .agg rfl fun i h3 h4 => match i, h3, h4 with
    | 0, _, _ => .int _ _
    | 1, _, _ => .int _ _
    | 2, _, _ => .int _ _
  obtain ⟨an, rfl⟩ := Int.eq_ofNat_of_zero_le har.1
  obtain ⟨x0, rfl⟩ := Int.eq_ofNat_of_zero_le hzr0.1
  obtain ⟨x1, rfl⟩ := Int.eq_ofNat_of_zero_le hzr1.1
  obtain ⟨x2, rfl⟩ := Int.eq_ofNat_of_zero_le hzr2.1
  have hz : ∀ j, j < zs.length → 0 ≤ zs.getD j 0 ∧ zs.getD j 0 < 65536 := fun j hj => by
    have hm := wf_u16 (hzw _ (List.getElem_mem hj))
    rw [show zs.getD j 0 = zs[j] by simp [List.getD, hj]]
    omega
  have hrun := spec_run (Ev.law_KinDepths (G := 4 + [B].length) (h := heapA 4 tabs [B]) (n := an) (y0 := x0) (y1 := x1) (y2 := x2) (Nat.le_add_right 4 1) (Nat.le_refl _) (heapA_tabs [B]) (Nat.le_refl _) (by omega) hsl hz (by omega) (by omega) (by omega))
  refine (calls_args (f := 10) (bs := [B]) (.cons (.int _ _) (.cons hvr (.cons harr .nil))) (argsIn_mk fun x hx => by
    rw [List.mem_singleton.1 hx]; exact hBin _) hrun hT).mono fun e W' ⟨he, hb⟩ => ?_
  subst he
  exact ⟨_, rfl, post_below (pa := [] ++ (p1 ++ (p2 ++ []))) (pv := []) hW' (fun _ _ _ => trodAll_cons_mk (shut_bool Tryz.underlying4 _) trodAll_mk0)
    (fun sp hsp => trodAll_cons_mk (shut_int Tryz.underlying5 wa)
      (trodAll_cons_mk (WideElems.Trod_stays laidOut (by kernel_rfl) (of_decide_eq_true (by kernel_rfl)) h1 (fun x hx => hb.same (hlt1 x hx)) (fun x hx => hsp x (by simp [hx])))
        (trodAll_cons_mk (WideElems.Trod_stays laidOut (by kernel_rfl) (of_decide_eq_true (by kernel_rfl)) h2 (fun x hx => hb.same (hlt2 x hx)) (fun x hx => hsp x (by simp [hx]))) trodAll_mk0))) (fun _ _ => rfl) (by simp)
    hb (ok_one (by kernel_rfl) rfl (okWide_bool_mk Tryz.underlying4 _))⟩

theorem laid_met (os : Os) : laidMet Tryz.prog Rows.kinDepthsRow.laid ((laidWorld os).forCall (fun _ _ => 0) ⟨#[], #[.int .u8 0, .slice none 0 0, .agg #[.int .u8 0, .int .u8 0, .int .u8 0]], []⟩).memory :=
  laidMet_of_run' 8 (by kernel_rfl) (by kernel_rfl)
theorem reads (os : Os) {H : Type} (enc : TypeId × Value → H) : ∃ places, DataW.whole enc Tryz.prog ((laidWorld os).forCall (fun _ _ => 0) ⟨#[], #[.int .u8 0, .slice none 0 0, .agg #[.int .u8 0, .int .u8 0, .int .u8 0]], []⟩).memory Tryz.f10.params.toList Rows.kinDepthsSpec.vars false #[Value.int .u8 0, .slice none 0 0, .agg #[.int .u8 0, .int .u8 0, .int .u8 0]].toList 8 = some ([.lit (.int .u8 0), .nil, .agg [.lit (.int .u8 0), .lit (.int .u8 0), .lit (.int .u8 0)]], [], places) :=
  ⟨[], by kernel_rfl⟩

set_option maxRecDepth 100000 in
theorem lifted (os : Os) (started : os.Started) (H : Type) (enc : TypeId × Value → H) (F : Stop.Interp) :
    ReturnsInHanded {} Tryz.checked os 10 .any ((OpenSpec.ofChange Rows.kinDepthsSpec).preRow enc Tryz.prog Tryz.f10 Rows.kinDepthsRow.domain false Rows.kinDepthsRow.laid) (((OpenSpec.ofChange Rows.kinDepthsSpec).at F).post enc Tryz.prog Tryz.f10 false true false false) := by
  obtain ⟨places, hx⟩ := reads os enc
  refine returnsInHanded_of_row (C := Tryz.checked) (s := OpenSpec.ofChange Rows.kinDepthsSpec) own started (by kernel_rfl) Tryz.func10
    (witness_row_at (enc := enc) (C := Tryz.checked) false (laidWorld os) #[.int .u8 0, .slice none 0 0, .agg #[.int .u8 0, .int .u8 0, .int .u8 0]] rfl (by kernel_rfl) (by kernel_rfl) (by kernel_rfl)
      (OpenSpec.preRow_of_cond 8 hx (by kernel_rfl) (fun k hk => by cases hk) (by kernel_rfl) (laid_met os))) ?_
  intro W base args ds gs before hval hW _ _ _ hL _ _
  exact contract H enc W base args ds gs before hval hW hL

theorem said : Rows.KinDepthsSaid :=
  OpenClaim.holds_of_cond 10 Tryz.f10 rfl rfl rfl rfl rfl rfl rfl ⟨rfl, rfl, rfl, rfl, rfl⟩ rfl rfl rfl rfl rfl (by kernel_rfl) Tryz.func10 (by kernel_rfl)
    (of_decide_eq_true (by kernel_rfl)) (by unfold Func.isWrapper; first | (rw [if_pos (by decide +kernel)]; kernel_rfl) | (rw [if_neg (by decide +kernel)]; exact ⟨rfl, rfl⟩))
    (fun os started H enc _ F => by rw [OpenClaim.pre_eq_preRow]; exact lifted os started H enc F)

theorem plain (f : FuncId) (fn : Func) (hf : Tryz.pinned.checked.prog.funcNamed "pommel/pommellaw05.KinDepths" = some f) (hfn : Tryz.pinned.checked.prog.funcs[f]? = some fn) :
    false = Tryz.pinned.checked.prog.looks [] ∧ ∀ (j : Nat) t, fn.params[j]? = some t → Tryz.pinned.checked.prog.wantsStandIn t = false := by
  obtain rfl : f = 10 := Option.some.inj ((show Tryz.prog.funcNamed "pommel/pommellaw05.KinDepths" = some 10 by kernel_rfl).symm.trans hf) |>.symm
  obtain rfl : fn = Tryz.f10 := (Option.some.inj (Tryz.func10.symm.trans hfn)).symm
  refine ⟨by kernel_rfl, fun j t ht => ?_⟩
  rw [Tryz.params10] at ht
  have ht : t = 5 ∨ t = 55 ∨ t = 76 := by
    have := Array.mem_of_getElem? ht
    simp at this
    omega
  rcases ht with rfl | rfl | rfl
  · exact (show Tryz.prog.wantsStandIn 5 = false by kernel_rfl)
  · exact (show Tryz.prog.wantsStandIn 55 = false by kernel_rfl)
  · exact (show Tryz.prog.wantsStandIn 76 = false by kernel_rfl)

theorem card : Rows.KinDepthsCardSaid :=
  Claim7.holds_tied_plain_at .later [] _ _ _ _ said (fun _ h => by cases h) (by kernel_rfl) (fun _ h => by cases h) kinDepths_row_tie rfl ⟨rfl, rfl⟩ (by kernel_rfl) rfl plain (by kernel_rfl)
end Go.Proofs.YtdgdemiifloliaaGreatDoor.PmKinDepths
