/- Proved: for every input the law StrapCounts returns true, and its arguments read afterwards as before. Conditions: the listed package variable holds what the program's text lays into it (the card ties that); nothing else. -/
import Derived.Test.YtoeblkenmjbfiaaDoorPmoK2
import Derived.Test.YtoeblkenmjbfiaaDoorPmoJ5
set_option linter.unusedSimpArgs false
set_option linter.unusedVariables false
namespace Go.Proofs.YtoeblkenmjbfiaaDoor.PmStrapCounts
open Go.ChangeShapes Go.WideShapes Go.ChangeAt Go.RowKit
open Go.Proofs Go.Proofs.YtoeblkenmjbfiaaDoor Go.Proofs.YtoeblkenmjbfiaaDoor.PmC
open Go.Proofs.YtoeblkenmjbfiaaDoor.Ev (tabs VR VRs SlV Tr ArgB Phi)

theorem laidOut : laidOutB Tryd.prog = true := by kernel_rfl
theorem ce5 : Tryd.prog.cellsOf 5 = 1 := by kernel_rfl
theorem ce22 : Tryd.prog.cellsOf 22 = 3 := by kernel_rfl
theorem wf_u8 {z : Int} (h : (Lit.int .u8 z).wf = true) : 0 ≤ z ∧ z ≤ 255 := by
  simp only [Lit.wf, Bool.and_eq_true, decide_eq_true_eq] at h
  simp [IntKind.min, IntKind.max, IntKind.signed, IntKind.bits] at h
  omega
theorem wf_u32 {z : Int} (h : (Lit.int .u32 z).wf = true) : 0 ≤ z ∧ z ≤ 4294967295 := by
  simp only [Lit.wf, Bool.and_eq_true, decide_eq_true_eq] at h
  simp [IntKind.min, IntKind.max, IntKind.signed, IntKind.bits] at h
  omega
theorem okWide_arr {P : Program} {w : World} {r : Reach} {base : Nat} {t e : TypeId} {n : Nat} {v : Value} (ht : P.underlying t = some (.array n e)) (h : Value.okWide P w r base t v) : ∃ cs, v = .agg cs ∧ cs.size = P.cellsOf t := by
  simp only [Value.okWide, ht] at h
  obtain ⟨cs, h1, h2, _⟩ := h
  exact ⟨cs, h1, h2⟩
theorem three {cs : Array Value} {n : Nat} (h : cs.size = n) (h2 : n = 3) : ∃ c0 c1 c2, cs = #[c0, c1, c2] := by
  subst h2
  exact ⟨cs[0], cs[1], cs[2], by apply Array.ext (by simp [h]); intro i h3 h4; match i, h4 with
    | 0, _ => rfl
    | 1, _ => rfl
    | 2, _ => rfl⟩
theorem byte_of {z : Int} (h0 : 0 ≤ z) (h1 : z ≤ 255) : ∃ c : UInt8, z = (c.toNat : Int) :=
  ⟨UInt8.ofNat z.toNat, by rw [UInt8.toNat_ofNat']; have : z.toNat % 2 ^ 8 = z.toNat := Nat.mod_eq_of_lt (by omega); omega⟩

set_option maxRecDepth 100000 in
theorem contract (H : Type) (enc : TypeId × Value → H) (W : World) (base : Nat) (args : Array Value) (ds gs : List (DataW H)) (before : List MemPlace)
    (hval : ∀ (j : Nat) t v, Tryd.f3.params[j]? = some t → args[j]? = some v → Value.okWide Tryd.prog W .any base t v)
    (hW : DataW.Whole enc Tryd.prog Tryd.f3.params.toList Rows.strapCountsSpec.vars false W args.toList ds gs before) (hL : laidMetH Tryd.prog Rows.strapCountsRow.laid W) :
    Calls Tryd.prog 3 args W fun e W' => ∃ v, e = .returned v ∧ Rows.strapCountsSpec.post enc Tryd.prog Tryd.f3 false true false false W args v W' := by
  have hW' := hW
  obtain ⟨p, q, hA0, hV, rfl, hfz, hnd⟩ := hW
  have hA : DataW.TrodAll enc Tryd.prog W 0 (fun _ => true) true Tryd.f3.params.toList args.toList ds p := hA0
  rw [Tryd.params3] at hA hval
  have hO : OuterAt W := even_world hL
  obtain ⟨v0, vs0, d0, ds0, p0, q0', hargs, rfl, rfl, h0, r0⟩ := trodAll_cons hA
  obtain ⟨v1, vs1, d1, ds1, p1, q1', hargs1, rfl, rfl, h1, r1⟩ := trodAll_cons r0
  obtain ⟨v2, vs2, d2, ds2, p2, q2', hargs2, rfl, rfl, h2, r2⟩ := trodAll_cons r1
  obtain ⟨rfl, rfl, rfl⟩ := trodAll_nil r2
  obtain rfl : args = #[v0, v1, v2] := by cases args; simp_all
  obtain ⟨rfl, rfl⟩ := trodVars_none hV
  clear hA0
  have slot3 : ∀ {m : Nat} {c0 c1 c2 : Value}, m = 1 → ((Value.agg #[c0, c1, c2]).cells.toList.drop (0 * m)).take m = [c0] ∧ ((Value.agg #[c0, c1, c2]).cells.toList.drop (1 * m)).take m = [c1] ∧ ((Value.agg #[c0, c1, c2]).cells.toList.drop (2 * m)).take m = [c2] := by rintro _ c0 c1 c2 rfl; exact ⟨rfl, rfl, rfl⟩
  obtain ⟨a, rfl, rfl, rfl, wa⟩ := open_int Tryd.underlying23 (hval 1 23 v1 rfl rfl) h1
  have har : 0 ≤ a ∧ a ≤ 4294967295 := by first | exact wf_u32 wa | exact wf_u32 wa.1 | exact wf_u32 wa.2
  obtain ⟨b, rfl, rfl, rfl, wb⟩ := open_int Tryd.underlying23 (hval 2 23 v2 rfl rfl) h2
  have hbr : 0 ≤ b ∧ b ≤ 4294967295 := by first | exact wf_u32 wb | exact wf_u32 wb.1 | exact wf_u32 wb.2
  obtain ⟨an, rfl⟩ := Int.eq_ofNat_of_zero_le har.1
  obtain ⟨bn, rfl⟩ := Int.eq_ofNat_of_zero_le hbr.1
  obtain ⟨csx, rfl, hcsx⟩ := okWide_arr Tryd.underlying22 (hval 0 22 v0 rfl rfl)
  obtain ⟨q0, q1, q2, rfl⟩ := three hcsx ce22
  obtain ⟨fuelx, hfx⟩ := id h0
  obtain ⟨xsx, mx, _, hxsx, _, hxlx, hfsx⟩ := DataW.trod_array Tryd.underlying22 hfx
  match xsx, hxlx with
  | [t0, t1, t2], _ =>
  have b0 := hfsx 0 (by decide)
  have b1 := hfsx 1 (by decide)
  have b2 := hfsx 2 (by decide)
  rw [(slot3 ce5).1] at b0
  rw [(slot3 ce5).2.1] at b1
  rw [(slot3 ce5).2.2] at b2
  obtain ⟨z0, hz0, hzw0⟩ := DataW.trod_int Tryd.underlying5 b0
  obtain ⟨z1, hz1, hzw1⟩ := DataW.trod_int Tryd.underlying5 b1
  obtain ⟨z2, hz2, hzw2⟩ := DataW.trod_int Tryd.underlying5 b2
  obtain rfl : q0 = .int .u8 z0 := by simpa using hz0
  obtain rfl : q1 = .int .u8 z1 := by simpa using hz1
  obtain rfl : q2 = .int .u8 z2 := by simpa using hz2
  have hzr0 : 0 ≤ z0 ∧ z0 ≤ 255 := by first | exact wf_u8 hzw0 | exact wf_u8 hzw0.1 | exact wf_u8 hzw0.2
  have hzr1 : 0 ≤ z1 ∧ z1 ≤ 255 := by first | exact wf_u8 hzw1 | exact wf_u8 hzw1.1 | exact wf_u8 hzw1.2
  have hzr2 : 0 ≤ z2 ∧ z2 ≤ 255 := by first | exact wf_u8 hzw2 | exact wf_u8 hzw2.1 | exact wf_u8 hzw2.2
  have hltx : ∀ x ∈ p0, x.block < W.heap.size := fun x hx => hW'.lt x (by simp [hx])
  have harr : ∀ φ : Phi, VR φ (.agg #[.int .u8 z0, .int .u8 z1, .int .u8 z2]) (.agg #[.int .u8 z0, .int .u8 z1, .int .u8 z2]) := fun φ => .agg rfl fun i h3 h4 => match i, h3, h4 with
    | 0, _, _ => .int _ _
    | 1, _, _ => .int _ _
    | 2, _, _ => .int _ _
  obtain ⟨c0, rfl⟩ := byte_of hzr0.1 hzr0.2
  obtain ⟨c1, rfl⟩ := byte_of hzr1.1 hzr1.2
  obtain ⟨c2, rfl⟩ := byte_of hzr2.1 hzr2.2
  refine (calls_G (f := 3) (args := [.agg #[.int .u8 c0.toNat, .int .u8 c1.toNat, .int .u8 c2.toNat], .int .u32 an, .int .u32 bn]) hO (fun φ => .cons (harr φ) (.cons (.int _ _) (.cons (.int _ _) .nil))) fun h h12 hT => spec_run (Ev.law_StrapCounts (G := 12) (hi := 12) (v := an) (set := bn) (x0 := c0) (x1 := c1) (x2 := c2) h12 (Nat.le_refl _) hT (by omega) (by omega))).mono fun e W' ⟨he, hb⟩ => ?_
  subst he
  exact ⟨_, rfl, post_below (pa := p0 ++ ([] ++ ([] ++ []))) (pv := []) hW' (fun _ _ _ => trodAll_cons_mk (shut_bool Tryd.underlying4 _) trodAll_mk0)
    (fun sp hsp => trodAll_cons_mk (WideElems.Trod_stays laidOut (by kernel_rfl) (of_decide_eq_true (by kernel_rfl)) h0 (fun x hx => hb.same (hltx x hx)) (fun x hx => hsp x (by simp [hx]))) (trodAll_cons_mk (shut_int Tryd.underlying23 wa) (trodAll_cons_mk (shut_int Tryd.underlying23 wb) trodAll_mk0))) (fun _ _ => rfl) (by simp)
    hb (ok_one (by kernel_rfl) rfl (okWide_bool_mk Tryd.underlying4 _))⟩

theorem laid_met (os : Os) : laidMet Tryd.prog Rows.strapCountsRow.laid ((laidWorld os).forCall (fun _ _ => 0) ⟨#[], #[.agg #[.int .u8 0, .int .u8 0, .int .u8 0], .int .u32 0, .int .u32 0], []⟩).memory :=
  laidMet_of_run' 8 (by kernel_rfl) (by kernel_rfl)
theorem reads (os : Os) {H : Type} (enc : TypeId × Value → H) : ∃ places, DataW.whole enc Tryd.prog ((laidWorld os).forCall (fun _ _ => 0) ⟨#[], #[.agg #[.int .u8 0, .int .u8 0, .int .u8 0], .int .u32 0, .int .u32 0], []⟩).memory Tryd.f3.params.toList Rows.strapCountsSpec.vars false (#[.agg #[.int .u8 0, .int .u8 0, .int .u8 0], .int .u32 0, .int .u32 0] : Array Value).toList 8 = some ([.agg [.lit (.int .u8 0), .lit (.int .u8 0), .lit (.int .u8 0)], .lit (.int .u32 0), .lit (.int .u32 0)], [], places) :=
  ⟨[], by kernel_rfl⟩

set_option maxRecDepth 100000 in
theorem lifted (os : Os) (started : os.Started) (H : Type) (enc : TypeId × Value → H) (F : Stop.Interp) :
    ReturnsInHanded {} Tryd.checked os 3 .any ((OpenSpec.ofChange Rows.strapCountsSpec).preRow enc Tryd.prog Tryd.f3 Rows.strapCountsRow.domain false Rows.strapCountsRow.laid) (((OpenSpec.ofChange Rows.strapCountsSpec).at F).post enc Tryd.prog Tryd.f3 false true false false) := by
  obtain ⟨places, hx⟩ := reads os enc
  refine returnsInHanded_of_row (C := Tryd.checked) (s := OpenSpec.ofChange Rows.strapCountsSpec) own started (by kernel_rfl) Tryd.func3
    (witness_row_atRef (enc := enc) (C := Tryd.checked) false (laidWorld os) #[.agg #[.int .u8 0, .int .u8 0, .int .u8 0], .int .u32 0, .int .u32 0] rfl (by kernel_rfl) (by kernel_rfl) (by kernel_rfl)
      (OpenSpec.preRow_of_cond 8 hx (by kernel_rfl) (fun k hk => by cases hk) (by kernel_rfl) (laid_met os))) ?_
  intro W base args ds gs before hval hW _ _ hsz hL _ _
  exact contract H enc W base args ds gs before hval hW hL

theorem said : Rows.StrapCountsSaid :=
  OpenClaim.holds_of_cond 3 Tryd.f3 rfl rfl rfl rfl rfl rfl rfl ⟨rfl, rfl, rfl, rfl, rfl⟩ rfl rfl rfl rfl rfl (by kernel_rfl) Tryd.func3 (by kernel_rfl)
    (of_decide_eq_true (by kernel_rfl)) (by unfold Func.isWrapper; first | (rw [if_pos (by decide +kernel)]; kernel_rfl) | (rw [if_neg (by decide +kernel)]; exact ⟨rfl, rfl⟩))
    (fun os started H enc _ F => by rw [OpenClaim.pre_eq_preRow]; exact lifted os started H enc F)

theorem plain (f : FuncId) (fn : Func) (hf : Tryd.pinned.checked.prog.funcNamed "pommel/pommellaw04.StrapCounts" = some f) (hfn : Tryd.pinned.checked.prog.funcs[f]? = some fn) :
    false = Tryd.pinned.checked.prog.looks [] ∧ ∀ (j : Nat) t, fn.params[j]? = some t → Tryd.pinned.checked.prog.wantsStandIn t = false := by
  obtain rfl : f = 3 := Option.some.inj ((show Tryd.prog.funcNamed "pommel/pommellaw04.StrapCounts" = some 3 by kernel_rfl).symm.trans hf) |>.symm
  obtain rfl : fn = Tryd.f3 := (Option.some.inj (Tryd.func3.symm.trans hfn)).symm
  refine ⟨by kernel_rfl, fun j t ht => ?_⟩
  rw [Tryd.params3] at ht
  have ht : t = 22 ∨ t = 23 := by
    have := Array.mem_of_getElem? ht
    simp at this
    omega
  rcases ht with rfl | rfl
  · exact (show Tryd.prog.wantsStandIn 22 = false by kernel_rfl)
  · exact (show Tryd.prog.wantsStandIn 23 = false by kernel_rfl)

theorem card : Rows.StrapCountsCardSaid :=
  Claim7.holds_tied_plain_at .later [] _ _ _ _ said (fun _ h => by cases h) (by kernel_rfl) (fun _ h => by cases h) strapCounts_row_tie rfl ⟨rfl, rfl⟩ (by kernel_rfl) rfl plain (by kernel_rfl)
end Go.Proofs.YtoeblkenmjbfiaaDoor.PmStrapCounts

