/- Proved: for every number of threads, every free word and every byte, the law StitchCartier returns true, and its arguments read afterwards as before. Conditions: the three listed tables of the library hold what the program's text lays into them (the card ties that); nothing else. -/
import Derived.Test.YthankillfhmfkaaGreatDoorPmCC
import Derived.Test.YthankillfhmfkaaGreatDoorPmsD1
import Derived.SizedLaws
import Derived.Test.YthankillfhmfkaaGreatDoorPmsG12
set_option linter.unusedSimpArgs false
namespace Go.Proofs.YthankillfhmfkaaGreatDoor.PmStitchCartier
open Go.ChangeShapes Go.WideShapes Go.ChangeAt Go.RowKit
open Go.Proofs Go.Proofs.YthankillfhmfkaaGreatDoor Go.Proofs.YthankillfhmfkaaGreatDoor.PmC
open Go.Proofs.YthankillfhmfkaaGreatDoor.Ev (tabs heapA phiA phiA_arg heapA_arg VR VRs SlV Tr ArgB Phi Blk cells_world)

theorem laidOut : laidOutB Tryz.prog = true := by kernel_rfl
theorem ce5 : Tryz.prog.cellsOf 5 = 1 := by kernel_rfl
theorem ce70 : Tryz.prog.cellsOf 70 = 1 := by kernel_rfl
theorem ce72 : Tryz.prog.cellsOf 72 = 2 := by kernel_rfl

theorem wf_u8 {z : Int} (h : (Lit.int .u8 z).wf = true) : 0 ≤ z ∧ z ≤ 255 := by
  simp only [Lit.wf, Bool.and_eq_true, decide_eq_true_eq] at h
  simp [IntKind.min, IntKind.max, IntKind.signed, IntKind.bits] at h
  omega
set_option maxRecDepth 100000 in
theorem contract (H : Type) (enc : TypeId × Value → H) (W : World) (base : Nat) (args : Array Value) (ds gs : List (DataW H)) (before : List MemPlace)
    (hval : ∀ (j : Nat) t v, Tryz.f12.params[j]? = some t → args[j]? = some v → Value.okWide Tryz.prog W .any base t v)
    (hW : DataW.Whole enc Tryz.prog Tryz.f12.params.toList Rows.stitchCartierSpec.vars false W args.toList ds gs before) (hsz : (DataW.weightsEach Tryz.prog (Tryz.f12.params.toList ++ (OpenSpec.ofChange Rows.stitchCartierSpec).bare.plain.varTypes Tryz.prog) (ds ++ gs)).all (· ≤ reachBytes) = true) (hL : laidMetH Tryz.prog Rows.stitchCartierRow.laid W) :
    Calls Tryz.prog 12 args W fun e W' => ∃ v, e = .returned v ∧ Rows.stitchCartierSpec.post enc Tryz.prog Tryz.f12 false true false false W args v W' := by
  have hW' := hW
  obtain ⟨p, q, hA0, hV, rfl, hfz, hnd⟩ := hW
  have hA : DataW.TrodAll enc Tryz.prog W 0 (fun _ => true) true Tryz.f12.params.toList args.toList ds p := hA0
  rw [Tryz.params12] at hA hval hsz
  obtain ⟨v0, vs0, d0, ds0, p0, q0, hargs, rfl, rfl, h0, r0⟩ := trodAll_cons hA
  obtain ⟨v1, vs1, d1, ds1, p1, q1, hargs1, rfl, rfl, h1, r1⟩ := trodAll_cons r0
  obtain ⟨rfl, rfl, rfl⟩ := trodAll_nil r1
  obtain rfl : args = #[v0, v1] := by cases args; simp_all
  obtain ⟨rfl, rfl⟩ := trodVars_none hV
  obtain ⟨cs, rfl, hcs⟩ := okWide_struct Tryz.underlying72 (hval 0 72 v0 rfl rfl)
  clear hA0
  have hT := tables hL
  obtain ⟨nn, rfl, rfl, rfl, wa⟩ := open_int Tryz.underlying5 (hval 1 5 v1 rfl rfl) h1
  have hnn : 0 ≤ nn ∧ nn ≤ 255 := by first | exact wf_u8 wa | exact wf_u8 wa.1 | exact wf_u8 wa.2
  obtain ⟨fuel, hf⟩ := id h0
  obtain ⟨xs, n, _, hxs, hlen, hxl, hfs⟩ := DataW.trod_struct Tryz.underlying72 hf
  obtain ⟨c0, c1, rfl⟩ : ∃ c0 c1, cs = #[c0, c1] := by
    rw [ce72] at hcs
    exact ⟨cs[0], cs[1], by apply Array.ext (by simp [hcs]); intro i h3 h4; match i, h4 with
      | 0, _ => rfl
      | 1, _ => rfl⟩
  have g0 := hfs 0 _ rfl
  have g1 := hfs 1 _ rfl
  simp only [Value.cells, ce5, ce70, List.drop_zero, List.drop_succ_cons, List.take_succ_cons, List.take_zero] at g0 g1
  match xs, hxl with
  | [y0, y1], _ =>
  obtain ⟨k, hk, hkw⟩ := DataW.trod_int Tryz.underlying5 g0
  obtain ⟨fr, hfr, _⟩ := DataW.trod_int Tryz.underlying70 g1
  have take1 : ∀ {n : Nat} {a b : Value} {l : List Value}, n = 1 → List.take n (a :: l) = [b] → a = b := by rintro _ a b l rfl h; simpa using h
  obtain rfl : c0 = .int .u8 k := take1 ce5 hk
  obtain rfl : c1 = .int .u16 fr := take1 ce70 hfr
  have hkr : 0 ≤ k ∧ k ≤ 255 := by first | exact wf_u8 hkw | exact wf_u8 hkw.1 | exact wf_u8 hkw.2
  have hlt0 : ∀ x ∈ p0, x.block < W.heap.size := fun x hx => hW'.lt x (by simp [hx])
  have hagg : VR (phiA 4 tabs []) (.agg #[.int .u8 k, .int .u16 fr]) (.agg #[.int .u8 k, .int .u16 fr]) := .agg rfl fun i h3 h4 => match i, h3, h4 with
    | 0, _, _ => .int _ _
    | 1, _, _ => .int _ _
  have hrun := spec_run (Ev.law_StitchCartier (G := 4 + ([] : List ArgB).length) (h0 := heapA 4 tabs []) (Nat.le_refl 4) (Nat.le_refl _) (Nat.le_add_right 4 0) (heapA_tabs []) hkr.1 hkr.2 (Fr := fr) hnn.1 hnn.2)
  refine (calls_args (f := 12) (bs := []) (.cons hagg (.cons (.int _ _) .nil)) (argsIn_mk fun x hx => by cases hx) hrun hT).mono fun e W' ⟨he, hb⟩ => ?_
  subst he
  exact ⟨_, rfl, post_below (pa := p0 ++ ([] ++ [])) (pv := []) hW' (fun _ _ _ => trodAll_cons_mk (shut_bool Tryz.underlying4 _) trodAll_mk0)
    (fun sp hsp => trodAll_cons_mk (WideElems.Trod_stays laidOut (by kernel_rfl) (of_decide_eq_true (by kernel_rfl)) h0 (fun x hx => hb.same (hlt0 x hx)) (fun x hx => hsp x (by simp [hx])))
      (trodAll_cons_mk (shut_int Tryz.underlying5 wa)
        trodAll_mk0)) (fun _ _ => rfl) (by simp)
    hb (ok_one (by kernel_rfl) rfl (okWide_bool_mk Tryz.underlying4 _))⟩

theorem laid_met (os : Os) : laidMet Tryz.prog Rows.stitchCartierRow.laid ((laidWorld os).forCall (fun _ _ => 0) ⟨#[], #[.agg #[.int .u8 0, .int .u16 0], .int .u8 0], []⟩).memory :=
  laidMet_of_run' 8 (by kernel_rfl) (by kernel_rfl)
theorem reads (os : Os) {H : Type} (enc : TypeId × Value → H) : ∃ places, DataW.whole enc Tryz.prog ((laidWorld os).forCall (fun _ _ => 0) ⟨#[], #[.agg #[.int .u8 0, .int .u16 0], .int .u8 0], []⟩).memory Tryz.f12.params.toList Rows.stitchCartierSpec.vars false #[Value.agg #[.int .u8 0, .int .u16 0], .int .u8 0].toList 8 = some ([.agg [.lit (.int .u8 0), .lit (.int .u16 0)], .lit (.int .u8 0)], [], places) :=
  ⟨[], by kernel_rfl⟩

set_option maxRecDepth 100000 in
theorem lifted (os : Os) (started : os.Started) (H : Type) (enc : TypeId × Value → H) (F : Stop.Interp) :
    ReturnsInHanded {} Tryz.checked os 12 .any ((OpenSpec.ofChange Rows.stitchCartierSpec).preRow enc Tryz.prog Tryz.f12 Rows.stitchCartierRow.domain false Rows.stitchCartierRow.laid) (((OpenSpec.ofChange Rows.stitchCartierSpec).at F).post enc Tryz.prog Tryz.f12 false true false false) := by
  obtain ⟨places, hx⟩ := reads os enc
  refine returnsInHanded_of_row (C := Tryz.checked) (s := OpenSpec.ofChange Rows.stitchCartierSpec) own started (by kernel_rfl) Tryz.func12
    (witness_row_at (enc := enc) (C := Tryz.checked) false (laidWorld os) #[.agg #[.int .u8 0, .int .u16 0], .int .u8 0] rfl (by kernel_rfl) (by kernel_rfl) (by kernel_rfl)
      (OpenSpec.preRow_of_cond 8 hx (by kernel_rfl) (fun k hk => by cases hk) (by kernel_rfl) (laid_met os))) ?_
  intro W base args ds gs before hval hW _ _ hsz hL _ _
  exact contract H enc W base args ds gs before hval hW hsz hL

theorem said : Rows.StitchCartierSaid :=
  OpenClaim.holds_of_cond 12 Tryz.f12 rfl rfl rfl rfl rfl rfl rfl ⟨rfl, rfl, rfl, rfl, rfl⟩ rfl rfl rfl rfl rfl (by kernel_rfl) Tryz.func12 (by kernel_rfl)
    (of_decide_eq_true (by kernel_rfl)) (by unfold Func.isWrapper; first | (rw [if_pos (by decide +kernel)]; kernel_rfl) | (rw [if_neg (by decide +kernel)]; exact ⟨rfl, rfl⟩))
    (fun os started H enc _ F => by rw [OpenClaim.pre_eq_preRow]; exact lifted os started H enc F)

theorem plain (f : FuncId) (fn : Func) (hf : Tryz.pinned.checked.prog.funcNamed "pommel/pommellaw03.StitchCartier" = some f) (hfn : Tryz.pinned.checked.prog.funcs[f]? = some fn) :
    false = Tryz.pinned.checked.prog.looks [] ∧ ∀ (j : Nat) t, fn.params[j]? = some t → Tryz.pinned.checked.prog.wantsStandIn t = false := by
  obtain rfl : f = 12 := Option.some.inj ((show Tryz.prog.funcNamed "pommel/pommellaw03.StitchCartier" = some 12 by kernel_rfl).symm.trans hf) |>.symm
  obtain rfl : fn = Tryz.f12 := (Option.some.inj (Tryz.func12.symm.trans hfn)).symm
  refine ⟨by kernel_rfl, fun j t ht => ?_⟩
  rw [Tryz.params12] at ht
  have ht : t = 72 ∨ t = 5 := by
    have := Array.mem_of_getElem? ht
    simp at this
    omega
  rcases ht with rfl | rfl
  · exact (show Tryz.prog.wantsStandIn 72 = false by kernel_rfl)
  · exact (show Tryz.prog.wantsStandIn 5 = false by kernel_rfl)

theorem card : Rows.StitchCartierCardSaid :=
  Claim7.holds_tied_plain_at .later [] _ _ _ _ said (fun _ h => by cases h) (by kernel_rfl) (fun _ h => by cases h) stitchCartier_row_tie rfl ⟨rfl, rfl⟩ (by kernel_rfl) rfl plain (by kernel_rfl)
end Go.Proofs.YthankillfhmfkaaGreatDoor.PmStitchCartier

