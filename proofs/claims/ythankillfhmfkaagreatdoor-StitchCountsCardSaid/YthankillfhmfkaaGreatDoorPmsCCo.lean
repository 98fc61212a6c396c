/- Proved: for every struct of letters and pairs and any int the law StitchCounts returns true, and its arguments read afterwards as before. Conditions: the three listed tables of the library hold what the program's text lays into them (the card ties that); nothing else. -/
import Derived.Test.YthankillfhmfkaaGreatDoorPmCC
import Derived.Test.YthankillfhmfkaaGreatDoorPmsL5
set_option linter.unusedSimpArgs false
namespace Go.Proofs.YthankillfhmfkaaGreatDoor.PmStitchCounts
open Go.ChangeShapes Go.WideShapes Go.ChangeAt Go.RowKit
open Go.Proofs Go.Proofs.YthankillfhmfkaaGreatDoor Go.Proofs.YthankillfhmfkaaGreatDoor.PmC
open Go.Proofs.YthankillfhmfkaaGreatDoor.Ev (tabs heapA phiA phiA_arg heapA_arg VR VRs)
theorem laidOut : laidOutB Tryz.prog = true := by kernel_rfl
theorem ce82 : Tryz.prog.cellsOf 104 = 2 := by kernel_rfl
theorem ce3 : Tryz.prog.cellsOf 3 = 1 := by kernel_rfl
theorem ce22 : Tryz.prog.cellsOf 22 = 1 := by kernel_rfl
theorem ce24 : Tryz.prog.cellsOf 24 = 2 := by kernel_rfl
set_option maxRecDepth 100000 in
theorem contract (H : Type) (enc : TypeId × Value → H) (W : World) (base : Nat) (args : Array Value) (ds gs : List (DataW H)) (before : List MemPlace)
  (hval : ∀ (j : Nat) t v, Tryz.f6.params[j]? = some t → args[j]? = some v → Value.okWide Tryz.prog W .any base t v)
  (hW : DataW.Whole enc Tryz.prog Tryz.f6.params.toList Rows.stitchCountsSpec.vars false W args.toList ds gs before) (hL : laidMetH Tryz.prog Rows.stitchCountsRow.laid W) :
  Calls Tryz.prog 6 args W fun e W' => ∃ v, e = .returned v ∧ Rows.stitchCountsSpec.post enc Tryz.prog Tryz.f6 false true false false W args v W' := by
 have hW' := hW
 obtain ⟨p, q, hA0, hV, rfl, hfz, hnd⟩ := hW
 have hA : DataW.TrodAll enc Tryz.prog W 0 (fun _ => true) true Tryz.f6.params.toList args.toList ds p := hA0
 rw [Tryz.params6] at hA hval
 obtain ⟨v0, vs0, d0, ds0, p0, q0, hargs, rfl, rfl, h0, r0⟩ := trodAll_cons hA
 obtain ⟨v1, vs1, d1, ds1, p1, q1, hargs1, rfl, rfl, h1, r1⟩ := trodAll_cons r0
 obtain ⟨rfl, rfl, rfl⟩ := trodAll_nil r1
 obtain rfl : args = #[v0, v1] := by cases args; simp_all
 obtain ⟨rfl, rfl⟩ := trodVars_none hV
 obtain ⟨cs, rfl, hcs⟩ := okWide_struct Tryz.underlying24 (hval 0 24 v0 rfl rfl)
 obtain ⟨s1, rfl, rfl, rfl, w1⟩ := open_int Tryz.underlying3 (hval 1 3 v1 rfl rfl) h1
 clear hA0
 have hT := tables hL
 obtain ⟨fuel, hf⟩ := id h0
 obtain ⟨xs, n, _, hxs, hlen, hxl, hfs⟩ := DataW.trod_struct Tryz.underlying24 hf
 obtain ⟨c0, c1, rfl⟩ : ∃ c0 c1, cs = #[c0, c1] := by
  rw [ce24] at hcs
  exact ⟨cs[0], cs[1], by apply Array.ext (by simp [hcs]); intro i h3 h4; match i, h4 with
   | 0, _ => rfl
   | 1, _ => rfl⟩
 have g0 := hfs 0 _ rfl
 have g1 := hfs 1 _ rfl
 simp only [Value.cells, ce3, ce22, List.drop_zero, List.drop_succ_cons, List.take_succ_cons, List.take_zero] at g0 g1
 match xs, hxl with
 | [y0, y1], _ =>
 obtain ⟨k, hk, _, _⟩ := DataW.trod_int Tryz.underlying3 g0
 obtain ⟨v, B, ps, V, hv, hBL, hBe, hBin, hBs, hBv⟩ := arg_pairs (tab_there hT) Tryz.underlying22 Tryz.underlying104 ce82 rfl rfl ce3 ce3 Tryz.underlying3 Tryz.underlying3 g1
 have take1 : ∀ {n : Nat} {a b : Value} {l : List Value}, n = 1 → List.take n (a :: l) = [b] → a = b := by rintro _ a b l rfl h; simpa using h
 obtain rfl : c0 = .int .i64 k := take1 ce3 hk
 obtain rfl : c1 = v := take1 ce22 hv
 have hlt : ∀ x ∈ p0, x.block < W.heap.size := fun x hx => hW'.lt x (by simp [hx])
 have hphi : phiA 4 tabs [B] 4 = some (B.blk, B.off, B.es, B.top) := phiA_arg (N := 4) (tabs := tabs) (args := [B]) (i := 0) rfl
 have hsl := hBs (heapA 4 tabs [B]).blks 4 (by rw [heapA_arg (Nat.le_refl 4) fun x hx => (tabs_small x hx).1]; show some (Ev.Blk.mk (Ev.Tr.ofList B.L) B.L.length B.es) = _; rw [hBe])
 obtain ⟨A, c, hV3⟩ := hsl.shape
 rw [hV3] at hsl
 have hvr := hBv (phiA 4 tabs [B]) 4 hphi
 rw [hV3] at hvr
 have hagg : VR (phiA 4 tabs [B]) (.agg #[.int .i64 k, .slice A ps.length c]) (.agg #[.int .i64 k, c1]) := .agg rfl fun i h3 h4 => match i, h3, h4 with
  | 0, _, _ => .int _ _
  | 1, _, _ => hvr
 have hrun := spec_run (Ev.law_StitchCounts (G := 4 + [B].length) (k := k) (z := s1) (h0 := heapA 4 tabs [B]) (Nat.le_add_right 4 1) (Nat.le_refl _) (Nat.le_add_right 4 1) (heapA_tabs [B]) hsl (Nat.le_refl _))
 refine (calls_args (f := 6) (bs := [B]) (.cons hagg (.cons (.int _ s1) .nil)) (argsIn_mk fun x hx => by rw [List.mem_singleton.1 hx]; exact hBin _) hrun hT).mono fun e W' ⟨he, hb⟩ => ?_
 subst he
 exact ⟨_, rfl, post_below (pa := p0 ++ ([] ++ [])) (pv := []) hW' (fun _ _ _ => trodAll_cons_mk (shut_bool Tryz.underlying4 _) trodAll_mk0)
  (fun sp hsp => trodAll_cons_mk (WideElems.Trod_stays laidOut (by kernel_rfl) (of_decide_eq_true (by kernel_rfl)) h0 (fun x hx => hb.same (hlt x hx)) (fun x hx => hsp x (by simp [hx])))
   (trodAll_cons_mk (WideElems.Trod_stays laidOut (by kernel_rfl) (of_decide_eq_true (by kernel_rfl)) h1 (fun x hx => (by cases hx)) (fun x hx => (by cases hx))) trodAll_mk0)) (fun _ _ => rfl) (by simp)
  hb (ok_one (by kernel_rfl) rfl (okWide_bool_mk Tryz.underlying4 _))⟩
theorem laid_met (os : Os) : laidMet Tryz.prog Rows.stitchCountsRow.laid ((laidWorld os).forCall (fun _ _ => 0) ⟨#[], #[.agg #[.int .i64 0, .slice none 0 0], .int .i64 0], []⟩).memory :=
 laidMet_of_run' 8 (by kernel_rfl) (by kernel_rfl)
theorem reads (os : Os) {H : Type} (enc : TypeId × Value → H) : ∃ places, DataW.whole enc Tryz.prog ((laidWorld os).forCall (fun _ _ => 0) ⟨#[], #[.agg #[.int .i64 0, .slice none 0 0], .int .i64 0], []⟩).memory Tryz.f6.params.toList Rows.stitchCountsSpec.vars false #[Value.agg #[.int .i64 0, .slice none 0 0], .int .i64 0].toList 8 = some ([.agg [.lit (.int .i64 0), .nil], .lit (.int .i64 0)], [], places) :=
 ⟨[], by kernel_rfl⟩
set_option maxRecDepth 100000 in
theorem lifted (os : Os) (started : os.Started) (H : Type) (enc : TypeId × Value → H) (F : Stop.Interp) :
  ReturnsInHanded {} Tryz.checked os 6 .any ((OpenSpec.ofChange Rows.stitchCountsSpec).preRow enc Tryz.prog Tryz.f6 Rows.stitchCountsRow.domain false Rows.stitchCountsRow.laid) (((OpenSpec.ofChange Rows.stitchCountsSpec).at F).post enc Tryz.prog Tryz.f6 false true false false) := by
 obtain ⟨places, hx⟩ := reads os enc
 refine returnsInHanded_of_row (C := Tryz.checked) (s := OpenSpec.ofChange Rows.stitchCountsSpec) own started (by kernel_rfl) Tryz.func6
  (witness_row_at (enc := enc) (C := Tryz.checked) false (laidWorld os) #[.agg #[.int .i64 0, .slice none 0 0], .int .i64 0] rfl (by kernel_rfl) (by kernel_rfl) (by kernel_rfl)
   (OpenSpec.preRow_of_cond 8 hx (by kernel_rfl) (fun k hk => by cases hk) (by kernel_rfl) (laid_met os))) ?_
 intro W base args ds gs before hval hW _ _ _ hL _ _
 exact contract H enc W base args ds gs before hval hW hL
theorem said : Rows.StitchCountsSaid :=
 OpenClaim.holds_of_cond 6 Tryz.f6 rfl rfl rfl rfl rfl rfl rfl ⟨rfl, rfl, rfl, rfl, rfl⟩ rfl rfl rfl rfl rfl (by kernel_rfl) Tryz.func6 (by kernel_rfl)
  (of_decide_eq_true (by kernel_rfl)) (by unfold Func.isWrapper; first | (rw [if_pos (by decide +kernel)]; kernel_rfl) | (rw [if_neg (by decide +kernel)]; exact ⟨rfl, rfl⟩))
  (fun os started H enc _ F => by rw [OpenClaim.pre_eq_preRow]; exact lifted os started H enc F)
theorem plain (f : FuncId) (fn : Func) (hf : Tryz.pinned.checked.prog.funcNamed "pommel/pommellaw03.StitchCounts" = some f) (hfn : Tryz.pinned.checked.prog.funcs[f]? = some fn) :
  false = Tryz.pinned.checked.prog.looks [] ∧ ∀ (j : Nat) t, fn.params[j]? = some t → Tryz.pinned.checked.prog.wantsStandIn t = false := by
 obtain rfl : f = 6 := Option.some.inj ((show Tryz.prog.funcNamed "pommel/pommellaw03.StitchCounts" = some 6 by kernel_rfl).symm.trans hf) |>.symm
 obtain rfl : fn = Tryz.f6 := (Option.some.inj (Tryz.func6.symm.trans hfn)).symm
 refine ⟨by kernel_rfl, fun j t ht => ?_⟩
 rw [Tryz.params6] at ht
 have ht : t = 24 ∨ t = 3 := by
  have := Array.mem_of_getElem? ht
  simp at this
  omega
 rcases ht with rfl | rfl
 ·exact (show Tryz.prog.wantsStandIn 24 = false by kernel_rfl)
 ·exact (show Tryz.prog.wantsStandIn 3 = false by kernel_rfl)
theorem card : Rows.StitchCountsCardSaid :=
 Claim7.holds_tied_plain_at .later [] _ _ _ _ said (fun _ h => by cases h) (by kernel_rfl) (fun _ h => by cases h) stitchCounts_row_tie rfl ⟨rfl, rfl⟩ (by kernel_rfl) rfl plain (by kernel_rfl)
end Go.Proofs.YthankillfhmfkaaGreatDoor.PmStitchCounts
