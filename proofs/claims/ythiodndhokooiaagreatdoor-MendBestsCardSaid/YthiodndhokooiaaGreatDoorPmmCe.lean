/- Proved: for every shop (a list of jobs and a list of pairs) the law MendBests returns true, and its arguments read afterwards as before. Conditions: the three listed tables of the library hold what the program's text lays into them (the card ties that); nothing else. -/
import Derived.Test.YthiodndhokooiaaGreatDoorPmmCA
import Derived.ChangeMaps5
import Derived.Test.YthiodndhokooiaaGreatDoorPmmX4
set_option linter.unusedSimpArgs false
namespace Go.Proofs.YthiodndhokooiaaGreatDoor.PmMendBests
open Go.ChangeShapes Go.WideShapes Go.ChangeAt Go.RowKit
open Go.Proofs Go.Proofs.YthiodndhokooiaaGreatDoor Go.Proofs.YthiodndhokooiaaGreatDoor.PmC
open Go.ChangeMaps (open_string)
open Go.Proofs.YthiodndhokooiaaGreatDoor.Ev (tabs heapA phiA phiA_arg heapA_arg VR VRs)

theorem laidOut : laidOutB Tryz.prog = true := by kernel_rfl
theorem ce49 : Tryz.prog.cellsOf 49 = 2 := by kernel_rfl
theorem ce54 : Tryz.prog.cellsOf 54 = 2 := by kernel_rfl
theorem ce3 : Tryz.prog.cellsOf 3 = 1 := by kernel_rfl
theorem ce22 : Tryz.prog.cellsOf 22 = 1 := by kernel_rfl
theorem ce23 : Tryz.prog.cellsOf 23 = 1 := by kernel_rfl
theorem ce25 : Tryz.prog.cellsOf 25 = 2 := by kernel_rfl

set_option maxRecDepth 100000 in
theorem contract (H : Type) (enc : TypeId × Value → H) (W : World) (base : Nat) (args : Array Value) (ds gs : List (DataW H)) (before : List MemPlace)
    (hval : ∀ (j : Nat) t v, Tryz.f4.params[j]? = some t → args[j]? = some v → Value.okWide Tryz.prog W .any base t v)
    (hW : DataW.Whole enc Tryz.prog Tryz.f4.params.toList Rows.mendBestsSpec.vars false W args.toList ds gs before) (hL : laidMetH Tryz.prog Rows.mendBestsRow.laid W) :
    Calls Tryz.prog 4 args W fun e W' => ∃ v, e = .returned v ∧ Rows.mendBestsSpec.post enc Tryz.prog Tryz.f4 false true false false W args v W' := by
  have hW' := hW
  obtain ⟨p, q, hA0, hV, rfl, hfz, hnd⟩ := hW
  have hA : DataW.TrodAll enc Tryz.prog W 0 (fun _ => true) true Tryz.f4.params.toList args.toList ds p := hA0
  rw [Tryz.params4] at hA hval
  obtain ⟨v0, vs0, d0, ds0, p0, q0, hargs, rfl, rfl, h0, r0⟩ := trodAll_cons hA
  obtain ⟨rfl, rfl, rfl⟩ := trodAll_nil r0
  obtain rfl : args = #[v0] := by cases args; simp_all
  obtain ⟨rfl, rfl⟩ := trodVars_none hV
  obtain ⟨cs, rfl, hcs⟩ := okWide_struct Tryz.underlying25 (hval 0 25 v0 rfl rfl)
  clear hA0
  have hT := tables hL
  obtain ⟨fuel, hf⟩ := id h0
  obtain ⟨xs, n, _, hxs, hlen, hxl, hfs⟩ := DataW.trod_struct Tryz.underlying25 hf
  obtain ⟨c0, c1, rfl⟩ : ∃ c0 c1, cs = #[c0, c1] := by
    rw [ce25] at hcs
    exact ⟨cs[0], cs[1], by apply Array.ext (by simp [hcs]); intro i h3 h4; match i, h4 with
      | 0, _ => rfl
      | 1, _ => rfl⟩
  have g0 := hfs 0 _ rfl
  have g1 := hfs 1 _ rfl
  simp only [Value.cells, ce22, ce23, List.drop_zero, List.drop_succ_cons, List.take_succ_cons, List.take_zero] at g0 g1
  match xs, hxl with
  | [y0, y1], _ =>
  obtain ⟨w1, B1, js, V1, hw1, hL1, hE1, hin1, hs1, hv1⟩ := arg_pairs (tab_there hT) Tryz.underlying22 Tryz.underlying49 ce49 rfl rfl ce3 ce3 Tryz.underlying3 Tryz.underlying3 g0
  obtain ⟨w2, B2, ps, V2, hw2, hL2, hE2, hin2, hs2, hv2⟩ := arg_pairs (tab_there hT) Tryz.underlying23 Tryz.underlying54 ce54 rfl rfl ce3 ce3 Tryz.underlying3 Tryz.underlying3 g1
  have take1 : ∀ {n : Nat} {a b : Value} {l : List Value}, n = 1 → List.take n (a :: l) = [b] → a = b := by rintro _ a b l rfl h; simpa using h
  obtain rfl : c0 = w1 := take1 ce22 hw1
  obtain rfl : c1 = w2 := take1 ce23 hw2
  have hlt : ∀ x ∈ p0, x.block < W.heap.size := fun x hx => hW'.lt x (by simp [hx])
  have hphi1 : phiA 4 tabs [B1, B2] 4 = some (B1.blk, B1.off, B1.es, B1.top) := phiA_arg (N := 4) (tabs := tabs) (args := [B1, B2]) (i := 0) rfl
  have hphi2 : phiA 4 tabs [B1, B2] 5 = some (B2.blk, B2.off, B2.es, B2.top) := phiA_arg (N := 4) (tabs := tabs) (args := [B1, B2]) (i := 1) rfl
  have sl1 := hs1 (heapA 4 tabs [B1, B2]).blks 4 (by rw [heapA_arg (Nat.le_refl 4) fun x hx => (tabs_small x hx).1]; show some (Ev.Blk.mk (Ev.Tr.ofList B1.L) B1.L.length B1.es) = _; rw [hE1])
  have sl2 := hs2 (heapA 4 tabs [B1, B2]).blks 5 (by rw [heapA_arg (by decide) fun x hx => (tabs_small x hx).1]; show some (Ev.Blk.mk (Ev.Tr.ofList B2.L) B2.L.length B2.es) = _; rw [hE2])
  obtain ⟨A1, k1, e1⟩ := sl1.shape
  obtain ⟨A2, k2, e2⟩ := sl2.shape
  rw [e1] at sl1
  rw [e2] at sl2
  have r1 := hv1 (phiA 4 tabs [B1, B2]) 4 hphi1
  have r2 := hv2 (phiA 4 tabs [B1, B2]) 5 hphi2
  rw [e1] at r1
  rw [e2] at r2
  have hagg : VR (phiA 4 tabs [B1, B2]) (.agg #[.slice A1 js.length k1, .slice A2 ps.length k2]) (.agg #[c0, c1]) := .agg rfl fun i h3 h4 => match i, h3, h4 with
    | 0, _, _ => r1
    | 1, _, _ => r2
  have hrun := spec_run (Ev.law_MendBests (G := 4 + [B1, B2].length) (N := 6) (h := heapA 4 tabs [B1, B2]) (Nat.le_refl _) (Nat.le_add_right 4 2) (heapA_tabs [B1, B2]) rfl rfl (sl1.wide (Nat.zero_le _) (by decide)) (sl2.wide (Nat.zero_le _) (by decide)) (Nat.le_refl _))
  refine (calls_args (f := 4) (bs := [B1, B2]) (.cons hagg .nil) (argsIn_mk fun x hx => by
    simp only [List.mem_cons, List.not_mem_nil, or_false] at hx
    rcases hx with rfl | rfl
    · exact hin1 _
    · exact hin2 _) hrun hT).mono fun e W' ⟨he, hb⟩ => ?_
  subst he
  exact ⟨_, rfl, post_below (pa := p0 ++ []) (pv := []) hW' (fun _ _ _ => trodAll_cons_mk (shut_bool Tryz.underlying4 _) trodAll_mk0)
    (fun sp hsp => trodAll_cons_mk (WideElems.Trod_stays laidOut (by kernel_rfl) (of_decide_eq_true (by kernel_rfl)) h0 (fun x hx => hb.same (hlt x (by simp [hx]))) (fun x hx => hsp x (by simp [hx])))
      trodAll_mk0) (fun _ _ => rfl) (by simp)
    hb (ok_one (by kernel_rfl) rfl (okWide_bool_mk Tryz.underlying4 _))⟩

theorem laid_met (os : Os) : laidMet Tryz.prog Rows.mendBestsRow.laid ((laidWorld os).forCall (fun _ _ => 0) ⟨#[], #[.agg #[.slice none 0 0, .slice none 0 0]], []⟩).memory :=
  laidMet_of_run' 8 (by kernel_rfl) (by kernel_rfl)
theorem reads (os : Os) {H : Type} (enc : TypeId × Value → H) : ∃ places, DataW.whole enc Tryz.prog ((laidWorld os).forCall (fun _ _ => 0) ⟨#[], #[.agg #[.slice none 0 0, .slice none 0 0]], []⟩).memory Tryz.f4.params.toList Rows.mendBestsSpec.vars false #[Value.agg #[.slice none 0 0, .slice none 0 0]].toList 8 = some ([.agg [.nil, .nil]], [], places) :=
  ⟨[], by kernel_rfl⟩

set_option maxRecDepth 100000 in
theorem lifted (os : Os) (started : os.Started) (H : Type) (enc : TypeId × Value → H) (F : Stop.Interp) :
    ReturnsInHanded {} Tryz.checked os 4 .any ((OpenSpec.ofChange Rows.mendBestsSpec).preRow enc Tryz.prog Tryz.f4 Rows.mendBestsRow.domain false Rows.mendBestsRow.laid) (((OpenSpec.ofChange Rows.mendBestsSpec).at F).post enc Tryz.prog Tryz.f4 false true false false) := by
  obtain ⟨places, hx⟩ := reads os enc
  refine returnsInHanded_of_row (C := Tryz.checked) (s := OpenSpec.ofChange Rows.mendBestsSpec) own started (by kernel_rfl) Tryz.func4
    (witness_row_at (enc := enc) (C := Tryz.checked) false (laidWorld os) #[.agg #[.slice none 0 0, .slice none 0 0]] rfl (by kernel_rfl) (by kernel_rfl) (by kernel_rfl)
      (OpenSpec.preRow_of_cond 8 hx (by kernel_rfl) (fun k hk => by cases hk) (by kernel_rfl) (laid_met os))) ?_
  intro W base args ds gs before hval hW _ _ _ hL _ _
  exact contract H enc W base args ds gs before hval hW hL

theorem said : Rows.MendBestsSaid :=
  OpenClaim.holds_of_cond 4 Tryz.f4 rfl rfl rfl rfl rfl rfl rfl ⟨rfl, rfl, rfl, rfl, rfl⟩ rfl rfl rfl rfl rfl (by kernel_rfl) Tryz.func4 (by kernel_rfl)
    (of_decide_eq_true (by kernel_rfl)) (by unfold Func.isWrapper; first | (rw [if_pos (by decide +kernel)]; kernel_rfl) | (rw [if_neg (by decide +kernel)]; exact ⟨rfl, rfl⟩))
    (fun os started H enc _ F => by rw [OpenClaim.pre_eq_preRow]; exact lifted os started H enc F)

theorem plain (f : FuncId) (fn : Func) (hf : Tryz.pinned.checked.prog.funcNamed "pommel/pommellaw06.MendBests" = some f) (hfn : Tryz.pinned.checked.prog.funcs[f]? = some fn) :
    false = Tryz.pinned.checked.prog.looks [] ∧ ∀ (j : Nat) t, fn.params[j]? = some t → Tryz.pinned.checked.prog.wantsStandIn t = false := by
  obtain rfl : f = 4 := Option.some.inj ((show Tryz.prog.funcNamed "pommel/pommellaw06.MendBests" = some 4 by kernel_rfl).symm.trans hf) |>.symm
  obtain rfl : fn = Tryz.f4 := (Option.some.inj (Tryz.func4.symm.trans hfn)).symm
  refine ⟨by kernel_rfl, fun j t ht => ?_⟩
  rw [Tryz.params4] at ht
  have ht : t = 25 := by
    have := Array.mem_of_getElem? ht
    simpa using this
  subst ht
  exact (show Tryz.prog.wantsStandIn 25 = false by kernel_rfl)

theorem card : Rows.MendBestsCardSaid :=
  Claim7.holds_tied_plain_at .later [] _ _ _ _ said (fun _ h => by cases h) (by kernel_rfl) (fun _ h => by cases h) mendBests_row_tie rfl ⟨rfl, rfl⟩ (by kernel_rfl) rfl plain (by kernel_rfl)
end Go.Proofs.YthiodndhokooiaaGreatDoor.PmMendBests

