/- Proved: for any two lists of byte pairs and any byte pair the law MendPairs returns true, and its arguments read afterwards as before. Conditions: the three listed tables of the library hold what the program's text lays into them (the card ties that); nothing else. -/
import Derived.Test.YthiodndhokooiaaGreatDoorPmmCB
import Derived.ChangeMaps5
import Derived.OpenShut
import Derived.Test.YthiodndhokooiaaGreatDoorPmmP2
set_option linter.unusedSimpArgs false
namespace Go.Proofs.YthiodndhokooiaaGreatDoor.PmMendPairs
open Go.ChangeShapes Go.WideShapes Go.ChangeAt Go.RowKit
open Go.Proofs Go.Proofs.YthiodndhokooiaaGreatDoor Go.Proofs.YthiodndhokooiaaGreatDoor.PmC
open Go.ChangeMaps (open_string)
open Go.Proofs.YthiodndhokooiaaGreatDoor.Ev (tabs heapA phiA phiA_arg heapA_arg VR VRs)

theorem laidOut : laidOutB Tryz.prog = true := by kernel_rfl
theorem ce51 : Tryz.prog.cellsOf 51 = 2 := by kernel_rfl
theorem ce5 : Tryz.prog.cellsOf 5 = 1 := by kernel_rfl

theorem okWide_arr {P : Program} {w : World} {r : Reach} {base : Nat} {t e : TypeId} {n : Nat} {v : Value} (ht : P.underlying t = some (.array n e)) (h : Value.okWide P w r base t v) : ∃ cs, v = .agg cs ∧ cs.size = P.cellsOf t := by
  simp only [Value.okWide, ht] at h
  obtain ⟨cs, h1, h2, _⟩ := h
  exact ⟨cs, h1, h2⟩
theorem both {cs : Array Value} {n : Nat} (h : cs.size = n) (h2 : n = 2) : ∃ c0 c1, cs = #[c0, c1] := by
  subst h2
  exact ⟨cs[0], cs[1], by apply Array.ext (by simp [h]); intro i h3 h4; match i, h4 with
    | 0, _ => rfl
    | 1, _ => rfl⟩

set_option maxRecDepth 100000 in
theorem contract (H : Type) (enc : TypeId × Value → H) (W : World) (base : Nat) (args : Array Value) (ds gs : List (DataW H)) (before : List MemPlace)
    (hval : ∀ (j : Nat) t v, Tryz.f7.params[j]? = some t → args[j]? = some v → Value.okWide Tryz.prog W .any base t v)
    (hW : DataW.Whole enc Tryz.prog Tryz.f7.params.toList Rows.mendPairsSpec.vars false W args.toList ds gs before) (hL : laidMetH Tryz.prog Rows.mendPairsRow.laid W) :
    Calls Tryz.prog 7 args W fun e W' => ∃ v, e = .returned v ∧ Rows.mendPairsSpec.post enc Tryz.prog Tryz.f7 false true false false W args v W' := by
  have hW' := hW
  obtain ⟨p, q, hA0, hV, rfl, hfz, hnd⟩ := hW
  have hA : DataW.TrodAll enc Tryz.prog W 0 (fun _ => true) true Tryz.f7.params.toList args.toList ds p := hA0
  rw [Tryz.params7] at hA hval
  obtain ⟨v0, vs0, d0, ds0, p0, q0, hargs, rfl, rfl, h0, r0⟩ := trodAll_cons hA
  obtain ⟨v1, vs1, d1, ds1, p1, q1, hargs1, rfl, rfl, h1, r1⟩ := trodAll_cons r0
  obtain ⟨v2, vs2, d2, ds2, p2, q2, hargs2, rfl, rfl, h2, r2⟩ := trodAll_cons r1
  obtain ⟨rfl, rfl, rfl⟩ := trodAll_nil r2
  obtain rfl : args = #[v0, v1, v2] := by cases args; simp_all
  obtain ⟨rfl, rfl⟩ := trodVars_none hV
  obtain ⟨a0, l0, c0, rfl⟩ := okWide_slice Tryz.underlying46 (hval 0 46 v0 rfl rfl)
  obtain ⟨a1, l1, c1, rfl⟩ := okWide_slice Tryz.underlying46 (hval 1 46 v1 rfl rfl)
  clear hA0
  have hT := tables hL
  obtain ⟨fuel0, hf0⟩ := id h0
  simp only [Value.cells] at hf0
  obtain ⟨w1, B1, xs1, V1, hw1, hb1, hL1, hE1, hin1, hs1, hv1⟩ := arg_twos (tab_there hT) Tryz.underlying46 Tryz.underlying51 ce51 ce5 Tryz.underlying5 hf0
  obtain rfl : w1 = .slice a0 l0 c0 := by simpa using hw1.symm
  obtain ⟨fuel1, hf1⟩ := id h1
  simp only [Value.cells] at hf1
  obtain ⟨w2, B2, xs2, V2, hw2, hb2, hL2, hE2, hin2, hs2, hv2⟩ := arg_twos (tab_there hT) Tryz.underlying46 Tryz.underlying51 ce51 ce5 Tryz.underlying5 hf1
  obtain rfl : w2 = .slice a1 l1 c1 := by simpa using hw2.symm
  have slot2 : ∀ {m : Nat} {c0 c1 : Value}, m = 1 → ((Value.agg #[c0, c1]).cells.toList.drop (0 * m)).take m = [c0] ∧ ((Value.agg #[c0, c1]).cells.toList.drop (1 * m)).take m = [c1] := by rintro _ c0 c1 rfl; exact ⟨rfl, rfl⟩
  obtain ⟨cs2, rfl, hcs2⟩ := okWide_arr Tryz.underlying51 (hval 2 51 v2 rfl rfl)
  obtain ⟨q0, q1, rfl⟩ := both hcs2 ce51
  obtain ⟨fuel2, hf2⟩ := id h2
  obtain ⟨xs5, m2, _, hxs5, _, hxl5, hfs2⟩ := DataW.trod_array Tryz.underlying51 hf2
  match xs5, hxl5 with
  | [t0, t1], _ =>
  have b0 := hfs2 0 (by decide)
  have b1 := hfs2 1 (by decide)
  rw [(slot2 ce5).1] at b0
  rw [(slot2 ce5).2] at b1
  obtain ⟨z0, hz0, hzw0⟩ := DataW.trod_int Tryz.underlying5 b0
  obtain ⟨z1, hz1, hzw1⟩ := DataW.trod_int Tryz.underlying5 b1
  obtain rfl : q0 = .int .u8 z0 := by simpa using hz0
  obtain rfl : q1 = .int .u8 z1 := by simpa using hz1
  have hzr0 : 0 ≤ z0 ∧ z0 ≤ 255 := by first | exact wf_u8 hzw0 | exact wf_u8 hzw0.1 | exact wf_u8 hzw0.2
  have hzr1 : 0 ≤ z1 ∧ z1 ≤ 255 := by first | exact wf_u8 hzw1 | exact wf_u8 hzw1.1 | exact wf_u8 hzw1.2
  have harr : VR (phiA 4 tabs [B1, B2]) (.agg #[.int .u8 z0, .int .u8 z1]) (.agg #[.int .u8 z0, .int .u8 z1]) := .agg rfl fun i h3 h4 => match i, h3, h4 with
    | 0, _, _ => .int _ _
    | 1, _, _ => .int _ _
  obtain ⟨x0, rfl⟩ := Int.eq_ofNat_of_zero_le hzr0.1
  obtain ⟨x1, rfl⟩ := Int.eq_ofNat_of_zero_le hzr1.1
  have hlt2 : ∀ x ∈ p2, x.block < W.heap.size := fun x hx => hW'.lt x (by simp [hx])
  have hlt : ∀ x ∈ p0 ++ p1, x.block < W.heap.size := fun x hx => hW'.lt x (by simp at hx ⊢; rcases hx with hx | hx <;> simp [hx])
  have hphi1 : phiA 4 tabs [B1, B2] 4 = some (B1.blk, B1.off, B1.es, B1.top) := phiA_arg (N := 4) (tabs := tabs) (args := [B1, B2]) (i := 0) rfl
  have hphi2 : phiA 4 tabs [B1, B2] 5 = some (B2.blk, B2.off, B2.es, B2.top) := phiA_arg (N := 4) (tabs := tabs) (args := [B1, B2]) (i := 1) rfl
  have sl1 := hs1 (heapA 4 tabs [B1, B2]).blks 4 (by rw [heapA_arg (by decide) fun x hx => (tabs_small x hx).1]; show some (Ev.Blk.mk (Ev.Tr.ofList B1.L) B1.L.length B1.es) = _; rw [hE1])
  have sl2 := hs2 (heapA 4 tabs [B1, B2]).blks 5 (by rw [heapA_arg (by decide) fun x hx => (tabs_small x hx).1]; show some (Ev.Blk.mk (Ev.Tr.ofList B2.L) B2.L.length B2.es) = _; rw [hE2])
  obtain ⟨A1, k1, e1⟩ := sl1.shape
  rw [e1] at sl1
  have r1' := hv1 (phiA 4 tabs [B1, B2]) 4 hphi1
  rw [e1] at r1'
  obtain ⟨A2, k2, e2⟩ := sl2.shape
  rw [e2] at sl2
  have r2' := hv2 (phiA 4 tabs [B1, B2]) 5 hphi2
  rw [e2] at r2'
  have hrun := spec_run (Ev.law_MendPairs (G := 4 + [B1, B2].length) (N := 6) (h := heapA 4 tabs [B1, B2]) (Nat.le_refl _) (Nat.le_add_right 4 2) (heapA_tabs [B1, B2]) rfl rfl hb1 hb2 (a := x0) (b := x1) (by omega) (by omega) (sl1.wide (Nat.zero_le _) (by decide)) (sl2.wide (Nat.zero_le _) (by decide)) (Nat.le_refl _))
  refine (calls_args (f := 7) (bs := [B1, B2]) (.cons r1' (.cons r2' (.cons harr .nil))) (argsIn_mk fun x hx => by
    simp only [List.mem_cons, List.not_mem_nil, or_false] at hx
    rcases hx with rfl | rfl
    · exact hin1 _
    · exact hin2 _) hrun hT).mono fun e W' ⟨he, hb⟩ => ?_
  subst he
  exact ⟨_, rfl, post_below (pa := p0 ++ (p1 ++ (p2 ++ []))) (pv := []) hW' (fun _ _ _ => trodAll_cons_mk (shut_bool Tryz.underlying4 _) trodAll_mk0)
    (fun sp hsp => trodAll_cons_mk (WideElems.Trod_stays laidOut (by kernel_rfl) (of_decide_eq_true (by kernel_rfl)) h0 (fun x hx => hb.same (hlt x (by simp [hx]))) (fun x hx => hsp x (by simp [hx])))
      (trodAll_cons_mk (WideElems.Trod_stays laidOut (by kernel_rfl) (of_decide_eq_true (by kernel_rfl)) h1 (fun x hx => hb.same (hlt x (by simp [hx]))) (fun x hx => hsp x (by simp [hx])))
        (trodAll_cons_mk (WideElems.Trod_stays laidOut (by kernel_rfl) (of_decide_eq_true (by kernel_rfl)) h2 (fun x hx => hb.same (hlt2 x hx)) (fun x hx => hsp x (by simp [hx]))) trodAll_mk0))) (fun _ _ => rfl) (by simp)
    hb (ok_one (by kernel_rfl) rfl (okWide_bool_mk Tryz.underlying4 _))⟩

theorem laid_met (os : Os) : laidMet Tryz.prog Rows.mendPairsRow.laid ((laidWorld os).forCall (fun _ _ => 0) ⟨#[], #[.slice none 0 0, .slice none 0 0, .agg #[.int .u8 0, .int .u8 0]], []⟩).memory :=
  laidMet_of_run' 8 (by kernel_rfl) (by kernel_rfl)
theorem reads (os : Os) {H : Type} (enc : TypeId × Value → H) : ∃ places, DataW.whole enc Tryz.prog ((laidWorld os).forCall (fun _ _ => 0) ⟨#[], #[.slice none 0 0, .slice none 0 0, .agg #[.int .u8 0, .int .u8 0]], []⟩).memory Tryz.f7.params.toList Rows.mendPairsSpec.vars false #[Value.slice none 0 0, .slice none 0 0, .agg #[.int .u8 0, .int .u8 0]].toList 8 = some ([.nil, .nil, .agg [.lit (.int .u8 0), .lit (.int .u8 0)]], [], places) :=
  ⟨[], by kernel_rfl⟩

set_option maxRecDepth 100000 in
theorem lifted (os : Os) (started : os.Started) (H : Type) (enc : TypeId × Value → H) (F : Stop.Interp) :
    ReturnsInHanded {} Tryz.checked os 7 .any ((OpenSpec.ofChange Rows.mendPairsSpec).preRow enc Tryz.prog Tryz.f7 Rows.mendPairsRow.domain false Rows.mendPairsRow.laid) (((OpenSpec.ofChange Rows.mendPairsSpec).at F).post enc Tryz.prog Tryz.f7 false true false false) := by
  obtain ⟨places, hx⟩ := reads os enc
  refine returnsInHanded_of_row (C := Tryz.checked) (s := OpenSpec.ofChange Rows.mendPairsSpec) own started (by kernel_rfl) Tryz.func7
    (witness_row_at (enc := enc) (C := Tryz.checked) false (laidWorld os) #[.slice none 0 0, .slice none 0 0, .agg #[.int .u8 0, .int .u8 0]] rfl (by kernel_rfl) (by kernel_rfl) (by kernel_rfl)
      (OpenSpec.preRow_of_cond 8 hx (by kernel_rfl) (fun k hk => by cases hk) (by kernel_rfl) (laid_met os))) ?_
  intro W base args ds gs before hval hW _ _ _ hL _ _
  exact contract H enc W base args ds gs before hval hW hL

theorem said : Rows.MendPairsSaid :=
  OpenClaim.holds_of_cond 7 Tryz.f7 rfl rfl rfl rfl rfl rfl rfl ⟨rfl, rfl, rfl, rfl, rfl⟩ rfl rfl rfl rfl rfl (by kernel_rfl) Tryz.func7 (by kernel_rfl)
    (of_decide_eq_true (by kernel_rfl)) (by unfold Func.isWrapper; first | (rw [if_pos (by decide +kernel)]; kernel_rfl) | (rw [if_neg (by decide +kernel)]; exact ⟨rfl, rfl⟩))
    (fun os started H enc _ F => by rw [OpenClaim.pre_eq_preRow]; exact lifted os started H enc F)

theorem plain (f : FuncId) (fn : Func) (hf : Tryz.pinned.checked.prog.funcNamed "pommel/pommellaw06.MendPairs" = some f) (hfn : Tryz.pinned.checked.prog.funcs[f]? = some fn) :
    false = Tryz.pinned.checked.prog.looks [] ∧ ∀ (j : Nat) t, fn.params[j]? = some t → Tryz.pinned.checked.prog.wantsStandIn t = false := by
  obtain rfl : f = 7 := Option.some.inj ((show Tryz.prog.funcNamed "pommel/pommellaw06.MendPairs" = some 7 by kernel_rfl).symm.trans hf) |>.symm
  obtain rfl : fn = Tryz.f7 := (Option.some.inj (Tryz.func7.symm.trans hfn)).symm
  refine ⟨by kernel_rfl, fun j t ht => ?_⟩
  rw [Tryz.params7] at ht
  have ht : t = 46 ∨ t = 51 := by
    have := Array.mem_of_getElem? ht
    simp at this
    omega
  rcases ht with rfl | rfl
  · exact (show Tryz.prog.wantsStandIn 46 = false by kernel_rfl)
  · exact (show Tryz.prog.wantsStandIn 51 = false by kernel_rfl)

theorem card : Rows.MendPairsCardSaid :=
  Claim7.holds_tied_plain_at .later [] _ _ _ _ said (fun _ h => by cases h) (by kernel_rfl) (fun _ h => by cases h) mendPairs_row_tie rfl ⟨rfl, rfl⟩ (by kernel_rfl) rfl plain (by kernel_rfl)
end Go.Proofs.YthiodndhokooiaaGreatDoor.PmMendPairs

