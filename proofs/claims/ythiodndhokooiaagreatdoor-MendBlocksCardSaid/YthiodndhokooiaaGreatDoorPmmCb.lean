/- Proved: for any three lists of byte pairs the law MendBlocks returns true, and its arguments read afterwards as before. Conditions: the three listed tables of the library hold what the program's text lays into them (the card ties that); nothing else. -/
import Derived.Test.YthiodndhokooiaaGreatDoorPmmCB
import Derived.ChangeMaps5
import Derived.Test.YthiodndhokooiaaGreatDoorPmmK2
set_option linter.unusedSimpArgs false
namespace Go.Proofs.YthiodndhokooiaaGreatDoor.PmMendBlocks
open Go.ChangeShapes Go.WideShapes Go.ChangeAt Go.RowKit
open Go.Proofs Go.Proofs.YthiodndhokooiaaGreatDoor Go.Proofs.YthiodndhokooiaaGreatDoor.PmC
open Go.ChangeMaps (open_string)
open Go.Proofs.YthiodndhokooiaaGreatDoor.Ev (tabs heapA phiA phiA_arg heapA_arg VR VRs)

theorem laidOut : laidOutB Tryz.prog = true := by kernel_rfl
theorem ce51 : Tryz.prog.cellsOf 51 = 2 := by kernel_rfl
theorem ce5 : Tryz.prog.cellsOf 5 = 1 := by kernel_rfl

set_option maxRecDepth 100000 in
theorem contract (H : Type) (enc : TypeId × Value → H) (W : World) (base : Nat) (args : Array Value) (ds gs : List (DataW H)) (before : List MemPlace)
    (hval : ∀ (j : Nat) t v, Tryz.f9.params[j]? = some t → args[j]? = some v → Value.okWide Tryz.prog W .any base t v)
    (hW : DataW.Whole enc Tryz.prog Tryz.f9.params.toList Rows.mendBlocksSpec.vars false W args.toList ds gs before) (hL : laidMetH Tryz.prog Rows.mendBlocksRow.laid W) :
    Calls Tryz.prog 9 args W fun e W' => ∃ v, e = .returned v ∧ Rows.mendBlocksSpec.post enc Tryz.prog Tryz.f9 false true false false W args v W' := by
  have hW' := hW
  obtain ⟨p, q, hA0, hV, rfl, hfz, hnd⟩ := hW
  have hA : DataW.TrodAll enc Tryz.prog W 0 (fun _ => true) true Tryz.f9.params.toList args.toList ds p := hA0
  rw [Tryz.params9] at hA hval
  obtain ⟨v0, vs0, d0, ds0, p0, q0, hargs, rfl, rfl, h0, r0⟩ := trodAll_cons hA
  obtain ⟨v1, vs1, d1, ds1, p1, q1, hargs1, rfl, rfl, h1, r1⟩ := trodAll_cons r0
  obtain ⟨v2, vs2, d2, ds2, p2, q2, hargs2, rfl, rfl, h2, r2⟩ := trodAll_cons r1
  obtain ⟨rfl, rfl, rfl⟩ := trodAll_nil r2
  obtain rfl : args = #[v0, v1, v2] := by cases args; simp_all
  obtain ⟨rfl, rfl⟩ := trodVars_none hV
  obtain ⟨a0, l0, c0, rfl⟩ := okWide_slice Tryz.underlying46 (hval 0 46 v0 rfl rfl)
  obtain ⟨a1, l1, c1, rfl⟩ := okWide_slice Tryz.underlying46 (hval 1 46 v1 rfl rfl)
  obtain ⟨a2, l2, c2, rfl⟩ := okWide_slice Tryz.underlying46 (hval 2 46 v2 rfl rfl)
  clear hA0
  have hT := tables hL
  obtain ⟨fuel0, hf0⟩ := id h0
  simp only [Value.cells] at hf0
  obtain ⟨w1, B1, xs1, V1, hw1, hb1, hL1, hE1, hin1, hs1, hv1⟩ := arg_twos (tab_there hT) Tryz.underlying46 Tryz.underlying51 ce51 ce5 Tryz.underlying5 hf0
  obtain rfl : w1 = .slice a0 l0 c0 := by simpa using hw1.symm
  obtain ⟨fuel1, hf1⟩ := id h1
  simp only [Value.cells] at hf1
  obtain ⟨w2, B2, xs2, V2, hw2, hb2, hL2, hE2, hin2, hs2, hv2⟩ := arg_twos (tab_there hT) Tryz.underlying46 Tryz.underlying51 ce51 ce5 Tryz.underlying5 hf1
  obtain rfl : w2 = .slice a1 l1 c1 := by simpa using hw2.symm
  obtain ⟨fuel2, hf2⟩ := id h2
  simp only [Value.cells] at hf2
  obtain ⟨w3, B3, xs3, V3, hw3, hb3, hL3, hE3, hin3, hs3, hv3⟩ := arg_twos (tab_there hT) Tryz.underlying46 Tryz.underlying51 ce51 ce5 Tryz.underlying5 hf2
  obtain rfl : w3 = .slice a2 l2 c2 := by simpa using hw3.symm
  have hlt : ∀ x ∈ p0 ++ p1 ++ p2, x.block < W.heap.size := fun x hx => hW'.lt x (by simp at hx ⊢; rcases hx with hx | hx | hx <;> simp [hx])
  have hphi1 : phiA 4 tabs [B1, B2, B3] 4 = some (B1.blk, B1.off, B1.es, B1.top) := phiA_arg (N := 4) (tabs := tabs) (args := [B1, B2, B3]) (i := 0) rfl
  have hphi2 : phiA 4 tabs [B1, B2, B3] 5 = some (B2.blk, B2.off, B2.es, B2.top) := phiA_arg (N := 4) (tabs := tabs) (args := [B1, B2, B3]) (i := 1) rfl
  have hphi3 : phiA 4 tabs [B1, B2, B3] 6 = some (B3.blk, B3.off, B3.es, B3.top) := phiA_arg (N := 4) (tabs := tabs) (args := [B1, B2, B3]) (i := 2) rfl
  have sl1 := hs1 (heapA 4 tabs [B1, B2, B3]).blks 4 (by rw [heapA_arg (by decide) fun x hx => (tabs_small x hx).1]; show some (Ev.Blk.mk (Ev.Tr.ofList B1.L) B1.L.length B1.es) = _; rw [hE1])
  have sl2 := hs2 (heapA 4 tabs [B1, B2, B3]).blks 5 (by rw [heapA_arg (by decide) fun x hx => (tabs_small x hx).1]; show some (Ev.Blk.mk (Ev.Tr.ofList B2.L) B2.L.length B2.es) = _; rw [hE2])
  have sl3 := hs3 (heapA 4 tabs [B1, B2, B3]).blks 6 (by rw [heapA_arg (by decide) fun x hx => (tabs_small x hx).1]; show some (Ev.Blk.mk (Ev.Tr.ofList B3.L) B3.L.length B3.es) = _; rw [hE3])
  obtain ⟨A1, k1, e1⟩ := sl1.shape
  rw [e1] at sl1
  have r1' := hv1 (phiA 4 tabs [B1, B2, B3]) 4 hphi1
  rw [e1] at r1'
  obtain ⟨A2, k2, e2⟩ := sl2.shape
  rw [e2] at sl2
  have r2' := hv2 (phiA 4 tabs [B1, B2, B3]) 5 hphi2
  rw [e2] at r2'
  obtain ⟨A3, k3, e3⟩ := sl3.shape
  rw [e3] at sl3
  have r3' := hv3 (phiA 4 tabs [B1, B2, B3]) 6 hphi3
  rw [e3] at r3'
  have hrun := spec_run (Ev.law_MendBlocks (G := 4 + [B1, B2, B3].length) (N := 7) (h := heapA 4 tabs [B1, B2, B3]) (Nat.le_refl _) (Nat.le_add_right 4 3) (heapA_tabs [B1, B2, B3]) rfl rfl rfl hb1 hb2 hb3 (sl1.wide (Nat.zero_le _) (by decide)) (sl2.wide (Nat.zero_le _) (by decide)) (sl3.wide (Nat.zero_le _) (by decide)) (Nat.le_refl _))
  refine (calls_args (f := 9) (bs := [B1, B2, B3]) (.cons r1' (.cons r2' (.cons r3' .nil))) (argsIn_mk fun x hx => by
    simp only [List.mem_cons, List.not_mem_nil, or_false] at hx
    rcases hx with rfl | rfl | rfl
    · exact hin1 _
    · exact hin2 _
    · exact hin3 _) hrun hT).mono fun e W' ⟨he, hb⟩ => ?_
  subst he
  exact ⟨_, rfl, post_below (pa := p0 ++ (p1 ++ (p2 ++ []))) (pv := []) hW' (fun _ _ _ => trodAll_cons_mk (shut_bool Tryz.underlying4 _) trodAll_mk0)
    (fun sp hsp => trodAll_cons_mk (WideElems.Trod_stays laidOut (by kernel_rfl) (of_decide_eq_true (by kernel_rfl)) h0 (fun x hx => hb.same (hlt x (by simp [hx]))) (fun x hx => hsp x (by simp [hx])))
      (trodAll_cons_mk (WideElems.Trod_stays laidOut (by kernel_rfl) (of_decide_eq_true (by kernel_rfl)) h1 (fun x hx => hb.same (hlt x (by simp [hx]))) (fun x hx => hsp x (by simp [hx])))
      (trodAll_cons_mk (WideElems.Trod_stays laidOut (by kernel_rfl) (of_decide_eq_true (by kernel_rfl)) h2 (fun x hx => hb.same (hlt x (by simp [hx]))) (fun x hx => hsp x (by simp [hx])))
      trodAll_mk0))) (fun _ _ => rfl) (by simp)
    hb (ok_one (by kernel_rfl) rfl (okWide_bool_mk Tryz.underlying4 _))⟩

theorem laid_met (os : Os) : laidMet Tryz.prog Rows.mendBlocksRow.laid ((laidWorld os).forCall (fun _ _ => 0) ⟨#[], #[.slice none 0 0, .slice none 0 0, .slice none 0 0], []⟩).memory :=
  laidMet_of_run' 8 (by kernel_rfl) (by kernel_rfl)
theorem reads (os : Os) {H : Type} (enc : TypeId × Value → H) : ∃ places, DataW.whole enc Tryz.prog ((laidWorld os).forCall (fun _ _ => 0) ⟨#[], #[.slice none 0 0, .slice none 0 0, .slice none 0 0], []⟩).memory Tryz.f9.params.toList Rows.mendBlocksSpec.vars false #[Value.slice none 0 0, .slice none 0 0, .slice none 0 0].toList 8 = some ([.nil, .nil, .nil], [], places) :=
  ⟨[], by kernel_rfl⟩

set_option maxRecDepth 100000 in
theorem lifted (os : Os) (started : os.Started) (H : Type) (enc : TypeId × Value → H) (F : Stop.Interp) :
    ReturnsInHanded {} Tryz.checked os 9 .any ((OpenSpec.ofChange Rows.mendBlocksSpec).preRow enc Tryz.prog Tryz.f9 Rows.mendBlocksRow.domain false Rows.mendBlocksRow.laid) (((OpenSpec.ofChange Rows.mendBlocksSpec).at F).post enc Tryz.prog Tryz.f9 false true false false) := by
  obtain ⟨places, hx⟩ := reads os enc
  refine returnsInHanded_of_row (C := Tryz.checked) (s := OpenSpec.ofChange Rows.mendBlocksSpec) own started (by kernel_rfl) Tryz.func9
    (witness_row_at (enc := enc) (C := Tryz.checked) false (laidWorld os) #[.slice none 0 0, .slice none 0 0, .slice none 0 0] rfl (by kernel_rfl) (by kernel_rfl) (by kernel_rfl)
      (OpenSpec.preRow_of_cond 8 hx (by kernel_rfl) (fun k hk => by cases hk) (by kernel_rfl) (laid_met os))) ?_
  intro W base args ds gs before hval hW _ _ _ hL _ _
  exact contract H enc W base args ds gs before hval hW hL

theorem said : Rows.MendBlocksSaid :=
  OpenClaim.holds_of_cond 9 Tryz.f9 rfl rfl rfl rfl rfl rfl rfl ⟨rfl, rfl, rfl, rfl, rfl⟩ rfl rfl rfl rfl rfl (by kernel_rfl) Tryz.func9 (by kernel_rfl)
    (of_decide_eq_true (by kernel_rfl)) (by unfold Func.isWrapper; first | (rw [if_pos (by decide +kernel)]; kernel_rfl) | (rw [if_neg (by decide +kernel)]; exact ⟨rfl, rfl⟩))
    (fun os started H enc _ F => by rw [OpenClaim.pre_eq_preRow]; exact lifted os started H enc F)

theorem plain (f : FuncId) (fn : Func) (hf : Tryz.pinned.checked.prog.funcNamed "pommel/pommellaw06.MendBlocks" = some f) (hfn : Tryz.pinned.checked.prog.funcs[f]? = some fn) :
    false = Tryz.pinned.checked.prog.looks [] ∧ ∀ (j : Nat) t, fn.params[j]? = some t → Tryz.pinned.checked.prog.wantsStandIn t = false := by
  obtain rfl : f = 9 := Option.some.inj ((show Tryz.prog.funcNamed "pommel/pommellaw06.MendBlocks" = some 9 by kernel_rfl).symm.trans hf) |>.symm
  obtain rfl : fn = Tryz.f9 := (Option.some.inj (Tryz.func9.symm.trans hfn)).symm
  refine ⟨by kernel_rfl, fun j t ht => ?_⟩
  rw [Tryz.params9] at ht
  have ht : t = 46 := by
    have := Array.mem_of_getElem? ht
    simpa using this
  subst ht
  exact (show Tryz.prog.wantsStandIn 46 = false by kernel_rfl)

theorem card : Rows.MendBlocksCardSaid :=
  Claim7.holds_tied_plain_at .later [] _ _ _ _ said (fun _ h => by cases h) (by kernel_rfl) (fun _ h => by cases h) mendBlocks_row_tie rfl ⟨rfl, rfl⟩ (by kernel_rfl) rfl plain (by kernel_rfl)
end Go.Proofs.YthiodndhokooiaaGreatDoor.PmMendBlocks

