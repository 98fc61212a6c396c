/- Proved: for any two lists of byte pairs the law MendTurned returns true, and its arguments read afterwards as before. Conditions: the three listed tables of the library hold what the program's text lays into them (the card ties that); nothing else. -/
import Derived.Test.YthiodndhokooiaaGreatDoorPmmCB
import Derived.ChangeMaps5
import Derived.Test.YthiodndhokooiaaGreatDoorPmmT2
set_option linter.unusedSimpArgs false
namespace Go.Proofs.YthiodndhokooiaaGreatDoor.PmMendTurned
open Go.ChangeShapes Go.WideShapes Go.ChangeAt Go.RowKit
open Go.Proofs Go.Proofs.YthiodndhokooiaaGreatDoor Go.Proofs.YthiodndhokooiaaGreatDoor.PmC
open Go.ChangeMaps (open_string)
open Go.Proofs.YthiodndhokooiaaGreatDoor.Ev (tabs heapA phiA phiA_arg heapA_arg VR VRs)

theorem laidOut : laidOutB Tryz.prog = true := by kernel_rfl
theorem ce51 : Tryz.prog.cellsOf 51 = 2 := by kernel_rfl
theorem ce5 : Tryz.prog.cellsOf 5 = 1 := by kernel_rfl

set_option maxRecDepth 100000 in
theorem contract (H : Type) (enc : TypeId × Value → H) (W : World) (base : Nat) (args : Array Value) (ds gs : List (DataW H)) (before : List MemPlace)
    (hval : ∀ (j : Nat) t v, Tryz.f8.params[j]? = some t → args[j]? = some v → Value.okWide Tryz.prog W .any base t v)
    (hW : DataW.Whole enc Tryz.prog Tryz.f8.params.toList Rows.mendTurnedSpec.vars false W args.toList ds gs before) (hL : laidMetH Tryz.prog Rows.mendTurnedRow.laid W) :
    Calls Tryz.prog 8 args W fun e W' => ∃ v, e = .returned v ∧ Rows.mendTurnedSpec.post enc Tryz.prog Tryz.f8 false true false false W args v W' := by
  have hW' := hW
  obtain ⟨p, q, hA0, hV, rfl, hfz, hnd⟩ := hW
  have hA : DataW.TrodAll enc Tryz.prog W 0 (fun _ => true) true Tryz.f8.params.toList args.toList ds p := hA0
  rw [Tryz.params8] at hA hval
  obtain ⟨v0, vs0, d0, ds0, p0, q0, hargs, rfl, rfl, h0, r0⟩ := trodAll_cons hA
  obtain ⟨v1, vs1, d1, ds1, p1, q1, hargs1, rfl, rfl, h1, r1⟩ := trodAll_cons r0
  obtain ⟨rfl, rfl, rfl⟩ := trodAll_nil r1
  obtain rfl : args = #[v0, v1] := by cases args; simp_all
  obtain ⟨rfl, rfl⟩ := trodVars_none hV
  obtain ⟨a0, l0, c0, rfl⟩ := okWide_slice Tryz.underlying46 (hval 0 46 v0 rfl rfl)
  obtain ⟨a1, l1, c1, rfl⟩ := okWide_slice Tryz.underlying46 (hval 1 46 v1 rfl rfl)
  clear hA0
  have hT := tables hL
  obtain ⟨fuel0, hf0⟩ := id h0
  simp only [Value.cells] at hf0
  obtain ⟨w1, B1, xs1, V1, hw1, hb1, hL1, hE1, hin1, hs1, hv1⟩ := arg_twos (tab_there hT) Tryz.underlying46 Tryz.underlying51 ce51 ce5 Tryz.underlying5 hf0
  obtain rfl : w1 = .slice a0 l0 c0 := by simpa using hw1.symm
  obtain ⟨fuel1, hf1⟩ := id h1
  simp only [Value.cells] at hf1
  obtain ⟨w2, B2, xs2, V2, hw2, hb2, hL2, hE2, hin2, hs2, hv2⟩ := arg_twos (tab_there hT) Tryz.underlying46 Tryz.underlying51 ce51 ce5 Tryz.underlying5 hf1
  obtain rfl : w2 = .slice a1 l1 c1 := by simpa using hw2.symm
  have hlt : ∀ x ∈ p0 ++ p1, x.block < W.heap.size := fun x hx => hW'.lt x (by simp at hx ⊢; rcases hx with hx | hx <;> simp [hx])
  have hphi1 : phiA 4 tabs [B1, B2] 4 = some (B1.blk, B1.off, B1.es, B1.top) := phiA_arg (N := 4) (tabs := tabs) (args := [B1, B2]) (i := 0) rfl
  have hphi2 : phiA 4 tabs [B1, B2] 5 = some (B2.blk, B2.off, B2.es, B2.top) := phiA_arg (N := 4) (tabs := tabs) (args := [B1, B2]) (i := 1) rfl
  have sl1 := hs1 (heapA 4 tabs [B1, B2]).blks 4 (by rw [heapA_arg (by decide) fun x hx => (tabs_small x hx).1]; show some (Ev.Blk.mk (Ev.Tr.ofList B1.L) B1.L.length B1.es) = _; rw [hE1])
  have sl2 := hs2 (heapA 4 tabs [B1, B2]).blks 5 (by rw [heapA_arg (by decide) fun x hx => (tabs_small x hx).1]; show some (Ev.Blk.mk (Ev.Tr.ofList B2.L) B2.L.length B2.es) = _; rw [hE2])
  obtain ⟨A1, k1, e1⟩ := sl1.shape
  rw [e1] at sl1
  have r1' := hv1 (phiA 4 tabs [B1, B2]) 4 hphi1
  rw [e1] at r1'
  obtain ⟨A2, k2, e2⟩ := sl2.shape
  rw [e2] at sl2
  have r2' := hv2 (phiA 4 tabs [B1, B2]) 5 hphi2
  rw [e2] at r2'
  have hrun := spec_run (Ev.law_MendTurned (G := 4 + [B1, B2].length) (N := 6) (h := heapA 4 tabs [B1, B2]) (Nat.le_refl _) (Nat.le_add_right 4 2) (heapA_tabs [B1, B2]) rfl rfl hb1 hb2 (sl1.wide (Nat.zero_le _) (by decide)) (sl2.wide (Nat.zero_le _) (by decide)) (Nat.le_refl _))
  refine (calls_args (f := 8) (bs := [B1, B2]) (.cons r1' (.cons r2' .nil)) (argsIn_mk fun x hx => by
    simp only [List.mem_cons, List.not_mem_nil, or_false] at hx
    rcases hx with rfl | rfl
    · exact hin1 _
    · exact hin2 _) hrun hT).mono fun e W' ⟨he, hb⟩ => ?_
  subst he
  exact ⟨_, rfl, post_below (pa := p0 ++ (p1 ++ [])) (pv := []) hW' (fun _ _ _ => trodAll_cons_mk (shut_bool Tryz.underlying4 _) trodAll_mk0)
    (fun sp hsp => trodAll_cons_mk (WideElems.Trod_stays laidOut (by kernel_rfl) (of_decide_eq_true (by kernel_rfl)) h0 (fun x hx => hb.same (hlt x (by simp [hx]))) (fun x hx => hsp x (by simp [hx])))
      (trodAll_cons_mk (WideElems.Trod_stays laidOut (by kernel_rfl) (of_decide_eq_true (by kernel_rfl)) h1 (fun x hx => hb.same (hlt x (by simp [hx]))) (fun x hx => hsp x (by simp [hx])))
      trodAll_mk0)) (fun _ _ => rfl) (by simp)
    hb (ok_one (by kernel_rfl) rfl (okWide_bool_mk Tryz.underlying4 _))⟩

theorem laid_met (os : Os) : laidMet Tryz.prog Rows.mendTurnedRow.laid ((laidWorld os).forCall (fun _ _ => 0) ⟨#[], #[.slice none 0 0, .slice none 0 0], []⟩).memory :=
  laidMet_of_run' 8 (by kernel_rfl) (by kernel_rfl)
theorem reads (os : Os) {H : Type} (enc : TypeId × Value → H) : ∃ places, DataW.whole enc Tryz.prog ((laidWorld os).forCall (fun _ _ => 0) ⟨#[], #[.slice none 0 0, .slice none 0 0], []⟩).memory Tryz.f8.params.toList Rows.mendTurnedSpec.vars false #[Value.slice none 0 0, .slice none 0 0].toList 8 = some ([.nil, .nil], [], places) :=
  ⟨[], by kernel_rfl⟩

set_option maxRecDepth 100000 in
theorem lifted (os : Os) (started : os.Started) (H : Type) (enc : TypeId × Value → H) (F : Stop.Interp) :
    ReturnsInHanded {} Tryz.checked os 8 .any ((OpenSpec.ofChange Rows.mendTurnedSpec).preRow enc Tryz.prog Tryz.f8 Rows.mendTurnedRow.domain false Rows.mendTurnedRow.laid) (((OpenSpec.ofChange Rows.mendTurnedSpec).at F).post enc Tryz.prog Tryz.f8 false true false false) := by
  obtain ⟨places, hx⟩ := reads os enc
  refine returnsInHanded_of_row (C := Tryz.checked) (s := OpenSpec.ofChange Rows.mendTurnedSpec) own started (by kernel_rfl) Tryz.func8
    (witness_row_at (enc := enc) (C := Tryz.checked) false (laidWorld os) #[.slice none 0 0, .slice none 0 0] rfl (by kernel_rfl) (by kernel_rfl) (by kernel_rfl)
      (OpenSpec.preRow_of_cond 8 hx (by kernel_rfl) (fun k hk => by cases hk) (by kernel_rfl) (laid_met os))) ?_
  intro W base args ds gs before hval hW _ _ _ hL _ _
  exact contract H enc W base args ds gs before hval hW hL

theorem said : Rows.MendTurnedSaid :=
  OpenClaim.holds_of_cond 8 Tryz.f8 rfl rfl rfl rfl rfl rfl rfl ⟨rfl, rfl, rfl, rfl, rfl⟩ rfl rfl rfl rfl rfl (by kernel_rfl) Tryz.func8 (by kernel_rfl)
    (of_decide_eq_true (by kernel_rfl)) (by unfold Func.isWrapper; first | (rw [if_pos (by decide +kernel)]; kernel_rfl) | (rw [if_neg (by decide +kernel)]; exact ⟨rfl, rfl⟩))
    (fun os started H enc _ F => by rw [OpenClaim.pre_eq_preRow]; exact lifted os started H enc F)

theorem plain (f : FuncId) (fn : Func) (hf : Tryz.pinned.checked.prog.funcNamed "pommel/pommellaw06.MendTurned" = some f) (hfn : Tryz.pinned.checked.prog.funcs[f]? = some fn) :
    false = Tryz.pinned.checked.prog.looks [] ∧ ∀ (j : Nat) t, fn.params[j]? = some t → Tryz.pinned.checked.prog.wantsStandIn t = false := by
  obtain rfl : f = 8 := Option.some.inj ((show Tryz.prog.funcNamed "pommel/pommellaw06.MendTurned" = some 8 by kernel_rfl).symm.trans hf) |>.symm
  obtain rfl : fn = Tryz.f8 := (Option.some.inj (Tryz.func8.symm.trans hfn)).symm
  refine ⟨by kernel_rfl, fun j t ht => ?_⟩
  rw [Tryz.params8] at ht
  have ht : t = 46 := by
    have := Array.mem_of_getElem? ht
    simpa using this
  subst ht
  exact (show Tryz.prog.wantsStandIn 46 = false by kernel_rfl)

theorem card : Rows.MendTurnedCardSaid :=
  Claim7.holds_tied_plain_at .later [] _ _ _ _ said (fun _ h => by cases h) (by kernel_rfl) (fun _ h => by cases h) mendTurned_row_tie rfl ⟨rfl, rfl⟩ (by kernel_rfl) rfl plain (by kernel_rfl)
end Go.Proofs.YthiodndhokooiaaGreatDoor.PmMendTurned

