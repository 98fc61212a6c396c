/- Proved: for every input the law DebtProof returns true, and its arguments read afterwards as before. Conditions: the three listed tables of the library hold what the program's text lays into them (the card ties that); nothing else. -/
import Derived.Test.YtngpoamjhngcgaaGreatDoorPmeCB
import Derived.Test.YtngpoamjhngcgaaGreatDoorPmeDb
set_option linter.unusedSimpArgs false
set_option linter.unusedVariables false
namespace Go.Proofs.YtngpoamjhngcgaaGreatDoor.PmDebtProof
open Go.ChangeShapes Go.WideShapes Go.ChangeAt Go.RowKit
open Go.Proofs Go.Proofs.YtngpoamjhngcgaaGreatDoor Go.Proofs.YtngpoamjhngcgaaGreatDoor.PmC
open Go.Proofs.YtngpoamjhngcgaaGreatDoor.Ev (tabs heapA phiA phiA_arg heapA_arg VR VRs)

theorem laidOut : laidOutB Tryz.prog = true := by kernel_rfl
theorem ce94 : Tryz.prog.cellsOf 94 = 1 := by kernel_rfl
theorem ce5 : Tryz.prog.cellsOf 5 = 1 := by kernel_rfl

set_option maxRecDepth 100000 in
theorem contract (H : Type) (enc : TypeId × Value → H) (W : World) (base : Nat) (args : Array Value) (ds gs : List (DataW H)) (before : List MemPlace)
    (hval : ∀ (j : Nat) t v, Tryz.f6.params[j]? = some t → args[j]? = some v → Value.okWide Tryz.prog W .any base t v)
    (hW : DataW.Whole enc Tryz.prog Tryz.f6.params.toList Rows.debtProofSpec.vars false W args.toList ds gs before) (hL : laidMetH Tryz.prog Rows.debtProofRow.laid W) :
    Calls Tryz.prog 6 args W fun e W' => ∃ v, e = .returned v ∧ Rows.debtProofSpec.post enc Tryz.prog Tryz.f6 false true false false W args v W' := by
  have hW' := hW
  obtain ⟨p, q, hA0, hV, rfl, hfz, hnd⟩ := hW
  have hA : DataW.TrodAll enc Tryz.prog W 0 (fun _ => true) true Tryz.f6.params.toList args.toList ds p := hA0
  rw [Tryz.params6] at hA hval
  obtain ⟨v0, vs0, d0, ds0, p0, q0, hargs, rfl, rfl, h0, r0⟩ := trodAll_cons hA
  obtain ⟨v1, vs1, d1, ds1, p1, q1, hargs1, rfl, rfl, h1, r1⟩ := trodAll_cons r0
  obtain ⟨v2, vs2, d2, ds2, p2, q2, hargs2, rfl, rfl, h2, r2⟩ := trodAll_cons r1
  obtain ⟨rfl, rfl, rfl⟩ := trodAll_nil r2
  obtain rfl : args = #[v0, v1, v2] := by cases args; simp_all
  obtain ⟨rfl, rfl⟩ := trodVars_none hV
  obtain ⟨a, rfl, rfl, rfl, wa⟩ := open_int Tryz.underlying5 (hval 0 5 v0 rfl rfl) h0
  have har : 0 ≤ a ∧ a ≤ 255 := by first | exact wf_u8 wa | exact wf_u8 wa.1 | exact wf_u8 wa.2
  obtain ⟨an, rfl⟩ := Int.eq_ofNat_of_zero_le har.1
  clear hA0
  have hT := tables hL
  obtain ⟨B, zs, V, hwf, _, hBL, hBe, hBin, hBs, hBv⟩ := arg_ints (tab_there hT) Tryz.underlying39 Tryz.underlying94 ce94 (hval 1 39 v1 rfl rfl) h1
  obtain ⟨l, hll, hl6, hlm⟩ := nats_of (k := .u16) (m := 65535) (fun z hz => wf_u16 hz) zs hwf
  obtain ⟨C, zs2, V2, hwf2, hlen2, hCL, hCe, hCin, hCs, hCv⟩ := arg_ints (tab_there hT) Tryz.underlying44 Tryz.underlying5 ce5 (hval 2 44 v2 rfl rfl) h2
  obtain ⟨l2, hll2, hl62, hlm2⟩ := nats_of (k := .u8) (m := 255) (fun z hz => wf_u8 hz) zs2 hwf2
  have hlt : ∀ x ∈ p1, x.block < W.heap.size := fun x hx => hW'.lt x (by simp [hx])
  have hlt2 : ∀ x ∈ p2, x.block < W.heap.size := fun x hx => hW'.lt x (by simp [hx])
  have hphi : phiA 4 tabs [B, C] 4 = some (B.blk, B.off, B.es, B.top) := phiA_arg (N := 4) (tabs := tabs) (args := [B, C]) (i := 0) rfl
  have hphi2 : phiA 4 tabs [B, C] 5 = some (C.blk, C.off, C.es, C.top) := phiA_arg (N := 4) (tabs := tabs) (args := [B, C]) (i := 1) rfl
  have hsl := hBs (heapA 4 tabs [B, C]).blks 4 (by rw [heapA_arg (Nat.le_refl 4) fun x hx => (tabs_small x hx).1]; show some (Ev.Blk.mk (Ev.Tr.ofList B.L) B.L.length B.es) = _; rw [hBe])
  have hsl2 := hCs (heapA 4 tabs [B, C]).blks 5 (by rw [heapA_arg (Nat.le_succ 4) fun x hx => (tabs_small x hx).1]; show some (Ev.Blk.mk (Ev.Tr.ofList C.L) C.L.length C.es) = _; rw [hCe])
  rw [hlm, ← hll] at hsl
  rw [hlm2, ← hll2] at hsl2
  obtain ⟨A, c, hV3⟩ := hsl.shape
  rw [hV3] at hsl
  obtain ⟨A', c', hV4⟩ := hsl2.shape
  rw [hV4] at hsl2
  have hvr := hBv (phiA 4 tabs [B, C]) 4 hphi
  rw [hV3] at hvr
  have hvr2 := hCv (phiA 4 tabs [B, C]) 5 hphi2
  rw [hV4] at hvr2
  have hmx : maxLen < 9223372036854775808 := by decide
  have hrun := spec_run (Ev.law_DebtProof (G := 4 + [B, C].length) (N8 := an) (ys := l) (zs := l2) (h0 := heapA 4 tabs [B, C]) (Nat.le_add_right 4 2) (Nat.le_refl _) (heapA_tabs [B, C]) (by omega) hsl (fun z hz => by have := hl6 z hz; omega) (by show 5 ≤ 4 + 2; omega) hsl2 (fun z hz => by have := hl62 z hz; omega) (Nat.le_refl _) (by omega))
  refine (calls_args (f := 6) (bs := [B, C]) (.cons (.int _ _) (.cons hvr (.cons hvr2 .nil))) (argsIn_mk fun x hx => by
    rcases List.mem_cons.1 hx with rfl | hx
    · exact hBin _
    · rw [List.mem_singleton.1 hx]; exact hCin _) hrun hT).mono fun e W' ⟨he, hb⟩ => ?_
  subst he
  exact ⟨_, rfl, post_below (pa := [] ++ (p1 ++ (p2 ++ []))) (pv := []) hW' (fun _ _ _ => trodAll_cons_mk (shut_bool Tryz.underlying4 _) trodAll_mk0)
    (fun sp hsp => trodAll_cons_mk (shut_int Tryz.underlying5 wa) (trodAll_cons_mk (WideElems.Trod_stays laidOut (by kernel_rfl) (of_decide_eq_true (by kernel_rfl)) h1 (fun x hx => hb.same (hlt x hx)) (fun x hx => hsp x (by simp [hx]))) (trodAll_cons_mk (WideElems.Trod_stays laidOut (by kernel_rfl) (of_decide_eq_true (by kernel_rfl)) h2 (fun x hx => hb.same (hlt2 x hx)) (fun x hx => hsp x (by simp [hx]))) trodAll_mk0))) (fun _ _ => rfl) (by simp)
    hb (ok_one (by kernel_rfl) rfl (okWide_bool_mk Tryz.underlying4 _))⟩

theorem laid_met (os : Os) : laidMet Tryz.prog Rows.debtProofRow.laid ((laidWorld os).forCall (fun _ _ => 0) ⟨#[], #[.int .u8 0, .slice none 0 0, .slice none 0 0], []⟩).memory :=
  laidMet_of_run' 8 (by kernel_rfl) (by kernel_rfl)
theorem reads (os : Os) {H : Type} (enc : TypeId × Value → H) : ∃ places, DataW.whole enc Tryz.prog ((laidWorld os).forCall (fun _ _ => 0) ⟨#[], #[.int .u8 0, .slice none 0 0, .slice none 0 0], []⟩).memory Tryz.f6.params.toList Rows.debtProofSpec.vars false #[Value.int .u8 0, Value.slice none 0 0, Value.slice none 0 0].toList 8 = some ([.lit (.int .u8 0), .nil, .nil], [], places) :=
  ⟨[], by kernel_rfl⟩

set_option maxRecDepth 100000 in
theorem lifted (os : Os) (started : os.Started) (H : Type) (enc : TypeId × Value → H) (F : Stop.Interp) :
    ReturnsInHanded {} Tryz.checked os 6 .any ((OpenSpec.ofChange Rows.debtProofSpec).preRow enc Tryz.prog Tryz.f6 Rows.debtProofRow.domain false Rows.debtProofRow.laid) (((OpenSpec.ofChange Rows.debtProofSpec).at F).post enc Tryz.prog Tryz.f6 false true false false) := by
  obtain ⟨places, hx⟩ := reads os enc
  refine returnsInHanded_of_row (C := Tryz.checked) (s := OpenSpec.ofChange Rows.debtProofSpec) own started (by kernel_rfl) Tryz.func6
    (witness_row_at (enc := enc) (C := Tryz.checked) false (laidWorld os) #[.int .u8 0, .slice none 0 0, .slice none 0 0] rfl (by kernel_rfl) (by kernel_rfl) (by kernel_rfl)
      (OpenSpec.preRow_of_cond 8 hx (by kernel_rfl) (fun k hk => by cases hk) (by kernel_rfl) (laid_met os))) ?_
  intro W base args ds gs before hval hW _ _ _ hL _ _
  exact contract H enc W base args ds gs before hval hW hL

theorem said : Rows.DebtProofSaid :=
  OpenClaim.holds_of_cond 6 Tryz.f6 rfl rfl rfl rfl rfl rfl rfl ⟨rfl, rfl, rfl, rfl, rfl⟩ rfl rfl rfl rfl rfl (by kernel_rfl) Tryz.func6 (by kernel_rfl)
    (of_decide_eq_true (by kernel_rfl)) (by unfold Func.isWrapper; first | (rw [if_pos (by decide +kernel)]; kernel_rfl) | (rw [if_neg (by decide +kernel)]; exact ⟨rfl, rfl⟩))
    (fun os started H enc _ F => by rw [OpenClaim.pre_eq_preRow]; exact lifted os started H enc F)

theorem plain (f : FuncId) (fn : Func) (hf : Tryz.pinned.checked.prog.funcNamed "pommel/pommellaw01.DebtProof" = some f) (hfn : Tryz.pinned.checked.prog.funcs[f]? = some fn) :
    false = Tryz.pinned.checked.prog.looks [] ∧ ∀ (j : Nat) t, fn.params[j]? = some t → Tryz.pinned.checked.prog.wantsStandIn t = false := by
  obtain rfl : f = 6 := Option.some.inj ((show Tryz.prog.funcNamed "pommel/pommellaw01.DebtProof" = some 6 by kernel_rfl).symm.trans hf) |>.symm
  obtain rfl : fn = Tryz.f6 := (Option.some.inj (Tryz.func6.symm.trans hfn)).symm
  refine ⟨by kernel_rfl, fun j t ht => ?_⟩
  rw [Tryz.params6] at ht
  have ht : t = 5 ∨ t = 39 ∨ t = 44 := by
    have := Array.mem_of_getElem? ht
    simpa using this
  rcases ht with rfl | rfl | rfl
  · exact (show Tryz.prog.wantsStandIn 5 = false by kernel_rfl)
  · exact (show Tryz.prog.wantsStandIn 39 = false by kernel_rfl)
  · exact (show Tryz.prog.wantsStandIn 44 = false by kernel_rfl)

theorem card : Rows.DebtProofCardSaid :=
  Claim7.holds_tied_plain_at .later [] _ _ _ _ said (fun _ h => by cases h) (by kernel_rfl) (fun _ h => by cases h) debtProof_row_tie rfl ⟨rfl, rfl⟩ (by kernel_rfl) rfl plain (by kernel_rfl)
end Go.Proofs.YtngpoamjhngcgaaGreatDoor.PmDebtProof

