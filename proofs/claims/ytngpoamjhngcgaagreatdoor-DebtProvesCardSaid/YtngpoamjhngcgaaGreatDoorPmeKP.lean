/- Proved: for any two slices of rows and any slice of prices the law DebtProves returns true, and its arguments read afterwards as before. Conditions: the three listed tables of the library hold what the program's text lays into them (the card ties that); nothing else. -/
import Derived.Test.YtngpoamjhngcgaaGreatDoorPmeCA
import Derived.Test.YtngpoamjhngcgaaGreatDoorPmeX8
set_option linter.unusedSimpArgs false
set_option linter.unusedVariables false
namespace Go.Proofs.YtngpoamjhngcgaaGreatDoor.PmDebtProves
open Go.ChangeShapes Go.WideShapes Go.ChangeAt Go.RowKit
open Go.Proofs Go.Proofs.YtngpoamjhngcgaaGreatDoor Go.Proofs.YtngpoamjhngcgaaGreatDoor.PmC
open Go.Proofs.YtngpoamjhngcgaaGreatDoor.Ev (tabs heapA phiA phiA_arg heapA_arg VR VRs ArgB MatV SlV intsL rowsL Tr Blk)

theorem laidOut : laidOutB Tryz.prog = true := by kernel_rfl
theorem ce3 : Tryz.prog.cellsOf 3 = 1 := by kernel_rfl
theorem ce23 : Tryz.prog.cellsOf 23 = 1 := by kernel_rfl

/-- the blocks of all arguments -/
def blks (n1 n2 : Nat) (T1 T2 Bw : ArgB) (R1 R2 : Nat → ArgB) : List ArgB := (List.range (n1 + n2 + 3)).map fun q => if q = 0 then T1 else if q < 1 + n1 then R1 (q - 1) else if q = 1 + n1 then T2 else if q < 2 + n1 + n2 then R2 (q - (2 + n1)) else Bw
theorem blks_len {n1 n2 : Nat} {T1 T2 Bw : ArgB} {R1 R2 : Nat → ArgB} : (blks n1 n2 T1 T2 Bw R1 R2).length = n1 + n2 + 3 := by simp [blks]
theorem blks_get {n1 n2 q : Nat} {T1 T2 Bw : ArgB} {R1 R2 : Nat → ArgB} (h : q < n1 + n2 + 3) : (blks n1 n2 T1 T2 Bw R1 R2)[q]? = some (if q = 0 then T1 else if q < 1 + n1 then R1 (q - 1) else if q = 1 + n1 then T2 else if q < 2 + n1 + n2 then R2 (q - (2 + n1)) else Bw) := by simp [blks, h]

set_option maxRecDepth 100000 in
theorem contract (H : Type) (enc : TypeId × Value → H) (W : World) (base : Nat) (args : Array Value) (ds gs : List (DataW H)) (before : List MemPlace)
    (hval : ∀ (j : Nat) t v, Tryz.f3.params[j]? = some t → args[j]? = some v → Value.okWide Tryz.prog W .any base t v)
    (hW : DataW.Whole enc Tryz.prog Tryz.f3.params.toList Rows.debtProvesSpec.vars false W args.toList ds gs before) (hL : laidMetH Tryz.prog Rows.debtProvesRow.laid W) :
    Calls Tryz.prog 3 args W fun e W' => ∃ v, e = .returned v ∧ Rows.debtProvesSpec.post enc Tryz.prog Tryz.f3 false true false false W args v W' := by
  have hW' := hW
  obtain ⟨p, q, hA0, hV, rfl, hfz, hnd⟩ := hW
  have hA : DataW.TrodAll enc Tryz.prog W 0 (fun _ => true) true Tryz.f3.params.toList args.toList ds p := hA0
  rw [Tryz.params3] at hA hval
  obtain ⟨v0, vs0, d0, ds0, p0, q0, hargs, rfl, rfl, h0, r0⟩ := trodAll_cons hA
  obtain ⟨v1, vs1, d1, ds1, p1, q1, hargs1, rfl, rfl, h1, r1⟩ := trodAll_cons r0
  obtain ⟨v2, vs2, d2, ds2, p2, q2, hargs2, rfl, rfl, h2, r2⟩ := trodAll_cons r1
  obtain ⟨rfl, rfl, rfl⟩ := trodAll_nil r2
  obtain rfl : args = #[v0, v1, v2] := by cases args; simp_all
  obtain ⟨rfl, rfl⟩ := trodVars_none hV
  obtain ⟨a0, l0, c0, rfl⟩ := okWide_slice Tryz.underlying22 (hval 0 22 v0 rfl rfl)
  obtain ⟨a1, l1, c1, rfl⟩ := okWide_slice Tryz.underlying22 (hval 1 22 v1 rfl rfl)
  obtain ⟨a2, l2, c2, rfl⟩ := okWide_slice Tryz.underlying23 (hval 2 23 v2 rfl rfl)
  clear hA0
  have hT := tables hL
  obtain ⟨f0, g0⟩ := id h0
  obtain ⟨f1, g1⟩ := id h1
  obtain ⟨f2, g2⟩ := id h2
  obtain ⟨y0, n1, Z1, Br1, Vr1, Bt1, Vt1, e0, R1⟩ := arg_rows (tab_there hT) Tryz.underlying22 ce23 Tryz.underlying23 Tryz.underlying3 ce3 g0
  obtain ⟨y1, n2, Z2, Br2, Vr2, Bt2, Vt2, e1, R2⟩ := arg_rows (tab_there hT) Tryz.underlying22 ce23 Tryz.underlying23 Tryz.underlying3 ce3 g1
  obtain ⟨y2, Bw, zs, Vw, e2, hBL, hBe, hBin, hBs, hBv⟩ := arg_row (tab_there hT) Tryz.underlying23 Tryz.underlying3 ce3 g2
  obtain rfl : Value.slice a0 l0 c0 = y0 := by simpa [Value.cells] using e0
  obtain rfl : Value.slice a1 l1 c1 = y1 := by simpa [Value.cells] using e1
  obtain rfl : Value.slice a2 l2 c2 = y2 := by simpa [Value.cells] using e2
  have hlt0 : ∀ x ∈ p0, x.block < W.heap.size := fun x hx => hW'.lt x (by simp [hx])
  have hlt1 : ∀ x ∈ p1, x.block < W.heap.size := fun x hx => hW'.lt x (by simp [hx])
  have hlt2 : ∀ x ∈ p2, x.block < W.heap.size := fun x hx => hW'.lt x (by simp [hx])
  obtain ⟨bs, hbs⟩ : ∃ bs, blks n1 n2 (Bt1 4) (Bt2 (4 + (1 + n1))) Bw Br1 Br2 = bs := ⟨_, rfl⟩
  have hlen : bs.length = n1 + n2 + 3 := by rw [← hbs, blks_len]
  have ix0 : bs[0]? = some (Bt1 4) := by rw [← hbs, blks_get (by omega)]; rfl
  have ix1 : ∀ i, i < n1 → bs[1 + i]? = some (Br1 i) := fun i hi => by
    rw [← hbs, blks_get (by omega), if_neg (by omega), if_pos (by omega), Nat.add_sub_cancel_left]
  have ix2 : bs[1 + n1]? = some (Bt2 (4 + (1 + n1))) := by
    rw [← hbs, blks_get (by omega), if_neg (by omega), if_neg (by omega), if_pos rfl]
  have ix3 : ∀ i, i < n2 → bs[2 + n1 + i]? = some (Br2 i) := fun i hi => by
    rw [← hbs, blks_get (by omega), if_neg (by omega), if_neg (by omega), if_neg (by omega), if_pos (by omega), Nat.add_sub_cancel_left]
  have ix4 : bs[2 + n1 + n2]? = some Bw := by
    rw [← hbs, blks_get (by omega), if_neg (by omega), if_neg (by omega), if_neg (by omega), if_neg (by omega)]
  have all : ∀ a ∈ bs, a = Bt1 4 ∨ (∃ i, i < n1 ∧ a = Br1 i) ∨ a = Bt2 (4 + (1 + n1)) ∨ (∃ i, i < n2 ∧ a = Br2 i) ∨ a = Bw := fun a ha => by
    rw [← hbs] at ha
    obtain ⟨q, hq, rfl⟩ := List.mem_map.1 ha
    have hq := List.mem_range.1 hq
    by_cases q1 : q = 0
    · left; rw [if_pos q1]
    · by_cases q2 : q < 1 + n1
      · right; left; exact ⟨q - 1, by omega, by rw [if_neg q1, if_pos q2]⟩
      · by_cases q3 : q = 1 + n1
        · right; right; left; rw [if_neg q1, if_neg q2, if_pos q3]
        · by_cases q4 : q < 2 + n1 + n2
          · right; right; right; left; exact ⟨q - (2 + n1), by omega, by rw [if_neg q1, if_neg q2, if_neg q3, if_pos q4]⟩
          · right; right; right; right; rw [if_neg q1, if_neg q2, if_neg q3, if_neg q4]
  have hphi : ∀ {q a}, bs[q]? = some a → phiA 4 tabs bs (4 + q) = some (a.blk, a.off, a.es, a.top) := fun h => phiA_arg h
  have hget : ∀ {q a}, bs[q]? = some a → (heapA 4 tabs bs).blks.get (4 + q) = some (Blk.mk (Tr.ofList a.L) a.L.length a.es) := fun {q a} h => by
    rw [heapA_arg (Nat.le_add_right 4 q) fun x hx => (tabs_small x hx).1, Nat.add_sub_cancel_left, h]
    rfl
  have M1 := mat_of (b0 := 4) (N := 4 + bs.length) R1 (hget (q := 0) ix0) (fun i hi => by rw [Nat.add_assoc]; exact hget (ix1 i hi)) (by omega)
  have M2 := mat_of (b0 := 4 + (1 + n1)) (N := 4 + bs.length) R2 (hget ix2) (fun i hi => by rw [show 4 + (1 + n1) + 1 + i = 4 + (2 + n1 + i) by omega]; exact hget (ix3 i hi)) (by omega)
  have hw4 := hget ix4
  rw [hBe] at hw4
  have M3 := (hBs (heapA 4 tabs bs).blks (4 + (2 + n1 + n2)) hw4).wide (lo' := 0) (hi' := 4 + bs.length) (Nat.zero_le _) (by omega)
  rw [map_ints] at M3
  have s1 := shape_of M1.top
  have s2 := shape_of M2.top
  have s3 := shape_of M3
  rw [s1] at M1
  rw [s2] at M2
  rw [s3] at M3
  have in1 : Go.Proofs.YtngpoamjhngcgaaGreatDoor.PmC.ArgIn (phiA 4 tabs bs) (Bt1 4) W := R1.top _ 4 fun i hi => by rw [Nat.add_assoc]; exact hphi (ix1 i hi)
  have in2 : Go.Proofs.YtngpoamjhngcgaaGreatDoor.PmC.ArgIn (phiA 4 tabs bs) (Bt2 (4 + (1 + n1))) W := R2.top _ _ fun i hi => by rw [show 4 + (1 + n1) + 1 + i = 4 + (2 + n1 + i) by omega]; exact hphi (ix3 i hi)
  have r1 := R1.val _ 4 (hphi (q := 0) ix0)
  have r2 := R2.val _ _ (hphi ix2)
  have r3 := hBv _ _ (hphi ix4)
  rw [s1] at r1
  rw [s2] at r2
  rw [s3] at r3
  have hrun := spec_run (Ev.law_DebtProves (G := 4 + bs.length) (h0 := heapA 4 tabs bs) (Nat.le_add_right 4 _) (Nat.le_refl _) (heapA_tabs bs) M1 M2 M3 (Nat.le_refl _))
  refine (calls_args (f := 3) (bs := bs) (.cons r1 (.cons r2 (.cons r3 .nil))) (argsIn_mk fun x hx => by
    rcases all x hx with rfl | ⟨i, hi, rfl⟩ | rfl | ⟨i, hi, rfl⟩ | rfl
    · exact in1
    · exact (R1.row i hi).2.1 _
    · exact in2
    · exact (R2.row i hi).2.1 _
    · exact hBin _) hrun hT).mono fun e W' ⟨he, hb⟩ => ?_
  subst he
  exact ⟨_, rfl, post_below (pa := p0 ++ (p1 ++ (p2 ++ []))) (pv := []) hW' (fun _ _ _ => trodAll_cons_mk (shut_bool Tryz.underlying4 _) trodAll_mk0)
    (fun sp hsp => trodAll_cons_mk (WideElems.Trod_stays laidOut (by kernel_rfl) (of_decide_eq_true (by kernel_rfl)) h0 (fun x hx => hb.same (hlt0 x hx)) (fun x hx => hsp x (by simp [hx])))
      (trodAll_cons_mk (WideElems.Trod_stays laidOut (by kernel_rfl) (of_decide_eq_true (by kernel_rfl)) h1 (fun x hx => hb.same (hlt1 x hx)) (fun x hx => hsp x (by simp [hx])))
        (trodAll_cons_mk (WideElems.Trod_stays laidOut (by kernel_rfl) (of_decide_eq_true (by kernel_rfl)) h2 (fun x hx => hb.same (hlt2 x hx)) (fun x hx => hsp x (by simp [hx]))) trodAll_mk0))) (fun _ _ => rfl) (by simp)
    hb (ok_one (by kernel_rfl) rfl (okWide_bool_mk Tryz.underlying4 _))⟩

theorem laid_met (os : Os) : laidMet Tryz.prog Rows.debtProvesRow.laid ((laidWorld os).forCall (fun _ _ => 0) ⟨#[], #[.slice none 0 0, .slice none 0 0, .slice none 0 0], []⟩).memory :=
  laidMet_of_run' 8 (by kernel_rfl) (by kernel_rfl)
theorem reads (os : Os) {H : Type} (enc : TypeId × Value → H) : ∃ places, DataW.whole enc Tryz.prog ((laidWorld os).forCall (fun _ _ => 0) ⟨#[], #[.slice none 0 0, .slice none 0 0, .slice none 0 0], []⟩).memory Tryz.f3.params.toList Rows.debtProvesSpec.vars false #[Value.slice none 0 0, .slice none 0 0, .slice none 0 0].toList 8 = some ([.nil, .nil, .nil], [], places) :=
  ⟨[], by kernel_rfl⟩

set_option maxRecDepth 100000 in
theorem lifted (os : Os) (started : os.Started) (H : Type) (enc : TypeId × Value → H) (F : Stop.Interp) :
    ReturnsInHanded {} Tryz.checked os 3 .any ((OpenSpec.ofChange Rows.debtProvesSpec).preRow enc Tryz.prog Tryz.f3 Rows.debtProvesRow.domain false Rows.debtProvesRow.laid) (((OpenSpec.ofChange Rows.debtProvesSpec).at F).post enc Tryz.prog Tryz.f3 false true false false) := by
  obtain ⟨places, hx⟩ := reads os enc
  refine returnsInHanded_of_row (C := Tryz.checked) (s := OpenSpec.ofChange Rows.debtProvesSpec) own started (by kernel_rfl) Tryz.func3
    (witness_row_at (enc := enc) (C := Tryz.checked) false (laidWorld os) #[.slice none 0 0, .slice none 0 0, .slice none 0 0] rfl (by kernel_rfl) (by kernel_rfl) (by kernel_rfl)
      (OpenSpec.preRow_of_cond 8 hx (by kernel_rfl) (fun k hk => by cases hk) (by kernel_rfl) (laid_met os))) ?_
  intro W base args ds gs before hval hW _ _ _ hL _ _
  exact contract H enc W base args ds gs before hval hW hL

theorem said : Rows.DebtProvesSaid :=
  OpenClaim.holds_of_cond 3 Tryz.f3 rfl rfl rfl rfl rfl rfl rfl ⟨rfl, rfl, rfl, rfl, rfl⟩ rfl rfl rfl rfl rfl (by kernel_rfl) Tryz.func3 (by kernel_rfl)
    (of_decide_eq_true (by kernel_rfl)) (by unfold Func.isWrapper; first | (rw [if_pos (by decide +kernel)]; kernel_rfl) | (rw [if_neg (by decide +kernel)]; exact ⟨rfl, rfl⟩))
    (fun os started H enc _ F => by rw [OpenClaim.pre_eq_preRow]; exact lifted os started H enc F)

theorem plain (f : FuncId) (fn : Func) (hf : Tryz.pinned.checked.prog.funcNamed "pommel/pommellaw01.DebtProves" = some f) (hfn : Tryz.pinned.checked.prog.funcs[f]? = some fn) :
    false = Tryz.pinned.checked.prog.looks [] ∧ ∀ (j : Nat) t, fn.params[j]? = some t → Tryz.pinned.checked.prog.wantsStandIn t = false := by
  obtain rfl : f = 3 := Option.some.inj ((show Tryz.prog.funcNamed "pommel/pommellaw01.DebtProves" = some 3 by kernel_rfl).symm.trans hf) |>.symm
  obtain rfl : fn = Tryz.f3 := (Option.some.inj (Tryz.func3.symm.trans hfn)).symm
  refine ⟨by kernel_rfl, fun j t ht => ?_⟩
  rw [Tryz.params3] at ht
  have ht : t = 22 ∨ t = 23 := by
    have := Array.mem_of_getElem? ht
    simp at this
    omega
  rcases ht with rfl | rfl
  · exact (show Tryz.prog.wantsStandIn 22 = false by kernel_rfl)
  · exact (show Tryz.prog.wantsStandIn 23 = false by kernel_rfl)

theorem card : Rows.DebtProvesCardSaid :=
  Claim7.holds_tied_plain_at .later [] _ _ _ _ said (fun _ h => by cases h) (by kernel_rfl) (fun _ h => by cases h) debtProves_row_tie rfl ⟨rfl, rfl⟩ (by kernel_rfl) rfl plain (by kernel_rfl)
end Go.Proofs.YtngpoamjhngcgaaGreatDoor.PmDebtProves

