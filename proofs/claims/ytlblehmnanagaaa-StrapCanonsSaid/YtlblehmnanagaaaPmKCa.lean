/- Proved: for every three numbers the law StrapCanons (a number of places, a set of bits, an array of two numbers) returns true, and its arguments read afterwards as before. No condition. -/
import Derived.Test.YtlblehmnanagaaaPmK0
import Derived.Test.YtlblehmnanagaaaPmI10
set_option linter.unusedSimpArgs false
set_option linter.unusedVariables false
namespace Go.Proofs.Ytlblehmnanagaaa.PmKCa
open Go.ChangeShapes Go.WideShapes Go.ChangeAt Go.RowKit
open Go.Proofs Go.Proofs.Ytlblehmnanagaaa Go.Proofs.Ytlblehmnanagaaa.PmC
open Go.Proofs.Ytlblehmnanagaaa.Ev (tabs heapA VR VRs SlV Tr ArgB Phi)

theorem laidOut : laidOutB Try.prog = true := by kernel_rfl
theorem ce5 : Try.prog.cellsOf 5 = 1 := by kernel_rfl
theorem ce43 : Try.prog.cellsOf 43 = 2 := by kernel_rfl
theorem wf_u32 {z : Int} (h : (Lit.int .u32 z).wf = true) : 0 ≤ z ∧ z ≤ 4294967295 := by
  simp only [Lit.wf, Bool.and_eq_true, decide_eq_true_eq] at h
  simp [IntKind.min, IntKind.max, IntKind.signed, IntKind.bits] at h
  omega
theorem okWide_arr {P : Program} {w : World} {r : Reach} {base : Nat} {t e : TypeId} {n : Nat} {v : Value} (ht : P.underlying t = some (.array n e)) (h : Value.okWide P w r base t v) : ∃ cs, v = .agg cs ∧ cs.size = P.cellsOf t := by
  simp only [Value.okWide, ht] at h
  obtain ⟨cs, h1, h2, _⟩ := h
  exact ⟨cs, h1, h2⟩
theorem two {cs : Array Value} {n : Nat} (h : cs.size = n) (h2 : n = 2) : ∃ c0 c1, cs = #[c0, c1] := by
  subst h2
  exact ⟨cs[0], cs[1], by apply Array.ext (by simp [h]); intro i h3 h4; match i, h4 with
    | 0, _ => rfl
    | 1, _ => rfl⟩
theorem byte_of {z : Int} (h0 : 0 ≤ z) (h1 : z ≤ 255) : ∃ c : UInt8, z = (c.toNat : Int) :=
  ⟨UInt8.ofNat z.toNat, by rw [UInt8.toNat_ofNat']; have : z.toNat % 2 ^ 8 = z.toNat := Nat.mod_eq_of_lt (by omega); omega⟩

set_option maxRecDepth 100000 in
theorem contract (H : Type) (enc : TypeId × Value → H) (W : World) (base : Nat) (args : Array Value) (ds gs : List (DataW H)) (before : List MemPlace)
    (hval : ∀ (j : Nat) t v, Try.f7.params[j]? = some t → args[j]? = some v → Value.okWide Try.prog W .any base t v)
    (hW : DataW.Whole enc Try.prog Try.f7.params.toList Rows.strapCanonsSpec.vars false W args.toList ds gs before) :
    Calls Try.prog 7 args W fun e W' => ∃ v, e = .returned v ∧ Rows.strapCanonsSpec.post enc Try.prog Try.f7 false true false false W args v W' := by
  have hW' := hW
  obtain ⟨p, q, hA0, hV, rfl, hfz, hnd⟩ := hW
  have hA : DataW.TrodAll enc Try.prog W 0 (fun _ => true) true Try.f7.params.toList args.toList ds p := hA0
  rw [Try.params7] at hA hval
  obtain ⟨v0, vs0, d0, ds0, p0, q0, hargs, rfl, rfl, h0, r0⟩ := trodAll_cons hA
  obtain ⟨v1, vs1, d1, ds1, p1, q1, hargs1, rfl, rfl, h1, r1⟩ := trodAll_cons r0
  obtain ⟨v2, vs2, d2, ds2, p2, q2, hargs2, rfl, rfl, h2, r2⟩ := trodAll_cons r1
  obtain ⟨rfl, rfl, rfl⟩ := trodAll_nil r2
  obtain rfl : args = #[v0, v1, v2] := by cases args; simp_all
  obtain ⟨rfl, rfl⟩ := trodVars_none hV
  clear hA0
  have slot2 : ∀ {m : Nat} {c0 c1 : Value}, m = 1 → ((Value.agg #[c0, c1]).cells.toList.drop (0 * m)).take m = [c0] ∧ ((Value.agg #[c0, c1]).cells.toList.drop (1 * m)).take m = [c1] := by rintro _ c0 c1 rfl; exact ⟨rfl, rfl⟩
  obtain ⟨a, rfl, rfl, rfl, wa⟩ := open_int Try.underlying5 (hval 0 5 v0 rfl rfl) h0
  have har : 0 ≤ a ∧ a ≤ 255 := by first | exact wf_u8 wa | exact wf_u8 wa.1 | exact wf_u8 wa.2
  obtain ⟨b, rfl, rfl, rfl, wb⟩ := open_int Try.underlying42 (hval 1 42 v1 rfl rfl) h1
  have hbr : 0 ≤ b ∧ b ≤ 4294967295 := by first | exact wf_u32 wb | exact wf_u32 wb.1 | exact wf_u32 wb.2
  obtain ⟨cs2, rfl, hcs2⟩ := okWide_arr Try.underlying43 (hval 2 43 v2 rfl rfl)
  obtain ⟨q0, q1, rfl⟩ := two hcs2 ce43
  obtain ⟨fuel2, hf2⟩ := id h2
  obtain ⟨xs2, m2, _, hxs2, _, hxl2, hfs2⟩ := DataW.trod_array Try.underlying43 hf2
  match xs2, hxl2 with
  | [t0, t1], _ =>
  have b0 := hfs2 0 (by decide)
  have b1 := hfs2 1 (by decide)
  rw [(slot2 ce5).1] at b0
  rw [(slot2 ce5).2] at b1
  obtain ⟨z0, hz0, hzw0⟩ := DataW.trod_int Try.underlying5 b0
  obtain ⟨z1, hz1, hzw1⟩ := DataW.trod_int Try.underlying5 b1
  obtain rfl : q0 = .int .u8 z0 := by simpa using hz0
  obtain rfl : q1 = .int .u8 z1 := by simpa using hz1
  have hzr0 : 0 ≤ z0 ∧ z0 ≤ 255 := by first | exact wf_u8 hzw0 | exact wf_u8 hzw0.1 | exact wf_u8 hzw0.2
  have hzr1 : 0 ≤ z1 ∧ z1 ≤ 255 := by first | exact wf_u8 hzw1 | exact wf_u8 hzw1.1 | exact wf_u8 hzw1.2
  have hlt2 : ∀ x ∈ p2, x.block < W.heap.size := fun x hx => hW'.lt x (by simp [hx])
  have harr : VR (Ev.phiA 0 tabs []) (.agg #[.int .u8 z0, .int .u8 z1]) (.agg #[.int .u8 z0, .int .u8 z1]) := .agg rfl fun i h3 h4 => match i, h3, h4 with
    | 0, _, _ => .int _ _
    | 1, _, _ => .int _ _
  obtain ⟨ca, rfl⟩ := byte_of har.1 har.2
  obtain ⟨c0, rfl⟩ := byte_of hzr0.1 hzr0.2
  obtain ⟨c1, rfl⟩ := byte_of hzr1.1 hzr1.2
  obtain ⟨bn, rfl⟩ := Int.eq_ofNat_of_zero_le hbr.1
  have hrun := spec_run (Ev.law_StrapCanons (G := 0 + ([] : List ArgB).length) (h := heapA 0 tabs []) (v := ca) (x0 := c0) (x1 := c1) (set := bn) (Nat.le_refl _) (by omega))
  refine (calls_args (f := 7) (bs := []) (.cons (.int _ _) (.cons (.int _ _) (.cons harr .nil))) (argsIn_mk fun x hx => by cases hx) hrun).mono fun e W' ⟨he, hb⟩ => ?_
  subst he
  exact ⟨_, rfl, post_below (pa := [] ++ ([] ++ (p2 ++ []))) (pv := []) hW' (fun _ _ _ => trodAll_cons_mk (shut_bool Try.underlying4 _) trodAll_mk0)
    (fun sp hsp => trodAll_cons_mk (shut_int Try.underlying5 wa) (trodAll_cons_mk (shut_int Try.underlying42 wb)
        (trodAll_cons_mk (WideElems.Trod_stays laidOut (by kernel_rfl) (of_decide_eq_true (by kernel_rfl)) h2 (fun x hx => hb.same (hlt2 x hx)) (fun x hx => hsp x (by simp [hx]))) trodAll_mk0))) (fun _ _ => rfl) (by simp)
    hb (ok_one (by kernel_rfl) rfl (okWide_bool_mk Try.underlying4 _))⟩

theorem laid_met (os : Os) : laidMet Try.prog Rows.strapCanonsRow.laid ((laidWorld os).forCall (fun _ _ => 0) ⟨#[], #[.int .u8 0, .int .u32 0, .agg #[.int .u8 0, .int .u8 0]], []⟩).memory :=
  laidMet_of_run' 8 (by kernel_rfl) (by kernel_rfl)
theorem reads (os : Os) {H : Type} (enc : TypeId × Value → H) : ∃ places, DataW.whole enc Try.prog ((laidWorld os).forCall (fun _ _ => 0) ⟨#[], #[.int .u8 0, .int .u32 0, .agg #[.int .u8 0, .int .u8 0]], []⟩).memory Try.f7.params.toList Rows.strapCanonsSpec.vars false #[Value.int .u8 0, .int .u32 0, .agg #[.int .u8 0, .int .u8 0]].toList 8 = some ([.lit (.int .u8 0), .lit (.int .u32 0), .agg [.lit (.int .u8 0), .lit (.int .u8 0)]], [], places) :=
  ⟨[], by kernel_rfl⟩

set_option maxRecDepth 100000 in
theorem lifted (os : Os) (started : os.Started) (H : Type) (enc : TypeId × Value → H) (F : Stop.Interp) :
    ReturnsInHanded {} Try.checked os 7 .any ((OpenSpec.ofChange Rows.strapCanonsSpec).preRow enc Try.prog Try.f7 Rows.strapCanonsRow.domain false Rows.strapCanonsRow.laid) (((OpenSpec.ofChange Rows.strapCanonsSpec).at F).post enc Try.prog Try.f7 false true false false) := by
  obtain ⟨places, hx⟩ := reads os enc
  refine returnsInHanded_of_row (C := Try.checked) (s := OpenSpec.ofChange Rows.strapCanonsSpec) own started (by kernel_rfl) Try.func7
    (witness_row_at (enc := enc) (C := Try.checked) false (laidWorld os) #[.int .u8 0, .int .u32 0, .agg #[.int .u8 0, .int .u8 0]] rfl (by kernel_rfl) (by kernel_rfl) (by kernel_rfl)
      (OpenSpec.preRow_of_cond 8 hx (by kernel_rfl) (fun k hk => by cases hk) (by kernel_rfl) (laid_met os))) ?_
  intro W base args ds gs before hval hW _ _ hsz _ _ _
  exact contract H enc W base args ds gs before hval hW

theorem said : Rows.StrapCanonsSaid :=
  OpenClaim.holds_of_cond 7 Try.f7 rfl rfl rfl rfl rfl rfl rfl ⟨rfl, rfl, rfl, rfl, rfl⟩ rfl rfl rfl rfl rfl (by kernel_rfl) Try.func7 (by kernel_rfl)
    (of_decide_eq_true (by kernel_rfl)) (by unfold Func.isWrapper; first | (rw [if_pos (by decide +kernel)]; kernel_rfl) | (rw [if_neg (by decide +kernel)]; exact ⟨rfl, rfl⟩))
    (fun os started H enc _ F => by rw [OpenClaim.pre_eq_preRow]; exact lifted os started H enc F)
end Go.Proofs.Ytlblehmnanagaaa.PmKCa

