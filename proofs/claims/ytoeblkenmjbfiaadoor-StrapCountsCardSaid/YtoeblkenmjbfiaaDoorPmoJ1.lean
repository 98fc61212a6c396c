/- The table of even round straps in memory; a set out of it, multiplied and moved. -/
import Derived.Test.YtoeblkenmjbfiaaDoorPmoI9
import Derived.Test.YtoeblkenmjbfiaaDoorPmQ6
set_option linter.unusedSimpArgs false
set_option linter.unusedVariables false
namespace Go.Proofs.YtoeblkenmjbfiaaDoor.Ev
open Go Go.Proofs
noncomputable section

/-- the table lies in memory, below hi -/
def EvenT (B : Tr Blk) (hi : Nat) : Prop := 0 < hi ∧ (∃ cells size es, B.get 0 = some (.mk cells size es)) ∧ ∃ be c, be < hi ∧ loadv B 0 0 = some (.slice (some ⟨be, 0, none⟩) 10 c) ∧ (∃ cells size, B.get be = some (.mk cells size 2) ∧ 20 ≤ size ∧
  ∀ k (e : Nat × List Int × Nat), evT[k]? = some e → ∃ A c', cells.get (2 * k) = some (.int .i64 e.1) ∧ cells.get (2 * k + 1) = some (.slice A e.2.1.length c') ∧ SlV B 0 hi 1 e.2.1.length (ints e.2.1) (.slice A e.2.1.length c'))
theorem EvenT.mono {B B' : Tr Blk} {hi : Nat} (h : EvenT B hi) (hb : ∀ b, b < hi → B'.get b = B.get b) : EvenT B' hi := by
  obtain ⟨h0, ⟨c0, s0, e0, h1⟩, be, c, h2, h3, cells, size, h4, h5, h6⟩ := h
  refine ⟨h0, ⟨c0, s0, e0, by rw [hb 0 h0]; exact h1⟩, be, c, h2, ?_, cells, size, by rw [hb be h2]; exact h4, h5, fun k e he => ?_⟩
  · rw [← h3]
    unfold loadv
    rw [hb 0 h0]
  · obtain ⟨A, c', g1, g2, g3⟩ := h6 k e he
    exact ⟨A, c', g1, g2, g3.mono fun b _ hbh => hb b hbh⟩
theorem ev_even {G : Nat} {h : H} {α : Tr Value} {cells : Tr Value} {size es : Nat} (hG : 0 < G) (hb : h.blks.get 0 = some (.mk cells size es)) : ev (En G) h α (.global 0) = some (.pointer (some ⟨0, 0, none⟩)) := by
  have e1 : liveC h 0 = true := by unfold liveC; rw [hb]
  have e2 : (En G).N = 1 := rfl
  unfold ev
  simp only [e1, En_G, e2, hG, decide_true, Bool.and_self, if_true]
  rfl
/-- what the ten sets are -/
theorem evT_at {k : Nat} (hk : k < 10) : ∃ (V : Nat) (S : List Int) (o : Nat), evT[k]? = some (V, S, o) ∧ 2 ≤ V ∧ V ≤ 31 ∧ 0 < S.length ∧ S.length ≤ 31 ∧ InV V S ∧ S.Pairwise (· < ·) ∧ Ev V S o ∧ Ev V (rs V S) (V + o - 2 * S.length) ∧ 2 * S.length ≤ V + o ∧ 0 < (rs V S).length ∧ S.length * (S.length - 1) = o * (V - 1) := by
  have hl : evT.length = 10 := rfl
  have he := List.getElem?_eq_getElem (l := evT) (i := k) (by omega)
  have hg := List.all_eq_true.1 evT_good _ (List.getElem_mem (l := evT) (n := k) (by omega))
  generalize evT[k] = e at he hg
  obtain ⟨V, S, o⟩ := e
  simp only [goodB, Bool.and_eq_true, decide_eq_true_eq, List.all_eq_true] at hg
  obtain ⟨⟨⟨⟨⟨⟨⟨⟨⟨h1, h2⟩, h3⟩, h4⟩, h5⟩, h6⟩, h7⟩, h8⟩, h9⟩, h10⟩ := hg
  have hin : InV V S := fun x hx => h4 x hx
  have hS : S.length ≤ V := by
    have := cg_one hin (h5.imp fun h => by omega)
    have h11 : (rs V (rs V S)).length ≤ V := by
      unfold rs
      rw [List.length_map]
      exact Nat.le_trans (List.length_filter_le _ _) (by simp)
    rw [rs_rs hin h5] at h11
    exact h11
  exact ⟨V, S, o, he, h1, h2, h3, by omega, hin, h5, evB_iff h6, evB_iff h7, h8, h9, h10⟩
theorem add_nat {x : Nat} : (x : Int) + 1 = ((x + 1 : Nat) : Int) := rfl
theorem zero38 : inf38.zero = some (.agg #[.int .i64 0, .slice none 0 0]) := by kernel_rfl
set_option maxHeartbeats 16000000 in
theorem made_spec {G hi : Nat} {x0 x1 x2 : UInt8} {h : H} (hG : G ≤ h.next) (hhi : hi ≤ G) (hT : EvenT h.blks hi) :
    Spec Tryd.prog (En G) 7 [.agg #[.int .u8 x0.toNat, .int .u8 x1.toNat, .int .u8 x2.toNat]] h fun w h' => ∃ (k V t s : Nat) (S : List Int) (o : Nat) (A : Option Addr), evT[k]? = some (V, S, o) ∧ t < V ∧ Nat.gcd t V = 1 ∧ s < V ∧
      w = .tuple #[.int .i64 V, .slice A S.length S.length] ∧ SlV h'.blks h.next h'.next 1 S.length (ints (cg V t s S)) (.slice A S.length S.length) := by
  refine CallsE_enter (En_known (by decide)) (En_f.trans Tryd.func7) rfl ⟨Nat.le_of_ble_eq_true rfl, by decide⟩ fun Q' hQ' => ?_
  simp only [Tryd.f7, go_sem,reduceIte,Nat.reduceEqDiff,Nat.reduceLT]
  refine At_box (v := .agg #[.int .u8 x0.toNat, .int .u8 x1.toNat, .int .u8 x2.toNat]) (by (simp only [go_sem,reduceIte,Nat.reduceEqDiff,Nat.reduceLT]) <;> rfl) (by omega) fun h0 hn0 => ?_
  have lz : (Value.agg #[Value.int IntKind.u8 x0.toNat, Value.int IntKind.u8 x1.toNat, Value.int IntKind.u8 x2.toNat]).cells.toList = [.int .u8 (x0.toNat : Int), .int .u8 (x1.toNat : Int), .int .u8 (x2.toNat : Int)] := rfl
  have hvar := hn0.var
  rw [lz] at hvar
  have n0 := hn0.next
  have pr0 : Pres h.next h h0 := hn0.pres (Nat.le_refl _)
  have i0 : Int.toNat 0 = 0 := rfl
  have i1 : Int.toNat 1 = 1 := rfl
  have i2 : Int.toNat 2 = 2 := rfl
  obtain ⟨hi0, ⟨c0, s0, e0, hb0⟩, be, ce, hbe, hl0, cells, size, hbl, hsz, hall⟩ := hT.mono (B' := h0.blks) fun b hb => pr0.get b (by omega)
  obtain ⟨k, hk⟩ : ∃ k, x0.toNat % 10 = k := ⟨_, rfl⟩
  have hk10 : k < 10 := by omega
  obtain ⟨V, S, o, he, hV, hV2, hS0, hS31, hSi, hSl, _⟩ := evT_at hk10
  obtain ⟨A, cS, hc1, hc2, hsl⟩ := hall k _ he
  have la0 : loadv h0.blks h.next 0 = some (.int .u8 (x0.toNat : Int)) := hvar.load (i := 0) (Nat.zero_lt_succ 2)
  have h10 : ((x0.toNat : Nat) : Int).tmod ((10 : Nat) : Int) = (k : Int) := by
    have : ((x0.toNat : Nat) : Int).tmod ((10 : Nat) : Int) = ((x0.toNat % 10 : Nat) : Int) := rfl
    rw [this, hk]
  have hagg : loadO (En G) 38 h0.blks (some (.pointer (some ⟨be, k * 2, none⟩))) = some (.agg #[.int .i64 V, .slice A S.length cS]) := by
    refine loadO_agg (L := [.int .i64 V, .slice A S.length cS]) agg38 i38 hbl (by rw [size38]; omega) (by rw [size38]; rfl) fun i hi => ?_
    rw [size38] at hi
    match i, hi with
    | 0, _ => rw [show k * 2 + 0 = 2 * k by omega, hc1]; rfl
    | 1, _ => rw [show k * 2 + 1 = 2 * k + 1 by omega, hc2]; rfl
  have hg0 : ∀ α : Tr Value, ev (En G) h0 α (.global 0) = some (.pointer (some ⟨0, 0, none⟩)) := fun α => ev_even (by omega) hb0
  simp only [go_sem,reduceIte,Nat.reduceEqDiff,Nat.reduceLT]
  refine WK_regionT 10 ⟨by kernel_rfl, by kernel_rfl, by kernel_rfl⟩ ?_
  simp (disch := omega) only [go_sem,reduceIte,Nat.reduceEqDiff,Nat.reduceLT, hg0, load39, hl0, idxP22, load5, i0, Nat.zero_mul, Nat.mul_one, Nat.add_zero, Nat.zero_add, la0, len39, h10, idxA39, Int.toNat_natCast, hagg]
  refine At_alloc i38 zero38 rfl (by omega) fun h1 hn1 => ?_
  have n1 := hn1.next
  have hvar1 := hn1.var
  have lz1 : (Value.agg #[Value.int IntKind.i64 0, Value.slice none 0 0]).cells.toList = [.int .i64 0, .slice none 0 0] := rfl
  rw [lz1] at hvar1
  have pr1 : Pres h0.next h0 h1 := hn1.pres (Nat.le_refl _)
  try simp only [go_sem,reduceIte,Nat.reduceEqDiff,Nat.reduceLT]
  refine At_storeV (b := h0.next) (L := [.int .i64 0, .slice none 0 0]) (v := .agg #[.int .i64 V, .slice A S.length cS]) i38 (by simp only [go_sem,reduceIte,Nat.reduceEqDiff,Nat.reduceLT]) (by (simp only [go_sem,reduceIte,Nat.reduceEqDiff,Nat.reduceLT]) <;> rfl) hvar1 (by rw [size38]; rfl) (by rw [size38]; rfl) rfl (by rw [En_G]; omega) fun h2 hs2 hv2 => ?_
  first | rw [lz1] at hv2 | skip
  have lz2 : (Value.agg #[Value.int IntKind.i64 V, Value.slice A S.length cS]).cells.toList = [.int .i64 V, .slice A S.length cS] := rfl
  rw [lz2] at hv2
  have pr2 : Pres h0.next h0 h2 := pr1.trans (hs2.pres (Nat.le_refl _))
  have n2 := pr2.next
  have nn2 : h1.next ≤ h2.next := Nat.le_of_eq hs2.next.symm
  have hvar2 := hvar.mono (B' := h2.blks) (pr2.get _ (by omega))
  have la1 : loadv h2.blks h.next 1 = some (.int .u8 (x1.toNat : Int)) := hvar2.load (i := 1) (by simp only [List.length_cons, List.length_nil]; omega)
  have la2 : loadv h2.blks h.next 2 = some (.int .u8 (x2.toNat : Int)) := hvar2.load (i := 2) (by simp only [List.length_cons, List.length_nil]; omega)
  have lv : loadv h2.blks h0.next 0 = some (.int .i64 (V : Int)) := hv2.load (i := 0) (Nat.zero_lt_succ 1)
  have ls : loadv h2.blks h0.next 1 = some (.slice A S.length cS) := hv2.load (i := 1) (Nat.lt_succ_self 1)
  have hsl2 : SlV h2.blks 0 hi 1 S.length (ints S) (.slice A S.length cS) := hsl.mono fun b _ hb => pr2.get b (by omega)
  have hN1 : (V : Int) - 1 = ((V - 1 : Nat) : Int) := by omega
  have ht0 : x1.toNat % (V - 1) + 1 ≤ V - 1 := by have := Nat.mod_lt x1.toNat (show 0 < V - 1 by omega); omega
  simp (disch := omega) only [go_sem,reduceIte,Nat.reduceEqDiff,Nat.reduceLT, idxP22, load5, i1, Nat.one_mul, Nat.mul_one, Nat.add_zero, Nat.zero_add, la1, fld38_0, load3, lv, wrap_i64, hN1, tmod_nat, add_nat]
  refine WK_loopN (fun j α h4 => ∃ t : Nat, t + j = V ∧ 1 ≤ t ∧ t ≤ V - 1 ∧ h4 = h2 ∧ α.get 1 = some (.pointer (some ⟨h.next, 0, none⟩)) ∧ α.get 4 = some (.pointer (some ⟨h0.next, 0, none⟩)) ∧ α.get 5 = some (.int .i64 t)) (V - (x1.toNat % (V - 1) + 1))
    ⟨x1.toNat % (V - 1) + 1, by omega, by omega, ht0, rfl, by (simp only [go_sem,reduceIte,Nat.reduceEqDiff,Nat.reduceLT]) <;> rfl, by (simp only [go_sem,reduceIte,Nat.reduceEqDiff,Nat.reduceLT]) <;> rfl, by simp only [go_sem,reduceIte,Nat.reduceEqDiff,Nat.reduceLT]⟩ (by omega) ?_
  rintro J2 j2 α2 h4 ⟨t, htj, ht1, htN, rfl, g1, g4, g5⟩ hJ2
  simp (disch := omega) only [go_sem,reduceIte,Nat.reduceEqDiff,Nat.reduceLT, g4, g5, fld38_0, load3, Nat.add_zero, Nat.zero_add, lv]
  refine CallO_same (Gcd_spec (a := t) (b := V) (by omega)) (by omega) fun u hu => ?_
  subst hu
  by_cases hg : Nat.gcd t V = 1
  · have d2 : decide (((Nat.gcd t V : Nat) : Int) ≠ 1) = false := decide_eq_false (by omega)
    have hS : x2.toNat % V ≤ 31 := by have := Nat.mod_lt x2.toNat (show 0 < V by omega); omega
    have hS2 : x2.toNat % V < V := Nat.mod_lt x2.toNat (show 0 < V by omega)
    simp (disch := omega) only [go_sem,reduceIte,Nat.reduceEqDiff,Nat.reduceLT, d2]
    refine WK_regionT 14 ⟨by kernel_rfl, by kernel_rfl, by kernel_rfl⟩ ?_
    simp (disch := omega) only [go_sem,reduceIte,Nat.reduceEqDiff,Nat.reduceLT, g1, g4, g5, idxP22, load5, i2, Nat.mul_one, Nat.add_zero, Nat.zero_add, la2, fld38_0, fld38_1, load3, load24, lv, ls, tmod_nat]
    have hst : ∀ q : Bool, (st q h4).blks = h4.blks ∧ (st q h4).next = h4.next := fun q => by cases q <;> exact ⟨rfl, rfl⟩
    refine CallO_spec (Q := fun v h' => ∃ A', v = .slice A' (pls (tn V t (x2.toNat % V : Nat) S) V).length (pls (tn V t (x2.toNat % V : Nat) S) V).length ∧ SlV h'.blks h4.next h'.next 1 (pls (tn V t (x2.toNat % V : Nat) S) V).length (ints (pls (tn V t (x2.toNat % V : Nat) S) V)) v)
      (Turned_spec (h := st true h4) (t := t) (s := x2.toNat % V) (lo := 0) (hi := hi) (by rw [(hst true).2]; omega) (by rw [(hst true).2]; omega) (by rw [(hst true).1]; exact hsl2) hS31 hV hV2 (by omega) hS hSi) (by omega) (fun v h' wm hq => hq) fun v h5 pr5 ⟨A5, hu, hs5⟩ => ?_
    subst hu
    have hcl : (cg V t ((x2.toNat % V : Nat) : Int) S).length = S.length := cg_len
    rw [turned_cg (by omega) hSi hSl hg, hcl] at hs5 ⊢
    simp only [go_sem,reduceIte,Nat.reduceEqDiff,Nat.reduceLT]
    exact hQ' _ _ ⟨pr0.trans ((pr2.le (by omega)).trans (pr5.le (by omega))), k, V, t, x2.toNat % V, S, o, A5, he, by omega, hg, hS2, rfl, hs5.wide (by omega) (Nat.le_refl _)⟩
  · have d2 : decide (((Nat.gcd t V : Nat) : Int) ≠ 1) = true := decide_eq_true (by omega)
    have htl : t < V - 1 := by
      rcases Nat.lt_or_ge t (V - 1) with e | e
      · exact e
      · have : t = V - 1 := by omega
        subst this
        exact absurd (last_gcd hV) hg
    have hmt : t % (V - 1) = t := Nat.mod_eq_of_lt htl
    simp (disch := omega) only [go_sem,reduceIte,Nat.reduceEqDiff,Nat.reduceLT, g1, g4, g5, d2, fld38_0, load3, Nat.add_zero, Nat.zero_add, lv, wrap_i64, hN1, tmod_nat, hmt, add_nat]
    exact hJ2 (V - (t + 1)) _ _ (by omega) ⟨t + 1, by omega, by omega, by omega, rfl, by simp only [go_sem,reduceIte,Nat.reduceEqDiff,Nat.reduceLT, g1], by simp only [go_sem,reduceIte,Nat.reduceEqDiff,Nat.reduceLT, g4], by simp only [go_sem,reduceIte,Nat.reduceEqDiff,Nat.reduceLT]⟩
end
end Go.Proofs.YtoeblkenmjbfiaaDoor.Ev

