/- The law StitchCounts. -/
import Derived.Test.YthankillfhmfkaaGreatDoorPmLL
import Derived.Test.YthankillfhmfkaaGreatDoorPmFF
import Derived.Test.YthankillfhmfkaaGreatDoorPmHH
set_option linter.unusedSimpArgs false
set_option linter.unusedVariables false
namespace Go.Proofs.YthankillfhmfkaaGreatDoor.Ev
open Go Go.Proofs Go.Lm
open Nat renaming reduceEqDiff → nqD, reduceLT → nqL
noncomputable section
theorem isNum_int {z : Int} (h : (dec z.natAbs).length ≤ 4000) : isNum (decZ z) z 1 = true := by
 have e1 : rt z (1 : Int).natAbs = z.natAbs := by rw [show (1 : Int).natAbs = 1 from rfl, rb_one.2]
 have e2 : rb z (1 : Int).natAbs = 1 := rb_one.1
 have h1 : (dec 1).length ≤ 4000 := by rw [dec_small (by omega)]; decide
 unfold isNum
 rw [e1, e2]
 by_cases hz : z < 0 <;> simp [numOK, h, h1, numT, decZ, hz]
theorem sd64 {x : Nat} (h : x ≤ 64 ^ 60) : Sd x := ⟨120, by omega, Nat.lt_of_le_of_lt h (Nat.le_of_ble_eq_true rfl)⟩
theorem dec64 {x : Nat} (h : x ≤ 64 ^ 60) : (dec x).length ≤ 4000 := by
 have : x < 10 ^ (120 + 1) := Nat.lt_of_le_of_lt h (Nat.le_of_ble_eq_true rfl)
 have := dec_len this
 omega
theorem pc_symS {ps : List (Int × Int)} {k : Nat} (h : OkP k ps) : Sym (pc ps) := by
 refine ⟨fun a => ?_, fun a b => ?_⟩
 ·rw [pc, List.any_eq_false]
  intro p hp
  have := (h p hp).2.2.2.2
  simp only [decide_eq_true_eq]
  omega
 ·unfold pc
  congr 1
  funext p
  exact decide_eq_decide.2 (by omega)
theorem ldThr {G b n c : Nat} {k : Int} {A : Option Addr} {B : Tr Blk} (v : Var B b [.int .i64 k, .slice A n c]) : loadO (En G) 24 B (some (.pointer (some ⟨b, 0, none⟩))) = some (.agg #[.int .i64 k, .slice A n c]) := v.loadA agg24 i24 (by rw [size24]; rfl)
theorem tup_inj {s t : List UInt8} {a b : Int} (h : Value.tuple #[strV s, .int .i64 a] = .tuple #[strV t, .int .i64 b]) : s = t ∧ a = b := by
 injection h with h
 have e := congrArg Array.toList h
 simp only [List.cons.injEq, Value.int.injEq, and_true, true_and] at e
 exact ⟨strV_inj.1 e.1, e.2⟩
set_option maxHeartbeats 4000000 in
theorem beforeN_spec {G lo1 hi1 lo2 hi2 n c1 c2 : Nat} {A1 A2 : Option Addr} {L : List Nat} {h : H} (hv1 : SlV h.blks lo1 hi1 1 n (nats L) (.slice A1 n c1)) (hv2 : SlV h.blks lo2 hi2 1 n (nats L) (.slice A2 n c2)) (hn : n < 1000000) :
  Spec Tryz.prog (En G) 67 [.slice A1 n c1, .slice A2 n c2] h fun v h' => v = .bool false ∧ h' = h := by
 have hl : L.length = n := by have := hv1.len; rw [nats_len] at this; omega
 refine CallsE_enter (En_known (by decide)) (En_f.trans Tryz.func67) rfl ⟨Nat.le_of_ble_eq_true rfl, by decide⟩ fun Q' hQ' => ?_
 simp only [Tryz.f67, go_sem,reduceIte,nqD,nqL]
 refine WK_loopN (fun j α h2 => ∃ (i : Nat), h2 = h ∧ j + i = n ∧ α.get 0 = some (.slice A1 n c1) ∧ α.get 1 = some (.slice A2 n c2) ∧ α.get 5 = some (.int .i64 i)) n
  ⟨0, rfl, by omega, by simp only [go_sem,reduceIte,nqD,nqL], by simp only [go_sem,reduceIte,nqD,nqL], by simp only [go_sem,reduceIte,nqD,nqL]; rfl⟩ (by omega) ?_
 rintro J j α h2 ⟨i, rfl, hij, e0, e1, e5⟩ hJ
 by_cases hlt : (i : Int) < n
 ·obtain ⟨s, hs⟩ : ∃ s, L[i]? = some s := ⟨L[i]'(by omega), List.getElem?_eq_getElem (by omega)⟩
  obtain ⟨b1, off1, rfl, _, _, hld1⟩ := hv1.at_ (by omega)
  obtain ⟨b2, off2, rfl, _, _, hld2⟩ := hv2.at_ (by omega)
  have l1 := hld1 i (by omega)
  have l2 := hld2 i (by omega)
  rw [nats_get hs] at l1 l2
  have ds : decide ((s : Int) ≠ (s : Int)) = false := decide_eq_false fun h => h rfl
  have dlt : decide ((i : Int) < n) = true := decide_eq_true hlt
  simp (disch := omega) only [go_sem,reduceIte,nqD,nqL, e0, e1, e5, len34, dlt]
  refine WK_regionT 8 ⟨by kernel_rfl, by kernel_rfl, by kernel_rfl⟩ ?_
  simp (disch := omega) only [go_sem,reduceIte,nqD,nqL, e0, e1, e5, idxA34, load3, Int.toNat_natCast, Nat.mul_one, l1, l2, ds, wrap_i64]
  exact hJ (j - 1) _ _ (by omega) ⟨i + 1, rfl, by omega, by simp only [go_sem,reduceIte,nqD,nqL, e0], by simp only [go_sem,reduceIte,nqD,nqL, e1], by simp only [go_sem,reduceIte,nqD,nqL]; rfl⟩
 ·have dlt : decide ((i : Int) < n) = false := decide_eq_false hlt
  have dnn : decide ((n : Int) < n) = false := decide_eq_false (by omega)
  simp (disch := omega) only [go_sem,reduceIte,nqD,nqL, e0, e1, e5, len34, dlt, dnn]
  exact hQ' _ _ ⟨Pres.refl _ _, rfl, rfl⟩
set_option maxHeartbeats 4000000 in
theorem sameN_spec {G lo1 hi1 lo2 hi2 n c1 c2 : Nat} {A1 A2 : Option Addr} {L : List Nat} {h : H} (hv1 : SlV h.blks lo1 hi1 1 n (nats L) (.slice A1 n c1)) (hv2 : SlV h.blks lo2 hi2 1 n (nats L) (.slice A2 n c2)) (hn : n < 1000000) :
  Spec Tryz.prog (En G) 28 [.slice A1 n c1, .slice A2 n c2] h fun v h' => v = .bool true ∧ h' = h := by
 refine CallsE_enter (En_known (by decide)) (En_f.trans Tryz.func28) rfl ⟨Nat.le_of_ble_eq_true rfl, by decide⟩ fun Q' hQ' => ?_
 simp only [Tryz.f28, go_sem,reduceIte,nqD,nqL]
 refine CallO_same (beforeN_spec hv1 hv2 hn) (by omega) fun u hu => ?_
 subst hu
 simp only [go_sem,reduceIte,nqD,nqL]
 refine CallO_same (beforeN_spec hv2 hv1 hn) (by omega) fun u hu => ?_
 subst hu
 simp only [go_sem,reduceIte,nqD,nqL]
 exact hQ' _ _ ⟨Pres.refl _ _, rfl, rfl⟩
set_option maxHeartbeats 16000000 in
set_option maxRecDepth 100000 in
theorem law_StitchCounts {G lo hi n c : Nat} {k z : Int} {A : Option Addr} {ps0 : List (Int × Int)} {h0 : H} (h4 : 4 ≤ h0.next) (hG : G ≤ h0.next) (hG4 : 4 ≤ G) (ht : TabsIn tabs h0.blks) (hv : SlV h0.blks lo hi 2 n (prs ps0) (.slice A n c)) (hhi : hi ≤ h0.next) :
  Spec Tryz.prog (En G) 6 [.agg #[.int .i64 k, .slice A n c], .int .i64 z] h0 fun v _ => v = .bool true := by
 refine CallsE_enter (En_known (by decide)) (En_f.trans Tryz.func6) rfl ⟨Nat.le_of_ble_eq_true rfl, by decide⟩ fun Q' hQ' => ?_
 simp (disch := omega) only [Tryz.f6, go_sem,reduceIte,nqD,nqL]
 refine At_box (v := .agg #[.int .i64 k, .slice A n c]) (by simp only [go_sem,reduceIte,nqD,nqL]) (by omega) fun h1 hn1 => ?_
 have n1 := hn1.next
 have l1 := ldThr (G := G) (hn1.var : Var h1.blks h0.next [.int .i64 k, .slice A n c])
 have pr1 : Pres h0.next h0 h1 := hn1.pres nlr
 simp (disch := omega) only [go_sem,reduceIte,nqD,nqL, l1]
 refine CallO_f (few_spec (k := k) (by omega) (hv.mono fun b _ hb => pr1.get b (by omega)) (by omega)) (by omega) fun u h2 p2 hu => ?_
 obtain ⟨A2, c2, rfl, hvp⟩ := hu
 have n2 := p2.next
 have pr2 : Pres h0.next h0 h2 := pr1.trans (p2.le (by omega))
 have hpl : (ps0.take 31).length ≤ 31 := by rw [List.length_take]; omega
 generalize ps0.take 31 = ps at *
 have ht2 := ht.pres pr2 (fun x hx => by have := tabs_lt x hx; omega)
 simp (disch := omega) only [go_sem,reduceIte,nqD,nqL]
 refine CallO_f (Count_spec (k := k) (z := z) (by omega) hG4 ht2 hvp nlr (by omega)) (by omega) fun w3 h3 p3 hw3 => ?_
 have n3 := p3.next
 have hvp3 := hvp.mono (B' := h3.blks) fun b _ hb => p3.get b (by omega)
 have pr3 := pr2.trans (p3.le (m' := h0.next) (by omega))
 have d1 : decide ((1 : Int) = 1) = true := rfl
 have d0 : decide ((0 : Int) ≠ 0) = false := rfl
 have d00 : decide ((0 : Int) = 0) = true := rfl
 have dee : decide (([] : List UInt8) = []) = true := rfl
 cases hT : okT k ps with
 | false =>
  obtain rfl : w3 = .tuple #[strV [], .int .i64 1] := by
   rcases hw3 with ⟨_, h⟩ | ⟨h, _⟩
   ·exact h
   ·rw [hT] at h; cases h
  simp (disch := omega) only [go_sem,reduceIte,nqD,nqL]
  refine CallO_f (Cliques_spec (k := k) (by omega) hvp3 (by omega) (by omega)) (by omega) fun w4 h4' p4 hw4 => ?_
  have n4 := p4.next
  obtain rfl : w4 = .tuple #[.slice none 0 0, .int .i64 1] := by
   rcases hw4 with ⟨_, h⟩ | ⟨h, _⟩
   ·exact h
   ·rw [hT] at h; cases h
  have pr4 := pr3.trans (p4.le (m' := h0.next) (by omega))
  have hvp4 := hvp3.mono (B' := h4'.blks) fun b _ hb => p4.get b (by omega)
  simp (disch := omega) only [go_sem,reduceIte,nqD,nqL]
  refine CallO_same (refThreads_spec hvp4 (by omega)) (by omega) fun u hu => ?_
  subst hu
  rw [hT]
  have ht4 := ht.pres pr4 (fun x hx => by have := tabs_lt x hx; omega)
  have dl : decide (((0 : Nat) : Int) = 0) = true := rfl
  simp (maxSteps := 3000000) (disch := omega) only [go_sem,reduceIte,nqD,nqL, eql_str, dee, d1, len34, dl]
  refine Call_lives ht4 (by omega) ?_
  simp (disch := omega) only [go_sem,reduceIte,nqD,nqL]
  exact hQ' _ _ ⟨pr4, rfl⟩
 | true =>
  obtain ⟨k1, k6, _, hps⟩ := okT_okP hT
  obtain ⟨kn, rfl⟩ := Int.eq_ofNat_of_zero_le (show 0 ≤ k by omega)
  rw [Int.toNat_natCast] at hps
  have hsy := pc_symS hps
  have hcS := clq_sum (cm := pc ps) (k := kn) (by omega)
  have hcL := clq_len (cm := pc ps) (k := kn)
  obtain ⟨w31, e31, rfl⟩ : ∃ (s : List UInt8) (e : Int), w3 = .tuple #[strV s, .int .i64 e] := by
   rcases hw3 with ⟨_, h⟩ | ⟨_, _, _, h⟩
   ·exact ⟨_, _, h⟩
   ·exact ⟨_, _, h⟩
  simp (disch := omega) only [go_sem,reduceIte,nqD,nqL]
  refine CallO_f (Cliques_spec (k := (kn : Int)) (by omega) hvp3 (by omega) (by omega)) (by omega) fun w4 h4' p4 hw4 => ?_
  have n4 := p4.next
  obtain ⟨Ac, rfl, hcs⟩ : ∃ (Ac : Option Addr), w4 = .tuple #[.slice Ac (clq (pc ps) kn).length (clq (pc ps) kn).length, .int .i64 0] ∧ SlV h4'.blks h3.next h4'.next 1 (clq (pc ps) kn).length (nats (clq (pc ps) kn)) (.slice Ac (clq (pc ps) kn).length (clq (pc ps) kn).length) := by
   rcases hw4 with ⟨h, _⟩ | ⟨_, Ac, h1, h2⟩
   ·rw [hT] at h; cases h
   ·rw [Int.toNat_natCast] at h1 h2; exact ⟨Ac, h1, h2⟩
  have pr4 := pr3.trans (p4.le (m' := h0.next) (by omega))
  have hvp4 := hvp3.mono (B' := h4'.blks) fun b _ hb => p4.get b (by omega)
  simp (disch := omega) only [go_sem,reduceIte,nqD,nqL]
  refine CallO_same (refThreads_spec hvp4 (by omega)) (by omega) fun u hu => ?_
  subst hu
  rw [hT]
  simp (disch := omega) only [go_sem,reduceIte,nqD,nqL]
  refine CallO_f (refCliques_spec (k := kn) (by omega) hvp4 (by omega) (by omega) (by omega) hps hsy) (by omega) fun w5 h5 p5 hw5 => ?_
  obtain ⟨A5, rfl, hcs5⟩ := hw5
  have n5 := p5.next
  have pr5 := pr4.trans (p5.le (m' := h0.next) (by omega))
  simp (disch := omega) only [go_sem,reduceIte,nqD,nqL]
  refine CallO_same (sameN_spec (hcs.mono fun b _ hb => p5.get b (by omega)) hcs5 (by omega)) (by omega) fun u hu => ?_
  subst hu
  have ht5 := ht.pres pr5 (fun x hx => by have := tabs_lt x hx; omega)
  have hvp5 := hvp4.mono (B' := h5.blks) fun b _ hb => p5.get b (by omega)
  simp (disch := omega) only [go_sem,reduceIte,nqD,nqL, d0]
  refine Call_lives ht5 (by omega) ?_
  simp (disch := omega) only [go_sem,reduceIte,nqD,nqL]
  by_cases hz0 : z < 0
  ·have dz : decide (z < 0) = true := decide_eq_true hz0
   have hw : w31 = [] ∧ e31 = 1 := by
    rcases hw3 with ⟨_, h⟩ | ⟨_, h, _⟩
    ·exact tup_inj h
    ·omega
   obtain ⟨rfl, rfl⟩ := hw
   simp (maxSteps := 3000000) (disch := omega) only [go_sem,reduceIte,nqD,nqL, dz, eql_str, dee, d1]
   exact hQ' _ _ ⟨pr5, rfl⟩
  ·have dz : decide (z < 0) = false := decide_eq_false hz0
   by_cases hz6 : 60 < z
   ·have dz6 : decide ((60 : Int) < z) = true := decide_eq_true hz6
    have hw : w31 = [] ∧ e31 = 1 := by
     rcases hw3 with ⟨_, h⟩ | ⟨_, _, h, _⟩
     ·exact tup_inj h
     ·omega
    obtain ⟨rfl, rfl⟩ := hw
    simp (maxSteps := 3000000) (disch := omega) only [go_sem,reduceIte,nqD,nqL, dz, dz6, eql_str, dee, d1]
    exact hQ' _ _ ⟨pr5, rfl⟩
   ·have dz6 : decide ((60 : Int) < z) = false := decide_eq_false hz6
    obtain ⟨zn, rfl⟩ := Int.eq_ofNat_of_zero_le (show 0 ≤ z by omega)
    have hw : w31 = decZ (cnt (clq (pc ps) kn) zn) ∧ e31 = 0 := by
     rcases hw3 with ⟨h, _⟩ | ⟨_, _, _, h⟩
     ·rw [hT] at h
      rcases h with h | h | h
      ·cases h
      ·omega
      ·omega
     ·rw [Int.toNat_natCast, Int.toNat_natCast] at h; exact tup_inj h
    obtain ⟨rfl, rfl⟩ := hw
    have hcb := cnt_bound hcS zn
    have hcb2 : (cnt (clq (pc ps) kn) zn).natAbs ≤ 64 ^ 60 := Nat.le_trans hcb (Nat.pow_le_pow_right (by omega) (by omega))
    have hin := isNum_int (dec64 hcb2)
    have hsd := sd64 hcb2
    simp (maxSteps := 3000000) (disch := omega) only [go_sem,reduceIte,nqD,nqL, dz, dz6]
    refine CallO_f (refCount_spec (k := kn) (n := zn) (by omega) hvp5 (by omega) (by omega) (by omega) hps (by omega)) (by omega) fun w6 h6 p6 hw6 => ?_
    have n6 := p6.next
    have hval : (if zn = 0 then 1 else sm (sts (pc ps) kn) (rowv (pc ps) (sts (pc ps) kn) (endsL (pc ps) (sts (pc ps) kn) zn) zn)) = cnt (clq (pc ps) kn) zn := by
     by_cases h : zn = 0
     ·rw [if_pos h, h]; rfl
     ·rw [if_neg h]; exact ref_total hsy (by omega) (by omega) h
    rw [hval] at hw6
    generalize cnt (clq (pc ps) kn) zn = C at *
    obtain ⟨A6, k6', c6, rfl⟩ := hw6.shape
    simp (disch := omega) only [go_sem,reduceIte,nqD,nqL]
    refine CallO_f (Int_spec (z := 1) (by omega) (by omega) (by omega)) (by omega) fun w7 h7 p7 hw7 => ?_
    have n7 := p7.next
    obtain ⟨A7, k7, c7, rfl⟩ := hw7.shape
    have hq : QV h7.blks h7.next C 1 (.agg #[.bool (decide (C < 0)), .slice A6 k6' c6, .bool (decide ((1 : Int) < 0)), .slice A7 k7 c7]) := ⟨A6, A7, k6', k7, c6, c7, rfl, (hw6.pres p7 nlr).wide n7, hw7⟩
    simp (disch := omega) only [go_sem,reduceIte,nqD,nqL, build64]
    refine CallO_f (Is_spec (N := h7.next) (x := decZ C) (by omega) nlr hq hsd (sd64 (by decide)) (by omega)) (by omega) fun w8 h8 p8 hw8 => ?_
    rw [hin] at hw8
    subst hw8
    simp (disch := omega) only [go_sem,reduceIte,nqD,nqL, d00]
    exact hQ' _ _ ⟨((pr5.trans (p6.le (by omega))).trans (p7.le (by omega))).trans (p8.le (by omega)), rfl⟩
end
end Go.Proofs.YthankillfhmfkaaGreatDoor.Ev
