/- The law HideCodes. -/
import Derived.Test.YtnhbkoeomefkdaaDoorPmhM1
import Derived.Test.YtnhbkoeomefkdaaDoorPmhLM
set_option linter.unusedVariables false
set_option linter.unusedSimpArgs false
namespace Go.Proofs.YtnhbkoeomefkdaaDoor.Ev.L
open Go Go.Proofs Go.Proofs.YtnhbkoeomefkdaaDoor.Ev
noncomputable section

theorem sqCells_toL : ∀ {O : List Sq}, (∀ q ∈ O, 0 ≤ q.1) → sqCells (O.map toL) = sqc O
  | [], _ => rfl
  | q :: O, h => by
    have h0 := h q List.mem_cons_self
    have ih := sqCells_toL (O := O) fun p hp => h p (List.mem_cons_of_mem _ hp)
    have e1 : sqCells ((q :: O).map toL) = [.int .i64 ((q.1.toNat : Nat) : Int), .int .i64 q.2.1, .int .i64 q.2.2] ++ sqCells (O.map toL) := rfl
    have e2 : sqc (q :: O) = [.int .i64 q.1, .int .i64 q.2.1, .int .i64 q.2.2] ++ sqc O := rfl
    rw [e1, e2, ih, show ((q.1.toNat : Nat) : Int) = q.1 by omega]

set_option maxRecDepth 100000 in
set_option maxHeartbeats 16000000 in
theorem law_HideCodes {G lo hi c turn : Nat} {zs : List Nat} {A : Option Addr} {h : H} (hG : G ≤ h.next) (hG3 : 3 ≤ G) (hhi : hi ≤ h.next) (ht : TabsIn tabs h.blks) (hv : SlV h.blks lo hi 1 zs.length (u8s zs) (.slice A zs.length c)) (hz : ∀ z ∈ zs, z ≤ 255) (hn : zs.length < 4611686018427387904) (htn : turn ≤ 255) :
    Spec Tryd.prog (En G) 9 [.slice A zs.length c, .int .u8 turn] h fun v _ => v = .bool true := by
  have k0 : decide ((0 : Int) ≠ 0) = false := rfl
  have k3 : decide ((0 : Int) = 0) = true := rfl
  refine CallsE_enter (En_known (by decide)) (En_f.trans Tryd.func9) rfl ⟨Nat.le_of_ble_eq_true rfl, by decide⟩ fun Q' hQ' => ?_
  simp only [Tryd.f9, go_sem,reduceIte,Nat.reduceEqDiff,Nat.reduceLT]
  refine CallO_f (made_spec (most := 24) hG hhi hv hz hn (by omega) (by omega)) (by omega) fun u h1 ph1 ⟨A1, L0, w, hh, hu, hmk, hw, hht, hL24, hs1⟩ => ?_
  subst hu
  have n1 := ph1.next
  have hL0 : 0 < L0.length := (hmk.cov (by omega) (by omega)).1.1
  have ht1 := ht.le ph1 (by omega)
  obtain ⟨k, hk⟩ : ∃ k : Nat, k = turn % L0.length := ⟨_, rfl⟩
  have hkl : k < L0.length := by rw [hk]; exact Nat.mod_lt _ hL0
  simp (disch := omega) only [go_sem,reduceIte,Nat.reduceEqDiff,Nat.reduceLT, conv53 htn, len22, tm_nat, ← hk]
  refine WK_regionT 8 ⟨by kernel_rfl, by kernel_rfl, by kernel_rfl⟩ ?_
  refine At_lit0 u22 i61 zero61 (by rw [size61]; rfl) (by omega) ?_
  obtain ⟨Ad, cd, hsd, hd1⟩ := sliceO_drop (E := En G) (kd := .i64) (m := k) u22 i61 size61 hs1 (by omega)
  rw [sqc_dropn] at hd1
  simp only [go_sem,reduceIte,Nat.reduceEqDiff,Nat.reduceLT, Option.toList_some, Option.toList_none, hsd]
  refine At_appendF (M := sqc (L0.drop k)) (m := L0.length - k) (v := .slice Ad (L0.length - k) cd) u22 u22 i61 zero61 (by rw [size61, bytes61]; rfl) (by simp only [go_sem,reduceIte,Nat.reduceEqDiff,Nat.reduceLT]) (by simp only [go_sem,reduceIte,Nat.reduceEqDiff,Nat.reduceLT]) (by rw [size61]; exact hd1) (by omega) sqc_one (by omega) fun A2 h2 pr2 hs2 => ?_
  rw [size61] at hs2
  have n2 := pr2.next
  have hs1' := hs1.mono (B' := h2.blks) fun b _ hb => pr2.get b (by omega)
  obtain ⟨At', ct, hst, hd2⟩ := sliceO_take (E := En G) (kd := .i64) (m := k) u22 i61 size61 hs1' (by omega)
  rw [sqc_take] at hd2
  simp only [go_sem,reduceIte,Nat.reduceEqDiff,Nat.reduceLT, Option.toList_some, Option.toList_none, hst]
  refine At_append2 (lo := h1.next) (hi := h2.next) (L := sqc (L0.drop k)) (M := sqc (L0.take k)) (sl := L0.length - k) (m := k) (A := A2) (v := .slice At' k ct) u22 u22 i61 zero61 (by rw [size61, bytes61]; rfl) (by simp only [go_sem,reduceIte,Nat.reduceEqDiff,Nat.reduceLT]) (by rw [size61]; exact hs2) (Nat.le_refl _) (by show G ≤ h1.next; omega) (by omega) (by simp only [go_sem,reduceIte,Nat.reduceEqDiff,Nat.reduceLT]) (by rw [size61]; exact hd2) (by omega) sqc_one (by omega) fun A3 h3 pr3 hs3 => ?_
  rw [size61, ← sqc_app] at hs3
  obtain ⟨L, hL⟩ : ∃ L, L = L0.drop k ++ L0.take k := ⟨_, rfl⟩
  have hLl : L.length = L0.length - k + k := by rw [hL, List.length_append, List.length_drop, List.length_take]; omega
  have hperm : L.Perm L0 := by
    rw [hL]
    exact List.perm_append_comm.trans (by rw [List.take_append_drop])
  rw [← hL, ← hLl] at hs3
  rw [← hLl]
  have hmkL := hmk.perm hperm
  obtain ⟨hcov, hwid, hhei⟩ := hmkL.cov (by omega) (by omega)
  have hok := hmkL.ok (by omega) (by omega)
  have hl24 : L.length ≤ 24 := by omega
  have hchk := chk_ok (by omega) hok hcov
  have hL1 : 0 < L.length := by omega
  have n3 := pr3.next
  have pr13 : Pres h1.next h1 h3 := pr2.trans pr3
  have pr03 : Pres h.next h h3 := ph1.trans (pr13.le (by omega))
  have ht3 := ht.le pr03 (by omega)
  clear hs1 hs1' hd1 hd2 hs2
  simp only [go_sem,reduceIte,Nat.reduceEqDiff,Nat.reduceLT]
  refine CallO_f (Measure_spec (by omega) hG3 (Nat.le_refl _) ht3 hs3 (by omega)) (by omega) fun u h4 ph4 hm => ?_
  have hu : u = .tuple #[.int .i64 w, .int .i64 hh, .int .i64 0] := by
    rcases hm with ⟨_, hm⟩ | ⟨hm, _⟩
    · rw [hm, hwid, hhei]
    · exact absurd hchk hm
  subst hu
  have n4 := ph4.next
  have hs4 := hs3.mono (B' := h4.blks) fun b _ hb => ph4.get b hb
  have ht4 := ht3.le ph4 (by omega)
  have pr04 : Pres h.next h h4 := pr03.trans (ph4.le (by omega))
  simp only [go_sem,reduceIte,Nat.reduceEqDiff,Nat.reduceLT]
  refine CallO_f (Code_spec (by omega) hG3 (by omega) ht4 hs4 (by omega)) (by omega) fun u h5 ph5 hc => ?_
  obtain ⟨A5, hu, hs5⟩ : ∃ A', u = .tuple #[.slice A' L.length L.length, .int .i64 0] ∧ SlV h5.blks h4.next h5.next 1 L.length (ints (szs (ordSq L))) (.slice A' L.length L.length) := by
    rcases hc with ⟨_, hc⟩ | ⟨hc, _⟩
    · exact hc
    · exact absurd hchk hc
  subst hu
  have n5 := ph5.next
  have hs45 := hs4.mono (B' := h5.blks) fun b _ hb => ph5.get b (by omega)
  have ht5 := ht4.le ph5 (by omega)
  have pr05 : Pres h.next h h5 := pr04.trans (ph5.le (by omega))
  simp only [go_sem,reduceIte,Nat.reduceEqDiff,Nat.reduceLT]
  refine CallO_f (hideLay_spec (w := (w : Int)) (L := szs (ordSq L)) (by omega) hs5 (Nat.le_refl _) (by omega)) (by omega) fun u h6 ph6 hlr => ?_
  have hol : (ordSq L).length = L.length := ordSq_perm.length_eq
  have hmemO : ∀ q ∈ ordSq L, q ∈ L := fun q hq => ordSq_perm.mem_iff.1 hq
  have hszl : (szs (ordSq L)).length = L.length := by rw [List.length_map, hol]
  have hcode := lay_code (W := w) hok hcov hwid
  have hpos : ∀ q ∈ ordSq L, 0 ≤ q.1 := fun q hq => (hok q (hmemO q hq)).2.2.1.1
  have hgood : szs (ordSq L) ≠ [] ∧ sideOk (w : Int) = true ∧ (szs (ordSq L)).all sideOk = true := by
    refine ⟨fun e => ?_, sideOk_iff.2 ⟨by have := hmkL.w1; omega, by omega⟩, List.all_eq_true.2 fun z hz => ?_⟩
    · rw [e] at hszl; simp at hszl; omega
    · obtain ⟨q, hq, rfl⟩ := List.mem_map.1 hz
      obtain ⟨a1, a2, _⟩ := hok q (hmemO q hq)
      exact sideOk_iff.2 ⟨a1, a2⟩
  obtain ⟨A6, hu, hs6⟩ : ∃ A', u = .tuple #[.slice A' L.length L.length, .int .i64 0] ∧ SlV h6.blks h5.next h6.next 3 L.length (sqc (ordSq L)) (.slice A' L.length L.length) := by
    have htoN : ((w : Int)).toNat = w := by omega
    rcases hlr with ⟨g, _⟩ | ⟨_, g, _⟩ | ⟨_, _, g, _⟩ | ⟨_, _, sq, B, g1, g2, g3⟩
    · omega
    · exact absurd hgood g
    · rw [htoN] at g
      rw [show szs (ordSq L) = (ordSq L).map fun q => q.2.2 from rfl, hcode] at g
      cases g
    · rw [htoN] at g1
      rw [show szs (ordSq L) = (ordSq L).map fun q => q.2.2 from rfl, hcode] at g1
      injection g1 with g1
      subst g1
      rw [sqCells_toL hpos, List.length_map, hol] at g3
      rw [List.length_map, hol] at g2
      exact ⟨B, g2, g3⟩
  subst hu
  have n6 := ph6.next
  have hs46 := hs45.mono (B' := h6.blks) fun b _ hb => ph6.get b (by omega)
  have ht6 := ht5.le ph6 (by omega)
  have pr06 : Pres h.next h h6 := pr05.trans (ph6.le (by omega))
  simp (maxSteps := 3000000) only [go_sem,reduceIte,Nat.reduceEqDiff,Nat.reduceLT, k0]
  refine CallO_f (Order_spec (by omega) (by omega) hs46 (by omega)) (by omega) fun u h7 ph7 ⟨A7, O, hu, hpm, hsO, hs7⟩ => ?_
  subst hu
  have hOO := srt_unique hok hcov.2.1 hpm hsO
  subst hOO
  have n7 := ph7.next
  have hs67 := hs6.mono (B' := h7.blks) fun b _ hb => ph7.get b (by omega)
  have ht7 := ht6.le ph7 (by omega)
  have pr07 : Pres h.next h h7 := pr06.trans (ph7.le (by omega))
  have hlm : ((ordSq L).map toL).length = L.length := by rw [List.length_map, hol]
  simp (maxSteps := 3000000) only [go_sem,reduceIte,Nat.reduceEqDiff,Nat.reduceLT, k0]
  refine CallO_f (by
    have := sqSame_spec (G := G) (l := (ordSq L).map toL) (h := h7) (A1 := A6) (A2 := A7) (c1 := L.length) (c2 := L.length) (by rw [sqCells_toL hpos, hlm]; exact hs67) (by rw [sqCells_toL hpos, hlm]; exact hs7) (by omega)
    rw [hlm] at this
    exact this) (by omega) fun u h8 ph8 hu => ?_
  subst hu
  have n8 := ph8.next
  have hs68 := hs67.mono (B' := h8.blks) fun b _ hb => ph8.get b (by omega)
  have ht8 := ht7.le ph8 (by omega)
  have pr08 : Pres h.next h h8 := pr07.trans (ph8.le (by omega))
  simp (maxSteps := 3000000) only [go_sem,reduceIte,Nat.reduceEqDiff,Nat.reduceLT, k0]
  refine Call_lives ht8 (by omega) ?_
  simp (maxSteps := 3000000) only [go_sem,reduceIte,Nat.reduceEqDiff,Nat.reduceLT, k0]
  have hokO : ∀ q ∈ ordSq L, okSq q := fun q hq => hok q (hmemO q hq)
  have hmkO := hmkL.perm ordSq_perm
  obtain ⟨hcovO, hwidO, hheiO⟩ := hmkO.cov (by omega) (by omega)
  have hchkO := chk_ok (by omega) hokO hcovO
  rw [← hol] at hs68 ⊢
  refine CallO_f (Measure_spec (by omega) hG3 (by omega) ht8 hs68 (by omega)) (by omega) fun u h9 ph9 hm => ?_
  have hu : u = .tuple #[.int .i64 w, .int .i64 hh, .int .i64 0] := by
    rcases hm with ⟨_, hm⟩ | ⟨hm, _⟩
    · rw [hm, hwidO, hheiO]
    · exact absurd hchkO hm
  subst hu
  have kw : decide ((w : Int) = (w : Int)) = true := decide_eq_true rfl
  have kh : decide ((hh : Int) = (hh : Int)) = true := decide_eq_true rfl
  have pr09 : Pres h.next h h9 := pr08.trans (ph9.le (by omega))
  simp (maxSteps := 3000000) only [go_sem,reduceIte,Nat.reduceEqDiff,Nat.reduceLT, k0, k3, kw, kh]
  exact hQ' _ _ ⟨pr09, rfl⟩
end
end Go.Proofs.YtnhbkoeomefkdaaDoor.Ev.L

