/- Shuffled seams; appends of bytes; Least. -/
import Derived.Test.YthankillfhmfkaaGreatDoorPmsD1
import Derived.Test.YthankillfhmfkaaGreatDoorPmsR2
set_option linter.unusedSimpArgs false
set_option linter.unusedVariables false
namespace Go.Proofs.YthankillfhmfkaaGreatDoor.Ev
open Go Go.Proofs
noncomputable section

theorem pc_sym' (ps : List (Int × Int)) (a b : Nat) : pc ps a b = pc ps b a := by
  unfold pc
  congr 1
  funext p
  simp only [decide_eq_decide]
  exact or_comm
section
variable {P : Program} {E : Env} {n : Nat} {ops : List Oper} {q : Bool} {r tl : List Oper} {k : List Frm} {α : Tr Value} {h : H} {R : Rt} {ty : TypeId} {pos : String} {af : Array Edge}
end

set_option maxHeartbeats 16000000 in
theorem shuffled_spec {G lo hi n c lo2 hi2 n2 c2 k : Nat} {A A2 : Option Addr} {ps : List (Int × Int)} {s : List UInt8} {by0 : List UInt8} {h : H} (hv : SlV h.blks lo hi 2 n (prs ps) (.slice A n c)) (hn : n < 2147483648) (hk : k ≤ 6) (hps : OkP k ps)
    (hv2 : SlV h.blks lo2 hi2 1 n2 (byts by0) (.slice A2 n2 c2)) (hn2 : n2 < 4611686018427387904) (hs : OkL 6 s) (hsl : s.length < 1000) :
    Spec Tryz.prog (En G) 50 [.slice A n c, strV s, .slice A2 n2 c2] h fun v h' => (∃ t, v = strV t ∧ Sw (pc ps) s t) ∧ h' = h := by
  have hl : by0.length = n2 := by have := hv2.len; rw [byts_len] at this; omega
  refine CallsE_enter (En_known (by decide)) (En_f.trans Tryz.func50) rfl ⟨Nat.le_of_ble_eq_true rfl, by decide⟩ fun Q' hQ' => ?_
  simp only [Tryz.f50, go_sem,reduceIte,Nat.reduceEqDiff,Nat.reduceLT]
  refine WK_loopN (fun j α h2 => ∃ (i : Nat) (t : List UInt8), h2 = h ∧ j + i = n2 ∧ Sw (pc ps) s t ∧ α.get 0 = some (.slice A n c) ∧ α.get 1 = some (strV t) ∧ α.get 2 = some (.slice A2 n2 c2) ∧ α.get 7 = some (.int .i64 i)) n2
    ⟨0, s, rfl, by omega, .refl _, by simp only [go_sem,reduceIte,Nat.reduceEqDiff,Nat.reduceLT], by simp only [go_sem,reduceIte,Nat.reduceEqDiff,Nat.reduceLT], by simp only [go_sem,reduceIte,Nat.reduceEqDiff,Nat.reduceLT], by simp only [go_sem,reduceIte,Nat.reduceEqDiff,Nat.reduceLT]; rfl⟩ hn2 ?_
  rintro J j α h2 ⟨i, t, rfl, hij, hsw, e0, e1, e2, e7⟩ hJ
  have htl := hsw.len
  have ht : OkL 6 t := fun c hc => hs c ((hsw.mem c).2 hc)
  by_cases hlt : (i : Int) < n2
  · have d1 : decide ((i : Int) < n2) = true := decide_eq_true hlt
    by_cases hlt2 : 1 < t.length
    · have d2 : decide ((1 : Int) < t.length) = true := decide_eq_true (by omega)
      obtain ⟨ch, hc⟩ : ∃ ch, by0[i]? = some ch := ⟨by0[i]'(by omega), List.getElem?_eq_getElem (by omega)⟩
      obtain ⟨b, off, rfl, _, _, hld⟩ := hv2.at_ (by omega)
      have l1 := hld i (by omega)
      rw [byts_get hc] at l1
      have hlen1 : (t.length : Int) - 1 = ((t.length - 1 : Nat) : Int) := by omega
      have hka : ((t.length - 1 : Nat) : Int) ≠ 0 := by omega
      have hrm : ch.toNat % (t.length - 1) < t.length - 1 := Nat.mod_lt _ (by omega)
      have hjn : j - 1 < j := by omega
      simp (disch := omega) only [go_sem,reduceIte,Nat.reduceEqDiff,Nat.reduceLT, e0, e1, e2, e7, len73, d1, d2, idxA73, load5, Int.toNat_natCast, Nat.mul_one, l1, hlen1, binO_rem hka, tmod_nat, wrap_i64]
      generalize ch.toNat % (t.length - 1) = rr at hrm ⊢
      obtain ⟨c1, hc1⟩ : ∃ c1, t[rr]? = some c1 := ⟨t[rr]'(by omega), List.getElem?_eq_getElem (by omega)⟩
      obtain ⟨c2', hc2⟩ : ∃ c2, t[rr + 1]? = some c2 := ⟨t[rr + 1]'(by omega), List.getElem?_eq_getElem (by omega)⟩
      have o1 := ht c1 (List.mem_of_getElem? hc1)
      have o2 := ht c2' (List.mem_of_getElem? hc2)
      have hix1 : ∀ {G : Nat}, idxO (En G) 9 (some (strV t)) (some (.int .i64 (rr : Int))) = some (.int .u8 c1.toNat) := idx9 (by omega) (by simpa using hc1)
      have hix2 : ∀ {G : Nat}, idxO (En G) 9 (some (strV t)) (some (.int .i64 ((rr : Int) + 1))) = some (.int .u8 c2'.toNat) := idx9 (by omega) (by rw [show ((rr : Int) + 1).toNat = rr + 1 by omega]; exact hc2)
      refine WK_regionT 8 ⟨by kernel_rfl, by kernel_rfl, by kernel_rfl⟩ ?_
      simp (disch := omega) only [go_sem,reduceIte,Nat.reduceEqDiff,Nat.reduceLT, e0, e1, e2, e7, wrap_i64, hix1, hix2]
      refine CallO_same (free_spec hv hn hk hps o1.1 o2.1) (by omega) fun u hu => ?_
      subst hu
      cases hcm : pc ps (lt c1) (lt c2')
      · simp (disch := omega) only [go_sem,reduceIte,Nat.reduceEqDiff,Nat.reduceLT, e0, e1, e2, e7, wrap_i64]
        exact hJ (j - 1) _ _ hjn ⟨i + 1, t, rfl, by omega, hsw, by simp only [go_sem,reduceIte,Nat.reduceEqDiff,Nat.reduceLT, e0], by simp only [go_sem,reduceIte,Nat.reduceEqDiff,Nat.reduceLT, e1], by simp only [go_sem,reduceIte,Nat.reduceEqDiff,Nat.reduceLT, e2], by simp only [go_sem,reduceIte,Nat.reduceEqDiff,Nat.reduceLT]; rfl⟩
      · obtain ⟨g1, gc1⟩ := List.getElem?_eq_some_iff.1 hc1
        obtain ⟨g2, gc2⟩ := List.getElem?_eq_some_iff.1 hc2
        have hin1 : (t.take (((rr : Int) + 2).toNat)).drop (((rr : Int) + 1).toNat) = [c2'] := by
          rw [show (((rr : Int) + 2).toNat) = rr + 2 by omega, show (((rr : Int) + 1).toNat) = rr + 1 by omega, List.drop_take, List.drop_eq_getElem_cons g2, gc2]
          simp
        have hin2 : (t.take (((rr : Int) + 1).toNat)).drop (((rr : Int)).toNat) = [c1] := by
          rw [show (((rr : Int) + 1).toNat) = rr + 1 by omega, Int.toNat_natCast, List.drop_take, List.drop_eq_getElem_cons g1, gc1]
          simp
        have hta : t.take (((rr : Int)).toNat) = t.take rr := by rw [Int.toNat_natCast]
        have hdr : t.drop (((rr : Int) + 2).toNat) = t.drop (rr + 2) := by rw [show (((rr : Int) + 2).toNat) = rr + 2 by omega]
        have a1 : ∀ {ty : TypeId}, binO Tryz.prog (En G) .add ty (some (strV (t.take rr))) (some (strV [c2'])) = some (strV (t.take rr ++ [c2'])) := add_str (by simp; omega)
        have a2 : ∀ {ty : TypeId}, binO Tryz.prog (En G) .add ty (some (strV (t.take rr ++ [c2']))) (some (strV [c1])) = some (strV ((t.take rr ++ [c2']) ++ [c1])) := add_str (by simp; omega)
        have a3 : ∀ {ty : TypeId}, binO Tryz.prog (En G) .add ty (some (strV ((t.take rr ++ [c2']) ++ [c1]))) (some (strV (t.drop (rr + 2)))) = some (strV (((t.take rr ++ [c2']) ++ [c1]) ++ t.drop (rr + 2))) := add_str (by simp; omega)
        simp only [go_sem,reduceIte,Nat.reduceEqDiff,Nat.reduceLT]
        refine WK_regionT 20 ⟨by kernel_rfl, by kernel_rfl, by kernel_rfl⟩ ?_
        simp (maxSteps := 400000) (disch := omega) only [go_sem,reduceIte,Nat.reduceEqDiff,Nat.reduceLT, e0, e1, e2, e7, wrap_i64, hin1, hin2, hta, hdr, a1, a2, a3]
        have hne : lt c1 ≠ lt c2' := fun e => by
          rw [e] at hcm
          unfold pc at hcm
          obtain ⟨p, hp, hp2⟩ := List.any_eq_true.1 hcm
          have := hps p hp
          simp only [decide_eq_true_eq] at hp2
          omega
        have hsplit : t = t.take rr ++ (c1 :: c2' :: t.drop (rr + 2)) := by
          have h1 : t.drop rr = c1 :: c2' :: t.drop (rr + 2) := by rw [List.drop_eq_getElem_cons g1, gc1, List.drop_eq_getElem_cons g2, gc2]
          rw [← h1, List.take_append_drop]
        have hnew : Sw (pc ps) t (((t.take rr ++ [c2']) ++ [c1]) ++ t.drop (rr + 2)) := by
          have h2 : ((t.take rr ++ [c2']) ++ [c1]) ++ t.drop (rr + 2) = t.take rr ++ (c2' :: c1 :: t.drop (rr + 2)) := by simp
          rw [h2]
          have h3 := (Sw.swap c1 c2' (t.drop (rr + 2)) hne hcm (by rw [pc_sym']; exact hcm)).left (t.take rr)
          rw [← hsplit] at h3
          exact h3
        exact hJ (j - 1) _ _ hjn ⟨i + 1, _, rfl, by omega, hsw.trans hnew, by simp only [go_sem,reduceIte,Nat.reduceEqDiff,Nat.reduceLT, e0], by simp only [go_sem,reduceIte,Nat.reduceEqDiff,Nat.reduceLT], by simp only [go_sem,reduceIte,Nat.reduceEqDiff,Nat.reduceLT, e2], by simp only [go_sem,reduceIte,Nat.reduceEqDiff,Nat.reduceLT]; rfl⟩
    · have d2 : decide ((1 : Int) < t.length) = false := decide_eq_false (by omega)
      simp (disch := omega) only [go_sem,reduceIte,Nat.reduceEqDiff,Nat.reduceLT, e0, e1, e2, e7, len73, d1, d2]
      exact hQ' _ _ ⟨Pres.refl _ _, ⟨t, rfl, hsw⟩, rfl⟩
  · have d1 : decide ((i : Int) < n2) = false := decide_eq_false hlt
    simp (disch := omega) only [go_sem,reduceIte,Nat.reduceEqDiff,Nat.reduceLT, e0, e1, e2, e7, len73, d1]
    exact hQ' _ _ ⟨Pres.refl _ _, ⟨t, rfl, hsw⟩, rfl⟩

set_option maxHeartbeats 8000000 in
theorem Least_spec {G lo hi n c : Nat} {k : Int} {A : Option Addr} {ps : List (Int × Int)} {s : List UInt8} {h : H} (hG : G ≤ h.next) (hv : SlV h.blks lo hi 2 n (prs ps) (.slice A n c)) (hhi : hi ≤ h.next) (hn : n < 1000000) (hs : s.length < 1000000) :
    Spec Tryz.prog (En G) 21 [.int .i64 k, .slice A n c, strV s] h fun v _ => (chkE k ps 40 [s] ≠ 0 ∧ v = .tuple #[strV [], .int .i64 (chkE k ps 40 [s])]) ∨
      (chkE k ps 40 [s] = 0 ∧ v = .tuple #[strV (lst (pc ps) k.toNat s), .int .i64 0]) := by
  refine CallsE_enter (En_known (by decide)) (En_f.trans Tryz.func21) rfl ⟨Nat.le_of_ble_eq_true rfl, by decide⟩ fun Q' hQ' => ?_
  simp only [Tryz.f21, go_sem,reduceIte,Nat.reduceEqDiff,Nat.reduceLT]
  refine At_lit (vs := [(0, strV s)]) (cs := #[strV s]) u28 i9 zero9 (by rw [size9]; rfl) (by simp only [go_sem,reduceIte,Nat.reduceEqDiff,Nat.reduceLT]) (by rw [size9]; rfl) (by omega) fun h1 hn1 => ?_
  rw [size9] at hn1
  have n1 := hn1.next
  have hls := hn1.slv (n := 1) (c := 1) rfl
  have pr1 : Pres h.next h h1 := hn1.pres (Nat.le_refl _)
  simp only [go_sem,reduceIte,Nat.reduceEqDiff,Nat.reduceLT]
  refine CallO_f (checked_spec (k := k) (most := 40) (ls := [s]) (by omega) (hv.mono fun b _ hb => pr1.get b (by omega)) (by omega) hn hls (Nat.le_refl _) (by omega) (fun x hx => by
    rw [List.mem_singleton.1 hx]; exact hs)) (by omega) fun u h2 hp2 hu => ?_
  have n2 := hp2.next
  have pr2 : Pres h.next h h2 := pr1.trans (hp2.le (by omega))
  rcases hu with ⟨hE, rfl⟩ | ⟨hE, m, hm, hmc, rfl⟩
  · have d : decide (chkE k ps 40 [s] ≠ 0) = true := decide_eq_true hE
    try simp only [go_sem,reduceIte,Nat.reduceEqDiff,Nat.reduceLT]
    refine At_alloc i95 zero74 rfl (by omega) fun h3 hn3 => ?_
    have n3 := hn3.next
    try simp only [go_sem,reduceIte,Nat.reduceEqDiff,Nat.reduceLT]
    refine At_storeV (inf := inf95) (v := thrV 0 nilM) i95 (by simp only [go_sem,reduceIte,Nat.reduceEqDiff,Nat.reduceLT]) (by simp only [go_sem,reduceIte,Nat.reduceEqDiff,Nat.reduceLT]) hn3.var (by rw [size95]; rfl) (by rw [size95]; rfl) rfl (by show G ≤ h2.next; omega) fun h4 hs4 _ => ?_
    simp only [go_sem,reduceIte,Nat.reduceEqDiff,Nat.reduceLT, d]
    exact hQ' _ _ ⟨pr2.trans ((hn3.pres (by omega)).trans (hs4.pres (by omega))), .inl ⟨hE, rfl⟩⟩
  · obtain ⟨hT, hall⟩ := chk_ok hE
    obtain ⟨k1, k6, _, hps⟩ := okT_okP hT
    have os := okc_okL (by omega) (hall s (by simp)).2
    obtain ⟨k', rfl⟩ := Int.eq_ofNat_of_zero_le (a := k) (by omega)
    rw [Int.toNat_natCast] at os
    have d : decide ((0 : Int) ≠ 0) = false := rfl
    try simp only [go_sem,reduceIte,Nat.reduceEqDiff,Nat.reduceLT]
    refine At_alloc i95 zero74 rfl (by omega) fun h3 hn3 => ?_
    have n3 := hn3.next
    try simp only [go_sem,reduceIte,Nat.reduceEqDiff,Nat.reduceLT]
    refine At_storeV (inf := inf95) (v := thrV k' m) i95 (by simp only [go_sem,reduceIte,Nat.reduceEqDiff,Nat.reduceLT]) (by simp only [go_sem,reduceIte,Nat.reduceEqDiff,Nat.reduceLT]) hn3.var (by rw [size95, ← Array.length_toList, thrV_cells, thrL_len, hm]) (by rw [size95]; rfl) (by rw [thrV_cells]; simp [thrL, oneB]) (by show G ≤ h2.next; omega) fun h4 hs4 v10 => ?_
    rw [thrV_cells] at v10
    have n4 := hs4.next
    have la := thr_loadA (G := G) v10 hm
    simp only [go_sem,reduceIte,Nat.reduceEqDiff,Nat.reduceLT, d, la]
    refine CallO_f (least_spec (k := k') (by omega) hm (by omega) (os.mono (by omega)) hs) (by omega) fun u h5 hp5 hu => ?_
    subst hu
    simp only [go_sem,reduceIte,Nat.reduceEqDiff,Nat.reduceLT]
    refine hQ' _ _ ⟨pr2.trans ((hn3.pres (by omega)).trans ((hs4.pres (by omega)).trans (hp5.le (by omega)))), .inr ⟨hE, ?_⟩⟩
    rw [Int.toNat_natCast, lst_congr (cm' := pc ps) (K := 6) hmc (by omega) (os.mono (by omega))]
end
end Go.Proofs.YthankillfhmfkaaGreatDoor.Ev


