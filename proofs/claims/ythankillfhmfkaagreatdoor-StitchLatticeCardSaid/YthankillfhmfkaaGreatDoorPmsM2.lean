/- Meet and Join, by the program and by the reference. -/
import Derived.Test.YthankillfhmfkaaGreatDoorPmAA
import Derived.Test.YthankillfhmfkaaGreatDoorPmsM1
set_option linter.unusedSimpArgs false
set_option linter.unusedVariables false
namespace Go.Proofs.YthankillfhmfkaaGreatDoor.Ev
open Go Go.Proofs
noncomputable section

/-- what Join answers -/
def joinL (cm : Nat → Nat → Bool) (K : Nat) (r : List UInt8 × List UInt8 × List UInt8) : List UInt8 := lst cm K ((r.1 ++ r.2.1) ++ r.2.2)
theorem OkL.append {k : Nat} {a b : List UInt8} (ha : OkL k a) (hb : OkL k b) : OkL k (a ++ b) := fun c hc => (List.mem_append.1 hc).elim (ha c) (hb c)

set_option maxHeartbeats 8000000 in
theorem Meet_spec {G lo hi n c : Nat} {k : Int} {A : Option Addr} {ps : List (Int × Int)} {s t : List UInt8} {h : H} (hG : G ≤ h.next) (hv : SlV h.blks lo hi 2 n (prs ps) (.slice A n c)) (hhi : hi ≤ h.next) (hn : n < 1000000) (hs : s.length < 1000000) (ht : t.length < 1000000) :
    Spec Tryz.prog (En G) 42 [.int .i64 k, .slice A n c, strV s, strV t] h fun v _ => (chkE k ps 40 [s, t] ≠ 0 ∧ v = .tuple #[strV [], .int .i64 (chkE k ps 40 [s, t])]) ∨
      (chkE k ps 40 [s, t] = 0 ∧ v = .tuple #[strV (mt (pc ps) 6 s t).1, .int .i64 0]) := by
  refine CallsE_enter (En_known (by decide)) (En_f.trans Tryz.func42) rfl ⟨Nat.le_of_ble_eq_true rfl, by decide⟩ fun Q' hQ' => ?_
  simp only [Tryz.f42, go_sem,reduceIte,Nat.reduceEqDiff,Nat.reduceLT]
  refine At_lit (vs := [(0, strV s), (1, strV t)]) (cs := #[strV s, strV t]) u28 i9 zero9 (by rw [size9]; rfl) (by simp only [go_sem,reduceIte,Nat.reduceEqDiff,Nat.reduceLT]) (by rw [size9]; rfl) (by omega) fun h1 hn1 => ?_
  rw [size9] at hn1
  have n1 := hn1.next
  have hls := hn1.slv (n := 2) (c := 2) rfl
  have pr1 : Pres h.next h h1 := hn1.pres (Nat.le_refl _)
  simp only [go_sem,reduceIte,Nat.reduceEqDiff,Nat.reduceLT]
  refine CallO_f (checked_spec (k := k) (most := 40) (ls := [s, t]) (by omega) (hv.mono fun b _ hb => pr1.get b (by omega)) (by omega) hn hls (Nat.le_refl _) (by omega) (fun x hx => by
    rcases List.mem_cons.1 hx with rfl | hx
    · exact hs
    · rw [List.mem_singleton.1 hx]; exact ht)) (by omega) fun u h2 hp2 hu => ?_
  have n2 := hp2.next
  have pr2 : Pres h.next h h2 := pr1.trans (hp2.le (by omega))
  rcases hu with ⟨hE, rfl⟩ | ⟨hE, m, hm, hmc, rfl⟩
  · have d : decide (chkE k ps 40 [s, t] ≠ 0) = true := decide_eq_true hE
    try simp only [go_sem,reduceIte,Nat.reduceEqDiff,Nat.reduceLT]
    refine At_alloc i95 zero74 rfl (by omega) fun h3 hn3 => ?_
    have n3 := hn3.next
    try simp only [go_sem,reduceIte,Nat.reduceEqDiff,Nat.reduceLT]
    refine At_storeV (inf := inf95) (v := thrV 0 nilM) i95 (by simp only [go_sem,reduceIte,Nat.reduceEqDiff,Nat.reduceLT]) (by simp only [go_sem,reduceIte,Nat.reduceEqDiff,Nat.reduceLT]) hn3.var (by rw [size95]; rfl) (by rw [size95]; rfl) rfl (by show G ≤ h2.next; omega) fun h4 hs4 _ => ?_
    simp only [go_sem,reduceIte,Nat.reduceEqDiff,Nat.reduceLT, d]
    exact hQ' _ _ ⟨pr2.trans ((hn3.pres (by omega)).trans (hs4.pres (by omega))), .inl ⟨hE, rfl⟩⟩
  · obtain ⟨hT, hall⟩ := chk_ok hE
    obtain ⟨k1, k6, _, hps⟩ := okT_okP hT
    have os := okc_okL (by omega) (hall s (by simp)).2
    have ot := okc_okL (by omega) (hall t (by simp)).2
    obtain ⟨k', rfl⟩ := Int.eq_ofNat_of_zero_le (a := k) (by omega)
    rw [Int.toNat_natCast] at os ot
    have d : decide ((0 : Int) ≠ 0) = false := rfl
    try simp only [go_sem,reduceIte,Nat.reduceEqDiff,Nat.reduceLT]
    refine At_alloc i95 zero74 rfl (by omega) fun h3 hn3 => ?_
    have n3 := hn3.next
    try simp only [go_sem,reduceIte,Nat.reduceEqDiff,Nat.reduceLT]
    refine At_storeV (inf := inf95) (v := thrV k' m) i95 (by simp only [go_sem,reduceIte,Nat.reduceEqDiff,Nat.reduceLT]) (by simp only [go_sem,reduceIte,Nat.reduceEqDiff,Nat.reduceLT]) hn3.var (by rw [size95, ← Array.length_toList, thrV_cells, thrL_len, hm]) (by rw [size95]; rfl) (by rw [thrV_cells]; simp [thrL, oneB]) (by show G ≤ h2.next; omega) fun h4 hs4 v10 => ?_
    rw [thrV_cells] at v10
    have n4 := hs4.next
    have la := thr_loadA (G := G) v10 hm
    simp only [go_sem,reduceIte,Nat.reduceEqDiff,Nat.reduceLT, d, la]
    refine CallO_f (meet_spec (k := k') (by omega) hm (by omega) (os.mono (by omega)) (ot.mono (by omega)) hs ht) (by omega) fun u h5 hp5 hu => ?_
    subst hu
    have hsame : mt (mcomm m) k' s t = mt (pc ps) 6 s t := (mt_same (cm := pc ps) (cm' := mcomm m) (fun a b ha hb => (hmc a b ha hb).symm) (by omega) os (ot.mono (by omega))).symm
    rw [hsame]
    simp only [meetV, go_sem,reduceIte,Nat.reduceEqDiff,Nat.reduceLT]
    exact hQ' _ _ ⟨pr2.trans ((hn3.pres (by omega)).trans ((hs4.pres (by omega)).trans (hp5.le (by omega)))), .inr ⟨hE, rfl⟩⟩

set_option maxHeartbeats 8000000 in
theorem Join_spec {G lo hi n c : Nat} {k : Int} {A : Option Addr} {ps : List (Int × Int)} {s t : List UInt8} {h : H} (hG : G ≤ h.next) (hv : SlV h.blks lo hi 2 n (prs ps) (.slice A n c)) (hhi : hi ≤ h.next) (hn : n < 1000000) (hs : s.length < 1000) (ht : t.length < 1000) :
    Spec Tryz.prog (En G) 43 [.int .i64 k, .slice A n c, strV s, strV t] h fun v _ => (chkE k ps 40 [s, t] ≠ 0 ∧ v = .tuple #[strV [], .int .i64 (chkE k ps 40 [s, t])]) ∨
      (chkE k ps 40 [s, t] = 0 ∧ v = if allC (pc ps) (mt (pc ps) 6 s t).2.1 (mt (pc ps) 6 s t).2.2 = true then .tuple #[strV (joinL (pc ps) 6 (mt (pc ps) 6 s t)), .int .i64 0] else .tuple #[strV [], .int .i64 5]) := by
  refine CallsE_enter (En_known (by decide)) (En_f.trans Tryz.func43) rfl ⟨Nat.le_of_ble_eq_true rfl, by decide⟩ fun Q' hQ' => ?_
  simp only [Tryz.f43, go_sem,reduceIte,Nat.reduceEqDiff,Nat.reduceLT]
  refine At_lit (vs := [(0, strV s), (1, strV t)]) (cs := #[strV s, strV t]) u28 i9 zero9 (by rw [size9]; rfl) (by simp only [go_sem,reduceIte,Nat.reduceEqDiff,Nat.reduceLT]) (by rw [size9]; rfl) (by omega) fun h1 hn1 => ?_
  rw [size9] at hn1
  have n1 := hn1.next
  have hls := hn1.slv (n := 2) (c := 2) rfl
  have pr1 : Pres h.next h h1 := hn1.pres (Nat.le_refl _)
  simp only [go_sem,reduceIte,Nat.reduceEqDiff,Nat.reduceLT]
  refine CallO_f (checked_spec (k := k) (most := 40) (ls := [s, t]) (by omega) (hv.mono fun b _ hb => pr1.get b (by omega)) (by omega) hn hls (Nat.le_refl _) (by omega) (fun x hx => by
    rcases List.mem_cons.1 hx with rfl | hx
    · omega
    · rw [List.mem_singleton.1 hx]; omega)) (by omega) fun u h2 hp2 hu => ?_
  have n2 := hp2.next
  have pr2 : Pres h.next h h2 := pr1.trans (hp2.le (by omega))
  rcases hu with ⟨hE, rfl⟩ | ⟨hE, m, hm, hmc, rfl⟩
  · have d : decide (chkE k ps 40 [s, t] ≠ 0) = true := decide_eq_true hE
    try simp only [go_sem,reduceIte,Nat.reduceEqDiff,Nat.reduceLT]
    refine At_alloc i95 zero74 rfl (by omega) fun h3 hn3 => ?_
    have n3 := hn3.next
    try simp only [go_sem,reduceIte,Nat.reduceEqDiff,Nat.reduceLT]
    refine At_storeV (inf := inf95) (v := thrV 0 nilM) i95 (by simp only [go_sem,reduceIte,Nat.reduceEqDiff,Nat.reduceLT]) (by simp only [go_sem,reduceIte,Nat.reduceEqDiff,Nat.reduceLT]) hn3.var (by rw [size95]; rfl) (by rw [size95]; rfl) rfl (by show G ≤ h2.next; omega) fun h4 hs4 _ => ?_
    simp only [go_sem,reduceIte,Nat.reduceEqDiff,Nat.reduceLT, d]
    exact hQ' _ _ ⟨pr2.trans ((hn3.pres (by omega)).trans (hs4.pres (by omega))), .inl ⟨hE, rfl⟩⟩
  · obtain ⟨hT, hall⟩ := chk_ok hE
    obtain ⟨k1, k6, _, hps⟩ := okT_okP hT
    have os := okc_okL (by omega) (hall s (by simp)).2
    have ot := okc_okL (by omega) (hall t (by simp)).2
    obtain ⟨k', rfl⟩ := Int.eq_ofNat_of_zero_le (a := k) (by omega)
    rw [Int.toNat_natCast] at os ot
    have d : decide ((0 : Int) ≠ 0) = false := rfl
    try simp only [go_sem,reduceIte,Nat.reduceEqDiff,Nat.reduceLT]
    refine At_alloc i95 zero74 rfl (by omega) fun h3 hn3 => ?_
    have n3 := hn3.next
    try simp only [go_sem,reduceIte,Nat.reduceEqDiff,Nat.reduceLT]
    refine At_storeV (inf := inf95) (v := thrV k' m) i95 (by simp only [go_sem,reduceIte,Nat.reduceEqDiff,Nat.reduceLT]) (by simp only [go_sem,reduceIte,Nat.reduceEqDiff,Nat.reduceLT]) hn3.var (by rw [size95, ← Array.length_toList, thrV_cells, thrL_len, hm]) (by rw [size95]; rfl) (by rw [thrV_cells]; simp [thrL, oneB]) (by show G ≤ h2.next; omega) fun h4 hs4 v10 => ?_
    rw [thrV_cells] at v10
    have n4 := hs4.next
    have la := thr_loadA (G := G) v10 hm
    simp only [go_sem,reduceIte,Nat.reduceEqDiff,Nat.reduceLT, d, la]
    refine CallO_f (meet_spec (k := k') (by omega) hm (by omega) (os.mono (by omega)) (ot.mono (by omega)) (by omega) (by omega)) (by omega) fun u h5 hp5 hu => ?_
    subst hu
    have n5 := hp5.next
    have v5 := v10.mono (B' := h5.blks) (hp5.get _ (by omega))
    have la5 := thr_loadA (G := G) v5 hm
    have pr5 : Pres h.next h h5 := pr2.trans ((hn3.pres (by omega)).trans ((hs4.pres (by omega)).trans (hp5.le (by omega))))
    have hsame : mt (mcomm m) k' s t = mt (pc ps) 6 s t := (mt_same (cm := pc ps) (cm' := mcomm m) (fun a b ha hb => (hmc a b ha hb).symm) (by omega) os (ot.mono (by omega))).symm
    have hok := mt_ok (cm := mcomm m) (K := k') (by omega) _ rfl os ot
    rw [hsame] at hok ⊢
    obtain ⟨r, hr⟩ : ∃ r, mt (pc ps) 6 s t = r := ⟨_, rfl⟩
    rw [hr] at hok hQ' ⊢
    have hl1 := hok.l1
    have hl2 := hok.l2
    simp only [meetV, go_sem,reduceIte,Nat.reduceEqDiff,Nat.reduceLT, la5]
    refine CallO_f (allCommute_spec (k := k') (by omega) hm (hok.o2.mono (by omega)) (hok.o3.mono (by omega)) (by omega) (by omega)) (by omega) fun u h6 hp6 hu => ?_
    subst hu
    have n6 := hp6.next
    have v6 := v5.mono (B' := h6.blks) (hp6.get _ (by omega))
    have la6 := thr_loadA (G := G) v6 hm
    rw [allC_congr hmc (hok.o2.mono (by omega)) (hok.o3.mono (by omega))]
    cases hall2 : allC (pc ps) r.2.1 r.2.2
    · simp only [go_sem,reduceIte,Nat.reduceEqDiff,Nat.reduceLT]
      exact hQ' _ _ ⟨pr5.trans (hp6.le (by omega)), .inr ⟨hE, by rw [hall2]; rfl⟩⟩
    · have hb1 : ∀ {t : TypeId}, binO Tryz.prog (En G) .add t (some (strV r.1)) (some (strV r.2.1)) = some (strV (r.1 ++ r.2.1)) := add_str (by omega)
      have hb2 : ∀ {t : TypeId}, binO Tryz.prog (En G) .add t (some (strV (r.1 ++ r.2.1))) (some (strV r.2.2)) = some (strV ((r.1 ++ r.2.1) ++ r.2.2)) := add_str (by simp only [List.length_append]; omega)
      simp only [go_sem,reduceIte,Nat.reduceEqDiff,Nat.reduceLT, la6, hb1, hb2]
      have hjo : OkL k' ((r.1 ++ r.2.1) ++ r.2.2) := (hok.o1.append hok.o2).append hok.o3
      refine CallO_f (least_spec (k := k') (by omega) hm (by omega) (hjo.mono (by omega)) (by simp only [List.length_append]; omega)) (by omega) fun u h7 hp7 hu => ?_
      subst hu
      simp only [go_sem,reduceIte,Nat.reduceEqDiff,Nat.reduceLT]
      refine hQ' _ _ ⟨pr5.trans ((hp6.le (by omega)).trans (hp7.le (by omega))), .inr ⟨hE, ?_⟩⟩
      rw [hall2, if_pos rfl, lst_congr (cm' := pc ps) (K := 6) hmc (by omega) (hjo.mono (by omega)), ← lst_wide (K := 6) hjo (by omega)]
      rfl

end
end Go.Proofs.YthankillfhmfkaaGreatDoor.Ev


