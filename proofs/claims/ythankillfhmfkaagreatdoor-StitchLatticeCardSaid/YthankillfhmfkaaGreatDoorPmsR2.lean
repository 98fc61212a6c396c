/- Rest; the law StitchRests. -/
import Derived.Test.YthankillfhmfkaaGreatDoorPmAA
import Derived.Test.YthankillfhmfkaaGreatDoorPmsR1
set_option linter.unusedSimpArgs false
set_option linter.unusedVariables false
namespace Go.Proofs.YthankillfhmfkaaGreatDoor.Ev
open Go Go.Proofs
noncomputable section

/-- what Rest answers -/
def restA (f : List UInt8 → List UInt8) (o : Option (List UInt8)) : Value := match o with
  | some t => .tuple #[strV (f t), .int .i64 0]
  | none => .tuple #[strV [], .int .i64 5]

set_option maxHeartbeats 8000000 in
theorem Rest_spec {G lo hi n c : Nat} {k : Int} {A : Option Addr} {ps : List (Int × Int)} {s t : List UInt8} {h : H} (hG : G ≤ h.next) (hv : SlV h.blks lo hi 2 n (prs ps) (.slice A n c)) (hhi : hi ≤ h.next) (hn : n < 1000000) (hs : s.length < 1000000) (ht : t.length < 1000000) :
    Spec Tryz.prog (En G) 40 [.int .i64 k, .slice A n c, strV s, strV t] h fun v _ => (chkE k ps 40 [s, t] ≠ 0 ∧ v = .tuple #[strV [], .int .i64 (chkE k ps 40 [s, t])]) ∨
      (chkE k ps 40 [s, t] = 0 ∧ v = restA (lst (pc ps) k.toNat) (takeB (pc ps) s t)) := by
  refine CallsE_enter (En_known (by decide)) (En_f.trans Tryz.func40) rfl ⟨Nat.le_of_ble_eq_true rfl, by decide⟩ fun Q' hQ' => ?_
  simp only [Tryz.f40, go_sem,reduceIte,Nat.reduceEqDiff,Nat.reduceLT]
  refine At_lit (vs := [(0, strV s), (1, strV t)]) (cs := #[strV s, strV t]) u28 i9 zero9 (by rw [size9]; rfl) (by simp only [go_sem,reduceIte,Nat.reduceEqDiff,Nat.reduceLT]) (by rw [size9]; rfl) (by omega) fun h1 hn1 => ?_
  rw [size9] at hn1
  have n1 := hn1.next
  have hls := hn1.slv (n := 2) (c := 2) rfl
  have pr1 : Pres h.next h h1 := hn1.pres (Nat.le_refl _)
  simp only [go_sem,reduceIte,Nat.reduceEqDiff,Nat.reduceLT]
  refine CallO_f (checked_spec (k := k) (most := 40) (ls := [s, t]) (by omega) (hv.mono fun b _ hb => pr1.get b (by omega)) (by omega) hn hls (Nat.le_refl _) (by omega) (fun x hx => by
    rcases List.mem_cons.1 hx with rfl | hx
    · exact hs
    · rw [List.mem_singleton.1 hx]; exact ht)) (by omega) fun u h2 hp2 hu => ?_
  have n2 := hp2.next
  have pr2 : Pres h.next h h2 := pr1.trans (hp2.le (by omega))
  rcases hu with ⟨hE, rfl⟩ | ⟨hE, m, hm, hmc, rfl⟩
  · have d : decide (chkE k ps 40 [s, t] ≠ 0) = true := decide_eq_true hE
    try simp only [go_sem,reduceIte,Nat.reduceEqDiff,Nat.reduceLT]
    refine At_alloc i95 zero74 rfl (by omega) fun h3 hn3 => ?_
    have n3 := hn3.next
    try simp only [go_sem,reduceIte,Nat.reduceEqDiff,Nat.reduceLT]
    refine At_storeV (inf := inf95) (v := thrV 0 nilM) i95 (by simp only [go_sem,reduceIte,Nat.reduceEqDiff,Nat.reduceLT]) (by simp only [go_sem,reduceIte,Nat.reduceEqDiff,Nat.reduceLT]) hn3.var (by rw [size95]; rfl) (by rw [size95]; rfl) rfl (by show G ≤ h2.next; omega) fun h4 hs4 _ => ?_
    simp only [go_sem,reduceIte,Nat.reduceEqDiff,Nat.reduceLT, d]
    exact hQ' _ _ ⟨pr2.trans ((hn3.pres (by omega)).trans (hs4.pres (by omega))), .inl ⟨hE, rfl⟩⟩
  · obtain ⟨hT, hall⟩ := chk_ok hE
    obtain ⟨k1, k6, _, hps⟩ := okT_okP hT
    have os := okc_okL (by omega) (hall s (by simp)).2
    have ot := okc_okL (by omega) (hall t (by simp)).2
    obtain ⟨k', rfl⟩ := Int.eq_ofNat_of_zero_le (a := k) (by omega)
    rw [Int.toNat_natCast] at os ot
    have d : decide ((0 : Int) ≠ 0) = false := rfl
    try simp only [go_sem,reduceIte,Nat.reduceEqDiff,Nat.reduceLT]
    refine At_alloc i95 zero74 rfl (by omega) fun h3 hn3 => ?_
    have n3 := hn3.next
    try simp only [go_sem,reduceIte,Nat.reduceEqDiff,Nat.reduceLT]
    refine At_storeV (inf := inf95) (v := thrV k' m) i95 (by simp only [go_sem,reduceIte,Nat.reduceEqDiff,Nat.reduceLT]) (by simp only [go_sem,reduceIte,Nat.reduceEqDiff,Nat.reduceLT]) hn3.var (by rw [size95, ← Array.length_toList, thrV_cells, thrL_len, hm]) (by rw [size95]; rfl) (by rw [thrV_cells]; simp [thrL, oneB]) (by show G ≤ h2.next; omega) fun h4 hs4 v10 => ?_
    rw [thrV_cells] at v10
    have n4 := hs4.next
    have la := thr_loadA (G := G) v10 hm
    simp only [go_sem,reduceIte,Nat.reduceEqDiff,Nat.reduceLT, d, la]
    refine CallO_f (rest_spec (k := k') (by omega) hm (os.mono (by omega)) (ot.mono (by omega)) hs ht) (by omega) fun u h5 hp5 hu => ?_
    subst hu
    have n5 := hp5.next
    have pr5 : Pres h.next h h5 := pr2.trans ((hn3.pres (by omega)).trans ((hs4.pres (by omega)).trans (hp5.le (by omega))))
    have hcg : takeB (mcomm m) s t = takeB (pc ps) s t := takeB_congr hmc s t (os.mono (by omega)) (ot.mono (by omega))
    rw [hcg]
    cases htb : takeB (pc ps) s t with
    | none =>
      simp only [restV, go_sem,reduceIte,Nat.reduceEqDiff,Nat.reduceLT]
      exact hQ' _ _ ⟨pr5, .inr ⟨hE, by rw [htb]; rfl⟩⟩
    | some r =>
      obtain ⟨or, hrl⟩ := takeB_ok s t r ot htb
      have la5 := thr_loadA (G := G) (v10.mono (B' := h5.blks) (hp5.get _ (by omega))) hm
      simp only [restV, id, go_sem,reduceIte,Nat.reduceEqDiff,Nat.reduceLT, la5]
      refine CallO_f (least_spec (k := k') (by omega) hm (by omega) (or.mono (by omega)) (by omega)) (by omega) fun u h6 hp6 hu => ?_
      subst hu
      simp only [go_sem,reduceIte,Nat.reduceEqDiff,Nat.reduceLT]
      refine hQ' _ _ ⟨pr5.trans (hp6.le (by omega)), .inr ⟨hE, ?_⟩⟩
      rw [Int.toNat_natCast, lst_congr (cm' := pc ps) (K := 6) hmc (by omega) (or.mono (by omega)), htb]
      rfl

end
end Go.Proofs.YthankillfhmfkaaGreatDoor.Ev


