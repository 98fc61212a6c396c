/- Ways; the reference's Ways. -/
import Derived.Test.YtdfkblagcfgncaaGreatDoorPmsW1
set_option linter.unusedSimpArgs false
namespace Go.Proofs.YtdfkblagcfgncaaGreatDoor.Ev
open Go Go.Proofs
noncomputable section

set_option maxHeartbeats 8000000 in
theorem Ways_spec {G lo hi n c : Nat} {k : Int} {A : Option Addr} {ps : List (Int × Int)} {s : List UInt8} {h : H} (hG : G ≤ h.next) (hv : SlV h.blks lo hi 2 n (prs ps) (.slice A n c)) (hhi : hi ≤ h.next) (hn : n < 1000000) (hs : s.length < 1000000) :
    Spec Tryz.prog (En G) 31 [.int .i64 k, .slice A n c, strV s] h fun v _ => (chkE k ps 16 [s] ≠ 0 ∧ v = .tuple #[.int .i64 0, .int .i64 (chkE k ps 16 [s])]) ∨
      (chkE k ps 16 [s] = 0 ∧ v = .tuple #[.int .i64 (W' (pc ps) k.toNat s : Nat), .int .i64 0]) := by
  refine CallsE_enter (En_known (by decide)) (En_f.trans Tryz.func31) rfl ⟨Nat.le_of_ble_eq_true rfl, by decide⟩ fun Q' hQ' => ?_
  simp only [Tryz.f31, zaa,zab,zac,zad,zae,zaf,zag,zah,zai,zaj,zak,zal,zam,zan,zao,zap,zaq,zar,zas,zat,zau,zav,zaw,zax,zay,zaz,zba,zbb,zbc,zbd,zbe,zbf,zbg,zbh,zbi,zbj,zbk,zbl,zbm,zbn,zbo,zbp,zbq,zbr,zbs,zbt,zbu,zbv,zbw,zbx,zby,zbz,zca,zcb,zcc,zcd,zce,zcf,zcg,zch,zci,zcj,zck,zcl,zcm,zcn,zco,zcp,zcq,zcr,zcs,zct,zcu,zcv,zcw,zcx,zcy,zcz,zda,zdb,zdc,zdd,guardV,nth,zde,zdf,zdg,zdh,zdi,Nat.reduceEqDiff,reduceIte,zdj,zdk,zdl,resultsA,RetO,Nat.reduceLT,zdm,zdn,zdo,zdp,zdq,zdr,zds,zdt,zdu,zdv,zdw,zdx,zdy,zdz,zea,zeb,zec,zed,zee,zef,zeg,zeh,zei,zej,zek,zel,zem,zen,zeo]
  refine At_lit (vs := [(0, strV s)]) (cs := #[strV s]) u28 i9 zero9 (by rw [size9]; rfl) (by simp only [zaa,zab,zac,zad,zae,zaf,zag,zah,zai,zaj,zak,zal,zam,zan,zao,zap,zaq,zar,zas,zat,zau,zav,zaw,zax,zay,zaz,zba,zbb,zbc,zbd,zbe,zbf,zbg,zbh,zbi,zbj,zbk,zbl,zbm,zbn,zbo,zbp,zbq,zbr,zbs,zbt,zbu,zbv,zbw,zbx,zby,zbz,zca,zcb,zcc,zcd,zce,zcf,zcg,zch,zci,zcj,zck,zcl,zcm,zcn,zco,zcp,zcq,zcr,zcs,zct,zcu,zcv,zcw,zcx,zcy,zcz,zda,zdb,zdc,zdd,guardV,nth,zde,zdf,zdg,zdh,zdi,Nat.reduceEqDiff,reduceIte,zdj,zdk,zdl,resultsA,RetO,Nat.reduceLT,zdm,zdn,zdo,zdp,zdq,zdr,zds,zdt,zdu,zdv,zdw,zdx,zdy,zdz,zea,zeb,zec,zed,zee,zef,zeg,zeh,zei,zej,zek,zel,zem,zen,zeo]) (by rw [size9]; rfl) (by omega) fun h1 hn1 => ?_
  rw [size9] at hn1
  have n1 := hn1.next
  have hls := hn1.slv (n := 1) (c := 1) rfl
  have pr1 : Pres h.next h h1 := hn1.pres (Nat.le_refl _)
  simp only [zaa,zab,zac,zad,zae,zaf,zag,zah,zai,zaj,zak,zal,zam,zan,zao,zap,zaq,zar,zas,zat,zau,zav,zaw,zax,zay,zaz,zba,zbb,zbc,zbd,zbe,zbf,zbg,zbh,zbi,zbj,zbk,zbl,zbm,zbn,zbo,zbp,zbq,zbr,zbs,zbt,zbu,zbv,zbw,zbx,zby,zbz,zca,zcb,zcc,zcd,zce,zcf,zcg,zch,zci,zcj,zck,zcl,zcm,zcn,zco,zcp,zcq,zcr,zcs,zct,zcu,zcv,zcw,zcx,zcy,zcz,zda,zdb,zdc,zdd,guardV,nth,zde,zdf,zdg,zdh,zdi,Nat.reduceEqDiff,reduceIte,zdj,zdk,zdl,resultsA,RetO,Nat.reduceLT,zdm,zdn,zdo,zdp,zdq,zdr,zds,zdt,zdu,zdv,zdw,zdx,zdy,zdz,zea,zeb,zec,zed,zee,zef,zeg,zeh,zei,zej,zek,zel,zem,zen,zeo]
  refine CallO_f (checked_spec (k := k) (most := 16) (ls := [s]) (by omega) (hv.mono fun b _ hb => pr1.get b (by omega)) (by omega) hn hls (Nat.le_refl _) (by omega) (fun x hx => by
    rw [List.mem_singleton.1 hx]; exact hs)) (by omega) fun u h2 hp2 hu => ?_
  have n2 := hp2.next
  have pr2 : Pres h.next h h2 := pr1.trans (hp2.le (by omega))
  rcases hu with ⟨hE, rfl⟩ | ⟨hE, m, hm, hmc, rfl⟩
  · have d : decide (chkE k ps 16 [s] ≠ 0) = true := decide_eq_true hE
    try simp only [zaa,zab,zac,zad,zae,zaf,zag,zah,zai,zaj,zak,zal,zam,zan,zao,zap,zaq,zar,zas,zat,zau,zav,zaw,zax,zay,zaz,zba,zbb,zbc,zbd,zbe,zbf,zbg,zbh,zbi,zbj,zbk,zbl,zbm,zbn,zbo,zbp,zbq,zbr,zbs,zbt,zbu,zbv,zbw,zbx,zby,zbz,zca,zcb,zcc,zcd,zce,zcf,zcg,zch,zci,zcj,zck,zcl,zcm,zcn,zco,zcp,zcq,zcr,zcs,zct,zcu,zcv,zcw,zcx,zcy,zcz,zda,zdb,zdc,zdd,guardV,nth,zde,zdf,zdg,zdh,zdi,Nat.reduceEqDiff,reduceIte,zdj,zdk,zdl,resultsA,RetO,Nat.reduceLT,zdm,zdn,zdo,zdp,zdq,zdr,zds,zdt,zdu,zdv,zdw,zdx,zdy,zdz,zea,zeb,zec,zed,zee,zef,zeg,zeh,zei,zej,zek,zel,zem,zen,zeo]
    refine At_alloc i95 zero74 rfl (by omega) fun h3 hn3 => ?_
    have n3 := hn3.next
    try simp only [zaa,zab,zac,zad,zae,zaf,zag,zah,zai,zaj,zak,zal,zam,zan,zao,zap,zaq,zar,zas,zat,zau,zav,zaw,zax,zay,zaz,zba,zbb,zbc,zbd,zbe,zbf,zbg,zbh,zbi,zbj,zbk,zbl,zbm,zbn,zbo,zbp,zbq,zbr,zbs,zbt,zbu,zbv,zbw,zbx,zby,zbz,zca,zcb,zcc,zcd,zce,zcf,zcg,zch,zci,zcj,zck,zcl,zcm,zcn,zco,zcp,zcq,zcr,zcs,zct,zcu,zcv,zcw,zcx,zcy,zcz,zda,zdb,zdc,zdd,guardV,nth,zde,zdf,zdg,zdh,zdi,Nat.reduceEqDiff,reduceIte,zdj,zdk,zdl,resultsA,RetO,Nat.reduceLT,zdm,zdn,zdo,zdp,zdq,zdr,zds,zdt,zdu,zdv,zdw,zdx,zdy,zdz,zea,zeb,zec,zed,zee,zef,zeg,zeh,zei,zej,zek,zel,zem,zen,zeo]
    refine At_storeV (inf := inf95) (v := thrV 0 nilM) i95 (by simp only [zaa,zab,zac,zad,zae,zaf,zag,zah,zai,zaj,zak,zal,zam,zan,zao,zap,zaq,zar,zas,zat,zau,zav,zaw,zax,zay,zaz,zba,zbb,zbc,zbd,zbe,zbf,zbg,zbh,zbi,zbj,zbk,zbl,zbm,zbn,zbo,zbp,zbq,zbr,zbs,zbt,zbu,zbv,zbw,zbx,zby,zbz,zca,zcb,zcc,zcd,zce,zcf,zcg,zch,zci,zcj,zck,zcl,zcm,zcn,zco,zcp,zcq,zcr,zcs,zct,zcu,zcv,zcw,zcx,zcy,zcz,zda,zdb,zdc,zdd,guardV,nth,zde,zdf,zdg,zdh,zdi,Nat.reduceEqDiff,reduceIte,zdj,zdk,zdl,resultsA,RetO,Nat.reduceLT,zdm,zdn,zdo,zdp,zdq,zdr,zds,zdt,zdu,zdv,zdw,zdx,zdy,zdz,zea,zeb,zec,zed,zee,zef,zeg,zeh,zei,zej,zek,zel,zem,zen,zeo]) (by simp only [zaa,zab,zac,zad,zae,zaf,zag,zah,zai,zaj,zak,zal,zam,zan,zao,zap,zaq,zar,zas,zat,zau,zav,zaw,zax,zay,zaz,zba,zbb,zbc,zbd,zbe,zbf,zbg,zbh,zbi,zbj,zbk,zbl,zbm,zbn,zbo,zbp,zbq,zbr,zbs,zbt,zbu,zbv,zbw,zbx,zby,zbz,zca,zcb,zcc,zcd,zce,zcf,zcg,zch,zci,zcj,zck,zcl,zcm,zcn,zco,zcp,zcq,zcr,zcs,zct,zcu,zcv,zcw,zcx,zcy,zcz,zda,zdb,zdc,zdd,guardV,nth,zde,zdf,zdg,zdh,zdi,Nat.reduceEqDiff,reduceIte,zdj,zdk,zdl,resultsA,RetO,Nat.reduceLT,zdm,zdn,zdo,zdp,zdq,zdr,zds,zdt,zdu,zdv,zdw,zdx,zdy,zdz,zea,zeb,zec,zed,zee,zef,zeg,zeh,zei,zej,zek,zel,zem,zen,zeo]) hn3.var (by rw [size95]; rfl) (by rw [size95]; rfl) rfl (by show G ≤ h2.next; omega) fun h4 hs4 _ => ?_
    simp only [zaa,zab,zac,zad,zae,zaf,zag,zah,zai,zaj,zak,zal,zam,zan,zao,zap,zaq,zar,zas,zat,zau,zav,zaw,zax,zay,zaz,zba,zbb,zbc,zbd,zbe,zbf,zbg,zbh,zbi,zbj,zbk,zbl,zbm,zbn,zbo,zbp,zbq,zbr,zbs,zbt,zbu,zbv,zbw,zbx,zby,zbz,zca,zcb,zcc,zcd,zce,zcf,zcg,zch,zci,zcj,zck,zcl,zcm,zcn,zco,zcp,zcq,zcr,zcs,zct,zcu,zcv,zcw,zcx,zcy,zcz,zda,zdb,zdc,zdd,guardV,nth,zde,zdf,zdg,zdh,zdi,Nat.reduceEqDiff,reduceIte,zdj,zdk,zdl,resultsA,RetO,Nat.reduceLT,zdm,zdn,zdo,zdp,zdq,zdr,zds,zdt,zdu,zdv,zdw,zdx,zdy,zdz,zea,zeb,zec,zed,zee,zef,zeg,zeh,zei,zej,zek,zel,zem,zen,zeo, d]
    exact hQ' _ _ ⟨pr2.trans ((hn3.pres (by omega)).trans (hs4.pres (by omega))), .inl ⟨hE, rfl⟩⟩
  · obtain ⟨hT, hall⟩ := chk_ok hE
    obtain ⟨k1, k6, _, hps⟩ := okT_okP hT
    have os := okc_okL (by omega) (hall s (by simp)).2
    have hs16 := (hall s (by simp)).1
    obtain ⟨k', rfl⟩ := Int.eq_ofNat_of_zero_le (a := k) (by omega)
    rw [Int.toNat_natCast] at os
    have d : decide ((0 : Int) ≠ 0) = false := rfl
    try simp only [zaa,zab,zac,zad,zae,zaf,zag,zah,zai,zaj,zak,zal,zam,zan,zao,zap,zaq,zar,zas,zat,zau,zav,zaw,zax,zay,zaz,zba,zbb,zbc,zbd,zbe,zbf,zbg,zbh,zbi,zbj,zbk,zbl,zbm,zbn,zbo,zbp,zbq,zbr,zbs,zbt,zbu,zbv,zbw,zbx,zby,zbz,zca,zcb,zcc,zcd,zce,zcf,zcg,zch,zci,zcj,zck,zcl,zcm,zcn,zco,zcp,zcq,zcr,zcs,zct,zcu,zcv,zcw,zcx,zcy,zcz,zda,zdb,zdc,zdd,guardV,nth,zde,zdf,zdg,zdh,zdi,Nat.reduceEqDiff,reduceIte,zdj,zdk,zdl,resultsA,RetO,Nat.reduceLT,zdm,zdn,zdo,zdp,zdq,zdr,zds,zdt,zdu,zdv,zdw,zdx,zdy,zdz,zea,zeb,zec,zed,zee,zef,zeg,zeh,zei,zej,zek,zel,zem,zen,zeo]
    refine At_alloc i95 zero74 rfl (by omega) fun h3 hn3 => ?_
    have n3 := hn3.next
    try simp only [zaa,zab,zac,zad,zae,zaf,zag,zah,zai,zaj,zak,zal,zam,zan,zao,zap,zaq,zar,zas,zat,zau,zav,zaw,zax,zay,zaz,zba,zbb,zbc,zbd,zbe,zbf,zbg,zbh,zbi,zbj,zbk,zbl,zbm,zbn,zbo,zbp,zbq,zbr,zbs,zbt,zbu,zbv,zbw,zbx,zby,zbz,zca,zcb,zcc,zcd,zce,zcf,zcg,zch,zci,zcj,zck,zcl,zcm,zcn,zco,zcp,zcq,zcr,zcs,zct,zcu,zcv,zcw,zcx,zcy,zcz,zda,zdb,zdc,zdd,guardV,nth,zde,zdf,zdg,zdh,zdi,Nat.reduceEqDiff,reduceIte,zdj,zdk,zdl,resultsA,RetO,Nat.reduceLT,zdm,zdn,zdo,zdp,zdq,zdr,zds,zdt,zdu,zdv,zdw,zdx,zdy,zdz,zea,zeb,zec,zed,zee,zef,zeg,zeh,zei,zej,zek,zel,zem,zen,zeo]
    refine At_storeV (inf := inf95) (v := thrV k' m) i95 (by simp only [zaa,zab,zac,zad,zae,zaf,zag,zah,zai,zaj,zak,zal,zam,zan,zao,zap,zaq,zar,zas,zat,zau,zav,zaw,zax,zay,zaz,zba,zbb,zbc,zbd,zbe,zbf,zbg,zbh,zbi,zbj,zbk,zbl,zbm,zbn,zbo,zbp,zbq,zbr,zbs,zbt,zbu,zbv,zbw,zbx,zby,zbz,zca,zcb,zcc,zcd,zce,zcf,zcg,zch,zci,zcj,zck,zcl,zcm,zcn,zco,zcp,zcq,zcr,zcs,zct,zcu,zcv,zcw,zcx,zcy,zcz,zda,zdb,zdc,zdd,guardV,nth,zde,zdf,zdg,zdh,zdi,Nat.reduceEqDiff,reduceIte,zdj,zdk,zdl,resultsA,RetO,Nat.reduceLT,zdm,zdn,zdo,zdp,zdq,zdr,zds,zdt,zdu,zdv,zdw,zdx,zdy,zdz,zea,zeb,zec,zed,zee,zef,zeg,zeh,zei,zej,zek,zel,zem,zen,zeo]) (by simp only [zaa,zab,zac,zad,zae,zaf,zag,zah,zai,zaj,zak,zal,zam,zan,zao,zap,zaq,zar,zas,zat,zau,zav,zaw,zax,zay,zaz,zba,zbb,zbc,zbd,zbe,zbf,zbg,zbh,zbi,zbj,zbk,zbl,zbm,zbn,zbo,zbp,zbq,zbr,zbs,zbt,zbu,zbv,zbw,zbx,zby,zbz,zca,zcb,zcc,zcd,zce,zcf,zcg,zch,zci,zcj,zck,zcl,zcm,zcn,zco,zcp,zcq,zcr,zcs,zct,zcu,zcv,zcw,zcx,zcy,zcz,zda,zdb,zdc,zdd,guardV,nth,zde,zdf,zdg,zdh,zdi,Nat.reduceEqDiff,reduceIte,zdj,zdk,zdl,resultsA,RetO,Nat.reduceLT,zdm,zdn,zdo,zdp,zdq,zdr,zds,zdt,zdu,zdv,zdw,zdx,zdy,zdz,zea,zeb,zec,zed,zee,zef,zeg,zeh,zei,zej,zek,zel,zem,zen,zeo]) hn3.var (by rw [size95, ← Array.length_toList, thrV_cells, thrL_len, hm]) (by rw [size95]; rfl) (by rw [thrV_cells]; simp [thrL, oneB]) (by show G ≤ h2.next; omega) fun h4 hs4 v10 => ?_
    rw [thrV_cells] at v10
    have n4 := hs4.next
    have la := thr_loadA (G := G) v10 hm
    simp only [zaa,zab,zac,zad,zae,zaf,zag,zah,zai,zaj,zak,zal,zam,zan,zao,zap,zaq,zar,zas,zat,zau,zav,zaw,zax,zay,zaz,zba,zbb,zbc,zbd,zbe,zbf,zbg,zbh,zbi,zbj,zbk,zbl,zbm,zbn,zbo,zbp,zbq,zbr,zbs,zbt,zbu,zbv,zbw,zbx,zby,zbz,zca,zcb,zcc,zcd,zce,zcf,zcg,zch,zci,zcj,zck,zcl,zcm,zcn,zco,zcp,zcq,zcr,zcs,zct,zcu,zcv,zcw,zcx,zcy,zcz,zda,zdb,zdc,zdd,guardV,nth,zde,zdf,zdg,zdh,zdi,Nat.reduceEqDiff,reduceIte,zdj,zdk,zdl,resultsA,RetO,Nat.reduceLT,zdm,zdn,zdo,zdp,zdq,zdr,zds,zdt,zdu,zdv,zdw,zdx,zdy,zdz,zea,zeb,zec,zed,zee,zef,zeg,zeh,zei,zej,zek,zel,zem,zen,zeo, d, la]
    refine At_makeMap (by omega) fun h5 hn5 => ?_
    have n5 := hn5.next
    simp only [zaa,zab,zac,zad,zae,zaf,zag,zah,zai,zaj,zak,zal,zam,zan,zao,zap,zaq,zar,zas,zat,zau,zav,zaw,zax,zay,zaz,zba,zbb,zbc,zbd,zbe,zbf,zbg,zbh,zbi,zbj,zbk,zbl,zbm,zbn,zbo,zbp,zbq,zbr,zbs,zbt,zbu,zbv,zbw,zbx,zby,zbz,zca,zcb,zcc,zcd,zce,zcf,zcg,zch,zci,zcj,zck,zcl,zcm,zcn,zco,zcp,zcq,zcr,zcs,zct,zcu,zcv,zcw,zcx,zcy,zcz,zda,zdb,zdc,zdd,guardV,nth,zde,zdf,zdg,zdh,zdi,Nat.reduceEqDiff,reduceIte,zdj,zdk,zdl,resultsA,RetO,Nat.reduceLT,zdm,zdn,zdo,zdp,zdq,zdr,zds,zdt,zdu,zdv,zdw,zdx,zdy,zdz,zea,zeb,zec,zed,zee,zef,zeg,zeh,zei,zej,zek,zel,zem,zen,zeo]
    have pr5 : Pres h.next h h5 := pr2.trans ((hn3.pres (by omega)).trans ((hs4.pres (by omega)).trans (hn5.pres (by omega))))
    refine CallO_any (ways_spec (k := k') (l := []) hm (by omega) (by omega) 16 (s := s) (b := h4.next) (by omega) (Nat.le_refl _) (os.mono (by omega)) (by rw [hn5.get, if_pos rfl]) Known.nil (by omega) (by omega)) (by omega) fun u h6 ⟨hu, hw⟩ => ?_
    subst hu
    simp only [zaa,zab,zac,zad,zae,zaf,zag,zah,zai,zaj,zak,zal,zam,zan,zao,zap,zaq,zar,zas,zat,zau,zav,zaw,zax,zay,zaz,zba,zbb,zbc,zbd,zbe,zbf,zbg,zbh,zbi,zbj,zbk,zbl,zbm,zbn,zbo,zbp,zbq,zbr,zbs,zbt,zbu,zbv,zbw,zbx,zby,zbz,zca,zcb,zcc,zcd,zce,zcf,zcg,zch,zci,zcj,zck,zcl,zcm,zcn,zco,zcp,zcq,zcr,zcs,zct,zcu,zcv,zcw,zcx,zcy,zcz,zda,zdb,zdc,zdd,guardV,nth,zde,zdf,zdg,zdh,zdi,Nat.reduceEqDiff,reduceIte,zdj,zdk,zdl,resultsA,RetO,Nat.reduceLT,zdm,zdn,zdo,zdp,zdq,zdr,zds,zdt,zdu,zdv,zdw,zdx,zdy,zdz,zea,zeb,zec,zed,zee,zef,zeg,zeh,zei,zej,zek,zel,zem,zen,zeo]
    refine hQ' _ _ ⟨pr5.trans (hw.pres.le (by omega)), .inr ⟨hE, ?_⟩⟩
    have : W' (mcomm m) k' s = W' (pc ps) k' s := wn_congr (J := 6) hmc (by omega) _ _ (os.mono (by omega))
    rw [Int.toNat_natCast, this]

end
end Go.Proofs.YtdfkblagcfgncaaGreatDoor.Ev

