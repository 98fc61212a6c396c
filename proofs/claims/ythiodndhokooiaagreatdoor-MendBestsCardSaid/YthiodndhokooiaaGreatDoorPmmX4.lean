/- The law of the best order of all. -/
import Derived.Test.YthiodndhokooiaaGreatDoorPmmX3
import Derived.Test.YthiodndhokooiaaGreatDoorPmmA9
set_option linter.unusedSimpArgs false
namespace Go.Proofs.YthiodndhokooiaaGreatDoor.Ev
open Go Go.Proofs
noncomputable section

set_option maxHeartbeats 8000000 in
set_option maxRecDepth 100000 in
theorem law_MendBests {G N n c m c' : Nat} {A A' : Option Addr} {js ps : List (Int × Int)} {h : H} (hG : G ≤ h.next) (h4 : 4 ≤ h.next) (ht : TabsIn tabs h.blks) (hn : n = js.length) (hm : m = ps.length) (hs : SlV h.blks 0 N 2 n (prs js) (.slice A n c)) (hs' : SlV h.blks 0 N 2 m (prs ps) (.slice A' m c')) (hN : N ≤ h.next) :
    Spec Tryz.prog (En G) 4 [.agg #[.slice A n c, .slice A' m c']] h fun v _ => v = .bool true := by
  refine CallsE_enter (En_known (by decide)) (En_f.trans Tryz.func4) rfl ⟨Nat.le_of_ble_eq_true rfl, by decide⟩ fun Q' hQ' => ?_
  simp only [Tryz.f4, zaa,zab,zac,zad,zae,zaf,zag,zah,zai,zaj,zak,zal,zam,zan,zao,zap,zaq,zar,zas,zat,zau,zav,zaw,zax,zay,zaz,zba,zbb,zbc,zbd,zbe,zbf,zbg,zbh,zbi,zbj,zbk,zbl,zbm,zbn,zbo,zbp,zbq,zbr,zbs,zbt,zbu,zbv,zbw,zbx,zby,zbz,zca,zcb,zcc,zcd,zce,zcf,zcg,zch,zci,zcj,zck,zcl,zcm,zcn,zco,zcp,zcq,zcr,zcs,zct,zcu,zcv,zcw,zcx,zcy,zcz,zda,zdb,zdc,zdd,guardV,nth,zde,zdf,zdg,zdh,zdi,Nat.reduceEqDiff,reduceIte,zdj,zdk,zdl,resultsA,RetO,Nat.reduceLT,zdm,zdn,zdo,zdp,zdq,zdr,zds,zdt,zdu,zdv,zdw,zdx,zdy,zdz,zea,zeb,zec,zed,zee,zef,zeg,zeh,zei,zej,zek,zel,zem,zen,zeo,zep,zeq]
  refine At_box (v := .agg #[.slice A n c, .slice A' m c']) (by simp only [zaa,zab,zac,zad,zae,zaf,zag,zah,zai,zaj,zak,zal,zam,zan,zao,zap,zaq,zar,zas,zat,zau,zav,zaw,zax,zay,zaz,zba,zbb,zbc,zbd,zbe,zbf,zbg,zbh,zbi,zbj,zbk,zbl,zbm,zbn,zbo,zbp,zbq,zbr,zbs,zbt,zbu,zbv,zbw,zbx,zby,zbz,zca,zcb,zcc,zcd,zce,zcf,zcg,zch,zci,zcj,zck,zcl,zcm,zcn,zco,zcp,zcq,zcr,zcs,zct,zcu,zcv,zcw,zcx,zcy,zcz,zda,zdb,zdc,zdd,guardV,nth,zde,zdf,zdg,zdh,zdi,Nat.reduceEqDiff,reduceIte,zdj,zdk,zdl,resultsA,RetO,Nat.reduceLT,zdm,zdn,zdo,zdp,zdq,zdr,zds,zdt,zdu,zdv,zdw,zdx,zdy,zdz,zea,zeb,zec,zed,zee,zef,zeg,zeh,zei,zej,zek,zel,zem,zen,zeo,zep,zeq]) (by omega) fun h1 hn1 => ?_
  have n1 := hn1.next
  have v2 : Var h1.blks h.next [.slice A n c, .slice A' m c'] := hn1.var
  have pr1 : Pres h.next h h1 := hn1.pres (Nat.le_refl _)
  have la : loadO (En G) 25 h1.blks (some (.pointer (some ⟨h.next, 0, none⟩))) = some (.agg #[.slice A n c, .slice A' m c']) := v2.loadA agg25 i25 (by rw [size25]; rfl)
  simp (disch := omega) only [zaa,zab,zac,zad,zae,zaf,zag,zah,zai,zaj,zak,zal,zam,zan,zao,zap,zaq,zar,zas,zat,zau,zav,zaw,zax,zay,zaz,zba,zbb,zbc,zbd,zbe,zbf,zbg,zbh,zbi,zbj,zbk,zbl,zbm,zbn,zbo,zbp,zbq,zbr,zbs,zbt,zbu,zbv,zbw,zbx,zby,zbz,zca,zcb,zcc,zcd,zce,zcf,zcg,zch,zci,zcj,zck,zcl,zcm,zcn,zco,zcp,zcq,zcr,zcs,zct,zcu,zcv,zcw,zcx,zcy,zcz,zda,zdb,zdc,zdd,guardV,nth,zde,zdf,zdg,zdh,zdi,Nat.reduceEqDiff,reduceIte,zdj,zdk,zdl,resultsA,RetO,Nat.reduceLT,zdm,zdn,zdo,zdp,zdq,zdr,zds,zdt,zdu,zdv,zdw,zdx,zdy,zdz,zea,zeb,zec,zed,zee,zef,zeg,zeh,zei,zej,zek,zel,zem,zen,zeo,zep,zeq, la]
  refine CallO_f (few_spec (N := N) (most := 6) (by omega) hn hm (by omega) (hs.mono (B' := h1.blks) fun b _ hb => pr1.get b (by omega)) (hs'.mono (B' := h1.blks) fun b _ hb => pr1.get b (by omega)) (by omega)) (by omega) fun u h2 hp2 hu => ?_
  obtain ⟨B1, B2, rfl, hb1, hb2⟩ := hu
  have n2 := hp2.next
  have pr2 := pr1.trans (hp2.le (m' := h.next) (by omega))
  have hfew := fewN_le (n := n) (most := 6) (by omega)
  generalize hjs : js.take (fewN n 6) = js' at hb1
  generalize hps : ps.take (min m 41) = ps' at hb2
  have hjl : fewN n 6 = js'.length := by rw [← hjs, List.length_take]; omega
  have hpl : min m 41 = ps'.length := by rw [← hps, List.length_take]; omega
  generalize fewN n 6 = nn at hb1 hjl hfew ⊢
  have hmm : min m 41 ≤ 41 := by omega
  generalize min m 41 = mm at hb2 hpl hmm ⊢
  try simp only [zaa,zab,zac,zad,zae,zaf,zag,zah,zai,zaj,zak,zal,zam,zan,zao,zap,zaq,zar,zas,zat,zau,zav,zaw,zax,zay,zaz,zba,zbb,zbc,zbd,zbe,zbf,zbg,zbh,zbi,zbj,zbk,zbl,zbm,zbn,zbo,zbp,zbq,zbr,zbs,zbt,zbu,zbv,zbw,zbx,zby,zbz,zca,zcb,zcc,zcd,zce,zcf,zcg,zch,zci,zcj,zck,zcl,zcm,zcn,zco,zcp,zcq,zcr,zcs,zct,zcu,zcv,zcw,zcx,zcy,zcz,zda,zdb,zdc,zdd,guardV,nth,zde,zdf,zdg,zdh,zdi,Nat.reduceEqDiff,reduceIte,zdj,zdk,zdl,resultsA,RetO,Nat.reduceLT,zdm,zdn,zdo,zdp,zdq,zdr,zds,zdt,zdu,zdv,zdw,zdx,zdy,zdz,zea,zeb,zec,zed,zee,zef,zeg,zeh,zei,zej,zek,zel,zem,zen,zeo,zep,zeq]
  refine CallO_f (mBest_spec (N := h2.next) (by omega) hjl hpl hb1 hb2 (Nat.le_refl _)) (by omega) fun u h3 hp3 hu => ?_
  have n3 := hp3.next
  have pr3 := pr2.trans (hp3.le (m' := h.next) (by omega))
  have hb1 := hb1.mono (B' := h3.blks) fun b _ hb => hp3.get b (by omega)
  have hb2 := hb2.mono (B' := h3.blks) fun b _ hb => hp3.get b (by omega)
  have hval : ∀ h9 : H, Pres h2.next h3 h9 → Spec Tryz.prog (En G) 12 [.slice B1 nn nn, .slice B2 mm mm] h9 fun v h' => ((PlanOk js' ps' ∧ v = .bool true) ∨ (¬ PlanOk js' ps' ∧ v = .bool false)) ∧ h' = h9 := fun h9 hp9 => rValid_spec hjl hpl (by omega) (by omega) (hb1.mono fun b _ hb => hp9.get b (by omega)) (hb2.mono fun b _ hb => hp9.get b (by omega))
  have d00 : decide ((0 : Int) = 0) = true := rfl
  have d11 : decide ((1 : Int) = 1) = true := rfl
  rcases hu with ⟨hno, rfl⟩ | ⟨hok, o, B3, hbest, rfl, hso⟩
  · simp only [zaa,zab,zac,zad,zae,zaf,zag,zah,zai,zaj,zak,zal,zam,zan,zao,zap,zaq,zar,zas,zat,zau,zav,zaw,zax,zay,zaz,zba,zbb,zbc,zbd,zbe,zbf,zbg,zbh,zbi,zbj,zbk,zbl,zbm,zbn,zbo,zbp,zbq,zbr,zbs,zbt,zbu,zbv,zbw,zbx,zby,zbz,zca,zcb,zcc,zcd,zce,zcf,zcg,zch,zci,zcj,zck,zcl,zcm,zcn,zco,zcp,zcq,zcr,zcs,zct,zcu,zcv,zcw,zcx,zcy,zcz,zda,zdb,zdc,zdd,guardV,nth,zde,zdf,zdg,zdh,zdi,Nat.reduceEqDiff,reduceIte,zdj,zdk,zdl,resultsA,RetO,Nat.reduceLT,zdm,zdn,zdo,zdp,zdq,zdr,zds,zdt,zdu,zdv,zdw,zdx,zdy,zdz,zea,zeb,zec,zed,zee,zef,zeg,zeh,zei,zej,zek,zel,zem,zen,zeo,zep,zeq]
    refine CallO_f (mOrders_spec (N := h2.next) (by omega) hjl hpl hb1 hb2 (by omega)) (by omega) fun u h4' hp4 hu => ?_
    have n4 := hp4.next
    have pr4 := pr3.trans (hp4.le (m' := h.next) (by omega))
    rcases hu with ⟨_, rfl⟩ | ⟨hyes, _⟩
    · simp only [zaa,zab,zac,zad,zae,zaf,zag,zah,zai,zaj,zak,zal,zam,zan,zao,zap,zaq,zar,zas,zat,zau,zav,zaw,zax,zay,zaz,zba,zbb,zbc,zbd,zbe,zbf,zbg,zbh,zbi,zbj,zbk,zbl,zbm,zbn,zbo,zbp,zbq,zbr,zbs,zbt,zbu,zbv,zbw,zbx,zby,zbz,zca,zcb,zcc,zcd,zce,zcf,zcg,zch,zci,zcj,zck,zcl,zcm,zcn,zco,zcp,zcq,zcr,zcs,zct,zcu,zcv,zcw,zcx,zcy,zcz,zda,zdb,zdc,zdd,guardV,nth,zde,zdf,zdg,zdh,zdi,Nat.reduceEqDiff,reduceIte,zdj,zdk,zdl,resultsA,RetO,Nat.reduceLT,zdm,zdn,zdo,zdp,zdq,zdr,zds,zdt,zdu,zdv,zdw,zdx,zdy,zdz,zea,zeb,zec,zed,zee,zef,zeg,zeh,zei,zej,zek,zel,zem,zen,zeo,zep,zeq]
      refine CallO_same (hval h4' (hp4.le (by omega))) (by omega) fun u hu => ?_
      rcases hu with ⟨hyes, _⟩ | ⟨_, rfl⟩
      · exact absurd hyes hno
      have ht4 : TabsIn tabs h4'.blks := TabsIn.pres ht pr4 fun x hx => by have := tabs_lt x hx; omega
      have l0 : lenO (En G) h4'.blks 26 (some (.slice none 0 0)) = some (.int .i64 0) := len26
      simp only [zaa,zab,zac,zad,zae,zaf,zag,zah,zai,zaj,zak,zal,zam,zan,zao,zap,zaq,zar,zas,zat,zau,zav,zaw,zax,zay,zaz,zba,zbb,zbc,zbd,zbe,zbf,zbg,zbh,zbi,zbj,zbk,zbl,zbm,zbn,zbo,zbp,zbq,zbr,zbs,zbt,zbu,zbv,zbw,zbx,zby,zbz,zca,zcb,zcc,zcd,zce,zcf,zcg,zch,zci,zcj,zck,zcl,zcm,zcn,zco,zcp,zcq,zcr,zcs,zct,zcu,zcv,zcw,zcx,zcy,zcz,zda,zdb,zdc,zdd,guardV,nth,zde,zdf,zdg,zdh,zdi,Nat.reduceEqDiff,reduceIte,zdj,zdk,zdl,resultsA,RetO,Nat.reduceLT,zdm,zdn,zdo,zdp,zdq,zdr,zds,zdt,zdu,zdv,zdw,zdx,zdy,zdz,zea,zeb,zec,zed,zee,zef,zeg,zeh,zei,zej,zek,zel,zem,zen,zeo,zep,zeq, l0, d00, d11]
      refine Call_lives ht4 (by omega) ?_
      simp only [zaa,zab,zac,zad,zae,zaf,zag,zah,zai,zaj,zak,zal,zam,zan,zao,zap,zaq,zar,zas,zat,zau,zav,zaw,zax,zay,zaz,zba,zbb,zbc,zbd,zbe,zbf,zbg,zbh,zbi,zbj,zbk,zbl,zbm,zbn,zbo,zbp,zbq,zbr,zbs,zbt,zbu,zbv,zbw,zbx,zby,zbz,zca,zcb,zcc,zcd,zce,zcf,zcg,zch,zci,zcj,zck,zcl,zcm,zcn,zco,zcp,zcq,zcr,zcs,zct,zcu,zcv,zcw,zcx,zcy,zcz,zda,zdb,zdc,zdd,guardV,nth,zde,zdf,zdg,zdh,zdi,Nat.reduceEqDiff,reduceIte,zdj,zdk,zdl,resultsA,RetO,Nat.reduceLT,zdm,zdn,zdo,zdp,zdq,zdr,zds,zdt,zdu,zdv,zdw,zdx,zdy,zdz,zea,zeb,zec,zed,zee,zef,zeg,zeh,zei,zej,zek,zel,zem,zen,zeo,zep,zeq]
      exact hQ' _ _ ⟨pr4, rfl⟩
    · exact absurd hyes hno
  · simp only [zaa,zab,zac,zad,zae,zaf,zag,zah,zai,zaj,zak,zal,zam,zan,zao,zap,zaq,zar,zas,zat,zau,zav,zaw,zax,zay,zaz,zba,zbb,zbc,zbd,zbe,zbf,zbg,zbh,zbi,zbj,zbk,zbl,zbm,zbn,zbo,zbp,zbq,zbr,zbs,zbt,zbu,zbv,zbw,zbx,zby,zbz,zca,zcb,zcc,zcd,zce,zcf,zcg,zch,zci,zcj,zck,zcl,zcm,zcn,zco,zcp,zcq,zcr,zcs,zct,zcu,zcv,zcw,zcx,zcy,zcz,zda,zdb,zdc,zdd,guardV,nth,zde,zdf,zdg,zdh,zdi,Nat.reduceEqDiff,reduceIte,zdj,zdk,zdl,resultsA,RetO,Nat.reduceLT,zdm,zdn,zdo,zdp,zdq,zdr,zds,zdt,zdu,zdv,zdw,zdx,zdy,zdz,zea,zeb,zec,zed,zee,zef,zeg,zeh,zei,zej,zek,zel,zem,zen,zeo,zep,zeq]
    refine CallO_f (mOrders_spec (N := h2.next) (by omega) hjl hpl hb1 hb2 (by omega)) (by omega) fun u h4' hp4 hu => ?_
    have n4 := hp4.next
    have pr4 := pr3.trans (hp4.le (m' := h.next) (by omega))
    rcases hu with ⟨hno, _⟩ | ⟨_, rfl⟩
    · exact absurd hok hno
    simp only [zaa,zab,zac,zad,zae,zaf,zag,zah,zai,zaj,zak,zal,zam,zan,zao,zap,zaq,zar,zas,zat,zau,zav,zaw,zax,zay,zaz,zba,zbb,zbc,zbd,zbe,zbf,zbg,zbh,zbi,zbj,zbk,zbl,zbm,zbn,zbo,zbp,zbq,zbr,zbs,zbt,zbu,zbv,zbw,zbx,zby,zbz,zca,zcb,zcc,zcd,zce,zcf,zcg,zch,zci,zcj,zck,zcl,zcm,zcn,zco,zcp,zcq,zcr,zcs,zct,zcu,zcv,zcw,zcx,zcy,zcz,zda,zdb,zdc,zdd,guardV,nth,zde,zdf,zdg,zdh,zdi,Nat.reduceEqDiff,reduceIte,zdj,zdk,zdl,resultsA,RetO,Nat.reduceLT,zdm,zdn,zdo,zdp,zdq,zdr,zds,zdt,zdu,zdv,zdw,zdx,zdy,zdz,zea,zeb,zec,zed,zee,zef,zeg,zeh,zei,zej,zek,zel,zem,zen,zeo,zep,zeq]
    refine CallO_same (hval h4' (hp4.le (by omega))) (by omega) fun u hu => ?_
    rcases hu with ⟨_, rfl⟩ | ⟨hno, _⟩
    · simp only [zaa,zab,zac,zad,zae,zaf,zag,zah,zai,zaj,zak,zal,zam,zan,zao,zap,zaq,zar,zas,zat,zau,zav,zaw,zax,zay,zaz,zba,zbb,zbc,zbd,zbe,zbf,zbg,zbh,zbi,zbj,zbk,zbl,zbm,zbn,zbo,zbp,zbq,zbr,zbs,zbt,zbu,zbv,zbw,zbx,zby,zbz,zca,zcb,zcc,zcd,zce,zcf,zcg,zch,zci,zcj,zck,zcl,zcm,zcn,zco,zcp,zcq,zcr,zcs,zct,zcu,zcv,zcw,zcx,zcy,zcz,zda,zdb,zdc,zdd,guardV,nth,zde,zdf,zdg,zdh,zdi,Nat.reduceEqDiff,reduceIte,zdj,zdk,zdl,resultsA,RetO,Nat.reduceLT,zdm,zdn,zdo,zdp,zdq,zdr,zds,zdt,zdu,zdv,zdw,zdx,zdy,zdz,zea,zeb,zec,zed,zee,zef,zeg,zeh,zei,zej,zek,zel,zem,zen,zeo,zep,zeq]
      refine CallO_f (rBest_spec (N := h4'.next) (N2 := 0) (l := []) (S := 0) (c2 := 0) (A2 := none) hok hjl hpl nn (by simp) (by omega) ((hb1.mono (B' := h4'.blks) fun b _ hb => hp4.get b (by omega)).wide (Nat.zero_le _) (by omega)) ((hb2.mono (B' := h4'.blks) fun b _ hb => hp4.get b (by omega)).wide (Nat.zero_le _) (by omega)) (Nat.le_refl _) .nil (.nil rfl rfl) (Nat.zero_le _)) (by omega) fun u h5 hp5 hu => ?_
      obtain ⟨x, bx, ox, cx, hbf, rfl, hsx⟩ := hu
      obtain rfl : o = x := best_uniq hbest (bf_best hbf)
      have n5 := hp5.next
      have pr5 := pr4.trans (hp5.le (m' := h.next) (by omega))
      have ht5 : TabsIn tabs h5.blks := TabsIn.pres ht pr5 fun x hx => by have := tabs_lt x hx; omega
      have hb1 := (hb1.mono (B' := h5.blks) fun b _ hb => by rw [hp5.get b (by omega), hp4.get b (by omega)]).wide (Nat.zero_le _) (show h2.next ≤ h5.next by omega)
      have hso := (hso.mono (B' := h5.blks) fun b _ hb => by rw [hp5.get b (by omega), hp4.get b (by omega)]).wide (Nat.zero_le _) (show h3.next ≤ h5.next by omega)
      have hn10 := hok.le
      have hol := hbest.ord.len_le
      simp only [zaa,zab,zac,zad,zae,zaf,zag,zah,zai,zaj,zak,zal,zam,zan,zao,zap,zaq,zar,zas,zat,zau,zav,zaw,zax,zay,zaz,zba,zbb,zbc,zbd,zbe,zbf,zbg,zbh,zbi,zbj,zbk,zbl,zbm,zbn,zbo,zbp,zbq,zbr,zbs,zbt,zbu,zbv,zbw,zbx,zby,zbz,zca,zcb,zcc,zcd,zce,zcf,zcg,zch,zci,zcj,zck,zcl,zcm,zcn,zco,zcp,zcq,zcr,zcs,zct,zcu,zcv,zcw,zcx,zcy,zcz,zda,zdb,zdc,zdd,guardV,nth,zde,zdf,zdg,zdh,zdi,Nat.reduceEqDiff,reduceIte,zdj,zdk,zdl,resultsA,RetO,Nat.reduceLT,zdm,zdn,zdo,zdp,zdq,zdr,zds,zdt,zdu,zdv,zdw,zdx,zdy,zdz,zea,zeb,zec,zed,zee,zef,zeg,zeh,zei,zej,zek,zel,zem,zen,zeo,zep,zeq]
      refine CallO_same (same_same (N := h5.next) (l := o.map Int.ofNat) (by simp) (by omega) hso hsx) (by omega) fun u hu => ?_
      subst hu
      simp only [zaa,zab,zac,zad,zae,zaf,zag,zah,zai,zaj,zak,zal,zam,zan,zao,zap,zaq,zar,zas,zat,zau,zav,zaw,zax,zay,zaz,zba,zbb,zbc,zbd,zbe,zbf,zbg,zbh,zbi,zbj,zbk,zbl,zbm,zbn,zbo,zbp,zbq,zbr,zbs,zbt,zbu,zbv,zbw,zbx,zby,zbz,zca,zcb,zcc,zcd,zce,zcf,zcg,zch,zci,zcj,zck,zcl,zcm,zcn,zco,zcp,zcq,zcr,zcs,zct,zcu,zcv,zcw,zcx,zcy,zcz,zda,zdb,zdc,zdd,guardV,nth,zde,zdf,zdg,zdh,zdi,Nat.reduceEqDiff,reduceIte,zdj,zdk,zdl,resultsA,RetO,Nat.reduceLT,zdm,zdn,zdo,zdp,zdq,zdr,zds,zdt,zdu,zdv,zdw,zdx,zdy,zdz,zea,zeb,zec,zed,zee,zef,zeg,zeh,zei,zej,zek,zel,zem,zen,zeo,zep,zeq]
      refine CallO_same (rCost_spec (N := h5.next) hjl hb1 hsx hok.jobs (fun j hj => by rw [hjl]; exact hbest.ord.mem_lt j hj) (by omega)) (by omega) fun u hu => ?_
      subst hu
      have dc : decide (((cst (lnJ js') (wtJ js') o : Nat) : Int) = ((cst (lnJ js') (wtJ js') o : Nat) : Int)) = true := decide_eq_true rfl
      have hnf : nOrd ps' nn = fwd (bfP ps') nn nn 0 := nOrd_fwd
      have dn : decide (((nOrd ps' nn : Nat) : Int) = ((fwd (bfP ps') nn nn 0 : Nat) : Int)) = true := by rw [hnf]; exact decide_eq_true rfl
      simp only [zaa,zab,zac,zad,zae,zaf,zag,zah,zai,zaj,zak,zal,zam,zan,zao,zap,zaq,zar,zas,zat,zau,zav,zaw,zax,zay,zaz,zba,zbb,zbc,zbd,zbe,zbf,zbg,zbh,zbi,zbj,zbk,zbl,zbm,zbn,zbo,zbp,zbq,zbr,zbs,zbt,zbu,zbv,zbw,zbx,zby,zbz,zca,zcb,zcc,zcd,zce,zcf,zcg,zch,zci,zcj,zck,zcl,zcm,zcn,zco,zcp,zcq,zcr,zcs,zct,zcu,zcv,zcw,zcx,zcy,zcz,zda,zdb,zdc,zdd,guardV,nth,zde,zdf,zdg,zdh,zdi,Nat.reduceEqDiff,reduceIte,zdj,zdk,zdl,resultsA,RetO,Nat.reduceLT,zdm,zdn,zdo,zdp,zdq,zdr,zds,zdt,zdu,zdv,zdw,zdx,zdy,zdz,zea,zeb,zec,zed,zee,zef,zeg,zeh,zei,zej,zek,zel,zem,zen,zeo,zep,zeq, dc, d00, dn]
      refine Call_lives ht5 (by omega) ?_
      simp only [zaa,zab,zac,zad,zae,zaf,zag,zah,zai,zaj,zak,zal,zam,zan,zao,zap,zaq,zar,zas,zat,zau,zav,zaw,zax,zay,zaz,zba,zbb,zbc,zbd,zbe,zbf,zbg,zbh,zbi,zbj,zbk,zbl,zbm,zbn,zbo,zbp,zbq,zbr,zbs,zbt,zbu,zbv,zbw,zbx,zby,zbz,zca,zcb,zcc,zcd,zce,zcf,zcg,zch,zci,zcj,zck,zcl,zcm,zcn,zco,zcp,zcq,zcr,zcs,zct,zcu,zcv,zcw,zcx,zcy,zcz,zda,zdb,zdc,zdd,guardV,nth,zde,zdf,zdg,zdh,zdi,Nat.reduceEqDiff,reduceIte,zdj,zdk,zdl,resultsA,RetO,Nat.reduceLT,zdm,zdn,zdo,zdp,zdq,zdr,zds,zdt,zdu,zdv,zdw,zdx,zdy,zdz,zea,zeb,zec,zed,zee,zef,zeg,zeh,zei,zej,zek,zel,zem,zen,zeo,zep,zeq]
      exact hQ' _ _ ⟨pr5, rfl⟩
    · exact absurd hok hno
end
end Go.Proofs.YthiodndhokooiaaGreatDoor.Ev

