/- The law of one pair more. -/
import Derived.Test.YthiodndhokooiaaGreatDoorPmmP1
set_option linter.unusedSimpArgs false
namespace Go.Proofs.YthiodndhokooiaaGreatDoor.Ev
open Go Go.Proofs
noncomputable section

set_option maxHeartbeats 16000000 in
set_option maxRecDepth 100000 in
theorem law_MendPairs {G N nx c ny c' : Nat} {A A' : Option Addr} {xs ys : List (Nat × Nat)} {a b : Nat} {h : H} (hG : G ≤ h.next) (h4 : 4 ≤ h.next) (ht : TabsIn tabs h.blks) (hnx : nx = xs.length) (hny : ny = ys.length) (hbx : Byt xs) (hby : Byt ys) (ha : a ≤ 255) (hb : b ≤ 255) (hs : SlV h.blks 0 N 2 nx (prB xs) (.slice A nx c)) (hs' : SlV h.blks 0 N 2 ny (prB ys) (.slice A' ny c')) (hN : N ≤ h.next) :
    Spec Tryz.prog (En G) 7 [.slice A nx c, .slice A' ny c', .agg #[.int .u8 (a : Nat), .int .u8 (b : Nat)]] h fun v _ => v = .bool true := by
  refine CallsE_enter (En_known (by decide)) (En_f.trans Tryz.func7) rfl ⟨Nat.le_of_ble_eq_true rfl, by decide⟩ fun Q' hQ' => ?_
  simp only [Tryz.f7, zaa,zab,zac,zad,zae,zaf,zag,zah,zai,zaj,zak,zal,zam,zan,zao,zap,zaq,zar,zas,zat,zau,zav,zaw,zax,zay,zaz,zba,zbb,zbc,zbd,zbe,zbf,zbg,zbh,zbi,zbj,zbk,zbl,zbm,zbn,zbo,zbp,zbq,zbr,zbs,zbt,zbu,zbv,zbw,zbx,zby,zbz,zca,zcb,zcc,zcd,zce,zcf,zcg,zch,zci,zcj,zck,zcl,zcm,zcn,zco,zcp,zcq,zcr,zcs,zct,zcu,zcv,zcw,zcx,zcy,zcz,zda,zdb,zdc,zdd,guardV,nth,zde,zdf,zdg,zdh,zdi,Nat.reduceEqDiff,reduceIte,zdj,zdk,zdl,resultsA,RetO,Nat.reduceLT,zdm,zdn,zdo,zdp,zdq,zdr,zds,zdt,zdu,zdv,zdw,zdx,zdy,zdz,zea,zeb,zec,zed,zee,zef,zeg,zeh,zei,zej,zek,zel,zem,zen,zeo,zep,zeq]
  refine At_box (v := .agg #[.int .u8 (a : Nat), .int .u8 (b : Nat)]) (by simp only [zaa,zab,zac,zad,zae,zaf,zag,zah,zai,zaj,zak,zal,zam,zan,zao,zap,zaq,zar,zas,zat,zau,zav,zaw,zax,zay,zaz,zba,zbb,zbc,zbd,zbe,zbf,zbg,zbh,zbi,zbj,zbk,zbl,zbm,zbn,zbo,zbp,zbq,zbr,zbs,zbt,zbu,zbv,zbw,zbx,zby,zbz,zca,zcb,zcc,zcd,zce,zcf,zcg,zch,zci,zcj,zck,zcl,zcm,zcn,zco,zcp,zcq,zcr,zcs,zct,zcu,zcv,zcw,zcx,zcy,zcz,zda,zdb,zdc,zdd,guardV,nth,zde,zdf,zdg,zdh,zdi,Nat.reduceEqDiff,reduceIte,zdj,zdk,zdl,resultsA,RetO,Nat.reduceLT,zdm,zdn,zdo,zdp,zdq,zdr,zds,zdt,zdu,zdv,zdw,zdx,zdy,zdz,zea,zeb,zec,zed,zee,zef,zeg,zeh,zei,zej,zek,zel,zem,zen,zeo,zep,zeq]) (by omega) fun h1 hn1 => ?_
  have n1 := hn1.next
  have v5 : Var h1.blks h.next [.int .u8 (a : Nat), .int .u8 (b : Nat)] := hn1.var
  have pr1 : Pres h.next h h1 := hn1.pres (Nat.le_refl _)
  simp only [zaa,zab,zac,zad,zae,zaf,zag,zah,zai,zaj,zak,zal,zam,zan,zao,zap,zaq,zar,zas,zat,zau,zav,zaw,zax,zay,zaz,zba,zbb,zbc,zbd,zbe,zbf,zbg,zbh,zbi,zbj,zbk,zbl,zbm,zbn,zbo,zbp,zbq,zbr,zbs,zbt,zbu,zbv,zbw,zbx,zby,zbz,zca,zcb,zcc,zcd,zce,zcf,zcg,zch,zci,zcj,zck,zcl,zcm,zcn,zco,zcp,zcq,zcr,zcs,zct,zcu,zcv,zcw,zcx,zcy,zcz,zda,zdb,zdc,zdd,guardV,nth,zde,zdf,zdg,zdh,zdi,Nat.reduceEqDiff,reduceIte,zdj,zdk,zdl,resultsA,RetO,Nat.reduceLT,zdm,zdn,zdo,zdp,zdq,zdr,zds,zdt,zdu,zdv,zdw,zdx,zdy,zdz,zea,zeb,zec,zed,zee,zef,zeg,zeh,zei,zej,zek,zel,zem,zen,zeo,zep,zeq]
  refine CallO_f (made_spec (N := N) (most := 10) (least := 0) (by omega) hnx hny (by omega) (by omega) (by omega) hbx hby (hs.mono (B' := h1.blks) fun b _ hb => pr1.get b (by omega)) (hs'.mono (B' := h1.blks) fun b _ hb => pr1.get b (by omega)) (by omega)) (by omega) fun u h2 hp2 hu => ?_
  obtain ⟨js, B1, B2, k1, k2, hjs, rfl, hsj, hsp⟩ := hu
  have n2 := hp2.next
  have pr2 := pr1.trans (hp2.le (m' := h.next) (by omega))
  replace v5 := v5.mono (B' := h2.blks) (hp2.get _ (by omega))
  have hs2 := hs'.mono (B' := h2.blks) fun b _ hb => pr2.get b (by omega)
  obtain ⟨A3, c3, es3, hsl3⟩ := sliceO_take (E := En G) (kd := .i64) (m := min ny 19) u46 i51 size51 hs2 (Nat.min_le_left _ _)
  rw [prB_take] at hsl3
  have h19 : min (ny : Int) 19 = ((min ny 19 : Nat) : Int) := min_cast (b := 19)
  have zero51 : inf51.zero = some (.agg #[.int .u8 0, .int .u8 0]) := by kernel_rfl
  have l5 : loadO (En G) 51 h2.blks (some (.pointer (some ⟨h.next, 0, none⟩))) = some (.agg #[.int .u8 (a : Nat), .int .u8 (b : Nat)]) := v5.loadA agg51 i51 (by rw [size51]; rfl)
  have l46 : lenO (En G) h2.blks 46 (some (.slice A' ny c')) = some (.int .i64 ny) := len46
  simp only [zaa,zab,zac,zad,zae,zaf,zag,zah,zai,zaj,zak,zal,zam,zan,zao,zap,zaq,zar,zas,zat,zau,zav,zaw,zax,zay,zaz,zba,zbb,zbc,zbd,zbe,zbf,zbg,zbh,zbi,zbj,zbk,zbl,zbm,zbn,zbo,zbp,zbq,zbr,zbs,zbt,zbu,zbv,zbw,zbx,zby,zbz,zca,zcb,zcc,zcd,zce,zcf,zcg,zch,zci,zcj,zck,zcl,zcm,zcn,zco,zcp,zcq,zcr,zcs,zct,zcu,zcv,zcw,zcx,zcy,zcz,zda,zdb,zdc,zdd,guardV,nth,zde,zdf,zdg,zdh,zdi,Nat.reduceEqDiff,reduceIte,zdj,zdk,zdl,resultsA,RetO,Nat.reduceLT,zdm,zdn,zdo,zdp,zdq,zdr,zds,zdt,zdu,zdv,zdw,zdx,zdy,zdz,zea,zeb,zec,zed,zee,zef,zeg,zeh,zei,zej,zek,zel,zem,zen,zeo,zep,zeq]
  refine WK_regionD 16 10 ⟨by kernel_rfl, by kernel_rfl, by kernel_rfl, by kernel_rfl⟩ rfl rfl ?_
  try simp only [zaa,zab,zac,zad,zae,zaf,zag,zah,zai,zaj,zak,zal,zam,zan,zao,zap,zaq,zar,zas,zat,zau,zav,zaw,zax,zay,zaz,zba,zbb,zbc,zbd,zbe,zbf,zbg,zbh,zbi,zbj,zbk,zbl,zbm,zbn,zbo,zbp,zbq,zbr,zbs,zbt,zbu,zbv,zbw,zbx,zby,zbz,zca,zcb,zcc,zcd,zce,zcf,zcg,zch,zci,zcj,zck,zcl,zcm,zcn,zco,zcp,zcq,zcr,zcs,zct,zcu,zcv,zcw,zcx,zcy,zcz,zda,zdb,zdc,zdd,guardV,nth,zde,zdf,zdg,zdh,zdi,Nat.reduceEqDiff,reduceIte,zdj,zdk,zdl,resultsA,RetO,Nat.reduceLT,zdm,zdn,zdo,zdp,zdq,zdr,zds,zdt,zdu,zdv,zdw,zdx,zdy,zdz,zea,zeb,zec,zed,zee,zef,zeg,zeh,zei,zej,zek,zel,zem,zen,zeo,zep,zeq]
  refine At_lit0 u46 i51 zero51 (by rw [size51]; rfl) (by omega) ?_
  simp (disch := omega) only [zaa,zab,zac,zad,zae,zaf,zag,zah,zai,zaj,zak,zal,zam,zan,zao,zap,zaq,zar,zas,zat,zau,zav,zaw,zax,zay,zaz,zba,zbb,zbc,zbd,zbe,zbf,zbg,zbh,zbi,zbj,zbk,zbl,zbm,zbn,zbo,zbp,zbq,zbr,zbs,zbt,zbu,zbv,zbw,zbx,zby,zbz,zca,zcb,zcc,zcd,zce,zcf,zcg,zch,zci,zcj,zck,zcl,zcm,zcn,zco,zcp,zcq,zcr,zcs,zct,zcu,zcv,zcw,zcx,zcy,zcz,zda,zdb,zdc,zdd,guardV,nth,zde,zdf,zdg,zdh,zdi,Nat.reduceEqDiff,reduceIte,zdj,zdk,zdl,resultsA,RetO,Nat.reduceLT,zdm,zdn,zdo,zdp,zdq,zdr,zds,zdt,zdu,zdv,zdw,zdx,zdy,zdz,zea,zeb,zec,zed,zee,zef,zeg,zeh,zei,zej,zek,zel,zem,zen,zeo,zep,zeq, l46, h19, es3]
  refine At_appendF (M := prB (ys.take (min ny 19))) (m := min ny 19) (v := .slice A3 (min ny 19) c3) u46 u46 i51 zero51 (by rw [size51, bytes51]; rfl) (by simp only [zaa,zab,zac,zad,zae,zaf,zag,zah,zai,zaj,zak,zal,zam,zan,zao,zap,zaq,zar,zas,zat,zau,zav,zaw,zax,zay,zaz,zba,zbb,zbc,zbd,zbe,zbf,zbg,zbh,zbi,zbj,zbk,zbl,zbm,zbn,zbo,zbp,zbq,zbr,zbs,zbt,zbu,zbv,zbw,zbx,zby,zbz,zca,zcb,zcc,zcd,zce,zcf,zcg,zch,zci,zcj,zck,zcl,zcm,zcn,zco,zcp,zcq,zcr,zcs,zct,zcu,zcv,zcw,zcx,zcy,zcz,zda,zdb,zdc,zdd,guardV,nth,zde,zdf,zdg,zdh,zdi,Nat.reduceEqDiff,reduceIte,zdj,zdk,zdl,resultsA,RetO,Nat.reduceLT,zdm,zdn,zdo,zdp,zdq,zdr,zds,zdt,zdu,zdv,zdw,zdx,zdy,zdz,zea,zeb,zec,zed,zee,zef,zeg,zeh,zei,zej,zek,zel,zem,zen,zeo,zep,zeq]) (by simp only [zaa,zab,zac,zad,zae,zaf,zag,zah,zai,zaj,zak,zal,zam,zan,zao,zap,zaq,zar,zas,zat,zau,zav,zaw,zax,zay,zaz,zba,zbb,zbc,zbd,zbe,zbf,zbg,zbh,zbi,zbj,zbk,zbl,zbm,zbn,zbo,zbp,zbq,zbr,zbs,zbt,zbu,zbv,zbw,zbx,zby,zbz,zca,zcb,zcc,zcd,zce,zcf,zcg,zch,zci,zcj,zck,zcl,zcm,zcn,zco,zcp,zcq,zcr,zcs,zct,zcu,zcv,zcw,zcx,zcy,zcz,zda,zdb,zdc,zdd,guardV,nth,zde,zdf,zdg,zdh,zdi,Nat.reduceEqDiff,reduceIte,zdj,zdk,zdl,resultsA,RetO,Nat.reduceLT,zdm,zdn,zdo,zdp,zdq,zdr,zds,zdt,zdu,zdv,zdw,zdx,zdy,zdz,zea,zeb,zec,zed,zee,zef,zeg,zeh,zei,zej,zek,zel,zem,zen,zeo,zep,zeq]) (by rw [size51]; exact hsl3) (by omega) prB_one (by omega) fun B4 h3 hp3 hs3 => ?_
  rw [size51] at hs3
  have n3 := hp3.next
  have v5b := v5.mono (B' := h3.blks) (hp3.get _ (by omega))
  have l53 : loadO (En G) 51 h3.blks (some (.pointer (some ⟨h.next, 0, none⟩))) = some (.agg #[.int .u8 (a : Nat), .int .u8 (b : Nat)]) := v5b.loadA agg51 i51 (by rw [size51]; rfl)
  simp only [zaa,zab,zac,zad,zae,zaf,zag,zah,zai,zaj,zak,zal,zam,zan,zao,zap,zaq,zar,zas,zat,zau,zav,zaw,zax,zay,zaz,zba,zbb,zbc,zbd,zbe,zbf,zbg,zbh,zbi,zbj,zbk,zbl,zbm,zbn,zbo,zbp,zbq,zbr,zbs,zbt,zbu,zbv,zbw,zbx,zby,zbz,zca,zcb,zcc,zcd,zce,zcf,zcg,zch,zci,zcj,zck,zcl,zcm,zcn,zco,zcp,zcq,zcr,zcs,zct,zcu,zcv,zcw,zcx,zcy,zcz,zda,zdb,zdc,zdd,guardV,nth,zde,zdf,zdg,zdh,zdi,Nat.reduceEqDiff,reduceIte,zdj,zdk,zdl,resultsA,RetO,Nat.reduceLT,zdm,zdn,zdo,zdp,zdq,zdr,zds,zdt,zdu,zdv,zdw,zdx,zdy,zdz,zea,zeb,zec,zed,zee,zef,zeg,zeh,zei,zej,zek,zel,zem,zen,zeo,zep,zeq, l53]
  refine At_lit (vs := [(0, .agg #[.int .u8 (a : Nat), .int .u8 (b : Nat)])]) (cs := #[.int .u8 (a : Nat), .int .u8 (b : Nat)]) u46 i51 zero51 (by rw [size51]; rfl) (by simp only [zaa,zab,zac,zad,zae,zaf,zag,zah,zai,zaj,zak,zal,zam,zan,zao,zap,zaq,zar,zas,zat,zau,zav,zaw,zax,zay,zaz,zba,zbb,zbc,zbd,zbe,zbf,zbg,zbh,zbi,zbj,zbk,zbl,zbm,zbn,zbo,zbp,zbq,zbr,zbs,zbt,zbu,zbv,zbw,zbx,zby,zbz,zca,zcb,zcc,zcd,zce,zcf,zcg,zch,zci,zcj,zck,zcl,zcm,zcn,zco,zcp,zcq,zcr,zcs,zct,zcu,zcv,zcw,zcx,zcy,zcz,zda,zdb,zdc,zdd,guardV,nth,zde,zdf,zdg,zdh,zdi,Nat.reduceEqDiff,reduceIte,zdj,zdk,zdl,resultsA,RetO,Nat.reduceLT,zdm,zdn,zdo,zdp,zdq,zdr,zds,zdt,zdu,zdv,zdw,zdx,zdy,zdz,zea,zeb,zec,zed,zee,zef,zeg,zeh,zei,zej,zek,zel,zem,zen,zeo,zep,zeq]) (by rw [size51]; rfl) (by omega) fun h5 hn5 => ?_
  rw [size51] at hn5
  have n5 := hn5.next
  have hsx : SlV h5.blks h3.next h5.next 2 1 (prB [(a, b)]) (.slice (some ⟨h3.next, 0, none⟩) 1 1) := hn5.slv rfl
  have hs5 : SlV h5.blks h2.next h3.next 2 (min ny 19) (prB (ys.take (min ny 19))) (.slice B4 (min ny 19) (min ny 19)) := hs3.mono fun b _ hb => by rw [hn5.get, if_neg (by omega)]
  have pr5 := (pr2.trans (hp3.le (m' := h.next) (by omega))).trans ((hn5.pres (Nat.le_refl _)).le (m' := h.next) (by omega))
  have ob : ∀ y, blkOf (.slice B4 (min ny 19) (min ny 19)) = some y → h2.next ≤ y := fun y hy => hs5.blk y hy
  simp only [zaa,zab,zac,zad,zae,zaf,zag,zah,zai,zaj,zak,zal,zam,zan,zao,zap,zaq,zar,zas,zat,zau,zav,zaw,zax,zay,zaz,zba,zbb,zbc,zbd,zbe,zbf,zbg,zbh,zbi,zbj,zbk,zbl,zbm,zbn,zbo,zbp,zbq,zbr,zbs,zbt,zbu,zbv,zbw,zbx,zby,zbz,zca,zcb,zcc,zcd,zce,zcf,zcg,zch,zci,zcj,zck,zcl,zcm,zcn,zco,zcp,zcq,zcr,zcs,zct,zcu,zcv,zcw,zcx,zcy,zcz,zda,zdb,zdc,zdd,guardV,nth,zde,zdf,zdg,zdh,zdi,Nat.reduceEqDiff,reduceIte,zdj,zdk,zdl,resultsA,RetO,Nat.reduceLT,zdm,zdn,zdo,zdp,zdq,zdr,zds,zdt,zdu,zdv,zdw,zdx,zdy,zdz,zea,zeb,zec,zed,zee,zef,zeg,zeh,zei,zej,zek,zel,zem,zen,zeo,zep,zeq]
  refine At_append (lo := h2.next) (hi := h3.next) (lo2 := h3.next) (hi2 := h5.next) (sl := min ny 19) (sc := min ny 19) (m := 1) (L := prB (ys.take (min ny 19))) (M := prB [(a, b)]) (A := B4) (v := .slice (some ⟨h3.next, 0, none⟩) 1 1) u46 u46 i51 zero51 (by rw [size51, bytes51]; rfl) (by simp only [zaa,zab,zac,zad,zae,zaf,zag,zah,zai,zaj,zak,zal,zam,zan,zao,zap,zaq,zar,zas,zat,zau,zav,zaw,zax,zay,zaz,zba,zbb,zbc,zbd,zbe,zbf,zbg,zbh,zbi,zbj,zbk,zbl,zbm,zbn,zbo,zbp,zbq,zbr,zbs,zbt,zbu,zbv,zbw,zbx,zby,zbz,zca,zcb,zcc,zcd,zce,zcf,zcg,zch,zci,zcj,zck,zcl,zcm,zcn,zco,zcp,zcq,zcr,zcs,zct,zcu,zcv,zcw,zcx,zcy,zcz,zda,zdb,zdc,zdd,guardV,nth,zde,zdf,zdg,zdh,zdi,Nat.reduceEqDiff,reduceIte,zdj,zdk,zdl,resultsA,RetO,Nat.reduceLT,zdm,zdn,zdo,zdp,zdq,zdr,zds,zdt,zdu,zdv,zdw,zdx,zdy,zdz,zea,zeb,zec,zed,zee,zef,zeg,zeh,zei,zej,zek,zel,zem,zen,zeo,zep,zeq]) (by rw [size51]; exact hs5) (by omega) (by rw [En_G]; omega) (by simp only [zaa,zab,zac,zad,zae,zaf,zag,zah,zai,zaj,zak,zal,zam,zan,zao,zap,zaq,zar,zas,zat,zau,zav,zaw,zax,zay,zaz,zba,zbb,zbc,zbd,zbe,zbf,zbg,zbh,zbi,zbj,zbk,zbl,zbm,zbn,zbo,zbp,zbq,zbr,zbs,zbt,zbu,zbv,zbw,zbx,zby,zbz,zca,zcb,zcc,zcd,zce,zcf,zcg,zch,zci,zcj,zck,zcl,zcm,zcn,zco,zcp,zcq,zcr,zcs,zct,zcu,zcv,zcw,zcx,zcy,zcz,zda,zdb,zdc,zdd,guardV,nth,zde,zdf,zdg,zdh,zdi,Nat.reduceEqDiff,reduceIte,zdj,zdk,zdl,resultsA,RetO,Nat.reduceLT,zdm,zdn,zdo,zdp,zdq,zdr,zds,zdt,zdu,zdv,zdw,zdx,zdy,zdz,zea,zeb,zec,zed,zee,zef,zeg,zeh,zei,zej,zek,zel,zem,zen,zeo,zep,zeq]) (by rw [size51]; exact hsx) (by omega) (by omega) prB_one (by omega) fun h6 ha6 => ?_
  rw [size51] at ha6
  have n6 : h6.next = h5.next + 1 := ha6.next
  have w6 : h2.next ≤ h6.wm := by
    have := ha6.wm h2.next ob
    have e : (st true h5).wm = h5.next := rfl
    rw [e] at this
    omega
  have g6 : ∀ y, y < h2.next → h6.blks.get y = h2.blks.get y := fun y hy => by
    rw [ha6.get]
    have e1 : ¬ y = (st true h5).next := by show ¬ y = h5.next; omega
    rw [if_neg e1, if_neg fun e2 => by have := ob y e2; omega]
    show h5.blks.get y = _
    rw [hn5.get, if_neg (by omega), hp3.get y hy]
  have hs6 := ha6.slv (n := min ny 19 + 1) (c := min ny 19 + 1) (by rw [List.length_append, prB_len, prB_len, List.length_take]; simp; omega)
  simp only [zaa,zab,zac,zad,zae,zaf,zag,zah,zai,zaj,zak,zal,zam,zan,zao,zap,zaq,zar,zas,zat,zau,zav,zaw,zax,zay,zaz,zba,zbb,zbc,zbd,zbe,zbf,zbg,zbh,zbi,zbj,zbk,zbl,zbm,zbn,zbo,zbp,zbq,zbr,zbs,zbt,zbu,zbv,zbw,zbx,zby,zbz,zca,zcb,zcc,zcd,zce,zcf,zcg,zch,zci,zcj,zck,zcl,zcm,zcn,zco,zcp,zcq,zcr,zcs,zct,zcu,zcv,zcw,zcx,zcy,zcz,zda,zdb,zdc,zdd,guardV,nth,zde,zdf,zdg,zdh,zdi,Nat.reduceEqDiff,reduceIte,zdj,zdk,zdl,resultsA,RetO,Nat.reduceLT,zdm,zdn,zdo,zdp,zdq,zdr,zds,zdt,zdu,zdv,zdw,zdx,zdy,zdz,zea,zeb,zec,zed,zee,zef,zeg,zeh,zei,zej,zek,zel,zem,zen,zeo,zep,zeq]
  intro wm hwm
  have pr7 : Pres h.next h ⟨h6.blks, h6.next, wm⟩ := ⟨by show h.next ≤ h6.next; omega, by have := pr5.wm; show _ ≤ wm; omega, fun y hy => by
    show h6.blks.get y = _
    rw [g6 y (by omega)]; exact pr2.get y hy⟩
  have hs7 : SlV (H.mk h6.blks h6.next wm).blks h5.next (H.mk h6.blks h6.next wm).next 2 (min ny 19 + 1) (prB (ys.take (min ny 19)) ++ prB [(a, b)]) (.slice (some ⟨h5.next, 0, none⟩) (min ny 19 + 1) (min ny 19 + 1)) := hs6
  generalize hh7 : H.mk h6.blks h6.next wm = h7 at pr7 hs7 ⊢
  have e7 : h7.blks = h6.blks := by rw [← hh7]
  have n7 : h7.next = h6.next := by rw [← hh7]
  have hyl : (ys.take (min ny 19) ++ [(a, b)]).length = min ny 19 + 1 := by rw [List.length_append, List.length_take]; simp; omega
  rw [← prB_app, ← hyl] at hs7
  have hby2 : Byt (ys.take (min ny 19) ++ [(a, b)]) := fun p hp => by
    rw [List.mem_append, List.mem_singleton] at hp
    rcases hp with hp | rfl
    · exact hby p (List.mem_of_mem_take hp)
    · exact ⟨ha, hb⟩
  have eyl : min ny 19 + 1 = (ys.take (min ny 19) ++ [(a, b)]).length := hyl.symm
  have l57 : loadO (En G) 51 h7.blks (some (.pointer (some ⟨h.next, 0, none⟩))) = some (.agg #[.int .u8 (a : Nat), .int .u8 (b : Nat)]) := (v5.mono (B' := h7.blks) (by rw [e7]; exact g6 _ (by omega))).loadA agg51 i51 (by rw [size51]; rfl)
  have l55 : loadO (En G) 51 h5.blks (some (.pointer (some ⟨h.next, 0, none⟩))) = some (.agg #[.int .u8 (a : Nat), .int .u8 (b : Nat)]) := (v5b.mono (B' := h5.blks) (by rw [hn5.get, if_neg (by omega)])).loadA agg51 i51 (by rw [size51]; rfl)
  rw [eyl]
  try simp only [zaa,zab,zac,zad,zae,zaf,zag,zah,zai,zaj,zak,zal,zam,zan,zao,zap,zaq,zar,zas,zat,zau,zav,zaw,zax,zay,zaz,zba,zbb,zbc,zbd,zbe,zbf,zbg,zbh,zbi,zbj,zbk,zbl,zbm,zbn,zbo,zbp,zbq,zbr,zbs,zbt,zbu,zbv,zbw,zbx,zby,zbz,zca,zcb,zcc,zcd,zce,zcf,zcg,zch,zci,zcj,zck,zcl,zcm,zcn,zco,zcp,zcq,zcr,zcs,zct,zcu,zcv,zcw,zcx,zcy,zcz,zda,zdb,zdc,zdd,guardV,nth,zde,zdf,zdg,zdh,zdi,Nat.reduceEqDiff,reduceIte,zdj,zdk,zdl,resultsA,RetO,Nat.reduceLT,zdm,zdn,zdo,zdp,zdq,zdr,zds,zdt,zdu,zdv,zdw,zdx,zdy,zdz,zea,zeb,zec,zed,zee,zef,zeg,zeh,zei,zej,zek,zel,zem,zen,zeo,zep,zeq]
  refine CallO_spec (Q := fun v h' => ∃ js B1 B2 k1 k2, js = mkJ 0 (xs.take 10) ∧ v = .tuple #[.slice B1 js.length k1, .slice B2 (mkP js.length ((ys.take (min ny 19) ++ [(a, b)]).take 20)).length k2] ∧
      SlV h'.blks h7.next h'.next 2 js.length (prs js) (.slice B1 js.length k1) ∧ SlV h'.blks h7.next h'.next 2 (mkP js.length ((ys.take (min ny 19) ++ [(a, b)]).take 20)).length (prs (mkP js.length ((ys.take (min ny 19) ++ [(a, b)]).take 20))) (.slice B2 (mkP js.length ((ys.take (min ny 19) ++ [(a, b)]).take 20)).length k2))
    (made_spec (N := h7.next) (most := 10) (least := 0) (by show G ≤ h7.next; omega) hnx rfl (by omega) (by omega) (by omega) hbx hby2 ((hs.mono (B' := h7.blks) fun b _ hb => pr7.get b (by omega)).wide (Nat.zero_le _) (by omega)) (hs7.wide (Nat.zero_le _) (Nat.le_refl _)) (Nat.le_refl _)) (by omega) (fun v h' wm hq => hq) fun u h8 hp8 hu => ?_
  obtain ⟨js2, B5, B6, k5, k6, hjs2, rfl, _, hsq⟩ := hu
  have ejs : js = js2 := by rw [hjs, hjs2]
  subst ejs
  have n8 := hp8.next
  have pr8 := pr7.trans (hp8.le (m' := h.next) (by omega))
  have l58 : loadO (En G) 51 h8.blks (some (.pointer (some ⟨h.next, 0, none⟩))) = some (.agg #[.int .u8 (a : Nat), .int .u8 (b : Nat)]) := (v5.mono (B' := h8.blks) (by rw [hp8.get _ (by omega), e7]; exact g6 _ (by omega))).loadA agg51 i51 (by rw [size51]; rfl)
  simp only [zaa,zab,zac,zad,zae,zaf,zag,zah,zai,zaj,zak,zal,zam,zan,zao,zap,zaq,zar,zas,zat,zau,zav,zaw,zax,zay,zaz,zba,zbb,zbc,zbd,zbe,zbf,zbg,zbh,zbi,zbj,zbk,zbl,zbm,zbn,zbo,zbp,zbq,zbr,zbs,zbt,zbu,zbv,zbw,zbx,zby,zbz,zca,zcb,zcc,zcd,zce,zcf,zcg,zch,zci,zcj,zck,zcl,zcm,zcn,zco,zcp,zcq,zcr,zcs,zct,zcu,zcv,zcw,zcx,zcy,zcz,zda,zdb,zdc,zdd,guardV,nth,zde,zdf,zdg,zdh,zdi,Nat.reduceEqDiff,reduceIte,zdj,zdk,zdl,resultsA,RetO,Nat.reduceLT,zdm,zdn,zdo,zdp,zdq,zdr,zds,zdt,zdu,zdv,zdw,zdx,zdy,zdz,zea,zeb,zec,zed,zee,zef,zeg,zeh,zei,zej,zek,zel,zem,zen,zeo,zep,zeq]
  refine ⟨dirtyOK_of (Ls := [8]) (by kernel_rfl) fun i hi => ?_, ?_⟩
  · simp only [List.mem_cons, List.not_mem_nil, or_false] at hi
    subst hi
    exact ⟨_, 51, .tmp 5, h.next, 0, .agg #[.int .u8 (a : Nat), .int .u8 (b : Nat)], rfl, rfl, rfl, by simp only [zaa,zab,zac,zad,zae,zaf,zag,zah,zai,zaj,zak,zal,zam,zan,zao,zap,zaq,zar,zas,zat,zau,zav,zaw,zax,zay,zaz,zba,zbb,zbc,zbd,zbe,zbf,zbg,zbh,zbi,zbj,zbk,zbl,zbm,zbn,zbo,zbp,zbq,zbr,zbs,zbt,zbu,zbv,zbw,zbx,zby,zbz,zca,zcb,zcc,zcd,zce,zcf,zcg,zch,zci,zcj,zck,zcl,zcm,zcn,zco,zcp,zcq,zcr,zcs,zct,zcu,zcv,zcw,zcx,zcy,zcz,zda,zdb,zdc,zdd,guardV,nth,zde,zdf,zdg,zdh,zdi,Nat.reduceEqDiff,reduceIte,zdj,zdk,zdl,resultsA,RetO,Nat.reduceLT,zdm,zdn,zdo,zdp,zdq,zdr,zds,zdt,zdu,zdv,zdw,zdx,zdy,zdz,zea,zeb,zec,zed,zee,zef,zeg,zeh,zei,zej,zek,zel,zem,zen,zeo,zep,zeq], l55, l58, by simp [sameO, sameL, sameA]⟩
  have k8 : ∀ b, b < h2.next → h8.blks.get b = h2.blks.get b := fun b hb => by rw [hp8.get b (by omega), e7]; exact g6 b hb
  obtain ⟨ps, hps⟩ : ∃ ps, ps = mkP js.length (ys.take 20) := ⟨_, rfl⟩
  rw [← hps] at hsp ⊢
  obtain ⟨qs, hqs⟩ : ∃ qs, qs = mkP js.length ((ys.take (min ny 19) ++ [(a, b)]).take 20) := ⟨_, rfl⟩
  rw [← hqs] at hsq ⊢
  have hok : PlanOk js ps := by rw [hps, hjs]; exact mk_ok (by omega) (by rw [List.length_take]; omega) (by rw [List.length_take]; omega)
  have hokq : PlanOk js qs := by rw [hqs, hjs]; exact mk_ok (by omega) (by rw [List.length_take]; omega) (by rw [List.length_take]; omega)
  have hj10 := hok.le
  have hp40 := hok.pairs
  have hq40 := hokq.pairs
  have g1 := (hsj.mono (B' := h8.blks) fun b _ hb => k8 b hb).wide (Nat.zero_le _) (show h2.next ≤ h8.next by omega)
  have g2 := (hsp.mono (B' := h8.blks) fun b _ hb => k8 b hb).wide (Nat.zero_le _) (show h2.next ≤ h8.next by omega)
  have g3 := hsq.wide (Nat.zero_le _) (Nat.le_refl h8.next)
  have l46b : lenO (En G) h8.blks 46 (some (.slice A' ny c')) = some (.int .i64 ny) := len46
  have d00 : decide ((0 : Int) = 0) = true := rfl
  try simp only [zaa,zab,zac,zad,zae,zaf,zag,zah,zai,zaj,zak,zal,zam,zan,zao,zap,zaq,zar,zas,zat,zau,zav,zaw,zax,zay,zaz,zba,zbb,zbc,zbd,zbe,zbf,zbg,zbh,zbi,zbj,zbk,zbl,zbm,zbn,zbo,zbp,zbq,zbr,zbs,zbt,zbu,zbv,zbw,zbx,zby,zbz,zca,zcb,zcc,zcd,zce,zcf,zcg,zch,zci,zcj,zck,zcl,zcm,zcn,zco,zcp,zcq,zcr,zcs,zct,zcu,zcv,zcw,zcx,zcy,zcz,zda,zdb,zdc,zdd,guardV,nth,zde,zdf,zdg,zdh,zdi,Nat.reduceEqDiff,reduceIte,zdj,zdk,zdl,resultsA,RetO,Nat.reduceLT,zdm,zdn,zdo,zdp,zdq,zdr,zds,zdt,zdu,zdv,zdw,zdx,zdy,zdz,zea,zeb,zec,zed,zee,zef,zeg,zeh,zei,zej,zek,zel,zem,zen,zeo,zep,zeq]
  by_cases h20 : 20 ≤ ny
  · have d20 : decide ((ny : Int) ≥ 20) = true := decide_eq_true (by omega)
    simp only [zaa,zab,zac,zad,zae,zaf,zag,zah,zai,zaj,zak,zal,zam,zan,zao,zap,zaq,zar,zas,zat,zau,zav,zaw,zax,zay,zaz,zba,zbb,zbc,zbd,zbe,zbf,zbg,zbh,zbi,zbj,zbk,zbl,zbm,zbn,zbo,zbp,zbq,zbr,zbs,zbt,zbu,zbv,zbw,zbx,zby,zbz,zca,zcb,zcc,zcd,zce,zcf,zcg,zch,zci,zcj,zck,zcl,zcm,zcn,zco,zcp,zcq,zcr,zcs,zct,zcu,zcv,zcw,zcx,zcy,zcz,zda,zdb,zdc,zdd,guardV,nth,zde,zdf,zdg,zdh,zdi,Nat.reduceEqDiff,reduceIte,zdj,zdk,zdl,resultsA,RetO,Nat.reduceLT,zdm,zdn,zdo,zdp,zdq,zdr,zds,zdt,zdu,zdv,zdw,zdx,zdy,zdz,zea,zeb,zec,zed,zee,zef,zeg,zeh,zei,zej,zek,zel,zem,zen,zeo,zep,zeq, l46b, d20]
    refine CallO_f (mBest_spec (js := js) (ps := ps) (N := h8.next) (by omega) rfl rfl g1 g2 (by first | exact Nat.le_refl _ | omega)) (by omega) fun u hE hpE hu => ?_
    have nE := hpE.next
    rcases hu with ⟨hno, _⟩ | ⟨_, o, BO, hbest, rfl, _⟩
    · exact absurd hok hno
    try simp only [zaa,zab,zac,zad,zae,zaf,zag,zah,zai,zaj,zak,zal,zam,zan,zao,zap,zaq,zar,zas,zat,zau,zav,zaw,zax,zay,zaz,zba,zbb,zbc,zbd,zbe,zbf,zbg,zbh,zbi,zbj,zbk,zbl,zbm,zbn,zbo,zbp,zbq,zbr,zbs,zbt,zbu,zbv,zbw,zbx,zby,zbz,zca,zcb,zcc,zcd,zce,zcf,zcg,zch,zci,zcj,zck,zcl,zcm,zcn,zco,zcp,zcq,zcr,zcs,zct,zcu,zcv,zcw,zcx,zcy,zcz,zda,zdb,zdc,zdd,guardV,nth,zde,zdf,zdg,zdh,zdi,Nat.reduceEqDiff,reduceIte,zdj,zdk,zdl,resultsA,RetO,Nat.reduceLT,zdm,zdn,zdo,zdp,zdq,zdr,zds,zdt,zdu,zdv,zdw,zdx,zdy,zdz,zea,zeb,zec,zed,zee,zef,zeg,zeh,zei,zej,zek,zel,zem,zen,zeo,zep,zeq]
    refine CallO_f (mBest_spec (js := js) (ps := ps) (N := h8.next) (by omega) rfl rfl (g1.mono fun b _ hb => hpE.get b hb) (g2.mono fun b _ hb => hpE.get b hb) nE) (by omega) fun u hF hpF hu => ?_
    have nF := hpF.next
    rcases hu with ⟨hno, _⟩ | ⟨_, o', BO', hbest', rfl, _⟩
    · exact absurd hok hno
    try simp only [zaa,zab,zac,zad,zae,zaf,zag,zah,zai,zaj,zak,zal,zam,zan,zao,zap,zaq,zar,zas,zat,zau,zav,zaw,zax,zay,zaz,zba,zbb,zbc,zbd,zbe,zbf,zbg,zbh,zbi,zbj,zbk,zbl,zbm,zbn,zbo,zbp,zbq,zbr,zbs,zbt,zbu,zbv,zbw,zbx,zby,zbz,zca,zcb,zcc,zcd,zce,zcf,zcg,zch,zci,zcj,zck,zcl,zcm,zcn,zco,zcp,zcq,zcr,zcs,zct,zcu,zcv,zcw,zcx,zcy,zcz,zda,zdb,zdc,zdd,guardV,nth,zde,zdf,zdg,zdh,zdi,Nat.reduceEqDiff,reduceIte,zdj,zdk,zdl,resultsA,RetO,Nat.reduceLT,zdm,zdn,zdo,zdp,zdq,zdr,zds,zdt,zdu,zdv,zdw,zdx,zdy,zdz,zea,zeb,zec,zed,zee,zef,zeg,zeh,zei,zej,zek,zel,zem,zen,zeo,zep,zeq]
    refine CallO_f (mOrders_spec (js := js) (ps := ps) (N := h8.next) (by omega) rfl rfl (g1.mono fun b _ hb => by rw [hpF.get b (by omega), hpE.get b hb]) (g2.mono fun b _ hb => by rw [hpF.get b (by omega), hpE.get b hb]) (by omega)) (by omega) fun u hI hpI hu => ?_
    have nI := hpI.next
    rcases hu with ⟨hno, _⟩ | ⟨_, rfl⟩
    · exact absurd hok hno
    try simp only [zaa,zab,zac,zad,zae,zaf,zag,zah,zai,zaj,zak,zal,zam,zan,zao,zap,zaq,zar,zas,zat,zau,zav,zaw,zax,zay,zaz,zba,zbb,zbc,zbd,zbe,zbf,zbg,zbh,zbi,zbj,zbk,zbl,zbm,zbn,zbo,zbp,zbq,zbr,zbs,zbt,zbu,zbv,zbw,zbx,zby,zbz,zca,zcb,zcc,zcd,zce,zcf,zcg,zch,zci,zcj,zck,zcl,zcm,zcn,zco,zcp,zcq,zcr,zcs,zct,zcu,zcv,zcw,zcx,zcy,zcz,zda,zdb,zdc,zdd,guardV,nth,zde,zdf,zdg,zdh,zdi,Nat.reduceEqDiff,reduceIte,zdj,zdk,zdl,resultsA,RetO,Nat.reduceLT,zdm,zdn,zdo,zdp,zdq,zdr,zds,zdt,zdu,zdv,zdw,zdx,zdy,zdz,zea,zeb,zec,zed,zee,zef,zeg,zeh,zei,zej,zek,zel,zem,zen,zeo,zep,zeq]
    refine CallO_f (mOrders_spec (js := js) (ps := ps) (N := h8.next) (by omega) rfl rfl (g1.mono fun b _ hb => by rw [hpI.get b (by omega), hpF.get b (by omega), hpE.get b hb]) (g2.mono fun b _ hb => by rw [hpI.get b (by omega), hpF.get b (by omega), hpE.get b hb]) (by omega)) (by omega) fun u hK hpK hu => ?_
    rcases hu with ⟨hno, _⟩ | ⟨_, rfl⟩
    · exact absurd hok hno
    have pr9 := pr8.trans ((hpE.le (by omega)).trans ((hpF.le (by omega)).trans ((hpI.le (by omega)).trans (hpK.le (m' := h.next) (by omega)))))
    have ht9 : TabsIn tabs hK.blks := TabsIn.pres ht pr9 fun x hx => by have := tabs_lt x hx; omega
    obtain ⟨hc, hn, h1⟩ := more_law hok (fun _ h => h) hbest hbest'
    have dc : decide (((cst (lnJ js) (wtJ js) o : Nat) : Int) ≤ ((cst (lnJ js) (wtJ js) o' : Nat) : Int)) = true := decide_eq_true (by omega)
    have dn : decide (((nOrd ps js.length : Nat) : Int) ≥ ((nOrd ps js.length : Nat) : Int)) = true := decide_eq_true (by omega)
    have d1 : decide (((nOrd ps js.length : Nat) : Int) ≥ 1) = true := decide_eq_true (by omega)
    simp only [zaa,zab,zac,zad,zae,zaf,zag,zah,zai,zaj,zak,zal,zam,zan,zao,zap,zaq,zar,zas,zat,zau,zav,zaw,zax,zay,zaz,zba,zbb,zbc,zbd,zbe,zbf,zbg,zbh,zbi,zbj,zbk,zbl,zbm,zbn,zbo,zbp,zbq,zbr,zbs,zbt,zbu,zbv,zbw,zbx,zby,zbz,zca,zcb,zcc,zcd,zce,zcf,zcg,zch,zci,zcj,zck,zcl,zcm,zcn,zco,zcp,zcq,zcr,zcs,zct,zcu,zcv,zcw,zcx,zcy,zcz,zda,zdb,zdc,zdd,guardV,nth,zde,zdf,zdg,zdh,zdi,Nat.reduceEqDiff,reduceIte,zdj,zdk,zdl,resultsA,RetO,Nat.reduceLT,zdm,zdn,zdo,zdp,zdq,zdr,zds,zdt,zdu,zdv,zdw,zdx,zdy,zdz,zea,zeb,zec,zed,zee,zef,zeg,zeh,zei,zej,zek,zel,zem,zen,zeo,zep,zeq, d00, dc, dn, d1]
    refine Call_lives ht9 (by omega) ?_
    simp only [zaa,zab,zac,zad,zae,zaf,zag,zah,zai,zaj,zak,zal,zam,zan,zao,zap,zaq,zar,zas,zat,zau,zav,zaw,zax,zay,zaz,zba,zbb,zbc,zbd,zbe,zbf,zbg,zbh,zbi,zbj,zbk,zbl,zbm,zbn,zbo,zbp,zbq,zbr,zbs,zbt,zbu,zbv,zbw,zbx,zby,zbz,zca,zcb,zcc,zcd,zce,zcf,zcg,zch,zci,zcj,zck,zcl,zcm,zcn,zco,zcp,zcq,zcr,zcs,zct,zcu,zcv,zcw,zcx,zcy,zcz,zda,zdb,zdc,zdd,guardV,nth,zde,zdf,zdg,zdh,zdi,Nat.reduceEqDiff,reduceIte,zdj,zdk,zdl,resultsA,RetO,Nat.reduceLT,zdm,zdn,zdo,zdp,zdq,zdr,zds,zdt,zdu,zdv,zdw,zdx,zdy,zdz,zea,zeb,zec,zed,zee,zef,zeg,zeh,zei,zej,zek,zel,zem,zen,zeo,zep,zeq]
    exact hQ' _ _ ⟨pr9, rfl⟩
  · have d20 : decide ((ny : Int) ≥ 20) = false := decide_eq_false (by omega)
    have hsub : ∀ p ∈ ps, p ∈ qs := by
      rw [hps, hqs, show min ny 19 = ny by omega, hny, List.take_length, List.take_of_length_le (show ys.length ≤ 20 by omega), List.take_of_length_le (show (ys ++ [(a, b)]).length ≤ 20 by rw [List.length_append]; simp; omega)]
      intro p hp
      unfold mkP at hp ⊢
      rw [List.flatMap_append, List.mem_append]
      exact .inl hp
    simp only [zaa,zab,zac,zad,zae,zaf,zag,zah,zai,zaj,zak,zal,zam,zan,zao,zap,zaq,zar,zas,zat,zau,zav,zaw,zax,zay,zaz,zba,zbb,zbc,zbd,zbe,zbf,zbg,zbh,zbi,zbj,zbk,zbl,zbm,zbn,zbo,zbp,zbq,zbr,zbs,zbt,zbu,zbv,zbw,zbx,zby,zbz,zca,zcb,zcc,zcd,zce,zcf,zcg,zch,zci,zcj,zck,zcl,zcm,zcn,zco,zcp,zcq,zcr,zcs,zct,zcu,zcv,zcw,zcx,zcy,zcz,zda,zdb,zdc,zdd,guardV,nth,zde,zdf,zdg,zdh,zdi,Nat.reduceEqDiff,reduceIte,zdj,zdk,zdl,resultsA,RetO,Nat.reduceLT,zdm,zdn,zdo,zdp,zdq,zdr,zds,zdt,zdu,zdv,zdw,zdx,zdy,zdz,zea,zeb,zec,zed,zee,zef,zeg,zeh,zei,zej,zek,zel,zem,zen,zeo,zep,zeq, l46b, d20]
    refine CallO_f (mBest_spec (js := js) (ps := ps) (N := h8.next) (by omega) rfl rfl g1 g2 (by first | exact Nat.le_refl _ | omega)) (by omega) fun u hE hpE hu => ?_
    have nE := hpE.next
    rcases hu with ⟨hno, _⟩ | ⟨_, o, BO, hbest, rfl, _⟩
    · exact absurd hok hno
    try simp only [zaa,zab,zac,zad,zae,zaf,zag,zah,zai,zaj,zak,zal,zam,zan,zao,zap,zaq,zar,zas,zat,zau,zav,zaw,zax,zay,zaz,zba,zbb,zbc,zbd,zbe,zbf,zbg,zbh,zbi,zbj,zbk,zbl,zbm,zbn,zbo,zbp,zbq,zbr,zbs,zbt,zbu,zbv,zbw,zbx,zby,zbz,zca,zcb,zcc,zcd,zce,zcf,zcg,zch,zci,zcj,zck,zcl,zcm,zcn,zco,zcp,zcq,zcr,zcs,zct,zcu,zcv,zcw,zcx,zcy,zcz,zda,zdb,zdc,zdd,guardV,nth,zde,zdf,zdg,zdh,zdi,Nat.reduceEqDiff,reduceIte,zdj,zdk,zdl,resultsA,RetO,Nat.reduceLT,zdm,zdn,zdo,zdp,zdq,zdr,zds,zdt,zdu,zdv,zdw,zdx,zdy,zdz,zea,zeb,zec,zed,zee,zef,zeg,zeh,zei,zej,zek,zel,zem,zen,zeo,zep,zeq]
    refine CallO_f (mBest_spec (js := js) (ps := qs) (N := h8.next) (by omega) rfl rfl (g1.mono fun b _ hb => hpE.get b hb) (g3.mono fun b _ hb => hpE.get b hb) nE) (by omega) fun u hF hpF hu => ?_
    have nF := hpF.next
    rcases hu with ⟨hno, _⟩ | ⟨_, o', BO', hbest', rfl, _⟩
    · exact absurd hokq hno
    try simp only [zaa,zab,zac,zad,zae,zaf,zag,zah,zai,zaj,zak,zal,zam,zan,zao,zap,zaq,zar,zas,zat,zau,zav,zaw,zax,zay,zaz,zba,zbb,zbc,zbd,zbe,zbf,zbg,zbh,zbi,zbj,zbk,zbl,zbm,zbn,zbo,zbp,zbq,zbr,zbs,zbt,zbu,zbv,zbw,zbx,zby,zbz,zca,zcb,zcc,zcd,zce,zcf,zcg,zch,zci,zcj,zck,zcl,zcm,zcn,zco,zcp,zcq,zcr,zcs,zct,zcu,zcv,zcw,zcx,zcy,zcz,zda,zdb,zdc,zdd,guardV,nth,zde,zdf,zdg,zdh,zdi,Nat.reduceEqDiff,reduceIte,zdj,zdk,zdl,resultsA,RetO,Nat.reduceLT,zdm,zdn,zdo,zdp,zdq,zdr,zds,zdt,zdu,zdv,zdw,zdx,zdy,zdz,zea,zeb,zec,zed,zee,zef,zeg,zeh,zei,zej,zek,zel,zem,zen,zeo,zep,zeq]
    refine CallO_f (mOrders_spec (js := js) (ps := ps) (N := h8.next) (by omega) rfl rfl (g1.mono fun b _ hb => by rw [hpF.get b (by omega), hpE.get b hb]) (g2.mono fun b _ hb => by rw [hpF.get b (by omega), hpE.get b hb]) (by omega)) (by omega) fun u hI hpI hu => ?_
    have nI := hpI.next
    rcases hu with ⟨hno, _⟩ | ⟨_, rfl⟩
    · exact absurd hok hno
    try simp only [zaa,zab,zac,zad,zae,zaf,zag,zah,zai,zaj,zak,zal,zam,zan,zao,zap,zaq,zar,zas,zat,zau,zav,zaw,zax,zay,zaz,zba,zbb,zbc,zbd,zbe,zbf,zbg,zbh,zbi,zbj,zbk,zbl,zbm,zbn,zbo,zbp,zbq,zbr,zbs,zbt,zbu,zbv,zbw,zbx,zby,zbz,zca,zcb,zcc,zcd,zce,zcf,zcg,zch,zci,zcj,zck,zcl,zcm,zcn,zco,zcp,zcq,zcr,zcs,zct,zcu,zcv,zcw,zcx,zcy,zcz,zda,zdb,zdc,zdd,guardV,nth,zde,zdf,zdg,zdh,zdi,Nat.reduceEqDiff,reduceIte,zdj,zdk,zdl,resultsA,RetO,Nat.reduceLT,zdm,zdn,zdo,zdp,zdq,zdr,zds,zdt,zdu,zdv,zdw,zdx,zdy,zdz,zea,zeb,zec,zed,zee,zef,zeg,zeh,zei,zej,zek,zel,zem,zen,zeo,zep,zeq]
    refine CallO_f (mOrders_spec (js := js) (ps := qs) (N := h8.next) (by omega) rfl rfl (g1.mono fun b _ hb => by rw [hpI.get b (by omega), hpF.get b (by omega), hpE.get b hb]) (g3.mono fun b _ hb => by rw [hpI.get b (by omega), hpF.get b (by omega), hpE.get b hb]) (by omega)) (by omega) fun u hK hpK hu => ?_
    rcases hu with ⟨hno, _⟩ | ⟨_, rfl⟩
    · exact absurd hokq hno
    have pr9 := pr8.trans ((hpE.le (by omega)).trans ((hpF.le (by omega)).trans ((hpI.le (by omega)).trans (hpK.le (m' := h.next) (by omega)))))
    have ht9 : TabsIn tabs hK.blks := TabsIn.pres ht pr9 fun x hx => by have := tabs_lt x hx; omega
    obtain ⟨hc, hn, h1⟩ := more_law hokq hsub hbest hbest'
    have dc : decide (((cst (lnJ js) (wtJ js) o : Nat) : Int) ≤ ((cst (lnJ js) (wtJ js) o' : Nat) : Int)) = true := decide_eq_true (by omega)
    have dn : decide (((nOrd ps js.length : Nat) : Int) ≥ ((nOrd qs js.length : Nat) : Int)) = true := decide_eq_true (by omega)
    have d1 : decide (((nOrd qs js.length : Nat) : Int) ≥ 1) = true := decide_eq_true (by omega)
    simp only [zaa,zab,zac,zad,zae,zaf,zag,zah,zai,zaj,zak,zal,zam,zan,zao,zap,zaq,zar,zas,zat,zau,zav,zaw,zax,zay,zaz,zba,zbb,zbc,zbd,zbe,zbf,zbg,zbh,zbi,zbj,zbk,zbl,zbm,zbn,zbo,zbp,zbq,zbr,zbs,zbt,zbu,zbv,zbw,zbx,zby,zbz,zca,zcb,zcc,zcd,zce,zcf,zcg,zch,zci,zcj,zck,zcl,zcm,zcn,zco,zcp,zcq,zcr,zcs,zct,zcu,zcv,zcw,zcx,zcy,zcz,zda,zdb,zdc,zdd,guardV,nth,zde,zdf,zdg,zdh,zdi,Nat.reduceEqDiff,reduceIte,zdj,zdk,zdl,resultsA,RetO,Nat.reduceLT,zdm,zdn,zdo,zdp,zdq,zdr,zds,zdt,zdu,zdv,zdw,zdx,zdy,zdz,zea,zeb,zec,zed,zee,zef,zeg,zeh,zei,zej,zek,zel,zem,zen,zeo,zep,zeq, d00, dc, dn, d1]
    refine Call_lives ht9 (by omega) ?_
    simp only [zaa,zab,zac,zad,zae,zaf,zag,zah,zai,zaj,zak,zal,zam,zan,zao,zap,zaq,zar,zas,zat,zau,zav,zaw,zax,zay,zaz,zba,zbb,zbc,zbd,zbe,zbf,zbg,zbh,zbi,zbj,zbk,zbl,zbm,zbn,zbo,zbp,zbq,zbr,zbs,zbt,zbu,zbv,zbw,zbx,zby,zbz,zca,zcb,zcc,zcd,zce,zcf,zcg,zch,zci,zcj,zck,zcl,zcm,zcn,zco,zcp,zcq,zcr,zcs,zct,zcu,zcv,zcw,zcx,zcy,zcz,zda,zdb,zdc,zdd,guardV,nth,zde,zdf,zdg,zdh,zdi,Nat.reduceEqDiff,reduceIte,zdj,zdk,zdl,resultsA,RetO,Nat.reduceLT,zdm,zdn,zdo,zdp,zdq,zdr,zds,zdt,zdu,zdv,zdw,zdx,zdy,zdz,zea,zeb,zec,zed,zee,zef,zeg,zeh,zei,zej,zek,zel,zem,zen,zeo,zep,zeq]
    exact hQ' _ _ ⟨pr9, rfl⟩
end
end Go.Proofs.YthiodndhokooiaaGreatDoor.Ev

