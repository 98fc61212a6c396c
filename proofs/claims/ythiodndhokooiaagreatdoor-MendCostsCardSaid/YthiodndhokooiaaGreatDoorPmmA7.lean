/- Cost; the reference's ahead, Order, Cost. -/
import Derived.Test.YthiodndhokooiaaGreatDoorPmmA6
set_option linter.unusedSimpArgs false
namespace Go.Proofs.YthiodndhokooiaaGreatDoor.Ev
open Go Go.Proofs
noncomputable section

theorem sq_congr {bf bf' : Nat → Nat} {n : Nat} (h : ∀ j, j < n → bf j = bf' j) : ∀ (l : List Int) (S : Nat), sq bf n S l = sq bf' n S l
  | [], _ => rfl
  | z :: l, S => by
    have e : rdy bf n S = rdy bf' n S := by
      unfold rdy
      refine List.filter_congr fun j hj => ?_
      rw [h j (List.mem_range.1 hj)]
    unfold sq
    rw [e, sq_congr h l]

set_option maxHeartbeats 4000000 in
set_option maxRecDepth 100000 in
theorem mCost_spec {G N n c m c' r k : Nat} {A A' A2 : Option Addr} {js ps : List (Int × Int)} {zs : List Int} {h : H} (hG : G ≤ h.next) (hn : n = js.length) (hm : m = ps.length) (hr : r = zs.length) (hr2 : r < 1000000) (hs : SlV h.blks 0 N 2 n (prs js) (.slice A n c)) (hs' : SlV h.blks 0 N 2 m (prs ps) (.slice A' m c')) (hs2 : SlV h.blks 0 N 1 r (ints zs) (.slice A2 r k)) (hN : N ≤ h.next) :
    Spec Tryz.prog (En G) 11 [.slice A n c, .slice A' m c', .slice A2 r k] h fun v _ => (¬ PlanOk js ps ∧ v = .tuple #[.int .i64 0, .int .i64 1]) ∨ (PlanOk js ps ∧ sq (bfP ps) n 0 zs ≠ some (2 ^ n - 1) ∧ v = .tuple #[.int .i64 0, .int .i64 2]) ∨
      (PlanOk js ps ∧ ∃ l, Ord (bfP ps) n l (2 ^ n - 1) ∧ zs = l.map Int.ofNat ∧ v = .tuple #[.int .i64 (cst (lnJ js) (wtJ js) l : Nat), .int .i64 0]) := by
  refine CallsE_enter (En_known (by decide)) (En_f.trans Tryz.func11) rfl ⟨Nat.le_of_ble_eq_true rfl, by decide⟩ fun Q' hQ' => ?_
  simp only [Tryz.f11, zaa,zab,zac,zad,zae,zaf,zag,zah,zai,zaj,zak,zal,zam,zan,zao,zap,zaq,zar,zas,zat,zau,zav,zaw,zax,zay,zaz,zba,zbb,zbc,zbd,zbe,zbf,zbg,zbh,zbi,zbj,zbk,zbl,zbm,zbn,zbo,zbp,zbq,zbr,zbs,zbt,zbu,zbv,zbw,zbx,zby,zbz,zca,zcb,zcc,zcd,zce,zcf,zcg,zch,zci,zcj,zck,zcl,zcm,zcn,zco,zcp,zcq,zcr,zcs,zct,zcu,zcv,zcw,zcx,zcy,zcz,zda,zdb,zdc,zdd,guardV,nth,zde,zdf,zdg,zdh,zdi,Nat.reduceEqDiff,reduceIte,zdj,zdk,zdl,resultsA,RetO,Nat.reduceLT,zdm,zdn,zdo,zdp,zdq,zdr,zds,zdt,zdu,zdv,zdw,zdx,zdy,zdz,zea,zeb,zec,zed,zee,zef,zeg,zeh,zei,zej,zek,zel,zem,zen,zeo,zep,zeq]
  refine CallO_f (newPlan_spec hG hn hm hs hs' hN) (by omega) fun u h1 hp1 hu => ?_
  have n1 := hp1.next
  rcases hu with ⟨hok, B, kb, rfl, hsb⟩ | ⟨hok, rfl⟩
  · simp only [zaa,zab,zac,zad,zae,zaf,zag,zah,zai,zaj,zak,zal,zam,zan,zao,zap,zaq,zar,zas,zat,zau,zav,zaw,zax,zay,zaz,zba,zbb,zbc,zbd,zbe,zbf,zbg,zbh,zbi,zbj,zbk,zbl,zbm,zbn,zbo,zbp,zbq,zbr,zbs,zbt,zbu,zbv,zbw,zbx,zby,zbz,zca,zcb,zcc,zcd,zce,zcf,zcg,zch,zci,zcj,zck,zcl,zcm,zcn,zco,zcp,zcq,zcr,zcs,zct,zcu,zcv,zcw,zcx,zcy,zcz,zda,zdb,zdc,zdd,guardV,nth,zde,zdf,zdg,zdh,zdi,Nat.reduceEqDiff,reduceIte,zdj,zdk,zdl,resultsA,RetO,Nat.reduceLT,zdm,zdn,zdo,zdp,zdq,zdr,zds,zdt,zdu,zdv,zdw,zdx,zdy,zdz,zea,zeb,zec,zed,zee,zef,zeg,zeh,zei,zej,zek,zel,zem,zen,zeo,zep,zeq]
    refine At_alloc i59 zero59 rfl (by omega) fun h2 hn2 => ?_
    have n2 := hn2.next
    have v8 : Var h2.blks h1.next [.slice none 0 0, .slice none 0 0] := hn2.var
    have pr2 := hp1.trans ((hn2.pres (Nat.le_refl _)).le (m' := h.next) (by omega))
    replace hsb := hsb.mono (B' := h2.blks) fun b _ hb => by rw [hn2.get, if_neg (by omega)]
    try simp only [zaa,zab,zac,zad,zae,zaf,zag,zah,zai,zaj,zak,zal,zam,zan,zao,zap,zaq,zar,zas,zat,zau,zav,zaw,zax,zay,zaz,zba,zbb,zbc,zbd,zbe,zbf,zbg,zbh,zbi,zbj,zbk,zbl,zbm,zbn,zbo,zbp,zbq,zbr,zbs,zbt,zbu,zbv,zbw,zbx,zby,zbz,zca,zcb,zcc,zcd,zce,zcf,zcg,zch,zci,zcj,zck,zcl,zcm,zcn,zco,zcp,zcq,zcr,zcs,zct,zcu,zcv,zcw,zcx,zcy,zcz,zda,zdb,zdc,zdd,guardV,nth,zde,zdf,zdg,zdh,zdi,Nat.reduceEqDiff,reduceIte,zdj,zdk,zdl,resultsA,RetO,Nat.reduceLT,zdm,zdn,zdo,zdp,zdq,zdr,zds,zdt,zdu,zdv,zdw,zdx,zdy,zdz,zea,zeb,zec,zed,zee,zef,zeg,zeh,zei,zej,zek,zel,zem,zen,zeo,zep,zeq]
    refine At_storeV (inf := inf59) (v := .agg #[.slice A n c, .slice B n kb]) i59 (by simp only [zaa,zab,zac,zad,zae,zaf,zag,zah,zai,zaj,zak,zal,zam,zan,zao,zap,zaq,zar,zas,zat,zau,zav,zaw,zax,zay,zaz,zba,zbb,zbc,zbd,zbe,zbf,zbg,zbh,zbi,zbj,zbk,zbl,zbm,zbn,zbo,zbp,zbq,zbr,zbs,zbt,zbu,zbv,zbw,zbx,zby,zbz,zca,zcb,zcc,zcd,zce,zcf,zcg,zch,zci,zcj,zck,zcl,zcm,zcn,zco,zcp,zcq,zcr,zcs,zct,zcu,zcv,zcw,zcx,zcy,zcz,zda,zdb,zdc,zdd,guardV,nth,zde,zdf,zdg,zdh,zdi,Nat.reduceEqDiff,reduceIte,zdj,zdk,zdl,resultsA,RetO,Nat.reduceLT,zdm,zdn,zdo,zdp,zdq,zdr,zds,zdt,zdu,zdv,zdw,zdx,zdy,zdz,zea,zeb,zec,zed,zee,zef,zeg,zeh,zei,zej,zek,zel,zem,zen,zeo,zep,zeq]) (by simp only [zaa,zab,zac,zad,zae,zaf,zag,zah,zai,zaj,zak,zal,zam,zan,zao,zap,zaq,zar,zas,zat,zau,zav,zaw,zax,zay,zaz,zba,zbb,zbc,zbd,zbe,zbf,zbg,zbh,zbi,zbj,zbk,zbl,zbm,zbn,zbo,zbp,zbq,zbr,zbs,zbt,zbu,zbv,zbw,zbx,zby,zbz,zca,zcb,zcc,zcd,zce,zcf,zcg,zch,zci,zcj,zck,zcl,zcm,zcn,zco,zcp,zcq,zcr,zcs,zct,zcu,zcv,zcw,zcx,zcy,zcz,zda,zdb,zdc,zdd,guardV,nth,zde,zdf,zdg,zdh,zdi,Nat.reduceEqDiff,reduceIte,zdj,zdk,zdl,resultsA,RetO,Nat.reduceLT,zdm,zdn,zdo,zdp,zdq,zdr,zds,zdt,zdu,zdv,zdw,zdx,zdy,zdz,zea,zeb,zec,zed,zee,zef,zeg,zeh,zei,zej,zek,zel,zem,zen,zeo,zep,zeq]) v8 (by rw [size59]; rfl) (by rw [size59]; rfl) rfl (by show G ≤ h1.next; omega) fun h3 hs3 v8 => ?_
    have n3 := hs3.next
    have pr3 := pr2.trans (hs3.pres (m := h.next) (by omega))
    replace hsb := hsb.mono (B' := h3.blks) fun b _ hb => hs3.get _ (by omega)
    replace v8 : Var h3.blks h1.next [.slice A n c, .slice B n kb] := v8
    have la : loadO (En G) 59 h3.blks (some (.pointer (some ⟨h1.next, 0, none⟩))) = some (.agg #[.slice A n c, .slice B n kb]) := v8.loadA agg59 i59 (by rw [size59]; rfl)
    have hz := hs2.mono (B' := h3.blks) fun b _ hb => pr3.get b (by omega)
    have hn10 : n ≤ 10 := by have := hok.le; omega
    have hbs : ∀ b ∈ (List.range n).map (bfP ps), b < 2 ^ 63 := fun b hb => by
      obtain ⟨x, _, rfl⟩ := List.mem_map.1 hb
      have := bfP_lt hok.ok x
      have hpw : 2 ^ js.length < 2 ^ 63 := Nat.pow_lt_pow_right (by omega) (by have := hok.le; omega)
      omega
    have hd0 : decide ((0 : Int) ≠ 0) = false := rfl
    simp (disch := omega) only [zaa,zab,zac,zad,zae,zaf,zag,zah,zai,zaj,zak,zal,zam,zan,zao,zap,zaq,zar,zas,zat,zau,zav,zaw,zax,zay,zaz,zba,zbb,zbc,zbd,zbe,zbf,zbg,zbh,zbi,zbj,zbk,zbl,zbm,zbn,zbo,zbp,zbq,zbr,zbs,zbt,zbu,zbv,zbw,zbx,zby,zbz,zca,zcb,zcc,zcd,zce,zcf,zcg,zch,zci,zcj,zck,zcl,zcm,zcn,zco,zcp,zcq,zcr,zcs,zct,zcu,zcv,zcw,zcx,zcy,zcz,zda,zdb,zdc,zdd,guardV,nth,zde,zdf,zdg,zdh,zdi,Nat.reduceEqDiff,reduceIte,zdj,zdk,zdl,resultsA,RetO,Nat.reduceLT,zdm,zdn,zdo,zdp,zdq,zdr,zds,zdt,zdu,zdv,zdw,zdx,zdy,zdz,zea,zeb,zec,zed,zee,zef,zeg,zeh,zei,zej,zek,zel,zem,zen,zeo,zep,zeq, hd0, la]
    refine CallO_f (isOrder_spec (N := h1.next) (N2 := N) (bs := (List.range n).map (bfP ps)) (zs := zs) (by omega) (by simp) (by omega) hbs (hsb.wide (Nat.zero_le _) (Nat.le_refl _)) (by omega) hr hr2 hz (by omega)) (by omega) fun u h4 hp4 hu => ?_
    subst hu
    have n4 := hp4.next
    have pr4 := pr3.trans (hp4.le (m' := h.next) (by omega))
    have e : sq (bfn ((List.range n).map (bfP ps))) n 0 zs = sq (bfP ps) n 0 zs := sq_congr (fun j hj => bfn_map hj) _ _
    rw [e]
    by_cases hq : sq (bfP ps) n 0 zs = some (2 ^ n - 1)
    · have hd : decide (sq (bfP ps) n 0 zs = some (2 ^ n - 1)) = true := decide_eq_true hq
      replace v8 := v8.mono (B' := h4.blks) (hp4.get _ (by omega))
      have la : loadO (En G) 59 h4.blks (some (.pointer (some ⟨h1.next, 0, none⟩))) = some (.agg #[.slice A n c, .slice B n kb]) := v8.loadA agg59 i59 (by rw [size59]; rfl)
      simp (disch := omega) only [zaa,zab,zac,zad,zae,zaf,zag,zah,zai,zaj,zak,zal,zam,zan,zao,zap,zaq,zar,zas,zat,zau,zav,zaw,zax,zay,zaz,zba,zbb,zbc,zbd,zbe,zbf,zbg,zbh,zbi,zbj,zbk,zbl,zbm,zbn,zbo,zbp,zbq,zbr,zbs,zbt,zbu,zbv,zbw,zbx,zby,zbz,zca,zcb,zcc,zcd,zce,zcf,zcg,zch,zci,zcj,zck,zcl,zcm,zcn,zco,zcp,zcq,zcr,zcs,zct,zcu,zcv,zcw,zcx,zcy,zcz,zda,zdb,zdc,zdd,guardV,nth,zde,zdf,zdg,zdh,zdi,Nat.reduceEqDiff,reduceIte,zdj,zdk,zdl,resultsA,RetO,Nat.reduceLT,zdm,zdn,zdo,zdp,zdq,zdr,zds,zdt,zdu,zdv,zdw,zdx,zdy,zdz,zea,zeb,zec,zed,zee,zef,zeg,zeh,zei,zej,zek,zel,zem,zen,zeo,zep,zeq, hd, la]
      obtain ⟨l, hl, rfl⟩ := sq_ord _ rfl hq
      have hll : l.length ≤ 10 := by have := hl.crd; have := crd_le (n := n) (S := 2 ^ n - 1); omega
      rw [List.length_map] at hr
      subst hr
      have hz := hs2.mono (B' := h4.blks) fun b _ hb => pr4.get b (by omega)
      have hsj := hs.mono (B' := h4.blks) fun b _ hb => pr4.get b (by omega)
      have hlt : ∀ j ∈ l, j < n := fun j hj => by
        have := (hl.mem j).1 hj
        rw [all_tb] at this
        simpa using this
      refine CallO_f (cost_spec (N := N) (N2 := N) (by omega) hn hsj (by omega) hz (by omega) hok.jobs hlt hll) (by omega) fun u h5 hp5 hu => ?_
      subst hu
      simp only [zaa,zab,zac,zad,zae,zaf,zag,zah,zai,zaj,zak,zal,zam,zan,zao,zap,zaq,zar,zas,zat,zau,zav,zaw,zax,zay,zaz,zba,zbb,zbc,zbd,zbe,zbf,zbg,zbh,zbi,zbj,zbk,zbl,zbm,zbn,zbo,zbp,zbq,zbr,zbs,zbt,zbu,zbv,zbw,zbx,zby,zbz,zca,zcb,zcc,zcd,zce,zcf,zcg,zch,zci,zcj,zck,zcl,zcm,zcn,zco,zcp,zcq,zcr,zcs,zct,zcu,zcv,zcw,zcx,zcy,zcz,zda,zdb,zdc,zdd,guardV,nth,zde,zdf,zdg,zdh,zdi,Nat.reduceEqDiff,reduceIte,zdj,zdk,zdl,resultsA,RetO,Nat.reduceLT,zdm,zdn,zdo,zdp,zdq,zdr,zds,zdt,zdu,zdv,zdw,zdx,zdy,zdz,zea,zeb,zec,zed,zee,zef,zeg,zeh,zei,zej,zek,zel,zem,zen,zeo,zep,zeq]
      exact hQ' _ _ ⟨pr4.trans (hp5.le (by omega)), .inr (.inr ⟨hok, l, hl, rfl, rfl⟩)⟩
    · have hd : decide (sq (bfP ps) n 0 zs = some (2 ^ n - 1)) = false := decide_eq_false hq
      simp (disch := omega) only [zaa,zab,zac,zad,zae,zaf,zag,zah,zai,zaj,zak,zal,zam,zan,zao,zap,zaq,zar,zas,zat,zau,zav,zaw,zax,zay,zaz,zba,zbb,zbc,zbd,zbe,zbf,zbg,zbh,zbi,zbj,zbk,zbl,zbm,zbn,zbo,zbp,zbq,zbr,zbs,zbt,zbu,zbv,zbw,zbx,zby,zbz,zca,zcb,zcc,zcd,zce,zcf,zcg,zch,zci,zcj,zck,zcl,zcm,zcn,zco,zcp,zcq,zcr,zcs,zct,zcu,zcv,zcw,zcx,zcy,zcz,zda,zdb,zdc,zdd,guardV,nth,zde,zdf,zdg,zdh,zdi,Nat.reduceEqDiff,reduceIte,zdj,zdk,zdl,resultsA,RetO,Nat.reduceLT,zdm,zdn,zdo,zdp,zdq,zdr,zds,zdt,zdu,zdv,zdw,zdx,zdy,zdz,zea,zeb,zec,zed,zee,zef,zeg,zeh,zei,zej,zek,zel,zem,zen,zeo,zep,zeq, hd]
      exact hQ' _ _ ⟨pr4, .inr (.inl ⟨hok, hq, rfl⟩)⟩
  · simp only [zaa,zab,zac,zad,zae,zaf,zag,zah,zai,zaj,zak,zal,zam,zan,zao,zap,zaq,zar,zas,zat,zau,zav,zaw,zax,zay,zaz,zba,zbb,zbc,zbd,zbe,zbf,zbg,zbh,zbi,zbj,zbk,zbl,zbm,zbn,zbo,zbp,zbq,zbr,zbs,zbt,zbu,zbv,zbw,zbx,zby,zbz,zca,zcb,zcc,zcd,zce,zcf,zcg,zch,zci,zcj,zck,zcl,zcm,zcn,zco,zcp,zcq,zcr,zcs,zct,zcu,zcv,zcw,zcx,zcy,zcz,zda,zdb,zdc,zdd,guardV,nth,zde,zdf,zdg,zdh,zdi,Nat.reduceEqDiff,reduceIte,zdj,zdk,zdl,resultsA,RetO,Nat.reduceLT,zdm,zdn,zdo,zdp,zdq,zdr,zds,zdt,zdu,zdv,zdw,zdx,zdy,zdz,zea,zeb,zec,zed,zee,zef,zeg,zeh,zei,zej,zek,zel,zem,zen,zeo,zep,zeq]
    refine At_alloc i59 zero59 rfl (by omega) fun h2 hn2 => ?_
    have n2 := hn2.next
    have v8 : Var h2.blks h1.next [.slice none 0 0, .slice none 0 0] := hn2.var
    have pr2 := hp1.trans ((hn2.pres (Nat.le_refl _)).le (m' := h.next) (by omega))
    try simp only [zaa,zab,zac,zad,zae,zaf,zag,zah,zai,zaj,zak,zal,zam,zan,zao,zap,zaq,zar,zas,zat,zau,zav,zaw,zax,zay,zaz,zba,zbb,zbc,zbd,zbe,zbf,zbg,zbh,zbi,zbj,zbk,zbl,zbm,zbn,zbo,zbp,zbq,zbr,zbs,zbt,zbu,zbv,zbw,zbx,zby,zbz,zca,zcb,zcc,zcd,zce,zcf,zcg,zch,zci,zcj,zck,zcl,zcm,zcn,zco,zcp,zcq,zcr,zcs,zct,zcu,zcv,zcw,zcx,zcy,zcz,zda,zdb,zdc,zdd,guardV,nth,zde,zdf,zdg,zdh,zdi,Nat.reduceEqDiff,reduceIte,zdj,zdk,zdl,resultsA,RetO,Nat.reduceLT,zdm,zdn,zdo,zdp,zdq,zdr,zds,zdt,zdu,zdv,zdw,zdx,zdy,zdz,zea,zeb,zec,zed,zee,zef,zeg,zeh,zei,zej,zek,zel,zem,zen,zeo,zep,zeq]
    refine At_storeV (inf := inf59) (v := .agg #[.slice none 0 0, .slice none 0 0]) i59 (by simp only [zaa,zab,zac,zad,zae,zaf,zag,zah,zai,zaj,zak,zal,zam,zan,zao,zap,zaq,zar,zas,zat,zau,zav,zaw,zax,zay,zaz,zba,zbb,zbc,zbd,zbe,zbf,zbg,zbh,zbi,zbj,zbk,zbl,zbm,zbn,zbo,zbp,zbq,zbr,zbs,zbt,zbu,zbv,zbw,zbx,zby,zbz,zca,zcb,zcc,zcd,zce,zcf,zcg,zch,zci,zcj,zck,zcl,zcm,zcn,zco,zcp,zcq,zcr,zcs,zct,zcu,zcv,zcw,zcx,zcy,zcz,zda,zdb,zdc,zdd,guardV,nth,zde,zdf,zdg,zdh,zdi,Nat.reduceEqDiff,reduceIte,zdj,zdk,zdl,resultsA,RetO,Nat.reduceLT,zdm,zdn,zdo,zdp,zdq,zdr,zds,zdt,zdu,zdv,zdw,zdx,zdy,zdz,zea,zeb,zec,zed,zee,zef,zeg,zeh,zei,zej,zek,zel,zem,zen,zeo,zep,zeq]) (by simp only [zaa,zab,zac,zad,zae,zaf,zag,zah,zai,zaj,zak,zal,zam,zan,zao,zap,zaq,zar,zas,zat,zau,zav,zaw,zax,zay,zaz,zba,zbb,zbc,zbd,zbe,zbf,zbg,zbh,zbi,zbj,zbk,zbl,zbm,zbn,zbo,zbp,zbq,zbr,zbs,zbt,zbu,zbv,zbw,zbx,zby,zbz,zca,zcb,zcc,zcd,zce,zcf,zcg,zch,zci,zcj,zck,zcl,zcm,zcn,zco,zcp,zcq,zcr,zcs,zct,zcu,zcv,zcw,zcx,zcy,zcz,zda,zdb,zdc,zdd,guardV,nth,zde,zdf,zdg,zdh,zdi,Nat.reduceEqDiff,reduceIte,zdj,zdk,zdl,resultsA,RetO,Nat.reduceLT,zdm,zdn,zdo,zdp,zdq,zdr,zds,zdt,zdu,zdv,zdw,zdx,zdy,zdz,zea,zeb,zec,zed,zee,zef,zeg,zeh,zei,zej,zek,zel,zem,zen,zeo,zep,zeq]) v8 (by rw [size59]; rfl) (by rw [size59]; rfl) rfl (by show G ≤ h1.next; omega) fun h3 hs3 v8 => ?_
    have hd : decide ((1 : Int) ≠ 0) = true := rfl
    simp only [zaa,zab,zac,zad,zae,zaf,zag,zah,zai,zaj,zak,zal,zam,zan,zao,zap,zaq,zar,zas,zat,zau,zav,zaw,zax,zay,zaz,zba,zbb,zbc,zbd,zbe,zbf,zbg,zbh,zbi,zbj,zbk,zbl,zbm,zbn,zbo,zbp,zbq,zbr,zbs,zbt,zbu,zbv,zbw,zbx,zby,zbz,zca,zcb,zcc,zcd,zce,zcf,zcg,zch,zci,zcj,zck,zcl,zcm,zcn,zco,zcp,zcq,zcr,zcs,zct,zcu,zcv,zcw,zcx,zcy,zcz,zda,zdb,zdc,zdd,guardV,nth,zde,zdf,zdg,zdh,zdi,Nat.reduceEqDiff,reduceIte,zdj,zdk,zdl,resultsA,RetO,Nat.reduceLT,zdm,zdn,zdo,zdp,zdq,zdr,zds,zdt,zdu,zdv,zdw,zdx,zdy,zdz,zea,zeb,zec,zed,zee,zef,zeg,zeh,zei,zej,zek,zel,zem,zen,zeo,zep,zeq, hd]
    exact hQ' _ _ ⟨pr2.trans (hs3.pres (m := h.next) (by omega)), .inl ⟨hok, rfl⟩⟩

set_option maxHeartbeats 2000000 in
theorem ahead_spec {G N m c j n : Nat} {A : Option Addr} {ps : List (Int × Int)} {h : H} (hm : m = ps.length) (hm2 : m < 1000000) (hok : okP n ps = true) (hn : n < 62) (hs : SlV h.blks 0 N 2 m (prs ps) (.slice A m c)) :
    Spec Tryz.prog (En G) 26 [.slice A m c, .int .i64 j] h fun v h' => v = .int .i64 (bfP ps j : Nat) ∧ h' = h := by
  subst hm
  refine CallsE_enter (En_known (by decide)) (En_f.trans Tryz.func26) rfl ⟨Nat.le_of_ble_eq_true rfl, by decide⟩ fun Q' hQ' => ?_
  simp only [Tryz.f26, zaa,zab,zac,zad,zae,zaf,zag,zah,zai,zaj,zak,zal,zam,zan,zao,zap,zaq,zar,zas,zat,zau,zav,zaw,zax,zay,zaz,zba,zbb,zbc,zbd,zbe,zbf,zbg,zbh,zbi,zbj,zbk,zbl,zbm,zbn,zbo,zbp,zbq,zbr,zbs,zbt,zbu,zbv,zbw,zbx,zby,zbz,zca,zcb,zcc,zcd,zce,zcf,zcg,zch,zci,zcj,zck,zcl,zcm,zcn,zco,zcp,zcq,zcr,zcs,zct,zcu,zcv,zcw,zcx,zcy,zcz,zda,zdb,zdc,zdd,guardV,nth,zde,zdf,zdg,zdh,zdi,Nat.reduceEqDiff,reduceIte,zdj,zdk,zdl,resultsA,RetO,Nat.reduceLT,zdm,zdn,zdo,zdp,zdq,zdr,zds,zdt,zdu,zdv,zdw,zdx,zdy,zdz,zea,zeb,zec,zed,zee,zef,zeg,zeh,zei,zej,zek,zel,zem,zen,zeo,zep,zeq]
  have hpw : 2 ^ n < 2 ^ 63 := Nat.pow_lt_pow_right (by omega) (by omega)
  refine WK_loopN (fun jj α h2 => ∃ (i : Nat), jj + i = ps.length ∧ α.get 0 = some (.slice A ps.length c) ∧ α.get 1 = some (.int .i64 j) ∧ α.get 5 = some (.int .i64 (bfP (ps.take i) j : Nat)) ∧ α.get 6 = some (.int .i64 i) ∧ h2 = h) ps.length
    ⟨0, rfl, by simp only [zaa,zab,zac,zad,zae,zaf,zag,zah,zai,zaj,zak,zal,zam,zan,zao,zap,zaq,zar,zas,zat,zau,zav,zaw,zax,zay,zaz,zba,zbb,zbc,zbd,zbe,zbf,zbg,zbh,zbi,zbj,zbk,zbl,zbm,zbn,zbo,zbp,zbq,zbr,zbs,zbt,zbu,zbv,zbw,zbx,zby,zbz,zca,zcb,zcc,zcd,zce,zcf,zcg,zch,zci,zcj,zck,zcl,zcm,zcn,zco,zcp,zcq,zcr,zcs,zct,zcu,zcv,zcw,zcx,zcy,zcz,zda,zdb,zdc,zdd,guardV,nth,zde,zdf,zdg,zdh,zdi,Nat.reduceEqDiff,reduceIte,zdj,zdk,zdl,resultsA,RetO,Nat.reduceLT,zdm,zdn,zdo,zdp,zdq,zdr,zds,zdt,zdu,zdv,zdw,zdx,zdy,zdz,zea,zeb,zec,zed,zee,zef,zeg,zeh,zei,zej,zek,zel,zem,zen,zeo,zep,zeq], by simp only [zaa,zab,zac,zad,zae,zaf,zag,zah,zai,zaj,zak,zal,zam,zan,zao,zap,zaq,zar,zas,zat,zau,zav,zaw,zax,zay,zaz,zba,zbb,zbc,zbd,zbe,zbf,zbg,zbh,zbi,zbj,zbk,zbl,zbm,zbn,zbo,zbp,zbq,zbr,zbs,zbt,zbu,zbv,zbw,zbx,zby,zbz,zca,zcb,zcc,zcd,zce,zcf,zcg,zch,zci,zcj,zck,zcl,zcm,zcn,zco,zcp,zcq,zcr,zcs,zct,zcu,zcv,zcw,zcx,zcy,zcz,zda,zdb,zdc,zdd,guardV,nth,zde,zdf,zdg,zdh,zdi,Nat.reduceEqDiff,reduceIte,zdj,zdk,zdl,resultsA,RetO,Nat.reduceLT,zdm,zdn,zdo,zdp,zdq,zdr,zds,zdt,zdu,zdv,zdw,zdx,zdy,zdz,zea,zeb,zec,zed,zee,zef,zeg,zeh,zei,zej,zek,zel,zem,zen,zeo,zep,zeq], by simp only [zaa,zab,zac,zad,zae,zaf,zag,zah,zai,zaj,zak,zal,zam,zan,zao,zap,zaq,zar,zas,zat,zau,zav,zaw,zax,zay,zaz,zba,zbb,zbc,zbd,zbe,zbf,zbg,zbh,zbi,zbj,zbk,zbl,zbm,zbn,zbo,zbp,zbq,zbr,zbs,zbt,zbu,zbv,zbw,zbx,zby,zbz,zca,zcb,zcc,zcd,zce,zcf,zcg,zch,zci,zcj,zck,zcl,zcm,zcn,zco,zcp,zcq,zcr,zcs,zct,zcu,zcv,zcw,zcx,zcy,zcz,zda,zdb,zdc,zdd,guardV,nth,zde,zdf,zdg,zdh,zdi,Nat.reduceEqDiff,reduceIte,zdj,zdk,zdl,resultsA,RetO,Nat.reduceLT,zdm,zdn,zdo,zdp,zdq,zdr,zds,zdt,zdu,zdv,zdw,zdx,zdy,zdz,zea,zeb,zec,zed,zee,zef,zeg,zeh,zei,zej,zek,zel,zem,zen,zeo,zep,zeq]; rfl, by simp only [zaa,zab,zac,zad,zae,zaf,zag,zah,zai,zaj,zak,zal,zam,zan,zao,zap,zaq,zar,zas,zat,zau,zav,zaw,zax,zay,zaz,zba,zbb,zbc,zbd,zbe,zbf,zbg,zbh,zbi,zbj,zbk,zbl,zbm,zbn,zbo,zbp,zbq,zbr,zbs,zbt,zbu,zbv,zbw,zbx,zby,zbz,zca,zcb,zcc,zcd,zce,zcf,zcg,zch,zci,zcj,zck,zcl,zcm,zcn,zco,zcp,zcq,zcr,zcs,zct,zcu,zcv,zcw,zcx,zcy,zcz,zda,zdb,zdc,zdd,guardV,nth,zde,zdf,zdg,zdh,zdi,Nat.reduceEqDiff,reduceIte,zdj,zdk,zdl,resultsA,RetO,Nat.reduceLT,zdm,zdn,zdo,zdp,zdq,zdr,zds,zdt,zdu,zdv,zdw,zdx,zdy,zdz,zea,zeb,zec,zed,zee,zef,zeg,zeh,zei,zej,zek,zel,zem,zen,zeo,zep,zeq]; rfl, rfl⟩ (by omega) ?_
  rintro J jj α h2 ⟨i, hij, e0, e1, e5, e6, rfl⟩ hJ
  by_cases hlt : (i : Int) < ps.length
  · have hi : i < ps.length := by omega
    have hg : ps[i]? = some (ps[i]'hi) := List.getElem?_eq_getElem hi
    have hbt := bfP_take (j := j) hg
    have hpo : 0 ≤ (ps[i]'hi).1 ∧ (ps[i]'hi).1 < n := by
      unfold okP at hok
      rw [List.all_eq_true] at hok
      have := hok _ (List.getElem_mem hi)
      rw [decide_eq_true_eq] at this
      exact ⟨this.1, this.2.1⟩
    obtain ⟨b, off, rfl, _, _, _⟩ := hs.at_ (by omega)
    obtain ⟨lp1, lp2⟩ := hs.pr_at hg
    generalize ps[i]'hi = p at hg lp1 lp2 hbt hpo
    have hw := wrap_succ hi (by omega)
    have hbl := bfP_lt (okP_take (i := i) hok) j
    obtain ⟨a, ha⟩ := Int.eq_ofNat_of_zero_le hpo.1
    rw [ha] at lp1
    have hp2 : 2 ^ a < 2 ^ 63 := Nat.pow_lt_pow_right (by omega) (by omega)
    have hb2 : binO Tryz.prog (En G) .shl 3 (some (.int .i64 1)) (some (.int .i64 (a : Int))) = some (.int .i64 ((2 ^ a : Nat) : Int)) := bin_shl (by omega)
    have hb1 : binO Tryz.prog (En G) .or 3 (some (.int .i64 ((bfP (ps.take i) j : Nat) : Int))) (some (.int .i64 ((2 ^ a : Nat) : Int))) = some (.int .i64 ((bfP (ps.take i) j ||| 2 ^ a : Nat) : Int)) := bin_or (by omega) hp2
    by_cases he : p.2 = (j : Int)
    · rw [if_pos he, ha, Int.toNat_natCast] at hbt
      have hd : decide (p.2 = (j : Int)) = true := decide_eq_true he
      simp (disch := omega) only [zaa,zab,zac,zad,zae,zaf,zag,zah,zai,zaj,zak,zal,zam,zan,zao,zap,zaq,zar,zas,zat,zau,zav,zaw,zax,zay,zaz,zba,zbb,zbc,zbd,zbe,zbf,zbg,zbh,zbi,zbj,zbk,zbl,zbm,zbn,zbo,zbp,zbq,zbr,zbs,zbt,zbu,zbv,zbw,zbx,zby,zbz,zca,zcb,zcc,zcd,zce,zcf,zcg,zch,zci,zcj,zck,zcl,zcm,zcn,zco,zcp,zcq,zcr,zcs,zct,zcu,zcv,zcw,zcx,zcy,zcz,zda,zdb,zdc,zdd,guardV,nth,zde,zdf,zdg,zdh,zdi,Nat.reduceEqDiff,reduceIte,zdj,zdk,zdl,resultsA,RetO,Nat.reduceLT,zdm,zdn,zdo,zdp,zdq,zdr,zds,zdt,zdu,zdv,zdw,zdx,zdy,zdz,zea,zeb,zec,zed,zee,zef,zeg,zeh,zei,zej,zek,zel,zem,zen,zeo,zep,zeq, e0, e1, e5, e6, len23, hlt, idxA23, fld54_0, fld54_1, load3, Nat.add_zero, Int.toNat_natCast, lp1, lp2, hd, hb2, hb1, hw]
      exact hJ (jj - 1) _ _ (by omega) ⟨i + 1, by omega, by simp only [zaa,zab,zac,zad,zae,zaf,zag,zah,zai,zaj,zak,zal,zam,zan,zao,zap,zaq,zar,zas,zat,zau,zav,zaw,zax,zay,zaz,zba,zbb,zbc,zbd,zbe,zbf,zbg,zbh,zbi,zbj,zbk,zbl,zbm,zbn,zbo,zbp,zbq,zbr,zbs,zbt,zbu,zbv,zbw,zbx,zby,zbz,zca,zcb,zcc,zcd,zce,zcf,zcg,zch,zci,zcj,zck,zcl,zcm,zcn,zco,zcp,zcq,zcr,zcs,zct,zcu,zcv,zcw,zcx,zcy,zcz,zda,zdb,zdc,zdd,guardV,nth,zde,zdf,zdg,zdh,zdi,Nat.reduceEqDiff,reduceIte,zdj,zdk,zdl,resultsA,RetO,Nat.reduceLT,zdm,zdn,zdo,zdp,zdq,zdr,zds,zdt,zdu,zdv,zdw,zdx,zdy,zdz,zea,zeb,zec,zed,zee,zef,zeg,zeh,zei,zej,zek,zel,zem,zen,zeo,zep,zeq, e0], by simp only [zaa,zab,zac,zad,zae,zaf,zag,zah,zai,zaj,zak,zal,zam,zan,zao,zap,zaq,zar,zas,zat,zau,zav,zaw,zax,zay,zaz,zba,zbb,zbc,zbd,zbe,zbf,zbg,zbh,zbi,zbj,zbk,zbl,zbm,zbn,zbo,zbp,zbq,zbr,zbs,zbt,zbu,zbv,zbw,zbx,zby,zbz,zca,zcb,zcc,zcd,zce,zcf,zcg,zch,zci,zcj,zck,zcl,zcm,zcn,zco,zcp,zcq,zcr,zcs,zct,zcu,zcv,zcw,zcx,zcy,zcz,zda,zdb,zdc,zdd,guardV,nth,zde,zdf,zdg,zdh,zdi,Nat.reduceEqDiff,reduceIte,zdj,zdk,zdl,resultsA,RetO,Nat.reduceLT,zdm,zdn,zdo,zdp,zdq,zdr,zds,zdt,zdu,zdv,zdw,zdx,zdy,zdz,zea,zeb,zec,zed,zee,zef,zeg,zeh,zei,zej,zek,zel,zem,zen,zeo,zep,zeq, e1], by simp only [zaa,zab,zac,zad,zae,zaf,zag,zah,zai,zaj,zak,zal,zam,zan,zao,zap,zaq,zar,zas,zat,zau,zav,zaw,zax,zay,zaz,zba,zbb,zbc,zbd,zbe,zbf,zbg,zbh,zbi,zbj,zbk,zbl,zbm,zbn,zbo,zbp,zbq,zbr,zbs,zbt,zbu,zbv,zbw,zbx,zby,zbz,zca,zcb,zcc,zcd,zce,zcf,zcg,zch,zci,zcj,zck,zcl,zcm,zcn,zco,zcp,zcq,zcr,zcs,zct,zcu,zcv,zcw,zcx,zcy,zcz,zda,zdb,zdc,zdd,guardV,nth,zde,zdf,zdg,zdh,zdi,Nat.reduceEqDiff,reduceIte,zdj,zdk,zdl,resultsA,RetO,Nat.reduceLT,zdm,zdn,zdo,zdp,zdq,zdr,zds,zdt,zdu,zdv,zdw,zdx,zdy,zdz,zea,zeb,zec,zed,zee,zef,zeg,zeh,zei,zej,zek,zel,zem,zen,zeo,zep,zeq]; rw [hbt], by simp only [zaa,zab,zac,zad,zae,zaf,zag,zah,zai,zaj,zak,zal,zam,zan,zao,zap,zaq,zar,zas,zat,zau,zav,zaw,zax,zay,zaz,zba,zbb,zbc,zbd,zbe,zbf,zbg,zbh,zbi,zbj,zbk,zbl,zbm,zbn,zbo,zbp,zbq,zbr,zbs,zbt,zbu,zbv,zbw,zbx,zby,zbz,zca,zcb,zcc,zcd,zce,zcf,zcg,zch,zci,zcj,zck,zcl,zcm,zcn,zco,zcp,zcq,zcr,zcs,zct,zcu,zcv,zcw,zcx,zcy,zcz,zda,zdb,zdc,zdd,guardV,nth,zde,zdf,zdg,zdh,zdi,Nat.reduceEqDiff,reduceIte,zdj,zdk,zdl,resultsA,RetO,Nat.reduceLT,zdm,zdn,zdo,zdp,zdq,zdr,zds,zdt,zdu,zdv,zdw,zdx,zdy,zdz,zea,zeb,zec,zed,zee,zef,zeg,zeh,zei,zej,zek,zel,zem,zen,zeo,zep,zeq], rfl⟩
    · rw [if_neg he] at hbt
      have hd : decide (p.2 = (j : Int)) = false := decide_eq_false he
      simp (disch := omega) only [zaa,zab,zac,zad,zae,zaf,zag,zah,zai,zaj,zak,zal,zam,zan,zao,zap,zaq,zar,zas,zat,zau,zav,zaw,zax,zay,zaz,zba,zbb,zbc,zbd,zbe,zbf,zbg,zbh,zbi,zbj,zbk,zbl,zbm,zbn,zbo,zbp,zbq,zbr,zbs,zbt,zbu,zbv,zbw,zbx,zby,zbz,zca,zcb,zcc,zcd,zce,zcf,zcg,zch,zci,zcj,zck,zcl,zcm,zcn,zco,zcp,zcq,zcr,zcs,zct,zcu,zcv,zcw,zcx,zcy,zcz,zda,zdb,zdc,zdd,guardV,nth,zde,zdf,zdg,zdh,zdi,Nat.reduceEqDiff,reduceIte,zdj,zdk,zdl,resultsA,RetO,Nat.reduceLT,zdm,zdn,zdo,zdp,zdq,zdr,zds,zdt,zdu,zdv,zdw,zdx,zdy,zdz,zea,zeb,zec,zed,zee,zef,zeg,zeh,zei,zej,zek,zel,zem,zen,zeo,zep,zeq, e0, e1, e5, e6, len23, hlt, idxA23, fld54_0, fld54_1, load3, Nat.add_zero, Int.toNat_natCast, lp1, lp2, hd, hw]
      exact hJ (jj - 1) _ _ (by omega) ⟨i + 1, by omega, by simp only [zaa,zab,zac,zad,zae,zaf,zag,zah,zai,zaj,zak,zal,zam,zan,zao,zap,zaq,zar,zas,zat,zau,zav,zaw,zax,zay,zaz,zba,zbb,zbc,zbd,zbe,zbf,zbg,zbh,zbi,zbj,zbk,zbl,zbm,zbn,zbo,zbp,zbq,zbr,zbs,zbt,zbu,zbv,zbw,zbx,zby,zbz,zca,zcb,zcc,zcd,zce,zcf,zcg,zch,zci,zcj,zck,zcl,zcm,zcn,zco,zcp,zcq,zcr,zcs,zct,zcu,zcv,zcw,zcx,zcy,zcz,zda,zdb,zdc,zdd,guardV,nth,zde,zdf,zdg,zdh,zdi,Nat.reduceEqDiff,reduceIte,zdj,zdk,zdl,resultsA,RetO,Nat.reduceLT,zdm,zdn,zdo,zdp,zdq,zdr,zds,zdt,zdu,zdv,zdw,zdx,zdy,zdz,zea,zeb,zec,zed,zee,zef,zeg,zeh,zei,zej,zek,zel,zem,zen,zeo,zep,zeq, e0], by simp only [zaa,zab,zac,zad,zae,zaf,zag,zah,zai,zaj,zak,zal,zam,zan,zao,zap,zaq,zar,zas,zat,zau,zav,zaw,zax,zay,zaz,zba,zbb,zbc,zbd,zbe,zbf,zbg,zbh,zbi,zbj,zbk,zbl,zbm,zbn,zbo,zbp,zbq,zbr,zbs,zbt,zbu,zbv,zbw,zbx,zby,zbz,zca,zcb,zcc,zcd,zce,zcf,zcg,zch,zci,zcj,zck,zcl,zcm,zcn,zco,zcp,zcq,zcr,zcs,zct,zcu,zcv,zcw,zcx,zcy,zcz,zda,zdb,zdc,zdd,guardV,nth,zde,zdf,zdg,zdh,zdi,Nat.reduceEqDiff,reduceIte,zdj,zdk,zdl,resultsA,RetO,Nat.reduceLT,zdm,zdn,zdo,zdp,zdq,zdr,zds,zdt,zdu,zdv,zdw,zdx,zdy,zdz,zea,zeb,zec,zed,zee,zef,zeg,zeh,zei,zej,zek,zel,zem,zen,zeo,zep,zeq, e1], by simp only [zaa,zab,zac,zad,zae,zaf,zag,zah,zai,zaj,zak,zal,zam,zan,zao,zap,zaq,zar,zas,zat,zau,zav,zaw,zax,zay,zaz,zba,zbb,zbc,zbd,zbe,zbf,zbg,zbh,zbi,zbj,zbk,zbl,zbm,zbn,zbo,zbp,zbq,zbr,zbs,zbt,zbu,zbv,zbw,zbx,zby,zbz,zca,zcb,zcc,zcd,zce,zcf,zcg,zch,zci,zcj,zck,zcl,zcm,zcn,zco,zcp,zcq,zcr,zcs,zct,zcu,zcv,zcw,zcx,zcy,zcz,zda,zdb,zdc,zdd,guardV,nth,zde,zdf,zdg,zdh,zdi,Nat.reduceEqDiff,reduceIte,zdj,zdk,zdl,resultsA,RetO,Nat.reduceLT,zdm,zdn,zdo,zdp,zdq,zdr,zds,zdt,zdu,zdv,zdw,zdx,zdy,zdz,zea,zeb,zec,zed,zee,zef,zeg,zeh,zei,zej,zek,zel,zem,zen,zeo,zep,zeq, e5]; rw [hbt], by simp only [zaa,zab,zac,zad,zae,zaf,zag,zah,zai,zaj,zak,zal,zam,zan,zao,zap,zaq,zar,zas,zat,zau,zav,zaw,zax,zay,zaz,zba,zbb,zbc,zbd,zbe,zbf,zbg,zbh,zbi,zbj,zbk,zbl,zbm,zbn,zbo,zbp,zbq,zbr,zbs,zbt,zbu,zbv,zbw,zbx,zby,zbz,zca,zcb,zcc,zcd,zce,zcf,zcg,zch,zci,zcj,zck,zcl,zcm,zcn,zco,zcp,zcq,zcr,zcs,zct,zcu,zcv,zcw,zcx,zcy,zcz,zda,zdb,zdc,zdd,guardV,nth,zde,zdf,zdg,zdh,zdi,Nat.reduceEqDiff,reduceIte,zdj,zdk,zdl,resultsA,RetO,Nat.reduceLT,zdm,zdn,zdo,zdp,zdq,zdr,zds,zdt,zdu,zdv,zdw,zdx,zdy,zdz,zea,zeb,zec,zed,zee,zef,zeg,zeh,zei,zej,zek,zel,zem,zen,zeo,zep,zeq], rfl⟩
  · obtain rfl : i = ps.length := by omega
    rw [List.take_length] at e5
    simp (disch := omega) only [zaa,zab,zac,zad,zae,zaf,zag,zah,zai,zaj,zak,zal,zam,zan,zao,zap,zaq,zar,zas,zat,zau,zav,zaw,zax,zay,zaz,zba,zbb,zbc,zbd,zbe,zbf,zbg,zbh,zbi,zbj,zbk,zbl,zbm,zbn,zbo,zbp,zbq,zbr,zbs,zbt,zbu,zbv,zbw,zbx,zby,zbz,zca,zcb,zcc,zcd,zce,zcf,zcg,zch,zci,zcj,zck,zcl,zcm,zcn,zco,zcp,zcq,zcr,zcs,zct,zcu,zcv,zcw,zcx,zcy,zcz,zda,zdb,zdc,zdd,guardV,nth,zde,zdf,zdg,zdh,zdi,Nat.reduceEqDiff,reduceIte,zdj,zdk,zdl,resultsA,RetO,Nat.reduceLT,zdm,zdn,zdo,zdp,zdq,zdr,zds,zdt,zdu,zdv,zdw,zdx,zdy,zdz,zea,zeb,zec,zed,zee,zef,zeg,zeh,zei,zej,zek,zel,zem,zen,zeo,zep,zeq, e0, e5, e6, len23, hlt]
    exact hQ' _ _ ⟨Pres.refl _ _, rfl, rfl⟩

theorem Or_sq {bf : Nat → Nat} {n : Nat} {zs : List Int} (hn : zs.length = n) : (∃ D, sq bf n 0 zs = some D) ↔ sq bf n 0 zs = some (2 ^ n - 1) := by
  constructor
  · rintro ⟨D, hD⟩
    obtain ⟨l, hl, rfl⟩ := sq_ord _ rfl hD
    have h1 := hl.crd
    rw [List.length_map] at hn
    rw [hD, crd_eq_all hl.lt (by omega)]
  · intro h; exact ⟨_, h⟩
theorem sq_len {bf : Nat → Nat} {n : Nat} {zs : List Int} (h : sq bf n 0 zs = some (2 ^ n - 1)) : zs.length = n := by
  obtain ⟨l, hl, rfl⟩ := sq_ord _ rfl h
  have h1 := hl.crd
  rw [crd_all] at h1
  rw [List.length_map]; exact h1.symm
theorem z_rdy {bf : Nat → Nat} {n D x : Nat} : (0 ≤ (x : Int) ∧ (x : Int).toNat ∈ rdy bf n D) ↔ x < n ∧ D.testBit x = false ∧ an (bf x) D = 0 := by
  rw [Int.toNat_natCast, mem_rdy]
  exact ⟨fun h => h.2, fun h => ⟨by omega, h⟩⟩

set_option maxHeartbeats 4000000 in
set_option maxRecDepth 100000 in
theorem rOrder_spec {G N n c m c' r k : Nat} {A A' A2 : Option Addr} {ps : List (Int × Int)} {zs : List Int} {h : H} (hm : m = ps.length) (hm2 : m < 1000000) (hr : r = zs.length) (hr2 : r < 1000000) (hn : n < 62) (hok : okP n ps = true) (hs' : SlV h.blks 0 N 2 m (prs ps) (.slice A' m c')) (hs2 : SlV h.blks 0 N 1 r (ints zs) (.slice A2 r k)) :
    Spec Tryz.prog (En G) 13 [.slice A n c, .slice A' m c', .slice A2 r k] h fun v h' => v = .bool (decide (sq (bfP ps) n 0 zs = some (2 ^ n - 1))) ∧ h' = h := by
  subst hm; subst hr
  refine CallsE_enter (En_known (by decide)) (En_f.trans Tryz.func13) rfl ⟨Nat.le_of_ble_eq_true rfl, by decide⟩ fun Q' hQ' => ?_
  simp only [Tryz.f13, zaa,zab,zac,zad,zae,zaf,zag,zah,zai,zaj,zak,zal,zam,zan,zao,zap,zaq,zar,zas,zat,zau,zav,zaw,zax,zay,zaz,zba,zbb,zbc,zbd,zbe,zbf,zbg,zbh,zbi,zbj,zbk,zbl,zbm,zbn,zbo,zbp,zbq,zbr,zbs,zbt,zbu,zbv,zbw,zbx,zby,zbz,zca,zcb,zcc,zcd,zce,zcf,zcg,zch,zci,zcj,zck,zcl,zcm,zcn,zco,zcp,zcq,zcr,zcs,zct,zcu,zcv,zcw,zcx,zcy,zcz,zda,zdb,zdc,zdd,guardV,nth,zde,zdf,zdg,zdh,zdi,Nat.reduceEqDiff,reduceIte,zdj,zdk,zdl,resultsA,RetO,Nat.reduceLT,zdm,zdn,zdo,zdp,zdq,zdr,zds,zdt,zdu,zdv,zdw,zdx,zdy,zdz,zea,zeb,zec,zed,zee,zef,zeg,zeh,zei,zej,zek,zel,zem,zen,zeo,zep,zeq]
  have hpw : 2 ^ n < 2 ^ 63 := Nat.pow_lt_pow_right (by omega) (by omega)
  refine WK_loopN (fun jj α h2 => ∃ (i D : Nat), jj + i = zs.length ∧ D < 2 ^ n ∧ sq (bfP ps) n 0 zs = sq (bfP ps) n D (zs.drop i) ∧ α.get 0 = some (.slice A n c) ∧ α.get 1 = some (.slice A' ps.length c') ∧ α.get 2 = some (.slice A2 zs.length k) ∧ α.get 7 = some (.int .i64 D) ∧ α.get 8 = some (.int .i64 i) ∧ h2 = h) zs.length
    ⟨0, 0, rfl, Nat.two_pow_pos n, rfl, by simp only [zaa,zab,zac,zad,zae,zaf,zag,zah,zai,zaj,zak,zal,zam,zan,zao,zap,zaq,zar,zas,zat,zau,zav,zaw,zax,zay,zaz,zba,zbb,zbc,zbd,zbe,zbf,zbg,zbh,zbi,zbj,zbk,zbl,zbm,zbn,zbo,zbp,zbq,zbr,zbs,zbt,zbu,zbv,zbw,zbx,zby,zbz,zca,zcb,zcc,zcd,zce,zcf,zcg,zch,zci,zcj,zck,zcl,zcm,zcn,zco,zcp,zcq,zcr,zcs,zct,zcu,zcv,zcw,zcx,zcy,zcz,zda,zdb,zdc,zdd,guardV,nth,zde,zdf,zdg,zdh,zdi,Nat.reduceEqDiff,reduceIte,zdj,zdk,zdl,resultsA,RetO,Nat.reduceLT,zdm,zdn,zdo,zdp,zdq,zdr,zds,zdt,zdu,zdv,zdw,zdx,zdy,zdz,zea,zeb,zec,zed,zee,zef,zeg,zeh,zei,zej,zek,zel,zem,zen,zeo,zep,zeq], by simp only [zaa,zab,zac,zad,zae,zaf,zag,zah,zai,zaj,zak,zal,zam,zan,zao,zap,zaq,zar,zas,zat,zau,zav,zaw,zax,zay,zaz,zba,zbb,zbc,zbd,zbe,zbf,zbg,zbh,zbi,zbj,zbk,zbl,zbm,zbn,zbo,zbp,zbq,zbr,zbs,zbt,zbu,zbv,zbw,zbx,zby,zbz,zca,zcb,zcc,zcd,zce,zcf,zcg,zch,zci,zcj,zck,zcl,zcm,zcn,zco,zcp,zcq,zcr,zcs,zct,zcu,zcv,zcw,zcx,zcy,zcz,zda,zdb,zdc,zdd,guardV,nth,zde,zdf,zdg,zdh,zdi,Nat.reduceEqDiff,reduceIte,zdj,zdk,zdl,resultsA,RetO,Nat.reduceLT,zdm,zdn,zdo,zdp,zdq,zdr,zds,zdt,zdu,zdv,zdw,zdx,zdy,zdz,zea,zeb,zec,zed,zee,zef,zeg,zeh,zei,zej,zek,zel,zem,zen,zeo,zep,zeq], by simp only [zaa,zab,zac,zad,zae,zaf,zag,zah,zai,zaj,zak,zal,zam,zan,zao,zap,zaq,zar,zas,zat,zau,zav,zaw,zax,zay,zaz,zba,zbb,zbc,zbd,zbe,zbf,zbg,zbh,zbi,zbj,zbk,zbl,zbm,zbn,zbo,zbp,zbq,zbr,zbs,zbt,zbu,zbv,zbw,zbx,zby,zbz,zca,zcb,zcc,zcd,zce,zcf,zcg,zch,zci,zcj,zck,zcl,zcm,zcn,zco,zcp,zcq,zcr,zcs,zct,zcu,zcv,zcw,zcx,zcy,zcz,zda,zdb,zdc,zdd,guardV,nth,zde,zdf,zdg,zdh,zdi,Nat.reduceEqDiff,reduceIte,zdj,zdk,zdl,resultsA,RetO,Nat.reduceLT,zdm,zdn,zdo,zdp,zdq,zdr,zds,zdt,zdu,zdv,zdw,zdx,zdy,zdz,zea,zeb,zec,zed,zee,zef,zeg,zeh,zei,zej,zek,zel,zem,zen,zeo,zep,zeq], by simp only [zaa,zab,zac,zad,zae,zaf,zag,zah,zai,zaj,zak,zal,zam,zan,zao,zap,zaq,zar,zas,zat,zau,zav,zaw,zax,zay,zaz,zba,zbb,zbc,zbd,zbe,zbf,zbg,zbh,zbi,zbj,zbk,zbl,zbm,zbn,zbo,zbp,zbq,zbr,zbs,zbt,zbu,zbv,zbw,zbx,zby,zbz,zca,zcb,zcc,zcd,zce,zcf,zcg,zch,zci,zcj,zck,zcl,zcm,zcn,zco,zcp,zcq,zcr,zcs,zct,zcu,zcv,zcw,zcx,zcy,zcz,zda,zdb,zdc,zdd,guardV,nth,zde,zdf,zdg,zdh,zdi,Nat.reduceEqDiff,reduceIte,zdj,zdk,zdl,resultsA,RetO,Nat.reduceLT,zdm,zdn,zdo,zdp,zdq,zdr,zds,zdt,zdu,zdv,zdw,zdx,zdy,zdz,zea,zeb,zec,zed,zee,zef,zeg,zeh,zei,zej,zek,zel,zem,zen,zeo,zep,zeq]; rfl, by simp only [zaa,zab,zac,zad,zae,zaf,zag,zah,zai,zaj,zak,zal,zam,zan,zao,zap,zaq,zar,zas,zat,zau,zav,zaw,zax,zay,zaz,zba,zbb,zbc,zbd,zbe,zbf,zbg,zbh,zbi,zbj,zbk,zbl,zbm,zbn,zbo,zbp,zbq,zbr,zbs,zbt,zbu,zbv,zbw,zbx,zby,zbz,zca,zcb,zcc,zcd,zce,zcf,zcg,zch,zci,zcj,zck,zcl,zcm,zcn,zco,zcp,zcq,zcr,zcs,zct,zcu,zcv,zcw,zcx,zcy,zcz,zda,zdb,zdc,zdd,guardV,nth,zde,zdf,zdg,zdh,zdi,Nat.reduceEqDiff,reduceIte,zdj,zdk,zdl,resultsA,RetO,Nat.reduceLT,zdm,zdn,zdo,zdp,zdq,zdr,zds,zdt,zdu,zdv,zdw,zdx,zdy,zdz,zea,zeb,zec,zed,zee,zef,zeg,zeh,zei,zej,zek,zel,zem,zen,zeo,zep,zeq]; rfl, rfl⟩ (by omega) ?_
  rintro J jj α h2 ⟨i, D, hij, hD, hf, e0, e1, e2, e7, e8, rfl⟩ hJ
  by_cases hlt : (i : Int) < zs.length
  · have hi : i < zs.length := by omega
    have hg := List.getElem?_eq_getElem hi
    generalize hxx : zs[i]'hi = z at hg
    rw [sq_step hg] at hf
    obtain ⟨b, off, rfl, _, _, _⟩ := hs2.at_ (by omega)
    have lb := hs2.ints_get hg
    have hw := wrap_succ hi (by omega)
    have hn1 : IntKind.i64.wrap ((n : Int) - 1) = (n : Int) - 1 := wrap_i64 (by omega) (by omega)
    have hfail : ¬ (0 ≤ z ∧ z.toNat ∈ rdy (bfP ps) n D) → RetO Q' h2 (some [.bool false]) := fun hc => by
      rw [if_neg hc] at hf
      exact hQ' _ _ ⟨Pres.refl _ _, by rw [hf]; rfl, rfl⟩
    simp (disch := omega) only [zaa,zab,zac,zad,zae,zaf,zag,zah,zai,zaj,zak,zal,zam,zan,zao,zap,zaq,zar,zas,zat,zau,zav,zaw,zax,zay,zaz,zba,zbb,zbc,zbd,zbe,zbf,zbg,zbh,zbi,zbj,zbk,zbl,zbm,zbn,zbo,zbp,zbq,zbr,zbs,zbt,zbu,zbv,zbw,zbx,zby,zbz,zca,zcb,zcc,zcd,zce,zcf,zcg,zch,zci,zcj,zck,zcl,zcm,zcn,zco,zcp,zcq,zcr,zcs,zct,zcu,zcv,zcw,zcx,zcy,zcz,zda,zdb,zdc,zdd,guardV,nth,zde,zdf,zdg,zdh,zdi,Nat.reduceEqDiff,reduceIte,zdj,zdk,zdl,resultsA,RetO,Nat.reduceLT,zdm,zdn,zdo,zdp,zdq,zdr,zds,zdt,zdu,zdv,zdw,zdx,zdy,zdz,zea,zeb,zec,zed,zee,zef,zeg,zeh,zei,zej,zek,zel,zem,zen,zeo,zep,zeq, e0, e1, e2, e7, e8, len26, len22, hlt, idxA26, load3, Int.toNat_natCast, Nat.mul_one, lb, hn1]
    refine CallO_same in_spec (by omega) fun u hu => ?_
    subst hu
    by_cases c1 : 0 ≤ z ∧ z ≤ (n : Int) - 1
    · have d1 : decide (0 ≤ z ∧ z ≤ (n : Int) - 1) = true := decide_eq_true c1
      obtain ⟨x, rfl⟩ := Int.eq_ofNat_of_zero_le c1.1
      have hxn : x < n := by omega
      have hb3 : binO Tryz.prog (En G) .shr 3 (some (.int .i64 (D : Int))) (some (.int .i64 (x : Int))) = some (.int .i64 ((D >>> x : Nat) : Int)) := bin_shr (by omega)
      have hb4 : binO Tryz.prog (En G) .and 3 (some (.int .i64 ((D >>> x : Nat) : Int))) (some (.int .i64 1)) = some (.int .i64 ((D >>> x &&& 1 : Nat) : Int)) := bin_and1 (shr_lt (by omega))
      cases c2 : D.testBit x with
      | true =>
        have d2 : decide (((D >>> x &&& 1 : Nat) : Int) = 1) = true := tb_int.trans c2
        simp (disch := omega) only [zaa,zab,zac,zad,zae,zaf,zag,zah,zai,zaj,zak,zal,zam,zan,zao,zap,zaq,zar,zas,zat,zau,zav,zaw,zax,zay,zaz,zba,zbb,zbc,zbd,zbe,zbf,zbg,zbh,zbi,zbj,zbk,zbl,zbm,zbn,zbo,zbp,zbq,zbr,zbs,zbt,zbu,zbv,zbw,zbx,zby,zbz,zca,zcb,zcc,zcd,zce,zcf,zcg,zch,zci,zcj,zck,zcl,zcm,zcn,zco,zcp,zcq,zcr,zcs,zct,zcu,zcv,zcw,zcx,zcy,zcz,zda,zdb,zdc,zdd,guardV,nth,zde,zdf,zdg,zdh,zdi,Nat.reduceEqDiff,reduceIte,zdj,zdk,zdl,resultsA,RetO,Nat.reduceLT,zdm,zdn,zdo,zdp,zdq,zdr,zds,zdt,zdu,zdv,zdw,zdx,zdy,zdz,zea,zeb,zec,zed,zee,zef,zeg,zeh,zei,zej,zek,zel,zem,zen,zeo,zep,zeq, e0, e1, e2, e7, e8, d1, idxA26, load3, Int.toNat_natCast, Nat.mul_one, lb, hb3, hb4, d2]
        exact hfail fun hc => by have := (z_rdy.1 hc).2.1; rw [c2] at this; cases this
      | false =>
        have d2 : decide (((D >>> x &&& 1 : Nat) : Int) = 1) = false := tb_int.trans c2
        simp (disch := omega) only [zaa,zab,zac,zad,zae,zaf,zag,zah,zai,zaj,zak,zal,zam,zan,zao,zap,zaq,zar,zas,zat,zau,zav,zaw,zax,zay,zaz,zba,zbb,zbc,zbd,zbe,zbf,zbg,zbh,zbi,zbj,zbk,zbl,zbm,zbn,zbo,zbp,zbq,zbr,zbs,zbt,zbu,zbv,zbw,zbx,zby,zbz,zca,zcb,zcc,zcd,zce,zcf,zcg,zch,zci,zcj,zck,zcl,zcm,zcn,zco,zcp,zcq,zcr,zcs,zct,zcu,zcv,zcw,zcx,zcy,zcz,zda,zdb,zdc,zdd,guardV,nth,zde,zdf,zdg,zdh,zdi,Nat.reduceEqDiff,reduceIte,zdj,zdk,zdl,resultsA,RetO,Nat.reduceLT,zdm,zdn,zdo,zdp,zdq,zdr,zds,zdt,zdu,zdv,zdw,zdx,zdy,zdz,zea,zeb,zec,zed,zee,zef,zeg,zeh,zei,zej,zek,zel,zem,zen,zeo,zep,zeq, e0, e1, e2, e7, e8, d1, idxA26, load3, Int.toNat_natCast, Nat.mul_one, lb, hb3, hb4, d2]
        refine CallO_same (ahead_spec (N := N) (n := n) rfl hm2 hok hn hs') (by omega) fun u hu => ?_
        subst hu
        have hbl := bfP_lt hok x
        have hb5 : binO Tryz.prog (En G) .andNot 3 (some (.int .i64 ((bfP ps x : Nat) : Int))) (some (.int .i64 (D : Int))) = some (.int .i64 ((an (bfP ps x) D : Nat) : Int)) := bin_an (by omega) (by omega)
        by_cases c3 : an (bfP ps x) D = 0
        · have d3 : decide (((an (bfP ps x) D : Nat) : Int) ≠ 0) = false := decide_eq_false (by omega)
          have hc := (z_rdy (bf := bfP ps)).2 ⟨hxn, c2, c3⟩
          rw [if_pos hc, Int.toNat_natCast] at hf
          have hp2 : 2 ^ x < 2 ^ 63 := Nat.pow_lt_pow_right (by omega) (by omega)
          have hb2 : binO Tryz.prog (En G) .shl 3 (some (.int .i64 1)) (some (.int .i64 (x : Int))) = some (.int .i64 ((2 ^ x : Nat) : Int)) := bin_shl (by omega)
          have hb1 : binO Tryz.prog (En G) .or 3 (some (.int .i64 (D : Int))) (some (.int .i64 ((2 ^ x : Nat) : Int))) = some (.int .i64 ((D ||| 2 ^ x : Nat) : Int)) := bin_or (by omega) hp2
          simp (disch := omega) only [zaa,zab,zac,zad,zae,zaf,zag,zah,zai,zaj,zak,zal,zam,zan,zao,zap,zaq,zar,zas,zat,zau,zav,zaw,zax,zay,zaz,zba,zbb,zbc,zbd,zbe,zbf,zbg,zbh,zbi,zbj,zbk,zbl,zbm,zbn,zbo,zbp,zbq,zbr,zbs,zbt,zbu,zbv,zbw,zbx,zby,zbz,zca,zcb,zcc,zcd,zce,zcf,zcg,zch,zci,zcj,zck,zcl,zcm,zcn,zco,zcp,zcq,zcr,zcs,zct,zcu,zcv,zcw,zcx,zcy,zcz,zda,zdb,zdc,zdd,guardV,nth,zde,zdf,zdg,zdh,zdi,Nat.reduceEqDiff,reduceIte,zdj,zdk,zdl,resultsA,RetO,Nat.reduceLT,zdm,zdn,zdo,zdp,zdq,zdr,zds,zdt,zdu,zdv,zdw,zdx,zdy,zdz,zea,zeb,zec,zed,zee,zef,zeg,zeh,zei,zej,zek,zel,zem,zen,zeo,zep,zeq, e0, e1, e2, e7, e8, idxA26, load3, Int.toNat_natCast, Nat.mul_one, lb, hb5, d3, hb2, hb1, hw]
          exact hJ (jj - 1) _ _ (by omega) ⟨i + 1, D ||| 2 ^ x, by omega, or_lt hD hxn, hf, by simp only [zaa,zab,zac,zad,zae,zaf,zag,zah,zai,zaj,zak,zal,zam,zan,zao,zap,zaq,zar,zas,zat,zau,zav,zaw,zax,zay,zaz,zba,zbb,zbc,zbd,zbe,zbf,zbg,zbh,zbi,zbj,zbk,zbl,zbm,zbn,zbo,zbp,zbq,zbr,zbs,zbt,zbu,zbv,zbw,zbx,zby,zbz,zca,zcb,zcc,zcd,zce,zcf,zcg,zch,zci,zcj,zck,zcl,zcm,zcn,zco,zcp,zcq,zcr,zcs,zct,zcu,zcv,zcw,zcx,zcy,zcz,zda,zdb,zdc,zdd,guardV,nth,zde,zdf,zdg,zdh,zdi,Nat.reduceEqDiff,reduceIte,zdj,zdk,zdl,resultsA,RetO,Nat.reduceLT,zdm,zdn,zdo,zdp,zdq,zdr,zds,zdt,zdu,zdv,zdw,zdx,zdy,zdz,zea,zeb,zec,zed,zee,zef,zeg,zeh,zei,zej,zek,zel,zem,zen,zeo,zep,zeq, e0], by simp only [zaa,zab,zac,zad,zae,zaf,zag,zah,zai,zaj,zak,zal,zam,zan,zao,zap,zaq,zar,zas,zat,zau,zav,zaw,zax,zay,zaz,zba,zbb,zbc,zbd,zbe,zbf,zbg,zbh,zbi,zbj,zbk,zbl,zbm,zbn,zbo,zbp,zbq,zbr,zbs,zbt,zbu,zbv,zbw,zbx,zby,zbz,zca,zcb,zcc,zcd,zce,zcf,zcg,zch,zci,zcj,zck,zcl,zcm,zcn,zco,zcp,zcq,zcr,zcs,zct,zcu,zcv,zcw,zcx,zcy,zcz,zda,zdb,zdc,zdd,guardV,nth,zde,zdf,zdg,zdh,zdi,Nat.reduceEqDiff,reduceIte,zdj,zdk,zdl,resultsA,RetO,Nat.reduceLT,zdm,zdn,zdo,zdp,zdq,zdr,zds,zdt,zdu,zdv,zdw,zdx,zdy,zdz,zea,zeb,zec,zed,zee,zef,zeg,zeh,zei,zej,zek,zel,zem,zen,zeo,zep,zeq, e1], by simp only [zaa,zab,zac,zad,zae,zaf,zag,zah,zai,zaj,zak,zal,zam,zan,zao,zap,zaq,zar,zas,zat,zau,zav,zaw,zax,zay,zaz,zba,zbb,zbc,zbd,zbe,zbf,zbg,zbh,zbi,zbj,zbk,zbl,zbm,zbn,zbo,zbp,zbq,zbr,zbs,zbt,zbu,zbv,zbw,zbx,zby,zbz,zca,zcb,zcc,zcd,zce,zcf,zcg,zch,zci,zcj,zck,zcl,zcm,zcn,zco,zcp,zcq,zcr,zcs,zct,zcu,zcv,zcw,zcx,zcy,zcz,zda,zdb,zdc,zdd,guardV,nth,zde,zdf,zdg,zdh,zdi,Nat.reduceEqDiff,reduceIte,zdj,zdk,zdl,resultsA,RetO,Nat.reduceLT,zdm,zdn,zdo,zdp,zdq,zdr,zds,zdt,zdu,zdv,zdw,zdx,zdy,zdz,zea,zeb,zec,zed,zee,zef,zeg,zeh,zei,zej,zek,zel,zem,zen,zeo,zep,zeq, e2], by simp only [zaa,zab,zac,zad,zae,zaf,zag,zah,zai,zaj,zak,zal,zam,zan,zao,zap,zaq,zar,zas,zat,zau,zav,zaw,zax,zay,zaz,zba,zbb,zbc,zbd,zbe,zbf,zbg,zbh,zbi,zbj,zbk,zbl,zbm,zbn,zbo,zbp,zbq,zbr,zbs,zbt,zbu,zbv,zbw,zbx,zby,zbz,zca,zcb,zcc,zcd,zce,zcf,zcg,zch,zci,zcj,zck,zcl,zcm,zcn,zco,zcp,zcq,zcr,zcs,zct,zcu,zcv,zcw,zcx,zcy,zcz,zda,zdb,zdc,zdd,guardV,nth,zde,zdf,zdg,zdh,zdi,Nat.reduceEqDiff,reduceIte,zdj,zdk,zdl,resultsA,RetO,Nat.reduceLT,zdm,zdn,zdo,zdp,zdq,zdr,zds,zdt,zdu,zdv,zdw,zdx,zdy,zdz,zea,zeb,zec,zed,zee,zef,zeg,zeh,zei,zej,zek,zel,zem,zen,zeo,zep,zeq], by simp only [zaa,zab,zac,zad,zae,zaf,zag,zah,zai,zaj,zak,zal,zam,zan,zao,zap,zaq,zar,zas,zat,zau,zav,zaw,zax,zay,zaz,zba,zbb,zbc,zbd,zbe,zbf,zbg,zbh,zbi,zbj,zbk,zbl,zbm,zbn,zbo,zbp,zbq,zbr,zbs,zbt,zbu,zbv,zbw,zbx,zby,zbz,zca,zcb,zcc,zcd,zce,zcf,zcg,zch,zci,zcj,zck,zcl,zcm,zcn,zco,zcp,zcq,zcr,zcs,zct,zcu,zcv,zcw,zcx,zcy,zcz,zda,zdb,zdc,zdd,guardV,nth,zde,zdf,zdg,zdh,zdi,Nat.reduceEqDiff,reduceIte,zdj,zdk,zdl,resultsA,RetO,Nat.reduceLT,zdm,zdn,zdo,zdp,zdq,zdr,zds,zdt,zdu,zdv,zdw,zdx,zdy,zdz,zea,zeb,zec,zed,zee,zef,zeg,zeh,zei,zej,zek,zel,zem,zen,zeo,zep,zeq], rfl⟩
        · have d3 : decide (((an (bfP ps x) D : Nat) : Int) ≠ 0) = true := decide_eq_true (by omega)
          simp (disch := omega) only [zaa,zab,zac,zad,zae,zaf,zag,zah,zai,zaj,zak,zal,zam,zan,zao,zap,zaq,zar,zas,zat,zau,zav,zaw,zax,zay,zaz,zba,zbb,zbc,zbd,zbe,zbf,zbg,zbh,zbi,zbj,zbk,zbl,zbm,zbn,zbo,zbp,zbq,zbr,zbs,zbt,zbu,zbv,zbw,zbx,zby,zbz,zca,zcb,zcc,zcd,zce,zcf,zcg,zch,zci,zcj,zck,zcl,zcm,zcn,zco,zcp,zcq,zcr,zcs,zct,zcu,zcv,zcw,zcx,zcy,zcz,zda,zdb,zdc,zdd,guardV,nth,zde,zdf,zdg,zdh,zdi,Nat.reduceEqDiff,reduceIte,zdj,zdk,zdl,resultsA,RetO,Nat.reduceLT,zdm,zdn,zdo,zdp,zdq,zdr,zds,zdt,zdu,zdv,zdw,zdx,zdy,zdz,zea,zeb,zec,zed,zee,zef,zeg,zeh,zei,zej,zek,zel,zem,zen,zeo,zep,zeq, e7, hb5, d3]
          exact hfail fun hc => c3 (z_rdy.1 hc).2.2
    · have d1 : decide (0 ≤ z ∧ z ≤ (n : Int) - 1) = false := decide_eq_false c1
      simp (disch := omega) only [zaa,zab,zac,zad,zae,zaf,zag,zah,zai,zaj,zak,zal,zam,zan,zao,zap,zaq,zar,zas,zat,zau,zav,zaw,zax,zay,zaz,zba,zbb,zbc,zbd,zbe,zbf,zbg,zbh,zbi,zbj,zbk,zbl,zbm,zbn,zbo,zbp,zbq,zbr,zbs,zbt,zbu,zbv,zbw,zbx,zby,zbz,zca,zcb,zcc,zcd,zce,zcf,zcg,zch,zci,zcj,zck,zcl,zcm,zcn,zco,zcp,zcq,zcr,zcs,zct,zcu,zcv,zcw,zcx,zcy,zcz,zda,zdb,zdc,zdd,guardV,nth,zde,zdf,zdg,zdh,zdi,Nat.reduceEqDiff,reduceIte,zdj,zdk,zdl,resultsA,RetO,Nat.reduceLT,zdm,zdn,zdo,zdp,zdq,zdr,zds,zdt,zdu,zdv,zdw,zdx,zdy,zdz,zea,zeb,zec,zed,zee,zef,zeg,zeh,zei,zej,zek,zel,zem,zen,zeo,zep,zeq, d1]
      exact hfail fun hc => c1 ⟨hc.1, by have := (mem_rdy.1 hc.2).1; omega⟩
  · obtain rfl : i = zs.length := by omega
    simp (disch := omega) only [zaa,zab,zac,zad,zae,zaf,zag,zah,zai,zaj,zak,zal,zam,zan,zao,zap,zaq,zar,zas,zat,zau,zav,zaw,zax,zay,zaz,zba,zbb,zbc,zbd,zbe,zbf,zbg,zbh,zbi,zbj,zbk,zbl,zbm,zbn,zbo,zbp,zbq,zbr,zbs,zbt,zbu,zbv,zbw,zbx,zby,zbz,zca,zcb,zcc,zcd,zce,zcf,zcg,zch,zci,zcj,zck,zcl,zcm,zcn,zco,zcp,zcq,zcr,zcs,zct,zcu,zcv,zcw,zcx,zcy,zcz,zda,zdb,zdc,zdd,guardV,nth,zde,zdf,zdg,zdh,zdi,Nat.reduceEqDiff,reduceIte,zdj,zdk,zdl,resultsA,RetO,Nat.reduceLT,zdm,zdn,zdo,zdp,zdq,zdr,zds,zdt,zdu,zdv,zdw,zdx,zdy,zdz,zea,zeb,zec,zed,zee,zef,zeg,zeh,zei,zej,zek,zel,zem,zen,zeo,zep,zeq, e0, e2, e8, len26, len22, hlt]
    refine hQ' _ _ ⟨Pres.refl _ _, ?_, rfl⟩
    congr 1
    refine decide_eq_decide.2 ?_
    rw [List.drop_length] at hf
    constructor
    · intro hl
      exact (Or_sq (bf := bfP ps) (n := n) (by omega)).1 ⟨D, hf⟩
    · intro hl
      have := sq_len hl
      omega

set_option maxHeartbeats 2000000 in
theorem rCost_spec {G N n c k : Nat} {A A2 : Option Addr} {js : List (Int × Int)} {l : List Nat} {h : H} (hn : n = js.length) (hs : SlV h.blks 0 N 2 n (prs js) (.slice A n c)) (hs2 : SlV h.blks 0 N 1 l.length (ints (l.map Int.ofNat)) (.slice A2 l.length k)) (hj : inJ js = true) (hl : ∀ j ∈ l, j < n) (hll : l.length ≤ 10) :
    Spec Tryz.prog (En G) 15 [.slice A n c, .slice A2 l.length k] h fun v h' => v = .int .i64 (cst (lnJ js) (wtJ js) l : Nat) ∧ h' = h := by
  subst hn
  have hb := ec_bound (ln := lnJ js) (wt := wtJ js) (l := l) fun j hj' => (inJ_get hj (hl j hj')).2.2
  refine CallsE_enter (En_known (by decide)) (En_f.trans Tryz.func15) rfl ⟨Nat.le_of_ble_eq_true rfl, by decide⟩ fun Q' hQ' => ?_
  simp only [Tryz.f15, zaa,zab,zac,zad,zae,zaf,zag,zah,zai,zaj,zak,zal,zam,zan,zao,zap,zaq,zar,zas,zat,zau,zav,zaw,zax,zay,zaz,zba,zbb,zbc,zbd,zbe,zbf,zbg,zbh,zbi,zbj,zbk,zbl,zbm,zbn,zbo,zbp,zbq,zbr,zbs,zbt,zbu,zbv,zbw,zbx,zby,zbz,zca,zcb,zcc,zcd,zce,zcf,zcg,zch,zci,zcj,zck,zcl,zcm,zcn,zco,zcp,zcq,zcr,zcs,zct,zcu,zcv,zcw,zcx,zcy,zcz,zda,zdb,zdc,zdd,guardV,nth,zde,zdf,zdg,zdh,zdi,Nat.reduceEqDiff,reduceIte,zdj,zdk,zdl,resultsA,RetO,Nat.reduceLT,zdm,zdn,zdo,zdp,zdq,zdr,zds,zdt,zdu,zdv,zdw,zdx,zdy,zdz,zea,zeb,zec,zed,zee,zef,zeg,zeh,zei,zej,zek,zel,zem,zen,zeo,zep,zeq]
  refine WK_loopN (fun jj α h2 => ∃ (i : Nat), jj + i = l.length ∧ α.get 0 = some (.slice A js.length c) ∧ α.get 1 = some (.slice A2 l.length k) ∧ α.get 5 = some (.int .i64 ((ec (lnJ js) (wtJ js) (l.take i)).1 : Nat)) ∧ α.get 6 = some (.int .i64 ((ec (lnJ js) (wtJ js) (l.take i)).2 : Nat)) ∧ α.get 7 = some (.int .i64 i) ∧ h2 = h) l.length
    ⟨0, rfl, by simp only [zaa,zab,zac,zad,zae,zaf,zag,zah,zai,zaj,zak,zal,zam,zan,zao,zap,zaq,zar,zas,zat,zau,zav,zaw,zax,zay,zaz,zba,zbb,zbc,zbd,zbe,zbf,zbg,zbh,zbi,zbj,zbk,zbl,zbm,zbn,zbo,zbp,zbq,zbr,zbs,zbt,zbu,zbv,zbw,zbx,zby,zbz,zca,zcb,zcc,zcd,zce,zcf,zcg,zch,zci,zcj,zck,zcl,zcm,zcn,zco,zcp,zcq,zcr,zcs,zct,zcu,zcv,zcw,zcx,zcy,zcz,zda,zdb,zdc,zdd,guardV,nth,zde,zdf,zdg,zdh,zdi,Nat.reduceEqDiff,reduceIte,zdj,zdk,zdl,resultsA,RetO,Nat.reduceLT,zdm,zdn,zdo,zdp,zdq,zdr,zds,zdt,zdu,zdv,zdw,zdx,zdy,zdz,zea,zeb,zec,zed,zee,zef,zeg,zeh,zei,zej,zek,zel,zem,zen,zeo,zep,zeq], by simp only [zaa,zab,zac,zad,zae,zaf,zag,zah,zai,zaj,zak,zal,zam,zan,zao,zap,zaq,zar,zas,zat,zau,zav,zaw,zax,zay,zaz,zba,zbb,zbc,zbd,zbe,zbf,zbg,zbh,zbi,zbj,zbk,zbl,zbm,zbn,zbo,zbp,zbq,zbr,zbs,zbt,zbu,zbv,zbw,zbx,zby,zbz,zca,zcb,zcc,zcd,zce,zcf,zcg,zch,zci,zcj,zck,zcl,zcm,zcn,zco,zcp,zcq,zcr,zcs,zct,zcu,zcv,zcw,zcx,zcy,zcz,zda,zdb,zdc,zdd,guardV,nth,zde,zdf,zdg,zdh,zdi,Nat.reduceEqDiff,reduceIte,zdj,zdk,zdl,resultsA,RetO,Nat.reduceLT,zdm,zdn,zdo,zdp,zdq,zdr,zds,zdt,zdu,zdv,zdw,zdx,zdy,zdz,zea,zeb,zec,zed,zee,zef,zeg,zeh,zei,zej,zek,zel,zem,zen,zeo,zep,zeq], by simp only [zaa,zab,zac,zad,zae,zaf,zag,zah,zai,zaj,zak,zal,zam,zan,zao,zap,zaq,zar,zas,zat,zau,zav,zaw,zax,zay,zaz,zba,zbb,zbc,zbd,zbe,zbf,zbg,zbh,zbi,zbj,zbk,zbl,zbm,zbn,zbo,zbp,zbq,zbr,zbs,zbt,zbu,zbv,zbw,zbx,zby,zbz,zca,zcb,zcc,zcd,zce,zcf,zcg,zch,zci,zcj,zck,zcl,zcm,zcn,zco,zcp,zcq,zcr,zcs,zct,zcu,zcv,zcw,zcx,zcy,zcz,zda,zdb,zdc,zdd,guardV,nth,zde,zdf,zdg,zdh,zdi,Nat.reduceEqDiff,reduceIte,zdj,zdk,zdl,resultsA,RetO,Nat.reduceLT,zdm,zdn,zdo,zdp,zdq,zdr,zds,zdt,zdu,zdv,zdw,zdx,zdy,zdz,zea,zeb,zec,zed,zee,zef,zeg,zeh,zei,zej,zek,zel,zem,zen,zeo,zep,zeq]; rfl, by simp only [zaa,zab,zac,zad,zae,zaf,zag,zah,zai,zaj,zak,zal,zam,zan,zao,zap,zaq,zar,zas,zat,zau,zav,zaw,zax,zay,zaz,zba,zbb,zbc,zbd,zbe,zbf,zbg,zbh,zbi,zbj,zbk,zbl,zbm,zbn,zbo,zbp,zbq,zbr,zbs,zbt,zbu,zbv,zbw,zbx,zby,zbz,zca,zcb,zcc,zcd,zce,zcf,zcg,zch,zci,zcj,zck,zcl,zcm,zcn,zco,zcp,zcq,zcr,zcs,zct,zcu,zcv,zcw,zcx,zcy,zcz,zda,zdb,zdc,zdd,guardV,nth,zde,zdf,zdg,zdh,zdi,Nat.reduceEqDiff,reduceIte,zdj,zdk,zdl,resultsA,RetO,Nat.reduceLT,zdm,zdn,zdo,zdp,zdq,zdr,zds,zdt,zdu,zdv,zdw,zdx,zdy,zdz,zea,zeb,zec,zed,zee,zef,zeg,zeh,zei,zej,zek,zel,zem,zen,zeo,zep,zeq]; rfl, by simp only [zaa,zab,zac,zad,zae,zaf,zag,zah,zai,zaj,zak,zal,zam,zan,zao,zap,zaq,zar,zas,zat,zau,zav,zaw,zax,zay,zaz,zba,zbb,zbc,zbd,zbe,zbf,zbg,zbh,zbi,zbj,zbk,zbl,zbm,zbn,zbo,zbp,zbq,zbr,zbs,zbt,zbu,zbv,zbw,zbx,zby,zbz,zca,zcb,zcc,zcd,zce,zcf,zcg,zch,zci,zcj,zck,zcl,zcm,zcn,zco,zcp,zcq,zcr,zcs,zct,zcu,zcv,zcw,zcx,zcy,zcz,zda,zdb,zdc,zdd,guardV,nth,zde,zdf,zdg,zdh,zdi,Nat.reduceEqDiff,reduceIte,zdj,zdk,zdl,resultsA,RetO,Nat.reduceLT,zdm,zdn,zdo,zdp,zdq,zdr,zds,zdt,zdu,zdv,zdw,zdx,zdy,zdz,zea,zeb,zec,zed,zee,zef,zeg,zeh,zei,zej,zek,zel,zem,zen,zeo,zep,zeq]; rfl, rfl⟩ (by omega) ?_
  rintro J jj α h2 ⟨i, hij, e0, e1, e5, e6, e7, rfl⟩ hJ
  by_cases hlt : (i : Int) < l.length
  · have hi : i < l.length := by omega
    have hg := List.getElem?_eq_getElem hi
    generalize hxx : l[i]'hi = x at hg
    have hxn : x < js.length := hl x (List.mem_of_getElem? hg)
    have hect := ec_take (ln := lnJ js) (wt := wtJ js) hg
    have hbi := hb i
    have hbi2 : 2500 * i * i ≤ 2500 * 10 * 10 := Nat.mul_le_mul (Nat.mul_le_mul_left _ (by omega)) (by omega)
    obtain ⟨hx1, hx2, hx3, hx4⟩ := inJ_get hj hxn
    obtain ⟨b, off, rfl, _, _, _⟩ := hs2.at_ (by omega)
    have lb := hs2.ints_get (i := i) (z := (x : Int)) (by rw [List.getElem?_map, hg]; rfl)
    obtain ⟨b2, off2, rfl, _, _, _⟩ := hs.at_ (by omega)
    obtain ⟨lp1, lp2⟩ := hs.pr_at hx1
    simp only at lp1 lp2
    have hw := wrap_succ hi (by omega)
    generalize (ec (lnJ js) (wtJ js) (l.take i)).1 = e at e5 hect hbi
    generalize (ec (lnJ js) (wtJ js) (l.take i)).2 = u at e6 hect hbi
    generalize lnJ js x = q at lp1 hect hx2 hx3
    generalize wtJ js x = t at lp2 hect hx4
    have hw1 : IntKind.i64.wrap ((e : Int) + q) = ((e + q : Nat) : Int) := by rw [wrap_i64 (by omega) (by omega)]; omega
    have hmul : t * (e + q) ≤ 50 * 600 := Nat.mul_le_mul (by omega) (by omega)
    have hw2 : IntKind.i64.wrap ((t : Int) * ((e + q : Nat) : Int)) = ((t * (e + q) : Nat) : Int) := by
      have : (t : Int) * ((e + q : Nat) : Int) = ((t * (e + q) : Nat) : Int) := by simp
      rw [this, wrap_i64 (by omega) (by omega)]
    have hw3 : IntKind.i64.wrap ((u : Int) + ((t * (e + q) : Nat) : Int)) = ((u + t * (e + q) : Nat) : Int) := by rw [wrap_i64 (by omega) (by omega)]; omega
    simp (disch := omega) only [zaa,zab,zac,zad,zae,zaf,zag,zah,zai,zaj,zak,zal,zam,zan,zao,zap,zaq,zar,zas,zat,zau,zav,zaw,zax,zay,zaz,zba,zbb,zbc,zbd,zbe,zbf,zbg,zbh,zbi,zbj,zbk,zbl,zbm,zbn,zbo,zbp,zbq,zbr,zbs,zbt,zbu,zbv,zbw,zbx,zby,zbz,zca,zcb,zcc,zcd,zce,zcf,zcg,zch,zci,zcj,zck,zcl,zcm,zcn,zco,zcp,zcq,zcr,zcs,zct,zcu,zcv,zcw,zcx,zcy,zcz,zda,zdb,zdc,zdd,guardV,nth,zde,zdf,zdg,zdh,zdi,Nat.reduceEqDiff,reduceIte,zdj,zdk,zdl,resultsA,RetO,Nat.reduceLT,zdm,zdn,zdo,zdp,zdq,zdr,zds,zdt,zdu,zdv,zdw,zdx,zdy,zdz,zea,zeb,zec,zed,zee,zef,zeg,zeh,zei,zej,zek,zel,zem,zen,zeo,zep,zeq, e0, e1, e5, e6, e7, len26, hlt, idxA26, idxA22, fld49_0, fld49_1, load3, Nat.add_zero, Int.toNat_natCast, Nat.mul_one, lb, lp1, lp2, hw1, hw2, hw3, hw]
    exact hJ (jj - 1) _ _ (by omega) ⟨i + 1, by omega, by simp only [zaa,zab,zac,zad,zae,zaf,zag,zah,zai,zaj,zak,zal,zam,zan,zao,zap,zaq,zar,zas,zat,zau,zav,zaw,zax,zay,zaz,zba,zbb,zbc,zbd,zbe,zbf,zbg,zbh,zbi,zbj,zbk,zbl,zbm,zbn,zbo,zbp,zbq,zbr,zbs,zbt,zbu,zbv,zbw,zbx,zby,zbz,zca,zcb,zcc,zcd,zce,zcf,zcg,zch,zci,zcj,zck,zcl,zcm,zcn,zco,zcp,zcq,zcr,zcs,zct,zcu,zcv,zcw,zcx,zcy,zcz,zda,zdb,zdc,zdd,guardV,nth,zde,zdf,zdg,zdh,zdi,Nat.reduceEqDiff,reduceIte,zdj,zdk,zdl,resultsA,RetO,Nat.reduceLT,zdm,zdn,zdo,zdp,zdq,zdr,zds,zdt,zdu,zdv,zdw,zdx,zdy,zdz,zea,zeb,zec,zed,zee,zef,zeg,zeh,zei,zej,zek,zel,zem,zen,zeo,zep,zeq, e0], by simp only [zaa,zab,zac,zad,zae,zaf,zag,zah,zai,zaj,zak,zal,zam,zan,zao,zap,zaq,zar,zas,zat,zau,zav,zaw,zax,zay,zaz,zba,zbb,zbc,zbd,zbe,zbf,zbg,zbh,zbi,zbj,zbk,zbl,zbm,zbn,zbo,zbp,zbq,zbr,zbs,zbt,zbu,zbv,zbw,zbx,zby,zbz,zca,zcb,zcc,zcd,zce,zcf,zcg,zch,zci,zcj,zck,zcl,zcm,zcn,zco,zcp,zcq,zcr,zcs,zct,zcu,zcv,zcw,zcx,zcy,zcz,zda,zdb,zdc,zdd,guardV,nth,zde,zdf,zdg,zdh,zdi,Nat.reduceEqDiff,reduceIte,zdj,zdk,zdl,resultsA,RetO,Nat.reduceLT,zdm,zdn,zdo,zdp,zdq,zdr,zds,zdt,zdu,zdv,zdw,zdx,zdy,zdz,zea,zeb,zec,zed,zee,zef,zeg,zeh,zei,zej,zek,zel,zem,zen,zeo,zep,zeq, e1], by simp only [zaa,zab,zac,zad,zae,zaf,zag,zah,zai,zaj,zak,zal,zam,zan,zao,zap,zaq,zar,zas,zat,zau,zav,zaw,zax,zay,zaz,zba,zbb,zbc,zbd,zbe,zbf,zbg,zbh,zbi,zbj,zbk,zbl,zbm,zbn,zbo,zbp,zbq,zbr,zbs,zbt,zbu,zbv,zbw,zbx,zby,zbz,zca,zcb,zcc,zcd,zce,zcf,zcg,zch,zci,zcj,zck,zcl,zcm,zcn,zco,zcp,zcq,zcr,zcs,zct,zcu,zcv,zcw,zcx,zcy,zcz,zda,zdb,zdc,zdd,guardV,nth,zde,zdf,zdg,zdh,zdi,Nat.reduceEqDiff,reduceIte,zdj,zdk,zdl,resultsA,RetO,Nat.reduceLT,zdm,zdn,zdo,zdp,zdq,zdr,zds,zdt,zdu,zdv,zdw,zdx,zdy,zdz,zea,zeb,zec,zed,zee,zef,zeg,zeh,zei,zej,zek,zel,zem,zen,zeo,zep,zeq]; rw [hect], by simp only [zaa,zab,zac,zad,zae,zaf,zag,zah,zai,zaj,zak,zal,zam,zan,zao,zap,zaq,zar,zas,zat,zau,zav,zaw,zax,zay,zaz,zba,zbb,zbc,zbd,zbe,zbf,zbg,zbh,zbi,zbj,zbk,zbl,zbm,zbn,zbo,zbp,zbq,zbr,zbs,zbt,zbu,zbv,zbw,zbx,zby,zbz,zca,zcb,zcc,zcd,zce,zcf,zcg,zch,zci,zcj,zck,zcl,zcm,zcn,zco,zcp,zcq,zcr,zcs,zct,zcu,zcv,zcw,zcx,zcy,zcz,zda,zdb,zdc,zdd,guardV,nth,zde,zdf,zdg,zdh,zdi,Nat.reduceEqDiff,reduceIte,zdj,zdk,zdl,resultsA,RetO,Nat.reduceLT,zdm,zdn,zdo,zdp,zdq,zdr,zds,zdt,zdu,zdv,zdw,zdx,zdy,zdz,zea,zeb,zec,zed,zee,zef,zeg,zeh,zei,zej,zek,zel,zem,zen,zeo,zep,zeq]; rw [hect], by simp only [zaa,zab,zac,zad,zae,zaf,zag,zah,zai,zaj,zak,zal,zam,zan,zao,zap,zaq,zar,zas,zat,zau,zav,zaw,zax,zay,zaz,zba,zbb,zbc,zbd,zbe,zbf,zbg,zbh,zbi,zbj,zbk,zbl,zbm,zbn,zbo,zbp,zbq,zbr,zbs,zbt,zbu,zbv,zbw,zbx,zby,zbz,zca,zcb,zcc,zcd,zce,zcf,zcg,zch,zci,zcj,zck,zcl,zcm,zcn,zco,zcp,zcq,zcr,zcs,zct,zcu,zcv,zcw,zcx,zcy,zcz,zda,zdb,zdc,zdd,guardV,nth,zde,zdf,zdg,zdh,zdi,Nat.reduceEqDiff,reduceIte,zdj,zdk,zdl,resultsA,RetO,Nat.reduceLT,zdm,zdn,zdo,zdp,zdq,zdr,zds,zdt,zdu,zdv,zdw,zdx,zdy,zdz,zea,zeb,zec,zed,zee,zef,zeg,zeh,zei,zej,zek,zel,zem,zen,zeo,zep,zeq], rfl⟩
  · obtain rfl : i = l.length := by omega
    rw [List.take_length] at e6
    simp (disch := omega) only [zaa,zab,zac,zad,zae,zaf,zag,zah,zai,zaj,zak,zal,zam,zan,zao,zap,zaq,zar,zas,zat,zau,zav,zaw,zax,zay,zaz,zba,zbb,zbc,zbd,zbe,zbf,zbg,zbh,zbi,zbj,zbk,zbl,zbm,zbn,zbo,zbp,zbq,zbr,zbs,zbt,zbu,zbv,zbw,zbx,zby,zbz,zca,zcb,zcc,zcd,zce,zcf,zcg,zch,zci,zcj,zck,zcl,zcm,zcn,zco,zcp,zcq,zcr,zcs,zct,zcu,zcv,zcw,zcx,zcy,zcz,zda,zdb,zdc,zdd,guardV,nth,zde,zdf,zdg,zdh,zdi,Nat.reduceEqDiff,reduceIte,zdj,zdk,zdl,resultsA,RetO,Nat.reduceLT,zdm,zdn,zdo,zdp,zdq,zdr,zds,zdt,zdu,zdv,zdw,zdx,zdy,zdz,zea,zeb,zec,zed,zee,zef,zeg,zeh,zei,zej,zek,zel,zem,zen,zeo,zep,zeq, e1, e6, e7, len26, hlt]
    exact hQ' _ _ ⟨Pres.refl _ _, rfl, rfl⟩
end
end Go.Proofs.YthiodndhokooiaaGreatDoor.Ev

