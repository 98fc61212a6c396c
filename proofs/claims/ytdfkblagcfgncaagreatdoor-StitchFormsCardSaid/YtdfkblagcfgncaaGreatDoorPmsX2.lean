/- Strings compared; joined. -/
import Derived.Test.YtdfkblagcfgncaaGreatDoorPmsX1
import Derived.Test.YtdfkblagcfgncaaGreatDoorPmsW2
import Derived.Test.YtdfkblagcfgncaaGreatDoorPmsV3
set_option linter.unusedSimpArgs false
namespace Go.Proofs.YtdfkblagcfgncaaGreatDoor.Ev
open Go Go.Proofs
noncomputable section

theorem lexGt_less : ∀ a b : List UInt8, (!(Op.bytesLess a b || a == b)) = lexGt a b
  | [], [] => rfl
  | [], _ :: _ => rfl
  | _ :: _, [] => rfl
  | a :: x, b :: y => by
    have ih := lexGt_less x y
    rw [lexGt]
    by_cases h : a = b
    · subst h
      rw [if_pos rfl, ← ih]
      have h1 : decide (a < a) = false := decide_eq_false (by intro h; exact absurd (UInt8.lt_iff_toNat_lt.1 h) (Nat.lt_irrefl _))
      have h2 : (a == a) = true := by simp
      have h3 : ((a :: x) == (a :: y)) = (x == y) := by simp
      simp only [Op.bytesLess, h1, h2, h3, Bool.false_or, Bool.true_and]
    · rw [if_neg h]
      have h2 : (a == b) = false := by simp [h]
      have h3 : ((a :: x) == (b :: y)) = false := by simp [h]
      simp only [Op.bytesLess, h2, h3, Bool.false_and, Bool.or_false]
      by_cases h4 : b.toNat < a.toNat
      · rw [decide_eq_true h4, decide_eq_false (by intro h5; have := UInt8.lt_iff_toNat_lt.1 h5; omega)]; rfl
      · rw [decide_eq_false h4, decide_eq_true (UInt8.lt_iff_toNat_lt.2 (by have : a.toNat ≠ b.toNat := fun e => h (UInt8.toNat_inj.1 e); omega))]; rfl
theorem gtr_str {P : Program} {E : Env} {t : TypeId} {a b : List UInt8} : binO P E .gtr t (some (strV a)) (some (strV b)) = some (.bool (lexGt a b)) := by
  refine str_bin rfl ?_ rfl
  have : pureRun P (Op.stringOp .gtr ⟨a.toArray⟩ ⟨b.toArray⟩) = some (.bool (lexGt a b)) := by
    unfold Op.stringOp
    simp only [ByteArray.toList_eq]
    show some (Value.bool (!(Op.bytesLess a b || a == b))) = _
    rw [lexGt_less]
  simpa [eqGuard, binOp, strV] using this

theorem flat_take {ls : List (List UInt8)} {i : Nat} {s : List UInt8} (h : ls[i]? = some s) : (ls.take (i + 1)).flatten = (ls.take i).flatten ++ s := by
  rw [List.take_add_one, h]; simp
theorem flat_len {ls : List (List UInt8)} {i : Nat} : (ls.take i).flatten.length ≤ ls.flatten.length := by
  have : ls.flatten = (ls.take i).flatten ++ (ls.drop i).flatten := by rw [← List.flatten_append, List.take_append_drop]
  rw [this, List.length_append]; omega

set_option maxHeartbeats 4000000 in
theorem joined_spec {G lo hi n c : Nat} {A : Option Addr} {ls : List (List UInt8)} {h : H} (hv : SlV h.blks lo hi 1 n (strs ls) (.slice A n c)) (hn : n < 1000000) (hlen : ls.flatten.length < 1000000) :
    Spec Tryz.prog (En G) 51 [.slice A n c] h fun v h' => v = strV ls.flatten ∧ h' = h := by
  have hl : ls.length = n := by have := hv.len; rw [strs_len] at this; omega
  refine CallsE_enter (En_known (by decide)) (En_f.trans Tryz.func51) rfl ⟨Nat.le_of_ble_eq_true rfl, by decide⟩ fun Q' hQ' => ?_
  simp only [Tryz.f51, zaa,zab,zac,zad,zae,zaf,zag,zah,zai,zaj,zak,zal,zam,zan,zao,zap,zaq,zar,zas,zat,zau,zav,zaw,zax,zay,zaz,zba,zbb,zbc,zbd,zbe,zbf,zbg,zbh,zbi,zbj,zbk,zbl,zbm,zbn,zbo,zbp,zbq,zbr,zbs,zbt,zbu,zbv,zbw,zbx,zby,zbz,zca,zcb,zcc,zcd,zce,zcf,zcg,zch,zci,zcj,zck,zcl,zcm,zcn,zco,zcp,zcq,zcr,zcs,zct,zcu,zcv,zcw,zcx,zcy,zcz,zda,zdb,zdc,zdd,guardV,nth,zde,zdf,zdg,zdh,zdi,Nat.reduceEqDiff,reduceIte,zdj,zdk,zdl,resultsA,RetO,Nat.reduceLT,zdm,zdn,zdo,zdp,zdq,zdr,zds,zdt,zdu,zdv,zdw,zdx,zdy,zdz,zea,zeb,zec,zed,zee,zef,zeg,zeh,zei,zej,zek,zel,zem,zen,zeo]
  refine WK_loopN (fun j α h2 => ∃ (i : Nat), h2 = h ∧ j + i = n ∧ α.get 0 = some (.slice A n c) ∧ α.get 3 = some (strV (ls.take i).flatten) ∧ α.get 4 = some (.int .i64 i)) n
    ⟨0, rfl, by omega, by simp only [zaa,zab,zac,zad,zae,zaf,zag,zah,zai,zaj,zak,zal,zam,zan,zao,zap,zaq,zar,zas,zat,zau,zav,zaw,zax,zay,zaz,zba,zbb,zbc,zbd,zbe,zbf,zbg,zbh,zbi,zbj,zbk,zbl,zbm,zbn,zbo,zbp,zbq,zbr,zbs,zbt,zbu,zbv,zbw,zbx,zby,zbz,zca,zcb,zcc,zcd,zce,zcf,zcg,zch,zci,zcj,zck,zcl,zcm,zcn,zco,zcp,zcq,zcr,zcs,zct,zcu,zcv,zcw,zcx,zcy,zcz,zda,zdb,zdc,zdd,guardV,nth,zde,zdf,zdg,zdh,zdi,Nat.reduceEqDiff,reduceIte,zdj,zdk,zdl,resultsA,RetO,Nat.reduceLT,zdm,zdn,zdo,zdp,zdq,zdr,zds,zdt,zdu,zdv,zdw,zdx,zdy,zdz,zea,zeb,zec,zed,zee,zef,zeg,zeh,zei,zej,zek,zel,zem,zen,zeo], by simp only [zaa,zab,zac,zad,zae,zaf,zag,zah,zai,zaj,zak,zal,zam,zan,zao,zap,zaq,zar,zas,zat,zau,zav,zaw,zax,zay,zaz,zba,zbb,zbc,zbd,zbe,zbf,zbg,zbh,zbi,zbj,zbk,zbl,zbm,zbn,zbo,zbp,zbq,zbr,zbs,zbt,zbu,zbv,zbw,zbx,zby,zbz,zca,zcb,zcc,zcd,zce,zcf,zcg,zch,zci,zcj,zck,zcl,zcm,zcn,zco,zcp,zcq,zcr,zcs,zct,zcu,zcv,zcw,zcx,zcy,zcz,zda,zdb,zdc,zdd,guardV,nth,zde,zdf,zdg,zdh,zdi,Nat.reduceEqDiff,reduceIte,zdj,zdk,zdl,resultsA,RetO,Nat.reduceLT,zdm,zdn,zdo,zdp,zdq,zdr,zds,zdt,zdu,zdv,zdw,zdx,zdy,zdz,zea,zeb,zec,zed,zee,zef,zeg,zeh,zei,zej,zek,zel,zem,zen,zeo]; rfl, by simp only [zaa,zab,zac,zad,zae,zaf,zag,zah,zai,zaj,zak,zal,zam,zan,zao,zap,zaq,zar,zas,zat,zau,zav,zaw,zax,zay,zaz,zba,zbb,zbc,zbd,zbe,zbf,zbg,zbh,zbi,zbj,zbk,zbl,zbm,zbn,zbo,zbp,zbq,zbr,zbs,zbt,zbu,zbv,zbw,zbx,zby,zbz,zca,zcb,zcc,zcd,zce,zcf,zcg,zch,zci,zcj,zck,zcl,zcm,zcn,zco,zcp,zcq,zcr,zcs,zct,zcu,zcv,zcw,zcx,zcy,zcz,zda,zdb,zdc,zdd,guardV,nth,zde,zdf,zdg,zdh,zdi,Nat.reduceEqDiff,reduceIte,zdj,zdk,zdl,resultsA,RetO,Nat.reduceLT,zdm,zdn,zdo,zdp,zdq,zdr,zds,zdt,zdu,zdv,zdw,zdx,zdy,zdz,zea,zeb,zec,zed,zee,zef,zeg,zeh,zei,zej,zek,zel,zem,zen,zeo]; rfl⟩ (by omega) ?_
  rintro J j α h2 ⟨i, rfl, hij, e0, e3, e4⟩ hJ
  by_cases hlt : (i : Int) < n
  · obtain ⟨s, hs⟩ : ∃ s, ls[i]? = some s := ⟨ls[i]'(by omega), List.getElem?_eq_getElem (by omega)⟩
    have hss : (strs ls)[i]? = some (strV s) := by simp [strs, hs]
    obtain ⟨b1, off1, rfl, _, _, hld1⟩ := hv.at_ (by omega)
    have l1 := hld1 i (by omega)
    rw [hss] at l1
    have hfl := flat_len (ls := ls) (i := i + 1)
    rw [flat_take hs, List.length_append] at hfl
    have hadd : ∀ {t : TypeId}, binO Tryz.prog (En G) .add t (some (strV (ls.take i).flatten)) (some (strV s)) = some (strV ((ls.take i).flatten ++ s)) := add_str (by omega)
    simp (disch := omega) only [zaa,zab,zac,zad,zae,zaf,zag,zah,zai,zaj,zak,zal,zam,zan,zao,zap,zaq,zar,zas,zat,zau,zav,zaw,zax,zay,zaz,zba,zbb,zbc,zbd,zbe,zbf,zbg,zbh,zbi,zbj,zbk,zbl,zbm,zbn,zbo,zbp,zbq,zbr,zbs,zbt,zbu,zbv,zbw,zbx,zby,zbz,zca,zcb,zcc,zcd,zce,zcf,zcg,zch,zci,zcj,zck,zcl,zcm,zcn,zco,zcp,zcq,zcr,zcs,zct,zcu,zcv,zcw,zcx,zcy,zcz,zda,zdb,zdc,zdd,guardV,nth,zde,zdf,zdg,zdh,zdi,Nat.reduceEqDiff,reduceIte,zdj,zdk,zdl,resultsA,RetO,Nat.reduceLT,zdm,zdn,zdo,zdp,zdq,zdr,zds,zdt,zdu,zdv,zdw,zdx,zdy,zdz,zea,zeb,zec,zed,zee,zef,zeg,zeh,zei,zej,zek,zel,zem,zen,zeo, e0, e3, e4, len28, hlt, idxA28, load9, Int.toNat_natCast, Nat.mul_one, l1, hadd, wrap_i64]
    exact hJ (j - 1) _ _ (by omega) ⟨i + 1, rfl, by omega, by simp only [zaa,zab,zac,zad,zae,zaf,zag,zah,zai,zaj,zak,zal,zam,zan,zao,zap,zaq,zar,zas,zat,zau,zav,zaw,zax,zay,zaz,zba,zbb,zbc,zbd,zbe,zbf,zbg,zbh,zbi,zbj,zbk,zbl,zbm,zbn,zbo,zbp,zbq,zbr,zbs,zbt,zbu,zbv,zbw,zbx,zby,zbz,zca,zcb,zcc,zcd,zce,zcf,zcg,zch,zci,zcj,zck,zcl,zcm,zcn,zco,zcp,zcq,zcr,zcs,zct,zcu,zcv,zcw,zcx,zcy,zcz,zda,zdb,zdc,zdd,guardV,nth,zde,zdf,zdg,zdh,zdi,Nat.reduceEqDiff,reduceIte,zdj,zdk,zdl,resultsA,RetO,Nat.reduceLT,zdm,zdn,zdo,zdp,zdq,zdr,zds,zdt,zdu,zdv,zdw,zdx,zdy,zdz,zea,zeb,zec,zed,zee,zef,zeg,zeh,zei,zej,zek,zel,zem,zen,zeo, e0], by simp only [zaa,zab,zac,zad,zae,zaf,zag,zah,zai,zaj,zak,zal,zam,zan,zao,zap,zaq,zar,zas,zat,zau,zav,zaw,zax,zay,zaz,zba,zbb,zbc,zbd,zbe,zbf,zbg,zbh,zbi,zbj,zbk,zbl,zbm,zbn,zbo,zbp,zbq,zbr,zbs,zbt,zbu,zbv,zbw,zbx,zby,zbz,zca,zcb,zcc,zcd,zce,zcf,zcg,zch,zci,zcj,zck,zcl,zcm,zcn,zco,zcp,zcq,zcr,zcs,zct,zcu,zcv,zcw,zcx,zcy,zcz,zda,zdb,zdc,zdd,guardV,nth,zde,zdf,zdg,zdh,zdi,Nat.reduceEqDiff,reduceIte,zdj,zdk,zdl,resultsA,RetO,Nat.reduceLT,zdm,zdn,zdo,zdp,zdq,zdr,zds,zdt,zdu,zdv,zdw,zdx,zdy,zdz,zea,zeb,zec,zed,zee,zef,zeg,zeh,zei,zej,zek,zel,zem,zen,zeo]; rw [flat_take hs], by simp only [zaa,zab,zac,zad,zae,zaf,zag,zah,zai,zaj,zak,zal,zam,zan,zao,zap,zaq,zar,zas,zat,zau,zav,zaw,zax,zay,zaz,zba,zbb,zbc,zbd,zbe,zbf,zbg,zbh,zbi,zbj,zbk,zbl,zbm,zbn,zbo,zbp,zbq,zbr,zbs,zbt,zbu,zbv,zbw,zbx,zby,zbz,zca,zcb,zcc,zcd,zce,zcf,zcg,zch,zci,zcj,zck,zcl,zcm,zcn,zco,zcp,zcq,zcr,zcs,zct,zcu,zcv,zcw,zcx,zcy,zcz,zda,zdb,zdc,zdd,guardV,nth,zde,zdf,zdg,zdh,zdi,Nat.reduceEqDiff,reduceIte,zdj,zdk,zdl,resultsA,RetO,Nat.reduceLT,zdm,zdn,zdo,zdp,zdq,zdr,zds,zdt,zdu,zdv,zdw,zdx,zdy,zdz,zea,zeb,zec,zed,zee,zef,zeg,zeh,zei,zej,zek,zel,zem,zen,zeo]; rfl⟩
  · obtain rfl : i = n := by omega
    simp (disch := omega) only [zaa,zab,zac,zad,zae,zaf,zag,zah,zai,zaj,zak,zal,zam,zan,zao,zap,zaq,zar,zas,zat,zau,zav,zaw,zax,zay,zaz,zba,zbb,zbc,zbd,zbe,zbf,zbg,zbh,zbi,zbj,zbk,zbl,zbm,zbn,zbo,zbp,zbq,zbr,zbs,zbt,zbu,zbv,zbw,zbx,zby,zbz,zca,zcb,zcc,zcd,zce,zcf,zcg,zch,zci,zcj,zck,zcl,zcm,zcn,zco,zcp,zcq,zcr,zcs,zct,zcu,zcv,zcw,zcx,zcy,zcz,zda,zdb,zdc,zdd,guardV,nth,zde,zdf,zdg,zdh,zdi,Nat.reduceEqDiff,reduceIte,zdj,zdk,zdl,resultsA,RetO,Nat.reduceLT,zdm,zdn,zdo,zdp,zdq,zdr,zds,zdt,zdu,zdv,zdw,zdx,zdy,zdz,zea,zeb,zec,zed,zee,zef,zeg,zeh,zei,zej,zek,zel,zem,zen,zeo, e0, e3, e4, len28, hlt]
    exact hQ' _ _ ⟨Pres.refl _ _, by rw [← hl, List.take_length], rfl⟩
end
end Go.Proofs.YtdfkblagcfgncaaGreatDoor.Ev

