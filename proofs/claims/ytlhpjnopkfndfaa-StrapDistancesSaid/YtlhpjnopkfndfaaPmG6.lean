/- The law StrapMirrored. -/
import Derived.Test.YtlhpjnopkfndfaaPmG5
set_option linter.unusedSimpArgs false
namespace Go.Proofs.Ytlhpjnopkfndfaa.Ev
open Go Go.Proofs
noncomputable section

theorem En_tabs {G : Nat} : (En G).tabs = tabs := rfl
section
variable {G n : Nat} {ops : List Oper} {r tl : List Oper} {k : List Frm} {α : Tr Value} {h : H} {R : Rt} {d : Nat}
theorem Call_lives (hd : d < n) (hk : At Try.prog (En G) n ops false r tl k (Tr.put α d (.bool true)) h R) : CallO Try.prog (En G) n ops false r tl k α h R (some d) (some (.func (.func 13) #[] #[])) (some []) := by
  refine CallO_of (Q := fun v h' => v = .bool true ∧ h' = h) (CallsE_known En_lives (by rw [En_tabs]; exact fun x hx => by cases hx) ⟨rfl, rfl⟩) hd fun v h' ⟨e1, e2⟩ => ?_
  subst e1; subst e2
  exact ⟨fun e => (by cases e), hk⟩
end

/-- from the other end -/
def mirf (m : Nat) (f : Nat → Int) (j : Nat) : Int := f (m - 1) - f (m - 1 - j)
theorem mirf_lst {m : Nat} {f : Nat → Int} : ilst m (mirf m f) = mir (f (m - 1)) (ilst m f) := by
  apply List.ext_getElem?
  intro i
  by_cases h : i < m
  · have h2 : m - 1 - i < m := by omega
    simp [ilst, mir, h, mirf, List.getElem?_reverse, h2]
  · rw [List.getElem?_eq_none (by rw [ilst_len]; omega), List.getElem?_eq_none (by simp [mir, ilst_len]; omega)]
theorem cpt_mirf {m : Nat} {f : Nat → Int} : cpt (mirf m f) m 0 = cpt f m 0 := by
  funext d
  rw [cpt_all, cpt_all, mirf_lst, dpc_mir]
theorem mirf_strap {m : Nat} {f : Nat → Int} (h : StrapP m f) : StrapP m (mirf m f) := by
  have h0 := h.1.2
  have hl := h.1.1 (m - 1) (by omega)
  refine ⟨⟨fun i hi => ?_, h0⟩, by simp [mirf]⟩
  have h1 := h.1.1 (m - 1 - i) (by omega)
  have h2 : f (m - 1 - i) ≤ f (m - 1) := by
    by_cases e : m - 1 - i = m - 1
    · rw [e]; exact Int.le_refl _
    · have := h.1.lt (i := m - 1 - i) (j := m - 1) (by omega) (by omega); omega
  refine ⟨by unfold mirf; omega, by unfold mirf; omega, fun hi0 => ?_⟩
  have := h.1.lt (i := m - 1 - i) (j := m - 1 - (i - 1)) (by omega) (by omega)
  unfold mirf
  omega

theorem strapE_ok {n : Nat} {f : Nat → Int} {e : Int} (hn : n ≤ 40) (hs : StrapP n f) (he : strapE n f e) : e = 0 := by
  rcases he with ⟨a, _⟩ | ⟨_, a, _⟩ | ⟨_, _, a⟩
  · omega
  · exact absurd hs a
  · exact a

set_option maxHeartbeats 16000000 in
theorem law_StrapMirrored {G lo hi c : Nat} {A : Option Addr} {x : List UInt8} {h : H} (hG : G ≤ h.next) (hhi : hi ≤ h.next) (hv : SlV h.blks lo hi 1 x.length (byts x) (.slice A x.length c)) (hn : x.length < 4611686018427387904) :
    Spec Try.prog (En G) 3 [.slice A x.length c] h fun v _ => v = .bool true := by
  refine CallsE_enter (En_known (by decide)) (En_f.trans Try.func3) rfl ⟨Nat.le_of_ble_eq_true rfl, by decide⟩ fun Q' hQ' => ?_
  simp only [Try.f3, zaa,zab,zac,zad,zae,zaf,zag,zah,zai,zaj,zak,zal,zam,zan,zao,zap,zaq,zar,zas,zat,zau,zav,zaw,zax,zay,zaz,zba,zbb,zbc,zbd,zbe,zbf,zbg,zbh,zbi,zbj,zbk,zbl,zbm,zbn,zbo,zbp,zbq,zbr,zbs,zbt,zbu,zbv,zbw,zbx,zby,zbz,zca,zcb,zcc,zcd,zce,zcf,zcg,zch,zci,zcj,zck,zcl,zcm,zcn,zco,zcp,zcq,zcr,zcs,zct,zcu,zcv,zcw,zcx,zcy,zcz,zda,zdb,zdc,zdd,guardV,nth,zde,zdf,zdg,zdh,zdi,Nat.reduceEqDiff,reduceIte,zdj,zdk,zdl,resultsA,RetO,Nat.reduceLT,zdm,zdn,zdo,zdp,zdq,zdr,zds,zdt,zdu,zdv,zdw,zdx,zdy,zdz,zea,zeb,zec,zed,zee,zef,zeg,zeh,zei,zej,zek,zel,zem,zen,zeo]
  refine CallO_f (holes_spec hG hhi hv hn) (by omega) fun u h1 pr1 ⟨m, A1, hm0, hm12, hu, hs1⟩ => ?_
  subst hu
  have n1 := pr1.next
  have hst := hol_rise (x := x) hm12 hm0
  have hst2 := mirf_strap hst
  try simp only [zaa,zab,zac,zad,zae,zaf,zag,zah,zai,zaj,zak,zal,zam,zan,zao,zap,zaq,zar,zas,zat,zau,zav,zaw,zax,zay,zaz,zba,zbb,zbc,zbd,zbe,zbf,zbg,zbh,zbi,zbj,zbk,zbl,zbm,zbn,zbo,zbp,zbq,zbr,zbs,zbt,zbu,zbv,zbw,zbx,zby,zbz,zca,zcb,zcc,zcd,zce,zcf,zcg,zch,zci,zcj,zck,zcl,zcm,zcn,zco,zcp,zcq,zcr,zcs,zct,zcu,zcv,zcw,zcx,zcy,zcz,zda,zdb,zdc,zdd,guardV,nth,zde,zdf,zdg,zdh,zdi,Nat.reduceEqDiff,reduceIte,zdj,zdk,zdl,resultsA,RetO,Nat.reduceLT,zdm,zdn,zdo,zdp,zdq,zdr,zds,zdt,zdu,zdv,zdw,zdx,zdy,zdz,zea,zeb,zec,zed,zee,zef,zeg,zeh,zei,zej,zek,zel,zem,zen,zeo]
  refine At_lit0 u23 i3 zero3 (by rw [size3]; rfl) (by omega) ?_
  simp (disch := omega) only [zaa,zab,zac,zad,zae,zaf,zag,zah,zai,zaj,zak,zal,zam,zan,zao,zap,zaq,zar,zas,zat,zau,zav,zaw,zax,zay,zaz,zba,zbb,zbc,zbd,zbe,zbf,zbg,zbh,zbi,zbj,zbk,zbl,zbm,zbn,zbo,zbp,zbq,zbr,zbs,zbt,zbu,zbv,zbw,zbx,zby,zbz,zca,zcb,zcc,zcd,zce,zcf,zcg,zch,zci,zcj,zck,zcl,zcm,zcn,zco,zcp,zcq,zcr,zcs,zct,zcu,zcv,zcw,zcx,zcy,zcz,zda,zdb,zdc,zdd,guardV,nth,zde,zdf,zdg,zdh,zdi,Nat.reduceEqDiff,reduceIte,zdj,zdk,zdl,resultsA,RetO,Nat.reduceLT,zdm,zdn,zdo,zdp,zdq,zdr,zds,zdt,zdu,zdv,zdw,zdx,zdy,zdz,zea,zeb,zec,zed,zee,zef,zeg,zeh,zei,zej,zek,zel,zem,zen,zeo, len23, wrap_i64]
  refine WK_loopN (fun j α h2 => ∃ (i : Nat) (A' : Option Addr), i + j = m ∧ α.get 3 = some (.slice A1 m m) ∧ α.get 4 = some (.slice A' (ilst i (mirf m (hol x))).length (ilst i (mirf m (hol x))).length) ∧ α.get 5 = some (.int .i64 ((m : Int) - 1 - i)) ∧
      SlV h2.blks h1.next h2.next 1 (ilst i (mirf m (hol x))).length (ints (ilst i (mirf m (hol x)))) (.slice A' (ilst i (mirf m (hol x))).length (ilst i (mirf m (hol x))).length) ∧ Pres h1.next h1 h2) m
    ⟨0, some ⟨0, 0, some 0⟩, by omega, by simp only [zaa,zab,zac,zad,zae,zaf,zag,zah,zai,zaj,zak,zal,zam,zan,zao,zap,zaq,zar,zas,zat,zau,zav,zaw,zax,zay,zaz,zba,zbb,zbc,zbd,zbe,zbf,zbg,zbh,zbi,zbj,zbk,zbl,zbm,zbn,zbo,zbp,zbq,zbr,zbs,zbt,zbu,zbv,zbw,zbx,zby,zbz,zca,zcb,zcc,zcd,zce,zcf,zcg,zch,zci,zcj,zck,zcl,zcm,zcn,zco,zcp,zcq,zcr,zcs,zct,zcu,zcv,zcw,zcx,zcy,zcz,zda,zdb,zdc,zdd,guardV,nth,zde,zdf,zdg,zdh,zdi,Nat.reduceEqDiff,reduceIte,zdj,zdk,zdl,resultsA,RetO,Nat.reduceLT,zdm,zdn,zdo,zdp,zdq,zdr,zds,zdt,zdu,zdv,zdw,zdx,zdy,zdz,zea,zeb,zec,zed,zee,zef,zeg,zeh,zei,zej,zek,zel,zem,zen,zeo], by (simp only [zaa,zab,zac,zad,zae,zaf,zag,zah,zai,zaj,zak,zal,zam,zan,zao,zap,zaq,zar,zas,zat,zau,zav,zaw,zax,zay,zaz,zba,zbb,zbc,zbd,zbe,zbf,zbg,zbh,zbi,zbj,zbk,zbl,zbm,zbn,zbo,zbp,zbq,zbr,zbs,zbt,zbu,zbv,zbw,zbx,zby,zbz,zca,zcb,zcc,zcd,zce,zcf,zcg,zch,zci,zcj,zck,zcl,zcm,zcn,zco,zcp,zcq,zcr,zcs,zct,zcu,zcv,zcw,zcx,zcy,zcz,zda,zdb,zdc,zdd,guardV,nth,zde,zdf,zdg,zdh,zdi,Nat.reduceEqDiff,reduceIte,zdj,zdk,zdl,resultsA,RetO,Nat.reduceLT,zdm,zdn,zdo,zdp,zdq,zdr,zds,zdt,zdu,zdv,zdw,zdx,zdy,zdz,zea,zeb,zec,zed,zee,zef,zeg,zeh,zei,zej,zek,zel,zem,zen,zeo]) <;> rfl, by simp only [zaa,zab,zac,zad,zae,zaf,zag,zah,zai,zaj,zak,zal,zam,zan,zao,zap,zaq,zar,zas,zat,zau,zav,zaw,zax,zay,zaz,zba,zbb,zbc,zbd,zbe,zbf,zbg,zbh,zbi,zbj,zbk,zbl,zbm,zbn,zbo,zbp,zbq,zbr,zbs,zbt,zbu,zbv,zbw,zbx,zby,zbz,zca,zcb,zcc,zcd,zce,zcf,zcg,zch,zci,zcj,zck,zcl,zcm,zcn,zco,zcp,zcq,zcr,zcs,zct,zcu,zcv,zcw,zcx,zcy,zcz,zda,zdb,zdc,zdd,guardV,nth,zde,zdf,zdg,zdh,zdi,Nat.reduceEqDiff,reduceIte,zdj,zdk,zdl,resultsA,RetO,Nat.reduceLT,zdm,zdn,zdo,zdp,zdq,zdr,zds,zdt,zdu,zdv,zdw,zdx,zdy,zdz,zea,zeb,zec,zed,zee,zef,zeg,zeh,zei,zej,zek,zel,zem,zen,zeo, Int.natCast_zero, Int.sub_zero], .emp rfl rfl, Pres.refl _ _⟩ (by omega) ?_
  rintro J j α h2 ⟨i, A', hij, e3, e4, e5, hsv, pr⟩ hJ
  have n2 := pr.next
  by_cases hlt : 0 ≤ (m : Int) - 1 - i
  · have hs2 : SlV h2.blks h.next h1.next 1 m (intsL m (hol x)) (.slice A1 m m) := hs1.mono fun b _ hb => pr.get b hb
    obtain ⟨b, off, rfl, hld⟩ := hs2.ints_at (by omega)
    have l1 : loadv h2.blks b (off + ((m : Int) - 1).toNat) = some (.int .i64 (hol x (m - 1))) := by
      rw [show ((m : Int) - 1).toNat = m - 1 by omega]; exact hld (m - 1) (by omega)
    have l2 : loadv h2.blks b (off + ((m : Int) - 1 - i).toNat) = some (.int .i64 (hol x (m - 1 - i))) := by
      rw [show ((m : Int) - 1 - i).toNat = m - 1 - i by omega]; exact hld (m - 1 - i) (by omega)
    have b1 := hol_bound (x := x) (m - 1)
    have b2 := hol_bound (x := x) (m - 1 - i)
    have ez : hol x (m - 1) - hol x (m - 1 - i) = mirf m (hol x) i := rfl
    have es : ilst i (mirf m (hol x)) ++ [mirf m (hol x) i] = ilst (i + 1) (mirf m (hol x)) := ilst_succ.symm
    simp (disch := omega) only [zaa,zab,zac,zad,zae,zaf,zag,zah,zai,zaj,zak,zal,zam,zan,zao,zap,zaq,zar,zas,zat,zau,zav,zaw,zax,zay,zaz,zba,zbb,zbc,zbd,zbe,zbf,zbg,zbh,zbi,zbj,zbk,zbl,zbm,zbn,zbo,zbp,zbq,zbr,zbs,zbt,zbu,zbv,zbw,zbx,zby,zbz,zca,zcb,zcc,zcd,zce,zcf,zcg,zch,zci,zcj,zck,zcl,zcm,zcn,zco,zcp,zcq,zcr,zcs,zct,zcu,zcv,zcw,zcx,zcy,zcz,zda,zdb,zdc,zdd,guardV,nth,zde,zdf,zdg,zdh,zdi,Nat.reduceEqDiff,reduceIte,zdj,zdk,zdl,resultsA,RetO,Nat.reduceLT,zdm,zdn,zdo,zdp,zdq,zdr,zds,zdt,zdu,zdv,zdw,zdx,zdy,zdz,zea,zeb,zec,zed,zee,zef,zeg,zeh,zei,zej,zek,zel,zem,zen,zeo, e3, e4, e5, hlt]
    refine WK_regionT 11 ⟨by kernel_rfl, by kernel_rfl, by kernel_rfl⟩ ?_
    simp (disch := omega) only [zaa,zab,zac,zad,zae,zaf,zag,zah,zai,zaj,zak,zal,zam,zan,zao,zap,zaq,zar,zas,zat,zau,zav,zaw,zax,zay,zaz,zba,zbb,zbc,zbd,zbe,zbf,zbg,zbh,zbi,zbj,zbk,zbl,zbm,zbn,zbo,zbp,zbq,zbr,zbs,zbt,zbu,zbv,zbw,zbx,zby,zbz,zca,zcb,zcc,zcd,zce,zcf,zcg,zch,zci,zcj,zck,zcl,zcm,zcn,zco,zcp,zcq,zcr,zcs,zct,zcu,zcv,zcw,zcx,zcy,zcz,zda,zdb,zdc,zdd,guardV,nth,zde,zdf,zdg,zdh,zdi,Nat.reduceEqDiff,reduceIte,zdj,zdk,zdl,resultsA,RetO,Nat.reduceLT,zdm,zdn,zdo,zdp,zdq,zdr,zds,zdt,zdu,zdv,zdw,zdx,zdy,zdz,zea,zeb,zec,zed,zee,zef,zeg,zeh,zei,zej,zek,zel,zem,zen,zeo, e3, e4, e5, len23, idxA23, load3, Int.toNat_natCast, Nat.mul_one, wrap_i64, l1, l2, ez]
    refine At_pushI (lo := h1.next) (hi := h2.next) (l := ilst i (mirf m (hol x))) (z := mirf m (hol x) i) (by (simp only [zaa,zab,zac,zad,zae,zaf,zag,zah,zai,zaj,zak,zal,zam,zan,zao,zap,zaq,zar,zas,zat,zau,zav,zaw,zax,zay,zaz,zba,zbb,zbc,zbd,zbe,zbf,zbg,zbh,zbi,zbj,zbk,zbl,zbm,zbn,zbo,zbp,zbq,zbr,zbs,zbt,zbu,zbv,zbw,zbx,zby,zbz,zca,zcb,zcc,zcd,zce,zcf,zcg,zch,zci,zcj,zck,zcl,zcm,zcn,zco,zcp,zcq,zcr,zcs,zct,zcu,zcv,zcw,zcx,zcy,zcz,zda,zdb,zdc,zdd,guardV,nth,zde,zdf,zdg,zdh,zdi,Nat.reduceEqDiff,reduceIte,zdj,zdk,zdl,resultsA,RetO,Nat.reduceLT,zdm,zdn,zdo,zdp,zdq,zdr,zds,zdt,zdu,zdv,zdw,zdx,zdy,zdz,zea,zeb,zec,zed,zee,zef,zeg,zeh,zei,zej,zek,zel,zem,zen,zeo]) <;> rfl) (by simp only [zaa,zab,zac,zad,zae,zaf,zag,zah,zai,zaj,zak,zal,zam,zan,zao,zap,zaq,zar,zas,zat,zau,zav,zaw,zax,zay,zaz,zba,zbb,zbc,zbd,zbe,zbf,zbg,zbh,zbi,zbj,zbk,zbl,zbm,zbn,zbo,zbp,zbq,zbr,zbs,zbt,zbu,zbv,zbw,zbx,zby,zbz,zca,zcb,zcc,zcd,zce,zcf,zcg,zch,zci,zcj,zck,zcl,zcm,zcn,zco,zcp,zcq,zcr,zcs,zct,zcu,zcv,zcw,zcx,zcy,zcz,zda,zdb,zdc,zdd,guardV,nth,zde,zdf,zdg,zdh,zdi,Nat.reduceEqDiff,reduceIte,zdj,zdk,zdl,resultsA,RetO,Nat.reduceLT,zdm,zdn,zdo,zdp,zdq,zdr,zds,zdt,zdu,zdv,zdw,zdx,zdy,zdz,zea,zeb,zec,zed,zee,zef,zeg,zeh,zei,zej,zek,zel,zem,zen,zeo, e4]) hsv (Nat.le_refl _) (by omega) (by omega) (by rw [ilst_len]; omega) (by decide) (by decide) (by decide) fun A3 h3 pr3 hs3 nx3 => ?_
    rw [es] at hs3 ⊢
    simp (disch := omega) only [zaa,zab,zac,zad,zae,zaf,zag,zah,zai,zaj,zak,zal,zam,zan,zao,zap,zaq,zar,zas,zat,zau,zav,zaw,zax,zay,zaz,zba,zbb,zbc,zbd,zbe,zbf,zbg,zbh,zbi,zbj,zbk,zbl,zbm,zbn,zbo,zbp,zbq,zbr,zbs,zbt,zbu,zbv,zbw,zbx,zby,zbz,zca,zcb,zcc,zcd,zce,zcf,zcg,zch,zci,zcj,zck,zcl,zcm,zcn,zco,zcp,zcq,zcr,zcs,zct,zcu,zcv,zcw,zcx,zcy,zcz,zda,zdb,zdc,zdd,guardV,nth,zde,zdf,zdg,zdh,zdi,Nat.reduceEqDiff,reduceIte,zdj,zdk,zdl,resultsA,RetO,Nat.reduceLT,zdm,zdn,zdo,zdp,zdq,zdr,zds,zdt,zdu,zdv,zdw,zdx,zdy,zdz,zea,zeb,zec,zed,zee,zef,zeg,zeh,zei,zej,zek,zel,zem,zen,zeo, e5, wrap_i64]
    exact hJ (m - (i + 1)) _ _ (by omega) ⟨i + 1, A3, by omega, by simp only [zaa,zab,zac,zad,zae,zaf,zag,zah,zai,zaj,zak,zal,zam,zan,zao,zap,zaq,zar,zas,zat,zau,zav,zaw,zax,zay,zaz,zba,zbb,zbc,zbd,zbe,zbf,zbg,zbh,zbi,zbj,zbk,zbl,zbm,zbn,zbo,zbp,zbq,zbr,zbs,zbt,zbu,zbv,zbw,zbx,zby,zbz,zca,zcb,zcc,zcd,zce,zcf,zcg,zch,zci,zcj,zck,zcl,zcm,zcn,zco,zcp,zcq,zcr,zcs,zct,zcu,zcv,zcw,zcx,zcy,zcz,zda,zdb,zdc,zdd,guardV,nth,zde,zdf,zdg,zdh,zdi,Nat.reduceEqDiff,reduceIte,zdj,zdk,zdl,resultsA,RetO,Nat.reduceLT,zdm,zdn,zdo,zdp,zdq,zdr,zds,zdt,zdu,zdv,zdw,zdx,zdy,zdz,zea,zeb,zec,zed,zee,zef,zeg,zeh,zei,zej,zek,zel,zem,zen,zeo, e3], by simp only [zaa,zab,zac,zad,zae,zaf,zag,zah,zai,zaj,zak,zal,zam,zan,zao,zap,zaq,zar,zas,zat,zau,zav,zaw,zax,zay,zaz,zba,zbb,zbc,zbd,zbe,zbf,zbg,zbh,zbi,zbj,zbk,zbl,zbm,zbn,zbo,zbp,zbq,zbr,zbs,zbt,zbu,zbv,zbw,zbx,zby,zbz,zca,zcb,zcc,zcd,zce,zcf,zcg,zch,zci,zcj,zck,zcl,zcm,zcn,zco,zcp,zcq,zcr,zcs,zct,zcu,zcv,zcw,zcx,zcy,zcz,zda,zdb,zdc,zdd,guardV,nth,zde,zdf,zdg,zdh,zdi,Nat.reduceEqDiff,reduceIte,zdj,zdk,zdl,resultsA,RetO,Nat.reduceLT,zdm,zdn,zdo,zdp,zdq,zdr,zds,zdt,zdu,zdv,zdw,zdx,zdy,zdz,zea,zeb,zec,zed,zee,zef,zeg,zeh,zei,zej,zek,zel,zem,zen,zeo], by simp only [zaa,zab,zac,zad,zae,zaf,zag,zah,zai,zaj,zak,zal,zam,zan,zao,zap,zaq,zar,zas,zat,zau,zav,zaw,zax,zay,zaz,zba,zbb,zbc,zbd,zbe,zbf,zbg,zbh,zbi,zbj,zbk,zbl,zbm,zbn,zbo,zbp,zbq,zbr,zbs,zbt,zbu,zbv,zbw,zbx,zby,zbz,zca,zcb,zcc,zcd,zce,zcf,zcg,zch,zci,zcj,zck,zcl,zcm,zcn,zco,zcp,zcq,zcr,zcs,zct,zcu,zcv,zcw,zcx,zcy,zcz,zda,zdb,zdc,zdd,guardV,nth,zde,zdf,zdg,zdh,zdi,Nat.reduceEqDiff,reduceIte,zdj,zdk,zdl,resultsA,RetO,Nat.reduceLT,zdm,zdn,zdo,zdp,zdq,zdr,zds,zdt,zdu,zdv,zdw,zdx,zdy,zdz,zea,zeb,zec,zed,zee,zef,zeg,zeh,zei,zej,zek,zel,zem,zen,zeo]; congr 2; omega, hs3, pr.trans pr3⟩
  obtain rfl : i = m := by omega
  have hs2 : SlV h2.blks h.next h1.next 1 i (intsL i (hol x)) (.slice A1 i i) := hs1.mono fun b _ hb => pr.get b hb
  rw [← ints_ilst, ilst_len] at hsv
  simp only [ilst_len] at e4
  simp (disch := omega) only [zaa,zab,zac,zad,zae,zaf,zag,zah,zai,zaj,zak,zal,zam,zan,zao,zap,zaq,zar,zas,zat,zau,zav,zaw,zax,zay,zaz,zba,zbb,zbc,zbd,zbe,zbf,zbg,zbh,zbi,zbj,zbk,zbl,zbm,zbn,zbo,zbp,zbq,zbr,zbs,zbt,zbu,zbv,zbw,zbx,zby,zbz,zca,zcb,zcc,zcd,zce,zcf,zcg,zch,zci,zcj,zck,zcl,zcm,zcn,zco,zcp,zcq,zcr,zcs,zct,zcu,zcv,zcw,zcx,zcy,zcz,zda,zdb,zdc,zdd,guardV,nth,zde,zdf,zdg,zdh,zdi,Nat.reduceEqDiff,reduceIte,zdj,zdk,zdl,resultsA,RetO,Nat.reduceLT,zdm,zdn,zdo,zdp,zdq,zdr,zds,zdt,zdu,zdv,zdw,zdx,zdy,zdz,zea,zeb,zec,zed,zee,zef,zeg,zeh,zei,zej,zek,zel,zem,zen,zeo, e3, e4, e5, hlt]
  refine CallO_f (Distances_spec (by omega) (by omega) hs2 (by omega)) (by omega) fun u h3 pr3 hu => ?_
  have n3 := pr3.next
  rcases hu with ⟨e, he, hne, _⟩ | ⟨_, _, L, hfL, D1, hu, hd1⟩
  · exact absurd (strapE_ok (by omega) hst he) hne
  subst hu
  simp (disch := omega) only [zaa,zab,zac,zad,zae,zaf,zag,zah,zai,zaj,zak,zal,zam,zan,zao,zap,zaq,zar,zas,zat,zau,zav,zaw,zax,zay,zaz,zba,zbb,zbc,zbd,zbe,zbf,zbg,zbh,zbi,zbj,zbk,zbl,zbm,zbn,zbo,zbp,zbq,zbr,zbs,zbt,zbu,zbv,zbw,zbx,zby,zbz,zca,zcb,zcc,zcd,zce,zcf,zcg,zch,zci,zcj,zck,zcl,zcm,zcn,zco,zcp,zcq,zcr,zcs,zct,zcu,zcv,zcw,zcx,zcy,zcz,zda,zdb,zdc,zdd,guardV,nth,zde,zdf,zdg,zdh,zdi,Nat.reduceEqDiff,reduceIte,zdj,zdk,zdl,resultsA,RetO,Nat.reduceLT,zdm,zdn,zdo,zdp,zdq,zdr,zds,zdt,zdu,zdv,zdw,zdx,zdy,zdz,zea,zeb,zec,zed,zee,zef,zeg,zeh,zei,zej,zek,zel,zem,zen,zeo, e3, e4]
  have hsv3 := hsv.mono (B' := h3.blks) fun b _ hb => pr3.get b hb
  refine CallO_f (Distances_spec (by omega) (by omega) hsv3 (by omega)) (by omega) fun u h4 pr4 hu => ?_
  have n4 := pr4.next
  rcases hu with ⟨e, he, hne, _⟩ | ⟨_, _, L2, hfL2, D2, hu, hd2⟩
  · exact absurd (strapE_ok (by omega) hst2 he) hne
  obtain rfl : L2 = L := by
    have : mirf i (hol x) (i - 1) = hol x (i - 1) := by simp [mirf, hol]
    omega
  rw [cpt_mirf] at hd2
  subst hu
  simp (disch := omega) only [zaa,zab,zac,zad,zae,zaf,zag,zah,zai,zaj,zak,zal,zam,zan,zao,zap,zaq,zar,zas,zat,zau,zav,zaw,zax,zay,zaz,zba,zbb,zbc,zbd,zbe,zbf,zbg,zbh,zbi,zbj,zbk,zbl,zbm,zbn,zbo,zbp,zbq,zbr,zbs,zbt,zbu,zbv,zbw,zbx,zby,zbz,zca,zcb,zcc,zcd,zce,zcf,zcg,zch,zci,zcj,zck,zcl,zcm,zcn,zco,zcp,zcq,zcr,zcs,zct,zcu,zcv,zcw,zcx,zcy,zcz,zda,zdb,zdc,zdd,guardV,nth,zde,zdf,zdg,zdh,zdi,Nat.reduceEqDiff,reduceIte,zdj,zdk,zdl,resultsA,RetO,Nat.reduceLT,zdm,zdn,zdo,zdp,zdq,zdr,zds,zdt,zdu,zdv,zdw,zdx,zdy,zdz,zea,zeb,zec,zed,zee,zef,zeg,zeh,zei,zej,zek,zel,zem,zen,zeo, e3, e4]
  have hs4 := hs2.mono (B' := h4.blks) fun b _ hb => (pr4.get b (by omega)).trans (pr3.get b (by omega))
  refine CallO_f (Misses_spec (by omega) (by omega) hs4 (by omega)) (by omega) fun u h5 pr5 hu => ?_
  have n5 := pr5.next
  rcases hu with ⟨e, he, hne, _⟩ | ⟨_, _, L3, hfL3, M1, hu, hm1⟩
  · exact absurd (strapE_ok (by omega) hst he) hne
  obtain rfl : L3 = L2 := by omega
  subst hu
  simp (disch := omega) only [zaa,zab,zac,zad,zae,zaf,zag,zah,zai,zaj,zak,zal,zam,zan,zao,zap,zaq,zar,zas,zat,zau,zav,zaw,zax,zay,zaz,zba,zbb,zbc,zbd,zbe,zbf,zbg,zbh,zbi,zbj,zbk,zbl,zbm,zbn,zbo,zbp,zbq,zbr,zbs,zbt,zbu,zbv,zbw,zbx,zby,zbz,zca,zcb,zcc,zcd,zce,zcf,zcg,zch,zci,zcj,zck,zcl,zcm,zcn,zco,zcp,zcq,zcr,zcs,zct,zcu,zcv,zcw,zcx,zcy,zcz,zda,zdb,zdc,zdd,guardV,nth,zde,zdf,zdg,zdh,zdi,Nat.reduceEqDiff,reduceIte,zdj,zdk,zdl,resultsA,RetO,Nat.reduceLT,zdm,zdn,zdo,zdp,zdq,zdr,zds,zdt,zdu,zdv,zdw,zdx,zdy,zdz,zea,zeb,zec,zed,zee,zef,zeg,zeh,zei,zej,zek,zel,zem,zen,zeo, e3, e4]
  have hsv5 := hsv3.mono (B' := h5.blks) fun b _ hb => (pr5.get b (by omega)).trans (pr4.get b (by omega))
  refine CallO_f (Misses_spec (by omega) (by omega) hsv5 (by omega)) (by omega) fun u h6 pr6 hu => ?_
  have n6 := pr6.next
  rcases hu with ⟨e, he, hne, _⟩ | ⟨_, _, L4, hfL4, M2, hu, hm2⟩
  · exact absurd (strapE_ok (by omega) hst2 he) hne
  obtain rfl : L4 = L3 := by omega
  rw [cpt_mirf] at hm2 hu
  subst hu
  simp (disch := omega) only [zaa,zab,zac,zad,zae,zaf,zag,zah,zai,zaj,zak,zal,zam,zan,zao,zap,zaq,zar,zas,zat,zau,zav,zaw,zax,zay,zaz,zba,zbb,zbc,zbd,zbe,zbf,zbg,zbh,zbi,zbj,zbk,zbl,zbm,zbn,zbo,zbp,zbq,zbr,zbs,zbt,zbu,zbv,zbw,zbx,zby,zbz,zca,zcb,zcc,zcd,zce,zcf,zcg,zch,zci,zcj,zck,zcl,zcm,zcn,zco,zcp,zcq,zcr,zcs,zct,zcu,zcv,zcw,zcx,zcy,zcz,zda,zdb,zdc,zdd,guardV,nth,zde,zdf,zdg,zdh,zdi,Nat.reduceEqDiff,reduceIte,zdj,zdk,zdl,resultsA,RetO,Nat.reduceLT,zdm,zdn,zdo,zdp,zdq,zdr,zds,zdt,zdu,zdv,zdw,zdx,zdy,zdz,zea,zeb,zec,zed,zee,zef,zeg,zeh,zei,zej,zek,zel,zem,zen,zeo, e3, e4]
  have hs6 := hs4.mono (B' := h6.blks) fun b _ hb => (pr6.get b (by omega)).trans (pr5.get b (by omega))
  refine CallO_f (Twice_spec (by omega) (by omega) hs6 (by omega)) (by omega) fun u h7 pr7 hu => ?_
  have n7 := pr7.next
  rcases hu with ⟨e, he, hne, _⟩ | ⟨_, _, L5, hfL5, T1, hT1, hu⟩
  · exact absurd (strapE_ok (by omega) hst he) hne
  obtain rfl : L5 = L4 := by omega
  have hsv7 := hsv5.mono (B' := h7.blks) fun b _ hb => (pr7.get b (by omega)).trans (pr6.get b (by omega))
  -- does some distance come twice?
  obtain ⟨z, r1, hr1, hz⟩ : ∃ z r1, u = .tuple #[r1, .int .i64 z] ∧ ((z = 5 ∧ ∀ k, k ≤ L5 → cpt (hol x) i 0 k ≤ 1) ∨ (z = 0 ∧ ¬ ∀ k, k ≤ L5 → cpt (hol x) i 0 k ≤ 1)) := by
    rcases hT1 with ⟨d, g1, g2, g3, b, off, c', g4, _⟩ | ⟨g1, g2⟩
    · rcases hu with ⟨e, _⟩ | ⟨_, e⟩
      · rw [g4] at e; cases e
      · exact ⟨0, _, e, .inr ⟨rfl, fun a => by have := a d g1; omega⟩⟩
    · rcases hu with ⟨_, e⟩ | ⟨e, _⟩
      · exact ⟨5, _, e, .inl ⟨rfl, g1⟩⟩
      · exact absurd g2 e
  clear hu hT1
  subst hr1
  simp (disch := omega) only [zaa,zab,zac,zad,zae,zaf,zag,zah,zai,zaj,zak,zal,zam,zan,zao,zap,zaq,zar,zas,zat,zau,zav,zaw,zax,zay,zaz,zba,zbb,zbc,zbd,zbe,zbf,zbg,zbh,zbi,zbj,zbk,zbl,zbm,zbn,zbo,zbp,zbq,zbr,zbs,zbt,zbu,zbv,zbw,zbx,zby,zbz,zca,zcb,zcc,zcd,zce,zcf,zcg,zch,zci,zcj,zck,zcl,zcm,zcn,zco,zcp,zcq,zcr,zcs,zct,zcu,zcv,zcw,zcx,zcy,zcz,zda,zdb,zdc,zdd,guardV,nth,zde,zdf,zdg,zdh,zdi,Nat.reduceEqDiff,reduceIte,zdj,zdk,zdl,resultsA,RetO,Nat.reduceLT,zdm,zdn,zdo,zdp,zdq,zdr,zds,zdt,zdu,zdv,zdw,zdx,zdy,zdz,zea,zeb,zec,zed,zee,zef,zeg,zeh,zei,zej,zek,zel,zem,zen,zeo, e3, e4]
  refine CallO_f (Twice_spec (by omega) (by omega) hsv7 (by omega)) (by omega) fun u h8 pr8 hu => ?_
  have n8 := pr8.next
  rcases hu with ⟨e, he, hne, _⟩ | ⟨_, _, L6, hfL6, T2, hT2, hu⟩
  · exact absurd (strapE_ok (by omega) hst2 he) hne
  obtain rfl : L6 = L5 := by omega
  obtain ⟨r2, hr2⟩ : ∃ r2, u = .tuple #[r2, .int .i64 z] := by
    unfold TwR at hT2
    rw [cpt_mirf] at hT2
    rcases hT2 with ⟨d, g1, g2, g3, b, off, c', g4, _⟩ | ⟨g1, g2⟩
    · rcases hu with ⟨e, _⟩ | ⟨_, e⟩
      · rw [g4] at e; cases e
      · rcases hz with ⟨_, a⟩ | ⟨rfl, _⟩
        · have := a d g1; omega
        · exact ⟨_, e⟩
    · rcases hu with ⟨_, e⟩ | ⟨e, _⟩
      · rcases hz with ⟨rfl, _⟩ | ⟨_, a⟩
        · exact ⟨_, e⟩
        · exact absurd g1 a
      · exact absurd g2 e
  clear hu hT2
  subst hr2
  have k1 := hd1.mono (B' := h8.blks) fun b _ hb => (((((pr8.get b (by omega)).trans (pr7.get b (by omega))).trans (pr6.get b (by omega))).trans (pr5.get b (by omega))).trans (pr4.get b (by omega)))
  have k2 := hd2.mono (B' := h8.blks) fun b _ hb => ((((pr8.get b (by omega)).trans (pr7.get b (by omega))).trans (pr6.get b (by omega))).trans (pr5.get b (by omega)))
  have k3 := hm1.mono (B' := h8.blks) fun b _ hb => (((pr8.get b (by omega)).trans (pr7.get b (by omega))).trans (pr6.get b (by omega)))
  have k4 := hm2.mono (B' := h8.blks) fun b _ hb => ((pr8.get b (by omega)).trans (pr7.get b (by omega)))
  rw [ints_intsL] at k3 k4
  have hml := mss_len (c := cpt (hol x) i 0) (i := L6 + 1)
  have hL6 : L6 ≤ 1000 := by have := hst.1.1 (i - 1) (by omega); omega
  simp (maxSteps := 4000000) (disch := omega) only [zaa,zab,zac,zad,zae,zaf,zag,zah,zai,zaj,zak,zal,zam,zan,zao,zap,zaq,zar,zas,zat,zau,zav,zaw,zax,zay,zaz,zba,zbb,zbc,zbd,zbe,zbf,zbg,zbh,zbi,zbj,zbk,zbl,zbm,zbn,zbo,zbp,zbq,zbr,zbs,zbt,zbu,zbv,zbw,zbx,zby,zbz,zca,zcb,zcc,zcd,zce,zcf,zcg,zch,zci,zcj,zck,zcl,zcm,zcn,zco,zcp,zcq,zcr,zcs,zct,zcu,zcv,zcw,zcx,zcy,zcz,zda,zdb,zdc,zdd,guardV,nth,zde,zdf,zdg,zdh,zdi,Nat.reduceEqDiff,reduceIte,zdj,zdk,zdl,resultsA,RetO,Nat.reduceLT,zdm,zdn,zdo,zdp,zdq,zdr,zds,zdt,zdu,zdv,zdw,zdx,zdy,zdz,zea,zeb,zec,zed,zee,zef,zeg,zeh,zei,zej,zek,zel,zem,zen,zeo]
  refine CallO_same (Same_same k1 k2 (by omega)) (by omega) fun u hu => ?_
  subst hu
  simp (maxSteps := 4000000) (disch := omega) only [zaa,zab,zac,zad,zae,zaf,zag,zah,zai,zaj,zak,zal,zam,zan,zao,zap,zaq,zar,zas,zat,zau,zav,zaw,zax,zay,zaz,zba,zbb,zbc,zbd,zbe,zbf,zbg,zbh,zbi,zbj,zbk,zbl,zbm,zbn,zbo,zbp,zbq,zbr,zbs,zbt,zbu,zbv,zbw,zbx,zby,zbz,zca,zcb,zcc,zcd,zce,zcf,zcg,zch,zci,zcj,zck,zcl,zcm,zcn,zco,zcp,zcq,zcr,zcs,zct,zcu,zcv,zcw,zcx,zcy,zcz,zda,zdb,zdc,zdd,guardV,nth,zde,zdf,zdg,zdh,zdi,Nat.reduceEqDiff,reduceIte,zdj,zdk,zdl,resultsA,RetO,Nat.reduceLT,zdm,zdn,zdo,zdp,zdq,zdr,zds,zdt,zdu,zdv,zdw,zdx,zdy,zdz,zea,zeb,zec,zed,zee,zef,zeg,zeh,zei,zej,zek,zel,zem,zen,zeo]
  refine CallO_same (Same_same k3 k4 (by omega)) (by omega) fun u hu => ?_
  subst hu
  have dz : decide (z = z) = true := decide_eq_true rfl
  simp (maxSteps := 4000000) (disch := omega) only [zaa,zab,zac,zad,zae,zaf,zag,zah,zai,zaj,zak,zal,zam,zan,zao,zap,zaq,zar,zas,zat,zau,zav,zaw,zax,zay,zaz,zba,zbb,zbc,zbd,zbe,zbf,zbg,zbh,zbi,zbj,zbk,zbl,zbm,zbn,zbo,zbp,zbq,zbr,zbs,zbt,zbu,zbv,zbw,zbx,zby,zbz,zca,zcb,zcc,zcd,zce,zcf,zcg,zch,zci,zcj,zck,zcl,zcm,zcn,zco,zcp,zcq,zcr,zcs,zct,zcu,zcv,zcw,zcx,zcy,zcz,zda,zdb,zdc,zdd,guardV,nth,zde,zdf,zdg,zdh,zdi,Nat.reduceEqDiff,reduceIte,zdj,zdk,zdl,resultsA,RetO,Nat.reduceLT,zdm,zdn,zdo,zdp,zdq,zdr,zds,zdt,zdu,zdv,zdw,zdx,zdy,zdz,zea,zeb,zec,zed,zee,zef,zeg,zeh,zei,zej,zek,zel,zem,zen,zeo, dz]
  refine Call_lives (by omega) ?_
  simp only [zaa,zab,zac,zad,zae,zaf,zag,zah,zai,zaj,zak,zal,zam,zan,zao,zap,zaq,zar,zas,zat,zau,zav,zaw,zax,zay,zaz,zba,zbb,zbc,zbd,zbe,zbf,zbg,zbh,zbi,zbj,zbk,zbl,zbm,zbn,zbo,zbp,zbq,zbr,zbs,zbt,zbu,zbv,zbw,zbx,zby,zbz,zca,zcb,zcc,zcd,zce,zcf,zcg,zch,zci,zcj,zck,zcl,zcm,zcn,zco,zcp,zcq,zcr,zcs,zct,zcu,zcv,zcw,zcx,zcy,zcz,zda,zdb,zdc,zdd,guardV,nth,zde,zdf,zdg,zdh,zdi,Nat.reduceEqDiff,reduceIte,zdj,zdk,zdl,resultsA,RetO,Nat.reduceLT,zdm,zdn,zdo,zdp,zdq,zdr,zds,zdt,zdu,zdv,zdw,zdx,zdy,zdz,zea,zeb,zec,zed,zee,zef,zeg,zeh,zei,zej,zek,zel,zem,zen,zeo]
  exact hQ' _ _ ⟨(((((((pr1.trans (pr.le n1)).trans (pr3.le (by omega))).trans (pr4.le (by omega))).trans (pr5.le (by omega))).trans (pr6.le (by omega))).trans (pr7.le (by omega))).trans (pr8.le (by omega))), rfl⟩
end
end Go.Proofs.Ytlhpjnopkfndfaa.Ev
