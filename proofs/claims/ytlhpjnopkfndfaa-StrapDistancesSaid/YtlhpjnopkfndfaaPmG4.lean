/- The first distance that comes twice; the calls with their errors. -/
import Derived.Test.YtlhpjnopkfndfaaPmG3
set_option linter.unusedSimpArgs false
namespace Go.Proofs.Ytlhpjnopkfndfaa.Ev
open Go Go.Proofs
noncomputable section

theorem ilst_drop {n m : Nat} {f : Nat → Int} : (ilst n f).drop m = ilst (n - m) fun j => f (m + j) := by
  apply List.ext_getElem?
  intro q
  rw [List.getElem?_drop]
  by_cases hq : q < n - m
  · simp [ilst, hq, show m + q < n by omega]
  · rw [List.getElem?_eq_none (by rw [ilst_len]; omega), List.getElem?_eq_none (by rw [ilst_len]; omega)]
theorem prow_count {f : Nat → Int} {d : Int} {i k : Nat} : (prow f d i k).length = 2 * ((ilst k fun j => f (i + 1 + j)).countP fun b => decide (b - f i = d)) := by
  induction k with
  | zero => rfl
  | succ k ih =>
    rw [prow_succ, ilst_succ, List.length_append, List.countP_append, ih, List.countP_cons, List.countP_nil]
    by_cases h : f (i + 1 + k) - f i = d
    · simp [h]; omega
    · simp [h]
theorem pall_count {n : Nat} {f : Nat → Int} {d : Int} : (pall n f d n).length = 2 * dpc d (ilst n f) := by
  rw [dpc_up, ilst_len]
  have key : ∀ i, i ≤ n → (pall n f d i).length = 2 * sm (fun i => ((ilst n f).drop (i + 1)).countP fun b => decide (b - (ilst n f).getD i 0 = d)) i := by
    intro i
    induction i with
    | zero => intro _; rfl
    | succ i ih =>
      intro hi
      rw [pall_succ, List.length_append, ih (by omega), prow_count, sm, ilst_drop]
      have e : (ilst n f).getD i 0 = f i := by simp [ilst, List.getD, show i < n by omega]
      rw [e, show n - (i + 1) = n - 1 - i by omega]
      omega
  exact key n (Nat.le_refl _)
theorem cpt_all {n d : Nat} {f : Nat → Int} : cpt f n 0 d = (dpc (d : Int) (ilst n f) : Int) := by
  simp [cpt, dnc, ilst]

theorem StrapP.dist {n : Nat} {f : Nat → Int} (h : StrapP n f) : ∃ L : Nat, f (n - 1) = L ∧ L ≤ 1000 ∧ 0 < n ∧ DistB n L f ∧ ∀ i, i < n → -2000 ≤ f i ∧ f i ≤ 2000 := by
  have hn := h.1.2
  have hl := h.1.1 (n - 1) (by omega)
  refine ⟨(f (n - 1)).toNat, by omega, by omega, hn, fun i j hji hi => ?_, fun i hi => ?_⟩
  · have h1 := h.1.lt hji hi
    have h2 := h.1.1 i hi
    have h3 := h.1.1 j (by omega)
    have h4 : f i ≤ f (n - 1) := by
      by_cases e : i = n - 1
      · subst e; exact Int.le_refl _
      · have := h.1.lt (i := i) (j := n - 1) (by omega) (by omega); omega
    omega
  · have := h.1.1 i hi; omega

theorem nil_some {P : Program} {E : Env} {t e : TypeId} (hu : E.u t = some (.slice e)) {a : Addr} {n c : Nat} : binO P E .eql t (some (.slice (some a) n c)) (some (.slice none 0 0)) = some (.bool false) := by
  simp [binO, evNil, hu, Ev.plainA, plain]
theorem nil_nil {P : Program} {E : Env} {t e : TypeId} (hu : E.u t = some (.slice e)) : binO P E .eql t (some (.slice none 0 0)) (some (.slice none 0 0)) = some (.bool true) := by
  simp [binO, evNil, hu, Ev.plainA, plain]
theorem nilne_some {P : Program} {E : Env} {t e : TypeId} (hu : E.u t = some (.slice e)) {a : Addr} {n c : Nat} : binO P E .neq t (some (.slice (some a) n c)) (some (.slice none 0 0)) = some (.bool true) := by
  simp [binO, evNil, hu, Ev.plainA, plain]
theorem nilne_nil {P : Program} {E : Env} {t e : TypeId} (hu : E.u t = some (.slice e)) : binO P E .neq t (some (.slice none 0 0)) (some (.slice none 0 0)) = some (.bool false) := by
  simp [binO, evNil, hu, Ev.plainA, plain]

/-- what 'twice' returns -/
def TwR (n L : Nat) (f : Nat → Int) (B : Tr Blk) (lo hi : Nat) (v : Value) : Prop :=
  (∃ d, d ≤ L ∧ 1 < cpt f n 0 d ∧ (∀ k, k < d → cpt f n 0 k ≤ 1) ∧ ∃ b off c, v = .slice (some ⟨b, off, none⟩) 4 c ∧ SlV B lo hi 1 4 (ints ((pall n f d n).take 4)) v) ∨ ((∀ k, k ≤ L → cpt f n 0 k ≤ 1) ∧ v = .slice none 0 0)

set_option maxHeartbeats 8000000 in
theorem twice_spec {G lo hi n c L : Nat} {A : Option Addr} {f : Nat → Int} {h : H} (hG : G ≤ h.next) (hhi : hi ≤ h.next) (hv : SlV h.blks lo hi 1 n (intsL n f) (.slice A n c)) (hn : n ≤ 40) (h0 : 0 < n) (hL : L ≤ 1000) (hfL : f (n - 1) = L) (hf : DistB n L f) (hb : ∀ i, i < n → -2000 ≤ f i ∧ f i ≤ 2000) :
    Spec Try.prog (En G) 33 [.slice A n c] h fun v h' => TwR n L f h'.blks h.next h'.next v := by
  refine CallsE_enter (En_known (by decide)) (En_f.trans Try.func33) rfl ⟨Nat.le_of_ble_eq_true rfl, by decide⟩ fun Q' hQ' => ?_
  simp only [Try.f33, zaa,zab,zac,zad,zae,zaf,zag,zah,zai,zaj,zak,zal,zam,zan,zao,zap,zaq,zar,zas,zat,zau,zav,zaw,zax,zay,zaz,zba,zbb,zbc,zbd,zbe,zbf,zbg,zbh,zbi,zbj,zbk,zbl,zbm,zbn,zbo,zbp,zbq,zbr,zbs,zbt,zbu,zbv,zbw,zbx,zby,zbz,zca,zcb,zcc,zcd,zce,zcf,zcg,zch,zci,zcj,zck,zcl,zcm,zcn,zco,zcp,zcq,zcr,zcs,zct,zcu,zcv,zcw,zcx,zcy,zcz,zda,zdb,zdc,zdd,guardV,nth,zde,zdf,zdg,zdh,zdi,Nat.reduceEqDiff,reduceIte,zdj,zdk,zdl,resultsA,RetO,Nat.reduceLT,zdm,zdn,zdo,zdp,zdq,zdr,zds,zdt,zdu,zdv,zdw,zdx,zdy,zdz,zea,zeb,zec,zed,zee,zef,zeg,zeh,zei,zej,zek,zel,zem,zen,zeo]
  refine CallO_same (lengthOf_spec hv (by omega) h0) (by omega) fun u hu => ?_
  subst hu
  simp only [zaa,zab,zac,zad,zae,zaf,zag,zah,zai,zaj,zak,zal,zam,zan,zao,zap,zaq,zar,zas,zat,zau,zav,zaw,zax,zay,zaz,zba,zbb,zbc,zbd,zbe,zbf,zbg,zbh,zbi,zbj,zbk,zbl,zbm,zbn,zbo,zbp,zbq,zbr,zbs,zbt,zbu,zbv,zbw,zbx,zby,zbz,zca,zcb,zcc,zcd,zce,zcf,zcg,zch,zci,zcj,zck,zcl,zcm,zcn,zco,zcp,zcq,zcr,zcs,zct,zcu,zcv,zcw,zcx,zcy,zcz,zda,zdb,zdc,zdd,guardV,nth,zde,zdf,zdg,zdh,zdi,Nat.reduceEqDiff,reduceIte,zdj,zdk,zdl,resultsA,RetO,Nat.reduceLT,zdm,zdn,zdo,zdp,zdq,zdr,zds,zdt,zdu,zdv,zdw,zdx,zdy,zdz,zea,zeb,zec,zed,zee,zef,zeg,zeh,zei,zej,zek,zel,zem,zen,zeo, hfL]
  refine CallO_f (distances_spec hG hhi hv hn hL hf) (by omega) fun u h1 pr1 ⟨hu, hcv⟩ => ?_
  subst hu
  have n1 := pr1.next
  simp only [zaa,zab,zac,zad,zae,zaf,zag,zah,zai,zaj,zak,zal,zam,zan,zao,zap,zaq,zar,zas,zat,zau,zav,zaw,zax,zay,zaz,zba,zbb,zbc,zbd,zbe,zbf,zbg,zbh,zbi,zbj,zbk,zbl,zbm,zbn,zbo,zbp,zbq,zbr,zbs,zbt,zbu,zbv,zbw,zbx,zby,zbz,zca,zcb,zcc,zcd,zce,zcf,zcg,zch,zci,zcj,zck,zcl,zcm,zcn,zco,zcp,zcq,zcr,zcs,zct,zcu,zcv,zcw,zcx,zcy,zcz,zda,zdb,zdc,zdd,guardV,nth,zde,zdf,zdg,zdh,zdi,Nat.reduceEqDiff,reduceIte,zdj,zdk,zdl,resultsA,RetO,Nat.reduceLT,zdm,zdn,zdo,zdp,zdq,zdr,zds,zdt,zdu,zdv,zdw,zdx,zdy,zdz,zea,zeb,zec,zed,zee,zef,zeg,zeh,zei,zej,zek,zel,zem,zen,zeo, len23]
  refine WK_loopN (fun j α h2 => ∃ i : Nat, i + j = L + 1 ∧ h2 = h1 ∧ α.get 0 = some (.slice A n c) ∧ α.get 8 = some (.slice (some ⟨h.next, 0, none⟩) (L + 1) (L + 1)) ∧ α.get 9 = some (.int .i64 ((L + 1 : Nat) : Int)) ∧ α.get 10 = some (.int .i64 i) ∧ ∀ k, k < i → cpt f n 0 k ≤ 1) (L + 1)
    ⟨0, by omega, rfl, by simp only [zaa,zab,zac,zad,zae,zaf,zag,zah,zai,zaj,zak,zal,zam,zan,zao,zap,zaq,zar,zas,zat,zau,zav,zaw,zax,zay,zaz,zba,zbb,zbc,zbd,zbe,zbf,zbg,zbh,zbi,zbj,zbk,zbl,zbm,zbn,zbo,zbp,zbq,zbr,zbs,zbt,zbu,zbv,zbw,zbx,zby,zbz,zca,zcb,zcc,zcd,zce,zcf,zcg,zch,zci,zcj,zck,zcl,zcm,zcn,zco,zcp,zcq,zcr,zcs,zct,zcu,zcv,zcw,zcx,zcy,zcz,zda,zdb,zdc,zdd,guardV,nth,zde,zdf,zdg,zdh,zdi,Nat.reduceEqDiff,reduceIte,zdj,zdk,zdl,resultsA,RetO,Nat.reduceLT,zdm,zdn,zdo,zdp,zdq,zdr,zds,zdt,zdu,zdv,zdw,zdx,zdy,zdz,zea,zeb,zec,zed,zee,zef,zeg,zeh,zei,zej,zek,zel,zem,zen,zeo], by simp only [zaa,zab,zac,zad,zae,zaf,zag,zah,zai,zaj,zak,zal,zam,zan,zao,zap,zaq,zar,zas,zat,zau,zav,zaw,zax,zay,zaz,zba,zbb,zbc,zbd,zbe,zbf,zbg,zbh,zbi,zbj,zbk,zbl,zbm,zbn,zbo,zbp,zbq,zbr,zbs,zbt,zbu,zbv,zbw,zbx,zby,zbz,zca,zcb,zcc,zcd,zce,zcf,zcg,zch,zci,zcj,zck,zcl,zcm,zcn,zco,zcp,zcq,zcr,zcs,zct,zcu,zcv,zcw,zcx,zcy,zcz,zda,zdb,zdc,zdd,guardV,nth,zde,zdf,zdg,zdh,zdi,Nat.reduceEqDiff,reduceIte,zdj,zdk,zdl,resultsA,RetO,Nat.reduceLT,zdm,zdn,zdo,zdp,zdq,zdr,zds,zdt,zdu,zdv,zdw,zdx,zdy,zdz,zea,zeb,zec,zed,zee,zef,zeg,zeh,zei,zej,zek,zel,zem,zen,zeo], by simp only [zaa,zab,zac,zad,zae,zaf,zag,zah,zai,zaj,zak,zal,zam,zan,zao,zap,zaq,zar,zas,zat,zau,zav,zaw,zax,zay,zaz,zba,zbb,zbc,zbd,zbe,zbf,zbg,zbh,zbi,zbj,zbk,zbl,zbm,zbn,zbo,zbp,zbq,zbr,zbs,zbt,zbu,zbv,zbw,zbx,zby,zbz,zca,zcb,zcc,zcd,zce,zcf,zcg,zch,zci,zcj,zck,zcl,zcm,zcn,zco,zcp,zcq,zcr,zcs,zct,zcu,zcv,zcw,zcx,zcy,zcz,zda,zdb,zdc,zdd,guardV,nth,zde,zdf,zdg,zdh,zdi,Nat.reduceEqDiff,reduceIte,zdj,zdk,zdl,resultsA,RetO,Nat.reduceLT,zdm,zdn,zdo,zdp,zdq,zdr,zds,zdt,zdu,zdv,zdw,zdx,zdy,zdz,zea,zeb,zec,zed,zee,zef,zeg,zeh,zei,zej,zek,zel,zem,zen,zeo], by (simp only [zaa,zab,zac,zad,zae,zaf,zag,zah,zai,zaj,zak,zal,zam,zan,zao,zap,zaq,zar,zas,zat,zau,zav,zaw,zax,zay,zaz,zba,zbb,zbc,zbd,zbe,zbf,zbg,zbh,zbi,zbj,zbk,zbl,zbm,zbn,zbo,zbp,zbq,zbr,zbs,zbt,zbu,zbv,zbw,zbx,zby,zbz,zca,zcb,zcc,zcd,zce,zcf,zcg,zch,zci,zcj,zck,zcl,zcm,zcn,zco,zcp,zcq,zcr,zcs,zct,zcu,zcv,zcw,zcx,zcy,zcz,zda,zdb,zdc,zdd,guardV,nth,zde,zdf,zdg,zdh,zdi,Nat.reduceEqDiff,reduceIte,zdj,zdk,zdl,resultsA,RetO,Nat.reduceLT,zdm,zdn,zdo,zdp,zdq,zdr,zds,zdt,zdu,zdv,zdw,zdx,zdy,zdz,zea,zeb,zec,zed,zee,zef,zeg,zeh,zei,zej,zek,zel,zem,zen,zeo]) <;> rfl, fun k hk => absurd hk (Nat.not_lt_zero k)⟩ (by omega) ?_
  rintro J j α h2 ⟨i, hij, rfl, e0, e8, e9, e10, hall⟩ hJ
  by_cases hlt : (i : Int) < ((L + 1 : Nat) : Int)
  · have l1 := hcv.ints_at' (j := i) (by omega)
    by_cases c1 : 1 < cpt f n 0 i
    · simp (disch := omega) only [zaa,zab,zac,zad,zae,zaf,zag,zah,zai,zaj,zak,zal,zam,zan,zao,zap,zaq,zar,zas,zat,zau,zav,zaw,zax,zay,zaz,zba,zbb,zbc,zbd,zbe,zbf,zbg,zbh,zbi,zbj,zbk,zbl,zbm,zbn,zbo,zbp,zbq,zbr,zbs,zbt,zbu,zbv,zbw,zbx,zby,zbz,zca,zcb,zcc,zcd,zce,zcf,zcg,zch,zci,zcj,zck,zcl,zcm,zcn,zco,zcp,zcq,zcr,zcs,zct,zcu,zcv,zcw,zcx,zcy,zcz,zda,zdb,zdc,zdd,guardV,nth,zde,zdf,zdg,zdh,zdi,Nat.reduceEqDiff,reduceIte,zdj,zdk,zdl,resultsA,RetO,Nat.reduceLT,zdm,zdn,zdo,zdp,zdq,zdr,zds,zdt,zdu,zdv,zdw,zdx,zdy,zdz,zea,zeb,zec,zed,zee,zef,zeg,zeh,zei,zej,zek,zel,zem,zen,zeo, e0, e8, e9, e10, hlt, idxA23, load3, Int.toNat_natCast, Nat.mul_one, l1, c1]
      have hv2 : SlV h2.blks lo hi 1 n (intsL n f) (.slice A n c) := hv.mono fun b _ hb => pr1.get b (by omega)
      refine CallO_f (pairsWith_spec (by omega) (by omega) hv2 hn hb) (by omega) fun u h3 pr3 ⟨A', hu, hs3⟩ => ?_
      subst hu
      have n3 := pr3.next
      have hlen : 4 ≤ (pall n f i n).length := by
        rw [pall_count]
        rw [cpt_all] at c1
        omega
      obtain ⟨A2, c2, hsl, hv'⟩ := sliceO_take (E := En G) (kd := .i64) (m := 4) u23 i3 size3 hs3 hlen
      rw [Nat.mul_one] at hv'
      have hsl' : sliceO (En G) 23 h3.blks (some (.slice A' (pall n f i n).length (pall n f i n).length)) (some []) (some [.int .i64 4]) = some (.slice A2 4 c2) := hsl
      simp only [zaa,zab,zac,zad,zae,zaf,zag,zah,zai,zaj,zak,zal,zam,zan,zao,zap,zaq,zar,zas,zat,zau,zav,zaw,zax,zay,zaz,zba,zbb,zbc,zbd,zbe,zbf,zbg,zbh,zbi,zbj,zbk,zbl,zbm,zbn,zbo,zbp,zbq,zbr,zbs,zbt,zbu,zbv,zbw,zbx,zby,zbz,zca,zcb,zcc,zcd,zce,zcf,zcg,zch,zci,zcj,zck,zcl,zcm,zcn,zco,zcp,zcq,zcr,zcs,zct,zcu,zcv,zcw,zcx,zcy,zcz,zda,zdb,zdc,zdd,guardV,nth,zde,zdf,zdg,zdh,zdi,Nat.reduceEqDiff,reduceIte,zdj,zdk,zdl,resultsA,RetO,Nat.reduceLT,zdm,zdn,zdo,zdp,zdq,zdr,zds,zdt,zdu,zdv,zdw,zdx,zdy,zdz,zea,zeb,zec,zed,zee,zef,zeg,zeh,zei,zej,zek,zel,zem,zen,zeo, hsl']
      obtain ⟨b, off, rfl, _⟩ := hv'.at_ (by omega)
      have et : (ints (pall n f i n)).take 4 = ints ((pall n f i n).take 4) := by simp [ints, List.map_take]
      rw [et] at hv'
      exact hQ' _ _ ⟨pr1.trans (pr3.le n1), .inl ⟨i, by omega, c1, hall, b, off, c2, rfl, hv'.wide n1 (Nat.le_refl _)⟩⟩
    · simp (disch := omega) only [zaa,zab,zac,zad,zae,zaf,zag,zah,zai,zaj,zak,zal,zam,zan,zao,zap,zaq,zar,zas,zat,zau,zav,zaw,zax,zay,zaz,zba,zbb,zbc,zbd,zbe,zbf,zbg,zbh,zbi,zbj,zbk,zbl,zbm,zbn,zbo,zbp,zbq,zbr,zbs,zbt,zbu,zbv,zbw,zbx,zby,zbz,zca,zcb,zcc,zcd,zce,zcf,zcg,zch,zci,zcj,zck,zcl,zcm,zcn,zco,zcp,zcq,zcr,zcs,zct,zcu,zcv,zcw,zcx,zcy,zcz,zda,zdb,zdc,zdd,guardV,nth,zde,zdf,zdg,zdh,zdi,Nat.reduceEqDiff,reduceIte,zdj,zdk,zdl,resultsA,RetO,Nat.reduceLT,zdm,zdn,zdo,zdp,zdq,zdr,zds,zdt,zdu,zdv,zdw,zdx,zdy,zdz,zea,zeb,zec,zed,zee,zef,zeg,zeh,zei,zej,zek,zel,zem,zen,zeo, e0, e8, e9, e10, hlt, idxA23, load3, Int.toNat_natCast, Nat.mul_one, l1, c1, wrap_i64]
      refine hJ (L + 1 - (i + 1)) _ _ (by omega) ⟨i + 1, by omega, rfl, by simp only [zaa,zab,zac,zad,zae,zaf,zag,zah,zai,zaj,zak,zal,zam,zan,zao,zap,zaq,zar,zas,zat,zau,zav,zaw,zax,zay,zaz,zba,zbb,zbc,zbd,zbe,zbf,zbg,zbh,zbi,zbj,zbk,zbl,zbm,zbn,zbo,zbp,zbq,zbr,zbs,zbt,zbu,zbv,zbw,zbx,zby,zbz,zca,zcb,zcc,zcd,zce,zcf,zcg,zch,zci,zcj,zck,zcl,zcm,zcn,zco,zcp,zcq,zcr,zcs,zct,zcu,zcv,zcw,zcx,zcy,zcz,zda,zdb,zdc,zdd,guardV,nth,zde,zdf,zdg,zdh,zdi,Nat.reduceEqDiff,reduceIte,zdj,zdk,zdl,resultsA,RetO,Nat.reduceLT,zdm,zdn,zdo,zdp,zdq,zdr,zds,zdt,zdu,zdv,zdw,zdx,zdy,zdz,zea,zeb,zec,zed,zee,zef,zeg,zeh,zei,zej,zek,zel,zem,zen,zeo, e0], by simp only [zaa,zab,zac,zad,zae,zaf,zag,zah,zai,zaj,zak,zal,zam,zan,zao,zap,zaq,zar,zas,zat,zau,zav,zaw,zax,zay,zaz,zba,zbb,zbc,zbd,zbe,zbf,zbg,zbh,zbi,zbj,zbk,zbl,zbm,zbn,zbo,zbp,zbq,zbr,zbs,zbt,zbu,zbv,zbw,zbx,zby,zbz,zca,zcb,zcc,zcd,zce,zcf,zcg,zch,zci,zcj,zck,zcl,zcm,zcn,zco,zcp,zcq,zcr,zcs,zct,zcu,zcv,zcw,zcx,zcy,zcz,zda,zdb,zdc,zdd,guardV,nth,zde,zdf,zdg,zdh,zdi,Nat.reduceEqDiff,reduceIte,zdj,zdk,zdl,resultsA,RetO,Nat.reduceLT,zdm,zdn,zdo,zdp,zdq,zdr,zds,zdt,zdu,zdv,zdw,zdx,zdy,zdz,zea,zeb,zec,zed,zee,zef,zeg,zeh,zei,zej,zek,zel,zem,zen,zeo, e8], by simp only [zaa,zab,zac,zad,zae,zaf,zag,zah,zai,zaj,zak,zal,zam,zan,zao,zap,zaq,zar,zas,zat,zau,zav,zaw,zax,zay,zaz,zba,zbb,zbc,zbd,zbe,zbf,zbg,zbh,zbi,zbj,zbk,zbl,zbm,zbn,zbo,zbp,zbq,zbr,zbs,zbt,zbu,zbv,zbw,zbx,zby,zbz,zca,zcb,zcc,zcd,zce,zcf,zcg,zch,zci,zcj,zck,zcl,zcm,zcn,zco,zcp,zcq,zcr,zcs,zct,zcu,zcv,zcw,zcx,zcy,zcz,zda,zdb,zdc,zdd,guardV,nth,zde,zdf,zdg,zdh,zdi,Nat.reduceEqDiff,reduceIte,zdj,zdk,zdl,resultsA,RetO,Nat.reduceLT,zdm,zdn,zdo,zdp,zdq,zdr,zds,zdt,zdu,zdv,zdw,zdx,zdy,zdz,zea,zeb,zec,zed,zee,zef,zeg,zeh,zei,zej,zek,zel,zem,zen,zeo, e9], by (simp only [zaa,zab,zac,zad,zae,zaf,zag,zah,zai,zaj,zak,zal,zam,zan,zao,zap,zaq,zar,zas,zat,zau,zav,zaw,zax,zay,zaz,zba,zbb,zbc,zbd,zbe,zbf,zbg,zbh,zbi,zbj,zbk,zbl,zbm,zbn,zbo,zbp,zbq,zbr,zbs,zbt,zbu,zbv,zbw,zbx,zby,zbz,zca,zcb,zcc,zcd,zce,zcf,zcg,zch,zci,zcj,zck,zcl,zcm,zcn,zco,zcp,zcq,zcr,zcs,zct,zcu,zcv,zcw,zcx,zcy,zcz,zda,zdb,zdc,zdd,guardV,nth,zde,zdf,zdg,zdh,zdi,Nat.reduceEqDiff,reduceIte,zdj,zdk,zdl,resultsA,RetO,Nat.reduceLT,zdm,zdn,zdo,zdp,zdq,zdr,zds,zdt,zdu,zdv,zdw,zdx,zdy,zdz,zea,zeb,zec,zed,zee,zef,zeg,zeh,zei,zej,zek,zel,zem,zen,zeo]) <;> rfl, fun k hk => ?_⟩
      by_cases e : k = i
      · subst e; omega
      · exact hall k (by omega)
  · obtain rfl : i = L + 1 := by omega
    simp (disch := omega) only [zaa,zab,zac,zad,zae,zaf,zag,zah,zai,zaj,zak,zal,zam,zan,zao,zap,zaq,zar,zas,zat,zau,zav,zaw,zax,zay,zaz,zba,zbb,zbc,zbd,zbe,zbf,zbg,zbh,zbi,zbj,zbk,zbl,zbm,zbn,zbo,zbp,zbq,zbr,zbs,zbt,zbu,zbv,zbw,zbx,zby,zbz,zca,zcb,zcc,zcd,zce,zcf,zcg,zch,zci,zcj,zck,zcl,zcm,zcn,zco,zcp,zcq,zcr,zcs,zct,zcu,zcv,zcw,zcx,zcy,zcz,zda,zdb,zdc,zdd,guardV,nth,zde,zdf,zdg,zdh,zdi,Nat.reduceEqDiff,reduceIte,zdj,zdk,zdl,resultsA,RetO,Nat.reduceLT,zdm,zdn,zdo,zdp,zdq,zdr,zds,zdt,zdu,zdv,zdw,zdx,zdy,zdz,zea,zeb,zec,zed,zee,zef,zeg,zeh,zei,zej,zek,zel,zem,zen,zeo, e0, e8, e9, e10, hlt]
    exact hQ' _ _ ⟨pr1, .inr ⟨fun k hk => hall k (by omega), rfl⟩⟩

set_option maxHeartbeats 4000000 in
theorem Distances_spec {G lo hi n c : Nat} {A : Option Addr} {f : Nat → Int} {h : H} (hG : G ≤ h.next) (hhi : hi ≤ h.next) (hv : SlV h.blks lo hi 1 n (intsL n f) (.slice A n c)) (hn : n < 2147483648) :
    Spec Try.prog (En G) 9 [.slice A n c] h fun v h' => (∃ e, strapE n f e ∧ e ≠ 0 ∧ v = .tuple #[.slice none 0 0, .int .i64 e]) ∨
      (n ≤ 40 ∧ StrapP n f ∧ ∃ L : Nat, f (n - 1) = L ∧ ∃ A', v = .tuple #[.slice A' (L + 1) (L + 1), .int .i64 0] ∧ SlV h'.blks h.next h'.next 1 (L + 1) (intsL (L + 1) (cpt f n 0)) (.slice A' (L + 1) (L + 1))) := by
  refine CallsE_enter (En_known (by decide)) (En_f.trans Try.func9) rfl ⟨Nat.le_of_ble_eq_true rfl, by decide⟩ fun Q' hQ' => ?_
  simp only [Try.f9, zaa,zab,zac,zad,zae,zaf,zag,zah,zai,zaj,zak,zal,zam,zan,zao,zap,zaq,zar,zas,zat,zau,zav,zaw,zax,zay,zaz,zba,zbb,zbc,zbd,zbe,zbf,zbg,zbh,zbi,zbj,zbk,zbl,zbm,zbn,zbo,zbp,zbq,zbr,zbs,zbt,zbu,zbv,zbw,zbx,zby,zbz,zca,zcb,zcc,zcd,zce,zcf,zcg,zch,zci,zcj,zck,zcl,zcm,zcn,zco,zcp,zcq,zcr,zcs,zct,zcu,zcv,zcw,zcx,zcy,zcz,zda,zdb,zdc,zdd,guardV,nth,zde,zdf,zdg,zdh,zdi,Nat.reduceEqDiff,reduceIte,zdj,zdk,zdl,resultsA,RetO,Nat.reduceLT,zdm,zdn,zdo,zdp,zdq,zdr,zds,zdt,zdu,zdv,zdw,zdx,zdy,zdz,zea,zeb,zec,zed,zee,zef,zeg,zeh,zei,zej,zek,zel,zem,zen,zeo]
  refine CallO_same (checkHoles_spec hv hn) (by omega) fun u ⟨e, hu, he⟩ => ?_
  subst hu
  by_cases e0 : e = 0
  · have d0 : decide (e ≠ 0) = false := decide_eq_false (by omega)
    subst e0
    obtain ⟨hn40, hs⟩ : n ≤ 40 ∧ StrapP n f := by
      rcases he with ⟨_, e⟩ | ⟨_, _, e⟩ | ⟨a, b, _⟩
      · omega
      · omega
      · exact ⟨a, b⟩
    obtain ⟨L, hfL, hL, h0, hf, hb⟩ := hs.dist
    simp only [zaa,zab,zac,zad,zae,zaf,zag,zah,zai,zaj,zak,zal,zam,zan,zao,zap,zaq,zar,zas,zat,zau,zav,zaw,zax,zay,zaz,zba,zbb,zbc,zbd,zbe,zbf,zbg,zbh,zbi,zbj,zbk,zbl,zbm,zbn,zbo,zbp,zbq,zbr,zbs,zbt,zbu,zbv,zbw,zbx,zby,zbz,zca,zcb,zcc,zcd,zce,zcf,zcg,zch,zci,zcj,zck,zcl,zcm,zcn,zco,zcp,zcq,zcr,zcs,zct,zcu,zcv,zcw,zcx,zcy,zcz,zda,zdb,zdc,zdd,guardV,nth,zde,zdf,zdg,zdh,zdi,Nat.reduceEqDiff,reduceIte,zdj,zdk,zdl,resultsA,RetO,Nat.reduceLT,zdm,zdn,zdo,zdp,zdq,zdr,zds,zdt,zdu,zdv,zdw,zdx,zdy,zdz,zea,zeb,zec,zed,zee,zef,zeg,zeh,zei,zej,zek,zel,zem,zen,zeo, d0]
    refine CallO_same (lengthOf_spec hv (by omega) h0) (by omega) fun u hu => ?_
    subst hu
    simp only [zaa,zab,zac,zad,zae,zaf,zag,zah,zai,zaj,zak,zal,zam,zan,zao,zap,zaq,zar,zas,zat,zau,zav,zaw,zax,zay,zaz,zba,zbb,zbc,zbd,zbe,zbf,zbg,zbh,zbi,zbj,zbk,zbl,zbm,zbn,zbo,zbp,zbq,zbr,zbs,zbt,zbu,zbv,zbw,zbx,zby,zbz,zca,zcb,zcc,zcd,zce,zcf,zcg,zch,zci,zcj,zck,zcl,zcm,zcn,zco,zcp,zcq,zcr,zcs,zct,zcu,zcv,zcw,zcx,zcy,zcz,zda,zdb,zdc,zdd,guardV,nth,zde,zdf,zdg,zdh,zdi,Nat.reduceEqDiff,reduceIte,zdj,zdk,zdl,resultsA,RetO,Nat.reduceLT,zdm,zdn,zdo,zdp,zdq,zdr,zds,zdt,zdu,zdv,zdw,zdx,zdy,zdz,zea,zeb,zec,zed,zee,zef,zeg,zeh,zei,zej,zek,zel,zem,zen,zeo, hfL]
    refine CallO_f (distances_spec hG hhi hv hn40 hL hf) (by omega) fun u h1 pr1 ⟨hu, hcv⟩ => ?_
    subst hu
    simp only [zaa,zab,zac,zad,zae,zaf,zag,zah,zai,zaj,zak,zal,zam,zan,zao,zap,zaq,zar,zas,zat,zau,zav,zaw,zax,zay,zaz,zba,zbb,zbc,zbd,zbe,zbf,zbg,zbh,zbi,zbj,zbk,zbl,zbm,zbn,zbo,zbp,zbq,zbr,zbs,zbt,zbu,zbv,zbw,zbx,zby,zbz,zca,zcb,zcc,zcd,zce,zcf,zcg,zch,zci,zcj,zck,zcl,zcm,zcn,zco,zcp,zcq,zcr,zcs,zct,zcu,zcv,zcw,zcx,zcy,zcz,zda,zdb,zdc,zdd,guardV,nth,zde,zdf,zdg,zdh,zdi,Nat.reduceEqDiff,reduceIte,zdj,zdk,zdl,resultsA,RetO,Nat.reduceLT,zdm,zdn,zdo,zdp,zdq,zdr,zds,zdt,zdu,zdv,zdw,zdx,zdy,zdz,zea,zeb,zec,zed,zee,zef,zeg,zeh,zei,zej,zek,zel,zem,zen,zeo]
    exact hQ' _ _ ⟨pr1, .inr ⟨hn40, hs, L, hfL, _, rfl, hcv⟩⟩
  · have d0 : decide (e ≠ 0) = true := decide_eq_true e0
    simp only [zaa,zab,zac,zad,zae,zaf,zag,zah,zai,zaj,zak,zal,zam,zan,zao,zap,zaq,zar,zas,zat,zau,zav,zaw,zax,zay,zaz,zba,zbb,zbc,zbd,zbe,zbf,zbg,zbh,zbi,zbj,zbk,zbl,zbm,zbn,zbo,zbp,zbq,zbr,zbs,zbt,zbu,zbv,zbw,zbx,zby,zbz,zca,zcb,zcc,zcd,zce,zcf,zcg,zch,zci,zcj,zck,zcl,zcm,zcn,zco,zcp,zcq,zcr,zcs,zct,zcu,zcv,zcw,zcx,zcy,zcz,zda,zdb,zdc,zdd,guardV,nth,zde,zdf,zdg,zdh,zdi,Nat.reduceEqDiff,reduceIte,zdj,zdk,zdl,resultsA,RetO,Nat.reduceLT,zdm,zdn,zdo,zdp,zdq,zdr,zds,zdt,zdu,zdv,zdw,zdx,zdy,zdz,zea,zeb,zec,zed,zee,zef,zeg,zeh,zei,zej,zek,zel,zem,zen,zeo, d0]
    exact hQ' _ _ ⟨Pres.refl _ _, .inl ⟨e, he, e0, rfl⟩⟩

set_option maxHeartbeats 4000000 in
theorem Misses_spec {G lo hi n c : Nat} {A : Option Addr} {f : Nat → Int} {h : H} (hG : G ≤ h.next) (hhi : hi ≤ h.next) (hv : SlV h.blks lo hi 1 n (intsL n f) (.slice A n c)) (hn : n < 2147483648) :
    Spec Try.prog (En G) 10 [.slice A n c] h fun v h' => (∃ e, strapE n f e ∧ e ≠ 0 ∧ v = .tuple #[.slice none 0 0, .int .i64 e]) ∨
      (n ≤ 40 ∧ StrapP n f ∧ ∃ L : Nat, f (n - 1) = L ∧ ∃ A', v = .tuple #[.slice A' (mss (cpt f n 0) (L + 1)).length (mss (cpt f n 0) (L + 1)).length, .int .i64 0] ∧ SlV h'.blks h.next h'.next 1 (mss (cpt f n 0) (L + 1)).length (ints (mss (cpt f n 0) (L + 1))) (.slice A' (mss (cpt f n 0) (L + 1)).length (mss (cpt f n 0) (L + 1)).length)) := by
  refine CallsE_enter (En_known (by decide)) (En_f.trans Try.func10) rfl ⟨Nat.le_of_ble_eq_true rfl, by decide⟩ fun Q' hQ' => ?_
  simp only [Try.f10, zaa,zab,zac,zad,zae,zaf,zag,zah,zai,zaj,zak,zal,zam,zan,zao,zap,zaq,zar,zas,zat,zau,zav,zaw,zax,zay,zaz,zba,zbb,zbc,zbd,zbe,zbf,zbg,zbh,zbi,zbj,zbk,zbl,zbm,zbn,zbo,zbp,zbq,zbr,zbs,zbt,zbu,zbv,zbw,zbx,zby,zbz,zca,zcb,zcc,zcd,zce,zcf,zcg,zch,zci,zcj,zck,zcl,zcm,zcn,zco,zcp,zcq,zcr,zcs,zct,zcu,zcv,zcw,zcx,zcy,zcz,zda,zdb,zdc,zdd,guardV,nth,zde,zdf,zdg,zdh,zdi,Nat.reduceEqDiff,reduceIte,zdj,zdk,zdl,resultsA,RetO,Nat.reduceLT,zdm,zdn,zdo,zdp,zdq,zdr,zds,zdt,zdu,zdv,zdw,zdx,zdy,zdz,zea,zeb,zec,zed,zee,zef,zeg,zeh,zei,zej,zek,zel,zem,zen,zeo]
  refine CallO_same (checkHoles_spec hv hn) (by omega) fun u ⟨e, hu, he⟩ => ?_
  subst hu
  by_cases e0 : e = 0
  · have d0 : decide (e ≠ 0) = false := decide_eq_false (by omega)
    subst e0
    obtain ⟨hn40, hs⟩ : n ≤ 40 ∧ StrapP n f := by
      rcases he with ⟨_, e⟩ | ⟨_, _, e⟩ | ⟨a, b, _⟩
      · omega
      · omega
      · exact ⟨a, b⟩
    obtain ⟨L, hfL, hL, h0, hf, hb⟩ := hs.dist
    simp only [zaa,zab,zac,zad,zae,zaf,zag,zah,zai,zaj,zak,zal,zam,zan,zao,zap,zaq,zar,zas,zat,zau,zav,zaw,zax,zay,zaz,zba,zbb,zbc,zbd,zbe,zbf,zbg,zbh,zbi,zbj,zbk,zbl,zbm,zbn,zbo,zbp,zbq,zbr,zbs,zbt,zbu,zbv,zbw,zbx,zby,zbz,zca,zcb,zcc,zcd,zce,zcf,zcg,zch,zci,zcj,zck,zcl,zcm,zcn,zco,zcp,zcq,zcr,zcs,zct,zcu,zcv,zcw,zcx,zcy,zcz,zda,zdb,zdc,zdd,guardV,nth,zde,zdf,zdg,zdh,zdi,Nat.reduceEqDiff,reduceIte,zdj,zdk,zdl,resultsA,RetO,Nat.reduceLT,zdm,zdn,zdo,zdp,zdq,zdr,zds,zdt,zdu,zdv,zdw,zdx,zdy,zdz,zea,zeb,zec,zed,zee,zef,zeg,zeh,zei,zej,zek,zel,zem,zen,zeo, d0]
    refine CallO_same (lengthOf_spec hv (by omega) h0) (by omega) fun u hu => ?_
    subst hu
    simp only [zaa,zab,zac,zad,zae,zaf,zag,zah,zai,zaj,zak,zal,zam,zan,zao,zap,zaq,zar,zas,zat,zau,zav,zaw,zax,zay,zaz,zba,zbb,zbc,zbd,zbe,zbf,zbg,zbh,zbi,zbj,zbk,zbl,zbm,zbn,zbo,zbp,zbq,zbr,zbs,zbt,zbu,zbv,zbw,zbx,zby,zbz,zca,zcb,zcc,zcd,zce,zcf,zcg,zch,zci,zcj,zck,zcl,zcm,zcn,zco,zcp,zcq,zcr,zcs,zct,zcu,zcv,zcw,zcx,zcy,zcz,zda,zdb,zdc,zdd,guardV,nth,zde,zdf,zdg,zdh,zdi,Nat.reduceEqDiff,reduceIte,zdj,zdk,zdl,resultsA,RetO,Nat.reduceLT,zdm,zdn,zdo,zdp,zdq,zdr,zds,zdt,zdu,zdv,zdw,zdx,zdy,zdz,zea,zeb,zec,zed,zee,zef,zeg,zeh,zei,zej,zek,zel,zem,zen,zeo, hfL]
    refine CallO_f (misses_spec hG hhi hv hn40 hL hf) (by omega) fun u h1 pr1 ⟨A', hu, hcv⟩ => ?_
    subst hu
    simp only [zaa,zab,zac,zad,zae,zaf,zag,zah,zai,zaj,zak,zal,zam,zan,zao,zap,zaq,zar,zas,zat,zau,zav,zaw,zax,zay,zaz,zba,zbb,zbc,zbd,zbe,zbf,zbg,zbh,zbi,zbj,zbk,zbl,zbm,zbn,zbo,zbp,zbq,zbr,zbs,zbt,zbu,zbv,zbw,zbx,zby,zbz,zca,zcb,zcc,zcd,zce,zcf,zcg,zch,zci,zcj,zck,zcl,zcm,zcn,zco,zcp,zcq,zcr,zcs,zct,zcu,zcv,zcw,zcx,zcy,zcz,zda,zdb,zdc,zdd,guardV,nth,zde,zdf,zdg,zdh,zdi,Nat.reduceEqDiff,reduceIte,zdj,zdk,zdl,resultsA,RetO,Nat.reduceLT,zdm,zdn,zdo,zdp,zdq,zdr,zds,zdt,zdu,zdv,zdw,zdx,zdy,zdz,zea,zeb,zec,zed,zee,zef,zeg,zeh,zei,zej,zek,zel,zem,zen,zeo]
    exact hQ' _ _ ⟨pr1, .inr ⟨hn40, hs, L, hfL, _, rfl, hcv⟩⟩
  · have d0 : decide (e ≠ 0) = true := decide_eq_true e0
    simp only [zaa,zab,zac,zad,zae,zaf,zag,zah,zai,zaj,zak,zal,zam,zan,zao,zap,zaq,zar,zas,zat,zau,zav,zaw,zax,zay,zaz,zba,zbb,zbc,zbd,zbe,zbf,zbg,zbh,zbi,zbj,zbk,zbl,zbm,zbn,zbo,zbp,zbq,zbr,zbs,zbt,zbu,zbv,zbw,zbx,zby,zbz,zca,zcb,zcc,zcd,zce,zcf,zcg,zch,zci,zcj,zck,zcl,zcm,zcn,zco,zcp,zcq,zcr,zcs,zct,zcu,zcv,zcw,zcx,zcy,zcz,zda,zdb,zdc,zdd,guardV,nth,zde,zdf,zdg,zdh,zdi,Nat.reduceEqDiff,reduceIte,zdj,zdk,zdl,resultsA,RetO,Nat.reduceLT,zdm,zdn,zdo,zdp,zdq,zdr,zds,zdt,zdu,zdv,zdw,zdx,zdy,zdz,zea,zeb,zec,zed,zee,zef,zeg,zeh,zei,zej,zek,zel,zem,zen,zeo, d0]
    exact hQ' _ _ ⟨Pres.refl _ _, .inl ⟨e, he, e0, rfl⟩⟩

set_option maxHeartbeats 4000000 in
theorem Twice_spec {G lo hi n c : Nat} {A : Option Addr} {f : Nat → Int} {h : H} (hG : G ≤ h.next) (hhi : hi ≤ h.next) (hv : SlV h.blks lo hi 1 n (intsL n f) (.slice A n c)) (hn : n < 2147483648) :
    Spec Try.prog (En G) 11 [.slice A n c] h fun v h' => (∃ e, strapE n f e ∧ e ≠ 0 ∧ v = .tuple #[.slice none 0 0, .int .i64 e]) ∨
      (n ≤ 40 ∧ StrapP n f ∧ ∃ L : Nat, f (n - 1) = L ∧ ∃ u, TwR n L f h'.blks h.next h'.next u ∧ ((u = .slice none 0 0 ∧ v = .tuple #[.slice none 0 0, .int .i64 5]) ∨ (u ≠ .slice none 0 0 ∧ v = .tuple #[u, .int .i64 0]))) := by
  refine CallsE_enter (En_known (by decide)) (En_f.trans Try.func11) rfl ⟨Nat.le_of_ble_eq_true rfl, by decide⟩ fun Q' hQ' => ?_
  simp only [Try.f11, zaa,zab,zac,zad,zae,zaf,zag,zah,zai,zaj,zak,zal,zam,zan,zao,zap,zaq,zar,zas,zat,zau,zav,zaw,zax,zay,zaz,zba,zbb,zbc,zbd,zbe,zbf,zbg,zbh,zbi,zbj,zbk,zbl,zbm,zbn,zbo,zbp,zbq,zbr,zbs,zbt,zbu,zbv,zbw,zbx,zby,zbz,zca,zcb,zcc,zcd,zce,zcf,zcg,zch,zci,zcj,zck,zcl,zcm,zcn,zco,zcp,zcq,zcr,zcs,zct,zcu,zcv,zcw,zcx,zcy,zcz,zda,zdb,zdc,zdd,guardV,nth,zde,zdf,zdg,zdh,zdi,Nat.reduceEqDiff,reduceIte,zdj,zdk,zdl,resultsA,RetO,Nat.reduceLT,zdm,zdn,zdo,zdp,zdq,zdr,zds,zdt,zdu,zdv,zdw,zdx,zdy,zdz,zea,zeb,zec,zed,zee,zef,zeg,zeh,zei,zej,zek,zel,zem,zen,zeo]
  refine CallO_same (checkHoles_spec hv hn) (by omega) fun u ⟨e, hu, he⟩ => ?_
  subst hu
  by_cases e0 : e = 0
  · have d0 : decide (e ≠ 0) = false := decide_eq_false (by omega)
    subst e0
    obtain ⟨hn40, hs⟩ : n ≤ 40 ∧ StrapP n f := by
      rcases he with ⟨_, e⟩ | ⟨_, _, e⟩ | ⟨a, b, _⟩
      · omega
      · omega
      · exact ⟨a, b⟩
    obtain ⟨L, hfL, hL, h0, hf, hb⟩ := hs.dist
    simp only [zaa,zab,zac,zad,zae,zaf,zag,zah,zai,zaj,zak,zal,zam,zan,zao,zap,zaq,zar,zas,zat,zau,zav,zaw,zax,zay,zaz,zba,zbb,zbc,zbd,zbe,zbf,zbg,zbh,zbi,zbj,zbk,zbl,zbm,zbn,zbo,zbp,zbq,zbr,zbs,zbt,zbu,zbv,zbw,zbx,zby,zbz,zca,zcb,zcc,zcd,zce,zcf,zcg,zch,zci,zcj,zck,zcl,zcm,zcn,zco,zcp,zcq,zcr,zcs,zct,zcu,zcv,zcw,zcx,zcy,zcz,zda,zdb,zdc,zdd,guardV,nth,zde,zdf,zdg,zdh,zdi,Nat.reduceEqDiff,reduceIte,zdj,zdk,zdl,resultsA,RetO,Nat.reduceLT,zdm,zdn,zdo,zdp,zdq,zdr,zds,zdt,zdu,zdv,zdw,zdx,zdy,zdz,zea,zeb,zec,zed,zee,zef,zeg,zeh,zei,zej,zek,zel,zem,zen,zeo, d0]
    refine CallO_f (twice_spec hG hhi hv hn40 h0 hL hfL hf hb) (by omega) fun u h1 pr1 hu => ?_
    have hu' := hu
    rcases hu with ⟨d, _, _, _, b, off, c', rfl, _⟩ | ⟨_, rfl⟩
    · simp only [zaa,zab,zac,zad,zae,zaf,zag,zah,zai,zaj,zak,zal,zam,zan,zao,zap,zaq,zar,zas,zat,zau,zav,zaw,zax,zay,zaz,zba,zbb,zbc,zbd,zbe,zbf,zbg,zbh,zbi,zbj,zbk,zbl,zbm,zbn,zbo,zbp,zbq,zbr,zbs,zbt,zbu,zbv,zbw,zbx,zby,zbz,zca,zcb,zcc,zcd,zce,zcf,zcg,zch,zci,zcj,zck,zcl,zcm,zcn,zco,zcp,zcq,zcr,zcs,zct,zcu,zcv,zcw,zcx,zcy,zcz,zda,zdb,zdc,zdd,guardV,nth,zde,zdf,zdg,zdh,zdi,Nat.reduceEqDiff,reduceIte,zdj,zdk,zdl,resultsA,RetO,Nat.reduceLT,zdm,zdn,zdo,zdp,zdq,zdr,zds,zdt,zdu,zdv,zdw,zdx,zdy,zdz,zea,zeb,zec,zed,zee,zef,zeg,zeh,zei,zej,zek,zel,zem,zen,zeo, nil_some u23]
      exact hQ' _ _ ⟨pr1, .inr ⟨hn40, hs, L, hfL, _, hu', .inr ⟨fun e => (by cases e), rfl⟩⟩⟩
    · simp only [zaa,zab,zac,zad,zae,zaf,zag,zah,zai,zaj,zak,zal,zam,zan,zao,zap,zaq,zar,zas,zat,zau,zav,zaw,zax,zay,zaz,zba,zbb,zbc,zbd,zbe,zbf,zbg,zbh,zbi,zbj,zbk,zbl,zbm,zbn,zbo,zbp,zbq,zbr,zbs,zbt,zbu,zbv,zbw,zbx,zby,zbz,zca,zcb,zcc,zcd,zce,zcf,zcg,zch,zci,zcj,zck,zcl,zcm,zcn,zco,zcp,zcq,zcr,zcs,zct,zcu,zcv,zcw,zcx,zcy,zcz,zda,zdb,zdc,zdd,guardV,nth,zde,zdf,zdg,zdh,zdi,Nat.reduceEqDiff,reduceIte,zdj,zdk,zdl,resultsA,RetO,Nat.reduceLT,zdm,zdn,zdo,zdp,zdq,zdr,zds,zdt,zdu,zdv,zdw,zdx,zdy,zdz,zea,zeb,zec,zed,zee,zef,zeg,zeh,zei,zej,zek,zel,zem,zen,zeo, nil_nil u23]
      exact hQ' _ _ ⟨pr1, .inr ⟨hn40, hs, L, hfL, _, hu', .inl ⟨rfl, rfl⟩⟩⟩
  · have d0 : decide (e ≠ 0) = true := decide_eq_true e0
    simp only [zaa,zab,zac,zad,zae,zaf,zag,zah,zai,zaj,zak,zal,zam,zan,zao,zap,zaq,zar,zas,zat,zau,zav,zaw,zax,zay,zaz,zba,zbb,zbc,zbd,zbe,zbf,zbg,zbh,zbi,zbj,zbk,zbl,zbm,zbn,zbo,zbp,zbq,zbr,zbs,zbt,zbu,zbv,zbw,zbx,zby,zbz,zca,zcb,zcc,zcd,zce,zcf,zcg,zch,zci,zcj,zck,zcl,zcm,zcn,zco,zcp,zcq,zcr,zcs,zct,zcu,zcv,zcw,zcx,zcy,zcz,zda,zdb,zdc,zdd,guardV,nth,zde,zdf,zdg,zdh,zdi,Nat.reduceEqDiff,reduceIte,zdj,zdk,zdl,resultsA,RetO,Nat.reduceLT,zdm,zdn,zdo,zdp,zdq,zdr,zds,zdt,zdu,zdv,zdw,zdx,zdy,zdz,zea,zeb,zec,zed,zee,zef,zeg,zeh,zei,zej,zek,zel,zem,zen,zeo, d0]
    exact hQ' _ _ ⟨Pres.refl _ _, .inl ⟨e, he, e0, rfl⟩⟩
end
end Go.Proofs.Ytlhpjnopkfndfaa.Ev
