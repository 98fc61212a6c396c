/- Levi's lemma for seams. Mathematics alone. -/
import Derived.Test.YtnjbcgiplfdgmaaGreatDoorPmD3b
import Derived.Test.YtnjbcgiplfdgmaaGreatDoorPmMM
set_option linter.unusedSimpArgs false
namespace Go.Proofs.YtnjbcgiplfdgmaaGreatDoor.Ev

theorem er_append {cm : Nat → Nat → Bool} {y : Nat} : ∀ (a a' b : List UInt8), er cm y a = some a' → er cm y (a ++ b) = some (a' ++ b)
  | [], a', b, h => by cases h
  | c :: r, a', b, h => by
    rw [List.cons_append]
    unfold er at h ⊢
    by_cases h1 : lt c = y
    · rw [if_pos h1] at h ⊢
      cases h; rfl
    · rw [if_neg h1] at h ⊢
      by_cases h2 : cm (lt c) y = true
      · rw [if_pos h2] at h ⊢
        cases e : er cm y r with
        | none => rw [e] at h; cases h
        | some r' =>
          rw [e] at h
          cases h
          rw [er_append r r' b e]
          rfl
      · rw [if_neg h2] at h; cases h
theorem er_append_none {cm : Nat → Nat → Bool} {y : Nat} : ∀ (a b w : List UInt8), er cm y a = none → er cm y (a ++ b) = some w → (∀ c ∈ a, cm (lt c) y = true ∧ lt c ≠ y) ∧ ∃ b', er cm y b = some b' ∧ w = a ++ b'
  | [], b, w, _, h => ⟨fun c hc => (by cases hc), w, h, rfl⟩
  | c :: r, b, w, hn, h => by
    rw [List.cons_append] at h
    unfold er at h hn
    by_cases h1 : lt c = y
    · rw [if_pos h1] at hn; cases hn
    · rw [if_neg h1] at h hn
      by_cases h2 : cm (lt c) y = true
      · rw [if_pos h2] at h hn
        have hn' : er cm y r = none := by
          cases e : er cm y r with
          | none => rfl
          | some q => rw [e] at hn; cases hn
        cases e : er cm y (r ++ b) with
        | none => rw [e] at h; cases h
        | some q =>
          rw [e] at h
          cases h
          obtain ⟨i1, b', i2, i3⟩ := er_append_none r b q hn' e
          refine ⟨fun d hd => ?_, b', i2, by rw [i3]; rfl⟩
          rcases List.mem_cons.1 hd with rfl | hd
          · exact ⟨h2, h1⟩
          · exact i1 d hd
      · rw [if_neg h2] at h; cases h
theorem lt_inj {c d : UInt8} (hc : 97 ≤ c.toNat) (hd : 97 ≤ d.toNat) (h : lt c = lt d) : c = d := by
  have : c.toNat = d.toNat := by unfold lt at h; omega
  exact UInt8.toNat_inj.1 this
/-- Levi -/
theorem levi {cm : Nat → Nat → Bool} (hsym : ∀ a b, cm a b = cm b a) : ∀ (y z t v : List UInt8), OkL 6 y → OkL 6 v → (∀ d, ¬ (er cm d y ≠ none ∧ er cm d z ≠ none)) → Sw cm (y ++ t) (z ++ v) →
    allC cm y z = true ∧ ∃ w, Sw cm t (z ++ w) ∧ Sw cm v (y ++ w)
  | [], z, t, v, _, _, _, h => ⟨rfl, v, h, .refl _⟩
  | c :: y, z, t, v, hy, hv, hno, h => by
    have e0 : er cm (lt c) (c :: (y ++ t)) = some (y ++ t) := by unfold er; rw [if_pos rfl]
    rw [List.cons_append] at h
    rcases h.er (y := lt c) with ⟨e1, _⟩ | ⟨a, q, e1, e2, haq⟩
    · rw [e0] at e1; cases e1
    · rw [e0] at e1; cases e1
      have hz : er cm (lt c) z = none := by
        cases e : er cm (lt c) z with
        | none => rfl
        | some p =>
          refine absurd ⟨?_, ?_⟩ (hno (lt c))
          · unfold er; rw [if_pos rfl]; exact fun e => (by cases e)
          · rw [e]; exact fun e => (by cases e)
      obtain ⟨hall, v', ev, rfl⟩ := er_append_none z v q hz e2
      obtain ⟨c2, hc2, hm2, hs2⟩ := er_front hsym v v' ev
      have hcc : c2 = c := lt_inj (hv c2 hm2).1 (hy c List.mem_cons_self).1 hc2
      subst hcc
      have hy' : OkL 6 y := fun d hd => hy d (List.mem_cons_of_mem _ hd)
      have hv' : OkL 6 v' := fun d hd => hv d ((hs2.mem d).2 (List.mem_cons_of_mem _ hd))
      have hno' : ∀ d, ¬ (er cm d y ≠ none ∧ er cm d z ≠ none) := fun d ⟨d1, d2⟩ => by
        cases e : er cm d z with
        | none => exact d2 e
        | some p =>
          obtain ⟨c3, hc3, hm3, _⟩ := er_front hsym z p e
          obtain ⟨k1, k2⟩ := hall c3 hm3
          rw [hc3] at k1 k2
          refine hno d ⟨?_, d2⟩
          unfold er
          rw [if_neg (Ne.symm k2), if_pos (by rw [hsym]; exact k1)]
          cases e5 : er cm d y with
          | none => exact absurd e5 d1
          | some p => exact fun e => (by cases e)
      obtain ⟨i1, w, i2, i3⟩ := levi hsym y z t v' hy' hv' hno' haq
      refine ⟨?_, w, i2, hs2.trans (.cons c2 i3)⟩
      rw [allC_iff] at i1 ⊢
      intro x hx d hd
      rcases List.mem_cons.1 hx with rfl | hx
      · rw [hsym]; exact (hall d hd).1
      · exact i1 x hx d hd

theorem takeB_self {cm : Nat → Nat → Bool} : ∀ x b : List UInt8, takeB cm x (x ++ b) = some b
  | [], b => rfl
  | c :: x, b => by
    have h0 : fg cm (lt c) (c :: (x ++ b)) 0 = 0 := by unfold fg; rw [if_pos rfl]; rfl
    have hat : at0 cm (lt c) (c :: (x ++ b)) = 0 := by unfold at0; rw [h0]; rfl
    rw [List.cons_append, takeB, if_pos (by rw [h0]; exact Int.le_refl _), hat]
    exact takeB_self x b
theorem Sw.cancel {cm : Nat → Nat → Bool} {x a b : List UInt8} (h : Sw cm (x ++ a) (x ++ b)) : Sw cm a b := by
  obtain ⟨w, hw, hs⟩ := takeB_sw x h
  rw [takeB_self] at hw
  cases hw
  exact hs
theorem takeB_back {cm : Nat → Nat → Bool} (hsym : ∀ a b, cm a b = cm b a) : ∀ (b t r : List UInt8), OkL 6 b → OkL 6 t → takeB cm b t = some r → Sw cm t (b ++ r)
  | [], t, r, _, _, h => by
    unfold takeB at h
    cases h
    exact .refl _
  | c :: b, t, r, hb, ht, h => by
    unfold takeB at h
    by_cases hf : 0 ≤ fg cm (lt c) t 0
    · rw [if_pos hf] at h
      obtain ⟨c2, hc2, hm2, hs2⟩ := er_front hsym t _ (er_some hf)
      have hcc : c2 = c := lt_inj (ht c2 hm2).1 (hb c List.mem_cons_self).1 hc2
      subst hcc
      exact hs2.trans (.cons c2 (takeB_back hsym b _ r (fun d hd => hb d (List.mem_cons_of_mem _ hd)) ht.wo h))
    · rw [if_neg hf] at h; cases h
theorem mt_none {cm : Nat → Nat → Bool} {K : Nat} : ∀ (n : Nat) {a b : List UInt8}, a.length = n → nx2 cm K (mt cm K a b).2.1 (mt cm K a b).2.2 = none := by
  intro n
  induction n with
  | zero =>
    intro a b hn
    obtain rfl := List.eq_nil_of_length_eq_zero hn
    exact nx2_none.2 fun y _ h => absurd h.1 (by show ¬ (0 : Int) ≤ -1; decide)
  | succ n ih =>
    intro a b hn
    cases e : nx2 cm K a b with
    | none => rw [mt_stop e]; exact e
    | some x =>
      have wa := wo_len (at0_lt (nx2_some.1 e).2.1.1).1
      rw [mt_step e]
      exact ih (by omega)
/-- what the law of Levi asks, of least seams -/
theorem levi_law {cm : Nat → Nat → Bool} (hsym : ∀ a b, cm a b = cm b a) {s t u v : List UInt8} (hs : OkL 6 s) (ht : OkL 6 t) (hu : OkL 6 u) (hv : OkL 6 v) (h : Sw cm (s ++ t) (u ++ v)) :
    allC cm (lst cm 6 (mt cm 6 s u).2.1) (lst cm 6 (mt cm 6 s u).2.2) = true ∧ ∃ w, (∃ a, takeB cm (lst cm 6 (mt cm 6 s u).2.2) t = some a ∧ Sw cm w a) ∧ ∃ d, takeB cm (lst cm 6 (mt cm 6 s u).2.1) v = some d ∧ Sw cm w d := by
  have hok := mt_ok (cm := cm) (K := 6) (Nat.le_refl 6) _ rfl hs hu
  have hnn := mt_none (cm := cm) (K := 6) _ (a := s) (b := u) rfl
  obtain ⟨r, hr⟩ : ∃ r, mt cm 6 s u = r := ⟨_, rfl⟩
  rw [hr] at hok hnn ⊢
  have b1 := takeB_back hsym _ _ _ hok.o1 hs hok.t1
  have b2 := takeB_back hsym _ _ _ hok.o1 hu hok.t2
  have hcan : Sw cm (r.2.1 ++ t) (r.2.2 ++ v) := by
    have h1 : Sw cm (r.1 ++ (r.2.1 ++ t)) (r.1 ++ (r.2.2 ++ v)) := by
      rw [← List.append_assoc, ← List.append_assoc]
      exact ((b1.symm.right t).trans h).trans (b2.right v)
    exact h1.cancel
  have hno : ∀ d, ¬ (er cm d r.2.1 ≠ none ∧ er cm d r.2.2 ≠ none) := fun d hd => by
    have hd1 := er_iff.2 hd.1
    obtain ⟨j, c, g1, g2, g3, g4⟩ := fg_pos hd1
    have hc := hok.o2 c (List.mem_of_getElem? g3)
    exact nx2_none.1 hnn d (by unfold lt at g4; omega) ⟨hd1, er_iff.2 hd.2⟩
  obtain ⟨hall, w, k1, k2⟩ := levi hsym _ _ _ _ hok.o2 hv hno hcan
  have sy := lst_sw hsym _ r.2.1 rfl hok.o2
  have sz := lst_sw hsym _ r.2.2 rfl hok.o3
  refine ⟨?_, w, ?_, ?_⟩
  · rw [← allC_same (cm := cm) sy.mem sz.mem]; exact hall
  · exact takeB_sw _ ((sz.symm.right w).trans k1.symm)
  · exact takeB_sw _ ((sy.symm.right w).trans k2.symm)
end Go.Proofs.YtnjbcgiplfdgmaaGreatDoor.Ev

/- The law StitchLevi. -/
set_option linter.unusedSimpArgs false
namespace Go.Proofs.YtnjbcgiplfdgmaaGreatDoor.Ev
open Go Go.Proofs
noncomputable section

set_option maxHeartbeats 32000000 in
theorem law_StitchLevi {G lo1 hi1 n1 c1 lo2 hi2 n2 c2 : Nat} {K Fr z1 z2 : Int} {A1 A2 : Option Addr} {x y : List UInt8} {h0 : H} (h4 : 4 ≤ h0.next) (hG : G ≤ h0.next) (ht : TabsIn tabs h0.blks) (hK : 0 ≤ K) (hK2 : K ≤ 255) (hz1 : 0 ≤ z1) (hz1' : z1 ≤ 255) (hz2 : 0 ≤ z2) (hz2' : z2 ≤ 255)
    (hv1 : SlV h0.blks lo1 hi1 1 n1 (byts x) (.slice A1 n1 c1)) (hhi1 : hi1 ≤ h0.next) (hv2 : SlV h0.blks lo2 hi2 1 n2 (byts y) (.slice A2 n2 c2)) (hhi2 : hi2 ≤ h0.next) (hn1 : n1 < 4611686018427387904) (hn2 : n2 < 4611686018427387904) :
    Spec Tryz.prog (En G) 10 [.agg #[.int .u8 K, .int .u16 Fr], .agg #[.slice A1 n1 c1, .slice A2 n2 c2], .agg #[.int .u8 z1, .int .u8 z2]] h0 fun v _ => v = .bool true := by
  refine CallsE_enter (En_known (by decide)) (En_f.trans Tryz.func10) rfl ⟨Nat.le_of_ble_eq_true rfl, by decide⟩ fun Q' hQ' => ?_
  simp only [Tryz.f10, zaa,zab,zac,zad,zae,zaf,zag,zah,zai,zaj,zak,zal,zam,zan,zao,zap,zaq,zar,zas,zat,zau,zav,zaw,zax,zay,zaz,zba,zbb,zbc,zbd,zbe,zbf,zbg,zbh,zbi,zbj,zbk,zbl,zbm,zbn,zbo,zbp,zbq,zbr,zbs,zbt,zbu,zbv,zbw,zbx,zby,zbz,zca,zcb,zcc,zcd,zce,zcf,zcg,zch,zci,zcj,zck,zcl,zcm,zcn,zco,zcp,zcq,zcr,zcs,zct,zcu,zcv,zcw,zcx,zcy,zcz,zda,zdb,zdc,zdd,guardV,nth,zde,zdf,zdg,zdh,zdi,Nat.reduceEqDiff,reduceIte,zdj,zdk,zdl,resultsA,RetO,Nat.reduceLT,zdm,zdn,zdo,zdp,zdq,zdr,zds,zdt,zdu,zdv,zdw,zdx,zdy,zdz,zea,zeb,zec,zed,zee,zef,zeg,zeh,zei,zej,zek,zel,zem,zen,zeo]
  refine At_box (v := .agg #[.int .u8 K, .int .u16 Fr]) (by simp only [zaa,zab,zac,zad,zae,zaf,zag,zah,zai,zaj,zak,zal,zam,zan,zao,zap,zaq,zar,zas,zat,zau,zav,zaw,zax,zay,zaz,zba,zbb,zbc,zbd,zbe,zbf,zbg,zbh,zbi,zbj,zbk,zbl,zbm,zbn,zbo,zbp,zbq,zbr,zbs,zbt,zbu,zbv,zbw,zbx,zby,zbz,zca,zcb,zcc,zcd,zce,zcf,zcg,zch,zci,zcj,zck,zcl,zcm,zcn,zco,zcp,zcq,zcr,zcs,zct,zcu,zcv,zcw,zcx,zcy,zcz,zda,zdb,zdc,zdd,guardV,nth,zde,zdf,zdg,zdh,zdi,Nat.reduceEqDiff,reduceIte,zdj,zdk,zdl,resultsA,RetO,Nat.reduceLT,zdm,zdn,zdo,zdp,zdq,zdr,zds,zdt,zdu,zdv,zdw,zdx,zdy,zdz,zea,zeb,zec,zed,zee,zef,zeg,zeh,zei,zej,zek,zel,zem,zen,zeo]) (by omega) fun h1 hb1 => ?_
  have m1 := hb1.next
  have w1 : Var h1.blks h0.next [.int .u8 K, .int .u16 Fr] := hb1.var
  try simp only [zaa,zab,zac,zad,zae,zaf,zag,zah,zai,zaj,zak,zal,zam,zan,zao,zap,zaq,zar,zas,zat,zau,zav,zaw,zax,zay,zaz,zba,zbb,zbc,zbd,zbe,zbf,zbg,zbh,zbi,zbj,zbk,zbl,zbm,zbn,zbo,zbp,zbq,zbr,zbs,zbt,zbu,zbv,zbw,zbx,zby,zbz,zca,zcb,zcc,zcd,zce,zcf,zcg,zch,zci,zcj,zck,zcl,zcm,zcn,zco,zcp,zcq,zcr,zcs,zct,zcu,zcv,zcw,zcx,zcy,zcz,zda,zdb,zdc,zdd,guardV,nth,zde,zdf,zdg,zdh,zdi,Nat.reduceEqDiff,reduceIte,zdj,zdk,zdl,resultsA,RetO,Nat.reduceLT,zdm,zdn,zdo,zdp,zdq,zdr,zds,zdt,zdu,zdv,zdw,zdx,zdy,zdz,zea,zeb,zec,zed,zee,zef,zeg,zeh,zei,zej,zek,zel,zem,zen,zeo]
  refine At_box (v := .agg #[.slice A1 n1 c1, .slice A2 n2 c2]) (by simp only [zaa,zab,zac,zad,zae,zaf,zag,zah,zai,zaj,zak,zal,zam,zan,zao,zap,zaq,zar,zas,zat,zau,zav,zaw,zax,zay,zaz,zba,zbb,zbc,zbd,zbe,zbf,zbg,zbh,zbi,zbj,zbk,zbl,zbm,zbn,zbo,zbp,zbq,zbr,zbs,zbt,zbu,zbv,zbw,zbx,zby,zbz,zca,zcb,zcc,zcd,zce,zcf,zcg,zch,zci,zcj,zck,zcl,zcm,zcn,zco,zcp,zcq,zcr,zcs,zct,zcu,zcv,zcw,zcx,zcy,zcz,zda,zdb,zdc,zdd,guardV,nth,zde,zdf,zdg,zdh,zdi,Nat.reduceEqDiff,reduceIte,zdj,zdk,zdl,resultsA,RetO,Nat.reduceLT,zdm,zdn,zdo,zdp,zdq,zdr,zds,zdt,zdu,zdv,zdw,zdx,zdy,zdz,zea,zeb,zec,zed,zee,zef,zeg,zeh,zei,zej,zek,zel,zem,zen,zeo]) (by omega) fun h2 hb2 => ?_
  have m2 := hb2.next
  have w2 : Var h2.blks h1.next [.slice A1 n1 c1, .slice A2 n2 c2] := hb2.var
  replace w1 := w1.mono (B' := h2.blks) (by rw [hb2.get, if_neg (by omega)])
  try simp only [zaa,zab,zac,zad,zae,zaf,zag,zah,zai,zaj,zak,zal,zam,zan,zao,zap,zaq,zar,zas,zat,zau,zav,zaw,zax,zay,zaz,zba,zbb,zbc,zbd,zbe,zbf,zbg,zbh,zbi,zbj,zbk,zbl,zbm,zbn,zbo,zbp,zbq,zbr,zbs,zbt,zbu,zbv,zbw,zbx,zby,zbz,zca,zcb,zcc,zcd,zce,zcf,zcg,zch,zci,zcj,zck,zcl,zcm,zcn,zco,zcp,zcq,zcr,zcs,zct,zcu,zcv,zcw,zcx,zcy,zcz,zda,zdb,zdc,zdd,guardV,nth,zde,zdf,zdg,zdh,zdi,Nat.reduceEqDiff,reduceIte,zdj,zdk,zdl,resultsA,RetO,Nat.reduceLT,zdm,zdn,zdo,zdp,zdq,zdr,zds,zdt,zdu,zdv,zdw,zdx,zdy,zdz,zea,zeb,zec,zed,zee,zef,zeg,zeh,zei,zej,zek,zel,zem,zen,zeo]
  refine At_box (v := .agg #[.int .u8 z1, .int .u8 z2]) (by simp only [zaa,zab,zac,zad,zae,zaf,zag,zah,zai,zaj,zak,zal,zam,zan,zao,zap,zaq,zar,zas,zat,zau,zav,zaw,zax,zay,zaz,zba,zbb,zbc,zbd,zbe,zbf,zbg,zbh,zbi,zbj,zbk,zbl,zbm,zbn,zbo,zbp,zbq,zbr,zbs,zbt,zbu,zbv,zbw,zbx,zby,zbz,zca,zcb,zcc,zcd,zce,zcf,zcg,zch,zci,zcj,zck,zcl,zcm,zcn,zco,zcp,zcq,zcr,zcs,zct,zcu,zcv,zcw,zcx,zcy,zcz,zda,zdb,zdc,zdd,guardV,nth,zde,zdf,zdg,zdh,zdi,Nat.reduceEqDiff,reduceIte,zdj,zdk,zdl,resultsA,RetO,Nat.reduceLT,zdm,zdn,zdo,zdp,zdq,zdr,zds,zdt,zdu,zdv,zdw,zdx,zdy,zdz,zea,zeb,zec,zed,zee,zef,zeg,zeh,zei,zej,zek,zel,zem,zen,zeo]) (by omega) fun h3 hb3 => ?_
  have m3 := hb3.next
  have w3 : Var h3.blks h2.next [.int .u8 z1, .int .u8 z2] := hb3.var
  replace w1 := w1.mono (B' := h3.blks) (by rw [hb3.get, if_neg (by omega)])
  replace w2 := w2.mono (B' := h3.blks) (by rw [hb3.get, if_neg (by omega)])
  have pr3 : Pres h0.next h0 h3 := (hb1.pres (Nat.le_refl _)).trans ((hb2.pres (by omega)).trans (hb3.pres (by omega)))
  have l1 := load54 (G := G) w1
  simp only [zaa,zab,zac,zad,zae,zaf,zag,zah,zai,zaj,zak,zal,zam,zan,zao,zap,zaq,zar,zas,zat,zau,zav,zaw,zax,zay,zaz,zba,zbb,zbc,zbd,zbe,zbf,zbg,zbh,zbi,zbj,zbk,zbl,zbm,zbn,zbo,zbp,zbq,zbr,zbs,zbt,zbu,zbv,zbw,zbx,zby,zbz,zca,zcb,zcc,zcd,zce,zcf,zcg,zch,zci,zcj,zck,zcl,zcm,zcn,zco,zcp,zcq,zcr,zcs,zct,zcu,zcv,zcw,zcx,zcy,zcz,zda,zdb,zdc,zdd,guardV,nth,zde,zdf,zdg,zdh,zdi,Nat.reduceEqDiff,reduceIte,zdj,zdk,zdl,resultsA,RetO,Nat.reduceLT,zdm,zdn,zdo,zdp,zdq,zdr,zds,zdt,zdu,zdv,zdw,zdx,zdy,zdz,zea,zeb,zec,zed,zee,zef,zeg,zeh,zei,zej,zek,zel,zem,zen,zeo, l1]
  refine CallO_f (made_spec (by omega) hK hK2) (by omega) fun u h5 hp5 hu => ?_
  obtain ⟨k, ps, A, rfl, hT, hvp⟩ := hu
  have m5 := hp5.next
  have pr5 : Pres h0.next h0 h5 := pr3.trans (hp5.le (by omega))
  obtain ⟨k1, k6, pl, hps⟩ := okT_okP hT
  rw [Int.toNat_natCast] at hps
  replace w2 := w2.mono (B' := h5.blks) (hp5.get _ (by omega))
  replace w3 := w3.mono (B' := h5.blks) (hp5.get _ (by omega))
  have hx5 : SlV h5.blks lo1 hi1 1 n1 (byts x) (.slice A1 n1 c1) := hv1.mono fun b _ hb => pr5.get b (by omega)
  have hy5 : SlV h5.blks lo2 hi2 1 n2 (byts y) (.slice A2 n2 c2) := hv2.mono fun b _ hb => pr5.get b (by omega)
  have ls0 : loadv h5.blks h1.next 0 = some (.slice A1 n1 c1) := by rw [w2.load (by simp)]; rfl
  have ls1 : loadv h5.blks h1.next 1 = some (.slice A2 n2 c2) := by rw [w2.load (by simp)]; rfl
  have lz0 : loadv h5.blks h2.next 0 = some (.int .u8 z1) := by rw [w3.load (by simp)]; rfl
  have lz1 : loadv h5.blks h2.next 1 = some (.int .u8 z2) := by rw [w3.load (by simp)]; rfl
  obtain ⟨a1, rfl⟩ := Int.eq_ofNat_of_zero_le hz1
  obtain ⟨a2, rfl⟩ := Int.eq_ofNat_of_zero_le hz2
  simp (disch := omega) only [zaa,zab,zac,zad,zae,zaf,zag,zah,zai,zaj,zak,zal,zam,zan,zao,zap,zaq,zar,zas,zat,zau,zav,zaw,zax,zay,zaz,zba,zbb,zbc,zbd,zbe,zbf,zbg,zbh,zbi,zbj,zbk,zbl,zbm,zbn,zbo,zbp,zbq,zbr,zbs,zbt,zbu,zbv,zbw,zbx,zby,zbz,zca,zcb,zcc,zcd,zce,zcf,zcg,zch,zci,zcj,zck,zcl,zcm,zcn,zco,zcp,zcq,zcr,zcs,zct,zcu,zcv,zcw,zcx,zcy,zcz,zda,zdb,zdc,zdd,guardV,nth,zde,zdf,zdg,zdh,zdi,Nat.reduceEqDiff,reduceIte,zdj,zdk,zdl,resultsA,RetO,Nat.reduceLT,zdm,zdn,zdo,zdp,zdq,zdr,zds,zdt,zdu,zdv,zdw,zdx,zdy,zdz,zea,zeb,zec,zed,zee,zef,zeg,zeh,zei,zej,zek,zel,zem,zen,zeo, idxP61, load55, Int.toNat_zero, Int.reduceToNat, Nat.zero_mul, Nat.one_mul, Nat.mul_one, Nat.add_zero, Nat.zero_add, ls0, ls1]
  refine CallO_same (mkseam_spec (k := k) (mo := 24) hx5 (by omega) (by omega) (by omega) (by omega)) (by omega) fun u hu => ?_
  obtain ⟨w, rfl, hw, wl⟩ := hu
  simp (disch := omega) only [zaa,zab,zac,zad,zae,zaf,zag,zah,zai,zaj,zak,zal,zam,zan,zao,zap,zaq,zar,zas,zat,zau,zav,zaw,zax,zay,zaz,zba,zbb,zbc,zbd,zbe,zbf,zbg,zbh,zbi,zbj,zbk,zbl,zbm,zbn,zbo,zbp,zbq,zbr,zbs,zbt,zbu,zbv,zbw,zbx,zby,zbz,zca,zcb,zcc,zcd,zce,zcf,zcg,zch,zci,zcj,zck,zcl,zcm,zcn,zco,zcp,zcq,zcr,zcs,zct,zcu,zcv,zcw,zcx,zcy,zcz,zda,zdb,zdc,zdd,guardV,nth,zde,zdf,zdg,zdh,zdi,Nat.reduceEqDiff,reduceIte,zdj,zdk,zdl,resultsA,RetO,Nat.reduceLT,zdm,zdn,zdo,zdp,zdq,zdr,zds,zdt,zdu,zdv,zdw,zdx,zdy,zdz,zea,zeb,zec,zed,zee,zef,zeg,zeh,zei,zej,zek,zel,zem,zen,zeo, idxP61, load55, Int.toNat_zero, Int.reduceToNat, Nat.zero_mul, Nat.one_mul, Nat.mul_one, Nat.add_zero, Nat.zero_add, ls0, ls1]
  refine CallO_same (shuffled_spec (k := k) (s := w) (by0 := y) hvp (by omega) (by omega) hps hy5 (by omega) (hw.mono (by omega)) (by omega)) (by omega) fun u hu => ?_
  obtain ⟨o, rfl, hsw⟩ := hu
  have ol := hsw.len
  have ho : OkL k o := hsw.ok hw
  have hlen1 : (w.length : Int) + 1 = ((w.length + 1 : Nat) : Int) := by omega
  have hka : ((w.length + 1 : Nat) : Int) ≠ 0 := by omega
  simp only [zaa,zab,zac,zad,zae,zaf,zag,zah,zai,zaj,zak,zal,zam,zan,zao,zap,zaq,zar,zas,zat,zau,zav,zaw,zax,zay,zaz,zba,zbb,zbc,zbd,zbe,zbf,zbg,zbh,zbi,zbj,zbk,zbl,zbm,zbn,zbo,zbp,zbq,zbr,zbs,zbt,zbu,zbv,zbw,zbx,zby,zbz,zca,zcb,zcc,zcd,zce,zcf,zcg,zch,zci,zcj,zck,zcl,zcm,zcn,zco,zcp,zcq,zcr,zcs,zct,zcu,zcv,zcw,zcx,zcy,zcz,zda,zdb,zdc,zdd,guardV,nth,zde,zdf,zdg,zdh,zdi,Nat.reduceEqDiff,reduceIte,zdj,zdk,zdl,resultsA,RetO,Nat.reduceLT,zdm,zdn,zdo,zdp,zdq,zdr,zds,zdt,zdu,zdv,zdw,zdx,zdy,zdz,zea,zeb,zec,zed,zee,zef,zeg,zeh,zei,zej,zek,zel,zem,zen,zeo]
  refine WK_regionT 15 ⟨by kernel_rfl, by kernel_rfl, by kernel_rfl⟩ ?_
  simp (maxSteps := 400000) (disch := omega) only [zaa,zab,zac,zad,zae,zaf,zag,zah,zai,zaj,zak,zal,zam,zan,zao,zap,zaq,zar,zas,zat,zau,zav,zaw,zax,zay,zaz,zba,zbb,zbc,zbd,zbe,zbf,zbg,zbh,zbi,zbj,zbk,zbl,zbm,zbn,zbo,zbp,zbq,zbr,zbs,zbt,zbu,zbv,zbw,zbx,zby,zbz,zca,zcb,zcc,zcd,zce,zcf,zcg,zch,zci,zcj,zck,zcl,zcm,zcn,zco,zcp,zcq,zcr,zcs,zct,zcu,zcv,zcw,zcx,zcy,zcz,zda,zdb,zdc,zdd,guardV,nth,zde,zdf,zdg,zdh,zdi,Nat.reduceEqDiff,reduceIte,zdj,zdk,zdl,resultsA,RetO,Nat.reduceLT,zdm,zdn,zdo,zdp,zdq,zdr,zds,zdt,zdu,zdv,zdw,zdx,zdy,zdz,zea,zeb,zec,zed,zee,zef,zeg,zeh,zei,zej,zek,zel,zem,zen,zeo, idxP62, load5, Int.toNat_zero, Int.reduceToNat, Nat.zero_mul, Nat.one_mul, Nat.mul_one, Nat.add_zero, Nat.zero_add, lz0, lz1, conv53z, wrap_i64, hlen1, binO_rem hka, tmod_nat]
  have hi : a1 % (w.length + 1) ≤ w.length := by have := Nat.mod_lt a1 (show 0 < w.length + 1 by omega); omega
  have hj : a2 % (w.length + 1) ≤ o.length := by have := Nat.mod_lt a2 (show 0 < w.length + 1 by omega); omega
  generalize a1 % (w.length + 1) = i at hi ⊢
  generalize a2 % (w.length + 1) = j at hj ⊢
  refine WK_regionT 15 ⟨by kernel_rfl, by kernel_rfl, by kernel_rfl⟩ ?_
  simp (maxSteps := 400000) (disch := omega) only [zaa,zab,zac,zad,zae,zaf,zag,zah,zai,zaj,zak,zal,zam,zan,zao,zap,zaq,zar,zas,zat,zau,zav,zaw,zax,zay,zaz,zba,zbb,zbc,zbd,zbe,zbf,zbg,zbh,zbi,zbj,zbk,zbl,zbm,zbn,zbo,zbp,zbq,zbr,zbs,zbt,zbu,zbv,zbw,zbx,zby,zbz,zca,zcb,zcc,zcd,zce,zcf,zcg,zch,zci,zcj,zck,zcl,zcm,zcn,zco,zcp,zcq,zcr,zcs,zct,zcu,zcv,zcw,zcx,zcy,zcz,zda,zdb,zdc,zdd,guardV,nth,zde,zdf,zdg,zdh,zdi,Nat.reduceEqDiff,reduceIte,zdj,zdk,zdl,resultsA,RetO,Nat.reduceLT,zdm,zdn,zdo,zdp,zdq,zdr,zds,zdt,zdu,zdv,zdw,zdx,zdy,zdz,zea,zeb,zec,zed,zee,zef,zeg,zeh,zei,zej,zek,zel,zem,zen,zeo, Int.toNat_natCast]
  obtain ⟨s, es⟩ : ∃ s, w.take i = s := ⟨_, rfl⟩
  obtain ⟨t, et⟩ : ∃ t, w.drop i = t := ⟨_, rfl⟩
  obtain ⟨u, eu⟩ : ∃ u, o.take j = u := ⟨_, rfl⟩
  obtain ⟨v, ev⟩ : ∃ v, o.drop j = v := ⟨_, rfl⟩
  have hst : s ++ t = w := by rw [← es, ← et, List.take_append_drop]
  have huv : u ++ v = o := by rw [← eu, ← ev, List.take_append_drop]
  rw [es, et, eu, ev]
  have os : OkL k s := fun c hc => hw c (by rw [← hst]; exact List.mem_append_left _ hc)
  have ot : OkL k t := fun c hc => hw c (by rw [← hst]; exact List.mem_append_right _ hc)
  have ou : OkL k u := fun c hc => ho c (by rw [← huv]; exact List.mem_append_left _ hc)
  have ov : OkL k v := fun c hc => ho c (by rw [← huv]; exact List.mem_append_right _ hc)
  have ll1 : s.length + t.length = w.length := by rw [← hst, List.length_append]
  have ll2 : u.length + v.length = o.length := by rw [← huv, List.length_append]
  have hlev := levi_law (pc_sym' ps) (os.mono (k' := 6) (by omega)) (ot.mono (k' := 6) (by omega)) (ou.mono (k' := 6) (by omega)) (ov.mono (k' := 6) (by omega)) (by rw [hst, huv]; exact hsw)
  have hok : MtOk (pc ps) k s u (mt (pc ps) 6 s u) := by
    rw [mt_same (cm := pc ps) (cm' := pc ps) (fun _ _ _ _ => rfl) (show k ≤ 6 by omega) os (ou.mono (by omega))]
    exact mt_ok (by omega) _ rfl os ou
  obtain ⟨r, hr⟩ : ∃ r, mt (pc ps) 6 s u = r := ⟨_, rfl⟩
  rw [hr] at hlev hok
  have ly : lst (pc ps) 6 r.2.1 = lst (pc ps) k r.2.1 := lst_wide (K := 6) hok.o2 (by omega)
  have lz : lst (pc ps) 6 r.2.2 = lst (pc ps) k r.2.2 := lst_wide (K := 6) hok.o3 (by omega)
  rw [ly, lz] at hlev
  have hl1 := hok.l1
  have hl2 := hok.l2
  have yl := lst_len (cm := pc ps) (K := k) (l := r.2.1)
  have zl := lst_len (cm := pc ps) (K := k) (l := r.2.2)
  have oy : OkL k (lst (pc ps) k r.2.1) := lst_ok (by omega)
  have oz : OkL k (lst (pc ps) k r.2.2) := lst_ok (by omega)
  have e1 : chkE k ps 40 [s, u] = 0 := chk_two hT os ou (by omega) (by omega)
  have e2 : chkE k ps 40 [r.1, s] = 0 := chk_two hT hok.o1 os (by omega) (by omega)
  have e3 : chkE k ps 40 [r.1, u] = 0 := chk_two hT hok.o1 ou (by omega) (by omega)
  have e4 : chkE k ps 40 [lst (pc ps) k r.2.2, t] = 0 := chk_two hT oz ot (by omega) (by omega)
  have e5 : chkE k ps 40 [lst (pc ps) k r.2.1, v] = 0 := chk_two hT oy ov (by omega) (by omega)
  refine CallO_f (Meet_spec (k := k) (by omega) hvp (by omega) (by omega) (by omega) (by omega)) (by omega) fun q h6 hp6 hq => ?_
  have m6 := hp6.next
  have pr6 : Pres h0.next h0 h6 := pr5.trans (hp6.le (by omega))
  have hvp6 : SlV h6.blks (h3.next + 1) h5.next 2 ps.length (prs ps) (.slice A ps.length ps.length) := hvp.mono fun b _ hb => hp6.get b (by omega)
  obtain rfl : q = .tuple #[strV r.1, .int .i64 0] := by
    rcases hq with ⟨h, _⟩ | ⟨_, rfl⟩
    · exact absurd e1 h
    · rw [hr]
  simp only [zaa,zab,zac,zad,zae,zaf,zag,zah,zai,zaj,zak,zal,zam,zan,zao,zap,zaq,zar,zas,zat,zau,zav,zaw,zax,zay,zaz,zba,zbb,zbc,zbd,zbe,zbf,zbg,zbh,zbi,zbj,zbk,zbl,zbm,zbn,zbo,zbp,zbq,zbr,zbs,zbt,zbu,zbv,zbw,zbx,zby,zbz,zca,zcb,zcc,zcd,zce,zcf,zcg,zch,zci,zcj,zck,zcl,zcm,zcn,zco,zcp,zcq,zcr,zcs,zct,zcu,zcv,zcw,zcx,zcy,zcz,zda,zdb,zdc,zdd,guardV,nth,zde,zdf,zdg,zdh,zdi,Nat.reduceEqDiff,reduceIte,zdj,zdk,zdl,resultsA,RetO,Nat.reduceLT,zdm,zdn,zdo,zdp,zdq,zdr,zds,zdt,zdu,zdv,zdw,zdx,zdy,zdz,zea,zeb,zec,zed,zee,zef,zeg,zeh,zei,zej,zek,zel,zem,zen,zeo]
  refine CallO_f (Rest_spec (k := k) (by omega) hvp6 (by omega) (by omega) (by omega) (by omega)) (by omega) fun q h7 hp7 hq => ?_
  have m7 := hp7.next
  have pr7 : Pres h0.next h0 h7 := pr6.trans (hp7.le (by omega))
  have hvp7 : SlV h7.blks (h3.next + 1) h5.next 2 ps.length (prs ps) (.slice A ps.length ps.length) := hvp6.mono fun b _ hb => hp7.get b (by omega)
  obtain rfl : q = .tuple #[strV (lst (pc ps) k r.2.1), .int .i64 0] := by
    rcases hq with ⟨h, _⟩ | ⟨_, rfl⟩
    · exact absurd e2 h
    · rw [hok.t1, Int.toNat_natCast]; rfl
  simp only [zaa,zab,zac,zad,zae,zaf,zag,zah,zai,zaj,zak,zal,zam,zan,zao,zap,zaq,zar,zas,zat,zau,zav,zaw,zax,zay,zaz,zba,zbb,zbc,zbd,zbe,zbf,zbg,zbh,zbi,zbj,zbk,zbl,zbm,zbn,zbo,zbp,zbq,zbr,zbs,zbt,zbu,zbv,zbw,zbx,zby,zbz,zca,zcb,zcc,zcd,zce,zcf,zcg,zch,zci,zcj,zck,zcl,zcm,zcn,zco,zcp,zcq,zcr,zcs,zct,zcu,zcv,zcw,zcx,zcy,zcz,zda,zdb,zdc,zdd,guardV,nth,zde,zdf,zdg,zdh,zdi,Nat.reduceEqDiff,reduceIte,zdj,zdk,zdl,resultsA,RetO,Nat.reduceLT,zdm,zdn,zdo,zdp,zdq,zdr,zds,zdt,zdu,zdv,zdw,zdx,zdy,zdz,zea,zeb,zec,zed,zee,zef,zeg,zeh,zei,zej,zek,zel,zem,zen,zeo]
  refine CallO_f (Rest_spec (k := k) (by omega) hvp7 (by omega) (by omega) (by omega) (by omega)) (by omega) fun q h8 hp8 hq => ?_
  have m8 := hp8.next
  have pr8 : Pres h0.next h0 h8 := pr7.trans (hp8.le (by omega))
  have hvp8 : SlV h8.blks (h3.next + 1) h5.next 2 ps.length (prs ps) (.slice A ps.length ps.length) := hvp7.mono fun b _ hb => hp8.get b (by omega)
  have ht8 := ht.pres pr8 (fun x hx => by have := tabs_lt x hx; omega)
  obtain rfl : q = .tuple #[strV (lst (pc ps) k r.2.2), .int .i64 0] := by
    rcases hq with ⟨h, _⟩ | ⟨_, rfl⟩
    · exact absurd e3 h
    · rw [hok.t2, Int.toNat_natCast]; rfl
  obtain ⟨Y, eY⟩ : ∃ Y, lst (pc ps) k r.2.1 = Y := ⟨_, rfl⟩
  obtain ⟨Z, eZ⟩ : ∃ Z, lst (pc ps) k r.2.2 = Z := ⟨_, rfl⟩
  rw [eY] at hlev yl oy e5 ⊢
  rw [eZ] at hlev zl oz e4 ⊢
  obtain ⟨hall, w0, ⟨a, ha, hwa⟩, d, hd, hwd⟩ := hlev
  have had : lst (pc ps) k a = lst (pc ps) k d := (hwa.symm.trans hwd).lst'
  have dn : decide ((0 : Int) ≠ 0) = false := rfl
  simp only [zaa,zab,zac,zad,zae,zaf,zag,zah,zai,zaj,zak,zal,zam,zan,zao,zap,zaq,zar,zas,zat,zau,zav,zaw,zax,zay,zaz,zba,zbb,zbc,zbd,zbe,zbf,zbg,zbh,zbi,zbj,zbk,zbl,zbm,zbn,zbo,zbp,zbq,zbr,zbs,zbt,zbu,zbv,zbw,zbx,zby,zbz,zca,zcb,zcc,zcd,zce,zcf,zcg,zch,zci,zcj,zck,zcl,zcm,zcn,zco,zcp,zcq,zcr,zcs,zct,zcu,zcv,zcw,zcx,zcy,zcz,zda,zdb,zdc,zdd,guardV,nth,zde,zdf,zdg,zdh,zdi,Nat.reduceEqDiff,reduceIte,zdj,zdk,zdl,resultsA,RetO,Nat.reduceLT,zdm,zdn,zdo,zdp,zdq,zdr,zds,zdt,zdu,zdv,zdw,zdx,zdy,zdz,zea,zeb,zec,zed,zee,zef,zeg,zeh,zei,zej,zek,zel,zem,zen,zeo, dn]
  refine Call_lives ht8 (by omega) ?_
  simp only [zaa,zab,zac,zad,zae,zaf,zag,zah,zai,zaj,zak,zal,zam,zan,zao,zap,zaq,zar,zas,zat,zau,zav,zaw,zax,zay,zaz,zba,zbb,zbc,zbd,zbe,zbf,zbg,zbh,zbi,zbj,zbk,zbl,zbm,zbn,zbo,zbp,zbq,zbr,zbs,zbt,zbu,zbv,zbw,zbx,zby,zbz,zca,zcb,zcc,zcd,zce,zcf,zcg,zch,zci,zcj,zck,zcl,zcm,zcn,zco,zcp,zcq,zcr,zcs,zct,zcu,zcv,zcw,zcx,zcy,zcz,zda,zdb,zdc,zdd,guardV,nth,zde,zdf,zdg,zdh,zdi,Nat.reduceEqDiff,reduceIte,zdj,zdk,zdl,resultsA,RetO,Nat.reduceLT,zdm,zdn,zdo,zdp,zdq,zdr,zds,zdt,zdu,zdv,zdw,zdx,zdy,zdz,zea,zeb,zec,zed,zee,zef,zeg,zeh,zei,zej,zek,zel,zem,zen,zeo]
  refine CallO_f (Rest_spec (k := k) (by omega) hvp8 (by omega) (by omega) (by omega) (by omega)) (by omega) fun q h9 hp9 hq => ?_
  have m9 := hp9.next
  have pr9 : Pres h0.next h0 h9 := pr8.trans (hp9.le (by omega))
  have hvp9 : SlV h9.blks (h3.next + 1) h5.next 2 ps.length (prs ps) (.slice A ps.length ps.length) := hvp8.mono fun b _ hb => hp9.get b (by omega)
  obtain rfl : q = .tuple #[strV (lst (pc ps) k a), .int .i64 0] := by
    rcases hq with ⟨h, _⟩ | ⟨_, rfl⟩
    · exact absurd e4 h
    · rw [ha, Int.toNat_natCast]; rfl
  simp only [zaa,zab,zac,zad,zae,zaf,zag,zah,zai,zaj,zak,zal,zam,zan,zao,zap,zaq,zar,zas,zat,zau,zav,zaw,zax,zay,zaz,zba,zbb,zbc,zbd,zbe,zbf,zbg,zbh,zbi,zbj,zbk,zbl,zbm,zbn,zbo,zbp,zbq,zbr,zbs,zbt,zbu,zbv,zbw,zbx,zby,zbz,zca,zcb,zcc,zcd,zce,zcf,zcg,zch,zci,zcj,zck,zcl,zcm,zcn,zco,zcp,zcq,zcr,zcs,zct,zcu,zcv,zcw,zcx,zcy,zcz,zda,zdb,zdc,zdd,guardV,nth,zde,zdf,zdg,zdh,zdi,Nat.reduceEqDiff,reduceIte,zdj,zdk,zdl,resultsA,RetO,Nat.reduceLT,zdm,zdn,zdo,zdp,zdq,zdr,zds,zdt,zdu,zdv,zdw,zdx,zdy,zdz,zea,zeb,zec,zed,zee,zef,zeg,zeh,zei,zej,zek,zel,zem,zen,zeo]
  refine CallO_f (Rest_spec (k := k) (by omega) hvp9 (by omega) (by omega) (by omega) (by omega)) (by omega) fun q h10 hp10 hq => ?_
  have m10 := hp10.next
  have pr10 : Pres h0.next h0 h10 := pr9.trans (hp10.le (by omega))
  have hvp10 : SlV h10.blks (h3.next + 1) h5.next 2 ps.length (prs ps) (.slice A ps.length ps.length) := hvp9.mono fun b _ hb => hp10.get b (by omega)
  obtain rfl : q = .tuple #[strV (lst (pc ps) k a), .int .i64 0] := by
    rcases hq with ⟨h, _⟩ | ⟨_, rfl⟩
    · exact absurd e5 h
    · rw [hd, Int.toNat_natCast, had]; rfl
  have dl : decide (lst (pc ps) k a ≠ lst (pc ps) k a) = false := decide_eq_false fun h => h rfl
  simp only [zaa,zab,zac,zad,zae,zaf,zag,zah,zai,zaj,zak,zal,zam,zan,zao,zap,zaq,zar,zas,zat,zau,zav,zaw,zax,zay,zaz,zba,zbb,zbc,zbd,zbe,zbf,zbg,zbh,zbi,zbj,zbk,zbl,zbm,zbn,zbo,zbp,zbq,zbr,zbs,zbt,zbu,zbv,zbw,zbx,zby,zbz,zca,zcb,zcc,zcd,zce,zcf,zcg,zch,zci,zcj,zck,zcl,zcm,zcn,zco,zcp,zcq,zcr,zcs,zct,zcu,zcv,zcw,zcx,zcy,zcz,zda,zdb,zdc,zdd,guardV,nth,zde,zdf,zdg,zdh,zdi,Nat.reduceEqDiff,reduceIte,zdj,zdk,zdl,resultsA,RetO,Nat.reduceLT,zdm,zdn,zdo,zdp,zdq,zdr,zds,zdt,zdu,zdv,zdw,zdx,zdy,zdz,zea,zeb,zec,zed,zee,zef,zeg,zeh,zei,zej,zek,zel,zem,zen,zeo, dn, dl]
  rw [allC_iff] at hall
  refine WK_loopN (fun jj α h' => ∃ ii : Nat, h' = h10 ∧ ii + jj = Y.length ∧ α.get 8 = some (.slice A ps.length ps.length) ∧ α.get 19 = some (strV Y) ∧ α.get 21 = some (strV Z) ∧ α.get 27 = some (.int .i64 ii)) Y.length
    ⟨0, rfl, by omega, by simp only [zaa,zab,zac,zad,zae,zaf,zag,zah,zai,zaj,zak,zal,zam,zan,zao,zap,zaq,zar,zas,zat,zau,zav,zaw,zax,zay,zaz,zba,zbb,zbc,zbd,zbe,zbf,zbg,zbh,zbi,zbj,zbk,zbl,zbm,zbn,zbo,zbp,zbq,zbr,zbs,zbt,zbu,zbv,zbw,zbx,zby,zbz,zca,zcb,zcc,zcd,zce,zcf,zcg,zch,zci,zcj,zck,zcl,zcm,zcn,zco,zcp,zcq,zcr,zcs,zct,zcu,zcv,zcw,zcx,zcy,zcz,zda,zdb,zdc,zdd,guardV,nth,zde,zdf,zdg,zdh,zdi,Nat.reduceEqDiff,reduceIte,zdj,zdk,zdl,resultsA,RetO,Nat.reduceLT,zdm,zdn,zdo,zdp,zdq,zdr,zds,zdt,zdu,zdv,zdw,zdx,zdy,zdz,zea,zeb,zec,zed,zee,zef,zeg,zeh,zei,zej,zek,zel,zem,zen,zeo], by simp only [zaa,zab,zac,zad,zae,zaf,zag,zah,zai,zaj,zak,zal,zam,zan,zao,zap,zaq,zar,zas,zat,zau,zav,zaw,zax,zay,zaz,zba,zbb,zbc,zbd,zbe,zbf,zbg,zbh,zbi,zbj,zbk,zbl,zbm,zbn,zbo,zbp,zbq,zbr,zbs,zbt,zbu,zbv,zbw,zbx,zby,zbz,zca,zcb,zcc,zcd,zce,zcf,zcg,zch,zci,zcj,zck,zcl,zcm,zcn,zco,zcp,zcq,zcr,zcs,zct,zcu,zcv,zcw,zcx,zcy,zcz,zda,zdb,zdc,zdd,guardV,nth,zde,zdf,zdg,zdh,zdi,Nat.reduceEqDiff,reduceIte,zdj,zdk,zdl,resultsA,RetO,Nat.reduceLT,zdm,zdn,zdo,zdp,zdq,zdr,zds,zdt,zdu,zdv,zdw,zdx,zdy,zdz,zea,zeb,zec,zed,zee,zef,zeg,zeh,zei,zej,zek,zel,zem,zen,zeo], by simp only [zaa,zab,zac,zad,zae,zaf,zag,zah,zai,zaj,zak,zal,zam,zan,zao,zap,zaq,zar,zas,zat,zau,zav,zaw,zax,zay,zaz,zba,zbb,zbc,zbd,zbe,zbf,zbg,zbh,zbi,zbj,zbk,zbl,zbm,zbn,zbo,zbp,zbq,zbr,zbs,zbt,zbu,zbv,zbw,zbx,zby,zbz,zca,zcb,zcc,zcd,zce,zcf,zcg,zch,zci,zcj,zck,zcl,zcm,zcn,zco,zcp,zcq,zcr,zcs,zct,zcu,zcv,zcw,zcx,zcy,zcz,zda,zdb,zdc,zdd,guardV,nth,zde,zdf,zdg,zdh,zdi,Nat.reduceEqDiff,reduceIte,zdj,zdk,zdl,resultsA,RetO,Nat.reduceLT,zdm,zdn,zdo,zdp,zdq,zdr,zds,zdt,zdu,zdv,zdw,zdx,zdy,zdz,zea,zeb,zec,zed,zee,zef,zeg,zeh,zei,zej,zek,zel,zem,zen,zeo], by simp only [zaa,zab,zac,zad,zae,zaf,zag,zah,zai,zaj,zak,zal,zam,zan,zao,zap,zaq,zar,zas,zat,zau,zav,zaw,zax,zay,zaz,zba,zbb,zbc,zbd,zbe,zbf,zbg,zbh,zbi,zbj,zbk,zbl,zbm,zbn,zbo,zbp,zbq,zbr,zbs,zbt,zbu,zbv,zbw,zbx,zby,zbz,zca,zcb,zcc,zcd,zce,zcf,zcg,zch,zci,zcj,zck,zcl,zcm,zcn,zco,zcp,zcq,zcr,zcs,zct,zcu,zcv,zcw,zcx,zcy,zcz,zda,zdb,zdc,zdd,guardV,nth,zde,zdf,zdg,zdh,zdi,Nat.reduceEqDiff,reduceIte,zdj,zdk,zdl,resultsA,RetO,Nat.reduceLT,zdm,zdn,zdo,zdp,zdq,zdr,zds,zdt,zdu,zdv,zdw,zdx,zdy,zdz,zea,zeb,zec,zed,zee,zef,zeg,zeh,zei,zej,zek,zel,zem,zen,zeo]; rfl⟩ (by omega) ?_
  rintro J jj α h' ⟨ii, rfl, hij, f8, f19, f21, f27⟩ hJ
  by_cases hlt : (ii : Int) < Y.length
  · obtain ⟨ch, hc⟩ : ∃ ch, Y[ii]? = some ch := ⟨Y[ii]'(by omega), List.getElem?_eq_getElem (by omega)⟩
    have hcm := List.mem_of_getElem? hc
    have hix1 : ∀ {G : Nat}, idxO (En G) 9 (some (strV Y)) (some (.int .i64 (ii : Int))) = some (.int .u8 ch.toNat) := idx9 (by omega) (by simpa using hc)
    simp (disch := omega) only [zaa,zab,zac,zad,zae,zaf,zag,zah,zai,zaj,zak,zal,zam,zan,zao,zap,zaq,zar,zas,zat,zau,zav,zaw,zax,zay,zaz,zba,zbb,zbc,zbd,zbe,zbf,zbg,zbh,zbi,zbj,zbk,zbl,zbm,zbn,zbo,zbp,zbq,zbr,zbs,zbt,zbu,zbv,zbw,zbx,zby,zbz,zca,zcb,zcc,zcd,zce,zcf,zcg,zch,zci,zcj,zck,zcl,zcm,zcn,zco,zcp,zcq,zcr,zcs,zct,zcu,zcv,zcw,zcx,zcy,zcz,zda,zdb,zdc,zdd,guardV,nth,zde,zdf,zdg,zdh,zdi,Nat.reduceEqDiff,reduceIte,zdj,zdk,zdl,resultsA,RetO,Nat.reduceLT,zdm,zdn,zdo,zdp,zdq,zdr,zds,zdt,zdu,zdv,zdw,zdx,zdy,zdz,zea,zeb,zec,zed,zee,zef,zeg,zeh,zei,zej,zek,zel,zem,zen,zeo, f8, f19, f21, f27, hlt]
    refine WK_loopN (fun j2 β h2' => ∃ i2 : Nat, h2' = h' ∧ i2 + j2 = Z.length ∧ β.get 8 = some (.slice A ps.length ps.length) ∧ β.get 19 = some (strV Y) ∧ β.get 21 = some (strV Z) ∧ β.get 27 = some (.int .i64 ii) ∧ β.get 28 = some (.int .i64 i2)) Z.length
      ⟨0, rfl, by omega, by simp only [zaa,zab,zac,zad,zae,zaf,zag,zah,zai,zaj,zak,zal,zam,zan,zao,zap,zaq,zar,zas,zat,zau,zav,zaw,zax,zay,zaz,zba,zbb,zbc,zbd,zbe,zbf,zbg,zbh,zbi,zbj,zbk,zbl,zbm,zbn,zbo,zbp,zbq,zbr,zbs,zbt,zbu,zbv,zbw,zbx,zby,zbz,zca,zcb,zcc,zcd,zce,zcf,zcg,zch,zci,zcj,zck,zcl,zcm,zcn,zco,zcp,zcq,zcr,zcs,zct,zcu,zcv,zcw,zcx,zcy,zcz,zda,zdb,zdc,zdd,guardV,nth,zde,zdf,zdg,zdh,zdi,Nat.reduceEqDiff,reduceIte,zdj,zdk,zdl,resultsA,RetO,Nat.reduceLT,zdm,zdn,zdo,zdp,zdq,zdr,zds,zdt,zdu,zdv,zdw,zdx,zdy,zdz,zea,zeb,zec,zed,zee,zef,zeg,zeh,zei,zej,zek,zel,zem,zen,zeo, f8], by simp only [zaa,zab,zac,zad,zae,zaf,zag,zah,zai,zaj,zak,zal,zam,zan,zao,zap,zaq,zar,zas,zat,zau,zav,zaw,zax,zay,zaz,zba,zbb,zbc,zbd,zbe,zbf,zbg,zbh,zbi,zbj,zbk,zbl,zbm,zbn,zbo,zbp,zbq,zbr,zbs,zbt,zbu,zbv,zbw,zbx,zby,zbz,zca,zcb,zcc,zcd,zce,zcf,zcg,zch,zci,zcj,zck,zcl,zcm,zcn,zco,zcp,zcq,zcr,zcs,zct,zcu,zcv,zcw,zcx,zcy,zcz,zda,zdb,zdc,zdd,guardV,nth,zde,zdf,zdg,zdh,zdi,Nat.reduceEqDiff,reduceIte,zdj,zdk,zdl,resultsA,RetO,Nat.reduceLT,zdm,zdn,zdo,zdp,zdq,zdr,zds,zdt,zdu,zdv,zdw,zdx,zdy,zdz,zea,zeb,zec,zed,zee,zef,zeg,zeh,zei,zej,zek,zel,zem,zen,zeo, f19], by simp only [zaa,zab,zac,zad,zae,zaf,zag,zah,zai,zaj,zak,zal,zam,zan,zao,zap,zaq,zar,zas,zat,zau,zav,zaw,zax,zay,zaz,zba,zbb,zbc,zbd,zbe,zbf,zbg,zbh,zbi,zbj,zbk,zbl,zbm,zbn,zbo,zbp,zbq,zbr,zbs,zbt,zbu,zbv,zbw,zbx,zby,zbz,zca,zcb,zcc,zcd,zce,zcf,zcg,zch,zci,zcj,zck,zcl,zcm,zcn,zco,zcp,zcq,zcr,zcs,zct,zcu,zcv,zcw,zcx,zcy,zcz,zda,zdb,zdc,zdd,guardV,nth,zde,zdf,zdg,zdh,zdi,Nat.reduceEqDiff,reduceIte,zdj,zdk,zdl,resultsA,RetO,Nat.reduceLT,zdm,zdn,zdo,zdp,zdq,zdr,zds,zdt,zdu,zdv,zdw,zdx,zdy,zdz,zea,zeb,zec,zed,zee,zef,zeg,zeh,zei,zej,zek,zel,zem,zen,zeo, f21], by simp only [zaa,zab,zac,zad,zae,zaf,zag,zah,zai,zaj,zak,zal,zam,zan,zao,zap,zaq,zar,zas,zat,zau,zav,zaw,zax,zay,zaz,zba,zbb,zbc,zbd,zbe,zbf,zbg,zbh,zbi,zbj,zbk,zbl,zbm,zbn,zbo,zbp,zbq,zbr,zbs,zbt,zbu,zbv,zbw,zbx,zby,zbz,zca,zcb,zcc,zcd,zce,zcf,zcg,zch,zci,zcj,zck,zcl,zcm,zcn,zco,zcp,zcq,zcr,zcs,zct,zcu,zcv,zcw,zcx,zcy,zcz,zda,zdb,zdc,zdd,guardV,nth,zde,zdf,zdg,zdh,zdi,Nat.reduceEqDiff,reduceIte,zdj,zdk,zdl,resultsA,RetO,Nat.reduceLT,zdm,zdn,zdo,zdp,zdq,zdr,zds,zdt,zdu,zdv,zdw,zdx,zdy,zdz,zea,zeb,zec,zed,zee,zef,zeg,zeh,zei,zej,zek,zel,zem,zen,zeo, f27], by simp only [zaa,zab,zac,zad,zae,zaf,zag,zah,zai,zaj,zak,zal,zam,zan,zao,zap,zaq,zar,zas,zat,zau,zav,zaw,zax,zay,zaz,zba,zbb,zbc,zbd,zbe,zbf,zbg,zbh,zbi,zbj,zbk,zbl,zbm,zbn,zbo,zbp,zbq,zbr,zbs,zbt,zbu,zbv,zbw,zbx,zby,zbz,zca,zcb,zcc,zcd,zce,zcf,zcg,zch,zci,zcj,zck,zcl,zcm,zcn,zco,zcp,zcq,zcr,zcs,zct,zcu,zcv,zcw,zcx,zcy,zcz,zda,zdb,zdc,zdd,guardV,nth,zde,zdf,zdg,zdh,zdi,Nat.reduceEqDiff,reduceIte,zdj,zdk,zdl,resultsA,RetO,Nat.reduceLT,zdm,zdn,zdo,zdp,zdq,zdr,zds,zdt,zdu,zdv,zdw,zdx,zdy,zdz,zea,zeb,zec,zed,zee,zef,zeg,zeh,zei,zej,zek,zel,zem,zen,zeo]; rfl⟩ (by omega) ?_
    rintro J2 j2 β h2' ⟨i2, rfl, hij2, g8, g19, g21, g27, g28⟩ hJ2
    by_cases hlt2 : (i2 : Int) < Z.length
    · obtain ⟨dh, hdc⟩ : ∃ dh, Z[i2]? = some dh := ⟨Z[i2]'(by omega), List.getElem?_eq_getElem (by omega)⟩
      have hdm := List.mem_of_getElem? hdc
      have hix2 : ∀ {G : Nat}, idxO (En G) 9 (some (strV Z)) (some (.int .i64 (i2 : Int))) = some (.int .u8 dh.toNat) := idx9 (by omega) (by simpa using hdc)
      simp (disch := omega) only [zaa,zab,zac,zad,zae,zaf,zag,zah,zai,zaj,zak,zal,zam,zan,zao,zap,zaq,zar,zas,zat,zau,zav,zaw,zax,zay,zaz,zba,zbb,zbc,zbd,zbe,zbf,zbg,zbh,zbi,zbj,zbk,zbl,zbm,zbn,zbo,zbp,zbq,zbr,zbs,zbt,zbu,zbv,zbw,zbx,zby,zbz,zca,zcb,zcc,zcd,zce,zcf,zcg,zch,zci,zcj,zck,zcl,zcm,zcn,zco,zcp,zcq,zcr,zcs,zct,zcu,zcv,zcw,zcx,zcy,zcz,zda,zdb,zdc,zdd,guardV,nth,zde,zdf,zdg,zdh,zdi,Nat.reduceEqDiff,reduceIte,zdj,zdk,zdl,resultsA,RetO,Nat.reduceLT,zdm,zdn,zdo,zdp,zdq,zdr,zds,zdt,zdu,zdv,zdw,zdx,zdy,zdz,zea,zeb,zec,zed,zee,zef,zeg,zeh,zei,zej,zek,zel,zem,zen,zeo, g8, g19, g21, g27, g28, hlt2]
      refine WK_regionT 7 ⟨by kernel_rfl, by kernel_rfl, by kernel_rfl⟩ ?_
      simp only [zaa,zab,zac,zad,zae,zaf,zag,zah,zai,zaj,zak,zal,zam,zan,zao,zap,zaq,zar,zas,zat,zau,zav,zaw,zax,zay,zaz,zba,zbb,zbc,zbd,zbe,zbf,zbg,zbh,zbi,zbj,zbk,zbl,zbm,zbn,zbo,zbp,zbq,zbr,zbs,zbt,zbu,zbv,zbw,zbx,zby,zbz,zca,zcb,zcc,zcd,zce,zcf,zcg,zch,zci,zcj,zck,zcl,zcm,zcn,zco,zcp,zcq,zcr,zcs,zct,zcu,zcv,zcw,zcx,zcy,zcz,zda,zdb,zdc,zdd,guardV,nth,zde,zdf,zdg,zdh,zdi,Nat.reduceEqDiff,reduceIte,zdj,zdk,zdl,resultsA,RetO,Nat.reduceLT,zdm,zdn,zdo,zdp,zdq,zdr,zds,zdt,zdu,zdv,zdw,zdx,zdy,zdz,zea,zeb,zec,zed,zee,zef,zeg,zeh,zei,zej,zek,zel,zem,zen,zeo, g8, g19, g21, g27, g28, hix1, hix2]
      refine CallO_same (free_spec hvp10 (by omega) (show k ≤ 6 by omega) hps (oy ch hcm).1 (oz dh hdm).1) (by omega) fun q hq => ?_
      subst hq
      rw [hall ch hcm dh hdm]
      simp (disch := omega) only [zaa,zab,zac,zad,zae,zaf,zag,zah,zai,zaj,zak,zal,zam,zan,zao,zap,zaq,zar,zas,zat,zau,zav,zaw,zax,zay,zaz,zba,zbb,zbc,zbd,zbe,zbf,zbg,zbh,zbi,zbj,zbk,zbl,zbm,zbn,zbo,zbp,zbq,zbr,zbs,zbt,zbu,zbv,zbw,zbx,zby,zbz,zca,zcb,zcc,zcd,zce,zcf,zcg,zch,zci,zcj,zck,zcl,zcm,zcn,zco,zcp,zcq,zcr,zcs,zct,zcu,zcv,zcw,zcx,zcy,zcz,zda,zdb,zdc,zdd,guardV,nth,zde,zdf,zdg,zdh,zdi,Nat.reduceEqDiff,reduceIte,zdj,zdk,zdl,resultsA,RetO,Nat.reduceLT,zdm,zdn,zdo,zdp,zdq,zdr,zds,zdt,zdu,zdv,zdw,zdx,zdy,zdz,zea,zeb,zec,zed,zee,zef,zeg,zeh,zei,zej,zek,zel,zem,zen,zeo, g28, wrap_i64]
      exact hJ2 (j2 - 1) _ _ (by omega) ⟨i2 + 1, rfl, by omega, by simp only [zaa,zab,zac,zad,zae,zaf,zag,zah,zai,zaj,zak,zal,zam,zan,zao,zap,zaq,zar,zas,zat,zau,zav,zaw,zax,zay,zaz,zba,zbb,zbc,zbd,zbe,zbf,zbg,zbh,zbi,zbj,zbk,zbl,zbm,zbn,zbo,zbp,zbq,zbr,zbs,zbt,zbu,zbv,zbw,zbx,zby,zbz,zca,zcb,zcc,zcd,zce,zcf,zcg,zch,zci,zcj,zck,zcl,zcm,zcn,zco,zcp,zcq,zcr,zcs,zct,zcu,zcv,zcw,zcx,zcy,zcz,zda,zdb,zdc,zdd,guardV,nth,zde,zdf,zdg,zdh,zdi,Nat.reduceEqDiff,reduceIte,zdj,zdk,zdl,resultsA,RetO,Nat.reduceLT,zdm,zdn,zdo,zdp,zdq,zdr,zds,zdt,zdu,zdv,zdw,zdx,zdy,zdz,zea,zeb,zec,zed,zee,zef,zeg,zeh,zei,zej,zek,zel,zem,zen,zeo, g8], by simp only [zaa,zab,zac,zad,zae,zaf,zag,zah,zai,zaj,zak,zal,zam,zan,zao,zap,zaq,zar,zas,zat,zau,zav,zaw,zax,zay,zaz,zba,zbb,zbc,zbd,zbe,zbf,zbg,zbh,zbi,zbj,zbk,zbl,zbm,zbn,zbo,zbp,zbq,zbr,zbs,zbt,zbu,zbv,zbw,zbx,zby,zbz,zca,zcb,zcc,zcd,zce,zcf,zcg,zch,zci,zcj,zck,zcl,zcm,zcn,zco,zcp,zcq,zcr,zcs,zct,zcu,zcv,zcw,zcx,zcy,zcz,zda,zdb,zdc,zdd,guardV,nth,zde,zdf,zdg,zdh,zdi,Nat.reduceEqDiff,reduceIte,zdj,zdk,zdl,resultsA,RetO,Nat.reduceLT,zdm,zdn,zdo,zdp,zdq,zdr,zds,zdt,zdu,zdv,zdw,zdx,zdy,zdz,zea,zeb,zec,zed,zee,zef,zeg,zeh,zei,zej,zek,zel,zem,zen,zeo, g19], by simp only [zaa,zab,zac,zad,zae,zaf,zag,zah,zai,zaj,zak,zal,zam,zan,zao,zap,zaq,zar,zas,zat,zau,zav,zaw,zax,zay,zaz,zba,zbb,zbc,zbd,zbe,zbf,zbg,zbh,zbi,zbj,zbk,zbl,zbm,zbn,zbo,zbp,zbq,zbr,zbs,zbt,zbu,zbv,zbw,zbx,zby,zbz,zca,zcb,zcc,zcd,zce,zcf,zcg,zch,zci,zcj,zck,zcl,zcm,zcn,zco,zcp,zcq,zcr,zcs,zct,zcu,zcv,zcw,zcx,zcy,zcz,zda,zdb,zdc,zdd,guardV,nth,zde,zdf,zdg,zdh,zdi,Nat.reduceEqDiff,reduceIte,zdj,zdk,zdl,resultsA,RetO,Nat.reduceLT,zdm,zdn,zdo,zdp,zdq,zdr,zds,zdt,zdu,zdv,zdw,zdx,zdy,zdz,zea,zeb,zec,zed,zee,zef,zeg,zeh,zei,zej,zek,zel,zem,zen,zeo, g21], by simp only [zaa,zab,zac,zad,zae,zaf,zag,zah,zai,zaj,zak,zal,zam,zan,zao,zap,zaq,zar,zas,zat,zau,zav,zaw,zax,zay,zaz,zba,zbb,zbc,zbd,zbe,zbf,zbg,zbh,zbi,zbj,zbk,zbl,zbm,zbn,zbo,zbp,zbq,zbr,zbs,zbt,zbu,zbv,zbw,zbx,zby,zbz,zca,zcb,zcc,zcd,zce,zcf,zcg,zch,zci,zcj,zck,zcl,zcm,zcn,zco,zcp,zcq,zcr,zcs,zct,zcu,zcv,zcw,zcx,zcy,zcz,zda,zdb,zdc,zdd,guardV,nth,zde,zdf,zdg,zdh,zdi,Nat.reduceEqDiff,reduceIte,zdj,zdk,zdl,resultsA,RetO,Nat.reduceLT,zdm,zdn,zdo,zdp,zdq,zdr,zds,zdt,zdu,zdv,zdw,zdx,zdy,zdz,zea,zeb,zec,zed,zee,zef,zeg,zeh,zei,zej,zek,zel,zem,zen,zeo, g27], by simp only [zaa,zab,zac,zad,zae,zaf,zag,zah,zai,zaj,zak,zal,zam,zan,zao,zap,zaq,zar,zas,zat,zau,zav,zaw,zax,zay,zaz,zba,zbb,zbc,zbd,zbe,zbf,zbg,zbh,zbi,zbj,zbk,zbl,zbm,zbn,zbo,zbp,zbq,zbr,zbs,zbt,zbu,zbv,zbw,zbx,zby,zbz,zca,zcb,zcc,zcd,zce,zcf,zcg,zch,zci,zcj,zck,zcl,zcm,zcn,zco,zcp,zcq,zcr,zcs,zct,zcu,zcv,zcw,zcx,zcy,zcz,zda,zdb,zdc,zdd,guardV,nth,zde,zdf,zdg,zdh,zdi,Nat.reduceEqDiff,reduceIte,zdj,zdk,zdl,resultsA,RetO,Nat.reduceLT,zdm,zdn,zdo,zdp,zdq,zdr,zds,zdt,zdu,zdv,zdw,zdx,zdy,zdz,zea,zeb,zec,zed,zee,zef,zeg,zeh,zei,zej,zek,zel,zem,zen,zeo]; rfl⟩
    · simp (disch := omega) only [zaa,zab,zac,zad,zae,zaf,zag,zah,zai,zaj,zak,zal,zam,zan,zao,zap,zaq,zar,zas,zat,zau,zav,zaw,zax,zay,zaz,zba,zbb,zbc,zbd,zbe,zbf,zbg,zbh,zbi,zbj,zbk,zbl,zbm,zbn,zbo,zbp,zbq,zbr,zbs,zbt,zbu,zbv,zbw,zbx,zby,zbz,zca,zcb,zcc,zcd,zce,zcf,zcg,zch,zci,zcj,zck,zcl,zcm,zcn,zco,zcp,zcq,zcr,zcs,zct,zcu,zcv,zcw,zcx,zcy,zcz,zda,zdb,zdc,zdd,guardV,nth,zde,zdf,zdg,zdh,zdi,Nat.reduceEqDiff,reduceIte,zdj,zdk,zdl,resultsA,RetO,Nat.reduceLT,zdm,zdn,zdo,zdp,zdq,zdr,zds,zdt,zdu,zdv,zdw,zdx,zdy,zdz,zea,zeb,zec,zed,zee,zef,zeg,zeh,zei,zej,zek,zel,zem,zen,zeo, g8, g19, g21, g27, g28, hlt2, wrap_i64]
      exact hJ (jj - 1) _ _ (by omega) ⟨ii + 1, rfl, by omega, by simp only [zaa,zab,zac,zad,zae,zaf,zag,zah,zai,zaj,zak,zal,zam,zan,zao,zap,zaq,zar,zas,zat,zau,zav,zaw,zax,zay,zaz,zba,zbb,zbc,zbd,zbe,zbf,zbg,zbh,zbi,zbj,zbk,zbl,zbm,zbn,zbo,zbp,zbq,zbr,zbs,zbt,zbu,zbv,zbw,zbx,zby,zbz,zca,zcb,zcc,zcd,zce,zcf,zcg,zch,zci,zcj,zck,zcl,zcm,zcn,zco,zcp,zcq,zcr,zcs,zct,zcu,zcv,zcw,zcx,zcy,zcz,zda,zdb,zdc,zdd,guardV,nth,zde,zdf,zdg,zdh,zdi,Nat.reduceEqDiff,reduceIte,zdj,zdk,zdl,resultsA,RetO,Nat.reduceLT,zdm,zdn,zdo,zdp,zdq,zdr,zds,zdt,zdu,zdv,zdw,zdx,zdy,zdz,zea,zeb,zec,zed,zee,zef,zeg,zeh,zei,zej,zek,zel,zem,zen,zeo, g8], by simp only [zaa,zab,zac,zad,zae,zaf,zag,zah,zai,zaj,zak,zal,zam,zan,zao,zap,zaq,zar,zas,zat,zau,zav,zaw,zax,zay,zaz,zba,zbb,zbc,zbd,zbe,zbf,zbg,zbh,zbi,zbj,zbk,zbl,zbm,zbn,zbo,zbp,zbq,zbr,zbs,zbt,zbu,zbv,zbw,zbx,zby,zbz,zca,zcb,zcc,zcd,zce,zcf,zcg,zch,zci,zcj,zck,zcl,zcm,zcn,zco,zcp,zcq,zcr,zcs,zct,zcu,zcv,zcw,zcx,zcy,zcz,zda,zdb,zdc,zdd,guardV,nth,zde,zdf,zdg,zdh,zdi,Nat.reduceEqDiff,reduceIte,zdj,zdk,zdl,resultsA,RetO,Nat.reduceLT,zdm,zdn,zdo,zdp,zdq,zdr,zds,zdt,zdu,zdv,zdw,zdx,zdy,zdz,zea,zeb,zec,zed,zee,zef,zeg,zeh,zei,zej,zek,zel,zem,zen,zeo, g19], by simp only [zaa,zab,zac,zad,zae,zaf,zag,zah,zai,zaj,zak,zal,zam,zan,zao,zap,zaq,zar,zas,zat,zau,zav,zaw,zax,zay,zaz,zba,zbb,zbc,zbd,zbe,zbf,zbg,zbh,zbi,zbj,zbk,zbl,zbm,zbn,zbo,zbp,zbq,zbr,zbs,zbt,zbu,zbv,zbw,zbx,zby,zbz,zca,zcb,zcc,zcd,zce,zcf,zcg,zch,zci,zcj,zck,zcl,zcm,zcn,zco,zcp,zcq,zcr,zcs,zct,zcu,zcv,zcw,zcx,zcy,zcz,zda,zdb,zdc,zdd,guardV,nth,zde,zdf,zdg,zdh,zdi,Nat.reduceEqDiff,reduceIte,zdj,zdk,zdl,resultsA,RetO,Nat.reduceLT,zdm,zdn,zdo,zdp,zdq,zdr,zds,zdt,zdu,zdv,zdw,zdx,zdy,zdz,zea,zeb,zec,zed,zee,zef,zeg,zeh,zei,zej,zek,zel,zem,zen,zeo, g21], by simp only [zaa,zab,zac,zad,zae,zaf,zag,zah,zai,zaj,zak,zal,zam,zan,zao,zap,zaq,zar,zas,zat,zau,zav,zaw,zax,zay,zaz,zba,zbb,zbc,zbd,zbe,zbf,zbg,zbh,zbi,zbj,zbk,zbl,zbm,zbn,zbo,zbp,zbq,zbr,zbs,zbt,zbu,zbv,zbw,zbx,zby,zbz,zca,zcb,zcc,zcd,zce,zcf,zcg,zch,zci,zcj,zck,zcl,zcm,zcn,zco,zcp,zcq,zcr,zcs,zct,zcu,zcv,zcw,zcx,zcy,zcz,zda,zdb,zdc,zdd,guardV,nth,zde,zdf,zdg,zdh,zdi,Nat.reduceEqDiff,reduceIte,zdj,zdk,zdl,resultsA,RetO,Nat.reduceLT,zdm,zdn,zdo,zdp,zdq,zdr,zds,zdt,zdu,zdv,zdw,zdx,zdy,zdz,zea,zeb,zec,zed,zee,zef,zeg,zeh,zei,zej,zek,zel,zem,zen,zeo]; rfl⟩
  · simp (disch := omega) only [zaa,zab,zac,zad,zae,zaf,zag,zah,zai,zaj,zak,zal,zam,zan,zao,zap,zaq,zar,zas,zat,zau,zav,zaw,zax,zay,zaz,zba,zbb,zbc,zbd,zbe,zbf,zbg,zbh,zbi,zbj,zbk,zbl,zbm,zbn,zbo,zbp,zbq,zbr,zbs,zbt,zbu,zbv,zbw,zbx,zby,zbz,zca,zcb,zcc,zcd,zce,zcf,zcg,zch,zci,zcj,zck,zcl,zcm,zcn,zco,zcp,zcq,zcr,zcs,zct,zcu,zcv,zcw,zcx,zcy,zcz,zda,zdb,zdc,zdd,guardV,nth,zde,zdf,zdg,zdh,zdi,Nat.reduceEqDiff,reduceIte,zdj,zdk,zdl,resultsA,RetO,Nat.reduceLT,zdm,zdn,zdo,zdp,zdq,zdr,zds,zdt,zdu,zdv,zdw,zdx,zdy,zdz,zea,zeb,zec,zed,zee,zef,zeg,zeh,zei,zej,zek,zel,zem,zen,zeo, f8, f19, f21, f27, hlt]
    exact hQ' _ _ ⟨pr10, rfl⟩
end
end Go.Proofs.YtnjbcgiplfdgmaaGreatDoor.Ev

