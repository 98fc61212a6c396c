/- The law StitchRest. -/
import Derived.Test.YtdfkblagcfgncaaGreatDoorPmsD2
import Derived.Test.YtdfkblagcfgncaaGreatDoorPmsA6
set_option linter.unusedSimpArgs false
namespace Go.Proofs.YtdfkblagcfgncaaGreatDoor.Ev
open Go Go.Proofs
noncomputable section

theorem OkL.append' {k : Nat} {a b : List UInt8} (ha : OkL k a) (hb : OkL k b) : OkL k (a ++ b) := fun c hc => (List.mem_append.1 hc).elim (ha c) (hb c)
theorem Sw.symm {cm : Nat → Nat → Bool} {a b : List UInt8} (h : Sw cm a b) : Sw cm b a := by
  induction h with
  | refl => exact .refl _
  | cons c _ ih => exact .cons c ih
  | swap a b r h1 h2 h3 => exact .swap b a r (Ne.symm h1) h3 h2
  | trans _ _ h1 h2 => exact h2.trans h1
theorem takeB_sw {cm : Nat → Nat → Bool} : ∀ (s : List UInt8) {r t : List UInt8}, Sw cm (s ++ r) t → ∃ w, takeB cm s t = some w ∧ Sw cm r w
  | [], r, t, h => ⟨t, rfl, h⟩
  | c :: s, r, t, h => by
    rcases h.er (y := lt c) with ⟨e1, _⟩ | ⟨a, b, e1, e2, hab⟩
    · exfalso
      rw [List.cons_append] at e1
      unfold Go.Proofs.YtdfkblagcfgncaaGreatDoor.Ev.er at e1
      rw [if_pos rfl] at e1
      cases e1
    · rw [List.cons_append] at e1
      unfold Go.Proofs.YtdfkblagcfgncaaGreatDoor.Ev.er at e1
      rw [if_pos rfl] at e1
      cases e1
      have hf : 0 ≤ fg cm (lt c) t 0 := er_iff.2 (by rw [e2]; exact fun e => by cases e)
      have e3 := er_some hf
      rw [e2] at e3
      cases e3
      obtain ⟨w, hw, hs⟩ := takeB_sw s hab
      exact ⟨w, by rw [takeB, if_pos hf]; exact hw, hs⟩
theorem takeB_len {cm : Nat → Nat → Bool} : ∀ (b t r : List UInt8), takeB cm b t = some r → b.length + r.length = t.length
  | [], t, r, h => by
    unfold takeB at h
    cases h
    simp
  | c :: b, t, r, h => by
    unfold takeB at h
    by_cases hf : 0 ≤ fg cm (lt c) t 0
    · rw [if_pos hf] at h
      have h1 := takeB_len b _ r h
      have h2 := wo_len (at0_lt hf).1
      simp only [List.length_cons]
      omega
    · rw [if_neg hf] at h; cases h
theorem Sw.lst' {cm : Nat → Nat → Bool} {K : Nat} {a b : List UInt8} (h : Sw cm a b) : Go.Proofs.YtdfkblagcfgncaaGreatDoor.Ev.lst cm K a = Go.Proofs.YtdfkblagcfgncaaGreatDoor.Ev.lst cm K b := Sw.lst _ rfl h
theorem Sw.ok {cm : Nat → Nat → Bool} {k : Nat} {a b : List UInt8} (h : Sw cm a b) (ha : OkL k a) : OkL k b := fun c hc => ha c ((h.mem c).2 hc)
theorem okL_okc {k : Nat} {s : List UInt8} (h : OkL k s) : s.all (okc k) = true := List.all_eq_true.2 fun c hc => by
  have := h c hc
  simp only [okc, decide_eq_true_eq]
  omega
theorem chk_two {k : Nat} {ps : List (Int × Int)} {s t : List UInt8} (hT : okT k ps = true) (hs : OkL k s) (ht : OkL k t) (ls : s.length ≤ 40) (lt' : t.length ≤ 40) : chkE k ps 40 [s, t] = 0 := by
  have h1 : ([s, t].any fun s => decide ((40 : Int) < s.length)) = false := by simp; omega
  have h2 : ([s, t].all fun s => s.all (okc k)) = true := by simp only [List.all_cons, List.all_nil, okL_okc hs, okL_okc ht, Bool.and_true]
  rw [chkE, if_pos hT, h1, if_neg (by decide), h2, if_pos rfl]
theorem chk_one {k : Nat} {ps : List (Int × Int)} {s : List UInt8} (hT : okT k ps = true) (hs : OkL k s) (ls : s.length ≤ 40) : chkE k ps 40 [s] = 0 := by
  have h1 : ([s].any fun s => decide ((40 : Int) < s.length)) = false := by simp; omega
  have h2 : ([s].all fun s => s.all (okc k)) = true := by simp only [List.all_cons, List.all_nil, okL_okc hs, Bool.and_true]
  rw [chkE, if_pos hT, h1, if_neg (by decide), h2, if_pos rfl]
theorem load54 {G b : Nat} {K Fr : Int} {B : Tr Blk} (v : Var B b [.int .u8 K, .int .u16 Fr]) : loadO (En G) 72 B (some (.pointer (some ⟨b, 0, none⟩))) = some (.agg #[.int .u8 K, .int .u16 Fr]) :=
  v.loadA agg72 i72 (by rw [size72]; rfl)

set_option maxHeartbeats 16000000 in
theorem law_StitchRest {G lo1 hi1 n1 c1 lo2 hi2 n2 c2 : Nat} {K Fr : Int} {A1 A2 : Option Addr} {x y : List UInt8} {h0 : H} (h4 : 4 ≤ h0.next) (hG : G ≤ h0.next) (ht : TabsIn tabs h0.blks) (hK : 0 ≤ K) (hK2 : K ≤ 255)
    (hv1 : SlV h0.blks lo1 hi1 1 n1 (byts x) (.slice A1 n1 c1)) (hhi1 : hi1 ≤ h0.next) (hv2 : SlV h0.blks lo2 hi2 1 n2 (byts y) (.slice A2 n2 c2)) (hhi2 : hi2 ≤ h0.next) (hn : n1 + n2 < 2147483648) :
    Spec Tryz.prog (En G) 13 [.agg #[.int .u8 K, .int .u16 Fr], .slice A1 n1 c1, .slice A2 n2 c2] h0 fun v _ => v = .bool true := by
  refine CallsE_enter (En_known (by decide)) (En_f.trans Tryz.func13) rfl ⟨Nat.le_of_ble_eq_true rfl, by decide⟩ fun Q' hQ' => ?_
  simp only [Tryz.f13, zaa,zab,zac,zad,zae,zaf,zag,zah,zai,zaj,zak,zal,zam,zan,zao,zap,zaq,zar,zas,zat,zau,zav,zaw,zax,zay,zaz,zba,zbb,zbc,zbd,zbe,zbf,zbg,zbh,zbi,zbj,zbk,zbl,zbm,zbn,zbo,zbp,zbq,zbr,zbs,zbt,zbu,zbv,zbw,zbx,zby,zbz,zca,zcb,zcc,zcd,zce,zcf,zcg,zch,zci,zcj,zck,zcl,zcm,zcn,zco,zcp,zcq,zcr,zcs,zct,zcu,zcv,zcw,zcx,zcy,zcz,zda,zdb,zdc,zdd,guardV,nth,zde,zdf,zdg,zdh,zdi,Nat.reduceEqDiff,reduceIte,zdj,zdk,zdl,resultsA,RetO,Nat.reduceLT,zdm,zdn,zdo,zdp,zdq,zdr,zds,zdt,zdu,zdv,zdw,zdx,zdy,zdz,zea,zeb,zec,zed,zee,zef,zeg,zeh,zei,zej,zek,zel,zem,zen,zeo]
  refine At_box (v := .agg #[.int .u8 K, .int .u16 Fr]) (by simp only [zaa,zab,zac,zad,zae,zaf,zag,zah,zai,zaj,zak,zal,zam,zan,zao,zap,zaq,zar,zas,zat,zau,zav,zaw,zax,zay,zaz,zba,zbb,zbc,zbd,zbe,zbf,zbg,zbh,zbi,zbj,zbk,zbl,zbm,zbn,zbo,zbp,zbq,zbr,zbs,zbt,zbu,zbv,zbw,zbx,zby,zbz,zca,zcb,zcc,zcd,zce,zcf,zcg,zch,zci,zcj,zck,zcl,zcm,zcn,zco,zcp,zcq,zcr,zcs,zct,zcu,zcv,zcw,zcx,zcy,zcz,zda,zdb,zdc,zdd,guardV,nth,zde,zdf,zdg,zdh,zdi,Nat.reduceEqDiff,reduceIte,zdj,zdk,zdl,resultsA,RetO,Nat.reduceLT,zdm,zdn,zdo,zdp,zdq,zdr,zds,zdt,zdu,zdv,zdw,zdx,zdy,zdz,zea,zeb,zec,zed,zee,zef,zeg,zeh,zei,zej,zek,zel,zem,zen,zeo]) (by omega) fun h1 hn1 => ?_
  have m1 := hn1.next
  have l1 := load54 (G := G) (hn1.var : Var h1.blks h0.next [.int .u8 K, .int .u16 Fr])
  have pr1 : Pres h0.next h0 h1 := hn1.pres (Nat.le_refl _)
  simp only [zaa,zab,zac,zad,zae,zaf,zag,zah,zai,zaj,zak,zal,zam,zan,zao,zap,zaq,zar,zas,zat,zau,zav,zaw,zax,zay,zaz,zba,zbb,zbc,zbd,zbe,zbf,zbg,zbh,zbi,zbj,zbk,zbl,zbm,zbn,zbo,zbp,zbq,zbr,zbs,zbt,zbu,zbv,zbw,zbx,zby,zbz,zca,zcb,zcc,zcd,zce,zcf,zcg,zch,zci,zcj,zck,zcl,zcm,zcn,zco,zcp,zcq,zcr,zcs,zct,zcu,zcv,zcw,zcx,zcy,zcz,zda,zdb,zdc,zdd,guardV,nth,zde,zdf,zdg,zdh,zdi,Nat.reduceEqDiff,reduceIte,zdj,zdk,zdl,resultsA,RetO,Nat.reduceLT,zdm,zdn,zdo,zdp,zdq,zdr,zds,zdt,zdu,zdv,zdw,zdx,zdy,zdz,zea,zeb,zec,zed,zee,zef,zeg,zeh,zei,zej,zek,zel,zem,zen,zeo, l1]
  refine CallO_f (made_spec (by omega) hK hK2) (by omega) fun u h2 hp2 hu => ?_
  obtain ⟨k, ps, A, rfl, hT, hvp⟩ := hu
  have m2 := hp2.next
  have pr2 : Pres h0.next h0 h2 := pr1.trans (hp2.le (by omega))
  obtain ⟨k1, k6, pl, hps⟩ := okT_okP hT
  rw [Int.toNat_natCast] at hps
  have hx2 : SlV h2.blks lo1 hi1 1 n1 (byts x) (.slice A1 n1 c1) := hv1.mono fun b _ hb => pr2.get b (by omega)
  have hy2 : SlV h2.blks lo2 hi2 1 n2 (byts y) (.slice A2 n2 c2) := hv2.mono fun b _ hb => pr2.get b (by omega)
  simp only [zaa,zab,zac,zad,zae,zaf,zag,zah,zai,zaj,zak,zal,zam,zan,zao,zap,zaq,zar,zas,zat,zau,zav,zaw,zax,zay,zaz,zba,zbb,zbc,zbd,zbe,zbf,zbg,zbh,zbi,zbj,zbk,zbl,zbm,zbn,zbo,zbp,zbq,zbr,zbs,zbt,zbu,zbv,zbw,zbx,zby,zbz,zca,zcb,zcc,zcd,zce,zcf,zcg,zch,zci,zcj,zck,zcl,zcm,zcn,zco,zcp,zcq,zcr,zcs,zct,zcu,zcv,zcw,zcx,zcy,zcz,zda,zdb,zdc,zdd,guardV,nth,zde,zdf,zdg,zdh,zdi,Nat.reduceEqDiff,reduceIte,zdj,zdk,zdl,resultsA,RetO,Nat.reduceLT,zdm,zdn,zdo,zdp,zdq,zdr,zds,zdt,zdu,zdv,zdw,zdx,zdy,zdz,zea,zeb,zec,zed,zee,zef,zeg,zeh,zei,zej,zek,zel,zem,zen,zeo]
  refine CallO_same (mkseam_spec (k := k) (mo := 20) hx2 (by omega) (by omega) (by omega) (by omega)) (by omega) fun u hu => ?_
  obtain ⟨s, rfl, hs, sl⟩ := hu
  simp only [zaa,zab,zac,zad,zae,zaf,zag,zah,zai,zaj,zak,zal,zam,zan,zao,zap,zaq,zar,zas,zat,zau,zav,zaw,zax,zay,zaz,zba,zbb,zbc,zbd,zbe,zbf,zbg,zbh,zbi,zbj,zbk,zbl,zbm,zbn,zbo,zbp,zbq,zbr,zbs,zbt,zbu,zbv,zbw,zbx,zby,zbz,zca,zcb,zcc,zcd,zce,zcf,zcg,zch,zci,zcj,zck,zcl,zcm,zcn,zco,zcp,zcq,zcr,zcs,zct,zcu,zcv,zcw,zcx,zcy,zcz,zda,zdb,zdc,zdd,guardV,nth,zde,zdf,zdg,zdh,zdi,Nat.reduceEqDiff,reduceIte,zdj,zdk,zdl,resultsA,RetO,Nat.reduceLT,zdm,zdn,zdo,zdp,zdq,zdr,zds,zdt,zdu,zdv,zdw,zdx,zdy,zdz,zea,zeb,zec,zed,zee,zef,zeg,zeh,zei,zej,zek,zel,zem,zen,zeo]
  refine CallO_same (mkseam_spec (k := k) (mo := 20) hy2 (by omega) (by omega) (by omega) (by omega)) (by omega) fun u hu => ?_
  obtain ⟨r, rfl, hr, rl⟩ := hu
  have hadd : ∀ {t : TypeId}, binO Tryz.prog (En G) .add t (some (strV s)) (some (strV r)) = some (strV (s ++ r)) := add_str (by omega)
  simp only [zaa,zab,zac,zad,zae,zaf,zag,zah,zai,zaj,zak,zal,zam,zan,zao,zap,zaq,zar,zas,zat,zau,zav,zaw,zax,zay,zaz,zba,zbb,zbc,zbd,zbe,zbf,zbg,zbh,zbi,zbj,zbk,zbl,zbm,zbn,zbo,zbp,zbq,zbr,zbs,zbt,zbu,zbv,zbw,zbx,zby,zbz,zca,zcb,zcc,zcd,zce,zcf,zcg,zch,zci,zcj,zck,zcl,zcm,zcn,zco,zcp,zcq,zcr,zcs,zct,zcu,zcv,zcw,zcx,zcy,zcz,zda,zdb,zdc,zdd,guardV,nth,zde,zdf,zdg,zdh,zdi,Nat.reduceEqDiff,reduceIte,zdj,zdk,zdl,resultsA,RetO,Nat.reduceLT,zdm,zdn,zdo,zdp,zdq,zdr,zds,zdt,zdu,zdv,zdw,zdx,zdy,zdz,zea,zeb,zec,zed,zee,zef,zeg,zeh,zei,zej,zek,zel,zem,zen,zeo, hadd]
  refine At_lit0 u73 i5 zero5 (by rw [size5]; rfl) (by omega) ?_
  simp only [zaa,zab,zac,zad,zae,zaf,zag,zah,zai,zaj,zak,zal,zam,zan,zao,zap,zaq,zar,zas,zat,zau,zav,zaw,zax,zay,zaz,zba,zbb,zbc,zbd,zbe,zbf,zbg,zbh,zbi,zbj,zbk,zbl,zbm,zbn,zbo,zbp,zbq,zbr,zbs,zbt,zbu,zbv,zbw,zbx,zby,zbz,zca,zcb,zcc,zcd,zce,zcf,zcg,zch,zci,zcj,zck,zcl,zcm,zcn,zco,zcp,zcq,zcr,zcs,zct,zcu,zcv,zcw,zcx,zcy,zcz,zda,zdb,zdc,zdd,guardV,nth,zde,zdf,zdg,zdh,zdi,Nat.reduceEqDiff,reduceIte,zdj,zdk,zdl,resultsA,RetO,Nat.reduceLT,zdm,zdn,zdo,zdp,zdq,zdr,zds,zdt,zdu,zdv,zdw,zdx,zdy,zdz,zea,zeb,zec,zed,zee,zef,zeg,zeh,zei,zej,zek,zel,zem,zen,zeo]
  refine At_appendF (M := byts x) (m := n1) u73 u73 i5 zero5 (by rw [size5, bytes5]; rfl) (by simp only [zaa,zab,zac,zad,zae,zaf,zag,zah,zai,zaj,zak,zal,zam,zan,zao,zap,zaq,zar,zas,zat,zau,zav,zaw,zax,zay,zaz,zba,zbb,zbc,zbd,zbe,zbf,zbg,zbh,zbi,zbj,zbk,zbl,zbm,zbn,zbo,zbp,zbq,zbr,zbs,zbt,zbu,zbv,zbw,zbx,zby,zbz,zca,zcb,zcc,zcd,zce,zcf,zcg,zch,zci,zcj,zck,zcl,zcm,zcn,zco,zcp,zcq,zcr,zcs,zct,zcu,zcv,zcw,zcx,zcy,zcz,zda,zdb,zdc,zdd,guardV,nth,zde,zdf,zdg,zdh,zdi,Nat.reduceEqDiff,reduceIte,zdj,zdk,zdl,resultsA,RetO,Nat.reduceLT,zdm,zdn,zdo,zdp,zdq,zdr,zds,zdt,zdu,zdv,zdw,zdx,zdy,zdz,zea,zeb,zec,zed,zee,zef,zeg,zeh,zei,zej,zek,zel,zem,zen,zeo]) (by simp only [zaa,zab,zac,zad,zae,zaf,zag,zah,zai,zaj,zak,zal,zam,zan,zao,zap,zaq,zar,zas,zat,zau,zav,zaw,zax,zay,zaz,zba,zbb,zbc,zbd,zbe,zbf,zbg,zbh,zbi,zbj,zbk,zbl,zbm,zbn,zbo,zbp,zbq,zbr,zbs,zbt,zbu,zbv,zbw,zbx,zby,zbz,zca,zcb,zcc,zcd,zce,zcf,zcg,zch,zci,zcj,zck,zcl,zcm,zcn,zco,zcp,zcq,zcr,zcs,zct,zcu,zcv,zcw,zcx,zcy,zcz,zda,zdb,zdc,zdd,guardV,nth,zde,zdf,zdg,zdh,zdi,Nat.reduceEqDiff,reduceIte,zdj,zdk,zdl,resultsA,RetO,Nat.reduceLT,zdm,zdn,zdo,zdp,zdq,zdr,zds,zdt,zdu,zdv,zdw,zdx,zdy,zdz,zea,zeb,zec,zed,zee,zef,zeg,zeh,zei,zej,zek,zel,zem,zen,zeo]; rfl) (by rw [size5]; exact hx2) (by omega) byts_one (by omega) fun A3 h3 pr3 hs3 => ?_
  rw [size5] at hs3
  have m3 := pr3.next
  have hy3 : SlV h3.blks lo2 hi2 1 n2 (byts y) (.slice A2 n2 c2) := hy2.mono fun b _ hb => pr3.get b (by omega)
  simp only [zaa,zab,zac,zad,zae,zaf,zag,zah,zai,zaj,zak,zal,zam,zan,zao,zap,zaq,zar,zas,zat,zau,zav,zaw,zax,zay,zaz,zba,zbb,zbc,zbd,zbe,zbf,zbg,zbh,zbi,zbj,zbk,zbl,zbm,zbn,zbo,zbp,zbq,zbr,zbs,zbt,zbu,zbv,zbw,zbx,zby,zbz,zca,zcb,zcc,zcd,zce,zcf,zcg,zch,zci,zcj,zck,zcl,zcm,zcn,zco,zcp,zcq,zcr,zcs,zct,zcu,zcv,zcw,zcx,zcy,zcz,zda,zdb,zdc,zdd,guardV,nth,zde,zdf,zdg,zdh,zdi,Nat.reduceEqDiff,reduceIte,zdj,zdk,zdl,resultsA,RetO,Nat.reduceLT,zdm,zdn,zdo,zdp,zdq,zdr,zds,zdt,zdu,zdv,zdw,zdx,zdy,zdz,zea,zeb,zec,zed,zee,zef,zeg,zeh,zei,zej,zek,zel,zem,zen,zeo]
  refine At_append2 (lo := h2.next) (hi := h3.next) (L := byts x) (M := byts y) (m := n2) u73 u73 i5 zero5 (by rw [size5, bytes5]; rfl) (by simp only [zaa,zab,zac,zad,zae,zaf,zag,zah,zai,zaj,zak,zal,zam,zan,zao,zap,zaq,zar,zas,zat,zau,zav,zaw,zax,zay,zaz,zba,zbb,zbc,zbd,zbe,zbf,zbg,zbh,zbi,zbj,zbk,zbl,zbm,zbn,zbo,zbp,zbq,zbr,zbs,zbt,zbu,zbv,zbw,zbx,zby,zbz,zca,zcb,zcc,zcd,zce,zcf,zcg,zch,zci,zcj,zck,zcl,zcm,zcn,zco,zcp,zcq,zcr,zcs,zct,zcu,zcv,zcw,zcx,zcy,zcz,zda,zdb,zdc,zdd,guardV,nth,zde,zdf,zdg,zdh,zdi,Nat.reduceEqDiff,reduceIte,zdj,zdk,zdl,resultsA,RetO,Nat.reduceLT,zdm,zdn,zdo,zdp,zdq,zdr,zds,zdt,zdu,zdv,zdw,zdx,zdy,zdz,zea,zeb,zec,zed,zee,zef,zeg,zeh,zei,zej,zek,zel,zem,zen,zeo]; rfl) (by rw [size5]; exact hs3) (Nat.le_refl _) (by show G ≤ h2.next; omega) (by omega) (by simp only [zaa,zab,zac,zad,zae,zaf,zag,zah,zai,zaj,zak,zal,zam,zan,zao,zap,zaq,zar,zas,zat,zau,zav,zaw,zax,zay,zaz,zba,zbb,zbc,zbd,zbe,zbf,zbg,zbh,zbi,zbj,zbk,zbl,zbm,zbn,zbo,zbp,zbq,zbr,zbs,zbt,zbu,zbv,zbw,zbx,zby,zbz,zca,zcb,zcc,zcd,zce,zcf,zcg,zch,zci,zcj,zck,zcl,zcm,zcn,zco,zcp,zcq,zcr,zcs,zct,zcu,zcv,zcw,zcx,zcy,zcz,zda,zdb,zdc,zdd,guardV,nth,zde,zdf,zdg,zdh,zdi,Nat.reduceEqDiff,reduceIte,zdj,zdk,zdl,resultsA,RetO,Nat.reduceLT,zdm,zdn,zdo,zdp,zdq,zdr,zds,zdt,zdu,zdv,zdw,zdx,zdy,zdz,zea,zeb,zec,zed,zee,zef,zeg,zeh,zei,zej,zek,zel,zem,zen,zeo]; rfl) (by rw [size5]; exact hy3) (by omega) byts_one (by omega) fun A4 h4' pr4 hs4 => ?_
  rw [size5, ← byts_append] at hs4
  have m4 := pr4.next
  have pr24 : Pres h2.next h2 h4' := pr3.trans pr4
  have hvp4 : SlV h4'.blks (h1.next + 1) h2.next 2 ps.length (prs ps) (.slice A ps.length ps.length) := hvp.mono fun b _ hb => pr24.get b (by omega)
  have pr04 : Pres h0.next h0 h4' := pr2.trans (pr24.le (by omega))
  simp only [zaa,zab,zac,zad,zae,zaf,zag,zah,zai,zaj,zak,zal,zam,zan,zao,zap,zaq,zar,zas,zat,zau,zav,zaw,zax,zay,zaz,zba,zbb,zbc,zbd,zbe,zbf,zbg,zbh,zbi,zbj,zbk,zbl,zbm,zbn,zbo,zbp,zbq,zbr,zbs,zbt,zbu,zbv,zbw,zbx,zby,zbz,zca,zcb,zcc,zcd,zce,zcf,zcg,zch,zci,zcj,zck,zcl,zcm,zcn,zco,zcp,zcq,zcr,zcs,zct,zcu,zcv,zcw,zcx,zcy,zcz,zda,zdb,zdc,zdd,guardV,nth,zde,zdf,zdg,zdh,zdi,Nat.reduceEqDiff,reduceIte,zdj,zdk,zdl,resultsA,RetO,Nat.reduceLT,zdm,zdn,zdo,zdp,zdq,zdr,zds,zdt,zdu,zdv,zdw,zdx,zdy,zdz,zea,zeb,zec,zed,zee,zef,zeg,zeh,zei,zej,zek,zel,zem,zen,zeo]
  refine CallO_same (shuffled_spec (k := k) (s := s ++ r) (by0 := x ++ y) hvp4 (by omega) (by omega) hps hs4 (by omega) ((hs.append' hr).mono (by omega)) (by simp only [List.length_append]; omega)) (by omega) fun u hu => ?_
  obtain ⟨t, rfl, hsw⟩ := hu
  have tl := hsw.len
  rw [List.length_append] at tl
  have ht' : OkL k t := hsw.ok (hs.append' hr)
  obtain ⟨w, hw, hrw⟩ := takeB_sw s hsw
  have hc1 : chkE k ps 40 [s, t] = 0 := chk_two hT hs ht' (by omega) (by omega)
  have hc2 : chkE k ps 40 [r] = 0 := chk_one hT hr (by omega)
  have hc3 : chkE k ps 40 [t, s] = 0 := chk_two hT ht' hs (by omega) (by omega)
  simp only [zaa,zab,zac,zad,zae,zaf,zag,zah,zai,zaj,zak,zal,zam,zan,zao,zap,zaq,zar,zas,zat,zau,zav,zaw,zax,zay,zaz,zba,zbb,zbc,zbd,zbe,zbf,zbg,zbh,zbi,zbj,zbk,zbl,zbm,zbn,zbo,zbp,zbq,zbr,zbs,zbt,zbu,zbv,zbw,zbx,zby,zbz,zca,zcb,zcc,zcd,zce,zcf,zcg,zch,zci,zcj,zck,zcl,zcm,zcn,zco,zcp,zcq,zcr,zcs,zct,zcu,zcv,zcw,zcx,zcy,zcz,zda,zdb,zdc,zdd,guardV,nth,zde,zdf,zdg,zdh,zdi,Nat.reduceEqDiff,reduceIte,zdj,zdk,zdl,resultsA,RetO,Nat.reduceLT,zdm,zdn,zdo,zdp,zdq,zdr,zds,zdt,zdu,zdv,zdw,zdx,zdy,zdz,zea,zeb,zec,zed,zee,zef,zeg,zeh,zei,zej,zek,zel,zem,zen,zeo]
  refine CallO_f (Rest_spec (k := k) (by omega) hvp4 (by omega) (by omega) (by omega) (by omega)) (by omega) fun u h5 hp5 hu => ?_
  have m5 := hp5.next
  have pr05 : Pres h0.next h0 h5 := pr04.trans (hp5.le (by omega))
  have hvp5 : SlV h5.blks (h1.next + 1) h2.next 2 ps.length (prs ps) (.slice A ps.length ps.length) := hvp4.mono fun b _ hb => hp5.get b (by omega)
  obtain rfl : u = .tuple #[strV (lst (pc ps) k r), .int .i64 0] := by
    rcases hu with ⟨h, _⟩ | ⟨_, rfl⟩
    · exact absurd hc1 h
    · rw [hw, Int.toNat_natCast, hrw.lst']; rfl
  simp only [zaa,zab,zac,zad,zae,zaf,zag,zah,zai,zaj,zak,zal,zam,zan,zao,zap,zaq,zar,zas,zat,zau,zav,zaw,zax,zay,zaz,zba,zbb,zbc,zbd,zbe,zbf,zbg,zbh,zbi,zbj,zbk,zbl,zbm,zbn,zbo,zbp,zbq,zbr,zbs,zbt,zbu,zbv,zbw,zbx,zby,zbz,zca,zcb,zcc,zcd,zce,zcf,zcg,zch,zci,zcj,zck,zcl,zcm,zcn,zco,zcp,zcq,zcr,zcs,zct,zcu,zcv,zcw,zcx,zcy,zcz,zda,zdb,zdc,zdd,guardV,nth,zde,zdf,zdg,zdh,zdi,Nat.reduceEqDiff,reduceIte,zdj,zdk,zdl,resultsA,RetO,Nat.reduceLT,zdm,zdn,zdo,zdp,zdq,zdr,zds,zdt,zdu,zdv,zdw,zdx,zdy,zdz,zea,zeb,zec,zed,zee,zef,zeg,zeh,zei,zej,zek,zel,zem,zen,zeo]
  refine CallO_f (Least_spec (k := k) (by omega) hvp5 (by omega) (by omega) (by omega)) (by omega) fun u h6 hp6 hu => ?_
  have m6 := hp6.next
  have pr06 : Pres h0.next h0 h6 := pr05.trans (hp6.le (by omega))
  have hvp6 : SlV h6.blks (h1.next + 1) h2.next 2 ps.length (prs ps) (.slice A ps.length ps.length) := hvp5.mono fun b _ hb => hp6.get b (by omega)
  have ht6 := ht.pres pr06 (fun x hx => by have := tabs_lt x hx; omega)
  obtain rfl : u = .tuple #[strV (lst (pc ps) k r), .int .i64 0] := by
    rcases hu with ⟨h, _⟩ | ⟨_, rfl⟩
    · exact absurd hc2 h
    · rw [Int.toNat_natCast]
  have dn : decide ((0 : Int) ≠ 0) = false := rfl
  have dl : decide (lst (pc ps) k r ≠ lst (pc ps) k r) = false := decide_eq_false fun h => h rfl
  simp only [zaa,zab,zac,zad,zae,zaf,zag,zah,zai,zaj,zak,zal,zam,zan,zao,zap,zaq,zar,zas,zat,zau,zav,zaw,zax,zay,zaz,zba,zbb,zbc,zbd,zbe,zbf,zbg,zbh,zbi,zbj,zbk,zbl,zbm,zbn,zbo,zbp,zbq,zbr,zbs,zbt,zbu,zbv,zbw,zbx,zby,zbz,zca,zcb,zcc,zcd,zce,zcf,zcg,zch,zci,zcj,zck,zcl,zcm,zcn,zco,zcp,zcq,zcr,zcs,zct,zcu,zcv,zcw,zcx,zcy,zcz,zda,zdb,zdc,zdd,guardV,nth,zde,zdf,zdg,zdh,zdi,Nat.reduceEqDiff,reduceIte,zdj,zdk,zdl,resultsA,RetO,Nat.reduceLT,zdm,zdn,zdo,zdp,zdq,zdr,zds,zdt,zdu,zdv,zdw,zdx,zdy,zdz,zea,zeb,zec,zed,zee,zef,zeg,zeh,zei,zej,zek,zel,zem,zen,zeo, dn, dl]
  refine Call_lives ht6 (by omega) ?_
  have hlw : lst (pc ps) 6 r = lst (pc ps) k r := lst_wide (K := 6) hr (by omega)
  have hsr : Sw (pc ps) r (lst (pc ps) k r) := by
    have := lst_sw (pc_sym' ps) _ r rfl (hr.mono (by omega))
    rw [hlw] at this
    exact this
  have hlr := hsr.len
  have hor : OkL k (lst (pc ps) k r) := hsr.ok hr
  obtain ⟨q, hq⟩ : ∃ q, lst (pc ps) k r = q := ⟨_, rfl⟩
  rw [hq] at hsr hlr hor ⊢
  have hadd2 : ∀ {t : TypeId}, binO Tryz.prog (En G) .add t (some (strV s)) (some (strV q)) = some (strV (s ++ q)) := add_str (by omega)
  have hc4 : chkE k ps 40 [s ++ q, t] = 0 := chk_two hT (hs.append' hor) ht' (by rw [List.length_append]; omega) (by omega)
  simp only [zaa,zab,zac,zad,zae,zaf,zag,zah,zai,zaj,zak,zal,zam,zan,zao,zap,zaq,zar,zas,zat,zau,zav,zaw,zax,zay,zaz,zba,zbb,zbc,zbd,zbe,zbf,zbg,zbh,zbi,zbj,zbk,zbl,zbm,zbn,zbo,zbp,zbq,zbr,zbs,zbt,zbu,zbv,zbw,zbx,zby,zbz,zca,zcb,zcc,zcd,zce,zcf,zcg,zch,zci,zcj,zck,zcl,zcm,zcn,zco,zcp,zcq,zcr,zcs,zct,zcu,zcv,zcw,zcx,zcy,zcz,zda,zdb,zdc,zdd,guardV,nth,zde,zdf,zdg,zdh,zdi,Nat.reduceEqDiff,reduceIte,zdj,zdk,zdl,resultsA,RetO,Nat.reduceLT,zdm,zdn,zdo,zdp,zdq,zdr,zds,zdt,zdu,zdv,zdw,zdx,zdy,zdz,zea,zeb,zec,zed,zee,zef,zeg,zeh,zei,zej,zek,zel,zem,zen,zeo, hadd2]
  refine CallO_f (equal_spec (k := k) (by omega) hvp6 (by omega) (by omega) (by rw [List.length_append]; omega) (by omega)) (by omega) fun u h7 hp7 hu => ?_
  have m7 := hp7.next
  have pr07 : Pres h0.next h0 h7 := pr06.trans (hp7.le (by omega))
  have hvp7 : SlV h7.blks (h1.next + 1) h2.next 2 ps.length (prs ps) (.slice A ps.length ps.length) := hvp6.mono fun b _ hb => hp7.get b (by omega)
  have heq : lst (pc ps) k (s ++ q) = lst (pc ps) k t := ((hsr.left s).symm.trans hsw).lst'
  obtain rfl : u = .tuple #[.bool true, .int .i64 0] := by
    rcases hu with ⟨h, _⟩ | ⟨_, rfl⟩
    · exact absurd hc4 h
    · rw [Int.toNat_natCast, decide_eq_true heq]
  simp only [zaa,zab,zac,zad,zae,zaf,zag,zah,zai,zaj,zak,zal,zam,zan,zao,zap,zaq,zar,zas,zat,zau,zav,zaw,zax,zay,zaz,zba,zbb,zbc,zbd,zbe,zbf,zbg,zbh,zbi,zbj,zbk,zbl,zbm,zbn,zbo,zbp,zbq,zbr,zbs,zbt,zbu,zbv,zbw,zbx,zby,zbz,zca,zcb,zcc,zcd,zce,zcf,zcg,zch,zci,zcj,zck,zcl,zcm,zcn,zco,zcp,zcq,zcr,zcs,zct,zcu,zcv,zcw,zcx,zcy,zcz,zda,zdb,zdc,zdd,guardV,nth,zde,zdf,zdg,zdh,zdi,Nat.reduceEqDiff,reduceIte,zdj,zdk,zdl,resultsA,RetO,Nat.reduceLT,zdm,zdn,zdo,zdp,zdq,zdr,zds,zdt,zdu,zdv,zdw,zdx,zdy,zdz,zea,zeb,zec,zed,zee,zef,zeg,zeh,zei,zej,zek,zel,zem,zen,zeo]
  refine CallO_f (Rest_spec (k := k) (by omega) hvp7 (by omega) (by omega) (by omega) (by omega)) (by omega) fun u h8 hp8 hu => ?_
  have pr08 : Pres h0.next h0 h8 := pr07.trans (hp8.le (by omega))
  have hu' : u = restA (lst (pc ps) k) (takeB (pc ps) t s) := by
    rcases hu with ⟨h, _⟩ | ⟨_, rfl⟩
    · exact absurd hc3 h
    · rw [Int.toNat_natCast]
  subst hu'
  have d0 : decide ((0 : Int) = 0) = true := rfl
  by_cases hre : r = []
  · subst hre
    rw [List.append_nil] at hsw
    obtain ⟨w2, hw2, hs2⟩ := takeB_sw t (r := []) (t := s) (by rw [List.append_nil]; exact hsw.symm)
    have dr : decide (([] : List UInt8) = []) = true := decide_eq_true rfl
    have tt : (true == true) = true := rfl
    rw [hw2]
    simp only [restA, zaa,zab,zac,zad,zae,zaf,zag,zah,zai,zaj,zak,zal,zam,zan,zao,zap,zaq,zar,zas,zat,zau,zav,zaw,zax,zay,zaz,zba,zbb,zbc,zbd,zbe,zbf,zbg,zbh,zbi,zbj,zbk,zbl,zbm,zbn,zbo,zbp,zbq,zbr,zbs,zbt,zbu,zbv,zbw,zbx,zby,zbz,zca,zcb,zcc,zcd,zce,zcf,zcg,zch,zci,zcj,zck,zcl,zcm,zcn,zco,zcp,zcq,zcr,zcs,zct,zcu,zcv,zcw,zcx,zcy,zcz,zda,zdb,zdc,zdd,guardV,nth,zde,zdf,zdg,zdh,zdi,Nat.reduceEqDiff,reduceIte,zdj,zdk,zdl,resultsA,RetO,Nat.reduceLT,zdm,zdn,zdo,zdp,zdq,zdr,zds,zdt,zdu,zdv,zdw,zdx,zdy,zdz,zea,zeb,zec,zed,zee,zef,zeg,zeh,zei,zej,zek,zel,zem,zen,zeo, d0, dr, eql_bool, tt]
    exact hQ' _ _ ⟨pr08, rfl⟩
  · have hnone : takeB (pc ps) t s = none := by
      cases e : takeB (pc ps) t s with
      | none => rfl
      | some w2 =>
        have := takeB_len _ _ _ e
        have : 0 < r.length := List.length_pos_iff.2 hre
        omega
    have dr : decide (r = []) = false := decide_eq_false hre
    have d5 : decide ((5 : Int) = 5) = true := rfl
    have d50 : decide ((5 : Int) = 0) = false := rfl
    have tt : (false == false) = true := rfl
    rw [hnone]
    simp only [restA, zaa,zab,zac,zad,zae,zaf,zag,zah,zai,zaj,zak,zal,zam,zan,zao,zap,zaq,zar,zas,zat,zau,zav,zaw,zax,zay,zaz,zba,zbb,zbc,zbd,zbe,zbf,zbg,zbh,zbi,zbj,zbk,zbl,zbm,zbn,zbo,zbp,zbq,zbr,zbs,zbt,zbu,zbv,zbw,zbx,zby,zbz,zca,zcb,zcc,zcd,zce,zcf,zcg,zch,zci,zcj,zck,zcl,zcm,zcn,zco,zcp,zcq,zcr,zcs,zct,zcu,zcv,zcw,zcx,zcy,zcz,zda,zdb,zdc,zdd,guardV,nth,zde,zdf,zdg,zdh,zdi,Nat.reduceEqDiff,reduceIte,zdj,zdk,zdl,resultsA,RetO,Nat.reduceLT,zdm,zdn,zdo,zdp,zdq,zdr,zds,zdt,zdu,zdv,zdw,zdx,zdy,zdz,zea,zeb,zec,zed,zee,zef,zeg,zeh,zei,zej,zek,zel,zem,zen,zeo, d0, d5, d50, dr, eql_bool, tt]
    exact hQ' _ _ ⟨pr08, rfl⟩
end
end Go.Proofs.YtdfkblagcfgncaaGreatDoor.Ev


