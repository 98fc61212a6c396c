/- Steps; the law StitchSteps. -/
import Derived.Test.YtdfkblagcfgncaaGreatDoorPmT8
import Derived.Test.YtdfkblagcfgncaaGreatDoorPmsV1
import Derived.Test.YtdfkblagcfgncaaGreatDoorPmsV2
import Derived.Test.YtdfkblagcfgncaaGreatDoorPmsU0
set_option linter.unusedSimpArgs false
namespace Go.Proofs.YtdfkblagcfgncaaGreatDoor.Ev
open Go Go.Proofs
noncomputable section

theorem SlV.blk2 {B : Tr Blk} {lo hi sz n : Nat} {L : List Value} {v : Value} (s : SlV B lo hi sz n L v) (b : Nat) (hb : blkOf v = some b) : lo ≤ b ∧ b < hi := by
  cases s with
  | mk h1 h2 h3 h4 h5 h6 => cases hb; exact ⟨h2, h3⟩
  | nil _ _ => cases hb
  | emp _ _ => cases hb
def rowV (b : Nat) (s : List UInt8) : Value := .slice (some ⟨b, 0, none⟩) s.length s.length
def rowsV (cm : Nat → Nat → Bool) (l : List UInt8) (bf : Nat → Nat) (i S : Nat) : List Value := (List.range S).map fun r => rowV (bf r) (sp cm l (r + 1) i)
theorem rowsV_len {cm : Nat → Nat → Bool} {l : List UInt8} {bf : Nat → Nat} {i S : Nat} : (rowsV cm l bf i S).length = S := by simp [rowsV]
theorem rowsV_get {cm : Nat → Nat → Bool} {l : List UInt8} {bf : Nat → Nat} {i S r : Nat} (h : r < S) : (rowsV cm l bf i S)[r]? = some (rowV (bf r) (sp cm l (r + 1) i)) := by simp [rowsV, h]
theorem map_range_set {α : Type} {g : Nat → α} {n R : Nat} {v : α} (h : R < n) : ((List.range n).map g).take R ++ [v] ++ ((List.range n).map g).drop (R + 1) = (List.range n).map fun r => if r = R then v else g r := by
  have e : ((List.range n).map g).take R ++ [v] ++ ((List.range n).map g).drop (R + 1) = ((List.range n).map g).set R v := by
    rw [List.set_eq_take_append_cons_drop, if_pos (by simpa using h)]
    simp
  rw [e]
  apply List.ext_getElem?
  intro j
  rw [List.getElem?_set]
  by_cases hj : j < n
  · by_cases e2 : R = j
    · subst e2
      simp [h]
    · rw [if_neg e2]
      simp [hj, Ne.symm e2]
  · by_cases e2 : R = j
    · omega
    · rw [if_neg e2]
      simp [hj]

set_option maxHeartbeats 64000000 in
theorem steps_spec {G k : Nat} {m : List Bool} {ps : List (Int × Int)} {l : List UInt8} {h : H} (hG : G ≤ h.next) (hm : m.length = 36) (hk : k ≤ 6) (hps : OkP k ps) (hmc : ∀ a b, a < 6 → b < 6 → mcomm m a b = pc ps a b) (hl : OkL k l) (hlen : l.length < 1000000) :
    Spec Tryz.prog (En G) 61 [thrV k m, strV l] h fun v h' => ∃ A, v = .slice A (mx (pc ps) l l.length) (mx (pc ps) l l.length) ∧ SlV h'.blks h.next h'.next 1 (mx (pc ps) l l.length) (strs (stps (pc ps) l (mx (pc ps) l l.length))) v := by
  refine CallsE_enter (En_known (by decide)) (En_f.trans Tryz.func61) rfl ⟨Nat.le_of_ble_eq_true rfl, by decide⟩ fun Q' hQ' => ?_
  simp only [Tryz.f61, zaa,zab,zac,zad,zae,zaf,zag,zah,zai,zaj,zak,zal,zam,zan,zao,zap,zaq,zar,zas,zat,zau,zav,zaw,zax,zay,zaz,zba,zbb,zbc,zbd,zbe,zbf,zbg,zbh,zbi,zbj,zbk,zbl,zbm,zbn,zbo,zbp,zbq,zbr,zbs,zbt,zbu,zbv,zbw,zbx,zby,zbz,zca,zcb,zcc,zcd,zce,zcf,zcg,zch,zci,zcj,zck,zcl,zcm,zcn,zco,zcp,zcq,zcr,zcs,zct,zcu,zcv,zcw,zcx,zcy,zcz,zda,zdb,zdc,zdd,guardV,nth,zde,zdf,zdg,zdh,zdi,Nat.reduceEqDiff,reduceIte,zdj,zdk,zdl,resultsA,RetO,Nat.reduceLT,zdm,zdn,zdo,zdp,zdq,zdr,zds,zdt,zdu,zdv,zdw,zdx,zdy,zdz,zea,zeb,zec,zed,zee,zef,zeg,zeh,zei,zej,zek,zel,zem,zen,zeo]
  refine At_box (v := thrV k m) (by simp only [zaa,zab,zac,zad,zae,zaf,zag,zah,zai,zaj,zak,zal,zam,zan,zao,zap,zaq,zar,zas,zat,zau,zav,zaw,zax,zay,zaz,zba,zbb,zbc,zbd,zbe,zbf,zbg,zbh,zbi,zbj,zbk,zbl,zbm,zbn,zbo,zbp,zbq,zbr,zbs,zbt,zbu,zbv,zbw,zbx,zby,zbz,zca,zcb,zcc,zcd,zce,zcf,zcg,zch,zci,zcj,zck,zcl,zcm,zcn,zco,zcp,zcq,zcr,zcs,zct,zcu,zcv,zcw,zcx,zcy,zcz,zda,zdb,zdc,zdd,guardV,nth,zde,zdf,zdg,zdh,zdi,Nat.reduceEqDiff,reduceIte,zdj,zdk,zdl,resultsA,RetO,Nat.reduceLT,zdm,zdn,zdo,zdp,zdq,zdr,zds,zdt,zdu,zdv,zdw,zdx,zdy,zdz,zea,zeb,zec,zed,zee,zef,zeg,zeh,zei,zej,zek,zel,zem,zen,zeo]) (by omega) fun h1 hn1 => ?_
  have n1 := hn1.next
  have v2 : Var h1.blks h.next (thrL k m) := hn1.var
  have pr1 : Pres h.next h h1 := hn1.pres (Nat.le_refl _)
  have la := thr_loadA (G := G) v2 hm
  simp only [zaa,zab,zac,zad,zae,zaf,zag,zah,zai,zaj,zak,zal,zam,zan,zao,zap,zaq,zar,zas,zat,zau,zav,zaw,zax,zay,zaz,zba,zbb,zbc,zbd,zbe,zbf,zbg,zbh,zbi,zbj,zbk,zbl,zbm,zbn,zbo,zbp,zbq,zbr,zbs,zbt,zbu,zbv,zbw,zbx,zby,zbz,zca,zcb,zcc,zcd,zce,zcf,zcg,zch,zci,zcj,zck,zcl,zcm,zcn,zco,zcp,zcq,zcr,zcs,zct,zcu,zcv,zcw,zcx,zcy,zcz,zda,zdb,zdc,zdd,guardV,nth,zde,zdf,zdg,zdh,zdi,Nat.reduceEqDiff,reduceIte,zdj,zdk,zdl,resultsA,RetO,Nat.reduceLT,zdm,zdn,zdo,zdp,zdq,zdr,zds,zdt,zdu,zdv,zdw,zdx,zdy,zdz,zea,zeb,zec,zed,zee,zef,zeg,zeh,zei,zej,zek,zel,zem,zen,zeo, la]
  refine CallO_f (heights_spec (k := k) (by omega) hm hk hps hmc hl hlen) (by omega) fun u h2 hp2 hu => ?_
  obtain ⟨HA, rfl, hsvH⟩ := hu
  have n2 := hp2.next
  have pr2 : Pres h.next h h2 := pr1.trans (hp2.le (by omega))
  have hl6 : OkL 6 l := hl.mono hk
  simp only [zaa,zab,zac,zad,zae,zaf,zag,zah,zai,zaj,zak,zal,zam,zan,zao,zap,zaq,zar,zas,zat,zau,zav,zaw,zax,zay,zaz,zba,zbb,zbc,zbd,zbe,zbf,zbg,zbh,zbi,zbj,zbk,zbl,zbm,zbn,zbo,zbp,zbq,zbr,zbs,zbt,zbu,zbv,zbw,zbx,zby,zbz,zca,zcb,zcc,zcd,zce,zcf,zcg,zch,zci,zcj,zck,zcl,zcm,zcn,zco,zcp,zcq,zcr,zcs,zct,zcu,zcv,zcw,zcx,zcy,zcz,zda,zdb,zdc,zdd,guardV,nth,zde,zdf,zdg,zdh,zdi,Nat.reduceEqDiff,reduceIte,zdj,zdk,zdl,resultsA,RetO,Nat.reduceLT,zdm,zdn,zdo,zdp,zdq,zdr,zds,zdt,zdu,zdv,zdw,zdx,zdy,zdz,zea,zeb,zec,zed,zee,zef,zeg,zeh,zei,zej,zek,zel,zem,zen,zeo, len34]
  refine WK_loopN (fun j α h3 => ∃ (i : Nat) (A : Option Addr) (sb : Nat) (bf : Nat → Nat), i + j = l.length ∧ α.get 1 = some (strV l) ∧ α.get 5 = some (.slice A (mx (pc ps) l i) (mx (pc ps) l i)) ∧ α.get 13 = some (.slice HA l.length l.length) ∧ α.get 14 = some (.int .i64 l.length) ∧ α.get 15 = some (.int .i64 i) ∧
      SlV h3.blks sb (sb + 1) 1 (mx (pc ps) l i) (rowsV (pc ps) l bf i (mx (pc ps) l i)) (.slice A (mx (pc ps) l i) (mx (pc ps) l i)) ∧ (h2.next ≤ sb ∨ mx (pc ps) l i = 0 ∧ A = none ∧ h.next ≤ sb) ∧ sb < h3.next ∧
      (∀ r, r < mx (pc ps) l i → h2.next ≤ bf r ∧ bf r < h3.next ∧ bf r ≠ sb ∧ SlV h3.blks (bf r) (bf r + 1) 1 (sp (pc ps) l (r + 1) i).length (byts (sp (pc ps) l (r + 1) i)) (rowV (bf r) (sp (pc ps) l (r + 1) i))) ∧
      (∀ r r', r < mx (pc ps) l i → r' < mx (pc ps) l i → bf r = bf r' → r = r') ∧ Pres h2.next h2 h3 ∧ h2.next ≤ h3.next) l.length
    ⟨0, none, h.next, fun _ => 0, by omega, by simp only [zaa,zab,zac,zad,zae,zaf,zag,zah,zai,zaj,zak,zal,zam,zan,zao,zap,zaq,zar,zas,zat,zau,zav,zaw,zax,zay,zaz,zba,zbb,zbc,zbd,zbe,zbf,zbg,zbh,zbi,zbj,zbk,zbl,zbm,zbn,zbo,zbp,zbq,zbr,zbs,zbt,zbu,zbv,zbw,zbx,zby,zbz,zca,zcb,zcc,zcd,zce,zcf,zcg,zch,zci,zcj,zck,zcl,zcm,zcn,zco,zcp,zcq,zcr,zcs,zct,zcu,zcv,zcw,zcx,zcy,zcz,zda,zdb,zdc,zdd,guardV,nth,zde,zdf,zdg,zdh,zdi,Nat.reduceEqDiff,reduceIte,zdj,zdk,zdl,resultsA,RetO,Nat.reduceLT,zdm,zdn,zdo,zdp,zdq,zdr,zds,zdt,zdu,zdv,zdw,zdx,zdy,zdz,zea,zeb,zec,zed,zee,zef,zeg,zeh,zei,zej,zek,zel,zem,zen,zeo], by (simp only [zaa,zab,zac,zad,zae,zaf,zag,zah,zai,zaj,zak,zal,zam,zan,zao,zap,zaq,zar,zas,zat,zau,zav,zaw,zax,zay,zaz,zba,zbb,zbc,zbd,zbe,zbf,zbg,zbh,zbi,zbj,zbk,zbl,zbm,zbn,zbo,zbp,zbq,zbr,zbs,zbt,zbu,zbv,zbw,zbx,zby,zbz,zca,zcb,zcc,zcd,zce,zcf,zcg,zch,zci,zcj,zck,zcl,zcm,zcn,zco,zcp,zcq,zcr,zcs,zct,zcu,zcv,zcw,zcx,zcy,zcz,zda,zdb,zdc,zdd,guardV,nth,zde,zdf,zdg,zdh,zdi,Nat.reduceEqDiff,reduceIte,zdj,zdk,zdl,resultsA,RetO,Nat.reduceLT,zdm,zdn,zdo,zdp,zdq,zdr,zds,zdt,zdu,zdv,zdw,zdx,zdy,zdz,zea,zeb,zec,zed,zee,zef,zeg,zeh,zei,zej,zek,zel,zem,zen,zeo]) <;> rfl, by simp only [zaa,zab,zac,zad,zae,zaf,zag,zah,zai,zaj,zak,zal,zam,zan,zao,zap,zaq,zar,zas,zat,zau,zav,zaw,zax,zay,zaz,zba,zbb,zbc,zbd,zbe,zbf,zbg,zbh,zbi,zbj,zbk,zbl,zbm,zbn,zbo,zbp,zbq,zbr,zbs,zbt,zbu,zbv,zbw,zbx,zby,zbz,zca,zcb,zcc,zcd,zce,zcf,zcg,zch,zci,zcj,zck,zcl,zcm,zcn,zco,zcp,zcq,zcr,zcs,zct,zcu,zcv,zcw,zcx,zcy,zcz,zda,zdb,zdc,zdd,guardV,nth,zde,zdf,zdg,zdh,zdi,Nat.reduceEqDiff,reduceIte,zdj,zdk,zdl,resultsA,RetO,Nat.reduceLT,zdm,zdn,zdo,zdp,zdq,zdr,zds,zdt,zdu,zdv,zdw,zdx,zdy,zdz,zea,zeb,zec,zed,zee,zef,zeg,zeh,zei,zej,zek,zel,zem,zen,zeo], by simp only [zaa,zab,zac,zad,zae,zaf,zag,zah,zai,zaj,zak,zal,zam,zan,zao,zap,zaq,zar,zas,zat,zau,zav,zaw,zax,zay,zaz,zba,zbb,zbc,zbd,zbe,zbf,zbg,zbh,zbi,zbj,zbk,zbl,zbm,zbn,zbo,zbp,zbq,zbr,zbs,zbt,zbu,zbv,zbw,zbx,zby,zbz,zca,zcb,zcc,zcd,zce,zcf,zcg,zch,zci,zcj,zck,zcl,zcm,zcn,zco,zcp,zcq,zcr,zcs,zct,zcu,zcv,zcw,zcx,zcy,zcz,zda,zdb,zdc,zdd,guardV,nth,zde,zdf,zdg,zdh,zdi,Nat.reduceEqDiff,reduceIte,zdj,zdk,zdl,resultsA,RetO,Nat.reduceLT,zdm,zdn,zdo,zdp,zdq,zdr,zds,zdt,zdu,zdv,zdw,zdx,zdy,zdz,zea,zeb,zec,zed,zee,zef,zeg,zeh,zei,zej,zek,zel,zem,zen,zeo], by (simp only [zaa,zab,zac,zad,zae,zaf,zag,zah,zai,zaj,zak,zal,zam,zan,zao,zap,zaq,zar,zas,zat,zau,zav,zaw,zax,zay,zaz,zba,zbb,zbc,zbd,zbe,zbf,zbg,zbh,zbi,zbj,zbk,zbl,zbm,zbn,zbo,zbp,zbq,zbr,zbs,zbt,zbu,zbv,zbw,zbx,zby,zbz,zca,zcb,zcc,zcd,zce,zcf,zcg,zch,zci,zcj,zck,zcl,zcm,zcn,zco,zcp,zcq,zcr,zcs,zct,zcu,zcv,zcw,zcx,zcy,zcz,zda,zdb,zdc,zdd,guardV,nth,zde,zdf,zdg,zdh,zdi,Nat.reduceEqDiff,reduceIte,zdj,zdk,zdl,resultsA,RetO,Nat.reduceLT,zdm,zdn,zdo,zdp,zdq,zdr,zds,zdt,zdu,zdv,zdw,zdx,zdy,zdz,zea,zeb,zec,zed,zee,zef,zeg,zeh,zei,zej,zek,zel,zem,zen,zeo]) <;> rfl, .nil rfl rfl, (.inr ⟨rfl, rfl, Nat.le_refl _⟩), by omega, fun r hr => absurd hr (Nat.not_lt_zero r), fun r _ hr => absurd hr (Nat.not_lt_zero r), Pres.refl _ _, Nat.le_refl _⟩ (by omega) ?_
  rintro J j α h3 ⟨i, A, sb, bf, hij, e1, e5, e13, e14, e15, hset0, hsb, hsbn, hrows, hinj, pr3, hn3⟩ hJ
  have hmxl := mx_le (cm := pc ps) (l := l) i
  by_cases hlt : (i : Int) < l.length
  · obtain ⟨ci, hci⟩ : ∃ ch, l[i]? = some ch := ⟨l[i]'(by omega), List.getElem?_eq_getElem (by omega)⟩
    have hcid : l.getD i 0 = ci := by rw [List.getD_eq_getElem?_getD, hci]; rfl
    have hix : ∀ {G : Nat}, idxO (En G) 9 (some (strV l)) (some (.int .i64 (i : Int))) = some (.int .u8 ci.toNat) := idx9 (by omega) (by simpa using hci)
    have hp1 := ht_pos (cm := pc ps) (l := l) (i := i)
    have hp2' := ht_mx (cm := pc ps) (l := l) (i := i)
    have hsvH3 : SlV h3.blks h1.next h2.next 1 l.length (nats (hts (pc ps) l l.length)) (.slice HA l.length l.length) := hsvH.mono fun b _ hb => pr3.get b hb
    obtain ⟨b1, off1, hHA, _, _, hldH⟩ := hsvH3.at_ (by omega)
    have lH := hldH i (by omega)
    rw [nats_get (hts_get (show i < l.length by omega))] at lH
    rw [hHA] at e13
    simp (disch := omega) only [zaa,zab,zac,zad,zae,zaf,zag,zah,zai,zaj,zak,zal,zam,zan,zao,zap,zaq,zar,zas,zat,zau,zav,zaw,zax,zay,zaz,zba,zbb,zbc,zbd,zbe,zbf,zbg,zbh,zbi,zbj,zbk,zbl,zbm,zbn,zbo,zbp,zbq,zbr,zbs,zbt,zbu,zbv,zbw,zbx,zby,zbz,zca,zcb,zcc,zcd,zce,zcf,zcg,zch,zci,zcj,zck,zcl,zcm,zcn,zco,zcp,zcq,zcr,zcs,zct,zcu,zcv,zcw,zcx,zcy,zcz,zda,zdb,zdc,zdd,guardV,nth,zde,zdf,zdg,zdh,zdi,Nat.reduceEqDiff,reduceIte,zdj,zdk,zdl,resultsA,RetO,Nat.reduceLT,zdm,zdn,zdo,zdp,zdq,zdr,zds,zdt,zdu,zdv,zdw,zdx,zdy,zdz,zea,zeb,zec,zed,zee,zef,zeg,zeh,zei,zej,zek,zel,zem,zen,zeo, e1, e5, e13, e14, e15, hlt, idxA34, load3, Int.toNat_natCast, Nat.mul_one, lH, len136]
    obtain ⟨R, hR⟩ : ∃ R, ht (pc ps) l i = R + 1 := ⟨ht (pc ps) l i - 1, by omega⟩
    have hRe : ((ht (pc ps) l i : Nat) : Int) - 1 = (R : Int) := by omega
    have hspl : (sp (pc ps) l (R + 1) i).length ≤ 6 := sp_le (pc_irr' hps) hl6 (by omega)
    by_cases hgt : mx (pc ps) l i < ht (pc ps) l i
    · have hRS : R = mx (pc ps) l i := by omega
      have d1 : decide (((mx (pc ps) l i : Nat) : Int) < ((ht (pc ps) l i : Nat) : Int)) = true := decide_eq_true (by omega)
      simp (disch := omega) only [zaa,zab,zac,zad,zae,zaf,zag,zah,zai,zaj,zak,zal,zam,zan,zao,zap,zaq,zar,zas,zat,zau,zav,zaw,zax,zay,zaz,zba,zbb,zbc,zbd,zbe,zbf,zbg,zbh,zbi,zbj,zbk,zbl,zbm,zbn,zbo,zbp,zbq,zbr,zbs,zbt,zbu,zbv,zbw,zbx,zby,zbz,zca,zcb,zcc,zcd,zce,zcf,zcg,zch,zci,zcj,zck,zcl,zcm,zcn,zco,zcp,zcq,zcr,zcs,zct,zcu,zcv,zcw,zcx,zcy,zcz,zda,zdb,zdc,zdd,guardV,nth,zde,zdf,zdg,zdh,zdi,Nat.reduceEqDiff,reduceIte,zdj,zdk,zdl,resultsA,RetO,Nat.reduceLT,zdm,zdn,zdo,zdp,zdq,zdr,zds,zdt,zdu,zdv,zdw,zdx,zdy,zdz,zea,zeb,zec,zed,zee,zef,zeg,zeh,zei,zej,zek,zel,zem,zen,zeo, e5, d1]
      refine At_push (v := .slice none 0 0) (lo := sb) (hi := sb + 1) (L := rowsV (pc ps) l bf i (mx (pc ps) l i)) (vs := [.slice none 0 0]) u136 i73 zero73 (by rw [size73, bytes73]; rfl) (by simp only [zaa,zab,zac,zad,zae,zaf,zag,zah,zai,zaj,zak,zal,zam,zan,zao,zap,zaq,zar,zas,zat,zau,zav,zaw,zax,zay,zaz,zba,zbb,zbc,zbd,zbe,zbf,zbg,zbh,zbi,zbj,zbk,zbl,zbm,zbn,zbo,zbp,zbq,zbr,zbs,zbt,zbu,zbv,zbw,zbx,zby,zbz,zca,zcb,zcc,zcd,zce,zcf,zcg,zch,zci,zcj,zck,zcl,zcm,zcn,zco,zcp,zcq,zcr,zcs,zct,zcu,zcv,zcw,zcx,zcy,zcz,zda,zdb,zdc,zdd,guardV,nth,zde,zdf,zdg,zdh,zdi,Nat.reduceEqDiff,reduceIte,zdj,zdk,zdl,resultsA,RetO,Nat.reduceLT,zdm,zdn,zdo,zdp,zdq,zdr,zds,zdt,zdu,zdv,zdw,zdx,zdy,zdz,zea,zeb,zec,zed,zee,zef,zeg,zeh,zei,zej,zek,zel,zem,zen,zeo]) (by rw [size73]; rfl) (by rw [size73]; rfl) rfl (by simp only [zaa,zab,zac,zad,zae,zaf,zag,zah,zai,zaj,zak,zal,zam,zan,zao,zap,zaq,zar,zas,zat,zau,zav,zaw,zax,zay,zaz,zba,zbb,zbc,zbd,zbe,zbf,zbg,zbh,zbi,zbj,zbk,zbl,zbm,zbn,zbo,zbp,zbq,zbr,zbs,zbt,zbu,zbv,zbw,zbx,zby,zbz,zca,zcb,zcc,zcd,zce,zcf,zcg,zch,zci,zcj,zck,zcl,zcm,zcn,zco,zcp,zcq,zcr,zcs,zct,zcu,zcv,zcw,zcx,zcy,zcz,zda,zdb,zdc,zdd,guardV,nth,zde,zdf,zdg,zdh,zdi,Nat.reduceEqDiff,reduceIte,zdj,zdk,zdl,resultsA,RetO,Nat.reduceLT,zdm,zdn,zdo,zdp,zdq,zdr,zds,zdt,zdu,zdv,zdw,zdx,zdy,zdz,zea,zeb,zec,zed,zee,zef,zeg,zeh,zei,zej,zek,zel,zem,zen,zeo, e5]; rfl) (by rw [size73]; exact hset0) (by omega) (Nat.le_refl _) (by show G ≤ sb; omega) (by omega) (by decide) (by decide) (by decide) fun h4 hp4 => ?_
      rw [size73] at hp4
      have n4 := hp4.next
      have hblkA : ∀ b, blkOf (.slice A (mx (pc ps) l i) (mx (pc ps) l i)) = some b → h2.next ≤ b ∧ b = sb := fun b hb => by
        have h1 := hset0.blk2 b hb
        rcases hsb with hsb | ⟨_, hA, _⟩
        · omega
        · rw [hA] at hb; cases hb
      have hpr4 : Pres h2.next h2 h4 := pr3.trans (hp4.pres (by omega) fun b hb => (hblkA b hb).1)
      have hspe : sp (pc ps) l (R + 1) i = [] := sp_empty (by omega)
      have hmR : 0 = (sp (pc ps) l (R + 1) i).length := by rw [hspe]; rfl
      have hset : SlV h4.blks (h3.next + 1) (h3.next + 1 + 1) 1 (mx (pc ps) l i + 1) (rowsV (pc ps) l bf i (mx (pc ps) l i) ++ [Value.slice none 0 0]) (.slice (some ⟨h3.next + 1, 0, none⟩) (mx (pc ps) l i + 1) (mx (pc ps) l i + 1)) :=
        (hp4.slv (n := mx (pc ps) l i + 1) (c := mx (pc ps) l i + 1) (by rw [List.length_append, rowsV_len]; simp)).wide (Nat.le_refl _) (by omega)
      obtain ⟨g, hg⟩ : ∃ g : Nat → Value, (fun r => if r = R then Value.slice none 0 0 else rowV (bf r) (sp (pc ps) l (r + 1) i)) = g := ⟨_, rfl⟩
      have hgR : g R = .slice none 0 0 := by rw [← hg]; exact if_pos rfl
      have hgo : ∀ r, r < mx (pc ps) l i + 1 → r ≠ R → g r = rowV (bf r) (sp (pc ps) l (r + 1) i) := fun r _ hne => by rw [← hg]; exact if_neg hne
      have hCL : rowsV (pc ps) l bf i (mx (pc ps) l i) ++ [Value.slice none 0 0] = (List.range (mx (pc ps) l i + 1)).map g := by
        have c1 : rowsV (pc ps) l bf i (mx (pc ps) l i) = (List.range (mx (pc ps) l i)).map g := List.map_congr_left fun r hr => (hgo r (by have := List.mem_range.1 hr; omega) (by have := List.mem_range.1 hr; omega)).symm
        have c2 : g (mx (pc ps) l i) = .slice none 0 0 := by rw [← hRS]; exact hgR
        rw [List.range_succ, List.map_append, ← c1, List.map_singleton, c2]
      have hrow : SlV h4.blks h2.next h2.next 1 0 (byts (sp (pc ps) l (R + 1) i)) (.slice none 0 0) := .nil rfl (by rw [hspe]; rfl)
      have hblkR : ∀ b, blkOf (.slice none 0 0) = some b → b ≠ (h3.next + 1) ∧ h2.next ≤ b := fun b hb => by cases hb
      have hblkO : ∀ r, r < mx (pc ps) l i + 1 → r ≠ R → blkOf (.slice none 0 0) ≠ some (bf r) := fun r _ _ hb => by cases hb
      have hoth : ∀ r, r < mx (pc ps) l i + 1 → r ≠ R → h2.next ≤ bf r ∧ bf r < h4.next ∧ bf r ≠ (h3.next + 1) ∧ SlV h4.blks (bf r) (bf r + 1) 1 (sp (pc ps) l (r + 1) i).length (byts (sp (pc ps) l (r + 1) i)) (rowV (bf r) (sp (pc ps) l (r + 1) i)) := fun r hr hne => by
        obtain ⟨k1, k2, k3, k4⟩ := hrows r (by omega)
        exact ⟨k1, by omega, by omega, k4.mono fun b hb1 hb2 => by
          obtain rfl : b = bf r := by omega
          have hne2 : blkOf (.slice A (mx (pc ps) l i) (mx (pc ps) l i)) ≠ some (bf r) := fun e => k3 (hblkA _ e).2
          have hg4 := hp4.get (bf r) k2
          rw [if_neg hne2] at hg4
          exact hg4⟩
      have hinjO : ∀ r r', r < mx (pc ps) l i + 1 → r' < mx (pc ps) l i + 1 → r ≠ R → r' ≠ R → bf r = bf r' → r = r' := fun r r' h1 h2 h3 h4 he => hinj r r' (by omega) (by omega) he
      have hmx1 : mx (pc ps) l (i + 1) = mx (pc ps) l i + 1 := by rw [mx]; omega
      simp (disch := omega) only [zaa,zab,zac,zad,zae,zaf,zag,zah,zai,zaj,zak,zal,zam,zan,zao,zap,zaq,zar,zas,zat,zau,zav,zaw,zax,zay,zaz,zba,zbb,zbc,zbd,zbe,zbf,zbg,zbh,zbi,zbj,zbk,zbl,zbm,zbn,zbo,zbp,zbq,zbr,zbs,zbt,zbu,zbv,zbw,zbx,zby,zbz,zca,zcb,zcc,zcd,zce,zcf,zcg,zch,zci,zcj,zck,zcl,zcm,zcn,zco,zcp,zcq,zcr,zcs,zct,zcu,zcv,zcw,zcx,zcy,zcz,zda,zdb,zdc,zdd,guardV,nth,zde,zdf,zdg,zdh,zdi,Nat.reduceEqDiff,reduceIte,zdj,zdk,zdl,resultsA,RetO,Nat.reduceLT,zdm,zdn,zdo,zdp,zdq,zdr,zds,zdt,zdu,zdv,zdw,zdx,zdy,zdz,zea,zeb,zec,zed,zee,zef,zeg,zeh,zei,zej,zek,zel,zem,zen,zeo]
      refine WK_regionT 12 ⟨by kernel_rfl, by kernel_rfl, by kernel_rfl⟩ ?_
      have lR := hset.at_ (by omega)
      obtain ⟨bx, ox, hx, hx1, hx2, hld⟩ := lR
      injection hx with hx
      injection hx with q1 q2
      subst q1; subst q2
      have lR := hld R (by omega)
      rw [hCL, List.getElem?_map, List.getElem?_range (by omega)] at lR
      simp only [Option.map_some, hgR] at lR
      simp (disch := omega) only [zaa,zab,zac,zad,zae,zaf,zag,zah,zai,zaj,zak,zal,zam,zan,zao,zap,zaq,zar,zas,zat,zau,zav,zaw,zax,zay,zaz,zba,zbb,zbc,zbd,zbe,zbf,zbg,zbh,zbi,zbj,zbk,zbl,zbm,zbn,zbo,zbp,zbq,zbr,zbs,zbt,zbu,zbv,zbw,zbx,zby,zbz,zca,zcb,zcc,zcd,zce,zcf,zcg,zch,zci,zcj,zck,zcl,zcm,zcn,zco,zcp,zcq,zcr,zcs,zct,zcu,zcv,zcw,zcx,zcy,zcz,zda,zdb,zdc,zdd,guardV,nth,zde,zdf,zdg,zdh,zdi,Nat.reduceEqDiff,reduceIte,zdj,zdk,zdl,resultsA,RetO,Nat.reduceLT,zdm,zdn,zdo,zdp,zdq,zdr,zds,zdt,zdu,zdv,zdw,zdx,zdy,zdz,zea,zeb,zec,zed,zee,zef,zeg,zeh,zei,zej,zek,zel,zem,zen,zeo, e1, e14, e15, hRe, idxA136, load73, Int.toNat_natCast, Nat.mul_one, wrap_i64, lR, hix]
      refine At_lit (vs := [(0, .int .u8 ci.toNat)]) (cs := #[.int .u8 ci.toNat]) u73 i5 zero5 (by rw [size5]; rfl) (by simp only [zaa,zab,zac,zad,zae,zaf,zag,zah,zai,zaj,zak,zal,zam,zan,zao,zap,zaq,zar,zas,zat,zau,zav,zaw,zax,zay,zaz,zba,zbb,zbc,zbd,zbe,zbf,zbg,zbh,zbi,zbj,zbk,zbl,zbm,zbn,zbo,zbp,zbq,zbr,zbs,zbt,zbu,zbv,zbw,zbx,zby,zbz,zca,zcb,zcc,zcd,zce,zcf,zcg,zch,zci,zcj,zck,zcl,zcm,zcn,zco,zcp,zcq,zcr,zcs,zct,zcu,zcv,zcw,zcx,zcy,zcz,zda,zdb,zdc,zdd,guardV,nth,zde,zdf,zdg,zdh,zdi,Nat.reduceEqDiff,reduceIte,zdj,zdk,zdl,resultsA,RetO,Nat.reduceLT,zdm,zdn,zdo,zdp,zdq,zdr,zds,zdt,zdu,zdv,zdw,zdx,zdy,zdz,zea,zeb,zec,zed,zee,zef,zeg,zeh,zei,zej,zek,zel,zem,zen,zeo]) (by rw [size5]; rfl) (by omega) fun h5 hn5 => ?_
      rw [size5] at hn5
      have n5 := hn5.next
      have hlit : SlV h5.blks h4.next h5.next 1 1 (byts [ci]) (.slice (some ⟨h4.next, 0, none⟩) 1 1) := (hn5.slv (n := 1) (c := 1) rfl).wide (Nat.le_refl _) (by omega)
      have same5 : ∀ b, b < h4.next → h5.blks.get b = h4.blks.get b := fun b hb => by rw [hn5.get, if_neg (by omega)]
      have hrow5 : SlV h5.blks h2.next h2.next 1 0 (byts (sp (pc ps) l (R + 1) i)) (.slice none 0 0) := hrow.mono fun b _ hb => same5 b (by omega)
      simp (disch := omega) only [zaa,zab,zac,zad,zae,zaf,zag,zah,zai,zaj,zak,zal,zam,zan,zao,zap,zaq,zar,zas,zat,zau,zav,zaw,zax,zay,zaz,zba,zbb,zbc,zbd,zbe,zbf,zbg,zbh,zbi,zbj,zbk,zbl,zbm,zbn,zbo,zbp,zbq,zbr,zbs,zbt,zbu,zbv,zbw,zbx,zby,zbz,zca,zcb,zcc,zcd,zce,zcf,zcg,zch,zci,zcj,zck,zcl,zcm,zcn,zco,zcp,zcq,zcr,zcs,zct,zcu,zcv,zcw,zcx,zcy,zcz,zda,zdb,zdc,zdd,guardV,nth,zde,zdf,zdg,zdh,zdi,Nat.reduceEqDiff,reduceIte,zdj,zdk,zdl,resultsA,RetO,Nat.reduceLT,zdm,zdn,zdo,zdp,zdq,zdr,zds,zdt,zdu,zdv,zdw,zdx,zdy,zdz,zea,zeb,zec,zed,zee,zef,zeg,zeh,zei,zej,zek,zel,zem,zen,zeo]
      refine At_append (lo := h2.next) (hi := h2.next) (L := byts (sp (pc ps) l (R + 1) i)) (M := byts [ci]) (lo2 := h4.next) (hi2 := h5.next) (m := 1) u73 u73 i5 zero5 (by rw [size5, bytes5]; rfl) (by simp only [zaa,zab,zac,zad,zae,zaf,zag,zah,zai,zaj,zak,zal,zam,zan,zao,zap,zaq,zar,zas,zat,zau,zav,zaw,zax,zay,zaz,zba,zbb,zbc,zbd,zbe,zbf,zbg,zbh,zbi,zbj,zbk,zbl,zbm,zbn,zbo,zbp,zbq,zbr,zbs,zbt,zbu,zbv,zbw,zbx,zby,zbz,zca,zcb,zcc,zcd,zce,zcf,zcg,zch,zci,zcj,zck,zcl,zcm,zcn,zco,zcp,zcq,zcr,zcs,zct,zcu,zcv,zcw,zcx,zcy,zcz,zda,zdb,zdc,zdd,guardV,nth,zde,zdf,zdg,zdh,zdi,Nat.reduceEqDiff,reduceIte,zdj,zdk,zdl,resultsA,RetO,Nat.reduceLT,zdm,zdn,zdo,zdp,zdq,zdr,zds,zdt,zdu,zdv,zdw,zdx,zdy,zdz,zea,zeb,zec,zed,zee,zef,zeg,zeh,zei,zej,zek,zel,zem,zen,zeo]; rfl) (by rw [size5]; exact hrow5) (by omega) (by show G ≤ h2.next; omega) (by simp only [zaa,zab,zac,zad,zae,zaf,zag,zah,zai,zaj,zak,zal,zam,zan,zao,zap,zaq,zar,zas,zat,zau,zav,zaw,zax,zay,zaz,zba,zbb,zbc,zbd,zbe,zbf,zbg,zbh,zbi,zbj,zbk,zbl,zbm,zbn,zbo,zbp,zbq,zbr,zbs,zbt,zbu,zbv,zbw,zbx,zby,zbz,zca,zcb,zcc,zcd,zce,zcf,zcg,zch,zci,zcj,zck,zcl,zcm,zcn,zco,zcp,zcq,zcr,zcs,zct,zcu,zcv,zcw,zcx,zcy,zcz,zda,zdb,zdc,zdd,guardV,nth,zde,zdf,zdg,zdh,zdi,Nat.reduceEqDiff,reduceIte,zdj,zdk,zdl,resultsA,RetO,Nat.reduceLT,zdm,zdn,zdo,zdp,zdq,zdr,zds,zdt,zdu,zdv,zdw,zdx,zdy,zdz,zea,zeb,zec,zed,zee,zef,zeg,zeh,zei,zej,zek,zel,zem,zen,zeo]; rfl) (by rw [size5]; exact hlit) (by omega) (by omega) byts_one (by omega) fun h6 ha6 => ?_
      rw [size5, ← byts_append] at ha6
      have n6 := ha6.next
      have hnew6 := ha6.slv (n := 0 + 1) (c := 0 + 1) (by rw [byts_len, List.length_append, hmR]; simp)
      have same6 : ∀ b, b < h4.next → blkOf (.slice none 0 0) ≠ some b → h6.blks.get b = h4.blks.get b := fun b hb hne => by
        rw [ha6.get, if_neg (by omega), if_neg hne, same5 b hb]
      have hset6 : SlV h6.blks (h3.next + 1) ((h3.next + 1) + 1) 1 (mx (pc ps) l i + 1) (rowsV (pc ps) l bf i (mx (pc ps) l i) ++ [Value.slice none 0 0]) (.slice (some ⟨(h3.next + 1), 0, none⟩) (mx (pc ps) l i + 1) (mx (pc ps) l i + 1)) := hset.mono fun b hb1 hb2 => same6 b (by omega) fun e => by have := (hblkR b e).1; omega
      simp (disch := omega) only [zaa,zab,zac,zad,zae,zaf,zag,zah,zai,zaj,zak,zal,zam,zan,zao,zap,zaq,zar,zas,zat,zau,zav,zaw,zax,zay,zaz,zba,zbb,zbc,zbd,zbe,zbf,zbg,zbh,zbi,zbj,zbk,zbl,zbm,zbn,zbo,zbp,zbq,zbr,zbs,zbt,zbu,zbv,zbw,zbx,zby,zbz,zca,zcb,zcc,zcd,zce,zcf,zcg,zch,zci,zcj,zck,zcl,zcm,zcn,zco,zcp,zcq,zcr,zcs,zct,zcu,zcv,zcw,zcx,zcy,zcz,zda,zdb,zdc,zdd,guardV,nth,zde,zdf,zdg,zdh,zdi,Nat.reduceEqDiff,reduceIte,zdj,zdk,zdl,resultsA,RetO,Nat.reduceLT,zdm,zdn,zdo,zdp,zdq,zdr,zds,zdt,zdu,zdv,zdw,zdx,zdy,zdz,zea,zeb,zec,zed,zee,zef,zeg,zeh,zei,zej,zek,zel,zem,zen,zeo, idxA136, Int.toNat_natCast, Nat.mul_one]
      cases hset6 with
      | mk gb glo ghi gsz gL gc =>
        refine At_store (inf := inf73) (b := (h3.next + 1)) (off := 0 + R) (v := .slice (some ⟨h5.next, 0, none⟩) (0 + 1) (0 + 1)) i73 (by simp only [zaa,zab,zac,zad,zae,zaf,zag,zah,zai,zaj,zak,zal,zam,zan,zao,zap,zaq,zar,zas,zat,zau,zav,zaw,zax,zay,zaz,zba,zbb,zbc,zbd,zbe,zbf,zbg,zbh,zbi,zbj,zbk,zbl,zbm,zbn,zbo,zbp,zbq,zbr,zbs,zbt,zbu,zbv,zbw,zbx,zby,zbz,zca,zcb,zcc,zcd,zce,zcf,zcg,zch,zci,zcj,zck,zcl,zcm,zcn,zco,zcp,zcq,zcr,zcs,zct,zcu,zcv,zcw,zcx,zcy,zcz,zda,zdb,zdc,zdd,guardV,nth,zde,zdf,zdg,zdh,zdi,Nat.reduceEqDiff,reduceIte,zdj,zdk,zdl,resultsA,RetO,Nat.reduceLT,zdm,zdn,zdo,zdp,zdq,zdr,zds,zdt,zdu,zdv,zdw,zdx,zdy,zdz,zea,zeb,zec,zed,zee,zef,zeg,zeh,zei,zej,zek,zel,zem,zen,zeo]) (by simp only [zaa,zab,zac,zad,zae,zaf,zag,zah,zai,zaj,zak,zal,zam,zan,zao,zap,zaq,zar,zas,zat,zau,zav,zaw,zax,zay,zaz,zba,zbb,zbc,zbd,zbe,zbf,zbg,zbh,zbi,zbj,zbk,zbl,zbm,zbn,zbo,zbp,zbq,zbr,zbs,zbt,zbu,zbv,zbw,zbx,zby,zbz,zca,zcb,zcc,zcd,zce,zcf,zcg,zch,zci,zcj,zck,zcl,zcm,zcn,zco,zcp,zcq,zcr,zcs,zct,zcu,zcv,zcw,zcx,zcy,zcz,zda,zdb,zdc,zdd,guardV,nth,zde,zdf,zdg,zdh,zdi,Nat.reduceEqDiff,reduceIte,zdj,zdk,zdl,resultsA,RetO,Nat.reduceLT,zdm,zdn,zdo,zdp,zdq,zdr,zds,zdt,zdu,zdv,zdw,zdx,zdy,zdz,zea,zeb,zec,zed,zee,zef,zeg,zeh,zei,zej,zek,zel,zem,zen,zeo]) (by rw [size73]; rfl) rfl gb (by rw [size73]; omega) (by show G ≤ (h3.next + 1); omega) fun h7 hs7 => ?_
        have n7 := hs7.next
        have hset7 := hs7.slv (c := (mx (pc ps) l i + 1)) (.mk gb glo ghi gsz gL gc) (by show R + 1 ≤ (mx (pc ps) l i + 1) * 1; omega)
        have hcl7 : (rowsV (pc ps) l bf i (mx (pc ps) l i) ++ [Value.slice none 0 0]).take R ++ (Value.slice (some ⟨h5.next, 0, none⟩) (0 + 1) (0 + 1)).cells.toList ++ (rowsV (pc ps) l bf i (mx (pc ps) l i) ++ [Value.slice none 0 0]).drop (R + (Value.slice (some ⟨h5.next, 0, none⟩) (0 + 1) (0 + 1)).cells.toList.length) = rowsV (pc ps) l (fun r => if r = R then h5.next else bf r) (i + 1) (mx (pc ps) l i + 1) := by
          have e1 : (Value.slice (some ⟨h5.next, 0, none⟩) (0 + 1) (0 + 1)).cells.toList = [Value.slice (some ⟨h5.next, 0, none⟩) (0 + 1) (0 + 1)] := rfl
          rw [e1, hCL, List.length_singleton, map_range_set (by omega)]
          unfold rowsV
          refine List.map_congr_left fun r hr => ?_
          have hr' := List.mem_range.1 hr
          by_cases e : r = R
          · subst e
            rw [if_pos rfl]
            show _ = rowV (if r = r then h5.next else bf r) _
            rw [if_pos rfl]
            have : sp (pc ps) l (r + 1) (i + 1) = sp (pc ps) l (r + 1) i ++ [ci] := by rw [sp, if_pos (by omega), hcid]
            unfold rowV
            rw [this, List.length_append, ← hmR]; rfl
          · rw [if_neg e]
            show _ = rowV (if r = R then h5.next else bf r) _
            rw [if_neg e, hgo r hr' e]
            have : sp (pc ps) l (r + 1) (i + 1) = sp (pc ps) l (r + 1) i := by rw [sp, if_neg (by omega)]
            rw [this]
        rw [hcl7] at hset7
        simp (disch := omega) only [zaa,zab,zac,zad,zae,zaf,zag,zah,zai,zaj,zak,zal,zam,zan,zao,zap,zaq,zar,zas,zat,zau,zav,zaw,zax,zay,zaz,zba,zbb,zbc,zbd,zbe,zbf,zbg,zbh,zbi,zbj,zbk,zbl,zbm,zbn,zbo,zbp,zbq,zbr,zbs,zbt,zbu,zbv,zbw,zbx,zby,zbz,zca,zcb,zcc,zcd,zce,zcf,zcg,zch,zci,zcj,zck,zcl,zcm,zcn,zco,zcp,zcq,zcr,zcs,zct,zcu,zcv,zcw,zcx,zcy,zcz,zda,zdb,zdc,zdd,guardV,nth,zde,zdf,zdg,zdh,zdi,Nat.reduceEqDiff,reduceIte,zdj,zdk,zdl,resultsA,RetO,Nat.reduceLT,zdm,zdn,zdo,zdp,zdq,zdr,zds,zdt,zdu,zdv,zdw,zdx,zdy,zdz,zea,zeb,zec,zed,zee,zef,zeg,zeh,zei,zej,zek,zel,zem,zen,zeo, e15, wrap_i64]
        refine hJ (j - 1) _ _ (by omega) ⟨i + 1, some ⟨(h3.next + 1), 0, none⟩, (h3.next + 1), fun r => if r = R then h5.next else bf r, by omega, by simp only [zaa,zab,zac,zad,zae,zaf,zag,zah,zai,zaj,zak,zal,zam,zan,zao,zap,zaq,zar,zas,zat,zau,zav,zaw,zax,zay,zaz,zba,zbb,zbc,zbd,zbe,zbf,zbg,zbh,zbi,zbj,zbk,zbl,zbm,zbn,zbo,zbp,zbq,zbr,zbs,zbt,zbu,zbv,zbw,zbx,zby,zbz,zca,zcb,zcc,zcd,zce,zcf,zcg,zch,zci,zcj,zck,zcl,zcm,zcn,zco,zcp,zcq,zcr,zcs,zct,zcu,zcv,zcw,zcx,zcy,zcz,zda,zdb,zdc,zdd,guardV,nth,zde,zdf,zdg,zdh,zdi,Nat.reduceEqDiff,reduceIte,zdj,zdk,zdl,resultsA,RetO,Nat.reduceLT,zdm,zdn,zdo,zdp,zdq,zdr,zds,zdt,zdu,zdv,zdw,zdx,zdy,zdz,zea,zeb,zec,zed,zee,zef,zeg,zeh,zei,zej,zek,zel,zem,zen,zeo, e1], by rw [hmx1]; simp only [zaa,zab,zac,zad,zae,zaf,zag,zah,zai,zaj,zak,zal,zam,zan,zao,zap,zaq,zar,zas,zat,zau,zav,zaw,zax,zay,zaz,zba,zbb,zbc,zbd,zbe,zbf,zbg,zbh,zbi,zbj,zbk,zbl,zbm,zbn,zbo,zbp,zbq,zbr,zbs,zbt,zbu,zbv,zbw,zbx,zby,zbz,zca,zcb,zcc,zcd,zce,zcf,zcg,zch,zci,zcj,zck,zcl,zcm,zcn,zco,zcp,zcq,zcr,zcs,zct,zcu,zcv,zcw,zcx,zcy,zcz,zda,zdb,zdc,zdd,guardV,nth,zde,zdf,zdg,zdh,zdi,Nat.reduceEqDiff,reduceIte,zdj,zdk,zdl,resultsA,RetO,Nat.reduceLT,zdm,zdn,zdo,zdp,zdq,zdr,zds,zdt,zdu,zdv,zdw,zdx,zdy,zdz,zea,zeb,zec,zed,zee,zef,zeg,zeh,zei,zej,zek,zel,zem,zen,zeo], by rw [hHA]; simp only [zaa,zab,zac,zad,zae,zaf,zag,zah,zai,zaj,zak,zal,zam,zan,zao,zap,zaq,zar,zas,zat,zau,zav,zaw,zax,zay,zaz,zba,zbb,zbc,zbd,zbe,zbf,zbg,zbh,zbi,zbj,zbk,zbl,zbm,zbn,zbo,zbp,zbq,zbr,zbs,zbt,zbu,zbv,zbw,zbx,zby,zbz,zca,zcb,zcc,zcd,zce,zcf,zcg,zch,zci,zcj,zck,zcl,zcm,zcn,zco,zcp,zcq,zcr,zcs,zct,zcu,zcv,zcw,zcx,zcy,zcz,zda,zdb,zdc,zdd,guardV,nth,zde,zdf,zdg,zdh,zdi,Nat.reduceEqDiff,reduceIte,zdj,zdk,zdl,resultsA,RetO,Nat.reduceLT,zdm,zdn,zdo,zdp,zdq,zdr,zds,zdt,zdu,zdv,zdw,zdx,zdy,zdz,zea,zeb,zec,zed,zee,zef,zeg,zeh,zei,zej,zek,zel,zem,zen,zeo, e13], by simp only [zaa,zab,zac,zad,zae,zaf,zag,zah,zai,zaj,zak,zal,zam,zan,zao,zap,zaq,zar,zas,zat,zau,zav,zaw,zax,zay,zaz,zba,zbb,zbc,zbd,zbe,zbf,zbg,zbh,zbi,zbj,zbk,zbl,zbm,zbn,zbo,zbp,zbq,zbr,zbs,zbt,zbu,zbv,zbw,zbx,zby,zbz,zca,zcb,zcc,zcd,zce,zcf,zcg,zch,zci,zcj,zck,zcl,zcm,zcn,zco,zcp,zcq,zcr,zcs,zct,zcu,zcv,zcw,zcx,zcy,zcz,zda,zdb,zdc,zdd,guardV,nth,zde,zdf,zdg,zdh,zdi,Nat.reduceEqDiff,reduceIte,zdj,zdk,zdl,resultsA,RetO,Nat.reduceLT,zdm,zdn,zdo,zdp,zdq,zdr,zds,zdt,zdu,zdv,zdw,zdx,zdy,zdz,zea,zeb,zec,zed,zee,zef,zeg,zeh,zei,zej,zek,zel,zem,zen,zeo, e14], by simp only [zaa,zab,zac,zad,zae,zaf,zag,zah,zai,zaj,zak,zal,zam,zan,zao,zap,zaq,zar,zas,zat,zau,zav,zaw,zax,zay,zaz,zba,zbb,zbc,zbd,zbe,zbf,zbg,zbh,zbi,zbj,zbk,zbl,zbm,zbn,zbo,zbp,zbq,zbr,zbs,zbt,zbu,zbv,zbw,zbx,zby,zbz,zca,zcb,zcc,zcd,zce,zcf,zcg,zch,zci,zcj,zck,zcl,zcm,zcn,zco,zcp,zcq,zcr,zcs,zct,zcu,zcv,zcw,zcx,zcy,zcz,zda,zdb,zdc,zdd,guardV,nth,zde,zdf,zdg,zdh,zdi,Nat.reduceEqDiff,reduceIte,zdj,zdk,zdl,resultsA,RetO,Nat.reduceLT,zdm,zdn,zdo,zdp,zdq,zdr,zds,zdt,zdu,zdv,zdw,zdx,zdy,zdz,zea,zeb,zec,zed,zee,zef,zeg,zeh,zei,zej,zek,zel,zem,zen,zeo]; rfl,
          by rw [hmx1]; exact hset7, .inl (by omega), by omega, fun r hr => ?_, fun r r' hr hr' he => ?_, hpr4.trans ((hn5.pres (by omega)).trans ((ha6.pres (by omega) fun b hb => by have := (hblkR b hb).2; omega).trans (hs7.pres (by omega)))), by omega⟩
        · rw [hmx1] at hr
          by_cases e : r = R
          · subst e
            simp only [if_true]
            have : sp (pc ps) l (r + 1) (i + 1) = sp (pc ps) l (r + 1) i ++ [ci] := by rw [sp, if_pos (by omega), hcid]
            refine ⟨by omega, by omega, by omega, ?_⟩
            unfold rowV
            rw [this, List.length_append, ← hmR]
            exact (hnew6.mono fun b hb1 hb2 => hs7.get _ (by omega)).wide (Nat.le_refl _) (by omega)
          · simp only [if_neg e]
            obtain ⟨k1, k2, k3, k4⟩ := hoth r hr e
            have : sp (pc ps) l (r + 1) (i + 1) = sp (pc ps) l (r + 1) i := by rw [sp, if_neg (by omega)]
            rw [this]
            exact ⟨k1, by omega, k3, k4.mono fun b hb1 hb2 => by
              obtain rfl : b = bf r := by omega
              rw [hs7.get _ k3]
              exact same6 _ k2 fun e2 => hblkO r hr e e2⟩
        · rw [hmx1] at hr hr'
          by_cases e : r = R
          · by_cases e' : r' = R
            · omega
            · simp only [if_pos e, if_neg e'] at he
              have := (hoth r' hr' e').2.1
              omega
          · by_cases e' : r' = R
            · simp only [if_neg e, if_pos e'] at he
              have := (hoth r hr e).2.1
              omega
            · simp only [if_neg e, if_neg e'] at he
              exact hinjO r r' hr hr' e e' he
    · have hRS : R < mx (pc ps) l i := by omega
      have d1 : decide (((mx (pc ps) l i : Nat) : Int) < ((ht (pc ps) l i : Nat) : Int)) = false := decide_eq_false (by omega)
      obtain ⟨bx0, so, rfl, hx01, hx02, _⟩ := hset0.at_ (by omega)
      obtain rfl : bx0 = sb := by omega
      have hsb' : h2.next ≤ bx0 := by
        rcases hsb with hsb | ⟨_, hA, _⟩
        · exact hsb
        · cases hA
      obtain ⟨r1, r2, r3, r4⟩ := hrows R hRS
      simp (disch := omega) only [zaa,zab,zac,zad,zae,zaf,zag,zah,zai,zaj,zak,zal,zam,zan,zao,zap,zaq,zar,zas,zat,zau,zav,zaw,zax,zay,zaz,zba,zbb,zbc,zbd,zbe,zbf,zbg,zbh,zbi,zbj,zbk,zbl,zbm,zbn,zbo,zbp,zbq,zbr,zbs,zbt,zbu,zbv,zbw,zbx,zby,zbz,zca,zcb,zcc,zcd,zce,zcf,zcg,zch,zci,zcj,zck,zcl,zcm,zcn,zco,zcp,zcq,zcr,zcs,zct,zcu,zcv,zcw,zcx,zcy,zcz,zda,zdb,zdc,zdd,guardV,nth,zde,zdf,zdg,zdh,zdi,Nat.reduceEqDiff,reduceIte,zdj,zdk,zdl,resultsA,RetO,Nat.reduceLT,zdm,zdn,zdo,zdp,zdq,zdr,zds,zdt,zdu,zdv,zdw,zdx,zdy,zdz,zea,zeb,zec,zed,zee,zef,zeg,zeh,zei,zej,zek,zel,zem,zen,zeo, e5, d1]
      have hpr4 : Pres h2.next h2 h3 := pr3
      have hset := hset0
      obtain ⟨mR, hmR⟩ : ∃ mR, mR = (sp (pc ps) l (R + 1) i).length := ⟨_, rfl⟩
      obtain ⟨g, hg⟩ : ∃ g : Nat → Value, (fun r => rowV (bf r) (sp (pc ps) l (r + 1) i)) = g := ⟨_, rfl⟩
      have hgR : g R = .slice (some ⟨bf R, 0, none⟩) mR mR := by rw [← hg, hmR]; rfl
      have hgo : ∀ r, r < mx (pc ps) l i → r ≠ R → g r = rowV (bf r) (sp (pc ps) l (r + 1) i) := fun r _ _ => by rw [← hg]
      have hCL : rowsV (pc ps) l bf i (mx (pc ps) l i) = (List.range (mx (pc ps) l i)).map g := by rw [← hg]; rfl
      have hrow : SlV h3.blks (bf R) (bf R + 1) 1 mR (byts (sp (pc ps) l (R + 1) i)) (.slice (some ⟨bf R, 0, none⟩) mR mR) := by rw [hmR]; exact r4
      have hblkR : ∀ b, blkOf (.slice (some ⟨bf R, 0, none⟩) mR mR) = some b → b ≠ bx0 ∧ h2.next ≤ b := fun b hb => by
        cases hb
        exact ⟨r3, r1⟩
      have hblkO : ∀ r, r < mx (pc ps) l i → r ≠ R → blkOf (.slice (some ⟨bf R, 0, none⟩) mR mR) ≠ some (bf r) := fun r hr hne hb => by
        have e : bf R = bf r := Option.some.inj hb
        exact hne (hinj R r hRS hr e).symm
      have hoth : ∀ r, r < mx (pc ps) l i → r ≠ R → h2.next ≤ bf r ∧ bf r < h3.next ∧ bf r ≠ bx0 ∧ SlV h3.blks (bf r) (bf r + 1) 1 (sp (pc ps) l (r + 1) i).length (byts (sp (pc ps) l (r + 1) i)) (rowV (bf r) (sp (pc ps) l (r + 1) i)) := fun r hr _ => hrows r hr
      have hinjO : ∀ r r', r < mx (pc ps) l i → r' < mx (pc ps) l i → r ≠ R → r' ≠ R → bf r = bf r' → r = r' := fun r r' h1 h2 _ _ he => hinj r r' h1 h2 he
      have hmx1 : mx (pc ps) l (i + 1) = mx (pc ps) l i := by rw [mx]; omega
      refine WK_regionT 12 ⟨by kernel_rfl, by kernel_rfl, by kernel_rfl⟩ ?_
      have lR := hset.at_ (by omega)
      obtain ⟨bx, ox, hx, hx1, hx2, hld⟩ := lR
      injection hx with hx
      injection hx with q1 q2
      subst q1; subst q2
      have lR := hld R (by omega)
      rw [hCL, List.getElem?_map, List.getElem?_range (by omega)] at lR
      simp only [Option.map_some, hgR] at lR
      simp (disch := omega) only [zaa,zab,zac,zad,zae,zaf,zag,zah,zai,zaj,zak,zal,zam,zan,zao,zap,zaq,zar,zas,zat,zau,zav,zaw,zax,zay,zaz,zba,zbb,zbc,zbd,zbe,zbf,zbg,zbh,zbi,zbj,zbk,zbl,zbm,zbn,zbo,zbp,zbq,zbr,zbs,zbt,zbu,zbv,zbw,zbx,zby,zbz,zca,zcb,zcc,zcd,zce,zcf,zcg,zch,zci,zcj,zck,zcl,zcm,zcn,zco,zcp,zcq,zcr,zcs,zct,zcu,zcv,zcw,zcx,zcy,zcz,zda,zdb,zdc,zdd,guardV,nth,zde,zdf,zdg,zdh,zdi,Nat.reduceEqDiff,reduceIte,zdj,zdk,zdl,resultsA,RetO,Nat.reduceLT,zdm,zdn,zdo,zdp,zdq,zdr,zds,zdt,zdu,zdv,zdw,zdx,zdy,zdz,zea,zeb,zec,zed,zee,zef,zeg,zeh,zei,zej,zek,zel,zem,zen,zeo, e1, e5, e14, e15, hRe, idxA136, load73, Int.toNat_natCast, Nat.mul_one, wrap_i64, lR, hix]
      refine At_lit (vs := [(0, .int .u8 ci.toNat)]) (cs := #[.int .u8 ci.toNat]) u73 i5 zero5 (by rw [size5]; rfl) (by simp only [zaa,zab,zac,zad,zae,zaf,zag,zah,zai,zaj,zak,zal,zam,zan,zao,zap,zaq,zar,zas,zat,zau,zav,zaw,zax,zay,zaz,zba,zbb,zbc,zbd,zbe,zbf,zbg,zbh,zbi,zbj,zbk,zbl,zbm,zbn,zbo,zbp,zbq,zbr,zbs,zbt,zbu,zbv,zbw,zbx,zby,zbz,zca,zcb,zcc,zcd,zce,zcf,zcg,zch,zci,zcj,zck,zcl,zcm,zcn,zco,zcp,zcq,zcr,zcs,zct,zcu,zcv,zcw,zcx,zcy,zcz,zda,zdb,zdc,zdd,guardV,nth,zde,zdf,zdg,zdh,zdi,Nat.reduceEqDiff,reduceIte,zdj,zdk,zdl,resultsA,RetO,Nat.reduceLT,zdm,zdn,zdo,zdp,zdq,zdr,zds,zdt,zdu,zdv,zdw,zdx,zdy,zdz,zea,zeb,zec,zed,zee,zef,zeg,zeh,zei,zej,zek,zel,zem,zen,zeo]) (by rw [size5]; rfl) (by omega) fun h5 hn5 => ?_
      rw [size5] at hn5
      have n5 := hn5.next
      have hlit : SlV h5.blks h3.next h5.next 1 1 (byts [ci]) (.slice (some ⟨h3.next, 0, none⟩) 1 1) := (hn5.slv (n := 1) (c := 1) rfl).wide (Nat.le_refl _) (by omega)
      have same5 : ∀ b, b < h3.next → h5.blks.get b = h3.blks.get b := fun b hb => by rw [hn5.get, if_neg (by omega)]
      have hrow5 : SlV h5.blks (bf R) (bf R + 1) 1 mR (byts (sp (pc ps) l (R + 1) i)) (.slice (some ⟨bf R, 0, none⟩) mR mR) := hrow.mono fun b _ hb => same5 b (by omega)
      simp (disch := omega) only [zaa,zab,zac,zad,zae,zaf,zag,zah,zai,zaj,zak,zal,zam,zan,zao,zap,zaq,zar,zas,zat,zau,zav,zaw,zax,zay,zaz,zba,zbb,zbc,zbd,zbe,zbf,zbg,zbh,zbi,zbj,zbk,zbl,zbm,zbn,zbo,zbp,zbq,zbr,zbs,zbt,zbu,zbv,zbw,zbx,zby,zbz,zca,zcb,zcc,zcd,zce,zcf,zcg,zch,zci,zcj,zck,zcl,zcm,zcn,zco,zcp,zcq,zcr,zcs,zct,zcu,zcv,zcw,zcx,zcy,zcz,zda,zdb,zdc,zdd,guardV,nth,zde,zdf,zdg,zdh,zdi,Nat.reduceEqDiff,reduceIte,zdj,zdk,zdl,resultsA,RetO,Nat.reduceLT,zdm,zdn,zdo,zdp,zdq,zdr,zds,zdt,zdu,zdv,zdw,zdx,zdy,zdz,zea,zeb,zec,zed,zee,zef,zeg,zeh,zei,zej,zek,zel,zem,zen,zeo]
      refine At_append (lo := (bf R)) (hi := (bf R + 1)) (L := byts (sp (pc ps) l (R + 1) i)) (M := byts [ci]) (lo2 := h3.next) (hi2 := h5.next) (m := 1) u73 u73 i5 zero5 (by rw [size5, bytes5]; rfl) (by simp only [zaa,zab,zac,zad,zae,zaf,zag,zah,zai,zaj,zak,zal,zam,zan,zao,zap,zaq,zar,zas,zat,zau,zav,zaw,zax,zay,zaz,zba,zbb,zbc,zbd,zbe,zbf,zbg,zbh,zbi,zbj,zbk,zbl,zbm,zbn,zbo,zbp,zbq,zbr,zbs,zbt,zbu,zbv,zbw,zbx,zby,zbz,zca,zcb,zcc,zcd,zce,zcf,zcg,zch,zci,zcj,zck,zcl,zcm,zcn,zco,zcp,zcq,zcr,zcs,zct,zcu,zcv,zcw,zcx,zcy,zcz,zda,zdb,zdc,zdd,guardV,nth,zde,zdf,zdg,zdh,zdi,Nat.reduceEqDiff,reduceIte,zdj,zdk,zdl,resultsA,RetO,Nat.reduceLT,zdm,zdn,zdo,zdp,zdq,zdr,zds,zdt,zdu,zdv,zdw,zdx,zdy,zdz,zea,zeb,zec,zed,zee,zef,zeg,zeh,zei,zej,zek,zel,zem,zen,zeo]; rfl) (by rw [size5]; exact hrow5) (by omega) (by show G ≤ (bf R); omega) (by simp only [zaa,zab,zac,zad,zae,zaf,zag,zah,zai,zaj,zak,zal,zam,zan,zao,zap,zaq,zar,zas,zat,zau,zav,zaw,zax,zay,zaz,zba,zbb,zbc,zbd,zbe,zbf,zbg,zbh,zbi,zbj,zbk,zbl,zbm,zbn,zbo,zbp,zbq,zbr,zbs,zbt,zbu,zbv,zbw,zbx,zby,zbz,zca,zcb,zcc,zcd,zce,zcf,zcg,zch,zci,zcj,zck,zcl,zcm,zcn,zco,zcp,zcq,zcr,zcs,zct,zcu,zcv,zcw,zcx,zcy,zcz,zda,zdb,zdc,zdd,guardV,nth,zde,zdf,zdg,zdh,zdi,Nat.reduceEqDiff,reduceIte,zdj,zdk,zdl,resultsA,RetO,Nat.reduceLT,zdm,zdn,zdo,zdp,zdq,zdr,zds,zdt,zdu,zdv,zdw,zdx,zdy,zdz,zea,zeb,zec,zed,zee,zef,zeg,zeh,zei,zej,zek,zel,zem,zen,zeo]; rfl) (by rw [size5]; exact hlit) (by omega) (by omega) byts_one (by omega) fun h6 ha6 => ?_
      rw [size5, ← byts_append] at ha6
      have n6 := ha6.next
      have hnew6 := ha6.slv (n := mR + 1) (c := mR + 1) (by rw [byts_len, List.length_append, hmR]; simp)
      have same6 : ∀ b, b < h3.next → blkOf (.slice (some ⟨bf R, 0, none⟩) mR mR) ≠ some b → h6.blks.get b = h3.blks.get b := fun b hb hne => by
        rw [ha6.get, if_neg (by omega), if_neg hne, same5 b hb]
      have hset6 : SlV h6.blks bx0 (bx0 + 1) 1 (mx (pc ps) l i) (rowsV (pc ps) l bf i (mx (pc ps) l i)) (.slice (some ⟨bx0, so, none⟩) (mx (pc ps) l i) (mx (pc ps) l i)) := hset.mono fun b hb1 hb2 => same6 b (by omega) fun e => by have := (hblkR b e).1; omega
      simp (disch := omega) only [zaa,zab,zac,zad,zae,zaf,zag,zah,zai,zaj,zak,zal,zam,zan,zao,zap,zaq,zar,zas,zat,zau,zav,zaw,zax,zay,zaz,zba,zbb,zbc,zbd,zbe,zbf,zbg,zbh,zbi,zbj,zbk,zbl,zbm,zbn,zbo,zbp,zbq,zbr,zbs,zbt,zbu,zbv,zbw,zbx,zby,zbz,zca,zcb,zcc,zcd,zce,zcf,zcg,zch,zci,zcj,zck,zcl,zcm,zcn,zco,zcp,zcq,zcr,zcs,zct,zcu,zcv,zcw,zcx,zcy,zcz,zda,zdb,zdc,zdd,guardV,nth,zde,zdf,zdg,zdh,zdi,Nat.reduceEqDiff,reduceIte,zdj,zdk,zdl,resultsA,RetO,Nat.reduceLT,zdm,zdn,zdo,zdp,zdq,zdr,zds,zdt,zdu,zdv,zdw,zdx,zdy,zdz,zea,zeb,zec,zed,zee,zef,zeg,zeh,zei,zej,zek,zel,zem,zen,zeo, idxA136, Int.toNat_natCast, Nat.mul_one]
      cases hset6 with
      | mk gb glo ghi gsz gL gc =>
        refine At_store (inf := inf73) (b := bx0) (off := so + R) (v := .slice (some ⟨h5.next, 0, none⟩) (mR + 1) (mR + 1)) i73 (by simp only [zaa,zab,zac,zad,zae,zaf,zag,zah,zai,zaj,zak,zal,zam,zan,zao,zap,zaq,zar,zas,zat,zau,zav,zaw,zax,zay,zaz,zba,zbb,zbc,zbd,zbe,zbf,zbg,zbh,zbi,zbj,zbk,zbl,zbm,zbn,zbo,zbp,zbq,zbr,zbs,zbt,zbu,zbv,zbw,zbx,zby,zbz,zca,zcb,zcc,zcd,zce,zcf,zcg,zch,zci,zcj,zck,zcl,zcm,zcn,zco,zcp,zcq,zcr,zcs,zct,zcu,zcv,zcw,zcx,zcy,zcz,zda,zdb,zdc,zdd,guardV,nth,zde,zdf,zdg,zdh,zdi,Nat.reduceEqDiff,reduceIte,zdj,zdk,zdl,resultsA,RetO,Nat.reduceLT,zdm,zdn,zdo,zdp,zdq,zdr,zds,zdt,zdu,zdv,zdw,zdx,zdy,zdz,zea,zeb,zec,zed,zee,zef,zeg,zeh,zei,zej,zek,zel,zem,zen,zeo]) (by simp only [zaa,zab,zac,zad,zae,zaf,zag,zah,zai,zaj,zak,zal,zam,zan,zao,zap,zaq,zar,zas,zat,zau,zav,zaw,zax,zay,zaz,zba,zbb,zbc,zbd,zbe,zbf,zbg,zbh,zbi,zbj,zbk,zbl,zbm,zbn,zbo,zbp,zbq,zbr,zbs,zbt,zbu,zbv,zbw,zbx,zby,zbz,zca,zcb,zcc,zcd,zce,zcf,zcg,zch,zci,zcj,zck,zcl,zcm,zcn,zco,zcp,zcq,zcr,zcs,zct,zcu,zcv,zcw,zcx,zcy,zcz,zda,zdb,zdc,zdd,guardV,nth,zde,zdf,zdg,zdh,zdi,Nat.reduceEqDiff,reduceIte,zdj,zdk,zdl,resultsA,RetO,Nat.reduceLT,zdm,zdn,zdo,zdp,zdq,zdr,zds,zdt,zdu,zdv,zdw,zdx,zdy,zdz,zea,zeb,zec,zed,zee,zef,zeg,zeh,zei,zej,zek,zel,zem,zen,zeo]) (by rw [size73]; rfl) rfl gb (by rw [size73]; omega) (by show G ≤ bx0; omega) fun h7 hs7 => ?_
        have n7 := hs7.next
        have hset7 := hs7.slv (c := (mx (pc ps) l i)) (.mk gb glo ghi gsz gL gc) (by show R + 1 ≤ (mx (pc ps) l i) * 1; omega)
        have hcl7 : (rowsV (pc ps) l bf i (mx (pc ps) l i)).take R ++ (Value.slice (some ⟨h5.next, 0, none⟩) (mR + 1) (mR + 1)).cells.toList ++ (rowsV (pc ps) l bf i (mx (pc ps) l i)).drop (R + (Value.slice (some ⟨h5.next, 0, none⟩) (mR + 1) (mR + 1)).cells.toList.length) = rowsV (pc ps) l (fun r => if r = R then h5.next else bf r) (i + 1) (mx (pc ps) l i) := by
          have e1 : (Value.slice (some ⟨h5.next, 0, none⟩) (mR + 1) (mR + 1)).cells.toList = [Value.slice (some ⟨h5.next, 0, none⟩) (mR + 1) (mR + 1)] := rfl
          rw [e1, hCL, List.length_singleton, map_range_set (by omega)]
          unfold rowsV
          refine List.map_congr_left fun r hr => ?_
          have hr' := List.mem_range.1 hr
          by_cases e : r = R
          · subst e
            rw [if_pos rfl]
            show _ = rowV (if r = r then h5.next else bf r) _
            rw [if_pos rfl]
            have : sp (pc ps) l (r + 1) (i + 1) = sp (pc ps) l (r + 1) i ++ [ci] := by rw [sp, if_pos (by omega), hcid]
            unfold rowV
            rw [this, List.length_append, ← hmR]; rfl
          · rw [if_neg e]
            show _ = rowV (if r = R then h5.next else bf r) _
            rw [if_neg e, hgo r hr' e]
            have : sp (pc ps) l (r + 1) (i + 1) = sp (pc ps) l (r + 1) i := by rw [sp, if_neg (by omega)]
            rw [this]
        rw [hcl7] at hset7
        simp (disch := omega) only [zaa,zab,zac,zad,zae,zaf,zag,zah,zai,zaj,zak,zal,zam,zan,zao,zap,zaq,zar,zas,zat,zau,zav,zaw,zax,zay,zaz,zba,zbb,zbc,zbd,zbe,zbf,zbg,zbh,zbi,zbj,zbk,zbl,zbm,zbn,zbo,zbp,zbq,zbr,zbs,zbt,zbu,zbv,zbw,zbx,zby,zbz,zca,zcb,zcc,zcd,zce,zcf,zcg,zch,zci,zcj,zck,zcl,zcm,zcn,zco,zcp,zcq,zcr,zcs,zct,zcu,zcv,zcw,zcx,zcy,zcz,zda,zdb,zdc,zdd,guardV,nth,zde,zdf,zdg,zdh,zdi,Nat.reduceEqDiff,reduceIte,zdj,zdk,zdl,resultsA,RetO,Nat.reduceLT,zdm,zdn,zdo,zdp,zdq,zdr,zds,zdt,zdu,zdv,zdw,zdx,zdy,zdz,zea,zeb,zec,zed,zee,zef,zeg,zeh,zei,zej,zek,zel,zem,zen,zeo, e15, wrap_i64]
        refine hJ (j - 1) _ _ (by omega) ⟨i + 1, some ⟨bx0, so, none⟩, bx0, fun r => if r = R then h5.next else bf r, by omega, by simp only [zaa,zab,zac,zad,zae,zaf,zag,zah,zai,zaj,zak,zal,zam,zan,zao,zap,zaq,zar,zas,zat,zau,zav,zaw,zax,zay,zaz,zba,zbb,zbc,zbd,zbe,zbf,zbg,zbh,zbi,zbj,zbk,zbl,zbm,zbn,zbo,zbp,zbq,zbr,zbs,zbt,zbu,zbv,zbw,zbx,zby,zbz,zca,zcb,zcc,zcd,zce,zcf,zcg,zch,zci,zcj,zck,zcl,zcm,zcn,zco,zcp,zcq,zcr,zcs,zct,zcu,zcv,zcw,zcx,zcy,zcz,zda,zdb,zdc,zdd,guardV,nth,zde,zdf,zdg,zdh,zdi,Nat.reduceEqDiff,reduceIte,zdj,zdk,zdl,resultsA,RetO,Nat.reduceLT,zdm,zdn,zdo,zdp,zdq,zdr,zds,zdt,zdu,zdv,zdw,zdx,zdy,zdz,zea,zeb,zec,zed,zee,zef,zeg,zeh,zei,zej,zek,zel,zem,zen,zeo, e1], by rw [hmx1]; simp only [zaa,zab,zac,zad,zae,zaf,zag,zah,zai,zaj,zak,zal,zam,zan,zao,zap,zaq,zar,zas,zat,zau,zav,zaw,zax,zay,zaz,zba,zbb,zbc,zbd,zbe,zbf,zbg,zbh,zbi,zbj,zbk,zbl,zbm,zbn,zbo,zbp,zbq,zbr,zbs,zbt,zbu,zbv,zbw,zbx,zby,zbz,zca,zcb,zcc,zcd,zce,zcf,zcg,zch,zci,zcj,zck,zcl,zcm,zcn,zco,zcp,zcq,zcr,zcs,zct,zcu,zcv,zcw,zcx,zcy,zcz,zda,zdb,zdc,zdd,guardV,nth,zde,zdf,zdg,zdh,zdi,Nat.reduceEqDiff,reduceIte,zdj,zdk,zdl,resultsA,RetO,Nat.reduceLT,zdm,zdn,zdo,zdp,zdq,zdr,zds,zdt,zdu,zdv,zdw,zdx,zdy,zdz,zea,zeb,zec,zed,zee,zef,zeg,zeh,zei,zej,zek,zel,zem,zen,zeo, e5], by rw [hHA]; simp only [zaa,zab,zac,zad,zae,zaf,zag,zah,zai,zaj,zak,zal,zam,zan,zao,zap,zaq,zar,zas,zat,zau,zav,zaw,zax,zay,zaz,zba,zbb,zbc,zbd,zbe,zbf,zbg,zbh,zbi,zbj,zbk,zbl,zbm,zbn,zbo,zbp,zbq,zbr,zbs,zbt,zbu,zbv,zbw,zbx,zby,zbz,zca,zcb,zcc,zcd,zce,zcf,zcg,zch,zci,zcj,zck,zcl,zcm,zcn,zco,zcp,zcq,zcr,zcs,zct,zcu,zcv,zcw,zcx,zcy,zcz,zda,zdb,zdc,zdd,guardV,nth,zde,zdf,zdg,zdh,zdi,Nat.reduceEqDiff,reduceIte,zdj,zdk,zdl,resultsA,RetO,Nat.reduceLT,zdm,zdn,zdo,zdp,zdq,zdr,zds,zdt,zdu,zdv,zdw,zdx,zdy,zdz,zea,zeb,zec,zed,zee,zef,zeg,zeh,zei,zej,zek,zel,zem,zen,zeo, e13], by simp only [zaa,zab,zac,zad,zae,zaf,zag,zah,zai,zaj,zak,zal,zam,zan,zao,zap,zaq,zar,zas,zat,zau,zav,zaw,zax,zay,zaz,zba,zbb,zbc,zbd,zbe,zbf,zbg,zbh,zbi,zbj,zbk,zbl,zbm,zbn,zbo,zbp,zbq,zbr,zbs,zbt,zbu,zbv,zbw,zbx,zby,zbz,zca,zcb,zcc,zcd,zce,zcf,zcg,zch,zci,zcj,zck,zcl,zcm,zcn,zco,zcp,zcq,zcr,zcs,zct,zcu,zcv,zcw,zcx,zcy,zcz,zda,zdb,zdc,zdd,guardV,nth,zde,zdf,zdg,zdh,zdi,Nat.reduceEqDiff,reduceIte,zdj,zdk,zdl,resultsA,RetO,Nat.reduceLT,zdm,zdn,zdo,zdp,zdq,zdr,zds,zdt,zdu,zdv,zdw,zdx,zdy,zdz,zea,zeb,zec,zed,zee,zef,zeg,zeh,zei,zej,zek,zel,zem,zen,zeo, e14], by simp only [zaa,zab,zac,zad,zae,zaf,zag,zah,zai,zaj,zak,zal,zam,zan,zao,zap,zaq,zar,zas,zat,zau,zav,zaw,zax,zay,zaz,zba,zbb,zbc,zbd,zbe,zbf,zbg,zbh,zbi,zbj,zbk,zbl,zbm,zbn,zbo,zbp,zbq,zbr,zbs,zbt,zbu,zbv,zbw,zbx,zby,zbz,zca,zcb,zcc,zcd,zce,zcf,zcg,zch,zci,zcj,zck,zcl,zcm,zcn,zco,zcp,zcq,zcr,zcs,zct,zcu,zcv,zcw,zcx,zcy,zcz,zda,zdb,zdc,zdd,guardV,nth,zde,zdf,zdg,zdh,zdi,Nat.reduceEqDiff,reduceIte,zdj,zdk,zdl,resultsA,RetO,Nat.reduceLT,zdm,zdn,zdo,zdp,zdq,zdr,zds,zdt,zdu,zdv,zdw,zdx,zdy,zdz,zea,zeb,zec,zed,zee,zef,zeg,zeh,zei,zej,zek,zel,zem,zen,zeo]; rfl,
          by rw [hmx1]; exact hset7, .inl (by omega), by omega, fun r hr => ?_, fun r r' hr hr' he => ?_, hpr4.trans ((hn5.pres (by omega)).trans ((ha6.pres (by omega) fun b hb => by have := (hblkR b hb).2; omega).trans (hs7.pres (by omega)))), by omega⟩
        · rw [hmx1] at hr
          by_cases e : r = R
          · subst e
            simp only [if_true]
            have : sp (pc ps) l (r + 1) (i + 1) = sp (pc ps) l (r + 1) i ++ [ci] := by rw [sp, if_pos (by omega), hcid]
            refine ⟨by omega, by omega, by omega, ?_⟩
            unfold rowV
            rw [this, List.length_append, ← hmR]
            exact (hnew6.mono fun b hb1 hb2 => hs7.get _ (by omega)).wide (Nat.le_refl _) (by omega)
          · simp only [if_neg e]
            obtain ⟨k1, k2, k3, k4⟩ := hoth r hr e
            have : sp (pc ps) l (r + 1) (i + 1) = sp (pc ps) l (r + 1) i := by rw [sp, if_neg (by omega)]
            rw [this]
            exact ⟨k1, by omega, k3, k4.mono fun b hb1 hb2 => by
              obtain rfl : b = bf r := by omega
              rw [hs7.get _ k3]
              exact same6 _ k2 fun e2 => hblkO r hr e e2⟩
        · rw [hmx1] at hr hr'
          by_cases e : r = R
          · by_cases e' : r' = R
            · omega
            · simp only [if_pos e, if_neg e'] at he
              have := (hoth r' hr' e').2.1
              omega
          · by_cases e' : r' = R
            · simp only [if_neg e, if_pos e'] at he
              have := (hoth r hr e).2.1
              omega
            · simp only [if_neg e, if_neg e'] at he
              exact hinjO r r' hr hr' e e' he
  · obtain rfl : i = l.length := by omega
    simp (disch := omega) only [zaa,zab,zac,zad,zae,zaf,zag,zah,zai,zaj,zak,zal,zam,zan,zao,zap,zaq,zar,zas,zat,zau,zav,zaw,zax,zay,zaz,zba,zbb,zbc,zbd,zbe,zbf,zbg,zbh,zbi,zbj,zbk,zbl,zbm,zbn,zbo,zbp,zbq,zbr,zbs,zbt,zbu,zbv,zbw,zbx,zby,zbz,zca,zcb,zcc,zcd,zce,zcf,zcg,zch,zci,zcj,zck,zcl,zcm,zcn,zco,zcp,zcq,zcr,zcs,zct,zcu,zcv,zcw,zcx,zcy,zcz,zda,zdb,zdc,zdd,guardV,nth,zde,zdf,zdg,zdh,zdi,Nat.reduceEqDiff,reduceIte,zdj,zdk,zdl,resultsA,RetO,Nat.reduceLT,zdm,zdn,zdo,zdp,zdq,zdr,zds,zdt,zdu,zdv,zdw,zdx,zdy,zdz,zea,zeb,zec,zed,zee,zef,zeg,zeh,zei,zej,zek,zel,zem,zen,zeo, e1, e5, e13, e14, e15, hlt, len136]
    refine WK_loopN (fun j α h4 => ∃ (r : Nat) (A8 : Option Addr), r + j = (mx (pc ps) l l.length) ∧ α.get 42 = some (.slice A (mx (pc ps) l l.length) (mx (pc ps) l l.length)) ∧ α.get 43 = some (.int .i64 ((mx (pc ps) l l.length) : Nat)) ∧ α.get 44 = some (.int .i64 r) ∧ α.get 8 = some (.slice A8 r r) ∧
        SlV h4.blks sb (sb + 1) 1 (mx (pc ps) l l.length) (rowsV (pc ps) l bf l.length (mx (pc ps) l l.length)) (.slice A (mx (pc ps) l l.length) (mx (pc ps) l l.length)) ∧
        (∀ q, r ≤ q → q < (mx (pc ps) l l.length) → SlV h4.blks (bf q) (bf q + 1) 1 (sp (pc ps) l (q + 1) l.length).length (byts (sp (pc ps) l (q + 1) l.length)) (rowV (bf q) (sp (pc ps) l (q + 1) l.length))) ∧
        SlV h4.blks h3.next h4.next 1 r (strs (stps (pc ps) l r)) (.slice A8 r r) ∧ Pres h2.next h2 h4 ∧ h3.next ≤ h4.next) (mx (pc ps) l l.length)
      ⟨0, none, by omega, by simp only [zaa,zab,zac,zad,zae,zaf,zag,zah,zai,zaj,zak,zal,zam,zan,zao,zap,zaq,zar,zas,zat,zau,zav,zaw,zax,zay,zaz,zba,zbb,zbc,zbd,zbe,zbf,zbg,zbh,zbi,zbj,zbk,zbl,zbm,zbn,zbo,zbp,zbq,zbr,zbs,zbt,zbu,zbv,zbw,zbx,zby,zbz,zca,zcb,zcc,zcd,zce,zcf,zcg,zch,zci,zcj,zck,zcl,zcm,zcn,zco,zcp,zcq,zcr,zcs,zct,zcu,zcv,zcw,zcx,zcy,zcz,zda,zdb,zdc,zdd,guardV,nth,zde,zdf,zdg,zdh,zdi,Nat.reduceEqDiff,reduceIte,zdj,zdk,zdl,resultsA,RetO,Nat.reduceLT,zdm,zdn,zdo,zdp,zdq,zdr,zds,zdt,zdu,zdv,zdw,zdx,zdy,zdz,zea,zeb,zec,zed,zee,zef,zeg,zeh,zei,zej,zek,zel,zem,zen,zeo], by simp only [zaa,zab,zac,zad,zae,zaf,zag,zah,zai,zaj,zak,zal,zam,zan,zao,zap,zaq,zar,zas,zat,zau,zav,zaw,zax,zay,zaz,zba,zbb,zbc,zbd,zbe,zbf,zbg,zbh,zbi,zbj,zbk,zbl,zbm,zbn,zbo,zbp,zbq,zbr,zbs,zbt,zbu,zbv,zbw,zbx,zby,zbz,zca,zcb,zcc,zcd,zce,zcf,zcg,zch,zci,zcj,zck,zcl,zcm,zcn,zco,zcp,zcq,zcr,zcs,zct,zcu,zcv,zcw,zcx,zcy,zcz,zda,zdb,zdc,zdd,guardV,nth,zde,zdf,zdg,zdh,zdi,Nat.reduceEqDiff,reduceIte,zdj,zdk,zdl,resultsA,RetO,Nat.reduceLT,zdm,zdn,zdo,zdp,zdq,zdr,zds,zdt,zdu,zdv,zdw,zdx,zdy,zdz,zea,zeb,zec,zed,zee,zef,zeg,zeh,zei,zej,zek,zel,zem,zen,zeo], by (simp only [zaa,zab,zac,zad,zae,zaf,zag,zah,zai,zaj,zak,zal,zam,zan,zao,zap,zaq,zar,zas,zat,zau,zav,zaw,zax,zay,zaz,zba,zbb,zbc,zbd,zbe,zbf,zbg,zbh,zbi,zbj,zbk,zbl,zbm,zbn,zbo,zbp,zbq,zbr,zbs,zbt,zbu,zbv,zbw,zbx,zby,zbz,zca,zcb,zcc,zcd,zce,zcf,zcg,zch,zci,zcj,zck,zcl,zcm,zcn,zco,zcp,zcq,zcr,zcs,zct,zcu,zcv,zcw,zcx,zcy,zcz,zda,zdb,zdc,zdd,guardV,nth,zde,zdf,zdg,zdh,zdi,Nat.reduceEqDiff,reduceIte,zdj,zdk,zdl,resultsA,RetO,Nat.reduceLT,zdm,zdn,zdo,zdp,zdq,zdr,zds,zdt,zdu,zdv,zdw,zdx,zdy,zdz,zea,zeb,zec,zed,zee,zef,zeg,zeh,zei,zej,zek,zel,zem,zen,zeo]) <;> rfl, by (simp only [zaa,zab,zac,zad,zae,zaf,zag,zah,zai,zaj,zak,zal,zam,zan,zao,zap,zaq,zar,zas,zat,zau,zav,zaw,zax,zay,zaz,zba,zbb,zbc,zbd,zbe,zbf,zbg,zbh,zbi,zbj,zbk,zbl,zbm,zbn,zbo,zbp,zbq,zbr,zbs,zbt,zbu,zbv,zbw,zbx,zby,zbz,zca,zcb,zcc,zcd,zce,zcf,zcg,zch,zci,zcj,zck,zcl,zcm,zcn,zco,zcp,zcq,zcr,zcs,zct,zcu,zcv,zcw,zcx,zcy,zcz,zda,zdb,zdc,zdd,guardV,nth,zde,zdf,zdg,zdh,zdi,Nat.reduceEqDiff,reduceIte,zdj,zdk,zdl,resultsA,RetO,Nat.reduceLT,zdm,zdn,zdo,zdp,zdq,zdr,zds,zdt,zdu,zdv,zdw,zdx,zdy,zdz,zea,zeb,zec,zed,zee,zef,zeg,zeh,zei,zej,zek,zel,zem,zen,zeo]) <;> rfl, hset0, fun q _ hq => (hrows q hq).2.2.2, .nil rfl rfl, pr3, Nat.le_refl _⟩ (by omega) ?_
    rintro J2 j2 β h4 ⟨r, A8, hrj, g42, g43, g44, g8, hset, hrw, hout, pr4, hn4⟩ hJ2
    by_cases hlt2 : (r : Int) < ((mx (pc ps) l l.length) : Nat)
    · have hspl : (sp (pc ps) l (r + 1) l.length).length ≤ 6 := sp_le (pc_irr' hps) hl6 (Nat.le_refl _)
      have hspo : OkL 6 (sp (pc ps) l (r + 1) l.length) := sp_ok hl6 (Nat.le_refl _)
      obtain ⟨k1, k2, k3, _⟩ := hrows r (by omega)
      obtain ⟨bx, so, hA, hx1, hx2, hld⟩ := hset.at_ (by omega)
      have lr := hld r (by omega)
      rw [rowsV_get (by omega)] at lr
      simp only [rowV] at lr
      rw [hA] at g42
      simp (disch := omega) only [zaa,zab,zac,zad,zae,zaf,zag,zah,zai,zaj,zak,zal,zam,zan,zao,zap,zaq,zar,zas,zat,zau,zav,zaw,zax,zay,zaz,zba,zbb,zbc,zbd,zbe,zbf,zbg,zbh,zbi,zbj,zbk,zbl,zbm,zbn,zbo,zbp,zbq,zbr,zbs,zbt,zbu,zbv,zbw,zbx,zby,zbz,zca,zcb,zcc,zcd,zce,zcf,zcg,zch,zci,zcj,zck,zcl,zcm,zcn,zco,zcp,zcq,zcr,zcs,zct,zcu,zcv,zcw,zcx,zcy,zcz,zda,zdb,zdc,zdd,guardV,nth,zde,zdf,zdg,zdh,zdi,Nat.reduceEqDiff,reduceIte,zdj,zdk,zdl,resultsA,RetO,Nat.reduceLT,zdm,zdn,zdo,zdp,zdq,zdr,zds,zdt,zdu,zdv,zdw,zdx,zdy,zdz,zea,zeb,zec,zed,zee,zef,zeg,zeh,zei,zej,zek,zel,zem,zen,zeo, g42, g43, g44, g8, hlt2, idxA136, load73, Int.toNat_natCast, Nat.mul_one, lr]
      refine CallO_any (sort_spec (hrw r (Nat.le_refl _) (by omega)) (by show G ≤ bf r; omega) (by omega) (by omega)) (by omega) fun v h5 ⟨l', hp', hs', hsv', hw⟩ => ?_
      obtain rfl : l' = srtB (sp (pc ps) l (r + 1) l.length) 6 := srt_unique hspo hp' hs'
      have n5 := hw.next
      have hout5 : SlV h5.blks h3.next h4.next 1 r (strs (stps (pc ps) l r)) (.slice A8 r r) := hout.mono fun b hb1 _ => hw.get _ (by omega)
      simp only [zaa,zab,zac,zad,zae,zaf,zag,zah,zai,zaj,zak,zal,zam,zan,zao,zap,zaq,zar,zas,zat,zau,zav,zaw,zax,zay,zaz,zba,zbb,zbc,zbd,zbe,zbf,zbg,zbh,zbi,zbj,zbk,zbl,zbm,zbn,zbo,zbp,zbq,zbr,zbs,zbt,zbu,zbv,zbw,zbx,zby,zbz,zca,zcb,zcc,zcd,zce,zcf,zcg,zch,zci,zcj,zck,zcl,zcm,zcn,zco,zcp,zcq,zcr,zcs,zct,zcu,zcv,zcw,zcx,zcy,zcz,zda,zdb,zdc,zdd,guardV,nth,zde,zdf,zdg,zdh,zdi,Nat.reduceEqDiff,reduceIte,zdj,zdk,zdl,resultsA,RetO,Nat.reduceLT,zdm,zdn,zdo,zdp,zdq,zdr,zds,zdt,zdu,zdv,zdw,zdx,zdy,zdz,zea,zeb,zec,zed,zee,zef,zeg,zeh,zei,zej,zek,zel,zem,zen,zeo, g8, conv55_9 hsv']
      refine At_push (lo := h3.next) (hi := h4.next) (L := strs (stps (pc ps) l r)) (vs := [strV (srtB (sp (pc ps) l (r + 1) l.length) 6)]) u28 i9 zero9 (by rw [size9, bytes9]; rfl) (by simp only [zaa,zab,zac,zad,zae,zaf,zag,zah,zai,zaj,zak,zal,zam,zan,zao,zap,zaq,zar,zas,zat,zau,zav,zaw,zax,zay,zaz,zba,zbb,zbc,zbd,zbe,zbf,zbg,zbh,zbi,zbj,zbk,zbl,zbm,zbn,zbo,zbp,zbq,zbr,zbs,zbt,zbu,zbv,zbw,zbx,zby,zbz,zca,zcb,zcc,zcd,zce,zcf,zcg,zch,zci,zcj,zck,zcl,zcm,zcn,zco,zcp,zcq,zcr,zcs,zct,zcu,zcv,zcw,zcx,zcy,zcz,zda,zdb,zdc,zdd,guardV,nth,zde,zdf,zdg,zdh,zdi,Nat.reduceEqDiff,reduceIte,zdj,zdk,zdl,resultsA,RetO,Nat.reduceLT,zdm,zdn,zdo,zdp,zdq,zdr,zds,zdt,zdu,zdv,zdw,zdx,zdy,zdz,zea,zeb,zec,zed,zee,zef,zeg,zeh,zei,zej,zek,zel,zem,zen,zeo]; rfl) (by rw [size9]; rfl) (by rw [size9]; rfl) rfl (by simp only [zaa,zab,zac,zad,zae,zaf,zag,zah,zai,zaj,zak,zal,zam,zan,zao,zap,zaq,zar,zas,zat,zau,zav,zaw,zax,zay,zaz,zba,zbb,zbc,zbd,zbe,zbf,zbg,zbh,zbi,zbj,zbk,zbl,zbm,zbn,zbo,zbp,zbq,zbr,zbs,zbt,zbu,zbv,zbw,zbx,zby,zbz,zca,zcb,zcc,zcd,zce,zcf,zcg,zch,zci,zcj,zck,zcl,zcm,zcn,zco,zcp,zcq,zcr,zcs,zct,zcu,zcv,zcw,zcx,zcy,zcz,zda,zdb,zdc,zdd,guardV,nth,zde,zdf,zdg,zdh,zdi,Nat.reduceEqDiff,reduceIte,zdj,zdk,zdl,resultsA,RetO,Nat.reduceLT,zdm,zdn,zdo,zdp,zdq,zdr,zds,zdt,zdu,zdv,zdw,zdx,zdy,zdz,zea,zeb,zec,zed,zee,zef,zeg,zeh,zei,zej,zek,zel,zem,zen,zeo, g8]; rfl) (by rw [size9]; exact hout5) (by omega) (Nat.le_refl _) (by show G ≤ h3.next; omega) (by omega) (by decide) (by decide) (by decide) fun h6 hp6 => ?_
      rw [size9] at hp6
      have n6 := hp6.next
      have hcells : strs (stps (pc ps) l r) ++ [strV (srtB (sp (pc ps) l (r + 1) l.length) 6)] = strs (stps (pc ps) l (r + 1)) := by rw [stps_succ]; simp [strs]
      rw [hcells] at hp6
      have hout6 := hp6.slv (n := r + 1) (c := r + 1) (by rw [strs_len, stps_len]; omega)
      have keep : ∀ b, b < h3.next → b ≠ bf r → h6.blks.get b = h4.blks.get b := fun b hb hne => by
        have hg := hp6.get b (by omega)
        rw [if_neg fun e => by have := (hout.blk2 _ e).1; omega] at hg
        rw [hg]; exact hw.get _ hne
      simp (disch := omega) only [zaa,zab,zac,zad,zae,zaf,zag,zah,zai,zaj,zak,zal,zam,zan,zao,zap,zaq,zar,zas,zat,zau,zav,zaw,zax,zay,zaz,zba,zbb,zbc,zbd,zbe,zbf,zbg,zbh,zbi,zbj,zbk,zbl,zbm,zbn,zbo,zbp,zbq,zbr,zbs,zbt,zbu,zbv,zbw,zbx,zby,zbz,zca,zcb,zcc,zcd,zce,zcf,zcg,zch,zci,zcj,zck,zcl,zcm,zcn,zco,zcp,zcq,zcr,zcs,zct,zcu,zcv,zcw,zcx,zcy,zcz,zda,zdb,zdc,zdd,guardV,nth,zde,zdf,zdg,zdh,zdi,Nat.reduceEqDiff,reduceIte,zdj,zdk,zdl,resultsA,RetO,Nat.reduceLT,zdm,zdn,zdo,zdp,zdq,zdr,zds,zdt,zdu,zdv,zdw,zdx,zdy,zdz,zea,zeb,zec,zed,zee,zef,zeg,zeh,zei,zej,zek,zel,zem,zen,zeo, g44, wrap_i64]
      refine hJ2 (j2 - 1) _ _ (by omega) ⟨r + 1, some ⟨h5.next + 1, 0, none⟩, by omega, by rw [hA]; simp only [zaa,zab,zac,zad,zae,zaf,zag,zah,zai,zaj,zak,zal,zam,zan,zao,zap,zaq,zar,zas,zat,zau,zav,zaw,zax,zay,zaz,zba,zbb,zbc,zbd,zbe,zbf,zbg,zbh,zbi,zbj,zbk,zbl,zbm,zbn,zbo,zbp,zbq,zbr,zbs,zbt,zbu,zbv,zbw,zbx,zby,zbz,zca,zcb,zcc,zcd,zce,zcf,zcg,zch,zci,zcj,zck,zcl,zcm,zcn,zco,zcp,zcq,zcr,zcs,zct,zcu,zcv,zcw,zcx,zcy,zcz,zda,zdb,zdc,zdd,guardV,nth,zde,zdf,zdg,zdh,zdi,Nat.reduceEqDiff,reduceIte,zdj,zdk,zdl,resultsA,RetO,Nat.reduceLT,zdm,zdn,zdo,zdp,zdq,zdr,zds,zdt,zdu,zdv,zdw,zdx,zdy,zdz,zea,zeb,zec,zed,zee,zef,zeg,zeh,zei,zej,zek,zel,zem,zen,zeo, g42], by simp only [zaa,zab,zac,zad,zae,zaf,zag,zah,zai,zaj,zak,zal,zam,zan,zao,zap,zaq,zar,zas,zat,zau,zav,zaw,zax,zay,zaz,zba,zbb,zbc,zbd,zbe,zbf,zbg,zbh,zbi,zbj,zbk,zbl,zbm,zbn,zbo,zbp,zbq,zbr,zbs,zbt,zbu,zbv,zbw,zbx,zby,zbz,zca,zcb,zcc,zcd,zce,zcf,zcg,zch,zci,zcj,zck,zcl,zcm,zcn,zco,zcp,zcq,zcr,zcs,zct,zcu,zcv,zcw,zcx,zcy,zcz,zda,zdb,zdc,zdd,guardV,nth,zde,zdf,zdg,zdh,zdi,Nat.reduceEqDiff,reduceIte,zdj,zdk,zdl,resultsA,RetO,Nat.reduceLT,zdm,zdn,zdo,zdp,zdq,zdr,zds,zdt,zdu,zdv,zdw,zdx,zdy,zdz,zea,zeb,zec,zed,zee,zef,zeg,zeh,zei,zej,zek,zel,zem,zen,zeo, g43], by simp only [zaa,zab,zac,zad,zae,zaf,zag,zah,zai,zaj,zak,zal,zam,zan,zao,zap,zaq,zar,zas,zat,zau,zav,zaw,zax,zay,zaz,zba,zbb,zbc,zbd,zbe,zbf,zbg,zbh,zbi,zbj,zbk,zbl,zbm,zbn,zbo,zbp,zbq,zbr,zbs,zbt,zbu,zbv,zbw,zbx,zby,zbz,zca,zcb,zcc,zcd,zce,zcf,zcg,zch,zci,zcj,zck,zcl,zcm,zcn,zco,zcp,zcq,zcr,zcs,zct,zcu,zcv,zcw,zcx,zcy,zcz,zda,zdb,zdc,zdd,guardV,nth,zde,zdf,zdg,zdh,zdi,Nat.reduceEqDiff,reduceIte,zdj,zdk,zdl,resultsA,RetO,Nat.reduceLT,zdm,zdn,zdo,zdp,zdq,zdr,zds,zdt,zdu,zdv,zdw,zdx,zdy,zdz,zea,zeb,zec,zed,zee,zef,zeg,zeh,zei,zej,zek,zel,zem,zen,zeo]; rfl, by simp only [zaa,zab,zac,zad,zae,zaf,zag,zah,zai,zaj,zak,zal,zam,zan,zao,zap,zaq,zar,zas,zat,zau,zav,zaw,zax,zay,zaz,zba,zbb,zbc,zbd,zbe,zbf,zbg,zbh,zbi,zbj,zbk,zbl,zbm,zbn,zbo,zbp,zbq,zbr,zbs,zbt,zbu,zbv,zbw,zbx,zby,zbz,zca,zcb,zcc,zcd,zce,zcf,zcg,zch,zci,zcj,zck,zcl,zcm,zcn,zco,zcp,zcq,zcr,zcs,zct,zcu,zcv,zcw,zcx,zcy,zcz,zda,zdb,zdc,zdd,guardV,nth,zde,zdf,zdg,zdh,zdi,Nat.reduceEqDiff,reduceIte,zdj,zdk,zdl,resultsA,RetO,Nat.reduceLT,zdm,zdn,zdo,zdp,zdq,zdr,zds,zdt,zdu,zdv,zdw,zdx,zdy,zdz,zea,zeb,zec,zed,zee,zef,zeg,zeh,zei,zej,zek,zel,zem,zen,zeo], hset.mono fun b hb1 hb2 => keep _ (by omega) (by omega), fun q hq1 hq2 => ?_, hout6.wide (by omega) (Nat.le_refl _),
        pr4.trans ((hw.pres.le (by omega)).trans (hp6.pres (by omega) fun b hb => by have := (hout.blk2 b hb).1; omega)), by omega⟩
      obtain ⟨q1, q2, q3, _⟩ := hrows q (by omega)
      have hne : bf q ≠ bf r := fun e => by have := hinj q r (by omega) (by omega) e; omega
      exact (hrw q (by omega) hq2).mono fun b hb1 hb2 => keep _ (by omega) (by omega)
    · obtain rfl : r = (mx (pc ps) l l.length) := by omega
      simp (disch := omega) only [zaa,zab,zac,zad,zae,zaf,zag,zah,zai,zaj,zak,zal,zam,zan,zao,zap,zaq,zar,zas,zat,zau,zav,zaw,zax,zay,zaz,zba,zbb,zbc,zbd,zbe,zbf,zbg,zbh,zbi,zbj,zbk,zbl,zbm,zbn,zbo,zbp,zbq,zbr,zbs,zbt,zbu,zbv,zbw,zbx,zby,zbz,zca,zcb,zcc,zcd,zce,zcf,zcg,zch,zci,zcj,zck,zcl,zcm,zcn,zco,zcp,zcq,zcr,zcs,zct,zcu,zcv,zcw,zcx,zcy,zcz,zda,zdb,zdc,zdd,guardV,nth,zde,zdf,zdg,zdh,zdi,Nat.reduceEqDiff,reduceIte,zdj,zdk,zdl,resultsA,RetO,Nat.reduceLT,zdm,zdn,zdo,zdp,zdq,zdr,zds,zdt,zdu,zdv,zdw,zdx,zdy,zdz,zea,zeb,zec,zed,zee,zef,zeg,zeh,zei,zej,zek,zel,zem,zen,zeo, g42, g43, g44, g8, hlt2]
      exact hQ' _ _ ⟨pr2.trans (pr4.le (by omega)), A8, rfl, hout.wide (by omega) (Nat.le_refl _)⟩

set_option maxHeartbeats 8000000 in
theorem Steps_spec {G lo hi n c : Nat} {k : Int} {A : Option Addr} {ps : List (Int × Int)} {s : List UInt8} {h : H} (hG : G ≤ h.next) (hv : SlV h.blks lo hi 2 n (prs ps) (.slice A n c)) (hhi : hi ≤ h.next) (hn : n < 1000000) (hs : s.length < 1000000) :
    Spec Tryz.prog (En G) 20 [.int .i64 k, .slice A n c, strV s] h fun v h' => (chkE k ps 40 [s] ≠ 0 ∧ v = .tuple #[.slice none 0 0, .int .i64 (chkE k ps 40 [s])]) ∨
      (chkE k ps 40 [s] = 0 ∧ ∃ A', v = .tuple #[.slice A' (mx (pc ps) s s.length) (mx (pc ps) s s.length), .int .i64 0] ∧ SlV h'.blks h.next h'.next 1 (mx (pc ps) s s.length) (strs (stps (pc ps) s (mx (pc ps) s s.length))) (.slice A' (mx (pc ps) s s.length) (mx (pc ps) s s.length))) := by
  refine CallsE_enter (En_known (by decide)) (En_f.trans Tryz.func20) rfl ⟨Nat.le_of_ble_eq_true rfl, by decide⟩ fun Q' hQ' => ?_
  simp only [Tryz.f20, zaa,zab,zac,zad,zae,zaf,zag,zah,zai,zaj,zak,zal,zam,zan,zao,zap,zaq,zar,zas,zat,zau,zav,zaw,zax,zay,zaz,zba,zbb,zbc,zbd,zbe,zbf,zbg,zbh,zbi,zbj,zbk,zbl,zbm,zbn,zbo,zbp,zbq,zbr,zbs,zbt,zbu,zbv,zbw,zbx,zby,zbz,zca,zcb,zcc,zcd,zce,zcf,zcg,zch,zci,zcj,zck,zcl,zcm,zcn,zco,zcp,zcq,zcr,zcs,zct,zcu,zcv,zcw,zcx,zcy,zcz,zda,zdb,zdc,zdd,guardV,nth,zde,zdf,zdg,zdh,zdi,Nat.reduceEqDiff,reduceIte,zdj,zdk,zdl,resultsA,RetO,Nat.reduceLT,zdm,zdn,zdo,zdp,zdq,zdr,zds,zdt,zdu,zdv,zdw,zdx,zdy,zdz,zea,zeb,zec,zed,zee,zef,zeg,zeh,zei,zej,zek,zel,zem,zen,zeo]
  refine At_lit (vs := [(0, strV s)]) (cs := #[strV s]) u28 i9 zero9 (by rw [size9]; rfl) (by simp only [zaa,zab,zac,zad,zae,zaf,zag,zah,zai,zaj,zak,zal,zam,zan,zao,zap,zaq,zar,zas,zat,zau,zav,zaw,zax,zay,zaz,zba,zbb,zbc,zbd,zbe,zbf,zbg,zbh,zbi,zbj,zbk,zbl,zbm,zbn,zbo,zbp,zbq,zbr,zbs,zbt,zbu,zbv,zbw,zbx,zby,zbz,zca,zcb,zcc,zcd,zce,zcf,zcg,zch,zci,zcj,zck,zcl,zcm,zcn,zco,zcp,zcq,zcr,zcs,zct,zcu,zcv,zcw,zcx,zcy,zcz,zda,zdb,zdc,zdd,guardV,nth,zde,zdf,zdg,zdh,zdi,Nat.reduceEqDiff,reduceIte,zdj,zdk,zdl,resultsA,RetO,Nat.reduceLT,zdm,zdn,zdo,zdp,zdq,zdr,zds,zdt,zdu,zdv,zdw,zdx,zdy,zdz,zea,zeb,zec,zed,zee,zef,zeg,zeh,zei,zej,zek,zel,zem,zen,zeo]) (by rw [size9]; rfl) (by omega) fun h1 hn1 => ?_
  rw [size9] at hn1
  have n1 := hn1.next
  have hls := hn1.slv (n := 1) (c := 1) rfl
  have pr1 : Pres h.next h h1 := hn1.pres (Nat.le_refl _)
  simp only [zaa,zab,zac,zad,zae,zaf,zag,zah,zai,zaj,zak,zal,zam,zan,zao,zap,zaq,zar,zas,zat,zau,zav,zaw,zax,zay,zaz,zba,zbb,zbc,zbd,zbe,zbf,zbg,zbh,zbi,zbj,zbk,zbl,zbm,zbn,zbo,zbp,zbq,zbr,zbs,zbt,zbu,zbv,zbw,zbx,zby,zbz,zca,zcb,zcc,zcd,zce,zcf,zcg,zch,zci,zcj,zck,zcl,zcm,zcn,zco,zcp,zcq,zcr,zcs,zct,zcu,zcv,zcw,zcx,zcy,zcz,zda,zdb,zdc,zdd,guardV,nth,zde,zdf,zdg,zdh,zdi,Nat.reduceEqDiff,reduceIte,zdj,zdk,zdl,resultsA,RetO,Nat.reduceLT,zdm,zdn,zdo,zdp,zdq,zdr,zds,zdt,zdu,zdv,zdw,zdx,zdy,zdz,zea,zeb,zec,zed,zee,zef,zeg,zeh,zei,zej,zek,zel,zem,zen,zeo]
  refine CallO_f (checked_spec (k := k) (most := 40) (ls := [s]) (by omega) (hv.mono fun b _ hb => pr1.get b (by omega)) (by omega) hn hls (Nat.le_refl _) (by omega) (fun x hx => by
    rw [List.mem_singleton.1 hx]; exact hs)) (by omega) fun u h2 hp2 hu => ?_
  have n2 := hp2.next
  have pr2 : Pres h.next h h2 := pr1.trans (hp2.le (by omega))
  rcases hu with ⟨hE, rfl⟩ | ⟨hE, m, hm, hmc, rfl⟩
  · have d : decide (chkE k ps 40 [s] ≠ 0) = true := decide_eq_true hE
    try simp only [zaa,zab,zac,zad,zae,zaf,zag,zah,zai,zaj,zak,zal,zam,zan,zao,zap,zaq,zar,zas,zat,zau,zav,zaw,zax,zay,zaz,zba,zbb,zbc,zbd,zbe,zbf,zbg,zbh,zbi,zbj,zbk,zbl,zbm,zbn,zbo,zbp,zbq,zbr,zbs,zbt,zbu,zbv,zbw,zbx,zby,zbz,zca,zcb,zcc,zcd,zce,zcf,zcg,zch,zci,zcj,zck,zcl,zcm,zcn,zco,zcp,zcq,zcr,zcs,zct,zcu,zcv,zcw,zcx,zcy,zcz,zda,zdb,zdc,zdd,guardV,nth,zde,zdf,zdg,zdh,zdi,Nat.reduceEqDiff,reduceIte,zdj,zdk,zdl,resultsA,RetO,Nat.reduceLT,zdm,zdn,zdo,zdp,zdq,zdr,zds,zdt,zdu,zdv,zdw,zdx,zdy,zdz,zea,zeb,zec,zed,zee,zef,zeg,zeh,zei,zej,zek,zel,zem,zen,zeo]
    refine At_alloc i95 zero74 rfl (by omega) fun h3 hn3 => ?_
    have n3 := hn3.next
    try simp only [zaa,zab,zac,zad,zae,zaf,zag,zah,zai,zaj,zak,zal,zam,zan,zao,zap,zaq,zar,zas,zat,zau,zav,zaw,zax,zay,zaz,zba,zbb,zbc,zbd,zbe,zbf,zbg,zbh,zbi,zbj,zbk,zbl,zbm,zbn,zbo,zbp,zbq,zbr,zbs,zbt,zbu,zbv,zbw,zbx,zby,zbz,zca,zcb,zcc,zcd,zce,zcf,zcg,zch,zci,zcj,zck,zcl,zcm,zcn,zco,zcp,zcq,zcr,zcs,zct,zcu,zcv,zcw,zcx,zcy,zcz,zda,zdb,zdc,zdd,guardV,nth,zde,zdf,zdg,zdh,zdi,Nat.reduceEqDiff,reduceIte,zdj,zdk,zdl,resultsA,RetO,Nat.reduceLT,zdm,zdn,zdo,zdp,zdq,zdr,zds,zdt,zdu,zdv,zdw,zdx,zdy,zdz,zea,zeb,zec,zed,zee,zef,zeg,zeh,zei,zej,zek,zel,zem,zen,zeo]
    refine At_storeV (inf := inf95) (v := thrV 0 nilM) i95 (by simp only [zaa,zab,zac,zad,zae,zaf,zag,zah,zai,zaj,zak,zal,zam,zan,zao,zap,zaq,zar,zas,zat,zau,zav,zaw,zax,zay,zaz,zba,zbb,zbc,zbd,zbe,zbf,zbg,zbh,zbi,zbj,zbk,zbl,zbm,zbn,zbo,zbp,zbq,zbr,zbs,zbt,zbu,zbv,zbw,zbx,zby,zbz,zca,zcb,zcc,zcd,zce,zcf,zcg,zch,zci,zcj,zck,zcl,zcm,zcn,zco,zcp,zcq,zcr,zcs,zct,zcu,zcv,zcw,zcx,zcy,zcz,zda,zdb,zdc,zdd,guardV,nth,zde,zdf,zdg,zdh,zdi,Nat.reduceEqDiff,reduceIte,zdj,zdk,zdl,resultsA,RetO,Nat.reduceLT,zdm,zdn,zdo,zdp,zdq,zdr,zds,zdt,zdu,zdv,zdw,zdx,zdy,zdz,zea,zeb,zec,zed,zee,zef,zeg,zeh,zei,zej,zek,zel,zem,zen,zeo]) (by simp only [zaa,zab,zac,zad,zae,zaf,zag,zah,zai,zaj,zak,zal,zam,zan,zao,zap,zaq,zar,zas,zat,zau,zav,zaw,zax,zay,zaz,zba,zbb,zbc,zbd,zbe,zbf,zbg,zbh,zbi,zbj,zbk,zbl,zbm,zbn,zbo,zbp,zbq,zbr,zbs,zbt,zbu,zbv,zbw,zbx,zby,zbz,zca,zcb,zcc,zcd,zce,zcf,zcg,zch,zci,zcj,zck,zcl,zcm,zcn,zco,zcp,zcq,zcr,zcs,zct,zcu,zcv,zcw,zcx,zcy,zcz,zda,zdb,zdc,zdd,guardV,nth,zde,zdf,zdg,zdh,zdi,Nat.reduceEqDiff,reduceIte,zdj,zdk,zdl,resultsA,RetO,Nat.reduceLT,zdm,zdn,zdo,zdp,zdq,zdr,zds,zdt,zdu,zdv,zdw,zdx,zdy,zdz,zea,zeb,zec,zed,zee,zef,zeg,zeh,zei,zej,zek,zel,zem,zen,zeo]) hn3.var (by rw [size95]; rfl) (by rw [size95]; rfl) rfl (by show G ≤ h2.next; omega) fun h4 hs4 _ => ?_
    simp only [zaa,zab,zac,zad,zae,zaf,zag,zah,zai,zaj,zak,zal,zam,zan,zao,zap,zaq,zar,zas,zat,zau,zav,zaw,zax,zay,zaz,zba,zbb,zbc,zbd,zbe,zbf,zbg,zbh,zbi,zbj,zbk,zbl,zbm,zbn,zbo,zbp,zbq,zbr,zbs,zbt,zbu,zbv,zbw,zbx,zby,zbz,zca,zcb,zcc,zcd,zce,zcf,zcg,zch,zci,zcj,zck,zcl,zcm,zcn,zco,zcp,zcq,zcr,zcs,zct,zcu,zcv,zcw,zcx,zcy,zcz,zda,zdb,zdc,zdd,guardV,nth,zde,zdf,zdg,zdh,zdi,Nat.reduceEqDiff,reduceIte,zdj,zdk,zdl,resultsA,RetO,Nat.reduceLT,zdm,zdn,zdo,zdp,zdq,zdr,zds,zdt,zdu,zdv,zdw,zdx,zdy,zdz,zea,zeb,zec,zed,zee,zef,zeg,zeh,zei,zej,zek,zel,zem,zen,zeo, d]
    exact hQ' _ _ ⟨pr2.trans ((hn3.pres (by omega)).trans (hs4.pres (by omega))), .inl ⟨hE, rfl⟩⟩
  · obtain ⟨hT, hall⟩ := chk_ok hE
    obtain ⟨k1, k6, _, hps⟩ := okT_okP hT
    have os := okc_okL (by omega) (hall s (by simp)).2
    obtain ⟨k', rfl⟩ := Int.eq_ofNat_of_zero_le (a := k) (by omega)
    rw [Int.toNat_natCast] at os hps
    have d : decide ((0 : Int) ≠ 0) = false := rfl
    try simp only [zaa,zab,zac,zad,zae,zaf,zag,zah,zai,zaj,zak,zal,zam,zan,zao,zap,zaq,zar,zas,zat,zau,zav,zaw,zax,zay,zaz,zba,zbb,zbc,zbd,zbe,zbf,zbg,zbh,zbi,zbj,zbk,zbl,zbm,zbn,zbo,zbp,zbq,zbr,zbs,zbt,zbu,zbv,zbw,zbx,zby,zbz,zca,zcb,zcc,zcd,zce,zcf,zcg,zch,zci,zcj,zck,zcl,zcm,zcn,zco,zcp,zcq,zcr,zcs,zct,zcu,zcv,zcw,zcx,zcy,zcz,zda,zdb,zdc,zdd,guardV,nth,zde,zdf,zdg,zdh,zdi,Nat.reduceEqDiff,reduceIte,zdj,zdk,zdl,resultsA,RetO,Nat.reduceLT,zdm,zdn,zdo,zdp,zdq,zdr,zds,zdt,zdu,zdv,zdw,zdx,zdy,zdz,zea,zeb,zec,zed,zee,zef,zeg,zeh,zei,zej,zek,zel,zem,zen,zeo]
    refine At_alloc i95 zero74 rfl (by omega) fun h3 hn3 => ?_
    have n3 := hn3.next
    try simp only [zaa,zab,zac,zad,zae,zaf,zag,zah,zai,zaj,zak,zal,zam,zan,zao,zap,zaq,zar,zas,zat,zau,zav,zaw,zax,zay,zaz,zba,zbb,zbc,zbd,zbe,zbf,zbg,zbh,zbi,zbj,zbk,zbl,zbm,zbn,zbo,zbp,zbq,zbr,zbs,zbt,zbu,zbv,zbw,zbx,zby,zbz,zca,zcb,zcc,zcd,zce,zcf,zcg,zch,zci,zcj,zck,zcl,zcm,zcn,zco,zcp,zcq,zcr,zcs,zct,zcu,zcv,zcw,zcx,zcy,zcz,zda,zdb,zdc,zdd,guardV,nth,zde,zdf,zdg,zdh,zdi,Nat.reduceEqDiff,reduceIte,zdj,zdk,zdl,resultsA,RetO,Nat.reduceLT,zdm,zdn,zdo,zdp,zdq,zdr,zds,zdt,zdu,zdv,zdw,zdx,zdy,zdz,zea,zeb,zec,zed,zee,zef,zeg,zeh,zei,zej,zek,zel,zem,zen,zeo]
    refine At_storeV (inf := inf95) (v := thrV k' m) i95 (by simp only [zaa,zab,zac,zad,zae,zaf,zag,zah,zai,zaj,zak,zal,zam,zan,zao,zap,zaq,zar,zas,zat,zau,zav,zaw,zax,zay,zaz,zba,zbb,zbc,zbd,zbe,zbf,zbg,zbh,zbi,zbj,zbk,zbl,zbm,zbn,zbo,zbp,zbq,zbr,zbs,zbt,zbu,zbv,zbw,zbx,zby,zbz,zca,zcb,zcc,zcd,zce,zcf,zcg,zch,zci,zcj,zck,zcl,zcm,zcn,zco,zcp,zcq,zcr,zcs,zct,zcu,zcv,zcw,zcx,zcy,zcz,zda,zdb,zdc,zdd,guardV,nth,zde,zdf,zdg,zdh,zdi,Nat.reduceEqDiff,reduceIte,zdj,zdk,zdl,resultsA,RetO,Nat.reduceLT,zdm,zdn,zdo,zdp,zdq,zdr,zds,zdt,zdu,zdv,zdw,zdx,zdy,zdz,zea,zeb,zec,zed,zee,zef,zeg,zeh,zei,zej,zek,zel,zem,zen,zeo]) (by simp only [zaa,zab,zac,zad,zae,zaf,zag,zah,zai,zaj,zak,zal,zam,zan,zao,zap,zaq,zar,zas,zat,zau,zav,zaw,zax,zay,zaz,zba,zbb,zbc,zbd,zbe,zbf,zbg,zbh,zbi,zbj,zbk,zbl,zbm,zbn,zbo,zbp,zbq,zbr,zbs,zbt,zbu,zbv,zbw,zbx,zby,zbz,zca,zcb,zcc,zcd,zce,zcf,zcg,zch,zci,zcj,zck,zcl,zcm,zcn,zco,zcp,zcq,zcr,zcs,zct,zcu,zcv,zcw,zcx,zcy,zcz,zda,zdb,zdc,zdd,guardV,nth,zde,zdf,zdg,zdh,zdi,Nat.reduceEqDiff,reduceIte,zdj,zdk,zdl,resultsA,RetO,Nat.reduceLT,zdm,zdn,zdo,zdp,zdq,zdr,zds,zdt,zdu,zdv,zdw,zdx,zdy,zdz,zea,zeb,zec,zed,zee,zef,zeg,zeh,zei,zej,zek,zel,zem,zen,zeo]) hn3.var (by rw [size95, ← Array.length_toList, thrV_cells, thrL_len, hm]) (by rw [size95]; rfl) (by rw [thrV_cells]; simp [thrL, oneB]) (by show G ≤ h2.next; omega) fun h4 hs4 v10 => ?_
    rw [thrV_cells] at v10
    have n4 := hs4.next
    have la := thr_loadA (G := G) v10 hm
    simp only [zaa,zab,zac,zad,zae,zaf,zag,zah,zai,zaj,zak,zal,zam,zan,zao,zap,zaq,zar,zas,zat,zau,zav,zaw,zax,zay,zaz,zba,zbb,zbc,zbd,zbe,zbf,zbg,zbh,zbi,zbj,zbk,zbl,zbm,zbn,zbo,zbp,zbq,zbr,zbs,zbt,zbu,zbv,zbw,zbx,zby,zbz,zca,zcb,zcc,zcd,zce,zcf,zcg,zch,zci,zcj,zck,zcl,zcm,zcn,zco,zcp,zcq,zcr,zcs,zct,zcu,zcv,zcw,zcx,zcy,zcz,zda,zdb,zdc,zdd,guardV,nth,zde,zdf,zdg,zdh,zdi,Nat.reduceEqDiff,reduceIte,zdj,zdk,zdl,resultsA,RetO,Nat.reduceLT,zdm,zdn,zdo,zdp,zdq,zdr,zds,zdt,zdu,zdv,zdw,zdx,zdy,zdz,zea,zeb,zec,zed,zee,zef,zeg,zeh,zei,zej,zek,zel,zem,zen,zeo, d, la]
    refine CallO_f (steps_spec (k := k') (by omega) hm (by omega) hps hmc os hs) (by omega) fun u h5 hp5 hu => ?_
    obtain ⟨A', rfl, hsv⟩ := hu
    have n5 := hp5.next
    simp only [zaa,zab,zac,zad,zae,zaf,zag,zah,zai,zaj,zak,zal,zam,zan,zao,zap,zaq,zar,zas,zat,zau,zav,zaw,zax,zay,zaz,zba,zbb,zbc,zbd,zbe,zbf,zbg,zbh,zbi,zbj,zbk,zbl,zbm,zbn,zbo,zbp,zbq,zbr,zbs,zbt,zbu,zbv,zbw,zbx,zby,zbz,zca,zcb,zcc,zcd,zce,zcf,zcg,zch,zci,zcj,zck,zcl,zcm,zcn,zco,zcp,zcq,zcr,zcs,zct,zcu,zcv,zcw,zcx,zcy,zcz,zda,zdb,zdc,zdd,guardV,nth,zde,zdf,zdg,zdh,zdi,Nat.reduceEqDiff,reduceIte,zdj,zdk,zdl,resultsA,RetO,Nat.reduceLT,zdm,zdn,zdo,zdp,zdq,zdr,zds,zdt,zdu,zdv,zdw,zdx,zdy,zdz,zea,zeb,zec,zed,zee,zef,zeg,zeh,zei,zej,zek,zel,zem,zen,zeo]
    refine hQ' _ _ ⟨pr2.trans ((hn3.pres (by omega)).trans ((hs4.pres (by omega)).trans (hp5.le (by omega)))), .inr ⟨hE, A', rfl, ?_⟩⟩
    exact hsv.wide (by omega) (Nat.le_refl _)
end
end Go.Proofs.YtdfkblagcfgncaaGreatDoor.Ev


