/- The reference's count of differences; the law StrapEvens. -/
import Derived.Test.YtlhpjnopkfndfaaPmG9
set_option linter.unusedSimpArgs false
namespace Go.Proofs.Ytlhpjnopkfndfaa.Ev
open Go Go.Proofs
noncomputable section

/-- of one place, so many others counted -/
def pk (f : Nat → Int) (V i k d : Nat) : Nat := (List.range k).countP fun k' => decide (k' ≠ i ∧ (f i - f k' + (V : Int)).tmod V = (d : Int))
def mcp (f : Nat → Int) (V n i k d : Nat) : Int := ((sm (fun i' => pk f V i' n d) i + pk f V i k d : Nat) : Int)
theorem pk_step {f : Nat → Int} {V i k d : Nat} : pk f V i (k + 1) d = if k ≠ i ∧ (f i - f k + (V : Int)).tmod V = (d : Int) then pk f V i k d + 1 else pk f V i k d := by
  unfold pk
  rw [List.range_succ, List.countP_append, List.countP_cons, List.countP_nil]
  by_cases h : k ≠ i ∧ (f i - f k + (V : Int)).tmod V = (d : Int)
  · rw [if_pos h, decide_eq_true h]; simp
  · rw [if_neg h, decide_eq_false h]; simp
theorem mcp_step {f : Nat → Int} {V n i k d : Nat} : mcp f V n i (k + 1) d = if k ≠ i ∧ (f i - f k + (V : Int)).tmod V = (d : Int) then mcp f V n i k d + 1 else mcp f V n i k d := by
  unfold mcp
  rw [pk_step]
  split <;> omega
theorem mcp_row {f : Nat → Int} {V n i d : Nat} : mcp f V n i n d = mcp f V n (i + 1) 0 d := by
  unfold mcp
  simp [sm, pk]
theorem pk_le {f : Nat → Int} {V i k d : Nat} : pk f V i k d ≤ k := by
  unfold pk
  exact Nat.le_trans List.countP_le_length (by simp)
theorem sm_pk_le {f : Nat → Int} {V n d : Nat} : ∀ i, sm (fun i' => pk f V i' n d) i ≤ i * n
  | 0 => by simp [sm]
  | i + 1 => by
    have h1 := sm_pk_le (f := f) (V := V) (n := n) (d := d) i
    have h2 := pk_le (f := f) (V := V) (i := i) (k := n) (d := d)
    have h3 : (i + 1) * n = i * n + n := by rw [Nat.add_mul]; omega
    simp only [sm]
    omega
theorem mcp_bound {f : Nat → Int} {V n i k d : Nat} (hn : n ≤ 31) (hi : i ≤ n) (hk : k ≤ n) : 0 ≤ mcp f V n i k d ∧ mcp f V n i k d ≤ 1000 := by
  unfold mcp
  have h1 := sm_pk_le (f := f) (V := V) (n := n) (d := d) i
  have h2 := pk_le (f := f) (V := V) (i := i) (k := k) (d := d)
  have h3 : i * n ≤ 31 * 31 := Nat.mul_le_mul (by omega) hn
  omega

theorem countP_congr' {α : Type} {p q : α → Bool} {l : List α} (h : ∀ x ∈ l, p x = q x) : l.countP p = l.countP q := by
  apply List.countP_congr
  intro x hx
  rw [h x hx]
theorem pk_all {f : Nat → Int} {V n i d : Nat} (hr : RiseP n ((V : Int) - 1) f) (hi : i < n) (h1 : 1 ≤ d) (h2 : d < V) :
    pk f V i n d = dnc (f i) d (ilst i f) + ((ilst n f).drop (i + 1)).countP fun b => decide (b - f i = (V : Int) - d) := by
  have e : n = i + (1 + (n - (i + 1))) := by omega
  have hfi := hr.1 i hi
  unfold pk dnc
  rw [show List.range n = List.range i ++ (i :: (List.range (n - (i + 1))).map fun j => i + 1 + j) by
    conv => lhs; rw [e]
    rw [List.range_add, List.range_add]
    simp [List.map_map, Function.comp_def, Nat.add_assoc]]
  rw [List.countP_append, List.countP_cons]
  have hmid : (decide (i ≠ i ∧ (f i - f i + (V : Int)).tmod V = (d : Int))) = false := by simp
  rw [hmid, ilst_drop]
  unfold ilst
  rw [List.countP_map, List.countP_map, List.countP_map]
  have ha : ((List.range i).countP fun k' => decide (k' ≠ i ∧ (f i - f k' + (V : Int)).tmod V = (d : Int))) = (List.range i).countP ((fun a => decide (f i - a = (d : Int))) ∘ f) := countP_congr' fun k hk => by
    have hk' := List.mem_range.1 hk
    have g1 := hr.lt hk' hi
    have g2 := hr.1 k (by omega)
    have g3 : (f i - f k + (V : Int)).tmod V = f i - f k := by
      rw [Int.tmod_eq_emod_of_nonneg (by omega), Int.add_emod_right]
      exact Int.emod_eq_of_lt (by omega) (by omega)
    simp only [Function.comp_apply, g3]
    rw [decide_eq_decide]
    exact ⟨fun a => a.2, fun a => ⟨by omega, a⟩⟩
  have hb : ((List.range (n - (i + 1))).countP ((fun k' => decide (k' ≠ i ∧ (f i - f k' + (V : Int)).tmod V = (d : Int))) ∘ fun j => i + 1 + j)) = (List.range (n - (i + 1))).countP ((fun b => decide (b - f i = (V : Int) - d)) ∘ fun j => f (i + 1 + j)) := countP_congr' fun k hk => by
    have hk' := List.mem_range.1 hk
    have g1 := hr.lt (i := i) (j := i + 1 + k) (by omega) (by omega)
    have g2 := hr.1 (i + 1 + k) (by omega)
    have g3 : (f i - f (i + 1 + k) + (V : Int)).tmod V = f i - f (i + 1 + k) + V := by
      rw [Int.tmod_eq_emod_of_nonneg (by omega)]
      exact Int.emod_eq_of_lt (by omega) (by omega)
    simp only [Function.comp_apply, g3]
    rw [decide_eq_decide]
    exact ⟨fun a => by omega, fun a => ⟨by omega, by omega⟩⟩
  rw [ha, hb]
  simp
theorem mcp_all {f : Nat → Int} {V n d : Nat} (hr : RiseP n ((V : Int) - 1) f) (h1 : 1 ≤ d) (h2 : d < V) : mcp f V n n 0 d = dcp f V n 0 d := by
  have e1 : ∀ i, i < n → pk f V i n d = dnc ((ilst n f).getD i 0) d ((ilst n f).take i) + ((ilst n f).drop (i + 1)).countP fun b => decide (b - (ilst n f).getD i 0 = (V : Int) - d) := fun i hi => by
    have g1 : (ilst n f).getD i 0 = f i := by simp [ilst, List.getD, hi]
    have g2 : (ilst n f).take i = ilst i f := by
      unfold ilst
      rw [← List.map_take, List.take_range, Nat.min_eq_left (by omega)]
    rw [g1, g2]
    exact pk_all hr hi h1 h2
  unfold mcp dcp
  rw [cpz_all, cpz_all, sm_congr n e1, sm_add]
  have h3 := dpc_down (d := (d : Int)) (ilst n f) n (by rw [ilst_len]; exact Nat.le_refl _)
  have h4 := dpc_up (d := (V : Int) - d) (ilst n f)
  rw [ilst_len] at h4
  rw [List.take_of_length_le (by rw [ilst_len]; exact Nat.le_refl _)] at h3
  rw [← h3, ← h4]
  simp [pk]

set_option maxHeartbeats 16000000 in
theorem refEven_spec {G lo hi n c V : Nat} {A : Option Addr} {f : Nat → Int} {h : H} (hG : G ≤ h.next) (hhi : hi ≤ h.next) (hv : SlV h.blks lo hi 1 n (intsL n f) (.slice A n c)) (hn : n ≤ 31) (hV : 2 ≤ V) (hV2 : V ≤ 31) (hr : RiseP n ((V : Int) - 1) f) :
    Spec Try.prog (En G) 17 [.int .i64 V, .slice A n c] h fun v _ => (EvenP f V n (dcp f V n 0 1) ∧ v = .tuple #[.int .i64 (dcp f V n 0 1), .bool true]) ∨ (¬ EvenP f V n (dcp f V n 0 1) ∧ v = .tuple #[.int .i64 0, .bool false]) := by
  refine CallsE_enter (En_known (by decide)) (En_f.trans Try.func17) rfl ⟨Nat.le_of_ble_eq_true rfl, by decide⟩ fun Q' hQ' => ?_
  simp only [Try.f17, zaa,zab,zac,zad,zae,zaf,zag,zah,zai,zaj,zak,zal,zam,zan,zao,zap,zaq,zar,zas,zat,zau,zav,zaw,zax,zay,zaz,zba,zbb,zbc,zbd,zbe,zbf,zbg,zbh,zbi,zbj,zbk,zbl,zbm,zbn,zbo,zbp,zbq,zbr,zbs,zbt,zbu,zbv,zbw,zbx,zby,zbz,zca,zcb,zcc,zcd,zce,zcf,zcg,zch,zci,zcj,zck,zcl,zcm,zcn,zco,zcp,zcq,zcr,zcs,zct,zcu,zcv,zcw,zcx,zcy,zcz,zda,zdb,zdc,zdd,guardV,nth,zde,zdf,zdg,zdh,zdi,Nat.reduceEqDiff,reduceIte,zdj,zdk,zdl,resultsA,RetO,Nat.reduceLT,zdm,zdn,zdo,zdp,zdq,zdr,zds,zdt,zdu,zdv,zdw,zdx,zdy,zdz,zea,zeb,zec,zed,zee,zef,zeg,zeh,zei,zej,zek,zel,zem,zen,zeo]
  refine At_make (k1 := .i64) (k2 := .i64) (l := V) (c := V) u23 i3 zero3 (by rw [size3, bytes3]; rfl) (by simp only [zaa,zab,zac,zad,zae,zaf,zag,zah,zai,zaj,zak,zal,zam,zan,zao,zap,zaq,zar,zas,zat,zau,zav,zaw,zax,zay,zaz,zba,zbb,zbc,zbd,zbe,zbf,zbg,zbh,zbi,zbj,zbk,zbl,zbm,zbn,zbo,zbp,zbq,zbr,zbs,zbt,zbu,zbv,zbw,zbx,zby,zbz,zca,zcb,zcc,zcd,zce,zcf,zcg,zch,zci,zcj,zck,zcl,zcm,zcn,zco,zcp,zcq,zcr,zcs,zct,zcu,zcv,zcw,zcx,zcy,zcz,zda,zdb,zdc,zdd,guardV,nth,zde,zdf,zdg,zdh,zdi,Nat.reduceEqDiff,reduceIte,zdj,zdk,zdl,resultsA,RetO,Nat.reduceLT,zdm,zdn,zdo,zdp,zdq,zdr,zds,zdt,zdu,zdv,zdw,zdx,zdy,zdz,zea,zeb,zec,zed,zee,zef,zeg,zeh,zei,zej,zek,zel,zem,zen,zeo]) (by simp only [zaa,zab,zac,zad,zae,zaf,zag,zah,zai,zaj,zak,zal,zam,zan,zao,zap,zaq,zar,zas,zat,zau,zav,zaw,zax,zay,zaz,zba,zbb,zbc,zbd,zbe,zbf,zbg,zbh,zbi,zbj,zbk,zbl,zbm,zbn,zbo,zbp,zbq,zbr,zbs,zbt,zbu,zbv,zbw,zbx,zby,zbz,zca,zcb,zcc,zcd,zce,zcf,zcg,zch,zci,zcj,zck,zcl,zcm,zcn,zco,zcp,zcq,zcr,zcs,zct,zcu,zcv,zcw,zcx,zcy,zcz,zda,zdb,zdc,zdd,guardV,nth,zde,zdf,zdg,zdh,zdi,Nat.reduceEqDiff,reduceIte,zdj,zdk,zdl,resultsA,RetO,Nat.reduceLT,zdm,zdn,zdo,zdp,zdq,zdr,zds,zdt,zdu,zdv,zdw,zdx,zdy,zdz,zea,zeb,zec,zed,zee,zef,zeg,zeh,zei,zej,zek,zel,zem,zen,zeo]) (Nat.le_refl _) (by rw [size3]; omega) (by omega) (by omega) fun h1 hn1 => ?_
  rw [size3] at hn1
  have n1 := hn1.next
  have hz := hn1.slv (n := V) (c := V) (by rw [zeros_length]; rfl)
  have hzz : zeros (Value.int IntKind.i64 0).cells.toList V = intsL V (mcp f V n 0 0) := (zeros_ints V).trans (intsL_congr fun k _ => by simp [mcp, pk, sm])
  rw [hzz] at hz
  simp only [zaa,zab,zac,zad,zae,zaf,zag,zah,zai,zaj,zak,zal,zam,zan,zao,zap,zaq,zar,zas,zat,zau,zav,zaw,zax,zay,zaz,zba,zbb,zbc,zbd,zbe,zbf,zbg,zbh,zbi,zbj,zbk,zbl,zbm,zbn,zbo,zbp,zbq,zbr,zbs,zbt,zbu,zbv,zbw,zbx,zby,zbz,zca,zcb,zcc,zcd,zce,zcf,zcg,zch,zci,zcj,zck,zcl,zcm,zcn,zco,zcp,zcq,zcr,zcs,zct,zcu,zcv,zcw,zcx,zcy,zcz,zda,zdb,zdc,zdd,guardV,nth,zde,zdf,zdg,zdh,zdi,Nat.reduceEqDiff,reduceIte,zdj,zdk,zdl,resultsA,RetO,Nat.reduceLT,zdm,zdn,zdo,zdp,zdq,zdr,zds,zdt,zdu,zdv,zdw,zdx,zdy,zdz,zea,zeb,zec,zed,zee,zef,zeg,zeh,zei,zej,zek,zel,zem,zen,zeo]
  refine WK_loopN (fun j α h2 => ∃ i : Nat, i + j = n ∧ α.get 0 = some (.int .i64 V) ∧ α.get 1 = some (.slice A n c) ∧ α.get 6 = some (.slice (some ⟨h.next, 0, none⟩) V V) ∧ α.get 7 = some (.int .i64 i) ∧
      SlV h2.blks h.next h1.next 1 V (intsL V (mcp f V n i 0)) (.slice (some ⟨h.next, 0, none⟩) V V) ∧ Pres h.next h h2 ∧ h1.next ≤ h2.next) n
    ⟨0, by omega, by simp only [zaa,zab,zac,zad,zae,zaf,zag,zah,zai,zaj,zak,zal,zam,zan,zao,zap,zaq,zar,zas,zat,zau,zav,zaw,zax,zay,zaz,zba,zbb,zbc,zbd,zbe,zbf,zbg,zbh,zbi,zbj,zbk,zbl,zbm,zbn,zbo,zbp,zbq,zbr,zbs,zbt,zbu,zbv,zbw,zbx,zby,zbz,zca,zcb,zcc,zcd,zce,zcf,zcg,zch,zci,zcj,zck,zcl,zcm,zcn,zco,zcp,zcq,zcr,zcs,zct,zcu,zcv,zcw,zcx,zcy,zcz,zda,zdb,zdc,zdd,guardV,nth,zde,zdf,zdg,zdh,zdi,Nat.reduceEqDiff,reduceIte,zdj,zdk,zdl,resultsA,RetO,Nat.reduceLT,zdm,zdn,zdo,zdp,zdq,zdr,zds,zdt,zdu,zdv,zdw,zdx,zdy,zdz,zea,zeb,zec,zed,zee,zef,zeg,zeh,zei,zej,zek,zel,zem,zen,zeo], by simp only [zaa,zab,zac,zad,zae,zaf,zag,zah,zai,zaj,zak,zal,zam,zan,zao,zap,zaq,zar,zas,zat,zau,zav,zaw,zax,zay,zaz,zba,zbb,zbc,zbd,zbe,zbf,zbg,zbh,zbi,zbj,zbk,zbl,zbm,zbn,zbo,zbp,zbq,zbr,zbs,zbt,zbu,zbv,zbw,zbx,zby,zbz,zca,zcb,zcc,zcd,zce,zcf,zcg,zch,zci,zcj,zck,zcl,zcm,zcn,zco,zcp,zcq,zcr,zcs,zct,zcu,zcv,zcw,zcx,zcy,zcz,zda,zdb,zdc,zdd,guardV,nth,zde,zdf,zdg,zdh,zdi,Nat.reduceEqDiff,reduceIte,zdj,zdk,zdl,resultsA,RetO,Nat.reduceLT,zdm,zdn,zdo,zdp,zdq,zdr,zds,zdt,zdu,zdv,zdw,zdx,zdy,zdz,zea,zeb,zec,zed,zee,zef,zeg,zeh,zei,zej,zek,zel,zem,zen,zeo], by simp only [zaa,zab,zac,zad,zae,zaf,zag,zah,zai,zaj,zak,zal,zam,zan,zao,zap,zaq,zar,zas,zat,zau,zav,zaw,zax,zay,zaz,zba,zbb,zbc,zbd,zbe,zbf,zbg,zbh,zbi,zbj,zbk,zbl,zbm,zbn,zbo,zbp,zbq,zbr,zbs,zbt,zbu,zbv,zbw,zbx,zby,zbz,zca,zcb,zcc,zcd,zce,zcf,zcg,zch,zci,zcj,zck,zcl,zcm,zcn,zco,zcp,zcq,zcr,zcs,zct,zcu,zcv,zcw,zcx,zcy,zcz,zda,zdb,zdc,zdd,guardV,nth,zde,zdf,zdg,zdh,zdi,Nat.reduceEqDiff,reduceIte,zdj,zdk,zdl,resultsA,RetO,Nat.reduceLT,zdm,zdn,zdo,zdp,zdq,zdr,zds,zdt,zdu,zdv,zdw,zdx,zdy,zdz,zea,zeb,zec,zed,zee,zef,zeg,zeh,zei,zej,zek,zel,zem,zen,zeo], by (simp only [zaa,zab,zac,zad,zae,zaf,zag,zah,zai,zaj,zak,zal,zam,zan,zao,zap,zaq,zar,zas,zat,zau,zav,zaw,zax,zay,zaz,zba,zbb,zbc,zbd,zbe,zbf,zbg,zbh,zbi,zbj,zbk,zbl,zbm,zbn,zbo,zbp,zbq,zbr,zbs,zbt,zbu,zbv,zbw,zbx,zby,zbz,zca,zcb,zcc,zcd,zce,zcf,zcg,zch,zci,zcj,zck,zcl,zcm,zcn,zco,zcp,zcq,zcr,zcs,zct,zcu,zcv,zcw,zcx,zcy,zcz,zda,zdb,zdc,zdd,guardV,nth,zde,zdf,zdg,zdh,zdi,Nat.reduceEqDiff,reduceIte,zdj,zdk,zdl,resultsA,RetO,Nat.reduceLT,zdm,zdn,zdo,zdp,zdq,zdr,zds,zdt,zdu,zdv,zdw,zdx,zdy,zdz,zea,zeb,zec,zed,zee,zef,zeg,zeh,zei,zej,zek,zel,zem,zen,zeo]) <;> rfl, hz.wide (by omega) (by omega), hn1.pres (Nat.le_refl _), Nat.le_refl _⟩ (by omega) ?_
  rintro J j α h2 ⟨i, hij, e0, e1, e6, e7, hsv, pr, hnx⟩ hJ
  by_cases hlt : (i : Int) < n
  · simp (disch := omega) only [zaa,zab,zac,zad,zae,zaf,zag,zah,zai,zaj,zak,zal,zam,zan,zao,zap,zaq,zar,zas,zat,zau,zav,zaw,zax,zay,zaz,zba,zbb,zbc,zbd,zbe,zbf,zbg,zbh,zbi,zbj,zbk,zbl,zbm,zbn,zbo,zbp,zbq,zbr,zbs,zbt,zbu,zbv,zbw,zbx,zby,zbz,zca,zcb,zcc,zcd,zce,zcf,zcg,zch,zci,zcj,zck,zcl,zcm,zcn,zco,zcp,zcq,zcr,zcs,zct,zcu,zcv,zcw,zcx,zcy,zcz,zda,zdb,zdc,zdd,guardV,nth,zde,zdf,zdg,zdh,zdi,Nat.reduceEqDiff,reduceIte,zdj,zdk,zdl,resultsA,RetO,Nat.reduceLT,zdm,zdn,zdo,zdp,zdq,zdr,zds,zdt,zdu,zdv,zdw,zdx,zdy,zdz,zea,zeb,zec,zed,zee,zef,zeg,zeh,zei,zej,zek,zel,zem,zen,zeo, e0, e1, e6, e7, hlt, len23]
    refine WK_loopN (fun j' α h3 => ∃ k : Nat, k + j' = n ∧ α.get 0 = some (.int .i64 V) ∧ α.get 1 = some (.slice A n c) ∧ α.get 6 = some (.slice (some ⟨h.next, 0, none⟩) V V) ∧ α.get 7 = some (.int .i64 i) ∧ α.get 8 = some (.int .i64 k) ∧
        SlV h3.blks h.next h1.next 1 V (intsL V (mcp f V n i k)) (.slice (some ⟨h.next, 0, none⟩) V V) ∧ Pres h.next h h3 ∧ h1.next ≤ h3.next) n
      ⟨0, by omega, by simp only [zaa,zab,zac,zad,zae,zaf,zag,zah,zai,zaj,zak,zal,zam,zan,zao,zap,zaq,zar,zas,zat,zau,zav,zaw,zax,zay,zaz,zba,zbb,zbc,zbd,zbe,zbf,zbg,zbh,zbi,zbj,zbk,zbl,zbm,zbn,zbo,zbp,zbq,zbr,zbs,zbt,zbu,zbv,zbw,zbx,zby,zbz,zca,zcb,zcc,zcd,zce,zcf,zcg,zch,zci,zcj,zck,zcl,zcm,zcn,zco,zcp,zcq,zcr,zcs,zct,zcu,zcv,zcw,zcx,zcy,zcz,zda,zdb,zdc,zdd,guardV,nth,zde,zdf,zdg,zdh,zdi,Nat.reduceEqDiff,reduceIte,zdj,zdk,zdl,resultsA,RetO,Nat.reduceLT,zdm,zdn,zdo,zdp,zdq,zdr,zds,zdt,zdu,zdv,zdw,zdx,zdy,zdz,zea,zeb,zec,zed,zee,zef,zeg,zeh,zei,zej,zek,zel,zem,zen,zeo, e0], by simp only [zaa,zab,zac,zad,zae,zaf,zag,zah,zai,zaj,zak,zal,zam,zan,zao,zap,zaq,zar,zas,zat,zau,zav,zaw,zax,zay,zaz,zba,zbb,zbc,zbd,zbe,zbf,zbg,zbh,zbi,zbj,zbk,zbl,zbm,zbn,zbo,zbp,zbq,zbr,zbs,zbt,zbu,zbv,zbw,zbx,zby,zbz,zca,zcb,zcc,zcd,zce,zcf,zcg,zch,zci,zcj,zck,zcl,zcm,zcn,zco,zcp,zcq,zcr,zcs,zct,zcu,zcv,zcw,zcx,zcy,zcz,zda,zdb,zdc,zdd,guardV,nth,zde,zdf,zdg,zdh,zdi,Nat.reduceEqDiff,reduceIte,zdj,zdk,zdl,resultsA,RetO,Nat.reduceLT,zdm,zdn,zdo,zdp,zdq,zdr,zds,zdt,zdu,zdv,zdw,zdx,zdy,zdz,zea,zeb,zec,zed,zee,zef,zeg,zeh,zei,zej,zek,zel,zem,zen,zeo, e1], by simp only [zaa,zab,zac,zad,zae,zaf,zag,zah,zai,zaj,zak,zal,zam,zan,zao,zap,zaq,zar,zas,zat,zau,zav,zaw,zax,zay,zaz,zba,zbb,zbc,zbd,zbe,zbf,zbg,zbh,zbi,zbj,zbk,zbl,zbm,zbn,zbo,zbp,zbq,zbr,zbs,zbt,zbu,zbv,zbw,zbx,zby,zbz,zca,zcb,zcc,zcd,zce,zcf,zcg,zch,zci,zcj,zck,zcl,zcm,zcn,zco,zcp,zcq,zcr,zcs,zct,zcu,zcv,zcw,zcx,zcy,zcz,zda,zdb,zdc,zdd,guardV,nth,zde,zdf,zdg,zdh,zdi,Nat.reduceEqDiff,reduceIte,zdj,zdk,zdl,resultsA,RetO,Nat.reduceLT,zdm,zdn,zdo,zdp,zdq,zdr,zds,zdt,zdu,zdv,zdw,zdx,zdy,zdz,zea,zeb,zec,zed,zee,zef,zeg,zeh,zei,zej,zek,zel,zem,zen,zeo, e6], by simp only [zaa,zab,zac,zad,zae,zaf,zag,zah,zai,zaj,zak,zal,zam,zan,zao,zap,zaq,zar,zas,zat,zau,zav,zaw,zax,zay,zaz,zba,zbb,zbc,zbd,zbe,zbf,zbg,zbh,zbi,zbj,zbk,zbl,zbm,zbn,zbo,zbp,zbq,zbr,zbs,zbt,zbu,zbv,zbw,zbx,zby,zbz,zca,zcb,zcc,zcd,zce,zcf,zcg,zch,zci,zcj,zck,zcl,zcm,zcn,zco,zcp,zcq,zcr,zcs,zct,zcu,zcv,zcw,zcx,zcy,zcz,zda,zdb,zdc,zdd,guardV,nth,zde,zdf,zdg,zdh,zdi,Nat.reduceEqDiff,reduceIte,zdj,zdk,zdl,resultsA,RetO,Nat.reduceLT,zdm,zdn,zdo,zdp,zdq,zdr,zds,zdt,zdu,zdv,zdw,zdx,zdy,zdz,zea,zeb,zec,zed,zee,zef,zeg,zeh,zei,zej,zek,zel,zem,zen,zeo, e7], by (simp only [zaa,zab,zac,zad,zae,zaf,zag,zah,zai,zaj,zak,zal,zam,zan,zao,zap,zaq,zar,zas,zat,zau,zav,zaw,zax,zay,zaz,zba,zbb,zbc,zbd,zbe,zbf,zbg,zbh,zbi,zbj,zbk,zbl,zbm,zbn,zbo,zbp,zbq,zbr,zbs,zbt,zbu,zbv,zbw,zbx,zby,zbz,zca,zcb,zcc,zcd,zce,zcf,zcg,zch,zci,zcj,zck,zcl,zcm,zcn,zco,zcp,zcq,zcr,zcs,zct,zcu,zcv,zcw,zcx,zcy,zcz,zda,zdb,zdc,zdd,guardV,nth,zde,zdf,zdg,zdh,zdi,Nat.reduceEqDiff,reduceIte,zdj,zdk,zdl,resultsA,RetO,Nat.reduceLT,zdm,zdn,zdo,zdp,zdq,zdr,zds,zdt,zdu,zdv,zdw,zdx,zdy,zdz,zea,zeb,zec,zed,zee,zef,zeg,zeh,zei,zej,zek,zel,zem,zen,zeo]) <;> rfl, hsv, pr, hnx⟩ (by omega) ?_
    clear e0 e1 e6 e7 hsv pr hnx
    rintro J' j' α h3 ⟨k, hkj, e0, e1, e6, e7, e8, hsv, pr, hnx⟩ hJ'
    by_cases hlt' : (k : Int) < n
    · by_cases hik : (i : Int) = k
      · have d1 : decide ((i : Int) ≠ k) = false := decide_eq_false fun e => e hik
        have e : mcp f V n i (k + 1) = mcp f V n i k := by funext d; rw [mcp_step, if_neg fun a => a.1 (by omega)]
        simp (disch := omega) only [zaa,zab,zac,zad,zae,zaf,zag,zah,zai,zaj,zak,zal,zam,zan,zao,zap,zaq,zar,zas,zat,zau,zav,zaw,zax,zay,zaz,zba,zbb,zbc,zbd,zbe,zbf,zbg,zbh,zbi,zbj,zbk,zbl,zbm,zbn,zbo,zbp,zbq,zbr,zbs,zbt,zbu,zbv,zbw,zbx,zby,zbz,zca,zcb,zcc,zcd,zce,zcf,zcg,zch,zci,zcj,zck,zcl,zcm,zcn,zco,zcp,zcq,zcr,zcs,zct,zcu,zcv,zcw,zcx,zcy,zcz,zda,zdb,zdc,zdd,guardV,nth,zde,zdf,zdg,zdh,zdi,Nat.reduceEqDiff,reduceIte,zdj,zdk,zdl,resultsA,RetO,Nat.reduceLT,zdm,zdn,zdo,zdp,zdq,zdr,zds,zdt,zdu,zdv,zdw,zdx,zdy,zdz,zea,zeb,zec,zed,zee,zef,zeg,zeh,zei,zej,zek,zel,zem,zen,zeo, e0, e1, e6, e7, e8, hlt', len23, d1, wrap_i64]
        refine hJ' (n - (k + 1)) _ _ (by omega) ⟨k + 1, by omega, by simp only [zaa,zab,zac,zad,zae,zaf,zag,zah,zai,zaj,zak,zal,zam,zan,zao,zap,zaq,zar,zas,zat,zau,zav,zaw,zax,zay,zaz,zba,zbb,zbc,zbd,zbe,zbf,zbg,zbh,zbi,zbj,zbk,zbl,zbm,zbn,zbo,zbp,zbq,zbr,zbs,zbt,zbu,zbv,zbw,zbx,zby,zbz,zca,zcb,zcc,zcd,zce,zcf,zcg,zch,zci,zcj,zck,zcl,zcm,zcn,zco,zcp,zcq,zcr,zcs,zct,zcu,zcv,zcw,zcx,zcy,zcz,zda,zdb,zdc,zdd,guardV,nth,zde,zdf,zdg,zdh,zdi,Nat.reduceEqDiff,reduceIte,zdj,zdk,zdl,resultsA,RetO,Nat.reduceLT,zdm,zdn,zdo,zdp,zdq,zdr,zds,zdt,zdu,zdv,zdw,zdx,zdy,zdz,zea,zeb,zec,zed,zee,zef,zeg,zeh,zei,zej,zek,zel,zem,zen,zeo, e0], by simp only [zaa,zab,zac,zad,zae,zaf,zag,zah,zai,zaj,zak,zal,zam,zan,zao,zap,zaq,zar,zas,zat,zau,zav,zaw,zax,zay,zaz,zba,zbb,zbc,zbd,zbe,zbf,zbg,zbh,zbi,zbj,zbk,zbl,zbm,zbn,zbo,zbp,zbq,zbr,zbs,zbt,zbu,zbv,zbw,zbx,zby,zbz,zca,zcb,zcc,zcd,zce,zcf,zcg,zch,zci,zcj,zck,zcl,zcm,zcn,zco,zcp,zcq,zcr,zcs,zct,zcu,zcv,zcw,zcx,zcy,zcz,zda,zdb,zdc,zdd,guardV,nth,zde,zdf,zdg,zdh,zdi,Nat.reduceEqDiff,reduceIte,zdj,zdk,zdl,resultsA,RetO,Nat.reduceLT,zdm,zdn,zdo,zdp,zdq,zdr,zds,zdt,zdu,zdv,zdw,zdx,zdy,zdz,zea,zeb,zec,zed,zee,zef,zeg,zeh,zei,zej,zek,zel,zem,zen,zeo, e1], by simp only [zaa,zab,zac,zad,zae,zaf,zag,zah,zai,zaj,zak,zal,zam,zan,zao,zap,zaq,zar,zas,zat,zau,zav,zaw,zax,zay,zaz,zba,zbb,zbc,zbd,zbe,zbf,zbg,zbh,zbi,zbj,zbk,zbl,zbm,zbn,zbo,zbp,zbq,zbr,zbs,zbt,zbu,zbv,zbw,zbx,zby,zbz,zca,zcb,zcc,zcd,zce,zcf,zcg,zch,zci,zcj,zck,zcl,zcm,zcn,zco,zcp,zcq,zcr,zcs,zct,zcu,zcv,zcw,zcx,zcy,zcz,zda,zdb,zdc,zdd,guardV,nth,zde,zdf,zdg,zdh,zdi,Nat.reduceEqDiff,reduceIte,zdj,zdk,zdl,resultsA,RetO,Nat.reduceLT,zdm,zdn,zdo,zdp,zdq,zdr,zds,zdt,zdu,zdv,zdw,zdx,zdy,zdz,zea,zeb,zec,zed,zee,zef,zeg,zeh,zei,zej,zek,zel,zem,zen,zeo, e6], by simp only [zaa,zab,zac,zad,zae,zaf,zag,zah,zai,zaj,zak,zal,zam,zan,zao,zap,zaq,zar,zas,zat,zau,zav,zaw,zax,zay,zaz,zba,zbb,zbc,zbd,zbe,zbf,zbg,zbh,zbi,zbj,zbk,zbl,zbm,zbn,zbo,zbp,zbq,zbr,zbs,zbt,zbu,zbv,zbw,zbx,zby,zbz,zca,zcb,zcc,zcd,zce,zcf,zcg,zch,zci,zcj,zck,zcl,zcm,zcn,zco,zcp,zcq,zcr,zcs,zct,zcu,zcv,zcw,zcx,zcy,zcz,zda,zdb,zdc,zdd,guardV,nth,zde,zdf,zdg,zdh,zdi,Nat.reduceEqDiff,reduceIte,zdj,zdk,zdl,resultsA,RetO,Nat.reduceLT,zdm,zdn,zdo,zdp,zdq,zdr,zds,zdt,zdu,zdv,zdw,zdx,zdy,zdz,zea,zeb,zec,zed,zee,zef,zeg,zeh,zei,zej,zek,zel,zem,zen,zeo, e7], by (simp only [zaa,zab,zac,zad,zae,zaf,zag,zah,zai,zaj,zak,zal,zam,zan,zao,zap,zaq,zar,zas,zat,zau,zav,zaw,zax,zay,zaz,zba,zbb,zbc,zbd,zbe,zbf,zbg,zbh,zbi,zbj,zbk,zbl,zbm,zbn,zbo,zbp,zbq,zbr,zbs,zbt,zbu,zbv,zbw,zbx,zby,zbz,zca,zcb,zcc,zcd,zce,zcf,zcg,zch,zci,zcj,zck,zcl,zcm,zcn,zco,zcp,zcq,zcr,zcs,zct,zcu,zcv,zcw,zcx,zcy,zcz,zda,zdb,zdc,zdd,guardV,nth,zde,zdf,zdg,zdh,zdi,Nat.reduceEqDiff,reduceIte,zdj,zdk,zdl,resultsA,RetO,Nat.reduceLT,zdm,zdn,zdo,zdp,zdq,zdr,zds,zdt,zdu,zdv,zdw,zdx,zdy,zdz,zea,zeb,zec,zed,zee,zef,zeg,zeh,zei,zej,zek,zel,zem,zen,zeo]) <;> rfl, by rw [e]; exact hsv, pr, hnx⟩
      · have d1 : decide ((i : Int) ≠ k) = true := decide_eq_true hik
        have hv3 : SlV h3.blks lo hi 1 n (intsL n f) (.slice A n c) := hv.mono fun b _ hb => pr.get b (by omega)
        obtain ⟨b, off, hA, hld⟩ := hv3.ints_at (by omega)
        have l1 := hld i (by omega)
        have l2 := hld k (by omega)
        rw [hA] at e1
        have g1 := hr.1 i (by omega)
        have g2 := hr.1 k (by omega)
        have g3 : (f i - f k + (V : Int)).tmod V = (f i - f k + (V : Int)) % V := Int.tmod_eq_emod_of_nonneg (by omega)
        have g4 : 0 ≤ (f i - f k + (V : Int)) % V := Int.emod_nonneg _ (by omega)
        have g5 : (f i - f k + (V : Int)) % V < V := Int.emod_lt_of_pos _ (by omega)
        obtain ⟨D, hD⟩ : ∃ D : Nat, (f i - f k + (V : Int)).tmod V = (D : Int) := ⟨((f i - f k + (V : Int)) % V).toNat, by omega⟩
        have l3 := hsv.ints_at' (j := D) (by omega)
        have b3 := mcp_bound (f := f) (V := V) (n := n) (i := i) (k := k) (d := D) hn (by omega) (by omega)
        simp (disch := omega) only [zaa,zab,zac,zad,zae,zaf,zag,zah,zai,zaj,zak,zal,zam,zan,zao,zap,zaq,zar,zas,zat,zau,zav,zaw,zax,zay,zaz,zba,zbb,zbc,zbd,zbe,zbf,zbg,zbh,zbi,zbj,zbk,zbl,zbm,zbn,zbo,zbp,zbq,zbr,zbs,zbt,zbu,zbv,zbw,zbx,zby,zbz,zca,zcb,zcc,zcd,zce,zcf,zcg,zch,zci,zcj,zck,zcl,zcm,zcn,zco,zcp,zcq,zcr,zcs,zct,zcu,zcv,zcw,zcx,zcy,zcz,zda,zdb,zdc,zdd,guardV,nth,zde,zdf,zdg,zdh,zdi,Nat.reduceEqDiff,reduceIte,zdj,zdk,zdl,resultsA,RetO,Nat.reduceLT,zdm,zdn,zdo,zdp,zdq,zdr,zds,zdt,zdu,zdv,zdw,zdx,zdy,zdz,zea,zeb,zec,zed,zee,zef,zeg,zeh,zei,zej,zek,zel,zem,zen,zeo, e0, e1, e6, e7, e8, hlt', len23, d1]
        refine WK_regionT 13 ⟨by kernel_rfl, by kernel_rfl, by kernel_rfl⟩ ?_
        simp (disch := omega) only [zaa,zab,zac,zad,zae,zaf,zag,zah,zai,zaj,zak,zal,zam,zan,zao,zap,zaq,zar,zas,zat,zau,zav,zaw,zax,zay,zaz,zba,zbb,zbc,zbd,zbe,zbf,zbg,zbh,zbi,zbj,zbk,zbl,zbm,zbn,zbo,zbp,zbq,zbr,zbs,zbt,zbu,zbv,zbw,zbx,zby,zbz,zca,zcb,zcc,zcd,zce,zcf,zcg,zch,zci,zcj,zck,zcl,zcm,zcn,zco,zcp,zcq,zcr,zcs,zct,zcu,zcv,zcw,zcx,zcy,zcz,zda,zdb,zdc,zdd,guardV,nth,zde,zdf,zdg,zdh,zdi,Nat.reduceEqDiff,reduceIte,zdj,zdk,zdl,resultsA,RetO,Nat.reduceLT,zdm,zdn,zdo,zdp,zdq,zdr,zds,zdt,zdu,zdv,zdw,zdx,zdy,zdz,zea,zeb,zec,zed,zee,zef,zeg,zeh,zei,zej,zek,zel,zem,zen,zeo, e0, e1, e6, e7, e8, idxA23, load3, Int.toNat_natCast, Nat.mul_one, l1, l2, wrap_i64, binO_rem, hD, l3]
        refine At_setInt (lo := h.next) (hi := h1.next) (f := mcp f V n i k) (z := mcp f V n i k D + 1) (N := V) (c := V) (b := h.next) (i := D) (by simp only [zaa,zab,zac,zad,zae,zaf,zag,zah,zai,zaj,zak,zal,zam,zan,zao,zap,zaq,zar,zas,zat,zau,zav,zaw,zax,zay,zaz,zba,zbb,zbc,zbd,zbe,zbf,zbg,zbh,zbi,zbj,zbk,zbl,zbm,zbn,zbo,zbp,zbq,zbr,zbs,zbt,zbu,zbv,zbw,zbx,zby,zbz,zca,zcb,zcc,zcd,zce,zcf,zcg,zch,zci,zcj,zck,zcl,zcm,zcn,zco,zcp,zcq,zcr,zcs,zct,zcu,zcv,zcw,zcx,zcy,zcz,zda,zdb,zdc,zdd,guardV,nth,zde,zdf,zdg,zdh,zdi,Nat.reduceEqDiff,reduceIte,zdj,zdk,zdl,resultsA,RetO,Nat.reduceLT,zdm,zdn,zdo,zdp,zdq,zdr,zds,zdt,zdu,zdv,zdw,zdx,zdy,zdz,zea,zeb,zec,zed,zee,zef,zeg,zeh,zei,zej,zek,zel,zem,zen,zeo]) (by simp only [zaa,zab,zac,zad,zae,zaf,zag,zah,zai,zaj,zak,zal,zam,zan,zao,zap,zaq,zar,zas,zat,zau,zav,zaw,zax,zay,zaz,zba,zbb,zbc,zbd,zbe,zbf,zbg,zbh,zbi,zbj,zbk,zbl,zbm,zbn,zbo,zbp,zbq,zbr,zbs,zbt,zbu,zbv,zbw,zbx,zby,zbz,zca,zcb,zcc,zcd,zce,zcf,zcg,zch,zci,zcj,zck,zcl,zcm,zcn,zco,zcp,zcq,zcr,zcs,zct,zcu,zcv,zcw,zcx,zcy,zcz,zda,zdb,zdc,zdd,guardV,nth,zde,zdf,zdg,zdh,zdi,Nat.reduceEqDiff,reduceIte,zdj,zdk,zdl,resultsA,RetO,Nat.reduceLT,zdm,zdn,zdo,zdp,zdq,zdr,zds,zdt,zdu,zdv,zdw,zdx,zdy,zdz,zea,zeb,zec,zed,zee,zef,zeg,zeh,zei,zej,zek,zel,zem,zen,zeo]) hsv (by omega) (by omega) fun h4 hs4 hsv4 => ?_
        have n4 := hs4.next
        have hfin : (intsL V fun r => if r = D then mcp f V n i k D + 1 else mcp f V n i k r) = intsL V (mcp f V n i (k + 1)) := intsL_congr fun q hq => by
          rw [mcp_step, hD]
          by_cases q1 : q = D
          · subst q1
            rw [if_pos rfl, if_pos ⟨by omega, rfl⟩]
          · rw [if_neg q1, if_neg fun a => by omega]
        rw [hfin] at hsv4
        simp (disch := omega) only [zaa,zab,zac,zad,zae,zaf,zag,zah,zai,zaj,zak,zal,zam,zan,zao,zap,zaq,zar,zas,zat,zau,zav,zaw,zax,zay,zaz,zba,zbb,zbc,zbd,zbe,zbf,zbg,zbh,zbi,zbj,zbk,zbl,zbm,zbn,zbo,zbp,zbq,zbr,zbs,zbt,zbu,zbv,zbw,zbx,zby,zbz,zca,zcb,zcc,zcd,zce,zcf,zcg,zch,zci,zcj,zck,zcl,zcm,zcn,zco,zcp,zcq,zcr,zcs,zct,zcu,zcv,zcw,zcx,zcy,zcz,zda,zdb,zdc,zdd,guardV,nth,zde,zdf,zdg,zdh,zdi,Nat.reduceEqDiff,reduceIte,zdj,zdk,zdl,resultsA,RetO,Nat.reduceLT,zdm,zdn,zdo,zdp,zdq,zdr,zds,zdt,zdu,zdv,zdw,zdx,zdy,zdz,zea,zeb,zec,zed,zee,zef,zeg,zeh,zei,zej,zek,zel,zem,zen,zeo, e8, wrap_i64]
        refine hJ' (n - (k + 1)) _ _ (by omega) ⟨k + 1, by omega, by simp only [zaa,zab,zac,zad,zae,zaf,zag,zah,zai,zaj,zak,zal,zam,zan,zao,zap,zaq,zar,zas,zat,zau,zav,zaw,zax,zay,zaz,zba,zbb,zbc,zbd,zbe,zbf,zbg,zbh,zbi,zbj,zbk,zbl,zbm,zbn,zbo,zbp,zbq,zbr,zbs,zbt,zbu,zbv,zbw,zbx,zby,zbz,zca,zcb,zcc,zcd,zce,zcf,zcg,zch,zci,zcj,zck,zcl,zcm,zcn,zco,zcp,zcq,zcr,zcs,zct,zcu,zcv,zcw,zcx,zcy,zcz,zda,zdb,zdc,zdd,guardV,nth,zde,zdf,zdg,zdh,zdi,Nat.reduceEqDiff,reduceIte,zdj,zdk,zdl,resultsA,RetO,Nat.reduceLT,zdm,zdn,zdo,zdp,zdq,zdr,zds,zdt,zdu,zdv,zdw,zdx,zdy,zdz,zea,zeb,zec,zed,zee,zef,zeg,zeh,zei,zej,zek,zel,zem,zen,zeo, e0], by simp only [zaa,zab,zac,zad,zae,zaf,zag,zah,zai,zaj,zak,zal,zam,zan,zao,zap,zaq,zar,zas,zat,zau,zav,zaw,zax,zay,zaz,zba,zbb,zbc,zbd,zbe,zbf,zbg,zbh,zbi,zbj,zbk,zbl,zbm,zbn,zbo,zbp,zbq,zbr,zbs,zbt,zbu,zbv,zbw,zbx,zby,zbz,zca,zcb,zcc,zcd,zce,zcf,zcg,zch,zci,zcj,zck,zcl,zcm,zcn,zco,zcp,zcq,zcr,zcs,zct,zcu,zcv,zcw,zcx,zcy,zcz,zda,zdb,zdc,zdd,guardV,nth,zde,zdf,zdg,zdh,zdi,Nat.reduceEqDiff,reduceIte,zdj,zdk,zdl,resultsA,RetO,Nat.reduceLT,zdm,zdn,zdo,zdp,zdq,zdr,zds,zdt,zdu,zdv,zdw,zdx,zdy,zdz,zea,zeb,zec,zed,zee,zef,zeg,zeh,zei,zej,zek,zel,zem,zen,zeo, e1, hA], by simp only [zaa,zab,zac,zad,zae,zaf,zag,zah,zai,zaj,zak,zal,zam,zan,zao,zap,zaq,zar,zas,zat,zau,zav,zaw,zax,zay,zaz,zba,zbb,zbc,zbd,zbe,zbf,zbg,zbh,zbi,zbj,zbk,zbl,zbm,zbn,zbo,zbp,zbq,zbr,zbs,zbt,zbu,zbv,zbw,zbx,zby,zbz,zca,zcb,zcc,zcd,zce,zcf,zcg,zch,zci,zcj,zck,zcl,zcm,zcn,zco,zcp,zcq,zcr,zcs,zct,zcu,zcv,zcw,zcx,zcy,zcz,zda,zdb,zdc,zdd,guardV,nth,zde,zdf,zdg,zdh,zdi,Nat.reduceEqDiff,reduceIte,zdj,zdk,zdl,resultsA,RetO,Nat.reduceLT,zdm,zdn,zdo,zdp,zdq,zdr,zds,zdt,zdu,zdv,zdw,zdx,zdy,zdz,zea,zeb,zec,zed,zee,zef,zeg,zeh,zei,zej,zek,zel,zem,zen,zeo, e6], by simp only [zaa,zab,zac,zad,zae,zaf,zag,zah,zai,zaj,zak,zal,zam,zan,zao,zap,zaq,zar,zas,zat,zau,zav,zaw,zax,zay,zaz,zba,zbb,zbc,zbd,zbe,zbf,zbg,zbh,zbi,zbj,zbk,zbl,zbm,zbn,zbo,zbp,zbq,zbr,zbs,zbt,zbu,zbv,zbw,zbx,zby,zbz,zca,zcb,zcc,zcd,zce,zcf,zcg,zch,zci,zcj,zck,zcl,zcm,zcn,zco,zcp,zcq,zcr,zcs,zct,zcu,zcv,zcw,zcx,zcy,zcz,zda,zdb,zdc,zdd,guardV,nth,zde,zdf,zdg,zdh,zdi,Nat.reduceEqDiff,reduceIte,zdj,zdk,zdl,resultsA,RetO,Nat.reduceLT,zdm,zdn,zdo,zdp,zdq,zdr,zds,zdt,zdu,zdv,zdw,zdx,zdy,zdz,zea,zeb,zec,zed,zee,zef,zeg,zeh,zei,zej,zek,zel,zem,zen,zeo, e7], by (simp only [zaa,zab,zac,zad,zae,zaf,zag,zah,zai,zaj,zak,zal,zam,zan,zao,zap,zaq,zar,zas,zat,zau,zav,zaw,zax,zay,zaz,zba,zbb,zbc,zbd,zbe,zbf,zbg,zbh,zbi,zbj,zbk,zbl,zbm,zbn,zbo,zbp,zbq,zbr,zbs,zbt,zbu,zbv,zbw,zbx,zby,zbz,zca,zcb,zcc,zcd,zce,zcf,zcg,zch,zci,zcj,zck,zcl,zcm,zcn,zco,zcp,zcq,zcr,zcs,zct,zcu,zcv,zcw,zcx,zcy,zcz,zda,zdb,zdc,zdd,guardV,nth,zde,zdf,zdg,zdh,zdi,Nat.reduceEqDiff,reduceIte,zdj,zdk,zdl,resultsA,RetO,Nat.reduceLT,zdm,zdn,zdo,zdp,zdq,zdr,zds,zdt,zdu,zdv,zdw,zdx,zdy,zdz,zea,zeb,zec,zed,zee,zef,zeg,zeh,zei,zej,zek,zel,zem,zen,zeo]) <;> rfl, hsv4, pr.trans (hs4.pres (Nat.le_refl _)), by omega⟩
    · obtain rfl : k = n := by omega
      rw [intsL_congr fun q hq => mcp_row] at hsv
      simp (disch := omega) only [zaa,zab,zac,zad,zae,zaf,zag,zah,zai,zaj,zak,zal,zam,zan,zao,zap,zaq,zar,zas,zat,zau,zav,zaw,zax,zay,zaz,zba,zbb,zbc,zbd,zbe,zbf,zbg,zbh,zbi,zbj,zbk,zbl,zbm,zbn,zbo,zbp,zbq,zbr,zbs,zbt,zbu,zbv,zbw,zbx,zby,zbz,zca,zcb,zcc,zcd,zce,zcf,zcg,zch,zci,zcj,zck,zcl,zcm,zcn,zco,zcp,zcq,zcr,zcs,zct,zcu,zcv,zcw,zcx,zcy,zcz,zda,zdb,zdc,zdd,guardV,nth,zde,zdf,zdg,zdh,zdi,Nat.reduceEqDiff,reduceIte,zdj,zdk,zdl,resultsA,RetO,Nat.reduceLT,zdm,zdn,zdo,zdp,zdq,zdr,zds,zdt,zdu,zdv,zdw,zdx,zdy,zdz,zea,zeb,zec,zed,zee,zef,zeg,zeh,zei,zej,zek,zel,zem,zen,zeo, e1, e7, e8, hlt', len23, wrap_i64]
      refine hJ (k - (i + 1)) _ _ (by omega) ⟨i + 1, by omega, by simp only [zaa,zab,zac,zad,zae,zaf,zag,zah,zai,zaj,zak,zal,zam,zan,zao,zap,zaq,zar,zas,zat,zau,zav,zaw,zax,zay,zaz,zba,zbb,zbc,zbd,zbe,zbf,zbg,zbh,zbi,zbj,zbk,zbl,zbm,zbn,zbo,zbp,zbq,zbr,zbs,zbt,zbu,zbv,zbw,zbx,zby,zbz,zca,zcb,zcc,zcd,zce,zcf,zcg,zch,zci,zcj,zck,zcl,zcm,zcn,zco,zcp,zcq,zcr,zcs,zct,zcu,zcv,zcw,zcx,zcy,zcz,zda,zdb,zdc,zdd,guardV,nth,zde,zdf,zdg,zdh,zdi,Nat.reduceEqDiff,reduceIte,zdj,zdk,zdl,resultsA,RetO,Nat.reduceLT,zdm,zdn,zdo,zdp,zdq,zdr,zds,zdt,zdu,zdv,zdw,zdx,zdy,zdz,zea,zeb,zec,zed,zee,zef,zeg,zeh,zei,zej,zek,zel,zem,zen,zeo, e0], by simp only [zaa,zab,zac,zad,zae,zaf,zag,zah,zai,zaj,zak,zal,zam,zan,zao,zap,zaq,zar,zas,zat,zau,zav,zaw,zax,zay,zaz,zba,zbb,zbc,zbd,zbe,zbf,zbg,zbh,zbi,zbj,zbk,zbl,zbm,zbn,zbo,zbp,zbq,zbr,zbs,zbt,zbu,zbv,zbw,zbx,zby,zbz,zca,zcb,zcc,zcd,zce,zcf,zcg,zch,zci,zcj,zck,zcl,zcm,zcn,zco,zcp,zcq,zcr,zcs,zct,zcu,zcv,zcw,zcx,zcy,zcz,zda,zdb,zdc,zdd,guardV,nth,zde,zdf,zdg,zdh,zdi,Nat.reduceEqDiff,reduceIte,zdj,zdk,zdl,resultsA,RetO,Nat.reduceLT,zdm,zdn,zdo,zdp,zdq,zdr,zds,zdt,zdu,zdv,zdw,zdx,zdy,zdz,zea,zeb,zec,zed,zee,zef,zeg,zeh,zei,zej,zek,zel,zem,zen,zeo, e1], by simp only [zaa,zab,zac,zad,zae,zaf,zag,zah,zai,zaj,zak,zal,zam,zan,zao,zap,zaq,zar,zas,zat,zau,zav,zaw,zax,zay,zaz,zba,zbb,zbc,zbd,zbe,zbf,zbg,zbh,zbi,zbj,zbk,zbl,zbm,zbn,zbo,zbp,zbq,zbr,zbs,zbt,zbu,zbv,zbw,zbx,zby,zbz,zca,zcb,zcc,zcd,zce,zcf,zcg,zch,zci,zcj,zck,zcl,zcm,zcn,zco,zcp,zcq,zcr,zcs,zct,zcu,zcv,zcw,zcx,zcy,zcz,zda,zdb,zdc,zdd,guardV,nth,zde,zdf,zdg,zdh,zdi,Nat.reduceEqDiff,reduceIte,zdj,zdk,zdl,resultsA,RetO,Nat.reduceLT,zdm,zdn,zdo,zdp,zdq,zdr,zds,zdt,zdu,zdv,zdw,zdx,zdy,zdz,zea,zeb,zec,zed,zee,zef,zeg,zeh,zei,zej,zek,zel,zem,zen,zeo, e6], by (simp only [zaa,zab,zac,zad,zae,zaf,zag,zah,zai,zaj,zak,zal,zam,zan,zao,zap,zaq,zar,zas,zat,zau,zav,zaw,zax,zay,zaz,zba,zbb,zbc,zbd,zbe,zbf,zbg,zbh,zbi,zbj,zbk,zbl,zbm,zbn,zbo,zbp,zbq,zbr,zbs,zbt,zbu,zbv,zbw,zbx,zby,zbz,zca,zcb,zcc,zcd,zce,zcf,zcg,zch,zci,zcj,zck,zcl,zcm,zcn,zco,zcp,zcq,zcr,zcs,zct,zcu,zcv,zcw,zcx,zcy,zcz,zda,zdb,zdc,zdd,guardV,nth,zde,zdf,zdg,zdh,zdi,Nat.reduceEqDiff,reduceIte,zdj,zdk,zdl,resultsA,RetO,Nat.reduceLT,zdm,zdn,zdo,zdp,zdq,zdr,zds,zdt,zdu,zdv,zdw,zdx,zdy,zdz,zea,zeb,zec,zed,zee,zef,zeg,zeh,zei,zej,zek,zel,zem,zen,zeo]) <;> rfl, hsv, pr, hnx⟩
  · obtain rfl : i = n := by omega
    simp (disch := omega) only [zaa,zab,zac,zad,zae,zaf,zag,zah,zai,zaj,zak,zal,zam,zan,zao,zap,zaq,zar,zas,zat,zau,zav,zaw,zax,zay,zaz,zba,zbb,zbc,zbd,zbe,zbf,zbg,zbh,zbi,zbj,zbk,zbl,zbm,zbn,zbo,zbp,zbq,zbr,zbs,zbt,zbu,zbv,zbw,zbx,zby,zbz,zca,zcb,zcc,zcd,zce,zcf,zcg,zch,zci,zcj,zck,zcl,zcm,zcn,zco,zcp,zcq,zcr,zcs,zct,zcu,zcv,zcw,zcx,zcy,zcz,zda,zdb,zdc,zdd,guardV,nth,zde,zdf,zdg,zdh,zdi,Nat.reduceEqDiff,reduceIte,zdj,zdk,zdl,resultsA,RetO,Nat.reduceLT,zdm,zdn,zdo,zdp,zdq,zdr,zds,zdt,zdu,zdv,zdw,zdx,zdy,zdz,zea,zeb,zec,zed,zee,zef,zeg,zeh,zei,zej,zek,zel,zem,zen,zeo, e0, e1, e6, e7, hlt, len23]
    have lone := hsv.ints_at' (j := 1) (by omega)
    have i1 : Int.toNat 1 = 1 := rfl
    have m1 : mcp f V i i 0 1 = dcp f V i 0 1 := mcp_all hr (Nat.le_refl 1) (by omega)
    rw [m1] at lone
    have hpr := pr
    refine WK_loopN (fun j α h3 => ∃ d : Nat, d + j = V ∧ 1 ≤ d ∧ h3 = h2 ∧ α.get 0 = some (.int .i64 V) ∧ α.get 6 = some (.slice (some ⟨h.next, 0, none⟩) V V) ∧ α.get 9 = some (.int .i64 d) ∧ ∀ q, 1 ≤ q → q < d → dcp f V i 0 q = dcp f V i 0 1) (V - 1)
      ⟨1, by omega, Nat.le_refl 1, rfl, by simp only [zaa,zab,zac,zad,zae,zaf,zag,zah,zai,zaj,zak,zal,zam,zan,zao,zap,zaq,zar,zas,zat,zau,zav,zaw,zax,zay,zaz,zba,zbb,zbc,zbd,zbe,zbf,zbg,zbh,zbi,zbj,zbk,zbl,zbm,zbn,zbo,zbp,zbq,zbr,zbs,zbt,zbu,zbv,zbw,zbx,zby,zbz,zca,zcb,zcc,zcd,zce,zcf,zcg,zch,zci,zcj,zck,zcl,zcm,zcn,zco,zcp,zcq,zcr,zcs,zct,zcu,zcv,zcw,zcx,zcy,zcz,zda,zdb,zdc,zdd,guardV,nth,zde,zdf,zdg,zdh,zdi,Nat.reduceEqDiff,reduceIte,zdj,zdk,zdl,resultsA,RetO,Nat.reduceLT,zdm,zdn,zdo,zdp,zdq,zdr,zds,zdt,zdu,zdv,zdw,zdx,zdy,zdz,zea,zeb,zec,zed,zee,zef,zeg,zeh,zei,zej,zek,zel,zem,zen,zeo, e0], by simp only [zaa,zab,zac,zad,zae,zaf,zag,zah,zai,zaj,zak,zal,zam,zan,zao,zap,zaq,zar,zas,zat,zau,zav,zaw,zax,zay,zaz,zba,zbb,zbc,zbd,zbe,zbf,zbg,zbh,zbi,zbj,zbk,zbl,zbm,zbn,zbo,zbp,zbq,zbr,zbs,zbt,zbu,zbv,zbw,zbx,zby,zbz,zca,zcb,zcc,zcd,zce,zcf,zcg,zch,zci,zcj,zck,zcl,zcm,zcn,zco,zcp,zcq,zcr,zcs,zct,zcu,zcv,zcw,zcx,zcy,zcz,zda,zdb,zdc,zdd,guardV,nth,zde,zdf,zdg,zdh,zdi,Nat.reduceEqDiff,reduceIte,zdj,zdk,zdl,resultsA,RetO,Nat.reduceLT,zdm,zdn,zdo,zdp,zdq,zdr,zds,zdt,zdu,zdv,zdw,zdx,zdy,zdz,zea,zeb,zec,zed,zee,zef,zeg,zeh,zei,zej,zek,zel,zem,zen,zeo, e6], by (simp only [zaa,zab,zac,zad,zae,zaf,zag,zah,zai,zaj,zak,zal,zam,zan,zao,zap,zaq,zar,zas,zat,zau,zav,zaw,zax,zay,zaz,zba,zbb,zbc,zbd,zbe,zbf,zbg,zbh,zbi,zbj,zbk,zbl,zbm,zbn,zbo,zbp,zbq,zbr,zbs,zbt,zbu,zbv,zbw,zbx,zby,zbz,zca,zcb,zcc,zcd,zce,zcf,zcg,zch,zci,zcj,zck,zcl,zcm,zcn,zco,zcp,zcq,zcr,zcs,zct,zcu,zcv,zcw,zcx,zcy,zcz,zda,zdb,zdc,zdd,guardV,nth,zde,zdf,zdg,zdh,zdi,Nat.reduceEqDiff,reduceIte,zdj,zdk,zdl,resultsA,RetO,Nat.reduceLT,zdm,zdn,zdo,zdp,zdq,zdr,zds,zdt,zdu,zdv,zdw,zdx,zdy,zdz,zea,zeb,zec,zed,zee,zef,zeg,zeh,zei,zej,zek,zel,zem,zen,zeo]) <;> rfl, fun q h1 h2 => by omega⟩ (by omega) ?_
    clear e0 e1 e6 e7
    rintro J' j' α h3 ⟨d, hdj, hd1, rfl, e0, e6, e9, hall⟩ hJ'
    by_cases hlt' : (d : Int) < V
    · have l1 := hsv.ints_at' (j := d) (by omega)
      rw [mcp_all hr hd1 (by omega)] at l1
      by_cases c1 : dcp f V i 0 d = dcp f V i 0 1
      · have d1 : decide (dcp f V i 0 d ≠ dcp f V i 0 1) = false := decide_eq_false fun e => e c1
        simp (disch := omega) only [zaa,zab,zac,zad,zae,zaf,zag,zah,zai,zaj,zak,zal,zam,zan,zao,zap,zaq,zar,zas,zat,zau,zav,zaw,zax,zay,zaz,zba,zbb,zbc,zbd,zbe,zbf,zbg,zbh,zbi,zbj,zbk,zbl,zbm,zbn,zbo,zbp,zbq,zbr,zbs,zbt,zbu,zbv,zbw,zbx,zby,zbz,zca,zcb,zcc,zcd,zce,zcf,zcg,zch,zci,zcj,zck,zcl,zcm,zcn,zco,zcp,zcq,zcr,zcs,zct,zcu,zcv,zcw,zcx,zcy,zcz,zda,zdb,zdc,zdd,guardV,nth,zde,zdf,zdg,zdh,zdi,Nat.reduceEqDiff,reduceIte,zdj,zdk,zdl,resultsA,RetO,Nat.reduceLT,zdm,zdn,zdo,zdp,zdq,zdr,zds,zdt,zdu,zdv,zdw,zdx,zdy,zdz,zea,zeb,zec,zed,zee,zef,zeg,zeh,zei,zej,zek,zel,zem,zen,zeo, e0, e6, e9, hlt']
        refine WK_regionT 7 ⟨by kernel_rfl, by kernel_rfl, by kernel_rfl⟩ ?_
        simp (disch := omega) only [zaa,zab,zac,zad,zae,zaf,zag,zah,zai,zaj,zak,zal,zam,zan,zao,zap,zaq,zar,zas,zat,zau,zav,zaw,zax,zay,zaz,zba,zbb,zbc,zbd,zbe,zbf,zbg,zbh,zbi,zbj,zbk,zbl,zbm,zbn,zbo,zbp,zbq,zbr,zbs,zbt,zbu,zbv,zbw,zbx,zby,zbz,zca,zcb,zcc,zcd,zce,zcf,zcg,zch,zci,zcj,zck,zcl,zcm,zcn,zco,zcp,zcq,zcr,zcs,zct,zcu,zcv,zcw,zcx,zcy,zcz,zda,zdb,zdc,zdd,guardV,nth,zde,zdf,zdg,zdh,zdi,Nat.reduceEqDiff,reduceIte,zdj,zdk,zdl,resultsA,RetO,Nat.reduceLT,zdm,zdn,zdo,zdp,zdq,zdr,zds,zdt,zdu,zdv,zdw,zdx,zdy,zdz,zea,zeb,zec,zed,zee,zef,zeg,zeh,zei,zej,zek,zel,zem,zen,zeo, e0, e6, e9, idxA23, load3, Int.toNat_natCast, Nat.mul_one, i1, l1, lone, d1, wrap_i64]
        refine hJ' (V - (d + 1)) _ _ (by omega) ⟨d + 1, by omega, by omega, rfl, by simp only [zaa,zab,zac,zad,zae,zaf,zag,zah,zai,zaj,zak,zal,zam,zan,zao,zap,zaq,zar,zas,zat,zau,zav,zaw,zax,zay,zaz,zba,zbb,zbc,zbd,zbe,zbf,zbg,zbh,zbi,zbj,zbk,zbl,zbm,zbn,zbo,zbp,zbq,zbr,zbs,zbt,zbu,zbv,zbw,zbx,zby,zbz,zca,zcb,zcc,zcd,zce,zcf,zcg,zch,zci,zcj,zck,zcl,zcm,zcn,zco,zcp,zcq,zcr,zcs,zct,zcu,zcv,zcw,zcx,zcy,zcz,zda,zdb,zdc,zdd,guardV,nth,zde,zdf,zdg,zdh,zdi,Nat.reduceEqDiff,reduceIte,zdj,zdk,zdl,resultsA,RetO,Nat.reduceLT,zdm,zdn,zdo,zdp,zdq,zdr,zds,zdt,zdu,zdv,zdw,zdx,zdy,zdz,zea,zeb,zec,zed,zee,zef,zeg,zeh,zei,zej,zek,zel,zem,zen,zeo, e0], by simp only [zaa,zab,zac,zad,zae,zaf,zag,zah,zai,zaj,zak,zal,zam,zan,zao,zap,zaq,zar,zas,zat,zau,zav,zaw,zax,zay,zaz,zba,zbb,zbc,zbd,zbe,zbf,zbg,zbh,zbi,zbj,zbk,zbl,zbm,zbn,zbo,zbp,zbq,zbr,zbs,zbt,zbu,zbv,zbw,zbx,zby,zbz,zca,zcb,zcc,zcd,zce,zcf,zcg,zch,zci,zcj,zck,zcl,zcm,zcn,zco,zcp,zcq,zcr,zcs,zct,zcu,zcv,zcw,zcx,zcy,zcz,zda,zdb,zdc,zdd,guardV,nth,zde,zdf,zdg,zdh,zdi,Nat.reduceEqDiff,reduceIte,zdj,zdk,zdl,resultsA,RetO,Nat.reduceLT,zdm,zdn,zdo,zdp,zdq,zdr,zds,zdt,zdu,zdv,zdw,zdx,zdy,zdz,zea,zeb,zec,zed,zee,zef,zeg,zeh,zei,zej,zek,zel,zem,zen,zeo, e6], by (simp only [zaa,zab,zac,zad,zae,zaf,zag,zah,zai,zaj,zak,zal,zam,zan,zao,zap,zaq,zar,zas,zat,zau,zav,zaw,zax,zay,zaz,zba,zbb,zbc,zbd,zbe,zbf,zbg,zbh,zbi,zbj,zbk,zbl,zbm,zbn,zbo,zbp,zbq,zbr,zbs,zbt,zbu,zbv,zbw,zbx,zby,zbz,zca,zcb,zcc,zcd,zce,zcf,zcg,zch,zci,zcj,zck,zcl,zcm,zcn,zco,zcp,zcq,zcr,zcs,zct,zcu,zcv,zcw,zcx,zcy,zcz,zda,zdb,zdc,zdd,guardV,nth,zde,zdf,zdg,zdh,zdi,Nat.reduceEqDiff,reduceIte,zdj,zdk,zdl,resultsA,RetO,Nat.reduceLT,zdm,zdn,zdo,zdp,zdq,zdr,zds,zdt,zdu,zdv,zdw,zdx,zdy,zdz,zea,zeb,zec,zed,zee,zef,zeg,zeh,zei,zej,zek,zel,zem,zen,zeo]) <;> rfl, fun q h1 h2 => ?_⟩
        by_cases e : q = d
        · subst e; exact c1
        · exact hall q h1 (by omega)
      · have d1 : decide (dcp f V i 0 d ≠ dcp f V i 0 1) = true := decide_eq_true c1
        simp (disch := omega) only [zaa,zab,zac,zad,zae,zaf,zag,zah,zai,zaj,zak,zal,zam,zan,zao,zap,zaq,zar,zas,zat,zau,zav,zaw,zax,zay,zaz,zba,zbb,zbc,zbd,zbe,zbf,zbg,zbh,zbi,zbj,zbk,zbl,zbm,zbn,zbo,zbp,zbq,zbr,zbs,zbt,zbu,zbv,zbw,zbx,zby,zbz,zca,zcb,zcc,zcd,zce,zcf,zcg,zch,zci,zcj,zck,zcl,zcm,zcn,zco,zcp,zcq,zcr,zcs,zct,zcu,zcv,zcw,zcx,zcy,zcz,zda,zdb,zdc,zdd,guardV,nth,zde,zdf,zdg,zdh,zdi,Nat.reduceEqDiff,reduceIte,zdj,zdk,zdl,resultsA,RetO,Nat.reduceLT,zdm,zdn,zdo,zdp,zdq,zdr,zds,zdt,zdu,zdv,zdw,zdx,zdy,zdz,zea,zeb,zec,zed,zee,zef,zeg,zeh,zei,zej,zek,zel,zem,zen,zeo, e0, e6, e9, hlt']
        refine WK_regionT 7 ⟨by kernel_rfl, by kernel_rfl, by kernel_rfl⟩ ?_
        simp (disch := omega) only [zaa,zab,zac,zad,zae,zaf,zag,zah,zai,zaj,zak,zal,zam,zan,zao,zap,zaq,zar,zas,zat,zau,zav,zaw,zax,zay,zaz,zba,zbb,zbc,zbd,zbe,zbf,zbg,zbh,zbi,zbj,zbk,zbl,zbm,zbn,zbo,zbp,zbq,zbr,zbs,zbt,zbu,zbv,zbw,zbx,zby,zbz,zca,zcb,zcc,zcd,zce,zcf,zcg,zch,zci,zcj,zck,zcl,zcm,zcn,zco,zcp,zcq,zcr,zcs,zct,zcu,zcv,zcw,zcx,zcy,zcz,zda,zdb,zdc,zdd,guardV,nth,zde,zdf,zdg,zdh,zdi,Nat.reduceEqDiff,reduceIte,zdj,zdk,zdl,resultsA,RetO,Nat.reduceLT,zdm,zdn,zdo,zdp,zdq,zdr,zds,zdt,zdu,zdv,zdw,zdx,zdy,zdz,zea,zeb,zec,zed,zee,zef,zeg,zeh,zei,zej,zek,zel,zem,zen,zeo, e0, e6, e9, idxA23, load3, Int.toNat_natCast, Nat.mul_one, i1, l1, lone, d1]
        exact hQ' _ _ ⟨hpr, .inr ⟨fun a => c1 (a d hd1 (by omega)), rfl⟩⟩
    · obtain rfl : d = V := by omega
      simp (disch := omega) only [zaa,zab,zac,zad,zae,zaf,zag,zah,zai,zaj,zak,zal,zam,zan,zao,zap,zaq,zar,zas,zat,zau,zav,zaw,zax,zay,zaz,zba,zbb,zbc,zbd,zbe,zbf,zbg,zbh,zbi,zbj,zbk,zbl,zbm,zbn,zbo,zbp,zbq,zbr,zbs,zbt,zbu,zbv,zbw,zbx,zby,zbz,zca,zcb,zcc,zcd,zce,zcf,zcg,zch,zci,zcj,zck,zcl,zcm,zcn,zco,zcp,zcq,zcr,zcs,zct,zcu,zcv,zcw,zcx,zcy,zcz,zda,zdb,zdc,zdd,guardV,nth,zde,zdf,zdg,zdh,zdi,Nat.reduceEqDiff,reduceIte,zdj,zdk,zdl,resultsA,RetO,Nat.reduceLT,zdm,zdn,zdo,zdp,zdq,zdr,zds,zdt,zdu,zdv,zdw,zdx,zdy,zdz,zea,zeb,zec,zed,zee,zef,zeg,zeh,zei,zej,zek,zel,zem,zen,zeo, e0, e6, e9, hlt', idxA23, load3, Nat.mul_one, i1, lone]
      exact hQ' _ _ ⟨hpr, .inl ⟨fun q h1 h2 => hall q h1 h2, rfl⟩⟩

set_option maxHeartbeats 16000000 in
theorem law_StrapEvens {G lo hi n c : Nat} {A : Option Addr} {v : Int} {f : Nat → Int} {h : H} (hG : G ≤ h.next) (hhi : hi ≤ h.next) (hv : SlV h.blks lo hi 1 n (intsL n f) (.slice A n c)) :
    Spec Try.prog (En G) 4 [.int .i64 v, .slice A n c] h fun w _ => w = .bool true := by
  refine CallsE_enter (En_known (by decide)) (En_f.trans Try.func4) rfl ⟨Nat.le_of_ble_eq_true rfl, by decide⟩ fun Q' hQ' => ?_
  simp only [Try.f4, zaa,zab,zac,zad,zae,zaf,zag,zah,zai,zaj,zak,zal,zam,zan,zao,zap,zaq,zar,zas,zat,zau,zav,zaw,zax,zay,zaz,zba,zbb,zbc,zbd,zbe,zbf,zbg,zbh,zbi,zbj,zbk,zbl,zbm,zbn,zbo,zbp,zbq,zbr,zbs,zbt,zbu,zbv,zbw,zbx,zby,zbz,zca,zcb,zcc,zcd,zce,zcf,zcg,zch,zci,zcj,zck,zcl,zcm,zcn,zco,zcp,zcq,zcr,zcs,zct,zcu,zcv,zcw,zcx,zcy,zcz,zda,zdb,zdc,zdd,guardV,nth,zde,zdf,zdg,zdh,zdi,Nat.reduceEqDiff,reduceIte,zdj,zdk,zdl,resultsA,RetO,Nat.reduceLT,zdm,zdn,zdo,zdp,zdq,zdr,zds,zdt,zdu,zdv,zdw,zdx,zdy,zdz,zea,zeb,zec,zed,zee,zef,zeg,zeh,zei,zej,zek,zel,zem,zen,zeo]
  refine CallO_f (cut_spec hv) (by omega) fun u h1 pr1 ⟨A1, c1, hu, hs1⟩ => ?_
  subst hu
  have n1 := pr1.next
  have hm : min n 41 ≤ 41 := by omega
  generalize min n 41 = m at hs1 hm ⊢
  simp only [zaa,zab,zac,zad,zae,zaf,zag,zah,zai,zaj,zak,zal,zam,zan,zao,zap,zaq,zar,zas,zat,zau,zav,zaw,zax,zay,zaz,zba,zbb,zbc,zbd,zbe,zbf,zbg,zbh,zbi,zbj,zbk,zbl,zbm,zbn,zbo,zbp,zbq,zbr,zbs,zbt,zbu,zbv,zbw,zbx,zby,zbz,zca,zcb,zcc,zcd,zce,zcf,zcg,zch,zci,zcj,zck,zcl,zcm,zcn,zco,zcp,zcq,zcr,zcs,zct,zcu,zcv,zcw,zcx,zcy,zcz,zda,zdb,zdc,zdd,guardV,nth,zde,zdf,zdg,zdh,zdi,Nat.reduceEqDiff,reduceIte,zdj,zdk,zdl,resultsA,RetO,Nat.reduceLT,zdm,zdn,zdo,zdp,zdq,zdr,zds,zdt,zdu,zdv,zdw,zdx,zdy,zdz,zea,zeb,zec,zed,zee,zef,zeg,zeh,zei,zej,zek,zel,zem,zen,zeo]
  refine CallO_f (Even_spec (by omega) (by omega) hs1 (by omega)) (by omega) fun u h2 pr2 ⟨o, e, hu, he⟩ => ?_
  subst hu
  have n2 := pr2.next
  have hs2 := hs1.mono (B' := h2.blks) fun b _ hb => pr2.get b hb
  simp only [zaa,zab,zac,zad,zae,zaf,zag,zah,zai,zaj,zak,zal,zam,zan,zao,zap,zaq,zar,zas,zat,zau,zav,zaw,zax,zay,zaz,zba,zbb,zbc,zbd,zbe,zbf,zbg,zbh,zbi,zbj,zbk,zbl,zbm,zbn,zbo,zbp,zbq,zbr,zbs,zbt,zbu,zbv,zbw,zbx,zby,zbz,zca,zcb,zcc,zcd,zce,zcf,zcg,zch,zci,zcj,zck,zcl,zcm,zcn,zco,zcp,zcq,zcr,zcs,zct,zcu,zcv,zcw,zcx,zcy,zcz,zda,zdb,zdc,zdd,guardV,nth,zde,zdf,zdg,zdh,zdi,Nat.reduceEqDiff,reduceIte,zdj,zdk,zdl,resultsA,RetO,Nat.reduceLT,zdm,zdn,zdo,zdp,zdq,zdr,zds,zdt,zdu,zdv,zdw,zdx,zdy,zdz,zea,zeb,zec,zed,zee,zef,zeg,zeh,zei,zej,zek,zel,zem,zen,zeo]
  refine CallO_same (refSet_spec hs2 (by omega)) (by omega) fun u ⟨e2, hu, he2⟩ => ?_
  subst hu
  rcases he with ⟨hne, hre, ho⟩ | ⟨hre, V, hV, hrest⟩
  · obtain rfl := roundE_one hre he2
    subst ho
    have d0 : decide (e = 0) = false := decide_eq_false hne
    have d1 : decide (e = e) = true := decide_eq_true rfl
    have d2 : decide ((0 : Int) = 0) = true := rfl
    simp only [zaa,zab,zac,zad,zae,zaf,zag,zah,zai,zaj,zak,zal,zam,zan,zao,zap,zaq,zar,zas,zat,zau,zav,zaw,zax,zay,zaz,zba,zbb,zbc,zbd,zbe,zbf,zbg,zbh,zbi,zbj,zbk,zbl,zbm,zbn,zbo,zbp,zbq,zbr,zbs,zbt,zbu,zbv,zbw,zbx,zby,zbz,zca,zcb,zcc,zcd,zce,zcf,zcg,zch,zci,zcj,zck,zcl,zcm,zcn,zco,zcp,zcq,zcr,zcs,zct,zcu,zcv,zcw,zcx,zcy,zcz,zda,zdb,zdc,zdd,guardV,nth,zde,zdf,zdg,zdh,zdi,Nat.reduceEqDiff,reduceIte,zdj,zdk,zdl,resultsA,RetO,Nat.reduceLT,zdm,zdn,zdo,zdp,zdq,zdr,zds,zdt,zdu,zdv,zdw,zdx,zdy,zdz,zea,zeb,zec,zed,zee,zef,zeg,zeh,zei,zej,zek,zel,zem,zen,zeo, d0, d1, d2]
    refine Call_lives (by omega) ?_
    simp only [zaa,zab,zac,zad,zae,zaf,zag,zah,zai,zaj,zak,zal,zam,zan,zao,zap,zaq,zar,zas,zat,zau,zav,zaw,zax,zay,zaz,zba,zbb,zbc,zbd,zbe,zbf,zbg,zbh,zbi,zbj,zbk,zbl,zbm,zbn,zbo,zbp,zbq,zbr,zbs,zbt,zbu,zbv,zbw,zbx,zby,zbz,zca,zcb,zcc,zcd,zce,zcf,zcg,zch,zci,zcj,zck,zcl,zcm,zcn,zco,zcp,zcq,zcr,zcs,zct,zcu,zcv,zcw,zcx,zcy,zcz,zda,zdb,zdc,zdd,guardV,nth,zde,zdf,zdg,zdh,zdi,Nat.reduceEqDiff,reduceIte,zdj,zdk,zdl,resultsA,RetO,Nat.reduceLT,zdm,zdn,zdo,zdp,zdq,zdr,zds,zdt,zdu,zdv,zdw,zdx,zdy,zdz,zea,zeb,zec,zed,zee,zef,zeg,zeh,zei,zej,zek,zel,zem,zen,zeo]
    exact hQ' _ _ ⟨pr1.trans (pr2.le n1), rfl⟩
  · obtain rfl := roundE_one hre he2
    subst hV
    obtain ⟨hn31, ⟨hv2, hv31⟩, hrise⟩ := roundE_zero hre
    have d2 : decide ((0 : Int) = 0) = true := rfl
    simp only [zaa,zab,zac,zad,zae,zaf,zag,zah,zai,zaj,zak,zal,zam,zan,zao,zap,zaq,zar,zas,zat,zau,zav,zaw,zax,zay,zaz,zba,zbb,zbc,zbd,zbe,zbf,zbg,zbh,zbi,zbj,zbk,zbl,zbm,zbn,zbo,zbp,zbq,zbr,zbs,zbt,zbu,zbv,zbw,zbx,zby,zbz,zca,zcb,zcc,zcd,zce,zcf,zcg,zch,zci,zcj,zck,zcl,zcm,zcn,zco,zcp,zcq,zcr,zcs,zct,zcu,zcv,zcw,zcx,zcy,zcz,zda,zdb,zdc,zdd,guardV,nth,zde,zdf,zdg,zdh,zdi,Nat.reduceEqDiff,reduceIte,zdj,zdk,zdl,resultsA,RetO,Nat.reduceLT,zdm,zdn,zdo,zdp,zdq,zdr,zds,zdt,zdu,zdv,zdw,zdx,zdy,zdz,zea,zeb,zec,zed,zee,zef,zeg,zeh,zei,zej,zek,zel,zem,zen,zeo, d2]
    refine CallO_f (refEven_spec (by omega) (by omega) hs2 hn31 (by omega) (by omega) hrise) (by omega) fun u h3 pr3 hu => ?_
    have n3 := pr3.next
    have prall : Pres h.next h h3 := (pr1.trans (pr2.le n1)).trans (pr3.le (by omega))
    rcases hrest with ⟨hev, rfl, rfl⟩ | ⟨hev, rfl, rfl⟩
    · rcases hu with ⟨_, hu⟩ | ⟨hx, _⟩
      · subst hu
        have d3 : decide (dcp f V m 0 1 = dcp f V m 0 1) = true := decide_eq_true rfl
        simp only [zaa,zab,zac,zad,zae,zaf,zag,zah,zai,zaj,zak,zal,zam,zan,zao,zap,zaq,zar,zas,zat,zau,zav,zaw,zax,zay,zaz,zba,zbb,zbc,zbd,zbe,zbf,zbg,zbh,zbi,zbj,zbk,zbl,zbm,zbn,zbo,zbp,zbq,zbr,zbs,zbt,zbu,zbv,zbw,zbx,zby,zbz,zca,zcb,zcc,zcd,zce,zcf,zcg,zch,zci,zcj,zck,zcl,zcm,zcn,zco,zcp,zcq,zcr,zcs,zct,zcu,zcv,zcw,zcx,zcy,zcz,zda,zdb,zdc,zdd,guardV,nth,zde,zdf,zdg,zdh,zdi,Nat.reduceEqDiff,reduceIte,zdj,zdk,zdl,resultsA,RetO,Nat.reduceLT,zdm,zdn,zdo,zdp,zdq,zdr,zds,zdt,zdu,zdv,zdw,zdx,zdy,zdz,zea,zeb,zec,zed,zee,zef,zeg,zeh,zei,zej,zek,zel,zem,zen,zeo, d2, d3]
        refine Call_lives (by omega) ?_
        simp only [zaa,zab,zac,zad,zae,zaf,zag,zah,zai,zaj,zak,zal,zam,zan,zao,zap,zaq,zar,zas,zat,zau,zav,zaw,zax,zay,zaz,zba,zbb,zbc,zbd,zbe,zbf,zbg,zbh,zbi,zbj,zbk,zbl,zbm,zbn,zbo,zbp,zbq,zbr,zbs,zbt,zbu,zbv,zbw,zbx,zby,zbz,zca,zcb,zcc,zcd,zce,zcf,zcg,zch,zci,zcj,zck,zcl,zcm,zcn,zco,zcp,zcq,zcr,zcs,zct,zcu,zcv,zcw,zcx,zcy,zcz,zda,zdb,zdc,zdd,guardV,nth,zde,zdf,zdg,zdh,zdi,Nat.reduceEqDiff,reduceIte,zdj,zdk,zdl,resultsA,RetO,Nat.reduceLT,zdm,zdn,zdo,zdp,zdq,zdr,zds,zdt,zdu,zdv,zdw,zdx,zdy,zdz,zea,zeb,zec,zed,zee,zef,zeg,zeh,zei,zej,zek,zel,zem,zen,zeo]
        exact hQ' _ _ ⟨prall, rfl⟩
      · exact absurd hev hx
    · rcases hu with ⟨hx, _⟩ | ⟨_, hu⟩
      · exact absurd hx hev
      · subst hu
        have d3 : decide ((5 : Int) = 5) = true := rfl
        simp only [zaa,zab,zac,zad,zae,zaf,zag,zah,zai,zaj,zak,zal,zam,zan,zao,zap,zaq,zar,zas,zat,zau,zav,zaw,zax,zay,zaz,zba,zbb,zbc,zbd,zbe,zbf,zbg,zbh,zbi,zbj,zbk,zbl,zbm,zbn,zbo,zbp,zbq,zbr,zbs,zbt,zbu,zbv,zbw,zbx,zby,zbz,zca,zcb,zcc,zcd,zce,zcf,zcg,zch,zci,zcj,zck,zcl,zcm,zcn,zco,zcp,zcq,zcr,zcs,zct,zcu,zcv,zcw,zcx,zcy,zcz,zda,zdb,zdc,zdd,guardV,nth,zde,zdf,zdg,zdh,zdi,Nat.reduceEqDiff,reduceIte,zdj,zdk,zdl,resultsA,RetO,Nat.reduceLT,zdm,zdn,zdo,zdp,zdq,zdr,zds,zdt,zdu,zdv,zdw,zdx,zdy,zdz,zea,zeb,zec,zed,zee,zef,zeg,zeh,zei,zej,zek,zel,zem,zen,zeo, d2, d3]
        refine Call_lives (by omega) ?_
        simp only [zaa,zab,zac,zad,zae,zaf,zag,zah,zai,zaj,zak,zal,zam,zan,zao,zap,zaq,zar,zas,zat,zau,zav,zaw,zax,zay,zaz,zba,zbb,zbc,zbd,zbe,zbf,zbg,zbh,zbi,zbj,zbk,zbl,zbm,zbn,zbo,zbp,zbq,zbr,zbs,zbt,zbu,zbv,zbw,zbx,zby,zbz,zca,zcb,zcc,zcd,zce,zcf,zcg,zch,zci,zcj,zck,zcl,zcm,zcn,zco,zcp,zcq,zcr,zcs,zct,zcu,zcv,zcw,zcx,zcy,zcz,zda,zdb,zdc,zdd,guardV,nth,zde,zdf,zdg,zdh,zdi,Nat.reduceEqDiff,reduceIte,zdj,zdk,zdl,resultsA,RetO,Nat.reduceLT,zdm,zdn,zdo,zdp,zdq,zdr,zds,zdt,zdu,zdv,zdw,zdx,zdy,zdz,zea,zeb,zec,zed,zee,zef,zeg,zeh,zei,zej,zek,zel,zem,zen,zeo]
        exact hQ' _ _ ⟨prall, rfl⟩
end
end Go.Proofs.Ytlhpjnopkfndfaa.Ev
