/- Below: a copy of the rows, and the phases for max in place. -/
import Derived.Test.YtdgdemiifloliaaGreatDoorPmNW
set_option linter.unusedSimpArgs false
namespace Go.Proofs.YtdgdemiifloliaaGreatDoor.Ev
open Go Go.Proofs
noncomputable section

theorem rowsL_congr {n : Nat} {g g' : Nat → Nat} {RA RA' : Nat → Option Addr} {rc rc' : Nat → Nat} (h : ∀ k, k < n → RA k = RA' k ∧ g k = g' k ∧ rc k = rc' k) : rowsL n g RA rc = rowsL n g' RA' rc' :=
  List.map_congr_left fun k hk => by
    obtain ⟨a, b, c⟩ := h k (List.mem_range.1 hk)
    rw [a, b, c]
theorem rowsL_set {n i m c : Nat} {g : Nat → Nat} {RA : Nat → Option Addr} {rc : Nat → Nat} {A : Option Addr} (h : i < n) :
    (rowsL n g RA rc).take i ++ [.slice A m c] ++ (rowsL n g RA rc).drop (i + 1) = rowsL n (fun k => if k = i then m else g k) (fun k => if k = i then A else RA k) (fun k => if k = i then c else rc k) := by
  have e : (rowsL n g RA rc).take i ++ [.slice A m c] ++ (rowsL n g RA rc).drop (i + 1) = (rowsL n g RA rc).set i (.slice A m c) := by
    rw [List.set_eq_take_append_cons_drop, if_pos (by rw [rowsL_len]; exact h)]
    simp
  rw [e]
  apply List.ext_getElem?
  intro j
  rw [List.getElem?_set]
  by_cases hj : j < n
  · rw [rowsL_get hj, rowsL_len]
    by_cases e2 : i = j
    · subst e2
      simp [h, rowsL_get h]
    · simp [e2, rowsL_get hj, Ne.symm e2]
  · by_cases e2 : i = j
    · omega
    · simp only [e2, if_false]
      rw [List.getElem?_eq_none (by rw [rowsL_len]; omega), List.getElem?_eq_none (by rw [rowsL_len]; omega)]
theorem zeros_rows : ∀ n, zeros [.slice none 0 0] n = rowsL n (fun _ => 0) (fun _ => none) (fun _ => 0) := fun n => by
  apply List.ext_getElem?
  intro i
  by_cases h : i < n
  · rw [rowsL_get h, zeros_get _ (by decide) n i (by simpa using h)]
    simp [Nat.mod_one]
  · rw [List.getElem?_eq_none (by rw [zeros_length]; simp; omega), List.getElem?_eq_none (by rw [rowsL_len]; omega)]

theorem clone_spec {G lo hi n c : Nat} {f : Nat → Int} {A : Option Addr} {h : H} (hv : SlV h.blks lo hi 1 n (intsL n f) (.slice A n c)) (h0 : 0 < n) (hn : n < 2147483648) :
    Spec Tryz.prog (En G) 105 [.slice A n c] h fun v h' => ∃ A' c', v = .slice A' n c' ∧ SlV h'.blks h.next h'.next 1 n (intsL n f) v := by
  refine CallsE_enter (En_known (by decide)) (En_f.trans Tryz.func105) rfl ⟨Nat.le_of_ble_eq_true rfl, by decide⟩ fun Q' hQ' => ?_
  obtain ⟨b, off, rfl, _⟩ := hv.ints_at h0
  simp only [Tryz.f105, zaa,zab,zac,zad,zae,zaf,zag,zah,zai,zaj,zak,zal,zam,zan,zao,zap,zaq,zar,zas,zat,zau,zav,zaw,zax,zay,zaz,zba,zbb,zbc,zbd,zbe,zbf,zbg,zbh,zbi,zbj,zbk,zbl,zbm,zbn,zbo,zbp,zbq,zbr,zbs,zbt,zbu,zbv,zbw,zbx,zby,zbz,zca,zcb,zcc,zcd,zce,zcf,zcg,zch,zci,zcj,zck,zcl,zcm,zcn,zco,zcp,zcq,zcr,zcs,zct,zcu,zcv,zcw,zcx,zcy,zcz,zda,zdb,zdc,zdd,guardV,nth,zde,zdf,zdg,zdh,zdi,Nat.reduceEqDiff,reduceIte,zdj,zdk,zdl,resultsA,RetO,Nat.reduceLT,zdm,zdn,zdo,zdp,zdq,zdr,zds,zdt,zdu,zdv,zdw,zdx,zdy,zdz,zea,zeb,zec,zed,zee,zef,zeg,zeh,zei,zej,zek,zel,zem,zen,zeo, nil_some u24]
  refine At_lit0 u24 i3 zero3 (by rw [size3]; rfl) (by omega) ?_
  simp only [zaa,zab,zac,zad,zae,zaf,zag,zah,zai,zaj,zak,zal,zam,zan,zao,zap,zaq,zar,zas,zat,zau,zav,zaw,zax,zay,zaz,zba,zbb,zbc,zbd,zbe,zbf,zbg,zbh,zbi,zbj,zbk,zbl,zbm,zbn,zbo,zbp,zbq,zbr,zbs,zbt,zbu,zbv,zbw,zbx,zby,zbz,zca,zcb,zcc,zcd,zce,zcf,zcg,zch,zci,zcj,zck,zcl,zcm,zcn,zco,zcp,zcq,zcr,zcs,zct,zcu,zcv,zcw,zcx,zcy,zcz,zda,zdb,zdc,zdd,guardV,nth,zde,zdf,zdg,zdh,zdi,Nat.reduceEqDiff,reduceIte,zdj,zdk,zdl,resultsA,RetO,Nat.reduceLT,zdm,zdn,zdo,zdp,zdq,zdr,zds,zdt,zdu,zdv,zdw,zdx,zdy,zdz,zea,zeb,zec,zed,zee,zef,zeg,zeh,zei,zej,zek,zel,zem,zen,zeo]
  refine At_appendE (M := intsL n f) (m := n) u24 u24 i3 zero3 (by rw [size3, bytes3]; rfl) (by (simp only [zaa,zab,zac,zad,zae,zaf,zag,zah,zai,zaj,zak,zal,zam,zan,zao,zap,zaq,zar,zas,zat,zau,zav,zaw,zax,zay,zaz,zba,zbb,zbc,zbd,zbe,zbf,zbg,zbh,zbi,zbj,zbk,zbl,zbm,zbn,zbo,zbp,zbq,zbr,zbs,zbt,zbu,zbv,zbw,zbx,zby,zbz,zca,zcb,zcc,zcd,zce,zcf,zcg,zch,zci,zcj,zck,zcl,zcm,zcn,zco,zcp,zcq,zcr,zcs,zct,zcu,zcv,zcw,zcx,zcy,zcz,zda,zdb,zdc,zdd,guardV,nth,zde,zdf,zdg,zdh,zdi,Nat.reduceEqDiff,reduceIte,zdj,zdk,zdl,resultsA,RetO,Nat.reduceLT,zdm,zdn,zdo,zdp,zdq,zdr,zds,zdt,zdu,zdv,zdw,zdx,zdy,zdz,zea,zeb,zec,zed,zee,zef,zeg,zeh,zei,zej,zek,zel,zem,zen,zeo]) <;> rfl) (by (simp only [zaa,zab,zac,zad,zae,zaf,zag,zah,zai,zaj,zak,zal,zam,zan,zao,zap,zaq,zar,zas,zat,zau,zav,zaw,zax,zay,zaz,zba,zbb,zbc,zbd,zbe,zbf,zbg,zbh,zbi,zbj,zbk,zbl,zbm,zbn,zbo,zbp,zbq,zbr,zbs,zbt,zbu,zbv,zbw,zbx,zby,zbz,zca,zcb,zcc,zcd,zce,zcf,zcg,zch,zci,zcj,zck,zcl,zcm,zcn,zco,zcp,zcq,zcr,zcs,zct,zcu,zcv,zcw,zcx,zcy,zcz,zda,zdb,zdc,zdd,guardV,nth,zde,zdf,zdg,zdh,zdi,Nat.reduceEqDiff,reduceIte,zdj,zdk,zdl,resultsA,RetO,Nat.reduceLT,zdm,zdn,zdo,zdp,zdq,zdr,zds,zdt,zdu,zdv,zdw,zdx,zdy,zdz,zea,zeb,zec,zed,zee,zef,zeg,zeh,zei,zej,zek,zel,zem,zen,zeo]) <;> rfl) (by rw [size3]; exact hv) (by omega) intsL_one (by omega) fun A3 c3 h3 hp3 hrow => ?_
  rw [size3] at hrow
  simp only [zaa,zab,zac,zad,zae,zaf,zag,zah,zai,zaj,zak,zal,zam,zan,zao,zap,zaq,zar,zas,zat,zau,zav,zaw,zax,zay,zaz,zba,zbb,zbc,zbd,zbe,zbf,zbg,zbh,zbi,zbj,zbk,zbl,zbm,zbn,zbo,zbp,zbq,zbr,zbs,zbt,zbu,zbv,zbw,zbx,zby,zbz,zca,zcb,zcc,zcd,zce,zcf,zcg,zch,zci,zcj,zck,zcl,zcm,zcn,zco,zcp,zcq,zcr,zcs,zct,zcu,zcv,zcw,zcx,zcy,zcz,zda,zdb,zdc,zdd,guardV,nth,zde,zdf,zdg,zdh,zdi,Nat.reduceEqDiff,reduceIte,zdj,zdk,zdl,resultsA,RetO,Nat.reduceLT,zdm,zdn,zdo,zdp,zdq,zdr,zds,zdt,zdu,zdv,zdw,zdx,zdy,zdz,zea,zeb,zec,zed,zee,zef,zeg,zeh,zei,zej,zek,zel,zem,zen,zeo]
  exact hQ' _ _ ⟨hp3, A3, c3, rfl, hrow⟩

/-- the first i rows of a matrix under way -/
structure Fill (B : Tr Blk) (T hi n i m : Nat) (f : Nat → Nat → Int) (R O rc : Nat → Nat) : Prop where
  top : SlV B T (T + 1) 1 n (rowsL n (fun k => if k < i then m else 0) (fun k => if k < i then cR R O k else none) (fun k => if k < i then rc k else 0)) (.slice (some ⟨T, 0, none⟩) n n)
  row : ∀ k, k < i → T + 1 ≤ R k ∧ R k < hi ∧ ∃ cells size, B.get (R k) = some (.mk cells size 1) ∧ O k + m ≤ size ∧ ∀ j, j < m → cells.get (O k + j) = some (.int .i64 (f k j))
  inj : ∀ a b, a < i → b < i → R a = R b → a = b
theorem Fill.done {B : Tr Blk} {T hi n m : Nat} {f : Nat → Nat → Int} {R O rc : Nat → Nat} (w : Fill B T hi n n m f R O rc) (hT : T < hi) : MatW B T hi n m f R O rc (.slice (some ⟨T, 0, none⟩) n n) := by
  refine ⟨?_, fun i hi' => ?_, w.inj, fun i b hi' hb => ?_⟩
  · have e : rowsL n (fun k => if k < n then m else 0) (fun k => if k < n then cR R O k else none) (fun k => if k < n then rc k else 0) = rowsL n (fun _ => m) (cR R O) rc :=
      rowsL_congr fun k hk => by simp only [if_pos hk, and_self]
    rw [← e]
    exact w.top.wide (Nat.le_refl _) hT
  · obtain ⟨h1, h2, h3⟩ := w.row i hi'
    exact ⟨by omega, h2, h3⟩
  · obtain ⟨h1, h2, h3⟩ := w.row i hi'
    simp only [blkOf, Option.some.injEq] at hb
    omega
/-- the next row -/
theorem Fill.next {h h2 h3 : H} {T n i m c b off : Nat} {f : Nat → Nat → Int} {R O rc : Nat → Nat} (w : Fill h.blks T h.next n i m f R O rc) (hT : T < h.next) (hi : i < n) (pr : Pres h.next h h2)
    (hv : SlV h2.blks h.next h2.next 1 m (intsL m (f i)) (.slice (some ⟨b, off, none⟩) m c)) (s : Sto h2 h3 T (0 + i) [.slice (some ⟨b, off, none⟩) m c]) :
    Fill h3.blks T h3.next n (i + 1) m f (fun k => if k = i then b else R k) (fun k => if k = i then off else O k) (fun k => if k = i then c else rc k) := by
  have n2 := pr.next
  have n3 := s.next
  have hb := hv.blk b rfl
  refine ⟨?_, fun k hk => ?_, fun x y hx hy e => ?_⟩
  · have t2 := s.slv (w.top.mono fun x h1 h2 => pr.get x (by omega)) (by simp; omega)
    rw [show ([Value.slice (some ⟨b, off, none⟩) m c] : List Value).length = 1 from rfl, rowsL_set hi] at t2
    have e := rowsL_congr (n := n) (g := fun k => if k = i then m else if k < i then m else 0) (g' := fun k => if k < i + 1 then m else 0)
      (RA := fun k => if k = i then some ⟨b, off, none⟩ else if k < i then cR R O k else none) (RA' := fun k => if k < i + 1 then cR (fun k => if k = i then b else R k) (fun k => if k = i then off else O k) k else none)
      (rc := fun k => if k = i then c else if k < i then rc k else 0) (rc' := fun k => if k < i + 1 then (if k = i then c else rc k) else 0) (fun k _ => by
        by_cases e : k = i
        · subst e
          simp [cR]
        · by_cases e2 : k < i
          · simp [e, e2, cR, show k < i + 1 by omega]
          · simp [e, e2, show ¬ k < i + 1 by omega])
    rw [e] at t2
    exact t2
  · by_cases e : k = i
    · subst e
      simp only [if_true]
      cases hv with
      | mk hb1 hlo hhi hsz hL hc =>
        exact ⟨by omega, by omega, _, _, (s.get _ (by omega)).trans hb1, by omega, fun j hj => by rw [hc j (by omega), intsL_get hj]⟩
    · obtain ⟨h1, h2', cells, size, h4, h5, h6⟩ := w.row k (by omega)
      simp only [e, if_false]
      exact ⟨h1, by omega, cells, size, ((s.get _ (by omega)).trans (pr.get _ h2')).trans h4, h5, h6⟩
  · by_cases e1 : x = i
    · by_cases e2 : y = i
      · omega
      · have := (w.row y (by omega)).2.1
        simp only [e1, e2, if_true, if_false] at e
        omega
    · by_cases e2 : y = i
      · have := (w.row x (by omega)).2.1
        simp only [e1, e2, if_true, if_false] at e
        omega
      · simp only [e1, e2, if_false] at e
        exact w.inj x y (by omega) (by omega) e
end
end Go.Proofs.YtdgdemiifloliaaGreatDoor.Ev
