/- Slices and matrices of numbers at this seat. -/
import Derived.Test.YtdgdemiifloliaaGreatDoorPmNS1
set_option linter.unusedSimpArgs false
namespace Go.Proofs.YtdgdemiifloliaaGreatDoor.Ev
open Go Go.Proofs
noncomputable section

theorem sliceO_take {E : Env} {B : Tr Blk} {lo hi sz n c m : Nat} {kd : IntKind} {t elem : TypeId} {inf : TypeInfo} {A : Option Addr} {L : List Value} (hu : E.u t = some (.slice elem)) (hi' : E.i elem = some inf) (hsz : inf.size = sz) (s : SlV B lo hi sz n L (.slice A n c)) (hm : m ≤ n) :
    ∃ A' c', sliceO E t B (some (.slice A n c)) (some []) (some [.int kd m]) = some (.slice A' m c') ∧ SlV B lo hi sz m (L.take (m * sz)) (.slice A' m c') := by
  cases s with
  | nil hn hL =>
    subst hL
    obtain rfl : m = 0 := by omega
    refine ⟨none, 0, ?_, .nil rfl (by simp)⟩
    show evSlice E ⟨B, 0, 0⟩ t (.slice none 0 0) none (some (.int kd (Int.ofNat 0))) = _
    simp [evSlice, hu, hi', bound]
  | emp hn hL =>
    subst hL
    obtain rfl : m = 0 := by omega
    refine ⟨some ⟨0, 0, some 0⟩, 0, ?_, .emp rfl (by simp)⟩
    show evSlice E ⟨B, 0, 0⟩ t (.slice (some ⟨0, 0, some 0⟩) 0 0) none (some (.int kd (Int.ofNat 0))) = _
    simp [evSlice, hu, hi', bound]
  | mk hb hlo hhi hs hL hc =>
    rename_i b off size cells
    have hmul : m * sz ≤ n * sz := Nat.mul_le_mul_right _ hm
    refine ⟨some ⟨b, off, none⟩, c, ?_, .mk hb hlo hhi (by omega) (by simp; omega) fun i hi => ?_⟩
    · show evSlice E ⟨B, 0, 0⟩ t (.slice (some ⟨b, off, none⟩) n c) none (some (.int kd (Int.ofNat m))) = _
      simp [evSlice, hu, hi', bound, hm, hb, hsz, forceN_eq]
    · rw [hc i (by omega), List.getElem?_take, if_pos hi]

def intsL (n : Nat) (f : Nat → Int) : List Value := (List.range n).map fun j => .int .i64 (f j)
theorem intsL_len {n : Nat} {f : Nat → Int} : (intsL n f).length = n := by simp [intsL]
theorem intsL_get {n j : Nat} {f : Nat → Int} (h : j < n) : (intsL n f)[j]? = some (.int .i64 (f j)) := by simp [intsL, h]
theorem intsL_take {n m : Nat} {f : Nat → Int} (h : m ≤ n) : (intsL n f).take m = intsL m f := by
  unfold intsL
  rw [← List.map_take]
  congr 1
  rw [List.take_range, Nat.min_eq_left h]
theorem intsL_one {n : Nat} {f : Nat → Int} : (intsL n f).all oneB = true := by
  rw [List.all_eq_true]
  intro x hx
  obtain ⟨j, _, rfl⟩ := List.mem_map.1 hx
  rfl
def rowsL (n : Nat) (g : Nat → Nat) (RA : Nat → Option Addr) (rc : Nat → Nat) : List Value := (List.range n).map fun i => .slice (RA i) (g i) (rc i)
theorem rowsL_len {n : Nat} {g : Nat → Nat} {RA : Nat → Option Addr} {rc : Nat → Nat} : (rowsL n g RA rc).length = n := by simp [rowsL]
theorem rowsL_get {n i : Nat} {g : Nat → Nat} {RA : Nat → Option Addr} {rc : Nat → Nat} (h : i < n) : (rowsL n g RA rc)[i]? = some (.slice (RA i) (g i) (rc i)) := by simp [rowsL, h]
theorem rowsL_one {n : Nat} {g : Nat → Nat} {RA : Nat → Option Addr} {rc : Nat → Nat} : (rowsL n g RA rc).all oneB = true := by
  rw [List.all_eq_true]
  intro x hx
  obtain ⟨j, _, rfl⟩ := List.mem_map.1 hx
  rfl

/-- a matrix in memory: its rows lie anywhere -/
structure MatV (B : Tr Blk) (lo hi n : Nat) (g : Nat → Nat) (f : Nat → Nat → Int) (RA : Nat → Option Addr) (rc : Nat → Nat) (v : Value) : Prop where
  top : SlV B lo hi 1 n (rowsL n g RA rc) v
  row : ∀ i, i < n → SlV B lo hi 1 (g i) (intsL (g i) (f i)) (.slice (RA i) (g i) (rc i))
theorem MatV.mono {B B' : Tr Blk} {lo hi n : Nat} {g : Nat → Nat} {f : Nat → Nat → Int} {RA : Nat → Option Addr} {rc : Nat → Nat} {v : Value} (m : MatV B lo hi n g f RA rc v) (hB : ∀ b, lo ≤ b → b < hi → B'.get b = B.get b) : MatV B' lo hi n g f RA rc v :=
  ⟨m.top.mono hB, fun i h => (m.row i h).mono hB⟩
theorem SlV.ints_at {B : Tr Blk} {lo hi n c : Nat} {f : Nat → Int} {A : Option Addr} (s : SlV B lo hi 1 n (intsL n f) (.slice A n c)) (h : 0 < n) : ∃ b off, A = some ⟨b, off, none⟩ ∧ ∀ j, j < n → loadv B b (off + j) = some (.int .i64 (f j)) := by
  obtain ⟨b, off, e, _, _, hld⟩ := s.at_ h
  exact ⟨b, off, e, fun j hj => by rw [hld j (by omega), intsL_get hj]⟩
theorem MatV.at_ {B : Tr Blk} {lo hi n c : Nat} {g : Nat → Nat} {f : Nat → Nat → Int} {RA : Nat → Option Addr} {rc : Nat → Nat} {A : Option Addr} (m : MatV B lo hi n g f RA rc (.slice A n c)) (h : 0 < n) : ∃ b off, A = some ⟨b, off, none⟩ ∧ ∀ i, i < n → loadv B b (off + i) = some (.slice (RA i) (g i) (rc i)) := by
  obtain ⟨b, off, e, _, _, hld⟩ := m.top.at_ h
  exact ⟨b, off, e, fun j hj => by rw [hld j (by omega), rowsL_get hj]⟩

theorem in_spec {G : Nat} {v a b : Int} {h : H} : Spec Tryz.prog (En G) 57 [.int .i64 v, .int .i64 a, .int .i64 b] h fun r h' => r = .bool (decide (a ≤ v) && decide (v ≤ b)) ∧ h' = h := by
  refine CallsE_enter (En_known (by decide)) (En_f.trans Tryz.func57) rfl ⟨Nat.le_of_ble_eq_true rfl, by decide⟩ fun Q' hQ' => ?_
  simp only [Tryz.f57, zaa,zab,zac,zad,zae,zaf,zag,zah,zai,zaj,zak,zal,zam,zan,zao,zap,zaq,zar,zas,zat,zau,zav,zaw,zax,zay,zaz,zba,zbb,zbc,zbd,zbe,zbf,zbg,zbh,zbi,zbj,zbk,zbl,zbm,zbn,zbo,zbp,zbq,zbr,zbs,zbt,zbu,zbv,zbw,zbx,zby,zbz,zca,zcb,zcc,zcd,zce,zcf,zcg,zch,zci,zcj,zck,zcl,zcm,zcn,zco,zcp,zcq,zcr,zcs,zct,zcu,zcv,zcw,zcx,zcy,zcz,zda,zdb,zdc,zdd,guardV,nth,zde,zdf,zdg,zdh,zdi,Nat.reduceEqDiff,reduceIte,zdj,zdk,zdl,resultsA,RetO,Nat.reduceLT,zdm,zdn,zdo,zdp,zdq,zdr,zds,zdt,zdu,zdv,zdw,zdx,zdy,zdz,zea,zeb,zec,zed,zee,zef,zeg,zeh,zei,zej,zek,zel,zem,zen,zeo]
  by_cases h1 : a ≤ v
  · simp only [zaa,zab,zac,zad,zae,zaf,zag,zah,zai,zaj,zak,zal,zam,zan,zao,zap,zaq,zar,zas,zat,zau,zav,zaw,zax,zay,zaz,zba,zbb,zbc,zbd,zbe,zbf,zbg,zbh,zbi,zbj,zbk,zbl,zbm,zbn,zbo,zbp,zbq,zbr,zbs,zbt,zbu,zbv,zbw,zbx,zby,zbz,zca,zcb,zcc,zcd,zce,zcf,zcg,zch,zci,zcj,zck,zcl,zcm,zcn,zco,zcp,zcq,zcr,zcs,zct,zcu,zcv,zcw,zcx,zcy,zcz,zda,zdb,zdc,zdd,guardV,nth,zde,zdf,zdg,zdh,zdi,Nat.reduceEqDiff,reduceIte,zdj,zdk,zdl,resultsA,RetO,Nat.reduceLT,zdm,zdn,zdo,zdp,zdq,zdr,zds,zdt,zdu,zdv,zdw,zdx,zdy,zdz,zea,zeb,zec,zed,zee,zef,zeg,zeh,zei,zej,zek,zel,zem,zen,zeo, h1]
    exact hQ' _ _ ⟨Pres.refl _ _, by simp [h1], rfl⟩
  · simp only [zaa,zab,zac,zad,zae,zaf,zag,zah,zai,zaj,zak,zal,zam,zan,zao,zap,zaq,zar,zas,zat,zau,zav,zaw,zax,zay,zaz,zba,zbb,zbc,zbd,zbe,zbf,zbg,zbh,zbi,zbj,zbk,zbl,zbm,zbn,zbo,zbp,zbq,zbr,zbs,zbt,zbu,zbv,zbw,zbx,zby,zbz,zca,zcb,zcc,zcd,zce,zcf,zcg,zch,zci,zcj,zck,zcl,zcm,zcn,zco,zcp,zcq,zcr,zcs,zct,zcu,zcv,zcw,zcx,zcy,zcz,zda,zdb,zdc,zdd,guardV,nth,zde,zdf,zdg,zdh,zdi,Nat.reduceEqDiff,reduceIte,zdj,zdk,zdl,resultsA,RetO,Nat.reduceLT,zdm,zdn,zdo,zdp,zdq,zdr,zds,zdt,zdu,zdv,zdw,zdx,zdy,zdz,zea,zeb,zec,zed,zee,zef,zeg,zeh,zei,zej,zek,zel,zem,zen,zeo, h1]
    exact hQ' _ _ ⟨Pres.refl _ _, by simp [h1], rfl⟩

theorem SlV.ints_at' {B : Tr Blk} {lo hi n c b off j : Nat} {f : Nat → Int} (s : SlV B lo hi 1 n (intsL n f) (.slice (some ⟨b, off, none⟩) n c)) (hj : j < n) : loadv B b (off + j) = some (.int .i64 (f j)) := by
  obtain ⟨b', off', e, hld⟩ := s.ints_at (by omega)
  injection e with e
  injection e with e1 e2
  subst e1; subst e2
  exact hld j hj
theorem MatV.at' {B : Tr Blk} {lo hi n c b off i : Nat} {g : Nat → Nat} {f : Nat → Nat → Int} {RA : Nat → Option Addr} {rc : Nat → Nat} (m : MatV B lo hi n g f RA rc (.slice (some ⟨b, off, none⟩) n c)) (hi : i < n) : loadv B b (off + i) = some (.slice (RA i) (g i) (rc i)) := by
  obtain ⟨b', off', e, hld⟩ := m.at_ (by omega)
  injection e with e
  injection e with e1 e2
  subst e1; subst e2
  exact hld i hi
theorem intsL_set {n R : Nat} {f : Nat → Int} {z : Int} (h : R < n) : (intsL n f).take R ++ [.int .i64 z] ++ (intsL n f).drop (R + 1) = intsL n fun r => if r = R then z else f r := by
  have e : (intsL n f).take R ++ [.int .i64 z] ++ (intsL n f).drop (R + 1) = (intsL n f).set R (.int .i64 z) := by
    rw [List.set_eq_take_append_cons_drop, if_pos (by rw [intsL_len]; exact h)]
    simp
  rw [e]
  apply List.ext_getElem?
  intro j
  rw [List.getElem?_set]
  by_cases hj : j < n
  · rw [intsL_get hj, intsL_len]
    by_cases e2 : R = j
    · subst e2
      simp [h, intsL_get h]
    · simp [e2, intsL_get hj, Ne.symm e2]
  · by_cases e2 : R = j
    · omega
    · simp only [e2, if_false]
      rw [List.getElem?_eq_none (by rw [intsL_len]; omega), List.getElem?_eq_none (by rw [intsL_len]; omega)]
theorem intsL_congr {n : Nat} {f f' : Nat → Int} (h : ∀ k, k < n → f k = f' k) : intsL n f = intsL n f' :=
  List.map_congr_left fun k hk => by rw [h k (List.mem_range.1 hk)]
theorem zeros_ints : ∀ n, zeros [.int .i64 0] n = intsL n fun _ => 0 := fun n => by
  apply List.ext_getElem?
  intro i
  by_cases h : i < n
  · rw [intsL_get h, zeros_get _ (by decide) n i (by simpa using h)]
    simp [Nat.mod_one]
  · rw [List.getElem?_eq_none (by rw [zeros_length]; simp; omega), List.getElem?_eq_none (by rw [intsL_len]; omega)]


theorem SlV.blk {B : Tr Blk} {lo hi sz n : Nat} {L : List Value} {v : Value} (s : SlV B lo hi sz n L v) (b : Nat) (hb : blkOf v = some b) : lo ≤ b ∧ b < hi := by
  cases s with
  | nil _ _ => cases hb
  | emp _ _ => cases hb
  | mk _ hlo hhi _ _ _ => simp only [blkOf, Option.some.injEq] at hb; omega
/-- numbers as values -/
def ints (l : List Int) : List Value := l.map (Value.int .i64)
theorem ints_len {l : List Int} : (ints l).length = l.length := by simp [ints]
theorem ints_app {l m : List Int} : ints (l ++ m) = ints l ++ ints m := by simp [ints]
theorem ints_ints {n : Nat} {f : Nat → Int} : intsL n f = ints ((List.range n).map f) := by simp [intsL, ints, List.map_map, Function.comp_def]
theorem ints_intsL {l : List Int} : ints l = intsL l.length fun i => l.getD i 0 := by
  apply List.ext_getElem?
  intro i
  by_cases h : i < l.length
  · rw [intsL_get h]
    simp [ints, h]
  · rw [List.getElem?_eq_none (by rw [ints_len]; omega), List.getElem?_eq_none (by rw [intsL_len]; omega)]
theorem rowsL_snoc {i : Nat} {g : Nat → Nat} {RA : Nat → Option Addr} {rc : Nat → Nat} {A : Option Addr} {c : Nat} : rowsL i g RA rc ++ [.slice A (g i) c] = rowsL (i + 1) g (fun k => if k = i then A else RA k) (fun k => if k = i then c else rc k) := by
  unfold rowsL
  rw [List.range_succ, List.map_append]
  congr 1
  · refine List.map_congr_left fun k hk => ?_
    have := List.mem_range.1 hk
    simp only [show ¬ k = i by omega, if_false]
  · simp

set_option maxHeartbeats 4000000 in
theorem rows_spec {G lo hi n c : Nat} {g : Nat → Nat} {f : Nat → Nat → Int} {RA : Nat → Option Addr} {rc : Nat → Nat} {A : Option Addr} {h : H} (hG : G ≤ h.next) (hm : MatV h.blks lo hi n g f RA rc (.slice A n c)) (hhi : hi ≤ h.next):
    Spec Tryz.prog (En G) 14 [.slice A n c] h fun v h' => ∃ A' c' RA' rc', v = .slice A' (min n 9) c' ∧ MatV h'.blks h.next h'.next (min n 9) (fun i => min (g i) 9) f RA' rc' v := by
  refine CallsE_enter (En_known (by decide)) (En_f.trans Tryz.func14) rfl ⟨Nat.le_of_ble_eq_true rfl, by decide⟩ fun Q' hQ' => ?_
  simp only [Tryz.f14, zaa,zab,zac,zad,zae,zaf,zag,zah,zai,zaj,zak,zal,zam,zan,zao,zap,zaq,zar,zas,zat,zau,zav,zaw,zax,zay,zaz,zba,zbb,zbc,zbd,zbe,zbf,zbg,zbh,zbi,zbj,zbk,zbl,zbm,zbn,zbo,zbp,zbq,zbr,zbs,zbt,zbu,zbv,zbw,zbx,zby,zbz,zca,zcb,zcc,zcd,zce,zcf,zcg,zch,zci,zcj,zck,zcl,zcm,zcn,zco,zcp,zcq,zcr,zcs,zct,zcu,zcv,zcw,zcx,zcy,zcz,zda,zdb,zdc,zdd,guardV,nth,zde,zdf,zdg,zdh,zdi,Nat.reduceEqDiff,reduceIte,zdj,zdk,zdl,resultsA,RetO,Nat.reduceLT,zdm,zdn,zdo,zdp,zdq,zdr,zds,zdt,zdu,zdv,zdw,zdx,zdy,zdz,zea,zeb,zec,zed,zee,zef,zeg,zeh,zei,zej,zek,zel,zem,zen,zeo]
  refine At_lit0 u22 i24 zero24 (by rw [size24]; rfl) (by omega) ?_
  simp only [zaa,zab,zac,zad,zae,zaf,zag,zah,zai,zaj,zak,zal,zam,zan,zao,zap,zaq,zar,zas,zat,zau,zav,zaw,zax,zay,zaz,zba,zbb,zbc,zbd,zbe,zbf,zbg,zbh,zbi,zbj,zbk,zbl,zbm,zbn,zbo,zbp,zbq,zbr,zbs,zbt,zbu,zbv,zbw,zbx,zby,zbz,zca,zcb,zcc,zcd,zce,zcf,zcg,zch,zci,zcj,zck,zcl,zcm,zcn,zco,zcp,zcq,zcr,zcs,zct,zcu,zcv,zcw,zcx,zcy,zcz,zda,zdb,zdc,zdd,guardV,nth,zde,zdf,zdg,zdh,zdi,Nat.reduceEqDiff,reduceIte,zdj,zdk,zdl,resultsA,RetO,Nat.reduceLT,zdm,zdn,zdo,zdp,zdq,zdr,zds,zdt,zdu,zdv,zdw,zdx,zdy,zdz,zea,zeb,zec,zed,zee,zef,zeg,zeh,zei,zej,zek,zel,zem,zen,zeo]
  refine WK_loopN (fun j α h2 => ∃ (i : Nat) (A2 : Option Addr) (sb : Nat) (RA' : Nat → Option Addr) (rc' : Nat → Nat), i + j = min n 9 ∧ α.get 0 = some (.slice A n c) ∧ α.get 3 = some (.slice A2 i i) ∧ α.get 4 = some (.int .i64 i) ∧
      SlV h2.blks sb h2.next 1 i (rowsL i (fun i => min (g i) 9) RA' rc') (.slice A2 i i) ∧ (∀ k, k < i → SlV h2.blks h.next sb 1 (min (g k) 9) (intsL (min (g k) 9) (f k)) (.slice (RA' k) (min (g k) 9) (rc' k))) ∧
      (∀ b, blkOf (.slice A2 i i) = some b → b = sb) ∧ h.next ≤ sb ∧ sb ≤ h2.next ∧ Pres h.next h h2) (min n 9)
    ⟨0, some ⟨0, 0, some 0⟩, h.next, fun _ => none, fun _ => 0, by omega, by simp only [zaa,zab,zac,zad,zae,zaf,zag,zah,zai,zaj,zak,zal,zam,zan,zao,zap,zaq,zar,zas,zat,zau,zav,zaw,zax,zay,zaz,zba,zbb,zbc,zbd,zbe,zbf,zbg,zbh,zbi,zbj,zbk,zbl,zbm,zbn,zbo,zbp,zbq,zbr,zbs,zbt,zbu,zbv,zbw,zbx,zby,zbz,zca,zcb,zcc,zcd,zce,zcf,zcg,zch,zci,zcj,zck,zcl,zcm,zcn,zco,zcp,zcq,zcr,zcs,zct,zcu,zcv,zcw,zcx,zcy,zcz,zda,zdb,zdc,zdd,guardV,nth,zde,zdf,zdg,zdh,zdi,Nat.reduceEqDiff,reduceIte,zdj,zdk,zdl,resultsA,RetO,Nat.reduceLT,zdm,zdn,zdo,zdp,zdq,zdr,zds,zdt,zdu,zdv,zdw,zdx,zdy,zdz,zea,zeb,zec,zed,zee,zef,zeg,zeh,zei,zej,zek,zel,zem,zen,zeo], by (simp only [zaa,zab,zac,zad,zae,zaf,zag,zah,zai,zaj,zak,zal,zam,zan,zao,zap,zaq,zar,zas,zat,zau,zav,zaw,zax,zay,zaz,zba,zbb,zbc,zbd,zbe,zbf,zbg,zbh,zbi,zbj,zbk,zbl,zbm,zbn,zbo,zbp,zbq,zbr,zbs,zbt,zbu,zbv,zbw,zbx,zby,zbz,zca,zcb,zcc,zcd,zce,zcf,zcg,zch,zci,zcj,zck,zcl,zcm,zcn,zco,zcp,zcq,zcr,zcs,zct,zcu,zcv,zcw,zcx,zcy,zcz,zda,zdb,zdc,zdd,guardV,nth,zde,zdf,zdg,zdh,zdi,Nat.reduceEqDiff,reduceIte,zdj,zdk,zdl,resultsA,RetO,Nat.reduceLT,zdm,zdn,zdo,zdp,zdq,zdr,zds,zdt,zdu,zdv,zdw,zdx,zdy,zdz,zea,zeb,zec,zed,zee,zef,zeg,zeh,zei,zej,zek,zel,zem,zen,zeo]) <;> rfl, by (simp only [zaa,zab,zac,zad,zae,zaf,zag,zah,zai,zaj,zak,zal,zam,zan,zao,zap,zaq,zar,zas,zat,zau,zav,zaw,zax,zay,zaz,zba,zbb,zbc,zbd,zbe,zbf,zbg,zbh,zbi,zbj,zbk,zbl,zbm,zbn,zbo,zbp,zbq,zbr,zbs,zbt,zbu,zbv,zbw,zbx,zby,zbz,zca,zcb,zcc,zcd,zce,zcf,zcg,zch,zci,zcj,zck,zcl,zcm,zcn,zco,zcp,zcq,zcr,zcs,zct,zcu,zcv,zcw,zcx,zcy,zcz,zda,zdb,zdc,zdd,guardV,nth,zde,zdf,zdg,zdh,zdi,Nat.reduceEqDiff,reduceIte,zdj,zdk,zdl,resultsA,RetO,Nat.reduceLT,zdm,zdn,zdo,zdp,zdq,zdr,zds,zdt,zdu,zdv,zdw,zdx,zdy,zdz,zea,zeb,zec,zed,zee,zef,zeg,zeh,zei,zej,zek,zel,zem,zen,zeo]) <;> rfl, .emp rfl rfl, fun k hk => absurd hk (Nat.not_lt_zero k), fun b hb => (by cases hb), Nat.le_refl _, Nat.le_refl _, Pres.refl _ _⟩ (by omega) ?_
  rintro J j α h2 ⟨i, A2, sb, RA', rc', hij, e0, e3, e4, hsv, hrows, hblk, hsb1, hsb2, pr⟩ hJ
  by_cases hlt : (i : Int) < n
  · by_cases h8 : (i : Int) ≤ 8
    · have hm2 : MatV h2.blks lo hi n g f RA rc (.slice A n c) := hm.mono fun b _ hb => pr.get b (by omega)
      obtain ⟨b, off, rfl, hld⟩ := hm2.at_ (by omega)
      have l1 := hld i (by omega)
      obtain ⟨m, hmm, hmn, hm9, hmin⟩ : ∃ m : Nat, min (g i) 9 = m ∧ m ≤ g i ∧ m ≤ 9 ∧ min ((g i : Nat) : Int) 9 = (m : Int) := ⟨min (g i) 9, rfl, by omega, by omega, by omega⟩
      subst hmm
      have hrow0 := hm2.row i (by omega)
      obtain ⟨A', c', hsl, hvc⟩ := sliceO_take (E := En G) (kd := .i64) (m := min (g i) 9) u24 i3 size3 hrow0 hmn
      rw [Nat.mul_one, intsL_take hmn] at hvc
      simp (disch := omega) only [zaa,zab,zac,zad,zae,zaf,zag,zah,zai,zaj,zak,zal,zam,zan,zao,zap,zaq,zar,zas,zat,zau,zav,zaw,zax,zay,zaz,zba,zbb,zbc,zbd,zbe,zbf,zbg,zbh,zbi,zbj,zbk,zbl,zbm,zbn,zbo,zbp,zbq,zbr,zbs,zbt,zbu,zbv,zbw,zbx,zby,zbz,zca,zcb,zcc,zcd,zce,zcf,zcg,zch,zci,zcj,zck,zcl,zcm,zcn,zco,zcp,zcq,zcr,zcs,zct,zcu,zcv,zcw,zcx,zcy,zcz,zda,zdb,zdc,zdd,guardV,nth,zde,zdf,zdg,zdh,zdi,Nat.reduceEqDiff,reduceIte,zdj,zdk,zdl,resultsA,RetO,Nat.reduceLT,zdm,zdn,zdo,zdp,zdq,zdr,zds,zdt,zdu,zdv,zdw,zdx,zdy,zdz,zea,zeb,zec,zed,zee,zef,zeg,zeh,zei,zej,zek,zel,zem,zen,zeo, e0, e3, e4, hlt, h8, len22]
      refine WK_regionT 13 ⟨by kernel_rfl, by kernel_rfl, by kernel_rfl⟩ ?_
      simp (disch := omega) only [zaa,zab,zac,zad,zae,zaf,zag,zah,zai,zaj,zak,zal,zam,zan,zao,zap,zaq,zar,zas,zat,zau,zav,zaw,zax,zay,zaz,zba,zbb,zbc,zbd,zbe,zbf,zbg,zbh,zbi,zbj,zbk,zbl,zbm,zbn,zbo,zbp,zbq,zbr,zbs,zbt,zbu,zbv,zbw,zbx,zby,zbz,zca,zcb,zcc,zcd,zce,zcf,zcg,zch,zci,zcj,zck,zcl,zcm,zcn,zco,zcp,zcq,zcr,zcs,zct,zcu,zcv,zcw,zcx,zcy,zcz,zda,zdb,zdc,zdd,guardV,nth,zde,zdf,zdg,zdh,zdi,Nat.reduceEqDiff,reduceIte,zdj,zdk,zdl,resultsA,RetO,Nat.reduceLT,zdm,zdn,zdo,zdp,zdq,zdr,zds,zdt,zdu,zdv,zdw,zdx,zdy,zdz,zea,zeb,zec,zed,zee,zef,zeg,zeh,zei,zej,zek,zel,zem,zen,zeo, e0, e3, e4]
      refine At_lit0 u24 i3 zero3 (by rw [size3]; rfl) (by omega) ?_
      simp (disch := omega) only [zaa,zab,zac,zad,zae,zaf,zag,zah,zai,zaj,zak,zal,zam,zan,zao,zap,zaq,zar,zas,zat,zau,zav,zaw,zax,zay,zaz,zba,zbb,zbc,zbd,zbe,zbf,zbg,zbh,zbi,zbj,zbk,zbl,zbm,zbn,zbo,zbp,zbq,zbr,zbs,zbt,zbu,zbv,zbw,zbx,zby,zbz,zca,zcb,zcc,zcd,zce,zcf,zcg,zch,zci,zcj,zck,zcl,zcm,zcn,zco,zcp,zcq,zcr,zcs,zct,zcu,zcv,zcw,zcx,zcy,zcz,zda,zdb,zdc,zdd,guardV,nth,zde,zdf,zdg,zdh,zdi,Nat.reduceEqDiff,reduceIte,zdj,zdk,zdl,resultsA,RetO,Nat.reduceLT,zdm,zdn,zdo,zdp,zdq,zdr,zds,zdt,zdu,zdv,zdw,zdx,zdy,zdz,zea,zeb,zec,zed,zee,zef,zeg,zeh,zei,zej,zek,zel,zem,zen,zeo, e0, e3, e4, idxA22, load24, Int.toNat_natCast, Nat.mul_one, l1, len24, hmin, hsl]
      refine At_appendE (M := intsL (min (g i) 9) (f i)) (m := min (g i) 9) u24 u24 i3 zero3 (by rw [size3, bytes3]; rfl) (by (simp only [zaa,zab,zac,zad,zae,zaf,zag,zah,zai,zaj,zak,zal,zam,zan,zao,zap,zaq,zar,zas,zat,zau,zav,zaw,zax,zay,zaz,zba,zbb,zbc,zbd,zbe,zbf,zbg,zbh,zbi,zbj,zbk,zbl,zbm,zbn,zbo,zbp,zbq,zbr,zbs,zbt,zbu,zbv,zbw,zbx,zby,zbz,zca,zcb,zcc,zcd,zce,zcf,zcg,zch,zci,zcj,zck,zcl,zcm,zcn,zco,zcp,zcq,zcr,zcs,zct,zcu,zcv,zcw,zcx,zcy,zcz,zda,zdb,zdc,zdd,guardV,nth,zde,zdf,zdg,zdh,zdi,Nat.reduceEqDiff,reduceIte,zdj,zdk,zdl,resultsA,RetO,Nat.reduceLT,zdm,zdn,zdo,zdp,zdq,zdr,zds,zdt,zdu,zdv,zdw,zdx,zdy,zdz,zea,zeb,zec,zed,zee,zef,zeg,zeh,zei,zej,zek,zel,zem,zen,zeo]) <;> rfl) (by (simp only [zaa,zab,zac,zad,zae,zaf,zag,zah,zai,zaj,zak,zal,zam,zan,zao,zap,zaq,zar,zas,zat,zau,zav,zaw,zax,zay,zaz,zba,zbb,zbc,zbd,zbe,zbf,zbg,zbh,zbi,zbj,zbk,zbl,zbm,zbn,zbo,zbp,zbq,zbr,zbs,zbt,zbu,zbv,zbw,zbx,zby,zbz,zca,zcb,zcc,zcd,zce,zcf,zcg,zch,zci,zcj,zck,zcl,zcm,zcn,zco,zcp,zcq,zcr,zcs,zct,zcu,zcv,zcw,zcx,zcy,zcz,zda,zdb,zdc,zdd,guardV,nth,zde,zdf,zdg,zdh,zdi,Nat.reduceEqDiff,reduceIte,zdj,zdk,zdl,resultsA,RetO,Nat.reduceLT,zdm,zdn,zdo,zdp,zdq,zdr,zds,zdt,zdu,zdv,zdw,zdx,zdy,zdz,zea,zeb,zec,zed,zee,zef,zeg,zeh,zei,zej,zek,zel,zem,zen,zeo]) <;> rfl) (by rw [size3]; exact hvc) (by omega) intsL_one (by omega) fun A3 c3 h3 hp3 hrow => ?_
      rw [size3] at hrow
      have n3 := hp3.next
      have hsv3 : SlV h3.blks sb h2.next 1 i (rowsL i (fun i => min (g i) 9) RA' rc') (.slice A2 i i) := hsv.mono fun b _ hb => hp3.get b hb
      try simp only [zaa,zab,zac,zad,zae,zaf,zag,zah,zai,zaj,zak,zal,zam,zan,zao,zap,zaq,zar,zas,zat,zau,zav,zaw,zax,zay,zaz,zba,zbb,zbc,zbd,zbe,zbf,zbg,zbh,zbi,zbj,zbk,zbl,zbm,zbn,zbo,zbp,zbq,zbr,zbs,zbt,zbu,zbv,zbw,zbx,zby,zbz,zca,zcb,zcc,zcd,zce,zcf,zcg,zch,zci,zcj,zck,zcl,zcm,zcn,zco,zcp,zcq,zcr,zcs,zct,zcu,zcv,zcw,zcx,zcy,zcz,zda,zdb,zdc,zdd,guardV,nth,zde,zdf,zdg,zdh,zdi,Nat.reduceEqDiff,reduceIte,zdj,zdk,zdl,resultsA,RetO,Nat.reduceLT,zdm,zdn,zdo,zdp,zdq,zdr,zds,zdt,zdu,zdv,zdw,zdx,zdy,zdz,zea,zeb,zec,zed,zee,zef,zeg,zeh,zei,zej,zek,zel,zem,zen,zeo]
      refine At_push (v := .slice A3 (min (g i) 9) c3) (lo := sb) (hi := h2.next) (L := rowsL i (fun i => min (g i) 9) RA' rc') (vs := [.slice A3 (min (g i) 9) c3]) u22 i24 zero24 (by rw [size24, bytes24]; rfl) (by simp only [zaa,zab,zac,zad,zae,zaf,zag,zah,zai,zaj,zak,zal,zam,zan,zao,zap,zaq,zar,zas,zat,zau,zav,zaw,zax,zay,zaz,zba,zbb,zbc,zbd,zbe,zbf,zbg,zbh,zbi,zbj,zbk,zbl,zbm,zbn,zbo,zbp,zbq,zbr,zbs,zbt,zbu,zbv,zbw,zbx,zby,zbz,zca,zcb,zcc,zcd,zce,zcf,zcg,zch,zci,zcj,zck,zcl,zcm,zcn,zco,zcp,zcq,zcr,zcs,zct,zcu,zcv,zcw,zcx,zcy,zcz,zda,zdb,zdc,zdd,guardV,nth,zde,zdf,zdg,zdh,zdi,Nat.reduceEqDiff,reduceIte,zdj,zdk,zdl,resultsA,RetO,Nat.reduceLT,zdm,zdn,zdo,zdp,zdq,zdr,zds,zdt,zdu,zdv,zdw,zdx,zdy,zdz,zea,zeb,zec,zed,zee,zef,zeg,zeh,zei,zej,zek,zel,zem,zen,zeo]) (by rw [size24]; rfl) (by rw [size24]; rfl) rfl (by simp only [zaa,zab,zac,zad,zae,zaf,zag,zah,zai,zaj,zak,zal,zam,zan,zao,zap,zaq,zar,zas,zat,zau,zav,zaw,zax,zay,zaz,zba,zbb,zbc,zbd,zbe,zbf,zbg,zbh,zbi,zbj,zbk,zbl,zbm,zbn,zbo,zbp,zbq,zbr,zbs,zbt,zbu,zbv,zbw,zbx,zby,zbz,zca,zcb,zcc,zcd,zce,zcf,zcg,zch,zci,zcj,zck,zcl,zcm,zcn,zco,zcp,zcq,zcr,zcs,zct,zcu,zcv,zcw,zcx,zcy,zcz,zda,zdb,zdc,zdd,guardV,nth,zde,zdf,zdg,zdh,zdi,Nat.reduceEqDiff,reduceIte,zdj,zdk,zdl,resultsA,RetO,Nat.reduceLT,zdm,zdn,zdo,zdp,zdq,zdr,zds,zdt,zdu,zdv,zdw,zdx,zdy,zdz,zea,zeb,zec,zed,zee,zef,zeg,zeh,zei,zej,zek,zel,zem,zen,zeo, e3]; rfl) (by rw [size24]; exact hsv3) (by omega) (Nat.le_refl _) (by show G ≤ sb; omega) (by omega) (by decide) (by decide) (by decide) fun h4 hp4 => ?_
      rw [size24] at hp4
      have n4 := hp4.next
      have e := rowsL_snoc (i := i) (g := fun i => min (g i) 9) (RA := RA') (rc := rc') (A := A3) (c := c3)
      rw [e] at hp4
      have hnew := hp4.slv (n := i + 1) (c := i + 1) (by rw [rowsL_len, Nat.mul_one])
      have hpr4 : Pres h.next h h4 := (pr.trans (hp3.le (by omega))).trans (hp4.pres (by omega) fun b hb => by have := hblk b hb; omega)
      have same : ∀ b, b < h3.next → b ≠ sb → h4.blks.get b = h3.blks.get b := fun b hb hne => by
        rw [hp4.get b hb, if_neg fun e => hne (hblk b e)]
      have hbl2 : ∀ b, blkOf (.slice A2 i i) = some b → b < h2.next := fun b hb => (hsv.blk b hb).2
      simp (disch := omega) only [zaa,zab,zac,zad,zae,zaf,zag,zah,zai,zaj,zak,zal,zam,zan,zao,zap,zaq,zar,zas,zat,zau,zav,zaw,zax,zay,zaz,zba,zbb,zbc,zbd,zbe,zbf,zbg,zbh,zbi,zbj,zbk,zbl,zbm,zbn,zbo,zbp,zbq,zbr,zbs,zbt,zbu,zbv,zbw,zbx,zby,zbz,zca,zcb,zcc,zcd,zce,zcf,zcg,zch,zci,zcj,zck,zcl,zcm,zcn,zco,zcp,zcq,zcr,zcs,zct,zcu,zcv,zcw,zcx,zcy,zcz,zda,zdb,zdc,zdd,guardV,nth,zde,zdf,zdg,zdh,zdi,Nat.reduceEqDiff,reduceIte,zdj,zdk,zdl,resultsA,RetO,Nat.reduceLT,zdm,zdn,zdo,zdp,zdq,zdr,zds,zdt,zdu,zdv,zdw,zdx,zdy,zdz,zea,zeb,zec,zed,zee,zef,zeg,zeh,zei,zej,zek,zel,zem,zen,zeo, e4, wrap_i64]
      refine hJ (min n 9 - (i + 1)) _ _ (by omega) ⟨i + 1, _, h3.next + 1, _, _, by omega, by simp only [zaa,zab,zac,zad,zae,zaf,zag,zah,zai,zaj,zak,zal,zam,zan,zao,zap,zaq,zar,zas,zat,zau,zav,zaw,zax,zay,zaz,zba,zbb,zbc,zbd,zbe,zbf,zbg,zbh,zbi,zbj,zbk,zbl,zbm,zbn,zbo,zbp,zbq,zbr,zbs,zbt,zbu,zbv,zbw,zbx,zby,zbz,zca,zcb,zcc,zcd,zce,zcf,zcg,zch,zci,zcj,zck,zcl,zcm,zcn,zco,zcp,zcq,zcr,zcs,zct,zcu,zcv,zcw,zcx,zcy,zcz,zda,zdb,zdc,zdd,guardV,nth,zde,zdf,zdg,zdh,zdi,Nat.reduceEqDiff,reduceIte,zdj,zdk,zdl,resultsA,RetO,Nat.reduceLT,zdm,zdn,zdo,zdp,zdq,zdr,zds,zdt,zdu,zdv,zdw,zdx,zdy,zdz,zea,zeb,zec,zed,zee,zef,zeg,zeh,zei,zej,zek,zel,zem,zen,zeo, e0], by simp only [zaa,zab,zac,zad,zae,zaf,zag,zah,zai,zaj,zak,zal,zam,zan,zao,zap,zaq,zar,zas,zat,zau,zav,zaw,zax,zay,zaz,zba,zbb,zbc,zbd,zbe,zbf,zbg,zbh,zbi,zbj,zbk,zbl,zbm,zbn,zbo,zbp,zbq,zbr,zbs,zbt,zbu,zbv,zbw,zbx,zby,zbz,zca,zcb,zcc,zcd,zce,zcf,zcg,zch,zci,zcj,zck,zcl,zcm,zcn,zco,zcp,zcq,zcr,zcs,zct,zcu,zcv,zcw,zcx,zcy,zcz,zda,zdb,zdc,zdd,guardV,nth,zde,zdf,zdg,zdh,zdi,Nat.reduceEqDiff,reduceIte,zdj,zdk,zdl,resultsA,RetO,Nat.reduceLT,zdm,zdn,zdo,zdp,zdq,zdr,zds,zdt,zdu,zdv,zdw,zdx,zdy,zdz,zea,zeb,zec,zed,zee,zef,zeg,zeh,zei,zej,zek,zel,zem,zen,zeo], by (simp only [zaa,zab,zac,zad,zae,zaf,zag,zah,zai,zaj,zak,zal,zam,zan,zao,zap,zaq,zar,zas,zat,zau,zav,zaw,zax,zay,zaz,zba,zbb,zbc,zbd,zbe,zbf,zbg,zbh,zbi,zbj,zbk,zbl,zbm,zbn,zbo,zbp,zbq,zbr,zbs,zbt,zbu,zbv,zbw,zbx,zby,zbz,zca,zcb,zcc,zcd,zce,zcf,zcg,zch,zci,zcj,zck,zcl,zcm,zcn,zco,zcp,zcq,zcr,zcs,zct,zcu,zcv,zcw,zcx,zcy,zcz,zda,zdb,zdc,zdd,guardV,nth,zde,zdf,zdg,zdh,zdi,Nat.reduceEqDiff,reduceIte,zdj,zdk,zdl,resultsA,RetO,Nat.reduceLT,zdm,zdn,zdo,zdp,zdq,zdr,zds,zdt,zdu,zdv,zdw,zdx,zdy,zdz,zea,zeb,zec,zed,zee,zef,zeg,zeh,zei,zej,zek,zel,zem,zen,zeo]) <;> rfl, hnew, fun k hk => ?_, fun b hb => (by simp only [blkOf, Option.some.injEq] at hb; exact hb.symm), by omega, by omega, hpr4⟩
      by_cases hki : k = i
      · subst hki
        simp only [if_true]
        refine (hrow.mono fun b h1 h2' => ?_).wide (by omega) (by omega)
        rw [hp4.get b h2', if_neg fun e => by have := hbl2 b e; omega]
      · simp only [hki, if_false]
        exact ((hrows k (by omega)).mono fun b h1 h2' => by rw [same b (by omega) (by omega), hp3.get b (by omega)]).wide (Nat.le_refl _) (by omega)
    · obtain rfl : i = min n 9 := by omega
      simp (disch := omega) only [zaa,zab,zac,zad,zae,zaf,zag,zah,zai,zaj,zak,zal,zam,zan,zao,zap,zaq,zar,zas,zat,zau,zav,zaw,zax,zay,zaz,zba,zbb,zbc,zbd,zbe,zbf,zbg,zbh,zbi,zbj,zbk,zbl,zbm,zbn,zbo,zbp,zbq,zbr,zbs,zbt,zbu,zbv,zbw,zbx,zby,zbz,zca,zcb,zcc,zcd,zce,zcf,zcg,zch,zci,zcj,zck,zcl,zcm,zcn,zco,zcp,zcq,zcr,zcs,zct,zcu,zcv,zcw,zcx,zcy,zcz,zda,zdb,zdc,zdd,guardV,nth,zde,zdf,zdg,zdh,zdi,Nat.reduceEqDiff,reduceIte,zdj,zdk,zdl,resultsA,RetO,Nat.reduceLT,zdm,zdn,zdo,zdp,zdq,zdr,zds,zdt,zdu,zdv,zdw,zdx,zdy,zdz,zea,zeb,zec,zed,zee,zef,zeg,zeh,zei,zej,zek,zel,zem,zen,zeo, e0, e3, e4, hlt, h8, len22]
      exact hQ' _ _ ⟨pr, A2, _, RA', rc', rfl, hsv.wide hsb1 (Nat.le_refl _), fun k hk => (hrows k hk).wide (Nat.le_refl _) hsb2⟩
  · obtain rfl : i = min n 9 := by omega
    simp (disch := omega) only [zaa,zab,zac,zad,zae,zaf,zag,zah,zai,zaj,zak,zal,zam,zan,zao,zap,zaq,zar,zas,zat,zau,zav,zaw,zax,zay,zaz,zba,zbb,zbc,zbd,zbe,zbf,zbg,zbh,zbi,zbj,zbk,zbl,zbm,zbn,zbo,zbp,zbq,zbr,zbs,zbt,zbu,zbv,zbw,zbx,zby,zbz,zca,zcb,zcc,zcd,zce,zcf,zcg,zch,zci,zcj,zck,zcl,zcm,zcn,zco,zcp,zcq,zcr,zcs,zct,zcu,zcv,zcw,zcx,zcy,zcz,zda,zdb,zdc,zdd,guardV,nth,zde,zdf,zdg,zdh,zdi,Nat.reduceEqDiff,reduceIte,zdj,zdk,zdl,resultsA,RetO,Nat.reduceLT,zdm,zdn,zdo,zdp,zdq,zdr,zds,zdt,zdu,zdv,zdw,zdx,zdy,zdz,zea,zeb,zec,zed,zee,zef,zeg,zeh,zei,zej,zek,zel,zem,zen,zeo, e0, e3, e4, hlt, len22]
    exact hQ' _ _ ⟨pr, A2, _, RA', rc', rfl, hsv.wide hsb1 (Nat.le_refl _), fun k hk => (hrows k hk).wide (Nat.le_refl _) hsb2⟩
end
end Go.Proofs.YtdgdemiifloliaaGreatDoor.Ev
