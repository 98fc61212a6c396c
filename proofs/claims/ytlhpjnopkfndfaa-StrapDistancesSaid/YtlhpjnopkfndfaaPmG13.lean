/- The law StrapDistances. -/
import Derived.Test.YtlhpjnopkfndfaaPmG12
set_option linter.unusedSimpArgs false
namespace Go.Proofs.Ytlhpjnopkfndfaa.Ev
open Go Go.Proofs
noncomputable section

/-- the pairs with a distance, in order -/
def prs1 (f : Nat → Int) (d : Int) (i k : Nat) : List (Nat × Nat) := ((List.range k).filter fun j => decide (f (i + 1 + j) - f i = d)).map fun j => (i, i + 1 + j)
def prsA (n : Nat) (f : Nat → Int) (d : Int) : List (Nat × Nat) := (List.range n).flatMap fun i => prs1 f d i (n - 1 - i)
theorem prow_prs {f : Nat → Int} {d : Int} {i k : Nat} : prow f d i k = (prs1 f d i k).flatMap fun p => [f p.1, f p.2] := by
  induction k with
  | zero => rfl
  | succ k ih =>
    rw [prow_succ, ih]
    unfold prs1
    rw [List.range_succ, List.filter_append, List.map_append, List.flatMap_append]
    by_cases h : f (i + 1 + k) - f i = d
    · simp [h]
    · simp [h]
theorem flatMap_congr' {α β : Type} {g g' : α → List β} : ∀ {l : List α}, (∀ x ∈ l, g x = g' x) → l.flatMap g = l.flatMap g'
  | [], _ => rfl
  | a :: l, h => by
    rw [List.flatMap_cons, List.flatMap_cons, h a List.mem_cons_self, flatMap_congr' fun x hx => h x (List.mem_cons_of_mem _ hx)]
theorem pall_prs {n : Nat} {f : Nat → Int} {d : Int} : pall n f d n = (prsA n f d).flatMap fun p => [f p.1, f p.2] := by
  unfold pall prsA
  rw [List.flatMap_assoc]
  exact flatMap_congr' fun i _ => prow_prs
theorem prsA_mem {n : Nat} {f : Nat → Int} {d : Int} {p : Nat × Nat} : p ∈ prsA n f d ↔ p.1 < p.2 ∧ p.2 < n ∧ f p.2 - f p.1 = d := by
  unfold prsA prs1
  simp only [List.mem_flatMap, List.mem_range, List.mem_map, List.mem_filter, decide_eq_true_eq]
  constructor
  · rintro ⟨i, hi, j, ⟨hj, hd⟩, rfl⟩
    exact ⟨by show i < i + 1 + j; omega, by show i + 1 + j < n; omega, hd⟩
  · rintro ⟨h1, h2, h3⟩
    refine ⟨p.1, by omega, p.2 - (p.1 + 1), ⟨by omega, ?_⟩, ?_⟩
    · rw [show p.1 + 1 + (p.2 - (p.1 + 1)) = p.2 by omega]; exact h3
    · rw [show p.1 + 1 + (p.2 - (p.1 + 1)) = p.2 by omega]
theorem prsA_sorted {n : Nat} {f : Nat → Int} {d : Int} (hr : ∀ i j, i < j → j < n → f i < f j) : (prsA n f d).Pairwise fun p q => p.1 < q.1 := by
  unfold prsA
  rw [List.pairwise_flatMap]
  refine ⟨fun i hi => ?_, ?_⟩
  · unfold prs1
    rw [List.pairwise_map]
    refine List.Pairwise.imp_of_mem (R := fun a b => a < b) (fun {a b} ha hb hab => ?_) (List.pairwise_lt_range.filter _)
    exfalso
    simp only [List.mem_filter, List.mem_range, decide_eq_true_eq] at ha hb
    have := hr (i + 1 + a) (i + 1 + b) (by omega) (by omega)
    omega
  · refine List.Pairwise.imp (fun {a b} hab => ?_) List.pairwise_lt_range
    intro x hx y hy
    unfold prs1 at hx hy
    simp only [List.mem_map] at hx hy
    obtain ⟨_, _, rfl⟩ := hx
    obtain ⟨_, _, rfl⟩ := hy
    exact hab
theorem prsA_len {n : Nat} {f : Nat → Int} {d : Int} : (prsA n f d).length = dpc d (ilst n f) := by
  have h1 := pall_count (n := n) (f := f) (d := d)
  rw [pall_prs] at h1
  have h2 : ∀ l : List (Nat × Nat), (l.flatMap fun p => [f p.1, f p.2]).length = 2 * l.length := fun l => by
    induction l with
    | nil => rfl
    | cons a l ih => rw [List.flatMap_cons, List.length_append, ih, List.length_cons]; simp; omega
  rw [h2] at h1
  omega
/-- a distance that comes twice: its first two pairs -/
theorem first_two {n : Nat} {f : Nat → Int} {d : Int} (hr : ∀ i j, i < j → j < n → f i < f j) (h2 : 2 ≤ dpc d (ilst n f)) :
    ∃ i j m k, Qd n f i j m k ∧ f j - f i = d ∧ (pall n f d n).take 4 = qlst f i j m k ∧ ∀ i' j' m' k', Qd n f i' j' m' k' → f j' - f i' = d → i ≤ i' ∧ (i = i' → m ≤ m') := by
  rw [← prsA_len] at h2
  have hs := prsA_sorted (d := d) hr
  rw [pall_prs]
  cases hl : prsA n f d with
  | nil => rw [hl] at h2; simp at h2
  | cons a l =>
    cases l with
    | nil => rw [hl] at h2; simp at h2
    | cons b r =>
      have ma := prsA_mem.1 (show a ∈ prsA n f d by rw [hl]; simp)
      have mb := prsA_mem.1 (show b ∈ prsA n f d by rw [hl]; simp)
      rw [hl, List.pairwise_cons, List.pairwise_cons] at hs
      obtain ⟨s1, s2, _⟩ := hs
      have hab := s1 b List.mem_cons_self
      refine ⟨a.1, a.2, b.1, b.2, ⟨ma.1, ma.2.1, hab, mb.1, mb.2.1, ma.2.2.trans mb.2.2.symm⟩, ma.2.2, by simp [qlst], fun i' j' m' k' hq hd => ?_⟩
      obtain ⟨q1, q2, q3, q4, q5, q6⟩ := hq
      have x1 : (i', j') ∈ prsA n f d := prsA_mem.2 ⟨q1, q2, hd⟩
      have x2 : (m', k') ∈ prsA n f d := prsA_mem.2 ⟨q4, q5, q6.symm.trans hd⟩
      rw [hl] at x1 x2
      have y1 : a.1 ≤ i' := by
        rcases List.mem_cons.1 x1 with e | e
        · rw [← e]; exact Nat.le_refl _
        · exact Nat.le_of_lt (s1 _ e)
      refine ⟨y1, fun e => ?_⟩
      rcases List.mem_cons.1 x2 with e2 | e2
      · exfalso
        have : a.1 = m' := by rw [← e2]
        omega
      · rcases List.mem_cons.1 e2 with e3 | e3
        · rw [← e3]; exact Nat.le_refl _
        · exact Nat.le_of_lt (s2 _ e3)
theorem quad_two {n : Nat} {f : Nat → Int} {i j m k : Nat} (hq : Qd n f i j m k) : 2 ≤ dpc (f j - f i) (ilst n f) := by
  obtain ⟨q1, q2, q3, q4, q5, q6⟩ := hq
  rw [← prsA_len]
  have x1 : (i, j) ∈ prsA n f (f j - f i) := prsA_mem.2 ⟨q1, q2, rfl⟩
  have x2 : (m, k) ∈ prsA n f (f j - f i) := prsA_mem.2 ⟨q4, q5, q6.symm⟩
  cases hl : prsA n f (f j - f i) with
  | nil => rw [hl] at x1; cases x1
  | cons a l =>
    cases l with
    | nil =>
      rw [hl] at x1 x2
      have e1 := List.mem_singleton.1 x1
      have e2 := List.mem_singleton.1 x2
      rw [← e1] at e2
      injection e2 with e2 _
      omega
    | cons b r => simp

/-- both find the same -/
theorem twice_same {n L : Nat} {f : Nat → Int} (hr : StrapP n f) (hfL : f (n - 1) = L) {B B' : Tr Blk} {lo hi lo' hi' : Nat} {u v : Value} (hu : TwR n L f B lo hi u) (hv : BestOK n f (fun _ _ _ _ => True) B' lo' hi' v) :
    (u = .slice none 0 0 ∧ v = .slice none 0 0) ∨ ∃ b off c b' l, u = .slice (some ⟨b, off, none⟩) 4 c ∧ v = .slice (some ⟨b', 0, none⟩) 4 4 ∧ SlV B lo hi 1 4 (intsL 4 fun i => (l : List Int).getD i 0) u ∧ SlV B' lo' hi' 1 4 (intsL 4 fun i => l.getD i 0) v := by
  have hlt : ∀ i j, i < j → j < n → f i < f j := fun i j h1 h2 => hr.1.lt h1 h2
  have small : ∀ i j, i < j → j < n → ∃ D : Nat, f j - f i = D ∧ D ≤ L := fun i j h1 h2 => by
    have g1 := hlt i j h1 h2
    have g2 := hr.1.1 i (by omega)
    have g3 : f j ≤ f (n - 1) := by
      by_cases e : j = n - 1
      · subst e; exact Int.le_refl _
      · have := hlt j (n - 1) (by omega) (by omega); omega
    exact ⟨(f j - f i).toNat, by omega, by omega⟩
  rcases hu with ⟨d, hdL, h1, hmin, b, off, c, rfl, hs⟩ | ⟨hno, rfl⟩
  · rw [cpt_all] at h1
    obtain ⟨i, j, m, k, hq, hd, htake, hfirst⟩ := first_two (n := n) (f := f) (d := (d : Int)) hlt (by omega)
    rw [htake] at hs
    have e4 : ∀ l : List Int, l.length = 4 → ints l = intsL 4 fun i => l.getD i 0 := fun l hl => by rw [ints_intsL, hl]
    rcases hv with ⟨_, hnone⟩ | ⟨b', i', j', m', k', rfl, hs', hq', hmin'⟩
    · exact absurd trivial (hnone i j m k hq)
    · refine .inr ⟨b, off, c, b', qlst f i j m k, rfl, rfl, by rw [← e4 _ rfl]; exact hs, ?_⟩
      -- the same four
      have hno := hmin' i j m k hq trivial
      obtain ⟨D, hD, hDL⟩ := small i' j' hq'.1 hq'.2.1
      have hDd : D = d := by
        have h2 := quad_two hq'
        rw [hD] at h2
        have h3 : ¬ D < d := fun h => by
          have := hmin D h
          rw [cpt_all] at this
          omega
        have h4 : ¬ (d : Int) < D := fun h => hno (.inl (by omega))
        omega
      obtain ⟨p1, p2⟩ := hfirst i' j' m' k' hq' (by omega)
      have hii : i = i' := by
        rcases Nat.lt_or_ge i i' with h | h
        · exfalso
          have := hlt i i' h (by have := hq'.1; have := hq'.2.1; omega)
          exact hno (.inr ⟨by omega, .inl this⟩)
        · omega
      subst hii
      have hmm : m = m' := by
        have := p2 rfl
        rcases Nat.lt_or_ge m m' with h | h
        · exfalso
          have := hlt m m' h (by have := hq'.2.2.2.1; have := hq'.2.2.2.2.1; omega)
          exact hno (.inr ⟨by omega, .inr ⟨rfl, this⟩⟩)
        · omega
      subst hmm
      have hfj : f j' = f j := by omega
      have hfk : f k' = f k := by
        have := hq.2.2.2.2.2
        have := hq'.2.2.2.2.2
        omega
      have e : qlst f i j' m k' = qlst f i j m k := by unfold qlst; rw [hfj, hfk]
      rw [e, e4 _ rfl] at hs'
      exact hs'
  · rcases hv with ⟨rfl, _⟩ | ⟨b', i', j', m', k', rfl, hs', hq', hmin'⟩
    · exact .inl ⟨rfl, rfl⟩
    · exfalso
      obtain ⟨D, hD, hDL⟩ := small i' j' hq'.1 hq'.2.1
      have h2 := quad_two hq'
      rw [hD] at h2
      have := hno D hDL
      rw [cpt_all] at this
      omega

theorem eqB {a b : Bool} : pureRun Try.prog (do eqGuard .eql 4 (.tmp 0) (.tmp 0) (.bool a) (.bool b); binOp .eql 4 (.bool a) (.bool b)) = some (.bool (a == b)) := by
  cases a <;> cases b <;> kernel_rfl
theorem eql_bool {G : Nat} {a b : Bool} : binO Try.prog (En G) .eql 4 (some (.bool a)) (some (.bool b)) = some (.bool (a == b)) := by
  have h1 : (Ev.plainA (.bool a) && Ev.plainA (.bool b)) = true := rfl
  have h2 : fastBin .eql (.bool a) (.bool b) = none := rfl
  simp only [binO, h1, if_true, h2, slowBin, eqB]
  rfl

set_option maxRecDepth 100000 in
set_option maxHeartbeats 40000000 in
theorem law_StrapDistances {G lo hi n0 c : Nat} {A : Option Addr} {f : Nat → Int} {h : H} (hG : G ≤ h.next) (hhi : hi ≤ h.next) (hv : SlV h.blks lo hi 1 n0 (intsL n0 f) (.slice A n0 c)) :
    Spec Try.prog (En G) 5 [.slice A n0 c] h fun w _ => w = .bool true := by
  refine CallsE_enter (En_known (by decide)) (En_f.trans Try.func5) rfl ⟨Nat.le_of_ble_eq_true rfl, by decide⟩ fun Q' hQ' => ?_
  simp only [Try.f5, zaa,zab,zac,zad,zae,zaf,zag,zah,zai,zaj,zak,zal,zam,zan,zao,zap,zaq,zar,zas,zat,zau,zav,zaw,zax,zay,zaz,zba,zbb,zbc,zbd,zbe,zbf,zbg,zbh,zbi,zbj,zbk,zbl,zbm,zbn,zbo,zbp,zbq,zbr,zbs,zbt,zbu,zbv,zbw,zbx,zby,zbz,zca,zcb,zcc,zcd,zce,zcf,zcg,zch,zci,zcj,zck,zcl,zcm,zcn,zco,zcp,zcq,zcr,zcs,zct,zcu,zcv,zcw,zcx,zcy,zcz,zda,zdb,zdc,zdd,guardV,nth,zde,zdf,zdg,zdh,zdi,Nat.reduceEqDiff,reduceIte,zdj,zdk,zdl,resultsA,RetO,Nat.reduceLT,zdm,zdn,zdo,zdp,zdq,zdr,zds,zdt,zdu,zdv,zdw,zdx,zdy,zdz,zea,zeb,zec,zed,zee,zef,zeg,zeh,zei,zej,zek,zel,zem,zen,zeo]
  refine CallO_f (cut_spec hv) (by omega) fun u h1 pr1 ⟨A1, c1, hu, hs1⟩ => ?_
  subst hu
  have n1 := pr1.next
  have hm : min n0 41 ≤ 41 := by omega
  generalize min n0 41 = n at hs1 hm ⊢
  simp only [zaa,zab,zac,zad,zae,zaf,zag,zah,zai,zaj,zak,zal,zam,zan,zao,zap,zaq,zar,zas,zat,zau,zav,zaw,zax,zay,zaz,zba,zbb,zbc,zbd,zbe,zbf,zbg,zbh,zbi,zbj,zbk,zbl,zbm,zbn,zbo,zbp,zbq,zbr,zbs,zbt,zbu,zbv,zbw,zbx,zby,zbz,zca,zcb,zcc,zcd,zce,zcf,zcg,zch,zci,zcj,zck,zcl,zcm,zcn,zco,zcp,zcq,zcr,zcs,zct,zcu,zcv,zcw,zcx,zcy,zcz,zda,zdb,zdc,zdd,guardV,nth,zde,zdf,zdg,zdh,zdi,Nat.reduceEqDiff,reduceIte,zdj,zdk,zdl,resultsA,RetO,Nat.reduceLT,zdm,zdn,zdo,zdp,zdq,zdr,zds,zdt,zdu,zdv,zdw,zdx,zdy,zdz,zea,zeb,zec,zed,zee,zef,zeg,zeh,zei,zej,zek,zel,zem,zen,zeo]
  refine CallO_f (Distances_spec (by omega) (by omega) hs1 (by omega)) (by omega) fun u h2 pr2 hu => ?_
  have n2 := pr2.next
  have hs2 := hs1.mono (B' := h2.blks) fun b _ hb => pr2.get b hb
  rcases hu with ⟨e, he, hne, hu⟩ | ⟨hn40, hst, L, hfL, D1, hu, hd1⟩
  · -- no strap
    subst hu
    simp only [zaa,zab,zac,zad,zae,zaf,zag,zah,zai,zaj,zak,zal,zam,zan,zao,zap,zaq,zar,zas,zat,zau,zav,zaw,zax,zay,zaz,zba,zbb,zbc,zbd,zbe,zbf,zbg,zbh,zbi,zbj,zbk,zbl,zbm,zbn,zbo,zbp,zbq,zbr,zbs,zbt,zbu,zbv,zbw,zbx,zby,zbz,zca,zcb,zcc,zcd,zce,zcf,zcg,zch,zci,zcj,zck,zcl,zcm,zcn,zco,zcp,zcq,zcr,zcs,zct,zcu,zcv,zcw,zcx,zcy,zcz,zda,zdb,zdc,zdd,guardV,nth,zde,zdf,zdg,zdh,zdi,Nat.reduceEqDiff,reduceIte,zdj,zdk,zdl,resultsA,RetO,Nat.reduceLT,zdm,zdn,zdo,zdp,zdq,zdr,zds,zdt,zdu,zdv,zdw,zdx,zdy,zdz,zea,zeb,zec,zed,zee,zef,zeg,zeh,zei,zej,zek,zel,zem,zen,zeo]
    refine CallO_f (Misses_spec (by omega) (by omega) hs2 (by omega)) (by omega) fun u h3 pr3 hu => ?_
    have n3 := pr3.next
    have hs3 := hs2.mono (B' := h3.blks) fun b _ hb => pr3.get b (by omega)
    rcases hu with ⟨e', he', hne', hu⟩ | ⟨a, b, _⟩
    rotate_left
    · exact absurd (strapE_ok a b he) hne
    obtain rfl := strapE_one he he'
    subst hu
    simp only [zaa,zab,zac,zad,zae,zaf,zag,zah,zai,zaj,zak,zal,zam,zan,zao,zap,zaq,zar,zas,zat,zau,zav,zaw,zax,zay,zaz,zba,zbb,zbc,zbd,zbe,zbf,zbg,zbh,zbi,zbj,zbk,zbl,zbm,zbn,zbo,zbp,zbq,zbr,zbs,zbt,zbu,zbv,zbw,zbx,zby,zbz,zca,zcb,zcc,zcd,zce,zcf,zcg,zch,zci,zcj,zck,zcl,zcm,zcn,zco,zcp,zcq,zcr,zcs,zct,zcu,zcv,zcw,zcx,zcy,zcz,zda,zdb,zdc,zdd,guardV,nth,zde,zdf,zdg,zdh,zdi,Nat.reduceEqDiff,reduceIte,zdj,zdk,zdl,resultsA,RetO,Nat.reduceLT,zdm,zdn,zdo,zdp,zdq,zdr,zds,zdt,zdu,zdv,zdw,zdx,zdy,zdz,zea,zeb,zec,zed,zee,zef,zeg,zeh,zei,zej,zek,zel,zem,zen,zeo]
    refine CallO_f (Twice_spec (by omega) (by omega) hs3 (by omega)) (by omega) fun u h4 pr4 hu => ?_
    have n4 := pr4.next
    have hs4 := hs3.mono (B' := h4.blks) fun b _ hb => pr4.get b (by omega)
    rcases hu with ⟨e', he', hne', hu⟩ | ⟨a, b, _⟩
    rotate_left
    · exact absurd (strapE_ok a b he) hne
    obtain rfl := strapE_one he he'
    subst hu
    simp only [zaa,zab,zac,zad,zae,zaf,zag,zah,zai,zaj,zak,zal,zam,zan,zao,zap,zaq,zar,zas,zat,zau,zav,zaw,zax,zay,zaz,zba,zbb,zbc,zbd,zbe,zbf,zbg,zbh,zbi,zbj,zbk,zbl,zbm,zbn,zbo,zbp,zbq,zbr,zbs,zbt,zbu,zbv,zbw,zbx,zby,zbz,zca,zcb,zcc,zcd,zce,zcf,zcg,zch,zci,zcj,zck,zcl,zcm,zcn,zco,zcp,zcq,zcr,zcs,zct,zcu,zcv,zcw,zcx,zcy,zcz,zda,zdb,zdc,zdd,guardV,nth,zde,zdf,zdg,zdh,zdi,Nat.reduceEqDiff,reduceIte,zdj,zdk,zdl,resultsA,RetO,Nat.reduceLT,zdm,zdn,zdo,zdp,zdq,zdr,zds,zdt,zdu,zdv,zdw,zdx,zdy,zdz,zea,zeb,zec,zed,zee,zef,zeg,zeh,zei,zej,zek,zel,zem,zen,zeo]
    refine CallO_same (refStrap_spec hs4 (by omega)) (by omega) fun u ⟨e', hu, he'⟩ => ?_
    obtain rfl := strapE_one he he'
    subst hu
    have d0 : decide (e ≠ 0) = true := decide_eq_true hne
    have d1 : decide (e = e) = true := decide_eq_true rfl
    have z0 : ((0 : Nat) : Int) + ((0 : Nat) : Int) = 0 := rfl
    have z1 : (0 : Int) + ((0 : Nat) : Int) = 0 := rfl
    have d2 : decide ((0 : Int) = 0) = true := rfl
    simp (maxSteps := 2000000) (disch := omega) only [zaa,zab,zac,zad,zae,zaf,zag,zah,zai,zaj,zak,zal,zam,zan,zao,zap,zaq,zar,zas,zat,zau,zav,zaw,zax,zay,zaz,zba,zbb,zbc,zbd,zbe,zbf,zbg,zbh,zbi,zbj,zbk,zbl,zbm,zbn,zbo,zbp,zbq,zbr,zbs,zbt,zbu,zbv,zbw,zbx,zby,zbz,zca,zcb,zcc,zcd,zce,zcf,zcg,zch,zci,zcj,zck,zcl,zcm,zcn,zco,zcp,zcq,zcr,zcs,zct,zcu,zcv,zcw,zcx,zcy,zcz,zda,zdb,zdc,zdd,guardV,nth,zde,zdf,zdg,zdh,zdi,Nat.reduceEqDiff,reduceIte,zdj,zdk,zdl,resultsA,RetO,Nat.reduceLT,zdm,zdn,zdo,zdp,zdq,zdr,zds,zdt,zdu,zdv,zdw,zdx,zdy,zdz,zea,zeb,zec,zed,zee,zef,zeg,zeh,zei,zej,zek,zel,zem,zen,zeo, d0, d1, len23, wrap_i64, z0, z1, d2]
    refine Call_lives (by omega) ?_
    simp only [zaa,zab,zac,zad,zae,zaf,zag,zah,zai,zaj,zak,zal,zam,zan,zao,zap,zaq,zar,zas,zat,zau,zav,zaw,zax,zay,zaz,zba,zbb,zbc,zbd,zbe,zbf,zbg,zbh,zbi,zbj,zbk,zbl,zbm,zbn,zbo,zbp,zbq,zbr,zbs,zbt,zbu,zbv,zbw,zbx,zby,zbz,zca,zcb,zcc,zcd,zce,zcf,zcg,zch,zci,zcj,zck,zcl,zcm,zcn,zco,zcp,zcq,zcr,zcs,zct,zcu,zcv,zcw,zcx,zcy,zcz,zda,zdb,zdc,zdd,guardV,nth,zde,zdf,zdg,zdh,zdi,Nat.reduceEqDiff,reduceIte,zdj,zdk,zdl,resultsA,RetO,Nat.reduceLT,zdm,zdn,zdo,zdp,zdq,zdr,zds,zdt,zdu,zdv,zdw,zdx,zdy,zdz,zea,zeb,zec,zed,zee,zef,zeg,zeh,zei,zej,zek,zel,zem,zen,zeo]
    exact hQ' _ _ ⟨((pr1.trans (pr2.le n1)).trans (pr3.le (by omega))).trans (pr4.le (by omega)), rfl⟩
  subst hu
  obtain ⟨L', hfL', hL, h0, hf, hb⟩ := hst.dist
  obtain rfl : L' = L := by omega
  simp only [zaa,zab,zac,zad,zae,zaf,zag,zah,zai,zaj,zak,zal,zam,zan,zao,zap,zaq,zar,zas,zat,zau,zav,zaw,zax,zay,zaz,zba,zbb,zbc,zbd,zbe,zbf,zbg,zbh,zbi,zbj,zbk,zbl,zbm,zbn,zbo,zbp,zbq,zbr,zbs,zbt,zbu,zbv,zbw,zbx,zby,zbz,zca,zcb,zcc,zcd,zce,zcf,zcg,zch,zci,zcj,zck,zcl,zcm,zcn,zco,zcp,zcq,zcr,zcs,zct,zcu,zcv,zcw,zcx,zcy,zcz,zda,zdb,zdc,zdd,guardV,nth,zde,zdf,zdg,zdh,zdi,Nat.reduceEqDiff,reduceIte,zdj,zdk,zdl,resultsA,RetO,Nat.reduceLT,zdm,zdn,zdo,zdp,zdq,zdr,zds,zdt,zdu,zdv,zdw,zdx,zdy,zdz,zea,zeb,zec,zed,zee,zef,zeg,zeh,zei,zej,zek,zel,zem,zen,zeo]
  refine CallO_f (Misses_spec (by omega) (by omega) hs2 (by omega)) (by omega) fun u h3 pr3 hu => ?_
  have n3 := pr3.next
  have hs3 := hs2.mono (B' := h3.blks) fun b _ hb => pr3.get b (by omega)
  rcases hu with ⟨e, he, hne, _⟩ | ⟨_, _, L2, hfL2, M1, hu, hm1⟩
  · exact absurd (strapE_ok hn40 hst he) hne
  obtain rfl : L2 = L' := by omega
  subst hu
  simp only [zaa,zab,zac,zad,zae,zaf,zag,zah,zai,zaj,zak,zal,zam,zan,zao,zap,zaq,zar,zas,zat,zau,zav,zaw,zax,zay,zaz,zba,zbb,zbc,zbd,zbe,zbf,zbg,zbh,zbi,zbj,zbk,zbl,zbm,zbn,zbo,zbp,zbq,zbr,zbs,zbt,zbu,zbv,zbw,zbx,zby,zbz,zca,zcb,zcc,zcd,zce,zcf,zcg,zch,zci,zcj,zck,zcl,zcm,zcn,zco,zcp,zcq,zcr,zcs,zct,zcu,zcv,zcw,zcx,zcy,zcz,zda,zdb,zdc,zdd,guardV,nth,zde,zdf,zdg,zdh,zdi,Nat.reduceEqDiff,reduceIte,zdj,zdk,zdl,resultsA,RetO,Nat.reduceLT,zdm,zdn,zdo,zdp,zdq,zdr,zds,zdt,zdu,zdv,zdw,zdx,zdy,zdz,zea,zeb,zec,zed,zee,zef,zeg,zeh,zei,zej,zek,zel,zem,zen,zeo]
  refine CallO_f (Twice_spec (by omega) (by omega) hs3 (by omega)) (by omega) fun u h4 pr4 hu => ?_
  have n4 := pr4.next
  have hs4 := hs3.mono (B' := h4.blks) fun b _ hb => pr4.get b (by omega)
  rcases hu with ⟨e, he, hne, _⟩ | ⟨_, _, L3, hfL3, t, hT, hu⟩
  · exact absurd (strapE_ok hn40 hst he) hne
  obtain rfl : L3 = L2 := by omega
  obtain ⟨z, hz, hz5⟩ : ∃ z, u = .tuple #[t, .int .i64 z] ∧ ((t = .slice none 0 0 ∧ z = 5) ∨ (t ≠ .slice none 0 0 ∧ z = 0)) := by
    rcases hu with ⟨rfl, rfl⟩ | ⟨a, rfl⟩
    · exact ⟨5, rfl, .inl ⟨rfl, rfl⟩⟩
    · exact ⟨0, rfl, .inr ⟨a, rfl⟩⟩
  clear hu
  subst hz
  simp only [zaa,zab,zac,zad,zae,zaf,zag,zah,zai,zaj,zak,zal,zam,zan,zao,zap,zaq,zar,zas,zat,zau,zav,zaw,zax,zay,zaz,zba,zbb,zbc,zbd,zbe,zbf,zbg,zbh,zbi,zbj,zbk,zbl,zbm,zbn,zbo,zbp,zbq,zbr,zbs,zbt,zbu,zbv,zbw,zbx,zby,zbz,zca,zcb,zcc,zcd,zce,zcf,zcg,zch,zci,zcj,zck,zcl,zcm,zcn,zco,zcp,zcq,zcr,zcs,zct,zcu,zcv,zcw,zcx,zcy,zcz,zda,zdb,zdc,zdd,guardV,nth,zde,zdf,zdg,zdh,zdi,Nat.reduceEqDiff,reduceIte,zdj,zdk,zdl,resultsA,RetO,Nat.reduceLT,zdm,zdn,zdo,zdp,zdq,zdr,zds,zdt,zdu,zdv,zdw,zdx,zdy,zdz,zea,zeb,zec,zed,zee,zef,zeg,zeh,zei,zej,zek,zel,zem,zen,zeo]
  refine CallO_same (refStrap_spec hs4 (by omega)) (by omega) fun u ⟨e', hu, he'⟩ => ?_
  obtain rfl := strapE_ok hn40 hst he'
  subst hu
  have d0 : decide ((0 : Int) ≠ 0) = false := rfl
  have k1 := hd1.mono (B' := h4.blks) fun b _ hb => (pr4.get b (by omega)).trans (pr3.get b (by omega))
  have k2 := hm1.mono (B' := h4.blks) fun b _ hb => pr4.get b (by omega)
  rw [ints_intsL] at k2
  have hml := mss_len (c := cpt f n 0) (i := L3 + 1)
  simp (maxSteps := 2000000) only [zaa,zab,zac,zad,zae,zaf,zag,zah,zai,zaj,zak,zal,zam,zan,zao,zap,zaq,zar,zas,zat,zau,zav,zaw,zax,zay,zaz,zba,zbb,zbc,zbd,zbe,zbf,zbg,zbh,zbi,zbj,zbk,zbl,zbm,zbn,zbo,zbp,zbq,zbr,zbs,zbt,zbu,zbv,zbw,zbx,zby,zbz,zca,zcb,zcc,zcd,zce,zcf,zcg,zch,zci,zcj,zck,zcl,zcm,zcn,zco,zcp,zcq,zcr,zcs,zct,zcu,zcv,zcw,zcx,zcy,zcz,zda,zdb,zdc,zdd,guardV,nth,zde,zdf,zdg,zdh,zdi,Nat.reduceEqDiff,reduceIte,zdj,zdk,zdl,resultsA,RetO,Nat.reduceLT,zdm,zdn,zdo,zdp,zdq,zdr,zds,zdt,zdu,zdv,zdw,zdx,zdy,zdz,zea,zeb,zec,zed,zee,zef,zeg,zeh,zei,zej,zek,zel,zem,zen,zeo, d0]
  refine CallO_f (refDistances_spec (by omega) (by omega) hs4 hn40 h0 hL hfL hf) (by omega) fun u h5 pr5 ⟨hu, hd5⟩ => ?_
  subst hu
  have n5 := pr5.next
  simp (maxSteps := 2000000) only [zaa,zab,zac,zad,zae,zaf,zag,zah,zai,zaj,zak,zal,zam,zan,zao,zap,zaq,zar,zas,zat,zau,zav,zaw,zax,zay,zaz,zba,zbb,zbc,zbd,zbe,zbf,zbg,zbh,zbi,zbj,zbk,zbl,zbm,zbn,zbo,zbp,zbq,zbr,zbs,zbt,zbu,zbv,zbw,zbx,zby,zbz,zca,zcb,zcc,zcd,zce,zcf,zcg,zch,zci,zcj,zck,zcl,zcm,zcn,zco,zcp,zcq,zcr,zcs,zct,zcu,zcv,zcw,zcx,zcy,zcz,zda,zdb,zdc,zdd,guardV,nth,zde,zdf,zdg,zdh,zdi,Nat.reduceEqDiff,reduceIte,zdj,zdk,zdl,resultsA,RetO,Nat.reduceLT,zdm,zdn,zdo,zdp,zdq,zdr,zds,zdt,zdu,zdv,zdw,zdx,zdy,zdz,zea,zeb,zec,zed,zee,zef,zeg,zeh,zei,zej,zek,zel,zem,zen,zeo]
  refine CallO_same (Same_same (k1.mono (B' := h5.blks) fun b _ hb => pr5.get b (by omega)) hd5 (by omega)) (by omega) fun u hu => ?_
  subst hu
  have hs5 := hs4.mono (B' := h5.blks) fun b _ hb => pr5.get b (by omega)
  simp (maxSteps := 2000000) only [zaa,zab,zac,zad,zae,zaf,zag,zah,zai,zaj,zak,zal,zam,zan,zao,zap,zaq,zar,zas,zat,zau,zav,zaw,zax,zay,zaz,zba,zbb,zbc,zbd,zbe,zbf,zbg,zbh,zbi,zbj,zbk,zbl,zbm,zbn,zbo,zbp,zbq,zbr,zbs,zbt,zbu,zbv,zbw,zbx,zby,zbz,zca,zcb,zcc,zcd,zce,zcf,zcg,zch,zci,zcj,zck,zcl,zcm,zcn,zco,zcp,zcq,zcr,zcs,zct,zcu,zcv,zcw,zcx,zcy,zcz,zda,zdb,zdc,zdd,guardV,nth,zde,zdf,zdg,zdh,zdi,Nat.reduceEqDiff,reduceIte,zdj,zdk,zdl,resultsA,RetO,Nat.reduceLT,zdm,zdn,zdo,zdp,zdq,zdr,zds,zdt,zdu,zdv,zdw,zdx,zdy,zdz,zea,zeb,zec,zed,zee,zef,zeg,zeh,zei,zej,zek,zel,zem,zen,zeo, d0]
  refine CallO_f (refMisses_spec (by omega) (by omega) hs5 hn40 h0 hL hfL hf) (by omega) fun u h6 pr6 ⟨M2, hu, hm6⟩ => ?_
  subst hu
  have n6 := pr6.next
  rw [ints_intsL] at hm6
  simp (maxSteps := 2000000) only [zaa,zab,zac,zad,zae,zaf,zag,zah,zai,zaj,zak,zal,zam,zan,zao,zap,zaq,zar,zas,zat,zau,zav,zaw,zax,zay,zaz,zba,zbb,zbc,zbd,zbe,zbf,zbg,zbh,zbi,zbj,zbk,zbl,zbm,zbn,zbo,zbp,zbq,zbr,zbs,zbt,zbu,zbv,zbw,zbx,zby,zbz,zca,zcb,zcc,zcd,zce,zcf,zcg,zch,zci,zcj,zck,zcl,zcm,zcn,zco,zcp,zcq,zcr,zcs,zct,zcu,zcv,zcw,zcx,zcy,zcz,zda,zdb,zdc,zdd,guardV,nth,zde,zdf,zdg,zdh,zdi,Nat.reduceEqDiff,reduceIte,zdj,zdk,zdl,resultsA,RetO,Nat.reduceLT,zdm,zdn,zdo,zdp,zdq,zdr,zds,zdt,zdu,zdv,zdw,zdx,zdy,zdz,zea,zeb,zec,zed,zee,zef,zeg,zeh,zei,zej,zek,zel,zem,zen,zeo]
  refine CallO_same (Same_same (k2.mono (B' := h6.blks) fun b _ hb => (pr6.get b (by omega)).trans (pr5.get b (by omega))) hm6 (by omega)) (by omega) fun u hu => ?_
  subst hu
  simp (maxSteps := 2000000) only [zaa,zab,zac,zad,zae,zaf,zag,zah,zai,zaj,zak,zal,zam,zan,zao,zap,zaq,zar,zas,zat,zau,zav,zaw,zax,zay,zaz,zba,zbb,zbc,zbd,zbe,zbf,zbg,zbh,zbi,zbj,zbk,zbl,zbm,zbn,zbo,zbp,zbq,zbr,zbs,zbt,zbu,zbv,zbw,zbx,zby,zbz,zca,zcb,zcc,zcd,zce,zcf,zcg,zch,zci,zcj,zck,zcl,zcm,zcn,zco,zcp,zcq,zcr,zcs,zct,zcu,zcv,zcw,zcx,zcy,zcz,zda,zdb,zdc,zdd,guardV,nth,zde,zdf,zdg,zdh,zdi,Nat.reduceEqDiff,reduceIte,zdj,zdk,zdl,resultsA,RetO,Nat.reduceLT,zdm,zdn,zdo,zdp,zdq,zdr,zds,zdt,zdu,zdv,zdw,zdx,zdy,zdz,zea,zeb,zec,zed,zee,zef,zeg,zeh,zei,zej,zek,zel,zem,zen,zeo, d0]
  refine Call_lives (by omega) ?_
  have prall : Pres h.next h h6 := ((((pr1.trans (pr2.le n1)).trans (pr3.le (by omega))).trans (pr4.le (by omega))).trans (pr5.le (by omega))).trans (pr6.le (by omega))
  have hs6 := hs5.mono (B' := h6.blks) fun b _ hb => pr6.get b (by omega)
  by_cases h14 : (14 : Int) < n
  · simp (maxSteps := 2000000) (disch := omega) only [zaa,zab,zac,zad,zae,zaf,zag,zah,zai,zaj,zak,zal,zam,zan,zao,zap,zaq,zar,zas,zat,zau,zav,zaw,zax,zay,zaz,zba,zbb,zbc,zbd,zbe,zbf,zbg,zbh,zbi,zbj,zbk,zbl,zbm,zbn,zbo,zbp,zbq,zbr,zbs,zbt,zbu,zbv,zbw,zbx,zby,zbz,zca,zcb,zcc,zcd,zce,zcf,zcg,zch,zci,zcj,zck,zcl,zcm,zcn,zco,zcp,zcq,zcr,zcs,zct,zcu,zcv,zcw,zcx,zcy,zcz,zda,zdb,zdc,zdd,guardV,nth,zde,zdf,zdg,zdh,zdi,Nat.reduceEqDiff,reduceIte,zdj,zdk,zdl,resultsA,RetO,Nat.reduceLT,zdm,zdn,zdo,zdp,zdq,zdr,zds,zdt,zdu,zdv,zdw,zdx,zdy,zdz,zea,zeb,zec,zed,zee,zef,zeg,zeh,zei,zej,zek,zel,zem,zen,zeo, len23, h14]
    have k6 := k1.mono (B' := h6.blks) fun b _ hb => (pr6.get b (by omega)).trans (pr5.get b (by omega))
    refine CallO_same (many_spec k6 (by omega)) (by omega) fun u ⟨b, hu, hb'⟩ => ?_
    subst hu
    have e : (decide (z = 0) == b) = true := by
      rcases hT with ⟨d, g1, g2, _, b', off, c', rfl, _⟩ | ⟨g1, rfl⟩
      · obtain rfl : z = 0 := by
          rcases hz5 with ⟨a, _⟩ | ⟨_, a⟩
          · cases a
          · exact a
        rw [hb'.2 ⟨d, by omega, g2⟩]; rfl
      · obtain rfl : z = 5 := by
          rcases hz5 with ⟨_, a⟩ | ⟨a, _⟩
          · exact a
          · exact absurd rfl a
        cases b with
        | false => rfl
        | true =>
          obtain ⟨d, g2, g3⟩ := hb'.1 rfl
          have := g1 d (by omega)
          omega
    simp (maxSteps := 2000000) only [zaa,zab,zac,zad,zae,zaf,zag,zah,zai,zaj,zak,zal,zam,zan,zao,zap,zaq,zar,zas,zat,zau,zav,zaw,zax,zay,zaz,zba,zbb,zbc,zbd,zbe,zbf,zbg,zbh,zbi,zbj,zbk,zbl,zbm,zbn,zbo,zbp,zbq,zbr,zbs,zbt,zbu,zbv,zbw,zbx,zby,zbz,zca,zcb,zcc,zcd,zce,zcf,zcg,zch,zci,zcj,zck,zcl,zcm,zcn,zco,zcp,zcq,zcr,zcs,zct,zcu,zcv,zcw,zcx,zcy,zcz,zda,zdb,zdc,zdd,guardV,nth,zde,zdf,zdg,zdh,zdi,Nat.reduceEqDiff,reduceIte,zdj,zdk,zdl,resultsA,RetO,Nat.reduceLT,zdm,zdn,zdo,zdp,zdq,zdr,zds,zdt,zdu,zdv,zdw,zdx,zdy,zdz,zea,zeb,zec,zed,zee,zef,zeg,zeh,zei,zej,zek,zel,zem,zen,zeo, eql_bool, e]
    exact hQ' _ _ ⟨prall, rfl⟩
  simp (maxSteps := 2000000) (disch := omega) only [zaa,zab,zac,zad,zae,zaf,zag,zah,zai,zaj,zak,zal,zam,zan,zao,zap,zaq,zar,zas,zat,zau,zav,zaw,zax,zay,zaz,zba,zbb,zbc,zbd,zbe,zbf,zbg,zbh,zbi,zbj,zbk,zbl,zbm,zbn,zbo,zbp,zbq,zbr,zbs,zbt,zbu,zbv,zbw,zbx,zby,zbz,zca,zcb,zcc,zcd,zce,zcf,zcg,zch,zci,zcj,zck,zcl,zcm,zcn,zco,zcp,zcq,zcr,zcs,zct,zcu,zcv,zcw,zcx,zcy,zcz,zda,zdb,zdc,zdd,guardV,nth,zde,zdf,zdg,zdh,zdi,Nat.reduceEqDiff,reduceIte,zdj,zdk,zdl,resultsA,RetO,Nat.reduceLT,zdm,zdn,zdo,zdp,zdq,zdr,zds,zdt,zdu,zdv,zdw,zdx,zdy,zdz,zea,zeb,zec,zed,zee,zef,zeg,zeh,zei,zej,zek,zel,zem,zen,zeo, len23, h14]
  refine CallO_f (refTwice_spec (by omega) (by omega) hs6 hn40 hb) (by omega) fun u h7 pr7 hw => ?_
  have n7 := pr7.next
  rcases twice_same hst hfL hT hw with ⟨rfl, rfl⟩ | ⟨b1, off, c', b2, l, rfl, rfl, g1, g2⟩
  · obtain rfl : z = 5 := by
      rcases hz5 with ⟨_, a⟩ | ⟨a, _⟩
      · exact a
      · exact absurd rfl a
    have d5 : decide ((5 : Int) = 0) = false := rfl
    have d55 : decide ((5 : Int) = 5) = true := rfl
    have bff : (false == false) = true := rfl
    simp (maxSteps := 2000000) only [zaa,zab,zac,zad,zae,zaf,zag,zah,zai,zaj,zak,zal,zam,zan,zao,zap,zaq,zar,zas,zat,zau,zav,zaw,zax,zay,zaz,zba,zbb,zbc,zbd,zbe,zbf,zbg,zbh,zbi,zbj,zbk,zbl,zbm,zbn,zbo,zbp,zbq,zbr,zbs,zbt,zbu,zbv,zbw,zbx,zby,zbz,zca,zcb,zcc,zcd,zce,zcf,zcg,zch,zci,zcj,zck,zcl,zcm,zcn,zco,zcp,zcq,zcr,zcs,zct,zcu,zcv,zcw,zcx,zcy,zcz,zda,zdb,zdc,zdd,guardV,nth,zde,zdf,zdg,zdh,zdi,Nat.reduceEqDiff,reduceIte,zdj,zdk,zdl,resultsA,RetO,Nat.reduceLT,zdm,zdn,zdo,zdp,zdq,zdr,zds,zdt,zdu,zdv,zdw,zdx,zdy,zdz,zea,zeb,zec,zed,zee,zef,zeg,zeh,zei,zej,zek,zel,zem,zen,zeo]
    refine CallO_same (Same_same (lo := 0) (hi := 0) (lo2 := 0) (hi2 := 0) (f := fun _ => 0) (.nil rfl rfl) (.nil rfl rfl) (by decide)) (by omega) fun u hu => ?_
    subst hu
    simp (maxSteps := 2000000) only [zaa,zab,zac,zad,zae,zaf,zag,zah,zai,zaj,zak,zal,zam,zan,zao,zap,zaq,zar,zas,zat,zau,zav,zaw,zax,zay,zaz,zba,zbb,zbc,zbd,zbe,zbf,zbg,zbh,zbi,zbj,zbk,zbl,zbm,zbn,zbo,zbp,zbq,zbr,zbs,zbt,zbu,zbv,zbw,zbx,zby,zbz,zca,zcb,zcc,zcd,zce,zcf,zcg,zch,zci,zcj,zck,zcl,zcm,zcn,zco,zcp,zcq,zcr,zcs,zct,zcu,zcv,zcw,zcx,zcy,zcz,zda,zdb,zdc,zdd,guardV,nth,zde,zdf,zdg,zdh,zdi,Nat.reduceEqDiff,reduceIte,zdj,zdk,zdl,resultsA,RetO,Nat.reduceLT,zdm,zdn,zdo,zdp,zdq,zdr,zds,zdt,zdu,zdv,zdw,zdx,zdy,zdz,zea,zeb,zec,zed,zee,zef,zeg,zeh,zei,zej,zek,zel,zem,zen,zeo, d5, d55, nilne_nil u23, eql_bool, bff]
    exact hQ' _ _ ⟨prall.trans (pr7.le (by omega)), rfl⟩
  · obtain rfl : z = 0 := by
      rcases hz5 with ⟨a, _⟩ | ⟨_, a⟩
      · cases a
      · exact a
    have d00 : decide ((0 : Int) = 0) = true := rfl
    have btt : (true == true) = true := rfl
    have g1' := g1.mono (B' := h7.blks) fun b _ hb => (((pr7.get b (by omega)).trans (pr6.get b (by omega))).trans (pr5.get b (by omega)))
    simp (maxSteps := 2000000) only [zaa,zab,zac,zad,zae,zaf,zag,zah,zai,zaj,zak,zal,zam,zan,zao,zap,zaq,zar,zas,zat,zau,zav,zaw,zax,zay,zaz,zba,zbb,zbc,zbd,zbe,zbf,zbg,zbh,zbi,zbj,zbk,zbl,zbm,zbn,zbo,zbp,zbq,zbr,zbs,zbt,zbu,zbv,zbw,zbx,zby,zbz,zca,zcb,zcc,zcd,zce,zcf,zcg,zch,zci,zcj,zck,zcl,zcm,zcn,zco,zcp,zcq,zcr,zcs,zct,zcu,zcv,zcw,zcx,zcy,zcz,zda,zdb,zdc,zdd,guardV,nth,zde,zdf,zdg,zdh,zdi,Nat.reduceEqDiff,reduceIte,zdj,zdk,zdl,resultsA,RetO,Nat.reduceLT,zdm,zdn,zdo,zdp,zdq,zdr,zds,zdt,zdu,zdv,zdw,zdx,zdy,zdz,zea,zeb,zec,zed,zee,zef,zeg,zeh,zei,zej,zek,zel,zem,zen,zeo]
    refine CallO_same (Same_same g1' g2 (by decide)) (by omega) fun u hu => ?_
    subst hu
    simp (maxSteps := 2000000) only [zaa,zab,zac,zad,zae,zaf,zag,zah,zai,zaj,zak,zal,zam,zan,zao,zap,zaq,zar,zas,zat,zau,zav,zaw,zax,zay,zaz,zba,zbb,zbc,zbd,zbe,zbf,zbg,zbh,zbi,zbj,zbk,zbl,zbm,zbn,zbo,zbp,zbq,zbr,zbs,zbt,zbu,zbv,zbw,zbx,zby,zbz,zca,zcb,zcc,zcd,zce,zcf,zcg,zch,zci,zcj,zck,zcl,zcm,zcn,zco,zcp,zcq,zcr,zcs,zct,zcu,zcv,zcw,zcx,zcy,zcz,zda,zdb,zdc,zdd,guardV,nth,zde,zdf,zdg,zdh,zdi,Nat.reduceEqDiff,reduceIte,zdj,zdk,zdl,resultsA,RetO,Nat.reduceLT,zdm,zdn,zdo,zdp,zdq,zdr,zds,zdt,zdu,zdv,zdw,zdx,zdy,zdz,zea,zeb,zec,zed,zee,zef,zeg,zeh,zei,zej,zek,zel,zem,zen,zeo, d00, nilne_some u23, eql_bool, btt]
    exact hQ' _ _ ⟨prall.trans (pr7.le (by omega)), rfl⟩
end
end Go.Proofs.Ytlhpjnopkfndfaa.Ev
