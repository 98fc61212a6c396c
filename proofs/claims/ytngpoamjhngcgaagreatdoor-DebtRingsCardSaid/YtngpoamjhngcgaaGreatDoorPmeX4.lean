/- Balances. -/
import Derived.Test.YtngpoamjhngcgaaGreatDoorPmdQ6
import Derived.Test.YtngpoamjhngcgaaGreatDoorPmeX2
import Derived.Test.YtngpoamjhngcgaaGreatDoorPmeX3
set_option linter.unusedSimpArgs false
namespace Go.Proofs.YtngpoamjhngcgaaGreatDoor.Ev
open Go Go.Proofs
noncomputable section

theorem sm_bound {K : Int} (hK : 0 ≤ K) {f : Nat → Int} : ∀ n, (∀ i, i < n → 0 ≤ f i ∧ f i ≤ K) → 0 ≤ sm n f ∧ sm n f ≤ n * K
  | 0, _ => by simp [sm]
  | n + 1, h => by
    have h1 := sm_bound hK n fun i hi => h i (by omega)
    have h2 := h n (by omega)
    have e : ((n + 1 : Nat) : Int) * K = n * K + K := by rw [Int.natCast_add, Int.add_mul]; simp
    simp only [sm]
    omega
/-- what is owed to one, minus what it owes, when so much is counted -/
def bp (n : Nat) (f : Nat → Nat → Int) (I J k : Nat) : Int := (if k < I then sm n (f k) else if k = I then sm J (f I) else 0) - (sm I (fun i => f i k) + if k < J then f I k else 0)
theorem bp_zero {n k : Nat} {f : Nat → Nat → Int} : bp n f 0 0 k = 0 := by
  unfold bp
  by_cases h : k = 0 <;> simp [h, sm]
theorem bp_step {n I J k : Nat} {f : Nat → Nat → Int} : bp n f I (J + 1) k = (if k = J then (if k = I then bp n f I J k + f I J else bp n f I J k) - f I J else (if k = I then bp n f I J k + f I J else bp n f I J k)) := by
  unfold bp
  by_cases h1 : k < I
  · have h2 : ¬ k = I := by omega
    by_cases h3 : k = J
    · subst h3
      simp only [h1, h2, if_true, if_false, Nat.lt_irrefl, Nat.lt_succ_self]
      omega
    · by_cases h4 : k < J
      · simp only [h1, h2, h3, h4, show k < J + 1 by omega, if_true, if_false]
      · simp only [h1, h2, h3, h4, show ¬ k < J + 1 by omega, if_true, if_false]
  · by_cases h2 : k = I
    · subst h2
      by_cases h3 : k = J
      · subst h3
        simp only [Nat.lt_irrefl, if_true, if_false, Nat.lt_succ_self, sm]
        omega
      · by_cases h4 : k < J
        · simp only [Nat.lt_irrefl, h3, h4, show k < J + 1 by omega, if_true, if_false, sm]
          omega
        · simp only [Nat.lt_irrefl, h3, h4, show ¬ k < J + 1 by omega, if_true, if_false, sm]
          omega
    · by_cases h3 : k = J
      · subst h3
        simp only [h1, h2, Nat.lt_irrefl, if_true, if_false, Nat.lt_succ_self]
        omega
      · by_cases h4 : k < J
        · simp only [h1, h2, h3, h4, show k < J + 1 by omega, if_true, if_false]
        · simp only [h1, h2, h3, h4, show ¬ k < J + 1 by omega, if_true, if_false]
theorem bp_row {n I k : Nat} {f : Nat → Nat → Int} (hk : k < n) : bp n f I n k = bp n f (I + 1) 0 k := by
  unfold bp
  by_cases h1 : k < I
  · simp only [h1, hk, show k < I + 1 by omega, if_true, sm, Nat.not_lt_zero, if_false]
    omega
  · by_cases h2 : k = I
    · subst h2
      simp only [Nat.lt_irrefl, hk, Nat.lt_succ_self, if_true, sm, Nat.not_lt_zero, if_false]
      omega
    · by_cases h3 : k = I + 1
      · subst h3
        simp only [h1, h2, hk, Nat.lt_irrefl, if_true, sm, Nat.not_lt_zero, if_false]
        omega
      · simp only [h1, h2, h3, hk, show ¬ k < I + 1 by omega, if_true, sm, Nat.not_lt_zero, if_false]
        omega
theorem bp_all {n k : Nat} {f : Nat → Nat → Int} (hk : k < n) : bp n f n 0 k = bl n f k := by
  unfold bp bl
  simp only [hk, if_true, Nat.not_lt_zero, if_false]
  omega
theorem bp_bound {n I J k : Nat} {f : Nat → Nat → Int} (hn : n ≤ 8) (hI : I ≤ n) (hJ : J ≤ n) (hk : k < n) (hf : ∀ i j, i < n → j < n → 0 ≤ f i j ∧ f i j ≤ 1000) (hIJ : 0 < J → I < n) : -9000 ≤ bp n f I J k ∧ bp n f I J k ≤ 9000 := by
  have a1 := sm_bound (K := 1000) (by decide) (f := f k) n fun i hi => hf k i hk hi
  have a2 := sm_bound (K := 1000) (by decide) (f := fun i => f i k) I fun i hi => hf i k (by omega) hk
  have a3 : 0 ≤ sm J (f I) ∧ sm J (f I) ≤ 8000 := by
    by_cases hj : 0 < J
    · have := sm_bound (K := 1000) (by decide) (f := f I) J fun i hi => hf I i (hIJ hj) (by omega)
      omega
    · obtain rfl : J = 0 := by omega
      simp [sm]
  have a4 : 0 ≤ (if k < J then f I k else 0) ∧ (if k < J then f I k else 0) ≤ 1000 := by
    split
    · rename_i hj
      have := hf I k (hIJ (by omega)) hk
      omega
    · omega
  have a5 : 0 ≤ (if k < I then sm n (f k) else if k = I then sm J (f I) else 0) ∧ (if k < I then sm n (f k) else if k = I then sm J (f I) else 0) ≤ 8000 := by
    split
    · omega
    · split
      · exact a3
      · omega
  unfold bp
  omega

theorem SlV.ints_at' {B : Tr Blk} {lo hi n c b off j : Nat} {f : Nat → Int} (s : SlV B lo hi 1 n (intsL n f) (.slice (some ⟨b, off, none⟩) n c)) (hj : j < n) : loadv B b (off + j) = some (.int .i64 (f j)) := by
  obtain ⟨b', off', e, hld⟩ := s.ints_at (by omega)
  injection e with e
  injection e with e1 e2
  subst e1; subst e2
  exact hld j hj
theorem intsL_set {n R : Nat} {f : Nat → Int} {z : Int} (h : R < n) : (intsL n f).take R ++ [.int .i64 z] ++ (intsL n f).drop (R + 1) = intsL n fun r => if r = R then z else f r := by
  have e : (intsL n f).take R ++ [.int .i64 z] ++ (intsL n f).drop (R + 1) = (intsL n f).set R (.int .i64 z) := by
    rw [List.set_eq_take_append_cons_drop, if_pos (by rw [intsL_len]; exact h)]
    simp
  rw [e]
  apply List.ext_getElem?
  intro j
  rw [List.getElem?_set]
  by_cases hj : j < n
  · rw [intsL_get hj, intsL_len]
    by_cases e2 : R = j
    · subst e2
      simp [h, intsL_get h]
    · simp [e2, intsL_get hj, Ne.symm e2]
  · by_cases e2 : R = j
    · omega
    · simp only [e2, if_false]
      rw [List.getElem?_eq_none (by rw [intsL_len]; omega), List.getElem?_eq_none (by rw [intsL_len]; omega)]
theorem intsL_congr {n : Nat} {f f' : Nat → Int} (h : ∀ k, k < n → f k = f' k) : intsL n f = intsL n f' :=
  List.map_congr_left fun k hk => by rw [h k (List.mem_range.1 hk)]
theorem zeros_ints : ∀ n, zeros [.int .i64 0] n = intsL n fun _ => 0 := fun n => by
  apply List.ext_getElem?
  intro i
  by_cases h : i < n
  · rw [intsL_get h, zeros_get _ (by decide) n i (by simpa using h)]
    simp [Nat.mod_one]
  · rw [List.getElem?_eq_none (by rw [zeros_length]; simp; omega), List.getElem?_eq_none (by rw [intsL_len]; omega)]

section
variable {P : Program} {n : Nat} {ops : List Oper} {r tl : List Oper} {k : List Frm} {α : Tr Value} {h : H} {R : Rt} {ty : TypeId} {pos : String} {af : Array Edge}
/-- a number is stored in a slice of numbers -/
theorem At_setInt {G : Nat} {x y : Operand} {lo hi N b c i : Nat} {f : Nat → Int} {z : Int} (hx : ev (En G) h α x = some (.pointer (some ⟨b, 0 + i, none⟩))) (hy : ev (En G) h α y = some (.int .i64 z)) (hs : SlV h.blks lo hi 1 N (intsL N f) (.slice (some ⟨b, 0, none⟩) N c)) (hi' : i < N) (hG : G ≤ b)
    (hk : ∀ h', Sto h h' b (0 + i) [.int .i64 z] → SlV h'.blks lo hi 1 N (intsL N fun r => if r = i then z else f r) (.slice (some ⟨b, 0, none⟩) N c) → At P (En G) n ops false r tl k α h' R) :
    At P (En G) n ops false (⟨none, .store 3 x y, ty, pos, af, none⟩ :: r) tl k α h R := by
  cases hs with
  | mk gb glo ghi gsz gL gc =>
    refine At_store (inf := inf3) (b := b) (off := 0 + i) (v := .int .i64 z) i3 hx hy (by rw [size3]; rfl) rfl gb (by rw [size3]; omega) (by rw [En_G]; exact hG) fun h4 hs4 => ?_
    have e := hs4.slv (c := c) (.mk gb glo ghi gsz gL gc) (by show i + 1 ≤ N * 1; omega)
    have e2 : (Value.int .i64 z).cells.toList = [.int .i64 z] := rfl
    rw [e2, List.length_singleton, intsL_set hi'] at e
    exact hk h4 hs4 e
end

set_option maxHeartbeats 8000000 in
theorem balances_spec {G lo hi n c : Nat} {g : Nat → Nat} {f : Nat → Nat → Int} {RA : Nat → Option Addr} {rc : Nat → Nat} {A : Option Addr} {h : H} (hG : G ≤ h.next) (hm : MatV h.blks lo hi n g f RA rc (.slice A n c)) (hhi : hi ≤ h.next) (hn : n ≤ 8) (hg : ∀ i, i < n → g i = n) (hf : ∀ i j, i < n → j < n → 0 ≤ f i j ∧ f i j ≤ 1000) :
    Spec Tryz.prog (En G) 99 [.slice A n c] h fun v h' => v = .slice (some ⟨h.next, 0, none⟩) n n ∧ SlV h'.blks h.next h'.next 1 n (intsL n (bl n f)) v := by
  refine CallsE_enter (En_known (by decide)) (En_f.trans Tryz.func99) rfl ⟨Nat.le_of_ble_eq_true rfl, by decide⟩ fun Q' hQ' => ?_
  simp only [Tryz.f99, go_sem,reduceIte,Nat.reduceEqDiff,Nat.reduceLT, len22]
  refine At_make (k1 := .i64) (k2 := .i64) (l := n) (c := n) u23 i3 zero3 (by rw [size3, bytes3]; rfl) (by simp only [go_sem,reduceIte,Nat.reduceEqDiff,Nat.reduceLT]) (by simp only [go_sem,reduceIte,Nat.reduceEqDiff,Nat.reduceLT]) (Nat.le_refl _) (by rw [size3]; omega) (by omega) (by omega) fun h1 hn1 => ?_
  rw [size3] at hn1
  have n1 := hn1.next
  have hz := hn1.slv (n := n) (c := n) (by rw [zeros_length]; rfl)
  have hzz : zeros (Value.int IntKind.i64 0).cells.toList n = intsL n (bp n f 0 0) := (zeros_ints n).trans (intsL_congr fun k _ => bp_zero.symm)
  rw [hzz] at hz
  simp only [go_sem,reduceIte,Nat.reduceEqDiff,Nat.reduceLT, len22]
  refine WK_loopN (fun j α h2 => ∃ i : Nat, i + j = n ∧ α.get 3 = some (.slice (some ⟨h.next, 0, none⟩) n n) ∧ α.get 11 = some (.slice A n c) ∧ α.get 12 = some (.int .i64 n) ∧ α.get 13 = some (.int .i64 i) ∧
      SlV h2.blks h.next h1.next 1 n (intsL n (bp n f i 0)) (.slice (some ⟨h.next, 0, none⟩) n n) ∧ Pres h.next h h2 ∧ h1.next ≤ h2.next) n
    ⟨0, by omega, by simp only [go_sem,reduceIte,Nat.reduceEqDiff,Nat.reduceLT], by simp only [go_sem,reduceIte,Nat.reduceEqDiff,Nat.reduceLT], by simp only [go_sem,reduceIte,Nat.reduceEqDiff,Nat.reduceLT], by (simp only [go_sem,reduceIte,Nat.reduceEqDiff,Nat.reduceLT]) <;> rfl, hz.wide (by omega) (by omega), hn1.pres (Nat.le_refl _), Nat.le_refl _⟩ (by omega) ?_
  rintro J j α h2 ⟨i, hij, e3, e11, e12, e13, hsv, pr, hnx⟩ hJ
  by_cases hlt : (i : Int) < n
  · have hm2 : MatV h2.blks lo hi n g f RA rc (.slice A n c) := hm.mono fun b _ hb => pr.get b (by omega)
    obtain ⟨b, off, rfl, hld⟩ := hm2.at_ (by omega)
    have l1 := hld i (by omega)
    obtain ⟨b2, off2, hRA, _⟩ := (hm2.row i (by omega)).ints_at (by have := hg i (by omega); omega)
    rw [hRA] at l1
    have hgi := hg i (by omega)
    simp (disch := omega) only [go_sem,reduceIte,Nat.reduceEqDiff,Nat.reduceLT, e3, e11, e12, e13, hlt, len23, idxA22, load23, Int.toNat_natCast, Nat.mul_one, l1]
    refine WK_loopN (fun j' α h3 => ∃ i' : Nat, i' + j' = n ∧ α.get 3 = some (.slice (some ⟨h.next, 0, none⟩) n n) ∧ α.get 4 = some (.int .i64 i) ∧ α.get 11 = some (.slice (some ⟨b, off, none⟩) n c) ∧ α.get 12 = some (.int .i64 n) ∧ α.get 13 = some (.int .i64 i) ∧
        α.get 18 = some (.slice (some ⟨b2, off2, none⟩) (g i) (rc i)) ∧ α.get 19 = some (.int .i64 (g i)) ∧ α.get 20 = some (.int .i64 i') ∧
        SlV h3.blks h.next h1.next 1 n (intsL n (bp n f i i')) (.slice (some ⟨h.next, 0, none⟩) n n) ∧ Pres h.next h h3 ∧ h1.next ≤ h3.next) n
      ⟨0, by omega, by simp only [go_sem,reduceIte,Nat.reduceEqDiff,Nat.reduceLT, e3], by simp only [go_sem,reduceIte,Nat.reduceEqDiff,Nat.reduceLT], by simp only [go_sem,reduceIte,Nat.reduceEqDiff,Nat.reduceLT, e11], by simp only [go_sem,reduceIte,Nat.reduceEqDiff,Nat.reduceLT, e12], by simp only [go_sem,reduceIte,Nat.reduceEqDiff,Nat.reduceLT, e13], by simp only [go_sem,reduceIte,Nat.reduceEqDiff,Nat.reduceLT], by simp only [go_sem,reduceIte,Nat.reduceEqDiff,Nat.reduceLT], by (simp only [go_sem,reduceIte,Nat.reduceEqDiff,Nat.reduceLT]) <;> rfl, hsv, pr, hnx⟩ (by omega) ?_
    clear e3 e11 e12 e13 l1 hld hm2 hsv pr hnx
    rintro J' j' α h3 ⟨i', hij', e3, e4, e11, e12, e13, e18, e19, e20, hsv, pr, hnx⟩ hJ'
    by_cases hlt' : (i' : Int) < g i
    · have hm3 : MatV h3.blks lo hi n g f RA rc (.slice (some ⟨b, off, none⟩) n c) := hm.mono fun b _ hb => pr.get b (by omega)
      have hr := hm3.row i (by omega)
      rw [hRA] at hr
      have l3 := hr.ints_at' (j := i') (by omega)
      have l4 := hsv.ints_at' (j := i) (by omega)
      have b4 := bp_bound (I := i) (J := i') (k := i) hn (by omega) (by omega) (by omega) hf (fun _ => by omega)
      have b5 := bp_bound (I := i) (J := i') (k := i') hn (by omega) (by omega) (by omega) hf (fun _ => by omega)
      have b3 := hf i i' (by omega) (by omega)
      simp (disch := omega) only [go_sem,reduceIte,Nat.reduceEqDiff,Nat.reduceLT, e3, e4, e11, e12, e13, e18, e19, e20, hlt', idxA23, load3, Int.toNat_natCast, Nat.mul_one, l3, l4, wrap_i64]
      refine At_setInt (lo := h.next) (hi := h1.next) (f := bp n f i i') (z := bp n f i i' i + f i i') (N := n) (c := n) (b := h.next) (i := i) (by simp only [go_sem,reduceIte,Nat.reduceEqDiff,Nat.reduceLT]) (by simp only [go_sem,reduceIte,Nat.reduceEqDiff,Nat.reduceLT]) hsv (by omega) (by omega) fun h4 hs4 hsv4 => ?_
      have n4 := hs4.next
      have l5 := hsv4.ints_at' (j := i') (by omega)
      have b6 : -11000 ≤ (if i' = i then bp n f i i' i + f i i' else bp n f i i' i') ∧ (if i' = i then bp n f i i' i + f i i' else bp n f i i' i') ≤ 11000 := by split <;> omega
      simp (disch := omega) only [go_sem,reduceIte,Nat.reduceEqDiff,Nat.reduceLT, e3, idxA23, load3, Int.toNat_natCast, Nat.mul_one, l5, wrap_i64]
      refine At_setInt (lo := h.next) (hi := h1.next) (f := fun r => if r = i then bp n f i i' i + f i i' else bp n f i i' r) (z := (if i' = i then bp n f i i' i + f i i' else bp n f i i' i') - f i i') (N := n) (c := n) (b := h.next) (i := i') (by simp only [go_sem,reduceIte,Nat.reduceEqDiff,Nat.reduceLT]) (by simp only [go_sem,reduceIte,Nat.reduceEqDiff,Nat.reduceLT]) hsv4 (by omega) (by omega) fun h5 hs5 hsv5 => ?_
      have n5 := hs5.next
      have hfin : (intsL n fun r => if r = i' then (if i' = i then bp n f i i' i + f i i' else bp n f i i' i') - f i i' else if r = i then bp n f i i' i + f i i' else bp n f i i' r) = intsL n (bp n f i (i' + 1)) := intsL_congr fun k hk => by
        rw [bp_step]
        by_cases q1 : k = i'
        · subst q1
          simp only [if_true]
          by_cases q2 : k = i
          · subst q2; simp only [if_true]
          · simp only [q2, if_false]
        · simp only [q1, if_false]
          by_cases q2 : k = i
          · subst q2; simp only [if_true]
          · simp only [q2, if_false]
      rw [hfin] at hsv5
      simp (disch := omega) only [go_sem,reduceIte,Nat.reduceEqDiff,Nat.reduceLT, e20, wrap_i64]
      refine hJ' (n - (i' + 1)) _ _ (by omega) ⟨i' + 1, by omega, by simp only [go_sem,reduceIte,Nat.reduceEqDiff,Nat.reduceLT, e3], by simp only [go_sem,reduceIte,Nat.reduceEqDiff,Nat.reduceLT, e4], by simp only [go_sem,reduceIte,Nat.reduceEqDiff,Nat.reduceLT, e11], by simp only [go_sem,reduceIte,Nat.reduceEqDiff,Nat.reduceLT, e12], by simp only [go_sem,reduceIte,Nat.reduceEqDiff,Nat.reduceLT, e13], by simp only [go_sem,reduceIte,Nat.reduceEqDiff,Nat.reduceLT, e18], by simp only [go_sem,reduceIte,Nat.reduceEqDiff,Nat.reduceLT, e19], by (simp only [go_sem,reduceIte,Nat.reduceEqDiff,Nat.reduceLT]) <;> rfl, hsv5, (pr.trans (hs4.pres (Nat.le_refl _))).trans (hs5.pres (Nat.le_refl _)), by omega⟩
    · obtain rfl : i' = n := by omega
      rw [intsL_congr fun k hk => bp_row (f := f) (I := i) hk] at hsv
      simp (disch := omega) only [go_sem,reduceIte,Nat.reduceEqDiff,Nat.reduceLT, e13, e18, e19, e20, hlt', wrap_i64]
      refine hJ (i' - (i + 1)) _ _ (by omega) ⟨i + 1, by omega, by simp only [go_sem,reduceIte,Nat.reduceEqDiff,Nat.reduceLT, e3], by simp only [go_sem,reduceIte,Nat.reduceEqDiff,Nat.reduceLT, e11], by simp only [go_sem,reduceIte,Nat.reduceEqDiff,Nat.reduceLT, e12], by (simp only [go_sem,reduceIte,Nat.reduceEqDiff,Nat.reduceLT]) <;> rfl, hsv, pr, hnx⟩
  · obtain rfl : i = n := by omega
    rw [intsL_congr fun k hk => bp_all (f := f) hk] at hsv
    simp (disch := omega) only [go_sem,reduceIte,Nat.reduceEqDiff,Nat.reduceLT, e3, e11, e12, e13, hlt]
    exact hQ' _ _ ⟨pr, rfl, hsv.wide (Nat.le_refl _) hnx⟩
end
end Go.Proofs.YtngpoamjhngcgaaGreatDoor.Ev


