/- Turned jobs: mathematics. -/
import Derived.Test.YthiodndhokooiaaGreatDoorPmmP1
set_option linter.unusedSimpArgs false
namespace Go.Proofs.YthiodndhokooiaaGreatDoor.Ev
open Go Go.Proofs
noncomputable section

theorem Ord.before {bf : Nat → Nat} {n S : Nat} {l : List Nat} (h : Ord bf n l S) : ∀ l1 b l2, l = l1 ++ b :: l2 → ∀ a, (bf b).testBit a = true → a ∈ l1 := by
  induction h with
  | nil => intro l1 b l2 e; simp at e
  | @snoc l S j ho hj ih =>
    intro l1 b l2 e a ha
    rcases List.eq_nil_or_concat l2 with rfl | ⟨l2', x, rfl⟩
    · obtain ⟨e1, e2⟩ := List.append_inj' e rfl
      injection e2 with e2 _
      subst e1; subst e2
      exact (ho.mem a).2 (an_zero.1 (mem_rdy.1 hj).2.2 a ha)
    · have e' : l ++ [j] = (l1 ++ b :: l2') ++ [x] := by rw [e]; simp
      obtain ⟨e1, _⟩ := List.append_inj' e' rfl
      exact ih l1 b l2' e1 a ha
theorem ord_of {bf : Nat → Nat} {n : Nat} : ∀ (k : Nat) {l : List Nat}, l.length = k → l.Nodup → (∀ i ∈ l, i < n) → (∀ l1 b l2, l = l1 ++ b :: l2 → ∀ a, (bf b).testBit a = true → a ∈ l1) → Ord bf n l (addAll 0 l)
  | 0, l, hk, _, _, _ => by
    obtain rfl := List.length_eq_zero_iff.1 hk
    exact .nil
  | k + 1, l, hk, hn, hl, hb => by
    rcases List.eq_nil_or_concat l with rfl | ⟨l', j, rfl⟩
    · simp at hk
    · rw [List.concat_eq_append] at *
      rw [addAll_snoc]
      rw [List.nodup_append] at hn
      have hjn : j ∉ l' := fun h => hn.2.2 j h j (by simp) rfl
      refine .snoc (ord_of k (by simpa using hk) hn.1 (fun i hi => hl i (by simp [hi])) fun l1 b l2 e a ha => hb l1 b (l2 ++ [j]) (by rw [e]; simp) a ha) (mem_rdy.2 ⟨hl j (by simp), ?_, an_zero.2 fun a ha => ?_⟩)
      · rw [addAll_tb]; simp [hjn]
      · have := hb l' j [] (by simp) a ha
        rw [addAll_tb]; simp [this]
theorem addAll_all {n : Nat} {l : List Nat} (h : ∀ i, i ∈ l ↔ i < n) : addAll 0 l = 2 ^ n - 1 := by
  refine Nat.eq_of_testBit_eq fun i => ?_
  rw [addAll_tb, all_tb]
  by_cases e : i < n
  · simp [(h i).2 e, e]
  · have : ¬ i ∈ l := fun x => e ((h i).1 x)
    simp [this, e]
theorem turn_ord {bf bf' : Nat → Nat} {n : Nat} {l : List Nat} (hlt : ∀ j, bf' j < 2 ^ n) (hb : ∀ a b, a < n → b < n → ((bf b).testBit a = true ↔ (bf' a).testBit b = true)) (h : Ord bf n l (2 ^ n - 1)) : Ord bf' n l.reverse (2 ^ n - 1) := by
  have hm : ∀ i, i ∈ l ↔ i < n := fun i => by rw [h.mem, all_tb]; simp
  have e := addAll_all (n := n) (l := l.reverse) fun i => by rw [List.mem_reverse]; exact hm i
  rw [← e]
  refine ord_of _ rfl ((List.reverse_perm l).nodup_iff.2 h.nodup) (fun i hi => (hm i).1 (List.mem_reverse.1 hi)) fun l1 a l2 el b hab => ?_
  have el2 : l = l2.reverse ++ a :: l1.reverse := by
    have := congrArg List.reverse el
    simpa using this
  have han : a < n := (hm a).1 (by rw [el2]; simp)
  have hbn : b < n := by
    have h1 := hlt a
    rcases Nat.lt_or_ge b n with h2 | h2
    · exact h2
    · rw [Nat.testBit_lt_two_pow (Nat.lt_of_lt_of_le h1 (Nat.pow_le_pow_right (by omega) h2))] at hab
      cases hab
  have hba := (hb a b han hbn).2 hab
  have hbl := (hm b).2 hbn
  have hnd := h.nodup
  rw [el2, List.nodup_append] at hnd
  rw [el2, List.mem_append, List.mem_cons] at hbl
  rcases hbl with hbl | rfl | hbl
  · obtain ⟨m1, m2, em⟩ := List.append_of_mem hbl
    have h3 := h.before m1 b (m2 ++ a :: l1.reverse) (by rw [el2, em]; simp) a hba
    exact absurd rfl (hnd.2.2 a (by rw [em]; simp [h3]) a (by simp))
  · have h3 := h.before l2.reverse b l1.reverse el2 b hba
    exact absurd rfl (hnd.2.2 b h3 b (by simp))
  · exact List.mem_reverse.1 hbl
theorem ec_from {ln wt : Nat → Nat} : ∀ (l : List Nat) (e c : Nat), (l.foldl (fun s j => (s.1 + ln j, s.2 + wt j * (s.1 + ln j))) (e, c)).2 = c + e * (l.map wt).sum + cst ln wt l
  | [], e, c => by simp [cst, ec]
  | a :: l, e, c => by
    have h1 := ec_from (ln := ln) (wt := wt) l (e + ln a) (c + wt a * (e + ln a))
    have h2 := ec_from (ln := ln) (wt := wt) l (0 + ln a) (0 + wt a * (0 + ln a))
    have h3 : cst ln wt (a :: l) = (l.foldl (fun s j => (s.1 + ln j, s.2 + wt j * (s.1 + ln j))) (0 + ln a, 0 + wt a * (0 + ln a))).2 := rfl
    rw [List.foldl_cons, h1, h3, h2, List.map_cons, List.sum_cons]
    simp only [Nat.mul_add, Nat.add_mul, Nat.zero_add, Nat.zero_mul]
    rw [Nat.mul_comm (wt a) e]
    omega
theorem cst_cons {ln wt : Nat → Nat} {a : Nat} {l : List Nat} : cst ln wt (a :: l) = wt a * ln a + ln a * (l.map wt).sum + cst ln wt l := by
  have h3 : cst ln wt (a :: l) = (l.foldl (fun s j => (s.1 + ln j, s.2 + wt j * (s.1 + ln j))) (0 + ln a, 0 + wt a * (0 + ln a))).2 := rfl
  rw [h3, ec_from]
  simp
theorem cst_turn {ln wt : Nat → Nat} : ∀ l : List Nat, cst wt ln l.reverse = cst ln wt l
  | [] => rfl
  | a :: l => by
    rw [List.reverse_cons, cst_snoc, cst_turn l, cst_cons, List.map_reverse, List.sum_reverse]
    rw [Nat.mul_add, Nat.mul_comm (ln a) (wt a)]
    omega
theorem Ord.down {bf : Nat → Nat} {n S : Nat} {l : List Nat} (h : Ord bf n l S) : ∀ i, S.testBit i = true → an (bf i) S = 0 := by
  induction h with
  | nil => intro i hi; simp at hi
  | @snoc l S j ho hj ih =>
    intro i hi
    have hm : ∀ x, S.testBit x = true → (S ||| 2 ^ j).testBit x = true := fun x hx => by rw [or_tb, hx]; rfl
    rw [or_tb, Bool.or_eq_true, decide_eq_true_eq] at hi
    rcases hi with hi | rfl
    · exact an_mono (ih i hi) hm
    · exact an_mono (mem_rdy.1 hj).2.2 hm
theorem turn_cnt {bf bf' : Nat → Nat} {n : Nat} (hlt : ∀ j, bf j < 2 ^ n) (hlt' : ∀ j, bf' j < 2 ^ n) (hb : ∀ a b, a < n → b < n → ((bf b).testBit a = true ↔ (bf' a).testBit b = true)) (irr : ∀ j, j < n → (bf j).testBit j = false) :
    ∀ (k T : Nat), crd n T = k → T < 2 ^ n → (∀ i, T.testBit i = true → an (bf i) T = 0) → cnt bf n T = fwd bf' n k (an (2 ^ n - 1) T)
  | 0, T, hk, hT, _ => by
    have : T = 0 := by
      refine Nat.eq_of_testBit_eq fun i => ?_
      rw [Nat.zero_testBit]
      cases e : T.testBit i with
      | false => rfl
      | true =>
        by_cases hi : i < n
        · have := crd_or (S := an T (2 ^ i)) an_self hi
          rw [or_an e] at this
          omega
        · rw [Nat.testBit_lt_two_pow (Nat.lt_of_lt_of_le hT (Nat.pow_le_pow_right (by omega) (by omega)))] at e
          cases e
    subst this
    rfl
  | k + 1, T, hk, hT, hd => by
    have h0 : 0 < T := by
      rcases Nat.eq_zero_or_pos T with rfl | h
      · rw [crd_zero] at hk; cases hk
      · exact h
    rw [cnt_step h0 hT]
    show _ = ((rdy bf' n (an (2 ^ n - 1) T)).map fun j => fwd bf' n k (an (2 ^ n - 1) T ||| 2 ^ j)).sum
    rw [rdy_sum]
    refine sumR_congr fun j hj => ?_
    have hbit : (an (2 ^ n - 1) T).testBit j = !T.testBit j := by rw [an_tb, all_tb]; simp [hj]
    cases e : T.testBit j with
    | false =>
      rw [e] at hbit
      rw [if_neg (by simp), if_neg (by rw [hbit]; simp)]
    | true =>
      rw [e] at hbit
      have hc : an (bf j) (an T (2 ^ j)) = 0 := an_zero.2 fun a ha => by
        rw [an_two, an_zero.1 (hd j e) a ha]
        have : j ≠ a := fun h => by subst h; rw [irr j hj] at ha; cases ha
        simp [this]
      rw [if_pos ⟨rfl, hc⟩]
      have hTj : an T (2 ^ j) < 2 ^ n := Nat.lt_of_le_of_lt an_le hT
      by_cases D : ∀ i, (an T (2 ^ j)).testBit i = true → an (bf i) (an T (2 ^ j)) = 0
      · have hr : an (bf' j) (an (2 ^ n - 1) T) = 0 := an_zero.2 fun b hbj => by
          have hbn : b < n := by
            rcases Nat.lt_or_ge b n with h2 | h2
            · exact h2
            · rw [Nat.testBit_lt_two_pow (Nat.lt_of_lt_of_le (hlt' j) (Nat.pow_le_pow_right (by omega) h2))] at hbj
              cases hbj
          have hjb := (hb j b hj hbn).2 hbj
          rw [an_tb, all_tb]
          cases eb : T.testBit b with
          | false => simp [hbn]
          | true =>
            exfalso
            by_cases ebj : b = j
            · subst ebj; rw [irr b hbn] at hjb; cases hjb
            · have h1 : (an T (2 ^ j)).testBit b = true := by rw [an_two, eb]; simp [Ne.symm ebj]
              have h2 := an_zero.1 (D b h1) j hjb
              rw [an_self] at h2; cases h2
        rw [if_pos ⟨by rw [hbit]; rfl, hr⟩]
        have ee : an (2 ^ n - 1) T ||| 2 ^ j = an (2 ^ n - 1) (an T (2 ^ j)) := by
          refine Nat.eq_of_testBit_eq fun i => ?_
          rw [or_tb, an_tb, an_tb, an_two, all_tb]
          by_cases eij : j = i
          · subst eij; simp [hj]
          · simp [eij]
        rw [ee]
        exact turn_cnt hlt hlt' hb irr k (an T (2 ^ j)) (by have := crd_an e hj; omega) hTj D
      · have hz : cnt bf n (an T (2 ^ j)) = 0 := Classical.byContradiction fun hne => by
          obtain ⟨l, hl⟩ := (cnt_ne hTj).1 hne
          exact D hl.down
        rw [hz, if_neg]
        rintro ⟨_, hr⟩
        refine D fun i hi => an_zero.2 fun a ha => ?_
        rw [an_two] at hi
        simp only [Bool.and_eq_true, Bool.not_eq_true', decide_eq_false_iff_not] at hi
        have hin : i < n := by
          rcases Nat.lt_or_ge i n with h2 | h2
          · exact h2
          · have := hi.1
            rw [Nat.testBit_lt_two_pow (Nat.lt_of_lt_of_le hT (Nat.pow_le_pow_right (by omega) h2))] at this
            cases this
        rw [an_two, an_zero.1 (hd i hi.1) a ha]
        have haj : j ≠ a := fun h => by
          subst h
          have h1 := an_zero.1 hr i ((hb j i hj hin).1 ha)
          rw [an_tb, hi.1] at h1
          simp at h1
        simp [haj]
def swp (p : Int × Int) : Int × Int := (p.2, p.1)
theorem turn_law {js ps ks qs : List (Int × Int)} {o o' : List Nat} (hp : PlanOk js ps) (hks : ks = js.map swp) (hqs : qs = ps.map swp) (ho : IsBest js ps o) (ho' : IsBest ks qs o') :
    cst (lnJ js) (wtJ js) o = cst (lnJ ks) (wtJ ks) o' ∧ nOrd ps js.length = nOrd qs ks.length := by
  have hkl : ks.length = js.length := by rw [hks, List.length_map]
  have e1 : lnJ ks = wtJ js := by
    funext j
    unfold lnJ wtJ
    rw [hks]
    simp only [List.getD, List.getElem?_map]
    cases js[j]? <;> rfl
  have e2 : wtJ ks = lnJ js := by
    funext j
    unfold lnJ wtJ
    rw [hks]
    simp only [List.getD, List.getElem?_map]
    cases js[j]? <;> rfl
  have hok := List.all_eq_true.1 hp.ok
  have hokq : okP js.length qs = true := by
    unfold okP
    rw [hqs, List.all_eq_true]
    intro q hq
    obtain ⟨p, hpp, rfl⟩ := List.mem_map.1 hq
    have := hok p hpp
    rw [decide_eq_true_eq] at this ⊢
    exact ⟨this.2.2.1, this.2.2.2, this.1, this.2.1⟩
  have hb : ∀ a b, a < js.length → b < js.length → ((bfP ps b).testBit a = true ↔ (bfP qs a).testBit b = true) := fun a b _ _ => by
    rw [bfP_bit, bfP_bit]
    constructor
    · rintro ⟨p, hpp, h1, h2⟩
      have := hok p hpp
      rw [decide_eq_true_eq] at this
      exact ⟨swp p, by rw [hqs]; exact List.mem_map.2 ⟨p, hpp, rfl⟩, by show p.1 = _; omega, by show p.2.toNat = _; omega⟩
    · rintro ⟨q, hqq, h1, h2⟩
      rw [hqs] at hqq
      obtain ⟨p, hpp, rfl⟩ := List.mem_map.1 hqq
      have := hok p hpp
      rw [decide_eq_true_eq] at this
      have h1' : p.1 = (a : Int) := h1
      have h2' : p.2.toNat = b := h2
      exact ⟨p, hpp, by omega, by omega⟩
  have hl1 := ho.ord
  have hl2 := ho'.ord
  rw [hkl] at hl2
  refine ⟨?_, ?_⟩
  · have t1 := turn_ord (bfP_lt hokq) hb hl1
    have t2 := turn_ord (bf := bfP qs) (bf' := bfP ps) (bfP_lt hp.ok) (fun a b ha hb' => (hb b a hb' ha).symm) hl2
    have c1 := ho.least _ t2
    have c2 := ho'.least o.reverse (by rw [hkl]; exact t1)
    unfold cle at c1 c2
    rw [e1, e2, cst_turn] at c2
    have c3 := cst_turn (ln := lnJ js) (wt := wtJ js) o'.reverse
    rw [List.reverse_reverse] at c3
    rw [e1, e2]
    rw [← c3] at c1
    rcases c1 with c1 | ⟨c1, _⟩ <;> rcases c2 with c2 | ⟨c2, _⟩ <;> omega
  · rw [nOrd_fwd (ps := qs), hkl]
    have hpos := Nat.two_pow_pos js.length
    have irr : ∀ j, j < js.length → (bfP ps j).testBit j = false := fun j hj => by
      cases e : (bfP ps j).testBit j with
      | false => rfl
      | true =>
        obtain ⟨p, hpp, h1, h2⟩ := bfP_bit.1 e
        have := hok p hpp
        rw [decide_eq_true_eq] at this
        exact absurd hp.ord (no_self hpp (by omega) ⟨by omega, by omega⟩)
    obtain ⟨l, hl⟩ := hp.ord
    have := turn_cnt (bf := bfP ps) (bf' := bfP qs) (bfP_lt hp.ok) (bfP_lt hokq) hb irr js.length (2 ^ js.length - 1) crd_all (by omega) hl.down
    have ez : an (2 ^ js.length - 1) (2 ^ js.length - 1) = 0 := (an_all_zero (by omega)).2 rfl
    rw [ez] at this
    exact this
end
end Go.Proofs.YthiodndhokooiaaGreatDoor.Ev

