/- What the law StitchLattice asks. Mathematics alone. -/
import Derived.Test.YthankillfhmfkaaGreatDoorPmsT3
import Derived.Test.YthankillfhmfkaaGreatDoorPmsM2
set_option linter.unusedSimpArgs false
set_option linter.unusedVariables false
namespace Go.Proofs.YthankillfhmfkaaGreatDoor.Ev

theorem nx2_comm {cm : Nat → Nat → Bool} {K : Nat} {a b : List UInt8} : nx2 cm K a b = nx2 cm K b a := by
  unfold nx2
  congr 1
  funext x
  exact decide_eq_decide.2 and_comm
theorem mt_swap {cm : Nat → Nat → Bool} {K : Nat} : ∀ (n : Nat) {a b : List UInt8}, a.length = n → mt cm K b a = ((mt cm K a b).1, (mt cm K a b).2.2, (mt cm K a b).2.1) := by
  intro n
  induction n with
  | zero =>
    intro a b hn
    obtain rfl := List.eq_nil_of_length_eq_zero hn
    have e : nx2 cm K [] b = none := nx2_none.2 fun y _ h => absurd h.1 (by show ¬ (0 : Int) ≤ -1; decide)
    rw [mt_stop e, mt_stop (by rw [nx2_comm]; exact e)]
  | succ n ih =>
    intro a b hn
    cases e : nx2 cm K a b with
    | none => rw [mt_stop e, mt_stop (by rw [nx2_comm]; exact e)]
    | some x =>
      have hl := wo_len (at0_lt (nx2_some.1 e).2.1.1).1
      have e2 : nx2 cm K b a = some x := by rw [nx2_comm]; exact e
      rw [mt_step e, mt_step e2, ih (a := wo a (at0 cm x a)) (by omega)]
theorem allC_symm {cm : Nat → Nat → Bool} (hsym : ∀ a b, cm a b = cm b a) {a b : List UInt8} : allC cm a b = allC cm b a := by
  rw [Bool.eq_iff_iff, allC_iff, allC_iff]
  exact ⟨fun h x hx y hy => by rw [hsym]; exact h y hy x hx, fun h x hx y hy => by rw [hsym]; exact h y hy x hx⟩
theorem pass_sw {cm : Nat → Nat → Bool} (hsym : ∀ a b, cm a b = cm b a) {c : UInt8} : ∀ (z : List UInt8), (∀ d ∈ z, cm (lt c) (lt d) = true ∧ lt c ≠ lt d) → Sw cm (c :: z) (z ++ [c])
  | [], _ => .refl _
  | d :: z, h => by
    obtain ⟨h1, h2⟩ := h d List.mem_cons_self
    exact (Sw.swap c d z h2 h1 (by rw [hsym]; exact h1)).trans (.cons d (pass_sw hsym z fun e he => h e (List.mem_cons_of_mem _ he)))
theorem allC_sw {cm : Nat → Nat → Bool} (hsym : ∀ a b, cm a b = cm b a) (hirr : ∀ a, cm a a = false) : ∀ (y z : List UInt8), allC cm y z = true → Sw cm (y ++ z) (z ++ y)
  | [], z, _ => by rw [List.append_nil]; exact .refl _
  | c :: y, z, h => by
    rw [allC_iff] at h
    have h1 : Sw cm (y ++ z) (z ++ y) := allC_sw hsym hirr y z (allC_iff.2 fun x hx => h x (List.mem_cons_of_mem _ hx))
    have h2 := pass_sw hsym (c := c) z fun d hd => by
      have hc := h c List.mem_cons_self d hd
      exact ⟨hc, fun e => by rw [e, hirr] at hc; cases hc⟩
    have h3 := h2.right y
    rw [List.append_assoc] at h3
    exact (Sw.cons c h1).trans h3

theorem mt_hno {cm : Nat → Nat → Bool} {a b : List UInt8} (ha : OkL 6 a) (h : nx2 cm 6 a b = none) : ∀ d, ¬ (er cm d a ≠ none ∧ er cm d b ≠ none) := fun d hd => by
  have hd1 := er_iff.2 hd.1
  obtain ⟨j, c, g1, g2, g3, g4⟩ := fg_pos hd1
  have hc := ha c (List.mem_of_getElem? g3)
  exact nx2_none.1 h d (by unfold lt at g4; omega) ⟨hd1, er_iff.2 hd.2⟩
theorem er_sw_ne {cm : Nat → Nat → Bool} {a b : List UInt8} (h : Sw cm a b) {d : Nat} (hd : er cm d a ≠ none) : er cm d b ≠ none := by
  rcases h.er (y := d) with ⟨e1, _⟩ | ⟨p, q, _, e2, _⟩
  · exact absurd e1 hd
  · rw [e2]; exact fun e => (by cases e)
theorem nx2_sw {cm : Nat → Nat → Bool} {a a' b b' : List UInt8} (ha : Sw cm a a') (hb : Sw cm b b') (h : nx2 cm 6 a b = none) : nx2 cm 6 a' b' = none :=
  nx2_none.2 fun y hy hf => nx2_none.1 h y hy ⟨er_iff.2 (er_sw_ne ha.symm (er_iff.1 hf.1)), er_iff.2 (er_sw_ne hb.symm (er_iff.1 hf.2))⟩

/-- a seam that begins two begins their greedy common beginning -/
theorem meet_div {cm : Nat → Nat → Bool} (hsym : ∀ a b, cm a b = cm b a) {a s' t' s t : List UInt8} (ha : OkL 6 a) (hs : OkL 6 s) (ht : OkL 6 t) (hs' : OkL 6 s') (ht' : OkL 6 t') (h1 : Sw cm (a ++ s') s) (h2 : Sw cm (a ++ t') t) :
    ∃ w, takeB cm a (mt cm 6 s t).1 = some w := by
  have hok := mt_ok (cm := cm) (K := 6) (Nat.le_refl 6) _ rfl hs ht
  have hnn := mt_none (cm := cm) (K := 6) _ (a := s) (b := t) rfl
  obtain ⟨r, hr⟩ : ∃ r, mt cm 6 s t = r := ⟨_, rfl⟩
  rw [hr] at hok hnn ⊢
  have b1 := takeB_back hsym _ _ _ hok.o1 hs hok.t1
  have b2 := takeB_back hsym _ _ _ hok.o1 ht hok.t2
  have qok := mt_ok (cm := cm) (K := 6) (Nat.le_refl 6) _ rfl hok.o1 ha
  have qnn := mt_none (cm := cm) (K := 6) _ (a := r.1) (b := a) rfl
  obtain ⟨q, hq⟩ : ∃ q, mt cm 6 r.1 a = q := ⟨_, rfl⟩
  rw [hq] at qok qnn
  have c1 := takeB_back hsym _ _ _ qok.o1 hok.o1 qok.t1
  have c2 := takeB_back hsym _ _ _ qok.o1 ha qok.t2
  have hno := mt_hno qok.o2 qnn
  have go : ∀ (u x y : List UInt8), OkL 6 x → Sw cm y (r.1 ++ u) → Sw cm (a ++ x) y → ∃ w, Sw cm u (q.2.2 ++ w) := fun u x y hx g1 g2 => by
    have g3 : Sw cm (q.1 ++ (q.2.1 ++ u)) (q.1 ++ (q.2.2 ++ x)) := by
      rw [← List.append_assoc, ← List.append_assoc]
      exact ((c1.symm.right u).trans g1.symm).trans (g2.symm.trans (c2.right x))
    obtain ⟨_, w, w1, _⟩ := levi hsym _ _ _ _ qok.o2 hx hno g3.cancel
    exact ⟨w, w1⟩
  obtain ⟨w1, hw1⟩ := go _ _ _ hs' b1 h1
  obtain ⟨w2, hw2⟩ := go _ _ _ ht' b2 h2
  have hz : q.2.2 = [] := by
    cases e : q.2.2 with
    | nil => rfl
    | cons c z =>
      exfalso
      rw [e, List.cons_append] at hw1 hw2
      have hf : ∀ l, er cm (lt c) (c :: l) ≠ none := fun l h => by
        unfold er at h
        rw [if_pos rfl] at h
        cases h
      have hc := qok.o3 c (by rw [e]; exact List.mem_cons_self)
      exact nx2_none.1 hnn (lt c) (by unfold lt; omega) ⟨er_iff.2 (er_sw_ne hw1.symm (hf _)), er_iff.2 (er_sw_ne hw2.symm (hf _))⟩
  rw [hz, List.append_nil] at c2
  obtain ⟨w, hw, _⟩ := takeB_sw a ((c2.right q.2.1).trans c1.symm)
  exact ⟨w, hw⟩

/-- the greedy common beginning with a seam that it begins is its least form -/
theorem mt_begin {cm : Nat → Nat → Bool} {K : Nat} : ∀ (n : Nat) {s j z : List UInt8}, s.length = n → Sw cm (s ++ z) j → (mt cm K s j).1 = lst cm K s := by
  intro n
  induction n with
  | zero =>
    intro s j z hn h
    obtain rfl := List.eq_nil_of_length_eq_zero hn
    rfl
  | succ n ih =>
    intro s j z hn h
    cases e : nx cm K s with
    | none => rw [mt_stop (nx2_none.2 fun y hy hf => nx_none.1 e y hy hf.1), lst_stop e]
    | some x =>
      obtain ⟨h1, h2, h3⟩ := nx_some.1 e
      have e1 := er_append _ _ z (er_some h2)
      rcases h.er (y := x) with ⟨g1, _⟩ | ⟨p, q, g1, g2, g3⟩
      · rw [e1] at g1; cases g1
      · rw [e1] at g1
        cases g1
        have hj : 0 ≤ fg cm x j 0 := er_iff.2 (by rw [g2]; exact fun e => (by cases e))
        rw [er_some hj] at g2
        cases g2
        have hl := wo_len (at0_lt h2).1
        have e2 : nx2 cm K s j = some x := nx2_some.2 ⟨h1, ⟨h2, hj⟩, fun y hy hf => h3 y hy hf.1⟩
        rw [mt_step e2, lst_step e, ih (by omega) g3]

/-- all that the law asks -/
theorem lat_law {cm : Nat → Nat → Bool} (hsym : ∀ a b, cm a b = cm b a) (hirr : ∀ a, cm a a = false) {a s' t' s t : List UInt8} (ha : OkL 6 a) (hs : OkL 6 s) (ht : OkL 6 t) (hs' : OkL 6 s') (ht' : OkL 6 t') (h1 : Sw cm (a ++ s') s) (h2 : Sw cm (a ++ t') t) :
    (mt cm 6 t s) = ((mt cm 6 s t).1, (mt cm 6 s t).2.2, (mt cm 6 s t).2.1) ∧ (∃ w, takeB cm a (mt cm 6 s t).1 = some w) ∧
    mt cm 6 (lst cm 6 (mt cm 6 s t).2.1) (lst cm 6 (mt cm 6 s t).2.2) = ([], lst cm 6 (mt cm 6 s t).2.1, lst cm 6 (mt cm 6 s t).2.2) ∧
    (allC cm (mt cm 6 s t).2.1 (mt cm 6 s t).2.2 = true → joinL cm 6 (mt cm 6 t s) = joinL cm 6 (mt cm 6 s t) ∧ (joinL cm 6 (mt cm 6 s t)).length + (mt cm 6 s t).1.length = s.length + t.length ∧
      (∃ w, takeB cm s (joinL cm 6 (mt cm 6 s t)) = some w) ∧ (∃ w, takeB cm t (joinL cm 6 (mt cm 6 s t)) = some w) ∧ (mt cm 6 s (joinL cm 6 (mt cm 6 s t))).1 = lst cm 6 s) := by
  have hdiv := meet_div hsym ha hs ht hs' ht' h1 h2
  have hok := mt_ok (cm := cm) (K := 6) (Nat.le_refl 6) _ rfl hs ht
  have hnn := mt_none (cm := cm) (K := 6) _ (a := s) (b := t) rfl
  have hswp := mt_swap (cm := cm) (K := 6) _ (a := s) (b := t) rfl
  rw [hswp]
  obtain ⟨r, hr⟩ : ∃ r, mt cm 6 s t = r := ⟨_, rfl⟩
  rw [hr] at hok hnn hdiv ⊢
  have b1 := takeB_back hsym _ _ _ hok.o1 hs hok.t1
  have b2 := takeB_back hsym _ _ _ hok.o1 ht hok.t2
  have sy := lst_sw hsym _ r.2.1 rfl hok.o2
  have sz := lst_sw hsym _ r.2.2 rfl hok.o3
  refine ⟨rfl, hdiv, mt_stop (nx2_sw sy sz hnn), fun hall => ?_⟩
  have oall : OkL 6 ((r.1 ++ r.2.1) ++ r.2.2) := (hok.o1.append' hok.o2).append' hok.o3
  have hj : Sw cm ((r.1 ++ r.2.1) ++ r.2.2) (joinL cm 6 r) := lst_sw hsym _ _ rfl oall
  have hcomm : Sw cm ((r.1 ++ r.2.1) ++ r.2.2) ((r.1 ++ r.2.2) ++ r.2.1) := by
    rw [List.append_assoc, List.append_assoc]
    exact (allC_sw hsym hirr _ _ hall).left r.1
  have hsj : Sw cm (s ++ r.2.2) (joinL cm 6 r) := (b1.right r.2.2).trans hj
  have htj : Sw cm (t ++ r.2.1) (joinL cm 6 r) := (b2.right r.2.1).trans (hcomm.symm.trans hj)
  refine ⟨(Sw.lst' hcomm).symm, ?_, ?_, ?_, mt_begin _ rfl hsj⟩
  · have l1 := hj.len
    have l2 := b1.len
    have l3 := b2.len
    simp only [List.length_append] at l1 l2 l3
    omega
  · obtain ⟨w, hw, _⟩ := takeB_sw s hsj; exact ⟨w, hw⟩
  · obtain ⟨w, hw, _⟩ := takeB_sw t htj; exact ⟨w, hw⟩
end Go.Proofs.YthankillfhmfkaaGreatDoor.Ev


