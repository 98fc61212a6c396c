/- What is the least part; mirrored within its rectangle it makes a cut again. Mathematics alone. -/
import Derived.Test.YtnhbkoeomefkdaaDoorPmhNN
import Derived.Test.YtnhbkoeomefkdaaDoorPmhA7
set_option linter.unusedVariables false
set_option linter.unusedSimpArgs false
namespace Go.Proofs.YtnhbkoeomefkdaaDoor.Ev.L
open Go Go.Proofs.YtnhbkoeomefkdaaDoor.Ev
noncomputable section

/-- a part is that of two squares, and neither empty nor all -/
def IsPart (O : List Sq) (P : List Int) : Prop := P = [] ∨ ∃ f l, f ∈ O ∧ l ∈ O ∧ f ≠ l ∧ P = btw O f l ∧ P ≠ [] ∧ P.length ≠ O.length
theorem stp_part {O : List Sq} {P : List Int} {f l : Sq} (h : IsPart O P) (hf : f ∈ O) (hl : l ∈ O) (hfl : f ≠ l) : IsPart O (stp O P (btw O f l)) := by
  unfold stp
  split
  · exact h
  · rename_i hn
    split
    · exact .inr ⟨f, l, hf, hl, hfl, rfl, fun e => hn (.inl e), fun e => hn (.inr e)⟩
    · exact h
theorem getD_mem {O : List Sq} {k : Nat} (h : k < O.length) : O.getD k (0, 0, 0) ∈ O := by
  rw [List.getD, List.getElem?_eq_getElem h]
  exact List.getElem_mem h
theorem inn_part {O : List Sq} {f : Sq} (hf : f ∈ O) : ∀ (k : Nat) (P : List Int), k ≤ O.length → IsPart O P → IsPart O (inn O f k P)
  | 0, _, _, h => h
  | k + 1, P, hk, h => by
    have ih := inn_part hf k P (by omega) h
    rw [inn]
    split
    · exact ih
    · rename_i hn
      exact stp_part ih hf (getD_mem (by omega)) hn
theorem outr_part {O : List Sq} : ∀ i, i ≤ O.length → IsPart O (outr O i)
  | 0, _ => .inl rfl
  | i + 1, h => inn_part (getD_mem (by omega)) _ _ (Nat.le_refl _) (outr_part i (by omega))

theorem apart_of {O : List Sq} (h : O.Pairwise fun a b => ¬ ovl a b) {a b : Sq} (ha : a ∈ O) (hb : b ∈ O) (hne : a ≠ b) : ¬ ovl a b := by
  obtain ⟨i, hi, rfl⟩ := List.mem_iff_getElem.1 ha
  obtain ⟨j, hj, rfl⟩ := List.mem_iff_getElem.1 hb
  rcases Nat.lt_trichotomy i j with g | g | g
  · exact List.pairwise_iff_getElem.1 h i j hi hj g
  · subst g; exact absurd rfl hne
  · exact fun ho => List.pairwise_iff_getElem.1 h j i hj hi g (ovl_symm ho)

theorem insB_iff {f l q : Sq} : insB f l q = true ↔ f.1 ≤ q.1 ∧ f.2.1 ≤ q.2.1 ∧ q.1 + q.2.2 ≤ l.1 + l.2.2 ∧ q.2.1 + q.2.2 ≤ l.2.1 + l.2.2 := by
  unfold insB
  simp only [Bool.and_eq_true, decide_eq_true_eq]
  omega
/-- the part of two squares fills their rectangle -/
structure PartOf (O : List Sq) (f l : Sq) : Prop where
  fm : f ∈ O
  lm : l ∈ O
  ne : f ≠ l
  w : f.1 < l.1 + l.2.2
  h : f.2.1 < l.2.1 + l.2.2
  fill : ∀ x y : Nat, f.1 ≤ x → (x : Int) < l.1 + l.2.2 → f.2.1 ≤ y → (y : Int) < l.2.1 + l.2.2 → ∃ q ∈ O, insB f l q = true ∧ ins q x y

theorem inP_mem {f l : Sq} {O : List Sq} {k : Nat} {z : Int} : z ∈ inP f l O k ↔ ∃ i : Nat, i < k ∧ insB f l (O.getD i (0, 0, 0)) = true ∧ z = i := by
  unfold inP
  rw [List.mem_map]
  constructor
  · rintro ⟨i, hi, rfl⟩
    obtain ⟨h1, h2⟩ := List.mem_filter.1 hi
    exact ⟨i, List.mem_range.1 h1, h2, rfl⟩
  · rintro ⟨i, h1, h2, rfl⟩
    exact ⟨i, List.mem_filter.2 ⟨List.mem_range.2 h1, h2⟩, rfl⟩
theorem are_map {g : Sq → Sq} (h : ∀ q, (g q).2.2 = q.2.2) : ∀ L : List Sq, are (L.map g) = are L
  | [] => rfl
  | q :: L => by rw [List.map_cons, are_cons, are_cons, are_map h L, h q]
theorem btw_part {O : List Sq} {w h : Nat} (k : Mk O w h) (hw : w ≤ 1000) (hh : h ≤ 1000) {f l : Sq} (hf : f ∈ O) (hl : l ∈ O) (hfl : f ≠ l) (hne : btw O f l ≠ []) : PartOf O f l ∧ btw O f l = inP f l O O.length := by
  have hb : rectA f l - are (O.filter (insB f l)) = 0 := Classical.byContradiction fun hn => hne (if_pos hn)
  have e : btw O f l = inP f l O O.length := if_neg fun hn => hn hb
  rw [e] at hne
  obtain ⟨z, hz⟩ := List.exists_mem_of_ne_nil _ hne
  obtain ⟨i, hi, hin, _⟩ := inP_mem.1 hz
  have hq := getD_mem hi
  obtain ⟨c1, c2, c3, c4⟩ := insB_iff.1 hin
  obtain ⟨a1, a2, a3, a4, a5⟩ := k.inn _ hq
  obtain ⟨f1, f2, f3, f4, f5⟩ := k.inn f hf
  obtain ⟨l1, l2, l3, l4, l5⟩ := k.inn l hl
  refine ⟨⟨hf, hl, hfl, by omega, by omega, fun x y hx1 hx2 hy1 hy2 => ?_⟩, e⟩
  obtain ⟨W, hW⟩ : ∃ W : Nat, l.1 + l.2.2 - f.1 = W := ⟨(l.1 + l.2.2 - f.1).toNat, by omega⟩
  obtain ⟨H, hH⟩ : ∃ H : Nat, l.2.1 + l.2.2 - f.2.1 = H := ⟨(l.2.1 + l.2.2 - f.2.1).toNat, by omega⟩
  let g : Sq → Sq := fun q => (q.1 - f.1, q.2.1 - f.2.1, q.2.2)
  have hcov := covered (L := (O.filter (insB f l)).map g) (W := W) (H := H) (x := ((x : Int) - f.1).toNat) (y := ((y : Int) - f.2.1).toNat) (fun q hq => by
      obtain ⟨p, hp, rfl⟩ := List.mem_map.1 hq
      obtain ⟨hp1, hp2⟩ := List.mem_filter.1 hp
      obtain ⟨d1, d2, d3, d4⟩ := insB_iff.1 hp2
      obtain ⟨b1, b2, b3, b4, b5⟩ := k.inn p hp1
      refine ⟨⟨b1, ?_, ⟨?_, ?_⟩, ?_, ?_⟩, ?_, ?_⟩ <;> simp only [g] <;> omega) (List.pairwise_map.2 ((k.pw.filter _).imp fun {a b} hn ho => hn (by
      obtain ⟨o1, o2, o3, o4⟩ := ho
      simp only [g] at o1 o2 o3 o4
      exact ⟨by omega, by omega, by omega, by omega⟩))) (by
      rw [are_map (g := g) (fun q => rfl)]
      unfold rectA at hb
      rw [hW, hH] at hb
      omega) (by omega) (by omega)
  obtain ⟨q, hq, ⟨i1, i2⟩, i3, i4⟩ := hcov
  obtain ⟨p, hp, rfl⟩ := List.mem_map.1 hq
  obtain ⟨hp1, hp2⟩ := List.mem_filter.1 hp
  simp only [g] at i1 i2 i3 i4
  exact ⟨p, hp1, hp2, ⟨by omega, by omega⟩, by omega, by omega⟩

/-- the part's ends -/
theorem part_ends {O : List Sq} {w h : Nat} (k : Mk O w h) {f l : Sq} (p : PartOf O f l) : insB f l f = true ∧ insB f l l = true := by
  obtain ⟨f1, f2, f3, f4, f5⟩ := k.inn f p.fm
  obtain ⟨l1, l2, l3, l4, l5⟩ := k.inn l p.lm
  have hw := p.w
  have hh := p.h
  obtain ⟨x, hx⟩ : ∃ x : Nat, (x : Int) = f.1 := ⟨f.1.toNat, by omega⟩
  obtain ⟨y, hy⟩ : ∃ y : Nat, (y : Int) = f.2.1 := ⟨f.2.1.toNat, by omega⟩
  obtain ⟨x', hx'⟩ : ∃ x : Nat, (x : Int) = l.1 + l.2.2 - 1 := ⟨(l.1 + l.2.2 - 1).toNat, by omega⟩
  obtain ⟨y', hy'⟩ : ∃ y : Nat, (y : Int) = l.2.1 + l.2.2 - 1 := ⟨(l.2.1 + l.2.2 - 1).toNat, by omega⟩
  constructor
  · obtain ⟨q, hq, iq, hi⟩ := p.fill x y (by omega) (by omega) (by omega) (by omega)
    have : q = f := Classical.byContradiction fun hn => apart_of k.pw hq p.fm hn (ins_ovl hi ⟨⟨by omega, by omega⟩, by omega, by omega⟩)
    rw [← this]
    rw [this] at iq ⊢
    exact iq
  · obtain ⟨q, hq, iq, hi⟩ := p.fill x' y' (by omega) (by omega) (by omega) (by omega)
    have : q = l := Classical.byContradiction fun hn => apart_of k.pw hq p.lm hn (ins_ovl hi ⟨⟨by omega, by omega⟩, by omega, by omega⟩)
    rw [this] at iq
    exact iq
end
end Go.Proofs.YtnhbkoeomefkdaaDoor.Ev.L

/- The least part is less than every other. Mathematics alone. -/
set_option linter.unusedVariables false
set_option linter.unusedSimpArgs false
namespace Go.Proofs.YtnhbkoeomefkdaaDoor.Ev.L
open Go Go.Proofs.YtnhbkoeomefkdaaDoor.Ev
noncomputable section

theorem cmp_lt {a b : Int} : cmp a b < 0 ↔ a < b := by
  unfold cmp
  repeat' split
  all_goals constructor <;> intro h <;> omega
theorem cmpL_self : ∀ l : List Int, cmpL l l = 0
  | [] => rfl
  | a :: l => by rw [cmpL, if_neg fun h => h (cmp_zero.2 rfl), cmpL_self l]
theorem cmpL_tr : ∀ {l m k : List Int}, cmpL l m < 0 → cmpL m k < 0 → cmpL l k < 0
  | [], [], _, h, _ => by cases h
  | [], _ :: _, [], _, h => by cases h
  | [], _ :: _, _ :: _, _, _ => by show (-1 : Int) < 0; decide
  | _ :: _, [], _, h, _ => by cases h
  | a :: l, b :: m, [], _, h => by cases h
  | a :: l, b :: m, c :: k, h1, h2 => by
    rw [cmpL] at h1 h2 ⊢
    by_cases e1 : a = b
    · subst e1
      rw [if_neg fun h => h (cmp_zero.2 rfl)] at h1
      by_cases e2 : a = c
      · subst e2
        rw [if_neg fun h => h (cmp_zero.2 rfl)] at h2 ⊢
        exact cmpL_tr h1 h2
      · rw [if_pos fun h => e2 (cmp_zero.1 h)] at h2 ⊢
        exact h2
    · rw [if_pos fun h => e1 (cmp_zero.1 h), cmp_lt] at h1
      by_cases e2 : b = c
      · subst e2
        rw [if_pos fun h => e1 (cmp_zero.1 h), cmp_lt]
        exact h1
      · rw [if_pos fun h => e2 (cmp_zero.1 h), cmp_lt] at h2
        have : a < c := by omega
        rw [if_pos fun h => by have := cmp_zero.1 h; omega, cmp_lt]
        exact this
theorem cmpL_tot : ∀ {l m : List Int}, ¬ cmpL l m < 0 → l ≠ m → cmpL m l < 0
  | [], [], _, h => absurd rfl h
  | [], _ :: _, h, _ => absurd (by show (-1 : Int) < 0; decide) h
  | _ :: _, [], _, _ => by show (-1 : Int) < 0; decide
  | a :: l, b :: m, h, hne => by
    rw [cmpL] at h ⊢
    by_cases e1 : a = b
    · subst e1
      rw [if_neg fun h => h (cmp_zero.2 rfl)] at h ⊢
      exact cmpL_tot h fun e => hne (by rw [e])
    · rw [if_pos fun h => e1 (cmp_zero.1 h), cmp_lt] at h
      rw [if_pos fun h => e1 (cmp_zero.1 h).symm, cmp_lt]
      omega
theorem cmpP_lt {l m : List Int} : cmpP l m < 0 ↔ l.length < m.length ∨ (l.length = m.length ∧ cmpL l m < 0) := by
  unfold cmpP
  by_cases e : (l.length : Int) = (m.length : Int)
  · rw [if_neg fun h => h (cmp_zero.2 e)]
    omega
  · rw [if_pos fun h => e (cmp_zero.1 h), cmp_lt]
    omega
theorem cmpP_self {l : List Int} : ¬ cmpP l l < 0 := by
  rw [cmpP_lt, cmpL_self]
  omega
theorem cmpP_tr {l m k : List Int} (h1 : cmpP l m < 0) (h2 : cmpP m k < 0) : cmpP l k < 0 := by
  rw [cmpP_lt] at *
  rcases h1 with h1 | ⟨h1, g1⟩ <;> rcases h2 with h2 | ⟨h2, g2⟩
  · exact .inl (by omega)
  · exact .inl (by omega)
  · exact .inl (by omega)
  · exact .inr ⟨by omega, cmpL_tr g1 g2⟩
theorem cmpP_tot {l m : List Int} (h : ¬ cmpP l m < 0) (hne : l ≠ m) : cmpP m l < 0 := by
  rw [cmpP_lt] at *
  by_cases e : l.length = m.length
  · exact .inr ⟨e.symm, cmpL_tot (fun g => h (.inr ⟨e, g⟩)) hne⟩
  · exact .inl (by omega)
/-- no part that was seen is less -/
def NoLess (O : List Sq) (lst P : List Int) : Prop := P = [] ∨ P.length = O.length ∨ (lst ≠ [] ∧ ¬ cmpP P lst < 0)
theorem stp_less {O : List Sq} {lst P : List Int} : NoLess O (stp O lst P) P := by
  unfold stp NoLess
  by_cases h1 : P = [] ∨ P.length = O.length
  · rcases h1 with h1 | h1
    · exact .inl h1
    · exact .inr (.inl h1)
  · rw [if_neg h1]
    by_cases h2 : lst = [] ∨ cmpP P lst < 0
    · rw [if_pos h2]
      exact .inr (.inr ⟨fun e => h1 (.inl e), cmpP_self⟩)
    · rw [if_neg h2]
      exact .inr (.inr ⟨fun e => h2 (.inl e), fun e => h2 (.inr e)⟩)
theorem stp_keep {O : List Sq} {lst P Q : List Int} (h : NoLess O lst Q) : NoLess O (stp O lst P) Q := by
  unfold stp
  split
  · exact h
  · rename_i hn
    split
    · rename_i hc
      rcases h with h | h | ⟨h, g⟩
      · exact .inl h
      · exact .inr (.inl h)
      · refine .inr (.inr ⟨fun e => hn (.inl e), fun e => ?_⟩)
        rcases hc with hc | hc
        · exact h hc
        · exact g (cmpP_tr e hc)
    · exact h
theorem inn_keep {O : List Sq} {f : Sq} {Q : List Int} : ∀ (k : Nat) {lst : List Int}, NoLess O lst Q → NoLess O (inn O f k lst) Q
  | 0, _, h => h
  | k + 1, _, h => by
    rw [inn]
    split
    · exact inn_keep k h
    · exact stp_keep (inn_keep k h)
theorem inn_less {O : List Sq} {f : Sq} {lst : List Int} : ∀ (k j : Nat), j < k → f ≠ O.getD j (0, 0, 0) → NoLess O (inn O f k lst) (btw O f (O.getD j (0, 0, 0)))
  | k + 1, j, hj, hne => by
    rw [inn]
    by_cases hjk : j = k
    · subst hjk
      rw [if_neg hne]
      exact stp_less
    · have ih := inn_less k j (by omega) hne (lst := lst)
      split
      · exact ih
      · exact stp_keep ih
theorem outr_less {O : List Sq} : ∀ (k i j : Nat), i < k → j < O.length → O.getD i (0, 0, 0) ≠ O.getD j (0, 0, 0) → NoLess O (outr O k) (btw O (O.getD i (0, 0, 0)) (O.getD j (0, 0, 0)))
  | k + 1, i, j, hi, hj, hne => by
    rw [outr]
    by_cases hik : i = k
    · subst hik
      exact inn_less _ j hj hne
    · exact inn_keep _ (outr_less k i j (by omega) hj hne)
end
end Go.Proofs.YtnhbkoeomefkdaaDoor.Ev.L

/- A set of squares of a cut that is a rectangle is what lies between two of them. Mathematics alone. -/
set_option linter.unusedVariables false
set_option linter.unusedSimpArgs false
namespace Go.Proofs.YtnhbkoeomefkdaaDoor.Ev.L
open Go Go.Proofs.YtnhbkoeomefkdaaDoor.Ev
noncomputable section

theorem widx_ge {X Y : Int} : ∀ (L : List Sq), ∀ q ∈ L, q.1 + q.2.2 - X ≤ widx X L ∧ q.2.1 + q.2.2 - Y ≤ heix Y L := fun L => by
  refine snoc_ind (p := fun L => ∀ q ∈ L, q.1 + q.2.2 - X ≤ widx X L ∧ q.2.1 + q.2.2 - Y ≤ heix Y L) (fun q hq => by cases hq) (fun L q ih p hp => ?_) L
  rw [widx_snoc, heix_snoc]
  rcases List.mem_append.1 hp with hp | hp
  · have := ih p hp
    omega
  · rw [List.mem_singleton.1 hp]
    omega
/-- the squares of these numbers -/
def pick (O : List Sq) (p : Nat → Bool) : List Sq := ((List.range O.length).filter p).map fun i => O.getD i (0, 0, 0)
theorem pick_mem {O : List Sq} {p : Nat → Bool} {q : Sq} : q ∈ pick O p ↔ ∃ i, i < O.length ∧ p i = true ∧ O[i]? = some q := by
  unfold pick
  rw [List.mem_map]
  constructor
  · rintro ⟨i, hi, rfl⟩
    obtain ⟨h1, h2⟩ := List.mem_filter.1 hi
    have h1 := List.mem_range.1 h1
    exact ⟨i, h1, h2, by rw [List.getD, List.getElem?_eq_getElem h1]; rfl⟩
  · rintro ⟨i, h1, h2, h3⟩
    exact ⟨i, List.mem_filter.2 ⟨List.mem_range.2 h1, h2⟩, by rw [List.getD, h3]; rfl⟩
theorem self_map {O : List Sq} : (List.range O.length).map (fun i => O.getD i (0, 0, 0)) = O := by
  apply List.ext_getElem (by simp)
  intro i h1 h2
  rw [List.getElem_map, List.getElem_range, List.getD, List.getElem?_eq_getElem h2]
  rfl
theorem filter_pick {O : List Sq} {g : Sq → Bool} : O.filter g = pick O fun i => g (O.getD i (0, 0, 0)) := by
  conv => lhs; rw [← self_map (O := O)]
  rw [List.filter_map]
  rfl
theorem pick_congr {O : List Sq} {p p' : Nat → Bool} (h : ∀ i, i < O.length → p i = p' i) : (List.range O.length).filter p = (List.range O.length).filter p' :=
  List.filter_congr fun i hi => h i (List.mem_range.1 hi)

set_option maxHeartbeats 2000000 in
theorem rect_btw {O : List Sq} {w h : Nat} (k : Mk O w h) (hw : w ≤ 1000) (hh : h ≤ 1000) {p : Nat → Bool} {X Y : Int} (hT : covX X Y (pick O p)) (hX : ∃ q ∈ pick O p, q.1 = X) (hY : ∃ q ∈ pick O p, q.2.1 = Y) :
    ∃ f l, f ∈ pick O p ∧ l ∈ pick O p ∧ btw O f l = ((List.range O.length).filter p).map Int.ofNat ∧ (f = l → ((List.range O.length).filter p).length ≤ 1) := by
  obtain ⟨hdis, hge, har⟩ := hT
  have hmO : ∀ q ∈ pick O p, q ∈ O := fun q hq => by
    obtain ⟨i, _, _, h3⟩ := pick_mem.1 hq
    exact List.mem_of_getElem? h3
  obtain ⟨qx, hqx, rfl⟩ := hX
  obtain ⟨qy, hqy, rfl⟩ := hY
  obtain ⟨a1, a2, a3, a4, a5⟩ := k.inn qx (hmO _ hqx)
  obtain ⟨b1, b2, b3, b4, b5⟩ := k.inn qy (hmO _ hqy)
  have hwg := fun q hq => widx_ge (X := qx.1) (Y := qy.2.1) (pick O p) q hq
  have hw1 := (hwg qx hqx).1
  have hh1 := (hwg qy hqy).2
  obtain ⟨W, hW⟩ : ∃ W : Nat, widx qx.1 (pick O p) = W := ⟨(widx qx.1 (pick O p)).toNat, by omega⟩
  obtain ⟨H, hH⟩ : ∃ H : Nat, heix qy.2.1 (pick O p) = H := ⟨(heix qy.2.1 (pick O p)).toNat, by omega⟩
  rw [hW] at hw1
  rw [hH] at hh1
  let g : Sq → Sq := fun q => (q.1 - qx.1, q.2.1 - qy.2.1, q.2.2)
  -- every cell of the rectangle is covered by the set
  have fill : ∀ x y : Nat, qx.1 ≤ x → (x : Int) < qx.1 + W → qy.2.1 ≤ y → (y : Int) < qy.2.1 + H → ∃ q ∈ pick O p, ins q x y := fun x y hx1 hx2 hy1 hy2 => by
    have hcov := covered (L := (pick O p).map g) (W := W) (H := H) (x := ((x : Int) - qx.1).toNat) (y := ((y : Int) - qy.2.1).toNat) (fun q hq => by
        obtain ⟨t, ht, rfl⟩ := List.mem_map.1 hq
        have h1 := hge t ht
        have h2 := hwg t ht
        rw [hW, hH] at h2
        obtain ⟨c1, c2, c3, c4, c5⟩ := k.inn t (hmO _ ht)
        refine ⟨⟨c1, ?_, ⟨?_, ?_⟩, ?_, ?_⟩, ?_, ?_⟩ <;> simp only [g] <;> omega) (List.pairwise_map.2 ((dis_pair hdis).imp fun {a b} hn ho => hn (by
        obtain ⟨o1, o2, o3, o4⟩ := ho
        simp only [g] at o1 o2 o3 o4
        exact ⟨by omega, by omega, by omega, by omega⟩))) (by rw [are_map (g := g) (fun q => rfl), har, hW, hH]) (by omega) (by omega)
    obtain ⟨q, hq, ⟨i1, i2⟩, i3, i4⟩ := hcov
    obtain ⟨t, ht, rfl⟩ := List.mem_map.1 hq
    simp only [g] at i1 i2 i3 i4
    exact ⟨t, ht, ⟨by omega, by omega⟩, by omega, by omega⟩
  obtain ⟨f, hf, ⟨f1, f2⟩, f3, f4⟩ := fill qx.1.toNat qy.2.1.toNat (by omega) (by omega) (by omega) (by omega)
  obtain ⟨l, hl, ⟨l1, l2⟩, l3, l4⟩ := fill (qx.1 + W - 1).toNat (qy.2.1 + H - 1).toNat (by omega) (by omega) (by omega) (by omega)
  have gf := hge f hf
  have gl := hwg l hl
  rw [hW, hH] at gl
  have ef : f.1 = qx.1 ∧ f.2.1 = qy.2.1 := by omega
  have el : l.1 + l.2.2 = qx.1 + W ∧ l.2.1 + l.2.2 = qy.2.1 + H := by omega
  have hiff : ∀ i, i < O.length → insB f l (O.getD i (0, 0, 0)) = p i := fun i hi => by
    have hq : O[i]? = some (O.getD i (0, 0, 0)) := by rw [List.getD, List.getElem?_eq_getElem hi]; rfl
    have hqO := List.mem_of_getElem? hq
    obtain ⟨c1, c2, c3, c4, c5⟩ := k.inn _ hqO
    rw [Bool.eq_iff_iff]
    constructor
    · intro hin
      obtain ⟨d1, d2, d3, d4⟩ := insB_iff.1 hin
      obtain ⟨t, ht, hti⟩ := fill (O.getD i (0, 0, 0)).1.toNat (O.getD i (0, 0, 0)).2.1.toNat (by omega) (by omega) (by omega) (by omega)
      obtain ⟨j, hj, hpj, htj⟩ := pick_mem.1 ht
      have hqi : ins (O.getD i (0, 0, 0)) (O.getD i (0, 0, 0)).1.toNat (O.getD i (0, 0, 0)).2.1.toNat := ⟨⟨by omega, by omega⟩, by omega, by omega⟩
      have hij : i = j := by
        obtain ⟨_, e1⟩ := List.getElem?_eq_some_iff.1 hq
        obtain ⟨_, e2⟩ := List.getElem?_eq_some_iff.1 htj
        rcases Nat.lt_trichotomy i j with g | g | g
        · have := List.pairwise_iff_getElem.1 k.pw i j hi hj g
          rw [e1, e2] at this
          exact absurd (ins_ovl hqi hti) this
        · exact g
        · have := List.pairwise_iff_getElem.1 k.pw j i hj hi g
          rw [e1, e2] at this
          exact absurd (ins_ovl hti hqi) this
      rw [hij]
      exact hpj
    · intro hp
      have hm := pick_mem.2 ⟨i, hi, hp, hq⟩
      have h1 := hge _ hm
      have h2 := hwg _ hm
      rw [hW, hH] at h2
      exact insB_iff.2 ⟨by omega, by omega, by omega, by omega⟩
  have hfil : (List.range O.length).filter (fun i => insB f l (O.getD i (0, 0, 0))) = (List.range O.length).filter p := pick_congr hiff
  have hOf : O.filter (insB f l) = pick O p := by
    rw [filter_pick]
    unfold pick
    rw [hfil]
  refine ⟨f, l, hf, hl, ?_, fun hfl => ?_⟩
  · unfold btw
    rw [hOf, har, hW, hH, if_neg]
    · unfold inP
      rw [hfil]
    · unfold rectA
      rw [el.1, el.2, ef.1, ef.2, show qx.1 + (W : Int) - qx.1 = W by omega, show qy.2.1 + (H : Int) - qy.2.1 = H by omega]
      omega
  · subst hfl
    -- the rectangle is one square: nothing else lies in it
    have hone : ∀ t ∈ pick O p, t = f := fun t ht => by
      have h1 := hge t ht
      have h2 := hwg t ht
      rw [hW, hH] at h2
      obtain ⟨c1, c2, c3, c4, c5⟩ := k.inn t (hmO _ ht)
      refine Classical.byContradiction fun hn => apart_of k.pw (hmO _ ht) (hmO _ hf) hn ⟨by omega, by omega, by omega, by omega⟩
    rcases Nat.lt_or_ge 1 ((List.range O.length).filter p).length with g | g
    · exfalso
      obtain ⟨i, hi⟩ : ∃ i, ((List.range O.length).filter p)[0]? = some i := ⟨_, List.getElem?_eq_getElem (by omega)⟩
      obtain ⟨j, hj⟩ : ∃ j, ((List.range O.length).filter p)[1]? = some j := ⟨_, List.getElem?_eq_getElem g⟩
      have hlt := List.pairwise_iff_getElem.1 (List.pairwise_lt_range.filter p (l := List.range O.length)) 0 1 (by omega) g (by omega)
      rw [(List.getElem?_eq_some_iff.1 hi).2, (List.getElem?_eq_some_iff.1 hj).2] at hlt
      obtain ⟨i1, i2⟩ := List.mem_filter.1 (List.mem_of_getElem? hi)
      obtain ⟨j1, j2⟩ := List.mem_filter.1 (List.mem_of_getElem? hj)
      have i1 := List.mem_range.1 i1
      have j1 := List.mem_range.1 j1
      have e1 := hone O[i] (pick_mem.2 ⟨i, i1, i2, List.getElem?_eq_getElem i1⟩)
      have e2 := hone O[j] (pick_mem.2 ⟨j, j1, j2, List.getElem?_eq_getElem j1⟩)
      have := List.pairwise_iff_getElem.1 k.pw i j i1 j1 hlt
      rw [e1, e2] at this
      obtain ⟨c1, _⟩ := k.inn f (hmO _ hf)
      exact this ⟨by omega, by omega, by omega, by omega⟩
    · exact g
end
end Go.Proofs.YtnhbkoeomefkdaaDoor.Ev.L

/- The first of the least sets of squares that are a rectangle, by trying all sets: it is the least part. Mathematics alone. -/
set_option linter.unusedVariables false
set_option linter.unusedSimpArgs false
namespace Go.Proofs.YtnhbkoeomefkdaaDoor.Ev.L
open Go Go.Proofs.YtnhbkoeomefkdaaDoor.Ev
noncomputable section

def somN (n m : Nat) : List Nat := (List.range n).filter fun i => m.testBit i
/-- the numbers of the squares of a set -/
def som (n m : Nat) : List Int := (somN n m).map Int.ofNat
def mnx (L : List Sq) : Int := L.foldl (fun a q => min a q.1) 1000
def mny (L : List Sq) : Int := L.foldl (fun a q => min a q.2.1) 1000
def pk (O : List Sq) (m : Nat) : List Sq := pick O fun i => m.testBit i
/-- a set of squares that is a rectangle -/
def Cand (O : List Sq) (m : Nat) : Prop := 2 ≤ (som O.length m).length ∧ covX (mnx (pk O m)) (mny (pk O m)) (pk O m)
open Classical in
def rst (O : List Sq) (best : List Int) (m : Nat) : List Int := if Cand O m ∧ (best = [] ∨ cmpP (som O.length m) best < 0) then som O.length m else best
def rbest (O : List Sq) : Nat → List Int
  | 0 => []
  | k + 1 => rst O (rbest O k) (k + 1)

theorem som_len {n m : Nat} : (som n m).length = (somN n m).length := by unfold som; rw [List.length_map]
theorem rb_cand {O : List Sq} : ∀ k, rbest O k = [] ∨ ∃ m, 1 ≤ m ∧ m ≤ k ∧ rbest O k = som O.length m ∧ Cand O m
  | 0 => .inl rfl
  | k + 1 => by
    rw [rbest, rst]
    split
    · rename_i hc
      exact .inr ⟨k + 1, by omega, by omega, rfl, hc.1⟩
    · rcases rb_cand (O := O) k with g | ⟨m, g1, g2, g3, g4⟩
      · exact .inl g
      · exact .inr ⟨m, g1, by omega, g3, g4⟩
theorem rb_less {O : List Sq} : ∀ k m, 1 ≤ m → m ≤ k → Cand O m → rbest O k ≠ [] ∧ ¬ cmpP (som O.length m) (rbest O k) < 0
  | 0, m, h1, h2, _ => by omega
  | k + 1, m, h1, h2, hc => by
    have ne : som O.length m ≠ [] := fun e => by
      have := hc.1
      rw [e] at this
      exact absurd this (by decide)
    rw [rbest, rst]
    by_cases hm : m = k + 1
    · subst hm
      split
      · exact ⟨ne, cmpP_self⟩
      · rename_i hn
        exact ⟨fun e => hn ⟨hc, .inl e⟩, fun e => hn ⟨hc, .inr e⟩⟩
    · obtain ⟨i1, i2⟩ := rb_less k m h1 (by omega) hc
      split
      · rename_i hq
        refine ⟨fun e => ?_, fun e => ?_⟩
        · have := hq.1.1
          rw [e] at this
          exact absurd this (by decide)
        · rcases hq.2 with g | g
          · exact i1 g
          · exact i2 (cmpP_tr e g)
      · exact ⟨i1, i2⟩

theorem mn_ok : ∀ (L : List Sq), (∀ q ∈ L, mnx L ≤ q.1 ∧ mny L ≤ q.2.1) ∧ (0 < L.length → (∀ q ∈ L, q.1 ≤ 1000 ∧ q.2.1 ≤ 1000) → (∃ q ∈ L, q.1 = mnx L) ∧ ∃ q ∈ L, q.2.1 = mny L) ∧ mnx L ≤ 1000 ∧ mny L ≤ 1000 := fun L => by
  refine snoc_ind (p := fun L => (∀ q ∈ L, mnx L ≤ q.1 ∧ mny L ≤ q.2.1) ∧ (0 < L.length → (∀ q ∈ L, q.1 ≤ 1000 ∧ q.2.1 ≤ 1000) → (∃ q ∈ L, q.1 = mnx L) ∧ ∃ q ∈ L, q.2.1 = mny L) ∧ mnx L ≤ 1000 ∧ mny L ≤ 1000)
    ⟨(fun q hq => by cases hq), (fun h => absurd h (by decide)), Int.le_refl _, Int.le_refl _⟩ (fun L q ih => ?_) L
  obtain ⟨i1, i2, i3, i4⟩ := ih
  have ex : mnx (L ++ [q]) = min (mnx L) q.1 := by simp [mnx, List.foldl_append]
  have ey : mny (L ++ [q]) = min (mny L) q.2.1 := by simp [mny, List.foldl_append]
  rw [ex, ey]
  refine ⟨fun p hp => ?_, fun _ hb => ?_, by omega, by omega⟩
  · rcases List.mem_append.1 hp with h | h
    · have := i1 p h; omega
    · rw [List.mem_singleton.1 h]; omega
  · have hq := hb q (by simp)
    constructor
    · by_cases c : q.1 ≤ mnx L
      · exact ⟨q, by simp, by omega⟩
      · rcases Nat.eq_zero_or_pos L.length with z | z
        · rw [List.length_eq_zero_iff.1 z] at c
          exact absurd hq.1 (by simpa [mnx] using c)
        · obtain ⟨⟨p, hp, e⟩, _⟩ := i2 z fun p hp => hb p (List.mem_append_left _ hp)
          exact ⟨p, List.mem_append_left _ hp, by omega⟩
    · by_cases c : q.2.1 ≤ mny L
      · exact ⟨q, by simp, by omega⟩
      · rcases Nat.eq_zero_or_pos L.length with z | z
        · rw [List.length_eq_zero_iff.1 z] at c
          exact absurd hq.2 (by simpa [mny] using c)
        · obtain ⟨_, p, hp, e⟩ := i2 z fun p hp => hb p (List.mem_append_left _ hp)
          exact ⟨p, List.mem_append_left _ hp, by omega⟩
theorem wx_le {X Y W H : Int} (L : List Sq) : 0 ≤ W → 0 ≤ H → (∀ q ∈ L, q.1 + q.2.2 - X ≤ W ∧ q.2.1 + q.2.2 - Y ≤ H) → widx X L ≤ W ∧ heix Y L ≤ H := by
  refine snoc_ind (p := fun L => 0 ≤ W → 0 ≤ H → (∀ q ∈ L, q.1 + q.2.2 - X ≤ W ∧ q.2.1 + q.2.2 - Y ≤ H) → widx X L ≤ W ∧ heix Y L ≤ H) (fun h1 h2 _ => ⟨h1, h2⟩) (fun L q ih h1 h2 hq => ?_) L
  rw [widx_snoc, heix_snoc]
  have := ih h1 h2 fun p hp => hq p (List.mem_append_left _ hp)
  have := hq q (by simp)
  omega
/-- a set with these members -/
theorem bits_of (p : Nat → Bool) : ∀ n, ∃ m, m < 2 ^ n ∧ ∀ i, i < n → m.testBit i = p i
  | 0 => ⟨0, by decide, fun i h => absurd h (by omega)⟩
  | n + 1 => by
    obtain ⟨m, hm, hb⟩ := bits_of p n
    cases hp : p n with
    | true =>
      refine ⟨2 ^ n + m, by rw [Nat.pow_succ]; omega, fun i hi => ?_⟩
      by_cases e : i = n
      · subst e
        rw [Nat.testBit_two_pow_add_eq, Nat.testBit_lt_two_pow hm, hp]; rfl
      · rw [Nat.testBit_two_pow_add_gt (by omega), hb i (by omega)]
    | false =>
      refine ⟨m, by rw [Nat.pow_succ]; omega, fun i hi => ?_⟩
      by_cases e : i = n
      · subst e
        rw [Nat.testBit_lt_two_pow hm, hp]
      · exact hb i (by omega)
theorem somN_all {n m : Nat} (hm : m < 2 ^ n) : (somN n m).length = n ↔ m = 2 ^ n - 1 := by
  have hr : (List.range n).length = n := List.length_range
  unfold somN
  constructor
  · intro h
    have hall := List.length_filter_eq_length_iff.1 (h.trans hr.symm)
    refine Nat.eq_of_testBit_eq fun i => ?_
    rw [Nat.testBit_two_pow_sub_one]
    by_cases c : i < n
    · rw [decide_eq_true c]
      exact hall i (List.mem_range.2 c)
    · rw [decide_eq_false c]
      exact Nat.testBit_lt_two_pow (Nat.lt_of_lt_of_le hm (Nat.pow_le_pow_right (by decide) (by omega)))
  · rintro rfl
    rw [List.length_filter_eq_length_iff.2 fun i hi => ?_, hr]
    rw [Nat.testBit_two_pow_sub_one]
    exact decide_eq_true (List.mem_range.1 hi)
theorem two_le {α : Type} {l : List α} {a b : α} (ha : a ∈ l) (hb : b ∈ l) (hne : a ≠ b) : 2 ≤ l.length := by
  match l, ha, hb with
  | [x], ha, hb => exact absurd ((List.mem_singleton.1 ha).trans (List.mem_singleton.1 hb).symm) hne
  | _ :: _ :: _, _, _ => simp only [List.length_cons]; omega

theorem cand_of_btw {O : List Sq} {w h : Nat} (k : Mk O w h) (hw : w ≤ 1000) (hh : h ≤ 1000) {f l : Sq} (hf : f ∈ O) (hl : l ∈ O) (hfl : f ≠ l) (hne : btw O f l ≠ []) (hlen : (btw O f l).length ≠ O.length) :
    ∃ m, 1 ≤ m ∧ m ≤ 2 ^ O.length - 2 ∧ som O.length m = btw O f l ∧ Cand O m := by
  obtain ⟨part, hb⟩ := btw_part k hw hh hf hl hfl hne
  obtain ⟨ef, el⟩ := part_ends k part
  have harea : rectA f l - are (O.filter (insB f l)) = 0 := Classical.byContradiction fun hn => hne (if_pos hn)
  obtain ⟨m, hm, hbit⟩ := bits_of (fun i => insB f l (O.getD i (0, 0, 0))) O.length
  have hfil : somN O.length m = (List.range O.length).filter fun i => insB f l (O.getD i (0, 0, 0)) := pick_congr hbit
  have hsom : som O.length m = btw O f l := by
    rw [hb]
    unfold som inP
    rw [hfil]
  have hpk : pk O m = O.filter (insB f l) := by
    rw [filter_pick]
    unfold pk pick
    rw [show (List.range O.length).filter (fun i => m.testBit i) = _ from hfil]
  have hm1 : m ≠ 0 := fun e => by
    refine hne ?_
    rw [← hsom]
    subst e
    unfold som somN
    rw [List.filter_eq_nil_iff.2 fun i _ => by rw [Nat.zero_testBit]; decide]
    rfl
  have hm2 : m ≠ 2 ^ O.length - 1 := fun e => by
    have := (somN_all hm).2 e
    rw [← som_len, hsom] at this
    exact hlen this
  refine ⟨m, by omega, by omega, hsom, ?_, ?_⟩
  · obtain ⟨i, hi, hif⟩ := List.mem_iff_getElem.1 hf
    obtain ⟨j, hj, hjl⟩ := List.mem_iff_getElem.1 hl
    have gi : O.getD i (0, 0, 0) = f := by rw [List.getD, List.getElem?_eq_getElem hi, hif]; rfl
    have gj : O.getD j (0, 0, 0) = l := by rw [List.getD, List.getElem?_eq_getElem hj, hjl]; rfl
    rw [som_len]
    refine two_le (a := i) (b := j) ?_ ?_ fun e => hfl (by rw [← gi, ← gj, e])
    · rw [hfil]; exact List.mem_filter.2 ⟨List.mem_range.2 hi, by rw [gi]; exact ef⟩
    · rw [hfil]; exact List.mem_filter.2 ⟨List.mem_range.2 hj, by rw [gj]; exact el⟩
  · rw [hpk]
    have hmem : ∀ q ∈ O.filter (insB f l), f.1 ≤ q.1 ∧ f.2.1 ≤ q.2.1 ∧ q.1 + q.2.2 ≤ l.1 + l.2.2 ∧ q.2.1 + q.2.2 ≤ l.2.1 + l.2.2 := fun q hq => insB_iff.1 (List.mem_filter.1 hq).2
    have hfm : f ∈ O.filter (insB f l) := List.mem_filter.2 ⟨hf, ef⟩
    have hlm : l ∈ O.filter (insB f l) := List.mem_filter.2 ⟨hl, el⟩
    obtain ⟨n1, n2, n3, n4⟩ := mn_ok (O.filter (insB f l))
    have hbd : ∀ q ∈ O.filter (insB f l), q.1 ≤ 1000 ∧ q.2.1 ≤ 1000 := fun q hq => by
      obtain ⟨a1, a2, a3, a4, a5⟩ := k.inn q ((List.mem_filter.1 hq).1)
      omega
    obtain ⟨⟨qx, hqx, ex⟩, qy, hqy, ey⟩ := n2 (List.length_pos_of_mem hfm) hbd
    have e1 : mnx (O.filter (insB f l)) = f.1 := by
      have := (n1 f hfm).1; have := (hmem qx hqx).1; omega
    have e2 : mny (O.filter (insB f l)) = f.2.1 := by
      have := (n1 f hfm).2; have := (hmem qy hqy).2.1; omega
    rw [e1, e2]
    have pw := part.w
    have ph := part.h
    have wge := widx_ge (X := f.1) (Y := f.2.1) (O.filter (insB f l)) l hlm
    have wle := wx_le (X := f.1) (Y := f.2.1) (W := l.1 + l.2.2 - f.1) (H := l.2.1 + l.2.2 - f.2.1) (O.filter (insB f l)) (by omega) (by omega) fun q hq => by have := hmem q hq; omega
    refine ⟨pair_dis (k.pw.filter _), fun q hq => ⟨(hmem q hq).1, (hmem q hq).2.1⟩, ?_⟩
    rw [show widx f.1 (O.filter (insB f l)) = l.1 + l.2.2 - f.1 by omega, show heix f.2.1 (O.filter (insB f l)) = l.2.1 + l.2.2 - f.2.1 by omega]
    unfold rectA at harea
    omega
theorem less_of_cand {O : List Sq} {w h m : Nat} (k : Mk O w h) (hw : w ≤ 1000) (hh : h ≤ 1000) (hm : m ≤ 2 ^ O.length - 2) (hc : Cand O m) : outr O O.length ≠ [] ∧ ¬ cmpP (som O.length m) (outr O O.length) < 0 := by
  obtain ⟨h2, hcov⟩ := hc
  have hpos := Nat.two_pow_pos O.length
  have hT : 0 < (pk O m).length := by
    unfold pk pick
    rw [List.length_map]
    rw [som_len] at h2
    unfold somN at h2
    omega
  have hbd : ∀ q ∈ pk O m, q.1 ≤ 1000 ∧ q.2.1 ≤ 1000 := fun q hq => by
    obtain ⟨i, _, _, h3⟩ := pick_mem.1 hq
    obtain ⟨a1, a2, a3, a4, a5⟩ := k.inn q (List.mem_of_getElem? h3)
    omega
  obtain ⟨hx, hy⟩ := (mn_ok (pk O m)).2.1 hT hbd
  obtain ⟨f, l, hf, hl, hb, hone⟩ := rect_btw k hw hh hcov hx hy
  have hfl : f ≠ l := fun e => by
    have := hone e
    rw [som_len] at h2
    unfold somN at h2
    omega
  obtain ⟨i, hi, _, hif⟩ := pick_mem.1 hf
  obtain ⟨j, hj, _, hjl⟩ := pick_mem.1 hl
  have gi : O.getD i (0, 0, 0) = f := by rw [List.getD, hif]; rfl
  have gj : O.getD j (0, 0, 0) = l := by rw [List.getD, hjl]; rfl
  have hno := outr_less (O := O) O.length i j hi hj (by rw [gi, gj]; exact hfl)
  rw [gi, gj, hb] at hno
  rcases hno with g | g | g
  · rw [show ((List.range O.length).filter fun i => m.testBit i).map Int.ofNat = som O.length m from rfl] at g
    rw [g] at h2
    exact absurd h2 (by decide)
  · rw [List.length_map] at g
    have h2n : 2 ≤ 2 ^ O.length := Nat.pow_le_pow_right (by decide) (show 1 ≤ O.length by omega) (n := 2)
    have := (somN_all (n := O.length) (m := m) (by omega)).1 g
    omega
  · exact g

theorem lpt_rbest {L : List Sq} {w h : Nat} (k : Mk (ordSq L) w h) (hw : w ≤ 1000) (hh : h ≤ 1000) : lpt L = rbest (ordSq L) (2 ^ (ordSq L).length - 2) := by
  unfold lpt
  generalize ordSq L = O at *
  rcases rb_cand (O := O) (2 ^ O.length - 2) with g | ⟨m, m1, m2, m3, m4⟩
  · rcases outr_part (O := O) O.length (Nat.le_refl _) with e | ⟨f, l, hf, hl, hfl, hP, hne, hlen⟩
    · rw [e, g]
    · exfalso
      obtain ⟨m, m1, m2, m3, m4⟩ := cand_of_btw k hw hh hf hl hfl (hP ▸ hne) (hP ▸ hlen)
      exact (rb_less _ m m1 m2 m4).1 g
  · obtain ⟨o1, o2⟩ := less_of_cand k hw hh m2 m4
    rcases outr_part (O := O) O.length (Nat.le_refl _) with e | ⟨f, l, hf, hl, hfl, hP, hne, hlen⟩
    · exact absurd e o1
    · obtain ⟨m', p1, p2, p3, p4⟩ := cand_of_btw k hw hh hf hl hfl (hP ▸ hne) (hP ▸ hlen)
      obtain ⟨r1, r2⟩ := rb_less _ m' p1 p2 p4
      rw [p3, ← hP] at r2
      rw [← m3] at o2
      exact Classical.byContradiction fun hn => o2 (cmpP_tot r2 hn)
theorem Mk_of_chk {L : List Sq} (h : chk L = 0) : Mk (ordSq L) (wid L).toNat (hei L).toNat ∧ (wid L).toNat ≤ 1000 ∧ (hei L).toNat ≤ 1000 := by
  obtain ⟨hl, hok, h0, hd, ha⟩ := chk_zero h
  obtain ⟨⟨b1, b2⟩, ⟨b3, b4⟩, _, _⟩ := bounds L hok
  have hge := wid_ge L
  obtain ⟨q, hq⟩ : ∃ q, q ∈ L := ⟨_, List.getElem_mem h0⟩
  have hq1 := hge q hq
  obtain ⟨a1, a2, ⟨a3, a4⟩, a5, a6⟩ := hok q hq
  refine ⟨Mk.perm ⟨by omega, by omega, fun p hp => ?_, dis_pair hd, ?_⟩ ordSq_perm, by omega, by omega⟩
  · have := hge p hp
    obtain ⟨c1, c2, ⟨c3, c4⟩, c5, c6⟩ := hok p hp
    omega
  · rw [ha, Int.toNat_of_nonneg b1, Int.toNat_of_nonneg b3]
end
end Go.Proofs.YtnhbkoeomefkdaaDoor.Ev.L

