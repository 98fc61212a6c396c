/- What is the least part; mirrored within its rectangle it makes a cut again. Mathematics alone. -/
import Derived.Test.YtnhbkoeomefkdaaDoorPmhNN
set_option linter.unusedVariables false
set_option linter.unusedSimpArgs false
namespace Go.Proofs.YtnhbkoeomefkdaaDoor.Ev.L
open Go Go.Proofs.YtnhbkoeomefkdaaDoor.Ev
noncomputable section

/-- a part is that of two squares, and neither empty nor all -/
def IsPart (O : List Sq) (P : List Int) : Prop := P = [] ∨ ∃ f l, f ∈ O ∧ l ∈ O ∧ f ≠ l ∧ P = btw O f l ∧ P ≠ [] ∧ P.length ≠ O.length
theorem stp_part {O : List Sq} {P : List Int} {f l : Sq} (h : IsPart O P) (hf : f ∈ O) (hl : l ∈ O) (hfl : f ≠ l) : IsPart O (stp O P (btw O f l)) := by
  unfold stp
  split
  · exact h
  · rename_i hn
    split
    · exact .inr ⟨f, l, hf, hl, hfl, rfl, fun e => hn (.inl e), fun e => hn (.inr e)⟩
    · exact h
theorem getD_mem {O : List Sq} {k : Nat} (h : k < O.length) : O.getD k (0, 0, 0) ∈ O := by
  rw [List.getD, List.getElem?_eq_getElem h]
  exact List.getElem_mem h
theorem inn_part {O : List Sq} {f : Sq} (hf : f ∈ O) : ∀ (k : Nat) (P : List Int), k ≤ O.length → IsPart O P → IsPart O (inn O f k P)
  | 0, _, _, h => h
  | k + 1, P, hk, h => by
    have ih := inn_part hf k P (by omega) h
    rw [inn]
    split
    · exact ih
    · rename_i hn
      exact stp_part ih hf (getD_mem (by omega)) hn
theorem outr_part {O : List Sq} : ∀ i, i ≤ O.length → IsPart O (outr O i)
  | 0, _ => .inl rfl
  | i + 1, h => inn_part (getD_mem (by omega)) _ _ (Nat.le_refl _) (outr_part i (by omega))

theorem apart_of {O : List Sq} (h : O.Pairwise fun a b => ¬ ovl a b) {a b : Sq} (ha : a ∈ O) (hb : b ∈ O) (hne : a ≠ b) : ¬ ovl a b := by
  obtain ⟨i, hi, rfl⟩ := List.mem_iff_getElem.1 ha
  obtain ⟨j, hj, rfl⟩ := List.mem_iff_getElem.1 hb
  rcases Nat.lt_trichotomy i j with g | g | g
  · exact List.pairwise_iff_getElem.1 h i j hi hj g
  · subst g; exact absurd rfl hne
  · exact fun ho => List.pairwise_iff_getElem.1 h j i hj hi g (ovl_symm ho)

theorem insB_iff {f l q : Sq} : insB f l q = true ↔ f.1 ≤ q.1 ∧ f.2.1 ≤ q.2.1 ∧ q.1 + q.2.2 ≤ l.1 + l.2.2 ∧ q.2.1 + q.2.2 ≤ l.2.1 + l.2.2 := by
  unfold insB
  simp only [Bool.and_eq_true, decide_eq_true_eq]
  omega
/-- the part of two squares fills their rectangle -/
structure PartOf (O : List Sq) (f l : Sq) : Prop where
  fm : f ∈ O
  lm : l ∈ O
  ne : f ≠ l
  w : f.1 < l.1 + l.2.2
  h : f.2.1 < l.2.1 + l.2.2
  fill : ∀ x y : Nat, f.1 ≤ x → (x : Int) < l.1 + l.2.2 → f.2.1 ≤ y → (y : Int) < l.2.1 + l.2.2 → ∃ q ∈ O, insB f l q = true ∧ ins q x y

theorem inP_mem {f l : Sq} {O : List Sq} {k : Nat} {z : Int} : z ∈ inP f l O k ↔ ∃ i : Nat, i < k ∧ insB f l (O.getD i (0, 0, 0)) = true ∧ z = i := by
  unfold inP
  rw [List.mem_map]
  constructor
  · rintro ⟨i, hi, rfl⟩
    obtain ⟨h1, h2⟩ := List.mem_filter.1 hi
    exact ⟨i, List.mem_range.1 h1, h2, rfl⟩
  · rintro ⟨i, h1, h2, rfl⟩
    exact ⟨i, List.mem_filter.2 ⟨List.mem_range.2 h1, h2⟩, rfl⟩
theorem are_map {g : Sq → Sq} (h : ∀ q, (g q).2.2 = q.2.2) : ∀ L : List Sq, are (L.map g) = are L
  | [] => rfl
  | q :: L => by rw [List.map_cons, are_cons, are_cons, are_map h L, h q]
theorem btw_part {O : List Sq} {w h : Nat} (k : Mk O w h) (hw : w ≤ 1000) (hh : h ≤ 1000) {f l : Sq} (hf : f ∈ O) (hl : l ∈ O) (hfl : f ≠ l) (hne : btw O f l ≠ []) : PartOf O f l ∧ btw O f l = inP f l O O.length := by
  have hb : rectA f l - are (O.filter (insB f l)) = 0 := Classical.byContradiction fun hn => hne (if_pos hn)
  have e : btw O f l = inP f l O O.length := if_neg fun hn => hn hb
  rw [e] at hne
  obtain ⟨z, hz⟩ := List.exists_mem_of_ne_nil _ hne
  obtain ⟨i, hi, hin, _⟩ := inP_mem.1 hz
  have hq := getD_mem hi
  obtain ⟨c1, c2, c3, c4⟩ := insB_iff.1 hin
  obtain ⟨a1, a2, a3, a4, a5⟩ := k.inn _ hq
  obtain ⟨f1, f2, f3, f4, f5⟩ := k.inn f hf
  obtain ⟨l1, l2, l3, l4, l5⟩ := k.inn l hl
  refine ⟨⟨hf, hl, hfl, by omega, by omega, fun x y hx1 hx2 hy1 hy2 => ?_⟩, e⟩
  obtain ⟨W, hW⟩ : ∃ W : Nat, l.1 + l.2.2 - f.1 = W := ⟨(l.1 + l.2.2 - f.1).toNat, by omega⟩
  obtain ⟨H, hH⟩ : ∃ H : Nat, l.2.1 + l.2.2 - f.2.1 = H := ⟨(l.2.1 + l.2.2 - f.2.1).toNat, by omega⟩
  let g : Sq → Sq := fun q => (q.1 - f.1, q.2.1 - f.2.1, q.2.2)
  have hcov := covered (L := (O.filter (insB f l)).map g) (W := W) (H := H) (x := ((x : Int) - f.1).toNat) (y := ((y : Int) - f.2.1).toNat) (fun q hq => by
      obtain ⟨p, hp, rfl⟩ := List.mem_map.1 hq
      obtain ⟨hp1, hp2⟩ := List.mem_filter.1 hp
      obtain ⟨d1, d2, d3, d4⟩ := insB_iff.1 hp2
      obtain ⟨b1, b2, b3, b4, b5⟩ := k.inn p hp1
      refine ⟨⟨b1, ?_, ⟨?_, ?_⟩, ?_, ?_⟩, ?_, ?_⟩ <;> simp only [g] <;> omega) (List.pairwise_map.2 ((k.pw.filter _).imp fun {a b} hn ho => hn (by
      obtain ⟨o1, o2, o3, o4⟩ := ho
      simp only [g] at o1 o2 o3 o4
      exact ⟨by omega, by omega, by omega, by omega⟩))) (by
      rw [are_map (g := g) (fun q => rfl)]
      unfold rectA at hb
      rw [hW, hH] at hb
      omega) (by omega) (by omega)
  obtain ⟨q, hq, ⟨i1, i2⟩, i3, i4⟩ := hcov
  obtain ⟨p, hp, rfl⟩ := List.mem_map.1 hq
  obtain ⟨hp1, hp2⟩ := List.mem_filter.1 hp
  simp only [g] at i1 i2 i3 i4
  exact ⟨p, hp1, hp2, ⟨by omega, by omega⟩, by omega, by omega⟩

/-- mirrored, if it lies within -/
def mir (f l q : Sq) : Sq := if insB f l q = true then (f.1 + (l.1 + l.2.2) - q.1 - q.2.2, q.2.1, q.2.2) else q
theorem mir_size {f l q : Sq} : (mir f l q).2.2 = q.2.2 := by unfold mir; split <;> rfl
theorem mirror {O : List Sq} {w h : Nat} (k : Mk O w h) {f l : Sq} (p : PartOf O f l) : Mk (O.map (mir f l)) w h := by
  obtain ⟨f1, f2, f3, f4, f5⟩ := k.inn f p.fm
  obtain ⟨l1, l2, l3, l4, l5⟩ := k.inn l p.lm
  have mixed : ∀ a ∈ O, ∀ b ∈ O, insB f l a = true → ¬ insB f l b = true → ¬ ovl (f.1 + (l.1 + l.2.2) - a.1 - a.2.2, a.2.1, a.2.2) b := fun a ha b hb ia ib ho => by
    obtain ⟨d1, d2, d3, d4⟩ := insB_iff.1 ia
    obtain ⟨a1, a2, a3, a4, a5⟩ := k.inn a ha
    obtain ⟨b1, b2, b3, b4, b5⟩ := k.inn b hb
    obtain ⟨o1, o2, o3, o4⟩ := ho
    simp only at o1 o2 o3 o4
    obtain ⟨x, hx⟩ : ∃ x : Nat, (x : Int) = max (f.1 + (l.1 + l.2.2) - a.1 - a.2.2) b.1 := ⟨(max (f.1 + (l.1 + l.2.2) - a.1 - a.2.2) b.1).toNat, by omega⟩
    obtain ⟨y, hy⟩ : ∃ y : Nat, (y : Int) = max a.2.1 b.2.1 := ⟨(max a.2.1 b.2.1).toNat, by omega⟩
    obtain ⟨q, hq, iq, hi⟩ := p.fill x y (by omega) (by omega) (by omega) (by omega)
    have hib : ins b x y := ⟨⟨by omega, by omega⟩, by omega, by omega⟩
    exact apart_of k.pw hq hb (fun e => ib (e ▸ iq)) (ins_ovl hi hib)
  refine ⟨k.w1, k.h1, fun q hq => ?_, ?_, ?_⟩
  · obtain ⟨a, ha, rfl⟩ := List.mem_map.1 hq
    obtain ⟨a1, a2, a3, a4, a5⟩ := k.inn a ha
    unfold mir
    split
    · rename_i ia
      obtain ⟨d1, d2, d3, d4⟩ := insB_iff.1 ia
      simp only
      omega
    · exact ⟨a1, a2, a3, a4, a5⟩
  · refine List.pairwise_map.2 (k.pw.imp_of_mem fun {a b} ha hb hn => ?_)
    unfold mir
    split
    · rename_i ia
      split
      · rename_i ib
        rintro ⟨o1, o2, o3, o4⟩
        simp only at o1 o2 o3 o4
        exact hn ⟨by omega, by omega, o3, o4⟩
      · rename_i ib
        exact mixed a ha b hb ia ib
    · rename_i ia
      split
      · rename_i ib
        exact fun ho => mixed b hb a ha ib ia (ovl_symm ho)
      · exact hn
  · rw [are_map fun q => mir_size, k.ar]
/-- the part's ends -/
theorem part_ends {O : List Sq} {w h : Nat} (k : Mk O w h) {f l : Sq} (p : PartOf O f l) : insB f l f = true ∧ insB f l l = true := by
  obtain ⟨f1, f2, f3, f4, f5⟩ := k.inn f p.fm
  obtain ⟨l1, l2, l3, l4, l5⟩ := k.inn l p.lm
  have hw := p.w
  have hh := p.h
  obtain ⟨x, hx⟩ : ∃ x : Nat, (x : Int) = f.1 := ⟨f.1.toNat, by omega⟩
  obtain ⟨y, hy⟩ : ∃ y : Nat, (y : Int) = f.2.1 := ⟨f.2.1.toNat, by omega⟩
  obtain ⟨x', hx'⟩ : ∃ x : Nat, (x : Int) = l.1 + l.2.2 - 1 := ⟨(l.1 + l.2.2 - 1).toNat, by omega⟩
  obtain ⟨y', hy'⟩ : ∃ y : Nat, (y : Int) = l.2.1 + l.2.2 - 1 := ⟨(l.2.1 + l.2.2 - 1).toNat, by omega⟩
  constructor
  · obtain ⟨q, hq, iq, hi⟩ := p.fill x y (by omega) (by omega) (by omega) (by omega)
    have : q = f := Classical.byContradiction fun hn => apart_of k.pw hq p.fm hn (ins_ovl hi ⟨⟨by omega, by omega⟩, by omega, by omega⟩)
    rw [← this]
    rw [this] at iq ⊢
    exact iq
  · obtain ⟨q, hq, iq, hi⟩ := p.fill x' y' (by omega) (by omega) (by omega) (by omega)
    have : q = l := Classical.byContradiction fun hn => apart_of k.pw hq p.lm hn (ins_ovl hi ⟨⟨by omega, by omega⟩, by omega, by omega⟩)
    rw [this] at iq
    exact iq
end
end Go.Proofs.YtnhbkoeomefkdaaDoor.Ev.L

