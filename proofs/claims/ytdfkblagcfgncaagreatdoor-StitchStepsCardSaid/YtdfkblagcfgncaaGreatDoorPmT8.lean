/- Steps of a seam. Mathematics alone. -/
import Derived.Test.YtdfkblagcfgncaaGreatDoorPmT6
import Derived.Test.YtdfkblagcfgncaaGreatDoorPmT7
namespace Go.Proofs.YtdfkblagcfgncaaGreatDoor.Ev
variable {cm : Nat → Nat → Bool}

/-- the letters of a height, of the first i -/
def sp (cm : Nat → Nat → Bool) (l : List UInt8) (n : Nat) : Nat → List UInt8
  | 0 => []
  | i + 1 => if ht cm l i = n then sp cm l n i ++ [l.getD i 0] else sp cm l n i
/-- the greatest height of the first i -/
def mx (cm : Nat → Nat → Bool) (l : List UInt8) : Nat → Nat
  | 0 => 0
  | i + 1 => max (mx cm l i) (ht cm l i)
theorem mx_ge {l : List UInt8} {k : Nat} : ∀ {i : Nat}, k < i → ht cm l k ≤ mx cm l i
  | 0, h => by omega
  | i + 1, h => by
    rw [mx]
    by_cases e : k = i
    · subst e; omega
    · have := mx_ge (l := l) (show k < i by omega); omega
theorem ht_pos {l : List UInt8} {i : Nat} : 1 ≤ ht cm l i := hR_pos _
theorem ht_mx {l : List UInt8} {i : Nat} : ht cm l i ≤ mx cm l i + 1 := by
  rcases hR_cases (cm := cm) (l := l) (H := hts cm l i) (c := l.getD i 0) i with h | ⟨k, h1, _, h3⟩
  · unfold ht; omega
  · rw [hts_getD h1] at h3
    have := mx_ge (cm := cm) (l := l) h1
    show hR cm l (hts cm l i) (l.getD i 0) i ≤ _
    omega
theorem mx_le {l : List UInt8} : ∀ i, mx cm l i ≤ i
  | 0 => Nat.le_refl _
  | i + 1 => by
    have h1 := mx_le (l := l) i
    have h2 := ht_mx (cm := cm) (l := l) (i := i)
    rw [mx]; omega
theorem sp_empty {l : List UInt8} {n : Nat} : ∀ {i : Nat}, mx cm l i < n → sp cm l n i = []
  | 0, _ => rfl
  | i + 1, h => by
    rw [mx] at h
    rw [sp, if_neg (by omega), sp_empty (by omega)]
theorem sp_ne {l : List UInt8} {n : Nat} (h1 : 1 ≤ n) : ∀ {i : Nat}, n ≤ mx cm l i → sp cm l n i ≠ []
  | 0, h => by rw [mx] at h; omega
  | i + 1, h => by
    rw [mx] at h
    rw [sp]
    by_cases e : ht cm l i = n
    · rw [if_pos e]; simp
    · rw [if_neg e]
      have := ht_mx (cm := cm) (l := l) (i := i)
      exact sp_ne h1 (by omega)
theorem sp_mem {l : List UInt8} {n : Nat} {c : UInt8} : ∀ {i : Nat}, c ∈ sp cm l n i → ∃ k, k < i ∧ l.getD k 0 = c ∧ ht cm l k = n
  | 0, h => by cases h
  | i + 1, h => by
    rw [sp] at h
    by_cases e : ht cm l i = n
    · rw [if_pos e] at h
      rcases List.mem_append.1 h with h | h
      · obtain ⟨k, h1, h2, h3⟩ := sp_mem h
        exact ⟨k, by omega, h2, h3⟩
      · exact ⟨i, by omega, (List.mem_singleton.1 h).symm, e⟩
    · rw [if_neg e] at h
      obtain ⟨k, h1, h2, h3⟩ := sp_mem h
      exact ⟨k, by omega, h2, h3⟩
theorem sp_ok {l : List UInt8} {n k i : Nat} (hl : OkL k l) (hi : i ≤ l.length) : OkL k (sp cm l n i) := fun c hc => by
  obtain ⟨j, h1, h2, _⟩ := sp_mem hc
  have : l[j]? = some c := by rw [List.getElem?_eq_getElem (by omega), ← h2, List.getD_eq_getElem?_getD, List.getElem?_eq_getElem (by omega)]; rfl
  exact hl c (List.mem_of_getElem? this)
theorem sp_cnt {l : List UInt8} {n : Nat} (hirr : ∀ a, cm a a = false) (hl : OkL 6 l) : ∀ {i : Nat}, i ≤ l.length → (sp cm l n i).length = cnt (ltr (sp cm l n i))
  | 0, _ => by
    have : cnt (ltr ([] : List UInt8)) = 0 := by
      unfold cnt
      rw [List.countP_eq_zero]
      intro z _ h
      obtain ⟨c, hc, _⟩ := ltr_iff.1 h
      cases hc
    exact this.symm
  | i + 1, hi => by
    have ih := sp_cnt (n := n) hirr hl (show i ≤ l.length by omega)
    rw [sp]
    by_cases e : ht cm l i = n
    · rw [if_pos e, List.length_append, ih]
      have hci : l[i]? = some (l.getD i 0) := by rw [List.getD_eq_getElem?_getD, List.getElem?_eq_getElem (by omega)]; rfl
      have hc := hl _ (List.mem_of_getElem? hci)
      have hno : ltr (sp cm l n i) (lt (l.getD i 0)) = false := by
        rw [Bool.eq_false_iff]
        intro h
        obtain ⟨c, hm, he⟩ := ltr_iff.1 h
        obtain ⟨k, h1, h2, h3⟩ := sp_mem hm
        have := hR_ge (cm := cm) (l := l) (H := hts cm l i) (c := l.getD i 0) h1 (by rw [h2, he]; exact hirr _)
        rw [hts_getD h1] at this
        have h4 : ht cm l i = hR cm l (hts cm l i) (l.getD i 0) i := rfl
        omega
      rw [cnt_add (op := ltr (sp cm l n i)) (op' := ltr (sp cm l n i ++ [l.getD i 0])) (x := lt (l.getD i 0)) (by unfold lt; omega) hno fun z => by
        rw [ltr_append, ltr_one]; exact ⟨fun h => h.imp id Eq.symm, fun h => h.imp id Eq.symm⟩]
      rfl
    · rw [if_neg e]; exact ih
theorem sp_le {l : List UInt8} {n i : Nat} (hirr : ∀ a, cm a a = false) (hl : OkL 6 l) (hi : i ≤ l.length) : (sp cm l n i).length ≤ 6 := by
  rw [sp_cnt hirr hl hi]; exact cnt_le

/-- letters below x of a seam, in their order -/
def srtB (s : List UInt8) : Nat → List UInt8
  | 0 => []
  | x + 1 => srtB s x ++ s.filter fun c => decide (lt c = x)
theorem srtB_mem {s : List UInt8} {c : UInt8} : ∀ {x : Nat}, c ∈ srtB s x ↔ c ∈ s ∧ lt c < x
  | 0 => by simp [srtB]
  | x + 1 => by
    rw [srtB, List.mem_append, srtB_mem (x := x), List.mem_filter, decide_eq_true_eq]
    constructor
    · rintro (⟨h1, h2⟩ | ⟨h1, h2⟩)
      · exact ⟨h1, by omega⟩
      · exact ⟨h1, by omega⟩
    · rintro ⟨h1, h2⟩
      by_cases e : lt c = x
      · exact .inr ⟨h1, e⟩
      · exact .inl ⟨h1, by omega⟩
theorem srtB_srt {s : List UInt8} (hs : OkL 6 s) : ∀ x : Nat, (srtB s x).Pairwise fun a b => a.toNat ≤ b.toNat
  | 0 => List.Pairwise.nil
  | x + 1 => by
    rw [srtB, List.pairwise_append]
    refine ⟨srtB_srt hs x, ?_, fun a ha b hb => ?_⟩
    · rw [List.pairwise_iff_forall_sublist]
      intro a b hab
      have ha := hab.subset (List.mem_cons_self)
      have hb := hab.subset (List.mem_cons_of_mem _ List.mem_cons_self)
      simp only [List.mem_filter, decide_eq_true_eq] at ha hb
      have h1 := hs a ha.1
      have h2 := hs b hb.1
      have h3 := ha.2
      have h4 := hb.2
      unfold lt at h3 h4
      omega
    · have h1 := srtB_mem.1 ha
      simp only [List.mem_filter, decide_eq_true_eq] at hb
      have h2 := hs a h1.1
      have h3 := hs b hb.1
      have h4 := h1.2
      have h5 := hb.2
      unfold lt at h4 h5
      omega
theorem srtB_count {s : List UInt8} {c : UInt8} : ∀ x : Nat, (srtB s x).count c = if lt c < x then s.count c else 0
  | 0 => rfl
  | x + 1 => by
    rw [srtB, List.count_append, srtB_count x]
    by_cases e : lt c = x
    · rw [if_neg (by omega), if_pos (by omega), List.count_filter (by simpa using e)]
      omega
    · have h0 : (s.filter fun d => decide (lt d = x)).count c = 0 := by
        rw [List.count_eq_zero]
        intro h
        simp only [List.mem_filter, decide_eq_true_eq] at h
        exact e h.2
      rw [h0]
      by_cases h2 : lt c < x
      · rw [if_pos h2, if_pos (by omega)]; omega
      · rw [if_neg h2, if_neg (by omega)]
theorem srtB_perm {s : List UInt8} (hs : OkL 6 s) : (srtB s 6).Perm s := by
  rw [List.perm_iff_count]
  intro c
  rw [srtB_count]
  by_cases h : lt c < 6
  · rw [if_pos h]
  · rw [if_neg h]
    symm
    rw [List.count_eq_zero]
    intro hm
    have := hs c hm
    unfold lt at h
    omega
theorem srt_unique {s r : List UInt8} (hs : OkL 6 s) (hp : r.Perm s) (hr : r.Pairwise fun a b => a.toNat ≤ b.toNat) : r = srtB s 6 :=
  List.Perm.eq_of_pairwise (le := fun a b : UInt8 => a.toNat ≤ b.toNat) (fun a b _ _ h1 h2 => UInt8.toNat_inj.1 (Nat.le_antisymm h1 h2)) hr (srtB_srt hs 6) (hp.trans (srtB_perm hs).symm)
theorem srtB_nil {s : List UInt8} (hs : OkL 6 s) : srtB s 6 = [] ↔ s = [] := by
  have := (srtB_perm hs).length_eq
  constructor
  · intro h
    rw [h] at this
    exact List.eq_nil_of_length_eq_zero this.symm
  · intro h
    subst h
    rfl
/-- the steps -/
def stps (cm : Nat → Nat → Bool) (l : List UInt8) (n : Nat) : List (List UInt8) := (List.range n).map fun r => srtB (sp cm l (r + 1) l.length) 6
theorem stps_succ {l : List UInt8} {n : Nat} : stps cm l (n + 1) = stps cm l n ++ [srtB (sp cm l (n + 1) l.length) 6] := by
  unfold stps
  rw [List.range_succ, List.map_append]
  rfl
theorem stps_len {l : List UInt8} {n : Nat} : (stps cm l n).length = n := by simp [stps]
end Go.Proofs.YtdfkblagcfgncaaGreatDoor.Ev

