/- Seams where nothing commutes, and where all does; counts without pairs. -/
import Derived.Test.YthankillfhmfkaaGreatDoorPmT1
import Derived.Test.YthankillfhmfkaaGreatDoorPmNN
set_option linter.unusedVariables false
namespace Go.Proofs.YthankillfhmfkaaGreatDoor.Ev
theorem fg_self {cm : Nat → Nat → Bool} {c : UInt8} {r : List UInt8} : fg cm (lt c) (c :: r) 0 = 0 := by
  unfold fg
  rw [if_pos rfl]; rfl
theorem nx_none_cm {cm : Nat → Nat → Bool} {K : Nat} (h : ∀ a b, cm a b = false) {c : UInt8} {r : List UInt8} (hc : lt c < K) : nx cm K (c :: r) = some (lt c) := by
  refine nx_some.2 ⟨hc, by rw [fg_self]; exact Int.le_refl _, fun y hy => ?_⟩
  unfold fg
  rw [if_neg (by omega), h]
  simp
theorem at0_self {cm : Nat → Nat → Bool} {c : UInt8} {r : List UInt8} : at0 cm (lt c) (c :: r) = 0 := by
  unfold at0
  rw [fg_self]; rfl
theorem lst_none {cm : Nat → Nat → Bool} {K : Nat} (h : ∀ a b, cm a b = false) : ∀ (l : List UInt8), OkL K l → lst cm K l = l
  | [], _ => by
    refine lst_stop (nx_none.2 fun y _ => ?_)
    unfold fg; omega
  | c :: r, hl => by
    have hc := hl c List.mem_cons_self
    rw [lst_step (nx_none_cm h (by unfold lt; omega)), at0_self, byte_of hc.1 rfl]
    show c :: lst cm K (wo (c :: r) 0) = c :: r
    rw [show wo (c :: r) 0 = r from rfl, lst_none h r fun x hx => hl x (List.mem_cons_of_mem _ hx)]
/-- all commute -/
theorem fg_all {cm : Nat → Nat → Bool} {K : Nat} (h : ∀ a b, a < K → b < K → a ≠ b → cm a b = true) {x : Nat} (hx : x < K) : ∀ (l : List UInt8) (i : Nat), OkL K l → (∃ c, c ∈ l ∧ lt c = x) → 0 ≤ fg cm x l i
  | [], _, _, ⟨_, hc, _⟩ => by cases hc
  | c :: r, i, hl, ⟨d, hd, hdx⟩ => by
    unfold fg
    by_cases hcx : lt c = x
    · rw [if_pos hcx]; omega
    · have hc := hl c List.mem_cons_self
      rw [if_neg hcx, if_pos (h _ _ (by unfold lt; omega) hx hcx)]
      refine fg_all h hx r (i + 1) (fun y hy => hl y (List.mem_cons_of_mem _ hy)) ⟨d, ?_, hdx⟩
      rcases List.mem_cons.1 hd with rfl | hd
      · exact absurd hdx hcx
      · exact hd
theorem least_mem {cm : Nat → Nat → Bool} {K : Nat} : ∀ (f : Nat) (l : List UInt8), OkL K l → ∀ c ∈ least cm K f l, c ∈ l
  | 0, _, _, c, hc => by cases hc
  | f + 1, l, hl, c, hc => by
    rw [least] at hc
    cases e : nx cm K l with
    | none => rw [e] at hc; cases hc
    | some x =>
      rw [e] at hc
      have hx := nx_some.1 e
      obtain ⟨_, _, d, hd, hdx⟩ := at0_lt hx.2.1
      have hdl := List.mem_of_getElem? hd
      rcases List.mem_cons.1 hc with rfl | hc
      · rw [byte_of (hl d hdl).1 hdx]; exact hdl
      · exact wo_mem (least_mem f _ hl.wo c hc)
theorem lst_mem {cm : Nat → Nat → Bool} {K : Nat} {l : List UInt8} (hl : OkL K l) {c : UInt8} (hc : c ∈ lst cm K l) : c ∈ l := least_mem _ _ hl c hc
theorem lst_sorted {cm : Nat → Nat → Bool} {K : Nat} (h : ∀ a b, a < K → b < K → a ≠ b → cm a b = true) : ∀ (n : Nat) (l : List UInt8), l.length = n → OkL K l → (lst cm K l).Pairwise fun a b => a.toNat ≤ b.toNat
  | n, l, hn, hl => by
    cases e : nx cm K l with
    | none => rw [lst_stop e]; exact List.Pairwise.nil
    | some x =>
      have hx := nx_some.1 e
      obtain ⟨hlt, _, d, hd, hdx⟩ := at0_lt hx.2.1
      have hwl := wo_len hlt
      rw [lst_step e]
      refine List.pairwise_cons.2 ⟨fun c hc => ?_, ?_⟩
      · have hcl := wo_mem (lst_mem hl.wo hc)
        have hcb := hl c hcl
        have hdb := hl d (List.mem_of_getElem? hd)
        rw [byte_of hdb.1 hdx]
        rcases Nat.lt_or_ge (lt c) x with h1 | h1
        · exact absurd (fg_all h (by omega) l 0 hl ⟨c, hcl, rfl⟩) (hx.2.2 _ h1)
        · unfold lt at hdx h1; omega
      · match n, hn with
        | 0, hn => omega
        | n + 1, hn => exact lst_sorted h n _ (by omega) hl.wo
  termination_by n => n
theorem pw_adj {l : List UInt8} (h : l.Pairwise fun a b => a.toNat ≤ b.toNat) {i : Nat} {a b : UInt8} (ha : l[i]? = some a) (hb : l[i + 1]? = some b) : a.toNat ≤ b.toNat := by
  obtain ⟨h1, rfl⟩ := List.getElem?_eq_some_iff.1 ha
  obtain ⟨h2, rfl⟩ := List.getElem?_eq_some_iff.1 hb
  exact List.pairwise_iff_getElem.1 h i (i + 1) h1 h2 (by omega)
end Go.Proofs.YthankillfhmfkaaGreatDoor.Ev
namespace Go.Lm
theorem clq_none : ∀ k, 1 ≤ k → k ≤ 6 → clq (fun _ _ => false) k = [1, k] := by
  intro k h1 h6
  have : k = 1 ∨ k = 2 ∨ k = 3 ∨ k = 4 ∨ k = 5 ∨ k = 6 := by omega
  rcases this with rfl | rfl | rfl | rfl | rfl | rfl <;> decide +kernel
theorem cnt_pow {k : Nat} : ∀ n, cnt [1, k] n = ((k ^ n : Nat) : Int)
  | 0 => rfl
  | n + 1 => by
    rw [cnt_rec (N := n + 1) (by omega)]
    have e : szs [1, k] (n + 1) = 1 := by simp [szs]
    rw [e]
    show psum [1, k] (cnts [1, k] (n + 1)) (n + 1) 0 + sg 1 * ((k : Nat) : Int) * (cnts [1, k] (n + 1)).getD (n + 1 - 1) 0 = _
    rw [Nat.add_sub_cancel, cnts_getD (by omega), cnt_pow n, Nat.pow_succ]
    show 0 + 1 * (k : Int) * _ = _
    rw [Int.one_mul, Int.zero_add, Int.natCast_mul, Int.mul_comm ((k ^ n : Nat) : Int)]
end Go.Lm

