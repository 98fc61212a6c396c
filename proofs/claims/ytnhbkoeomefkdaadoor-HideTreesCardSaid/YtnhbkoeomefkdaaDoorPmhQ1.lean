/- Squares: what a cut is. Mathematics alone. -/
import Derived.Test.YtnhbkoeomefkdaaDoorPmhO
set_option linter.unusedVariables false
set_option linter.unusedSimpArgs false
namespace Go.Proofs.YtnhbkoeomefkdaaDoor.Ev
open Go
noncomputable section

/-- a square: X, Y, Size -/
abbrev Sq := Int × Int × Int
def okSq (q : Sq) : Prop := 1 ≤ q.2.2 ∧ q.2.2 ≤ 1000 ∧ (0 ≤ q.1 ∧ q.1 ≤ 1000 - q.2.2) ∧ 0 ≤ q.2.1 ∧ q.2.1 ≤ 1000 - q.2.2
instance : DecidablePred okSq := fun q => by unfold okSq; infer_instance
def wid (L : List Sq) : Int := L.foldl (fun a q => max a (q.1 + q.2.2)) 0
def hei (L : List Sq) : Int := L.foldl (fun a q => max a (q.2.1 + q.2.2)) 0
def are (L : List Sq) : Int := L.foldl (fun a q => a + q.2.2 * q.2.2) 0
theorem wid_snoc {L : List Sq} {q : Sq} : wid (L ++ [q]) = max (wid L) (q.1 + q.2.2) := by simp [wid, List.foldl_append]
theorem hei_snoc {L : List Sq} {q : Sq} : hei (L ++ [q]) = max (hei L) (q.2.1 + q.2.2) := by simp [hei, List.foldl_append]
theorem are_snoc {L : List Sq} {q : Sq} : are (L ++ [q]) = are L + q.2.2 * q.2.2 := by simp [are, List.foldl_append]
theorem take_snoc {α : Type} {L : List α} {i : Nat} {q : α} (h : L[i]? = some q) : L.take (i + 1) = L.take i ++ [q] := by
  rw [List.take_add_one, h]; rfl
/-- induction from the front's end -/
theorem snoc_ind {α : Type} {p : List α → Prop} (h0 : p []) (h1 : ∀ L q, p L → p (L ++ [q])) (L : List α) : p L := by
  have key : ∀ n (L : List α), L.length = n → p L := by
    intro n
    induction n with
    | zero => intro L hl; rw [List.length_eq_zero_iff.1 hl]; exact h0
    | succ n ih =>
      intro L hl
      have hne : L ≠ [] := by rintro rfl; simp at hl
      rw [← List.dropLast_concat_getLast hne]
      exact h1 _ _ (ih _ (by simp [hl]))
  exact key _ L rfl
theorem sq_le {s : Int} (h0 : 1 ≤ s) (h1 : s ≤ 1000) : 0 ≤ s * s ∧ s * s ≤ 1000000 := by
  constructor
  · exact Int.mul_nonneg (by omega) (by omega)
  · have := Int.mul_le_mul h1 h1 (by omega) (by omega)
    omega
theorem bounds (L : List Sq) : (∀ q ∈ L, okSq q) → (0 ≤ wid L ∧ wid L ≤ 1000) ∧ (0 ≤ hei L ∧ hei L ≤ 1000) ∧ 0 ≤ are L ∧ are L ≤ L.length * 1000000 := by
  refine snoc_ind (p := fun L => (∀ q ∈ L, okSq q) → (0 ≤ wid L ∧ wid L ≤ 1000) ∧ (0 ≤ hei L ∧ hei L ≤ 1000) ∧ 0 ≤ are L ∧ are L ≤ L.length * 1000000) (fun _ => by simp [wid, hei, are]) (fun L q ih h => ?_) L
  have h1 := ih fun q hq => h q (List.mem_append_left _ hq)
  have h2 := h q (by simp)
  obtain ⟨a1, a2, ⟨a3, a4⟩, a5, a6⟩ := h2
  have h3 := sq_le a1 a2
  rw [wid_snoc, hei_snoc, are_snoc]
  simp only [List.length_append, List.length_cons, List.length_nil]
  omega
def ovl (a b : Sq) : Prop := a.1 < b.1 + b.2.2 ∧ b.1 < a.1 + a.2.2 ∧ a.2.1 < b.2.1 + b.2.2 ∧ b.2.1 < a.2.1 + a.2.2
instance {a b : Sq} : Decidable (ovl a b) := by unfold ovl; infer_instance
theorem ovl_symm {a b : Sq} (h : ovl a b) : ovl b a := ⟨h.2.1, h.1, h.2.2.2, h.2.2.1⟩
/-- no two overlap -/
def dis (L : List Sq) : Prop := ∀ (i k : Nat) (a b : Sq), L[i]? = some a → L[k]? = some b → k < i → ¬ ovl a b
def cov (L : List Sq) : Prop := 0 < L.length ∧ dis L ∧ are L = wid L * hei L
open Classical in
/-- what is wrong with squares -/
def chk (L : List Sq) : Int := if 24 < L.length then 3 else if ∀ q ∈ L, okSq q then (if cov L then 0 else 2) else 1
theorem chk_long {L : List Sq} (h : 24 < L.length) : chk L = 3 := if_pos h
theorem chk_bad {L : List Sq} (h : ¬ 24 < L.length) (h2 : ¬ ∀ q ∈ L, okSq q) : chk L = 1 := by unfold chk; rw [if_neg h, if_neg h2]
theorem chk_form {L : List Sq} (h : ¬ 24 < L.length) (h2 : ∀ q ∈ L, okSq q) (h3 : ¬ cov L) : chk L = 2 := by unfold chk; rw [if_neg h, if_pos h2, if_neg h3]
theorem chk_ok {L : List Sq} (h : ¬ 24 < L.length) (h2 : ∀ q ∈ L, okSq q) (h3 : cov L) : chk L = 0 := by unfold chk; rw [if_neg h, if_pos h2, if_pos h3]
theorem chk_zero {L : List Sq} (h : chk L = 0) : L.length ≤ 24 ∧ (∀ q ∈ L, okSq q) ∧ cov L := by
  unfold chk at h
  split at h
  · cases h
  · split at h
    · split at h
      · exact ⟨by omega, by assumption, by assumption⟩
      · cases h
    · cases h
def ltSq (a b : Sq) : Bool := decide (a.2.1 < b.2.1 ∨ (a.2.1 = b.2.1 ∧ a.1 < b.1))
theorem ltSq_f {a b : Sq} : ltSq a b = false ↔ b.2.1 < a.2.1 ∨ (a.2.1 = b.2.1 ∧ b.1 ≤ a.1) := by
  simp only [ltSq, decide_eq_false_iff_not]
  omega
def ordSq (L : List Sq) : List Sq := srtL ltSq L
theorem ordSq_perm {L : List Sq} : (ordSq L).Perm L := srtL_perm L
theorem cov_one {L : List Sq} (hok : ∀ q ∈ L, okSq q) (hd : dis L) : ∀ a ∈ L, ∀ b ∈ L, ltSq a b = false → ltSq b a = false → a = b := by
  intro a ha b hb h1 h2
  rw [ltSq_f] at h1 h2
  have hx : a.1 = b.1 ∧ a.2.1 = b.2.1 := by omega
  obtain ⟨i, hi, rfl⟩ := List.mem_iff_getElem.1 ha
  obtain ⟨k, hk, rfl⟩ := List.mem_iff_getElem.1 hb
  have o1 := hok _ (List.getElem_mem hi)
  have o2 := hok _ (List.getElem_mem hk)
  obtain ⟨p1, _⟩ := o1
  obtain ⟨p2, _⟩ := o2
  have hov : ovl L[i] L[k] := by unfold ovl; omega
  rcases Nat.lt_trichotomy i k with h | h | h
  · exact absurd (ovl_symm hov) (hd k i _ _ (List.getElem?_eq_getElem hk) (List.getElem?_eq_getElem hi) h)
  · subst h; rfl
  · exact absurd hov (hd i k _ _ (List.getElem?_eq_getElem hi) (List.getElem?_eq_getElem hk) h)
/-- the cells of squares -/
def sqc (L : List Sq) : List Value := L.flatMap fun q => tri q.1 q.2.1 q.2.2
theorem sqc_len {L : List Sq} : (sqc L).length = L.length * 3 := by
  induction L with
  | nil => rfl
  | cons q L ih =>
    have : sqc (q :: L) = tri q.1 q.2.1 q.2.2 ++ sqc L := rfl
    rw [this, List.length_append, ih, List.length_cons, Nat.add_mul]
    show 3 + _ = _
    omega
theorem sqc_app {L M : List Sq} : sqc (L ++ M) = sqc L ++ sqc M := by simp [sqc]
theorem sqc_one {L : List Sq} : (sqc L).all oneB = true := by
  refine List.all_eq_true.2 fun v hv => ?_
  obtain ⟨q, _, hv⟩ := List.mem_flatMap.1 hv
  simp only [tri, List.mem_cons, List.not_mem_nil, or_false] at hv
  rcases hv with rfl | rfl | rfl <;> rfl
theorem sqc_drop : ∀ {L : List Sq} {i : Nat} {q : Sq}, L[i]? = some q → ((sqc L).drop (i * 3)).take 3 = tri q.1 q.2.1 q.2.2
  | a :: L, 0, q, h => by simp at h; subst h; rfl
  | a :: L, i + 1, q, h => by
    have h' : L[i]? = some q := by simpa using h
    have := sqc_drop h'
    rw [show (i + 1) * 3 = 3 + i * 3 by omega, ← List.drop_drop]
    exact this
theorem sqc_take {L : List Sq} : ∀ {n : Nat}, (sqc L).take (n * 3) = sqc (L.take n) := by
  induction L with
  | nil => intro n; simp [sqc]
  | cons a L ih =>
    intro n
    cases n with
    | zero => simp [sqc]
    | succ n =>
      have : sqc (a :: L) = tri a.1 a.2.1 a.2.2 ++ sqc L := rfl
      rw [this, show (n + 1) * 3 = 3 + n * 3 by omega, List.take_succ_cons]
      have e : (tri a.1 a.2.1 a.2.2 ++ sqc L).take (3 + n * 3) = tri a.1 a.2.1 a.2.2 ++ (sqc L).take (n * 3) := by
        rw [List.take_append, show (tri a.1 a.2.1 a.2.2).length = 3 from rfl, show 3 + n * 3 - 3 = n * 3 by omega, List.take_of_length_le (by show 3 ≤ _; omega)]
      rw [e, ih]
      rfl
theorem sqc_dropn {L : List Sq} : ∀ {n : Nat}, (sqc L).drop (n * 3) = sqc (L.drop n) := by
  induction L with
  | nil => intro n; simp [sqc]
  | cons a L ih =>
    intro n
    cases n with
    | zero => simp [sqc]
    | succ n =>
      have : sqc (a :: L) = tri a.1 a.2.1 a.2.2 ++ sqc L := rfl
      rw [this, show (n + 1) * 3 = 3 + n * 3 by omega, ← List.drop_drop, List.drop_succ_cons]
      exact ih
theorem sqc_chunks : ∀ {L : List Sq}, chunks 3 L.length (sqc L) = L.map fun q => tri q.1 q.2.1 q.2.2
  | [] => rfl
  | a :: L => by
    have : sqc (a :: L) = tri a.1 a.2.1 a.2.2 ++ sqc L := rfl
    rw [this]
    show tri a.1 a.2.1 a.2.2 :: chunks 3 L.length (sqc L) = _
    rw [sqc_chunks]
    rfl
theorem srtL_map {α β : Type} {f : α → β} {lt : α → α → Bool} {lt' : β → β → Bool} (h : ∀ a b, lt' (f a) (f b) = lt a b) : ∀ L : List α, srtL lt' (L.map f) = (srtL lt L).map f := by
  have hi : ∀ (x : α) (L : List α), insL lt' (f x) (L.map f) = (insL lt x L).map f := by
    intro x L
    induction L with
    | nil => rfl
    | cons y L ih =>
      simp only [List.map_cons, insL, h]
      split
      · rw [ih]; rfl
      · rfl
  intro L
  induction L with
  | nil => rfl
  | cons x L ih => simp only [List.map_cons, srtL, ih, hi]
theorem sqc_srt {h : H} {L : List Sq} : (srtL (fun x y => decide (cfSq h x y < 0)) (chunks 3 L.length (sqc L))).flatten = sqc (ordSq L) := by
  rw [sqc_chunks, srtL_map (lt := ltSq) fun a b => ?_]
  · unfold sqc ordSq
    rw [← List.flatMap_def]
  · show decide (lex2 _ _ _ _ < 0) = ltSq a b
    unfold ltSq
    exact decide_eq_decide.2 lex2_neg
end
end Go.Proofs.YtnhbkoeomefkdaaDoor.Ev

