/- A heap's relation, cut down to finitely many blocks; lists of elements; sorting by a comparison. -/
import Derived.Test.YtnhbkoeomefkdaaDoorPmSo
set_option linter.unusedVariables false
set_option linter.unusedSimpArgs false
namespace Go.Proofs.YtnhbkoeomefkdaaDoor.Ev
open Go Go.RowKit
variable {P : Program} {E : Env}
noncomputable section

theorem bound_all {n : Nat} {p : Nat → Nat → Prop} (hm : ∀ i M M', M ≤ M' → p i M → p i M') (h : ∀ i, i < n → ∃ M, p i M) : ∃ M, ∀ i, i < n → p i M := by
  induction n with
  | zero => exact ⟨0, fun i hi => by omega⟩
  | succ n ih =>
    obtain ⟨M, hM⟩ := ih fun i hi => h i (by omega)
    obtain ⟨M', hM'⟩ := h n (by omega)
    refine ⟨max M M', fun i hi => ?_⟩
    by_cases e : i = n
    · subst e; exact hm _ _ _ (Nat.le_max_right _ _) hM'
    · exact hm _ _ _ (Nat.le_max_left _ _) (hM i (by omega))
/-- the same below M -/
def Eq' (M : Nat) (φ φ' : Phi) : Prop := ∀ b, b < M → φ' b = φ b
theorem Eq'.mono {M M' : Nat} {φ φ' : Phi} (h : Eq' M' φ φ') (hm : M ≤ M') : Eq' M φ φ' := fun b hb => h b (by omega)
theorem VR.bound {φ : Phi} {v v' : Value} (h : VR φ v v') : ∃ M, ∀ φ', Eq' M φ φ' → VR φ' v v' := by
  induction h with
  | ptr h => rename_i b _ _ _ _ _; exact ⟨b + 1, fun φ' he => .ptr ((he b (by omega)).trans h)⟩
  | mapr h => rename_i b _ _ _ _; exact ⟨b + 1, fun φ' he => .mapr ((he b (by omega)).trans h)⟩
  | slc h hn hm ht hA => rename_i b _ _ _ _ _ _ _ _ _; exact ⟨b + 1, fun φ' he => .slc ((he b (by omega)).trans h) hn hm ht hA⟩
  | func fn h1 h2 _ _ ih1 ih2 =>
    rename_i f f' c c' _ _
    obtain ⟨M1, hM1⟩ := bound_all (n := f.size) (p := fun i M => ∀ φ', Eq' M φ φ' → ∀ (h : i < f.size) (h' : i < f'.size), VR φ' f[i] f'[i]) (fun i M M' hm hp φ' he => hp φ' (he.mono hm)) fun i hi => by
      obtain ⟨M, hM⟩ := ih1 i hi (by omega)
      exact ⟨M, fun φ' he _ _ => hM φ' he⟩
    obtain ⟨M2, hM2⟩ := bound_all (n := c.size) (p := fun i M => ∀ φ', Eq' M φ φ' → ∀ (h : i < c.size) (h' : i < c'.size), VR φ' c[i] c'[i]) (fun i M M' hm hp φ' he => hp φ' (he.mono hm)) fun i hi => by
      obtain ⟨M, hM⟩ := ih2 i hi (by omega)
      exact ⟨M, fun φ' he _ _ => hM φ' he⟩
    exact ⟨max M1 M2, fun φ' he => .func fn h1 h2 (fun i h h' => hM1 i h φ' (he.mono (Nat.le_max_left _ _)) h h') fun i h h' => hM2 i h φ' (he.mono (Nat.le_max_right _ _)) h h'⟩
  | iface t _ ih =>
    obtain ⟨M, hM⟩ := ih
    exact ⟨M, fun φ' he => .iface t (hM φ' he)⟩
  | agg h2 _ ih =>
    rename_i c c' _
    obtain ⟨M2, hM2⟩ := bound_all (n := c.size) (p := fun i M => ∀ φ', Eq' M φ φ' → ∀ (h : i < c.size) (h' : i < c'.size), VR φ' c[i] c'[i]) (fun i M M' hm hp φ' he => hp φ' (he.mono hm)) fun i hi => by
      obtain ⟨M, hM⟩ := ih i hi (by omega)
      exact ⟨M, fun φ' he _ _ => hM φ' he⟩
    exact ⟨M2, fun φ' he => .agg h2 fun i h h' => hM2 i h φ' he h h'⟩
  | tuple h2 _ ih =>
    rename_i c c' _
    obtain ⟨M2, hM2⟩ := bound_all (n := c.size) (p := fun i M => ∀ φ', Eq' M φ φ' → ∀ (h : i < c.size) (h' : i < c'.size), VR φ' c[i] c'[i]) (fun i M M' hm hp φ' he => hp φ' (he.mono hm)) fun i hi => by
      obtain ⟨M, hM⟩ := ih i hi (by omega)
      exact ⟨M, fun φ' he _ _ => hM φ' he⟩
    exact ⟨M2, fun φ' he => .tuple h2 fun i h h' => hM2 i h φ' he h h'⟩
  | emp => exact ⟨0, fun φ' _ => .emp⟩
  | _ => exact ⟨0, fun φ' _ => by constructor⟩
theorem VRs.bound {φ : Phi} {l l' : List Value} (h : VRs φ l l') : ∃ M, ∀ φ', Eq' M φ φ' → VRs φ' l l' := by
  induction h with
  | nil => exact ⟨0, fun _ _ => .nil⟩
  | cons h _ ih =>
    obtain ⟨M1, h1⟩ := h.bound
    obtain ⟨M2, h2⟩ := ih
    exact ⟨max M1 M2, fun φ' he => .cons (h1 φ' (he.mono (Nat.le_max_left _ _))) (h2 φ' (he.mono (Nat.le_max_right _ _)))⟩
theorem EsR.bound {φ : Phi} {l : List (Value × Value)} {es : List MapEntry} (h : EsR φ l es) : ∃ M, ∀ φ', Eq' M φ φ' → EsR φ' l es := by
  induction h with
  | nil => exact ⟨0, fun _ _ => .nil⟩
  | cons hp hk hv _ ih =>
    obtain ⟨M1, h1⟩ := hv.bound
    obtain ⟨M2, h2⟩ := ih
    exact ⟨max M1 M2, fun φ' he => .cons hp hk (h1 φ' (he.mono (Nat.le_max_left _ _))) (h2 φ' (he.mono (Nat.le_max_right _ _)))⟩
theorem Bears.bound {φ : Phi} {w : World} {wr gl : Prop} {cells : Tr Value} {size es : Nat} {x : Nat × Nat × Nat × Nat} (h : Bears φ w wr gl cells size es x) : ∃ M, ∀ φ', Eq' M φ φ' → Bears φ' w wr gl cells size es x := by
  obtain ⟨c, sh, es', top⟩ := x
  obtain ⟨h1, cs, ty, fr, h2, h3, h4, h5, h6⟩ := h
  obtain ⟨M, hM⟩ := bound_all (n := size) (p := fun i M => ∀ φ', Eq' M φ φ' → ∃ v v', cells.get i = some v ∧ cs[sh + i]? = some v' ∧ VR φ' v v') (fun i M M' hm hp φ' he => hp φ' (he.mono hm)) fun i hi => by
    obtain ⟨v, v', g1, g2, g3⟩ := h6 i hi
    obtain ⟨M, hM⟩ := g3.bound
    exact ⟨M, fun φ' he => ⟨v, v', g1, g2, hM φ' he⟩⟩
  exact ⟨M, fun φ' he => ⟨h1, cs, ty, fr, h2, h3, h4, h5, fun i hi => hM i hi φ' he⟩⟩
/-- a relation of which finitely many blocks are left -/
theorem HR.cut {φ : Phi} {h : H} {w : World} (hok : Hok h) (hr : HR E φ h.blks.get w) {args args' : List Value} (ha : VRs φ args args') :
    ∃ (M : Nat) (φ' : Phi), h.next ≤ M ∧ (∀ b, M ≤ b → φ' b = none) ∧ (∀ b, b < h.next → φ' b = φ b) ∧ (∀ b x, φ' b = some x → φ b = some x) ∧ HR E φ' h.blks.get w ∧ VRs φ' args args' := by
  obtain ⟨M1, h1⟩ := ha.bound
  obtain ⟨M2, h2⟩ := bound_all (n := h.next) (p := fun b M => ∀ φ', Eq' M φ φ' → ∀ cells size es, h.blks.get b = some (.mk cells size es) → ∀ x, φ b = some x → Bears φ' w (E.G ≤ b) (b < E.G ∧ b < E.N) cells size es x) (fun i M M' hm hp φ' he => hp φ' (he.mono hm)) fun b hb => by
    by_cases hx : ∃ cells size es x, h.blks.get b = some (.mk cells size es) ∧ φ b = some x
    · obtain ⟨cells, size, es, x, g1, g2⟩ := hx
      obtain ⟨M, hM⟩ := (hr.blk b cells size es g1 x g2).bound
      refine ⟨M, fun φ' he cells' size' es' g3 x' g4 => ?_⟩
      rw [g1] at g3
      rw [g2] at g4
      injection g3 with g3
      injection g3 with e1 e2 e3
      injection g4 with g4
      subst e1; subst e2; subst e3; subst g4
      exact hM φ' he
    · exact ⟨0, fun φ' he cells size es g1 x g2 => absurd ⟨cells, size, es, x, g1, g2⟩ hx⟩
  obtain ⟨M3, h3⟩ := bound_all (n := h.next) (p := fun b M => ∀ φ', Eq' M φ φ' → ∀ l, h.blks.get b = some (.mp l) → ∀ x, φ b = some x → ∃ es clk, w.heap[x.1]? = some (.map es clk) ∧ EsR φ' l es.toList) (fun i M M' hm hp φ' he => hp φ' (he.mono hm)) fun b hb => by
    by_cases hx : ∃ l x, h.blks.get b = some (.mp l) ∧ φ b = some x
    · obtain ⟨l, x, g1, g2⟩ := hx
      obtain ⟨es, clk, g3, g4⟩ := hr.mp.blk b l g1 x g2
      obtain ⟨M, hM⟩ := g4.bound
      refine ⟨M, fun φ' he l' g5 x' g6 => ?_⟩
      rw [g1] at g5
      rw [g2] at g6
      injection g5 with g5
      injection g5 with g5
      injection g6 with g6
      subst g5; subst g6
      exact ⟨es, clk, g3, hM φ' he⟩
    · exact ⟨0, fun φ' he l g1 x g2 => absurd ⟨l, x, g1, g2⟩ hx⟩
  obtain ⟨M, hM⟩ : ∃ M, M = max (max M1 M2) (max M3 h.next) := ⟨_, rfl⟩
  have hlt : ∀ b B, h.blks.get b = some B → b < h.next := fun b B hb => by
    rcases Nat.lt_or_ge b h.next with g | g
    · exact g
    · rw [hok b g] at hb; cases hb
  have he : Eq' M φ (fun b => if b < M then φ b else none) := fun b hb => if_pos hb
  have hdn : ∀ b x, (if b < M then φ b else none) = some x → φ b = some x := fun b x hx => by
    split at hx
    · exact hx
    · cases hx
  refine ⟨M, fun b => if b < M then φ b else none, by omega, fun b hb => if_neg (by omega), fun b hb => if_pos (by omega), hdn, ⟨fun b cells size es hb x hx => ?_, fun b b' x x' cells size es cells' size' es' hG hb hb' hx hx' => hr.inj b b' x x' cells size es cells' size' es' hG hb hb' (hdn _ _ hx) (hdn _ _ hx'), fun b cells size es hG hN hb => ?_, fun b b' x x' cells size es cells' size' es' f1 f2 hlt hb hb' hx hx' => hr.mono b b' x x' cells size es cells' size' es' f1 f2 hlt hb hb' (hdn _ _ hx) (hdn _ _ hx'), ⟨fun b l hb x hx => ?_, fun b b' l l' x x' hb hb' hx hx' => hr.mp.inj b b' l l' x x' hb hb' (hdn _ _ hx) (hdn _ _ hx')⟩⟩, h1 _ (he.mono (by omega))⟩
  · exact h2 b (hlt b _ hb) _ (he.mono (by omega)) cells size es hb x (hdn _ _ hx)
  · obtain ⟨es', top, g⟩ := hr.glob b cells size es hG hN hb
    exact ⟨es', top, (if_pos (by have := hlt b _ hb; omega)).trans g⟩
  · exact h3 b (hlt b _ hb) _ (he.mono (by omega)) l hb x (hdn _ _ hx)
/-- with more that is only read -/
theorem HR.env {E' : Env} {φ : Phi} {g : Nat → Option Blk} {w : World} (hr : HR E φ g w) (hN : E'.N = E.N) (hG : E.G ≤ E'.G) (hNG : E.N ≤ E.G) (hf : ∀ b, E.frz b = false) (hf' : ∀ b, E'.frz b = false) : HR E' φ g w := by
  refine ⟨fun b cells size es hb x hx => ?_, fun b b' x x' cells size es cells' size' es' hG' hb hb' hx hx' he => ?_, fun b cells size es h1 h2 hb => hr.glob b cells size es (by omega) (by omega) hb, fun b b' x x' cells size es cells' size' es' f1 => (by rw [hf'] at f1; cases f1), ⟨hr.mp.blk, hr.mp.inj⟩⟩
  · obtain ⟨c, sh, es', top⟩ := x
    obtain ⟨h1, cs, ty, fr, h2, ⟨h3, h3'⟩, h4, h5, h6⟩ := hr.blk b cells size es hb _ hx
    exact ⟨h1, cs, ty, fr, h2, ⟨fun h => h3 (by omega), fun h => h3' ⟨by omega, by omega⟩⟩, h4, h5, h6⟩
  · rcases hr.inj b b' x x' cells size es cells' size' es' (by omega) hb hb' hx hx' he with h | ⟨h, _⟩
    · exact .inl h
    · rw [hf] at h; cases h

/-! elements of so many cells -/
def chunks (k : Nat) : Nat → List Value → List (List Value)
  | 0, _ => []
  | n + 1, l => l.take k :: chunks k n (l.drop k)
theorem chunks_len {k : Nat} : ∀ {n : Nat} {l : List Value}, (chunks k n l).length = n
  | 0, _ => rfl
  | n + 1, l => by simp [chunks, chunks_len]
theorem chunks_get {k : Nat} : ∀ {n : Nat} {l : List Value} {i : Nat}, i < n → (chunks k n l)[i]? = some ((l.drop (i * k)).take k)
  | n + 1, l, 0, _ => by simp [chunks]
  | n + 1, l, i + 1, h => by
    simp only [chunks, List.getElem?_cons_succ]
    rw [chunks_get (by omega), List.drop_drop, Nat.add_mul, Nat.one_mul, Nat.add_comm]
theorem chunks_flatten {k : Nat} : ∀ {n : Nat} {l : List Value}, l.length = n * k → (chunks k n l).flatten = l
  | 0, l, h => by simp at h; subst h; rfl
  | n + 1, l, h => by
    rw [Nat.add_mul, Nat.one_mul] at h
    simp only [chunks, List.flatten_cons]
    rw [chunks_flatten (by simp only [List.length_drop]; omega), List.take_append_drop]
theorem chunks_mem_len {k : Nat} : ∀ {n : Nat} {l : List Value}, l.length = n * k → ∀ x ∈ chunks k n l, x.length = k
  | 0, l, _, x, hx => by cases hx
  | n + 1, l, h, x, hx => by
    rw [Nat.add_mul, Nat.one_mul] at h
    rcases List.mem_cons.1 hx with rfl | hx
    · simp; omega
    · exact chunks_mem_len (by simp only [List.length_drop]; omega) x hx
/-! sorting by a comparison -/
section
variable {α : Type}
def insL (lt : α → α → Bool) (x : α) : List α → List α
  | [] => [x]
  | y :: r => if lt y x = true then y :: insL lt x r else x :: y :: r
def srtL (lt : α → α → Bool) : List α → List α
  | [] => []
  | x :: r => insL lt x (srtL lt r)
variable {lt : α → α → Bool}
theorem insL_perm (x : α) : ∀ l, (insL lt x l).Perm (x :: l)
  | [] => .refl _
  | y :: r => by
    unfold insL
    split
    · exact ((insL_perm x r).cons y).trans (.swap x y r)
    · exact .refl _
theorem srtL_perm : ∀ l : List α, (srtL lt l).Perm l
  | [] => .refl _
  | x :: r => (insL_perm x _).trans ((srtL_perm r).cons x)
theorem insL_sorted (x : α) : ∀ (l : List α), (∀ a ∈ x :: l, ∀ b ∈ x :: l, ∀ c ∈ x :: l, lt b a = false → lt c b = false → lt c a = false) → (∀ a ∈ x :: l, ∀ b ∈ x :: l, lt a b = true → lt b a = false) → l.Pairwise (fun a b => lt b a = false) → (insL lt x l).Pairwise fun a b => lt b a = false
  | [], _, _, _ => by simp [insL]
  | y :: r, ht, ha, h => by
    have h1 := List.pairwise_cons.1 h
    have sub : ∀ a, a ∈ x :: r → a ∈ x :: y :: r := fun a h => by
      rcases List.mem_cons.1 h with rfl | h
      · exact List.mem_cons_self
      · exact List.mem_cons_of_mem _ (List.mem_cons_of_mem _ h)
    have my : y ∈ x :: y :: r := List.mem_cons_of_mem _ List.mem_cons_self
    unfold insL
    split
    · rename_i hyx
      refine List.pairwise_cons.2 ⟨fun z hz => ?_, insL_sorted x r (fun a h b h' c h'' => ht a (sub a h) b (sub b h') c (sub c h'')) (fun a h b h' => ha a (sub a h) b (sub b h')) h1.2⟩
      rcases List.mem_cons.1 ((insL_perm x r).mem_iff.1 hz) with rfl | hz
      · exact ha y my z List.mem_cons_self hyx
      · exact h1.1 z hz
    · rename_i hyx
      have hyx' : lt y x = false := by simpa using hyx
      refine List.pairwise_cons.2 ⟨fun z hz => ?_, h⟩
      rcases List.mem_cons.1 hz with rfl | hz
      · exact hyx'
      · exact ht x List.mem_cons_self y my z (List.mem_cons_of_mem _ (List.mem_cons_of_mem _ hz)) hyx' (h1.1 z hz)
theorem srtL_sorted : ∀ (l : List α), (∀ a ∈ l, ∀ b ∈ l, ∀ c ∈ l, lt b a = false → lt c b = false → lt c a = false) → (∀ a ∈ l, ∀ b ∈ l, lt a b = true → lt b a = false) → (srtL lt l).Pairwise fun a b => lt b a = false
  | [], _, _ => .nil
  | x :: r, ht, ha => by
    have sub : ∀ a, a ∈ x :: srtL lt r → a ∈ x :: r := fun a h => by
      rcases List.mem_cons.1 h with rfl | h
      · exact List.mem_cons_self
      · exact List.mem_cons_of_mem _ ((srtL_perm r).mem_iff.1 h)
    exact insL_sorted x _ (fun a h b h' c h'' => ht a (sub a h) b (sub b h') c (sub c h'')) (fun a h b h' => ha a (sub a h) b (sub b h')) (srtL_sorted r (fun a h b h' c h'' => ht a (List.mem_cons_of_mem _ h) b (List.mem_cons_of_mem _ h') c (List.mem_cons_of_mem _ h'')) fun a h b h' => ha a (List.mem_cons_of_mem _ h) b (List.mem_cons_of_mem _ h'))
/-- what is in order and has the same elements is the same -/
theorem sorted_unique {l m : List α} (h : l.Perm m) (hl : l.Pairwise fun a b => lt b a = false) (hm : m.Pairwise fun a b => lt b a = false) (hu : ∀ a ∈ l, ∀ b ∈ l, lt a b = false → lt b a = false → a = b) : l = m :=
  h.eq_of_pairwise (fun a b ha hb h1 h2 => hu a ha b (h.mem_iff.2 hb) h2 h1) hl hm
end
end
end Go.Proofs.YtnhbkoeomefkdaaDoor.Ev

