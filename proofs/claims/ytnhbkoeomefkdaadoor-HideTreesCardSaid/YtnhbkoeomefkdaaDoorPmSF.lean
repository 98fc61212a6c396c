/- A heap's relation, cut down to finitely many blocks; lists of elements; sorting by a comparison. -/
import Derived.Test.YtnhbkoeomefkdaaDoorPmSo
import Derived.Shelf.SlSortCmp.WholeK
set_option linter.unusedVariables false
set_option linter.unusedSimpArgs false
namespace Go.Proofs.YtnhbkoeomefkdaaDoor.Ev
open Go Go.RowKit
variable {P : Program} {E : Env}
noncomputable section

theorem bound_all {n : Nat} {p : Nat → Nat → Prop} (hm : ∀ i M M', M ≤ M' → p i M → p i M') (h : ∀ i, i < n → ∃ M, p i M) : ∃ M, ∀ i, i < n → p i M := by
  induction n with
  | zero => exact ⟨0, fun i hi => by omega⟩
  | succ n ih =>
    obtain ⟨M, hM⟩ := ih fun i hi => h i (by omega)
    obtain ⟨M', hM'⟩ := h n (by omega)
    refine ⟨max M M', fun i hi => ?_⟩
    by_cases e : i = n
    · subst e; exact hm _ _ _ (Nat.le_max_right _ _) hM'
    · exact hm _ _ _ (Nat.le_max_left _ _) (hM i (by omega))
/-- the same below M -/
def Eq' (M : Nat) (φ φ' : Phi) : Prop := ∀ b, b < M → φ' b = φ b
theorem Eq'.mono {M M' : Nat} {φ φ' : Phi} (h : Eq' M' φ φ') (hm : M ≤ M') : Eq' M φ φ' := fun b hb => h b (by omega)
theorem VR.bound {φ : Phi} {v v' : Value} (h : VR φ v v') : ∃ M, ∀ φ', Eq' M φ φ' → VR φ' v v' := by
  induction h with
  | ptr h => rename_i b _ _ _ _ _; exact ⟨b + 1, fun φ' he => .ptr ((he b (by omega)).trans h)⟩
  | mapr h => rename_i b _ _ _ _; exact ⟨b + 1, fun φ' he => .mapr ((he b (by omega)).trans h)⟩
  | slc h hn hm ht hA => rename_i b _ _ _ _ _ _ _ _ _; exact ⟨b + 1, fun φ' he => .slc ((he b (by omega)).trans h) hn hm ht hA⟩
  | func fn h1 h2 _ _ ih1 ih2 =>
    rename_i f f' c c' _ _
    obtain ⟨M1, hM1⟩ := bound_all (n := f.size) (p := fun i M => ∀ φ', Eq' M φ φ' → ∀ (h : i < f.size) (h' : i < f'.size), VR φ' f[i] f'[i]) (fun i M M' hm hp φ' he => hp φ' (he.mono hm)) fun i hi => by
      obtain ⟨M, hM⟩ := ih1 i hi (by omega)
      exact ⟨M, fun φ' he _ _ => hM φ' he⟩
    obtain ⟨M2, hM2⟩ := bound_all (n := c.size) (p := fun i M => ∀ φ', Eq' M φ φ' → ∀ (h : i < c.size) (h' : i < c'.size), VR φ' c[i] c'[i]) (fun i M M' hm hp φ' he => hp φ' (he.mono hm)) fun i hi => by
      obtain ⟨M, hM⟩ := ih2 i hi (by omega)
      exact ⟨M, fun φ' he _ _ => hM φ' he⟩
    exact ⟨max M1 M2, fun φ' he => .func fn h1 h2 (fun i h h' => hM1 i h φ' (he.mono (Nat.le_max_left _ _)) h h') fun i h h' => hM2 i h φ' (he.mono (Nat.le_max_right _ _)) h h'⟩
  | iface t _ ih =>
    obtain ⟨M, hM⟩ := ih
    exact ⟨M, fun φ' he => .iface t (hM φ' he)⟩
  | agg h2 _ ih =>
    rename_i c c' _
    obtain ⟨M2, hM2⟩ := bound_all (n := c.size) (p := fun i M => ∀ φ', Eq' M φ φ' → ∀ (h : i < c.size) (h' : i < c'.size), VR φ' c[i] c'[i]) (fun i M M' hm hp φ' he => hp φ' (he.mono hm)) fun i hi => by
      obtain ⟨M, hM⟩ := ih i hi (by omega)
      exact ⟨M, fun φ' he _ _ => hM φ' he⟩
    exact ⟨M2, fun φ' he => .agg h2 fun i h h' => hM2 i h φ' he h h'⟩
  | tuple h2 _ ih =>
    rename_i c c' _
    obtain ⟨M2, hM2⟩ := bound_all (n := c.size) (p := fun i M => ∀ φ', Eq' M φ φ' → ∀ (h : i < c.size) (h' : i < c'.size), VR φ' c[i] c'[i]) (fun i M M' hm hp φ' he => hp φ' (he.mono hm)) fun i hi => by
      obtain ⟨M, hM⟩ := ih i hi (by omega)
      exact ⟨M, fun φ' he _ _ => hM φ' he⟩
    exact ⟨M2, fun φ' he => .tuple h2 fun i h h' => hM2 i h φ' he h h'⟩
  | emp => exact ⟨0, fun φ' _ => .emp⟩
  | _ => exact ⟨0, fun φ' _ => by constructor⟩
theorem VRs.bound {φ : Phi} {l l' : List Value} (h : VRs φ l l') : ∃ M, ∀ φ', Eq' M φ φ' → VRs φ' l l' := by
  induction h with
  | nil => exact ⟨0, fun _ _ => .nil⟩
  | cons h _ ih =>
    obtain ⟨M1, h1⟩ := h.bound
    obtain ⟨M2, h2⟩ := ih
    exact ⟨max M1 M2, fun φ' he => .cons (h1 φ' (he.mono (Nat.le_max_left _ _))) (h2 φ' (he.mono (Nat.le_max_right _ _)))⟩
theorem EsR.bound {φ : Phi} {l : List (Value × Value)} {es : List MapEntry} (h : EsR φ l es) : ∃ M, ∀ φ', Eq' M φ φ' → EsR φ' l es := by
  induction h with
  | nil => exact ⟨0, fun _ _ => .nil⟩
  | cons hp hk hv _ ih =>
    obtain ⟨M1, h1⟩ := hv.bound
    obtain ⟨M2, h2⟩ := ih
    exact ⟨max M1 M2, fun φ' he => .cons hp hk (h1 φ' (he.mono (Nat.le_max_left _ _))) (h2 φ' (he.mono (Nat.le_max_right _ _)))⟩
theorem Bears.bound {φ : Phi} {w : World} {wr gl : Prop} {cells : Tr Value} {size es : Nat} {x : Nat × Nat × Nat × Nat} (h : Bears φ w wr gl cells size es x) : ∃ M, ∀ φ', Eq' M φ φ' → Bears φ' w wr gl cells size es x := by
  obtain ⟨c, sh, es', top⟩ := x
  obtain ⟨h1, cs, ty, fr, h2, h3, h4, h5, h6⟩ := h
  obtain ⟨M, hM⟩ := bound_all (n := size) (p := fun i M => ∀ φ', Eq' M φ φ' → ∃ v v', cells.get i = some v ∧ cs[sh + i]? = some v' ∧ VR φ' v v') (fun i M M' hm hp φ' he => hp φ' (he.mono hm)) fun i hi => by
    obtain ⟨v, v', g1, g2, g3⟩ := h6 i hi
    obtain ⟨M, hM⟩ := g3.bound
    exact ⟨M, fun φ' he => ⟨v, v', g1, g2, hM φ' he⟩⟩
  exact ⟨M, fun φ' he => ⟨h1, cs, ty, fr, h2, h3, h4, h5, fun i hi => hM i hi φ' he⟩⟩
/-- a relation of which finitely many blocks are left -/
theorem HR.cut {φ : Phi} {h : H} {w : World} (hok : Hok h) (hr : HR E φ h.blks.get w) {args args' : List Value} (ha : VRs φ args args') :
    ∃ (M : Nat) (φ' : Phi), h.next ≤ M ∧ (∀ b, M ≤ b → φ' b = none) ∧ (∀ b, b < h.next → φ' b = φ b) ∧ (∀ b x, φ' b = some x → φ b = some x) ∧ HR E φ' h.blks.get w ∧ VRs φ' args args' := by
  obtain ⟨M1, h1⟩ := ha.bound
  obtain ⟨M2, h2⟩ := bound_all (n := h.next) (p := fun b M => ∀ φ', Eq' M φ φ' → ∀ cells size es, h.blks.get b = some (.mk cells size es) → ∀ x, φ b = some x → Bears φ' w (E.G ≤ b) (b < E.G ∧ b < E.N) cells size es x) (fun i M M' hm hp φ' he => hp φ' (he.mono hm)) fun b hb => by
    by_cases hx : ∃ cells size es x, h.blks.get b = some (.mk cells size es) ∧ φ b = some x
    · obtain ⟨cells, size, es, x, g1, g2⟩ := hx
      obtain ⟨M, hM⟩ := (hr.blk b cells size es g1 x g2).bound
      refine ⟨M, fun φ' he cells' size' es' g3 x' g4 => ?_⟩
      rw [g1] at g3
      rw [g2] at g4
      injection g3 with g3
      injection g3 with e1 e2 e3
      injection g4 with g4
      subst e1; subst e2; subst e3; subst g4
      exact hM φ' he
    · exact ⟨0, fun φ' he cells size es g1 x g2 => absurd ⟨cells, size, es, x, g1, g2⟩ hx⟩
  obtain ⟨M3, h3⟩ := bound_all (n := h.next) (p := fun b M => ∀ φ', Eq' M φ φ' → ∀ l, h.blks.get b = some (.mp l) → ∀ x, φ b = some x → ∃ es clk, w.heap[x.1]? = some (.map es clk) ∧ EsR φ' l es.toList) (fun i M M' hm hp φ' he => hp φ' (he.mono hm)) fun b hb => by
    by_cases hx : ∃ l x, h.blks.get b = some (.mp l) ∧ φ b = some x
    · obtain ⟨l, x, g1, g2⟩ := hx
      obtain ⟨es, clk, g3, g4⟩ := hr.mp.blk b l g1 x g2
      obtain ⟨M, hM⟩ := g4.bound
      refine ⟨M, fun φ' he l' g5 x' g6 => ?_⟩
      rw [g1] at g5
      rw [g2] at g6
      injection g5 with g5
      injection g5 with g5
      injection g6 with g6
      subst g5; subst g6
      exact ⟨es, clk, g3, hM φ' he⟩
    · exact ⟨0, fun φ' he l g1 x g2 => absurd ⟨l, x, g1, g2⟩ hx⟩
  obtain ⟨M, hM⟩ : ∃ M, M = max (max M1 M2) (max M3 h.next) := ⟨_, rfl⟩
  have hlt : ∀ b B, h.blks.get b = some B → b < h.next := fun b B hb => by
    rcases Nat.lt_or_ge b h.next with g | g
    · exact g
    · rw [hok b g] at hb; cases hb
  have he : Eq' M φ (fun b => if b < M then φ b else none) := fun b hb => if_pos hb
  have hdn : ∀ b x, (if b < M then φ b else none) = some x → φ b = some x := fun b x hx => by
    split at hx
    · exact hx
    · cases hx
  refine ⟨M, fun b => if b < M then φ b else none, by omega, fun b hb => if_neg (by omega), fun b hb => if_pos (by omega), hdn, ⟨fun b cells size es hb x hx => ?_, fun b b' x x' cells size es cells' size' es' hG hb hb' hx hx' => hr.inj b b' x x' cells size es cells' size' es' hG hb hb' (hdn _ _ hx) (hdn _ _ hx'), fun b cells size es hG hN hb => ?_, fun b b' x x' cells size es cells' size' es' f1 f2 hlt hb hb' hx hx' => hr.mono b b' x x' cells size es cells' size' es' f1 f2 hlt hb hb' (hdn _ _ hx) (hdn _ _ hx'), ⟨fun b l hb x hx => ?_, fun b b' l l' x x' hb hb' hx hx' => hr.mp.inj b b' l l' x x' hb hb' (hdn _ _ hx) (hdn _ _ hx')⟩⟩, h1 _ (he.mono (by omega))⟩
  · exact h2 b (hlt b _ hb) _ (he.mono (by omega)) cells size es hb x (hdn _ _ hx)
  · obtain ⟨es', top, g⟩ := hr.glob b cells size es hG hN hb
    exact ⟨es', top, (if_pos (by have := hlt b _ hb; omega)).trans g⟩
  · exact h3 b (hlt b _ hb) _ (he.mono (by omega)) l hb x (hdn _ _ hx)
/-- with more that is only read -/
theorem HR.env {E' : Env} {φ : Phi} {g : Nat → Option Blk} {w : World} (hr : HR E φ g w) (hN : E'.N = E.N) (hG : E.G ≤ E'.G) (hNG : E.N ≤ E.G) (hf : ∀ b, E.frz b = false) (hf' : ∀ b, E'.frz b = false) : HR E' φ g w := by
  refine ⟨fun b cells size es hb x hx => ?_, fun b b' x x' cells size es cells' size' es' hG' hb hb' hx hx' he => ?_, fun b cells size es h1 h2 hb => hr.glob b cells size es (by omega) (by omega) hb, fun b b' x x' cells size es cells' size' es' f1 => (by rw [hf'] at f1; cases f1), ⟨hr.mp.blk, hr.mp.inj⟩⟩
  · obtain ⟨c, sh, es', top⟩ := x
    obtain ⟨h1, cs, ty, fr, h2, ⟨h3, h3'⟩, h4, h5, h6⟩ := hr.blk b cells size es hb _ hx
    exact ⟨h1, cs, ty, fr, h2, ⟨fun h => h3 (by omega), fun h => h3' ⟨by omega, by omega⟩⟩, h4, h5, h6⟩
  · rcases hr.inj b b' x x' cells size es cells' size' es' (by omega) hb hb' hx hx' he with h | ⟨h, _⟩
    · exact .inl h
    · rw [hf] at h; cases h

/-! elements of so many cells -/
def chunks (k : Nat) : Nat → List Value → List (List Value)
  | 0, _ => []
  | n + 1, l => l.take k :: chunks k n (l.drop k)
theorem chunks_len {k : Nat} : ∀ {n : Nat} {l : List Value}, (chunks k n l).length = n
  | 0, _ => rfl
  | n + 1, l => by simp [chunks, chunks_len]
theorem chunks_get {k : Nat} : ∀ {n : Nat} {l : List Value} {i : Nat}, i < n → (chunks k n l)[i]? = some ((l.drop (i * k)).take k)
  | n + 1, l, 0, _ => by simp [chunks]
  | n + 1, l, i + 1, h => by
    simp only [chunks, List.getElem?_cons_succ]
    rw [chunks_get (by omega), List.drop_drop, Nat.add_mul, Nat.one_mul, Nat.add_comm]
theorem chunks_flatten {k : Nat} : ∀ {n : Nat} {l : List Value}, l.length = n * k → (chunks k n l).flatten = l
  | 0, l, h => by simp at h; subst h; rfl
  | n + 1, l, h => by
    rw [Nat.add_mul, Nat.one_mul] at h
    simp only [chunks, List.flatten_cons]
    rw [chunks_flatten (by simp only [List.length_drop]; omega), List.take_append_drop]
theorem chunks_mem_len {k : Nat} : ∀ {n : Nat} {l : List Value}, l.length = n * k → ∀ x ∈ chunks k n l, x.length = k
  | 0, l, _, x, hx => by cases hx
  | n + 1, l, h, x, hx => by
    rw [Nat.add_mul, Nat.one_mul] at h
    rcases List.mem_cons.1 hx with rfl | hx
    · simp; omega
    · exact chunks_mem_len (by simp only [List.length_drop]; omega) x hx
/-! sorting by a comparison -/
section
variable {α : Type}
def insL (lt : α → α → Bool) (x : α) : List α → List α
  | [] => [x]
  | y :: r => if lt y x = true then y :: insL lt x r else x :: y :: r
def srtL (lt : α → α → Bool) : List α → List α
  | [] => []
  | x :: r => insL lt x (srtL lt r)
variable {lt : α → α → Bool}
theorem insL_perm (x : α) : ∀ l, (insL lt x l).Perm (x :: l)
  | [] => .refl _
  | y :: r => by
    unfold insL
    split
    · exact ((insL_perm x r).cons y).trans (.swap x y r)
    · exact .refl _
theorem srtL_perm : ∀ l : List α, (srtL lt l).Perm l
  | [] => .refl _
  | x :: r => (insL_perm x _).trans ((srtL_perm r).cons x)
theorem insL_sorted (x : α) : ∀ (l : List α), (∀ a ∈ x :: l, ∀ b ∈ x :: l, ∀ c ∈ x :: l, lt b a = false → lt c b = false → lt c a = false) → (∀ a ∈ x :: l, ∀ b ∈ x :: l, lt a b = true → lt b a = false) → l.Pairwise (fun a b => lt b a = false) → (insL lt x l).Pairwise fun a b => lt b a = false
  | [], _, _, _ => by simp [insL]
  | y :: r, ht, ha, h => by
    have h1 := List.pairwise_cons.1 h
    have sub : ∀ a, a ∈ x :: r → a ∈ x :: y :: r := fun a h => by
      rcases List.mem_cons.1 h with rfl | h
      · exact List.mem_cons_self
      · exact List.mem_cons_of_mem _ (List.mem_cons_of_mem _ h)
    have my : y ∈ x :: y :: r := List.mem_cons_of_mem _ List.mem_cons_self
    unfold insL
    split
    · rename_i hyx
      refine List.pairwise_cons.2 ⟨fun z hz => ?_, insL_sorted x r (fun a h b h' c h'' => ht a (sub a h) b (sub b h') c (sub c h'')) (fun a h b h' => ha a (sub a h) b (sub b h')) h1.2⟩
      rcases List.mem_cons.1 ((insL_perm x r).mem_iff.1 hz) with rfl | hz
      · exact ha y my z List.mem_cons_self hyx
      · exact h1.1 z hz
    · rename_i hyx
      have hyx' : lt y x = false := by simpa using hyx
      refine List.pairwise_cons.2 ⟨fun z hz => ?_, h⟩
      rcases List.mem_cons.1 hz with rfl | hz
      · exact hyx'
      · exact ht x List.mem_cons_self y my z (List.mem_cons_of_mem _ (List.mem_cons_of_mem _ hz)) hyx' (h1.1 z hz)
theorem srtL_sorted : ∀ (l : List α), (∀ a ∈ l, ∀ b ∈ l, ∀ c ∈ l, lt b a = false → lt c b = false → lt c a = false) → (∀ a ∈ l, ∀ b ∈ l, lt a b = true → lt b a = false) → (srtL lt l).Pairwise fun a b => lt b a = false
  | [], _, _ => .nil
  | x :: r, ht, ha => by
    have sub : ∀ a, a ∈ x :: srtL lt r → a ∈ x :: r := fun a h => by
      rcases List.mem_cons.1 h with rfl | h
      · exact List.mem_cons_self
      · exact List.mem_cons_of_mem _ ((srtL_perm r).mem_iff.1 h)
    exact insL_sorted x _ (fun a h b h' c h'' => ht a (sub a h) b (sub b h') c (sub c h'')) (fun a h b h' => ha a (sub a h) b (sub b h')) (srtL_sorted r (fun a h b h' c h'' => ht a (List.mem_cons_of_mem _ h) b (List.mem_cons_of_mem _ h') c (List.mem_cons_of_mem _ h'')) fun a h b h' => ha a (List.mem_cons_of_mem _ h) b (List.mem_cons_of_mem _ h'))
/-- what is in order and has the same elements is the same -/
theorem sorted_unique {l m : List α} (h : l.Perm m) (hl : l.Pairwise fun a b => lt b a = false) (hm : m.Pairwise fun a b => lt b a = false) (hu : ∀ a ∈ l, ∀ b ∈ l, lt a b = false → lt b a = false → a = b) : l = m :=
  h.eq_of_pairwise (fun a b ha hb h1 h2 => hu a ha b (h.mem_iff.2 hb) h2 h1) hl hm
end
end
end Go.Proofs.YtnhbkoeomefkdaaDoor.Ev

/- slices.SortFunc of structs: the library's contract, in the evaluator's words. -/
set_option linter.unusedVariables false
set_option linter.unusedSimpArgs false
namespace Go.Proofs.YtnhbkoeomefkdaaDoor.Ev
open Go Go.RowKit
variable {P : Program} {E : Env}
noncomputable section

/-- what is asked of a comparison -/
structure CmpOK (P : Program) (Es : Nat → Env) (g : FuncId) (k : Nat) (ok : Nat → H → List Value → Prop) (cf : H → List Value → List Value → Int) : Prop where
  okm : ∀ b h h' x, ok b h x → (∀ j, j ≠ b → h'.blks.get j = h.blks.get j) → h.next ≤ h'.next → ok b h' x
  cfm : ∀ b h h' x y, ok b h x → ok b h y → (∀ j, j ≠ b → h'.blks.get j = h.blks.get j) → h.next ≤ h'.next → cf h' x y = cf h x y
  irr : ∀ b h x, ok b h x → ¬ cf h x x < 0
  tr : ∀ b h x y z, ok b h x → ok b h y → ok b h z → cf h x y < 0 → cf h y z < 0 → cf h x z < 0
  ntr : ∀ b h x y z, ok b h x → ok b h y → ok b h z → ¬ cf h x y < 0 → ¬ cf h y z < 0 → ¬ cf h x z < 0
  run : ∀ b h x y, Hok h → ok b h x → ok b h y → x.length = k → y.length = k → ∃ F h2, callWith (Es h.next) (run P (Es h.next) F) g [.agg x.toArray, .agg y.toArray] h = some (.int .i64 (cf h x y), h2)

open Classical in
/-- slices.SortFunc of structs of k cells -/
def gSortF (k : Nat) (g : FuncId) (ok : Nat → H → List Value → Prop) (cf : H → List Value → List Value → Int) : List Value → H → Option Value
  | [.slice (some ⟨b, off, none⟩) n _, .func (.func f) fs cs], h => match rd h b off (n * k) with
    | some cells => if f = g ∧ fs = #[] ∧ cs = #[] ∧ 0 < n ∧ 0 < k ∧ cells.length = n * k ∧ n < 4611686018427387904 ∧ (∀ x ∈ chunks k n cells, ok b h x) ∧ (∀ x ∈ chunks k n cells, ∀ y ∈ chunks k n cells, ¬ cf h x y < 0 → ¬ cf h y x < 0 → x = y) ∧ cells.all oneB = true then
        some (wrV b off (srtL (fun x y => decide (cf h x y < 0)) (chunks k n cells)).flatten) else none
    | none => none
  | [.slice none 0 0, .func (.func _) fs cs], _ => if fs = #[] ∧ cs = #[] then some (.tuple #[]) else none
  | _, _ => none

theorem VRs.take {φ : Phi} {l l' : List Value} (h : VRs φ l l') : ∀ n, VRs φ (l.take n) (l'.take n) := by
  induction h with
  | nil => intro n; simp; exact .nil
  | cons h _ ih => intro n; cases n with
    | zero => exact .nil
    | succ n => exact .cons h (ih n)
theorem VRs.drop {φ : Phi} {l l' : List Value} (h : VRs φ l l') : ∀ n, VRs φ (l.drop n) (l'.drop n) := by
  induction h with
  | nil => intro n; simp; exact .nil
  | cons h t ih => intro n; cases n with
    | zero => exact .cons h t
    | succ n => exact ih n
theorem VRs.flat' {φ : Phi} {α : Type} {e e' : α → List Value} (h : ∀ i, VRs φ (e i) (e' i)) : ∀ l : List α, VRs φ (l.map e).flatten (l.map e').flatten
  | [] => .nil
  | x :: l => by
    simp only [List.map_cons, List.flatten_cons]
    exact (h x).append (VRs.flat' h l)
theorem flat_len {α : Type} {e : α → List Value} {k : Nat} (hk : ∀ x, (e x).length = k) : ∀ l : List α, (l.map e).flatten.length = l.length * k
  | [] => by simp
  | x :: l => by
    simp only [List.map_cons, List.flatten_cons, List.length_append, hk, flat_len hk l, List.length_cons, Nat.add_mul]
    omega
theorem flat_get {α : Type} {e : α → List Value} {k : Nat} (h0 : 0 < k) (hk : ∀ x, (e x).length = k) : ∀ (l : List α) (j : Nat) (h : j < l.length * k), (l.map e).flatten[j]? = (e (l[j / k]'(Nat.div_lt_of_lt_mul (by rw [Nat.mul_comm]; exact h))))[j % k]?
  | [], j, h => by simp at h
  | x :: l, j, h => by
    simp only [List.map_cons, List.flatten_cons]
    by_cases hj : j < k
    · rw [List.getElem?_append_left (by rw [hk]; exact hj)]
      have h1 : j / k = 0 := Nat.div_eq_of_lt hj
      simp only [h1, List.getElem_cons_zero, Nat.mod_eq_of_lt hj]
    · rw [List.getElem?_append_right (by rw [hk]; omega), hk]
      simp only [List.length_cons, Nat.add_mul, Nat.one_mul] at h
      rw [flat_get h0 hk l (j - k) (by omega)]
      have h1 : j / k = (j - k) / k + 1 := by rw [← Nat.add_div_right _ h0, Nat.sub_add_cancel (by omega)]
      have h2 : j % k = (j - k) % k := by rw [Nat.mod_eq_sub_mod (by omega)]
      simp only [h1, List.getElem_cons_succ, h2]
theorem flatK_list {e : Nat → List Value} {k : Nat} (h0 : 0 < k) (hk : ∀ x, (e x).length = k) (d : Array Nat) : (Go.Sort.flatK e k d).toList = (d.toList.map e).flatten := by
  apply List.ext_getElem?
  intro j
  by_cases hj : j < d.size * k
  · rw [flat_get h0 hk d.toList j (by simpa using hj)]
    have hd : j / k < d.size := Nat.div_lt_of_lt_mul (by rw [Nat.mul_comm]; exact hj)
    have hm : j % k < k := Nat.mod_lt _ h0
    simp only [Go.Sort.flatK, Array.toList_map, List.getElem?_map, Array.toList_range, List.getElem?_range hj, Option.map_some, Array.getElem_toList]
    have h1 : d[j / k]! = d[j / k] := by simp [hd]
    rw [h1, List.getElem?_eq_getElem (by rw [hk]; exact hm)]
    simp [hk, hm]
  · rw [List.getElem?_eq_none (by simpa [Go.Sort.flatK] using Nat.le_of_not_lt hj), List.getElem?_eq_none (by rw [flat_len hk]; simpa using Nat.le_of_not_lt hj)]
theorem setL_putid {o : Nat} {c : Array Value} (F : Array Value) : setL o F.toList c = Sort.putCells id o F c := by
  apply Array.ext_getElem?
  intro k
  rw [setL_get]
  unfold Sort.putCells
  simp only [Array.getElem?_mapIdx, Array.length_toList]
  by_cases hk : k < c.size
  · rw [Array.getElem?_eq_getElem hk]
    simp only [Option.map_some, hk, and_true]
    by_cases h : o ≤ k ∧ k < o + F.size
    · rw [if_pos h, if_pos h]
      have : k - o < F.size := by omega
      simp [this]
    · rw [if_neg h, if_neg h]
  · rw [Array.getElem?_eq_none (Nat.le_of_not_lt hk)]
    simp [hk]
theorem below_putF {w : World} {n bk o : Nat} {F : Array Value} {os : Array Obj} : Below (Sort.mapBlock w bk (setL o F.toList)).heap.size (Sort.mapBlock w bk (setL o F.toList)) (Sort.grow (Sort.putRow id (Sort.ahead w n) bk o F) os) := by
  have he : Sort.mapBlock w bk (setL o F.toList) = Sort.putRow id w bk o F := by
    unfold Sort.putRow
    exact Sort.mapBlock_congr _ _ _ _ fun c _ _ _ => setL_putid F
  rw [he, Sort.putRow_ahead]
  refine ⟨rfl, rfl, rfl, by simp [Sort.grow, Sort.ahead], fun k hk => ?_⟩
  simp only [Sort.grow, Sort.ahead]
  rw [Array.getElem?_append_left hk]
theorem grown_of {W w' : World} (hb : Below W.heap.size W w') (hd : W.drawn ≤ w'.drawn) : ∃ q os, w' = Sort.grow (W.drewN q) os := by
  refine ⟨w'.drawn - W.drawn, w'.heap.extract W.heap.size w'.heap.size, ?_⟩
  have hh : w'.heap = W.heap ++ w'.heap.extract W.heap.size w'.heap.size := by
    apply Array.ext_getElem?
    intro i
    by_cases hi : i < W.heap.size
    · rw [Array.getElem?_append_left hi]
      exact hb.block i hi
    · rw [Array.getElem?_append_right (by omega), Array.getElem?_extract]
      by_cases h2 : i < w'.heap.size
      · rw [if_pos (by omega)]
        congr 1
        omega
      · rw [if_neg (by omega)]
        exact Array.getElem?_eq_none (by omega)
  have h1 := hb.os
  have h2 := hb.tape
  have h3 := hb.output
  have h4 : W.drawn + (w'.drawn - W.drawn) = w'.drawn := by omega
  obtain ⟨heap, tape, drawn, os, output⟩ := w'
  simp only [Sort.grow, World.drewN] at *
  rw [h4, ← hh]
  subst h1; subst h2; subst h3
  rfl
theorem oneB_cell {v : Value} (h : oneB v = true) : v.oneCell' = true := by cases v <;> first | rfl | (simp [oneB] at h)
end
end Go.Proofs.YtnhbkoeomefkdaaDoor.Ev

/- slices.SortFunc of structs, by what the library's contract says: what an evaluator may know of it. -/
set_option linter.unusedVariables false
set_option linter.unusedSimpArgs false
namespace Go.Proofs.YtnhbkoeomefkdaaDoor.Ev
open Go Go.RowKit
variable {P : Program} {E : Env}
noncomputable section

/-- the i-th element; beyond the last one: the last one -/
def elt (k n : Nat) (l : List Value) (i : Nat) : List Value := (chunks k n l).getD (min i (n - 1)) []
theorem elt_get {k n : Nat} {l : List Value} {i : Nat} (hi : i < n) : (chunks k n l)[i]? = some (elt k n l i) := by
  unfold elt
  rw [show min i (n - 1) = i by omega]
  have : i < (chunks k n l).length := by rw [chunks_len]; exact hi
  rw [List.getD_eq_getElem?_getD, List.getElem?_eq_getElem this]
  rfl
theorem elt_mem {k n : Nat} {l : List Value} {i : Nat} (hn : 0 < n) : elt k n l i ∈ chunks k n l := by
  have h1 : elt k n l i = elt k n l (min i (n - 1)) := by
    unfold elt
    rw [show min (min i (n - 1)) (n - 1) = min i (n - 1) by omega]
  rw [h1]
  exact List.mem_of_getElem? (elt_get (by omega))
theorem elt_eq {k n : Nat} {l : List Value} {i : Nat} (hn : 0 < n) : elt k n l i = (l.drop (min i (n - 1) * k)).take k := by
  have h1 : elt k n l i = elt k n l (min i (n - 1)) := by
    unfold elt
    rw [show min (min i (n - 1)) (n - 1) = min i (n - 1) by omega]
  rw [h1]
  have h2 := elt_get (k := k) (l := l) (show min i (n - 1) < n by omega)
  rw [chunks_get (by omega)] at h2
  injection h2 with h2
  exact h2.symm
theorem elt_range {k n : Nat} {l : List Value} : (List.range n).map (elt k n l) = chunks k n l := by
  apply List.ext_getElem?
  intro i
  by_cases hi : i < n
  · rw [elt_get hi, List.getElem?_map, List.getElem?_range hi]
    rfl
  · rw [List.getElem?_eq_none (by simp; omega), List.getElem?_eq_none (by rw [chunks_len]; omega)]

theorem strictE_u {t : TypeId} : (strictE E).u t = E.u t := rfl
theorem strictE_i {t : TypeId} : (strictE E).i t = E.i t := rfl
theorem strictE_f : (strictE E).fns = E.fns := rfl
theorem strictE_G : (strictE E).G = E.G := rfl
theorem strictE_N : (strictE E).N = E.N := rfl
theorem strictE_fzl : (strictE E).fzl = E.fzl := rfl
theorem strictE_known : (strictE E).known = E.known := rfl
theorem strictE_orc : (strictE E).orc = E.orc := rfl
theorem strictE_s : (strictE E).strict = true := rfl
theorem envOf_N {types N G : Nat} {fzl : List Nat} : (envOf P types N G fzl).N = N := rfl
theorem envOf_G {types N G : Nat} {fzl : List Nat} : (envOf P types N G fzl).G = G := rfl
theorem envOf_known {types N G : Nat} {fzl : List Nat} : (envOf P types N G fzl).known = .e := rfl
theorem envOf_orc {types N G : Nat} {fzl : List Nat} : (envOf P types N G fzl).orc = .e := rfl

set_option maxHeartbeats 8000000 in
theorem orcSortF {f g : FuncId} {k : Nat} {ok : Nat → H → List Value → Prop} {cf : H → List Value → List Value → Int} {Es : Nat → Env} (hfn : ∃ fn, P.funcs[f]? = some fn ∧ fn.body.isSome = true ∧ fn.name ≠ "runtime.NumGoroutine")
    (hEs : ∀ G, EnvOK P (Es G)) (hst : ∀ G, (Es G).strict = true) (hG : ∀ G, (Es G).G = G) (hN : ∀ G, (Es G).N = E.N) (hfs : ∀ G b, (Es G).frz b = false) (hNG : E.N ≤ E.G) (hfz : ∀ b, E.frz b = false)
    (hgb : ((P.funcs[g]?).map fun fn => fn.body.isSome) = some true) (hC : CmpOK P Es g k ok cf)
    (h0 : ∀ (p : Option Addr) (cap : Nat) (fv : Value) (w : World), Calls P f #[.slice p 0 cap, fv] w fun e w' => e = .returned (.tuple #[]) ∧ w' = w)
    (hc : ∀ (enc : Nat → List Value) (cfa : Nat → Nat → Int) (blk off cap : Nat) (d : Array Nat) (w : World), (∀ x, (enc x).length = k) → (∀ x, ∀ v ∈ enc x, v.oneCell' = true) → Sort.SWO (Go.Proofs.ltOf cfa) → Go.Proofs.CmpLays P g #[] enc k cfa blk off d.size w → Sort.HoldsK enc k w blk off d → blk < w.heap.size → d.size < 4611686018427387904 →
      Calls P f #[.slice (some ⟨blk, off, none⟩) d.size cap, .func (.func g) #[] #[]] w fun e w' => e = .returned (.tuple #[]) ∧ ∃ n os, w' = Go.Proofs.sortWorldK enc k w blk off n (Sort.pdq (Go.Proofs.ltOf cfa) d 0 d.size (Lib.bitLen d.size) true true) os) : OrcOK P E f (gSortF k g ok cf) := by
  refine ⟨hfn, fun args h v hv => ?_⟩
  unfold gSortF at hv
  split at hv
  · refine .inr ?_
    rename_i b off n m f' fs csv
    split at hv
    · rename_i cells hrd
      split at hv
      · rename_i hcond
        obtain ⟨rfl, rfl, rfl, hn0, hk0, hlen, hnb, hok, huq, hone⟩ := hcond
        injection hv with hv
        subst hv
        obtain ⟨lt, hlt⟩ : ∃ lt : List Value → List Value → Bool, lt = fun x y => decide (cf h x y < 0) := ⟨_, rfl⟩
        rw [← hlt]
        refine ⟨b, off, _, rfl, fun φ w args' hHok hGb hfb hr ht ha => ?_⟩
        obtain ⟨M, φ', hM, hM1, hM2, hM3, hr', ha'⟩ := HR.cut hHok hr ha
        cases ha' with
        | cons a1 a2 =>
          cases a2 with
          | cons a2 a3 =>
            cases a3
            cases a2 with
            | func fn q1 q2 q3 q4 =>
              rename_i fs' cs'
              obtain rfl : fs' = #[] := Array.eq_empty_of_size_eq_zero (by simpa using q1.symm)
              obtain rfl : cs' = #[] := Array.eq_empty_of_size_eq_zero (by simpa using q2.symm)
              cases a1 with
              | slc hφ hn hm htop hA =>
                rename_i c sh es top m' A
                have hA : A = ⟨c, sh + off, none⟩ := by
                  rcases hA with h1 | h1
                  · exact h1
                  · omega
                subst hA
                unfold rd at hrd
                split at hrd
                · rename_i cs0 size es0 hb0
                  split at hrd
                  · rename_i hsz
                    have hltc := hr'.lt hb0 hφ
                    have hbn : b < h.next := by
                      rcases Nat.lt_or_ge b h.next with g | g
                      · exact g
                      · rw [hHok b g] at hb0; cases hb0
                    obtain ⟨_, cs, ty, fr, hh, _, h3, h4, h5⟩ := hr'.blk b _ _ _ hb0 _ hφ
                    have hget : ∀ j, j < n * k → cs0.get (off + j) = cells[j]? := fun j hj => (getCells_some _ _ _ _ hrd).2 j hj
                    -- the world's own cells
                    obtain ⟨wc, hwc⟩ : ∃ wc : List Value, wc = (List.range (n * k)).map fun j => cs[sh + off + j]?.getD undef := ⟨_, rfl⟩
                    have hwl : wc.length = n * k := by rw [hwc]; simp
                    have hwg : ∀ j, j < n * k → wc[j]? = some (cs[sh + off + j]?.getD undef) := fun j hj => by
                      rw [hwc, List.getElem?_map, List.getElem?_range hj]
                      rfl
                    have hvr : VRs φ' cells wc := VRs.of_get (by omega) fun j h1 h2 => by
                      obtain ⟨u, u', p1, p2, p3⟩ := h5 (off + j) (by omega)
                      rw [hget j (by omega), List.getElem?_eq_getElem h1] at p1
                      injection p1 with p1
                      subst p1
                      have := hwg j (by omega)
                      rw [List.getElem?_eq_getElem h2] at this
                      injection this with this
                      rw [this, show sh + off + j = sh + (off + j) by omega, p2]
                      exact p3
                    have hwone : wc.all oneB = true := by rw [hvr.one]; exact hone
                    have hev : ∀ i, VRs φ' (elt k n cells i) (elt k n wc i) := fun i => by
                      rw [elt_eq hn0, elt_eq hn0]
                      exact (hvr.drop _).take _
                    have hel : ∀ i, (elt k n cells i).length = k := fun i => chunks_mem_len hlen _ (elt_mem hn0)
                    have hwl' : ∀ i, (elt k n wc i).length = k := fun i => chunks_mem_len hwl _ (elt_mem hn0)
                    have hwo : ∀ i, ∀ v ∈ elt k n wc i, oneB v = true := fun i v hv => by
                      rw [elt_eq hn0] at hv
                      exact List.all_eq_true.1 hwone v (List.mem_of_mem_drop (List.mem_of_mem_take hv))
                    have hoke : ∀ i, ok b h (elt k n cells i) := fun i => hok _ (elt_mem hn0)
                    obtain ⟨cfa, hcfa⟩ : ∃ cfa : Nat → Nat → Int, cfa = fun i j => cf h (elt k n cells i) (elt k n cells j) := ⟨_, rfl⟩
                    have hlta : ∀ i j, Go.Proofs.ltOf cfa i j = lt (elt k n cells i) (elt k n cells j) := fun i j => by rw [hlt, hcfa]; rfl
                    have hswo : Sort.SWO (Go.Proofs.ltOf cfa) := by
                      refine ⟨fun x => ?_, fun x y z h1 h2 => ?_, fun x y z h1 h2 => ?_⟩
                      · rw [hcfa]; exact decide_eq_false (hC.irr b h _ (hoke x))
                      · rw [hcfa] at h1 h2 ⊢
                        exact decide_eq_true (hC.tr b h _ _ _ (hoke x) (hoke y) (hoke z) (of_decide_eq_true h1) (of_decide_eq_true h2))
                      · rw [hcfa] at h1 h2 ⊢
                        exact decide_eq_false (hC.ntr b h _ _ _ (hoke x) (hoke y) (hoke z) (of_decide_eq_false h1) (of_decide_eq_false h2))
                    -- what the sort makes
                    obtain ⟨D, hD⟩ : ∃ D, D = Sort.pdq (Go.Proofs.ltOf cfa) (Array.range n) 0 (Array.range n).size (Lib.bitLen (Array.range n).size) true true := ⟨_, rfl⟩
                    have hrs : (Array.range n).size = n := by simp
                    obtain ⟨hperm, hsort⟩ := Sort.pdq_sorts (Go.Proofs.ltOf cfa) hswo (Array.range n) 0 (Array.range n).size (Lib.bitLen (Array.range n).size) true true (Nat.zero_le _) (Nat.le_refl _) (Or.inl rfl)
                    rw [← hD] at hperm hsort
                    obtain ⟨hDs, _, hDp⟩ := hperm
                    rw [hrs] at hDs hDp hsort
                    have hDp' : D.toList.Perm (List.range n) := by
                      have e1 : D.extract 0 n = D := by
                        rw [← hDs]
                        exact Array.extract_size
                      have e2 : (Array.range n).extract 0 n = Array.range n := by
                        have := Array.extract_size (xs := Array.range n)
                        rwa [hrs] at this
                      rw [e1, e2, Array.toList_range] at hDp
                      exact hDp
                    have hres : srtL lt (chunks k n cells) = D.toList.map (elt k n cells) := by
                      have hmem : ∀ x ∈ chunks k n cells, ok b h x := hok
                      refine sorted_unique (lt := lt) ((srtL_perm _).trans ?_) (srtL_sorted _ (fun x hx y hy z hz h1 h2 => ?_) fun x hx y hy h1 => ?_) ?_ fun x hx y hy h1 h2 => ?_
                      · rw [← elt_range]
                        exact (hDp'.map _).symm
                      · rw [hlt] at h1 h2 ⊢
                        exact decide_eq_false (hC.ntr b h _ _ _ (hmem z hz) (hmem y hy) (hmem x hx) (of_decide_eq_false h2) (of_decide_eq_false h1))
                      · rw [hlt] at h1 ⊢
                        refine decide_eq_false fun h2 => hC.irr b h x (hmem x hx) (hC.tr b h _ _ _ (hmem x hx) (hmem y hy) (hmem x hx) (of_decide_eq_true h1) h2)
                      · rw [List.pairwise_map]
                        refine List.pairwise_iff_getElem.2 fun i j hi hj hij => ?_
                        have := hsort i j (Nat.zero_le _) hij (by simpa [hDs] using hj)
                        rw [← hlta]
                        have e1 : D[i]! = D.toList[i] := by simp at hi; simp [hi]
                        have e2 : D[j]! = D.toList[j] := by simp at hj; simp [hj]
                        rw [e1, e2] at this
                        exact this
                      · have hx' := (srtL_perm (lt := lt) _).mem_iff.1 hx
                        have hy' := (srtL_perm (lt := lt) _).mem_iff.1 hy
                        rw [hlt] at h1 h2
                        exact huq x hx' y hy' (of_decide_eq_false h1) (of_decide_eq_false h2)
                    rw [hres]
                    have hDl : D.toList.length = n := by simpa using hDs
                    refine ⟨c, sh, es, top, (D.toList.map (elt k n wc)).flatten, ?_, ?_, fun w1 hrun => ?_⟩
                    · rw [← hM2 b hbn]; exact hφ
                    · have := VRs.flat' hev D.toList
                      exact this.mono hM3
                    · have hfl : ∀ d : List Nat, ∀ v ∈ (d.map (elt k n wc)).flatten, oneB v = true := fun d v hv => by
                        obtain ⟨l, hl, hv⟩ := List.mem_flatten.1 hv
                        obtain ⟨i, _, rfl⟩ := List.mem_map.1 hl
                        exact hwo i v hv
                      obtain ⟨hfr, hw1⟩ := storeCells_ok _ 0 w w1 cs (hfl D.toList) hh (by rw [flat_len hwl', hDl]; omega) hrun
                      rw [flat_len hwl', hDl] at hfr
                      simp only [Nat.add_zero] at hfr hw1
                      have hflK : ∀ d : Array Nat, Sort.flatK (elt k n wc) k d = ((d.toList.map (elt k n wc)).flatten).toArray := fun d => by
                        apply Array.toList_inj.1
                        rw [flatK_list hk0 hwl']
                      have hHolds : Sort.HoldsK (elt k n wc) k w c (sh + off) (Array.range n) := by
                        intro j hj
                        have hj' : j < n * k := by rw [Sort.size_flatK] at hj; simpa using hj
                        refine ⟨?_, hfr j hj'⟩
                        have e1 : (Sort.flatK (elt k n wc) k (Array.range n))[j]! = wc[j]?.getD undef := by
                          rw [hflK, Array.toList_range, elt_range, chunks_flatten hwl]
                          rw [hwg j hj']
                          have : j < wc.length := by omega
                          have h2 := hwg j hj'
                          rw [List.getElem?_eq_getElem this] at h2
                          injection h2 with h2
                          simp [this, h2]
                        rw [e1, hwg j hj']
                        simp only [id, Option.getD_some, World.cell?, hh]
                        have : sh + off + j < cs.size := by omega
                        simp [this]
                      have hcmp : Go.Proofs.CmpLays P f' #[] (elt k n wc) k cfa c (sh + off) (Array.range n).size w := by
                        intro q os dk hdk x y
                        rw [hrs] at hdk
                        have hdl : dk.toList.length = n := by simpa using hdk
                        -- the heap of the evaluator, with the row in this order
                        obtain ⟨w2, hrun2, hr2, _⟩ := store_list (P := P) hφ hGb (hfz b) (dk.toList.map (elt k n cells)).flatten (dk.toList.map (elt k n wc)).flatten off 0 cs0 h.blks.get w hr' hb0 (VRs.flat' hev _) (by rw [flat_len hel, hdl]; omega) (List.all_eq_true.2 (hfl dk.toList))
                        obtain ⟨_, hw2⟩ := storeCells_ok _ 0 w w2 cs (hfl dk.toList) hh (by rw [flat_len hwl', hdl]; omega) hrun2
                        simp only [Nat.add_zero] at hw2
                        have hF : (Sort.flatK (elt k n wc) k dk).toList = (dk.toList.map (elt k n wc)).flatten := flatK_list hk0 hwl' dk
                        have hbel : Below w2.heap.size w2 (Go.Proofs.sortWorldK (elt k n wc) k w c (sh + off) q dk os) := by
                          rw [hw2, ← hF]
                          exact below_putF
                        have hrW := hr2.below hbel
                        generalize Go.Proofs.sortWorldK (elt k n wc) k w c (sh + off) q dk os = W at hrW
                        obtain ⟨h2, hh2⟩ : ∃ h2 : H, h2 = { blks := Tr.put h.blks b (.mk (setCells cs0 (off + 0) (dk.toList.map (elt k n cells)).flatten) size es0), next := M, wm := h.wm } := ⟨_, rfl⟩
                        have hput : h2.blks.get = upd h.blks.get b (.mk (setCells cs0 (off + 0) (dk.toList.map (elt k n cells)).flatten) size es0) := by
                          rw [hh2]
                          funext j
                          rw [Tr.get_put]
                          rfl
                        have hnx2 : h2.next = M := by rw [hh2]
                        have hHok2 : Hok h2 := fun j hj => by
                          rw [hnx2] at hj
                          rw [hput]
                          unfold upd
                          rw [if_neg (by omega)]
                          exact hHok j (by omega)
                        have hsame : ∀ j, j ≠ b → h2.blks.get j = h.blks.get j := fun j hj => by
                          rw [hput]
                          unfold upd
                          rw [if_neg hj]
                        have ok2 : ∀ i, ok b h2 (elt k n cells i) := fun i => hC.okm b h h2 _ (hoke i) hsame (by omega)
                        have cf2 : cf h2 (elt k n cells x) (elt k n cells y) = cfa x y := by
                          rw [hcfa]
                          exact hC.cfm b h h2 _ _ (hoke x) (hoke y) hsame (by omega)
                        obtain ⟨F, h3, hcall⟩ := hC.run b h2 _ _ hHok2 (ok2 x) (ok2 y) (hel x) (hel y)
                        rw [cf2, hnx2] at hcall
                        have hrE : HR (Es M) φ' h2.blks.get W := by
                          rw [hput]
                          exact HR.env hrW (hN M) (by rw [hG]; have : b < h.next := hbn; omega) hNG hfz (hfs M)
                        have hargs : VRs φ' [.agg (elt k n cells x).toArray, .agg (elt k n cells y).toArray] [.agg (elt k n wc x).toArray, .agg (elt k n wc y).toArray] :=
                          .cons (.agg (hev x).arr.1 (hev x).arr.2) (.cons (.agg (hev y).arr.1 (hev y).arr.2) .nil)
                        have := callRunS (hst M) (hEs M) hcall rfl hHok2 (by rw [hG, hnx2]) hrE hargs (fun j hj => hM1 j (by rw [hnx2] at hj; exact hj)) hgb
                        exact this.mono fun e w' ⟨he, hb1, hd1⟩ => ⟨he, grown_of hb1 hd1⟩
                      have := hc (elt k n wc) cfa c (sh + off) m' (Array.range n) w hwl' (fun x v hv => oneB_cell (hwo x v hv)) hswo hcmp hHolds hltc (by rw [hrs]; exact hnb)
                      rw [hrs] at this
                      refine this.mono fun e w' ⟨he, q, os, hw'⟩ => ⟨he, ?_⟩
                      have hD2 : Sort.pdq (Go.Proofs.ltOf cfa) (Array.range n) 0 n (Lib.bitLen n) true true = D := by rw [hD, hrs]
                      rw [hw', hw1, hD2, ← flatK_list hk0 hwl']
                      exact below_putF
                  · cases hrd
                · cases hrd
      · cases hv
    · cases hv
  · split at hv
    · rename_i fs cs hcond
      obtain ⟨rfl, rfl⟩ := hcond
      injection hv with hv
      subst hv
      refine .inl ⟨rfl, fun _ => .tuple rfl fun i h3 h4 => by simp at h3, fun φ w args' hr ht ha => ?_⟩
      cases ha with
      | cons a1 a2 =>
        cases a2 with
        | cons a2 a3 =>
          cases a3
          cases a1 with
          | nils => exact (h0 none 0 _ w).mono fun e w' ⟨he, hw⟩ => ⟨he, by rw [hw]; exact Below.refl _ _⟩
    · cases hv
  · cases hv
end
end Go.Proofs.YtnhbkoeomefkdaaDoor.Ev

/- slices.SortFunc of structs where several elements may be equal for the comparison: what comes out is what the library's own way of sorting makes of them. -/
set_option linter.unusedVariables false
set_option linter.unusedSimpArgs false
namespace Go.Proofs.YtnhbkoeomefkdaaDoor.Ev
open Go Go.RowKit
variable {P : Program} {E : Env}
noncomputable section

/-- the elements in the order in which they come out -/
def pdqL (k n : Nat) (cells : List Value) (cf : List Value → List Value → Int) : List (List Value) :=
  (Sort.pdq (Go.Proofs.ltOf fun i j => cf (elt k n cells i) (elt k n cells j)) (Array.range n) 0 n (Lib.bitLen n) true true).toList.map (elt k n cells)
open Classical in
/-- slices.SortFunc of structs of k cells -/
def gSortP (k : Nat) (g : FuncId) (ok : Nat → H → List Value → Prop) (cf : H → List Value → List Value → Int) : List Value → H → Option Value
  | [.slice (some ⟨b, off, none⟩) n _, .func (.func f) fs cs], h => match rd h b off (n * k) with
    | some cells => if f = g ∧ fs = #[] ∧ cs = #[] ∧ 0 < n ∧ 0 < k ∧ cells.length = n * k ∧ n < 4611686018427387904 ∧ (∀ x ∈ chunks k n cells, ok b h x) ∧ cells.all oneB = true then
        some (wrV b off (pdqL k n cells (cf h)).flatten) else none
    | none => none
  | [.slice none 0 0, .func (.func _) fs cs], _ => if fs = #[] ∧ cs = #[] then some (.tuple #[]) else none
  | _, _ => none
theorem pdqL_ok {k n : Nat} {cells : List Value} {cf : List Value → List Value → Int} (hn : 0 < n) (irr : ∀ x ∈ chunks k n cells, ¬ cf x x < 0) (tr : ∀ x ∈ chunks k n cells, ∀ y ∈ chunks k n cells, ∀ z ∈ chunks k n cells, cf x y < 0 → cf y z < 0 → cf x z < 0)
    (ntr : ∀ x ∈ chunks k n cells, ∀ y ∈ chunks k n cells, ∀ z ∈ chunks k n cells, ¬ cf x y < 0 → ¬ cf y z < 0 → ¬ cf x z < 0) : (pdqL k n cells cf).Perm (chunks k n cells) ∧ (pdqL k n cells cf).Pairwise fun x y => ¬ cf y x < 0 := by
  obtain ⟨cfa, hcfa⟩ : ∃ cfa : Nat → Nat → Int, cfa = fun i j => cf (elt k n cells i) (elt k n cells j) := ⟨_, rfl⟩
  have hm : ∀ i, elt k n cells i ∈ chunks k n cells := fun i => elt_mem hn
  have hswo : Sort.SWO (Go.Proofs.ltOf cfa) := by
    refine ⟨fun x => ?_, fun x y z h1 h2 => ?_, fun x y z h1 h2 => ?_⟩
    · rw [hcfa]; exact decide_eq_false (irr _ (hm x))
    · rw [hcfa] at h1 h2 ⊢
      exact decide_eq_true (tr _ (hm x) _ (hm y) _ (hm z) (of_decide_eq_true h1) (of_decide_eq_true h2))
    · rw [hcfa] at h1 h2 ⊢
      exact decide_eq_false (ntr _ (hm x) _ (hm y) _ (hm z) (of_decide_eq_false h1) (of_decide_eq_false h2))
  obtain ⟨D, hD⟩ : ∃ D, D = Sort.pdq (Go.Proofs.ltOf cfa) (Array.range n) 0 (Array.range n).size (Lib.bitLen (Array.range n).size) true true := ⟨_, rfl⟩
  have hrs : (Array.range n).size = n := by simp
  obtain ⟨hperm, hsort⟩ := Sort.pdq_sorts (Go.Proofs.ltOf cfa) hswo (Array.range n) 0 (Array.range n).size (Lib.bitLen (Array.range n).size) true true (Nat.zero_le _) (Nat.le_refl _) (Or.inl rfl)
  rw [← hD] at hperm hsort
  obtain ⟨hDs, _, hDp⟩ := hperm
  rw [hrs] at hDs hDp hsort
  have hDp' : D.toList.Perm (List.range n) := by
    have e1 : D.extract 0 n = D := by
      rw [← hDs]
      exact Array.extract_size
    have e2 : (Array.range n).extract 0 n = Array.range n := by
      have := Array.extract_size (xs := Array.range n)
      rwa [hrs] at this
    rw [e1, e2, Array.toList_range] at hDp
    exact hDp
  have hL : pdqL k n cells cf = D.toList.map (elt k n cells) := by
    unfold pdqL
    rw [hD, hrs, hcfa]
  rw [hL]
  constructor
  · have := hDp'.map (elt k n cells)
    rwa [elt_range] at this
  · rw [List.pairwise_map]
    refine List.pairwise_iff_getElem.2 fun i j hi hj hij => ?_
    have := hsort i j (Nat.zero_le _) hij (by simpa [hDs] using hj)
    have e1 : D[i]! = D.toList[i] := by simp at hi; simp [hi]
    have e2 : D[j]! = D.toList[j] := by simp at hj; simp [hj]
    rw [e1, e2, hcfa] at this
    exact of_decide_eq_false this

set_option maxHeartbeats 8000000 in
theorem orcSortP {f g : FuncId} {k : Nat} {ok : Nat → H → List Value → Prop} {cf : H → List Value → List Value → Int} {Es : Nat → Env} (hfn : ∃ fn, P.funcs[f]? = some fn ∧ fn.body.isSome = true ∧ fn.name ≠ "runtime.NumGoroutine")
    (hEs : ∀ G, EnvOK P (Es G)) (hst : ∀ G, (Es G).strict = true) (hG : ∀ G, (Es G).G = G) (hN : ∀ G, (Es G).N = E.N) (hfs : ∀ G b, (Es G).frz b = false) (hNG : E.N ≤ E.G) (hfz : ∀ b, E.frz b = false)
    (hgb : ((P.funcs[g]?).map fun fn => fn.body.isSome) = some true) (hC : CmpOK P Es g k ok cf)
    (h0 : ∀ (p : Option Addr) (cap : Nat) (fv : Value) (w : World), Calls P f #[.slice p 0 cap, fv] w fun e w' => e = .returned (.tuple #[]) ∧ w' = w)
    (hc : ∀ (enc : Nat → List Value) (cfa : Nat → Nat → Int) (blk off cap : Nat) (d : Array Nat) (w : World), (∀ x, (enc x).length = k) → (∀ x, ∀ v ∈ enc x, v.oneCell' = true) → Sort.SWO (Go.Proofs.ltOf cfa) → Go.Proofs.CmpLays P g #[] enc k cfa blk off d.size w → Sort.HoldsK enc k w blk off d → blk < w.heap.size → d.size < 4611686018427387904 →
      Calls P f #[.slice (some ⟨blk, off, none⟩) d.size cap, .func (.func g) #[] #[]] w fun e w' => e = .returned (.tuple #[]) ∧ ∃ n os, w' = Go.Proofs.sortWorldK enc k w blk off n (Sort.pdq (Go.Proofs.ltOf cfa) d 0 d.size (Lib.bitLen d.size) true true) os) : OrcOK P E f (gSortP k g ok cf) := by
  refine ⟨hfn, fun args h v hv => ?_⟩
  unfold gSortP at hv
  split at hv
  · refine .inr ?_
    rename_i b off n m f' fs csv
    split at hv
    · rename_i cells hrd
      split at hv
      · rename_i hcond
        obtain ⟨rfl, rfl, rfl, hn0, hk0, hlen, hnb, hok, hone⟩ := hcond
        injection hv with hv
        subst hv
        obtain ⟨lt, hlt⟩ : ∃ lt : List Value → List Value → Bool, lt = fun x y => decide (cf h x y < 0) := ⟨_, rfl⟩
        refine ⟨b, off, _, rfl, fun φ w args' hHok hGb hfb hr ht ha => ?_⟩
        obtain ⟨M, φ', hM, hM1, hM2, hM3, hr', ha'⟩ := HR.cut hHok hr ha
        cases ha' with
        | cons a1 a2 =>
          cases a2 with
          | cons a2 a3 =>
            cases a3
            cases a2 with
            | func fn q1 q2 q3 q4 =>
              rename_i fs' cs'
              obtain rfl : fs' = #[] := Array.eq_empty_of_size_eq_zero (by simpa using q1.symm)
              obtain rfl : cs' = #[] := Array.eq_empty_of_size_eq_zero (by simpa using q2.symm)
              cases a1 with
              | slc hφ hn hm htop hA =>
                rename_i c sh es top m' A
                have hA : A = ⟨c, sh + off, none⟩ := by
                  rcases hA with h1 | h1
                  · exact h1
                  · omega
                subst hA
                unfold rd at hrd
                split at hrd
                · rename_i cs0 size es0 hb0
                  split at hrd
                  · rename_i hsz
                    have hltc := hr'.lt hb0 hφ
                    have hbn : b < h.next := by
                      rcases Nat.lt_or_ge b h.next with g | g
                      · exact g
                      · rw [hHok b g] at hb0; cases hb0
                    obtain ⟨_, cs, ty, fr, hh, _, h3, h4, h5⟩ := hr'.blk b _ _ _ hb0 _ hφ
                    have hget : ∀ j, j < n * k → cs0.get (off + j) = cells[j]? := fun j hj => (getCells_some _ _ _ _ hrd).2 j hj
                    -- the world's own cells
                    obtain ⟨wc, hwc⟩ : ∃ wc : List Value, wc = (List.range (n * k)).map fun j => cs[sh + off + j]?.getD undef := ⟨_, rfl⟩
                    have hwl : wc.length = n * k := by rw [hwc]; simp
                    have hwg : ∀ j, j < n * k → wc[j]? = some (cs[sh + off + j]?.getD undef) := fun j hj => by
                      rw [hwc, List.getElem?_map, List.getElem?_range hj]
                      rfl
                    have hvr : VRs φ' cells wc := VRs.of_get (by omega) fun j h1 h2 => by
                      obtain ⟨u, u', p1, p2, p3⟩ := h5 (off + j) (by omega)
                      rw [hget j (by omega), List.getElem?_eq_getElem h1] at p1
                      injection p1 with p1
                      subst p1
                      have := hwg j (by omega)
                      rw [List.getElem?_eq_getElem h2] at this
                      injection this with this
                      rw [this, show sh + off + j = sh + (off + j) by omega, p2]
                      exact p3
                    have hwone : wc.all oneB = true := by rw [hvr.one]; exact hone
                    have hev : ∀ i, VRs φ' (elt k n cells i) (elt k n wc i) := fun i => by
                      rw [elt_eq hn0, elt_eq hn0]
                      exact (hvr.drop _).take _
                    have hel : ∀ i, (elt k n cells i).length = k := fun i => chunks_mem_len hlen _ (elt_mem hn0)
                    have hwl' : ∀ i, (elt k n wc i).length = k := fun i => chunks_mem_len hwl _ (elt_mem hn0)
                    have hwo : ∀ i, ∀ v ∈ elt k n wc i, oneB v = true := fun i v hv => by
                      rw [elt_eq hn0] at hv
                      exact List.all_eq_true.1 hwone v (List.mem_of_mem_drop (List.mem_of_mem_take hv))
                    have hoke : ∀ i, ok b h (elt k n cells i) := fun i => hok _ (elt_mem hn0)
                    obtain ⟨cfa, hcfa⟩ : ∃ cfa : Nat → Nat → Int, cfa = fun i j => cf h (elt k n cells i) (elt k n cells j) := ⟨_, rfl⟩
                    have hlta : ∀ i j, Go.Proofs.ltOf cfa i j = lt (elt k n cells i) (elt k n cells j) := fun i j => by rw [hlt, hcfa]; rfl
                    have hswo : Sort.SWO (Go.Proofs.ltOf cfa) := by
                      refine ⟨fun x => ?_, fun x y z h1 h2 => ?_, fun x y z h1 h2 => ?_⟩
                      · rw [hcfa]; exact decide_eq_false (hC.irr b h _ (hoke x))
                      · rw [hcfa] at h1 h2 ⊢
                        exact decide_eq_true (hC.tr b h _ _ _ (hoke x) (hoke y) (hoke z) (of_decide_eq_true h1) (of_decide_eq_true h2))
                      · rw [hcfa] at h1 h2 ⊢
                        exact decide_eq_false (hC.ntr b h _ _ _ (hoke x) (hoke y) (hoke z) (of_decide_eq_false h1) (of_decide_eq_false h2))
                    -- what the sort makes
                    obtain ⟨D, hD⟩ : ∃ D, D = Sort.pdq (Go.Proofs.ltOf cfa) (Array.range n) 0 (Array.range n).size (Lib.bitLen (Array.range n).size) true true := ⟨_, rfl⟩
                    have hrs : (Array.range n).size = n := by simp
                    obtain ⟨hperm, hsort⟩ := Sort.pdq_sorts (Go.Proofs.ltOf cfa) hswo (Array.range n) 0 (Array.range n).size (Lib.bitLen (Array.range n).size) true true (Nat.zero_le _) (Nat.le_refl _) (Or.inl rfl)
                    rw [← hD] at hperm hsort
                    obtain ⟨hDs, _, hDp⟩ := hperm
                    rw [hrs] at hDs hDp hsort
                    have hDp' : D.toList.Perm (List.range n) := by
                      have e1 : D.extract 0 n = D := by
                        rw [← hDs]
                        exact Array.extract_size
                      have e2 : (Array.range n).extract 0 n = Array.range n := by
                        have := Array.extract_size (xs := Array.range n)
                        rwa [hrs] at this
                      rw [e1, e2, Array.toList_range] at hDp
                      exact hDp
                    have hres : pdqL k n cells (cf h) = D.toList.map (elt k n cells) := by
                      unfold pdqL
                      rw [hD, hrs, hcfa]
                    rw [hres]
                    have hDl : D.toList.length = n := by simpa using hDs
                    refine ⟨c, sh, es, top, (D.toList.map (elt k n wc)).flatten, ?_, ?_, fun w1 hrun => ?_⟩
                    · rw [← hM2 b hbn]; exact hφ
                    · have := VRs.flat' hev D.toList
                      exact this.mono hM3
                    · have hfl : ∀ d : List Nat, ∀ v ∈ (d.map (elt k n wc)).flatten, oneB v = true := fun d v hv => by
                        obtain ⟨l, hl, hv⟩ := List.mem_flatten.1 hv
                        obtain ⟨i, _, rfl⟩ := List.mem_map.1 hl
                        exact hwo i v hv
                      obtain ⟨hfr, hw1⟩ := storeCells_ok _ 0 w w1 cs (hfl D.toList) hh (by rw [flat_len hwl', hDl]; omega) hrun
                      rw [flat_len hwl', hDl] at hfr
                      simp only [Nat.add_zero] at hfr hw1
                      have hflK : ∀ d : Array Nat, Sort.flatK (elt k n wc) k d = ((d.toList.map (elt k n wc)).flatten).toArray := fun d => by
                        apply Array.toList_inj.1
                        rw [flatK_list hk0 hwl']
                      have hHolds : Sort.HoldsK (elt k n wc) k w c (sh + off) (Array.range n) := by
                        intro j hj
                        have hj' : j < n * k := by rw [Sort.size_flatK] at hj; simpa using hj
                        refine ⟨?_, hfr j hj'⟩
                        have e1 : (Sort.flatK (elt k n wc) k (Array.range n))[j]! = wc[j]?.getD undef := by
                          rw [hflK, Array.toList_range, elt_range, chunks_flatten hwl]
                          rw [hwg j hj']
                          have : j < wc.length := by omega
                          have h2 := hwg j hj'
                          rw [List.getElem?_eq_getElem this] at h2
                          injection h2 with h2
                          simp [this, h2]
                        rw [e1, hwg j hj']
                        simp only [id, Option.getD_some, World.cell?, hh]
                        have : sh + off + j < cs.size := by omega
                        simp [this]
                      have hcmp : Go.Proofs.CmpLays P f' #[] (elt k n wc) k cfa c (sh + off) (Array.range n).size w := by
                        intro q os dk hdk x y
                        rw [hrs] at hdk
                        have hdl : dk.toList.length = n := by simpa using hdk
                        -- the heap of the evaluator, with the row in this order
                        obtain ⟨w2, hrun2, hr2, _⟩ := store_list (P := P) hφ hGb (hfz b) (dk.toList.map (elt k n cells)).flatten (dk.toList.map (elt k n wc)).flatten off 0 cs0 h.blks.get w hr' hb0 (VRs.flat' hev _) (by rw [flat_len hel, hdl]; omega) (List.all_eq_true.2 (hfl dk.toList))
                        obtain ⟨_, hw2⟩ := storeCells_ok _ 0 w w2 cs (hfl dk.toList) hh (by rw [flat_len hwl', hdl]; omega) hrun2
                        simp only [Nat.add_zero] at hw2
                        have hF : (Sort.flatK (elt k n wc) k dk).toList = (dk.toList.map (elt k n wc)).flatten := flatK_list hk0 hwl' dk
                        have hbel : Below w2.heap.size w2 (Go.Proofs.sortWorldK (elt k n wc) k w c (sh + off) q dk os) := by
                          rw [hw2, ← hF]
                          exact below_putF
                        have hrW := hr2.below hbel
                        generalize Go.Proofs.sortWorldK (elt k n wc) k w c (sh + off) q dk os = W at hrW
                        obtain ⟨h2, hh2⟩ : ∃ h2 : H, h2 = { blks := Tr.put h.blks b (.mk (setCells cs0 (off + 0) (dk.toList.map (elt k n cells)).flatten) size es0), next := M, wm := h.wm } := ⟨_, rfl⟩
                        have hput : h2.blks.get = upd h.blks.get b (.mk (setCells cs0 (off + 0) (dk.toList.map (elt k n cells)).flatten) size es0) := by
                          rw [hh2]
                          funext j
                          rw [Tr.get_put]
                          rfl
                        have hnx2 : h2.next = M := by rw [hh2]
                        have hHok2 : Hok h2 := fun j hj => by
                          rw [hnx2] at hj
                          rw [hput]
                          unfold upd
                          rw [if_neg (by omega)]
                          exact hHok j (by omega)
                        have hsame : ∀ j, j ≠ b → h2.blks.get j = h.blks.get j := fun j hj => by
                          rw [hput]
                          unfold upd
                          rw [if_neg hj]
                        have ok2 : ∀ i, ok b h2 (elt k n cells i) := fun i => hC.okm b h h2 _ (hoke i) hsame (by omega)
                        have cf2 : cf h2 (elt k n cells x) (elt k n cells y) = cfa x y := by
                          rw [hcfa]
                          exact hC.cfm b h h2 _ _ (hoke x) (hoke y) hsame (by omega)
                        obtain ⟨F, h3, hcall⟩ := hC.run b h2 _ _ hHok2 (ok2 x) (ok2 y) (hel x) (hel y)
                        rw [cf2, hnx2] at hcall
                        have hrE : HR (Es M) φ' h2.blks.get W := by
                          rw [hput]
                          exact HR.env hrW (hN M) (by rw [hG]; have : b < h.next := hbn; omega) hNG hfz (hfs M)
                        have hargs : VRs φ' [.agg (elt k n cells x).toArray, .agg (elt k n cells y).toArray] [.agg (elt k n wc x).toArray, .agg (elt k n wc y).toArray] :=
                          .cons (.agg (hev x).arr.1 (hev x).arr.2) (.cons (.agg (hev y).arr.1 (hev y).arr.2) .nil)
                        have := callRunS (hst M) (hEs M) hcall rfl hHok2 (by rw [hG, hnx2]) hrE hargs (fun j hj => hM1 j (by rw [hnx2] at hj; exact hj)) hgb
                        exact this.mono fun e w' ⟨he, hb1, hd1⟩ => ⟨he, grown_of hb1 hd1⟩
                      have := hc (elt k n wc) cfa c (sh + off) m' (Array.range n) w hwl' (fun x v hv => oneB_cell (hwo x v hv)) hswo hcmp hHolds hltc (by rw [hrs]; exact hnb)
                      rw [hrs] at this
                      refine this.mono fun e w' ⟨he, q, os, hw'⟩ => ⟨he, ?_⟩
                      have hD2 : Sort.pdq (Go.Proofs.ltOf cfa) (Array.range n) 0 n (Lib.bitLen n) true true = D := by rw [hD, hrs]
                      rw [hw', hw1, hD2, ← flatK_list hk0 hwl']
                      exact below_putF
                  · cases hrd
                · cases hrd
      · cases hv
    · cases hv
  · split at hv
    · rename_i fs cs hcond
      obtain ⟨rfl, rfl⟩ := hcond
      injection hv with hv
      subst hv
      refine .inl ⟨rfl, fun _ => .tuple rfl fun i h3 h4 => by simp at h3, fun φ w args' hr ht ha => ?_⟩
      cases ha with
      | cons a1 a2 =>
        cases a2 with
        | cons a2 a3 =>
          cases a3
          cases a1 with
          | nils => exact (h0 none 0 _ w).mono fun e w' ⟨he, hw⟩ => ⟨he, by rw [hw]; exact Below.refl _ _⟩
    · cases hv
  · cases hv
end
end Go.Proofs.YtnhbkoeomefkdaaDoor.Ev

