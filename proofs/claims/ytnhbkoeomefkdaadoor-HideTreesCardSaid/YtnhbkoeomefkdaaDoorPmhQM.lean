/- Sets of wires: who is joined with whom, rings, parts. Mathematics alone. -/
import Derived.Test.YtnhbkoeomefkdaaDoorPmhQ1
import Derived.Test.YtnhbkoeomefkdaaDoorPmhQ2
import Derived.Test.YtnhbkoeomefkdaaDoorPmhUB
set_option linter.unusedVariables false
set_option linter.unusedSimpArgs false
namespace Go.Proofs.YtnhbkoeomefkdaaDoor.Ev.L
open Go Go.Proofs.YtnhbkoeomefkdaaDoor.Ev
noncomputable section

abbrev Wr := Nat × Nat
/-- one wire more: the one label becomes the other -/
def mrg (f : Nat → Nat) (e : Wr) : Nat → Nat := fun k => if f k = f e.1 then f e.2 else f k
def labs (L : List Wr) (f : Nat → Nat) : Nat → Nat := L.foldl mrg f
def lab (L : List Wr) : Nat → Nat := labs L id
/-- no wire joins what is joined -/
def acyc : List Wr → (Nat → Nat) → Prop
  | [], _ => True
  | e :: r, f => f e.1 ≠ f e.2 ∧ acyc r (mrg f e)
instance acycDec : (L : List Wr) → (f : Nat → Nat) → Decidable (acyc L f)
  | [], f => .isTrue trivial
  | e :: r, f => by
    unfold acyc
    have := acycDec r (mrg f e)
    infer_instance
theorem labs_cons {e : Wr} {r : List Wr} {f : Nat → Nat} : labs (e :: r) f = labs r (mrg f e) := rfl
theorem mrg_same {f : Nat → Nat} {e : Wr} {u v : Nat} (h : f u = f v) : mrg f e u = mrg f e v := by unfold mrg; rw [h]
theorem mrg_edge {f : Nat → Nat} {e : Wr} : mrg f e e.1 = mrg f e e.2 := by
  unfold mrg
  rw [if_pos rfl]
  split <;> rfl
theorem mrg_or {f : Nat → Nat} {e : Wr} {u v : Nat} (h : mrg f e u = mrg f e v) : f u = f v ∨ (f u = f e.1 ∧ f v = f e.2) ∨ (f u = f e.2 ∧ f v = f e.1) := by
  unfold mrg at h
  by_cases h1 : f u = f e.1
  · by_cases h2 : f v = f e.1
    · exact .inl (h1.trans h2.symm)
    · rw [if_pos h1, if_neg h2] at h
      exact .inr (.inl ⟨h1, h.symm⟩)
  · by_cases h2 : f v = f e.1
    · rw [if_neg h1, if_pos h2] at h
      exact .inr (.inr ⟨h, h2⟩)
    · rw [if_neg h1, if_neg h2] at h
      exact .inl h
theorem labs_same : ∀ {L : List Wr} {f : Nat → Nat} {u v : Nat}, f u = f v → labs L f u = labs L f v
  | [], f, u, v, h => h
  | e :: r, f, u, v, h => by rw [labs_cons]; exact labs_same (mrg_same h)
theorem labs_edge : ∀ {L : List Wr} {f : Nat → Nat} {e : Wr}, e ∈ L → labs L f e.1 = labs L f e.2
  | a :: r, f, e, h => by
    rw [labs_cons]
    rcases List.mem_cons.1 h with rfl | h
    · exact labs_same mrg_edge
    · exact labs_edge h
/-- what is the same along every wire is the same in a part -/
theorem labs_min {β : Type} : ∀ {L : List Wr} {f : Nat → Nat} {g : Nat → β}, (∀ u v, f u = f v → g u = g v) → (∀ e ∈ L, g e.1 = g e.2) → ∀ u v, labs L f u = labs L f v → g u = g v
  | [], f, g, hf, _, u, v, h => hf u v h
  | e :: r, f, g, hf, hg, u, v, h => by
    rw [labs_cons] at h
    refine labs_min (f := mrg f e) (fun u v h => ?_) (fun x hx => hg x (List.mem_cons_of_mem _ hx)) u v h
    have he := hg e (by simp)
    rcases mrg_or h with h | ⟨h1, h2⟩ | ⟨h1, h2⟩
    · exact hf u v h
    · exact (hf u e.1 h1).trans (he.trans (hf v e.2 h2).symm)
    · exact (hf u e.2 h1).trans (he.symm.trans (hf v e.1 h2).symm)
theorem lab_min {β : Type} {L : List Wr} {g : Nat → β} (hg : ∀ e ∈ L, g e.1 = g e.2) {u v : Nat} (h : lab L u = lab L v) : g u = g v :=
  labs_min (fun u v h => by have : u = v := h; rw [this]) hg u v h
theorem lab_edge {L : List Wr} {e : Wr} (h : e ∈ L) : lab L e.1 = lab L e.2 := labs_edge h
/-- who is joined depends on the wires alone -/
theorem lab_sub {L M : List Wr} (h : ∀ e ∈ L, e ∈ M) {u v : Nat} (hl : lab L u = lab L v) : lab M u = lab M v := lab_min (fun e he => lab_edge (h e he)) hl
theorem lab_perm {L M : List Wr} (h : L.Perm M) {u v : Nat} : lab L u = lab L v ↔ lab M u = lab M v :=
  ⟨lab_sub fun e he => h.mem_iff.1 he, lab_sub fun e he => h.mem_iff.2 he⟩

/-- one representative of each label: those that no smaller one has -/
def reps (n : Nat) (f : Nat → Nat) : List Nat := (List.range n).filter fun k => decide (∀ j, j < k → f j ≠ f k)
def cls (n : Nat) (f : Nat → Nat) : Nat := (reps n f).length
theorem reps_congr {n : Nat} {f g : Nat → Nat} (h : ∀ u v, f u = f v ↔ g u = g v) : reps n f = reps n g := by
  unfold reps
  refine List.filter_congr fun k _ => ?_
  simp only [ne_eq, h]
theorem rep_of {f : Nat → Nat} : ∀ k, ∃ r, r ≤ k ∧ f r = f k ∧ ∀ j, j < r → f j ≠ f r := by
  intro k
  induction k using Nat.strongRecOn with
  | _ k ih =>
    by_cases h : ∀ j, j < k → f j ≠ f k
    · exact ⟨k, Nat.le_refl _, rfl, h⟩
    · have ⟨j, hj⟩ := Classical.not_forall.1 h
      have ⟨hjk, hj⟩ := Classical.not_imp.1 hj
      have hj := Classical.not_not.1 hj
      obtain ⟨r, h1, h2, h3⟩ := ih j hjk
      exact ⟨r, by omega, h2.trans hj, h3⟩
theorem mem_reps {n : Nat} {f : Nat → Nat} {k : Nat} : k ∈ reps n f ↔ k < n ∧ ∀ j, j < k → f j ≠ f k := by
  simp [reps]
theorem reps_nodup {n : Nat} {f : Nat → Nat} : (reps n f).Nodup := List.nodup_range.filter _
/-- a wire between two parts makes one part less -/
theorem cls_mrg {n : Nat} {f : Nat → Nat} {e : Wr} (h1 : e.1 < n) (h2 : e.2 < n) (hne : f e.1 ≠ f e.2) : cls n (mrg f e) + 1 = cls n f := by
  obtain ⟨r1, a1, a2, a3⟩ := rep_of (f := f) e.1
  obtain ⟨r2, b1, b2, b3⟩ := rep_of (f := f) e.2
  have hr : r1 ≠ r2 := fun g => by subst g; exact hne (a2.symm.trans b2)
  obtain ⟨m, hm⟩ : ∃ m, m = max r1 r2 := ⟨_, rfl⟩
  have hmem : m ∈ reps n f := by
    rw [mem_reps]
    by_cases g : r1 ≤ r2
    · rw [hm, Nat.max_eq_right g]; exact ⟨by omega, b3⟩
    · rw [hm, Nat.max_eq_left (by omega)]; exact ⟨by omega, a3⟩
  have key : reps n (mrg f e) = (reps n f).filter fun k => decide (k ≠ m) := by
    unfold reps
    rw [List.filter_filter]
    refine List.filter_congr fun k hk => ?_
    rw [Bool.eq_iff_iff]
    simp only [decide_eq_true_eq, Bool.and_eq_true]
    constructor
    · intro hj
      have hf : ∀ j, j < k → f j ≠ f k := fun j hjk g => hj j hjk (mrg_same g)
      refine ⟨fun g => ?_, hf⟩
      subst g
      have hlt : min r1 r2 < max r1 r2 := by omega
      rw [hm] at hj
      refine hj (min r1 r2) hlt ?_
      have s1 : mrg f e r1 = mrg f e e.1 := mrg_same a2
      have s2 : mrg f e r2 = mrg f e e.2 := mrg_same b2
      have s3 := mrg_edge (f := f) (e := e)
      rcases Nat.le_total r1 r2 with g | g
      · rw [Nat.min_eq_left g, Nat.max_eq_right g, s1, s2, s3]
      · rw [Nat.min_eq_right g, Nat.max_eq_left g, s1, s2, s3]
    · rintro ⟨hkm, hf⟩ j hjk g
      rcases mrg_or g with g | ⟨g1, g2⟩ | ⟨g1, g2⟩
      · exact hf j hjk g
      · have hk2 : k = r2 := by
          rcases Nat.lt_trichotomy k r2 with x | x | x
          · exact absurd (g2.trans b2.symm) (b3 k x)
          · exact x
          · exact absurd (b2.trans g2.symm) (hf r2 x)
        have : r1 ≤ j := by
          refine Classical.byContradiction fun x => ?_
          exact a3 j (by omega) (g1.trans a2.symm)
        exact hkm (by omega)
      · have hk1 : k = r1 := by
          rcases Nat.lt_trichotomy k r1 with x | x | x
          · exact absurd (g2.trans a2.symm) (a3 k x)
          · exact x
          · exact absurd (a2.trans g2.symm) (hf r1 x)
        have : r2 ≤ j := by
          refine Classical.byContradiction fun x => ?_
          exact b3 j (by omega) (g1.trans b2.symm)
        exact hkm (by omega)
  unfold cls
  rw [key]
  have hc := reps_nodup (n := n) (f := f)
  have : ∀ {l : List Nat}, l.Nodup → m ∈ l → (l.filter fun k => decide (k ≠ m)).length + 1 = l.length := by
    intro l
    induction l with
    | nil => intro _ h; cases h
    | cons a l ih =>
      intro hn hmm
      have hn' := List.nodup_cons.1 hn
      rcases List.mem_cons.1 hmm with rfl | hmm
      · have hx : (l.filter fun k => decide (k ≠ m)) = l := List.filter_eq_self.2 fun x hx => decide_eq_true fun g => hn'.1 (g ▸ hx)
        rw [List.filter_cons]
        simp only [ne_eq, not_true_eq_false, decide_false, Bool.false_eq_true, if_false]
        have hx' : (l.filter fun k => decide (¬ k = m)) = l := hx
        rw [hx']
        rfl
      · have hne2 : a ≠ m := fun g => hn'.1 (g ▸ hmm)
        rw [List.filter_cons, if_pos (decide_eq_true hne2), List.length_cons, List.length_cons, ih hn'.2 hmm]
  exact this hc hmem
theorem cls_ring {n : Nat} {f : Nat → Nat} {e : Wr} (h : f e.1 = f e.2) : cls n (mrg f e) = cls n f := by
  unfold cls
  rw [reps_congr (f := mrg f e) (g := f) fun u v => ⟨fun g => by
    rcases mrg_or g with g | ⟨g1, g2⟩ | ⟨g1, g2⟩
    · exact g
    · rw [g1, g2, h]
    · rw [g1, g2, h], mrg_same⟩]
/-- without a ring each wire makes one part less, and otherwise fewer do -/
theorem cls_labs {n : Nat} : ∀ {L : List Wr} {f : Nat → Nat}, (∀ e ∈ L, e.1 < n ∧ e.2 < n) → cls n f ≤ cls n (labs L f) + L.length ∧ (acyc L f ↔ cls n f = cls n (labs L f) + L.length)
  | [], f, _ => ⟨Nat.le_refl _, by simp [acyc, labs]⟩
  | e :: r, f, hL => by
    obtain ⟨h1, h2⟩ := cls_labs (L := r) (f := mrg f e) fun x hx => hL x (List.mem_cons_of_mem _ hx)
    obtain ⟨he1, he2⟩ := hL e (by simp)
    rw [labs_cons, List.length_cons]
    by_cases hne : f e.1 = f e.2
    · have hc := cls_ring (n := n) hne
      rw [hc] at h1 h2
      refine ⟨by omega, ⟨fun h => absurd hne h.1, fun h => by omega⟩⟩
    · have hc := cls_mrg he1 he2 hne
      refine ⟨by omega, ⟨fun h => ?_, fun h => ⟨hne, h2.2 (by omega)⟩⟩⟩
      have := h2.1 h.2
      omega
theorem cls_id {n : Nat} : cls n id = n := by
  have : reps n id = List.range n := List.filter_eq_self.2 fun k _ => decide_eq_true fun j hj g => by
    have : j = k := g
    omega
  unfold cls
  rw [this, List.length_range]
/-- rings do not depend on the order -/
theorem acyc_iff {n : Nat} {L : List Wr} (h : ∀ e ∈ L, e.1 < n ∧ e.2 < n) : acyc L id ↔ n = cls n (lab L) + L.length := by
  have := (cls_labs (n := n) (f := id) h).2
  rw [cls_id] at this
  exact this
theorem acyc_perm {n : Nat} {L M : List Wr} (h : ∀ e ∈ L, e.1 < n ∧ e.2 < n) (hp : L.Perm M) : acyc L id ↔ acyc M id := by
  rw [acyc_iff h, acyc_iff fun e he => h e (hp.mem_iff.2 he), hp.length_eq]
  have : reps n (lab L) = reps n (lab M) := reps_congr fun u v => lab_perm hp
  unfold cls
  rw [this]
end
end Go.Proofs.YtnhbkoeomefkdaaDoor.Ev.L

/- Kirchhoff: height times trees is width times forests of two parts. Mathematics alone. -/
set_option linter.unusedVariables false
set_option linter.unusedSimpArgs false
namespace Go.Proofs.YtnhbkoeomefkdaaDoor.Ev.L
open Go Go.Proofs.YtnhbkoeomefkdaaDoor.Ev
noncomputable section

/- sums over all parts of a list -/
def sumS : List Wr → (List Wr → Int) → Int
  | [], φ => φ []
  | e :: r, φ => sumS r φ + sumS r fun f => φ (e :: f)
theorem sumS_add : ∀ {W : List Wr} {φ ψ : List Wr → Int}, sumS W (fun f => φ f + ψ f) = sumS W φ + sumS W ψ
  | [], _, _ => rfl
  | e :: r, φ, ψ => by
    simp only [sumS]
    rw [sumS_add, sumS_add (φ := fun f => φ (e :: f)) (ψ := fun f => ψ (e :: f))]
    omega
theorem sumS_mul : ∀ {W : List Wr} {φ : List Wr → Int} {c : Int}, sumS W (fun f => c * φ f) = c * sumS W φ
  | [], _, _ => rfl
  | e :: r, φ, c => by
    simp only [sumS]
    rw [sumS_mul, sumS_mul (φ := fun f => φ (e :: f)), Int.mul_add]
theorem sumS_congr : ∀ {W : List Wr} {φ ψ : List Wr → Int}, (∀ f, f.Sublist W → φ f = ψ f) → sumS W φ = sumS W ψ
  | [], _, _, h => h [] (List.Sublist.refl _)
  | e :: r, φ, ψ, h => by
    simp only [sumS]
    rw [sumS_congr fun f hf => h f (hf.cons _), sumS_congr (φ := fun f => φ (e :: f)) (ψ := fun f => ψ (e :: f)) fun f hf => h (e :: f) (hf.cons_cons _)]
theorem sumS_nonneg : ∀ {W : List Wr} {φ : List Wr → Int}, (∀ f, 0 ≤ φ f) → 0 ≤ sumS W φ
  | [], _, h => h []
  | e :: r, φ, h => by
    have h1 := sumS_nonneg (W := r) h
    have h2 := sumS_nonneg (W := r) (φ := fun f => φ (e :: f)) fun f => h _
    simp only [sumS]
    omega
theorem sumS_ge : ∀ {W s : List Wr} {φ : List Wr → Int}, s.Sublist W → (∀ f, 0 ≤ φ f) → φ s ≤ sumS W φ
  | [], s, φ, hs, h => by
    rw [List.sublist_nil.1 hs]
    exact Int.le_refl _
  | e :: r, s, φ, hs, h => by
    simp only [sumS]
    cases hs with
    | cons _ hs =>
      have h1 := sumS_ge hs h
      have h2 := sumS_nonneg (W := r) (φ := fun f => φ (e :: f)) fun f => h _
      omega
    | cons_cons _ hs =>
      have h1 := sumS_ge (φ := fun f => φ (e :: f)) hs fun f => h _
      have h2 := sumS_nonneg (W := r) h
      omega
/-- over the elements, each with the rest -/
def pickW : List Wr → (List Wr → Wr → Int) → Int
  | [], φ => 0
  | e :: t, φ => φ t e + pickW t fun f x => φ (e :: f) x
def sumL (W : List Wr) (g : Wr → Int) : Int := (W.map g).sum
theorem sumL_nil {g : Wr → Int} : sumL [] g = 0 := rfl
theorem sumL_cons {e : Wr} {W : List Wr} {g : Wr → Int} : sumL (e :: W) g = g e + sumL W g := by simp [sumL]
/-- taking one out of a set, or putting one to a set that lacks it -/
theorem swap_sum : ∀ {W : List Wr} {φ : List Wr → Wr → Int}, (∀ f e, e ∈ f → φ f e = 0) → sumS W (fun t => pickW t φ) = sumS W fun f => sumL W (φ f)
  | [], φ, h => rfl
  | e :: r, φ, h => by
    have h1 := swap_sum (W := r) (φ := φ) h
    have h2 := swap_sum (W := r) (φ := fun f x => φ (e :: f) x) fun f x hx => h _ _ (List.mem_cons_of_mem _ hx)
    simp only [sumS, pickW]
    rw [sumS_add (φ := fun f => φ f e) (ψ := fun f => pickW f fun f x => φ (e :: f) x), h1, h2]
    rw [sumS_congr (φ := fun f => sumL (e :: r) (φ f)) (ψ := fun f => φ f e + sumL r (φ f)) fun f _ => sumL_cons]
    rw [sumS_congr (φ := fun f => sumL (e :: r) (φ (e :: f))) (ψ := fun f => sumL r (φ (e :: f))) fun f _ => by rw [sumL_cons, h (e :: f) e (by simp), Int.zero_add]]
    rw [sumS_add]
    have e3 : (sumS r fun f => sumL r fun x => φ (e :: f) x) = sumS r fun f => sumL r (φ (e :: f)) := rfl
    omega
theorem pick_zero : ∀ {t : List Wr} {φ : List Wr → Wr → Int}, (∀ f e, t.Perm (e :: f) → φ f e = 0) → pickW t φ = 0
  | [], φ, h => rfl
  | e :: t, φ, h => by
    rw [pickW, h t e (List.Perm.refl _), pick_zero fun f x hx => h (e :: f) x ((hx.cons e).trans (List.Perm.swap x e f))]
    rfl
theorem pick_erase : ∀ {t : List Wr} {φ : List Wr → Wr → Int}, t.Nodup → pickW t φ = sumL t fun e => φ (t.erase e) e
  | [], φ, h => rfl
  | e :: t, φ, h => by
    have hn := List.nodup_cons.1 h
    rw [pickW, pick_erase hn.2, sumL_cons]
    have e1 : (e :: t).erase e = t := by simp
    rw [e1]
    congr 1
    unfold sumL
    refine congrArg List.sum (List.map_congr_left fun x hx => ?_)
    have hne : e ≠ x := fun g => hn.1 (g ▸ hx)
    rw [List.erase_cons_tail (by simpa using hne)]

/- trees and forests -/
def tree (n : Nat) (t : List Wr) : Prop := acyc t id ∧ t.length + 1 = n
def two (n a b : Nat) (f : List Wr) : Prop := acyc f id ∧ f.length + 2 = n ∧ lab f a ≠ lab f b
instance {n : Nat} {t : List Wr} : Decidable (tree n t) := by unfold tree; infer_instance
instance {n a b : Nat} {t : List Wr} : Decidable (two n a b t) := by unfold two; infer_instance
def ind (f : List Wr) (a z : Nat) : Int := if lab f z = lab f a then 1 else 0
def phi (n a b : Nat) (x : Nat → Int) (f : List Wr) (e : Wr) : Int := if two n a b f then (ind f a e.1 - ind f a e.2) * (x e.1 - x e.2) else 0
theorem ind_same {f : List Wr} {a u v : Nat} (h : lab f u = lab f v) : ind f a u = ind f a v := by unfold ind; rw [h]
theorem phi_pos {n a b : Nat} {x : Nat → Int} {f : List Wr} {e : Wr} (h : two n a b f) : phi n a b x f e = (ind f a e.1 - ind f a e.2) * (x e.1 - x e.2) := if_pos h
theorem phi_neg {n a b : Nat} {x : Nat → Int} {f : List Wr} {e : Wr} (h : lab f a = lab f b) : phi n a b x f e = 0 := if_neg fun g => g.2.2 h
theorem phi_same {n a b c : Nat} {x : Nat → Int} {f : List Wr} {e : Wr} (h : lab f b = lab f c) : phi n a b x f e = phi n a c x f e := by
  have : two n a b f ↔ two n a c f := by unfold two; rw [h]
  simp only [phi, this]
theorem ind_yes {f : List Wr} {a z : Nat} (h : lab f z = lab f a) : ind f a z = 1 := if_pos h
theorem ind_no {f : List Wr} {a z : Nat} (h : lab f z ≠ lab f a) : ind f a z = 0 := if_neg h
theorem phi_mem {n a b : Nat} {x : Nat → Int} {f : List Wr} {e : Wr} (h : e ∈ f) : phi n a b x f e = 0 := by
  unfold phi
  split
  · rw [ind_same (lab_edge h), Int.sub_self, Int.zero_mul]
  · rfl
theorem acyc_cons {n : Nat} {f : List Wr} {e : Wr} (h : ∀ x ∈ e :: f, x.1 < n ∧ x.2 < n) : acyc (e :: f) id ↔ acyc f id ∧ lab f e.1 ≠ lab f e.2 := by
  have hp : (e :: f).Perm (f ++ [e]) := (List.perm_append_singleton e f).symm
  rw [acyc_perm h hp]
  have key : ∀ (f : List Wr) (g : Nat → Nat), acyc (f ++ [e]) g ↔ acyc f g ∧ labs f g e.1 ≠ labs f g e.2 := by
    intro f
    induction f with
    | nil => intro g; simp [acyc, labs]
    | cons y f ih =>
      intro g
      show (g y.1 ≠ g y.2 ∧ acyc (f ++ [e]) (mrg g y)) ↔ (g y.1 ≠ g y.2 ∧ acyc f (mrg g y)) ∧ _
      rw [ih, labs_cons, and_assoc]
  exact key f id
theorem acyc_nodup {n : Nat} : ∀ {t : List Wr}, (∀ x ∈ t, x.1 < n ∧ x.2 < n) → acyc t id → t.Nodup
  | [], _, _ => List.nodup_nil
  | e :: t, h, ha => by
    obtain ⟨h1, h2⟩ := (acyc_cons h).1 ha
    exact List.nodup_cons.2 ⟨fun g => h2 (lab_edge g), acyc_nodup (fun x hx => h x (List.mem_cons_of_mem _ hx)) h1⟩
/-- in one part all are joined -/
theorem cls_one {n : Nat} {f : Nat → Nat} (h : cls n f = 1) {u v : Nat} (hu : u < n) (hv : v < n) : f u = f v := by
  obtain ⟨r1, a1, a2, a3⟩ := rep_of (f := f) u
  obtain ⟨r2, b1, b2, b3⟩ := rep_of (f := f) v
  obtain ⟨r, hr⟩ := List.length_eq_one_iff.1 h
  have m1 : r1 ∈ reps n f := mem_reps.2 ⟨by omega, a3⟩
  have m2 : r2 ∈ reps n f := mem_reps.2 ⟨by omega, b3⟩
  rw [hr, List.mem_singleton] at m1 m2
  rw [← a2, ← b2, m1, m2]
theorem tree_joins {n : Nat} {t : List Wr} (h : ∀ x ∈ t, x.1 < n ∧ x.2 < n) (ht : tree n t) {u v : Nat} (hu : u < n) (hv : v < n) : lab t u = lab t v := by
  have := (acyc_iff h).1 ht.1
  have := ht.2
  exact cls_one (n := n) (by omega) hu hv
theorem phi_tree {n a b : Nat} {x : Nat → Int} {t f : List Wr} {e : Wr} (h : ∀ x ∈ t, x.1 < n ∧ x.2 < n) (hp : t.Perm (e :: f)) (hn : ¬ tree n t) : phi n a b x f e = 0 := by
  unfold phi
  split
  · rename_i h2
    by_cases hl : lab f e.1 = lab f e.2
    · rw [ind_same hl, Int.sub_self, Int.zero_mul]
    · refine absurd ⟨(acyc_perm h hp).2 ((acyc_cons fun x hx => h x (hp.mem_iff.2 hx)).2 ⟨h2.1, hl⟩), ?_⟩ hn
      have := h2.2.1
      have := hp.length_eq
      rw [List.length_cons] at this
      omega
  · rfl
/-- the way through a tree -/
theorem tree_way {n a b : Nat} {x : Nat → Int} {t : List Wr} (h : ∀ x ∈ t, x.1 < n ∧ x.2 < n) (ht : tree n t) (ha : a < n) (hb : b < n) : pickW t (phi n a b x) = x a - x b := by
  have hnd := acyc_nodup h ht.1
  obtain ⟨g, hg⟩ : ∃ g : Nat → Int, g = fun z => sumL t fun e => phi n a z x (t.erase e) e := ⟨_, rfl⟩
  rw [pick_erase hnd]
  have hgb : (sumL t fun e => phi n a b x (t.erase e) e) = g b := by rw [hg]
  rw [hgb]
  have g0 : g a = 0 := by
    rw [hg]
    have : ∀ l : List Wr, sumL l (fun e => phi n a a x (t.erase e) e) = 0 := by
      intro l
      induction l with
      | nil => rfl
      | cons e l ih =>
        rw [sumL_cons, ih]
        unfold phi
        rw [if_neg fun g => g.2.2 rfl]
        rfl
    exact this t
  have hstep : ∀ e0 ∈ t, g e0.1 + x e0.1 = g e0.2 + x e0.2 := fun e0 he0 => by
    have hper : t.Perm (e0 :: t.erase e0) := List.perm_cons_erase he0
    have hh : ∀ x ∈ e0 :: t.erase e0, x.1 < n ∧ x.2 < n := fun x hx => h x (hper.mem_iff.2 hx)
    obtain ⟨q1, q2⟩ := (acyc_cons hh).1 ((acyc_perm h hper).1 ht.1)
    have hlen : (t.erase e0).length + 2 = n := by
      have := hper.length_eq
      rw [List.length_cons] at this
      have := ht.2
      omega
    obtain ⟨f, hf⟩ : ∃ f, f = t.erase e0 := ⟨_, rfl⟩
    rw [← hf] at q1 q2 hlen
    -- a lies on one side or the other
    have hside : lab f a = lab f e0.1 ∨ lab f a = lab f e0.2 := by
      have hc : (lab f a = lab f e0.1 ∨ lab f a = lab f e0.2) = (lab f e0.1 = lab f e0.1 ∨ lab f e0.1 = lab f e0.2) := lab_min (L := t) (g := fun z => (lab f z = lab f e0.1 ∨ lab f z = lab f e0.2)) (fun e he => by
        rcases List.mem_cons.1 (hper.mem_iff.1 he) with rfl | he
        · exact propext ⟨fun _ => .inr rfl, fun _ => .inl rfl⟩
        · rw [← hf] at he
          show (lab f e.1 = lab f e0.1 ∨ lab f e.1 = lab f e0.2) = (lab f e.2 = lab f e0.1 ∨ lab f e.2 = lab f e0.2)
          rw [lab_edge he]) (tree_joins h ht ha (h e0 he0).1)
      rw [hc]
      exact .inl rfl
    have key : ∀ l : List Wr, l.Nodup → (∀ e ∈ l, e ∈ t) → sumL l (fun e => phi n a e0.1 x (t.erase e) e) - sumL l (fun e => phi n a e0.2 x (t.erase e) e) = if e0 ∈ l then x e0.2 - x e0.1 else 0 := by
      intro l
      induction l with
      | nil => intro _ _; simp [sumL_nil]
      | cons e l ih =>
        intro hn hm
        have hn' := List.nodup_cons.1 hn
        have ih := ih hn'.2 fun y hy => hm y (List.mem_cons_of_mem _ hy)
        rw [sumL_cons, sumL_cons]
        by_cases heq : e = e0
        · subst heq
          rw [if_neg hn'.1] at ih
          rw [if_pos (by simp), ← hf]
          have d : phi n a e.1 x f e - phi n a e.2 x f e = x e.2 - x e.1 := by
            rcases hside with s | s
            · rw [phi_neg s, phi_pos ⟨q1, hlen, fun g => q2 (s.symm.trans g)⟩, ind_yes s.symm, ind_no fun g => q2 (s.symm.trans g.symm)]
              omega
            · rw [phi_neg s, phi_pos ⟨q1, hlen, fun g => q2 (g.symm.trans s)⟩, ind_yes s.symm, ind_no fun g => q2 (g.trans s)]
              omega
          omega
        · have he0' : e0 ∈ t.erase e := (List.mem_erase_of_ne fun g => heq g.symm).2 he0
          have hl := lab_edge he0'
          have d : phi n a e0.1 x (t.erase e) e = phi n a e0.2 x (t.erase e) e := phi_same hl
          have hmem : (e0 ∈ e :: l) ↔ e0 ∈ l := ⟨fun g => (List.mem_cons.1 g).resolve_left fun g => heq g.symm, fun g => List.mem_cons_of_mem _ g⟩
          simp only [hmem]
          rw [← ih, d]
          omega
    have := key t hnd fun e he => he
    rw [if_pos he0] at this
    rw [hg]
    simp only
    omega
  have : g a + x a = g b + x b := lab_min (L := t) (g := fun z => g z + x z) hstep (tree_joins h ht ha hb)
  omega
end
end Go.Proofs.YtnhbkoeomefkdaaDoor.Ev.L

/- Kirchhoff, the end: the width divides the number of trees. Mathematics alone. -/
set_option linter.unusedVariables false
set_option linter.unusedSimpArgs false
namespace Go.Proofs.YtnhbkoeomefkdaaDoor.Ev.L
open Go Go.Proofs.YtnhbkoeomefkdaaDoor.Ev
noncomputable section

/-- how many trees, and forests of two parts -/
def trees (n : Nat) (W : List Wr) : Int := sumS W fun t => if tree n t then 1 else 0
def twos (n a b : Nat) (W : List Wr) : Int := sumS W fun f => if two n a b f then 1 else 0
/-- the law of nodes, for every number that nodes may have -/
def Flows (W : List Wr) (a b : Nat) (x : Nat → Int) (w : Int) : Prop := ∀ c : Nat → Int, sumL W (fun e => (c e.1 - c e.2) * (x e.1 - x e.2)) = w * (c a - c b)
theorem sumL_zero {W : List Wr} {g : Wr → Int} (h : ∀ e, g e = 0) : sumL W g = 0 := by
  induction W with
  | nil => rfl
  | cons e W ih => rw [sumL_cons, h, ih]; rfl
theorem sumL_congr {W : List Wr} {g k : Wr → Int} (h : ∀ e ∈ W, g e = k e) : sumL W g = sumL W k := by
  unfold sumL
  rw [List.map_congr_left h]
theorem kirchhoff {n a b : Nat} {W : List Wr} {x : Nat → Int} {w : Int} (hW : ∀ e ∈ W, e.1 < n ∧ e.2 < n) (ha : a < n) (hb : b < n) (hf : Flows W a b x w) : (x a - x b) * trees n W = w * twos n a b W := by
  unfold trees twos
  rw [← sumS_mul, ← sumS_mul]
  have h1 : sumS W (fun t => (x a - x b) * if tree n t then 1 else 0) = sumS W fun t => pickW t (phi n a b x) := sumS_congr fun t ht => by
    have hh : ∀ e ∈ t, e.1 < n ∧ e.2 < n := fun e he => hW e (ht.subset he)
    by_cases hT : tree n t
    · rw [if_pos hT, tree_way hh hT ha hb, Int.mul_one]
    · rw [if_neg hT, pick_zero fun f e hp => phi_tree hh hp hT, Int.mul_zero]
  rw [h1, swap_sum fun f e he => phi_mem he]
  refine sumS_congr fun f hfs => ?_
  by_cases h2 : two n a b f
  · rw [if_pos h2, sumL_congr fun e _ => phi_pos h2, hf (ind f a), ind_yes rfl, ind_no fun g => h2.2.2 g.symm]
    omega
  · have hz : ∀ e, phi n a b x f e = 0 := fun e => if_neg h2
    rw [if_neg h2, sumL_zero hz, Int.mul_zero]
/-- a part of the wires without a ring joins what all join -/
theorem span : ∀ {W : List Wr} {f : Nat → Nat}, ∃ s, s.Sublist W ∧ acyc s f ∧ labs s f = labs W f
  | [], f => ⟨[], List.Sublist.refl _, trivial, rfl⟩
  | e :: r, f => by
    by_cases h : f e.1 = f e.2
    · obtain ⟨s, h1, h2, h3⟩ := span (W := r) (f := f)
      refine ⟨s, h1.cons _, h2, ?_⟩
      have hm : mrg f e = f := by
        funext k
        unfold mrg
        split
        · rename_i g; rw [g, h]
        · rfl
      rw [labs_cons, hm, h3]
    · obtain ⟨s, h1, h2, h3⟩ := span (W := r) (f := mrg f e)
      exact ⟨e :: s, h1.cons_cons _, ⟨h, h2⟩, by rw [labs_cons, labs_cons, h3]⟩
theorem trees_pos {n : Nat} {W : List Wr} (hW : ∀ e ∈ W, e.1 < n ∧ e.2 < n) (hn : 0 < n) (hj : ∀ u, u < n → lab W u = lab W 0) : 1 ≤ trees n W := by
  obtain ⟨s, h1, h2, h3⟩ := span (W := W) (f := id)
  have hs : ∀ e ∈ s, e.1 < n ∧ e.2 < n := fun e he => hW e (h1.subset he)
  have hc : cls n (lab s) = 1 := by
    have hl : lab s = lab W := h3
    rw [hl]
    have : reps n (lab W) = [0] := by
      have hm : ∀ k, k ∈ reps n (lab W) ↔ k = 0 := fun k => by
        rw [mem_reps]
        constructor
        · rintro ⟨g1, g2⟩
          refine Classical.byContradiction fun g => ?_
          exact g2 0 (by omega) (hj k g1).symm
        · rintro rfl
          exact ⟨hn, fun j hj => absurd hj (Nat.not_lt_zero _)⟩
      have hnd := reps_nodup (n := n) (f := lab W)
      generalize reps n (lab W) = l at hm hnd
      match l with
      | [] => exact absurd ((hm 0).2 rfl) (by simp)
      | [y] => rw [(hm y).1 (by simp)]
      | y :: z :: r =>
        have e1 := (hm y).1 (by simp)
        have e2 := (hm z).1 (by simp)
        subst e1; subst e2
        simp at hnd
    unfold cls
    rw [this]
    rfl
  have ht : tree n s := by
    refine ⟨h2, ?_⟩
    have := (acyc_iff hs).1 h2
    omega
  have := sumS_ge (φ := fun t => if tree n t then 1 else 0) h1 fun f => by split <;> omega
  simp only [if_pos ht] at this
  exact this
/-- with no common divisor of height and width, the width is at most the number of trees -/
theorem wide_trees {n a b : Nat} {W : List Wr} {x : Nat → Int} {w h : Nat} (hW : ∀ e ∈ W, e.1 < n ∧ e.2 < n) (ha : a < n) (hb : b < n) (hj : ∀ u, u < n → lab W u = lab W 0) (hf : Flows W a b x w) (hx : x a - x b = h) (hg : Nat.gcd w h = 1) : (w : Int) ≤ trees n W := by
  have hk := kirchhoff hW ha hb hf
  have hp := trees_pos hW (by omega) hj
  rw [hx] at hk
  have h2 : 0 ≤ twos n a b W := sumS_nonneg fun f => by split <;> omega
  obtain ⟨T, hT⟩ : ∃ T : Nat, trees n W = T := ⟨(trees n W).toNat, by omega⟩
  obtain ⟨U, hU⟩ : ∃ U : Nat, twos n a b W = U := ⟨(twos n a b W).toNat, by omega⟩
  rw [hT, hU] at hk
  have hk' : h * T = w * U := by
    have : ((h * T : Nat) : Int) = ((w * U : Nat) : Int) := by rw [Int.natCast_mul, Int.natCast_mul]; exact hk
    exact Int.ofNat.inj this
  have hd : w ∣ T := Nat.Coprime.dvd_of_dvd_mul_left (k := w) (m := h) (n := T) hg (by rw [hk']; exact Nat.dvd_mul_right _ _)
  have := Nat.le_of_dvd (by omega) hd
  omega
end
end Go.Proofs.YtnhbkoeomefkdaaDoor.Ev.L

/- The law of nodes for a cut's network, by columns. Mathematics alone. -/
set_option linter.unusedVariables false
set_option linter.unusedSimpArgs false
namespace Go.Proofs.YtnhbkoeomefkdaaDoor.Ev.L
open Go Go.Proofs.YtnhbkoeomefkdaaDoor.Ev
noncomputable section

theorem sm_tele {n : Nat} {C : Nat → Int} : sm n (fun y => C y - C (y + 1)) = C 0 - C n := by
  induction n with
  | zero => rw [sm]; omega
  | succ n ih => rw [sm, ih]; omega
/-- within an interval -/
theorem sm_part {a s n : Nat} {C : Nat → Int} (h : a + s ≤ n) : sm n (fun y => iv a s y * (C y - C (y + 1))) = C a - C (a + s) := by
  have key : ∀ m : Nat, sm m (fun y => iv a s y * (C y - C (y + 1))) = if m ≤ a then 0 else if m ≤ a + s then C a - C m else C a - C (a + s) := by
    intro m
    induction m with
    | zero => rw [sm, if_pos (by omega)]
    | succ m ih =>
      have e : iv a s m = if a ≤ m ∧ m < a + s then 1 else 0 := by
        unfold iv
        by_cases g : a ≤ m ∧ m < a + s
        · rw [if_pos g, if_pos (by omega)]
        · rw [if_neg g, if_neg (by omega)]
      rw [sm, ih, e]
      by_cases g : a ≤ m ∧ m < a + s
      · rw [if_pos g, Int.one_mul, if_neg (show ¬ m + 1 ≤ a by omega), if_pos (show m + 1 ≤ a + s by omega)]
        by_cases h3 : m ≤ a
        · have : m = a := by omega
          subst this
          rw [if_pos h3]; omega
        · rw [if_neg h3, if_pos (by omega)]; omega
      · rw [if_neg g, Int.zero_mul, Int.add_zero]
        by_cases h1 : m + 1 ≤ a
        · rw [if_pos (by omega), if_pos h1]
        · rw [if_neg h1, if_neg (show ¬ m + 1 ≤ a + s by omega)]
          by_cases h3 : m ≤ a
          · have hm : m = a := by omega
            have hs : s = 0 := by omega
            subst hs
            rw [if_pos h3, Nat.add_zero, Int.sub_self]
          · rw [if_neg h3]
            by_cases h4 : m ≤ a + s
            · have : m = a + s := by omega
              rw [if_pos h4, this]
            · rw [if_neg h4]
  rw [key n]
  by_cases h1 : n ≤ a
  · have : s = 0 := by omega
    subst this
    rw [if_pos h1, Nat.add_zero, Int.sub_self]
  · rw [if_neg h1]
    split
    · have : n = a + s := by omega
      rw [this]
    · rfl
theorem cn_one {L : List Sq} {W H x y : Nat} (h : ∀ q ∈ L, okSq q ∧ q.1 + q.2.2 ≤ W ∧ q.2.1 + q.2.2 ≤ H) (hp : L.Pairwise fun a b => ¬ ovl a b) (ha : are L = W * H) (hx : x < W) (hy : y < H) : cn L x y = 1 := by
  have h1 := cn_le (x := x) (y := y) hp
  have hnn : ∀ (L : List Sq), 0 ≤ cn L x y := fun L => by
    induction L with
    | nil => exact Int.le_refl _
    | cons q L ih =>
      rw [cn]
      by_cases g : ins q x y
      · rw [iv_in g]; omega
      · rw [iv_out g]; omega
  have h2 : 1 ≤ cn L x y := by
    obtain ⟨q, hq, hi⟩ := covered h hp ha hx hy
    clear h hp ha h1
    induction L with
    | nil => cases hq
    | cons b L ih =>
      rw [cn]
      rcases List.mem_cons.1 hq with rfl | hq
      · rw [iv_in hi]; have := hnn L; omega
      · have := ih hq
        by_cases g : ins b x y
        · rw [iv_in g]; omega
        · rw [iv_out g]; omega
  omega
/-- the sum over squares of what changes from the upper edge to the lower one, place by place -/
def edgeSum (C : Nat → Nat → Int) (W : Nat) : List Sq → Int
  | [] => 0
  | q :: L => sm W (fun x => iv q.1 q.2.2 x * (C x q.2.1.toNat - C x (q.2.1.toNat + q.2.2.toNat))) + edgeSum C W L
theorem edge_cells {C : Nat → Nat → Int} {W H : Nat} : ∀ {L : List Sq}, (∀ q ∈ L, okSq q ∧ q.1 + q.2.2 ≤ W ∧ q.2.1 + q.2.2 ≤ H) → edgeSum C W L = sm W fun x => sm H fun y => cn L x y * (C x y - C x (y + 1))
  | [], _ => by
    have e1 : ∀ x, sm H (fun y => cn [] x y * (C x y - C x (y + 1))) = 0 := fun x => by
      rw [sm_congr (g := fun _ => 0) fun y _ => by rw [cn, Int.zero_mul], sm_const, Int.mul_zero]
    rw [sm_congr (g := fun _ => 0) fun x _ => e1 x, sm_const, Int.mul_zero]
    rfl
  | q :: L, h => by
    obtain ⟨⟨q1, q2, ⟨q3, q4⟩, q5, q6⟩, q7, q8⟩ := h q List.mem_cons_self
    have ih := edge_cells (C := C) (W := W) (H := H) fun q hq => h q (List.mem_cons_of_mem _ hq)
    have ey : q.2.1 = (q.2.1.toNat : Int) := by omega
    have es : q.2.2 = (q.2.2.toNat : Int) := by omega
    have e1 : ∀ x, sm H (fun y => cn (q :: L) x y * (C x y - C x (y + 1))) = iv q.1 q.2.2 x * (C x q.2.1.toNat - C x (q.2.1.toNat + q.2.2.toNat)) + sm H fun y => cn L x y * (C x y - C x (y + 1)) := fun x => by
      have e2 : ∀ y, cn (q :: L) x y * (C x y - C x (y + 1)) = iv q.1 q.2.2 x * (iv q.2.1 q.2.2 y * (C x y - C x (y + 1))) + cn L x y * (C x y - C x (y + 1)) := fun y => by
        rw [cn, Int.add_mul, Int.mul_assoc]
      rw [sm_congr fun y _ => e2 y, sm_add, sm_mul]
      have e3 := sm_part (a := q.2.1.toNat) (s := q.2.2.toNat) (n := H) (C := C x) (by omega)
      rw [← ey, ← es] at e3
      rw [e3]
    rw [sm_congr fun x _ => e1 x, sm_add, ← ih]
    rfl
/-- of a cut: what changes from the top to the bottom -/
theorem edge_cut {C : Nat → Nat → Int} {L : List Sq} {W H : Nat} (h : ∀ q ∈ L, okSq q ∧ q.1 + q.2.2 ≤ W ∧ q.2.1 + q.2.2 ≤ H) (hp : L.Pairwise fun a b => ¬ ovl a b) (ha : are L = W * H) : edgeSum C W L = sm W fun x => C x 0 - C x H := by
  rw [edge_cells h]
  refine sm_congr fun x hx => ?_
  rw [← sm_tele]
  exact sm_congr fun y hy => by rw [cn_one h hp ha hx hy, Int.one_mul]
theorem sm_iv_const {a s : Int} {n : Nat} {f : Nat → Int} {c : Int} (ha : 0 ≤ a) (hs : 0 ≤ s) (hn : a + s ≤ n) (hf : ∀ x : Nat, a ≤ x → (x : Int) < a + s → f x = c) : sm n (fun x => iv a s x * f x) = s * c := by
  rw [sm_congr (g := fun x => c * iv a s x) fun x _ => by
    unfold iv
    by_cases g : a ≤ (x : Int) ∧ (x : Int) < a + s
    · rw [if_pos g, hf x g.1 g.2]; omega
    · rw [if_neg g]; omega, sm_mul, sm_iv ha hs hn, Int.mul_comm]
end
end Go.Proofs.YtnhbkoeomefkdaaDoor.Ev.L

/- A cut's lines: what flows, and that all are joined. Mathematics alone. -/
set_option linter.unusedVariables false
set_option linter.unusedSimpArgs false
namespace Go.Proofs.YtnhbkoeomefkdaaDoor.Ev.L
open Go Go.Proofs.YtnhbkoeomefkdaaDoor.Ev
noncomputable section

def wrs (Ls O : List Sq) : List Wr := O.map fun q => (lnAt Ls q.1 q.2.1, lnAt Ls q.1 (q.2.1 + q.2.2))
/-- minus the height of a line -/
def xOf (Ls : List Sq) (z : Nat) : Int := match Ls[z]? with
  | some l => - l.1
  | none => 0
/-- on one line only -/
theorem on_one {Ls : List Sq} {i j : Nat} {l p : Sq} {x y : Int} (s : Sep Ls) (h1 : Ls[i]? = some l) (h2 : onL l x y) (h3 : Ls[j]? = some p) (h4 : onL p x y) : j = i := by
  obtain ⟨k, q, a1, a2, a3, a4, a5⟩ := on_line (y := y) (f := x) (t := x + 1) s (by omega) fun x' g1 g2 => ⟨l, List.mem_of_getElem? h1, h2.1, by have := h2.2.1; omega, by have := h2.2.2; omega⟩
  rw [a5 j p h3 h4.1 h4.2.1 h4.2.2, a5 i l h1 h2.1 h2.2.1 h2.2.2]
theorem lnAt_on {Ls : List Sq} {i : Nat} {l : Sq} {x y : Int} (s : Sep Ls) (h1 : Ls[i]? = some l) (h2 : onL l x y) : lnAt Ls x y = i := lnAt_of h1 h2 fun j p h3 h4 => on_one s h1 h2 h3 h4
/-- along an edge the line is the same -/
theorem lnAt_edge {Ls : List Sq} {q : Sq} {x y : Int} (s : Sep Ls) (ho : Onto Ls q y) (h1 : q.1 ≤ x) (h2 : x < q.1 + q.2.2) : lnAt Ls x y = lnAt Ls q.1 y := by
  obtain ⟨i, l, a1, a2, a3, a4⟩ := ho
  rw [lnAt_on s a1 a2, lnAt_on s a1 ⟨a2.1, by have := a2.2.1; omega, by omega⟩]
theorem lnAt_x {Ls : List Sq} {q : Sq} {y : Int} (s : Sep Ls) (ho : Onto Ls q y) : lnAt Ls q.1 y < Ls.length ∧ xOf Ls (lnAt Ls q.1 y) = - y := by
  obtain ⟨i, l, a1, a2, a3, a4⟩ := ho
  rw [lnAt_on s a1 a2]
  refine ⟨(List.getElem?_eq_some_iff.1 a1).1, ?_⟩
  unfold xOf
  rw [a1, ← a2.1]
theorem edge_wires {Ls : List Sq} {c : Nat → Int} {W : Nat} (s : Sep Ls) : ∀ {O : List Sq}, Onto2 Ls O → (∀ q ∈ O, okSq q ∧ q.1 + q.2.2 ≤ W) → edgeSum (fun x y => c (lnAt Ls x y)) W O = sumL (wrs Ls O) fun e => (c e.1 - c e.2) * (xOf Ls e.1 - xOf Ls e.2)
  | [], _, _ => rfl
  | q :: O, ho, h => by
    have ih := edge_wires (c := c) (W := W) s (O := O) (fun p hp => ho p (List.mem_cons_of_mem _ hp)) fun p hp => h p (List.mem_cons_of_mem _ hp)
    obtain ⟨⟨q1, q2, ⟨q3, q4⟩, q5, q6⟩, q7⟩ := h q List.mem_cons_self
    obtain ⟨o1, o2⟩ := ho q List.mem_cons_self
    have ey : ((q.2.1.toNat : Nat) : Int) = q.2.1 := by omega
    have es : ((q.2.1.toNat + q.2.2.toNat : Nat) : Int) = q.2.1 + q.2.2 := by omega
    have hw : wrs Ls (q :: O) = (lnAt Ls q.1 q.2.1, lnAt Ls q.1 (q.2.1 + q.2.2)) :: wrs Ls O := rfl
    rw [edgeSum, ih, hw, sumL_cons]
    congr 1
    rw [sm_iv_const (c := c (lnAt Ls q.1 q.2.1) - c (lnAt Ls q.1 (q.2.1 + q.2.2))) q3 (by omega) q7 fun x h1 h2 => by
      rw [ey, es, lnAt_edge s o1 h1 h2, lnAt_edge s o2 h1 h2]]
    simp only
    rw [(lnAt_x s o1).2, (lnAt_x s o2).2, Int.mul_comm]
    congr 1
    omega

/-- squares that cut a rectangle of W and H, and the lines of their edges -/
structure Net (O Ls : List Sq) (W H : Nat) : Prop where
  ok : ∀ q ∈ O, okSq q ∧ q.1 + q.2.2 ≤ W ∧ q.2.1 + q.2.2 ≤ H
  dis : O.Pairwise fun a b => ¬ ovl a b
  are : are O = W * H
  sep : Sep Ls
  cv : ∀ y x, cvr Ls y x ↔ cvr (edg O) y x
theorem Net.onto {O Ls : List Sq} {W H : Nat} (n : Net O Ls W H) : Onto2 Ls O := onto_of n.sep n.cv fun q hq => (n.ok q hq).1
/-- the top, or the bottom, is one line -/
theorem Net.top {O Ls : List Sq} {W H : Nat} (n : Net O Ls W H) (hW : 0 < W) (hH : 0 < H) {y : Int} (hy : y = 0 ∨ y = H) : ∃ (i : Nat), i < Ls.length ∧ xOf Ls i = - y ∧ ∀ x : Nat, x < W → lnAt Ls x y = i := by
  have hc : ∀ x : Int, 0 ≤ x → x < W → cvr Ls y x := fun x h1 h2 => by
    rw [n.cv]
    rcases hy with rfl | rfl
    · obtain ⟨q, hq, hi⟩ := covered (x := x.toNat) (y := 0) n.ok n.dis n.are (by omega) hH
      obtain ⟨⟨i1, i2⟩, i3, i4⟩ := hi
      obtain ⟨⟨q1, q2, ⟨q3, q4⟩, q5, q6⟩, q7, q8⟩ := n.ok q hq
      exact ⟨(q.2.1, q.1, q.1 + q.2.2), List.mem_flatMap.2 ⟨q, hq, by simp⟩, by show q.2.1 = 0; omega, by show q.1 ≤ x; omega, by show x < q.1 + q.2.2; omega⟩
    · obtain ⟨q, hq, hi⟩ := covered (x := x.toNat) (y := H - 1) n.ok n.dis n.are (by omega) (by omega)
      obtain ⟨⟨i1, i2⟩, i3, i4⟩ := hi
      obtain ⟨⟨q1, q2, ⟨q3, q4⟩, q5, q6⟩, q7, q8⟩ := n.ok q hq
      exact ⟨(q.2.1 + q.2.2, q.1, q.1 + q.2.2), List.mem_flatMap.2 ⟨q, hq, by simp⟩, by show q.2.1 + q.2.2 = (H : Int); omega, by show q.1 ≤ x; omega, by show x < q.1 + q.2.2; omega⟩
  obtain ⟨i, l, a1, a2, a3, a4, _⟩ := on_line (y := y) (f := 0) (t := W) n.sep (by omega) hc
  refine ⟨i, (List.getElem?_eq_some_iff.1 a1).1, by unfold xOf; rw [a1, ← a2], fun x hx => lnAt_on n.sep a1 ⟨a2, by omega, by omega⟩⟩
theorem Net.flows {O Ls : List Sq} {W H : Nat} (n : Net O Ls W H) (hW : 0 < W) (hH : 0 < H) : ∃ a b, a < Ls.length ∧ b < Ls.length ∧ xOf Ls a - xOf Ls b = H ∧ Flows (wrs Ls O) a b (xOf Ls) W ∧ ∀ x : Nat, x < W → lnAt Ls x 0 = a := by
  obtain ⟨a, a1, a2, a3⟩ := n.top hW hH (y := 0) (.inl rfl)
  obtain ⟨b, b1, b2, b3⟩ := n.top hW hH (y := H) (.inr rfl)
  refine ⟨a, b, a1, b1, by omega, fun c => ?_, a3⟩
  rw [← edge_wires n.sep n.onto fun q hq => ⟨(n.ok q hq).1, (n.ok q hq).2.1⟩, edge_cut n.ok n.dis n.are]
  rw [sm_congr (g := fun _ => c a - c b) fun x hx => by
    have e0 : lnAt Ls (x : Int) ((0 : Nat) : Int) = a := a3 x hx
    rw [e0, b3 x hx], sm_const]
theorem wrs_lt {O Ls : List Sq} {W H : Nat} (n : Net O Ls W H) : ∀ e ∈ wrs Ls O, e.1 < Ls.length ∧ e.2 < Ls.length := fun e he => by
  obtain ⟨q, hq, rfl⟩ := List.mem_map.1 he
  obtain ⟨o1, o2⟩ := n.onto q hq
  exact ⟨(lnAt_x n.sep o1).1, (lnAt_x n.sep o2).1⟩
/-- each line below the top has a square above it -/
theorem Net.above {O Ls : List Sq} {W H : Nat} (n : Net O Ls W H) {u : Nat} {l : Sq} (hu : Ls[u]? = some l) : (0 ≤ l.2.1 ∧ l.2.1 < W ∧ 0 ≤ l.1 ∧ l.1 ≤ H) ∧ (0 < l.1 → ∃ q ∈ O, q.2.1 + q.2.2 = l.1 ∧ q.1 ≤ l.2.1 ∧ l.2.1 < q.1 + q.2.2) := by
  have hp := n.sep.pos l (List.mem_of_getElem? hu)
  obtain ⟨e, he, h1, h2, h3⟩ := (n.cv l.1 l.2.1).1 ⟨l, List.mem_of_getElem? hu, rfl, Int.le_refl _, hp⟩
  obtain ⟨q, hq, he⟩ := List.mem_flatMap.1 he
  obtain ⟨⟨q1, q2, ⟨q3, q4⟩, q5, q6⟩, q7, q8⟩ := n.ok q hq
  simp only [List.mem_cons, List.not_mem_nil, or_false] at he
  rcases he with rfl | rfl
  · simp only at h1 h2 h3
    refine ⟨by omega, fun h0 => ?_⟩
    obtain ⟨p, hp2, hi⟩ := covered (x := l.2.1.toNat) (y := (l.1 - 1).toNat) n.ok n.dis n.are (by omega) (by omega)
    obtain ⟨⟨i1, i2⟩, i3, i4⟩ := hi
    refine ⟨p, hp2, ?_, by omega, by omega⟩
    refine Classical.byContradiction fun hne => ?_
    have hov : ovl p q := ⟨by omega, by omega, by omega, by omega⟩
    have hpq : p ≠ q := fun g => by subst g; omega
    obtain ⟨i, hi, rfl⟩ := List.mem_iff_getElem.1 hp2
    obtain ⟨j, hj, rfl⟩ := List.mem_iff_getElem.1 hq
    have hpw := List.pairwise_iff_getElem.1 n.dis
    rcases Nat.lt_trichotomy i j with g | g | g
    · exact hpw i j hi hj g hov
    · subst g; exact hpq rfl
    · exact hpw j i hj hi g (ovl_symm hov)
  · simp only at h1 h2 h3
    exact ⟨by omega, fun _ => ⟨q, hq, h1, h2, h3⟩⟩
theorem Net.joined {O Ls : List Sq} {W H a : Nat} (n : Net O Ls W H) (ha : ∀ x : Nat, x < W → lnAt Ls x 0 = a) : ∀ (k u : Nat) (l : Sq), Ls[u]? = some l → l.1.toNat = k → lab (wrs Ls O) u = lab (wrs Ls O) a := by
  intro k
  induction k using Nat.strongRecOn with
  | _ k ih =>
    intro u l hu hk
    obtain ⟨⟨p1, p2, p3, p4⟩, hab⟩ := n.above hu
    have hp := n.sep.pos l (List.mem_of_getElem? hu)
    by_cases h0 : l.1 = 0
    · have h1 := ha l.2.1.toNat (by omega)
      rw [show ((l.2.1.toNat : Nat) : Int) = l.2.1 by omega, lnAt_on n.sep hu ⟨h0, Int.le_refl _, hp⟩] at h1
      rw [h1]
    · obtain ⟨q, hq, h1, h2, h3⟩ := hab (by omega)
      obtain ⟨o1, o2⟩ := n.onto q hq
      have hbot : lnAt Ls q.1 (q.2.1 + q.2.2) = u := by
        rw [← lnAt_edge n.sep o2 h2 h3]
        exact lnAt_on n.sep hu ⟨h1.symm, Int.le_refl _, hp⟩
      have he := lab_edge (L := wrs Ls O) (e := (lnAt Ls q.1 q.2.1, lnAt Ls q.1 (q.2.1 + q.2.2))) (List.mem_map.2 ⟨q, hq, rfl⟩)
      simp only [hbot] at he
      rw [← he]
      obtain ⟨i, t, b1, b2, b3, b4⟩ := o1
      rw [lnAt_on n.sep b1 b2]
      have hqs := (n.ok q hq).1.1
      have hq0 := (n.ok q hq).1.2.2.2.1
      have key : ∀ A B C D : Int, A = B → B + C = D → 1 ≤ C → 0 ≤ B → A.toNat < D.toNat := fun A B C D g1 g2 g3 g4 => by omega
      exact ih t.1.toNat (hk ▸ key _ _ _ _ b2.1 h1 hqs hq0) i t b1 rfl
/-- H7, but for how trees are counted: a side is at most the number of trees -/
theorem Net.trees {O Ls : List Sq} {W H : Nat} (n : Net O Ls W H) (hW : 0 < W) (hH : 0 < H) (hg : Nat.gcd W H = 1) : ∀ q ∈ O, q.2.2 ≤ trees Ls.length (wrs Ls O) := fun q hq => by
  obtain ⟨a, b, ha, hb, hx, hf, hl⟩ := n.flows hW hH
  have hj := n.joined hl
  have hall : ∀ u, u < Ls.length → lab (wrs Ls O) u = lab (wrs Ls O) a := fun u hu => hj _ u Ls[u] (List.getElem?_eq_getElem hu) rfl
  have := wide_trees (wrs_lt n) ha hb (fun u hu => (hall u hu).trans (hall 0 (by omega)).symm) hf hx hg
  have := (n.ok q hq).2.1
  have := (n.ok q hq).1.2.2.1.1
  omega
end
end Go.Proofs.YtnhbkoeomefkdaaDoor.Ev.L

/- Sets of wires as numbers. Mathematics alone. -/
set_option linter.unusedVariables false
set_option linter.unusedSimpArgs false
namespace Go.Proofs.YtnhbkoeomefkdaaDoor.Ev.L
open Go Go.Proofs.YtnhbkoeomefkdaaDoor.Ev
noncomputable section

/-- the wires whose bits are set -/
def chosen : List Wr → Nat → List Wr
  | [], _ => []
  | e :: r, s => if s % 2 = 1 then e :: chosen r (s / 2) else chosen r (s / 2)
theorem sm_two {k : Nat} {f : Nat → Int} : sm (2 * k) f = sm k fun s => f (2 * s) + f (2 * s + 1) := by
  induction k with
  | zero => rfl
  | succ k ih =>
    rw [show 2 * (k + 1) = 2 * k + 1 + 1 by omega, sm, sm, ih, sm]
    omega
theorem sets_sum : ∀ {W : List Wr} {φ : List Wr → Int}, sm (2 ^ W.length) (fun s => φ (chosen W s)) = sumS W φ
  | [], φ => by
    show sm 1 _ = φ []
    rw [sm, sm, chosen]
    omega
  | e :: r, φ => by
    have h1 := sets_sum (W := r) (φ := φ)
    have h2 := sets_sum (W := r) (φ := fun f => φ (e :: f))
    rw [List.length_cons, Nat.pow_succ, Nat.mul_comm, sm_two]
    rw [sm_congr (g := fun s => φ (chosen r s) + φ (e :: chosen r s)) fun s _ => by
      rw [chosen, chosen, if_neg (show ¬ 2 * s % 2 = 1 by omega), if_pos (show (2 * s + 1) % 2 = 1 by omega), show 2 * s / 2 = s by omega, show (2 * s + 1) / 2 = s by omega], sm_add, h1, h2]
    rfl
theorem chosen_snoc : ∀ {W : List Wr} {i s : Nat} {e : Wr}, W[i]? = some e → chosen (W.take (i + 1)) s = chosen (W.take i) s ++ if s / 2 ^ i % 2 = 1 then [e] else []
  | a :: W, 0, s, e, h => by
    have : a = e := by simpa using h
    subst this
    simp only [List.take_zero, List.take_succ_cons, chosen, Nat.pow_zero, Nat.div_one, List.nil_append]
  | a :: W, i + 1, s, e, h => by
    have h' : W[i]? = some e := by simpa using h
    have ih := chosen_snoc (s := s / 2) h'
    rw [List.take_succ_cons, List.take_succ_cons, chosen, chosen, ih, Nat.div_div_eq_div_mul, show 2 * 2 ^ i = 2 ^ (i + 1) by rw [Nat.pow_succ, Nat.mul_comm]]
    split <;> rfl
theorem acyc_app {L M : List Wr} {f : Nat → Nat} : acyc (L ++ M) f ↔ acyc L f ∧ acyc M (labs L f) := by
  induction L generalizing f with
  | nil => simp [acyc, labs]
  | cons e L ih =>
    show (f e.1 ≠ f e.2 ∧ acyc (L ++ M) (mrg f e)) ↔ (f e.1 ≠ f e.2 ∧ acyc L (mrg f e)) ∧ _
    rw [ih, labs_cons, and_assoc]
theorem labs_app {L M : List Wr} {f : Nat → Nat} : labs (L ++ M) f = labs M (labs L f) := by
  unfold labs
  rw [List.foldl_append]
/-- the wires from i on -/
theorem chosen_pre {W : List Wr} {s : Nat} : ∀ {k i : Nat}, i + k = W.length → ∃ M, chosen W s = chosen (W.take i) s ++ M
  | 0, i, h => ⟨[], by rw [List.take_of_length_le (by omega), List.append_nil]⟩
  | k + 1, i, h => by
    obtain ⟨M, hM⟩ := chosen_pre (W := W) (s := s) (k := k) (i := i + 1) (by omega)
    obtain ⟨e, he⟩ : ∃ e, W[i]? = some e := ⟨_, List.getElem?_eq_getElem (show i < W.length by omega)⟩
    rw [chosen_snoc he, List.append_assoc] at hM
    exact ⟨_, hM⟩
/-- a ring that is met is a ring of the whole -/
theorem ring_met {W : List Wr} {s i : Nat} {e : Wr} (he : W[i]? = some e) (hb : s / 2 ^ i % 2 = 1) (hr : lab (chosen (W.take i) s) e.1 = lab (chosen (W.take i) s) e.2) : ¬ acyc (chosen W s) id := by
  intro h
  have hi : i < W.length := (List.getElem?_eq_some_iff.1 he).1
  obtain ⟨M, hM⟩ := chosen_pre (W := W) (s := s) (k := W.length - (i + 1)) (i := i + 1) (by omega)
  rw [hM, acyc_app, chosen_snoc he, if_pos hb, acyc_app] at h
  exact h.1.2.1 hr
end
end Go.Proofs.YtnhbkoeomefkdaaDoor.Ev.L

/- Trees counted one by one. Mathematics alone. -/
set_option linter.unusedVariables false
set_option linter.unusedSimpArgs false
namespace Go.Proofs.YtnhbkoeomefkdaaDoor.Ev.L
open Go Go.Proofs.YtnhbkoeomefkdaaDoor.Ev
noncomputable section

/-- trees among the first sets -/
def trN (n : Nat) (W : List Wr) (s : Nat) : Int := sm s fun t => if tree n (chosen W t) then 1 else 0
theorem trN_all {n : Nat} {W : List Wr} : trN n W (2 ^ W.length) = trees n W := sets_sum (φ := fun t => if tree n t then 1 else 0)
theorem trN_succ {n s : Nat} {W : List Wr} : trN n W (s + 1) = trN n W s + if tree n (chosen W s) then 1 else 0 := rfl
theorem trN_bd {n : Nat} {W : List Wr} : ∀ s, 0 ≤ trN n W s ∧ trN n W s ≤ s
  | 0 => ⟨Int.le_refl _, Int.le_refl _⟩
  | s + 1 => by
    have := trN_bd (n := n) (W := W) s
    rw [trN_succ]
    split <;> omega
theorem bit_eq {m i : Nat} : ((m >>> i &&& 1 : Nat) : Int) = ((m / 2 ^ i % 2 : Nat) : Int) := by
  rw [Nat.shiftRight_eq_div_pow, Nat.and_one_is_mod]
/-- one wire more -/
theorem acyc_snoc {W : List Wr} {i s : Nat} {e : Wr} (he : W[i]? = some e) (hb : s / 2 ^ i % 2 = 1) (ha : acyc (chosen (W.take i) s) id) (hr : lab (chosen (W.take i) s) e.1 ≠ lab (chosen (W.take i) s) e.2) :
    chosen (W.take (i + 1)) s = chosen (W.take i) s ++ [e] ∧ acyc (chosen (W.take (i + 1)) s) id ∧ lab (chosen (W.take (i + 1)) s) = mrg (lab (chosen (W.take i) s)) e := by
  have h1 : chosen (W.take (i + 1)) s = chosen (W.take i) s ++ [e] := by rw [chosen_snoc he, if_pos hb]
  refine ⟨h1, ?_, ?_⟩
  · rw [h1, acyc_app]
    exact ⟨ha, hr, trivial⟩
  · rw [h1]
    unfold lab
    rw [labs_app]
    rfl
theorem chosen_same {W : List Wr} {i s : Nat} {e : Wr} (he : W[i]? = some e) (hb : ¬ s / 2 ^ i % 2 = 1) : chosen (W.take (i + 1)) s = chosen (W.take i) s := by
  rw [chosen_snoc he, if_neg hb, List.append_nil]
theorem chosen_len {W : List Wr} : ∀ {s : Nat}, (chosen W s).length ≤ W.length := by
  induction W with
  | nil => intro s; exact Nat.le_refl _
  | cons e W ih =>
    intro s
    have := ih (s := s / 2)
    rw [chosen]
    split <;> simp only [List.length_cons] <;> omega
theorem Net.two {O Ls : List Sq} {W H : Nat} (n : Net O Ls W H) (hW : 0 < W) (hH : 0 < H) : 2 ≤ Ls.length := by
  obtain ⟨a, b, ha, hb, hx, _, _⟩ := n.flows hW hH
  have : a ≠ b := fun g => by subst g; omega
  omega
end
end Go.Proofs.YtnhbkoeomefkdaaDoor.Ev.L

