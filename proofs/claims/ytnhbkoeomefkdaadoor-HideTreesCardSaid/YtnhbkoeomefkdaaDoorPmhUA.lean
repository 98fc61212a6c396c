/- Horizontal lines: segments that touch are one; two ways to find them, and where an edge lies. Mathematics alone. (A line is y, from, to.) -/
import Derived.Test.YtnhbkoeomefkdaaDoorPmhQ1
import Derived.Test.YtnhbkoeomefkdaaDoorPmhA7
import Derived.Test.YtnhbkoeomefkdaaDoorPmCp
import Derived.Test.YtnhbkoeomefkdaaDoorPmhM3
set_option linter.unusedVariables false
set_option linter.unusedSimpArgs false
namespace Go.Proofs.YtnhbkoeomefkdaaDoor.Ev.L
open Go Go.Proofs.YtnhbkoeomefkdaaDoor.Ev
noncomputable section

/-- the place from x to x + 1 at the height y is covered -/
def cvr (L : List Sq) (y x : Int) : Prop := ∃ q ∈ L, q.1 = y ∧ q.2.1 ≤ x ∧ x < q.2.2
def sepR (a b : Sq) : Prop := a.1 < b.1 ∨ (a.1 = b.1 ∧ a.2.2 < b.2.1)
/-- in order, and none touches another -/
structure Sep (L : List Sq) : Prop where
  pw : L.Pairwise sepR
  pos : ∀ q ∈ L, q.2.1 < q.2.2

theorem cvr_cons {a : Sq} {L : List Sq} {y x : Int} : cvr (a :: L) y x ↔ (a.1 = y ∧ a.2.1 ≤ x ∧ x < a.2.2) ∨ cvr L y x := by
  simp [cvr]
theorem cvr_app {L M : List Sq} {y x : Int} : cvr (L ++ M) y x ↔ cvr L y x ∨ cvr M y x := by
  unfold cvr
  constructor
  · rintro ⟨q, hq, h⟩
    rcases List.mem_append.1 hq with g | g
    · exact .inl ⟨q, g, h⟩
    · exact .inr ⟨q, g, h⟩
  · rintro (⟨q, g, h⟩ | ⟨q, g, h⟩)
    · exact ⟨q, List.mem_append_left _ g, h⟩
    · exact ⟨q, List.mem_append_right _ g, h⟩
theorem cvr_nil {y x : Int} : ¬ cvr [] y x := fun ⟨q, hq, _⟩ => by cases hq
theorem Sep.tail {a : Sq} {L : List Sq} (s : Sep (a :: L)) : Sep L := ⟨(List.pairwise_cons.1 s.pw).2, fun q hq => s.pos q (List.mem_cons_of_mem _ hq)⟩
theorem Sep.head {a : Sq} {L : List Sq} (s : Sep (a :: L)) : ∀ q ∈ L, sepR a q := (List.pairwise_cons.1 s.pw).1
theorem Sep.nil : Sep [] := ⟨List.Pairwise.nil, fun q hq => by cases hq⟩
theorem Sep.one {a : Sq} (h : a.2.1 < a.2.2) : Sep [a] := ⟨List.pairwise_singleton _ _, fun q hq => by rw [List.mem_singleton.1 hq]; exact h⟩

/- the sweep over edges in order: the last line grows, or a new one begins -/
def leE (a b : Sq) : Prop := a.1 < b.1 ∨ (a.1 = b.1 ∧ a.2.1 ≤ b.2.1)
/-- the lines but the last, and the last, after one more edge -/
def swp1 (L : List Sq) (l e : Sq) : List Sq × Sq := if e.1 = l.1 ∧ e.2.1 ≤ l.2.2 then (L, (l.1, l.2.1, max l.2.2 e.2.2)) else (L ++ [l], e)
def sweep : List Sq → List Sq × Sq → List Sq × Sq
  | [], s => s
  | e :: r, s => sweep r (swp1 s.1 s.2 e)
theorem swp1_sep {L : List Sq} {l e : Sq} (s : Sep (L ++ [l])) (he : e.2.1 < e.2.2) (ho : leE l e) : Sep ((swp1 L l e).1 ++ [(swp1 L l e).2]) ∧ (∀ y x, cvr ((swp1 L l e).1 ++ [(swp1 L l e).2]) y x ↔ cvr (L ++ [l]) y x ∨ (e.1 = y ∧ e.2.1 ≤ x ∧ x < e.2.2)) ∧ ∀ e', leE e e' → leE (swp1 L l e).2 e' := by
  have hl := s.pos l (by simp)
  unfold swp1
  by_cases c : e.1 = l.1 ∧ e.2.1 ≤ l.2.2
  · rw [if_pos c]
    have pw := List.pairwise_append.1 s.pw
    refine ⟨⟨List.pairwise_append.2 ⟨pw.1, List.pairwise_singleton _ _, fun a ha b hb => ?_⟩, fun q hq => ?_⟩, fun y x => ?_, fun e' h' => ?_⟩
    · rw [List.mem_singleton.1 hb]
      exact pw.2.2 a ha l (by simp)
    · rcases List.mem_append.1 hq with g | g
      · exact s.pos q (List.mem_append_left _ g)
      · rw [List.mem_singleton.1 g]; simp only; omega
    · simp only [cvr_app, cvr_cons, cvr_nil, or_false]
      unfold leE at ho
      constructor
      · rintro (g | g)
        · exact .inl (.inl g)
        · by_cases k : x < l.2.2
          · exact .inl (.inr ⟨g.1, g.2.1, k⟩)
          · exact .inr (by omega)
      · rintro ((g | g) | g)
        · exact .inl g
        · exact .inr (by omega)
        · exact .inr (by omega)
    · unfold leE at ho h' ⊢
      simp only
      omega
  · rw [if_neg c]
    unfold leE at ho
    have hle : sepR l e := by unfold sepR; omega
    refine ⟨⟨List.pairwise_append.2 ⟨s.pw, List.pairwise_singleton _ _, fun a ha b hb => ?_⟩, fun q hq => ?_⟩, fun y x => ?_, fun e' h' => h'⟩
    · rw [List.mem_singleton.1 hb]
      show sepR a e
      rcases List.mem_append.1 ha with g | g
      · have h1 := (List.pairwise_append.1 s.pw).2.2 a g l (by simp)
        unfold sepR at h1 hle ⊢
        omega
      · rw [List.mem_singleton.1 g]; exact hle
    · rcases List.mem_append.1 hq with g | g
      · exact s.pos q g
      · rw [List.mem_singleton.1 g]; exact he
    · rw [cvr_app, cvr_cons]
      simp only [cvr_nil, or_false]
theorem sweep_sep : ∀ {E : List Sq} {s : List Sq × Sq}, Sep (s.1 ++ [s.2]) → (∀ e ∈ E, e.2.1 < e.2.2) → (∀ e ∈ E, leE s.2 e) → E.Pairwise leE → Sep ((sweep E s).1 ++ [(sweep E s).2]) ∧ ∀ y x, cvr ((sweep E s).1 ++ [(sweep E s).2]) y x ↔ cvr (s.1 ++ [s.2]) y x ∨ cvr E y x
  | [], s, h1, _, _, _ => ⟨h1, fun y x => by simp [sweep, cvr_nil]⟩
  | e :: E, s, h1, h2, h3, h4 => by
    obtain ⟨a1, a2, a3⟩ := swp1_sep h1 (h2 e (by simp)) (h3 e (by simp))
    have hp := List.pairwise_cons.1 h4
    obtain ⟨b1, b2⟩ := sweep_sep (E := E) a1 (fun q hq => h2 q (List.mem_cons_of_mem _ hq)) (fun q hq => a3 q (hp.1 q hq)) hp.2
    refine ⟨b1, fun y x => ?_⟩
    rw [sweep, b2, a2, cvr_cons, or_assoc]

/- one edge after the other: those that it touches are put into one -/
def tch (a n : Sq) : Prop := a.1 = n.1 ∧ a.2.1 ≤ n.2.2 ∧ n.2.1 ≤ a.2.2
instance (a n : Sq) : Decidable (tch a n) := by unfold tch; infer_instance
def grow (n a : Sq) : Sq := (n.1, min n.2.1 a.2.1, max n.2.2 a.2.2)
/-- an edge whose places are covered lies on one line, and on no other -/
theorem on_line {L : List Sq} {y f t : Int} (s : Sep L) (hft : f < t) (hc : ∀ x, f ≤ x → x < t → cvr L y x) : ∃ (i : Nat) (q : Sq), L[i]? = some q ∧ q.1 = y ∧ q.2.1 ≤ f ∧ t ≤ q.2.2 ∧ ∀ (j : Nat) (p : Sq), L[j]? = some p → p.1 = y → p.2.1 ≤ f → f < p.2.2 → j = i := by
  obtain ⟨q, hq, h1, h2, h3⟩ := hc f (Int.le_refl _) hft
  obtain ⟨i, hi, rfl⟩ := List.mem_iff_getElem.1 hq
  have apart : ∀ (j : Nat) (hj : j < L.length), j ≠ i → sepR L[i] L[j] ∨ sepR L[j] L[i] := fun j hj hne => by
    rcases Nat.lt_trichotomy i j with g | g | g
    · exact .inl (List.pairwise_iff_getElem.1 s.pw i j hi hj g)
    · exact absurd g.symm hne
    · exact .inr (List.pairwise_iff_getElem.1 s.pw j i hj hi g)
  refine ⟨i, L[i], List.getElem?_eq_getElem hi, h1, h2, ?_, fun j p hp g1 g2 g3 => ?_⟩
  · refine Classical.byContradiction fun hn => ?_
    obtain ⟨p, hp, k1, k2, k3⟩ := hc L[i].2.2 (by omega) (by omega)
    obtain ⟨j, hj, rfl⟩ := List.mem_iff_getElem.1 hp
    have hpi := s.pos _ hq
    have hpj := s.pos _ hp
    by_cases e : j = i
    · subst e; omega
    · have := apart j hj e
      unfold sepR at this
      omega
  · obtain ⟨hj, rfl⟩ := List.getElem?_eq_some_iff.1 hp
    refine Classical.byContradiction fun hne => ?_
    have := apart j hj hne
    unfold sepR at this
    omega
end
end Go.Proofs.YtnhbkoeomefkdaaDoor.Ev.L

/- Lines in memory; sorting edges; append in place. -/
set_option linter.unusedVariables false
set_option linter.unusedSimpArgs false
namespace Go.Proofs.YtnhbkoeomefkdaaDoor.Ev.L
open Go Go.Proofs Go.Proofs.YtnhbkoeomefkdaaDoor.Ev
noncomputable section

theorem zero100 : inf100.zero = some (sqv (0, 0, 0)) := by kernel_rfl
theorem build100 {G : Nat} {a b c : Int} : buildO (En G) 100 (some [(0, .int .i64 a), (1, .int .i64 b), (2, .int .i64 c)]) = some (sqv (a, b, c)) := by
  have hu : (En G).u 100 = _ := us100.trans Tryd.underlying100
  simp only [buildO, evBuild, i100, hu, zero100, places, i3, size3]
  rfl
/-- a struct of three numbers out of a slice, of any such type -/
theorem ln_at {G : Nat} {t : TypeId} {inf : TypeInfo} {B : Tr Blk} {lo hi n b off c i : Nat} {L : List Sq} {q : Sq} (ht : (En G).agg t = some true) (hi' : (En G).i t = some inf) (hsz : inf.size = 3) (s : SlV B lo hi 3 n (sqc L) (.slice (some ⟨b, off, none⟩) n c)) (hq : L[i]? = some q) (hn : n = L.length) :
    loadO (En G) t B (some (.pointer (some ⟨b, off + i * 3, none⟩))) = some (sqv q) := by
  have hi2 : i < n := by rw [hn]; exact (List.getElem?_eq_some_iff.1 hq).1
  have h1 := s.loadA (E := En G) ht hi' hsz hi2
  rw [sqc_drop hq] at h1
  exact h1
theorem ln_var {G : Nat} {t : TypeId} {inf : TypeInfo} {B : Tr Blk} {b : Nat} {q : Sq} (ht : (En G).agg t = some true) (hi' : (En G).i t = some inf) (hsz : inf.size = 3) (v : Var B b [.int .i64 q.1, .int .i64 q.2.1, .int .i64 q.2.2]) : loadO (En G) t B (some (.pointer (some ⟨b, 0, none⟩))) = some (sqv q) := v.loadA ht hi' (by rw [hsz]; rfl)

/- sorted edges -/
theorem orc65 {G : Nat} : (En G).orc.get 65 = some gLn := by rw [En_orc]; rfl
def untri : List Value → Sq
  | [.int .i64 a, .int .i64 b, .int .i64 c] => (a, b, c)
  | _ => (0, 0, 0)
theorem sortLn_calls {G lo hi n c b off : Nat} {L : List Sq} {h : H} (ht : TabsIn tabs h.blks) (hnl : n = L.length) (hv : SlV h.blks lo hi 3 n (sqc L) (.slice (some ⟨b, off, none⟩) n c)) (h0 : 0 < L.length) (hn : L.length < 1000000) (hG : G ≤ lo) :
    CallsE Tryd.prog (En G) 65 [.slice (some ⟨b, off, none⟩) n c, .func (.func 66) #[] #[]] h fun v h' => v = .tuple #[] ∧ Pres lo h h' ∧ h'.next = h.next ∧ ∃ S : List Sq, S.Perm L ∧ S.Pairwise leE ∧ SlV h'.blks lo hi 3 n (sqc S) (.slice (some ⟨b, off, none⟩) n c) := by
  cases hv with
  | mk hb hlo hhi hsz hL hc =>
    rename_i size cells
    subst hnl
    have hmem : ∀ x ∈ chunks 3 L.length (sqc L), ∃ q ∈ L, x = tri q.1 q.2.1 q.2.2 := fun x hx => by
      rw [sqc_chunks] at hx
      obtain ⟨q, hq, rfl⟩ := List.mem_map.1 hx
      exact ⟨q, hq, rfl⟩
    obtain ⟨hp, hs⟩ := pdqL_ok (k := 3) (n := L.length) (cells := sqc L) (cf := cfLn h) h0 (fun x hx => by
        obtain ⟨q, _, rfl⟩ := hmem x hx
        rw [cfLn_tri, lex2_neg]; omega) (fun x hx y hy z hz h1 h2 => by
        obtain ⟨q, _, rfl⟩ := hmem x hx
        obtain ⟨q', _, rfl⟩ := hmem y hy
        obtain ⟨q2, _, rfl⟩ := hmem z hz
        rw [cfLn_tri, lex2_neg] at *; omega) (fun x hx y hy z hz h1 h2 => by
        obtain ⟨q, _, rfl⟩ := hmem x hx
        obtain ⟨q', _, rfl⟩ := hmem y hy
        obtain ⟨q2, _, rfl⟩ := hmem z hz
        rw [cfLn_tri, lex2_neg] at *; omega)
    obtain ⟨D, hD⟩ : ∃ D, D = pdqL 3 L.length (sqc L) (cfLn h) := ⟨_, rfl⟩
    rw [← hD] at hp hs
    have hDm : ∀ x ∈ D, ∃ q ∈ L, x = tri q.1 q.2.1 q.2.2 := fun x hx => hmem x (hp.mem_iff.1 hx)
    have hDt : (D.map untri).map (fun q => tri q.1 q.2.1 q.2.2) = D := by
      rw [List.map_map]
      conv => rhs; rw [← List.map_id D]
      refine List.map_congr_left fun x hx => ?_
      obtain ⟨q, _, rfl⟩ := hDm x hx
      rfl
    have hSp : (D.map untri).Perm L := by
      have h1 := hp.map untri
      rw [sqc_chunks, List.map_map] at h1
      have h2 : L.map (untri ∘ fun q => tri q.1 q.2.1 q.2.2) = L := by
        conv => rhs; rw [← List.map_id L]
        exact List.map_congr_left fun x _ => rfl
      rwa [h2] at h1
    have hSl : (D.map untri).length = L.length := hSp.length_eq
    have hfl : D.flatten = sqc (D.map untri) := by
      conv => lhs; rw [← hDt]
      unfold sqc
      rw [List.flatMap_def]
    have hls : (sqc (D.map untri)).length = L.length * 3 := by rw [sqc_len, hSl]
    obtain ⟨h', hw, hst⟩ := wr_of (E := En G) (off := off) (vs := sqc (D.map untri)) hb (by rw [hls]; omega) (by rw [En_G]; omega) sqc_one
    refine CallsE_orw (g := gLn) (b := b) (off := off) (vs := sqc (D.map untri)) (En_kn (by decide)) orc65 (by rw [En_tabs]; exact ht) ?_ hw ⟨rfl, hst.pres hlo, hst.next, D.map untri, hSp, ?_, ?_⟩
    · have hrd : rd h b off (L.length * 3) = some (sqc L) := by
        simp only [rd, hb]
        rw [if_pos (by omega)]
        exact getCells_of _ _ _ _ sqc_len fun j hj => hc j (by omega)
      simp only [gLn, gSortP, hrd]
      rw [if_pos ⟨rfl, rfl, rfl, h0, by decide, sqc_len, by omega, fun x hx => by
        obtain ⟨q, _, rfl⟩ := hmem x hx
        exact ⟨_, _, _, rfl⟩, sqc_one⟩, ← hD, hfl]
    · rw [List.pairwise_map]
      refine hs.imp_of_mem fun {x y} hx hy hxy => ?_
      obtain ⟨q, _, rfl⟩ := hDm x hx
      obtain ⟨q', _, rfl⟩ := hDm y hy
      rw [cfLn_tri, lex2_pos] at hxy
      show leE q q'
      unfold leE
      omega
    · have := Sto.slv (j := 0) (n := L.length) (sz := 3) (lo := lo) (hi := hi) (c := c) (L := sqc L) hst (.mk hb hlo hhi hsz hL hc) (by rw [hls]; omega)
      simp only [List.take_zero, List.nil_append, Nat.zero_add, hls] at this
      rw [List.drop_eq_nil_of_le (by rw [sqc_len]; omega), List.append_nil] at this
      exact this

/- slices of slices, exactly -/
theorem slc_hi {E : Env} {B : Tr Blk} {n b off c m sz : Nat} {kd : IntKind} {t elem : TypeId} {inf : TypeInfo} {cells : Tr Value} {size : Nat} (hu : E.u t = some (.slice elem)) (hi' : E.i elem = some inf) (hsz : inf.size = sz) (hb : B.get b = some (.mk cells size sz)) (hm : m ≤ n) (hnc : n ≤ c) :
    sliceO E t B (some (.slice (some ⟨b, off, none⟩) n c)) (some []) (some [.int kd m]) = some (.slice (some ⟨b, off, none⟩) m c) := by
  show evSlice E ⟨B, 0, 0⟩ t (.slice (some ⟨b, off, none⟩) n c) none (some (.int kd (Int.ofNat m))) = _
  simp [evSlice, hu, hi', bound, hm, hb, hsz, forceN_eq]
theorem slc_lo {E : Env} {B : Tr Blk} {n b off c m sz : Nat} {kd : IntKind} {t elem : TypeId} {inf : TypeInfo} {cells : Tr Value} {size : Nat} (hu : E.u t = some (.slice elem)) (hi' : E.i elem = some inf) (hsz : inf.size = sz) (hb : B.get b = some (.mk cells size sz)) (hm : m ≤ n) (hnc : n ≤ c) :
    sliceO E t B (some (.slice (some ⟨b, off, none⟩) n c)) (some [.int kd m]) (some []) = some (.slice (some ⟨b, off + m * sz, none⟩) (n - m) (c - m)) := by
  show evSlice E ⟨B, 0, 0⟩ t (.slice (some ⟨b, off, none⟩) n c) (some (.int kd (Int.ofNat m))) none = _
  simp [evSlice, hu, hi', bound, hm, hb, hsz, forceN_eq]
theorem _root_.Go.Proofs.YtnhbkoeomefkdaaDoor.Ev.SlV.pre {B : Tr Blk} {lo hi sz n b off c m c' : Nat} {L : List Value} (s : SlV B lo hi sz n L (.slice (some ⟨b, off, none⟩) n c)) (hm : m ≤ n) (h0 : 0 < n) : SlV B lo hi sz m (L.take (m * sz)) (.slice (some ⟨b, off, none⟩) m c') := by
  cases s with
  | mk hb hlo hhi hs hL hc =>
    have hmul : m * sz ≤ n * sz := Nat.mul_le_mul_right _ hm
    exact .mk hb hlo hhi (by omega) (by simp; omega) fun i hi => by rw [hc i (by omega), List.getElem?_take, if_pos hi]
theorem sqc_set {M : List Sq} {e : Nat} {q q' : Sq} (h : M[e]? = some q) : (sqc M).take (e * 3) ++ tri q'.1 q'.2.1 q'.2.2 ++ (sqc M).drop (e * 3 + 3) = sqc (M.set e q') := by
  have he : e < M.length := (List.getElem?_eq_some_iff.1 h).1
  have hl : (sqc (M.take e)).length = e * 3 := by rw [sqc_len, List.length_take]; congr 1; omega
  have h1 : (sqc M).take (e * 3) = sqc (M.take e) := sqc_take
  have h2 : (sqc M).drop (e * 3 + 3) = sqc (M.drop (e + 1)) := by
    rw [show e * 3 + 3 = (e + 1) * 3 by omega]; exact sqc_dropn
  have h3 : M.set e q' = M.take e ++ q' :: M.drop (e + 1) := by rw [List.set_eq_take_append_cons_drop, if_pos he]
  rw [h1, h2, h3, sqc_app]
  have : sqc (q' :: M.drop (e + 1)) = tri q'.1 q'.2.1 q'.2.2 ++ sqc (M.drop (e + 1)) := rfl
  rw [this, List.append_assoc]
theorem sqc_setZ {M : List Sq} {e : Nat} {q : Sq} {z : Int} (h : M[e]? = some q) : (sqc M).take (e * 3 + 2) ++ [.int .i64 z] ++ (sqc M).drop (e * 3 + 2 + 1) = sqc (M.set e (q.1, q.2.1, z)) := by
  rw [← sqc_set h, sqc_get3 h]
  have he : e < M.length := (List.getElem?_eq_some_iff.1 h).1
  have hl : (sqc (M.take e)).length = e * 3 := by rw [sqc_len, List.length_take]; congr 1; omega
  have t3 : ∀ a b c : Int, tri a b c = [.int .i64 a, .int .i64 b, .int .i64 c] := fun _ _ _ => rfl
  generalize sqc (M.take e) = X at hl ⊢
  have d1 : X.take (e * 3 + 2) = X := List.take_of_length_le (by omega)
  have d2 : X.drop (e * 3 + 2 + 1) = [] := List.drop_of_length_le (by omega)
  have d3 : X.drop (e * 3 + 3) = [] := List.drop_of_length_le (by omega)
  have d0 : X.take (e * 3) = X := List.take_of_length_le (by omega)
  have n1 : e * 3 + 2 + 1 - e * 3 = 3 := by omega
  have n2 : e * 3 + 3 - e * 3 = 3 := by omega
  have n3 : e * 3 + 2 - e * 3 = 2 := by omega
  simp [List.take_append, List.drop_append, hl, t3, d0, d1, d2, d3, n1, n2, n3]
section
variable {P : Program} {E : Env} {nn : Nat} {ops : List Oper} {q : Bool} {r tl : List Oper} {k : List Frm} {α : Tr Value} {h : H} {R : Rt} {d : Nat} {ty : TypeId} {pos : String} {af : Array Edge}
theorem At_appendI [NoFz E] {x y : Operand} {ts tx elem elem' : TypeId} {inf : TypeInfo} {z : Value} {b off size lo2 hi2 sl m sc : Nat} {cells : Tr Value} {M : List Value} {v : Value} (hu : E.u ts = some (.slice elem)) (hux : E.u tx = some (.slice elem')) (hi' : E.i elem = some inf) (hz : inf.zero = some z)
    (hc : (okConst z && decide (z.cells.size = inf.size) && decide (0 < inf.size) && decide (inf.bytes < 65536)) = true) (hx : ev E h α x = some (.slice (some ⟨b, off, none⟩) sl sc)) (hb : h.blks.get b = some (.mk cells size inf.size)) (hcap : sl + m ≤ sc) (hsz : off + (sl + m) * inf.size ≤ size) (hG : E.G ≤ b) (hy : ev E h α y = some v) (hv : SlV h.blks lo2 hi2 inf.size m M v)
    (hm : 0 < m) (hsm : sl + m < 2147483648) (hone : M.all oneB = true) (hd : d < nn)
    (hk : ∀ h', Sto h h' b (off + sl * inf.size) M → At P E nn ops false r tl k (Tr.put α d (.slice (some ⟨b, off, none⟩) (sl + m) sc)) h' R) :
    At P E nn ops false (⟨some d, .call ⟨.builtin .append, #[x, y], #[ts, tx]⟩, ty, pos, af, none⟩ :: r) tl k α h R := by
  rw [At_heap rfl rfl]
  obtain ⟨e1, e2⟩ := srcCells_of hv hm
  simp only [Bool.and_eq_true, decide_eq_true_eq] at hc
  obtain ⟨⟨⟨c1, c2⟩, c3⟩, c4⟩ := hc
  have hcond : (okConst z && decide (z.cells.size = inf.size) && decide (0 < inf.size) && decide (inf.bytes < 65536) && decide (sl + m < 2147483648) && M.all oneB && decide (M.length = m * inf.size)) = true := by
    simp only [Bool.and_eq_true, decide_eq_true_eq]
    exact ⟨⟨⟨⟨⟨⟨c1, c2⟩, c3⟩, c4⟩, hsm⟩, hone⟩, hv.len⟩
  have hm0 : ¬ m = 0 := by omega
  have hml := hv.len
  rw [Nat.add_mul] at hsz
  obtain ⟨h1, hwr, hst⟩ := wr_of (E := E) (off := off + sl * inf.size) (vs := M) hb (by omega) hG hone
  have e : evOp P E nocall (st false h) α ⟨some d, .call ⟨.builtin .append, #[x, y], #[ts, tx]⟩, ty, pos, af, none⟩ = some (.slice (some ⟨b, off, none⟩) (sl + m) sc, h1) := by
    rw [evOp_eq]
    simp only [evOpS, evs, st, hx, hy]
    show evAppend E h ts tx (.slice (some ⟨b, off, none⟩) sl sc) v = _
    simp only [evAppend, hu, hux, e1, notInt_slice, hi', hm0, hz, e2, hb, if_true, hcap, hwr, forceN_eq]
    rw [if_pos hcond]
    simp
  rw [e, HeapO_some hd]
  exact ⟨fun e => (by cases e), hk h1 hst⟩
end
end
end Go.Proofs.YtnhbkoeomefkdaaDoor.Ev.L

/- The lines of a cut: edges in order, and the sweep over them, in place. -/
set_option linter.unusedVariables false
set_option linter.unusedSimpArgs false
namespace Go.Proofs.YtnhbkoeomefkdaaDoor.Ev.L
open Go Go.Proofs Go.Proofs.YtnhbkoeomefkdaaDoor.Ev
noncomputable section

/-- the upper and the lower edge of each square -/
def edg (O : List Sq) : List Sq := O.flatMap fun q => [(q.2.1, q.1, q.1 + q.2.2), (q.2.1 + q.2.2, q.1, q.1 + q.2.2)]
theorem edg_len : ∀ {O : List Sq}, (edg O).length = 2 * O.length
  | [] => rfl
  | q :: O => by
    have : edg (q :: O) = [(q.2.1, q.1, q.1 + q.2.2), (q.2.1 + q.2.2, q.1, q.1 + q.2.2)] ++ edg O := rfl
    rw [this, List.length_append, edg_len, List.length_cons]
    simp; omega
theorem edg_snoc {O : List Sq} {i : Nat} {q : Sq} (h : O[i]? = some q) : edg (O.take (i + 1)) = edg (O.take i) ++ [(q.2.1, q.1, q.1 + q.2.2), (q.2.1 + q.2.2, q.1, q.1 + q.2.2)] := by
  rw [take_snoc h]
  simp [edg]
theorem edg_pos {O : List Sq} (hok : ∀ q ∈ O, okSq q) : ∀ e ∈ edg O, e.2.1 < e.2.2 := fun e he => by
  obtain ⟨q, hq, h⟩ := List.mem_flatMap.1 he
  have := (hok q hq).1
  simp only [List.mem_cons, List.not_mem_nil, or_false] at h
  rcases h with rfl | rfl <;> simp only <;> omega
theorem sweep_snoc : ∀ {E : List Sq} {s : List Sq × Sq} {e : Sq}, sweep (E ++ [e]) s = swp1 (sweep E s).1 (sweep E s).2 e
  | [], s, e => rfl
  | a :: E, s, e => by
    rw [List.cons_append, sweep, sweep_snoc]
    rfl
theorem take_set1 {C : List Sq} {k : Nat} {e : Sq} (hk : k < C.length) : (C.set k e).take (k + 1) = C.take k ++ [e] := by
  rw [List.set_eq_take_append_cons_drop, if_pos hk]
  have hl : (C.take k).length = k := by rw [List.length_take]; omega
  rw [List.take_append, List.take_of_length_le (by omega), hl, show k + 1 - k = 1 by omega]
  rfl

theorem drop1 (C : List Sq) {i : Nat} : (C.drop (i + 1)).drop 1 = C.drop (i + 1 + 1) := by rw [List.drop_drop]

set_option maxRecDepth 100000 in
set_option maxHeartbeats 64000000 in
theorem lines_spec {G lo hi : Nat} {O : List Sq} {A : Option Addr} {W Ht : Int} {h : H} (hG : G ≤ h.next) (hG3 : 3 ≤ G) (hhi : hi ≤ h.next) (ht : TabsIn tabs h.blks) (hv : SlV h.blks lo hi 3 O.length (sqc O) (.slice A O.length O.length)) (h0 : 0 < O.length) (hl : O.length ≤ 24) (hok : ∀ q ∈ O, okSq q) :
    Spec Tryd.prog (En G) 45 [cutV A O.length W Ht] h fun v h' => ∃ (Ls : List Sq) (B : Option Addr) (c : Nat), v = .slice B Ls.length c ∧ SlV h'.blks h.next h'.next 3 Ls.length (sqc Ls) (.slice B Ls.length c) ∧ Sep Ls ∧ (∀ y x, cvr Ls y x ↔ cvr (edg O) y x) ∧ Ls.length ≤ 2 * O.length := by
  refine CallsE_enter (En_known (by decide)) (En_f.trans Tryd.func45) rfl ⟨Nat.le_of_ble_eq_true rfl, by decide⟩ fun Q' hQ' => ?_
  simp only [Tryd.f45, go_sem,reduceIte,Nat.reduceEqDiff,Nat.reduceLT]
  refine At_box (v := cutV A O.length W Ht) (by (simp only [go_sem,reduceIte,Nat.reduceEqDiff,Nat.reduceLT]) <;> rfl) (by omega) fun h1 hn1 => ?_
  have v1 := hn1.var
  rw [cutV_cells] at v1
  have n1 := hn1.next
  have pr1 : Pres h.next h h1 := hn1.pres (Nat.le_refl _)
  have c0 : loadv h1.blks h.next 0 = some (.slice A O.length O.length) := v1.load (i := 0) (by simp only [List.length_cons, List.length_nil]; omega)
  simp (disch := omega) only [go_sem,reduceIte,Nat.reduceEqDiff,Nat.reduceLT, fld64_0, Nat.zero_add, load22, c0, len22]
  refine WK_loopN (fun j α h2 => ∃ (i : Nat) (B : Option Addr), i + j = O.length ∧ Pres h.next h h2 ∧ SlV h2.blks h.next h2.next 3 (edg (O.take i)).length (sqc (edg (O.take i))) (.slice B (edg (O.take i)).length (edg (O.take i)).length) ∧ α.get 3 = some (.slice B (edg (O.take i)).length (edg (O.take i)).length) ∧ α.get 12 = some (.slice A O.length O.length) ∧ α.get 13 = some (.int .i64 (O.length : Int)) ∧ α.get 14 = some (.int .i64 (i : Int))) O.length
    ⟨0, none, by omega, pr1, .nil rfl rfl, by (simp only [go_sem,reduceIte,Nat.reduceEqDiff,Nat.reduceLT]) <;> rfl, by simp only [go_sem,reduceIte,Nat.reduceEqDiff,Nat.reduceLT], by simp only [go_sem,reduceIte,Nat.reduceEqDiff,Nat.reduceLT], by (simp only [go_sem,reduceIte,Nat.reduceEqDiff,Nat.reduceLT]) <;> rfl⟩ (by omega) ?_
  rintro J j α h2 ⟨i, B, hij, pr, hs, e3, e12, e13, e14⟩ hJ
  have n2 := pr.next
  have hel := edg_len (O := O.take i)
  rw [List.length_take, Nat.min_eq_left (show i ≤ O.length by omega)] at hel
  by_cases hlt : (i : Int) < (O.length : Int)
  · obtain ⟨q, hq⟩ : ∃ q, O[i]? = some q := ⟨_, List.getElem?_eq_getElem (show i < O.length by omega)⟩
    obtain ⟨qa1, qa2, ⟨qa3, qa4⟩, qa5, qa6⟩ := hok q (List.mem_of_getElem? hq)
    have hv2 := hv.mono (B' := h2.blks) fun b _ hb => pr.get b (by omega)
    obtain ⟨bA, oA, rfl, _, _, _⟩ := hv2.at_ h0
    obtain ⟨la, _, _, _⟩ := hv2.sq_at (G := G) hq rfl
    simp (maxSteps := 3000000) (disch := omega) only [go_sem,reduceIte,Nat.reduceEqDiff,Nat.reduceLT, e3, e12, e13, e14, hlt, idxA22, Int.toNat_natCast, la]
    refine At_alloc i61 Go.Proofs.YtnhbkoeomefkdaaDoor.Ev.zero61 rfl (by omega) fun h3 hn3 => ?_
    have n3 := hn3.next
    have w3 := hn3.var
    rw [sqv_cells] at w3
    have p3 : Pres h2.next h2 h3 := hn3.pres (Nat.le_refl _)
    try simp only [go_sem,reduceIte,Nat.reduceEqDiff,Nat.reduceLT]
    refine At_storeV (v := sqv q) i61 (by simp only [go_sem,reduceIte,Nat.reduceEqDiff,Nat.reduceLT]) (by (simp only [go_sem,reduceIte,Nat.reduceEqDiff,Nat.reduceLT]) <;> rfl) w3 (by rw [size61]; rfl) (by rw [size61]; rfl) rfl (by rw [En_G]; omega) fun h4 hs4 v4 => ?_
    rw [sqv_cells] at v4
    have p4 : Pres h2.next h2 h4 := p3.trans (hs4.pres (Nat.le_refl _))
    have n4 : h4.next = h3.next := hs4.next
    obtain ⟨q0, q1, q2⟩ := v4.sq
    simp (maxSteps := 3000000) (disch := omega) only [go_sem,reduceIte,Nat.reduceEqDiff,Nat.reduceLT, e3, e12, e13, e14, fld61_0, fld61_1, fld61_2, Nat.zero_add, load3, q0, q1, q2, wrap_i64, build100]
    refine At_lit (vs := [(0, sqv (q.2.1, q.1, q.1 + q.2.2)), (1, sqv (q.2.1 + q.2.2, q.1, q.1 + q.2.2))]) (cs := #[.int .i64 q.2.1, .int .i64 q.1, .int .i64 (q.1 + q.2.2), .int .i64 (q.2.1 + q.2.2), .int .i64 q.1, .int .i64 (q.1 + q.2.2)]) u77 i100 zero100 (by rw [size100]; rfl) (by simp only [go_sem,reduceIte,Nat.reduceEqDiff,Nat.reduceLT]) (by rw [size100]; rfl) (by omega) fun h5 hn5 => ?_
    rw [size100] at hn5
    have n5 := hn5.next
    have hsx : SlV h5.blks h4.next h5.next 3 2 (sqc [(q.2.1, q.1, q.1 + q.2.2), (q.2.1 + q.2.2, q.1, q.1 + q.2.2)]) (.slice (some ⟨h4.next, 0, none⟩) 2 2) := hn5.slv rfl
    have hs5 := hs.mono (B' := h5.blks) fun b _ hb => by rw [hn5.get, if_neg (by omega), p4.get b (by omega)]
    try simp only [go_sem,reduceIte,Nat.reduceEqDiff,Nat.reduceLT]
    refine At_append2 (lo := h.next) (hi := h2.next) (A := B) (sl := (edg (O.take i)).length) (m := 2) (L := sqc (edg (O.take i))) (M := sqc [(q.2.1, q.1, q.1 + q.2.2), (q.2.1 + q.2.2, q.1, q.1 + q.2.2)]) (v := .slice (some ⟨h4.next, 0, none⟩) 2 2) u77 u77 i100 zero100 (by rw [size100, bytes100]; rfl) (by simp only [go_sem,reduceIte,Nat.reduceEqDiff,Nat.reduceLT, e3]) (by rw [size100]; exact hs5) (by omega) (by rw [En_G]; omega) (by omega) (by simp only [go_sem,reduceIte,Nat.reduceEqDiff,Nat.reduceLT]) (by rw [size100]; exact hsx) (by omega) sqc_one (by omega) fun B6 h6 pr6 hs6 => ?_
    rw [size100, ← sqc_app, ← edg_snoc hq] at hs6
    have hl6 : (edg (O.take i)).length + 2 = (edg (O.take (i + 1))).length := by rw [edg_snoc hq, List.length_append]; rfl
    rw [hl6] at hs6 ⊢
    have n6 := pr6.next
    simp (disch := omega) only [go_sem,reduceIte,Nat.reduceEqDiff,Nat.reduceLT, e12, e13, e14, wrap_i64]
    exact hJ (j - 1) _ _ (by omega) ⟨i + 1, B6, by omega, pr.trans ((p4.le (by omega)).trans ((hn5.pres (by omega)).trans pr6)), hs6, by simp only [go_sem,reduceIte,Nat.reduceEqDiff,Nat.reduceLT], by simp only [go_sem,reduceIte,Nat.reduceEqDiff,Nat.reduceLT, e12], by simp only [go_sem,reduceIte,Nat.reduceEqDiff,Nat.reduceLT, e13], by (simp only [go_sem,reduceIte,Nat.reduceEqDiff,Nat.reduceLT]) <;> rfl⟩
  · obtain rfl : i = O.length := by omega
    rw [List.take_length] at hs e3 hel
    have ht2 := ht.le pr (by omega)
    obtain ⟨b, off, rfl, hb1, hb2, _⟩ := hs.at_ (by omega)
    simp (maxSteps := 3000000) (disch := omega) only [go_sem,reduceIte,Nat.reduceEqDiff,Nat.reduceLT, e3, e12, e13, e14, hlt]
    refine CallO_any (sortLn_calls ht2 rfl hs (by omega) (by omega) hG) (by omega) fun u h3 ⟨hu, pr3, n3, S, hSp, hSs, hs3⟩ => ?_
    subst hu
    have hSl := hSp.length_eq
    obtain ⟨N, hN⟩ : ∃ N, N = (edg O).length := ⟨_, rfl⟩
    rw [← hN] at hs3 hSl e3 hel ⊢
    obtain ⟨cells, size, gb, gb1, gb2, gsz, gL0, gc0⟩ := sinv hs3
    have s1 : sliceO (En G) 77 h3.blks (some (.slice (some ⟨b, off, none⟩) N N)) (some []) (some [.int .i64 1]) = some (.slice (some ⟨b, off, none⟩) 1 N) := slc_hi (m := 1) u77 i100 size100 gb (by omega) (Nat.le_refl _)
    have s2 : sliceO (En G) 77 h3.blks (some (.slice (some ⟨b, off, none⟩) N N)) (some [.int .i64 1]) (some []) = some (.slice (some ⟨b, off + 3, none⟩) (N - 1) (N - 1)) := slc_lo (m := 1) u77 i100 size100 gb (by omega) (Nat.le_refl _)
    obtain ⟨s0, hs0⟩ : ∃ s0, S[0]? = some s0 := ⟨_, List.getElem?_eq_getElem (show 0 < S.length by omega)⟩
    have hS0 : S = s0 :: S.drop 1 := by
      obtain ⟨g, rfl⟩ := List.getElem?_eq_some_iff.1 hs0
      exact List.drop_eq_getElem_cons g
    simp (maxSteps := 3000000) (disch := omega) only [go_sem,reduceIte,Nat.reduceEqDiff,Nat.reduceLT, e3, Option.toList_some, Option.toList_none, s1, s2, len77]
    refine WK_loopN (fun j α h4 => ∃ (i : Nat) (C L : List Sq) (l : Sq), i + j = N - 1 ∧ C.length = N ∧ sweep ((S.drop 1).take i) ([], s0) = (L, l) ∧ L.length ≤ i ∧ C.take (L.length + 1) = L ++ [l] ∧ C.drop (i + 1) = S.drop (i + 1) ∧ Pres h.next h h4 ∧ h3.next ≤ h4.next ∧ SlV h4.blks h.next h3.next 3 N (sqc C) (.slice (some ⟨b, off, none⟩) N N) ∧
        α.get 7 = some (.slice (some ⟨b, off, none⟩) (L.length + 1) N) ∧ α.get 47 = some (.slice (some ⟨b, off + 3, none⟩) (N - 1) (N - 1)) ∧ α.get 48 = some (.int .i64 ((N - 1 : Nat) : Int)) ∧ α.get 49 = some (.int .i64 (i : Int))) (N - 1)
      ⟨0, S, [], s0, by omega, hSl, rfl, Nat.le_refl _, by (rw [hS0]) <;> rfl, rfl, pr.trans pr3, Nat.le_refl _, hs3.wide (Nat.le_refl _) (by omega), by (simp only [go_sem,reduceIte,Nat.reduceEqDiff,Nat.reduceLT]) <;> rfl, by simp only [go_sem,reduceIte,Nat.reduceEqDiff,Nat.reduceLT], by simp only [go_sem,reduceIte,Nat.reduceEqDiff,Nat.reduceLT], by (simp only [go_sem,reduceIte,Nat.reduceEqDiff,Nat.reduceLT]) <;> rfl⟩ (by omega) ?_
    clear hs hJ e3 e12 e13 e14 s1 s2
    rintro J j α h4 ⟨i, C, L, l, hij, hC, hsw, hLi, hCt, hCd, pr4, nx4, hs4, e7, e47, e48, e49⟩ hJ
    by_cases hlt2 : (i : Int) < ((N - 1 : Nat) : Int)
    · obtain ⟨e, he⟩ : ∃ e, S[i + 1]? = some e := ⟨_, List.getElem?_eq_getElem (show i + 1 < S.length by omega)⟩
      have heC : C[i + 1]? = some e := by
        have h1 : (C.drop (i + 1))[0]? = C[i + 1]? := by (rw [List.getElem?_drop]) <;> rfl
        rw [← h1, hCd, List.getElem?_drop]
        exact he
      have hlC : C[L.length]? = some l := by
        have h1 : (C.take (L.length + 1))[L.length]? = C[L.length]? := by rw [List.getElem?_take, if_pos (by omega)]
        rw [← h1, hCt]
        simp
      have hCL : C.take L.length = L := by
        have h1 : (C.take (L.length + 1)).take L.length = C.take L.length := by rw [List.take_take, Nat.min_eq_left (by omega)]
        rw [← h1, hCt]
        simp
      have hnext : sweep ((S.drop 1).take (i + 1)) ([], s0) = swp1 L l e := by
        have h1 : (S.drop 1)[i]? = some e := by rw [List.getElem?_drop, Nat.add_comm]; exact he
        rw [take_snoc h1, sweep_snoc, hsw]
      have la : loadO (En G) 100 h4.blks (some (.pointer (some ⟨b, off + 3 + i * 3, none⟩))) = some (sqv e) := by
        have := ln_at (G := G) agg100 i100 size100 hs4 heC hC.symm
        rwa [show off + (i + 1) * 3 = off + 3 + i * 3 by omega] at this
      simp (maxSteps := 3000000) (disch := omega) only [go_sem,reduceIte,Nat.reduceEqDiff,Nat.reduceLT, e7, e47, e48, e49, hlt2, idxA77, Int.toNat_natCast, la]
      refine At_alloc i100 zero100 rfl (by omega) fun h5 hn5 => ?_
      have n5 := hn5.next
      have w5 := hn5.var
      rw [sqv_cells] at w5
      have p5 : Pres h4.next h4 h5 := hn5.pres (Nat.le_refl _)
      try simp only [go_sem,reduceIte,Nat.reduceEqDiff,Nat.reduceLT]
      refine At_storeV (v := sqv e) i100 (by simp only [go_sem,reduceIte,Nat.reduceEqDiff,Nat.reduceLT]) (by (simp only [go_sem,reduceIte,Nat.reduceEqDiff,Nat.reduceLT]) <;> rfl) w5 (by rw [size100]; rfl) (by rw [size100]; rfl) rfl (by rw [En_G]; omega) fun h6 hs6 v6 => ?_
      rw [sqv_cells] at v6
      have p6 : Pres h4.next h4 h6 := p5.trans (hs6.pres (Nat.le_refl _))
      have n6 : h6.next = h5.next := hs6.next
      obtain ⟨q0, q1, q2⟩ := v6.sq
      have hs46 := hs4.mono (B' := h6.blks) fun b _ hb => p6.get b (by omega)
      obtain ⟨_, l0, l1, l2⟩ := hs46.sq_at (G := G) hlC hC.symm
      have ek : ((L.length + 1 : Nat) : Int) - 1 = ((L.length : Nat) : Int) := by omega
      have pr6 : Pres h.next h h6 := pr4.trans (p6.le (by omega))
      by_cases cy : e.1 = l.1
      · have dy : decide (e.1 = l.1) = true := decide_eq_true cy
        by_cases cf : e.2.1 ≤ l.2.2
        · have hsw1 : swp1 L l e = (L, (l.1, l.2.1, max l.2.2 e.2.2)) := if_pos ⟨cy, cf⟩
          simp (maxSteps := 3000000) (disch := omega) only [go_sem,reduceIte,Nat.reduceEqDiff,Nat.reduceLT, e7, e47, e48, e49, len77, wrap_i64, ek, idxA77, Int.toNat_natCast]
          refine WK_regionT 14 ⟨by kernel_rfl, by kernel_rfl, by kernel_rfl⟩ ?_
          simp (maxSteps := 3000000) (disch := omega) only [go_sem,reduceIte,Nat.reduceEqDiff,Nat.reduceLT, e7, e47, e48, e49, nilO, Nat.add_zero, fld100_0, fld100_1, fld100_2, Nat.zero_add, load3, q0, q1, q2, l0, l1, l2, dy, cf]
          refine WK_regionT 7 ⟨by kernel_rfl, by kernel_rfl, by kernel_rfl⟩ ?_
          simp (maxSteps := 3000000) (disch := omega) only [go_sem,reduceIte,Nat.reduceEqDiff,Nat.reduceLT, e7, e47, e48, e49, nilO, Nat.add_zero, fld100_0, fld100_1, fld100_2, Nat.zero_add, load3, q0, q1, q2, l0, l1, l2]
          obtain ⟨cells, size, gb, glo, ghi, gsz, gL, gc⟩ := sinv hs46
          refine At_store (inf := inf3) (b := b) (off := off + (L.length * 3 + 2)) (v := .int .i64 (max l.2.2 e.2.2)) i3 (by rw [show off + (L.length * 3 + 2) = off + L.length * 3 + 2 by omega]; simp only [go_sem,reduceIte,Nat.reduceEqDiff,Nat.reduceLT]) (by simp only [go_sem,reduceIte,Nat.reduceEqDiff,Nat.reduceLT]) (by rw [size3]; rfl) rfl gb (by rw [size3]; omega) (by rw [En_G]; omega) fun h7 hs7 => ?_
          have hsl := hs7.slv (c := N) hs46 (by show L.length * 3 + 2 + 1 ≤ N * 3; omega)
          have hce : (sqc C).take (L.length * 3 + 2) ++ (Value.int .i64 (max l.2.2 e.2.2)).cells.toList ++ (sqc C).drop (L.length * 3 + 2 + (Value.int .i64 (max l.2.2 e.2.2)).cells.toList.length) = sqc (C.set L.length (l.1, l.2.1, max l.2.2 e.2.2)) := sqc_setZ hlC
          rw [hce] at hsl
          have n7 := hs7.next
          simp (disch := omega) only [go_sem,reduceIte,Nat.reduceEqDiff,Nat.reduceLT, e7, e47, e48, e49, wrap_i64]
          exact hJ (j - 1) _ _ (by omega) ⟨i + 1, C.set L.length (l.1, l.2.1, max l.2.2 e.2.2), L, (l.1, l.2.1, max l.2.2 e.2.2), by omega, by rw [List.length_set, hC], hnext.trans hsw1, by omega, by rw [take_set1 (by omega), hCL], by
            rw [List.drop_set_of_lt (by omega), ← drop1 C, hCd, drop1 S], pr6.trans (hs7.pres (by omega)), by omega, hsl, by simp only [go_sem,reduceIte,Nat.reduceEqDiff,Nat.reduceLT, e7], by simp only [go_sem,reduceIte,Nat.reduceEqDiff,Nat.reduceLT, e47], by simp only [go_sem,reduceIte,Nat.reduceEqDiff,Nat.reduceLT, e48], by (simp only [go_sem,reduceIte,Nat.reduceEqDiff,Nat.reduceLT]) <;> rfl⟩
        · have hsw1 : swp1 L l e = (L ++ [l], e) := if_neg fun c => cf c.2
          simp (maxSteps := 3000000) (disch := omega) only [go_sem,reduceIte,Nat.reduceEqDiff,Nat.reduceLT, e7, e47, e48, e49, len77, wrap_i64, ek, idxA77, Int.toNat_natCast]
          refine WK_regionT 14 ⟨by kernel_rfl, by kernel_rfl, by kernel_rfl⟩ ?_
          simp (maxSteps := 3000000) (disch := omega) only [go_sem,reduceIte,Nat.reduceEqDiff,Nat.reduceLT, e7, e47, e48, e49, nilO, Nat.add_zero, fld100_0, fld100_1, fld100_2, Nat.zero_add, load3, q0, q1, q2, l0, l1, l2, dy, cf]
          have lsv := ln_var (G := G) agg100 i100 size100 v6
          simp (maxSteps := 3000000) (disch := omega) only [go_sem,reduceIte,Nat.reduceEqDiff,Nat.reduceLT, e7, e47, e48, e49, lsv]
          refine At_lit (vs := [(0, sqv e)]) (cs := #[.int .i64 e.1, .int .i64 e.2.1, .int .i64 e.2.2]) u77 i100 zero100 (by rw [size100]; rfl) (by simp only [go_sem,reduceIte,Nat.reduceEqDiff,Nat.reduceLT]) (by rw [size100]; rfl) (by omega) fun h7 hn7 => ?_
          rw [size100] at hn7
          have n7 := hn7.next
          have hsx : SlV h7.blks h6.next h7.next 3 1 (sqc [e]) (.slice (some ⟨h6.next, 0, none⟩) 1 1) := hn7.slv rfl
          have hs47 := hs46.mono (B' := h7.blks) fun b _ hb => by rw [hn7.get, if_neg (by omega)]
          obtain ⟨cells, size, gb, glo, ghi, gsz, gL, gc⟩ := sinv hs47
          try simp only [go_sem,reduceIte,Nat.reduceEqDiff,Nat.reduceLT]
          refine At_appendI (b := b) (off := off) (lo2 := h6.next) (hi2 := h7.next) (sl := L.length + 1) (m := 1) (sc := N) (M := sqc [e]) (v := .slice (some ⟨h6.next, 0, none⟩) 1 1) u77 u77 i100 zero100 (by rw [size100, bytes100]; rfl) (by simp only [go_sem,reduceIte,Nat.reduceEqDiff,Nat.reduceLT, e7]) (by rw [size100]; exact gb) (by omega) (by rw [size100]; omega) (by rw [En_G]; omega) (by simp only [go_sem,reduceIte,Nat.reduceEqDiff,Nat.reduceLT]) (by rw [size100]; exact hsx) (by omega) (by omega) sqc_one (by omega) fun h8 hs8 => ?_
          rw [size100] at hs8
          have hsl := hs8.slv (c := N) hs47 (by show (L.length + 1) * 3 + 3 ≤ N * 3; omega)
          obtain ⟨ol, hol⟩ : ∃ ol, C[L.length + 1]? = some ol := ⟨_, List.getElem?_eq_getElem (show L.length + 1 < C.length by omega)⟩
          have hce : (sqc C).take ((L.length + 1) * 3) ++ sqc [e] ++ (sqc C).drop ((L.length + 1) * 3 + (sqc [e]).length) = sqc (C.set (L.length + 1) e) := sqc_set hol
          rw [hce] at hsl
          have n8 := hs8.next
          simp (disch := omega) only [go_sem,reduceIte,Nat.reduceEqDiff,Nat.reduceLT, e47, e48, e49, wrap_i64]
          exact hJ (j - 1) _ _ (by omega) ⟨i + 1, C.set (L.length + 1) e, L ++ [l], e, by omega, by rw [List.length_set, hC], hnext.trans hsw1, by rw [List.length_append, List.length_singleton]; omega, by
            rw [List.length_append, List.length_singleton, take_set1 (by omega), hCt], by
            rw [List.drop_set_of_lt (by omega), ← drop1 C, hCd, drop1 S], pr6.trans ((hn7.pres (by omega)).trans (hs8.pres (by omega))), by omega, hsl, by (simp only [go_sem,reduceIte,Nat.reduceEqDiff,Nat.reduceLT, List.length_append, List.length_singleton]) <;> rfl, by simp only [go_sem,reduceIte,Nat.reduceEqDiff,Nat.reduceLT, e47], by simp only [go_sem,reduceIte,Nat.reduceEqDiff,Nat.reduceLT, e48], by (simp only [go_sem,reduceIte,Nat.reduceEqDiff,Nat.reduceLT]) <;> rfl⟩
      · have hsw1 : swp1 L l e = (L ++ [l], e) := if_neg fun c => cy c.1
        have dy : decide (e.1 = l.1) = false := decide_eq_false cy
        simp (maxSteps := 3000000) (disch := omega) only [go_sem,reduceIte,Nat.reduceEqDiff,Nat.reduceLT, e7, e47, e48, e49, len77, wrap_i64, ek, idxA77, Int.toNat_natCast]
        refine WK_regionT 14 ⟨by kernel_rfl, by kernel_rfl, by kernel_rfl⟩ ?_
        simp (maxSteps := 3000000) (disch := omega) only [go_sem,reduceIte,Nat.reduceEqDiff,Nat.reduceLT, e7, e47, e48, e49, nilO, Nat.add_zero, fld100_0, fld100_1, fld100_2, Nat.zero_add, load3, q0, q1, q2, l0, l1, l2, dy]
        have lsv := ln_var (G := G) agg100 i100 size100 v6
        simp (maxSteps := 3000000) (disch := omega) only [go_sem,reduceIte,Nat.reduceEqDiff,Nat.reduceLT, e7, e47, e48, e49, lsv]
        refine At_lit (vs := [(0, sqv e)]) (cs := #[.int .i64 e.1, .int .i64 e.2.1, .int .i64 e.2.2]) u77 i100 zero100 (by rw [size100]; rfl) (by simp only [go_sem,reduceIte,Nat.reduceEqDiff,Nat.reduceLT]) (by rw [size100]; rfl) (by omega) fun h7 hn7 => ?_
        rw [size100] at hn7
        have n7 := hn7.next
        have hsx : SlV h7.blks h6.next h7.next 3 1 (sqc [e]) (.slice (some ⟨h6.next, 0, none⟩) 1 1) := hn7.slv rfl
        have hs47 := hs46.mono (B' := h7.blks) fun b _ hb => by rw [hn7.get, if_neg (by omega)]
        obtain ⟨cells, size, gb, glo, ghi, gsz, gL, gc⟩ := sinv hs47
        try simp only [go_sem,reduceIte,Nat.reduceEqDiff,Nat.reduceLT]
        refine At_appendI (b := b) (off := off) (lo2 := h6.next) (hi2 := h7.next) (sl := L.length + 1) (m := 1) (sc := N) (M := sqc [e]) (v := .slice (some ⟨h6.next, 0, none⟩) 1 1) u77 u77 i100 zero100 (by rw [size100, bytes100]; rfl) (by simp only [go_sem,reduceIte,Nat.reduceEqDiff,Nat.reduceLT, e7]) (by rw [size100]; exact gb) (by omega) (by rw [size100]; omega) (by rw [En_G]; omega) (by simp only [go_sem,reduceIte,Nat.reduceEqDiff,Nat.reduceLT]) (by rw [size100]; exact hsx) (by omega) (by omega) sqc_one (by omega) fun h8 hs8 => ?_
        rw [size100] at hs8
        have hsl := hs8.slv (c := N) hs47 (by show (L.length + 1) * 3 + 3 ≤ N * 3; omega)
        obtain ⟨ol, hol⟩ : ∃ ol, C[L.length + 1]? = some ol := ⟨_, List.getElem?_eq_getElem (show L.length + 1 < C.length by omega)⟩
        have hce : (sqc C).take ((L.length + 1) * 3) ++ sqc [e] ++ (sqc C).drop ((L.length + 1) * 3 + (sqc [e]).length) = sqc (C.set (L.length + 1) e) := sqc_set hol
        rw [hce] at hsl
        have n8 := hs8.next
        simp (disch := omega) only [go_sem,reduceIte,Nat.reduceEqDiff,Nat.reduceLT, e47, e48, e49, wrap_i64]
        exact hJ (j - 1) _ _ (by omega) ⟨i + 1, C.set (L.length + 1) e, L ++ [l], e, by omega, by rw [List.length_set, hC], hnext.trans hsw1, by rw [List.length_append, List.length_singleton]; omega, by
          rw [List.length_append, List.length_singleton, take_set1 (by omega), hCt], by
          rw [List.drop_set_of_lt (by omega), ← drop1 C, hCd, drop1 S], pr6.trans ((hn7.pres (by omega)).trans (hs8.pres (by omega))), by omega, hsl, by (simp only [go_sem,reduceIte,Nat.reduceEqDiff,Nat.reduceLT, List.length_append, List.length_singleton]) <;> rfl, by simp only [go_sem,reduceIte,Nat.reduceEqDiff,Nat.reduceLT, e47], by simp only [go_sem,reduceIte,Nat.reduceEqDiff,Nat.reduceLT, e48], by (simp only [go_sem,reduceIte,Nat.reduceEqDiff,Nat.reduceLT]) <;> rfl⟩
    · obtain rfl : i = N - 1 := by omega
      simp (maxSteps := 3000000) (disch := omega) only [go_sem,reduceIte,Nat.reduceEqDiff,Nat.reduceLT, e7, e47, e48, e49, hlt2]
      have hfull : (S.drop 1).take (N - 1) = S.drop 1 := List.take_of_length_le (by rw [List.length_drop]; omega)
      rw [hfull] at hsw
      have hpw : S.Pairwise leE := hSs
      rw [hS0] at hpw
      have hpc := List.pairwise_cons.1 hpw
      have hpos : ∀ e ∈ S, e.2.1 < e.2.2 := fun e he => edg_pos hok e (hSp.mem_iff.1 he)
      obtain ⟨hsep, hcv⟩ := sweep_sep (E := S.drop 1) (s := ([], s0)) (Sep.one (hpos s0 (List.mem_of_getElem? hs0))) (fun e he => hpos e (List.mem_of_mem_drop he)) hpc.1 hpc.2
      rw [hsw] at hsep hcv
      have hpre := hs4.pre (m := L.length + 1) (c' := N) (by omega) (by omega)
      rw [sqc_take, hCt] at hpre
      have hll : (L ++ [l]).length = L.length + 1 := by simp
      refine hQ' _ _ ⟨pr4, L ++ [l], some ⟨b, off, none⟩, N, by rw [hll], by rw [hll]; exact hpre.wide (Nat.le_refl _) nx4, hsep, fun y x => ?_, by omega⟩
      rw [hcv y x]
      have hcS : cvr S y x ↔ cvr (edg O) y x := by
        unfold cvr
        exact ⟨fun ⟨q, hq, g⟩ => ⟨q, hSp.mem_iff.1 hq, g⟩, fun ⟨q, hq, g⟩ => ⟨q, hSp.mem_iff.2 hq, g⟩⟩
      rw [← hcS]
      conv => rhs; rw [hS0]
      rw [cvr_cons]
      simp [cvr_cons, cvr_nil]
end
end Go.Proofs.YtnhbkoeomefkdaaDoor.Ev.L

