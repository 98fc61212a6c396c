/- Round straps: the reference's Multipliers and Canon. -/
import Derived.Test.YtlblehmnanagaaaPmI6
set_option linter.unusedSimpArgs false
set_option linter.unusedVariables false
namespace Go.Proofs.Ytlblehmnanagaaa.Ev
open Go Go.Proofs
noncomputable section

def mlR (V : Nat) (l : List Int) (n : Nat) : List Int := (mR V l n).map fun t : Nat => (t : Int)
theorem mlR_succ {V n : Nat} {l : List Int} : mlR V l (n + 1) = if Nat.gcd n V = 1 ∧ ∃ s, s < V ∧ cg V n s l = l then mlR V l n ++ [(n : Int)] else mlR V l n := by
  unfold mlR
  rw [mR_succ]
  by_cases h : Nat.gcd n V = 1 ∧ ∃ s, s < V ∧ cg V n s l = l
  · rw [if_pos h, if_pos h, List.map_append]; rfl
  · rw [if_neg h, if_neg h]
theorem mlR_len {V n : Nat} {l : List Int} : (mlR V l n).length ≤ n := by
  have := List.length_filter_le (fun t : Nat => Nat.gcd t V == 1 && (List.range V).any fun s => cg V t s l == l) (List.range n)
  simpa [mlR, mR] using this
theorem mlR_one {V : Nat} {l : List Int} (hV : 2 ≤ V) : mlR V l 1 = [] := by
  rw [mlR_succ, if_neg]
  · rfl
  · rintro ⟨h, _⟩
    rw [Nat.gcd_zero_left] at h
    omega
theorem turned_cg {V t : Nat} {s : Int} {l : List Int} (hV : 0 < V) (hin : InV V l) (hlt : l.Pairwise (· < ·)) (hg : Nat.gcd t V = 1) : pls (tn V t s l) V = cg V t s l :=
  pls_srt (tn_in hV) (tn_nodup hin (hlt.imp fun h => by omega) hg)

set_option maxHeartbeats 8000000 in
theorem refMultipliers_spec {G V lo hi c : Nat} {l : List Int} {A : Option Addr} {h : H} (hG : G ≤ h.next) (hhi : hi ≤ h.next) (hv : SlV h.blks lo hi 1 l.length (ints l) (.slice A l.length c)) (hl : l.length ≤ 31) (hV : 2 ≤ V) (hV2 : V ≤ 31) (hin : InV V l) (hlt' : l.Pairwise (· < ·)) :
    Spec Try.prog (En G) 25 [.int .i64 V, .slice A l.length c] h fun v h' => ∃ A', v = .slice A' (mlR V l V).length (mlR V l V).length ∧ SlV h'.blks h.next h'.next 1 (mlR V l V).length (ints (mlR V l V)) v := by
  refine CallsE_enter (En_known (by decide)) (En_f.trans Try.func25) rfl ⟨Nat.le_of_ble_eq_true rfl, by decide⟩ fun Q' hQ' => ?_
  simp only [Try.f25, go_sem,reduceIte,Nat.reduceEqDiff,Nat.reduceLT]
  refine At_lit0 u23 i3 zero3 (by rw [size3]; rfl) (by omega) ?_
  simp only [go_sem,reduceIte,Nat.reduceEqDiff,Nat.reduceLT]
  have hone := mlR_one (l := l) hV
  refine WK_loopN (fun j α h2 => ∃ (t : Nat) (A' : Option Addr), t + j = V ∧ 1 ≤ t ∧ α.get 0 = some (.int .i64 V) ∧ α.get 1 = some (.slice A l.length c) ∧ α.get 5 = some (.slice A' (mlR V l t).length (mlR V l t).length) ∧ α.get 6 = some (.int .i64 t) ∧
      SlV h2.blks h.next h2.next 1 (mlR V l t).length (ints (mlR V l t)) (.slice A' (mlR V l t).length (mlR V l t).length) ∧ Pres h.next h h2) (V - 1)
    ⟨1, some ⟨0, 0, some 0⟩, by omega, by omega, by simp only [go_sem,reduceIte,Nat.reduceEqDiff,Nat.reduceLT], by simp only [go_sem,reduceIte,Nat.reduceEqDiff,Nat.reduceLT], by rw [hone]; (simp only [go_sem,reduceIte,Nat.reduceEqDiff,Nat.reduceLT]) <;> rfl, by (simp only [go_sem,reduceIte,Nat.reduceEqDiff,Nat.reduceLT]) <;> rfl, by rw [hone]; exact .emp rfl rfl, Pres.refl _ _⟩ (by omega) ?_
  rintro J j α h2 ⟨t, A2, hij, ht1, e0, e1, e5, e6, hov2, pr2⟩ hJ
  have nx2 := pr2.next
  by_cases hlt : (t : Int) < (V : Int)
  · have hrl := mlR_len (V := V) (l := l) (n := t)
    simp (disch := omega) only [go_sem,reduceIte,Nat.reduceEqDiff,Nat.reduceLT, e0, e1, e5, e6, hlt]
    refine WK_loopN (fun j α h3 => ∃ (s : Nat) (fb : Bool) (A3 : Option Addr), s + j = V ∧ α.get 0 = some (.int .i64 V) ∧ α.get 1 = some (.slice A l.length c) ∧ α.get 5 = some (.slice A3 (mlR V l t).length (mlR V l t).length) ∧ α.get 6 = some (.int .i64 t) ∧ α.get 7 = some (.bool fb) ∧ α.get 8 = some (.int .i64 s) ∧
        SlV h3.blks h.next h3.next 1 (mlR V l t).length (ints (mlR V l t)) (.slice A3 (mlR V l t).length (mlR V l t).length) ∧ Pres h.next h h3 ∧ (fb = true ↔ Nat.gcd t V = 1 ∧ ∃ s', s' < s ∧ cg V t s' l = l)) V
      ⟨0, false, A2, by omega, by simp only [go_sem,reduceIte,Nat.reduceEqDiff,Nat.reduceLT, e0], by simp only [go_sem,reduceIte,Nat.reduceEqDiff,Nat.reduceLT, e1], by simp only [go_sem,reduceIte,Nat.reduceEqDiff,Nat.reduceLT, e5], by simp only [go_sem,reduceIte,Nat.reduceEqDiff,Nat.reduceLT, e6], by simp only [go_sem,reduceIte,Nat.reduceEqDiff,Nat.reduceLT], by (simp only [go_sem,reduceIte,Nat.reduceEqDiff,Nat.reduceLT]) <;> rfl, hov2, pr2, by simp⟩ (by omega) ?_
    rintro J2 j2 α2 h3 ⟨s, fb, A3, hsj, g0, g1, g5, g6, g7, g8, hov, pr3, hfb⟩ hJ2
    have nx3 := pr3.next
    have hv3 : SlV h3.blks lo hi 1 l.length (ints l) (.slice A l.length c) := hv.mono fun b _ hb => pr3.get b (by omega)
    by_cases hlt2 : (s : Int) < (V : Int)
    · simp (disch := omega) only [go_sem,reduceIte,Nat.reduceEqDiff,Nat.reduceLT, g0, g6, g8, hlt2]
      refine CallO_same (Gcd_spec (a := t) (b := V) (by omega)) (by omega) fun u hu => ?_
      subst hu
      by_cases hg : Nat.gcd t V = 1
      · have d1 : decide (((Nat.gcd t V : Nat) : Int) = 1) = true := decide_eq_true (by omega)
        have hstep : ∀ b : Bool, (b = true ↔ cg V t s l = l) → ((fb || b) = true ↔ Nat.gcd t V = 1 ∧ ∃ s', s' < s + 1 ∧ cg V t s' l = l) := fun b hb => by
          rw [Bool.or_eq_true, hfb, hb]
          constructor
          · rintro (⟨_, s', h1, h2⟩ | h1)
            · exact ⟨hg, s', by omega, h2⟩
            · exact ⟨hg, s, by omega, h1⟩
          · rintro ⟨_, s', h1, h2⟩
            by_cases e : s' = s
            · subst e; exact .inr h2
            · exact .inl ⟨hg, s', by omega, h2⟩
        cases fb with
        | true =>
          simp (disch := omega) only [go_sem,reduceIte,Nat.reduceEqDiff,Nat.reduceLT, g0, g1, g5, g6, g7, g8, d1, wrap_i64]
          refine hJ2 (V - (s + 1)) _ _ (by omega) ⟨s + 1, true, A3, by omega, by simp only [go_sem,reduceIte,Nat.reduceEqDiff,Nat.reduceLT, g0], by simp only [go_sem,reduceIte,Nat.reduceEqDiff,Nat.reduceLT, g1], by simp only [go_sem,reduceIte,Nat.reduceEqDiff,Nat.reduceLT, g5], by simp only [go_sem,reduceIte,Nat.reduceEqDiff,Nat.reduceLT, g6], by simp only [go_sem,reduceIte,Nat.reduceEqDiff,Nat.reduceLT], by (simp only [go_sem,reduceIte,Nat.reduceEqDiff,Nat.reduceLT]) <;> rfl, hov, pr3, ?_⟩
          refine ⟨fun _ => ?_, fun _ => rfl⟩
          obtain ⟨_, s', h1, h2⟩ := hfb.1 rfl
          exact ⟨hg, s', by omega, h2⟩
        | false =>
          simp (disch := omega) only [go_sem,reduceIte,Nat.reduceEqDiff,Nat.reduceLT, g0, g1, g5, g6, g7, g8, d1]
          refine CallO_f (Turned_spec (t := t) (s := s) (by omega) (by omega) hv3 hl hV hV2 (by omega) (by omega) hin) (by omega) fun u h4 pr4 ⟨A4, hu, hs4⟩ => ?_
          subst hu
          have nx4 := pr4.next
          rw [turned_cg (by omega) hin hlt' hg] at hs4 ⊢
          have hv4 : SlV h4.blks lo hi 1 l.length (ints l) (.slice A l.length c) := hv3.mono fun b _ hb => pr4.get b (by omega)
          have hcl : (cg V t s l).length = l.length := cg_len
          simp (disch := omega) only [go_sem,reduceIte,Nat.reduceEqDiff,Nat.reduceLT, g1]
          refine CallO_same (Same_l hs4 hv4 (by omega) (by omega)) (by omega) fun u ⟨b, hu, hb⟩ => ?_
          subst hu
          have hb2 := hstep b hb
          rw [Bool.false_or] at hb2
          simp (disch := omega) only [go_sem,reduceIte,Nat.reduceEqDiff,Nat.reduceLT, g8, wrap_i64]
          refine hJ2 (V - (s + 1)) _ _ (by omega) ⟨s + 1, b, A3, by omega, by simp only [go_sem,reduceIte,Nat.reduceEqDiff,Nat.reduceLT, g0], by simp only [go_sem,reduceIte,Nat.reduceEqDiff,Nat.reduceLT, g1], by simp only [go_sem,reduceIte,Nat.reduceEqDiff,Nat.reduceLT, g5], by simp only [go_sem,reduceIte,Nat.reduceEqDiff,Nat.reduceLT, g6], by simp only [go_sem,reduceIte,Nat.reduceEqDiff,Nat.reduceLT], by (simp only [go_sem,reduceIte,Nat.reduceEqDiff,Nat.reduceLT]) <;> rfl, (hov.mono fun b _ hb => pr4.get b (by omega)).wide (Nat.le_refl _) (by omega), pr3.trans (pr4.le (by omega)), hb2⟩
      · have d1 : decide (((Nat.gcd t V : Nat) : Int) = 1) = false := decide_eq_false (by omega)
        simp (disch := omega) only [go_sem,reduceIte,Nat.reduceEqDiff,Nat.reduceLT, g0, g1, g5, g6, g7, g8, d1]
        have hfin : fb = true ↔ Nat.gcd t V = 1 ∧ ∃ s, s < V ∧ cg V t s l = l := ⟨fun hh => absurd (hfb.1 hh).1 hg, fun hh => absurd hh.1 hg⟩
        cases fb with
        | true =>
          simp (disch := omega) only [go_sem,reduceIte,Nat.reduceEqDiff,Nat.reduceLT, g0, g5, g6, g7]
          refine At_pushI (lo := h.next) (hi := h3.next) (l := mlR V l t) (z := t) (by (simp only [go_sem,reduceIte,Nat.reduceEqDiff,Nat.reduceLT]) <;> rfl) (by simp only [go_sem,reduceIte,Nat.reduceEqDiff,Nat.reduceLT]) hov (Nat.le_refl _) (by omega) (by omega) (by omega) (by decide) (by decide) (by decide) fun A4 h4 pr4 hs4 nx4 => ?_
          have e : mlR V l t ++ [(t : Int)] = mlR V l (t + 1) := by rw [mlR_succ, if_pos (hfin.1 rfl)]
          rw [e] at hs4 ⊢
          simp (disch := omega) only [go_sem,reduceIte,Nat.reduceEqDiff,Nat.reduceLT, g6, wrap_i64]
          refine hJ (V - (t + 1)) _ _ (by omega) ⟨t + 1, A4, by omega, by omega, by simp only [go_sem,reduceIte,Nat.reduceEqDiff,Nat.reduceLT, g0], by simp only [go_sem,reduceIte,Nat.reduceEqDiff,Nat.reduceLT, g1], by simp only [go_sem,reduceIte,Nat.reduceEqDiff,Nat.reduceLT], by (simp only [go_sem,reduceIte,Nat.reduceEqDiff,Nat.reduceLT]) <;> rfl, hs4, pr3.trans pr4⟩
        | false =>
          have e : mlR V l (t + 1) = mlR V l t := by rw [mlR_succ, if_neg fun hh => Bool.noConfusion (hfin.2 hh)]
          simp (disch := omega) only [go_sem,reduceIte,Nat.reduceEqDiff,Nat.reduceLT, g0, g5, g6, g7, wrap_i64]
          refine hJ (V - (t + 1)) _ _ (by omega) ⟨t + 1, A3, by omega, by omega, by simp only [go_sem,reduceIte,Nat.reduceEqDiff,Nat.reduceLT, g0], by simp only [go_sem,reduceIte,Nat.reduceEqDiff,Nat.reduceLT, g1], by rw [e]; simp only [go_sem,reduceIte,Nat.reduceEqDiff,Nat.reduceLT, g5], by (simp only [go_sem,reduceIte,Nat.reduceEqDiff,Nat.reduceLT]) <;> rfl, by rw [e]; exact hov, pr3⟩
    · simp (disch := omega) only [go_sem,reduceIte,Nat.reduceEqDiff,Nat.reduceLT, g0, g1, g5, g6, g7, g8, hlt2]
      have hsV : s = V := by omega
      have hfin : fb = true ↔ Nat.gcd t V = 1 ∧ ∃ s, s < V ∧ cg V t s l = l := by
        rw [hsV] at hfb
        exact hfb
      cases fb with
      | true =>
        simp (disch := omega) only [go_sem,reduceIte,Nat.reduceEqDiff,Nat.reduceLT, g0, g5, g6, g7]
        refine At_pushI (lo := h.next) (hi := h3.next) (l := mlR V l t) (z := t) (by (simp only [go_sem,reduceIte,Nat.reduceEqDiff,Nat.reduceLT]) <;> rfl) (by simp only [go_sem,reduceIte,Nat.reduceEqDiff,Nat.reduceLT]) hov (Nat.le_refl _) (by omega) (by omega) (by omega) (by decide) (by decide) (by decide) fun A4 h4 pr4 hs4 nx4 => ?_
        have e : mlR V l t ++ [(t : Int)] = mlR V l (t + 1) := by rw [mlR_succ, if_pos (hfin.1 rfl)]
        rw [e] at hs4 ⊢
        simp (disch := omega) only [go_sem,reduceIte,Nat.reduceEqDiff,Nat.reduceLT, g6, wrap_i64]
        refine hJ (V - (t + 1)) _ _ (by omega) ⟨t + 1, A4, by omega, by omega, by simp only [go_sem,reduceIte,Nat.reduceEqDiff,Nat.reduceLT, g0], by simp only [go_sem,reduceIte,Nat.reduceEqDiff,Nat.reduceLT, g1], by simp only [go_sem,reduceIte,Nat.reduceEqDiff,Nat.reduceLT], by (simp only [go_sem,reduceIte,Nat.reduceEqDiff,Nat.reduceLT]) <;> rfl, hs4, pr3.trans pr4⟩
      | false =>
        have e : mlR V l (t + 1) = mlR V l t := by rw [mlR_succ, if_neg fun hh => Bool.noConfusion (hfin.2 hh)]
        simp (disch := omega) only [go_sem,reduceIte,Nat.reduceEqDiff,Nat.reduceLT, g0, g5, g6, g7, wrap_i64]
        refine hJ (V - (t + 1)) _ _ (by omega) ⟨t + 1, A3, by omega, by omega, by simp only [go_sem,reduceIte,Nat.reduceEqDiff,Nat.reduceLT, g0], by simp only [go_sem,reduceIte,Nat.reduceEqDiff,Nat.reduceLT, g1], by rw [e]; simp only [go_sem,reduceIte,Nat.reduceEqDiff,Nat.reduceLT, g5], by (simp only [go_sem,reduceIte,Nat.reduceEqDiff,Nat.reduceLT]) <;> rfl, by rw [e]; exact hov, pr3⟩
  · obtain rfl : t = V := by omega
    simp (disch := omega) only [go_sem,reduceIte,Nat.reduceEqDiff,Nat.reduceLT, e0, e1, e5, e6, hlt]
    exact hQ' _ _ ⟨pr2, A2, rfl, hov2⟩

/-- the sets that have been looked at -/
def Seen (V : Nat) (l : List Int) (t s : Nat) (z : List Int) : Prop := z = l ∨ ∃ u a : Nat, ((u < t ∧ a < V) ∨ (u = t ∧ a < s)) ∧ u < V ∧ Nat.gcd u V = 1 ∧ z = cg V u a l
def Best (V : Nat) (l : List Int) (t s : Nat) (L : List Int) : Prop := L.length = l.length ∧ Mn (Seen V l t s) L
theorem Best.step {V t s : Nat} {l L : List Int} (hb : Best V l t s L) (ht : t < V) (hg : Nat.gcd t V = 1) : (cg V t s l < L → Best V l t (s + 1) (cg V t s l)) ∧ (¬ cg V t s l < L → Best V l t (s + 1) L) := by
  have hsee : ∀ z, Seen V l t (s + 1) z → Seen V l t s z ∨ z = cg V t s l := by
    rintro z (h | ⟨u, a, h1, h2, h3, h4⟩)
    · exact .inl (.inl h)
    · rcases h1 with h1 | ⟨rfl, h1⟩
      · exact .inl (.inr ⟨u, a, .inl h1, h2, h3, h4⟩)
      · by_cases e : a = s
        · subst e; exact .inr h4
        · exact .inl (.inr ⟨u, a, .inr ⟨rfl, by omega⟩, h2, h3, h4⟩)
  constructor
  · intro hlt
    refine ⟨cg_len, .inr ⟨t, s, .inr ⟨rfl, by omega⟩, ht, hg, rfl⟩, fun z hz hh => ?_⟩
    rcases hsee z hz with h | h
    · exact hb.2.2 z h (llt_trans hh hlt)
    · subst h; exact llt_irr hh
  · intro hn
    refine ⟨hb.1, ?_, fun z hz hh => ?_⟩
    · rcases hb.2.1 with h | ⟨u, a, h1, h2, h3, h4⟩
      · exact .inl h
      · refine .inr ⟨u, a, ?_, h2, h3, h4⟩
        rcases h1 with h1 | ⟨h1, h5⟩
        · exact .inl h1
        · exact .inr ⟨h1, by omega⟩
    · rcases hsee z hz with h | h
      · exact hb.2.2 z h hh
      · subst h; exact hn hh
theorem Best.congr {V t s t' s' : Nat} {l L : List Int} (hb : Best V l t s L) (h : ∀ z, Seen V l t s z ↔ Seen V l t' s' z) : Best V l t' s' L :=
  ⟨hb.1, (h _).1 hb.2.1, fun z hz => hb.2.2 z ((h z).2 hz)⟩
theorem Best.next {V t : Nat} {l L : List Int} (hb : Best V l t V L) : Best V l (t + 1) 0 L := hb.congr fun z => by
  unfold Seen
  constructor
  · rintro (h | ⟨u, a, h1, h2⟩)
    · exact .inl h
    · exact .inr ⟨u, a, .inl (by omega), h2⟩
  · rintro (h | ⟨u, a, h1, h2⟩)
    · exact .inl h
    · exact .inr ⟨u, a, by omega, h2⟩
theorem Best.skip {V t : Nat} {l L : List Int} (hb : Best V l t 0 L) (hg : Nat.gcd t V ≠ 1) : Best V l (t + 1) 0 L := hb.congr fun z => by
  unfold Seen
  constructor
  · rintro (h | ⟨u, a, h1, h2⟩)
    · exact .inl h
    · exact .inr ⟨u, a, .inl (by omega), h2⟩
  · rintro (h | ⟨u, a, h1, h2, h3, h4⟩)
    · exact .inl h
    · by_cases e : u = t
      · subst e; exact absurd h3 hg
      · exact .inr ⟨u, a, .inl (by omega), h2, h3, h4⟩
theorem Best.all {V : Nat} {l L : List Int} (hV : 2 ≤ V) (hin : InV V l) (hl : l.Pairwise (· ≤ ·)) (hb : Best V l V 0 L) : L = cP V l (uL V V) := by
  have horb : Orb V l l := ⟨1, 0, by omega, Nat.gcd_one_left V, by omega, by
    have := cg_one hin hl
    simpa using this.symm⟩
  refine Mn.uniq (S := Orb V l) ⟨?_, ?_⟩ (cP_mn hV)
  · rcases hb.2.1 with h | ⟨u, a, h1, h2, h3, h4⟩
    · rw [h]; exact horb
    · exact ⟨u, a, h2, h3, by omega, h4⟩
  · rintro z ⟨u, a, h1, h2, h3, h4⟩
    exact hb.2.2 z (.inr ⟨u, a, .inl ⟨h1, h3⟩, h1, h2, h4⟩)

theorem Before_l {G lo hi lo2 hi2 n c c2 : Nat} {A A2 : Option Addr} {l m : List Int} {h : H} (hl : l.length = n) (hm : m.length = n) (hv : SlV h.blks lo hi 1 n (ints l) (.slice A n c)) (hw : SlV h.blks lo2 hi2 1 n (ints m) (.slice A2 n c2)) (hn : n < 2147483648) :
    Spec Try.prog (En G) 34 [.slice A n c, .slice A2 n c2] h fun v h' => (∃ b, v = .bool b ∧ (b = true ↔ l < m)) ∧ h' = h := by
  subst hl
  rw [ints_intsL] at hv hw
  rw [hm] at hw
  refine Spec.mono (Before_spec hv hw hn) fun v h' _ ⟨⟨b, e1, e3⟩, e4⟩ => ⟨⟨b, e1, ?_⟩, e4⟩
  exact bef_lt hm.symm (by rw [hm]; exact e3)
set_option maxHeartbeats 8000000 in
theorem refCanon_spec {G V lo hi c : Nat} {l : List Int} {A : Option Addr} {h : H} (hG : G ≤ h.next) (hhi : hi ≤ h.next) (hv : SlV h.blks lo hi 1 l.length (ints l) (.slice A l.length c)) (hl : l.length ≤ 31) (hV : 2 ≤ V) (hV2 : V ≤ 31) (hin : InV V l) (hlt' : l.Pairwise (· < ·)) :
    Spec Try.prog (En G) 26 [.int .i64 V, .slice A l.length c] h fun v h' => ∃ A' c', v = .slice A' l.length c' ∧ SlV h'.blks h.next h'.next 1 l.length (ints (cP V l (uL V V))) v := by
  refine CallsE_enter (En_known (by decide)) (En_f.trans Try.func26) rfl ⟨Nat.le_of_ble_eq_true rfl, by decide⟩ fun Q' hQ' => ?_
  simp only [Try.f26, go_sem,reduceIte,Nat.reduceEqDiff,Nat.reduceLT]
  have hb0 : Best V l 1 0 l := by
    refine ⟨rfl, .inl rfl, ?_⟩
    rintro z (h | ⟨u, a, h1, h2, h3, h4⟩)
    · subst h; exact llt_irr
    · exfalso
      have : u = 0 := by omega
      subst this
      rw [Nat.gcd_zero_left] at h3
      omega
  refine WK_loopN (fun j α h2 => ∃ (t c' : Nat) (A' : Option Addr) (L : List Int), t + j = V ∧ 1 ≤ t ∧ α.get 0 = some (.int .i64 V) ∧ α.get 1 = some (.slice A l.length c) ∧ α.get 5 = some (.slice A' l.length c') ∧ α.get 6 = some (.int .i64 t) ∧
      SlV h2.blks 0 h2.next 1 l.length (ints L) (.slice A' l.length c') ∧ Pres h.next h h2 ∧ Best V l t 0 L) (V - 1)
    ⟨1, c, A, l, by omega, by omega, by simp only [go_sem,reduceIte,Nat.reduceEqDiff,Nat.reduceLT], by simp only [go_sem,reduceIte,Nat.reduceEqDiff,Nat.reduceLT], by simp only [go_sem,reduceIte,Nat.reduceEqDiff,Nat.reduceLT], by (simp only [go_sem,reduceIte,Nat.reduceEqDiff,Nat.reduceLT]) <;> rfl, hv.wide (Nat.zero_le _) hhi, Pres.refl _ _, hb0⟩ (by omega) ?_
  rintro J j α h2 ⟨t, c2, A2, L2, hij, ht1, e0, e1, e5, e6, hov2, pr2, hbest2⟩ hJ
  have nx2 := pr2.next
  by_cases hlt : (t : Int) < (V : Int)
  · simp (disch := omega) only [go_sem,reduceIte,Nat.reduceEqDiff,Nat.reduceLT, e0, e1, e5, e6, hlt]
    refine WK_loopN (fun j α h3 => ∃ (s c3 : Nat) (A3 : Option Addr) (L : List Int), s + j = V ∧ α.get 0 = some (.int .i64 V) ∧ α.get 1 = some (.slice A l.length c) ∧ α.get 5 = some (.slice A3 l.length c3) ∧ α.get 6 = some (.int .i64 t) ∧ α.get 7 = some (.int .i64 s) ∧
        SlV h3.blks 0 h3.next 1 l.length (ints L) (.slice A3 l.length c3) ∧ Pres h.next h h3 ∧ Best V l t s L ∧ (Nat.gcd t V ≠ 1 → s = 0)) V
      ⟨0, c2, A2, L2, by omega, by simp only [go_sem,reduceIte,Nat.reduceEqDiff,Nat.reduceLT, e0], by simp only [go_sem,reduceIte,Nat.reduceEqDiff,Nat.reduceLT, e1], by simp only [go_sem,reduceIte,Nat.reduceEqDiff,Nat.reduceLT, e5], by simp only [go_sem,reduceIte,Nat.reduceEqDiff,Nat.reduceLT, e6], by (simp only [go_sem,reduceIte,Nat.reduceEqDiff,Nat.reduceLT]) <;> rfl, hov2, pr2, hbest2, fun _ => rfl⟩ (by omega) ?_
    rintro J2 j2 α2 h3 ⟨s, c3, A3, L, hsj, g0, g1, g5, g6, g7, hov, pr3, hbest, hsk⟩ hJ2
    have nx3 := pr3.next
    have hv3 : SlV h3.blks lo hi 1 l.length (ints l) (.slice A l.length c) := hv.mono fun b _ hb => pr3.get b (by omega)
    by_cases hlt2 : (s : Int) < (V : Int)
    · simp (disch := omega) only [go_sem,reduceIte,Nat.reduceEqDiff,Nat.reduceLT, g0, g6, g7, hlt2]
      refine CallO_same (Gcd_spec (a := t) (b := V) (by omega)) (by omega) fun u hu => ?_
      subst hu
      by_cases hg : Nat.gcd t V = 1
      · have d1 : decide (((Nat.gcd t V : Nat) : Int) = 1) = true := decide_eq_true (by omega)
        simp (disch := omega) only [go_sem,reduceIte,Nat.reduceEqDiff,Nat.reduceLT, g0, g1, g5, g6, g7, d1]
        refine CallO_f (Turned_spec (t := t) (s := s) (by omega) (by omega) hv3 hl hV hV2 (by omega) (by omega) hin) (by omega) fun u h4 pr4 ⟨A4, hu, hs4⟩ => ?_
        subst hu
        have nx4 := pr4.next
        have hcl : (cg V t s l).length = l.length := cg_len
        rw [turned_cg (by omega) hin hlt' hg, hcl] at hs4 ⊢
        have hov4 := hov.mono (B' := h4.blks) fun b _ hb => pr4.get b (by omega)
        have hst := hbest.step (by omega) hg
        simp (disch := omega) only [go_sem,reduceIte,Nat.reduceEqDiff,Nat.reduceLT, g5]
        refine CallO_same (Before_l hcl hbest.1 hs4 hov4 (by omega)) (by omega) fun u ⟨b, hu, hb⟩ => ?_
        subst hu
        cases b with
        | true =>
          simp (disch := omega) only [go_sem,reduceIte,Nat.reduceEqDiff,Nat.reduceLT, g7, wrap_i64]
          refine hJ2 (V - (s + 1)) _ _ (by omega) ⟨s + 1, l.length, A4, cg V t s l, by omega, by simp only [go_sem,reduceIte,Nat.reduceEqDiff,Nat.reduceLT, g0], by simp only [go_sem,reduceIte,Nat.reduceEqDiff,Nat.reduceLT, g1], by simp only [go_sem,reduceIte,Nat.reduceEqDiff,Nat.reduceLT], by simp only [go_sem,reduceIte,Nat.reduceEqDiff,Nat.reduceLT, g6], by (simp only [go_sem,reduceIte,Nat.reduceEqDiff,Nat.reduceLT]) <;> rfl, hs4.wide (Nat.zero_le _) (Nat.le_refl _), pr3.trans (pr4.le (by omega)), hst.1 (hb.1 rfl), fun hh => absurd hg hh⟩
        | false =>
          simp (disch := omega) only [go_sem,reduceIte,Nat.reduceEqDiff,Nat.reduceLT, g7, wrap_i64]
          refine hJ2 (V - (s + 1)) _ _ (by omega) ⟨s + 1, c3, A3, L, by omega, by simp only [go_sem,reduceIte,Nat.reduceEqDiff,Nat.reduceLT, g0], by simp only [go_sem,reduceIte,Nat.reduceEqDiff,Nat.reduceLT, g1], by simp only [go_sem,reduceIte,Nat.reduceEqDiff,Nat.reduceLT, g5], by simp only [go_sem,reduceIte,Nat.reduceEqDiff,Nat.reduceLT, g6], by (simp only [go_sem,reduceIte,Nat.reduceEqDiff,Nat.reduceLT]) <;> rfl, hov4.wide (Nat.zero_le _) (by omega), pr3.trans (pr4.le (by omega)), hst.2 fun hh => Bool.noConfusion (hb.2 hh), fun hh => absurd hg hh⟩
      · have d1 : decide (((Nat.gcd t V : Nat) : Int) = 1) = false := decide_eq_false (by omega)
        obtain rfl := hsk hg
        simp (disch := omega) only [go_sem,reduceIte,Nat.reduceEqDiff,Nat.reduceLT, g0, g1, g5, g6, g7, d1, wrap_i64]
        refine hJ (V - (t + 1)) _ _ (by omega) ⟨t + 1, c3, A3, L, by omega, by omega, by simp only [go_sem,reduceIte,Nat.reduceEqDiff,Nat.reduceLT, g0], by simp only [go_sem,reduceIte,Nat.reduceEqDiff,Nat.reduceLT, g1], by simp only [go_sem,reduceIte,Nat.reduceEqDiff,Nat.reduceLT, g5], by (simp only [go_sem,reduceIte,Nat.reduceEqDiff,Nat.reduceLT]) <;> rfl, hov, pr3, hbest.skip hg⟩
    · obtain rfl : s = V := by omega
      simp (disch := omega) only [go_sem,reduceIte,Nat.reduceEqDiff,Nat.reduceLT, g0, g1, g5, g6, g7, hlt2, wrap_i64]
      refine hJ (s - (t + 1)) _ _ (by omega) ⟨t + 1, c3, A3, L, by omega, by omega, by simp only [go_sem,reduceIte,Nat.reduceEqDiff,Nat.reduceLT, g0], by simp only [go_sem,reduceIte,Nat.reduceEqDiff,Nat.reduceLT, g1], by simp only [go_sem,reduceIte,Nat.reduceEqDiff,Nat.reduceLT, g5], by (simp only [go_sem,reduceIte,Nat.reduceEqDiff,Nat.reduceLT]) <;> rfl, hov, pr3, hbest.next⟩
  · obtain rfl : t = V := by omega
    simp (disch := omega) only [go_sem,reduceIte,Nat.reduceEqDiff,Nat.reduceLT, e0, e1, e5, e6, hlt]
    have hfin := hbest2.all hV hin (hlt'.imp fun h => by omega)
    rw [hfin] at hov2
    refine At_lit0 u23 i3 zero3 (by rw [size3]; rfl) (by omega) ?_
    simp (disch := omega) only [go_sem,reduceIte,Nat.reduceEqDiff,Nat.reduceLT, e5]
    refine At_appendE (M := ints (cP t l (uL t t))) (m := l.length) u23 u23 i3 zero3 (by rw [size3, bytes3]; rfl) (by (simp only [go_sem,reduceIte,Nat.reduceEqDiff,Nat.reduceLT]) <;> rfl) (by (simp only [go_sem,reduceIte,Nat.reduceEqDiff,Nat.reduceLT]) <;> rfl) (by rw [size3]; exact hov2) (by omega) ints_one (by omega) fun A3 c3 h3 pr3 hs3 => ?_
    rw [size3] at hs3
    simp only [go_sem,reduceIte,Nat.reduceEqDiff,Nat.reduceLT]
    exact hQ' _ _ ⟨pr2.trans (pr3.le (by omega)), A3, c3, rfl, hs3.wide (by omega) (Nat.le_refl _)⟩
end
end Go.Proofs.Ytlblehmnanagaaa.Ev

