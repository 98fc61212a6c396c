/- Steps of equal seams; steps written one after the other; the least seam is not greater. Mathematics alone. -/
import Derived.Test.YtdfkblagcfgncaaGreatDoorPmsD3
import Derived.Test.YtdfkblagcfgncaaGreatDoorPmT9
import Derived.Test.YtdfkblagcfgncaaGreatDoorPmsW1
set_option linter.unusedSimpArgs false
namespace Go.Proofs.YtdfkblagcfgncaaGreatDoor.Ev
variable {cm : Nat → Nat → Bool}

theorem Sw.hpF {a b : List UInt8} (h : Sw cm a b) : ∀ {ps qs : List (UInt8 × Nat)}, ps.Perm qs → (Go.Proofs.YtdfkblagcfgncaaGreatDoor.Ev.hpF cm ps a).Perm (Go.Proofs.YtdfkblagcfgncaaGreatDoor.Ev.hpF cm qs b) := by
  induction h with
  | refl l => intro ps qs hp; exact hpF_perm l hp
  | cons c _ ih => intro ps qs hp; exact ih (by rw [tp_perm hp]; exact hp.append_right _)
  | swap a b r hab h1 h2 =>
    intro ps qs hp
    simp only [Go.Proofs.YtdfkblagcfgncaaGreatDoor.Ev.hpF, tp_snoc, h1, h2, if_true]
    refine hpF_perm r ?_
    rw [tp_perm hp (c := a), tp_perm hp (c := b), List.append_assoc, List.append_assoc]
    refine (hp.append_right _).trans (List.Perm.append_left _ ?_)
    exact List.Perm.swap _ _ _
  | trans _ _ h1 h2 => intro ps qs hp; exact (h1 (List.Perm.refl ps)).trans (h2 hp)
theorem Sw.hp {a b : List UInt8} (h : Sw cm a b) : (Go.Proofs.YtdfkblagcfgncaaGreatDoor.Ev.hp cm a).Perm (Go.Proofs.YtdfkblagcfgncaaGreatDoor.Ev.hp cm b) := Sw.hpF h (List.Perm.refl [])
theorem Sw.mx {a b : List UInt8} (h : Sw cm a b) : Go.Proofs.YtdfkblagcfgncaaGreatDoor.Ev.mx cm a a.length = Go.Proofs.YtdfkblagcfgncaaGreatDoor.Ev.mx cm b b.length := by
  rw [mx_mxp, mx_mxp, ← hp_hpi, ← hp_hpi]; exact mxp_perm h.hp
theorem row_ok {l : List UInt8} {n : Nat} (hl : OkL 6 l) : OkL 6 (row (hp cm l) n) := by
  rw [hp_hpi, ← sp_row]; exact sp_ok hl (Nat.le_refl _)
theorem Sw.stps {a b : List UInt8} (h : Sw cm a b) (ha : OkL 6 a) (hb : OkL 6 b) (S : Nat) : Go.Proofs.YtdfkblagcfgncaaGreatDoor.Ev.stps cm a S = Go.Proofs.YtdfkblagcfgncaaGreatDoor.Ev.stps cm b S := by
  unfold Go.Proofs.YtdfkblagcfgncaaGreatDoor.Ev.stps
  refine List.map_congr_left fun r _ => ?_
  rw [sp_row, sp_row, ← hp_hpi, ← hp_hpi]
  exact srt_unique (row_ok hb) ((srtB_perm (row_ok ha)).trans (row_perm h.hp _)) (srtB_srt (row_ok ha) 6)

/-- letters that commute come in any order -/
theorem RowC.sw {a b : List UInt8} (p : a.Perm b) : RowC cm a → Sw cm a b := by
  induction p with
  | nil => intro _; exact .refl _
  | cons c _ ih => intro h; exact .cons c (ih (List.pairwise_cons.1 h).2)
  | swap x y l =>
    intro h
    obtain ⟨h1, h2, h3⟩ := (List.pairwise_cons.1 h).1 x List.mem_cons_self
    exact .swap y x l h3 h1 h2
  | trans p1 _ ih1 ih2 => intro h; exact (ih1 h).trans (ih2 (h.perm p1))
theorem sw_past {c : UInt8} : ∀ {y : List UInt8}, (∀ d ∈ y, cm (lt d) (lt c) = true ∧ cm (lt c) (lt d) = true ∧ lt d ≠ lt c) → Sw cm (y ++ [c]) (c :: y)
  | [], _ => .refl _
  | d :: y, h => by
    obtain ⟨h1, h2, h3⟩ := h d List.mem_cons_self
    exact (Sw.cons d (sw_past fun e he => h e (List.mem_cons_of_mem _ he))).trans (.swap d c y h3 h1 h2)
theorem jn_split {ps : List (UInt8 × Nat)} {n : Nat} : ∀ {S : Nat}, n < S → ∃ A B, jn ps S = A ++ srtB (row ps (n + 1)) 6 ++ B ∧ (∀ c ∈ B, ∃ m, n + 1 < m ∧ (c, m) ∈ ps) ∧
    ∀ qs, (∀ m, m ≠ n + 1 → row qs m = row ps m) → jn qs S = A ++ srtB (row qs (n + 1)) 6 ++ B
  | 0, h => by omega
  | S + 1, h => by
    by_cases e : n = S
    · subst e
      refine ⟨jn ps n, [], (by rw [jn_succ, List.append_nil]), (fun c hc => absurd hc (List.not_mem_nil)), fun qs hq => ?_⟩
      rw [jn_succ, List.append_nil]
      congr 1
      unfold jn
      have : ∀ (L : List Nat), (∀ r ∈ L, r < n) → (L.flatMap fun r => srtB (row qs (r + 1)) 6) = L.flatMap fun r => srtB (row ps (r + 1)) 6 := by
        intro L
        induction L with
        | nil => intro _; rfl
        | cons r L ih =>
          intro hL
          rw [List.flatMap_cons, List.flatMap_cons, ih fun x hx => hL x (List.mem_cons_of_mem _ hx), hq (r + 1) (by have := hL r List.mem_cons_self; omega)]
      exact this _ fun r hr => List.mem_range.1 hr
    · obtain ⟨A, B, h1, h2, h3⟩ := jn_split (ps := ps) (n := n) (show n < S by omega)
      refine ⟨A, B ++ srtB (row ps (S + 1)) 6, by rw [jn_succ, h1]; simp, fun c hc => ?_, fun qs hq => by rw [jn_succ, h3 qs hq, hq (S + 1) (by omega)]; simp⟩
      rcases List.mem_append.1 hc with hc | hc
      · exact h2 c hc
      · exact ⟨S + 1, by omega, row_mem.1 (srtB_mem.1 hc).1⟩

/-- the steps, one after the other, are an equal seam -/
theorem jn_sw (hsym : ∀ a b, cm a b = cm b a) (hirr : ∀ a, cm a a = false) : ∀ (n : Nat) (l : List UInt8), l.length = n → OkL 6 l → ∀ S, mxp (hp cm l) ≤ S → Sw cm (jn (hp cm l) S) l := by
  intro n
  induction n with
  | zero =>
    intro l hn _ S _
    obtain rfl := List.eq_nil_of_length_eq_zero hn
    have : jn (hp cm []) S = [] := by
      unfold jn
      rw [List.flatMap_eq_nil_iff]
      intro r _
      exact (srtB_nil (s := row (hp cm []) (r + 1)) (fun c hc => by cases hc)).2 rfl
    rw [this]; exact .refl _
  | succ n ih =>
    intro l hn hl S hS
    obtain ⟨l', c, rfl⟩ : ∃ l' c, l = l' ++ [c] := by
      refine ⟨l.dropLast, l.getLast (by intro e; rw [e] at hn; cases hn), ?_⟩
      exact (List.dropLast_concat_getLast _).symm
    have hl' : OkL 6 l' := fun d hd => hl d (List.mem_append_left _ hd)
    rw [hp_snoc] at hS ⊢
    rw [mxp_snoc] at hS
    have ht1 := tp_pos (cm := cm) (c := c) (ps := hp cm l')
    obtain ⟨t, ht⟩ : ∃ t, tp cm c (hp cm l') = t + 1 := ⟨tp cm c (hp cm l') - 1, by omega⟩
    rw [ht] at hS ⊢
    simp only at hS
    have ih' := ih l' (by simpa using hn) hl' S (by omega)
    obtain ⟨A, B, h1, h2, h3⟩ := jn_split (ps := hp cm l') (n := t) (S := S) (by omega)
    have hq := h3 (hp cm l' ++ [(c, t + 1)]) fun m hm => by rw [row_snoc, if_neg (fun e => hm e.symm)]
    rw [row_snoc, if_pos rfl] at hq
    rw [hq]
    have hB : ∀ d ∈ B, cm (lt d) (lt c) = true ∧ cm (lt c) (lt d) = true ∧ lt d ≠ lt c := fun d hd => by
      obtain ⟨m, hm, hmem⟩ := h2 d hd
      have hc : cm (lt d) (lt c) = true := by
        cases hcc : cm (lt d) (lt c) with
        | true => rfl
        | false =>
          have := tp_ge hmem hcc
          simp only at this
          omega
      exact ⟨hc, by rw [hsym]; exact hc, fun he => by rw [he, hirr] at hc; cases hc⟩
    have hrow : RowC cm (row (hp cm l') (t + 1) ++ [c]) := by
      have := hp_rows (n := t + 1) hsym hirr (l' ++ [c]) (ps := []) List.Pairwise.nil
      rw [show hpF cm [] (l' ++ [c]) = hp cm (l' ++ [c]) from rfl, hp_snoc, ht, row_snoc, if_pos rfl] at this
      exact this
    have hok : OkL 6 (row (hp cm l') (t + 1) ++ [c]) := fun d hd => by
      rcases List.mem_append.1 hd with hd | hd
      · exact row_ok hl' d hd
      · rw [List.mem_singleton.1 hd]; exact hl c (by simp)
    -- the row with the letter
    have hR : Sw cm (srtB (row (hp cm l') (t + 1)) 6 ++ [c]) (srtB (row (hp cm l') (t + 1) ++ [c]) 6) := by
      have p1 : (srtB (row (hp cm l') (t + 1)) 6 ++ [c]).Perm (row (hp cm l') (t + 1) ++ [c]) := (srtB_perm (row_ok hl')).append_right _
      exact RowC.sw (p1.trans (srtB_perm hok).symm) (hrow.perm p1.symm)
    have hs : Sw cm (jn (hp cm l') S ++ [c]) (l' ++ [c]) := ih'.right [c]
    rw [h1] at hs
    refine Sw.trans ?_ hs
    have e1 : Sw cm (A ++ srtB (row (hp cm l') (t + 1) ++ [c]) 6 ++ B) (A ++ (srtB (row (hp cm l') (t + 1)) 6 ++ [c]) ++ B) := (hR.symm.left A).right B
    have e2 : Sw cm (A ++ (srtB (row (hp cm l') (t + 1)) 6 ++ [c]) ++ B) (A ++ srtB (row (hp cm l') (t + 1)) 6 ++ B ++ [c]) := by
      have := ((sw_past hB).symm).left (A ++ srtB (row (hp cm l') (t + 1)) 6)
      simpa using this
    exact e1.trans e2
theorem stps_sw (hsym : ∀ a b, cm a b = cm b a) (hirr : ∀ a, cm a a = false) {l : List UInt8} (hl : OkL 6 l) : Sw cm ((stps cm l (mx cm l l.length)).flatten) l := by
  rw [stps_join]
  exact jn_sw hsym hirr _ l rfl hl _ (by rw [mx_mxp, ← hp_hpi]; exact Nat.le_refl _)

/-- a step: its letters rise, and commute -/
theorem step_ok (hsym : ∀ a b, cm a b = cm b a) (hirr : ∀ a, cm a a = false) {l : List UInt8} (hl : OkL 6 l) {n : Nat} : (srtB (sp cm l n l.length) 6).Pairwise fun a b => a.toNat < b.toNat ∧ cm (lt a) (lt b) = true := by
  rw [sp_row, ← hp_hpi]
  have h1 : RowC cm (row (hp cm l) n) := hp_rows hsym hirr l (ps := []) List.Pairwise.nil
  have h2 := h1.perm (srtB_perm (row_ok hl)).symm
  have h3 := srtB_srt (row_ok (n := n) (cm := cm) hl) 6
  have hk : OkL 6 (srtB (row (hp cm l) n) 6) := fun c hc => row_ok hl c (srtB_mem.1 hc).1
  refine List.Pairwise.imp_of_mem (R := fun a b : UInt8 => (cm (lt a) (lt b) = true ∧ cm (lt b) (lt a) = true ∧ lt a ≠ lt b) ∧ a.toNat ≤ b.toNat) ?_ (h2.and h3)
  intro a b ha hb ⟨⟨g1, _, g3⟩, g4⟩
  refine ⟨?_, g1⟩
  have ka := hk a ha
  have kb := hk b hb
  unfold lt at g3
  omega

/-- the least seam is not greater -/
def lexGt : List UInt8 → List UInt8 → Bool
  | [], _ => false
  | _ :: _, [] => true
  | a :: u, b :: v => if a = b then lexGt u v else decide (b.toNat < a.toNat)
theorem lst_lex : ∀ (n : Nat) (l : List UInt8), l.length = n → OkL 6 l → lexGt (lst cm 6 l) l = false := by
  intro n
  induction n with
  | zero =>
    intro l hn _
    obtain rfl := List.eq_nil_of_length_eq_zero hn
    rfl
  | succ n ih =>
    intro l hn hl
    cases l with
    | nil => cases hn
    | cons c r =>
      have hc := hl c List.mem_cons_self
      have hf : fg cm (lt c) (c :: r) 0 = 0 := by unfold fg; rw [if_pos rfl]; rfl
      cases e : nx cm 6 (c :: r) with
      | none => exact absurd e (nx_ne hl (by simp))
      | some x =>
        obtain ⟨hx1, hx2, hx3⟩ := nx_some.1 e
        rw [lst_step e, lexGt]
        have hxle : x ≤ lt c := by
          rcases Nat.lt_or_ge (lt c) x with h1 | h1
          · exact absurd (by rw [hf]; exact Int.le_refl _) (hx3 _ h1)
          · exact h1
        by_cases hxc : x = lt c
        · subst hxc
          rw [byte_of hc.1 rfl, if_pos rfl]
          have ha : at0 cm (lt c) (c :: r) = 0 := by unfold at0; rw [hf]; rfl
          rw [ha]
          have : wo (c :: r) 0 = r := by simp [wo]
          rw [this]
          exact ih r (by simpa using hn) fun d hd => hl d (List.mem_cons_of_mem _ hd)
        · have hby : (UInt8.ofNat (97 + x)).toNat = 97 + x := by rw [UInt8.toNat_ofNat']; exact Nat.mod_eq_of_lt (by omega)
          have hne : UInt8.ofNat (97 + x) ≠ c := fun he => by
            rw [← he] at hxc
            unfold lt at hxc
            omega
          rw [if_neg hne]
          refine decide_eq_false ?_
          rw [hby]
          unfold lt at hxle hxc
          omega

theorem wn_pos {K : Nat} : ∀ (f : Nat) (l : List UInt8), OkL K l → 1 ≤ wn cm K f l
  | 0, _, _ => Nat.le_refl _
  | f + 1, [], _ => Nat.le_refl _
  | f + 1, c :: l, hl => by
    have hc := hl c List.mem_cons_self
    simp only [wn]
    have he : er cm (lt c) (c :: l) = some l := by unfold er; rw [if_pos rfl]
    have h1 := wn_pos f l fun d hd => hl d (List.mem_cons_of_mem _ hd)
    have hmem : lt c ∈ List.range K := List.mem_range.2 (by unfold lt; omega)
    obtain ⟨a, b, hab⟩ := List.append_of_mem hmem
    rw [hab]
    simp only [List.map_append, List.sum_append, List.map_cons, List.sum_cons, he]
    omega
end Go.Proofs.YtdfkblagcfgncaaGreatDoor.Ev

