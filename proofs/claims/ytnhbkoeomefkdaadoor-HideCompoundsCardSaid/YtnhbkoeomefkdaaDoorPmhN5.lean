/- The document's Compound: all sets of squares are tried. -/
import Derived.Test.YtnhbkoeomefkdaaDoorPmhQQ
import Derived.Test.YtnhbkoeomefkdaaDoorPmBt
import Derived.Test.YtnhbkoeomefkdaaDoorPmDr
import Derived.Test.YtnhbkoeomefkdaaDoorPmhHH
set_option linter.unusedVariables false
set_option linter.unusedSimpArgs false
namespace Go.Proofs.YtnhbkoeomefkdaaDoor.Ev.L
open Go Go.Proofs Go.Proofs.YtnhbkoeomefkdaaDoor.Ev
noncomputable section

theorem somN_step {i m : Nat} : somN (i + 1) m = if m.testBit i = true then somN i m ++ [i] else somN i m := by
  unfold somN
  rw [List.range_succ, List.filter_append]
  by_cases hi : m.testBit i = true
  · rw [if_pos hi]; simp [hi]
  · rw [if_neg hi]; simp [hi]
def pkN (O : List Sq) (i m : Nat) : List Sq := (somN i m).map fun k => O.getD k (0, 0, 0)
theorem pkN_len {O : List Sq} {i m : Nat} : (pkN O i m).length = (som i m).length := by unfold pkN som; rw [List.length_map, List.length_map]
theorem som_le {i m : Nat} : (som i m).length ≤ i := by
  unfold som somN
  rw [List.length_map]
  exact Nat.le_trans (List.length_filter_le _ _) (by simp)
theorem som_step {i m : Nat} : som (i + 1) m = if m.testBit i = true then som i m ++ [(i : Int)] else som i m := by
  unfold som
  rw [somN_step]
  split
  · rw [List.map_append]; rfl
  · rfl
theorem pkN_step {O : List Sq} {i m : Nat} {q : Sq} (h : O[i]? = some q) : pkN O (i + 1) m = if m.testBit i = true then pkN O i m ++ [q] else pkN O i m := by
  have e : O.getD i (0, 0, 0) = q := by rw [List.getD, h]; rfl
  unfold pkN
  rw [somN_step]
  split
  · rw [List.map_append, List.map_cons, List.map_nil, e]
  · rfl
theorem pkN_mem {O : List Sq} {i m : Nat} (hi : i ≤ O.length) {q : Sq} (h : q ∈ pkN O i m) : q ∈ O := by
  obtain ⟨k, hk, rfl⟩ := List.mem_map.1 h
  exact getD_mem (Nat.lt_of_lt_of_le (List.mem_range.1 ((List.mem_filter.1 hk).1)) hi)
theorem mnx_snoc {L : List Sq} {q : Sq} : mnx (L ++ [q]) = min (mnx L) q.1 := by simp [mnx, List.foldl_append]
theorem mny_snoc {L : List Sq} {q : Sq} : mny (L ++ [q]) = min (mny L) q.2.1 := by simp [mny, List.foldl_append]
theorem mn_nn : ∀ (L : List Sq), (∀ q ∈ L, 0 ≤ q.1 ∧ 0 ≤ q.2.1) → (0 ≤ mnx L ∧ mnx L ≤ 1000) ∧ 0 ≤ mny L ∧ mny L ≤ 1000 := fun L => by
  refine snoc_ind (p := fun L => (∀ q ∈ L, 0 ≤ q.1 ∧ 0 ≤ q.2.1) → (0 ≤ mnx L ∧ mnx L ≤ 1000) ∧ 0 ≤ mny L ∧ mny L ≤ 1000) (fun _ => by simp [mnx, mny]) (fun L q ih h => ?_) L
  have h1 := ih fun p hp => h p (List.mem_append_left _ hp)
  have h2 := h q (by simp)
  rw [mnx_snoc, mny_snoc]
  omega
theorem beforeB_cmp : ∀ {l m : List Int}, beforeB l m = true ↔ cmpL l m < 0
  | [], [] => by simp [beforeB, cmpL]
  | [], _ :: _ => by simp [beforeB, cmpL]
  | _ :: _, [] => by simp [beforeB, cmpL]
  | a :: l, b :: m => by
    rw [beforeB, cmpL]
    by_cases e : a = b
    · subst e
      rw [if_pos rfl, if_neg fun h => h (cmp_zero.2 rfl), beforeB_cmp]
    · rw [if_neg e, if_pos fun h => e (cmp_zero.1 h), cmp_lt]
      simp
theorem rst_take {O : List Sq} {best : List Int} {m : Nat} (h1 : Cand O m) (h2 : best = [] ∨ cmpP (som O.length m) best < 0) : rst O best m = som O.length m := if_pos ⟨h1, h2⟩
theorem rst_skip {O : List Sq} {best : List Int} {m : Nat} (h : ¬ (Cand O m ∧ (best = [] ∨ cmpP (som O.length m) best < 0))) : rst O best m = best := if_neg h
theorem bit_and {G m i : Nat} (hm : m < 1048576) : binO Tryd.prog (En G) .and 3 (some (.int .i64 ((m >>> i : Nat) : Int))) (some (.int .i64 1)) = some (.int .i64 ((m >>> i &&& 1 : Nat) : Int)) :=
  bin_and (a := m >>> i) (b := 1) (by have := Nat.shiftRight_le m i; omega) (by decide)
theorem neqNil27 {P : Program} {G n c : Nat} {A : Option Addr} : binO P (En G) .neq 27 (some (.slice A n c)) (some (.slice none 0 0)) = some (.bool A.isSome) := by
  have h : evNil (En G) 27 (.slice A n c) (.slice none 0 0) = some A.isNone := by
    simp only [evNil, u27]
    cases A <;> rfl
  have hp : (plainA (.slice A n c) && plainA (.slice none 0 0)) = false := rfl
  simp only [binO, hp, h]
  cases A <;> rfl
def rb (L : List Sq) : List Int := rbest (ordSq L) (2 ^ (ordSq L).length - 2)

set_option maxRecDepth 100000 in
set_option maxHeartbeats 64000000 in
theorem refCompound_spec {G lo hi c : Nat} {L : List Sq} {A : Option Addr} {h : H} (hG : G ≤ h.next) (hhi : hi ≤ h.next) (hv : SlV h.blks lo hi 3 L.length (sqc L) (.slice A L.length c)) (hl : L.length ≤ 10) (hc : chk L = 0) :
    Spec Tryd.prog (En G) 29 [.slice A L.length c] h fun v h' => ∃ B, v = .slice B (rb L).length (rb L).length ∧ (rb L = [] → B = none) ∧ SlV h'.blks h.next h'.next 1 (rb L).length (ints (rb L)) (.slice B (rb L).length (rb L).length) := by
  refine CallsE_enter (En_known (by decide)) (En_f.trans Tryd.func29) rfl ⟨Nat.le_of_ble_eq_true rfl, by decide⟩ fun Q' hQ' => ?_
  simp only [Tryd.f29, go_sem,reduceIte,Nat.reduceEqDiff,Nat.reduceLT]
  refine CallO_f (Order_spec hG hhi hv (by omega)) (by omega) fun u h1 ph1 ⟨A2, O, hu, hpm, hsO, hs1⟩ => ?_
  subst hu
  have n1 := ph1.next
  have hol := hpm.length_eq
  obtain ⟨_, hok0, hcv⟩ := chk_zero hc
  have hOO : ordSq L = O := (srt_unique hok0 hcv.2.1 hpm hsO).symm
  have h0 : 0 < O.length := by have := hcv.1; omega
  rw [← hol] at hs1 hl ⊢
  have hok : ∀ q ∈ O, okSq q := fun q hq => hok0 q (hpm.mem_iff.1 hq)
  obtain ⟨M, hM⟩ : ∃ M, M = 2 ^ O.length := ⟨_, rfl⟩
  have hM2 : 2 ≤ M := by rw [hM]; exact Nat.pow_le_pow_right (by decide) h0 (n := 2)
  have hM3 : M ≤ 1024 := by rw [hM]; exact Nat.pow_le_pow_right (by decide) hl (n := 2)
  have hshl : binO Tryd.prog (En G) .shl 3 (some (.int .i64 1)) (some (.int .i64 (O.length : Int))) = some (.int .i64 (M : Int)) := by rw [hM]; exact bin_shl (by omega)
  have hrb : rb L = rbest O (M - 2) := by unfold rb; rw [hOO, hM]
  simp only [go_sem,reduceIte,Nat.reduceEqDiff,Nat.reduceLT]
  refine WK_loopN (fun j α h2 => ∃ (m : Nat) (B : Option Addr), m + 2 + j = M ∧ Pres h1.next h1 h2 ∧ SlV h2.blks h1.next h2.next 1 (rbest O m).length (ints (rbest O m)) (.slice B (rbest O m).length (rbest O m).length) ∧ (rbest O m = [] → B = none) ∧ α.get 3 = some (.slice A2 O.length O.length) ∧ α.get 4 = some (.slice B (rbest O m).length (rbest O m).length) ∧ α.get 5 = some (.int .i64 ((m + 1 : Nat) : Int))) (M - 2)
    ⟨0, none, by omega, Pres.refl _ _, .nil rfl rfl, fun _ => rfl, by simp only [go_sem,reduceIte,Nat.reduceEqDiff,Nat.reduceLT], by (simp only [go_sem,reduceIte,Nat.reduceEqDiff,Nat.reduceLT]) <;> rfl, by (simp only [go_sem,reduceIte,Nat.reduceEqDiff,Nat.reduceLT]) <;> rfl⟩ (by omega) ?_
  rintro J j α h2 ⟨m, B, hmj, pr, hs, hnil, e3, e4, e5⟩ hJ
  have n2 := pr.next
  obtain ⟨t, ht⟩ : ∃ t, t = m + 1 := ⟨_, rfl⟩
  rw [← ht] at e5
  by_cases hlt : (t : Int) < (M : Int) - 1
  · have hrs : rbest O t = rst O (rbest O m) t := by rw [ht, rbest]
    simp (disch := omega) only [go_sem,reduceIte,Nat.reduceEqDiff,Nat.reduceLT, e3, e4, e5, len22, hshl, wrap_i64, hlt]
    refine At_lit0 u27 i3 zero3 (by rw [size3]; rfl) (by omega) ?_
    try simp only [go_sem,reduceIte,Nat.reduceEqDiff,Nat.reduceLT]
    refine At_lit0 u22 i61 zero61 (by rw [size61]; rfl) (by omega) ?_
    simp only [go_sem,reduceIte,Nat.reduceEqDiff,Nat.reduceLT]
    refine WK_loopN (fun j2 α h3 => ∃ (i : Nat) (S P : Option Addr) (lo1 hi1 lo2 hi2 : Nat), i + j2 = O.length ∧ Pres h2.next h2 h3 ∧ SlV h3.blks lo1 hi1 1 (som i t).length (ints (som i t)) (.slice S (som i t).length (som i t).length) ∧ SlV h3.blks lo2 hi2 3 (pkN O i t).length (sqc (pkN O i t)) (.slice P (pkN O i t).length (pkN O i t).length) ∧
        (hi1 ≤ lo2 ∨ hi2 ≤ lo1) ∧ h2.next ≤ lo1 ∧ hi1 ≤ h3.next ∧ h2.next ≤ lo2 ∧ hi2 ≤ h3.next ∧ α.get 3 = some (.slice A2 O.length O.length) ∧ α.get 4 = some (.slice B (rbest O m).length (rbest O m).length) ∧ α.get 5 = some (.int .i64 (t : Int)) ∧ α.get 6 = some (.slice S (som i t).length (som i t).length) ∧ α.get 7 = some (.slice P (pkN O i t).length (pkN O i t).length) ∧ α.get 8 = some (.int .i64 (mnx (pkN O i t))) ∧ α.get 9 = some (.int .i64 (mny (pkN O i t))) ∧ α.get 10 = some (.int .i64 i)) O.length
      ⟨0, some ⟨0, 0, some 0⟩, some ⟨0, 0, some 0⟩, h2.next, h2.next, h2.next, h2.next, by omega, Pres.refl _ _, .emp rfl rfl, .emp rfl rfl, .inl (Nat.le_refl _), Nat.le_refl _, Nat.le_refl _, Nat.le_refl _, Nat.le_refl _, by simp only [go_sem,reduceIte,Nat.reduceEqDiff,Nat.reduceLT, e3], by simp only [go_sem,reduceIte,Nat.reduceEqDiff,Nat.reduceLT, e4], by simp only [go_sem,reduceIte,Nat.reduceEqDiff,Nat.reduceLT, e5], by (simp only [go_sem,reduceIte,Nat.reduceEqDiff,Nat.reduceLT]) <;> rfl, by (simp only [go_sem,reduceIte,Nat.reduceEqDiff,Nat.reduceLT]) <;> rfl, by (simp only [go_sem,reduceIte,Nat.reduceEqDiff,Nat.reduceLT]) <;> rfl, by (simp only [go_sem,reduceIte,Nat.reduceEqDiff,Nat.reduceLT]) <;> rfl, by (simp only [go_sem,reduceIte,Nat.reduceEqDiff,Nat.reduceLT]) <;> rfl⟩ (by omega) ?_
    rintro J2 j2 α2 h3 ⟨i, S, P, lo1, hi1, lo2, hi2, hij, pr3, hsS, hsP, hdj, b1, b2, b3, b4, g3, g4, g5, g6, g7, g8, g9, g10⟩ hJ2
    have n3 := pr3.next
    have hsO3 := hs1.mono (B' := h3.blks) fun b _ hb => (pr3.get b (by omega)).trans (pr.get b (by omega))
    have hsl := som_le (i := i) (m := t)
    have hnN : binO Tryd.prog (En G) .neq 27 (some (.slice none 0 0)) (some (.slice none 0 0)) = some (.bool false) := neqNil27
    have hnS : ∀ x n c, binO Tryd.prog (En G) .neq 27 (some (.slice (some x) n c)) (some (.slice none 0 0)) = some (.bool true) := fun x n c => neqNil27
    have hpl := pkN_len (O := O) (i := i) (m := t)
    by_cases hlt2 : (i : Int) < (O.length : Int)
    · obtain ⟨q, hq⟩ : ∃ q, O[i]? = some q := ⟨_, List.getElem?_eq_getElem (show i < O.length by omega)⟩
      obtain ⟨qa1, qa2, ⟨qa3, qa4⟩, qa5, qa6⟩ := hok q (List.mem_of_getElem? hq)
      have hshr : binO Tryd.prog (En G) .shr 3 (some (.int .i64 (t : Int))) (some (.int .i64 (i : Int))) = some (.int .i64 ((t >>> i : Nat) : Int)) := bin_shr (by omega)
      have hand := bit_and (G := G) (m := t) (i := i) (by omega)
      by_cases hb : t.testBit i = true
      · have hd : decide (((t >>> i &&& 1 : Nat) : Int) = 1) = true := tb_int.trans hb
        have eS := som_step (i := i) (m := t)
        have eP := pkN_step (m := t) hq
        rw [if_pos hb] at eS eP
        simp (disch := omega) only [go_sem,reduceIte,Nat.reduceEqDiff,Nat.reduceLT, g3, g4, g5, g6, g7, g8, g9, g10, len22, hlt2, hshr, hand, hd]
        have hsS' := hsS
        refine WK_regionD 10 3 ⟨by kernel_rfl, by kernel_rfl, by kernel_rfl, by kernel_rfl⟩ rfl rfl ?_
        simp (disch := omega) only [go_sem,reduceIte,Nat.reduceEqDiff,Nat.reduceLT, g3, g4, g5, g6, g7, g8, g9, g10]
        refine At_lit (vs := [(0, .int .i64 (i : Int))]) (cs := #[.int .i64 (i : Int)]) u27 i3 zero3 (by rw [size3]; rfl) (by simp only [go_sem,reduceIte,Nat.reduceEqDiff,Nat.reduceLT]) (by rw [size3]; rfl) (by omega) fun h4 hn4 => ?_
        rw [size3] at hn4
        have n4 := hn4.next
        have hsx : SlV h4.blks h3.next h4.next 1 1 [.int .i64 (i : Int)] (.slice (some ⟨h3.next, 0, none⟩) 1 1) := hn4.slv rfl
        have hsS4 := hsS.mono (B' := h4.blks) fun b _ hb => by rw [hn4.get, if_neg (by omega)]
        have ob : ∀ y, blkOf (.slice S (som i t).length (som i t).length) = some y → lo1 ≤ y ∧ y < hi1 := fun y hy => ⟨hsS.blk y hy, blk_lt hsS y hy.symm⟩
        simp only [go_sem,reduceIte,Nat.reduceEqDiff,Nat.reduceLT]
        refine At_append (lo := lo1) (hi := hi1) (lo2 := h3.next) (hi2 := h4.next) (sl := (som i t).length) (sc := (som i t).length) (m := 1) (L := ints (som i t)) (M := [.int .i64 (i : Int)]) (A := S) (v := .slice (some ⟨h3.next, 0, none⟩) 1 1) u27 u27 i3 zero3 (by rw [size3, bytes3]; rfl) (by simp only [go_sem,reduceIte,Nat.reduceEqDiff,Nat.reduceLT]) (by rw [size3]; exact hsS4) (by omega) (by rw [En_G]; omega) (by simp only [go_sem,reduceIte,Nat.reduceEqDiff,Nat.reduceLT]) (by rw [size3]; exact hsx) (by omega) (by omega) rfl (by omega) fun h5 ha5 => ?_
        rw [size3, show ints (som i t) ++ [Value.int .i64 (i : Int)] = ints (som (i + 1) t) by rw [eS]; simp [ints]] at ha5
        have n5 : h5.next = h4.next + 1 := ha5.next
        have w5 : h2.next ≤ h5.wm := by
          have := ha5.wm h2.next fun y hy => by have := ob y hy; omega
          have e : (st true h4).wm = h4.next := rfl
          rw [e] at this
          omega
        have g5' : ∀ y, y < h3.next → (y < lo1 ∨ hi1 ≤ y) → h5.blks.get y = h3.blks.get y := fun y hy hy2 => by
          rw [ha5.get]
          have e1 : ¬ y = (st true h4).next := by show ¬ y = h4.next; omega
          rw [if_neg e1, if_neg fun e2 => by have := ob y e2; omega]
          show h4.blks.get y = _
          rw [hn4.get, if_neg (by omega)]
        have hl1 : (som (i + 1) t).length = (som i t).length + 1 := by rw [eS]; simp
        have hs5 := ha5.slv (n := (som (i + 1) t).length) (c := (som (i + 1) t).length) (by rw [ints_len, Nat.mul_one])
        rw [← hl1]
        have hsO5 := hsO3.mono (B' := h5.blks) fun b _ hb => g5' b (by omega) (by omega)
        have hsO4 := hsO3.mono (B' := h4.blks) fun b _ hb => by rw [hn4.get, if_neg (by omega)]
        have hsP5 := hsP.mono (B' := h5.blks) fun b hb1 hb2 => g5' b (by omega) (by omega)
        simp only [go_sem,reduceIte,Nat.reduceEqDiff,Nat.reduceLT]
        intro wm hwm
        obtain ⟨bO, oO, rfl, _, _, _⟩ := hsO5.at_ (by omega)
        have lq5 : loadO (En G) 61 h5.blks (some (.pointer (some ⟨bO, oO + i * 3, none⟩))) = some (sqv q) := (hsO5.sq_at (G := G) hq rfl).1
        have lq4 : loadO (En G) 61 h4.blks (some (.pointer (some ⟨bO, oO + i * 3, none⟩))) = some (sqv q) := (hsO4.sq_at (G := G) hq rfl).1
        simp (maxSteps := 3000000) (disch := omega) only [go_sem,reduceIte,Nat.reduceEqDiff,Nat.reduceLT, g3, g7, g10, idxA22, Int.toNat_natCast, lq5]
        refine At_lit (vs := [(0, sqv q)]) (cs := #[.int .i64 q.1, .int .i64 q.2.1, .int .i64 q.2.2]) u22 i61 zero61 (by rw [size61]; rfl) (by simp only [go_sem,reduceIte,Nat.reduceEqDiff,Nat.reduceLT]) (by rw [size61]; rfl) (by omega) fun h7 hn7 => ?_
        rw [size61] at hn7
        have n7 : h7.next = h5.next + 1 := hn7.next
        have w7 : h7.wm = wm := hn7.wm
        have g7' : ∀ y, y < h5.next → h7.blks.get y = h5.blks.get y := fun y hy => by
          rw [hn7.get]
          have e1 : ¬ y = (H.mk h5.blks h5.next wm).next := by show ¬ y = h5.next; omega
          rw [if_neg e1]
        have lq7 : loadO (En G) 61 h7.blks (some (.pointer (some ⟨bO, oO + i * 3, none⟩))) = some (sqv q) := ((hsO5.mono (B' := h7.blks) fun b _ hb => g7' b (by omega)).sq_at (G := G) hq rfl).1
        have hsy : SlV h7.blks h5.next h7.next 3 1 (sqc [q]) (.slice (some ⟨h5.next, 0, none⟩) 1 1) := hn7.slv rfl
        have hsP7 := hsP5.mono (B' := h7.blks) fun b hb1 hb2 => g7' b (by omega)
        have hs7 := hs5.mono (B' := h7.blks) fun b hb1 hb2 => g7' b (by omega)
        simp only [go_sem,reduceIte,Nat.reduceEqDiff,Nat.reduceLT]
        refine ⟨dirtyOK_of (Ls := [8]) (by kernel_rfl) (fun i' hi' => by
          obtain rfl : i' = 8 := by simpa using hi'
          refine ⟨_, 61, .tmp 41, bO, oO + i * 3, sqv q, rfl, rfl, rfl, by simp only [go_sem,reduceIte,Nat.reduceEqDiff,Nat.reduceLT], lq4, lq7, by simp [sameO, sqv, sameL, sameA, tri]⟩), ?_⟩
        try simp only [go_sem,reduceIte,Nat.reduceEqDiff,Nat.reduceLT]
        refine At_append (lo := lo2) (hi := hi2) (lo2 := h5.next) (hi2 := h7.next) (sl := (pkN O i t).length) (sc := (pkN O i t).length) (m := 1) (L := sqc (pkN O i t)) (M := sqc [q]) (A := P) (v := .slice (some ⟨h5.next, 0, none⟩) 1 1) u22 u22 i61 zero61 (by rw [size61, bytes61]; rfl) (by simp only [go_sem,reduceIte,Nat.reduceEqDiff,Nat.reduceLT]) (by rw [size61]; exact hsP7) (by omega) (by rw [En_G]; omega) (by simp only [go_sem,reduceIte,Nat.reduceEqDiff,Nat.reduceLT]) (by rw [size61]; exact hsy) (by omega) (by omega) sqc_one (by omega) fun h8 ha8 => ?_
        rw [size61, ← sqc_app, ← eP] at ha8
        have n8 := ha8.next
        have hl2 : (pkN O (i + 1) t).length = (pkN O i t).length + 1 := by rw [eP]; simp
        have hp8 := ha8.slv (n := (pkN O (i + 1) t).length) (c := (pkN O (i + 1) t).length) sqc_len
        have obP : ∀ y, blkOf (.slice P (pkN O i t).length (pkN O i t).length) = some y → lo2 ≤ y ∧ y < hi2 := fun y hy => ⟨hsP.blk y hy, blk_lt hsP y hy.symm⟩
        rw [← hl2]
        have f8 : ∀ y, y < h7.next → (y < lo2 ∨ hi2 ≤ y) → h8.blks.get y = h7.blks.get y := fun y hy hy2 => by
          rw [ha8.get, if_neg (by omega), if_neg fun e2 => by have := obP y e2; omega]
        have hs8 := hs7.mono (B' := h8.blks) fun b hb1 hb2 => f8 b (by omega) (by have e : (st true h4).next = h4.next := rfl; omega)
        have pr8 : Pres h2.next h3 h8 := ⟨by omega, by
            have := ha8.wm h2.next fun y hy => by have := obP y hy; omega
            have := hn4.wm
            have e : (st true h4).wm = h4.next := rfl
            omega, fun y hy => by rw [f8 y (by omega) (by omega), g7' y (by omega), g5' y (by omega) (by omega)]⟩
        have hsO8 := hsO3.mono (B' := h8.blks) fun b _ hb => pr8.get b (by omega)
        obtain ⟨_, lq0, lq1, _⟩ := hsO8.sq_at (G := G) hq rfl
        try simp only [go_sem,reduceIte,Nat.reduceEqDiff,Nat.reduceLT]
        refine WK_regionT 15 ⟨by kernel_rfl, by kernel_rfl, by kernel_rfl⟩ ?_
        simp (maxSteps := 3000000) (disch := omega) only [go_sem,reduceIte,Nat.reduceEqDiff,Nat.reduceLT, g3, g4, g5, g6, g7, g8, g9, g10, idxA22, Int.toNat_natCast, fld61_0, fld61_1, Nat.add_zero, load3, lq0, lq1, wrap_i64]
        exact hJ2 (j2 - 1) _ _ (by omega) ⟨i + 1, some ⟨h4.next, 0, none⟩, some ⟨h7.next, 0, none⟩, h4.next, h5.next, h7.next, h8.next, by omega, pr3.trans pr8, hs8, hp8, .inl (by omega), by omega, by omega, by omega, Nat.le_refl _, by simp only [go_sem,reduceIte,Nat.reduceEqDiff,Nat.reduceLT, g3], by simp only [go_sem,reduceIte,Nat.reduceEqDiff,Nat.reduceLT, g4], by simp only [go_sem,reduceIte,Nat.reduceEqDiff,Nat.reduceLT, g5], by (simp only [go_sem,reduceIte,Nat.reduceEqDiff,Nat.reduceLT]) <;> rfl, by (simp only [go_sem,reduceIte,Nat.reduceEqDiff,Nat.reduceLT]) <;> rfl, by (simp only [go_sem,reduceIte,Nat.reduceEqDiff,Nat.reduceLT]) <;> (rw [eP, mnx_snoc]), by (simp only [go_sem,reduceIte,Nat.reduceEqDiff,Nat.reduceLT]) <;> (rw [eP, mny_snoc]), by (simp only [go_sem,reduceIte,Nat.reduceEqDiff,Nat.reduceLT]) <;> rfl⟩
      · have hd : decide (((t >>> i &&& 1 : Nat) : Int) = 1) = false := by rw [tb_int]; exact Bool.eq_false_iff.2 hb
        have eS := som_step (i := i) (m := t)
        have eP := pkN_step (m := t) hq
        rw [if_neg hb] at eS eP
        simp (disch := omega) only [go_sem,reduceIte,Nat.reduceEqDiff,Nat.reduceLT, g3, g4, g5, g6, g7, g8, g9, g10, len22, hlt2, hshr, hand, hd, wrap_i64]
        exact hJ2 (j2 - 1) _ _ (by omega) ⟨i + 1, S, P, lo1, hi1, lo2, hi2, by omega, pr3, by rw [eS]; exact hsS, by rw [eP]; exact hsP, hdj, b1, b2, b3, b4, by simp only [go_sem,reduceIte,Nat.reduceEqDiff,Nat.reduceLT, g3], by simp only [go_sem,reduceIte,Nat.reduceEqDiff,Nat.reduceLT, g4], by simp only [go_sem,reduceIte,Nat.reduceEqDiff,Nat.reduceLT, g5], by rw [eS]; simp only [go_sem,reduceIte,Nat.reduceEqDiff,Nat.reduceLT, g6], by rw [eP]; simp only [go_sem,reduceIte,Nat.reduceEqDiff,Nat.reduceLT, g7], by rw [eP]; simp only [go_sem,reduceIte,Nat.reduceEqDiff,Nat.reduceLT, g8], by rw [eP]; simp only [go_sem,reduceIte,Nat.reduceEqDiff,Nat.reduceLT, g9], by (simp only [go_sem,reduceIte,Nat.reduceEqDiff,Nat.reduceLT]) <;> rfl⟩
    · obtain rfl : i = O.length := by omega
      have prh : Pres h1.next h1 h3 := pr.trans (pr3.le (by omega))
      have hs3 := hs.mono (B' := h3.blks) fun b _ hb => pr3.get b hb
      have hokp : ∀ q ∈ pkN O O.length t, okSq q := fun q hq => hok q (pkN_mem (Nat.le_refl _) hq)
      have hmn := mn_nn (pkN O O.length t) fun q hq => by obtain ⟨_, _, ⟨a3, _⟩, a5, _⟩ := hokp q hq; exact ⟨a3, a5⟩
      have hrl : (rbest O m).length ≤ O.length := by
        rcases rb_cand (O := O) m with g | ⟨m', _, _, g, _⟩
        · rw [g]; simp
        · rw [g]; exact som_le
      -- nothing better
      have skip : ∀ (α' : Tr Value) (h6 : H), rbest O t = rbest O m → Pres h3.next h3 h6 → α'.get 3 = some (.slice A2 O.length O.length) → α'.get 4 = some (.slice B (rbest O m).length (rbest O m).length) → α'.get 5 = some (.int .i64 ((t + 1 : Nat) : Int)) → J α' h6 := fun α' h6 er p6 a3 a4 a5 => by
        have n6 := p6.next
        refine hJ (j - 1) _ _ (by omega) ⟨t, B, by omega, prh.trans (p6.le (by omega)), ?_, fun e => hnil (er ▸ e), a3, by rw [er]; exact a4, a5⟩
        rw [er]
        exact (hs3.mono fun b _ hb => p6.get b (by omega)).wide (Nat.le_refl _) (by omega)
      -- a better one
      have take : ∀ (α' : Tr Value) (h6 : H), Cand O t → (rbest O m = [] ∨ cmpP (som O.length t) (rbest O m) < 0) → Pres h3.next h3 h6 → α'.get 3 = some (.slice A2 O.length O.length) → α'.get 4 = some (.slice S (som O.length t).length (som O.length t).length) → α'.get 5 = some (.int .i64 ((t + 1 : Nat) : Int)) → J α' h6 := fun α' h6 c1 c2 p6 a3 a4 a5 => by
        have n6 := p6.next
        have er : rbest O t = som O.length t := hrs.trans (rst_take c1 c2)
        refine hJ (j - 1) _ _ (by omega) ⟨t, S, by omega, prh.trans (p6.le (by omega)), ?_, fun e => ?_, a3, by rw [er]; exact a4, a5⟩
        · rw [er]
          exact (hsS.mono fun b _ hb => p6.get b (by omega)).wide (by omega) (by omega)
        · rw [er] at e
          have := c1.1
          rw [e] at this
          exact absurd this (by decide)
      by_cases k2 : ((som O.length t).length : Int) < 2
      · simp (maxSteps := 3000000) (disch := omega) only [go_sem,reduceIte,Nat.reduceEqDiff,Nat.reduceLT, g3, g4, g5, g6, g7, g8, g9, g10, len22, len27, hnN, hnS, hlt2, k2, wrap_i64]
        exact skip _ _ (hrs.trans (rst_skip fun c => by have := c.1.1; omega)) (Pres.refl _ _) (by simp only [go_sem,reduceIte,Nat.reduceEqDiff,Nat.reduceLT, g3]) (by simp only [go_sem,reduceIte,Nat.reduceEqDiff,Nat.reduceLT, g4]) (by (simp only [go_sem,reduceIte,Nat.reduceEqDiff,Nat.reduceLT]) <;> rfl)
      · by_cases kb : rbest O m = []
        · obtain rfl := hnil kb
          have kz : (rbest O m).length = 0 := by rw [kb]; rfl
          have g4' : α2.get 4 = some (.slice none 0 0) := by rw [g4, kz]
          simp (maxSteps := 3000000) (disch := omega) only [go_sem,reduceIte,Nat.reduceEqDiff,Nat.reduceLT, g3, g4', g5, g6, g7, g8, g9, g10, len22, len27, hnN, hnS, hlt2, k2]
          refine CallO_f (Covers_spec (by omega) (by omega) hsP (by omega) hokp hmn.1 hmn.2) (by omega) fun u h6 p6 ⟨r, hu, hr⟩ => ?_
          subst hu
          have n6 := p6.next
          have p36 : Pres h3.next h3 h6 := p6
          cases r with
          | true =>
            have hcand : Cand O t := ⟨by omega, hr.1 rfl⟩
            simp (maxSteps := 3000000) (disch := omega) only [go_sem,reduceIte,Nat.reduceEqDiff,Nat.reduceLT, g3, g4, g5, g6, g7, g8, g9, g10, wrap_i64]
            exact take _ _ hcand (.inl kb) p36 (by simp only [go_sem,reduceIte,Nat.reduceEqDiff,Nat.reduceLT, g3]) (by simp only [go_sem,reduceIte,Nat.reduceEqDiff,Nat.reduceLT]) (by (simp only [go_sem,reduceIte,Nat.reduceEqDiff,Nat.reduceLT]) <;> rfl)
          | false =>
            have hcand : ¬ Cand O t := fun c => by have := hr.2 c.2; cases this
            simp (maxSteps := 3000000) (disch := omega) only [go_sem,reduceIte,Nat.reduceEqDiff,Nat.reduceLT, g3, g4, g5, g6, g7, g8, g9, g10, wrap_i64]
            exact skip _ _ (hrs.trans (rst_skip fun c => hcand c.1)) p36 (by simp only [go_sem,reduceIte,Nat.reduceEqDiff,Nat.reduceLT, g3]) (by simp only [go_sem,reduceIte,Nat.reduceEqDiff,Nat.reduceLT, g4]) (by (simp only [go_sem,reduceIte,Nat.reduceEqDiff,Nat.reduceLT]) <;> rfl)
        · have kz : 0 < (rbest O m).length := List.length_pos_iff.2 kb
          obtain ⟨bB, oB, rfl, _, _, _⟩ := hs3.at_ kz
          by_cases k3 : ((rbest O m).length : Int) < ((som O.length t).length : Int)
          · simp (maxSteps := 3000000) (disch := omega) only [go_sem,reduceIte,Nat.reduceEqDiff,Nat.reduceLT, g3, g4, g5, g6, g7, g8, g9, g10, len22, len27, hnN, hnS, hlt2, k2, k3, wrap_i64]
            exact skip _ _ (hrs.trans (rst_skip fun c => by
              rcases c.2 with e | e
              · exact kb e
              · rw [cmpP_lt] at e; omega)) (Pres.refl _ _) (by simp only [go_sem,reduceIte,Nat.reduceEqDiff,Nat.reduceLT, g3]) (by simp only [go_sem,reduceIte,Nat.reduceEqDiff,Nat.reduceLT, g4]) (by (simp only [go_sem,reduceIte,Nat.reduceEqDiff,Nat.reduceLT]) <;> rfl)
          · by_cases k4 : ((som O.length t).length : Int) = ((rbest O m).length : Int)
            · have d4 : decide (((som O.length t).length : Int) = ((rbest O m).length : Int)) = true := decide_eq_true k4
              simp (maxSteps := 3000000) (disch := omega) only [go_sem,reduceIte,Nat.reduceEqDiff,Nat.reduceLT, g3, g4, g5, g6, g7, g8, g9, g10, len22, len27, hnN, hnS, hlt2, k2, k3, d4]
              refine CallO_f (before_spec (l := som O.length t) (m := rbest O m) hsS hs3 (by omega) (by omega)) (by omega) fun u h4 p4 hu => ?_
              subst hu
              have n4 := p4.next
              by_cases kc : cmpL (som O.length t) (rbest O m) < 0
              · have hB : beforeB (som O.length t) (rbest O m) = true := beforeB_cmp.2 kc
                simp (maxSteps := 3000000) (disch := omega) only [go_sem,reduceIte,Nat.reduceEqDiff,Nat.reduceLT, g3, g4, g5, g6, g7, g8, g9, g10, len22, len27, hnN, hnS, hlt2, k2, k3, d4, hB]
                refine CallO_f (Covers_spec (by omega) (by omega) (hsP.mono fun b _ hb => p4.get b (by omega)) (by omega) hokp hmn.1 hmn.2) (by omega) fun u h6 p6 ⟨r, hu, hr⟩ => ?_
                subst hu
                have n6 := p6.next
                have p36 : Pres h3.next h3 h6 := p4.trans (p6.le (by omega))
                cases r with
                | true =>
                  have hcand : Cand O t := ⟨by omega, hr.1 rfl⟩
                  simp (maxSteps := 3000000) (disch := omega) only [go_sem,reduceIte,Nat.reduceEqDiff,Nat.reduceLT, g3, g4, g5, g6, g7, g8, g9, g10, wrap_i64]
                  exact take _ _ hcand (.inr (cmpP_lt.2 (.inr ⟨by omega, kc⟩))) p36 (by simp only [go_sem,reduceIte,Nat.reduceEqDiff,Nat.reduceLT, g3]) (by simp only [go_sem,reduceIte,Nat.reduceEqDiff,Nat.reduceLT]) (by (simp only [go_sem,reduceIte,Nat.reduceEqDiff,Nat.reduceLT]) <;> rfl)
                | false =>
                  have hcand : ¬ Cand O t := fun c => by have := hr.2 c.2; cases this
                  simp (maxSteps := 3000000) (disch := omega) only [go_sem,reduceIte,Nat.reduceEqDiff,Nat.reduceLT, g3, g4, g5, g6, g7, g8, g9, g10, wrap_i64]
                  exact skip _ _ (hrs.trans (rst_skip fun c => hcand c.1)) p36 (by simp only [go_sem,reduceIte,Nat.reduceEqDiff,Nat.reduceLT, g3]) (by simp only [go_sem,reduceIte,Nat.reduceEqDiff,Nat.reduceLT, g4]) (by (simp only [go_sem,reduceIte,Nat.reduceEqDiff,Nat.reduceLT]) <;> rfl)
              · have hB : beforeB (som O.length t) (rbest O m) = false := Bool.eq_false_iff.2 fun e => kc (beforeB_cmp.1 e)
                simp (maxSteps := 3000000) (disch := omega) only [go_sem,reduceIte,Nat.reduceEqDiff,Nat.reduceLT, g3, g4, g5, g6, g7, g8, g9, g10, len22, len27, hnN, hnS, hlt2, k2, k3, d4, hB, wrap_i64]
                exact skip _ _ (hrs.trans (rst_skip fun c => by
                  rcases c.2 with e | e
                  · exact kb e
                  · rw [cmpP_lt] at e; omega)) p4 (by simp only [go_sem,reduceIte,Nat.reduceEqDiff,Nat.reduceLT, g3]) (by simp only [go_sem,reduceIte,Nat.reduceEqDiff,Nat.reduceLT, g4]) (by (simp only [go_sem,reduceIte,Nat.reduceEqDiff,Nat.reduceLT]) <;> rfl)
            · simp (maxSteps := 3000000) (disch := omega) only [go_sem,reduceIte,Nat.reduceEqDiff,Nat.reduceLT, g3, g4, g5, g6, g7, g8, g9, g10, len22, len27, hnN, hnS, hlt2, k2, k3, k4]
              refine CallO_f (Covers_spec (by omega) (by omega) hsP (by omega) hokp hmn.1 hmn.2) (by omega) fun u h6 p6 ⟨r, hu, hr⟩ => ?_
              subst hu
              have n6 := p6.next
              have p36 : Pres h3.next h3 h6 := p6
              cases r with
              | true =>
                have hcand : Cand O t := ⟨by omega, hr.1 rfl⟩
                simp (maxSteps := 3000000) (disch := omega) only [go_sem,reduceIte,Nat.reduceEqDiff,Nat.reduceLT, g3, g4, g5, g6, g7, g8, g9, g10, wrap_i64]
                exact take _ _ hcand (.inr (cmpP_lt.2 (.inl (by omega)))) p36 (by simp only [go_sem,reduceIte,Nat.reduceEqDiff,Nat.reduceLT, g3]) (by simp only [go_sem,reduceIte,Nat.reduceEqDiff,Nat.reduceLT]) (by (simp only [go_sem,reduceIte,Nat.reduceEqDiff,Nat.reduceLT]) <;> rfl)
              | false =>
                have hcand : ¬ Cand O t := fun c => by have := hr.2 c.2; cases this
                simp (maxSteps := 3000000) (disch := omega) only [go_sem,reduceIte,Nat.reduceEqDiff,Nat.reduceLT, g3, g4, g5, g6, g7, g8, g9, g10, wrap_i64]
                exact skip _ _ (hrs.trans (rst_skip fun c => hcand c.1)) p36 (by simp only [go_sem,reduceIte,Nat.reduceEqDiff,Nat.reduceLT, g3]) (by simp only [go_sem,reduceIte,Nat.reduceEqDiff,Nat.reduceLT, g4]) (by (simp only [go_sem,reduceIte,Nat.reduceEqDiff,Nat.reduceLT]) <;> rfl)
  · obtain rfl : m = M - 2 := by omega
    simp (disch := omega) only [go_sem,reduceIte,Nat.reduceEqDiff,Nat.reduceLT, e3, e4, e5, len22, hshl, wrap_i64, hlt]
    refine hQ' _ _ ⟨ph1.trans (pr.le (by omega)), B, ?_⟩
    rw [hrb]
    exact ⟨rfl, hnil, hs.wide (by omega) (Nat.le_refl _)⟩
end
end Go.Proofs.YtnhbkoeomefkdaaDoor.Ev.L

