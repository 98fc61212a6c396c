/- The law StitchFree. -/
import Derived.Test.YthankillfhmfkaaGreatDoorPmsJ1
import Derived.Test.YthankillfhmfkaaGreatDoorPmsD3
import Derived.Test.YthankillfhmfkaaGreatDoorPmHH
import Derived.Test.YthankillfhmfkaaGreatDoorPmFr
set_option linter.unusedSimpArgs false
set_option linter.unusedVariables false
namespace Go.Proofs.YthankillfhmfkaaGreatDoor.Ev
open Go Go.Proofs Go.Lm
noncomputable section
theorem pc_nil (a b : Nat) : pc [] a b = false := rfl
theorem pc_nilF : pc [] = fun _ _ => false := rfl
theorem pc_in {ps : List (Int × Int)} {k : Nat} (h : ∀ x y : Nat, y < x → x < k → ((x : Int), (y : Int)) ∈ ps) (a b : Nat) (ha : a < k) (hb : b < k) (hab : a ≠ b) : pc ps a b = true := by
  rw [pc, List.any_eq_true]
  rcases Nat.lt_or_ge b a with h1 | h1
  · exact ⟨_, h a b h1 ha, by simp⟩
  · exact ⟨_, h b a (by omega) hb, by simp⟩
theorem okT_nil {k : Nat} (h1 : 1 ≤ k) (h6 : k ≤ 6) : okT k [] = true := okT_iff.2 ⟨⟨by omega, by omega, by simp⟩, fun p hp => by cases hp⟩
theorem zero72 : inf72.zero = some (.agg #[.int .u8 0, .int .u16 0]) := by kernel_rfl
theorem build72 {G : Nat} {a b : Int} : buildO (En G) 72 (some [(0, .int .u8 a), (1, .int .u16 b)]) = some (.agg #[.int .u8 a, .int .u16 b]) := by
  have hu : (En G).u 72 = some (.struct #[_, _]) := us72.trans Tryz.underlying72
  have hz : okConst (.agg #[.int .u8 0, .int .u16 0]) = true := rfl
  simp only [buildO, evBuild, i72, hu, zero72, places, i5, size5, i70, size70, hz, if_true]
  rfl
theorem pow6 {k n : Nat} (hk : k ≤ 6) (hn : n ≤ 60) : k ^ n ≤ 6 ^ 60 := Nat.le_trans (Nat.pow_le_pow_left hk _) (Nat.pow_le_pow_right (by omega) hn)
theorem sd6 {x : Nat} (h : x ≤ 6 ^ 60) : Sd x := ⟨100, by omega, Nat.lt_of_le_of_lt h (Nat.le_of_ble_eq_true rfl)⟩
theorem sd_one : Sd (1 : Int).natAbs := ⟨1, by omega, by decide⟩
theorem dec6 {x : Nat} (h : x ≤ 6 ^ 60) : (dec x).length ≤ 4000 := by
  have : x < 10 ^ (100 + 1) := Nat.lt_of_le_of_lt h (Nat.le_of_ble_eq_true rfl)
  have := dec_len this
  omega
theorem isNum_whole {x : Nat} (h : x ≤ 6 ^ 60) : isNum (decZ (x : Int)) (x : Int) 1 = true := by
  have e1 : rt (x : Int) (1 : Int).natAbs = x := by rw [show (1 : Int).natAbs = 1 from rfl, rb_one.2, Int.natAbs_natCast]
  have e2 : rb (x : Int) (1 : Int).natAbs = 1 := rb_one.1
  have d : decide ((x : Int) < 0) = false := decide_eq_false (by omega)
  have hl := dec6 h
  have h1 : (dec 1).length ≤ 4000 := by rw [dec_small (by omega)]; decide
  unfold isNum
  rw [e1, e2, d]
  simp [numOK, hl, h1, numT, decZ]
set_option maxHeartbeats 16000000 in
set_option maxRecDepth 100000 in
theorem law_StitchFree {G lo1 hi1 n1 c1 lo2 hi2 n2 c2 : Nat} {K M : Int} {A1 A2 : Option Addr} {x y : List UInt8} {h0 : H} (h4 : 4 ≤ h0.next) (hG : G ≤ h0.next) (hG4 : 4 ≤ G) (ht : TabsIn tabs h0.blks) (hK : 0 ≤ K) (hK2 : K ≤ 255) (hM : 0 ≤ M) (hM2 : M ≤ 255)
    (hv1 : SlV h0.blks lo1 hi1 1 n1 (byts x) (.slice A1 n1 c1)) (hhi1 : hi1 ≤ h0.next) (hv2 : SlV h0.blks lo2 hi2 1 n2 (byts y) (.slice A2 n2 c2)) (hhi2 : hi2 ≤ h0.next) (hn1 : n1 < 4611686018427387904) (hn2 : n2 < 4611686018427387904) :
    Spec Tryz.prog (En G) 17 [.agg #[.int .u8 K, .int .u8 M], .slice A1 n1 c1, .slice A2 n2 c2] h0 fun v _ => v = .bool true := by
  refine CallsE_enter (En_known (by decide)) (En_f.trans Tryz.func17) rfl ⟨Nat.le_of_ble_eq_true rfl, by decide⟩ fun Q' hQ' => ?_
  simp (disch := omega) only [Tryz.f17, go_sem,reduceIte,Nat.reduceEqDiff,Nat.reduceLT]
  refine At_box (v := .agg #[.int .u8 K, .int .u8 M]) (by simp only [go_sem,reduceIte,Nat.reduceEqDiff,Nat.reduceLT]) (by omega) fun h1 hnh1 => ?_
  have nh1 := hnh1.next
  have ph1 : Pres h0.next h0 h1 := hnh1.pres (Nat.le_refl _)
  have x_z : Var h1.blks h0.next [.int .u8 K, .int .u8 M] := hnh1.var
  have pr : Pres h0.next h0 h1 := ph1
  have lz0 : loadv h1.blks h0.next 0 = some (.int .u8 K) := by rw [x_z.load (by simp)]; rfl
  have lz1 : loadv h1.blks h0.next 1 = some (.int .u8 M) := by rw [x_z.load (by simp)]; rfl
  have htm : K.tmod 6 = K % 6 := Int.tmod_eq_emod_of_nonneg hK
  have htm2 : M.tmod 61 = M % 61 := Int.tmod_eq_emod_of_nonneg hM
  obtain ⟨k, hk⟩ : ∃ k : Nat, K % 6 + 1 = (k : Int) := Int.eq_ofNat_of_zero_le (by omega)
  obtain ⟨m, hm⟩ : ∃ m : Nat, M % 61 = (m : Int) := Int.eq_ofNat_of_zero_le (by omega)
  have k1 : 1 ≤ k := by omega
  have k6 : k ≤ 6 := by omega
  have hx1 : SlV h1.blks lo1 hi1 1 n1 (byts x) (.slice A1 n1 c1) := hv1.mono fun b _ hb => pr.get b (by omega)
  have hy1 : SlV h1.blks lo2 hi2 1 n2 (byts y) (.slice A2 n2 c2) := hv2.mono fun b _ hb => pr.get b (by omega)
  try simp (disch := omega) only [go_sem,reduceIte,Nat.reduceEqDiff,Nat.reduceLT]
  refine WK_regionT 5 ⟨by kernel_rfl, by kernel_rfl, by kernel_rfl⟩ ?_
  simp (maxSteps := 400000) (disch := omega) only [go_sem,reduceIte,Nat.reduceEqDiff,Nat.reduceLT, idxP88, load5, Int.toNat_zero, Int.reduceToNat, Nat.zero_mul, Nat.one_mul, Nat.mul_one, Nat.add_zero, Nat.zero_add, lz0, lz1, conv53z, htm, htm2, wrap_i64, hk, hm]
  refine CallO_same (mkseam_spec (k := k) (mo := 20) hx1 (by omega) (by omega) (by omega) (by omega)) (by omega) fun u hu => ?_
  obtain ⟨s, rfl, hs, sl⟩ := hu
  simp (disch := omega) only [go_sem,reduceIte,Nat.reduceEqDiff,Nat.reduceLT]
  refine CallO_same (mkseam_spec (k := k) (mo := 20) hy1 (by omega) (by omega) (by omega) (by omega)) (by omega) fun u hu => ?_
  obtain ⟨t, rfl, ht', tl⟩ := hu
  have hT := okT_nil k1 k6
  have hs0 : lst (pc []) k s = s := lst_none pc_nil s hs
  have ht0 : lst (pc []) k t = t := lst_none pc_nil t ht'
  simp (disch := omega) only [go_sem,reduceIte,Nat.reduceEqDiff,Nat.reduceLT]
  refine CallO_f (equal_spec (lo := 0) (hi := 0) (n := 0) (c := 0) (A := none) (k := (k : Int)) (ps := []) (s := s) (t := t) (by omega) (.nil rfl rfl) (Nat.zero_le _) (by omega) (by omega) (by omega)) (by omega) fun w2 h2 ph2 hw2 => ?_
  have nh2 := ph2.next
  replace x_z := x_z.mono (B' := h2.blks) (ph2.get _ (by omega))
  replace pr := pr.trans (ph2.le (by omega))
  rw [chk_two hT hs ht' (by omega) (by omega), Int.toNat_natCast, hs0, ht0] at hw2
  obtain rfl : w2 = .tuple #[.bool (decide (s = t)), .int .i64 0] := by
    rcases hw2 with ⟨h, _⟩ | ⟨_, h⟩
    · exact absurd rfl h
    · exact h
  simp (disch := omega) only [go_sem,reduceIte,Nat.reduceEqDiff,Nat.reduceLT]
  have ht2 := ht.pres pr (fun x hx => by have := tabs_lt x hx; omega)
  refine CallO_f (Count_spec (lo := 0) (hi := 0) (n := 0) (c := 0) (A := none) (k := (k : Int)) (z := (m : Int)) (ps := []) (by omega) hG4 ht2 (.nil rfl rfl) (Nat.zero_le _) (by omega)) (by omega) fun w3 h3 ph3 hw3 => ?_
  have nh3 := ph3.next
  replace x_z := x_z.mono (B' := h3.blks) (ph3.get _ (by omega))
  replace pr := pr.trans (ph3.le (by omega))
  rw [Int.toNat_natCast, Int.toNat_natCast, pc_nilF, clq_none k k1 k6, cnt_pow] at hw3
  obtain rfl : w3 = .tuple #[strV (decZ ((k ^ m : Nat) : Int)), .int .i64 0] := by
    rcases hw3 with ⟨h, _⟩ | ⟨_, _, _, h⟩
    · rcases h with h | h | h
      · rw [hT] at h; cases h
      · omega
      · omega
    · exact h
  simp (disch := omega) only [go_sem,reduceIte,Nat.reduceEqDiff,Nat.reduceLT]
  refine CallO_f (Whole_ref (z := 1) (by omega) (by omega) (by omega)) (by omega) fun w4 h4 ph4 hw4 => ?_
  have nh4 := ph4.next
  replace x_z := x_z.mono (B' := h4.blks) (ph4.get _ (by omega))
  replace pr := pr.trans (ph4.le (by omega))
  have hq := hw4
  obtain ⟨B1, B2, m1, m2, d1, d2, rfl⟩ := hw4.shape
  clear hw4
  try simp (disch := omega) only [go_sem,reduceIte,Nat.reduceEqDiff,Nat.reduceLT]
  refine At_alloc i64 zero64 rfl (by omega) fun h5 hnh5 => ?_
  have nh5 := hnh5.next
  have ph5 : Pres h4.next h4 h5 := hnh5.pres (Nat.le_refl _)
  have x_p : Var h5.blks h4.next [.bool false, .slice none 0 0, .bool false, .slice none 0 0] := hnh5.var
  replace pr := pr.trans (ph5.le (by omega))
  try simp (disch := omega) only [go_sem,reduceIte,Nat.reduceEqDiff,Nat.reduceLT]
  have hqa := (hq.pres ph5 (Nat.le_refl _)).wide (N' := h5.next) (by omega)
  refine At_storeV (inf := inf64) (v := .agg #[.bool (decide ((1 : Int) < 0)), .slice B1 m1 d1, .bool (decide ((1 : Int) < 0)), .slice B2 m2 d2]) i64 (by simp only [go_sem,reduceIte,Nat.reduceEqDiff,Nat.reduceLT]) (by simp only [go_sem,reduceIte,Nat.reduceEqDiff,Nat.reduceLT]) x_p (by rw [size64]; rfl) (by rw [size64]; rfl) rfl (by show G ≤ h4.next; omega) fun h6 hsh6 y_p => ?_
  have nh6 := hsh6.next
  replace pr := pr.trans (hsh6.pres (by omega))
  replace x_p : Var h6.blks h4.next [.bool (decide ((1 : Int) < 0)), .slice B1 m1 d1, .bool (decide ((1 : Int) < 0)), .slice B2 m2 d2] := y_p
  clear y_p
  have hqb : QV h6.blks h6.next ((k ^ 0 : Nat) : Int) 1 (.agg #[.bool (decide ((1 : Int) < 0)), .slice B1 m1 d1, .bool (decide ((1 : Int) < 0)), .slice B2 m2 d2]) := by
    have q := (hq.pres (ph5.trans (hsh6.pres (m := h4.next) (Nat.le_refl _))) (Nat.le_refl _)).wide (N' := h6.next) (by omega)
    exact q
  have x_p' : Var h6.blks h4.next [.bool (decide (((k ^ 0 : Nat) : Int) < 0)), .slice B1 m1 d1, .bool (decide ((1 : Int) < 0)), .slice B2 m2 d2] := x_p
  clear hq hqa x_p x_z
  simp (disch := omega) only [go_sem,reduceIte,Nat.reduceEqDiff,Nat.reduceLT]
  refine WK_loopN (fun j α g => ∃ (i : Nat) (C1 C2 : Option Addr) (e1 e2 f1 f2 : Nat), i + j = m ∧ α.get 7 = some (.int .u8 K) ∧ α.get 9 = some (.int .i64 (k : Int)) ∧ α.get 10 = some (.int .i64 (m : Int)) ∧ α.get 11 = some (strV s) ∧ α.get 12 = some (strV t) ∧ α.get 13 = some (.bool (decide (s = t))) ∧ α.get 14 = some (.int .i64 0) ∧ α.get 15 = some (strV (decZ ((k ^ m : Nat) : Int))) ∧ α.get 16 = some (.int .i64 0) ∧ α.get 17 = some (.pointer (some ⟨h4.next, 0, none⟩)) ∧ α.get 18 = some (.int .i64 (i : Int)) ∧
      Var g.blks h4.next [.bool (decide (((k ^ i : Nat) : Int) < 0)), .slice C1 e1 f1, .bool (decide ((1 : Int) < 0)), .slice C2 e2 f2] ∧ QV g.blks g.next ((k ^ i : Nat) : Int) 1 (.agg #[.bool (decide (((k ^ i : Nat) : Int) < 0)), .slice C1 e1 f1, .bool (decide ((1 : Int) < 0)), .slice C2 e2 f2]) ∧ Pres h0.next h0 g ∧ h6.next ≤ g.next) m
    ⟨0, B1, B2, m1, m2, d1, d2, by omega, by simp only [go_sem,reduceIte,Nat.reduceEqDiff,Nat.reduceLT], by simp only [go_sem,reduceIte,Nat.reduceEqDiff,Nat.reduceLT], by simp only [go_sem,reduceIte,Nat.reduceEqDiff,Nat.reduceLT], by simp only [go_sem,reduceIte,Nat.reduceEqDiff,Nat.reduceLT], by simp only [go_sem,reduceIte,Nat.reduceEqDiff,Nat.reduceLT], by simp only [go_sem,reduceIte,Nat.reduceEqDiff,Nat.reduceLT], by simp only [go_sem,reduceIte,Nat.reduceEqDiff,Nat.reduceLT], by simp only [go_sem,reduceIte,Nat.reduceEqDiff,Nat.reduceLT], by simp only [go_sem,reduceIte,Nat.reduceEqDiff,Nat.reduceLT], by simp only [go_sem,reduceIte,Nat.reduceEqDiff,Nat.reduceLT], by (simp only [go_sem,reduceIte,Nat.reduceEqDiff,Nat.reduceLT]) <;> rfl, x_p', hqb, pr, Nat.le_refl _⟩ (by omega) ?_
  clear x_p' hqb pr
  rintro J j α g ⟨i, C1, C2, e1, e2, f1, f2, hij, a7, a9, a10, a11, a12, a13, a14, a15, a16, a17, a18, x_p, hq, pr, hgn⟩ hJ
  have r0 := x_p.qn (G := G) rfl
  by_cases hlt : i < m
  · have d1 : decide ((i : Int) < (m : Int)) = true := decide_eq_true (by omega)
    have hki : k ^ i ≤ 6 ^ 60 := pow6 k6 (by omega)
    generalize hP : (6 : Nat) ^ 60 = P6 at hki
    simp (disch := omega) only [go_sem,reduceIte,Nat.reduceEqDiff,Nat.reduceLT, a7, a9, a10, a11, a12, a13, a14, a15, a16, a17, a18, d1]
    refine WK_regionT 3 ⟨by kernel_rfl, by kernel_rfl, by kernel_rfl⟩ ?_
    simp (disch := omega) only [go_sem,reduceIte,Nat.reduceEqDiff,Nat.reduceLT, a9, a17, r0]
    refine CallO_spec (Whole_ref (z := (k : Int)) (by rw [st_next]; omega) (by omega) (by omega)) (by omega) (fun _ _ _ h => h) fun w5 gh1 pgh1 hw5 => ?_
    have ngh1 := pgh1.next
    replace x_p := x_p.mono (B' := gh1.blks) (pgh1.get _ (by omega))
    replace pr := pr.trans (pgh1.le (by omega))
    replace hq := (hq.pres pgh1 (Nat.le_refl _)).wide (N' := gh1.next) (by omega)
    try simp (disch := omega) only [go_sem,reduceIte,Nat.reduceEqDiff,Nat.reduceLT]
    refine CallO_spec (MulQ_spec (N := gh1.next) (by rw [st_next]; omega) (by rw [st_next]; omega) (by rw [st_blks]; exact hq) (by rw [st_blks]; exact hw5) (by rw [Int.natAbs_natCast]; exact (sd6 (by rw [hP]; exact hki)).sr) sr_one (by rw [Int.natAbs_natCast]; exact sr_small (by omega)) sr_one) (by omega) (fun _ _ _ h => h) fun w6 gh2 pgh2 hw6 => ?_
    have ngh2 := pgh2.next
    replace x_p := x_p.mono (B' := gh2.blks) (pgh2.get _ (by omega))
    replace pr := pr.trans (pgh2.le (by omega))
    rw [← Int.natCast_mul, ← Nat.pow_succ, Int.mul_one] at hw6
    have hq6 := hw6
    obtain ⟨D1, D2, o1, o2, q1, q2, rfl⟩ := hw6.shape
    clear hw6
    try simp (disch := omega) only [go_sem,reduceIte,Nat.reduceEqDiff,Nat.reduceLT]
    have y0 := x_p
    refine At_storeV (inf := inf64) (v := .agg #[.bool (decide (((k ^ (i + 1) : Nat) : Int) < 0)), .slice D1 o1 q1, .bool (decide ((1 : Int) < 0)), .slice D2 o2 q2]) i64 (by simp only [go_sem,reduceIte,Nat.reduceEqDiff,Nat.reduceLT, a17]) (by simp only [go_sem,reduceIte,Nat.reduceEqDiff,Nat.reduceLT]) x_p (by rw [size64]; rfl) (by rw [size64]; rfl) rfl (by show G ≤ h4.next; omega) fun gh3 hsgh3 y_p => ?_
    have ngh3 := hsgh3.next
    replace pr := pr.trans (hsgh3.pres (by omega))
    replace x_p : Var gh3.blks h4.next [.bool (decide (((k ^ (i + 1) : Nat) : Int) < 0)), .slice D1 o1 q1, .bool (decide ((1 : Int) < 0)), .slice D2 o2 q2] := y_p
    clear y_p
    have hq7 := (hq6.sto hsgh3 y0 rfl).wide (N' := gh3.next) (by omega)
    simp (disch := omega) only [go_sem,reduceIte,Nat.reduceEqDiff,Nat.reduceLT, a18, wrap_i64]
    refine hJ (j - 1) _ _ (by omega) ⟨i + 1, D1, D2, o1, o2, q1, q2, by omega, by simp only [go_sem,reduceIte,Nat.reduceEqDiff,Nat.reduceLT, a7], by simp only [go_sem,reduceIte,Nat.reduceEqDiff,Nat.reduceLT, a9], by simp only [go_sem,reduceIte,Nat.reduceEqDiff,Nat.reduceLT, a10], by simp only [go_sem,reduceIte,Nat.reduceEqDiff,Nat.reduceLT, a11], by simp only [go_sem,reduceIte,Nat.reduceEqDiff,Nat.reduceLT, a12], by simp only [go_sem,reduceIte,Nat.reduceEqDiff,Nat.reduceLT, a13], by simp only [go_sem,reduceIte,Nat.reduceEqDiff,Nat.reduceLT, a14], by simp only [go_sem,reduceIte,Nat.reduceEqDiff,Nat.reduceLT, a15], by simp only [go_sem,reduceIte,Nat.reduceEqDiff,Nat.reduceLT, a16], by simp only [go_sem,reduceIte,Nat.reduceEqDiff,Nat.reduceLT, a17], by (simp only [go_sem,reduceIte,Nat.reduceEqDiff,Nat.reduceLT]) <;> rfl, x_p, hq7, pr, by omega⟩
  · have d1 : decide ((i : Int) < (m : Int)) = false := decide_eq_false (by omega)
    obtain rfl : i = m := by omega
    have hki : k ^ i ≤ 6 ^ 60 := pow6 k6 (by omega)
    have hin := isNum_whole hki
    have hsd := sd6 hki
    generalize hP : k ^ i = P6 at *
    simp (disch := omega) only [go_sem,reduceIte,Nat.reduceEqDiff,Nat.reduceLT, a7, a9, a10, a11, a12, a13, a14, a15, a16, a17, a18, d1, build72]
    refine CallO_f (made_all (by omega) hK hK2) (by omega) fun w1 eh1 peh1 hw1 => ?_
    have neh1 := peh1.next
    replace x_p := x_p.mono (B' := eh1.blks) (peh1.get _ (by omega))
    replace pr := pr.trans (peh1.le (by omega))
    replace hq := (hq.pres peh1 (Nat.le_refl _)).wide (N' := eh1.next) (by omega)
    obtain ⟨k', ps, A, rfl, hT2, hvp, hkk, hmem⟩ := hw1
    obtain rfl : k' = k := by omega
    obtain ⟨_, _, pl, _⟩ := okT_okP hT2
    have hall := pc_in hmem
    have hsl := lst_sw (pc_sym' ps) s.length s rfl (hs.mono k6)
    have hlw := lst_wide (cm := pc ps) hs k6
    rw [hlw] at hsl
    have hlen := hsl.len
    have hsorted := lst_sorted hall s.length s rfl hs
    simp (disch := omega) only [go_sem,reduceIte,Nat.reduceEqDiff,Nat.reduceLT, a9, a11]
    refine CallO_f (Least_spec (k := (k' : Int)) (s := s) (by omega) hvp (Nat.le_refl _) (by omega) (by omega)) (by omega) fun w2 eh2 peh2 hw2 => ?_
    have neh2 := peh2.next
    replace x_p := x_p.mono (B' := eh2.blks) (peh2.get _ (by omega))
    replace pr := pr.trans (peh2.le (by omega))
    replace hq := (hq.pres peh2 (Nat.le_refl _)).wide (N' := eh2.next) (by omega)
    rw [chk_one hT2 hs (by omega), Int.toNat_natCast] at hw2
    obtain rfl : w2 = .tuple #[strV (lst (pc ps) k' s), .int .i64 0] := by
      rcases hw2 with ⟨h, _⟩ | ⟨_, h⟩
      · exact absurd rfl h
      · exact h
    generalize lst (pc ps) k' s = L at *
    have r2 := x_p.qn (G := G) rfl
    have dne : decide ((0 : Int) ≠ 0) = false := rfl
    have dlen : decide ((L.length : Int) ≠ (s.length : Int)) = false := decide_eq_false (by omega)
    have nb : binO Tryz.prog (En G) .neq 4 (some (.bool (decide (s = t)))) (some (.bool (decide (s = t)))) = some (.bool false) := by rw [neq_bool]; simp
    simp (maxSteps := 3000000) (disch := omega) only [go_sem,reduceIte,Nat.reduceEqDiff,Nat.reduceLT, a9, a10, a11, a12, a13, a14, a15, a16, a17, eql_str, nb, dne, r2]
    refine CallO_f (Is_spec (N := eh2.next) (x := decZ (P6 : Int)) (by omega) (Nat.le_refl _) hq (by rw [Int.natAbs_natCast]; exact hsd) (sd_one) (by omega)) (by omega) fun w3 eh3 peh3 hw3 => ?_
    have neh3 := peh3.next
    replace x_p := x_p.mono (B' := eh3.blks) (peh3.get _ (by omega))
    replace pr := pr.trans (peh3.le (by omega))
    rw [hin] at hw3
    subst hw3
    have ht3 := ht.pres pr (fun x hx => by have := tabs_lt x hx; omega)
    simp (maxSteps := 3000000) (disch := omega) only [go_sem,reduceIte,Nat.reduceEqDiff,Nat.reduceLT, a9, a10, a11, a12, a13, a14, a15, a16, a17, dne, len9, dlen]
    refine Call_lives ht3 (by omega) ?_
    simp (disch := omega) only [go_sem,reduceIte,Nat.reduceEqDiff,Nat.reduceLT]
    refine WK_loopN (fun j β g2 => ∃ i : Nat, eh3 = g2 ∧ i + j = L.length + 1 ∧ 1 ≤ i ∧ β.get 21 = some (strV L) ∧ β.get 23 = some (.int .i64 (i : Int))) L.length
      ⟨1, rfl, by omega, by omega, by simp only [go_sem,reduceIte,Nat.reduceEqDiff,Nat.reduceLT], by (simp only [go_sem,reduceIte,Nat.reduceEqDiff,Nat.reduceLT]) <;> rfl⟩ (by omega) ?_
    rintro J2 j2 β g2 ⟨i2, rfl, hi2, hi1, b21, b23⟩ hJ2
    by_cases hlt2 : i2 < L.length
    · have d2 : decide ((i2 : Int) < (L.length : Int)) = true := decide_eq_true (by omega)
      obtain ⟨ca, hca⟩ : ∃ c, L[i2 - 1]? = some c := ⟨L[i2 - 1]'(by omega), List.getElem?_eq_getElem (by omega)⟩
      obtain ⟨cb, hcb⟩ : ∃ c, L[i2]? = some c := ⟨L[i2]'(by omega), List.getElem?_eq_getElem (by omega)⟩
      have hle := pw_adj hsorted hca (by rw [show i2 - 1 + 1 = i2 by omega]; exact hcb)
      have w1 : IntKind.i64.wrap ((i2 : Int) - 1) = ((i2 - 1 : Nat) : Int) := wrap_nat (by omega) (by omega)
      have ixa : ∀ {G : Nat}, idxO (En G) 9 (some (strV L)) (some (.int .i64 ((i2 - 1 : Nat) : Int))) = some (.int .u8 ca.toNat) := idx9 (by omega) (by rw [Int.toNat_natCast]; exact hca)
      have ixb : ∀ {G : Nat}, idxO (En G) 9 (some (strV L)) (some (.int .i64 (i2 : Int))) = some (.int .u8 cb.toNat) := idx9 (by omega) (by rw [Int.toNat_natCast]; exact hcb)
      have dc : decide ((cb.toNat : Int) < (ca.toNat : Int)) = false := decide_eq_false (by omega)
      simp (disch := omega) only [go_sem,reduceIte,Nat.reduceEqDiff,Nat.reduceLT, b21, b23, len9, d2]
      refine WK_regionT 7 ⟨by kernel_rfl, by kernel_rfl, by kernel_rfl⟩ ?_
      simp (disch := omega) only [go_sem,reduceIte,Nat.reduceEqDiff,Nat.reduceLT, b21, b23, w1, ixa, ixb, dc, wrap_i64]
      exact hJ2 (j2 - 1) _ _ (by omega) ⟨i2 + 1, rfl, by omega, by omega, by simp only [go_sem,reduceIte,Nat.reduceEqDiff,Nat.reduceLT, b21], by (simp only [go_sem,reduceIte,Nat.reduceEqDiff,Nat.reduceLT]) <;> rfl⟩
    · have d2 : decide ((i2 : Int) < (L.length : Int)) = false := decide_eq_false (by omega)
      simp (disch := omega) only [go_sem,reduceIte,Nat.reduceEqDiff,Nat.reduceLT, b21, b23, len9, d2]
      exact hQ' _ _ ⟨pr, rfl⟩
end
end Go.Proofs.YthankillfhmfkaaGreatDoor.Ev

