/- The market that is made of any numbers. -/
import Derived.Test.YtngpoamjhngcgaaGreatDoorPmeD8
set_option linter.unusedVariables false
set_option linter.unusedSimpArgs false
namespace Go.Proofs.YtngpoamjhngcgaaGreatDoor.Ev
open Go Go.Proofs
noncomputable section

section
variable {P : Program} {E : Env} {n : Nat} {a b c : Code} {k : List Frm} {α : Tr Value} {h : H} {R : Rt}
theorem WK_cut (J : Tr Value → H → Prop) (h1 : WK P E n c (.inv J :: k) α h R) (h2 : ∀ α' h', J α' h' → cont P E n k .normal α' h' R) : WK P E n c k α h R := by
  unfold WK at *
  refine W.mono h1 fun e α' h' he => ?_
  cases e with
  | normal => exact h2 _ _ he
  | exit id => exact he
  | ret => exact he
theorem CondO_cut (J : Tr Value → H → Prop) {v : Option Value} (h1 : CondO P E n a b (.inv J :: k) α h R v) (h2 : ∀ α' h', J α' h' → cont P E n k .normal α' h' R) : CondO P E n a b k α h R v := by
  unfold CondO at *
  split at h1
  · exact WK_cut J h1 h2
  · exact WK_cut J h1 h2
  · exact h1.elim
end
def u16s (zs : List Nat) : List Value := zs.map fun (z : Nat) => Value.int .u16 (z : Int)
theorem u16s_get {zs : List Nat} {i : Nat} (h : i < zs.length) : (u16s zs)[i]? = some (.int .u16 ((zs.getD i 0 : Nat) : Int)) := by
  unfold u16s
  rw [List.getElem?_map, List.getD, List.getElem?_eq_getElem h]
  rfl
theorem u16_at {B : Tr Blk} {lo hi c i : Nat} {zs : List Nat} {A : Option Addr} (s : SlV B lo hi 1 zs.length (u16s zs) (.slice A zs.length c)) (h : i < zs.length) : ∃ b off, A = some ⟨b, off, none⟩ ∧ loadv B b (off + i) = some (.int .u16 ((zs.getD i 0 : Nat) : Int)) := by
  obtain ⟨b, off, hA, _, _, hld⟩ := s.at_ (by omega)
  exact ⟨b, off, hA, by rw [hld i (by omega), u16s_get h]⟩
theorem conv53n {P : Program} {G : Nat} {B : Tr Blk} {z : Nat} (h : z < 4294967296) : convO P (En G) B 5 3 (some (.int .u8 (z : Int))) = some (.int .i64 (z : Int)) := by
  rw [convO_int u5 u3, wrap_i64 (by omega) (by omega)]
theorem conv943n {P : Program} {G : Nat} {B : Tr Blk} {z : Nat} (h : z < 4294967296) : convO P (En G) B 94 3 (some (.int .u16 (z : Int))) = some (.int .i64 (z : Int)) := by
  rw [convO_int u94 u3, wrap_i64 (by omega) (by omega)]
theorem tm8 {z : Nat} : (z : Int).tmod 8 = ((z % 8 : Nat) : Int) := rfl
theorem tm3 {z : Nat} : (z : Int).tmod 3 = ((z % 3 : Nat) : Int) := rfl
theorem tm1001 {z : Nat} : (z : Int).tmod 1001 = ((z % 1001 : Nat) : Int) := rfl
theorem td3 {z : Nat} : (z : Int).tdiv 3 = ((z / 3 : Nat) : Int) := rfl
theorem intsL_push {n : Nat} {f : Nat → Int} {z : Int} : intsL n f ++ [.int .i64 z] = intsL (n + 1) fun r => if r = n then z else f r := by
  unfold intsL
  rw [List.range_succ, List.map_append, List.map_cons, List.map_nil]
  simp only [if_true]
  congr 1
  refine List.map_congr_left fun k hk => ?_
  have := List.mem_range.1 hk
  rw [if_neg (by omega)]
theorem getD_le {zs : List Nat} {i m : Nat} (hz : ∀ z ∈ zs, z ≤ m) : zs.getD i 0 ≤ m := by
  by_cases h : i < zs.length
  · rw [List.getD, List.getElem?_eq_getElem h]
    exact hz _ (List.getElem_mem h)
  · rw [List.getD, List.getElem?_eq_none (by omega)]
    exact Nat.zero_le _

set_option maxRecDepth 100000 in
set_option maxHeartbeats 64000000 in
theorem made_spec {G lo hi lo2 hi2 cx cy N8 : Nat} {xs ys : List Nat} {Ax Ay : Option Addr} {h : H} (hG : G ≤ h.next) (hN : N8 ≤ 255) (hx : SlV h.blks lo hi 1 xs.length (u16s xs) (.slice Ax xs.length cx)) (hy : SlV h.blks lo2 hi2 1 ys.length (u16s ys) (.slice Ay ys.length cy))
    (hx6 : ∀ z ∈ xs, z ≤ 65535) (hy6 : ∀ z ∈ ys, z ≤ 65535) (hhi : hi ≤ h.next) (hhi2 : hi2 ≤ h.next) :
    Spec Tryz.prog (En G) 27 [.int .u8 (N8 : Int), .slice Ax xs.length cx, .slice Ay ys.length cy] h fun v h' => ∃ (k : Nat) (cf : Nat → Int) (d : Nat → Nat → Int) (A1 A2 : Option Addr) (RA : Nat → Option Addr) (rc : Nat → Nat), k = N8 % 8 + 1 ∧ v = .tuple #[.slice A1 k k, .slice A2 k k] ∧
      SlV h'.blks h.next h'.next 1 k (intsL k cf) (.slice A1 k k) ∧ (∀ i, i < k → 0 ≤ cf i ∧ cf i ≤ 1000) ∧ MatV h'.blks h.next h'.next k (fun _ => k) d RA rc (.slice A2 k k) ∧ DOk k d := by
  have hxg : ∀ i, xs.getD i 0 ≤ 65535 := fun i => getD_le hx6
  have hyg : ∀ i, ys.getD i 0 ≤ 65535 := fun i => getD_le hy6
  obtain ⟨k, hk⟩ : ∃ k, k = N8 % 8 + 1 := ⟨_, rfl⟩
  have hk8 : 1 ≤ k ∧ k ≤ 8 := by omega
  have ek : ((N8 % 8 : Nat) : Int) + 1 = (k : Int) := by omega
  have n8 : ¬ ((8 : Int) = 0) := by decide
  have n1001 : ¬ ((1001 : Int) = 0) := by decide
  have n3 : ¬ ((3 : Int) = 0) := by decide
  refine CallsE_enter (En_known (by decide)) (En_f.trans Tryz.func27) rfl ⟨Nat.le_of_ble_eq_true rfl, by decide⟩ fun Q' hQ' => ?_
  simp (disch := omega) only [Tryz.f27, go_sem,reduceIte,Nat.reduceEqDiff,Nat.reduceLT, conv53n, binO_rem n8, tm8, wrap_i64, ek]
  refine At_lit0 u23 i3 zero3 (by rw [size3]; rfl) (by omega) ?_
  try simp only [go_sem,reduceIte,Nat.reduceEqDiff,Nat.reduceLT]
  refine At_lit0 u22 i23 zero23 (by rw [size23]; rfl) (by omega) ?_
  simp only [go_sem,reduceIte,Nat.reduceEqDiff,Nat.reduceLT]
  refine WK_loopN (fun j α h2 => ∃ (i m m2 : Nat) (cf : Nat → Int) (f : Nat → Nat → Int) (Ac Ad : Option Addr) (RA : Nat → Option Addr) (rc : Nat → Nat), i + j = k ∧ Pres h.next h h2 ∧ h.next ≤ m ∧ m ≤ m2 ∧ m2 ≤ h2.next ∧ SlV h2.blks m m2 1 i (intsL i cf) (.slice Ac i i) ∧ SlV h2.blks m2 h2.next 1 i (rowsL i (fun _ => k) RA rc) (.slice Ad i i) ∧
      (∀ a, a < i → SlV h2.blks h.next m 1 k (intsL k (f a)) (.slice (RA a) k (rc a))) ∧ (∀ a, a < i → 0 ≤ cf a ∧ cf a ≤ 1000) ∧ (∀ a b, a < i → b < k → 0 ≤ f a b ∧ f a b ≤ 1000) ∧ (∀ a, a < i → f a a = 0) ∧
      α.get 1 = some (.slice Ax xs.length cx) ∧ α.get 2 = some (.slice Ay ys.length cy) ∧ α.get 8 = some (.int .i64 (k : Int)) ∧ α.get 9 = some (.slice Ac i i) ∧ α.get 10 = some (.slice Ad i i) ∧ α.get 11 = some (.int .i64 (i : Int))) k
    ⟨0, h.next, h.next, fun _ => 0, fun _ _ => 0, some ⟨0, 0, some 0⟩, some ⟨0, 0, some 0⟩, fun _ => none, fun _ => 0, by omega, Pres.refl _ _, Nat.le_refl _, Nat.le_refl _, Nat.le_refl _, .emp rfl rfl, .emp rfl rfl, fun a ha => absurd ha (Nat.not_lt_zero a), fun a ha => absurd ha (Nat.not_lt_zero a), fun a b ha => absurd ha (Nat.not_lt_zero a), fun a ha => absurd ha (Nat.not_lt_zero a),
      by simp only [go_sem,reduceIte,Nat.reduceEqDiff,Nat.reduceLT], by simp only [go_sem,reduceIte,Nat.reduceEqDiff,Nat.reduceLT], by simp only [go_sem,reduceIte,Nat.reduceEqDiff,Nat.reduceLT], by (simp only [go_sem,reduceIte,Nat.reduceEqDiff,Nat.reduceLT]) <;> rfl, by (simp only [go_sem,reduceIte,Nat.reduceEqDiff,Nat.reduceLT]) <;> rfl, by (simp only [go_sem,reduceIte,Nat.reduceEqDiff,Nat.reduceLT]) <;> rfl⟩ (by omega) ?_
  rintro J j α h2 ⟨i, m, m2, cf, f, Ac, Ad, RA, rc, hij, pr, hm1, hm2, hm3, hsc, hsd, hrows, hcb, hfb, hfd, e1, e2, e8, e9, e10, e11⟩ hJ
  have n2 := pr.next
  by_cases hlt : (i : Int) < (k : Int)
  · have hik : i < k := by omega
    simp (disch := omega) only [go_sem,reduceIte,Nat.reduceEqDiff,Nat.reduceLT, e1, e2, e8, e9, e10, e11, hlt, len39]
    -- the cash
    refine CondO_cut (fun α' h' => ∃ w : Nat, w ≤ 1000 ∧ h' = h2 ∧ α'.get 1 = some (.slice Ax xs.length cx) ∧ α'.get 2 = some (.slice Ay ys.length cy) ∧ α'.get 8 = some (.int .i64 (k : Int)) ∧ α'.get 9 = some (.slice Ac i i) ∧ α'.get 10 = some (.slice Ad i i) ∧ α'.get 11 = some (.int .i64 (i : Int)) ∧ α'.get 12 = some (.int .i64 (w : Int))) ?_ ?_
    · by_cases c1 : (i : Int) < (xs.length : Int)
      · obtain ⟨bx, ox, rfl, lx⟩ := u16_at (hx.mono (B' := h2.blks) fun b _ hb => pr.get b (by omega)) (show i < xs.length by omega)
        have := hxg i
        simp (disch := omega) only [go_sem,reduceIte,Nat.reduceEqDiff,Nat.reduceLT, e1, e2, e8, e9, e10, e11, c1, idxA39, Int.toNat_natCast, Nat.mul_one, load94, lx, conv943n, binO_rem n1001, tm1001]
        exact ⟨xs.getD i 0 % 1001, by omega, trivial, by simp only [go_sem,reduceIte,Nat.reduceEqDiff,Nat.reduceLT, e1], by simp only [go_sem,reduceIte,Nat.reduceEqDiff,Nat.reduceLT, e2], by simp only [go_sem,reduceIte,Nat.reduceEqDiff,Nat.reduceLT, e8], by simp only [go_sem,reduceIte,Nat.reduceEqDiff,Nat.reduceLT, e9], by simp only [go_sem,reduceIte,Nat.reduceEqDiff,Nat.reduceLT, e10], by simp only [go_sem,reduceIte,Nat.reduceEqDiff,Nat.reduceLT, e11], by first | (simp only [go_sem,reduceIte,Nat.reduceEqDiff,Nat.reduceLT]; done) | rfl⟩
      · simp (disch := omega) only [go_sem,reduceIte,Nat.reduceEqDiff,Nat.reduceLT, e1, e2, e8, e9, e10, e11, c1]
        exact ⟨0, by omega, trivial, by simp only [go_sem,reduceIte,Nat.reduceEqDiff,Nat.reduceLT, e1], by simp only [go_sem,reduceIte,Nat.reduceEqDiff,Nat.reduceLT, e2], by simp only [go_sem,reduceIte,Nat.reduceEqDiff,Nat.reduceLT, e8], by simp only [go_sem,reduceIte,Nat.reduceEqDiff,Nat.reduceLT, e9], by simp only [go_sem,reduceIte,Nat.reduceEqDiff,Nat.reduceLT, e10], by simp only [go_sem,reduceIte,Nat.reduceEqDiff,Nat.reduceLT, e11], by first | rfl | ((simp only [go_sem,reduceIte,Nat.reduceEqDiff,Nat.reduceLT]) <;> rfl)⟩
    clear e1 e2 e8 e9 e10 e11
    rintro α h' ⟨w, hw, rfl, e1, e2, e8, e9, e10, e11, e12⟩
    simp (disch := omega) only [go_sem,reduceIte,Nat.reduceEqDiff,Nat.reduceLT, e1, e2, e8, e9, e10, e11, e12]
    refine At_lit0 u23 i3 zero3 (by rw [size3]; rfl) (by omega) ?_
    simp only [go_sem,reduceIte,Nat.reduceEqDiff,Nat.reduceLT]
    -- the row
    refine WK_loopN (fun j α h3 => ∃ (b : Nat) (rf : Nat → Int) (Ar : Option Addr), b + j = k ∧ Pres h'.next h' h3 ∧ SlV h3.blks h'.next h3.next 1 b (intsL b rf) (.slice Ar b b) ∧ (∀ a, a < b → 0 ≤ rf a ∧ rf a ≤ 1000) ∧ (i < b → rf i = 0) ∧
        α.get 1 = some (.slice Ax xs.length cx) ∧ α.get 2 = some (.slice Ay ys.length cy) ∧ α.get 8 = some (.int .i64 (k : Int)) ∧ α.get 9 = some (.slice Ac i i) ∧ α.get 10 = some (.slice Ad i i) ∧ α.get 11 = some (.int .i64 (i : Int)) ∧ α.get 12 = some (.int .i64 (w : Int)) ∧ α.get 13 = some (.slice Ar b b) ∧ α.get 14 = some (.int .i64 (b : Int))) k
      ⟨0, fun _ => 0, some ⟨0, 0, some 0⟩, by omega, Pres.refl _ _, .emp rfl rfl, fun a ha => absurd ha (Nat.not_lt_zero a), fun ha => absurd ha (Nat.not_lt_zero i), by simp only [go_sem,reduceIte,Nat.reduceEqDiff,Nat.reduceLT, e1], by simp only [go_sem,reduceIte,Nat.reduceEqDiff,Nat.reduceLT, e2], by simp only [go_sem,reduceIte,Nat.reduceEqDiff,Nat.reduceLT, e8], by simp only [go_sem,reduceIte,Nat.reduceEqDiff,Nat.reduceLT, e9], by simp only [go_sem,reduceIte,Nat.reduceEqDiff,Nat.reduceLT, e10], by simp only [go_sem,reduceIte,Nat.reduceEqDiff,Nat.reduceLT, e11], by simp only [go_sem,reduceIte,Nat.reduceEqDiff,Nat.reduceLT, e12], by (simp only [go_sem,reduceIte,Nat.reduceEqDiff,Nat.reduceLT]) <;> rfl, by (simp only [go_sem,reduceIte,Nat.reduceEqDiff,Nat.reduceLT]) <;> rfl⟩ (by omega) ?_
    clear e1 e2 e8 e9 e10 e11 e12
    rintro J2 j2 α h3 ⟨b, rf, Ar, hbj, pr3, hsr, hrb, hri, e1, e2, e8, e9, e10, e11, e12, e13, e14⟩ hJ2
    have n3' := pr3.next
    by_cases hlb : (b : Int) < (k : Int)
    · have hbk : b < k := by omega
      obtain ⟨at_, hat⟩ : ∃ at_, at_ = i * k + b := ⟨_, rfl⟩
      have hmul : (i : Int) * (k : Int) = ((i * k : Nat) : Int) := (Int.natCast_mul i k).symm
      have hikb : i * k ≤ 64 := Nat.mul_le_mul (show i ≤ 8 by omega) hk8.2
      have eat : ((i * k : Nat) : Int) + (b : Int) = (at_ : Int) := by omega
      simp (disch := omega) only [go_sem,reduceIte,Nat.reduceEqDiff,Nat.reduceLT, e1, e2, e8, e9, e10, e11, e12, e13, e14, hlb, hmul, wrap_i64, eat, len39]
      by_cases c1 : (at_ : Int) < (ys.length : Int)
      · obtain ⟨bY, oY, rfl, ly⟩ := u16_at ((hy.mono (B' := h'.blks) fun b _ hb => pr.get b (by omega)).mono (B' := h3.blks) fun b _ hb => pr3.get b (by omega)) (show at_ < ys.length by omega)
        have hyv := hyg at_
        by_cases c2 : i = b
        · have d2 : decide ((i : Int) ≠ (b : Int)) = false := decide_eq_false fun g => g (by omega)
          simp (maxSteps := 3000000) (disch := omega) only [go_sem,reduceIte,Nat.reduceEqDiff,Nat.reduceLT, e1, e2, e8, e9, e10, e11, e12, e13, e14, c1, d2]
          refine At_push (v := .int .i64 0) (A := Ar) (sl := b) (sc := b) (lo := h'.next) (hi := h3.next) (L := intsL b rf) (vs := [.int .i64 0]) u23 i3 zero3 (by rw [size3, bytes3]; rfl) (by (simp only [go_sem,reduceIte,Nat.reduceEqDiff,Nat.reduceLT]) <;> rfl) (by rw [size3]; rfl) (by rw [size3]; rfl) rfl (by (simp only [go_sem,reduceIte,Nat.reduceEqDiff,Nat.reduceLT, e13]) <;> rfl) (by rw [size3]; exact hsr) (Nat.le_refl _) (Nat.le_refl _) (by rw [En_G]; omega) (by omega) (by decide) (by decide) (by decide) fun h5 hp5 => ?_
          rw [size3, intsL_push] at hp5
          have n5 := hp5.next
          have hnew := hp5.slv (n := b + 1) (c := b + 1) (by rw [intsL_len, Nat.mul_one])
          simp (disch := omega) only [go_sem,reduceIte,Nat.reduceEqDiff,Nat.reduceLT, e14, wrap_i64]
          refine hJ2 (j2 - 1) _ _ (by omega) ⟨b + 1, _, _, by omega, pr3.trans (hp5.pres (by omega) fun x hx => (hsr.blk x hx).1), hnew.wide (by omega) (Nat.le_refl _), fun a ha => ?_, fun ha => ?_, by simp only [go_sem,reduceIte,Nat.reduceEqDiff,Nat.reduceLT, e1], by simp only [go_sem,reduceIte,Nat.reduceEqDiff,Nat.reduceLT, e2], by simp only [go_sem,reduceIte,Nat.reduceEqDiff,Nat.reduceLT, e8], by simp only [go_sem,reduceIte,Nat.reduceEqDiff,Nat.reduceLT, e9], by simp only [go_sem,reduceIte,Nat.reduceEqDiff,Nat.reduceLT, e10], by simp only [go_sem,reduceIte,Nat.reduceEqDiff,Nat.reduceLT, e11], by simp only [go_sem,reduceIte,Nat.reduceEqDiff,Nat.reduceLT, e12], by (simp only [go_sem,reduceIte,Nat.reduceEqDiff,Nat.reduceLT]) <;> rfl, by (simp only [go_sem,reduceIte,Nat.reduceEqDiff,Nat.reduceLT]) <;> rfl⟩
          · by_cases g : a = b
            · rw [if_pos g] <;> omega
            · rw [if_neg g]; exact hrb a (by omega)
          · by_cases g : i = b
            · rw [if_pos g] <;> omega
            · rw [if_neg g]; exact hri (by omega)
        · have d2 : decide ((i : Int) ≠ (b : Int)) = true := decide_eq_true (by omega)
          by_cases c3 : (0 : Int) < ((ys.getD at_ 0 % 3 : Nat) : Int)
          · simp (maxSteps := 3000000) (disch := omega) only [go_sem,reduceIte,Nat.reduceEqDiff,Nat.reduceLT, e1, e2, e8, e9, e10, e11, e12, e13, e14, c1, d2, idxA39, Int.toNat_natCast, Nat.mul_one, load94, ly, binO_rem n3, tm3, c3, conv943n, binO_quo n3, td3, binO_rem n1001, tm1001, wrap_i64]
            refine At_push (v := .int .i64 ((ys.getD at_ 0 / 3 % 1001 : Nat) : Int)) (A := Ar) (sl := b) (sc := b) (lo := h'.next) (hi := h3.next) (L := intsL b rf) (vs := [.int .i64 ((ys.getD at_ 0 / 3 % 1001 : Nat) : Int)]) u23 i3 zero3 (by rw [size3, bytes3]; rfl) (by (simp only [go_sem,reduceIte,Nat.reduceEqDiff,Nat.reduceLT]) <;> rfl) (by rw [size3]; rfl) (by rw [size3]; rfl) rfl (by (simp only [go_sem,reduceIte,Nat.reduceEqDiff,Nat.reduceLT, e13]) <;> rfl) (by rw [size3]; exact hsr) (Nat.le_refl _) (Nat.le_refl _) (by rw [En_G]; omega) (by omega) (by decide) (by decide) (by decide) fun h5 hp5 => ?_
            rw [size3, intsL_push] at hp5
            have n5 := hp5.next
            have hnew := hp5.slv (n := b + 1) (c := b + 1) (by rw [intsL_len, Nat.mul_one])
            simp (disch := omega) only [go_sem,reduceIte,Nat.reduceEqDiff,Nat.reduceLT, e14, wrap_i64]
            refine hJ2 (j2 - 1) _ _ (by omega) ⟨b + 1, _, _, by omega, pr3.trans (hp5.pres (by omega) fun x hx => (hsr.blk x hx).1), hnew.wide (by omega) (Nat.le_refl _), fun a ha => ?_, fun ha => ?_, by simp only [go_sem,reduceIte,Nat.reduceEqDiff,Nat.reduceLT, e1], by simp only [go_sem,reduceIte,Nat.reduceEqDiff,Nat.reduceLT, e2], by simp only [go_sem,reduceIte,Nat.reduceEqDiff,Nat.reduceLT, e8], by simp only [go_sem,reduceIte,Nat.reduceEqDiff,Nat.reduceLT, e9], by simp only [go_sem,reduceIte,Nat.reduceEqDiff,Nat.reduceLT, e10], by simp only [go_sem,reduceIte,Nat.reduceEqDiff,Nat.reduceLT, e11], by simp only [go_sem,reduceIte,Nat.reduceEqDiff,Nat.reduceLT, e12], by (simp only [go_sem,reduceIte,Nat.reduceEqDiff,Nat.reduceLT]) <;> rfl, by (simp only [go_sem,reduceIte,Nat.reduceEqDiff,Nat.reduceLT]) <;> rfl⟩
            · by_cases g : a = b
              · rw [if_pos g] <;> omega
              · rw [if_neg g]; exact hrb a (by omega)
            · by_cases g : i = b
              · rw [if_pos g] <;> omega
              · rw [if_neg g]; exact hri (by omega)
          · simp (maxSteps := 3000000) (disch := omega) only [go_sem,reduceIte,Nat.reduceEqDiff,Nat.reduceLT, e1, e2, e8, e9, e10, e11, e12, e13, e14, c1, d2, idxA39, Int.toNat_natCast, Nat.mul_one, load94, ly, binO_rem n3, tm3, c3]
            refine At_push (v := .int .i64 0) (A := Ar) (sl := b) (sc := b) (lo := h'.next) (hi := h3.next) (L := intsL b rf) (vs := [.int .i64 0]) u23 i3 zero3 (by rw [size3, bytes3]; rfl) (by (simp only [go_sem,reduceIte,Nat.reduceEqDiff,Nat.reduceLT]) <;> rfl) (by rw [size3]; rfl) (by rw [size3]; rfl) rfl (by (simp only [go_sem,reduceIte,Nat.reduceEqDiff,Nat.reduceLT, e13]) <;> rfl) (by rw [size3]; exact hsr) (Nat.le_refl _) (Nat.le_refl _) (by rw [En_G]; omega) (by omega) (by decide) (by decide) (by decide) fun h5 hp5 => ?_
            rw [size3, intsL_push] at hp5
            have n5 := hp5.next
            have hnew := hp5.slv (n := b + 1) (c := b + 1) (by rw [intsL_len, Nat.mul_one])
            simp (disch := omega) only [go_sem,reduceIte,Nat.reduceEqDiff,Nat.reduceLT, e14, wrap_i64]
            refine hJ2 (j2 - 1) _ _ (by omega) ⟨b + 1, _, _, by omega, pr3.trans (hp5.pres (by omega) fun x hx => (hsr.blk x hx).1), hnew.wide (by omega) (Nat.le_refl _), fun a ha => ?_, fun ha => ?_, by simp only [go_sem,reduceIte,Nat.reduceEqDiff,Nat.reduceLT, e1], by simp only [go_sem,reduceIte,Nat.reduceEqDiff,Nat.reduceLT, e2], by simp only [go_sem,reduceIte,Nat.reduceEqDiff,Nat.reduceLT, e8], by simp only [go_sem,reduceIte,Nat.reduceEqDiff,Nat.reduceLT, e9], by simp only [go_sem,reduceIte,Nat.reduceEqDiff,Nat.reduceLT, e10], by simp only [go_sem,reduceIte,Nat.reduceEqDiff,Nat.reduceLT, e11], by simp only [go_sem,reduceIte,Nat.reduceEqDiff,Nat.reduceLT, e12], by (simp only [go_sem,reduceIte,Nat.reduceEqDiff,Nat.reduceLT]) <;> rfl, by (simp only [go_sem,reduceIte,Nat.reduceEqDiff,Nat.reduceLT]) <;> rfl⟩
            · by_cases g : a = b
              · rw [if_pos g] <;> omega
              · rw [if_neg g]; exact hrb a (by omega)
            · by_cases g : i = b
              · rw [if_pos g] <;> omega
              · rw [if_neg g]; exact hri (by omega)
      · simp (maxSteps := 3000000) (disch := omega) only [go_sem,reduceIte,Nat.reduceEqDiff,Nat.reduceLT, e1, e2, e8, e9, e10, e11, e12, e13, e14, c1]
        refine At_push (v := .int .i64 0) (A := Ar) (sl := b) (sc := b) (lo := h'.next) (hi := h3.next) (L := intsL b rf) (vs := [.int .i64 0]) u23 i3 zero3 (by rw [size3, bytes3]; rfl) (by (simp only [go_sem,reduceIte,Nat.reduceEqDiff,Nat.reduceLT]) <;> rfl) (by rw [size3]; rfl) (by rw [size3]; rfl) rfl (by (simp only [go_sem,reduceIte,Nat.reduceEqDiff,Nat.reduceLT, e13]) <;> rfl) (by rw [size3]; exact hsr) (Nat.le_refl _) (Nat.le_refl _) (by rw [En_G]; omega) (by omega) (by decide) (by decide) (by decide) fun h5 hp5 => ?_
        rw [size3, intsL_push] at hp5
        have n5 := hp5.next
        have hnew := hp5.slv (n := b + 1) (c := b + 1) (by rw [intsL_len, Nat.mul_one])
        simp (disch := omega) only [go_sem,reduceIte,Nat.reduceEqDiff,Nat.reduceLT, e14, wrap_i64]
        refine hJ2 (j2 - 1) _ _ (by omega) ⟨b + 1, _, _, by omega, pr3.trans (hp5.pres (by omega) fun x hx => (hsr.blk x hx).1), hnew.wide (by omega) (Nat.le_refl _), fun a ha => ?_, fun ha => ?_, by simp only [go_sem,reduceIte,Nat.reduceEqDiff,Nat.reduceLT, e1], by simp only [go_sem,reduceIte,Nat.reduceEqDiff,Nat.reduceLT, e2], by simp only [go_sem,reduceIte,Nat.reduceEqDiff,Nat.reduceLT, e8], by simp only [go_sem,reduceIte,Nat.reduceEqDiff,Nat.reduceLT, e9], by simp only [go_sem,reduceIte,Nat.reduceEqDiff,Nat.reduceLT, e10], by simp only [go_sem,reduceIte,Nat.reduceEqDiff,Nat.reduceLT, e11], by simp only [go_sem,reduceIte,Nat.reduceEqDiff,Nat.reduceLT, e12], by (simp only [go_sem,reduceIte,Nat.reduceEqDiff,Nat.reduceLT]) <;> rfl, by (simp only [go_sem,reduceIte,Nat.reduceEqDiff,Nat.reduceLT]) <;> rfl⟩
        · by_cases g : a = b
          · rw [if_pos g] <;> omega
          · rw [if_neg g]; exact hrb a (by omega)
        · by_cases g : i = b
          · rw [if_pos g] <;> omega
          · rw [if_neg g]; exact hri (by omega)
    · obtain rfl : b = k := by omega
      clear hJ2
      simp (disch := omega) only [go_sem,reduceIte,Nat.reduceEqDiff,Nat.reduceLT, e1, e2, e8, e9, e10, e11, e12, e13, e14, hlb]
      have hsc3 := hsc.mono (B' := h3.blks) fun x _ hx => pr3.get x (by omega)
      have hsd3 := hsd.mono (B' := h3.blks) fun x _ hx => pr3.get x (by omega)
      refine At_push (v := .int .i64 (w : Int)) (A := Ac) (sl := i) (sc := i) (lo := m) (hi := m2) (L := intsL i cf) (vs := [.int .i64 (w : Int)]) u23 i3 zero3 (by rw [size3, bytes3]; rfl) (by simp only [go_sem,reduceIte,Nat.reduceEqDiff,Nat.reduceLT]) (by rw [size3]; rfl) (by rw [size3]; rfl) rfl (by simp only [go_sem,reduceIte,Nat.reduceEqDiff,Nat.reduceLT]) (by rw [size3]; exact hsc3) (by omega) (Nat.le_refl _) (by rw [En_G]; omega) (by omega) (by decide) (by decide) (by decide) fun h4 hp4 => ?_
      rw [size3, intsL_push] at hp4
      have n4 := hp4.next
      have hnc := hp4.slv (n := i + 1) (c := i + 1) (by rw [intsL_len, Nat.mul_one])
      have oc : ∀ x, blkOf (.slice Ac i i) = some x → m ≤ x ∧ x < m2 := fun x hx => hsc.blk x hx
      have hsd4 := hp4.other hsd3 (by omega) fun x hx => .inl (oc x hx).2
      try simp only [go_sem,reduceIte,Nat.reduceEqDiff,Nat.reduceLT]
      refine At_push (v := .slice Ar b b) (A := Ad) (sl := i) (sc := i) (lo := m2) (hi := h'.next) (L := rowsL i (fun _ => b) RA rc) (vs := [.slice Ar b b]) u22 i23 zero23 (by rw [size23, bytes23]; rfl) (by simp only [go_sem,reduceIte,Nat.reduceEqDiff,Nat.reduceLT, e13]) (by rw [size23]; rfl) (by rw [size23]; rfl) rfl (by simp only [go_sem,reduceIte,Nat.reduceEqDiff,Nat.reduceLT, e10]) (by rw [size23]; exact hsd4) (by omega) (Nat.le_refl _) (by rw [En_G]; omega) (by omega) (by decide) (by decide) (by decide) fun h5 hp5 => ?_
      have e := rowsL_snoc (i := i) (g := fun _ => b) (RA := RA) (rc := rc) (A := Ar) (c := b)
      rw [size23, e] at hp5
      have n5 := hp5.next
      have hnd := hp5.slv (n := i + 1) (c := i + 1) (by rw [rowsL_len, Nat.mul_one])
      have od : ∀ x, blkOf (.slice Ad i i) = some x → m2 ≤ x ∧ x < h'.next := fun x hx => hsd.blk x hx
      have hnc5 := hp5.other hnc (by omega) fun x hx => .inl (by have := od x hx; omega)
      have low : ∀ x, x < h3.next → (x < m ∨ h'.next ≤ x) → h5.blks.get x = h3.blks.get x := fun x hx hx2 => by
        rw [hp5.get x (by omega), if_neg fun g => by have := od x g; omega, hp4.get x (by omega), if_neg fun g => by have := oc x g; omega]
      have pr5 : Pres h.next h h5 := pr.trans ((pr3.le (by omega)).trans ((hp4.pres (by omega) fun x hx => by have := oc x hx; omega).trans (hp5.pres (by omega) fun x hx => by have := od x hx; omega)))
      simp (disch := omega) only [go_sem,reduceIte,Nat.reduceEqDiff,Nat.reduceLT, e11, wrap_i64]
      refine hJ (j - 1) _ _ (by omega) ⟨i + 1, h3.next, h4.next, _, fun a => if a = i then rf else f a, _, _, _, _, by omega, pr5, by omega, by omega, by omega, hnc5.wide (by omega) (Nat.le_refl _), hnd.wide (by omega) (Nat.le_refl _), fun a ha => ?_, fun a ha => ?_, fun a x ha hx => ?_, fun a ha => ?_, by simp only [go_sem,reduceIte,Nat.reduceEqDiff,Nat.reduceLT, e1], by simp only [go_sem,reduceIte,Nat.reduceEqDiff,Nat.reduceLT, e2], by simp only [go_sem,reduceIte,Nat.reduceEqDiff,Nat.reduceLT, e8], by (simp only [go_sem,reduceIte,Nat.reduceEqDiff,Nat.reduceLT]) <;> rfl, by (simp only [go_sem,reduceIte,Nat.reduceEqDiff,Nat.reduceLT]) <;> rfl, by (simp only [go_sem,reduceIte,Nat.reduceEqDiff,Nat.reduceLT]) <;> rfl⟩
      · by_cases g : a = i
        · subst g
          simp only [if_true]
          exact (hsr.mono fun x h1 h2 => low x h2 (.inr h1)).wide (by omega) (Nat.le_refl _)
        · simp only [g, if_false]
          exact ((hrows a (by omega)).mono fun x h1 h2 => (low x (by omega) (.inl h2)).trans (pr3.get x (by omega))).wide (Nat.le_refl _) (by omega)
      · by_cases g : a = i
        · rw [if_pos g] <;> omega
        · rw [if_neg g]; exact hcb a (by omega)
      · by_cases g : a = i
        · simp only [g, if_true]; exact hrb x hx
        · simp only [g, if_false]; exact hfb a x (by omega) hx
      · by_cases g : a = i
        · subst g; simp only [if_true]; exact hri hik
        · simp only [g, if_false]; exact hfd a (by omega)
  · obtain rfl : i = k := by omega
    simp (disch := omega) only [go_sem,reduceIte,Nat.reduceEqDiff,Nat.reduceLT, e1, e2, e8, e9, e10, e11, hlt]
    exact hQ' _ _ ⟨pr, i, cf, f, Ac, Ad, RA, rc, hk, rfl, hsc.wide (by omega) (by omega), hcb, ⟨hsd.wide (by omega) (Nat.le_refl _), fun a ha => (hrows a ha).wide (Nat.le_refl _) (by omega)⟩, ⟨fun a b ha hb => hfb a b ha hb, fun a ha => hfd a ha⟩⟩
end
end Go.Proofs.YtngpoamjhngcgaaGreatDoor.Ev

