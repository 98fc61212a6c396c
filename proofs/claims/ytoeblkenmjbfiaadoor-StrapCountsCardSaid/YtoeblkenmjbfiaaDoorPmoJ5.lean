/- The law StrapCounts. -/
import Derived.Test.YtoeblkenmjbfiaaDoorPmoJ4
set_option linter.unusedSimpArgs false
set_option linter.unusedVariables false
namespace Go.Proofs.YtoeblkenmjbfiaaDoor.Ev
open Go Go.Proofs
noncomputable section

theorem rise_lt {V : Int} : ∀ {l : List Int} {lo : Int}, (∀ x ∈ l, lo ≤ x ∧ x < V) → l.Pairwise (· < ·) → Rise lo V l
  | [], _, _, _ => trivial
  | a :: l, lo, h, hp => by
    have h1 := List.pairwise_cons.1 hp
    have h2 := h a List.mem_cons_self
    exact ⟨h2.1, h2.2, rise_lt (fun x hx => ⟨by have := h1.1 x hx; omega, (h x (List.mem_cons_of_mem _ hx)).2⟩) h1.2⟩
theorem sm_const {c : Nat} : ∀ m, sm (fun _ => c) m = m * c
  | 0 => by simp [sm]
  | m + 1 => by rw [sm, sm_const m, Nat.add_mul]; omega
theorem ev_count {V o : Nat} {l : List Int} (hV : 2 ≤ V) (hin : InV V l) (hlt : l.Pairwise (· < ·)) (he : Ev V l o) : l.length * (l.length - 1) = o * (V - 1) := by
  rw [← rdc_sum (v := V) (by omega) (rise_lt (fun x hx => hin x hx) hlt), sm_congr (g := fun _ => o) (V - 1) fun i hi => he _ (by omega) (by omega), sm_const, Nat.mul_comm]
theorem ev_square {V o : Nat} {l : List Int} (hV : 2 ≤ V) (h2 : V % 2 = 0) (hin : InV V l) (hlt : l.Pairwise (· < ·)) (he : Ev V l o) : ∃ r : Nat, r ≤ l.length ∧ ((r : Int) * r) = (l.length : Int) - o := by
  obtain ⟨m, rfl⟩ : ∃ m, V = 2 * (m + 1) := ⟨V / 2 - 1, by omega⟩
  exact rdc_square (rise_lt (fun x hx => hin x hx) hlt) rfl fun d hd => he _ (by omega) (by omega)
theorem Even_x {G V lo hi c : Nat} {l : List Int} {A : Option Addr} {h : H} (hG : G ≤ h.next) (hhi : hi ≤ h.next) (hv : SlV h.blks lo hi 1 l.length (ints l) (.slice A l.length c)) (hl : l.length ≤ 31) (h0 : 0 < l.length) (hV : 2 ≤ V) (hV2 : V ≤ 31) (hin : InV V l) (hlt : l.Pairwise (· < ·)) :
    Spec Tryd.prog (En G) 8 [.int .i64 V, .slice A l.length c] h fun w _ => w = .tuple #[.int .i64 0, .int .i64 5] ∨ ∃ o : Nat, w = .tuple #[.int .i64 o, .int .i64 0] ∧ Ev V l o := by
  have hr := round_ok hV hV2 hl hin hlt h0
  have hd : ∀ d : Nat, dcp (fun i => l.getD i 0) V l.length 0 d = ((rdc V l d : Nat) : Int) := fun d => by
    unfold dcp
    rw [cpz_all, cpz_all, ilst_getD]
    unfold rdc
    omega
  rw [ints_intsL] at hv
  refine Spec.mono (Even_spec hG hhi hv (by omega)) fun w h' _ ⟨o', e, hw, hev⟩ => ?_
  subst hw
  rcases hev with ⟨hne, hre, _⟩ | ⟨_, V', hV', hrest⟩
  · exact absurd (roundE_one hre hr) hne
  · obtain rfl : V' = V := by omega
    rcases hrest with ⟨hE, rfl, rfl⟩ | ⟨hno, rfl, rfl⟩
    · refine .inr ⟨rdc V' l 1, by rw [hd 1]; rfl, fun d a b => ?_⟩
      have h1 := hE d.toNat (by omega) (by omega)
      rw [hd, hd, show ((d.toNat : Nat) : Int) = d by omega] at h1
      exact Int.ofNat.inj h1
    · exact .inl rfl
theorem in_len : ∀ {V : Nat} {l : List Int}, InV V l → l.Pairwise (· < ·) → l.length ≤ V := by
  intro V l hin hlt
  have := cg_one hin (hlt.imp fun h => by omega)
  have h11 : (rs V (rs V l)).length ≤ V := by
    unfold rs
    rw [List.length_map]
    exact Nat.le_trans (List.length_filter_le _ _) (by simp)
  rw [rs_rs hin hlt] at h11
  exact h11
theorem conv23_3 {P : Program} {G : Nat} {B : Tr Blk} {a : Nat} (ha : a < 4294967296) : convO P (En G) B 23 3 (some (.int .u32 (a : Int))) = some (.int .i64 a) := by
  rw [convO_int u23 u3, wrap_i64 (by omega) (by omega)]
/-- a number below n has this square -/
def sqB (z : Int) (n : Nat) : Bool := (List.range n).any fun r : Nat => decide ((r : Int) * (r : Int) = z)
theorem sqB_succ {z : Int} {n : Nat} : sqB z (n + 1) = (sqB z n || decide ((n : Int) * (n : Int) = z)) := by
  unfold sqB
  rw [List.range_succ, List.any_append]
  simp
theorem sqB_of {z : Int} {n r : Nat} (h : r < n) (h2 : (r : Int) * r = z) : sqB z n = true := List.any_eq_true.2 ⟨r, List.mem_range.2 h, decide_eq_true h2⟩

set_option maxHeartbeats 32000000 in
theorem law_StrapCounts {G hi v set : Nat} {x0 x1 x2 : UInt8} {h : H} (hG : G ≤ h.next) (hhi : hi ≤ G) (hT : EvenT h.blks hi) (hv : v < 4294967296) (hset : set < 4294967296) :
    Spec Tryd.prog (En G) 3 [.agg #[.int .u8 x0.toNat, .int .u8 x1.toNat, .int .u8 x2.toNat], .int .u32 v, .int .u32 set] h fun w _ => w = .bool true := by
  refine CallsE_enter (En_known (by decide)) (En_f.trans Tryd.func3) rfl ⟨Nat.le_of_ble_eq_true rfl, by decide⟩ fun Q' hQ' => ?_
  simp only [Tryd.f3, go_sem,reduceIte,Nat.reduceEqDiff,Nat.reduceLT]
  refine At_box (v := .agg #[.int .u8 x0.toNat, .int .u8 x1.toNat, .int .u8 x2.toNat]) (by (simp only [go_sem,reduceIte,Nat.reduceEqDiff,Nat.reduceLT]) <;> rfl) (by omega) fun h0 hn0 => ?_
  have lz : (Value.agg #[Value.int IntKind.u8 x0.toNat, Value.int IntKind.u8 x1.toNat, Value.int IntKind.u8 x2.toNat]).cells.toList = [.int .u8 (x0.toNat : Int), .int .u8 (x1.toNat : Int), .int .u8 (x2.toNat : Int)] := rfl
  have hvar := hn0.var
  rw [lz] at hvar
  have n0 := hn0.next
  have pr0 : Pres h.next h h0 := hn0.pres (Nat.le_refl _)
  have hT0 := hT.mono (B' := h0.blks) fun b hb => pr0.get b (by omega)
  have h2m : ((set : Nat) : Int).tmod 2 = ((set % 2 : Nat) : Int) := rfl
  have h30 : ((v : Nat) : Int).tmod 30 = ((v % 30 : Nat) : Int) := rfl
  obtain ⟨N, hN⟩ : ∃ N, v % 30 + 2 = N := ⟨_, rfl⟩
  have hNi : ((v % 30 : Nat) : Int) + 2 = (N : Int) := by omega
  have hN2 : 2 ≤ N := by omega
  have hN31 : N ≤ 31 := by omega
  simp only [go_sem,reduceIte,Nat.reduceEqDiff,Nat.reduceLT, hvar.loadA agg22 i22 (by rw [size22]; rfl)]
  refine CallO_f (made_spec (x0 := x0) (x1 := x1) (x2 := x2) (by omega) hhi hT0) (by omega) fun u h1 pr1 ⟨k, V, t, s, S, o, A, hk, ht, hg, hs, hu, hsv⟩ => ?_
  subst hu
  have n1 := pr1.next
  by_cases hodd : set % 2 = 1
  · have d0 : decide (((set % 2 : Nat) : Int) = 1) = true := decide_eq_true (by omega)
    have d9 : decide (((set % 2 : Nat) : Int) = 0) = false := decide_eq_false (by omega)
    clear hk ht hg hs hsv
    simp (disch := omega) only [go_sem,reduceIte,Nat.reduceEqDiff,Nat.reduceLT, h2m, d0, conv23_3 hv, h30, wrap_i64, hNi]
    obtain ⟨p, hp⟩ : ∃ p : Nat → Bool, ∀ i, p i = decide ((((set >>> i) % 2 : Nat) : Int) = 1) := ⟨_, fun _ => rfl⟩
    refine WK_loopN (fun j α h2 => ∃ (i : Nat) (A' : Option Addr), i + j = N ∧ α.get 2 = some (.int .u32 set) ∧ α.get 7 = some (.int .i64 N) ∧ α.get 8 = some (.slice A' (bl p i).length (bl p i).length) ∧ α.get 9 = some (.int .i64 i) ∧
        SlV h2.blks h1.next h2.next 1 (bl p i).length (ints (bl p i)) (.slice A' (bl p i).length (bl p i).length) ∧ Pres h1.next h1 h2) N
      ⟨0, none, by omega, by simp only [go_sem,reduceIte,Nat.reduceEqDiff,Nat.reduceLT], by simp only [go_sem,reduceIte,Nat.reduceEqDiff,Nat.reduceLT], by (simp only [go_sem,reduceIte,Nat.reduceEqDiff,Nat.reduceLT]) <;> rfl, by (simp only [go_sem,reduceIte,Nat.reduceEqDiff,Nat.reduceLT]) <;> rfl, .nil rfl rfl, Pres.refl _ _⟩ (by omega) ?_
    rintro J j α h2 ⟨i, A', hij, e2, e7, e8, e9, hsv, pr⟩ hJ
    have nx2 := pr.next
    have hsh : set >>> i < 4294967296 := Nat.lt_of_le_of_lt (by rw [Nat.shiftRight_eq_div_pow]; exact Nat.div_le_self _ _) hset
    have hbl := bl_len (p := p) (n := i)
    by_cases hlt : (i : Int) < (N : Int)
    · cases hpi : p i with
      | true =>
        have d1 : decide ((((set >>> i) % 2 : Nat) : Int) = 1) = true := by rw [← hp]; exact hpi
        simp (disch := omega) only [go_sem,reduceIte,Nat.reduceEqDiff,Nat.reduceLT, e2, e7, e8, e9, hlt, shr32 (show i < 32 by omega), and32 hsh, d1]
        refine At_pushI (lo := h1.next) (hi := h2.next) (l := bl p i) (z := i) (by (simp only [go_sem,reduceIte,Nat.reduceEqDiff,Nat.reduceLT]) <;> rfl) (by simp only [go_sem,reduceIte,Nat.reduceEqDiff,Nat.reduceLT]) hsv (Nat.le_refl _) (by omega) (by omega) (by omega) (by decide) (by decide) (by decide) fun A3 h3 pr3 hs3 nx3 => ?_
        have e : bl p i ++ [(i : Int)] = bl p (i + 1) := by rw [bl_succ, if_pos hpi]
        rw [e] at hs3 ⊢
        simp (disch := omega) only [go_sem,reduceIte,Nat.reduceEqDiff,Nat.reduceLT, e9, wrap_i64]
        exact hJ (N - (i + 1)) _ _ (by omega) ⟨i + 1, A3, by omega, by simp only [go_sem,reduceIte,Nat.reduceEqDiff,Nat.reduceLT, e2], by simp only [go_sem,reduceIte,Nat.reduceEqDiff,Nat.reduceLT, e7], by simp only [go_sem,reduceIte,Nat.reduceEqDiff,Nat.reduceLT], by (simp only [go_sem,reduceIte,Nat.reduceEqDiff,Nat.reduceLT]) <;> rfl, hs3, pr.trans pr3⟩
      | false =>
        have d1 : decide ((((set >>> i) % 2 : Nat) : Int) = 1) = false := by rw [← hp]; exact hpi
        have e : bl p (i + 1) = bl p i := by rw [bl_succ, if_neg (by rw [hpi]; exact Bool.noConfusion)]
        simp (disch := omega) only [go_sem,reduceIte,Nat.reduceEqDiff,Nat.reduceLT, e2, e7, e8, e9, hlt, shr32 (show i < 32 by omega), and32 hsh, d1, wrap_i64]
        exact hJ (N - (i + 1)) _ _ (by omega) ⟨i + 1, A', by omega, by simp only [go_sem,reduceIte,Nat.reduceEqDiff,Nat.reduceLT, e2], by simp only [go_sem,reduceIte,Nat.reduceEqDiff,Nat.reduceLT, e7], by rw [e]; simp only [go_sem,reduceIte,Nat.reduceEqDiff,Nat.reduceLT, e8], by (simp only [go_sem,reduceIte,Nat.reduceEqDiff,Nat.reduceLT]) <;> rfl, by rw [e]; exact hsv, pr⟩
    · obtain rfl : i = N := by omega
      have hLi := bl_in (p := p) (n := i)
      have hLt := bl_lt (p := p) (n := i)
      have hS0 : 0 < (bl p i).length := by
        have hp0 : p 0 = true := by rw [hp]; exact decide_eq_true (by rw [Nat.shiftRight_zero]; omega)
        have : (0 : Int) ∈ bl p i := List.mem_map.2 ⟨0, List.mem_filter.2 ⟨List.mem_range.2 (by omega), hp0⟩, rfl⟩
        exact List.length_pos_of_mem this
      generalize bl p i = l at *
      have hS31 : l.length ≤ 31 := by omega
      simp (disch := omega) only [go_sem,reduceIte,Nat.reduceEqDiff,Nat.reduceLT, e2, e7, e8, e9, hlt]
      refine CallO_f (Even_x (by omega) (Nat.le_refl _) hsv hS31 hS0 hN2 hN31 hLi hLt) (by omega) fun u h3 pr3 hu => ?_
      have n3 := pr3.next
      have prA : Pres h.next h h3 := pr0.trans ((pr1.le (by omega)).trans ((pr.le (by omega)).trans (pr3.le (by omega))))
      rcases hu with rfl | ⟨o, rfl, hE⟩
      · have k1 : decide ((5 : Int) ≠ 0) = true := rfl
        have k2 : decide ((5 : Int) ≠ 5) = false := rfl
        have k3 : decide ((0 : Int) = 0) = true := rfl
        simp (maxSteps := 3000000) (disch := omega) only [go_sem,reduceIte,Nat.reduceEqDiff,Nat.reduceLT, e2, e7, e8, h2m, d9, k1, k2, k3]
        refine Call_lives (by omega) ?_
        simp (maxSteps := 3000000) (disch := omega) only [go_sem,reduceIte,Nat.reduceEqDiff,Nat.reduceLT, k1, k2, k3]
        exact hQ' _ _ ⟨prA, rfl⟩
      · have hcnt := ev_count hN2 hLi hLt hE
        have hko : l.length * (l.length - 1) ≤ 31 * 31 := Nat.mul_le_mul hS31 (by omega)
        have ho : o ≤ 1000 := by
          have a1 : o ≤ o * (i - 1) := Nat.le_mul_of_pos_right o (by omega)
          omega
        have k0 : decide ((0 : Int) ≠ 0) = false := rfl
        have k1 : (l.length : Int) - 1 = ((l.length - 1 : Nat) : Int) := by omega
        have k2 : (i : Int) - 1 = ((i - 1 : Nat) : Int) := by omega
        have k3 : (l.length : Int) * ((l.length - 1 : Nat) : Int) = ((l.length * (l.length - 1) : Nat) : Int) := by simp
        have k4 : (o : Int) * ((i - 1 : Nat) : Int) = ((l.length * (l.length - 1) : Nat) : Int) := by rw [hcnt]; simp
        have k5 : decide (((l.length * (l.length - 1) : Nat) : Int) ≠ ((l.length * (l.length - 1) : Nat) : Int)) = false := decide_eq_false fun e => e rfl
        simp (maxSteps := 3000000) (disch := omega) only [go_sem,reduceIte,Nat.reduceEqDiff,Nat.reduceLT, e2, e7, e8, h2m, d9, k0]
        refine Call_lives (by omega) ?_
        simp (maxSteps := 3000000) (disch := omega) only [go_sem,reduceIte,Nat.reduceEqDiff,Nat.reduceLT, e2, e7, e8, k0, len24, wrap_i64, k1, k2, k3, k4, k5]
        refine WK_loopN (fun j α h4 => ∃ r : Nat, r + j = i + 1 ∧ h4 = h3 ∧ α.get 7 = some (.int .i64 i) ∧ α.get 8 = some (.slice A' l.length l.length) ∧ α.get 10 = some (.int .i64 o) ∧ α.get 12 = some (.bool (sqB ((l.length : Int) - o) r)) ∧ α.get 13 = some (.int .i64 r)) (i + 1)
          ⟨0, by omega, rfl, by simp only [go_sem,reduceIte,Nat.reduceEqDiff,Nat.reduceLT, e2, e7, e8], by simp only [go_sem,reduceIte,Nat.reduceEqDiff,Nat.reduceLT, e2, e7, e8], by simp only [go_sem,reduceIte,Nat.reduceEqDiff,Nat.reduceLT], by (simp only [go_sem,reduceIte,Nat.reduceEqDiff,Nat.reduceLT]) <;> rfl, by (simp only [go_sem,reduceIte,Nat.reduceEqDiff,Nat.reduceLT]) <;> rfl⟩ (by omega) ?_
        rintro J7 j7 α7 h4 ⟨r, hrj, rfl, g7, g8, g10, g12, g13⟩ hJ7
        by_cases hle : (r : Int) ≤ (i : Int)
        · have hrr : (r : Int) * (r : Int) = ((r * r : Nat) : Int) := by simp
          have hrb : r * r ≤ 31 * 31 := Nat.mul_le_mul (by omega) (by omega)
          have hsq := sqB_succ (z := (l.length : Int) - o) (n := r)
          rw [hrr] at hsq
          cases hb : sqB ((l.length : Int) - o) r with
          | true =>
            rw [hb] at g12 hsq
            simp (disch := omega) only [go_sem,reduceIte,Nat.reduceEqDiff,Nat.reduceLT, g7, g8, g10, g12, g13, hle, len24, wrap_i64]
            exact hJ7 (i + 1 - (r + 1)) _ _ (by omega) ⟨r + 1, by omega, rfl, by simp only [go_sem,reduceIte,Nat.reduceEqDiff,Nat.reduceLT, g7], by simp only [go_sem,reduceIte,Nat.reduceEqDiff,Nat.reduceLT, g8], by simp only [go_sem,reduceIte,Nat.reduceEqDiff,Nat.reduceLT, g10], by rw [hsq]; simp only [go_sem,reduceIte,Nat.reduceEqDiff,Nat.reduceLT, Bool.true_or], by (simp only [go_sem,reduceIte,Nat.reduceEqDiff,Nat.reduceLT]) <;> rfl⟩
          | false =>
            rw [hb, Bool.false_or] at hsq
            rw [hb] at g12
            simp (disch := omega) only [go_sem,reduceIte,Nat.reduceEqDiff,Nat.reduceLT, g7, g8, g10, g12, g13, hle, len24, hrr, wrap_i64]
            exact hJ7 (i + 1 - (r + 1)) _ _ (by omega) ⟨r + 1, by omega, rfl, by simp only [go_sem,reduceIte,Nat.reduceEqDiff,Nat.reduceLT, g7], by simp only [go_sem,reduceIte,Nat.reduceEqDiff,Nat.reduceLT, g8], by simp only [go_sem,reduceIte,Nat.reduceEqDiff,Nat.reduceLT, g10], by rw [hsq]; simp only [go_sem,reduceIte,Nat.reduceEqDiff,Nat.reduceLT], by (simp only [go_sem,reduceIte,Nat.reduceEqDiff,Nat.reduceLT]) <;> rfl⟩
        · obtain rfl : r = i + 1 := by omega
          have hN2m : ((i : Nat) : Int).tmod 2 = ((i % 2 : Nat) : Int) := rfl
          by_cases h2 : i % 2 = 1
          · have k6 : decide (((i % 2 : Nat) : Int) = 1) = true := decide_eq_true (by omega)
            simp (disch := omega) only [go_sem,reduceIte,Nat.reduceEqDiff,Nat.reduceLT, g7, g8, g10, g12, g13, hle, hN2m, k6]
            exact hQ' _ _ ⟨prA, rfl⟩
          · have k6 : decide (((i % 2 : Nat) : Int) = 1) = false := decide_eq_false (by omega)
            obtain ⟨r, hr, hrz⟩ := ev_square hN2 (by omega) hLi hLt hE
            have hll : l.length ≤ i := hbl
            rw [sqB_of (r := r) (by omega) hrz] at g12
            simp (disch := omega) only [go_sem,reduceIte,Nat.reduceEqDiff,Nat.reduceLT, g7, g8, g10, g12, g13, hle, hN2m, k6]
            exact hQ' _ _ ⟨prA, rfl⟩
  · have d0 : decide (((set % 2 : Nat) : Int) = 1) = false := decide_eq_false (by omega)
    have d9 : decide (((set % 2 : Nat) : Int) = 0) = true := decide_eq_true (by omega)
    have hk10 : k < 10 := (List.getElem?_eq_some_iff.1 hk).1
    obtain ⟨V', S', o', he, hV, hV2, hS0, hS31, hSi, hSl, hEv, _⟩ := evT_at hk10
    rw [hk] at he
    simp only [Option.some.injEq, Prod.mk.injEq] at he
    obtain ⟨rfl, rfl, rfl⟩ := he
    have hLi : InV V (cg V t s S) := cg_in (by omega)
    have hLt := cg_lt' (s := (s : Int)) (show 0 < V by omega) hSi hSl hg
    have hLl : (cg V t s S).length = S.length := cg_len
    have hE := hEv.cg (s := (s : Int)) hV hV2 ht hg hSi hSl
    rw [← hLl] at hsv hS0 hS31 ⊢
    generalize cg V t s S = l at *
    simp (disch := omega) only [go_sem,reduceIte,Nat.reduceEqDiff,Nat.reduceLT, h2m, d0]
    refine CallO_f (Even_l (by omega) (Nat.le_refl _) hsv hS31 hS0 hV hV2 hLi hLt hE) (by omega) fun u h3 pr3 hu => ?_
    subst hu
    have n3 := pr3.next
    have hN2 := hV
    have hN31 := hV2
    have prA : Pres h.next h h3 := pr0.trans ((pr1.le (by omega)).trans (pr3.le (by omega)))
    have hcnt := ev_count hN2 hLi hLt hE
    have hko : l.length * (l.length - 1) ≤ 31 * 31 := Nat.mul_le_mul hS31 (by omega)
    have ho : o ≤ 1000 := by
      have a1 : o ≤ o * (V - 1) := Nat.le_mul_of_pos_right o (by omega)
      omega
    have k0 : decide ((0 : Int) ≠ 0) = false := rfl
    have k1 : (l.length : Int) - 1 = ((l.length - 1 : Nat) : Int) := by omega
    have k2 : (V : Int) - 1 = ((V - 1 : Nat) : Int) := by omega
    have k3 : (l.length : Int) * ((l.length - 1 : Nat) : Int) = ((l.length * (l.length - 1) : Nat) : Int) := by simp
    have k4 : (o : Int) * ((V - 1 : Nat) : Int) = ((l.length * (l.length - 1) : Nat) : Int) := by rw [hcnt]; simp
    have k5 : decide (((l.length * (l.length - 1) : Nat) : Int) ≠ ((l.length * (l.length - 1) : Nat) : Int)) = false := decide_eq_false fun e => e rfl
    simp (maxSteps := 3000000) (disch := omega) only [go_sem,reduceIte,Nat.reduceEqDiff,Nat.reduceLT, h2m, d9, k0]
    refine Call_lives (by omega) ?_
    simp (maxSteps := 3000000) (disch := omega) only [go_sem,reduceIte,Nat.reduceEqDiff,Nat.reduceLT, k0, len24, wrap_i64, k1, k2, k3, k4, k5]
    refine WK_loopN (fun j α h4 => ∃ r : Nat, r + j = V + 1 ∧ h4 = h3 ∧ α.get 7 = some (.int .i64 V) ∧ α.get 8 = some (.slice A l.length l.length) ∧ α.get 10 = some (.int .i64 o) ∧ α.get 12 = some (.bool (sqB ((l.length : Int) - o) r)) ∧ α.get 13 = some (.int .i64 r)) (V + 1)
      ⟨0, by omega, rfl, by simp only [go_sem,reduceIte,Nat.reduceEqDiff,Nat.reduceLT], by simp only [go_sem,reduceIte,Nat.reduceEqDiff,Nat.reduceLT], by simp only [go_sem,reduceIte,Nat.reduceEqDiff,Nat.reduceLT], by (simp only [go_sem,reduceIte,Nat.reduceEqDiff,Nat.reduceLT]) <;> rfl, by (simp only [go_sem,reduceIte,Nat.reduceEqDiff,Nat.reduceLT]) <;> rfl⟩ (by omega) ?_
    rintro J7 j7 α7 h4 ⟨r, hrj, rfl, g7, g8, g10, g12, g13⟩ hJ7
    by_cases hle : (r : Int) ≤ (V : Int)
    · have hrr : (r : Int) * (r : Int) = ((r * r : Nat) : Int) := by simp
      have hrb : r * r ≤ 31 * 31 := Nat.mul_le_mul (by omega) (by omega)
      have hsq := sqB_succ (z := (l.length : Int) - o) (n := r)
      rw [hrr] at hsq
      cases hb : sqB ((l.length : Int) - o) r with
      | true =>
        rw [hb] at g12 hsq
        simp (disch := omega) only [go_sem,reduceIte,Nat.reduceEqDiff,Nat.reduceLT, g7, g8, g10, g12, g13, hle, len24, wrap_i64]
        exact hJ7 (V + 1 - (r + 1)) _ _ (by omega) ⟨r + 1, by omega, rfl, by simp only [go_sem,reduceIte,Nat.reduceEqDiff,Nat.reduceLT, g7], by simp only [go_sem,reduceIte,Nat.reduceEqDiff,Nat.reduceLT, g8], by simp only [go_sem,reduceIte,Nat.reduceEqDiff,Nat.reduceLT, g10], by rw [hsq]; simp only [go_sem,reduceIte,Nat.reduceEqDiff,Nat.reduceLT, Bool.true_or], by (simp only [go_sem,reduceIte,Nat.reduceEqDiff,Nat.reduceLT]) <;> rfl⟩
      | false =>
        rw [hb, Bool.false_or] at hsq
        rw [hb] at g12
        simp (disch := omega) only [go_sem,reduceIte,Nat.reduceEqDiff,Nat.reduceLT, g7, g8, g10, g12, g13, hle, len24, hrr, wrap_i64]
        exact hJ7 (V + 1 - (r + 1)) _ _ (by omega) ⟨r + 1, by omega, rfl, by simp only [go_sem,reduceIte,Nat.reduceEqDiff,Nat.reduceLT, g7], by simp only [go_sem,reduceIte,Nat.reduceEqDiff,Nat.reduceLT, g8], by simp only [go_sem,reduceIte,Nat.reduceEqDiff,Nat.reduceLT, g10], by rw [hsq]; simp only [go_sem,reduceIte,Nat.reduceEqDiff,Nat.reduceLT], by (simp only [go_sem,reduceIte,Nat.reduceEqDiff,Nat.reduceLT]) <;> rfl⟩
    · obtain rfl : r = V + 1 := by omega
      have hN2m : ((V : Nat) : Int).tmod 2 = ((V % 2 : Nat) : Int) := rfl
      by_cases h2 : V % 2 = 1
      · have k6 : decide (((V % 2 : Nat) : Int) = 1) = true := decide_eq_true (by omega)
        simp (disch := omega) only [go_sem,reduceIte,Nat.reduceEqDiff,Nat.reduceLT, g7, g8, g10, g12, g13, hle, hN2m, k6]
        exact hQ' _ _ ⟨prA, rfl⟩
      · have k6 : decide (((V % 2 : Nat) : Int) = 1) = false := decide_eq_false (by omega)
        obtain ⟨r, hr, hrz⟩ := ev_square hN2 (by omega) hLi hLt hE
        have hll : l.length ≤ V := in_len hLi hLt
        rw [sqB_of (r := r) (by omega) hrz] at g12
        simp (disch := omega) only [go_sem,reduceIte,Nat.reduceEqDiff,Nat.reduceLT, g7, g8, g10, g12, g13, hle, hN2m, k6]
        exact hQ' _ _ ⟨prA, rfl⟩
end
end Go.Proofs.YtoeblkenmjbfiaaDoor.Ev

