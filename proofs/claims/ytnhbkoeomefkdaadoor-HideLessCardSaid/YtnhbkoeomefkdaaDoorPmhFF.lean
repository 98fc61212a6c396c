/- The document's codes: the first code of so many squares. -/
import Derived.Test.YtnhbkoeomefkdaaDoorPmhQR
import Derived.Test.YtnhbkoeomefkdaaDoorPmhLL
import Derived.Test.YtnhbkoeomefkdaaDoorPmhN5
import Derived.Test.YtnhbkoeomefkdaaDoorPmCp
import Derived.Test.YtnhbkoeomefkdaaDoorPmhA2
import Derived.Test.YtnhbkoeomefkdaaDoorPmhHH
import Derived.Test.YtnhbkoeomefkdaaDoorPmhM2
set_option linter.unusedVariables false
set_option linter.unusedSimpArgs false
namespace Go.Proofs.YtnhbkoeomefkdaaDoor.Ev.L
open Go Go.Proofs Go.Proofs.YtnhbkoeomefkdaaDoor.Ev
noncomputable section

/-- a code that was found, or nil -/
def CodRes (h h' : H) (r : Option (List Int)) (v : Value) : Prop := (r = none ∧ v = .slice none 0 0) ∨ ∃ c B, r = some c ∧ v = .slice (some B) c.length c.length ∧ SlV h'.blks h.next h'.next 1 c.length (ints c) v
theorem ints_oneB {l : List Int} : (ints l).all oneB = true := by simp [ints, oneB]
theorem mulB {a b m n : Int} (h1 : 0 ≤ a) (h2 : a ≤ m) (h3 : 0 ≤ b) (h4 : b ≤ n) : 0 ≤ a * b ∧ a * b ≤ m * n := ⟨Int.mul_nonneg h1 h3, Int.mul_le_mul h2 h4 h3 (by omega)⟩

set_option maxRecDepth 100000 in
set_option maxHeartbeats 64000000 in
theorem codes_step {G w n : Nat} {H0 : Int} (hw : 1 ≤ w ∧ w ≤ 1000) (hH : 0 ≤ H0 ∧ H0 ≤ 1000) (hn : n ≤ 1000)
    (ih : ∀ n', n = n' + 1 → ∀ {lo hi c : Nat} {A : Option Addr} {F : List Int} {h : H}, G ≤ h.next → hi ≤ h.next → SlV h.blks lo hi 1 w (ints F) (.slice A w c) → Flo w H0 F → Spec Tryd.prog (En G) 50 [.slice A w c, .int .i64 H0, .int .i64 (n' : Int)] h fun v h' => CodRes h h' (cod H0 (min (w : Int) H0) n' F) v)
    {lo hi c : Nat} {A : Option Addr} {F : List Int} {h : H} (hG : G ≤ h.next) (hhi : hi ≤ h.next) (hv : SlV h.blks lo hi 1 w (ints F) (.slice A w c)) (hF : Flo w H0 F) :
    Spec Tryd.prog (En G) 50 [.slice A w c, .int .i64 H0, .int .i64 (n : Int)] h fun v h' => CodRes h h' (cod H0 (min (w : Int) H0) n F) v := by
  have hFl := hF.len
  obtain ⟨bA, oA, rfl, _, _, hld0⟩ := hv.at_ (by omega)
  have hld : ∀ i, i < w → loadv h.blks bA (oA + i) = some (.int .i64 (F.getD i 0)) := fun i hi => by rw [hld0 i (by omega), ints_getD (by omega)]
  have hrg := hF.rng
  have hsm : ∀ k, k ≤ w → 0 ≤ smN (fun i => H0 - F.getD i 0) k ∧ smN (fun i => H0 - F.getD i 0) k ≤ 1000000 := fun k hk => by
    have h1 := (smN_nn (f := fun i => H0 - F.getD i 0) k fun i hi => by have := hrg i (by omega); omega).1
    have h2 := smN_le (f := fun i => H0 - F.getD i 0) (b := 1000) k fun i hi => by have := hrg i (by omega); omega
    omega
  refine CallsE_enter (En_known (by decide)) (En_f.trans Tryd.func50) rfl ⟨Nat.le_of_ble_eq_true rfl, by decide⟩ fun Q' hQ' => ?_
  simp only [Tryd.f50, go_sem,reduceIte,Nat.reduceEqDiff,Nat.reduceLT]
  refine WK_loopN (fun j α h2 => ∃ k m : Nat, k + j = w ∧ h = h2 ∧ (m < k ∨ m = 0) ∧ (∀ i, i < k → F.getD m 0 ≤ F.getD i 0) ∧ (∀ i, i < m → F.getD m 0 < F.getD i 0) ∧ α.get 0 = some (.slice (some ⟨bA, oA, none⟩) w c) ∧ α.get 1 = some (.int .i64 H0) ∧ α.get 2 = some (.int .i64 (n : Int)) ∧ α.get 7 = some (.int .i64 (m : Int)) ∧ α.get 8 = some (.int .i64 (smN (fun i => H0 - F.getD i 0) k)) ∧ α.get 9 = some (.int .i64 (k : Int))) w
    ⟨0, 0, by omega, rfl, .inr rfl, fun i hi => by omega, fun i hi => by omega, by simp only [go_sem,reduceIte,Nat.reduceEqDiff,Nat.reduceLT], by simp only [go_sem,reduceIte,Nat.reduceEqDiff,Nat.reduceLT], by simp only [go_sem,reduceIte,Nat.reduceEqDiff,Nat.reduceLT], by (simp only [go_sem,reduceIte,Nat.reduceEqDiff,Nat.reduceLT]) <;> rfl, by (simp only [go_sem,reduceIte,Nat.reduceEqDiff,Nat.reduceLT]) <;> rfl, by (simp only [go_sem,reduceIte,Nat.reduceEqDiff,Nat.reduceLT]) <;> rfl⟩ (by omega) ?_
  rintro J j α h2 ⟨k, m, hk, rfl, hmk, hmin, hleft, e0, e1, e2, e7, e8, e9⟩ hJ
  by_cases hlt : (k : Int) < (w : Int)
  · have l1 := hld k (by omega)
    have l2 := hld m (by omega)
    have hs1 := hsm k (by omega)
    have hs2 := hsm (k + 1) (by omega)
    rw [smN] at hs2
    have hFk := hrg k (by omega)
    simp (disch := omega) only [go_sem,reduceIte,Nat.reduceEqDiff,Nat.reduceLT, e0, e1, e2, e7, e8, e9, len27, hlt]
    refine WK_regionT 8 ⟨by kernel_rfl, by kernel_rfl, by kernel_rfl⟩ ?_
    by_cases hc : F.getD k 0 < F.getD m 0
    · simp (maxSteps := 3000000) (disch := omega) only [go_sem,reduceIte,Nat.reduceEqDiff,Nat.reduceLT, e0, e1, e2, e7, e8, e9, idxA27, load3, Int.toNat_natCast, Nat.mul_one, l1, l2, hc, wrap_i64]
      refine hJ (j - 1) _ _ (by omega) ⟨k + 1, k, by omega, rfl, by omega, fun i hi => ?_, fun i hi => ?_, by simp only [go_sem,reduceIte,Nat.reduceEqDiff,Nat.reduceLT, e0], by simp only [go_sem,reduceIte,Nat.reduceEqDiff,Nat.reduceLT, e1], by simp only [go_sem,reduceIte,Nat.reduceEqDiff,Nat.reduceLT, e2], by simp only [go_sem,reduceIte,Nat.reduceEqDiff,Nat.reduceLT], by (simp only [go_sem,reduceIte,Nat.reduceEqDiff,Nat.reduceLT]) <;> rfl, by (simp only [go_sem,reduceIte,Nat.reduceEqDiff,Nat.reduceLT]) <;> rfl⟩
      · by_cases hix : i = k
        · subst hix; exact Int.le_refl _
        · have := hmin i (by omega); omega
      · have := hmin i hi; omega
    · simp (maxSteps := 3000000) (disch := omega) only [go_sem,reduceIte,Nat.reduceEqDiff,Nat.reduceLT, e0, e1, e2, e7, e8, e9, idxA27, load3, Int.toNat_natCast, Nat.mul_one, l1, l2, hc, wrap_i64]
      refine hJ (j - 1) _ _ (by omega) ⟨k + 1, m, by omega, rfl, by omega, fun i hi => ?_, hleft, by simp only [go_sem,reduceIte,Nat.reduceEqDiff,Nat.reduceLT, e0], by simp only [go_sem,reduceIte,Nat.reduceEqDiff,Nat.reduceLT, e1], by simp only [go_sem,reduceIte,Nat.reduceEqDiff,Nat.reduceLT, e2], by simp only [go_sem,reduceIte,Nat.reduceEqDiff,Nat.reduceLT, e7], by (simp only [go_sem,reduceIte,Nat.reduceEqDiff,Nat.reduceLT]) <;> rfl, by (simp only [go_sem,reduceIte,Nat.reduceEqDiff,Nat.reduceLT]) <;> rfl⟩
      by_cases hix : i = k
      · subst hix; omega
      · exact hmin i (by omega)
  · obtain rfl : k = w := by omega
    have hmw : m < k := by omega
    obtain ⟨wd, hroom⟩ := room_ex (l := F) (k := m) (by omega) (fun i hi => hmin i (by omega)) hleft
    have hrp := hroom.pos
    have hrl := hroom.le
    have hlow := hroom.eq.1
    have hwide := hroom.eq.2
    have hbot : bot F = F.getD m 0 := by unfold bot; rw [hlow]
    have harea : smN (fun i => H0 - F.getD i 0) k = ara H0 F := by unfold ara; rw [hFl]
    have lm := hld m hmw
    have hFm := hrg m hmw
    have hsA := hsm k (Nat.le_refl _)
    rw [harea] at e8 hsA
    clear hJ
    by_cases hb : F.getD m 0 = H0
    · have db : decide (F.getD m 0 = H0) = true := decide_eq_true hb
      rw [← hbot] at hb
      by_cases hn0 : n = 0
      · subst hn0
        have d0 : decide (((0 : Nat) : Int) = 0) = true := rfl
        simp (maxSteps := 3000000) (disch := omega) only [go_sem,reduceIte,Nat.reduceEqDiff,Nat.reduceLT, e0, e1, e2, e7, e8, e9, len27, hlt, idxA27, load3, Int.toNat_natCast, Nat.mul_one, lm, db, d0]
        refine At_lit0 u27 i3 zero3 (by rw [size3]; rfl) (by omega) ?_
        simp only [go_sem,reduceIte,Nat.reduceEqDiff,Nat.reduceLT]
        exact hQ' _ _ ⟨Pres.refl _ _, .inr ⟨[], ⟨0, 0, some 0⟩, by rw [cod, if_pos hb], rfl, .emp rfl rfl⟩⟩
      · have d0 : decide ((n : Int) = 0) = false := decide_eq_false (by omega)
        simp (maxSteps := 3000000) (disch := omega) only [go_sem,reduceIte,Nat.reduceEqDiff,Nat.reduceLT, e0, e1, e2, e7, e8, e9, len27, hlt, idxA27, load3, Int.toNat_natCast, Nat.mul_one, lm, db, d0]
        obtain ⟨n', rfl⟩ : ∃ n', n = n' + 1 := ⟨n - 1, by omega⟩
        exact hQ' _ _ ⟨Pres.refl _ _, .inl ⟨by rw [cod, if_pos hb], rfl⟩⟩
    · have db : decide (F.getD m 0 = H0) = false := decide_eq_false hb
      rw [← hbot] at hb
      by_cases hn0 : n = 0
      · subst hn0
        have d0 : decide (((0 : Nat) : Int) = 0) = true := rfl
        simp (maxSteps := 3000000) (disch := omega) only [go_sem,reduceIte,Nat.reduceEqDiff,Nat.reduceLT, e0, e1, e2, e7, e8, e9, len27, hlt, idxA27, load3, Int.toNat_natCast, Nat.mul_one, lm, db, d0]
        exact hQ' _ _ ⟨Pres.refl _ _, .inl ⟨by rw [cod, if_neg hb], rfl⟩⟩
      · have d0 : decide ((n : Int) = 0) = false := decide_eq_false (by omega)
        obtain ⟨n', rfl⟩ : ∃ n', n = n' + 1 := ⟨n - 1, by omega⟩
        have ih := @ih n' rfl
        simp (maxSteps := 3000000) (disch := omega) only [go_sem,reduceIte,Nat.reduceEqDiff,Nat.reduceLT, e0, e1, e2, e7, e8, e9, len27, hlt, idxA27, load3, Int.toNat_natCast, Nat.mul_one, lm, db, d0]
        refine WK_loopN (fun j α h2 => ∃ x : Nat, x + j = k ∧ h = h2 ∧ m ≤ x ∧ (∀ i, m ≤ i → i < x → F.getD i 0 = F.getD m 0) ∧ α.get 0 = some (.slice (some ⟨bA, oA, none⟩) k c) ∧ α.get 1 = some (.int .i64 H0) ∧ α.get 2 = some (.int .i64 ((n' + 1 : Nat) : Int)) ∧ α.get 7 = some (.int .i64 (m : Int)) ∧ α.get 8 = some (.int .i64 (ara H0 F)) ∧ α.get 10 = some (.int .i64 (x : Int))) (k - m)
          ⟨m, by omega, rfl, Nat.le_refl _, fun i h1 h2 => by omega, by simp only [go_sem,reduceIte,Nat.reduceEqDiff,Nat.reduceLT, e0], by simp only [go_sem,reduceIte,Nat.reduceEqDiff,Nat.reduceLT, e1], by simp only [go_sem,reduceIte,Nat.reduceEqDiff,Nat.reduceLT, e2], by simp only [go_sem,reduceIte,Nat.reduceEqDiff,Nat.reduceLT, e7], by simp only [go_sem,reduceIte,Nat.reduceEqDiff,Nat.reduceLT, e8], by simp only [go_sem,reduceIte,Nat.reduceEqDiff,Nat.reduceLT]⟩ (by omega) ?_
        rintro J j α h2 ⟨x, hx, rfl, hmx, hflat, e0, e1, e2, e7, e8, e10⟩ hJ
        by_cases hxw : (x : Int) < (k : Int)
        · have lx := hld x (by omega)
          by_cases hq : F.getD x 0 = F.getD m 0
          · have dq : decide (F.getD x 0 = F.getD m 0) = true := decide_eq_true hq
            try simp only [go_sem,reduceIte,Nat.reduceEqDiff,Nat.reduceLT]
            refine WK_regionT 13 ⟨by kernel_rfl, by kernel_rfl, by kernel_rfl⟩ ?_
            simp (maxSteps := 3000000) (disch := omega) only [go_sem,reduceIte,Nat.reduceEqDiff,Nat.reduceLT, e0, e1, e2, e7, e8, e10, len27, hxw, idxA27, load3, Int.toNat_natCast, Nat.mul_one, lx, lm, dq, wrap_i64]
            refine hJ (j - 1) _ _ (by omega) ⟨x + 1, by omega, rfl, by omega, fun i h1 h2 => ?_, by simp only [go_sem,reduceIte,Nat.reduceEqDiff,Nat.reduceLT, e0], by simp only [go_sem,reduceIte,Nat.reduceEqDiff,Nat.reduceLT, e1], by simp only [go_sem,reduceIte,Nat.reduceEqDiff,Nat.reduceLT, e2], by simp only [go_sem,reduceIte,Nat.reduceEqDiff,Nat.reduceLT, e7], by simp only [go_sem,reduceIte,Nat.reduceEqDiff,Nat.reduceLT, e8], by (simp only [go_sem,reduceIte,Nat.reduceEqDiff,Nat.reduceLT]) <;> rfl⟩
            by_cases hix : i = x
            · subst hix; exact hq
            · exact hflat i h1 (by omega)
          · have dq : decide (F.getD x 0 = F.getD m 0) = false := decide_eq_false hq
            have hxm : m < x := by
              rcases Nat.lt_or_ge m x with g | g
              · exact g
              · obtain rfl : m = x := by omega
                exact absurd rfl hq
            have hxx : x = m + wd := by
              have r2 : RoomOf F m (x - m) := ⟨by omega, hroom.low, hroom.left, fun i h1 h2 => hflat i h1 (by omega), fun h3 => by rw [show m + (x - m) = x by omega]; exact hq, by omega⟩
              have := (hroom.uniq r2).2
              omega
            subst hxx
            try simp only [go_sem,reduceIte,Nat.reduceEqDiff,Nat.reduceLT]
            refine WK_regionT 13 ⟨by kernel_rfl, by kernel_rfl, by kernel_rfl⟩ ?_
            simp (maxSteps := 3000000) (disch := omega) only [go_sem,reduceIte,Nat.reduceEqDiff,Nat.reduceLT, e0, e1, e2, e7, e8, e10, len27, hxw, idxA27, load3, Int.toNat_natCast, Nat.mul_one, lx, lm, dq, wrap_i64]
            obtain ⟨gr, hgr⟩ : ∃ gr : Int, gr = min (k : Int) H0 := ⟨_, rfl⟩
            rw [← hgr] at ih hQ'
            have hgb : 0 ≤ gr ∧ gr ≤ 1000 := by omega
            have hm1 := mulB (a := (n' : Int)) (b := gr) (m := 1000) (n := 1000) (by omega) (by omega) hgb.1 hgb.2
            have hm2 := mulB (a := (n' : Int) * gr) (b := gr) (m := 1000000) (n := 1000) hm1.1 (by omega) hgb.1 hgb.2
            have en : ((n' + 1 : Nat) : Int) - 1 = (n' : Int) := by omega
            have hcod : ∀ q, q = cod H0 gr (n' + 1) F → q = tryF (sizeF H0 gr n' (cod H0 gr n') F) (mostS H0 F) 1 := fun q hq => by rw [hq, cod, if_neg hb]
            have hmost : mostS H0 F = (min (wd : Int) (H0 - F.getD m 0)).toNat := by unfold mostS; rw [hwide, hbot]
            refine WK_loopN (fun j α h2 => ∃ (i : Nat) (S : Int), i + j = mostS H0 F ∧ S = i + 1 ∧ Pres h.next h h2 ∧ cod H0 gr (n' + 1) F = tryF (sizeF H0 gr n' (cod H0 gr n') F) (mostS H0 F - i) S ∧ α.get 0 = some (.slice (some ⟨bA, oA, none⟩) k c) ∧ α.get 1 = some (.int .i64 H0) ∧ α.get 2 = some (.int .i64 ((n' + 1 : Nat) : Int)) ∧ α.get 7 = some (.int .i64 (m : Int)) ∧ α.get 8 = some (.int .i64 (ara H0 F)) ∧ α.get 10 = some (.int .i64 ((m + wd : Nat) : Int)) ∧ α.get 11 = some (.int .i64 S)) (mostS H0 F)
              ⟨0, 1, by omega, rfl, Pres.refl _ _, hcod _ rfl, by simp only [go_sem,reduceIte,Nat.reduceEqDiff,Nat.reduceLT, e0], by simp only [go_sem,reduceIte,Nat.reduceEqDiff,Nat.reduceLT, e1], by simp only [go_sem,reduceIte,Nat.reduceEqDiff,Nat.reduceLT, e2], by simp only [go_sem,reduceIte,Nat.reduceEqDiff,Nat.reduceLT, e7], by simp only [go_sem,reduceIte,Nat.reduceEqDiff,Nat.reduceLT, e8], by simp only [go_sem,reduceIte,Nat.reduceEqDiff,Nat.reduceLT, e10], by simp only [go_sem,reduceIte,Nat.reduceEqDiff,Nat.reduceLT]⟩ (by omega) ?_
            clear e0 e1 e2 e7 e8 e10 hJ
            rintro J j α h2 ⟨i, S, hij, hSi, pr, htry, e0, e1, e2, e7, e8, e10, e11⟩ hJ
            have n2 := pr.next
            have hv2 := hv.mono (B' := h2.blks) fun b _ hb => pr.get b (by omega)
            have lm2 : loadv h2.blks bA (oA + m) = some (.int .i64 (F.getD m 0)) := (loadv_eq (pr.get bA (by omega)) _).trans lm
            by_cases hle : S ≤ min (((m + wd : Nat) : Int) - (m : Int)) (H0 - F.getD m 0)
            · have hS2 : 1 ≤ S ∧ S ≤ wd ∧ S ≤ H0 - F.getD m 0 := by omega
              have hSS := mulB (a := S) (b := S) (m := 1000) (n := 1000) (by omega) (by omega) (by omega) (by omega)
              have hmay : may H0 F S := ⟨hS2.1, by rw [hwide]; exact hS2.2.1, by rw [hbot]; exact hS2.2.2⟩
              have hput : put F S = raise F m S.toNat S := by unfold put; rw [hlow]
              obtain ⟨cnt, hcnt⟩ : ∃ cnt, mostS H0 F - i = cnt + 1 := ⟨mostS H0 F - i - 1, by omega⟩
              rw [hcnt, tryF] at htry
              have eS1 : S + 1 = ((i + 1 : Nat) : Int) + 1 := by omega
              have ecnt : cnt = mostS H0 F - (i + 1) := by omega
              by_cases hpr : (n' : Int) * gr * gr < ara H0 F - S * S
              · have hf : sizeF H0 gr n' (cod H0 gr n') F S = none := by
                  unfold sizeF
                  rw [if_pos (by rw [← Int.mul_assoc]; exact hpr)]
                simp only [hf] at htry
                simp (maxSteps := 3000000) (disch := omega) only [go_sem,reduceIte,Nat.reduceEqDiff,Nat.reduceLT, e0, e1, e2, e7, e8, e10, e11, len27, idxA27, load3, Int.toNat_natCast, Nat.mul_one, lm2, hle, en, ← hgr, hpr, wrap_i64]
                exact hJ (j - 1) _ _ (by omega) ⟨i + 1, S + 1, by omega, eS1, pr, by rw [htry, ecnt], by simp only [go_sem,reduceIte,Nat.reduceEqDiff,Nat.reduceLT, e0], by simp only [go_sem,reduceIte,Nat.reduceEqDiff,Nat.reduceLT, e1], by simp only [go_sem,reduceIte,Nat.reduceEqDiff,Nat.reduceLT, e2], by simp only [go_sem,reduceIte,Nat.reduceEqDiff,Nat.reduceLT, e7], by simp only [go_sem,reduceIte,Nat.reduceEqDiff,Nat.reduceLT, e8], by simp only [go_sem,reduceIte,Nat.reduceEqDiff,Nat.reduceLT, e10], by simp only [go_sem,reduceIte,Nat.reduceEqDiff,Nat.reduceLT]⟩
              · simp (maxSteps := 3000000) (disch := omega) only [go_sem,reduceIte,Nat.reduceEqDiff,Nat.reduceLT, e0, e1, e2, e7, e8, e10, e11, len27, idxA27, load3, Int.toNat_natCast, Nat.mul_one, lm2, hle, en, ← hgr, hpr, wrap_i64]
                refine At_lit0 u27 i3 zero3 (by rw [size3]; rfl) (by omega) ?_
                simp (disch := omega) only [go_sem,reduceIte,Nat.reduceEqDiff,Nat.reduceLT, e0, e1, e2, e7, e8, e10, e11]
                refine At_appendF (M := ints F) (m := k) (v := .slice (some ⟨bA, oA, none⟩) k c) u27 u27 i3 zero3 (by rw [size3, bytes3]; rfl) (by simp only [go_sem,reduceIte,Nat.reduceEqDiff,Nat.reduceLT]) (by simp only [go_sem,reduceIte,Nat.reduceEqDiff,Nat.reduceLT]) (by rw [size3]; exact hv2) (by omega) ints_oneB (by omega) fun B5 h5 pr5 hs5 => ?_
                rw [size3] at hs5
                have n5 := pr5.next
                obtain ⟨b5, o5, rfl, hb5, hb5', _⟩ := hs5.at_ (by omega)
                simp (disch := omega) only [go_sem,reduceIte,Nat.reduceEqDiff,Nat.reduceLT, e0, e1, e2, e7, e8, e10, e11]
                refine WK_loopN (fun j α h6 => ∃ y : Nat, y + j = S.toNat ∧ h6.next = h5.next ∧ Pres h2.next h2 h6 ∧ SlV h6.blks h2.next h5.next 1 k (ints (raise F m y S)) (.slice (some ⟨b5, o5, none⟩) k k) ∧ α.get 0 = some (.slice (some ⟨bA, oA, none⟩) k c) ∧ α.get 1 = some (.int .i64 H0) ∧ α.get 2 = some (.int .i64 ((n' + 1 : Nat) : Int)) ∧ α.get 7 = some (.int .i64 (m : Int)) ∧ α.get 8 = some (.int .i64 (ara H0 F)) ∧ α.get 10 = some (.int .i64 ((m + wd : Nat) : Int)) ∧ α.get 11 = some (.int .i64 S) ∧ α.get 12 = some (.slice (some ⟨b5, o5, none⟩) k k) ∧ α.get 13 = some (.int .i64 ((m + y : Nat) : Int))) S.toNat
                  ⟨0, by omega, rfl, pr5, by rw [raise_zero]; exact hs5, by simp only [go_sem,reduceIte,Nat.reduceEqDiff,Nat.reduceLT, e0], by simp only [go_sem,reduceIte,Nat.reduceEqDiff,Nat.reduceLT, e1], by simp only [go_sem,reduceIte,Nat.reduceEqDiff,Nat.reduceLT, e2], by simp only [go_sem,reduceIte,Nat.reduceEqDiff,Nat.reduceLT, e7], by simp only [go_sem,reduceIte,Nat.reduceEqDiff,Nat.reduceLT, e8], by simp only [go_sem,reduceIte,Nat.reduceEqDiff,Nat.reduceLT, e10], by simp only [go_sem,reduceIte,Nat.reduceEqDiff,Nat.reduceLT, e11], by simp only [go_sem,reduceIte,Nat.reduceEqDiff,Nat.reduceLT], by (simp only [go_sem,reduceIte,Nat.reduceEqDiff,Nat.reduceLT, e7]) <;> rfl⟩ (by omega) ?_
                clear e0 e1 e2 e7 e8 e10 e11
                rintro J3 j3 α h6 ⟨y, hy, n6, pr6, hs6, e0, e1, e2, e7, e8, e10, e11, e12, e13⟩ hJ3
                by_cases hyz : ((m + y : Nat) : Int) < (m : Int) + S
                · have hmy : m + y < k := by omega
                  have hFy := hrg (m + y) hmy
                  have hfl := hroom.flat (m + y) (by omega) (by omega)
                  rcases sinv hs6 with ⟨cells6, size6, gb, glo, ghi, gsz, gL, gc⟩
                  have ly : loadv h6.blks b5 (o5 + (m + y)) = some (.int .i64 (F.getD (m + y) 0)) := by
                    obtain ⟨b1, off1, he, _, _, hx5⟩ := hs6.at_ (by omega)
                    injection he with he
                    injection he with q1 q2
                    subst q1; subst q2
                    rw [hx5 (m + y) (by omega), ints_getD (by rw [raise_len]; omega), raise_get (by omega), if_neg (by omega)]
                  simp (maxSteps := 3000000) (disch := omega) only [go_sem,reduceIte,Nat.reduceEqDiff,Nat.reduceLT, e0, e1, e2, e7, e8, e10, e11, e12, e13, hyz, idxA27, load3, Int.toNat_natCast, Nat.mul_one, ly, wrap_i64]
                  refine At_store (inf := inf3) (b := b5) (off := o5 + (m + y)) (v := .int .i64 (F.getD (m + y) 0 + S)) i3 (by simp only [go_sem,reduceIte,Nat.reduceEqDiff,Nat.reduceLT]) (by simp only [go_sem,reduceIte,Nat.reduceEqDiff,Nat.reduceLT]) (by rw [size3]; rfl) rfl gb (by rw [size3]; omega) (by rw [En_G]; omega) fun h7 hs7 => ?_
                  have hsl' := hs7.slv (c := k) (.mk gb glo ghi gsz gL gc) (by show m + y + 1 ≤ k * 1; omega)
                  have he : (ints (raise F m y S)).take (m + y) ++ (Value.int .i64 (F.getD (m + y) 0 + S)).cells.toList ++ (ints (raise F m y S)).drop (m + y + (Value.int .i64 (F.getD (m + y) 0 + S)).cells.toList.length) = ints (raise F m (y + 1) S) := by
                    rw [← raise_step, ← ints_set (by rw [raise_len]; omega)]; rfl
                  rw [he] at hsl'
                  simp (disch := omega) only [go_sem,reduceIte,Nat.reduceEqDiff,Nat.reduceLT, e13, wrap_i64]
                  exact hJ3 (j3 - 1) _ _ (by omega) ⟨y + 1, by omega, hs7.next.trans n6, pr6.trans (hs7.pres glo), hsl', by simp only [go_sem,reduceIte,Nat.reduceEqDiff,Nat.reduceLT, e0], by simp only [go_sem,reduceIte,Nat.reduceEqDiff,Nat.reduceLT, e1], by simp only [go_sem,reduceIte,Nat.reduceEqDiff,Nat.reduceLT, e2], by simp only [go_sem,reduceIte,Nat.reduceEqDiff,Nat.reduceLT, e7], by simp only [go_sem,reduceIte,Nat.reduceEqDiff,Nat.reduceLT, e8], by simp only [go_sem,reduceIte,Nat.reduceEqDiff,Nat.reduceLT, e10], by simp only [go_sem,reduceIte,Nat.reduceEqDiff,Nat.reduceLT, e11], by simp only [go_sem,reduceIte,Nat.reduceEqDiff,Nat.reduceLT, e12], by (simp only [go_sem,reduceIte,Nat.reduceEqDiff,Nat.reduceLT]) <;> rfl⟩
                · obtain rfl : y = S.toNat := by omega
                  rw [← hput] at hs6
                  simp (maxSteps := 3000000) (disch := omega) only [go_sem,reduceIte,Nat.reduceEqDiff,Nat.reduceLT, e0, e1, e2, e7, e8, e10, e11, e12, e13, hyz, wrap_i64, en]
                  refine CallO_f (ih (by omega) (by omega) hs6 (hF.put hw.1 hmay)) (by omega) fun u h8 ph8 hu => ?_
                  have n8 := ph8.next
                  have pr8 : Pres h.next h h8 := pr.trans ((pr6.le (by omega)).trans (ph8.le (by omega)))
                  rcases hu with ⟨hr, hu⟩ | ⟨cc, B8, hr, hu, hs8⟩
                  · subst hu
                    have hf : sizeF H0 gr n' (cod H0 gr n') F S = none := by
                      unfold sizeF
                      rw [hr, Option.map_none, ite_self]
                    simp only [hf] at htry
                    have hnN : binO Tryd.prog (En G) .neq 27 (some (.slice none 0 0)) (some (.slice none 0 0)) = some (.bool false) := neqNil27
                    simp (maxSteps := 3000000) (disch := omega) only [go_sem,reduceIte,Nat.reduceEqDiff,Nat.reduceLT, e0, e1, e2, e7, e8, e10, e11, e12, e13, hnN, wrap_i64]
                    exact hJ (j - 1) _ _ (by omega) ⟨i + 1, S + 1, by omega, eS1, pr8, by rw [htry, ecnt], by simp only [go_sem,reduceIte,Nat.reduceEqDiff,Nat.reduceLT, e0], by simp only [go_sem,reduceIte,Nat.reduceEqDiff,Nat.reduceLT, e1], by simp only [go_sem,reduceIte,Nat.reduceEqDiff,Nat.reduceLT, e2], by simp only [go_sem,reduceIte,Nat.reduceEqDiff,Nat.reduceLT, e7], by simp only [go_sem,reduceIte,Nat.reduceEqDiff,Nat.reduceLT, e8], by simp only [go_sem,reduceIte,Nat.reduceEqDiff,Nat.reduceLT, e10], by simp only [go_sem,reduceIte,Nat.reduceEqDiff,Nat.reduceLT]⟩
                  · subst hu
                    have hf : sizeF H0 gr n' (cod H0 gr n') F S = some (S :: cc) := by
                      unfold sizeF
                      rw [if_neg (by rw [← Int.mul_assoc]; exact hpr), hr, Option.map_some]
                    simp only [hf] at htry
                    have hcl : cc.length ≤ 1000 := by
                      have := (cod_path hr).2
                      omega
                    have hnN : binO Tryd.prog (En G) .neq 27 (some (.slice (some B8) cc.length cc.length)) (some (.slice none 0 0)) = some (.bool true) := neqNil27
                    simp (maxSteps := 3000000) (disch := omega) only [go_sem,reduceIte,Nat.reduceEqDiff,Nat.reduceLT, e0, e1, e2, e7, e8, e10, e11, e12, e13, hnN]
                    refine At_lit (vs := [(0, .int .i64 S)]) (cs := #[.int .i64 S]) u27 i3 zero3 (by rw [size3]; rfl) (by simp only [go_sem,reduceIte,Nat.reduceEqDiff,Nat.reduceLT]) (by rw [size3]; rfl) (by omega) fun h9 hn9 => ?_
                    rw [size3] at hn9
                    have n9 := hn9.next
                    have hsx : SlV h9.blks h8.next h9.next 1 1 [.int .i64 S] (.slice (some ⟨h8.next, 0, none⟩) 1 1) := hn9.slv rfl
                    have hs9 := hs8.mono (B' := h9.blks) fun b _ hb => by rw [hn9.get, if_neg (by omega)]
                    simp only [go_sem,reduceIte,Nat.reduceEqDiff,Nat.reduceLT]
                    refine At_append2 (lo := h8.next) (hi := h9.next) (A := some ⟨h8.next, 0, none⟩) (sl := 1) (m := cc.length) (L := [.int .i64 S]) (M := ints cc) (v := .slice (some B8) cc.length cc.length) u27 u27 i3 zero3 (by rw [size3, bytes3]; rfl) (by simp only [go_sem,reduceIte,Nat.reduceEqDiff,Nat.reduceLT]) (by rw [size3]; exact hsx) (Nat.le_refl _) (by rw [En_G]; omega) (by omega) (by simp only [go_sem,reduceIte,Nat.reduceEqDiff,Nat.reduceLT]) (by rw [size3]; exact hs9) (by omega) ints_oneB (by omega) fun B' h10 pr10 hs10 => ?_
                    rw [size3] at hs10
                    have n10 := pr10.next
                    obtain ⟨bB, oB, rfl, _, _, _⟩ := hs10.at_ (by omega)
                    have el : 1 + cc.length = (S :: cc).length := by rw [List.length_cons]; omega
                    simp only [go_sem,reduceIte,Nat.reduceEqDiff,Nat.reduceLT]
                    refine hQ' _ _ ⟨pr8.trans ((hn9.pres (by omega)).trans (pr10.le (by omega))), .inr ⟨S :: cc, ⟨bB, oB, none⟩, htry, ?_, ?_⟩⟩
                    · rw [el]
                    · rw [el] at hs10 ⊢
                      exact hs10.wide (by omega) (Nat.le_refl _)
            · have h0 : mostS H0 F - i = 0 := by omega
              rw [h0, tryF] at htry
              simp (maxSteps := 3000000) (disch := omega) only [go_sem,reduceIte,Nat.reduceEqDiff,Nat.reduceLT, e0, e1, e2, e7, e8, e10, e11, len27, idxA27, load3, Int.toNat_natCast, Nat.mul_one, lm2, hle, wrap_i64]
              exact hQ' _ _ ⟨pr, .inl ⟨htry, rfl⟩⟩
        · obtain rfl : k = x := by omega
          have hxx : k = m + wd := by
            have r2 : RoomOf F m (k - m) := ⟨by omega, hroom.low, hroom.left, fun i h1 h2 => hflat i h1 (by omega), fun h3 => by omega, by omega⟩
            have := (hroom.uniq r2).2
            omega
          try simp only [go_sem,reduceIte,Nat.reduceEqDiff,Nat.reduceLT]
          refine WK_regionT 13 ⟨by kernel_rfl, by kernel_rfl, by kernel_rfl⟩ ?_
          simp (maxSteps := 3000000) (disch := omega) only [go_sem,reduceIte,Nat.reduceEqDiff,Nat.reduceLT, e0, e1, e2, e7, e8, e10, len27, hxw, wrap_i64]
          have e10 : α.get 10 = some (.int .i64 ((m + wd : Nat) : Int)) := by rw [e10, hxx]
          obtain ⟨gr, hgr⟩ : ∃ gr : Int, gr = min (k : Int) H0 := ⟨_, rfl⟩
          rw [← hgr] at ih hQ'
          have hgb : 0 ≤ gr ∧ gr ≤ 1000 := by omega
          have hm1 := mulB (a := (n' : Int)) (b := gr) (m := 1000) (n := 1000) (by omega) (by omega) hgb.1 hgb.2
          have hm2 := mulB (a := (n' : Int) * gr) (b := gr) (m := 1000000) (n := 1000) hm1.1 (by omega) hgb.1 hgb.2
          have en : ((n' + 1 : Nat) : Int) - 1 = (n' : Int) := by omega
          have hcod : ∀ q, q = cod H0 gr (n' + 1) F → q = tryF (sizeF H0 gr n' (cod H0 gr n') F) (mostS H0 F) 1 := fun q hq => by rw [hq, cod, if_neg hb]
          have hmost : mostS H0 F = (min (wd : Int) (H0 - F.getD m 0)).toNat := by unfold mostS; rw [hwide, hbot]
          refine WK_loopN (fun j α h2 => ∃ (i : Nat) (S : Int), i + j = mostS H0 F ∧ S = i + 1 ∧ Pres h.next h h2 ∧ cod H0 gr (n' + 1) F = tryF (sizeF H0 gr n' (cod H0 gr n') F) (mostS H0 F - i) S ∧ α.get 0 = some (.slice (some ⟨bA, oA, none⟩) k c) ∧ α.get 1 = some (.int .i64 H0) ∧ α.get 2 = some (.int .i64 ((n' + 1 : Nat) : Int)) ∧ α.get 7 = some (.int .i64 (m : Int)) ∧ α.get 8 = some (.int .i64 (ara H0 F)) ∧ α.get 10 = some (.int .i64 ((m + wd : Nat) : Int)) ∧ α.get 11 = some (.int .i64 S)) (mostS H0 F)
            ⟨0, 1, by omega, rfl, Pres.refl _ _, hcod _ rfl, by simp only [go_sem,reduceIte,Nat.reduceEqDiff,Nat.reduceLT, e0], by simp only [go_sem,reduceIte,Nat.reduceEqDiff,Nat.reduceLT, e1], by simp only [go_sem,reduceIte,Nat.reduceEqDiff,Nat.reduceLT, e2], by simp only [go_sem,reduceIte,Nat.reduceEqDiff,Nat.reduceLT, e7], by simp only [go_sem,reduceIte,Nat.reduceEqDiff,Nat.reduceLT, e8], by simp only [go_sem,reduceIte,Nat.reduceEqDiff,Nat.reduceLT, e10], by simp only [go_sem,reduceIte,Nat.reduceEqDiff,Nat.reduceLT]⟩ (by omega) ?_
          clear e0 e1 e2 e7 e8 e10 hJ
          rintro J j α h2 ⟨i, S, hij, hSi, pr, htry, e0, e1, e2, e7, e8, e10, e11⟩ hJ
          have n2 := pr.next
          have hv2 := hv.mono (B' := h2.blks) fun b _ hb => pr.get b (by omega)
          have lm2 : loadv h2.blks bA (oA + m) = some (.int .i64 (F.getD m 0)) := (loadv_eq (pr.get bA (by omega)) _).trans lm
          by_cases hle : S ≤ min (((m + wd : Nat) : Int) - (m : Int)) (H0 - F.getD m 0)
          · have hS2 : 1 ≤ S ∧ S ≤ wd ∧ S ≤ H0 - F.getD m 0 := by omega
            have hSS := mulB (a := S) (b := S) (m := 1000) (n := 1000) (by omega) (by omega) (by omega) (by omega)
            have hmay : may H0 F S := ⟨hS2.1, by rw [hwide]; exact hS2.2.1, by rw [hbot]; exact hS2.2.2⟩
            have hput : put F S = raise F m S.toNat S := by unfold put; rw [hlow]
            obtain ⟨cnt, hcnt⟩ : ∃ cnt, mostS H0 F - i = cnt + 1 := ⟨mostS H0 F - i - 1, by omega⟩
            rw [hcnt, tryF] at htry
            have eS1 : S + 1 = ((i + 1 : Nat) : Int) + 1 := by omega
            have ecnt : cnt = mostS H0 F - (i + 1) := by omega
            by_cases hpr : (n' : Int) * gr * gr < ara H0 F - S * S
            · have hf : sizeF H0 gr n' (cod H0 gr n') F S = none := by
                unfold sizeF
                rw [if_pos (by rw [← Int.mul_assoc]; exact hpr)]
              simp only [hf] at htry
              simp (maxSteps := 3000000) (disch := omega) only [go_sem,reduceIte,Nat.reduceEqDiff,Nat.reduceLT, e0, e1, e2, e7, e8, e10, e11, len27, idxA27, load3, Int.toNat_natCast, Nat.mul_one, lm2, hle, en, ← hgr, hpr, wrap_i64]
              exact hJ (j - 1) _ _ (by omega) ⟨i + 1, S + 1, by omega, eS1, pr, by rw [htry, ecnt], by simp only [go_sem,reduceIte,Nat.reduceEqDiff,Nat.reduceLT, e0], by simp only [go_sem,reduceIte,Nat.reduceEqDiff,Nat.reduceLT, e1], by simp only [go_sem,reduceIte,Nat.reduceEqDiff,Nat.reduceLT, e2], by simp only [go_sem,reduceIte,Nat.reduceEqDiff,Nat.reduceLT, e7], by simp only [go_sem,reduceIte,Nat.reduceEqDiff,Nat.reduceLT, e8], by simp only [go_sem,reduceIte,Nat.reduceEqDiff,Nat.reduceLT, e10], by simp only [go_sem,reduceIte,Nat.reduceEqDiff,Nat.reduceLT]⟩
            · simp (maxSteps := 3000000) (disch := omega) only [go_sem,reduceIte,Nat.reduceEqDiff,Nat.reduceLT, e0, e1, e2, e7, e8, e10, e11, len27, idxA27, load3, Int.toNat_natCast, Nat.mul_one, lm2, hle, en, ← hgr, hpr, wrap_i64]
              refine At_lit0 u27 i3 zero3 (by rw [size3]; rfl) (by omega) ?_
              simp (disch := omega) only [go_sem,reduceIte,Nat.reduceEqDiff,Nat.reduceLT, e0, e1, e2, e7, e8, e10, e11]
              refine At_appendF (M := ints F) (m := k) (v := .slice (some ⟨bA, oA, none⟩) k c) u27 u27 i3 zero3 (by rw [size3, bytes3]; rfl) (by simp only [go_sem,reduceIte,Nat.reduceEqDiff,Nat.reduceLT]) (by simp only [go_sem,reduceIte,Nat.reduceEqDiff,Nat.reduceLT]) (by rw [size3]; exact hv2) (by omega) ints_oneB (by omega) fun B5 h5 pr5 hs5 => ?_
              rw [size3] at hs5
              have n5 := pr5.next
              obtain ⟨b5, o5, rfl, hb5, hb5', _⟩ := hs5.at_ (by omega)
              simp (disch := omega) only [go_sem,reduceIte,Nat.reduceEqDiff,Nat.reduceLT, e0, e1, e2, e7, e8, e10, e11]
              refine WK_loopN (fun j α h6 => ∃ y : Nat, y + j = S.toNat ∧ h6.next = h5.next ∧ Pres h2.next h2 h6 ∧ SlV h6.blks h2.next h5.next 1 k (ints (raise F m y S)) (.slice (some ⟨b5, o5, none⟩) k k) ∧ α.get 0 = some (.slice (some ⟨bA, oA, none⟩) k c) ∧ α.get 1 = some (.int .i64 H0) ∧ α.get 2 = some (.int .i64 ((n' + 1 : Nat) : Int)) ∧ α.get 7 = some (.int .i64 (m : Int)) ∧ α.get 8 = some (.int .i64 (ara H0 F)) ∧ α.get 10 = some (.int .i64 ((m + wd : Nat) : Int)) ∧ α.get 11 = some (.int .i64 S) ∧ α.get 12 = some (.slice (some ⟨b5, o5, none⟩) k k) ∧ α.get 13 = some (.int .i64 ((m + y : Nat) : Int))) S.toNat
                ⟨0, by omega, rfl, pr5, by rw [raise_zero]; exact hs5, by simp only [go_sem,reduceIte,Nat.reduceEqDiff,Nat.reduceLT, e0], by simp only [go_sem,reduceIte,Nat.reduceEqDiff,Nat.reduceLT, e1], by simp only [go_sem,reduceIte,Nat.reduceEqDiff,Nat.reduceLT, e2], by simp only [go_sem,reduceIte,Nat.reduceEqDiff,Nat.reduceLT, e7], by simp only [go_sem,reduceIte,Nat.reduceEqDiff,Nat.reduceLT, e8], by simp only [go_sem,reduceIte,Nat.reduceEqDiff,Nat.reduceLT, e10], by simp only [go_sem,reduceIte,Nat.reduceEqDiff,Nat.reduceLT, e11], by simp only [go_sem,reduceIte,Nat.reduceEqDiff,Nat.reduceLT], by (simp only [go_sem,reduceIte,Nat.reduceEqDiff,Nat.reduceLT, e7]) <;> rfl⟩ (by omega) ?_
              clear e0 e1 e2 e7 e8 e10 e11
              rintro J3 j3 α h6 ⟨y, hy, n6, pr6, hs6, e0, e1, e2, e7, e8, e10, e11, e12, e13⟩ hJ3
              by_cases hyz : ((m + y : Nat) : Int) < (m : Int) + S
              · have hmy : m + y < k := by omega
                have hFy := hrg (m + y) hmy
                have hfl := hroom.flat (m + y) (by omega) (by omega)
                rcases sinv hs6 with ⟨cells6, size6, gb, glo, ghi, gsz, gL, gc⟩
                have ly : loadv h6.blks b5 (o5 + (m + y)) = some (.int .i64 (F.getD (m + y) 0)) := by
                  obtain ⟨b1, off1, he, _, _, hx5⟩ := hs6.at_ (by omega)
                  injection he with he
                  injection he with q1 q2
                  subst q1; subst q2
                  rw [hx5 (m + y) (by omega), ints_getD (by rw [raise_len]; omega), raise_get (by omega), if_neg (by omega)]
                simp (maxSteps := 3000000) (disch := omega) only [go_sem,reduceIte,Nat.reduceEqDiff,Nat.reduceLT, e0, e1, e2, e7, e8, e10, e11, e12, e13, hyz, idxA27, load3, Int.toNat_natCast, Nat.mul_one, ly, wrap_i64]
                refine At_store (inf := inf3) (b := b5) (off := o5 + (m + y)) (v := .int .i64 (F.getD (m + y) 0 + S)) i3 (by simp only [go_sem,reduceIte,Nat.reduceEqDiff,Nat.reduceLT]) (by simp only [go_sem,reduceIte,Nat.reduceEqDiff,Nat.reduceLT]) (by rw [size3]; rfl) rfl gb (by rw [size3]; omega) (by rw [En_G]; omega) fun h7 hs7 => ?_
                have hsl' := hs7.slv (c := k) (.mk gb glo ghi gsz gL gc) (by show m + y + 1 ≤ k * 1; omega)
                have he : (ints (raise F m y S)).take (m + y) ++ (Value.int .i64 (F.getD (m + y) 0 + S)).cells.toList ++ (ints (raise F m y S)).drop (m + y + (Value.int .i64 (F.getD (m + y) 0 + S)).cells.toList.length) = ints (raise F m (y + 1) S) := by
                  rw [← raise_step, ← ints_set (by rw [raise_len]; omega)]; rfl
                rw [he] at hsl'
                simp (disch := omega) only [go_sem,reduceIte,Nat.reduceEqDiff,Nat.reduceLT, e13, wrap_i64]
                exact hJ3 (j3 - 1) _ _ (by omega) ⟨y + 1, by omega, hs7.next.trans n6, pr6.trans (hs7.pres glo), hsl', by simp only [go_sem,reduceIte,Nat.reduceEqDiff,Nat.reduceLT, e0], by simp only [go_sem,reduceIte,Nat.reduceEqDiff,Nat.reduceLT, e1], by simp only [go_sem,reduceIte,Nat.reduceEqDiff,Nat.reduceLT, e2], by simp only [go_sem,reduceIte,Nat.reduceEqDiff,Nat.reduceLT, e7], by simp only [go_sem,reduceIte,Nat.reduceEqDiff,Nat.reduceLT, e8], by simp only [go_sem,reduceIte,Nat.reduceEqDiff,Nat.reduceLT, e10], by simp only [go_sem,reduceIte,Nat.reduceEqDiff,Nat.reduceLT, e11], by simp only [go_sem,reduceIte,Nat.reduceEqDiff,Nat.reduceLT, e12], by (simp only [go_sem,reduceIte,Nat.reduceEqDiff,Nat.reduceLT]) <;> rfl⟩
              · obtain rfl : y = S.toNat := by omega
                rw [← hput] at hs6
                simp (maxSteps := 3000000) (disch := omega) only [go_sem,reduceIte,Nat.reduceEqDiff,Nat.reduceLT, e0, e1, e2, e7, e8, e10, e11, e12, e13, hyz, wrap_i64, en]
                refine CallO_f (ih (by omega) (by omega) hs6 (hF.put hw.1 hmay)) (by omega) fun u h8 ph8 hu => ?_
                have n8 := ph8.next
                have pr8 : Pres h.next h h8 := pr.trans ((pr6.le (by omega)).trans (ph8.le (by omega)))
                rcases hu with ⟨hr, hu⟩ | ⟨cc, B8, hr, hu, hs8⟩
                · subst hu
                  have hf : sizeF H0 gr n' (cod H0 gr n') F S = none := by
                    unfold sizeF
                    rw [hr, Option.map_none, ite_self]
                  simp only [hf] at htry
                  have hnN : binO Tryd.prog (En G) .neq 27 (some (.slice none 0 0)) (some (.slice none 0 0)) = some (.bool false) := neqNil27
                  simp (maxSteps := 3000000) (disch := omega) only [go_sem,reduceIte,Nat.reduceEqDiff,Nat.reduceLT, e0, e1, e2, e7, e8, e10, e11, e12, e13, hnN, wrap_i64]
                  exact hJ (j - 1) _ _ (by omega) ⟨i + 1, S + 1, by omega, eS1, pr8, by rw [htry, ecnt], by simp only [go_sem,reduceIte,Nat.reduceEqDiff,Nat.reduceLT, e0], by simp only [go_sem,reduceIte,Nat.reduceEqDiff,Nat.reduceLT, e1], by simp only [go_sem,reduceIte,Nat.reduceEqDiff,Nat.reduceLT, e2], by simp only [go_sem,reduceIte,Nat.reduceEqDiff,Nat.reduceLT, e7], by simp only [go_sem,reduceIte,Nat.reduceEqDiff,Nat.reduceLT, e8], by simp only [go_sem,reduceIte,Nat.reduceEqDiff,Nat.reduceLT, e10], by simp only [go_sem,reduceIte,Nat.reduceEqDiff,Nat.reduceLT]⟩
                · subst hu
                  have hf : sizeF H0 gr n' (cod H0 gr n') F S = some (S :: cc) := by
                    unfold sizeF
                    rw [if_neg (by rw [← Int.mul_assoc]; exact hpr), hr, Option.map_some]
                  simp only [hf] at htry
                  have hcl : cc.length ≤ 1000 := by
                    have := (cod_path hr).2
                    omega
                  have hnN : binO Tryd.prog (En G) .neq 27 (some (.slice (some B8) cc.length cc.length)) (some (.slice none 0 0)) = some (.bool true) := neqNil27
                  simp (maxSteps := 3000000) (disch := omega) only [go_sem,reduceIte,Nat.reduceEqDiff,Nat.reduceLT, e0, e1, e2, e7, e8, e10, e11, e12, e13, hnN]
                  refine At_lit (vs := [(0, .int .i64 S)]) (cs := #[.int .i64 S]) u27 i3 zero3 (by rw [size3]; rfl) (by simp only [go_sem,reduceIte,Nat.reduceEqDiff,Nat.reduceLT]) (by rw [size3]; rfl) (by omega) fun h9 hn9 => ?_
                  rw [size3] at hn9
                  have n9 := hn9.next
                  have hsx : SlV h9.blks h8.next h9.next 1 1 [.int .i64 S] (.slice (some ⟨h8.next, 0, none⟩) 1 1) := hn9.slv rfl
                  have hs9 := hs8.mono (B' := h9.blks) fun b _ hb => by rw [hn9.get, if_neg (by omega)]
                  simp only [go_sem,reduceIte,Nat.reduceEqDiff,Nat.reduceLT]
                  refine At_append2 (lo := h8.next) (hi := h9.next) (A := some ⟨h8.next, 0, none⟩) (sl := 1) (m := cc.length) (L := [.int .i64 S]) (M := ints cc) (v := .slice (some B8) cc.length cc.length) u27 u27 i3 zero3 (by rw [size3, bytes3]; rfl) (by simp only [go_sem,reduceIte,Nat.reduceEqDiff,Nat.reduceLT]) (by rw [size3]; exact hsx) (Nat.le_refl _) (by rw [En_G]; omega) (by omega) (by simp only [go_sem,reduceIte,Nat.reduceEqDiff,Nat.reduceLT]) (by rw [size3]; exact hs9) (by omega) ints_oneB (by omega) fun B' h10 pr10 hs10 => ?_
                  rw [size3] at hs10
                  have n10 := pr10.next
                  obtain ⟨bB, oB, rfl, _, _, _⟩ := hs10.at_ (by omega)
                  have el : 1 + cc.length = (S :: cc).length := by rw [List.length_cons]; omega
                  simp only [go_sem,reduceIte,Nat.reduceEqDiff,Nat.reduceLT]
                  refine hQ' _ _ ⟨pr8.trans ((hn9.pres (by omega)).trans (pr10.le (by omega))), .inr ⟨S :: cc, ⟨bB, oB, none⟩, htry, ?_, ?_⟩⟩
                  · rw [el]
                  · rw [el] at hs10 ⊢
                    exact hs10.wide (by omega) (Nat.le_refl _)
          · have h0 : mostS H0 F - i = 0 := by omega
            rw [h0, tryF] at htry
            simp (maxSteps := 3000000) (disch := omega) only [go_sem,reduceIte,Nat.reduceEqDiff,Nat.reduceLT, e0, e1, e2, e7, e8, e10, e11, len27, idxA27, load3, Int.toNat_natCast, Nat.mul_one, lm2, hle, wrap_i64]
            exact hQ' _ _ ⟨pr, .inl ⟨htry, rfl⟩⟩
theorem codes_spec {G w : Nat} {H0 : Int} (hw : 1 ≤ w ∧ w ≤ 1000) (hH : 0 ≤ H0 ∧ H0 ≤ 1000) : ∀ (n : Nat), n ≤ 1000 → ∀ {lo hi c : Nat} {A : Option Addr} {F : List Int} {h : H}, G ≤ h.next → hi ≤ h.next → SlV h.blks lo hi 1 w (ints F) (.slice A w c) → Flo w H0 F →
    Spec Tryd.prog (En G) 50 [.slice A w c, .int .i64 H0, .int .i64 (n : Int)] h fun v h' => CodRes h h' (cod H0 (min (w : Int) H0) n F) v
  | 0, hn, _, _, _, _, _, _, h1, h2, h3, h4 => codes_step hw hH hn (fun n' e => by omega) h1 h2 h3 h4
  | n + 1, hn, _, _, _, _, _, _, h1, h2, h3, h4 => codes_step hw hH hn (fun n' e => by
      obtain rfl : n = n' := by omega
      intro _ _ _ _ _ _ g1 g2 g3 g4
      exact codes_spec hw hH n (by omega) g1 g2 g3 g4) h1 h2 h3 h4
end
end Go.Proofs.YtnhbkoeomefkdaaDoor.Ev.L

/- The program's search for the first code. -/
set_option linter.unusedVariables false
set_option linter.unusedSimpArgs false
namespace Go.Proofs.YtnhbkoeomefkdaaDoor.Ev.L
open Go Go.Proofs Go.Proofs.YtnhbkoeomefkdaaDoor.Ev
noncomputable section

/-- so many columns from one on are as low as that -/
def lower (l : List Int) (x k : Nat) (y : Int) : List Int := (List.range l.length).map fun i => if x ≤ i ∧ i < x + k then y else l.getD i 0
theorem lower_len {l : List Int} {x k : Nat} {y : Int} : (lower l x k y).length = l.length := by simp [lower]
theorem lower_get {l : List Int} {x k i : Nat} {y : Int} (hi : i < l.length) : (lower l x k y).getD i 0 = if x ≤ i ∧ i < x + k then y else l.getD i 0 := by
  simp [lower, List.getD, hi]
theorem list_ext {l m : List Int} (hl : l.length = m.length) (h : ∀ i, i < l.length → l.getD i 0 = m.getD i 0) : l = m := by
  refine List.ext_getElem hl fun i h1 h2 => ?_
  have := h i h1
  rw [List.getD, List.getD, List.getElem?_eq_getElem h1, List.getElem?_eq_getElem h2] at this
  exact this
theorem lower_zero {l : List Int} {x : Nat} {y : Int} : lower l x 0 y = l := by
  refine list_ext lower_len fun i hi => ?_
  rw [lower_len] at hi
  rw [lower_get hi, if_neg (by omega)]
theorem lower_step {l : List Int} {x k : Nat} {y : Int} (hk : x + k < l.length) : (lower l x k y).set (x + k) y = lower l x (k + 1) y := by
  refine list_ext (by rw [List.length_set, lower_len, lower_len]) fun i hi => ?_
  rw [List.length_set, lower_len] at hi
  rw [lower_get hi, List.getD, List.getElem?_set]
  by_cases e : x + k = i
  · have hlt : x + k < (lower l x k y).length := by rw [lower_len]; exact hk
    rw [if_pos e, if_pos hlt, if_pos (by omega)]; rfl
  · rw [if_neg e]
    show (lower l x k y).getD i 0 = _
    rw [lower_get hi]
    by_cases h2 : x ≤ i ∧ i < x + k
    · rw [if_pos h2, if_pos (by omega)]
    · rw [if_neg h2, if_neg (by omega)]
theorem lower_put {w : Nat} {h s : Int} {F : List Int} (f : Flo w h F) (hw : 1 ≤ w) (m : may h F s) : lower (put F s) (lowest F) s.toNat (bot F) = F := by
  obtain ⟨m1, m2, m3⟩ := m
  have hl := f.len
  have rm := room_is (F := F) (by omega)
  have hle := rm.le
  have hp : (put F s).length = F.length := by unfold put; rw [raise_len]
  refine list_ext (by rw [lower_len, hp]) fun i hi => ?_
  rw [lower_len, hp] at hi
  rw [lower_get (by omega)]
  by_cases c : lowest F ≤ i ∧ i < lowest F + s.toNat
  · rw [if_pos c, rm.flat i c.1 (by omega)]; rfl
  · rw [if_neg c]
    unfold put
    rw [raise_get hi, if_neg c]

set_option maxHeartbeats 8000000 in
theorem takeBack_spec {G n b off c x : Nat} {y s : Int} {l : List Int} {h : H} (hv : SlV h.blks b (b + 1) 1 n (ints l) (.slice (some ⟨b, off, none⟩) n c)) (hG : G ≤ b) (hb : b < h.next) (hs : 1 ≤ s) (hx : x + s.toNat ≤ n) (hn : n ≤ 1000) :
    CallsE Tryd.prog (En G) 72 [.slice (some ⟨b, off, none⟩) n c, .agg #[.int .i64 x, .int .i64 y, .int .i64 s]] h fun u h' => SlV h'.blks b (b + 1) 1 n (ints (lower l x s.toNat y)) (.slice (some ⟨b, off, none⟩) n c) ∧ Pres b h h' ∧ ∀ b', b' < h.next → b' ≠ b → h'.blks.get b' = h.blks.get b' := by
  have hl : l.length = n := by have := hv.len; rw [ints_len] at this; omega
  refine CallsE_enter (En_known (by decide)) (En_f.trans Tryd.func72) rfl ⟨Nat.le_of_ble_eq_true rfl, by decide⟩ fun Q' hQ' => ?_
  simp only [Tryd.f72, go_sem,reduceIte,Nat.reduceEqDiff,Nat.reduceLT]
  refine At_box (v := .agg #[.int .i64 x, .int .i64 y, .int .i64 s]) (by (simp only [go_sem,reduceIte,Nat.reduceEqDiff,Nat.reduceLT]) <;> rfl) (by omega) fun h1 hn1 => ?_
  have n1 := hn1.next
  have v3 := hn1.var
  rw [show (Value.agg #[.int .i64 x, .int .i64 y, .int .i64 s]).cells.toList = [.int .i64 x, .int .i64 y, .int .i64 s] from rfl] at v3
  have q0 : ∀ (B : Tr Blk), Var B h.next [.int .i64 x, .int .i64 y, .int .i64 s] → loadv B h.next 0 = some (.int .i64 x) := fun B v => v.load (i := 0) (by show 0 < 3; decide)
  have q1 : ∀ (B : Tr Blk), Var B h.next [.int .i64 x, .int .i64 y, .int .i64 s] → loadv B h.next 1 = some (.int .i64 y) := fun B v => v.load (i := 1) (by show 1 < 3; decide)
  have q2 : ∀ (B : Tr Blk), Var B h.next [.int .i64 x, .int .i64 y, .int .i64 s] → loadv B h.next 2 = some (.int .i64 s) := fun B v => v.load (i := 2) (by show 2 < 3; decide)
  have hsl1 : SlV h1.blks b (b + 1) 1 n (ints (lower l x 0 y)) (.slice (some ⟨b, off, none⟩) n c) := by
    rw [lower_zero]
    exact hv.mono fun b' g1 g2 => by rw [hn1.get, if_neg (by omega)]
  have old1 : ∀ b', b' < h.next → h1.blks.get b' = h.blks.get b' := fun b' hb' => by rw [hn1.get, if_neg (by omega)]
  simp (disch := omega) only [go_sem,reduceIte,Nat.reduceEqDiff,Nat.reduceLT, fld61_2, Nat.zero_add, load3, q2 _ v3]
  refine WK_loopN (fun j α h4 => ∃ k : Nat, k + j = s.toNat ∧ h4.next = h1.next ∧ Var h4.blks h.next [.int .i64 x, .int .i64 y, .int .i64 s] ∧ SlV h4.blks b (b + 1) 1 n (ints (lower l x k y)) (.slice (some ⟨b, off, none⟩) n c) ∧ Pres b h h4 ∧ (∀ b', b' < h.next → b' ≠ b → h4.blks.get b' = h.blks.get b') ∧ α.get 0 = some (.slice (some ⟨b, off, none⟩) n c) ∧ α.get 3 = some (.pointer (some ⟨h.next, 0, none⟩)) ∧ α.get 6 = some (.int .i64 s) ∧ α.get 7 = some (.int .i64 (k : Int))) s.toNat
    ⟨0, by omega, rfl, v3, hsl1, hn1.pres (by omega), fun b' hb' _ => old1 b' hb', by simp only [go_sem,reduceIte,Nat.reduceEqDiff,Nat.reduceLT], by simp only [go_sem,reduceIte,Nat.reduceEqDiff,Nat.reduceLT], by simp only [go_sem,reduceIte,Nat.reduceEqDiff,Nat.reduceLT], by (simp only [go_sem,reduceIte,Nat.reduceEqDiff,Nat.reduceLT]) <;> rfl⟩ (by omega) ?_
  rintro J j α h4 ⟨k, hk, n4, v4, hsl, pr, old, e0, e3, e6, e7⟩ hJ
  by_cases hlt : (k : Int) < s
  · have exk : ((x : Int) + (k : Int)).toNat = x + k := by omega
    rcases sinv hsl with ⟨cells, size, gb, glo, ghi, gsz, gL, gc⟩
    simp (maxSteps := 3000000) (disch := omega) only [go_sem,reduceIte,Nat.reduceEqDiff,Nat.reduceLT, e0, e3, e6, e7, hlt, fld61_0, fld61_1, Nat.zero_add, load3, q0 _ v4, q1 _ v4, idxA96, exk, Nat.mul_one, wrap_i64]
    refine At_store (inf := inf3) (b := b) (off := off + (x + k)) (v := .int .i64 y) i3 (by simp only [go_sem,reduceIte,Nat.reduceEqDiff,Nat.reduceLT]) (by simp only [go_sem,reduceIte,Nat.reduceEqDiff,Nat.reduceLT]) (by rw [size3]; rfl) rfl gb (by rw [size3]; omega) (by exact hG) fun h5 hs5 => ?_
    have hsl' := hs5.slv (c := c) (.mk gb glo ghi gsz gL gc) (by show x + k + 1 ≤ n * 1; omega)
    have he : (ints (lower l x k y)).take (x + k) ++ (Value.int .i64 y).cells.toList ++ (ints (lower l x k y)).drop (x + k + (Value.int .i64 y).cells.toList.length) = ints (lower l x (k + 1) y) := by
      rw [← lower_step (by omega), ← ints_set (by rw [lower_len]; omega)]; rfl
    rw [he] at hsl'
    simp (disch := omega) only [go_sem,reduceIte,Nat.reduceEqDiff,Nat.reduceLT, e7, wrap_i64]
    exact hJ (j - 1) _ _ (by omega) ⟨k + 1, by omega, hs5.next.trans n4, v4.mono (hs5.get _ (by omega)), hsl', pr.trans (hs5.pres (Nat.le_refl _)), fun b' g1 g2 => by rw [hs5.get _ g2]; exact old b' g1 g2, by simp only [go_sem,reduceIte,Nat.reduceEqDiff,Nat.reduceLT, e0], by simp only [go_sem,reduceIte,Nat.reduceEqDiff,Nat.reduceLT, e3], by simp only [go_sem,reduceIte,Nat.reduceEqDiff,Nat.reduceLT, e6], by (simp only [go_sem,reduceIte,Nat.reduceEqDiff,Nat.reduceLT]) <;> rfl⟩
  · obtain rfl : k = s.toNat := by omega
    simp (disch := omega) only [go_sem,reduceIte,Nat.reduceEqDiff,Nat.reduceLT, e0, e3, e6, e7, hlt]
    exact hQ' _ _ ⟨hsl, pr, old⟩

theorem szs_sqs {st : List (List Int × Int)} : szs (sqs st) = (st.map Prod.snd).reverse := sqs_sizes

set_option maxRecDepth 100000 in
set_option maxHeartbeats 64000000 in
theorem firstCode_spec {G w H0 n : Nat} {h : H} (hG : G ≤ h.next) (hw : 1 ≤ w ∧ w ≤ 9) (hH : 1 ≤ H0 ∧ H0 ≤ 9) (hn : 1 ≤ n ∧ n ≤ 15) (hno : ∀ k, k < n → cod (H0 : Int) (min (w : Int) H0) k (List.replicate w 0) = none) :
    Spec Tryd.prog (En G) 49 [.int .i64 (w : Int), .int .i64 (H0 : Int), .int .i64 (n : Int)] h fun v h' => ∃ (c : List Int) (A : Option Addr), (cod (H0 : Int) (min (w : Int) H0) n (List.replicate w 0)).getD [] = c ∧ v = .slice A c.length c.length ∧ SlV h'.blks h.next h'.next 1 c.length (ints c) (.slice A c.length c.length) := by
  refine CallsE_enter (En_known (by decide)) (En_f.trans Tryd.func49) rfl ⟨Nat.le_of_ble_eq_true rfl, by decide⟩ fun Q' hQ' => ?_
  simp only [Tryd.f49, go_sem,reduceIte,Nat.reduceEqDiff,Nat.reduceLT]
  refine At_make (k1 := .i64) (k2 := .i64) (l := w) (c := w) u96 i3 zero3 (by rw [size3, bytes3]; rfl) (by simp only [go_sem,reduceIte,Nat.reduceEqDiff,Nat.reduceLT]) (by simp only [go_sem,reduceIte,Nat.reduceEqDiff,Nat.reduceLT]) (Nat.le_refl _) (by rw [size3]; omega) (by omega) (by omega) fun h1 hn1 => ?_
  rw [size3, zeros_ints] at hn1
  have n1 := hn1.next
  have hf1 := hn1.slv (n := w) (c := w) (by rw [ints_len]; simp)
  rw [n1] at hf1
  obtain ⟨gr, hgr⟩ : ∃ gr : Int, gr = min (w : Int) (H0 : Int) := ⟨_, rfl⟩
  obtain ⟨F0, hF0⟩ : ∃ F0, F0 = List.replicate w (0 : Int) := ⟨_, rfl⟩
  rw [← hgr, ← hF0] at hno hQ'
  rw [← hF0] at hf1
  have hgb : 1 ≤ gr ∧ gr ≤ 9 := by omega
  have f0 : Flo w (H0 : Int) F0 := by rw [hF0]; exact flo_zero (by omega)
  have har0 : (w : Int) * (H0 : Int) = ara (H0 : Int) F0 := by rw [hF0, ara_rep]
  have hwh := mulB (a := (w : Int)) (b := (H0 : Int)) (m := 9) (n := 9) (by omega) (by omega) (by omega) (by omega)
  have hara : ∀ {F}, Flo w (H0 : Int) F → 0 ≤ ara (H0 : Int) F ∧ ara (H0 : Int) F ≤ 81 := fun {F} f => by
    have h1 := (ara_nn f).1
    have h2 := ara_le f
    omega
  have hb0 : bot F0 ≠ (H0 : Int) := fun e => by
    have hz := (ara_zero f0 hw.1).2 e
    have : 1 * 1 ≤ (w : Int) * (H0 : Int) := Int.mul_le_mul (by omega) (by omega) (by decide) (by omega)
    omega
  have hst : ∀ {st : List (List Int × Int)} {F : List Int}, Stk (H0 : Int) F0 st F → ∀ p ∈ st, p.2.toNat ≤ 10 := fun {st} => by
    induction st with
    | nil => intro F _ p hp; cases hp
    | cons q st ih =>
      obtain ⟨F', s⟩ := q
      rintro F ⟨_, hm, e, r⟩ p hp
      rcases List.mem_cons.1 hp with rfl | hp
      · have f' := r.flo hw.1 f0
        have hl := f'.len
        have rm := room_is (F := F') (by omega)
        have := rm.le
        have := hm.2.1
        simp only
        omega
      · exact ih r p hp
  obtain ⟨M, hM⟩ : ∃ M, M = 11 ^ (n + 1) := ⟨_, rfl⟩
  have hMb : M ≤ 11 ^ 16 := by rw [hM]; exact Nat.pow_le_pow_right (by decide) (by omega)
  have hfl : ∀ {st : List (List Int × Int)} {d : Nat} {F : List Int} {s : Int}, Stk (H0 : Int) F0 st F → s.toNat ≤ 10 → st.length + d = n → far st d s < M := fun {st d F s} r h1 h2 => by rw [hM]; exact far_lt h1 (hst r) h2
  have hfar0 := hfl (st := []) (d := n) (F := F0) (s := 1) rfl (by decide) (by simp)
  simp (maxSteps := 3000000) (disch := omega) only [go_sem,reduceIte,Nat.reduceEqDiff,Nat.reduceLT, wrap_i64, ← hgr, har0]
  refine WK_loopN (fun j α h2 => ∃ (st : List (List Int × Int)) (d : Nat) (F : List Int) (S : Int) (A : Option Addr) (c1 : Nat), far st d S + j = M ∧ st.length + d = n ∧ Stk (H0 : Int) F0 st F ∧ bot F ≠ (H0 : Int) ∧ 1 ≤ S ∧ S ≤ 10 ∧ cod (H0 : Int) gr n F0 = cont (H0 : Int) gr st d F S ∧ Pres h.next h h2 ∧ h.next < h2.next ∧
      SlV h2.blks h.next (h.next + 1) 1 w (ints F) (.slice (some ⟨h.next, 0, none⟩) w w) ∧ CpV h2.blks (h.next + 1) h2.next 3 (sqs st).length c1 (sqc (sqs st)) (.slice A (sqs st).length c1) ∧
      α.get 0 = some (.int .i64 (w : Int)) ∧ α.get 1 = some (.int .i64 (H0 : Int)) ∧ α.get 2 = some (.int .i64 (n : Int)) ∧ α.get 7 = some (.slice (some ⟨h.next, 0, none⟩) w w) ∧ α.get 8 = some (.int .i64 (ara (H0 : Int) F)) ∧ α.get 9 = some (.int .i64 gr) ∧ α.get 10 = some (.slice A (sqs st).length c1) ∧ α.get 11 = some (.int .i64 S)) (M - far [] n 1)
    ⟨[], n, F0, 1, none, 0, by omega, by simp, rfl, hb0, by decide, by decide, (node_one hb0).symm, hn1.pres (Nat.le_refl _), by omega, hf1, .nil rfl rfl rfl, by simp only [go_sem,reduceIte,Nat.reduceEqDiff,Nat.reduceLT], by simp only [go_sem,reduceIte,Nat.reduceEqDiff,Nat.reduceLT], by simp only [go_sem,reduceIte,Nat.reduceEqDiff,Nat.reduceLT], by simp only [go_sem,reduceIte,Nat.reduceEqDiff,Nat.reduceLT], by (simp only [go_sem,reduceIte,Nat.reduceEqDiff,Nat.reduceLT]) <;> rfl, by (simp only [go_sem,reduceIte,Nat.reduceEqDiff,Nat.reduceLT]) <;> rfl, by (simp only [go_sem,reduceIte,Nat.reduceEqDiff,Nat.reduceLT]) <;> rfl, by (simp only [go_sem,reduceIte,Nat.reduceEqDiff,Nat.reduceLT]) <;> rfl⟩ (by omega) ?_
  clear hf1 hn1 n1
  rintro J j α h2 ⟨st, d, F, S, A, c1, hfj, hsd, stk, hb, hS1, hS2, hcont, pr, hlt2, hf, hsq, e0, e1, e2, e7, e8, e9, e10, e11⟩ hJ
  have fF := stk.flo hw.1 f0
  have hFl := fF.len
  have hsl := sqs_len (st := st)
  have hbt := fF.bot hw.1
  have hrg := fF.rng
  have haF := hara fF
  -- one who goes further
  have on : ∀ (st' : List (List Int × Int)) (d' : Nat) (F' : List Int) (S' : Int) (A' : Option Addr) (c' : Nat) (α' : Tr Value) (h' : H), far st d S < far st' d' S' → st'.length + d' = n → Stk (H0 : Int) F0 st' F' → bot F' ≠ (H0 : Int) → 1 ≤ S' → S' ≤ 10 → cod (H0 : Int) gr n F0 = cont (H0 : Int) gr st' d' F' S' → Pres h.next h h' → h.next < h'.next → SlV h'.blks h.next (h.next + 1) 1 w (ints F') (.slice (some ⟨h.next, 0, none⟩) w w) → CpV h'.blks (h.next + 1) h'.next 3 (sqs st').length c' (sqc (sqs st')) (.slice A' (sqs st').length c') →
      α'.get 0 = some (.int .i64 (w : Int)) → α'.get 1 = some (.int .i64 (H0 : Int)) → α'.get 2 = some (.int .i64 (n : Int)) → α'.get 7 = some (.slice (some ⟨h.next, 0, none⟩) w w) → α'.get 8 = some (.int .i64 (ara (H0 : Int) F')) → α'.get 9 = some (.int .i64 gr) → α'.get 10 = some (.slice A' (sqs st').length c') → α'.get 11 = some (.int .i64 S') → J α' h' := fun st' d' F' S' A' c' α' h' a1 a2 a3 a4 a5 a6 a7 a8 a9 a10 a11 b0 b1 b2 b7 b8 b9 b10 b11 => by
    have := hfl a3 (show S'.toNat ≤ 10 by omega) a2
    exact hJ (M - far st' d' S') _ _ (by omega) ⟨st', d', F', S', A', c', by omega, a2, a3, a4, a5, a6, a7, a8, a9, a10, a11, b0, b1, b2, b7, b8, b9, b10, b11⟩
  clear hJ
  simp (disch := omega) only [go_sem,reduceIte,Nat.reduceEqDiff,Nat.reduceLT, e0, e1, e2, e7, e8, e9, e10, e11]
  refine CallO_f (room_spec hf (by omega) (by omega)) (by omega) fun u h3 _ hu => ?_
  obtain ⟨rfl, x, m, rfl, hroom⟩ := hu
  have hrp := hroom.pos
  have hrl := hroom.le
  have hlow := hroom.eq.1
  have hwide := hroom.eq.2
  have hbot : bot F = F.getD x 0 := by unfold bot; rw [hlow]
  rw [hFl] at hrl
  have hFx := hrg x (by omega)
  have lx : loadv h3.blks h.next (0 + x) = some (.int .i64 (F.getD x 0)) := by
    obtain ⟨b1, off1, he, _, _, h5⟩ := hf.at_ (by omega)
    injection he with he
    injection he with q1 q2
    subst q1; subst q2
    rw [h5 x (by omega), ints_getD (by omega)]
  obtain ⟨most, hmost⟩ : ∃ most : Int, most = min (m : Int) ((H0 : Int) - F.getD x 0) := ⟨_, rfl⟩
  have hmS : (mostS (H0 : Int) F : Int) = most := by unfold mostS; rw [hwide, hbot]; omega
  have hmb : 1 ≤ most ∧ most ≤ 9 := by omega
  simp (maxSteps := 3000000) (disch := omega) only [go_sem,reduceIte,Nat.reduceEqDiff,Nat.reduceLT, e0, e1, e2, e7, e8, e9, e10, e11, idxA96, load3, Int.toNat_natCast, Nat.mul_one, lx, wrap_i64, ← hmost]
  refine WK_loopN (fun j2 α h4 => ∃ S' : Int, h3 = h4 ∧ S ≤ S' ∧ S' ≤ 10 ∧ S' + j2 = 11 ∧ cod (H0 : Int) gr n F0 = cont (H0 : Int) gr st d F S' ∧ α.get 0 = some (.int .i64 (w : Int)) ∧ α.get 1 = some (.int .i64 (H0 : Int)) ∧ α.get 2 = some (.int .i64 (n : Int)) ∧ α.get 7 = some (.slice (some ⟨h.next, 0, none⟩) w w) ∧ α.get 8 = some (.int .i64 (ara (H0 : Int) F)) ∧ α.get 9 = some (.int .i64 gr) ∧ α.get 10 = some (.slice A (sqs st).length c1) ∧ α.get 11 = some (.int .i64 S') ∧ α.get 12 = some (.int .i64 (x : Int)) ∧ α.get 13 = some (.int .i64 (m : Int)) ∧ α.get 14 = some (.int .i64 most)) (11 - S).toNat
    ⟨S, rfl, Int.le_refl _, hS2, by omega, hcont, by simp only [go_sem,reduceIte,Nat.reduceEqDiff,Nat.reduceLT, e0], by simp only [go_sem,reduceIte,Nat.reduceEqDiff,Nat.reduceLT, e1], by simp only [go_sem,reduceIte,Nat.reduceEqDiff,Nat.reduceLT, e2], by simp only [go_sem,reduceIte,Nat.reduceEqDiff,Nat.reduceLT, e7], by simp only [go_sem,reduceIte,Nat.reduceEqDiff,Nat.reduceLT, e8], by simp only [go_sem,reduceIte,Nat.reduceEqDiff,Nat.reduceLT, e9], by simp only [go_sem,reduceIte,Nat.reduceEqDiff,Nat.reduceLT, e10], by simp only [go_sem,reduceIte,Nat.reduceEqDiff,Nat.reduceLT, e11], by simp only [go_sem,reduceIte,Nat.reduceEqDiff,Nat.reduceLT], by simp only [go_sem,reduceIte,Nat.reduceEqDiff,Nat.reduceLT], by simp only [go_sem,reduceIte,Nat.reduceEqDiff,Nat.reduceLT]⟩ (by omega) ?_
  clear e0 e1 e2 e7 e8 e9 e10 e11 hcont
  rintro J2 j2 α h4 ⟨S', rfl, hSS, hS', hSj, hcont, e0, e1, e2, e7, e8, e9, e10, e11, e12, e13, e14⟩ hJ2
  have hfS : far st d S ≤ far st d S' := far_mono hSS
  have hsn : (sqs st).length ≤ n := by omega
  by_cases hle : S' ≤ most
  · by_cases hlc : ((sqs st).length : Int) < (n : Int)
    · obtain ⟨d', rfl⟩ : ∃ d', d = d' + 1 := ⟨d - 1, by omega⟩
      have hmay : may (H0 : Int) F S' := ⟨by omega, by rw [hwide]; omega, by rw [hbot]; omega⟩
      have hput : put F S' = raise F x S'.toNat S' := by unfold put; rw [hlow]
      have fP := fF.put hw.1 hmay
      have haP := hara fP
      have hap := ara_put fF hw.1 hmay
      have en : (n : Int) - ((sqs st).length : Int) - 1 = (d' : Int) := by omega
      have hm0 := mulB (a := S') (b := S') (m := 10) (n := 10) (by omega) (by omega) (by omega) (by omega)
      have hm1 := mulB (a := (d' : Int)) (b := gr) (m := 15) (n := 9) (by omega) (by omega) (by omega) hgb.2
      have hm2 := mulB (a := (d' : Int) * gr) (b := gr) (m := 135) (n := 9) hm1.1 (by omega) (by omega) hgb.2
      by_cases hpr : (d' : Int) * gr * gr < ara (H0 : Int) F - S' * S'
      · have hskip := cont_skip (st := st) (node_skip (h := (H0 : Int)) (gr := gr) (d := d') (F := F) (s := S') (by omega) hpr)
        simp (maxSteps := 3000000) (disch := omega) only [go_sem,reduceIte,Nat.reduceEqDiff,Nat.reduceLT, e0, e1, e2, e7, e8, e9, e10, e11, e12, e13, e14, hle, len22, hlc, wrap_i64, en, hpr]
        exact hJ2 (j2 - 1) _ _ (by omega) ⟨S' + 1, rfl, by omega, by omega, by omega, hcont.trans hskip, by simp only [go_sem,reduceIte,Nat.reduceEqDiff,Nat.reduceLT, e0], by simp only [go_sem,reduceIte,Nat.reduceEqDiff,Nat.reduceLT, e1], by simp only [go_sem,reduceIte,Nat.reduceEqDiff,Nat.reduceLT, e2], by simp only [go_sem,reduceIte,Nat.reduceEqDiff,Nat.reduceLT, e7], by simp only [go_sem,reduceIte,Nat.reduceEqDiff,Nat.reduceLT, e8], by simp only [go_sem,reduceIte,Nat.reduceEqDiff,Nat.reduceLT, e9], by simp only [go_sem,reduceIte,Nat.reduceEqDiff,Nat.reduceLT, e10], by simp only [go_sem,reduceIte,Nat.reduceEqDiff,Nat.reduceLT], by simp only [go_sem,reduceIte,Nat.reduceEqDiff,Nat.reduceLT, e12], by simp only [go_sem,reduceIte,Nat.reduceEqDiff,Nat.reduceLT, e13], by simp only [go_sem,reduceIte,Nat.reduceEqDiff,Nat.reduceLT, e14]⟩
      · simp (maxSteps := 3000000) (disch := omega) only [go_sem,reduceIte,Nat.reduceEqDiff,Nat.reduceLT, e0, e1, e2, e7, e8, e9, e10, e11, e12, e13, e14, hle, len22, hlc, wrap_i64, en, hpr]
        refine CallO_any (hput_spec hf hG hlt2 (by omega) (by omega) (by omega) (by omega) fun i hi => by have := hrg i hi; omega) (by omega) fun u h5 hu => ?_
        obtain ⟨rfl, hp⟩ := hu
        have n5 := hp.pres.next
        have hsq5 := hsq.mono (B' := h5.blks) fun b g1 g2 => hp.get b g2 (by omega)
        have hf5 := hp.slv
        rw [← hput] at hf5
        try simp only [go_sem,reduceIte,Nat.reduceEqDiff,Nat.reduceLT]
        refine At_lit (vs := [(0, sqv ((x : Int), F.getD x 0, S'))]) (cs := #[.int .i64 (x : Int), .int .i64 (F.getD x 0), .int .i64 S']) u22 i61 zero61 (by rw [size61]; rfl) (by simp only [go_sem,reduceIte,Nat.reduceEqDiff,Nat.reduceLT]; rfl) (by rw [size61]; rfl) (by omega) fun h6 hn6 => ?_
        rw [size61] at hn6
        have n6 := hn6.next
        have hsx : SlV h6.blks h5.next h6.next 3 1 (sqc [((x : Int), F.getD x 0, S')]) (.slice (some ⟨h5.next, 0, none⟩) 1 1) := hn6.slv rfl
        have hsq6 := (hsq5.mono (B' := h6.blks) fun b g1 g2 => by rw [hn6.get, if_neg (by omega)])
        have hf6 := (hf5.mono (B' := h6.blks) fun b g1 g2 => by rw [hn6.get, if_neg (by omega)])
        try simp only [go_sem,reduceIte,Nat.reduceEqDiff,Nat.reduceLT]
        refine At_appendC (lo := h.next + 1) (hi := h3.next) (lo2 := h5.next) (hi2 := h6.next) (sl := (sqs st).length) (m := 1) (sc := c1) (L := sqc (sqs st)) (M := sqc [((x : Int), F.getD x 0, S')]) (w := .slice A (sqs st).length c1) (v := .slice (some ⟨h5.next, 0, none⟩) 1 1) u22 u22 i61 zero61 (by rw [size61, bytes61]; rfl) (by simp only [go_sem,reduceIte,Nat.reduceEqDiff,Nat.reduceLT, e10]) (by rw [size61]; exact hsq6) (by omega) (by omega) (by rw [En_G]; omega) (by simp only [go_sem,reduceIte,Nat.reduceEqDiff,Nat.reduceLT]) (by rw [size61]; exact hsx) (by omega) (by omega) sqc_one (by omega) fun w' c' h7 pr7 hs7 => ?_
        rw [size61, ← sqc_app] at hs7
        have n7 := pr7.next
        have hsqs : sqs ((F, S') :: st) = sqs st ++ [((x : Int), F.getD x 0, S')] := by rw [sqs_cons, hlow, hbot]
        have hl1 : (sqs st).length + 1 = (sqs ((F, S') :: st)).length := by rw [hsqs, List.length_append]; rfl
        rw [← hsqs, hl1] at hs7
        obtain ⟨A7, rfl⟩ := hs7.shape
        have hf7 := hf6.mono (B' := h7.blks) fun b g1 g2 => pr7.get b (by omega)
        have pr07 : Pres h.next h h7 := pr.trans ((hp.pres).trans ((hn6.pres (by omega)).trans (pr7.le (by omega))))
        have stk' : Stk (H0 : Int) F0 ((F, S') :: st) (put F S') := ⟨hb, hmay, rfl, stk⟩
        by_cases hz : bot (put F S') = (H0 : Int)
        · have hzz := (ara_zero fP hw.1).2 hz
          rw [hap] at hzz
          have dz : decide (ara (H0 : Int) F - S' * S' = 0) = true := decide_eq_true hzz
          have hmany := stk'.many hw.1 f0 hz (by rw [← hgr]; exact hno)
          rw [List.length_cons] at hmany
          obtain rfl : d' = 0 := by omega
          have hfound := cont_found (h := (H0 : Int)) (gr := gr) (st := st) (F := F) (s := S') (by omega) hpr hz
          simp (maxSteps := 3000000) (disch := omega) only [go_sem,reduceIte,Nat.reduceEqDiff,Nat.reduceLT, e0, e1, e2, e7, e8, e9, e10, e11, e12, e13, e14, dz]
          refine CallO_f (sizesOf_spec (L := sqs ((F, S') :: st)) (by omega) (Nat.le_refl _) hs7.slv (by omega)) (by omega) fun u h8 ph8 ⟨A8, hu, hs8⟩ => ?_
          subst hu
          have n8 := ph8.next
          have hcd : cod (H0 : Int) gr n F0 = some (szs (sqs ((F, S') :: st))) := by rw [hcont, hfound, szs_sqs]
          have hzl : (sqs ((F, S') :: st)).length = (szs (sqs ((F, S') :: st))).length := by rw [szs_sqs, List.length_reverse, List.length_map, sqs_len]
          rw [hzl] at hs8
          simp only [go_sem,reduceIte,Nat.reduceEqDiff,Nat.reduceLT]
          refine hQ' _ _ ⟨pr07.trans (ph8.le (by omega)), szs (sqs ((F, S') :: st)), A8, by rw [hcd]; rfl, by rw [hzl], hs8.wide (by omega) (Nat.le_refl _)⟩
        · have hzz : ¬ ara (H0 : Int) F - S' * S' = 0 := fun e => hz ((ara_zero fP hw.1).1 (by rw [hap]; exact e))
          have dz : decide (ara (H0 : Int) F - S' * S' = 0) = false := decide_eq_false hzz
          have hpush := cont_push (h := (H0 : Int)) (gr := gr) (st := st) (d := d') (F := F) (s := S') (by omega) hpr hz
          have hfp := far_push (st := st) (d := d') (F := F) (s := S')
          simp (maxSteps := 3000000) (disch := omega) only [go_sem,reduceIte,Nat.reduceEqDiff,Nat.reduceLT, e0, e1, e2, e7, e8, e9, e10, e11, e12, e13, e14, dz]
          exact on ((F, S') :: st) d' (put F S') 1 A7 c' _ _ (by omega) (by rw [List.length_cons]; omega) stk' hz (by decide) (by decide) (hcont.trans hpush.symm) pr07 (by omega) hf7 hs7 (by simp only [go_sem,reduceIte,Nat.reduceEqDiff,Nat.reduceLT, e0]) (by simp only [go_sem,reduceIte,Nat.reduceEqDiff,Nat.reduceLT, e1]) (by simp only [go_sem,reduceIte,Nat.reduceEqDiff,Nat.reduceLT, e2]) (by simp only [go_sem,reduceIte,Nat.reduceEqDiff,Nat.reduceLT, e7]) (by rw [hap]; simp only [go_sem,reduceIte,Nat.reduceEqDiff,Nat.reduceLT]) (by simp only [go_sem,reduceIte,Nat.reduceEqDiff,Nat.reduceLT, e9]) (by simp only [go_sem,reduceIte,Nat.reduceEqDiff,Nat.reduceLT]) (by simp only [go_sem,reduceIte,Nat.reduceEqDiff,Nat.reduceLT])
    · have hnode : node (H0 : Int) gr d F S' = none := node_none (.inl (by omega))
      simp (maxSteps := 3000000) (disch := omega) only [go_sem,reduceIte,Nat.reduceEqDiff,Nat.reduceLT, e0, e1, e2, e7, e8, e9, e10, e11, e12, e13, e14, hle, len22, hlc]
      match st, hsd, stk, hcont, hsq, e10, hsl, hfS, on with
      | [], hsd, stk, hcont, hsq, e10, hsl, hfS, on =>
        have hc0 := hcont.trans (cont_none hnode)
        have d0 : decide (((sqs []).length : Int) = 0) = true := rfl
        simp (maxSteps := 3000000) (disch := omega) only [go_sem,reduceIte,Nat.reduceEqDiff,Nat.reduceLT, e0, e1, e2, e7, e8, e9, e10, e11, e12, e13, e14, len22, d0]
        refine CallO_f (sizesOf_spec (L := sqs []) (by omega) (Nat.le_refl _) hsq.slv (by decide)) (by omega) fun u h8 ph8 ⟨A8, hu, hs8⟩ => ?_
        subst hu
        have n8 := ph8.next
        simp only [go_sem,reduceIte,Nat.reduceEqDiff,Nat.reduceLT]
        exact hQ' _ _ ⟨pr.trans (ph8.le (by omega)), [], A8, by rw [hc0]; rfl, rfl, hs8.wide (by omega) (Nat.le_refl _)⟩
      | (F', s') :: st2, hsd, ⟨hb', hm', hFe, stk2⟩, hcont, hsq, e10, hsl, hfS, on =>
        have f' := stk2.flo hw.1 f0
        have hFl' := f'.len
        have rm' := room_is (F := F') (by omega)
        have hle' := rm'.le
        obtain ⟨mm1, mm2, mm3⟩ := id hm'
        have hb1 := f'.bot hw.1
        have ha' := hara f'
        have hap' := ara_put f' hw.1 hm'
        rw [← hFe] at hap'
        have hlast : (sqs ((F', s') :: st2))[(sqs st2).length]? = some ((lowest F' : Int), bot F', s') := by rw [sqs_cons]; simp
        have hll : (sqs ((F', s') :: st2)).length = (sqs st2).length + 1 := by rw [sqs_cons, List.length_append]; rfl
        have hpos : 0 < (sqs ((F', s') :: st2)).length := by omega
        have d0 : decide (((sqs ((F', s') :: st2)).length : Int) = 0) = false := decide_eq_false (by omega)
        have e1' : ((sqs ((F', s') :: st2)).length : Int) - 1 = (((sqs st2).length : Nat) : Int) := by omega
        have hsS := hsq.slv
        obtain ⟨bA, oA, rfl, _, _, _⟩ := hsS.at_ hpos
        obtain ⟨lq, _, _, _⟩ := hsS.sq_at (G := G) hlast rfl
        obtain ⟨htk, hsq2⟩ := CpV.take (E := En G) (kd := .i64) (m := (sqs st2).length) u22 i61 size61 hsq (by omega)
        have hcut : (sqc (sqs ((F', s') :: st2))).take ((sqs st2).length * 3) = sqc (sqs st2) := by rw [sqs_cons, sqc_app, List.take_append_of_le_length (by rw [sqc_len]; exact Nat.le_refl _), List.take_of_length_le (by rw [sqc_len]; exact Nat.le_refl _)]
        rw [hcut] at hsq2
        have hm0 := mulB (a := s') (b := s') (m := 10) (n := 10) (by omega) (by omega) (by omega) (by omega)
        simp (maxSteps := 3000000) (disch := omega) only [go_sem,reduceIte,Nat.reduceEqDiff,Nat.reduceLT, e0, e1, e2, e7, e8, e9, e10, e11, e12, e13, e14, len22, d0, wrap_i64, e1', idxA22, Int.toNat_natCast, lq]
        refine At_alloc i61 Go.Proofs.YtnhbkoeomefkdaaDoor.Ev.zero61 rfl (by omega) fun h5 hn5 => ?_
        have n5 := hn5.next
        have w5 := hn5.var
        rw [sqv_cells] at w5
        have p5 : Pres h3.next h3 h5 := hn5.pres (Nat.le_refl _)
        try simp only [go_sem,reduceIte,Nat.reduceEqDiff,Nat.reduceLT]
        refine At_storeV (v := sqv ((lowest F' : Int), bot F', s')) i61 (by simp only [go_sem,reduceIte,Nat.reduceEqDiff,Nat.reduceLT]) (by (simp only [go_sem,reduceIte,Nat.reduceEqDiff,Nat.reduceLT]) <;> rfl) w5 (by rw [size61]; rfl) (by rw [size61]; rfl) rfl (by rw [En_G]; omega) fun h6 hs6 v6 => ?_
        rw [sqv_cells] at v6
        have n6 : h6.next = h5.next := hs6.next
        have p6 : Pres h3.next h3 h6 := p5.trans (hs6.pres (Nat.le_refl _))
        have htk6 : sliceO (En G) 22 h6.blks (some (.slice (some ⟨bA, oA, none⟩) (sqs ((F', s') :: st2)).length c1)) (some []) (some [.int .i64 ((sqs st2).length : Int)]) = some (.slice (some ⟨bA, oA, none⟩) (sqs st2).length c1) := (CpV.take (E := En G) (kd := .i64) (m := (sqs st2).length) u22 i61 size61 (hsq.mono (B' := h6.blks) fun b g1 g2 => p6.get b (by omega)) (by omega)).1
        have hsq6 := hsq2.mono (B' := h6.blks) fun b g1 g2 => p6.get b (by omega)
        have hf6 := hf.mono (B' := h6.blks) fun b g1 g2 => p6.get b (by omega)
        have lsq := v6.sqA (G := G)
        simp (maxSteps := 3000000) (disch := omega) only [go_sem,reduceIte,Nat.reduceEqDiff,Nat.reduceLT, e0, e1, e2, e7, e8, e9, e10, e11, e12, e13, e14, len22, wrap_i64, e1', htk6, lsq]
        refine CallO_any (takeBack_spec (x := lowest F') (y := bot F') (s := s') hf6 hG (by omega) mm1 (by omega) (by omega)) (by omega) fun u h7 ⟨hf7, p7, old7⟩ => ?_
        have n7 := p7.next
        rw [hFe, lower_put f' hw.1 hm'] at hf7
        have v7 := v6.mono (B' := h7.blks) (old7 _ (by omega) (by omega))
        obtain ⟨_, _, lz⟩ := v7.sq
        have hsq7 := hsq6.mono (B' := h7.blks) fun b g1 g2 => old7 b (by omega) (by omega)
        have hpop := cont_pop (h := (H0 : Int)) (gr := gr) (st := st2) (F' := F') (s' := s') hnode
        have hfp := far_pop (st := st2) (d := d) (F := F') (s := S') (s' := s') (by omega) (by omega)
        simp (maxSteps := 3000000) (disch := omega) only [go_sem,reduceIte,Nat.reduceEqDiff,Nat.reduceLT, e0, e1, e2, e7, e8, e9, e10, e11, e12, e13, e14, fld61_2, Nat.zero_add, load3, lz, wrap_i64]
        exact on st2 (d + 1) F' (s' + 1) (some ⟨bA, oA, none⟩) c1 _ _ (by omega) (by rw [List.length_cons] at hsd; omega) stk2 hb' (by omega) (by omega) (hcont.trans hpop) (pr.trans ((p6.le (by omega)).trans p7)) (by omega) hf7 (hsq7.wide (Nat.le_refl _) (by omega)) (by simp only [go_sem,reduceIte,Nat.reduceEqDiff,Nat.reduceLT, e0]) (by simp only [go_sem,reduceIte,Nat.reduceEqDiff,Nat.reduceLT, e1]) (by simp only [go_sem,reduceIte,Nat.reduceEqDiff,Nat.reduceLT, e2]) (by simp only [go_sem,reduceIte,Nat.reduceEqDiff,Nat.reduceLT, e7]) (by (simp only [go_sem,reduceIte,Nat.reduceEqDiff,Nat.reduceLT]) <;> (congr 2; omega)) (by simp only [go_sem,reduceIte,Nat.reduceEqDiff,Nat.reduceLT, e9]) (by simp only [go_sem,reduceIte,Nat.reduceEqDiff,Nat.reduceLT]) (by simp only [go_sem,reduceIte,Nat.reduceEqDiff,Nat.reduceLT])
  · have hnode : node (H0 : Int) gr d F S' = none := node_none (.inr (by omega))
    simp (maxSteps := 3000000) (disch := omega) only [go_sem,reduceIte,Nat.reduceEqDiff,Nat.reduceLT, e0, e1, e2, e7, e8, e9, e10, e11, e12, e13, e14, hle, len22]
    match st, hsd, stk, hcont, hsq, e10, hsl, hfS, on with
    | [], hsd, stk, hcont, hsq, e10, hsl, hfS, on =>
      have hc0 := hcont.trans (cont_none hnode)
      have d0 : decide (((sqs []).length : Int) = 0) = true := rfl
      simp (maxSteps := 3000000) (disch := omega) only [go_sem,reduceIte,Nat.reduceEqDiff,Nat.reduceLT, e0, e1, e2, e7, e8, e9, e10, e11, e12, e13, e14, len22, d0]
      refine CallO_f (sizesOf_spec (L := sqs []) (by omega) (Nat.le_refl _) hsq.slv (by decide)) (by omega) fun u h8 ph8 ⟨A8, hu, hs8⟩ => ?_
      subst hu
      have n8 := ph8.next
      simp only [go_sem,reduceIte,Nat.reduceEqDiff,Nat.reduceLT]
      exact hQ' _ _ ⟨pr.trans (ph8.le (by omega)), [], A8, by rw [hc0]; rfl, rfl, hs8.wide (by omega) (Nat.le_refl _)⟩
    | (F', s') :: st2, hsd, ⟨hb', hm', hFe, stk2⟩, hcont, hsq, e10, hsl, hfS, on =>
      have f' := stk2.flo hw.1 f0
      have hFl' := f'.len
      have rm' := room_is (F := F') (by omega)
      have hle' := rm'.le
      obtain ⟨mm1, mm2, mm3⟩ := id hm'
      have hb1 := f'.bot hw.1
      have ha' := hara f'
      have hap' := ara_put f' hw.1 hm'
      rw [← hFe] at hap'
      have hlast : (sqs ((F', s') :: st2))[(sqs st2).length]? = some ((lowest F' : Int), bot F', s') := by rw [sqs_cons]; simp
      have hll : (sqs ((F', s') :: st2)).length = (sqs st2).length + 1 := by rw [sqs_cons, List.length_append]; rfl
      have hpos : 0 < (sqs ((F', s') :: st2)).length := by omega
      have d0 : decide (((sqs ((F', s') :: st2)).length : Int) = 0) = false := decide_eq_false (by omega)
      have e1' : ((sqs ((F', s') :: st2)).length : Int) - 1 = (((sqs st2).length : Nat) : Int) := by omega
      have hsS := hsq.slv
      obtain ⟨bA, oA, rfl, _, _, _⟩ := hsS.at_ hpos
      obtain ⟨lq, _, _, _⟩ := hsS.sq_at (G := G) hlast rfl
      obtain ⟨htk, hsq2⟩ := CpV.take (E := En G) (kd := .i64) (m := (sqs st2).length) u22 i61 size61 hsq (by omega)
      have hcut : (sqc (sqs ((F', s') :: st2))).take ((sqs st2).length * 3) = sqc (sqs st2) := by rw [sqs_cons, sqc_app, List.take_append_of_le_length (by rw [sqc_len]; exact Nat.le_refl _), List.take_of_length_le (by rw [sqc_len]; exact Nat.le_refl _)]
      rw [hcut] at hsq2
      have hm0 := mulB (a := s') (b := s') (m := 10) (n := 10) (by omega) (by omega) (by omega) (by omega)
      simp (maxSteps := 3000000) (disch := omega) only [go_sem,reduceIte,Nat.reduceEqDiff,Nat.reduceLT, e0, e1, e2, e7, e8, e9, e10, e11, e12, e13, e14, len22, d0, wrap_i64, e1', idxA22, Int.toNat_natCast, lq]
      refine At_alloc i61 Go.Proofs.YtnhbkoeomefkdaaDoor.Ev.zero61 rfl (by omega) fun h5 hn5 => ?_
      have n5 := hn5.next
      have w5 := hn5.var
      rw [sqv_cells] at w5
      have p5 : Pres h3.next h3 h5 := hn5.pres (Nat.le_refl _)
      try simp only [go_sem,reduceIte,Nat.reduceEqDiff,Nat.reduceLT]
      refine At_storeV (v := sqv ((lowest F' : Int), bot F', s')) i61 (by simp only [go_sem,reduceIte,Nat.reduceEqDiff,Nat.reduceLT]) (by (simp only [go_sem,reduceIte,Nat.reduceEqDiff,Nat.reduceLT]) <;> rfl) w5 (by rw [size61]; rfl) (by rw [size61]; rfl) rfl (by rw [En_G]; omega) fun h6 hs6 v6 => ?_
      rw [sqv_cells] at v6
      have n6 : h6.next = h5.next := hs6.next
      have p6 : Pres h3.next h3 h6 := p5.trans (hs6.pres (Nat.le_refl _))
      have htk6 : sliceO (En G) 22 h6.blks (some (.slice (some ⟨bA, oA, none⟩) (sqs ((F', s') :: st2)).length c1)) (some []) (some [.int .i64 ((sqs st2).length : Int)]) = some (.slice (some ⟨bA, oA, none⟩) (sqs st2).length c1) := (CpV.take (E := En G) (kd := .i64) (m := (sqs st2).length) u22 i61 size61 (hsq.mono (B' := h6.blks) fun b g1 g2 => p6.get b (by omega)) (by omega)).1
      have hsq6 := hsq2.mono (B' := h6.blks) fun b g1 g2 => p6.get b (by omega)
      have hf6 := hf.mono (B' := h6.blks) fun b g1 g2 => p6.get b (by omega)
      have lsq := v6.sqA (G := G)
      simp (maxSteps := 3000000) (disch := omega) only [go_sem,reduceIte,Nat.reduceEqDiff,Nat.reduceLT, e0, e1, e2, e7, e8, e9, e10, e11, e12, e13, e14, len22, wrap_i64, e1', htk6, lsq]
      refine CallO_any (takeBack_spec (x := lowest F') (y := bot F') (s := s') hf6 hG (by omega) mm1 (by omega) (by omega)) (by omega) fun u h7 ⟨hf7, p7, old7⟩ => ?_
      have n7 := p7.next
      rw [hFe, lower_put f' hw.1 hm'] at hf7
      have v7 := v6.mono (B' := h7.blks) (old7 _ (by omega) (by omega))
      obtain ⟨_, _, lz⟩ := v7.sq
      have hsq7 := hsq6.mono (B' := h7.blks) fun b g1 g2 => old7 b (by omega) (by omega)
      have hpop := cont_pop (h := (H0 : Int)) (gr := gr) (st := st2) (F' := F') (s' := s') hnode
      have hfp := far_pop (st := st2) (d := d) (F := F') (s := S') (s' := s') (by omega) (by omega)
      simp (maxSteps := 3000000) (disch := omega) only [go_sem,reduceIte,Nat.reduceEqDiff,Nat.reduceLT, e0, e1, e2, e7, e8, e9, e10, e11, e12, e13, e14, fld61_2, Nat.zero_add, load3, lz, wrap_i64]
      exact on st2 (d + 1) F' (s' + 1) (some ⟨bA, oA, none⟩) c1 _ _ (by omega) (by rw [List.length_cons] at hsd; omega) stk2 hb' (by omega) (by omega) (hcont.trans hpop) (pr.trans ((p6.le (by omega)).trans p7)) (by omega) hf7 (hsq7.wide (Nat.le_refl _) (by omega)) (by simp only [go_sem,reduceIte,Nat.reduceEqDiff,Nat.reduceLT, e0]) (by simp only [go_sem,reduceIte,Nat.reduceEqDiff,Nat.reduceLT, e1]) (by simp only [go_sem,reduceIte,Nat.reduceEqDiff,Nat.reduceLT, e2]) (by simp only [go_sem,reduceIte,Nat.reduceEqDiff,Nat.reduceLT, e7]) (by (simp only [go_sem,reduceIte,Nat.reduceEqDiff,Nat.reduceLT]) <;> (congr 2; omega)) (by simp only [go_sem,reduceIte,Nat.reduceEqDiff,Nat.reduceLT, e9]) (by simp only [go_sem,reduceIte,Nat.reduceEqDiff,Nat.reduceLT]) (by simp only [go_sem,reduceIte,Nat.reduceEqDiff,Nat.reduceLT])
end
end Go.Proofs.YtnhbkoeomefkdaaDoor.Ev.L

/- Fewest, the program's and the document's; the laws HideFewest and HideLess. -/
set_option linter.unusedVariables false
set_option linter.unusedSimpArgs false
namespace Go.Proofs.YtnhbkoeomefkdaaDoor.Ev.L
open Go Go.Proofs Go.Proofs.YtnhbkoeomefkdaaDoor.Ev
noncomputable section

theorem least_of {p : Nat → Prop} : ∀ N, p N → ∃ n, n ≤ N ∧ p n ∧ ∀ k, k < n → ¬ p k := by
  intro N
  induction N using Nat.strongRecOn with
  | ind N ih =>
    intro hp
    by_cases h : ∃ k, k < N ∧ p k
    · obtain ⟨k, hk, hpk⟩ := h
      obtain ⟨n, h1, h2, h3⟩ := ih k hk hpk
      exact ⟨n, by omega, h2, h3⟩
    · exact ⟨N, Nat.le_refl _, hp, fun k hk hpk => h ⟨k, hk, hpk⟩⟩
theorem eu_short : ∀ (k : Nat) (w h : Int), 0 ≤ w → 0 ≤ h → w + h ≤ k → ((eu k w h).length : Int) ≤ max w h ∧ (w = 0 ∨ h = 0 → eu k w h = [])
  | 0, w, h, h1, h2, h3 => by
    rw [eu_stop (by omega)]
    exact ⟨by simp; omega, fun _ => rfl⟩
  | k + 1, w, h, h1, h2, h3 => by
    by_cases hs : 0 < w ∧ 0 < h
    · rw [eu_go hs h3, Nat.add_sub_cancel]
      refine ⟨?_, fun e => by omega⟩
      rw [List.length_cons]
      split
      · have := (eu_short k (w - min w h) h (by omega) h2 (by omega)).1
        omega
      · have i := eu_short k w (h - min w h) h1 (by omega) (by omega)
        by_cases e : h - min w h = 0
        · rw [i.2 (.inr e)]; simp; omega
        · omega
    · rw [eu_stop hs]
      exact ⟨by simp; omega, fun _ => rfl⟩
/-- how many squares are the fewest, and the first such code -/
structure FewC (w h n : Nat) (c : List Int) : Prop where
  no : ∀ k, k < n → cod (h : Int) (min (w : Int) h) k (List.replicate w 0) = none
  is : cod (h : Int) (min (w : Int) h) n (List.replicate w 0) = some c
theorem few_ex {w h : Nat} (hw : 1 ≤ w ∧ w ≤ 9) (hh : 1 ≤ h ∧ h ≤ 9) : ∃ n c, FewC w h n c ∧ n ≤ (eu 2000 w h).length ∧ (eu 2000 w h).length ≤ 9 := by
  have hp := eu_code (w := w) (h := h) (k := 2000) hw.1 (by omega)
  have hx := cod_ex hw.1 _ _ (flo_zero (by omega)) hp
  have hl := (eu_short 2000 w h (by omega) (by omega) (by omega)).1
  obtain ⟨n, h1, h2, h3⟩ := least_of (p := fun n => cod (h : Int) (min (w : Int) h) n (List.replicate w 0) ≠ none) _ hx
  obtain ⟨c, hc⟩ := Option.ne_none_iff_exists'.1 h2
  exact ⟨n, c, ⟨fun k hk => Classical.byContradiction (h3 k hk), hc⟩, h1, by omega⟩
theorem FewC.len {w h n : Nat} {c : List Int} (f : FewC w h n c) : c.length = n ∧ path h (List.replicate w 0) c := ⟨(cod_path f.is).2, (cod_path f.is).1⟩
theorem FewC.pos {w h n : Nat} {c : List Int} (f : FewC w h n c) (hw : 1 ≤ w) (hh : 1 ≤ h) : 1 ≤ n := by
  rcases Nat.eq_zero_or_pos n with e | e
  · subst e
    have h1 := (f.len).2
    have h2 := List.length_eq_zero_iff.1 f.len.1
    rw [h2] at h1
    have h3 : bot (List.replicate w 0) = (h : Int) := h1
    have f0 := flo_zero (w := w) (h := (h : Int)) (by omega)
    have hz := (ara_zero f0 hw).2 h3
    rw [ara_rep] at hz
    have : 1 * 1 ≤ (w : Int) * (h : Int) := Int.mul_le_mul (by omega) (by omega) (by decide) (by omega)
    omega
  · exact e
theorem FewC.turn {w h n m : Nat} {c d : List Int} (hw : 1 ≤ w ∧ w ≤ 9) (hh : 1 ≤ h ∧ h ≤ 9) (f : FewC w h n c) (g : FewC h w m d) : n = m := by
  have h1 := cod_turn (n := n) ⟨hw.1, by omega⟩ ⟨hh.1, by omega⟩ (by rw [f.is]; exact fun e => by cases e)
  have h2 := cod_turn (n := m) ⟨hh.1, by omega⟩ ⟨hw.1, by omega⟩ (by rw [g.is]; exact fun e => by cases e)
  rcases Nat.lt_trichotomy n m with h | h | h
  · exact absurd (g.no n h) h1
  · exact h
  · exact absurd (f.no m h) h2

set_option maxRecDepth 100000 in
set_option maxHeartbeats 16000000 in
theorem refFewest_spec {G w H0 n : Nat} {c : List Int} {h : H} (hG : G ≤ h.next) (hw : 1 ≤ w ∧ w ≤ 9) (hH : 1 ≤ H0 ∧ H0 ≤ 9) (f : FewC w H0 n c) (hn : n ≤ 9) :
    Spec Tryd.prog (En G) 31 [.int .i64 (w : Int), .int .i64 (H0 : Int)] h fun v h' => ∃ B, v = .slice (some B) c.length c.length ∧ SlV h'.blks h.next h'.next 1 c.length (ints c) v := by
  have hn1 := f.pos hw.1 hH.1
  refine CallsE_enter (En_known (by decide)) (En_f.trans Tryd.func31) rfl ⟨Nat.le_of_ble_eq_true rfl, by decide⟩ fun Q' hQ' => ?_
  simp only [Tryd.f31, go_sem,reduceIte,Nat.reduceEqDiff,Nat.reduceLT]
  refine WK_loopN (fun j α h2 => ∃ k : Nat, k + j = n ∧ 1 ≤ k ∧ Pres h.next h h2 ∧ α.get 0 = some (.int .i64 (w : Int)) ∧ α.get 1 = some (.int .i64 (H0 : Int)) ∧ α.get 5 = some (.int .i64 (k : Int))) (n - 1)
    ⟨1, by omega, Nat.le_refl _, Pres.refl _ _, by simp only [go_sem,reduceIte,Nat.reduceEqDiff,Nat.reduceLT], by simp only [go_sem,reduceIte,Nat.reduceEqDiff,Nat.reduceLT], by (simp only [go_sem,reduceIte,Nat.reduceEqDiff,Nat.reduceLT]) <;> rfl⟩ (by omega) ?_
  rintro J j α h2 ⟨k, hk, hk1, pr, e0, e1, e5⟩ hJ
  have n2 := pr.next
  simp (disch := omega) only [go_sem,reduceIte,Nat.reduceEqDiff,Nat.reduceLT, e0, e1, e5]
  refine At_make (k1 := .i64) (k2 := .i64) (l := w) (c := w) u27 i3 zero3 (by rw [size3, bytes3]; rfl) (by simp only [go_sem,reduceIte,Nat.reduceEqDiff,Nat.reduceLT, e0]) (by simp only [go_sem,reduceIte,Nat.reduceEqDiff,Nat.reduceLT, e0]) (Nat.le_refl _) (by rw [size3]; omega) (by omega) (by omega) fun h3 hn3 => ?_
  rw [size3, zeros_ints] at hn3
  have n3 := hn3.next
  have hf3 := hn3.slv (n := w) (c := w) (by rw [ints_len]; simp)
  simp (disch := omega) only [go_sem,reduceIte,Nat.reduceEqDiff,Nat.reduceLT, e0, e1, e5]
  refine CallO_f (codes_spec (w := w) (H0 := (H0 : Int)) ⟨hw.1, by omega⟩ ⟨by omega, by omega⟩ k (by omega) (by omega) (Nat.le_refl _) hf3 (flo_zero (by omega))) (by omega) fun u h4 ph4 hu => ?_
  have n4 := ph4.next
  have pr4 : Pres h.next h h4 := pr.trans ((hn3.pres (by omega)).trans (ph4.le (by omega)))
  rcases hu with ⟨hr, hu⟩ | ⟨cc, B, hr, hu, hs4⟩
  · subst hu
    have hkn : k < n := by
      rcases Nat.lt_or_ge k n with g | g
      · exact g
      · obtain rfl : k = n := by omega
        rw [f.is] at hr
        cases hr
    have hnN : binO Tryd.prog (En G) .neq 27 (some (.slice none 0 0)) (some (.slice none 0 0)) = some (.bool false) := neqNil27
    simp (disch := omega) only [go_sem,reduceIte,Nat.reduceEqDiff,Nat.reduceLT, e0, e1, e5, hnN, wrap_i64]
    exact hJ (j - 1) _ _ (by omega) ⟨k + 1, by omega, by omega, pr4, by simp only [go_sem,reduceIte,Nat.reduceEqDiff,Nat.reduceLT, e0], by simp only [go_sem,reduceIte,Nat.reduceEqDiff,Nat.reduceLT, e1], by (simp only [go_sem,reduceIte,Nat.reduceEqDiff,Nat.reduceLT]) <;> rfl⟩
  · subst hu
    have hkn : k = n := by
      rcases Nat.lt_or_ge k n with g | g
      · rw [f.no k g] at hr
        cases hr
      · omega
    subst hkn
    rw [f.is] at hr
    injection hr with hr
    subst hr
    have hnN : binO Tryd.prog (En G) .neq 27 (some (.slice (some B) c.length c.length)) (some (.slice none 0 0)) = some (.bool true) := neqNil27
    simp (disch := omega) only [go_sem,reduceIte,Nat.reduceEqDiff,Nat.reduceLT, e0, e1, e5, hnN]
    exact hQ' _ _ ⟨pr4, B, rfl, hs4.wide (by omega) (Nat.le_refl _)⟩

set_option maxRecDepth 100000 in
set_option maxHeartbeats 16000000 in
theorem hideFewest_ok {G w H0 n : Nat} {c : List Int} {h : H} (hG : G ≤ h.next) (hw : 1 ≤ w ∧ w ≤ 9) (hH : 1 ≤ H0 ∧ H0 ≤ 9) (f : FewC w H0 n c) (hn : n ≤ 9) :
    Spec Tryd.prog (En G) 30 [.int .i64 (w : Int), .int .i64 (H0 : Int)] h fun v h' => ∃ B, v = .tuple #[.slice B c.length c.length, .int .i64 0] ∧ SlV h'.blks h.next h'.next 1 c.length (ints c) (.slice B c.length c.length) := by
  have hn1 := f.pos hw.1 hH.1
  have k1 : ¬ min (w : Int) (H0 : Int) < 1 := by omega
  have k2 : ¬ (9 : Int) < max (w : Int) (H0 : Int) := by omega
  refine CallsE_enter (En_known (by decide)) (En_f.trans Tryd.func30) rfl ⟨Nat.le_of_ble_eq_true rfl, by decide⟩ fun Q' hQ' => ?_
  simp only [Tryd.f30, go_sem,reduceIte,Nat.reduceEqDiff,Nat.reduceLT, k1, k2]
  refine WK_loopN (fun j α h2 => ∃ k : Nat, k + j = n ∧ 1 ≤ k ∧ Pres h.next h h2 ∧ α.get 0 = some (.int .i64 (w : Int)) ∧ α.get 1 = some (.int .i64 (H0 : Int)) ∧ α.get 6 = some (.int .i64 (k : Int))) (n - 1)
    ⟨1, by omega, Nat.le_refl _, Pres.refl _ _, by simp only [go_sem,reduceIte,Nat.reduceEqDiff,Nat.reduceLT], by simp only [go_sem,reduceIte,Nat.reduceEqDiff,Nat.reduceLT], by (simp only [go_sem,reduceIte,Nat.reduceEqDiff,Nat.reduceLT]) <;> rfl⟩ (by omega) ?_
  rintro J j α h2 ⟨k, hk, hk1, pr, e0, e1, e6⟩ hJ
  have n2 := pr.next
  simp (disch := omega) only [go_sem,reduceIte,Nat.reduceEqDiff,Nat.reduceLT, e0, e1, e6]
  refine CallO_f (firstCode_spec (w := w) (H0 := H0) (n := k) (by omega) hw hH ⟨hk1, by omega⟩ fun i hi => f.no i (by omega)) (by omega) fun u h4 ph4 ⟨cc, A, hc, hu, hs4⟩ => ?_
  subst hu
  have n4 := ph4.next
  have pr4 : Pres h.next h h4 := pr.trans (ph4.le (by omega))
  by_cases hkn : k < n
  · rw [f.no k hkn] at hc
    have hc : ([] : List Int) = cc := hc
    subst hc
    have d0 : ¬ (0 : Int) < ((([] : List Int).length : Nat) : Int) := by decide
    simp (disch := omega) only [go_sem,reduceIte,Nat.reduceEqDiff,Nat.reduceLT, e0, e1, e6, len27, d0, wrap_i64]
    exact hJ (j - 1) _ _ (by omega) ⟨k + 1, by omega, by omega, pr4, by simp only [go_sem,reduceIte,Nat.reduceEqDiff,Nat.reduceLT, e0], by simp only [go_sem,reduceIte,Nat.reduceEqDiff,Nat.reduceLT, e1], by (simp only [go_sem,reduceIte,Nat.reduceEqDiff,Nat.reduceLT]) <;> rfl⟩
  · obtain rfl : k = n := by omega
    rw [f.is] at hc
    have hc : c = cc := hc
    subst hc
    have d0 : (0 : Int) < (c.length : Int) := by have := f.len.1; omega
    simp (disch := omega) only [go_sem,reduceIte,Nat.reduceEqDiff,Nat.reduceLT, e0, e1, e6, len27, d0]
    exact hQ' _ _ ⟨pr4, A, rfl, hs4.wide (by omega) (Nat.le_refl _)⟩
theorem hideFewest_bad {G : Nat} {w H0 : Int} {h : H} (hbad : min w H0 < 1 ∨ 9 < max w H0) : Spec Tryd.prog (En G) 30 [.int .i64 w, .int .i64 H0] h fun v h' => v = .tuple #[.slice none 0 0, .int .i64 1] := by
  refine CallsE_enter (En_known (by decide)) (En_f.trans Tryd.func30) rfl ⟨Nat.le_of_ble_eq_true rfl, by decide⟩ fun Q' hQ' => ?_
  by_cases k1 : min w H0 < 1
  · simp only [Tryd.f30, go_sem,reduceIte,Nat.reduceEqDiff,Nat.reduceLT, k1]
    exact hQ' _ _ ⟨Pres.refl _ _, rfl⟩
  · have k2 : (9 : Int) < max w H0 := by omega
    simp only [Tryd.f30, go_sem,reduceIte,Nat.reduceEqDiff,Nat.reduceLT, k1, k2]
    exact hQ' _ _ ⟨Pres.refl _ _, rfl⟩

set_option maxRecDepth 100000 in
set_option maxHeartbeats 16000000 in
theorem law_HideFewest {G : Nat} {w h : Int} {h0 : H} (hG : G ≤ h0.next) (h3 : 3 ≤ h0.next) (ht : TabsIn tabs h0.blks) :
    Spec Tryd.prog (En G) 7 [.int .i64 w, .int .i64 h] h0 fun v _ => v = .bool true := by
  have k0 : decide ((0 : Int) = 0) = true := rfl
  have k1 : decide ((1 : Int) = 1) = true := rfl
  have k00 : decide (((0 : Nat) : Int) = 0) = true := rfl
  refine CallsE_enter (En_known (by decide)) (En_f.trans Tryd.func7) rfl ⟨Nat.le_of_ble_eq_true rfl, by decide⟩ fun Q' hQ' => ?_
  simp only [Tryd.f7, go_sem,reduceIte,Nat.reduceEqDiff,Nat.reduceLT]
  by_cases c1 : 6 < w
  · by_cases c2 : w ≤ 9
    · by_cases d1 : 6 < h
      · by_cases d2 : h ≤ 9
        · simp only [go_sem,reduceIte,Nat.reduceEqDiff,Nat.reduceLT, c1, c2, d1, d2]
          obtain ⟨Wx, hW⟩ : ∃ W : Int, W = 6 := ⟨_, rfl⟩
          rw [← hW]
          by_cases hb : min Wx Wx < 1 ∨ 9 < max Wx Wx
          · exfalso; omega
          · obtain ⟨w', rfl⟩ : ∃ w' : Nat, Wx = w' := ⟨Wx.toNat, by omega⟩
            have hw9 : 1 ≤ w' ∧ w' ≤ 9 := by omega
            have hv9 : 1 ≤ w' ∧ w' ≤ 9 := by omega
            obtain ⟨n, cc, few, hn1, hn2⟩ := few_ex hw9 hv9
            have hl := few.len.1
            refine CallO_f (hideFewest_ok hG hw9 hv9 few (by omega)) (by omega) fun u h1 ph1 ⟨B, hu, hs1⟩ => ?_
            subst hu
            have n1 := ph1.next
            have ht1 := ht.le ph1 h3
            have c1 : ¬ (w' : Int) < 1 := by omega
            have c2 : ¬ (9 : Int) < (w' : Int) := by omega
            have c3 : ¬ (w' : Int) < 1 := by omega
            have c4 : ¬ (9 : Int) < (w' : Int) := by omega
            simp only [go_sem,reduceIte,Nat.reduceEqDiff,Nat.reduceLT, c1, c2, c3, c4]
            refine CallO_f (refFewest_spec (by omega) hw9 hv9 few (by omega)) (by omega) fun u h2 ph2 ⟨B2, hu, hs2⟩ => ?_
            subst hu
            have n2 := ph2.next
            have ht2 := ht1.le ph2 (by omega)
            have hs12 := hs1.mono (B' := h2.blks) fun b _ hb => ph2.get b hb
            simp only [go_sem,reduceIte,Nat.reduceEqDiff,Nat.reduceLT]
            refine CallO_f (same_spec hs12 hs2 (by omega) (Nat.le_refl _) (by omega) (by omega)) (by omega) fun u h4 ph4 hu => ?_
            subst hu
            have ht4 := ht2.le ph4 (by omega)
            simp only [go_sem,reduceIte,Nat.reduceEqDiff,Nat.reduceLT, k0]
            refine Call_lives ht4 (by omega) ?_
            simp only [go_sem,reduceIte,Nat.reduceEqDiff,Nat.reduceLT]
            exact hQ' _ _ ⟨ph1.trans ((ph2.le (by omega)).trans (ph4.le (by omega))), rfl⟩
        · simp only [go_sem,reduceIte,Nat.reduceEqDiff,Nat.reduceLT, c1, c2, d1, d2]
          obtain ⟨Wx, hW⟩ : ∃ W : Int, W = 6 := ⟨_, rfl⟩
          obtain ⟨Vx, hV⟩ : ∃ V : Int, V = h := ⟨_, rfl⟩
          rw [← hW, ← hV]
          by_cases hb : min Wx Vx < 1 ∨ 9 < max Wx Vx
          · refine CallO_f (hideFewest_bad hb) (by omega) fun u h1 ph1 hu => ?_
            subst hu
            have ht1 := ht.le ph1 h3
            have hor : Wx < 1 ∨ ¬ Wx < 1 ∧ 9 < Wx ∨ ¬ Wx < 1 ∧ ¬ 9 < Wx ∧ Vx < 1 ∨ ¬ Wx < 1 ∧ ¬ 9 < Wx ∧ ¬ Vx < 1 ∧ 9 < Vx := by omega
            rcases hor with c1 | ⟨c1, c2⟩ | ⟨c1, c2, c3⟩ | ⟨c1, c2, c3, c4⟩
            · simp only [go_sem,reduceIte,Nat.reduceEqDiff,Nat.reduceLT, c1, k1, k00, len27]
              refine Call_lives ht1 (by omega) ?_
              simp only [go_sem,reduceIte,Nat.reduceEqDiff,Nat.reduceLT]
              exact hQ' _ _ ⟨ph1, rfl⟩
            · simp only [go_sem,reduceIte,Nat.reduceEqDiff,Nat.reduceLT, c1, c2, k1, k00, len27]
              refine Call_lives ht1 (by omega) ?_
              simp only [go_sem,reduceIte,Nat.reduceEqDiff,Nat.reduceLT]
              exact hQ' _ _ ⟨ph1, rfl⟩
            · simp only [go_sem,reduceIte,Nat.reduceEqDiff,Nat.reduceLT, c1, c2, c3, k1, k00, len27]
              refine Call_lives ht1 (by omega) ?_
              simp only [go_sem,reduceIte,Nat.reduceEqDiff,Nat.reduceLT]
              exact hQ' _ _ ⟨ph1, rfl⟩
            · simp only [go_sem,reduceIte,Nat.reduceEqDiff,Nat.reduceLT, c1, c2, c3, c4, k1, k00, len27]
              refine Call_lives ht1 (by omega) ?_
              simp only [go_sem,reduceIte,Nat.reduceEqDiff,Nat.reduceLT]
              exact hQ' _ _ ⟨ph1, rfl⟩
          · obtain ⟨w', rfl⟩ : ∃ w' : Nat, Wx = w' := ⟨Wx.toNat, by omega⟩
            obtain ⟨v', rfl⟩ : ∃ v' : Nat, Vx = v' := ⟨Vx.toNat, by omega⟩
            have hw9 : 1 ≤ w' ∧ w' ≤ 9 := by omega
            have hv9 : 1 ≤ v' ∧ v' ≤ 9 := by omega
            obtain ⟨n, cc, few, hn1, hn2⟩ := few_ex hw9 hv9
            have hl := few.len.1
            refine CallO_f (hideFewest_ok hG hw9 hv9 few (by omega)) (by omega) fun u h1 ph1 ⟨B, hu, hs1⟩ => ?_
            subst hu
            have n1 := ph1.next
            have ht1 := ht.le ph1 h3
            have c1 : ¬ (w' : Int) < 1 := by omega
            have c2 : ¬ (9 : Int) < (w' : Int) := by omega
            have c3 : ¬ (v' : Int) < 1 := by omega
            have c4 : ¬ (9 : Int) < (v' : Int) := by omega
            simp only [go_sem,reduceIte,Nat.reduceEqDiff,Nat.reduceLT, c1, c2, c3, c4]
            refine CallO_f (refFewest_spec (by omega) hw9 hv9 few (by omega)) (by omega) fun u h2 ph2 ⟨B2, hu, hs2⟩ => ?_
            subst hu
            have n2 := ph2.next
            have ht2 := ht1.le ph2 (by omega)
            have hs12 := hs1.mono (B' := h2.blks) fun b _ hb => ph2.get b hb
            simp only [go_sem,reduceIte,Nat.reduceEqDiff,Nat.reduceLT]
            refine CallO_f (same_spec hs12 hs2 (by omega) (Nat.le_refl _) (by omega) (by omega)) (by omega) fun u h4 ph4 hu => ?_
            subst hu
            have ht4 := ht2.le ph4 (by omega)
            simp only [go_sem,reduceIte,Nat.reduceEqDiff,Nat.reduceLT, k0]
            refine Call_lives ht4 (by omega) ?_
            simp only [go_sem,reduceIte,Nat.reduceEqDiff,Nat.reduceLT]
            exact hQ' _ _ ⟨ph1.trans ((ph2.le (by omega)).trans (ph4.le (by omega))), rfl⟩
      · simp only [go_sem,reduceIte,Nat.reduceEqDiff,Nat.reduceLT, c1, c2, d1]
        obtain ⟨Wx, hW⟩ : ∃ W : Int, W = 6 := ⟨_, rfl⟩
        obtain ⟨Vx, hV⟩ : ∃ V : Int, V = h := ⟨_, rfl⟩
        rw [← hW, ← hV]
        by_cases hb : min Wx Vx < 1 ∨ 9 < max Wx Vx
        · refine CallO_f (hideFewest_bad hb) (by omega) fun u h1 ph1 hu => ?_
          subst hu
          have ht1 := ht.le ph1 h3
          have hor : Wx < 1 ∨ ¬ Wx < 1 ∧ 9 < Wx ∨ ¬ Wx < 1 ∧ ¬ 9 < Wx ∧ Vx < 1 ∨ ¬ Wx < 1 ∧ ¬ 9 < Wx ∧ ¬ Vx < 1 ∧ 9 < Vx := by omega
          rcases hor with c1 | ⟨c1, c2⟩ | ⟨c1, c2, c3⟩ | ⟨c1, c2, c3, c4⟩
          · simp only [go_sem,reduceIte,Nat.reduceEqDiff,Nat.reduceLT, c1, k1, k00, len27]
            refine Call_lives ht1 (by omega) ?_
            simp only [go_sem,reduceIte,Nat.reduceEqDiff,Nat.reduceLT]
            exact hQ' _ _ ⟨ph1, rfl⟩
          · simp only [go_sem,reduceIte,Nat.reduceEqDiff,Nat.reduceLT, c1, c2, k1, k00, len27]
            refine Call_lives ht1 (by omega) ?_
            simp only [go_sem,reduceIte,Nat.reduceEqDiff,Nat.reduceLT]
            exact hQ' _ _ ⟨ph1, rfl⟩
          · simp only [go_sem,reduceIte,Nat.reduceEqDiff,Nat.reduceLT, c1, c2, c3, k1, k00, len27]
            refine Call_lives ht1 (by omega) ?_
            simp only [go_sem,reduceIte,Nat.reduceEqDiff,Nat.reduceLT]
            exact hQ' _ _ ⟨ph1, rfl⟩
          · simp only [go_sem,reduceIte,Nat.reduceEqDiff,Nat.reduceLT, c1, c2, c3, c4, k1, k00, len27]
            refine Call_lives ht1 (by omega) ?_
            simp only [go_sem,reduceIte,Nat.reduceEqDiff,Nat.reduceLT]
            exact hQ' _ _ ⟨ph1, rfl⟩
        · obtain ⟨w', rfl⟩ : ∃ w' : Nat, Wx = w' := ⟨Wx.toNat, by omega⟩
          obtain ⟨v', rfl⟩ : ∃ v' : Nat, Vx = v' := ⟨Vx.toNat, by omega⟩
          have hw9 : 1 ≤ w' ∧ w' ≤ 9 := by omega
          have hv9 : 1 ≤ v' ∧ v' ≤ 9 := by omega
          obtain ⟨n, cc, few, hn1, hn2⟩ := few_ex hw9 hv9
          have hl := few.len.1
          refine CallO_f (hideFewest_ok hG hw9 hv9 few (by omega)) (by omega) fun u h1 ph1 ⟨B, hu, hs1⟩ => ?_
          subst hu
          have n1 := ph1.next
          have ht1 := ht.le ph1 h3
          have c1 : ¬ (w' : Int) < 1 := by omega
          have c2 : ¬ (9 : Int) < (w' : Int) := by omega
          have c3 : ¬ (v' : Int) < 1 := by omega
          have c4 : ¬ (9 : Int) < (v' : Int) := by omega
          simp only [go_sem,reduceIte,Nat.reduceEqDiff,Nat.reduceLT, c1, c2, c3, c4]
          refine CallO_f (refFewest_spec (by omega) hw9 hv9 few (by omega)) (by omega) fun u h2 ph2 ⟨B2, hu, hs2⟩ => ?_
          subst hu
          have n2 := ph2.next
          have ht2 := ht1.le ph2 (by omega)
          have hs12 := hs1.mono (B' := h2.blks) fun b _ hb => ph2.get b hb
          simp only [go_sem,reduceIte,Nat.reduceEqDiff,Nat.reduceLT]
          refine CallO_f (same_spec hs12 hs2 (by omega) (Nat.le_refl _) (by omega) (by omega)) (by omega) fun u h4 ph4 hu => ?_
          subst hu
          have ht4 := ht2.le ph4 (by omega)
          simp only [go_sem,reduceIte,Nat.reduceEqDiff,Nat.reduceLT, k0]
          refine Call_lives ht4 (by omega) ?_
          simp only [go_sem,reduceIte,Nat.reduceEqDiff,Nat.reduceLT]
          exact hQ' _ _ ⟨ph1.trans ((ph2.le (by omega)).trans (ph4.le (by omega))), rfl⟩
    · by_cases d1 : 6 < h
      · by_cases d2 : h ≤ 9
        · simp only [go_sem,reduceIte,Nat.reduceEqDiff,Nat.reduceLT, c1, c2, d1, d2]
          obtain ⟨Wx, hW⟩ : ∃ W : Int, W = w := ⟨_, rfl⟩
          obtain ⟨Vx, hV⟩ : ∃ V : Int, V = 6 := ⟨_, rfl⟩
          rw [← hW, ← hV]
          by_cases hb : min Wx Vx < 1 ∨ 9 < max Wx Vx
          · refine CallO_f (hideFewest_bad hb) (by omega) fun u h1 ph1 hu => ?_
            subst hu
            have ht1 := ht.le ph1 h3
            have hor : Wx < 1 ∨ ¬ Wx < 1 ∧ 9 < Wx ∨ ¬ Wx < 1 ∧ ¬ 9 < Wx ∧ Vx < 1 ∨ ¬ Wx < 1 ∧ ¬ 9 < Wx ∧ ¬ Vx < 1 ∧ 9 < Vx := by omega
            rcases hor with c1 | ⟨c1, c2⟩ | ⟨c1, c2, c3⟩ | ⟨c1, c2, c3, c4⟩
            · simp only [go_sem,reduceIte,Nat.reduceEqDiff,Nat.reduceLT, c1, k1, k00, len27]
              refine Call_lives ht1 (by omega) ?_
              simp only [go_sem,reduceIte,Nat.reduceEqDiff,Nat.reduceLT]
              exact hQ' _ _ ⟨ph1, rfl⟩
            · simp only [go_sem,reduceIte,Nat.reduceEqDiff,Nat.reduceLT, c1, c2, k1, k00, len27]
              refine Call_lives ht1 (by omega) ?_
              simp only [go_sem,reduceIte,Nat.reduceEqDiff,Nat.reduceLT]
              exact hQ' _ _ ⟨ph1, rfl⟩
            · simp only [go_sem,reduceIte,Nat.reduceEqDiff,Nat.reduceLT, c1, c2, c3, k1, k00, len27]
              refine Call_lives ht1 (by omega) ?_
              simp only [go_sem,reduceIte,Nat.reduceEqDiff,Nat.reduceLT]
              exact hQ' _ _ ⟨ph1, rfl⟩
            · simp only [go_sem,reduceIte,Nat.reduceEqDiff,Nat.reduceLT, c1, c2, c3, c4, k1, k00, len27]
              refine Call_lives ht1 (by omega) ?_
              simp only [go_sem,reduceIte,Nat.reduceEqDiff,Nat.reduceLT]
              exact hQ' _ _ ⟨ph1, rfl⟩
          · obtain ⟨w', rfl⟩ : ∃ w' : Nat, Wx = w' := ⟨Wx.toNat, by omega⟩
            obtain ⟨v', rfl⟩ : ∃ v' : Nat, Vx = v' := ⟨Vx.toNat, by omega⟩
            have hw9 : 1 ≤ w' ∧ w' ≤ 9 := by omega
            have hv9 : 1 ≤ v' ∧ v' ≤ 9 := by omega
            obtain ⟨n, cc, few, hn1, hn2⟩ := few_ex hw9 hv9
            have hl := few.len.1
            refine CallO_f (hideFewest_ok hG hw9 hv9 few (by omega)) (by omega) fun u h1 ph1 ⟨B, hu, hs1⟩ => ?_
            subst hu
            have n1 := ph1.next
            have ht1 := ht.le ph1 h3
            have c1 : ¬ (w' : Int) < 1 := by omega
            have c2 : ¬ (9 : Int) < (w' : Int) := by omega
            have c3 : ¬ (v' : Int) < 1 := by omega
            have c4 : ¬ (9 : Int) < (v' : Int) := by omega
            simp only [go_sem,reduceIte,Nat.reduceEqDiff,Nat.reduceLT, c1, c2, c3, c4]
            refine CallO_f (refFewest_spec (by omega) hw9 hv9 few (by omega)) (by omega) fun u h2 ph2 ⟨B2, hu, hs2⟩ => ?_
            subst hu
            have n2 := ph2.next
            have ht2 := ht1.le ph2 (by omega)
            have hs12 := hs1.mono (B' := h2.blks) fun b _ hb => ph2.get b hb
            simp only [go_sem,reduceIte,Nat.reduceEqDiff,Nat.reduceLT]
            refine CallO_f (same_spec hs12 hs2 (by omega) (Nat.le_refl _) (by omega) (by omega)) (by omega) fun u h4 ph4 hu => ?_
            subst hu
            have ht4 := ht2.le ph4 (by omega)
            simp only [go_sem,reduceIte,Nat.reduceEqDiff,Nat.reduceLT, k0]
            refine Call_lives ht4 (by omega) ?_
            simp only [go_sem,reduceIte,Nat.reduceEqDiff,Nat.reduceLT]
            exact hQ' _ _ ⟨ph1.trans ((ph2.le (by omega)).trans (ph4.le (by omega))), rfl⟩
        · simp only [go_sem,reduceIte,Nat.reduceEqDiff,Nat.reduceLT, c1, c2, d1, d2]
          obtain ⟨Wx, hW⟩ : ∃ W : Int, W = w := ⟨_, rfl⟩
          obtain ⟨Vx, hV⟩ : ∃ V : Int, V = h := ⟨_, rfl⟩
          rw [← hW, ← hV]
          by_cases hb : min Wx Vx < 1 ∨ 9 < max Wx Vx
          · refine CallO_f (hideFewest_bad hb) (by omega) fun u h1 ph1 hu => ?_
            subst hu
            have ht1 := ht.le ph1 h3
            have hor : Wx < 1 ∨ ¬ Wx < 1 ∧ 9 < Wx ∨ ¬ Wx < 1 ∧ ¬ 9 < Wx ∧ Vx < 1 ∨ ¬ Wx < 1 ∧ ¬ 9 < Wx ∧ ¬ Vx < 1 ∧ 9 < Vx := by omega
            rcases hor with c1 | ⟨c1, c2⟩ | ⟨c1, c2, c3⟩ | ⟨c1, c2, c3, c4⟩
            · simp only [go_sem,reduceIte,Nat.reduceEqDiff,Nat.reduceLT, c1, k1, k00, len27]
              refine Call_lives ht1 (by omega) ?_
              simp only [go_sem,reduceIte,Nat.reduceEqDiff,Nat.reduceLT]
              exact hQ' _ _ ⟨ph1, rfl⟩
            · simp only [go_sem,reduceIte,Nat.reduceEqDiff,Nat.reduceLT, c1, c2, k1, k00, len27]
              refine Call_lives ht1 (by omega) ?_
              simp only [go_sem,reduceIte,Nat.reduceEqDiff,Nat.reduceLT]
              exact hQ' _ _ ⟨ph1, rfl⟩
            · simp only [go_sem,reduceIte,Nat.reduceEqDiff,Nat.reduceLT, c1, c2, c3, k1, k00, len27]
              refine Call_lives ht1 (by omega) ?_
              simp only [go_sem,reduceIte,Nat.reduceEqDiff,Nat.reduceLT]
              exact hQ' _ _ ⟨ph1, rfl⟩
            · simp only [go_sem,reduceIte,Nat.reduceEqDiff,Nat.reduceLT, c1, c2, c3, c4, k1, k00, len27]
              refine Call_lives ht1 (by omega) ?_
              simp only [go_sem,reduceIte,Nat.reduceEqDiff,Nat.reduceLT]
              exact hQ' _ _ ⟨ph1, rfl⟩
          · obtain ⟨w', rfl⟩ : ∃ w' : Nat, Wx = w' := ⟨Wx.toNat, by omega⟩
            obtain ⟨v', rfl⟩ : ∃ v' : Nat, Vx = v' := ⟨Vx.toNat, by omega⟩
            have hw9 : 1 ≤ w' ∧ w' ≤ 9 := by omega
            have hv9 : 1 ≤ v' ∧ v' ≤ 9 := by omega
            obtain ⟨n, cc, few, hn1, hn2⟩ := few_ex hw9 hv9
            have hl := few.len.1
            refine CallO_f (hideFewest_ok hG hw9 hv9 few (by omega)) (by omega) fun u h1 ph1 ⟨B, hu, hs1⟩ => ?_
            subst hu
            have n1 := ph1.next
            have ht1 := ht.le ph1 h3
            have c1 : ¬ (w' : Int) < 1 := by omega
            have c2 : ¬ (9 : Int) < (w' : Int) := by omega
            have c3 : ¬ (v' : Int) < 1 := by omega
            have c4 : ¬ (9 : Int) < (v' : Int) := by omega
            simp only [go_sem,reduceIte,Nat.reduceEqDiff,Nat.reduceLT, c1, c2, c3, c4]
            refine CallO_f (refFewest_spec (by omega) hw9 hv9 few (by omega)) (by omega) fun u h2 ph2 ⟨B2, hu, hs2⟩ => ?_
            subst hu
            have n2 := ph2.next
            have ht2 := ht1.le ph2 (by omega)
            have hs12 := hs1.mono (B' := h2.blks) fun b _ hb => ph2.get b hb
            simp only [go_sem,reduceIte,Nat.reduceEqDiff,Nat.reduceLT]
            refine CallO_f (same_spec hs12 hs2 (by omega) (Nat.le_refl _) (by omega) (by omega)) (by omega) fun u h4 ph4 hu => ?_
            subst hu
            have ht4 := ht2.le ph4 (by omega)
            simp only [go_sem,reduceIte,Nat.reduceEqDiff,Nat.reduceLT, k0]
            refine Call_lives ht4 (by omega) ?_
            simp only [go_sem,reduceIte,Nat.reduceEqDiff,Nat.reduceLT]
            exact hQ' _ _ ⟨ph1.trans ((ph2.le (by omega)).trans (ph4.le (by omega))), rfl⟩
      · simp only [go_sem,reduceIte,Nat.reduceEqDiff,Nat.reduceLT, c1, c2, d1]
        obtain ⟨Wx, hW⟩ : ∃ W : Int, W = w := ⟨_, rfl⟩
        obtain ⟨Vx, hV⟩ : ∃ V : Int, V = h := ⟨_, rfl⟩
        rw [← hW, ← hV]
        by_cases hb : min Wx Vx < 1 ∨ 9 < max Wx Vx
        · refine CallO_f (hideFewest_bad hb) (by omega) fun u h1 ph1 hu => ?_
          subst hu
          have ht1 := ht.le ph1 h3
          have hor : Wx < 1 ∨ ¬ Wx < 1 ∧ 9 < Wx ∨ ¬ Wx < 1 ∧ ¬ 9 < Wx ∧ Vx < 1 ∨ ¬ Wx < 1 ∧ ¬ 9 < Wx ∧ ¬ Vx < 1 ∧ 9 < Vx := by omega
          rcases hor with c1 | ⟨c1, c2⟩ | ⟨c1, c2, c3⟩ | ⟨c1, c2, c3, c4⟩
          · simp only [go_sem,reduceIte,Nat.reduceEqDiff,Nat.reduceLT, c1, k1, k00, len27]
            refine Call_lives ht1 (by omega) ?_
            simp only [go_sem,reduceIte,Nat.reduceEqDiff,Nat.reduceLT]
            exact hQ' _ _ ⟨ph1, rfl⟩
          · simp only [go_sem,reduceIte,Nat.reduceEqDiff,Nat.reduceLT, c1, c2, k1, k00, len27]
            refine Call_lives ht1 (by omega) ?_
            simp only [go_sem,reduceIte,Nat.reduceEqDiff,Nat.reduceLT]
            exact hQ' _ _ ⟨ph1, rfl⟩
          · simp only [go_sem,reduceIte,Nat.reduceEqDiff,Nat.reduceLT, c1, c2, c3, k1, k00, len27]
            refine Call_lives ht1 (by omega) ?_
            simp only [go_sem,reduceIte,Nat.reduceEqDiff,Nat.reduceLT]
            exact hQ' _ _ ⟨ph1, rfl⟩
          · simp only [go_sem,reduceIte,Nat.reduceEqDiff,Nat.reduceLT, c1, c2, c3, c4, k1, k00, len27]
            refine Call_lives ht1 (by omega) ?_
            simp only [go_sem,reduceIte,Nat.reduceEqDiff,Nat.reduceLT]
            exact hQ' _ _ ⟨ph1, rfl⟩
        · obtain ⟨w', rfl⟩ : ∃ w' : Nat, Wx = w' := ⟨Wx.toNat, by omega⟩
          obtain ⟨v', rfl⟩ : ∃ v' : Nat, Vx = v' := ⟨Vx.toNat, by omega⟩
          have hw9 : 1 ≤ w' ∧ w' ≤ 9 := by omega
          have hv9 : 1 ≤ v' ∧ v' ≤ 9 := by omega
          obtain ⟨n, cc, few, hn1, hn2⟩ := few_ex hw9 hv9
          have hl := few.len.1
          refine CallO_f (hideFewest_ok hG hw9 hv9 few (by omega)) (by omega) fun u h1 ph1 ⟨B, hu, hs1⟩ => ?_
          subst hu
          have n1 := ph1.next
          have ht1 := ht.le ph1 h3
          have c1 : ¬ (w' : Int) < 1 := by omega
          have c2 : ¬ (9 : Int) < (w' : Int) := by omega
          have c3 : ¬ (v' : Int) < 1 := by omega
          have c4 : ¬ (9 : Int) < (v' : Int) := by omega
          simp only [go_sem,reduceIte,Nat.reduceEqDiff,Nat.reduceLT, c1, c2, c3, c4]
          refine CallO_f (refFewest_spec (by omega) hw9 hv9 few (by omega)) (by omega) fun u h2 ph2 ⟨B2, hu, hs2⟩ => ?_
          subst hu
          have n2 := ph2.next
          have ht2 := ht1.le ph2 (by omega)
          have hs12 := hs1.mono (B' := h2.blks) fun b _ hb => ph2.get b hb
          simp only [go_sem,reduceIte,Nat.reduceEqDiff,Nat.reduceLT]
          refine CallO_f (same_spec hs12 hs2 (by omega) (Nat.le_refl _) (by omega) (by omega)) (by omega) fun u h4 ph4 hu => ?_
          subst hu
          have ht4 := ht2.le ph4 (by omega)
          simp only [go_sem,reduceIte,Nat.reduceEqDiff,Nat.reduceLT, k0]
          refine Call_lives ht4 (by omega) ?_
          simp only [go_sem,reduceIte,Nat.reduceEqDiff,Nat.reduceLT]
          exact hQ' _ _ ⟨ph1.trans ((ph2.le (by omega)).trans (ph4.le (by omega))), rfl⟩
  · by_cases d1 : 6 < h
    · by_cases d2 : h ≤ 9
      · simp only [go_sem,reduceIte,Nat.reduceEqDiff,Nat.reduceLT, c1, d1, d2]
        obtain ⟨Wx, hW⟩ : ∃ W : Int, W = w := ⟨_, rfl⟩
        obtain ⟨Vx, hV⟩ : ∃ V : Int, V = 6 := ⟨_, rfl⟩
        rw [← hW, ← hV]
        by_cases hb : min Wx Vx < 1 ∨ 9 < max Wx Vx
        · refine CallO_f (hideFewest_bad hb) (by omega) fun u h1 ph1 hu => ?_
          subst hu
          have ht1 := ht.le ph1 h3
          have hor : Wx < 1 ∨ ¬ Wx < 1 ∧ 9 < Wx ∨ ¬ Wx < 1 ∧ ¬ 9 < Wx ∧ Vx < 1 ∨ ¬ Wx < 1 ∧ ¬ 9 < Wx ∧ ¬ Vx < 1 ∧ 9 < Vx := by omega
          rcases hor with c1 | ⟨c1, c2⟩ | ⟨c1, c2, c3⟩ | ⟨c1, c2, c3, c4⟩
          · simp only [go_sem,reduceIte,Nat.reduceEqDiff,Nat.reduceLT, c1, k1, k00, len27]
            refine Call_lives ht1 (by omega) ?_
            simp only [go_sem,reduceIte,Nat.reduceEqDiff,Nat.reduceLT]
            exact hQ' _ _ ⟨ph1, rfl⟩
          · simp only [go_sem,reduceIte,Nat.reduceEqDiff,Nat.reduceLT, c1, c2, k1, k00, len27]
            refine Call_lives ht1 (by omega) ?_
            simp only [go_sem,reduceIte,Nat.reduceEqDiff,Nat.reduceLT]
            exact hQ' _ _ ⟨ph1, rfl⟩
          · simp only [go_sem,reduceIte,Nat.reduceEqDiff,Nat.reduceLT, c1, c2, c3, k1, k00, len27]
            refine Call_lives ht1 (by omega) ?_
            simp only [go_sem,reduceIte,Nat.reduceEqDiff,Nat.reduceLT]
            exact hQ' _ _ ⟨ph1, rfl⟩
          · simp only [go_sem,reduceIte,Nat.reduceEqDiff,Nat.reduceLT, c1, c2, c3, c4, k1, k00, len27]
            refine Call_lives ht1 (by omega) ?_
            simp only [go_sem,reduceIte,Nat.reduceEqDiff,Nat.reduceLT]
            exact hQ' _ _ ⟨ph1, rfl⟩
        · obtain ⟨w', rfl⟩ : ∃ w' : Nat, Wx = w' := ⟨Wx.toNat, by omega⟩
          obtain ⟨v', rfl⟩ : ∃ v' : Nat, Vx = v' := ⟨Vx.toNat, by omega⟩
          have hw9 : 1 ≤ w' ∧ w' ≤ 9 := by omega
          have hv9 : 1 ≤ v' ∧ v' ≤ 9 := by omega
          obtain ⟨n, cc, few, hn1, hn2⟩ := few_ex hw9 hv9
          have hl := few.len.1
          refine CallO_f (hideFewest_ok hG hw9 hv9 few (by omega)) (by omega) fun u h1 ph1 ⟨B, hu, hs1⟩ => ?_
          subst hu
          have n1 := ph1.next
          have ht1 := ht.le ph1 h3
          have c1 : ¬ (w' : Int) < 1 := by omega
          have c2 : ¬ (9 : Int) < (w' : Int) := by omega
          have c3 : ¬ (v' : Int) < 1 := by omega
          have c4 : ¬ (9 : Int) < (v' : Int) := by omega
          simp only [go_sem,reduceIte,Nat.reduceEqDiff,Nat.reduceLT, c1, c2, c3, c4]
          refine CallO_f (refFewest_spec (by omega) hw9 hv9 few (by omega)) (by omega) fun u h2 ph2 ⟨B2, hu, hs2⟩ => ?_
          subst hu
          have n2 := ph2.next
          have ht2 := ht1.le ph2 (by omega)
          have hs12 := hs1.mono (B' := h2.blks) fun b _ hb => ph2.get b hb
          simp only [go_sem,reduceIte,Nat.reduceEqDiff,Nat.reduceLT]
          refine CallO_f (same_spec hs12 hs2 (by omega) (Nat.le_refl _) (by omega) (by omega)) (by omega) fun u h4 ph4 hu => ?_
          subst hu
          have ht4 := ht2.le ph4 (by omega)
          simp only [go_sem,reduceIte,Nat.reduceEqDiff,Nat.reduceLT, k0]
          refine Call_lives ht4 (by omega) ?_
          simp only [go_sem,reduceIte,Nat.reduceEqDiff,Nat.reduceLT]
          exact hQ' _ _ ⟨ph1.trans ((ph2.le (by omega)).trans (ph4.le (by omega))), rfl⟩
      · simp only [go_sem,reduceIte,Nat.reduceEqDiff,Nat.reduceLT, c1, d1, d2]
        obtain ⟨Wx, hW⟩ : ∃ W : Int, W = w := ⟨_, rfl⟩
        obtain ⟨Vx, hV⟩ : ∃ V : Int, V = h := ⟨_, rfl⟩
        rw [← hW, ← hV]
        by_cases hb : min Wx Vx < 1 ∨ 9 < max Wx Vx
        · refine CallO_f (hideFewest_bad hb) (by omega) fun u h1 ph1 hu => ?_
          subst hu
          have ht1 := ht.le ph1 h3
          have hor : Wx < 1 ∨ ¬ Wx < 1 ∧ 9 < Wx ∨ ¬ Wx < 1 ∧ ¬ 9 < Wx ∧ Vx < 1 ∨ ¬ Wx < 1 ∧ ¬ 9 < Wx ∧ ¬ Vx < 1 ∧ 9 < Vx := by omega
          rcases hor with c1 | ⟨c1, c2⟩ | ⟨c1, c2, c3⟩ | ⟨c1, c2, c3, c4⟩
          · simp only [go_sem,reduceIte,Nat.reduceEqDiff,Nat.reduceLT, c1, k1, k00, len27]
            refine Call_lives ht1 (by omega) ?_
            simp only [go_sem,reduceIte,Nat.reduceEqDiff,Nat.reduceLT]
            exact hQ' _ _ ⟨ph1, rfl⟩
          · simp only [go_sem,reduceIte,Nat.reduceEqDiff,Nat.reduceLT, c1, c2, k1, k00, len27]
            refine Call_lives ht1 (by omega) ?_
            simp only [go_sem,reduceIte,Nat.reduceEqDiff,Nat.reduceLT]
            exact hQ' _ _ ⟨ph1, rfl⟩
          · simp only [go_sem,reduceIte,Nat.reduceEqDiff,Nat.reduceLT, c1, c2, c3, k1, k00, len27]
            refine Call_lives ht1 (by omega) ?_
            simp only [go_sem,reduceIte,Nat.reduceEqDiff,Nat.reduceLT]
            exact hQ' _ _ ⟨ph1, rfl⟩
          · simp only [go_sem,reduceIte,Nat.reduceEqDiff,Nat.reduceLT, c1, c2, c3, c4, k1, k00, len27]
            refine Call_lives ht1 (by omega) ?_
            simp only [go_sem,reduceIte,Nat.reduceEqDiff,Nat.reduceLT]
            exact hQ' _ _ ⟨ph1, rfl⟩
        · obtain ⟨w', rfl⟩ : ∃ w' : Nat, Wx = w' := ⟨Wx.toNat, by omega⟩
          obtain ⟨v', rfl⟩ : ∃ v' : Nat, Vx = v' := ⟨Vx.toNat, by omega⟩
          have hw9 : 1 ≤ w' ∧ w' ≤ 9 := by omega
          have hv9 : 1 ≤ v' ∧ v' ≤ 9 := by omega
          obtain ⟨n, cc, few, hn1, hn2⟩ := few_ex hw9 hv9
          have hl := few.len.1
          refine CallO_f (hideFewest_ok hG hw9 hv9 few (by omega)) (by omega) fun u h1 ph1 ⟨B, hu, hs1⟩ => ?_
          subst hu
          have n1 := ph1.next
          have ht1 := ht.le ph1 h3
          have c1 : ¬ (w' : Int) < 1 := by omega
          have c2 : ¬ (9 : Int) < (w' : Int) := by omega
          have c3 : ¬ (v' : Int) < 1 := by omega
          have c4 : ¬ (9 : Int) < (v' : Int) := by omega
          simp only [go_sem,reduceIte,Nat.reduceEqDiff,Nat.reduceLT, c1, c2, c3, c4]
          refine CallO_f (refFewest_spec (by omega) hw9 hv9 few (by omega)) (by omega) fun u h2 ph2 ⟨B2, hu, hs2⟩ => ?_
          subst hu
          have n2 := ph2.next
          have ht2 := ht1.le ph2 (by omega)
          have hs12 := hs1.mono (B' := h2.blks) fun b _ hb => ph2.get b hb
          simp only [go_sem,reduceIte,Nat.reduceEqDiff,Nat.reduceLT]
          refine CallO_f (same_spec hs12 hs2 (by omega) (Nat.le_refl _) (by omega) (by omega)) (by omega) fun u h4 ph4 hu => ?_
          subst hu
          have ht4 := ht2.le ph4 (by omega)
          simp only [go_sem,reduceIte,Nat.reduceEqDiff,Nat.reduceLT, k0]
          refine Call_lives ht4 (by omega) ?_
          simp only [go_sem,reduceIte,Nat.reduceEqDiff,Nat.reduceLT]
          exact hQ' _ _ ⟨ph1.trans ((ph2.le (by omega)).trans (ph4.le (by omega))), rfl⟩
    · simp only [go_sem,reduceIte,Nat.reduceEqDiff,Nat.reduceLT, c1, d1]
      obtain ⟨Wx, hW⟩ : ∃ W : Int, W = w := ⟨_, rfl⟩
      obtain ⟨Vx, hV⟩ : ∃ V : Int, V = h := ⟨_, rfl⟩
      rw [← hW, ← hV]
      by_cases hb : min Wx Vx < 1 ∨ 9 < max Wx Vx
      · refine CallO_f (hideFewest_bad hb) (by omega) fun u h1 ph1 hu => ?_
        subst hu
        have ht1 := ht.le ph1 h3
        have hor : Wx < 1 ∨ ¬ Wx < 1 ∧ 9 < Wx ∨ ¬ Wx < 1 ∧ ¬ 9 < Wx ∧ Vx < 1 ∨ ¬ Wx < 1 ∧ ¬ 9 < Wx ∧ ¬ Vx < 1 ∧ 9 < Vx := by omega
        rcases hor with c1 | ⟨c1, c2⟩ | ⟨c1, c2, c3⟩ | ⟨c1, c2, c3, c4⟩
        · simp only [go_sem,reduceIte,Nat.reduceEqDiff,Nat.reduceLT, c1, k1, k00, len27]
          refine Call_lives ht1 (by omega) ?_
          simp only [go_sem,reduceIte,Nat.reduceEqDiff,Nat.reduceLT]
          exact hQ' _ _ ⟨ph1, rfl⟩
        · simp only [go_sem,reduceIte,Nat.reduceEqDiff,Nat.reduceLT, c1, c2, k1, k00, len27]
          refine Call_lives ht1 (by omega) ?_
          simp only [go_sem,reduceIte,Nat.reduceEqDiff,Nat.reduceLT]
          exact hQ' _ _ ⟨ph1, rfl⟩
        · simp only [go_sem,reduceIte,Nat.reduceEqDiff,Nat.reduceLT, c1, c2, c3, k1, k00, len27]
          refine Call_lives ht1 (by omega) ?_
          simp only [go_sem,reduceIte,Nat.reduceEqDiff,Nat.reduceLT]
          exact hQ' _ _ ⟨ph1, rfl⟩
        · simp only [go_sem,reduceIte,Nat.reduceEqDiff,Nat.reduceLT, c1, c2, c3, c4, k1, k00, len27]
          refine Call_lives ht1 (by omega) ?_
          simp only [go_sem,reduceIte,Nat.reduceEqDiff,Nat.reduceLT]
          exact hQ' _ _ ⟨ph1, rfl⟩
      · obtain ⟨w', rfl⟩ : ∃ w' : Nat, Wx = w' := ⟨Wx.toNat, by omega⟩
        obtain ⟨v', rfl⟩ : ∃ v' : Nat, Vx = v' := ⟨Vx.toNat, by omega⟩
        have hw9 : 1 ≤ w' ∧ w' ≤ 9 := by omega
        have hv9 : 1 ≤ v' ∧ v' ≤ 9 := by omega
        obtain ⟨n, cc, few, hn1, hn2⟩ := few_ex hw9 hv9
        have hl := few.len.1
        refine CallO_f (hideFewest_ok hG hw9 hv9 few (by omega)) (by omega) fun u h1 ph1 ⟨B, hu, hs1⟩ => ?_
        subst hu
        have n1 := ph1.next
        have ht1 := ht.le ph1 h3
        have c1 : ¬ (w' : Int) < 1 := by omega
        have c2 : ¬ (9 : Int) < (w' : Int) := by omega
        have c3 : ¬ (v' : Int) < 1 := by omega
        have c4 : ¬ (9 : Int) < (v' : Int) := by omega
        simp only [go_sem,reduceIte,Nat.reduceEqDiff,Nat.reduceLT, c1, c2, c3, c4]
        refine CallO_f (refFewest_spec (by omega) hw9 hv9 few (by omega)) (by omega) fun u h2 ph2 ⟨B2, hu, hs2⟩ => ?_
        subst hu
        have n2 := ph2.next
        have ht2 := ht1.le ph2 (by omega)
        have hs12 := hs1.mono (B' := h2.blks) fun b _ hb => ph2.get b hb
        simp only [go_sem,reduceIte,Nat.reduceEqDiff,Nat.reduceLT]
        refine CallO_f (same_spec hs12 hs2 (by omega) (Nat.le_refl _) (by omega) (by omega)) (by omega) fun u h4 ph4 hu => ?_
        subst hu
        have ht4 := ht2.le ph4 (by omega)
        simp only [go_sem,reduceIte,Nat.reduceEqDiff,Nat.reduceLT, k0]
        refine Call_lives ht4 (by omega) ?_
        simp only [go_sem,reduceIte,Nat.reduceEqDiff,Nat.reduceLT]
        exact hQ' _ _ ⟨ph1.trans ((ph2.le (by omega)).trans (ph4.le (by omega))), rfl⟩
theorem conv53u {P : Program} {G : Nat} {B : Tr Blk} {z : Nat} (hz : z ≤ 255) : convO P (En G) B 5 3 (some (.int .u8 (z : Int))) = some (.int .i64 (z : Int)) := conv53 hz
set_option maxRecDepth 100000 in
set_option maxHeartbeats 16000000 in
theorem law_HideLess {G x y : Nat} {h0 : H} (hx : x ≤ 255) (hy : y ≤ 255) (hG : G ≤ h0.next) (hG3 : 3 ≤ G) (ht : TabsIn tabs h0.blks) :
    Spec Tryd.prog (En G) 10 [.int .u8 (x : Int), .int .u8 (y : Int)] h0 fun v _ => v = .bool true := by
  have k0 : decide ((0 : Int) = 0) = true := rfl
  have k1 : decide ((0 : Int) ≠ 0) = false := rfl
  obtain ⟨w, hw⟩ : ∃ w : Nat, w = x % 9 + 1 := ⟨_, rfl⟩
  obtain ⟨v, hv⟩ : ∃ v : Nat, v = y % 9 + 1 := ⟨_, rfl⟩
  have ew : (((x % 9 : Nat) : Int)) + 1 = (w : Int) := by omega
  have ev' : (((y % 9 : Nat) : Int)) + 1 = (v : Int) := by omega
  have tx : (x : Int).tmod 9 = ((x % 9 : Nat) : Int) := rfl
  have ty : (y : Int).tmod 9 = ((y % 9 : Nat) : Int) := rfl
  have hw9 : 1 ≤ w ∧ w ≤ 9 := by omega
  have hv9 : 1 ≤ v ∧ v ≤ 9 := by omega
  obtain ⟨n, c, few, hn1, hn2⟩ := few_ex hw9 hv9
  obtain ⟨m, d, fewT, hm1, hm2⟩ := few_ex hv9 hw9
  have hnm := few.turn hw9 hv9 fewT
  have hlc := few.len.1
  have hld := fewT.len.1
  have hn0 := few.pos hw9.1 hv9.1
  have path := few.len.2
  refine CallsE_enter (En_known (by decide)) (En_f.trans Tryd.func10) rfl ⟨Nat.le_of_ble_eq_true rfl, by decide⟩ fun Q' hQ' => ?_
  simp (disch := omega) only [Tryd.f10, go_sem,reduceIte,Nat.reduceEqDiff,Nat.reduceLT, conv53u hx, conv53u hy, tx, ty, wrap_i64, ew, ev']
  refine CallO_f (hideFewest_ok hG hw9 hv9 few (by omega)) (by omega) fun u h1 ph1 ⟨B1, hu, hs1⟩ => ?_
  subst hu
  have n1 := ph1.next
  have ht1 := ht.le ph1 (by omega)
  simp only [go_sem,reduceIte,Nat.reduceEqDiff,Nat.reduceLT]
  refine CallO_f (hideEuclid_ok (w := (w : Int)) (h := (v : Int)) (by omega) (by omega) (by omega)) (by omega) fun u h2 ph2 hu => ?_
  have n2 := ph2.next
  have ht2 := ht1.le ph2 (by omega)
  rcases hu with ⟨hle, B2, hu, hs2⟩ | ⟨hlt, _⟩
  · subst hu
    simp only [go_sem,reduceIte,Nat.reduceEqDiff,Nat.reduceLT]
    refine CallO_f (hideFewest_ok (by omega) hv9 hw9 fewT (by omega)) (by omega) fun u h3 ph3 ⟨B3, hu, hs3⟩ => ?_
    subst hu
    have n3 := ph3.next
    have ht3 := ht2.le ph3 (by omega)
    have hs13 := hs1.mono (B' := h3.blks) fun b _ hb => (ph3.get b (by omega)).trans (ph2.get b hb)
    simp only [go_sem,reduceIte,Nat.reduceEqDiff,Nat.reduceLT]
    refine CallO_f (hideLay_spec (w := (w : Int)) (by omega) hs13 (by omega) (by omega)) (by omega) fun u h4 ph4 hu => ?_
    have n4 := ph4.next
    have ht4 := ht3.le ph4 (by omega)
    have pr4 : Pres h0.next h0 h4 := ph1.trans ((ph2.le (by omega)).trans ((ph3.le (by omega)).trans (ph4.le (by omega))))
    have f0 := flo_zero (w := w) (h := (v : Int)) (by omega)
    have hmk := lay_mk hw9.1 hv9.1 path
    have hlo := lay_layOn hw9.1 (show (v : Int) ≤ 1000 by omega) f0 path
    have hwn : (w : Int).toNat = w := Int.toNat_natCast w
    have hsz : ∀ s ∈ c, 1 ≤ s ∧ s ≤ 1000 := fun s hs => by
      rw [← lay_sizes (F := List.replicate w 0) (c := c)] at hs
      obtain ⟨q, hq, rfl⟩ := List.mem_map.1 hs
      have := hmk.inn q hq
      omega
    have hall : c.all sideOk = true := List.all_eq_true.2 fun s hs => sideOk_iff.2 (hsz s hs)
    have hcn : c ≠ [] := fun e => by rw [e] at hlc; simp at hlc; omega
    have hcond : c ≠ [] ∧ sideOk (w : Int) = true ∧ c.all sideOk = true := ⟨hcn, sideOk_iff.2 (by omega), hall⟩
    obtain ⟨sq, B4, hlq, hu, hs4⟩ : ∃ sq B, layOn (List.replicate w 0) c = some sq ∧ u = .tuple #[.slice B sq.length sq.length, .int .i64 0] ∧ SlV h4.blks h3.next h4.next 3 sq.length (sqCells sq) (.slice B sq.length sq.length) := by
      rcases hu with ⟨a, _⟩ | ⟨_, a, _⟩ | ⟨_, _, a, _⟩ | ⟨_, _, sq, B, a, b, e⟩
      · omega
      · exact absurd hcond a
      · rw [hwn, hlo] at a; cases a
      · rw [hwn] at a; exact ⟨sq, B, a, b, e⟩
    subst hu
    rw [hlo] at hlq
    injection hlq with hlq
    obtain ⟨L, hL⟩ : ∃ L, L = lay (List.replicate w 0) c := ⟨_, rfl⟩
    rw [← hL] at hlq hmk
    have hLl : L.length = c.length := by rw [hL, lay_len]
    have hpos : ∀ q ∈ L, 0 ≤ q.1 := fun q hq => (hmk.inn q hq).2.1
    rw [← hlq, sqCells_toL hpos, List.length_map] at hs4
    have hsl : sq.length = L.length := by rw [← hlq, List.length_map]
    rw [hsl]
    obtain ⟨hcov, hwid, hhei⟩ := hmk.cov (by omega) (by omega)
    have hok := hmk.ok (by omega) (by omega)
    have hchk := chk_ok (by omega) hok hcov
    have c1 : ¬ ((eu 2000 (w : Int) (v : Int)).length : Int) < (c.length : Int) := by omega
    have c2 : decide ((c.length : Int) ≠ (d.length : Int)) = false := decide_eq_false (by omega)
    have c3 : decide ((L.length : Int) ≠ (c.length : Int)) = false := decide_eq_false (by omega)
    simp (maxSteps := 3000000) (disch := omega) only [go_sem,reduceIte,Nat.reduceEqDiff,Nat.reduceLT, k1, len27, len22, c1, c2, c3]
    refine Call_lives ht4 (by omega) ?_
    simp only [go_sem,reduceIte,Nat.reduceEqDiff,Nat.reduceLT]
    refine CallO_f (Measure_spec (by omega) hG3 (Nat.le_refl _) ht4 hs4 (by omega)) (by omega) fun u h5 ph5 hu => ?_
    rcases hu with ⟨_, hu⟩ | ⟨hne, _⟩
    · subst hu
      have e1 : decide (wid L = (w : Int)) = true := decide_eq_true hwid
      have e2 : decide (hei L = (v : Int)) = true := decide_eq_true hhei
      simp only [go_sem,reduceIte,Nat.reduceEqDiff,Nat.reduceLT, k0, e1, e2]
      exact hQ' _ _ ⟨pr4.trans (ph5.le (by omega)), rfl⟩
    · exact absurd hchk hne
  · omega
end
end Go.Proofs.YtnhbkoeomefkdaaDoor.Ev.L

