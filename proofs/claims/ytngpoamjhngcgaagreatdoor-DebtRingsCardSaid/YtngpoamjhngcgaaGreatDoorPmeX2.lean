/- The rows that the law cuts. -/
import Derived.Test.YtngpoamjhngcgaaGreatDoorPmeX1
set_option linter.unusedSimpArgs false
namespace Go.Proofs.YtngpoamjhngcgaaGreatDoor.Ev
open Go Go.Proofs
noncomputable section

theorem SlV.blk {B : Tr Blk} {lo hi sz n : Nat} {L : List Value} {v : Value} (s : SlV B lo hi sz n L v) (b : Nat) (hb : blkOf v = some b) : lo ≤ b ∧ b < hi := by
  cases s with
  | nil _ _ => cases hb
  | emp _ _ => cases hb
  | mk _ hlo hhi _ _ _ => simp only [blkOf, Option.some.injEq] at hb; omega
theorem rowsL_snoc {i : Nat} {g : Nat → Nat} {RA : Nat → Option Addr} {rc : Nat → Nat} {A : Option Addr} {c : Nat} : rowsL i g RA rc ++ [.slice A (g i) c] = rowsL (i + 1) g (fun k => if k = i then A else RA k) (fun k => if k = i then c else rc k) := by
  unfold rowsL
  rw [List.range_succ, List.map_append]
  congr 1
  · refine List.map_congr_left fun k hk => ?_
    have := List.mem_range.1 hk
    simp only [show ¬ k = i by omega, if_false]
  · simp

set_option maxHeartbeats 4000000 in
theorem rows_spec {G lo hi n c : Nat} {g : Nat → Nat} {f : Nat → Nat → Int} {RA : Nat → Option Addr} {rc : Nat → Nat} {A : Option Addr} {h : H} (hG : G ≤ h.next) (hm : MatV h.blks lo hi n g f RA rc (.slice A n c)) (hhi : hi ≤ h.next):
    Spec Tryz.prog (En G) 16 [.slice A n c] h fun v h' => ∃ A' c' RA' rc', v = .slice A' (min n 9) c' ∧ MatV h'.blks h.next h'.next (min n 9) (fun i => min (g i) 9) f RA' rc' v := by
  refine CallsE_enter (En_known (by decide)) (En_f.trans Tryz.func16) rfl ⟨Nat.le_of_ble_eq_true rfl, by decide⟩ fun Q' hQ' => ?_
  simp only [Tryz.f16, go_sem,reduceIte,Nat.reduceEqDiff,Nat.reduceLT]
  refine At_lit0 u22 i23 zero23 (by rw [size23]; rfl) (by omega) ?_
  simp only [go_sem,reduceIte,Nat.reduceEqDiff,Nat.reduceLT]
  refine WK_loopN (fun j α h2 => ∃ (i : Nat) (A2 : Option Addr) (sb : Nat) (RA' : Nat → Option Addr) (rc' : Nat → Nat), i + j = min n 9 ∧ α.get 0 = some (.slice A n c) ∧ α.get 3 = some (.slice A2 i i) ∧ α.get 4 = some (.int .i64 i) ∧
      SlV h2.blks sb h2.next 1 i (rowsL i (fun i => min (g i) 9) RA' rc') (.slice A2 i i) ∧ (∀ k, k < i → SlV h2.blks h.next sb 1 (min (g k) 9) (intsL (min (g k) 9) (f k)) (.slice (RA' k) (min (g k) 9) (rc' k))) ∧
      (∀ b, blkOf (.slice A2 i i) = some b → b = sb) ∧ h.next ≤ sb ∧ sb ≤ h2.next ∧ Pres h.next h h2) (min n 9)
    ⟨0, some ⟨0, 0, some 0⟩, h.next, fun _ => none, fun _ => 0, by omega, by simp only [go_sem,reduceIte,Nat.reduceEqDiff,Nat.reduceLT], by (simp only [go_sem,reduceIte,Nat.reduceEqDiff,Nat.reduceLT]) <;> rfl, by (simp only [go_sem,reduceIte,Nat.reduceEqDiff,Nat.reduceLT]) <;> rfl, .emp rfl rfl, fun k hk => absurd hk (Nat.not_lt_zero k), fun b hb => (by cases hb), Nat.le_refl _, Nat.le_refl _, Pres.refl _ _⟩ (by omega) ?_
  rintro J j α h2 ⟨i, A2, sb, RA', rc', hij, e0, e3, e4, hsv, hrows, hblk, hsb1, hsb2, pr⟩ hJ
  by_cases hlt : (i : Int) < n
  · by_cases h8 : (i : Int) ≤ 8
    · have hm2 : MatV h2.blks lo hi n g f RA rc (.slice A n c) := hm.mono fun b _ hb => pr.get b (by omega)
      obtain ⟨b, off, rfl, hld⟩ := hm2.at_ (by omega)
      have l1 := hld i (by omega)
      simp (disch := omega) only [go_sem,reduceIte,Nat.reduceEqDiff,Nat.reduceLT, e0, e3, e4, hlt, h8, len22, idxA22, load23, Int.toNat_natCast, Nat.mul_one, l1]
      refine CallO_f (cut_spec (hm2.row i (by omega))) (by omega) fun u h3 hp3 hu => ?_
      obtain ⟨A3, c3, rfl, hrow⟩ := hu
      have n3 := hp3.next
      have hsv3 : SlV h3.blks sb h2.next 1 i (rowsL i (fun i => min (g i) 9) RA' rc') (.slice A2 i i) := hsv.mono fun b _ hb => hp3.get b hb
      try simp only [go_sem,reduceIte,Nat.reduceEqDiff,Nat.reduceLT]
      refine At_push (v := .slice A3 (min (g i) 9) c3) (lo := sb) (hi := h2.next) (L := rowsL i (fun i => min (g i) 9) RA' rc') (vs := [.slice A3 (min (g i) 9) c3]) u22 i23 zero23 (by rw [size23, bytes23]; rfl) (by simp only [go_sem,reduceIte,Nat.reduceEqDiff,Nat.reduceLT]) (by rw [size23]; rfl) (by rw [size23]; rfl) rfl (by simp only [go_sem,reduceIte,Nat.reduceEqDiff,Nat.reduceLT, e3]; rfl) (by rw [size23]; exact hsv3) (by omega) (Nat.le_refl _) (by show G ≤ sb; omega) (by omega) (by decide) (by decide) (by decide) fun h4 hp4 => ?_
      rw [size23] at hp4
      have n4 := hp4.next
      have e := rowsL_snoc (i := i) (g := fun i => min (g i) 9) (RA := RA') (rc := rc') (A := A3) (c := c3)
      rw [e] at hp4
      have hnew := hp4.slv (n := i + 1) (c := i + 1) (by rw [rowsL_len, Nat.mul_one])
      have hpr4 : Pres h.next h h4 := (pr.trans (hp3.le (by omega))).trans (hp4.pres (by omega) fun b hb => by have := hblk b hb; omega)
      have same : ∀ b, b < h3.next → b ≠ sb → h4.blks.get b = h3.blks.get b := fun b hb hne => by
        rw [hp4.get b hb, if_neg fun e => hne (hblk b e)]
      have hbl2 : ∀ b, blkOf (.slice A2 i i) = some b → b < h2.next := fun b hb => (hsv.blk b hb).2
      simp (disch := omega) only [go_sem,reduceIte,Nat.reduceEqDiff,Nat.reduceLT, e4, wrap_i64]
      refine hJ (min n 9 - (i + 1)) _ _ (by omega) ⟨i + 1, _, h3.next + 1, _, _, by omega, by simp only [go_sem,reduceIte,Nat.reduceEqDiff,Nat.reduceLT, e0], by simp only [go_sem,reduceIte,Nat.reduceEqDiff,Nat.reduceLT], by (simp only [go_sem,reduceIte,Nat.reduceEqDiff,Nat.reduceLT]) <;> rfl, hnew, fun k hk => ?_, fun b hb => (by simp only [blkOf, Option.some.injEq] at hb; exact hb.symm), by omega, by omega, hpr4⟩
      by_cases hki : k = i
      · subst hki
        simp only [if_true]
        refine (hrow.mono fun b h1 h2' => ?_).wide (by omega) (by omega)
        rw [hp4.get b h2', if_neg fun e => by have := hbl2 b e; omega]
      · simp only [hki, if_false]
        exact ((hrows k (by omega)).mono fun b h1 h2' => by rw [same b (by omega) (by omega), hp3.get b (by omega)]).wide (Nat.le_refl _) (by omega)
    · obtain rfl : i = min n 9 := by omega
      simp (disch := omega) only [go_sem,reduceIte,Nat.reduceEqDiff,Nat.reduceLT, e0, e3, e4, hlt, h8, len22]
      exact hQ' _ _ ⟨pr, A2, _, RA', rc', rfl, hsv.wide hsb1 (Nat.le_refl _), fun k hk => (hrows k hk).wide (Nat.le_refl _) hsb2⟩
  · obtain rfl : i = min n 9 := by omega
    simp (disch := omega) only [go_sem,reduceIte,Nat.reduceEqDiff,Nat.reduceLT, e0, e3, e4, hlt, len22]
    exact hQ' _ _ ⟨pr, A2, _, RA', rc', rfl, hsv.wide hsb1 (Nat.le_refl _), fun k hk => (hrows k hk).wide (Nat.le_refl _) hsb2⟩
end
end Go.Proofs.YtngpoamjhngcgaaGreatDoor.Ev


