/- The law's own pairs: all of them. -/
import Derived.Test.YthankillfhmfkaaGreatDoorPmsD1
set_option linter.unusedSimpArgs false
set_option linter.unusedVariables false
namespace Go.Proofs.YthankillfhmfkaaGreatDoor.Ev
open Go Go.Proofs
noncomputable section
theorem all_bits {G a : Nat} (ha : a < 15) : ∃ z1 : Int, binO Tryz.prog (En G) .shr 70 (some (.int .u16 65535)) (some (.int .i64 (a : Int))) = some (.int .u16 z1) ∧ binO Tryz.prog (En G) .and 70 (some (.int .u16 z1)) (some (.int .u16 1)) = some (.int .u16 1) := by
  match a, ha with
  | 0, _ => exact ⟨65535, by kernel_rfl, by kernel_rfl⟩
  | 1, _ => exact ⟨32767, by kernel_rfl, by kernel_rfl⟩
  | 2, _ => exact ⟨16383, by kernel_rfl, by kernel_rfl⟩
  | 3, _ => exact ⟨8191, by kernel_rfl, by kernel_rfl⟩
  | 4, _ => exact ⟨4095, by kernel_rfl, by kernel_rfl⟩
  | 5, _ => exact ⟨2047, by kernel_rfl, by kernel_rfl⟩
  | 6, _ => exact ⟨1023, by kernel_rfl, by kernel_rfl⟩
  | 7, _ => exact ⟨511, by kernel_rfl, by kernel_rfl⟩
  | 8, _ => exact ⟨255, by kernel_rfl, by kernel_rfl⟩
  | 9, _ => exact ⟨127, by kernel_rfl, by kernel_rfl⟩
  | 10, _ => exact ⟨63, by kernel_rfl, by kernel_rfl⟩
  | 11, _ => exact ⟨31, by kernel_rfl, by kernel_rfl⟩
  | 12, _ => exact ⟨15, by kernel_rfl, by kernel_rfl⟩
  | 13, _ => exact ⟨7, by kernel_rfl, by kernel_rfl⟩
  | 14, _ => exact ⟨3, by kernel_rfl, by kernel_rfl⟩
/-- how many pairs there are of the letters below i with greater ones -/
def trn (k : Nat) : Nat → Nat
  | 0 => 0
  | i + 1 => trn k i + (k - (i + 1))
theorem trn_all : ∀ k : Fin 7, ∀ i : Fin 7, ∀ jj : Fin 7, i.val < jj.val → jj.val < k.val → trn k.val i.val + jj.val < 15 + (i.val + 1) := by decide +kernel
theorem trn_lt (k : Nat) (hk : k ≤ 6) (i jj : Nat) (h1 : i < jj) (h2 : jj < k) : trn k i + jj < 15 + (i + 1) := trn_all ⟨k, by omega⟩ ⟨i, by omega⟩ ⟨jj, by omega⟩ h1 h2
set_option maxHeartbeats 16000000 in
theorem made_all {G : Nat} {K : Int} {h : H} (hG : G ≤ h.next) (hK : 0 ≤ K) (hK2 : K ≤ 255) :
    Spec Tryz.prog (En G) 48 [.agg #[.int .u8 K, .int .u16 65535]] h fun v h' => ∃ (k : Nat) (ps : List (Int × Int)) (A : Option Addr), v = .tuple #[.int .i64 k, .slice A ps.length ps.length] ∧ okT k ps = true ∧ SlV h'.blks (h.next + 1) h'.next 2 ps.length (prs ps) (.slice A ps.length ps.length) ∧ (k : Int) = K % 6 + 1 ∧ ∀ x y : Nat, y < x → x < k → ((x : Int), (y : Int)) ∈ ps := by
  refine CallsE_enter (En_known (by decide)) (En_f.trans Tryz.func48) rfl ⟨Nat.le_of_ble_eq_true rfl, by decide⟩ fun Q' hQ' => ?_
  simp only [Tryz.f48, go_sem,reduceIte,Nat.reduceEqDiff,Nat.reduceLT]
  refine At_box (v := .agg #[.int .u8 K, .int .u16 65535]) (by simp only [go_sem,reduceIte,Nat.reduceEqDiff,Nat.reduceLT]) (by omega) fun h1 hn1 => ?_
  have n1 := hn1.next
  have v1 : Var h1.blks h.next [.int .u8 K, .int .u16 65535] := hn1.var
  have pr1 : Pres h.next h h1 := hn1.pres (Nat.le_refl _)
  have l0 : loadv h1.blks h.next 0 = some (.int .u8 K) := by rw [v1.load (by simp)]; rfl
  have htm : K.tmod 6 = K % 6 := Int.tmod_eq_emod_of_nonneg hK
  obtain ⟨k, hk⟩ : ∃ k : Nat, K % 6 + 1 = (k : Int) := Int.eq_ofNat_of_zero_le (by omega)
  have hk1 : 1 ≤ k := by omega
  have hk6 : k ≤ 6 := by omega
  simp (disch := omega) only [go_sem,reduceIte,Nat.reduceEqDiff,Nat.reduceLT, fld72_0, load5, Nat.add_zero, l0, conv53z, htm, wrap_i64, hk]
  refine At_lit0 u22 i104 zero82 (by rw [size104]; rfl) (by omega) ?_
  simp only [go_sem,reduceIte,Nat.reduceEqDiff,Nat.reduceLT]
  refine WK_loopN (fun j α h2 => ∃ (i a : Nat) (ps : List (Int × Int)) (A : Option Addr), j + i = k ∧ OkP k ps ∧ ps.length ≤ i * 5 ∧ (a = trn k i ∧ ∀ x y : Nat, y < i → y < x → x < k → ((x : Int), (y : Int)) ∈ ps) ∧ α.get 1 = some (.pointer (some ⟨h.next, 0, none⟩)) ∧ α.get 4 = some (.int .i64 k) ∧ α.get 5 = some (.slice A ps.length ps.length) ∧ α.get 6 = some (.int .i64 a) ∧ α.get 7 = some (.int .i64 i) ∧
      SlV h2.blks (h.next + 1) h2.next 2 ps.length (prs ps) (.slice A ps.length ps.length) ∧ Var h2.blks h.next [.int .u8 K, .int .u16 65535] ∧ Pres h.next h h2 ∧ h.next + 1 ≤ h2.next) k
    ⟨0, 0, [], some ⟨0, 0, some 0⟩, by omega, fun p hp => (by cases hp), by simp, ⟨rfl, fun x y hy => by omega⟩, by simp only [go_sem,reduceIte,Nat.reduceEqDiff,Nat.reduceLT], by simp only [go_sem,reduceIte,Nat.reduceEqDiff,Nat.reduceLT], by simp only [go_sem,reduceIte,Nat.reduceEqDiff,Nat.reduceLT]; rfl, by simp only [go_sem,reduceIte,Nat.reduceEqDiff,Nat.reduceLT]; rfl, by simp only [go_sem,reduceIte,Nat.reduceEqDiff,Nat.reduceLT]; rfl, .emp rfl rfl, v1, pr1, by omega⟩ (by omega) ?_
  clear v1 pr1 l0 hn1 n1 h1
  rintro J j α h2 ⟨i, a, ps, A, hij, hps, hpl, ⟨hal, hmem⟩, e1, e4, e5, e6, e7, hsv, v1, pr, hnx⟩ hJ
  by_cases hlt : (i : Int) < k
  · simp (disch := omega) only [go_sem,reduceIte,Nat.reduceEqDiff,Nat.reduceLT, e1, e4, e5, e6, e7, hlt, wrap_i64]
    refine WK_loopN (fun j2 β h3 => ∃ (jj a : Nat) (ps : List (Int × Int)) (A : Option Addr), j2 + jj = k ∧ i + 1 ≤ jj ∧ OkP k ps ∧ ps.length + (i + 1) ≤ i * 5 + jj ∧ (a + (i + 1) = trn k i + jj ∧ ∀ x y : Nat, (y < i ∨ y = i ∧ x < jj) → y < x → x < k → ((x : Int), (y : Int)) ∈ ps) ∧ β.get 1 = some (.pointer (some ⟨h.next, 0, none⟩)) ∧ β.get 4 = some (.int .i64 k) ∧ β.get 5 = some (.slice A ps.length ps.length) ∧ β.get 6 = some (.int .i64 a) ∧ β.get 7 = some (.int .i64 i) ∧ β.get 8 = some (.int .i64 jj) ∧
        SlV h3.blks (h.next + 1) h3.next 2 ps.length (prs ps) (.slice A ps.length ps.length) ∧ Var h3.blks h.next [.int .u8 K, .int .u16 65535] ∧ Pres h.next h h3 ∧ h.next + 1 ≤ h3.next) (k - (i + 1))
      ⟨i + 1, a, ps, A, by omega, Nat.le_refl _, hps, by omega, ⟨by omega, fun x y hxy h1 h2 => hmem x y (by omega) h1 h2⟩, by simp only [go_sem,reduceIte,Nat.reduceEqDiff,Nat.reduceLT, e1], by simp only [go_sem,reduceIte,Nat.reduceEqDiff,Nat.reduceLT, e4], by simp only [go_sem,reduceIte,Nat.reduceEqDiff,Nat.reduceLT, e5], by simp only [go_sem,reduceIte,Nat.reduceEqDiff,Nat.reduceLT, e6], by simp only [go_sem,reduceIte,Nat.reduceEqDiff,Nat.reduceLT, e7], by simp only [go_sem,reduceIte,Nat.reduceEqDiff,Nat.reduceLT]; rfl, hsv, v1, pr, hnx⟩ (by omega) ?_
    clear v1 pr hsv hps hpl hal hnx hmem
    rintro J2 j2 β h3 ⟨jj, a, ps, A, hij2, hjj, hps, hpl, ⟨hal, hmem⟩, f1, f4, f5, f6, f7, f8, hsv, v1, pr, hnx⟩ hJ2
    by_cases hlt2 : (jj : Int) < k
    · have l1 : loadv h3.blks h.next 1 = some (.int .u16 65535) := by rw [v1.load (by simp)]; rfl
      have htr := trn_lt k hk6 i jj (by omega) (by omega)
      obtain ⟨z1, hz1, hz2⟩ := all_bits (G := G) (a := a) (by omega)
      have hd : decide ((1 : Int) = 1) = true := rfl
      simp (disch := omega) only [go_sem,reduceIte,Nat.reduceEqDiff,Nat.reduceLT, f1, f4, f5, f6, f7, f8, hlt2, fld72_1, load70, Nat.zero_add, l1, hz1, hz2, hd, wrap_i64, build82]
      have hfill : Instr.fill (fun i => some (i * inf104.size, inf104.size)) (zeros (Value.agg #[.int .i64 0, .int .i64 0]).cells.toList 1).toArray [(0, Value.agg #[.int .i64 (jj : Int), .int .i64 (i : Int)])] = some [Value.int .i64 (jj : Int), Value.int .i64 (i : Int)].toArray := by rw [size104]; rfl
      refine At_push (v := .agg #[.int .i64 (jj : Int), .int .i64 (i : Int)]) (A := A) (sl := ps.length) (sc := ps.length) (lo := h.next + 1) (hi := h3.next) (L := prs ps) (vs := [.int .i64 (jj : Int), .int .i64 (i : Int)]) u22 i104 zero82 (by rw [size104, bytes104]; rfl) (by simp only [go_sem,reduceIte,Nat.reduceEqDiff,Nat.reduceLT]) hfill (by rw [size104]; rfl) rfl (by simp only [go_sem,reduceIte,Nat.reduceEqDiff,Nat.reduceLT, f5]) (by rw [size104]; exact hsv) (Nat.le_refl _) (Nat.le_refl _) (by show G ≤ h.next + 1; omega) (by omega) (by decide) (by decide) (by decide) fun h4 hp4 => ?_
      rw [size104] at hp4
      have n4 := hp4.next
      have hcells : prs ps ++ [Value.int .i64 (jj : Int), Value.int .i64 (i : Int)] = prs (ps ++ [((jj : Int), (i : Int))]) := by simp [prs]
      rw [hcells] at hp4
      have hsv4 := hp4.slv (n := (ps ++ [((jj : Int), (i : Int))]).length) (c := (ps ++ [((jj : Int), (i : Int))]).length) (by rw [prs_len])
      have v4 : Var h4.blks h.next [.int .u8 K, .int .u16 65535] := v1.mono (by
        rw [hp4.get _ (by omega)]
        rw [if_neg fun e => by have := hsv.blk _ e; omega])
      simp (disch := omega) only [go_sem,reduceIte,Nat.reduceEqDiff,Nat.reduceLT, f6, f8, wrap_i64]
      refine hJ2 (j2 - 1) _ _ (by omega) ⟨jj + 1, a + 1, ps ++ [((jj : Int), (i : Int))], some ⟨h3.next + 1, 0, none⟩, by omega, by omega, fun p hp => ?_, by simp; omega, ⟨by omega, fun x y hxy h1 h2 => ?_⟩, by simp only [go_sem,reduceIte,Nat.reduceEqDiff,Nat.reduceLT, f1], by simp only [go_sem,reduceIte,Nat.reduceEqDiff,Nat.reduceLT, f4], by simp only [go_sem,reduceIte,Nat.reduceEqDiff,Nat.reduceLT, List.length_append, List.length_singleton], by simp only [go_sem,reduceIte,Nat.reduceEqDiff,Nat.reduceLT]; rfl, by simp only [go_sem,reduceIte,Nat.reduceEqDiff,Nat.reduceLT, f7], by simp only [go_sem,reduceIte,Nat.reduceEqDiff,Nat.reduceLT]; rfl, hsv4.wide (by omega) (Nat.le_refl _), v4, pr.trans (hp4.pres (by omega) fun b hb => by have := hsv.blk b hb; omega), by omega⟩
      · rcases List.mem_append.1 hp with hp | hp
        · exact hps p hp
        rw [List.mem_singleton.1 hp]
        exact ⟨by omega, by omega, by omega, by omega, by omega⟩
      · by_cases e : y = i ∧ x = jj
        · rw [e.1, e.2]; exact List.mem_append.2 (.inr (List.mem_singleton.2 rfl))
        · exact List.mem_append.2 (.inl (hmem x y (by omega) h1 h2))
    · simp (disch := omega) only [go_sem,reduceIte,Nat.reduceEqDiff,Nat.reduceLT, f1, f4, f5, f6, f7, f8, hlt2, wrap_i64]
      exact hJ (j - 1) _ _ (by omega) ⟨i + 1, a, ps, A, by omega, hps, by omega, ⟨by simp only [trn]; omega, fun x y hy h1 h2 => hmem x y (by omega) h1 h2⟩, by simp only [go_sem,reduceIte,Nat.reduceEqDiff,Nat.reduceLT, f1], by simp only [go_sem,reduceIte,Nat.reduceEqDiff,Nat.reduceLT, f4], by simp only [go_sem,reduceIte,Nat.reduceEqDiff,Nat.reduceLT, f5], by simp only [go_sem,reduceIte,Nat.reduceEqDiff,Nat.reduceLT, f6], by simp only [go_sem,reduceIte,Nat.reduceEqDiff,Nat.reduceLT]; rfl, hsv, v1, pr, hnx⟩
  · simp (disch := omega) only [go_sem,reduceIte,Nat.reduceEqDiff,Nat.reduceLT, e1, e4, e5, e6, e7, hlt]
    exact hQ' _ _ ⟨pr, k, ps, A, rfl, okT_iff.2 ⟨⟨by omega, by omega, by omega⟩, fun p hp => by
      have := hps p hp
      simp only [okPair, decide_eq_true_eq]
      omega⟩, hsv, hk.symm, fun x y h1 h2 => hmem x y (by omega) h1 h2⟩

end
end Go.Proofs.YthankillfhmfkaaGreatDoor.Ev

