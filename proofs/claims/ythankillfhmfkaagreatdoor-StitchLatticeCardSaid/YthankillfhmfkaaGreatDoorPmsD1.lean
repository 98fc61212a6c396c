/- The laws' makers of threads, seams and equal seams. -/
import Derived.Test.YthankillfhmfkaaGreatDoorPmAA
import Derived.Test.YthankillfhmfkaaGreatDoorPmsT2
set_option linter.unusedSimpArgs false
set_option linter.unusedVariables false
namespace Go.Proofs.YthankillfhmfkaaGreatDoor.Ev
open Go Go.Proofs
noncomputable section

theorem build82 {G : Nat} {a b : Int} : buildO (En G) 104 (some [(0, .int .i64 a), (1, .int .i64 b)]) = some (.agg #[.int .i64 a, .int .i64 b]) := by
  have hu : (En G).u 104 = some (.struct #[_, _]) := us104.trans Tryz.underlying104
  have hz : okConst (.agg #[.int .i64 0, .int .i64 0]) = true := rfl
  simp only [buildO, evBuild, i104, hu, zero82, places, i3, size3, hz, if_true]
  rfl
theorem shr_u16 {P : Program} {E : Env} {t : TypeId} {a b : Int} (hb : 0 ≤ b) : ∃ z, binO P E .shr t (some (.int .u16 a)) (some (.int .i64 b)) = some (.int .u16 z) := by
  refine ⟨a.fdiv (2 ^ min b.toNat IntKind.u16.bits), ?_⟩
  have h1 : (plainA (.int .u16 a) && plainA (.int .i64 b)) = true := rfl
  have h2 : fastBin .shr (.int .u16 a) (.int .i64 b) = none := rfl
  have hn : ¬ b < 0 := by omega
  have h3 : pureRun P (do eqGuard .shr t (.tmp 0) (.tmp 0) (.int .u16 a) (.int .i64 b); binOp .shr t (.int .u16 a) (.int .i64 b)) = some (.int .u16 (a.fdiv (2 ^ min b.toNat IntKind.u16.bits))) := by
    simp [binOp, Op.shift, hn]; rfl
  simp only [binO, h1, if_true, h2, slowBin, h3]
  rfl
theorem and_u16 {P : Program} {E : Env} {t : TypeId} {a b : Int} : ∃ z, binO P E .and t (some (.int .u16 a)) (some (.int .u16 b)) = some (.int .u16 z) :=
  ⟨_, binO_slow rfl (by simp [binOp, Op.intBits]; rfl) rfl⟩
theorem tmod_nat {a b : Nat} : ((a : Int)).tmod (b : Int) = ((a % b : Nat) : Int) := by
  rw [Int.tmod_eq_emod_of_nonneg (by omega)]
  rfl

set_option maxHeartbeats 16000000 in
theorem made_spec {G : Nat} {K Fr : Int} {h : H} (hG : G ≤ h.next) (hK : 0 ≤ K) (hK2 : K ≤ 255) :
    Spec Tryz.prog (En G) 48 [.agg #[.int .u8 K, .int .u16 Fr]] h fun v h' => ∃ (k : Nat) (ps : List (Int × Int)) (A : Option Addr), v = .tuple #[.int .i64 k, .slice A ps.length ps.length] ∧ okT k ps = true ∧ SlV h'.blks (h.next + 1) h'.next 2 ps.length (prs ps) (.slice A ps.length ps.length) := by
  refine CallsE_enter (En_known (by decide)) (En_f.trans Tryz.func48) rfl ⟨Nat.le_of_ble_eq_true rfl, by decide⟩ fun Q' hQ' => ?_
  simp only [Tryz.f48, go_sem,reduceIte,Nat.reduceEqDiff,Nat.reduceLT]
  refine At_box (v := .agg #[.int .u8 K, .int .u16 Fr]) (by simp only [go_sem,reduceIte,Nat.reduceEqDiff,Nat.reduceLT]) (by omega) fun h1 hn1 => ?_
  have n1 := hn1.next
  have v1 : Var h1.blks h.next [.int .u8 K, .int .u16 Fr] := hn1.var
  have pr1 : Pres h.next h h1 := hn1.pres (Nat.le_refl _)
  have l0 : loadv h1.blks h.next 0 = some (.int .u8 K) := by rw [v1.load (by simp)]; rfl
  have htm : K.tmod 6 = K % 6 := Int.tmod_eq_emod_of_nonneg hK
  obtain ⟨k, hk⟩ : ∃ k : Nat, K % 6 + 1 = (k : Int) := Int.eq_ofNat_of_zero_le (by omega)
  have hk1 : 1 ≤ k := by omega
  have hk6 : k ≤ 6 := by omega
  simp (disch := omega) only [go_sem,reduceIte,Nat.reduceEqDiff,Nat.reduceLT, fld72_0, load5, Nat.add_zero, l0, conv53z, htm, wrap_i64, hk]
  refine At_lit0 u22 i104 zero82 (by rw [size104]; rfl) (by omega) ?_
  simp only [go_sem,reduceIte,Nat.reduceEqDiff,Nat.reduceLT]
  refine WK_loopN (fun j α h2 => ∃ (i a : Nat) (ps : List (Int × Int)) (A : Option Addr), j + i = k ∧ OkP k ps ∧ ps.length ≤ i * 5 ∧ a ≤ i * 5 ∧ α.get 1 = some (.pointer (some ⟨h.next, 0, none⟩)) ∧ α.get 4 = some (.int .i64 k) ∧ α.get 5 = some (.slice A ps.length ps.length) ∧ α.get 6 = some (.int .i64 a) ∧ α.get 7 = some (.int .i64 i) ∧
      SlV h2.blks (h.next + 1) h2.next 2 ps.length (prs ps) (.slice A ps.length ps.length) ∧ Var h2.blks h.next [.int .u8 K, .int .u16 Fr] ∧ Pres h.next h h2 ∧ h.next + 1 ≤ h2.next) k
    ⟨0, 0, [], some ⟨0, 0, some 0⟩, by omega, fun p hp => (by cases hp), by simp, by omega, by simp only [go_sem,reduceIte,Nat.reduceEqDiff,Nat.reduceLT], by simp only [go_sem,reduceIte,Nat.reduceEqDiff,Nat.reduceLT], by simp only [go_sem,reduceIte,Nat.reduceEqDiff,Nat.reduceLT]; rfl, by simp only [go_sem,reduceIte,Nat.reduceEqDiff,Nat.reduceLT]; rfl, by simp only [go_sem,reduceIte,Nat.reduceEqDiff,Nat.reduceLT]; rfl, .emp rfl rfl, v1, pr1, by omega⟩ (by omega) ?_
  clear v1 pr1 l0 hn1 n1 h1
  rintro J j α h2 ⟨i, a, ps, A, hij, hps, hpl, hal, e1, e4, e5, e6, e7, hsv, v1, pr, hnx⟩ hJ
  by_cases hlt : (i : Int) < k
  · simp (disch := omega) only [go_sem,reduceIte,Nat.reduceEqDiff,Nat.reduceLT, e1, e4, e5, e6, e7, hlt, wrap_i64]
    refine WK_loopN (fun j2 β h3 => ∃ (jj a : Nat) (ps : List (Int × Int)) (A : Option Addr), j2 + jj = k ∧ i + 1 ≤ jj ∧ OkP k ps ∧ ps.length + (i + 1) ≤ i * 5 + jj ∧ a + (i + 1) ≤ i * 5 + jj ∧ β.get 1 = some (.pointer (some ⟨h.next, 0, none⟩)) ∧ β.get 4 = some (.int .i64 k) ∧ β.get 5 = some (.slice A ps.length ps.length) ∧ β.get 6 = some (.int .i64 a) ∧ β.get 7 = some (.int .i64 i) ∧ β.get 8 = some (.int .i64 jj) ∧
        SlV h3.blks (h.next + 1) h3.next 2 ps.length (prs ps) (.slice A ps.length ps.length) ∧ Var h3.blks h.next [.int .u8 K, .int .u16 Fr] ∧ Pres h.next h h3 ∧ h.next + 1 ≤ h3.next) (k - (i + 1))
      ⟨i + 1, a, ps, A, by omega, Nat.le_refl _, hps, by omega, by omega, by simp only [go_sem,reduceIte,Nat.reduceEqDiff,Nat.reduceLT, e1], by simp only [go_sem,reduceIte,Nat.reduceEqDiff,Nat.reduceLT, e4], by simp only [go_sem,reduceIte,Nat.reduceEqDiff,Nat.reduceLT, e5], by simp only [go_sem,reduceIte,Nat.reduceEqDiff,Nat.reduceLT, e6], by simp only [go_sem,reduceIte,Nat.reduceEqDiff,Nat.reduceLT, e7], by simp only [go_sem,reduceIte,Nat.reduceEqDiff,Nat.reduceLT]; rfl, hsv, v1, pr, hnx⟩ (by omega) ?_
    clear v1 pr hsv hps hpl hal hnx
    rintro J2 j2 β h3 ⟨jj, a, ps, A, hij2, hjj, hps, hpl, hal, f1, f4, f5, f6, f7, f8, hsv, v1, pr, hnx⟩ hJ2
    by_cases hlt2 : (jj : Int) < k
    · have l1 : loadv h3.blks h.next 1 = some (.int .u16 Fr) := by rw [v1.load (by simp)]; rfl
      obtain ⟨z1, hz1⟩ := shr_u16 (P := Tryz.prog) (E := En G) (t := 70) (a := Fr) (b := (a : Int)) (by omega)
      obtain ⟨z2, hz2⟩ := and_u16 (P := Tryz.prog) (E := En G) (t := 70) (a := z1) (b := 1)
      cases hd : decide (z2 = 1)
      · simp (disch := omega) only [go_sem,reduceIte,Nat.reduceEqDiff,Nat.reduceLT, f1, f4, f5, f6, f7, f8, hlt2, fld72_1, load70, Nat.zero_add, l1, hz1, hz2, hd, wrap_i64]
        exact hJ2 (j2 - 1) _ _ (by omega) ⟨jj + 1, a + 1, ps, A, by omega, by omega, hps, by omega, by omega, by simp only [go_sem,reduceIte,Nat.reduceEqDiff,Nat.reduceLT, f1], by simp only [go_sem,reduceIte,Nat.reduceEqDiff,Nat.reduceLT, f4], by simp only [go_sem,reduceIte,Nat.reduceEqDiff,Nat.reduceLT, f5], by simp only [go_sem,reduceIte,Nat.reduceEqDiff,Nat.reduceLT]; rfl, by simp only [go_sem,reduceIte,Nat.reduceEqDiff,Nat.reduceLT, f7], by simp only [go_sem,reduceIte,Nat.reduceEqDiff,Nat.reduceLT]; rfl, hsv, v1, pr, hnx⟩
      · simp (disch := omega) only [go_sem,reduceIte,Nat.reduceEqDiff,Nat.reduceLT, f1, f4, f5, f6, f7, f8, hlt2, fld72_1, load70, Nat.zero_add, l1, hz1, hz2, hd, wrap_i64, build82]
        have hfill : Instr.fill (fun i => some (i * inf104.size, inf104.size)) (zeros (Value.agg #[.int .i64 0, .int .i64 0]).cells.toList 1).toArray [(0, Value.agg #[.int .i64 (jj : Int), .int .i64 (i : Int)])] = some [Value.int .i64 (jj : Int), Value.int .i64 (i : Int)].toArray := by rw [size104]; rfl
        refine At_push (v := .agg #[.int .i64 (jj : Int), .int .i64 (i : Int)]) (A := A) (sl := ps.length) (sc := ps.length) (lo := h.next + 1) (hi := h3.next) (L := prs ps) (vs := [.int .i64 (jj : Int), .int .i64 (i : Int)]) u22 i104 zero82 (by rw [size104, bytes104]; rfl) (by simp only [go_sem,reduceIte,Nat.reduceEqDiff,Nat.reduceLT]) hfill (by rw [size104]; rfl) rfl (by simp only [go_sem,reduceIte,Nat.reduceEqDiff,Nat.reduceLT, f5]) (by rw [size104]; exact hsv) (Nat.le_refl _) (Nat.le_refl _) (by show G ≤ h.next + 1; omega) (by omega) (by decide) (by decide) (by decide) fun h4 hp4 => ?_
        rw [size104] at hp4
        have n4 := hp4.next
        have hcells : prs ps ++ [Value.int .i64 (jj : Int), Value.int .i64 (i : Int)] = prs (ps ++ [((jj : Int), (i : Int))]) := by simp [prs]
        rw [hcells] at hp4
        have hsv4 := hp4.slv (n := (ps ++ [((jj : Int), (i : Int))]).length) (c := (ps ++ [((jj : Int), (i : Int))]).length) (by rw [prs_len])
        have v4 : Var h4.blks h.next [.int .u8 K, .int .u16 Fr] := v1.mono (by
          rw [hp4.get _ (by omega)]
          rw [if_neg fun e => by have := hsv.blk _ e; omega])
        simp (disch := omega) only [go_sem,reduceIte,Nat.reduceEqDiff,Nat.reduceLT, f6, f8, wrap_i64]
        refine hJ2 (j2 - 1) _ _ (by omega) ⟨jj + 1, a + 1, ps ++ [((jj : Int), (i : Int))], some ⟨h3.next + 1, 0, none⟩, by omega, by omega, fun p hp => ?_, by simp; omega, by omega, by simp only [go_sem,reduceIte,Nat.reduceEqDiff,Nat.reduceLT, f1], by simp only [go_sem,reduceIte,Nat.reduceEqDiff,Nat.reduceLT, f4], by simp only [go_sem,reduceIte,Nat.reduceEqDiff,Nat.reduceLT, List.length_append, List.length_singleton], by simp only [go_sem,reduceIte,Nat.reduceEqDiff,Nat.reduceLT]; rfl, by simp only [go_sem,reduceIte,Nat.reduceEqDiff,Nat.reduceLT, f7], by simp only [go_sem,reduceIte,Nat.reduceEqDiff,Nat.reduceLT]; rfl, hsv4.wide (by omega) (Nat.le_refl _), v4, pr.trans (hp4.pres (by omega) fun b hb => by have := hsv.blk b hb; omega), by omega⟩
        rcases List.mem_append.1 hp with hp | hp
        · exact hps p hp
        · rw [List.mem_singleton.1 hp]
          exact ⟨by omega, by omega, by omega, by omega, by omega⟩
    · simp (disch := omega) only [go_sem,reduceIte,Nat.reduceEqDiff,Nat.reduceLT, f1, f4, f5, f6, f7, f8, hlt2, wrap_i64]
      exact hJ (j - 1) _ _ (by omega) ⟨i + 1, a, ps, A, by omega, hps, by omega, by omega, by simp only [go_sem,reduceIte,Nat.reduceEqDiff,Nat.reduceLT, f1], by simp only [go_sem,reduceIte,Nat.reduceEqDiff,Nat.reduceLT, f4], by simp only [go_sem,reduceIte,Nat.reduceEqDiff,Nat.reduceLT, f5], by simp only [go_sem,reduceIte,Nat.reduceEqDiff,Nat.reduceLT, f6], by simp only [go_sem,reduceIte,Nat.reduceEqDiff,Nat.reduceLT]; rfl, hsv, v1, pr, hnx⟩
  · simp (disch := omega) only [go_sem,reduceIte,Nat.reduceEqDiff,Nat.reduceLT, e1, e4, e5, e6, e7, hlt]
    exact hQ' _ _ ⟨pr, k, ps, A, rfl, okT_iff.2 ⟨⟨by omega, by omega, by omega⟩, fun p hp => by
      have := hps p hp
      simp only [okPair, decide_eq_true_eq]
      omega⟩, hsv⟩

theorem byts_get {l : List UInt8} {i : Nat} {c : UInt8} (h : l[i]? = some c) : (byts l)[i]? = some (.int .u8 c.toNat) := by simp [byts, h]
theorem abc_at : ∀ r, r < 6 → (([97, 98, 99, 100, 101, 102] : List UInt8).take (r + 1)).drop r = [UInt8.ofNat (97 + r)] := by decide

set_option maxHeartbeats 8000000 in
theorem mkseam_spec {G lo hi n c k mo : Nat} {A : Option Addr} {l : List UInt8} {h : H} (hv : SlV h.blks lo hi 1 n (byts l) (.slice A n c)) (hn : n < 4611686018427387904) (hk1 : 1 ≤ k) (hk : k ≤ 6) (hmo : mo < 1000) :
    Spec Tryz.prog (En G) 49 [.int .i64 k, .slice A n c, .int .i64 mo] h fun v h' => (∃ s, v = strV s ∧ OkL k s ∧ s.length ≤ mo) ∧ h' = h := by
  have hl : l.length = n := by have := hv.len; rw [byts_len] at this; omega
  refine CallsE_enter (En_known (by decide)) (En_f.trans Tryz.func49) rfl ⟨Nat.le_of_ble_eq_true rfl, by decide⟩ fun Q' hQ' => ?_
  simp only [Tryz.f49, go_sem,reduceIte,Nat.reduceEqDiff,Nat.reduceLT]
  refine WK_loopN (fun j α h2 => ∃ (i : Nat) (s : List UInt8), h2 = h ∧ j + i = n ∧ OkL k s ∧ s.length = i ∧ i ≤ mo ∧ α.get 0 = some (.int .i64 k) ∧ α.get 1 = some (.slice A n c) ∧ α.get 2 = some (.int .i64 mo) ∧ α.get 7 = some (strV s) ∧ α.get 8 = some (.int .i64 i)) n
    ⟨0, [], rfl, by omega, fun c hc => (by cases hc), rfl, by omega, by simp only [go_sem,reduceIte,Nat.reduceEqDiff,Nat.reduceLT], by simp only [go_sem,reduceIte,Nat.reduceEqDiff,Nat.reduceLT], by simp only [go_sem,reduceIte,Nat.reduceEqDiff,Nat.reduceLT], by simp only [go_sem,reduceIte,Nat.reduceEqDiff,Nat.reduceLT], by simp only [go_sem,reduceIte,Nat.reduceEqDiff,Nat.reduceLT]; rfl⟩ hn ?_
  rintro J j α h2 ⟨i, s, rfl, hij, hs, hsl, him, e0, e1, e2, e7, e8⟩ hJ
  by_cases hlt : (i : Int) < n
  · have d1 : decide ((i : Int) < n) = true := decide_eq_true hlt
    by_cases hlt2 : (i : Int) < mo
    · have d2 : decide ((i : Int) < mo) = true := decide_eq_true hlt2
      obtain ⟨ch, hc⟩ : ∃ ch, l[i]? = some ch := ⟨l[i]'(by omega), List.getElem?_eq_getElem (by omega)⟩
      obtain ⟨b, off, rfl, _, _, hld⟩ := hv.at_ (by omega)
      have l1 := hld i (by omega)
      rw [byts_get hc] at l1
      have hr : ch.toNat % k < 6 := by have := Nat.mod_lt ch.toNat (show 0 < k by omega); omega
      have hrk : ch.toNat % k < k := Nat.mod_lt _ (by omega)
      have hin : (([97, 98, 99, 100, 101, 102] : List UInt8).take ((((ch.toNat % k : Nat) : Int) + 1).toNat)).drop (((ch.toNat % k : Nat) : Int)).toNat = [UInt8.ofNat (97 + ch.toNat % k)] := by
        rw [show ((((ch.toNat % k : Nat) : Int) + 1).toNat) = ch.toNat % k + 1 by omega, Int.toNat_natCast]
        exact abc_at _ hr
      have hadd : ∀ {t : TypeId}, binO Tryz.prog (En G) .add t (some (strV s)) (some (strV [UInt8.ofNat (97 + ch.toNat % k)])) = some (strV (s ++ [UInt8.ofNat (97 + ch.toNat % k)])) := add_str (by simp; omega)
      have hka : (k : Int) ≠ 0 := by omega
      have hsb : sliceO (En G) 9 h2.blks (some (strV [97, 98, 99, 100, 101, 102])) (some [.int .i64 ((ch.toNat % k : Nat) : Int)]) (some [.int .i64 (((ch.toNat % k : Nat) : Int) + 1)]) = some (strV [UInt8.ofNat (97 + ch.toNat % k)]) := by
        rw [slcBoth9 (by omega) (by omega) (by show _ ≤ (6 : Int); omega), hin]
      simp (disch := omega) only [go_sem,reduceIte,Nat.reduceEqDiff,Nat.reduceLT, e0, e1, e2, e7, e8, len73, d1, d2]
      refine WK_regionT 16 ⟨by kernel_rfl, by kernel_rfl, by kernel_rfl⟩ ?_
      simp (maxSteps := 400000) (disch := omega) only [go_sem,reduceIte,Nat.reduceEqDiff,Nat.reduceLT, e0, e1, e2, e7, e8, idxA73, load5, Int.toNat_natCast, Nat.mul_one, l1, binO_rem hka, tmod_nat, wrap_i64, hsb, hadd]
      refine hJ (j - 1) _ _ (by omega) ⟨i + 1, s ++ [UInt8.ofNat (97 + ch.toNat % k)], rfl, by omega, fun c hc => ?_, by simp [hsl], by omega, by simp only [go_sem,reduceIte,Nat.reduceEqDiff,Nat.reduceLT, e0], by simp only [go_sem,reduceIte,Nat.reduceEqDiff,Nat.reduceLT, e1], by simp only [go_sem,reduceIte,Nat.reduceEqDiff,Nat.reduceLT, e2], by simp only [go_sem,reduceIte,Nat.reduceEqDiff,Nat.reduceLT], by simp only [go_sem,reduceIte,Nat.reduceEqDiff,Nat.reduceLT]; rfl⟩
      rcases List.mem_append.1 hc with hc | hc
      · exact hs c hc
      · rw [List.mem_singleton.1 hc, (lt_byte hr).1]; omega
    · have d2 : decide ((i : Int) < mo) = false := decide_eq_false hlt2
      simp (disch := omega) only [go_sem,reduceIte,Nat.reduceEqDiff,Nat.reduceLT, e0, e1, e2, e7, e8, len73, d1, d2]
      exact hQ' _ _ ⟨Pres.refl _ _, ⟨s, rfl, hs, by omega⟩, rfl⟩
  · have d1 : decide ((i : Int) < n) = false := decide_eq_false hlt
    simp (disch := omega) only [go_sem,reduceIte,Nat.reduceEqDiff,Nat.reduceLT, e0, e1, e2, e7, e8, len73, d1]
    exact hQ' _ _ ⟨Pres.refl _ _, ⟨s, rfl, hs, by omega⟩, rfl⟩
end
end Go.Proofs.YthankillfhmfkaaGreatDoor.Ev


