/- The laws' makers of threads, seams and equal seams. -/
import Derived.Test.YthankillfhmfkaaGreatDoorPmAA
import Derived.Test.YthankillfhmfkaaGreatDoorPmsT2
set_option linter.unusedSimpArgs false
set_option linter.unusedVariables false
namespace Go.Proofs.YthankillfhmfkaaGreatDoor.Ev
open Go Go.Proofs
noncomputable section

theorem build82 {G : Nat} {a b : Int} : buildO (En G) 104 (some [(0, .int .i64 a), (1, .int .i64 b)]) = some (.agg #[.int .i64 a, .int .i64 b]) := by
  have hu : (En G).u 104 = some (.struct #[_, _]) := us104.trans Tryz.underlying104
  have hz : okConst (.agg #[.int .i64 0, .int .i64 0]) = true := rfl
  simp only [buildO, evBuild, i104, hu, zero82, places, i3, size3, hz, if_true]
  rfl
theorem tmod_nat {a b : Nat} : ((a : Int)).tmod (b : Int) = ((a % b : Nat) : Int) := by
  rw [Int.tmod_eq_emod_of_nonneg (by omega)]
  rfl

theorem byts_get {l : List UInt8} {i : Nat} {c : UInt8} (h : l[i]? = some c) : (byts l)[i]? = some (.int .u8 c.toNat) := by simp [byts, h]
theorem abc_at : ∀ r, r < 6 → (([97, 98, 99, 100, 101, 102] : List UInt8).take (r + 1)).drop r = [UInt8.ofNat (97 + r)] := by decide

set_option maxHeartbeats 8000000 in
theorem mkseam_spec {G lo hi n c k mo : Nat} {A : Option Addr} {l : List UInt8} {h : H} (hv : SlV h.blks lo hi 1 n (byts l) (.slice A n c)) (hn : n < 4611686018427387904) (hk1 : 1 ≤ k) (hk : k ≤ 6) (hmo : mo < 1000) :
    Spec Tryz.prog (En G) 49 [.int .i64 k, .slice A n c, .int .i64 mo] h fun v h' => (∃ s, v = strV s ∧ OkL k s ∧ s.length ≤ mo) ∧ h' = h := by
  have hl : l.length = n := by have := hv.len; rw [byts_len] at this; omega
  refine CallsE_enter (En_known (by decide)) (En_f.trans Tryz.func49) rfl ⟨Nat.le_of_ble_eq_true rfl, by decide⟩ fun Q' hQ' => ?_
  simp only [Tryz.f49, go_sem,reduceIte,Nat.reduceEqDiff,Nat.reduceLT]
  refine WK_loopN (fun j α h2 => ∃ (i : Nat) (s : List UInt8), h2 = h ∧ j + i = n ∧ OkL k s ∧ s.length = i ∧ i ≤ mo ∧ α.get 0 = some (.int .i64 k) ∧ α.get 1 = some (.slice A n c) ∧ α.get 2 = some (.int .i64 mo) ∧ α.get 7 = some (strV s) ∧ α.get 8 = some (.int .i64 i)) n
    ⟨0, [], rfl, by omega, fun c hc => (by cases hc), rfl, by omega, by simp only [go_sem,reduceIte,Nat.reduceEqDiff,Nat.reduceLT], by simp only [go_sem,reduceIte,Nat.reduceEqDiff,Nat.reduceLT], by simp only [go_sem,reduceIte,Nat.reduceEqDiff,Nat.reduceLT], by simp only [go_sem,reduceIte,Nat.reduceEqDiff,Nat.reduceLT], by simp only [go_sem,reduceIte,Nat.reduceEqDiff,Nat.reduceLT]; rfl⟩ hn ?_
  rintro J j α h2 ⟨i, s, rfl, hij, hs, hsl, him, e0, e1, e2, e7, e8⟩ hJ
  by_cases hlt : (i : Int) < n
  · have d1 : decide ((i : Int) < n) = true := decide_eq_true hlt
    by_cases hlt2 : (i : Int) < mo
    · have d2 : decide ((i : Int) < mo) = true := decide_eq_true hlt2
      obtain ⟨ch, hc⟩ : ∃ ch, l[i]? = some ch := ⟨l[i]'(by omega), List.getElem?_eq_getElem (by omega)⟩
      obtain ⟨b, off, rfl, _, _, hld⟩ := hv.at_ (by omega)
      have l1 := hld i (by omega)
      rw [byts_get hc] at l1
      have hr : ch.toNat % k < 6 := by have := Nat.mod_lt ch.toNat (show 0 < k by omega); omega
      have hrk : ch.toNat % k < k := Nat.mod_lt _ (by omega)
      have hin : (([97, 98, 99, 100, 101, 102] : List UInt8).take ((((ch.toNat % k : Nat) : Int) + 1).toNat)).drop (((ch.toNat % k : Nat) : Int)).toNat = [UInt8.ofNat (97 + ch.toNat % k)] := by
        rw [show ((((ch.toNat % k : Nat) : Int) + 1).toNat) = ch.toNat % k + 1 by omega, Int.toNat_natCast]
        exact abc_at _ hr
      have hadd : ∀ {t : TypeId}, binO Tryz.prog (En G) .add t (some (strV s)) (some (strV [UInt8.ofNat (97 + ch.toNat % k)])) = some (strV (s ++ [UInt8.ofNat (97 + ch.toNat % k)])) := add_str (by simp; omega)
      have hka : (k : Int) ≠ 0 := by omega
      have hsb : sliceO (En G) 9 h2.blks (some (strV [97, 98, 99, 100, 101, 102])) (some [.int .i64 ((ch.toNat % k : Nat) : Int)]) (some [.int .i64 (((ch.toNat % k : Nat) : Int) + 1)]) = some (strV [UInt8.ofNat (97 + ch.toNat % k)]) := by
        rw [slcBoth9 (by omega) (by omega) (by show _ ≤ (6 : Int); omega), hin]
      simp (disch := omega) only [go_sem,reduceIte,Nat.reduceEqDiff,Nat.reduceLT, e0, e1, e2, e7, e8, len73, d1, d2]
      refine WK_regionT 16 ⟨by kernel_rfl, by kernel_rfl, by kernel_rfl⟩ ?_
      simp (maxSteps := 400000) (disch := omega) only [go_sem,reduceIte,Nat.reduceEqDiff,Nat.reduceLT, e0, e1, e2, e7, e8, idxA73, load5, Int.toNat_natCast, Nat.mul_one, l1, binO_rem hka, tmod_nat, wrap_i64, hsb, hadd]
      refine hJ (j - 1) _ _ (by omega) ⟨i + 1, s ++ [UInt8.ofNat (97 + ch.toNat % k)], rfl, by omega, fun c hc => ?_, by simp [hsl], by omega, by simp only [go_sem,reduceIte,Nat.reduceEqDiff,Nat.reduceLT, e0], by simp only [go_sem,reduceIte,Nat.reduceEqDiff,Nat.reduceLT, e1], by simp only [go_sem,reduceIte,Nat.reduceEqDiff,Nat.reduceLT, e2], by simp only [go_sem,reduceIte,Nat.reduceEqDiff,Nat.reduceLT], by simp only [go_sem,reduceIte,Nat.reduceEqDiff,Nat.reduceLT]; rfl⟩
      rcases List.mem_append.1 hc with hc | hc
      · exact hs c hc
      · rw [List.mem_singleton.1 hc, (lt_byte hr).1]; omega
    · have d2 : decide ((i : Int) < mo) = false := decide_eq_false hlt2
      simp (disch := omega) only [go_sem,reduceIte,Nat.reduceEqDiff,Nat.reduceLT, e0, e1, e2, e7, e8, len73, d1, d2]
      exact hQ' _ _ ⟨Pres.refl _ _, ⟨s, rfl, hs, by omega⟩, rfl⟩
  · have d1 : decide ((i : Int) < n) = false := decide_eq_false hlt
    simp (disch := omega) only [go_sem,reduceIte,Nat.reduceEqDiff,Nat.reduceLT, e0, e1, e2, e7, e8, len73, d1]
    exact hQ' _ _ ⟨Pres.refl _ _, ⟨s, rfl, hs, by omega⟩, rfl⟩
end
end Go.Proofs.YthankillfhmfkaaGreatDoor.Ev


