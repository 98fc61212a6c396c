/- The law StrapHall. -/
import Derived.Test.YtoeblkenmjbfiaaDoorPmoJ3
set_option linter.unusedSimpArgs false
set_option linter.unusedVariables false
namespace Go.Proofs.YtoeblkenmjbfiaaDoor.Ev
open Go Go.Proofs
noncomputable section

def smallB (p : Nat) : Bool := (List.range 6).all fun d => decide (d < 2) || decide (p < d * d) || decide (p % d ≠ 0)
def hallB (e : Nat × List Int × Nat) : Bool := (List.range e.1).all fun p => decide (p < 2) || !smallB p || decide (((e.2.1.length : Int) - (e.2.2 : Int)).tmod (p : Int) ≠ 0) || decide (p ≤ e.2.2) || decide (e.1 % p = 0) ||
  decide (e.2.1.length ≤ 1) || decide (e.1 ≤ e.2.1.length) || (Nat.gcd p e.1 == 1 && (List.range e.1).any fun s => cg e.1 p s e.2.1 == e.2.1)
theorem hall_ok : evT.all hallB = true := by decide +kernel
theorem hall_at {V o k p : Nat} {S : List Int} (hk : evT[k]? = some (V, S, o)) (hV : 2 ≤ V) (hin : InV V S) (hl : S.Pairwise (· ≤ ·)) (hp : p < V) (hp2 : 2 ≤ p) (hs : smallB p = true) (h1 : ((S.length : Int) - (o : Int)).tmod (p : Int) = 0) (h2 : o < p) (h3 : V % p ≠ 0) (h4 : 1 < S.length) (h5 : S.length < V) : p ∈ mP V S (uL V V) := by
  have hg := List.all_eq_true.1 hall_ok _ (List.mem_of_getElem? hk)
  have := List.all_eq_true.1 hg p (List.mem_range.2 hp)
  simp only [Bool.or_eq_true, decide_eq_true_eq, Bool.not_eq_true', hs, Bool.true_eq_false, or_false, Bool.and_eq_true, beq_iff_eq, List.any_eq_true, List.mem_range] at this
  rw [mP_mR (by omega) hin hl]
  unfold mR
  simp only [List.mem_filter, List.mem_range, Bool.and_eq_true, beq_iff_eq, List.any_eq_true]
  rcases this with ((((((h | h) | h) | h) | h) | h) | h)
  · omega
  · exact absurd h1 h
  · omega
  · exact absurd h h3
  · omega
  · omega
  · exact ⟨hp, h.1, h.2⟩
theorem small_of {p d : Nat} (hd : p < d * d) (h : ∀ d', 2 ≤ d' → d' < d → p % d' ≠ 0) : smallB p = true := by
  unfold smallB
  refine List.all_eq_true.2 fun x hx => ?_
  simp only [Bool.or_eq_true, decide_eq_true_eq]
  by_cases h1 : x < 2
  · exact .inl (.inl h1)
  · by_cases h2 : p < x * x
    · exact .inl (.inr h2)
    · refine .inr (h x (by omega) ?_)
      rcases Nat.lt_or_ge x d with e | e
      · exact e
      · have := Nat.mul_le_mul e e
        omega

set_option maxHeartbeats 32000000 in
theorem law_StrapHall {G hi : Nat} {x0 x1 x2 : UInt8} {h : H} (hG : G ≤ h.next) (hhi : hi ≤ G) (hT : EvenT h.blks hi) :
    Spec Tryd.prog (En G) 6 [.agg #[.int .u8 x0.toNat, .int .u8 x1.toNat, .int .u8 x2.toNat]] h fun w _ => w = .bool true := by
  refine CallsE_enter (En_known (by decide)) (En_f.trans Tryd.func6) rfl ⟨Nat.le_of_ble_eq_true rfl, by decide⟩ fun Q' hQ' => ?_
  simp only [Tryd.f6, go_sem,reduceIte,Nat.reduceEqDiff,Nat.reduceLT]
  refine At_box (v := .agg #[.int .u8 x0.toNat, .int .u8 x1.toNat, .int .u8 x2.toNat]) (by (simp only [go_sem,reduceIte,Nat.reduceEqDiff,Nat.reduceLT]) <;> rfl) (by omega) fun h0 hn0 => ?_
  have lz : (Value.agg #[Value.int IntKind.u8 x0.toNat, Value.int IntKind.u8 x1.toNat, Value.int IntKind.u8 x2.toNat]).cells.toList = [.int .u8 (x0.toNat : Int), .int .u8 (x1.toNat : Int), .int .u8 (x2.toNat : Int)] := rfl
  have hvar := hn0.var
  rw [lz] at hvar
  have n0 := hn0.next
  have pr0 : Pres h.next h h0 := hn0.pres (Nat.le_refl _)
  have hT0 := hT.mono (B' := h0.blks) fun b hb => pr0.get b (by omega)
  simp only [go_sem,reduceIte,Nat.reduceEqDiff,Nat.reduceLT, hvar.loadA agg22 i22 (by rw [size22]; rfl)]
  refine CallO_f (made_spec (x0 := x0) (x1 := x1) (x2 := x2) (by omega) hhi hT0) (by omega) fun u h1 pr1 ⟨k, V, t, s, S, o, A, hk, ht, hg, hs, hu, hsv⟩ => ?_
  subst hu
  have n1 := pr1.next
  have hk10 : k < 10 := (List.getElem?_eq_some_iff.1 hk).1
  obtain ⟨V', S', o', he, hV, hV2, hS0, hS31, hSi, hSl, hEv, _, _, _, hkk⟩ := evT_at hk10
  rw [hk] at he
  simp only [Option.some.injEq, Prod.mk.injEq] at he
  obtain ⟨rfl, rfl, rfl⟩ := he
  have ho31 : o ≤ 1000 := by
    have a1 : o ≤ o * (V - 1) := Nat.le_mul_of_pos_right o (by omega)
    have a2 : S.length * (S.length - 1) ≤ 31 * 31 := Nat.mul_le_mul hS31 (by omega)
    omega
  clear hkk
  have hSle : S.Pairwise (· ≤ ·) := hSl.imp fun h => by omega
  have hhall : ∀ p, p < V → 2 ≤ p → smallB p = true → ((S.length : Int) - (o : Int)).tmod (p : Int) = 0 → o < p → V % p ≠ 0 → 1 < S.length → S.length < V → p ∈ mP V S (uL V V) := fun p h1 h2 h3 h4 h5 h6 h7 h8 => hall_at hk hV hSi hSle h1 h2 h3 h4 h5 h6 h7 h8
  have hMe : mP V (cg V t s S) (uL V V) = mP V S (uL V V) := mP_cg hV hV2 ht hg hSi hSle
  have hLi : InV V (cg V t s S) := cg_in (by omega)
  have hLt := cg_lt' (s := (s : Int)) (show 0 < V by omega) hSi hSl hg
  have hLl : (cg V t s S).length = S.length := cg_len
  have hLe := hEv.cg (s := (s : Int)) hV hV2 ht hg hSi hSl
  rw [← hMe, ← hLl] at hhall
  rw [← hLl] at hsv hS0 hS31 ⊢
  clear hMe
  generalize cg V t s S = l at *
  have hM31 : (mP V l (uL V V)).length ≤ 31 := by
    have h1 : (mP V l (uL V V)).length ≤ (uL V V).length := List.length_filter_le _ _
    have h2 := uL_len (V := V) (n := V)
    omega
  simp only [go_sem,reduceIte,Nat.reduceEqDiff,Nat.reduceLT]
  refine CallO_f (Even_l (by omega) (Nat.le_refl _) hsv hS31 hS0 hV hV2 hLi hLt hLe) (by omega) fun u h2 pr2 hu => ?_
  subst hu
  have n2 := pr2.next
  have hsv2 := hsv.mono (B' := h2.blks) fun b _ hb => pr2.get b hb
  simp only [go_sem,reduceIte,Nat.reduceEqDiff,Nat.reduceLT]
  refine CallO_f (Multipliers_l (by omega) (by omega) hsv2 hS31 hS0 hV hV2 hLi hLt) (by omega) fun u h3 pr3 ⟨AM, hu, hsM⟩ => ?_
  subst hu
  have n3 := pr3.next
  have hMl : mlP V l (uL V V) = (mP V l (uL V V)).map fun t : Nat => (t : Int) := rfl
  rw [hMl] at hsM ⊢
  generalize mP V l (uL V V) = mm at *
  have hml : (mm.map fun t : Nat => (t : Int)).length = mm.length := List.length_map _
  obtain ⟨f, hfe, hf, _⟩ := fnOf (mm.map fun t : Nat => (t : Int))
  rw [hfe] at hsM
  rw [hml] at hsM ⊢
  have hfm : ∀ q (hq : q < mm.length), f q = (mm[q] : Int) := fun q hq => by
    rw [hf q (by omega)]
    simp
  have d0 : decide ((0 : Int) ≠ 0) = false := rfl
  simp (maxSteps := 3000000) (disch := omega) only [go_sem,reduceIte,Nat.reduceEqDiff,Nat.reduceLT, d0]
  refine Call_lives (by omega) ?_
  simp only [go_sem,reduceIte,Nat.reduceEqDiff,Nat.reduceLT]
  have prA : Pres h.next h h3 := pr0.trans ((pr1.le (by omega)).trans ((pr2.le (by omega)).trans (pr3.le (by omega))))
  refine WK_loopN (fun j α h4 => ∃ p : Nat, p + j = 40 ∧ 2 ≤ p ∧ p ≤ V ∧ h4 = h3 ∧ α.get 3 = some (.int .i64 V) ∧ α.get 4 = some (.slice A l.length l.length) ∧ α.get 5 = some (.int .i64 o) ∧ α.get 7 = some (.slice AM mm.length mm.length) ∧ α.get 9 = some (.int .i64 p)) 38
    ⟨2, by omega, by omega, hV, rfl, by simp only [go_sem,reduceIte,Nat.reduceEqDiff,Nat.reduceLT], by simp only [go_sem,reduceIte,Nat.reduceEqDiff,Nat.reduceLT], by simp only [go_sem,reduceIte,Nat.reduceEqDiff,Nat.reduceLT], by simp only [go_sem,reduceIte,Nat.reduceEqDiff,Nat.reduceLT], by (simp only [go_sem,reduceIte,Nat.reduceEqDiff,Nat.reduceLT]) <;> rfl⟩ (by omega) ?_
  rintro J j α h4 ⟨p, hpj, hp2, hpV, rfl, e3, e4, e5, e7, e9⟩ hJ
  have done : Q' (.bool true) h4 := hQ' _ _ ⟨prA, rfl⟩
  by_cases c1 : (p : Int) < (V : Int)
  · by_cases c2 : (1 : Int) < (l.length : Int)
    · by_cases c3 : (l.length : Int) < (V : Int)
      · simp (maxSteps := 3000000) (disch := omega) only [go_sem,reduceIte,Nat.reduceEqDiff,Nat.reduceLT, e3, e4, e5, e7, e9, c1, c2, c3, len24]
        refine WK_loopN (fun j α h5 => ∃ (d : Nat) (fb : Bool), d + j = 40 ∧ 2 ≤ d ∧ d ≤ 31 ∧ h5 = h4 ∧ α.get 3 = some (.int .i64 V) ∧ α.get 4 = some (.slice A l.length l.length) ∧ α.get 5 = some (.int .i64 o) ∧ α.get 7 = some (.slice AM mm.length mm.length) ∧ α.get 9 = some (.int .i64 p) ∧ α.get 10 = some (.bool fb) ∧ α.get 11 = some (.int .i64 d) ∧
            (fb = true → ∀ d', 2 ≤ d' → d' < d → p % d' ≠ 0)) 38
          ⟨2, true, by omega, by omega, by omega, rfl, by simp only [go_sem,reduceIte,Nat.reduceEqDiff,Nat.reduceLT, e3], by simp only [go_sem,reduceIte,Nat.reduceEqDiff,Nat.reduceLT, e4], by simp only [go_sem,reduceIte,Nat.reduceEqDiff,Nat.reduceLT, e5], by simp only [go_sem,reduceIte,Nat.reduceEqDiff,Nat.reduceLT, e7], by simp only [go_sem,reduceIte,Nat.reduceEqDiff,Nat.reduceLT, e9], by simp only [go_sem,reduceIte,Nat.reduceEqDiff,Nat.reduceLT], by (simp only [go_sem,reduceIte,Nat.reduceEqDiff,Nat.reduceLT]) <;> rfl, fun _ d' h1 h2 => by omega⟩ (by omega) ?_
        rintro J2 j2 α2 h5 ⟨d, fb, hdj, hd2, hd31, rfl, g3, g4, g5, g7, g9, g10, g11, hfb⟩ hJ2
        have hdd : (d : Int) * (d : Int) = ((d * d : Nat) : Int) := by simp
        have hdb : d * d ≤ 31 * 31 := Nat.mul_le_mul hd31 hd31
        by_cases c4 : ((d * d : Nat) : Int) ≤ (p : Int)
        · have hd6 : d ≤ 6 := by
            rcases Nat.lt_or_ge d 7 with e | e
            · omega
            · have := Nat.mul_le_mul e e
              omega
          cases fb with
          | false =>
            simp (disch := omega) only [go_sem,reduceIte,Nat.reduceEqDiff,Nat.reduceLT, g9, g10, g11, hdd, wrap_i64, c4]
            exact hJ2 (40 - (d + 1)) _ _ (by omega) ⟨d + 1, false, by omega, by omega, by omega, rfl, by simp only [go_sem,reduceIte,Nat.reduceEqDiff,Nat.reduceLT, g3], by simp only [go_sem,reduceIte,Nat.reduceEqDiff,Nat.reduceLT, g4], by simp only [go_sem,reduceIte,Nat.reduceEqDiff,Nat.reduceLT, g5], by simp only [go_sem,reduceIte,Nat.reduceEqDiff,Nat.reduceLT, g7], by simp only [go_sem,reduceIte,Nat.reduceEqDiff,Nat.reduceLT, g9], by simp only [go_sem,reduceIte,Nat.reduceEqDiff,Nat.reduceLT], by (simp only [go_sem,reduceIte,Nat.reduceEqDiff,Nat.reduceLT]) <;> rfl, fun e => by cases e⟩
          | true =>
            by_cases c5 : p % d = 0
            · have d5 : decide (((p % d : Nat) : Int) ≠ 0) = false := decide_eq_false (by omega)
              simp (disch := omega) only [go_sem,reduceIte,Nat.reduceEqDiff,Nat.reduceLT, g9, g10, g11, hdd, wrap_i64, c4, tmod_nat, d5]
              exact hJ2 (40 - (d + 1)) _ _ (by omega) ⟨d + 1, false, by omega, by omega, by omega, rfl, by simp only [go_sem,reduceIte,Nat.reduceEqDiff,Nat.reduceLT, g3], by simp only [go_sem,reduceIte,Nat.reduceEqDiff,Nat.reduceLT, g4], by simp only [go_sem,reduceIte,Nat.reduceEqDiff,Nat.reduceLT, g5], by simp only [go_sem,reduceIte,Nat.reduceEqDiff,Nat.reduceLT, g7], by simp only [go_sem,reduceIte,Nat.reduceEqDiff,Nat.reduceLT, g9], by simp only [go_sem,reduceIte,Nat.reduceEqDiff,Nat.reduceLT], by (simp only [go_sem,reduceIte,Nat.reduceEqDiff,Nat.reduceLT]) <;> rfl, fun e => by cases e⟩
            · have d5 : decide (((p % d : Nat) : Int) ≠ 0) = true := decide_eq_true (by omega)
              simp (disch := omega) only [go_sem,reduceIte,Nat.reduceEqDiff,Nat.reduceLT, g9, g10, g11, hdd, wrap_i64, c4, tmod_nat, d5]
              refine hJ2 (40 - (d + 1)) _ _ (by omega) ⟨d + 1, true, by omega, by omega, by omega, rfl, by simp only [go_sem,reduceIte,Nat.reduceEqDiff,Nat.reduceLT, g3], by simp only [go_sem,reduceIte,Nat.reduceEqDiff,Nat.reduceLT, g4], by simp only [go_sem,reduceIte,Nat.reduceEqDiff,Nat.reduceLT, g5], by simp only [go_sem,reduceIte,Nat.reduceEqDiff,Nat.reduceLT, g7], by simp only [go_sem,reduceIte,Nat.reduceEqDiff,Nat.reduceLT, g9], by simp only [go_sem,reduceIte,Nat.reduceEqDiff,Nat.reduceLT], by (simp only [go_sem,reduceIte,Nat.reduceEqDiff,Nat.reduceLT]) <;> rfl, fun _ d' h1 h2 => ?_⟩
              by_cases e : d' = d
              · subst e; exact c5
              · exact hfb rfl d' h1 (by omega)
        · cases fb with
          | false =>
            simp (maxSteps := 3000000) (disch := omega) only [go_sem,reduceIte,Nat.reduceEqDiff,Nat.reduceLT, g3, g4, g5, g9, g10, g11, hdd, wrap_i64, c4]
            exact hJ (40 - (p + 1)) _ _ (by omega) ⟨p + 1, by omega, by omega, by omega, rfl, by simp only [go_sem,reduceIte,Nat.reduceEqDiff,Nat.reduceLT, g3], by simp only [go_sem,reduceIte,Nat.reduceEqDiff,Nat.reduceLT, g4], by simp only [go_sem,reduceIte,Nat.reduceEqDiff,Nat.reduceLT, g5], by simp only [go_sem,reduceIte,Nat.reduceEqDiff,Nat.reduceLT, g7], by (simp only [go_sem,reduceIte,Nat.reduceEqDiff,Nat.reduceLT]) <;> rfl⟩
          | true =>
            have hsm := small_of (p := p) (d := d) (by omega) (hfb rfl)
            by_cases c6 : ((l.length : Int) - (o : Int)).tmod (p : Int) = 0
            · have d6 : decide (((l.length : Int) - (o : Int)).tmod (p : Int) ≠ 0) = false := decide_eq_false fun e => e c6
              by_cases c7 : (p : Int) ≤ (o : Int)
              · simp (maxSteps := 3000000) (disch := omega) only [go_sem,reduceIte,Nat.reduceEqDiff,Nat.reduceLT, g3, g4, g5, g9, g10, g11, hdd, wrap_i64, c4, len24, d6, c7]
                exact hJ (40 - (p + 1)) _ _ (by omega) ⟨p + 1, by omega, by omega, by omega, rfl, by simp only [go_sem,reduceIte,Nat.reduceEqDiff,Nat.reduceLT, g3], by simp only [go_sem,reduceIte,Nat.reduceEqDiff,Nat.reduceLT, g4], by simp only [go_sem,reduceIte,Nat.reduceEqDiff,Nat.reduceLT, g5], by simp only [go_sem,reduceIte,Nat.reduceEqDiff,Nat.reduceLT, g7], by (simp only [go_sem,reduceIte,Nat.reduceEqDiff,Nat.reduceLT]) <;> rfl⟩
              · by_cases c8 : V % p = 0
                · have d8 : decide (((V % p : Nat) : Int) = 0) = true := decide_eq_true (by omega)
                  simp (maxSteps := 3000000) (disch := omega) only [go_sem,reduceIte,Nat.reduceEqDiff,Nat.reduceLT, g3, g4, g5, g9, g10, g11, hdd, wrap_i64, c4, len24, d6, c7, tmod_nat, d8]
                  exact hJ (40 - (p + 1)) _ _ (by omega) ⟨p + 1, by omega, by omega, by omega, rfl, by simp only [go_sem,reduceIte,Nat.reduceEqDiff,Nat.reduceLT, g3], by simp only [go_sem,reduceIte,Nat.reduceEqDiff,Nat.reduceLT, g4], by simp only [go_sem,reduceIte,Nat.reduceEqDiff,Nat.reduceLT, g5], by simp only [go_sem,reduceIte,Nat.reduceEqDiff,Nat.reduceLT, g7], by (simp only [go_sem,reduceIte,Nat.reduceEqDiff,Nat.reduceLT]) <;> rfl⟩
                · have d8 : decide (((V % p : Nat) : Int) = 0) = false := decide_eq_false (by omega)
                  have hmem := hhall p (by omega) hp2 hsm c6 (by omega) c8 (by omega) (by omega)
                  simp (maxSteps := 3000000) (disch := omega) only [go_sem,reduceIte,Nat.reduceEqDiff,Nat.reduceLT, g3, g4, g5, g9, g10, g11, hdd, wrap_i64, c4, len24, d6, c7, tmod_nat, d8]
                  refine WK_loopN (fun j α h6 => ∃ (q : Nat) (f2 : Bool), q + j = mm.length ∧ h6 = h5 ∧ α.get 3 = some (.int .i64 V) ∧ α.get 4 = some (.slice A l.length l.length) ∧ α.get 5 = some (.int .i64 o) ∧ α.get 7 = some (.slice AM mm.length mm.length) ∧ α.get 9 = some (.int .i64 p) ∧ α.get 12 = some (.bool f2) ∧ α.get 13 = some (.int .i64 q) ∧
                      (p ∈ mm.take q → f2 = true)) mm.length
                    ⟨0, false, by omega, rfl, by simp only [go_sem,reduceIte,Nat.reduceEqDiff,Nat.reduceLT, g3], by simp only [go_sem,reduceIte,Nat.reduceEqDiff,Nat.reduceLT, g4], by simp only [go_sem,reduceIte,Nat.reduceEqDiff,Nat.reduceLT, g5], by simp only [go_sem,reduceIte,Nat.reduceEqDiff,Nat.reduceLT, g7], by simp only [go_sem,reduceIte,Nat.reduceEqDiff,Nat.reduceLT, g9], by simp only [go_sem,reduceIte,Nat.reduceEqDiff,Nat.reduceLT], by (simp only [go_sem,reduceIte,Nat.reduceEqDiff,Nat.reduceLT]) <;> rfl, fun hh => by simp at hh⟩ (by omega) ?_
                  rintro J3 j3 α3 h6 ⟨q, f2, hqj, rfl, k3, k4, k5, k7, k9, k12, k13, hf2⟩ hJ3
                  by_cases c9 : (q : Int) < (mm.length : Int)
                  · have hql : q < mm.length := by omega
                    obtain ⟨bM, oM, rfl, hld⟩ := hsM.ints_at (by omega)
                    have l1 := hld q hql
                    rw [hfm q hql] at l1
                    have htake : mm.take (q + 1) = mm.take q ++ [mm[q]] := List.take_succ_eq_append_getElem hql
                    cases f2 with
                    | true =>
                      simp (disch := omega) only [go_sem,reduceIte,Nat.reduceEqDiff,Nat.reduceLT, k7, k9, k12, k13, c9, len24, wrap_i64]
                      exact hJ3 (mm.length - (q + 1)) _ _ (by omega) ⟨q + 1, true, by omega, rfl, by simp only [go_sem,reduceIte,Nat.reduceEqDiff,Nat.reduceLT, k3], by simp only [go_sem,reduceIte,Nat.reduceEqDiff,Nat.reduceLT, k4], by simp only [go_sem,reduceIte,Nat.reduceEqDiff,Nat.reduceLT, k5], by simp only [go_sem,reduceIte,Nat.reduceEqDiff,Nat.reduceLT, k7], by simp only [go_sem,reduceIte,Nat.reduceEqDiff,Nat.reduceLT, k9], by simp only [go_sem,reduceIte,Nat.reduceEqDiff,Nat.reduceLT], by (simp only [go_sem,reduceIte,Nat.reduceEqDiff,Nat.reduceLT]) <;> rfl, fun _ => rfl⟩
                    | false =>
                      by_cases c10 : mm[q] = p
                      · have d10 : decide (((mm[q] : Nat) : Int) = (p : Int)) = true := decide_eq_true (by omega)
                        simp (disch := omega) only [go_sem,reduceIte,Nat.reduceEqDiff,Nat.reduceLT, k7, k9, k12, k13, c9, len24, idxA24, load3, Int.toNat_natCast, Nat.mul_one, l1, d10, wrap_i64]
                        exact hJ3 (mm.length - (q + 1)) _ _ (by omega) ⟨q + 1, true, by omega, rfl, by simp only [go_sem,reduceIte,Nat.reduceEqDiff,Nat.reduceLT, k3], by simp only [go_sem,reduceIte,Nat.reduceEqDiff,Nat.reduceLT, k4], by simp only [go_sem,reduceIte,Nat.reduceEqDiff,Nat.reduceLT, k5], by simp only [go_sem,reduceIte,Nat.reduceEqDiff,Nat.reduceLT, k7], by simp only [go_sem,reduceIte,Nat.reduceEqDiff,Nat.reduceLT, k9], by simp only [go_sem,reduceIte,Nat.reduceEqDiff,Nat.reduceLT], by (simp only [go_sem,reduceIte,Nat.reduceEqDiff,Nat.reduceLT]) <;> rfl, fun _ => rfl⟩
                      · have d10 : decide (((mm[q] : Nat) : Int) = (p : Int)) = false := decide_eq_false (by omega)
                        simp (disch := omega) only [go_sem,reduceIte,Nat.reduceEqDiff,Nat.reduceLT, k7, k9, k12, k13, c9, len24, idxA24, load3, Int.toNat_natCast, Nat.mul_one, l1, d10, wrap_i64]
                        refine hJ3 (mm.length - (q + 1)) _ _ (by omega) ⟨q + 1, false, by omega, rfl, by simp only [go_sem,reduceIte,Nat.reduceEqDiff,Nat.reduceLT, k3], by simp only [go_sem,reduceIte,Nat.reduceEqDiff,Nat.reduceLT, k4], by simp only [go_sem,reduceIte,Nat.reduceEqDiff,Nat.reduceLT, k5], by simp only [go_sem,reduceIte,Nat.reduceEqDiff,Nat.reduceLT, k7], by simp only [go_sem,reduceIte,Nat.reduceEqDiff,Nat.reduceLT, k9], by simp only [go_sem,reduceIte,Nat.reduceEqDiff,Nat.reduceLT], by (simp only [go_sem,reduceIte,Nat.reduceEqDiff,Nat.reduceLT]) <;> rfl, fun hh => ?_⟩
                        rw [htake, List.mem_append, List.mem_singleton] at hh
                        rcases hh with hh | hh
                        · exact hf2 hh
                        · exact absurd hh.symm c10
                  · have hqe : q = mm.length := by omega
                    rw [hqe, List.take_length] at hf2
                    obtain rfl := hf2 hmem
                    simp (disch := omega) only [go_sem,reduceIte,Nat.reduceEqDiff,Nat.reduceLT, k7, k9, k12, k13, c9, len24, wrap_i64]
                    exact hJ (40 - (p + 1)) _ _ (by omega) ⟨p + 1, by omega, by omega, by omega, rfl, by simp only [go_sem,reduceIte,Nat.reduceEqDiff,Nat.reduceLT, k3], by simp only [go_sem,reduceIte,Nat.reduceEqDiff,Nat.reduceLT, k4], by simp only [go_sem,reduceIte,Nat.reduceEqDiff,Nat.reduceLT, k5], by simp only [go_sem,reduceIte,Nat.reduceEqDiff,Nat.reduceLT, k7], by (simp only [go_sem,reduceIte,Nat.reduceEqDiff,Nat.reduceLT]) <;> rfl⟩
            · have d6 : decide (((l.length : Int) - (o : Int)).tmod (p : Int) ≠ 0) = true := decide_eq_true c6
              simp (maxSteps := 3000000) (disch := omega) only [go_sem,reduceIte,Nat.reduceEqDiff,Nat.reduceLT, g3, g4, g5, g9, g10, g11, hdd, wrap_i64, c4, len24, d6]
              exact hJ (40 - (p + 1)) _ _ (by omega) ⟨p + 1, by omega, by omega, by omega, rfl, by simp only [go_sem,reduceIte,Nat.reduceEqDiff,Nat.reduceLT, g3], by simp only [go_sem,reduceIte,Nat.reduceEqDiff,Nat.reduceLT, g4], by simp only [go_sem,reduceIte,Nat.reduceEqDiff,Nat.reduceLT, g5], by simp only [go_sem,reduceIte,Nat.reduceEqDiff,Nat.reduceLT, g7], by (simp only [go_sem,reduceIte,Nat.reduceEqDiff,Nat.reduceLT]) <;> rfl⟩
      · simp (maxSteps := 3000000) (disch := omega) only [go_sem,reduceIte,Nat.reduceEqDiff,Nat.reduceLT, e3, e4, e5, e7, e9, c1, c2, c3, len24]
        exact done
    · simp (maxSteps := 3000000) (disch := omega) only [go_sem,reduceIte,Nat.reduceEqDiff,Nat.reduceLT, e3, e4, e5, e7, e9, c1, c2, len24]
      exact done
  · simp (maxSteps := 3000000) (disch := omega) only [go_sem,reduceIte,Nat.reduceEqDiff,Nat.reduceLT, e3, e4, e5, e7, e9, c1, len24]
    exact done
end
end Go.Proofs.YtoeblkenmjbfiaaDoor.Ev

