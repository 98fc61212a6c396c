/- The law DebtRings. -/
import Derived.Test.YtngpoamjhngcgaaGreatDoorPmeD9
set_option linter.unusedSimpArgs false
set_option linter.unusedVariables false
namespace Go.Proofs.YtngpoamjhngcgaaGreatDoor.Ev
open Go Go.Proofs
noncomputable section

def boolsL (n : Nat) (p : Nat → Bool) : List Value := (List.range n).map fun j => .bool (p j)
theorem boolsL_len {n : Nat} {f : Nat → Bool} : (boolsL n f).length = n := by simp [boolsL]
theorem boolsL_get {n j : Nat} {f : Nat → Bool} (h : j < n) : (boolsL n f)[j]? = some (.bool (f j)) := by simp [boolsL, h]
theorem SlV.bools_at' {B : Tr Blk} {lo hi n c b off j : Nat} {f : Nat → Bool} (s : SlV B lo hi 1 n (boolsL n f) (.slice (some ⟨b, off, none⟩) n c)) (hj : j < n) : loadv B b (off + j) = some (.bool (f j)) := by
  obtain ⟨b', off', e, _, _, hld⟩ := s.at_ (by omega)
  injection e with e
  injection e with e1 e2
  subst e1; subst e2
  rw [hld j (by omega), boolsL_get hj]
theorem boolsL_set {n R : Nat} {f : Nat → Bool} {z : Bool} (h : R < n) : (boolsL n f).take R ++ [.bool z] ++ (boolsL n f).drop (R + 1) = boolsL n fun r => if r = R then z else f r := by
  have e : (boolsL n f).take R ++ [.bool z] ++ (boolsL n f).drop (R + 1) = (boolsL n f).set R (.bool z) := by
    rw [List.set_eq_take_append_cons_drop, if_pos (by rw [boolsL_len]; exact h)]
    simp
  rw [e]
  apply List.ext_getElem?
  intro j
  rw [List.getElem?_set]
  by_cases hj : j < n
  · rw [boolsL_get hj, boolsL_len]
    by_cases e2 : R = j
    · subst e2
      simp [h, boolsL_get h]
    · simp [e2, boolsL_get hj, Ne.symm e2]
  · by_cases e2 : R = j
    · omega
    · simp only [e2, if_false]
      rw [List.getElem?_eq_none (by rw [boolsL_len]; omega), List.getElem?_eq_none (by rw [boolsL_len]; omega)]
theorem zeros_bools : ∀ n, zeros [.bool false] n = boolsL n fun _ => false := fun n => by
  apply List.ext_getElem?
  intro i
  by_cases h : i < n
  · rw [boolsL_get h, zeros_get _ (by decide) n i (by simpa using h)]
    simp [Nat.mod_one]
  · rw [List.getElem?_eq_none (by rw [zeros_length]; simp; omega), List.getElem?_eq_none (by rw [boolsL_len]; omega)]
section
variable {P : Program} {n : Nat} {ops : List Oper} {r tl : List Oper} {k : List Frm} {α : Tr Value} {h : H} {R : Rt} {ty : TypeId} {pos : String} {af : Array Edge}
theorem At_setBool {G : Nat} {x y : Operand} {lo hi N b c i : Nat} {f : Nat → Bool} {z : Bool} (hx : ev (En G) h α x = some (.pointer (some ⟨b, 0 + i, none⟩))) (hy : ev (En G) h α y = some (.bool z)) (hs : SlV h.blks lo hi 1 N (boolsL N f) (.slice (some ⟨b, 0, none⟩) N c)) (hi' : i < N) (hG : G ≤ b)
    (hk : ∀ h', Sto h h' b (0 + i) [.bool z] → SlV h'.blks lo hi 1 N (boolsL N fun r => if r = i then z else f r) (.slice (some ⟨b, 0, none⟩) N c) → At P (En G) n ops false r tl k α h' R) :
    At P (En G) n ops false (⟨none, .store 4 x y, ty, pos, af, none⟩ :: r) tl k α h R := by
  cases hs with
  | mk gb glo ghi gsz gL gc =>
    refine At_store (inf := inf4) (b := b) (off := 0 + i) (v := .bool z) i4 hx hy (by rw [size4]; rfl) rfl gb (by rw [size4]; omega) (by rw [En_G]; exact hG) fun h4 hs4 => ?_
    have e := hs4.slv (c := c) (.mk gb glo ghi gsz gL gc) (by show i + 1 ≤ N * 1; omega)
    have e2 : (Value.bool z).cells.toList = [.bool z] := rfl
    rw [e2, List.length_singleton, boolsL_set hi'] at e
    exact hk h4 hs4 e
end


theorem DOk.isD {n : Nat} {d : Nat → Nat → Int} (h : DOk n d) (h1 : 1 ≤ n) (h8 : n ≤ 8) : IsD n (fun _ => n) d := ⟨h1, h8, fun i hi => ⟨rfl, h.2 i hi, fun j hj => h.1 i j hi hj⟩⟩
theorem Can.dok {n : Nat} {d r : Nat → Nat → Int} (hd : DOk n d) (h : Can d r n) : DOk n r := ⟨h.bd.ok hd, fun i hi => by
  have h1 := h.bd i i hi hi
  have h2 := hd.2 i hi
  omega⟩
/-- cancelling again changes no sum -/
theorem Can.again {n : Nat} {d r r' : Nat → Nat → Int} (hd : DOk n d) (h : Can d r n) (h' : Can r r' n) (hb : ∀ k, k < n → bl n r k = bl n r' k) : tot n r' = tot n r := by
  obtain ⟨q, hq⟩ := h.pot
  have hb' : Bd d r' n := fun i j hi hj => by
    have h1 := h.bd i j hi hj
    have h2 := h'.bd i j hi hj
    omega
  have h1 := hq.pri.least h.bd hb' hd.2 fun k hk => (hb k hk).symm
  have h2 : tot n r' ≤ tot n r := sm_le n fun i hi => sm_le n fun j hj => (h'.bd i j hi hj).2
  omega
theorem tot_bd {n : Nat} {x : Nat → Nat → Int} (hn : n ≤ 8) (hx : ∀ i j, i < n → j < n → 0 ≤ x i j ∧ x i j ≤ 1000) : 0 ≤ tot n x ∧ tot n x ≤ 64000 := by
  have := sm_bound (K := 8000) (by omega) (f := fun i => sm n (x i)) n fun i hi => by
    have := sm_bound (K := 1000) (by omega) (f := x i) n fun j hj => hx i j hi hj
    omega
  unfold tot
  omega
theorem owes_bd {n m i : Nat} {r : Nat → Nat → Int} {G : Nat → Bool} (hr : ∀ j, j < n → 0 ≤ r i j ∧ r i j ≤ 1000) (hm : m ≤ n) (hn : n ≤ 8) : 0 ≤ sm m (fun j => if G j = true then 0 else r i j) ∧ sm m (fun j => if G j = true then 0 else r i j) ≤ 8000 := by
  have := sm_bound (K := 1000) (by omega) (f := fun j => if G j = true then 0 else r i j) m fun j hj => by
    have := hr j (by omega)
    split <;> omega
  omega

set_option maxRecDepth 100000 in
set_option maxHeartbeats 64000000 in
theorem law_DebtRings {G lo hi cy N8 : Nat} {ys : List Nat} {Ay : Option Addr} {h0 : H} (h4 : 4 ≤ h0.next) (hG : G ≤ h0.next) (ht : TabsIn tabs h0.blks) (hN : N8 ≤ 255) (hy : SlV h0.blks lo hi 1 ys.length (u16s ys) (.slice Ay ys.length cy)) (hy6 : ∀ z ∈ ys, z ≤ 65535) (hhi : hi ≤ h0.next) :
    Spec Tryz.prog (En G) 5 [.int .u8 (N8 : Int), .slice Ay ys.length cy] h0 fun v _ => v = .bool true := by
  have d00 : decide ((0 : Int) ≠ 0) = false := rfl
  have q00 : decide ((0 : Int) = 0) = true := rfl
  refine CallsE_enter (En_known (by decide)) (En_f.trans Tryz.func5) rfl ⟨Nat.le_of_ble_eq_true rfl, by decide⟩ fun Q' hQ' => ?_
  simp only [Tryz.f5, go_sem,reduceIte,Nat.reduceEqDiff,Nat.reduceLT]
  refine CallO_f (made_spec (xs := []) (Ax := none) (cx := 0) (lo := 0) (hi := 0) hG hN (.nil rfl rfl) hy (fun z hz => (by cases hz)) hy6 (Nat.zero_le _) hhi) (by omega) fun u h1 p1 ⟨n, cf, d, A1, A2, RA, rc, hk, hu, hsc, hcb, hmd, hdok⟩ => ?_
  subst hu
  have n1 := p1.next
  have hn8 : n ≤ 8 := by omega
  have hn0 : 0 < n := by omega
  have hD := hdok.isD hn0 hn8
  simp only [go_sem,reduceIte,Nat.reduceEqDiff,Nat.reduceLT]
  refine CallO_f (Cancel_spec (by omega) hmd (Nat.le_refl _) (by omega)) (by omega) fun u h2 p2 hc => ?_
  rcases hc with ⟨hD', _⟩ | ⟨_, r, B, R, O, rc', hu, hM, hcan, hbl⟩
  · exact absurd hD hD'
  subst hu
  have n2 := p2.next
  have pr2 : Pres h0.next h0 h2 := p1.trans (p2.le (by omega))
  have ht2 := TabsIn.pres ht pr2 fun x hx => Nat.lt_of_lt_of_le (tabs_lt x hx) h4
  have M1 : MatV h2.blks h0.next h2.next n (fun _ => n) d RA rc (.slice A2 n n) := ⟨(hmd.top.mono fun b _ hb => p2.get b hb).wide (Nat.le_refl _) (by omega), fun i hi => ((hmd.row i hi).mono fun b _ hb => p2.get b hb).wide (Nat.le_refl _) (by omega)⟩
  have M2 := (hM.wide (lo' := h0.next) (hi' := h2.next) (by omega) (Nat.le_refl _)).mat
  have hrok := hcan.bd.ok hdok
  have hrd := hcan.dok hdok
  have t1 := tot_bd hn8 hdok.1
  have t2 := tot_bd hn8 hrok
  simp (disch := omega) only [go_sem,reduceIte,Nat.reduceEqDiff,Nat.reduceLT, d00]
  refine CallO_same (refShape_spec (n := n) (c := n) (A := A2) M2 (by omega)) (by omega) fun u hu => ?_
  obtain ⟨y, rfl, hyy⟩ := hu
  obtain rfl : y = true := hyy.2 ⟨rfl, fun _ _ => rfl⟩
  simp (disch := omega) only [go_sem,reduceIte,Nat.reduceEqDiff,Nat.reduceLT]
  refine CallO_same (refRest_spec M1 M2 hn8 (fun _ _ => rfl) (fun _ _ => rfl) hdok.1 hcan.bd) (by omega) fun u hu => ?_
  obtain ⟨y, rfl, hyy⟩ := hu
  obtain rfl : y = true := hyy.2 hbl
  simp (disch := omega) only [go_sem,reduceIte,Nat.reduceEqDiff,Nat.reduceLT]
  refine CallO_same (Q := fun v => v = .int .i64 (tot n d)) (refSum_spec M1 (fun _ _ => rfl) hn8 fun i j hi hj => by have := hdok.1 i j hi hj; omega) (by omega) fun v hv => ?_
  subst hv
  simp (disch := omega) only [go_sem,reduceIte,Nat.reduceEqDiff,Nat.reduceLT]
  refine CallO_same (Q := fun v => v = .int .i64 (tot n r)) (refSum_spec M2 (fun _ _ => rfl) hn8 fun i j hi hj => by have := hrok i j hi hj; omega) (by omega) fun v hv => ?_
  subst hv
  have dd : decide (tot n d - tot n r ≠ tot n d - tot n r) = false := decide_eq_false fun g => g rfl
  simp (disch := omega) only [go_sem,reduceIte,Nat.reduceEqDiff,Nat.reduceLT, wrap_i64, dd]
  refine Call_lives ht2 (by omega) ?_
  simp (disch := omega) only [go_sem,reduceIte,Nat.reduceEqDiff,Nat.reduceLT, len22]
  refine At_make (k1 := .i64) (k2 := .i64) (l := n) (c := n) u42 i4 zero4 (by rw [size4, bytes4]; rfl) (by simp only [go_sem,reduceIte,Nat.reduceEqDiff,Nat.reduceLT]) (by simp only [go_sem,reduceIte,Nat.reduceEqDiff,Nat.reduceLT]) (Nat.le_refl _) (by rw [size4]; omega) (by omega) (by omega) fun h3 hn3 => ?_
  have ez : zeros (Value.bool false).cells.toList n = boolsL n fun _ => false := zeros_bools n
  rw [size4, ez] at hn3
  have n3 := hn3.next
  have s3 := hn3.slv (n := n) (c := n) (by rw [boolsL_len]; simp)
  obtain ⟨bg, hbg⟩ : ∃ bg, bg = h2.next := ⟨_, rfl⟩
  rw [n3, ← hbg] at s3
  have pr3 : Pres h2.next h2 h3 := hn3.pres (Nat.le_refl _)
  simp (disch := omega) only [go_sem,reduceIte,Nat.reduceEqDiff,Nat.reduceLT, ← hbg]
  obtain ⟨q, hq⟩ := hcan.pot
  -- round after round
  refine WK_loopN (fun j α h5 => ∃ k : Nat, k + j = n ∧ h5.next = h3.next ∧ Pres h2.next h2 h5 ∧ SlV h5.blks bg (bg + 1) 1 n (boolsL n (grd n r k)) (.slice (some ⟨bg, 0, none⟩) n n) ∧ α.get 6 = some (.slice A2 n n) ∧ α.get 7 = some (.slice (some ⟨B, 0, none⟩) n n) ∧ α.get 10 = some (.slice (some ⟨bg, 0, none⟩) n n) ∧ α.get 11 = some (.int .i64 (k : Int))) n
    ⟨0, by omega, rfl, pr3, s3, by simp only [go_sem,reduceIte,Nat.reduceEqDiff,Nat.reduceLT], by simp only [go_sem,reduceIte,Nat.reduceEqDiff,Nat.reduceLT], by (simp only [go_sem,reduceIte,Nat.reduceEqDiff,Nat.reduceLT]) <;> rfl, by (simp only [go_sem,reduceIte,Nat.reduceEqDiff,Nat.reduceLT]) <;> rfl⟩ (by omega) ?_
  rintro J j α h5 ⟨k, hkj, n5, pr5, hs5, e6, e7, e10, e11⟩ hJ
  by_cases hlt : (k : Int) < (n : Int)
  · simp (disch := omega) only [go_sem,reduceIte,Nat.reduceEqDiff,Nat.reduceLT, e6, e7, e10, e11, hlt, len22]
    refine WK_loopN (fun j α h6 => ∃ i : Nat, i + j = n ∧ h6.next = h3.next ∧ Pres h2.next h2 h6 ∧ SlV h6.blks bg (bg + 1) 1 n (boolsL n (gps n r (grd n r k) i)) (.slice (some ⟨bg, 0, none⟩) n n) ∧ α.get 6 = some (.slice A2 n n) ∧ α.get 7 = some (.slice (some ⟨B, 0, none⟩) n n) ∧ α.get 10 = some (.slice (some ⟨bg, 0, none⟩) n n) ∧ α.get 11 = some (.int .i64 (k : Int)) ∧ α.get 12 = some (.int .i64 (i : Int))) n
      ⟨0, by omega, n5, pr5, hs5, by simp only [go_sem,reduceIte,Nat.reduceEqDiff,Nat.reduceLT, e6], by simp only [go_sem,reduceIte,Nat.reduceEqDiff,Nat.reduceLT, e7], by simp only [go_sem,reduceIte,Nat.reduceEqDiff,Nat.reduceLT, e10], by simp only [go_sem,reduceIte,Nat.reduceEqDiff,Nat.reduceLT, e11], by (simp only [go_sem,reduceIte,Nat.reduceEqDiff,Nat.reduceLT]) <;> rfl⟩ (by omega) ?_
    clear e6 e7 e10 e11 hs5
    rintro J2 j2 α h6 ⟨i, hij, n6, pr6, hs6, e6, e7, e10, e11, e12⟩ hJ2
    obtain ⟨Gn, hGn⟩ : ∃ Gn, Gn = gps n r (grd n r k) i := ⟨_, rfl⟩
    have hnext : gps n r (grd n r k) (i + 1) = gst n r Gn i := by rw [hGn]; rfl
    rw [← hGn] at hs6
    by_cases hli : (i : Int) < (n : Int)
    · have hin : i < n := by omega
      simp (disch := omega) only [go_sem,reduceIte,Nat.reduceEqDiff,Nat.reduceLT, e6, e7, e10, e11, e12, hli, len22]
      have M6 := M2.mono (B' := h6.blks) fun b _ hb => pr6.get b hb
      obtain ⟨br, orr, he, l1, hr1⟩ := M6.rowS (fun _ _ => rfl) hin
      injection he with he
      injection he with x1 x2
      subst x1; subst x2
      refine WK_loopN (fun j α h7 => ∃ m : Nat, m + j = n ∧ h6 = h7 ∧ α.get 6 = some (.slice A2 n n) ∧ α.get 7 = some (.slice (some ⟨B, 0, none⟩) n n) ∧ α.get 10 = some (.slice (some ⟨bg, 0, none⟩) n n) ∧ α.get 11 = some (.int .i64 (k : Int)) ∧ α.get 12 = some (.int .i64 (i : Int)) ∧ α.get 13 = some (.int .i64 (sm m fun j => if Gn j = true then 0 else r i j)) ∧ α.get 14 = some (.int .i64 (m : Int))) n
        ⟨0, by omega, rfl, by simp only [go_sem,reduceIte,Nat.reduceEqDiff,Nat.reduceLT, e6], by simp only [go_sem,reduceIte,Nat.reduceEqDiff,Nat.reduceLT, e7], by simp only [go_sem,reduceIte,Nat.reduceEqDiff,Nat.reduceLT, e10], by simp only [go_sem,reduceIte,Nat.reduceEqDiff,Nat.reduceLT, e11], by simp only [go_sem,reduceIte,Nat.reduceEqDiff,Nat.reduceLT, e12], by (simp only [go_sem,reduceIte,Nat.reduceEqDiff,Nat.reduceLT]) <;> rfl, by (simp only [go_sem,reduceIte,Nat.reduceEqDiff,Nat.reduceLT]) <;> rfl⟩ (by omega) ?_
      clear e6 e7 e10 e11 e12
      rintro J3 j3 α h7 ⟨m, hmj, rfl, e6, e7, e10, e11, e12, e13, e14⟩ hJ3
      have ob := owes_bd (G := Gn) (fun j hj => hrok i j hin hj) (show m ≤ n by omega) hn8
      by_cases hlm : (m : Int) < (n : Int)
      · have hmn : m < n := by omega
        have lg := hs6.bools_at' hmn
        obtain ⟨b2, o2, hRA, hld⟩ := hr1.ints_at hn0
        rw [hRA] at l1
        have lr := hld m hmn
        have hstep : sm (m + 1) (fun j => if Gn j = true then 0 else r i j) = sm m (fun j => if Gn j = true then 0 else r i j) + if Gn m = true then 0 else r i m := rfl
        have hrm := hrok i m hin hmn
        cases hg : Gn m with
        | true =>
          rw [hg] at lg hstep
          simp (maxSteps := 3000000) (disch := omega) only [go_sem,reduceIte,Nat.reduceEqDiff,Nat.reduceLT, e6, e7, e10, e11, e12, e13, e14, hlm, len22, idxA42, Int.toNat_natCast, Nat.mul_one, load4, lg, wrap_i64]
          exact hJ3 (j3 - 1) _ _ (by omega) ⟨m + 1, by omega, rfl, by simp only [go_sem,reduceIte,Nat.reduceEqDiff,Nat.reduceLT, e6], by simp only [go_sem,reduceIte,Nat.reduceEqDiff,Nat.reduceLT, e7], by simp only [go_sem,reduceIte,Nat.reduceEqDiff,Nat.reduceLT, e10], by simp only [go_sem,reduceIte,Nat.reduceEqDiff,Nat.reduceLT, e11], by simp only [go_sem,reduceIte,Nat.reduceEqDiff,Nat.reduceLT, e12], by rw [hstep, if_pos rfl, Int.add_zero]; simp only [go_sem,reduceIte,Nat.reduceEqDiff,Nat.reduceLT, e13], by (simp only [go_sem,reduceIte,Nat.reduceEqDiff,Nat.reduceLT]) <;> rfl⟩
        | false =>
          rw [hg] at lg hstep
          simp (maxSteps := 3000000) (disch := omega) only [go_sem,reduceIte,Nat.reduceEqDiff,Nat.reduceLT, e6, e7, e10, e11, e12, e13, e14, hlm, len22, idxA42, idxA22, idxA23, Int.toNat_natCast, Nat.mul_one, load4, load23, load3, lg, l1, lr, wrap_i64]
          exact hJ3 (j3 - 1) _ _ (by omega) ⟨m + 1, by omega, rfl, by simp only [go_sem,reduceIte,Nat.reduceEqDiff,Nat.reduceLT, e6], by simp only [go_sem,reduceIte,Nat.reduceEqDiff,Nat.reduceLT, e7], by simp only [go_sem,reduceIte,Nat.reduceEqDiff,Nat.reduceLT, e10], by simp only [go_sem,reduceIte,Nat.reduceEqDiff,Nat.reduceLT, e11], by simp only [go_sem,reduceIte,Nat.reduceEqDiff,Nat.reduceLT, e12], by rw [hstep, if_neg (by simp)]; simp only [go_sem,reduceIte,Nat.reduceEqDiff,Nat.reduceLT], by (simp only [go_sem,reduceIte,Nat.reduceEqDiff,Nat.reduceLT]) <;> rfl⟩
      · obtain rfl : m = n := by omega
        clear hJ3
        have lg := hs6.bools_at' hin
        have hgst : ∀ x, gst m r Gn i x = (if x = i then (Gn i || decide (owes m r Gn i = 0)) else Gn x) := fun x => rfl
        have step : ∀ (α' : Tr Value) (h7 : H), Sto h6 h7 bg (0 + i) [.bool (Gn i || decide (owes m r Gn i = 0))] → SlV h7.blks bg (bg + 1) 1 m (boolsL m fun x => if x = i then (Gn i || decide (owes m r Gn i = 0)) else Gn x) (.slice (some ⟨bg, 0, none⟩) m m) → α'.get 6 = some (.slice A2 m m) → α'.get 7 = some (.slice (some ⟨B, 0, none⟩) m m) → α'.get 10 = some (.slice (some ⟨bg, 0, none⟩) m m) → α'.get 11 = some (.int .i64 (k : Int)) → α'.get 12 = some (.int .i64 ((i + 1 : Nat) : Int)) → J2 α' h7 := fun α' h7 hs hf a6 a7 a10 a11 a12 =>
          hJ2 (j2 - 1) _ _ (by omega) ⟨i + 1, by omega, hs.next.trans n6, pr6.trans (hs.pres (by omega)), by rw [hnext]; exact hf, a6, a7, a10, a11, a12⟩
        cases hg : Gn i with
        | true =>
          rw [hg] at lg step
          simp (maxSteps := 3000000) (disch := omega) only [go_sem,reduceIte,Nat.reduceEqDiff,Nat.reduceLT, e6, e7, e10, e11, e12, e13, e14, hlm, len22, idxA42, Int.toNat_natCast, Nat.mul_one, load4, lg]
          refine At_setBool (i := i) (z := true) (by simp only [go_sem,reduceIte,Nat.reduceEqDiff,Nat.reduceLT]) (by simp only [go_sem,reduceIte,Nat.reduceEqDiff,Nat.reduceLT]) hs6 hin (by omega) fun h7 hs7 hf7 => ?_
          simp (disch := omega) only [go_sem,reduceIte,Nat.reduceEqDiff,Nat.reduceLT, e12, wrap_i64]
          exact step _ h7 hs7 hf7 (by simp only [go_sem,reduceIte,Nat.reduceEqDiff,Nat.reduceLT, e6]) (by simp only [go_sem,reduceIte,Nat.reduceEqDiff,Nat.reduceLT, e7]) (by simp only [go_sem,reduceIte,Nat.reduceEqDiff,Nat.reduceLT, e10]) (by simp only [go_sem,reduceIte,Nat.reduceEqDiff,Nat.reduceLT, e11]) (by (simp only [go_sem,reduceIte,Nat.reduceEqDiff,Nat.reduceLT]) <;> rfl)
        | false =>
          rw [hg] at lg step
          simp (maxSteps := 3000000) (disch := omega) only [go_sem,reduceIte,Nat.reduceEqDiff,Nat.reduceLT, e6, e7, e10, e11, e12, e13, e14, hlm, len22, idxA42, Int.toNat_natCast, Nat.mul_one, load4, lg]
          refine At_setBool (i := i) (z := decide (owes m r Gn i = 0)) (by simp only [go_sem,reduceIte,Nat.reduceEqDiff,Nat.reduceLT]) (by (simp only [go_sem,reduceIte,Nat.reduceEqDiff,Nat.reduceLT]) <;> rfl) hs6 hin (by omega) fun h7 hs7 hf7 => ?_
          simp (disch := omega) only [go_sem,reduceIte,Nat.reduceEqDiff,Nat.reduceLT, e12, wrap_i64]
          exact step _ h7 hs7 hf7 (by simp only [go_sem,reduceIte,Nat.reduceEqDiff,Nat.reduceLT, e6]) (by simp only [go_sem,reduceIte,Nat.reduceEqDiff,Nat.reduceLT, e7]) (by simp only [go_sem,reduceIte,Nat.reduceEqDiff,Nat.reduceLT, e10]) (by simp only [go_sem,reduceIte,Nat.reduceEqDiff,Nat.reduceLT, e11]) (by (simp only [go_sem,reduceIte,Nat.reduceEqDiff,Nat.reduceLT]) <;> rfl)
    · obtain rfl : i = n := by omega
      clear hJ2
      simp (disch := omega) only [go_sem,reduceIte,Nat.reduceEqDiff,Nat.reduceLT, e6, e7, e10, e11, e12, hli, len22, wrap_i64]
      exact hJ (j - 1) _ _ (by omega) ⟨k + 1, by omega, n6, pr6, by rw [show grd i r (k + 1) = Gn by rw [hGn]; rfl]; exact hs6, by simp only [go_sem,reduceIte,Nat.reduceEqDiff,Nat.reduceLT, e6], by simp only [go_sem,reduceIte,Nat.reduceEqDiff,Nat.reduceLT, e7], by simp only [go_sem,reduceIte,Nat.reduceEqDiff,Nat.reduceLT, e10], by (simp only [go_sem,reduceIte,Nat.reduceEqDiff,Nat.reduceLT]) <;> rfl⟩
  · obtain rfl : k = n := by omega
    clear hJ
    have hall := grd_all hq.pri hcan.bd hdok.2
    simp (disch := omega) only [go_sem,reduceIte,Nat.reduceEqDiff,Nat.reduceLT, e6, e7, e10, e11, hlt, len22]
    refine WK_loopN (fun j α h6 => ∃ i : Nat, i + j = k ∧ h5 = h6 ∧ α.get 6 = some (.slice A2 k k) ∧ α.get 7 = some (.slice (some ⟨B, 0, none⟩) k k) ∧ α.get 10 = some (.slice (some ⟨bg, 0, none⟩) k k) ∧ α.get 15 = some (.int .i64 (i : Int))) k
      ⟨0, by omega, rfl, by simp only [go_sem,reduceIte,Nat.reduceEqDiff,Nat.reduceLT, e6], by simp only [go_sem,reduceIte,Nat.reduceEqDiff,Nat.reduceLT, e7], by simp only [go_sem,reduceIte,Nat.reduceEqDiff,Nat.reduceLT, e10], by (simp only [go_sem,reduceIte,Nat.reduceEqDiff,Nat.reduceLT]) <;> rfl⟩ (by omega) ?_
    clear e6 e7 e10 e11
    rintro J j α h6 ⟨i, hij, rfl, e6, e7, e10, e15⟩ hJ
    by_cases hli : (i : Int) < (k : Int)
    · have lg := hs5.bools_at' (j := i) (by omega)
      rw [hall i (by omega)] at lg
      simp (maxSteps := 3000000) (disch := omega) only [go_sem,reduceIte,Nat.reduceEqDiff,Nat.reduceLT, e6, e7, e10, e15, hli, len22, idxA42, Int.toNat_natCast, Nat.mul_one, load4, lg, wrap_i64]
      exact hJ (j - 1) _ _ (by omega) ⟨i + 1, by omega, rfl, by simp only [go_sem,reduceIte,Nat.reduceEqDiff,Nat.reduceLT, e6], by simp only [go_sem,reduceIte,Nat.reduceEqDiff,Nat.reduceLT, e7], by simp only [go_sem,reduceIte,Nat.reduceEqDiff,Nat.reduceLT, e10], by (simp only [go_sem,reduceIte,Nat.reduceEqDiff,Nat.reduceLT]) <;> rfl⟩
    · obtain rfl : i = k := by omega
      clear hJ
      have pr05 : Pres h0.next h0 h5 := pr2.trans (pr5.le (by omega))
      have M5 := M2.mono (B' := h5.blks) fun b _ hb => pr5.get b hb
      simp (maxSteps := 3000000) (disch := omega) only [go_sem,reduceIte,Nat.reduceEqDiff,Nat.reduceLT, e6, e7, e10, e15, hli, len22]
      refine CallO_f (Cancel_spec (by omega) M5 (by omega) (by omega)) (by omega) fun u h8 p8 hc => ?_
      rcases hc with ⟨hD', _⟩ | ⟨_, r2, B8, R8, O8, rc8, hu, hM8, hcan2, hbl2⟩
      · exact absurd (hrd.isD hn0 hn8) hD'
      subst hu
      have n8 := p8.next
      have hag := Can.again hdok hcan hcan2 hbl2
      have hz : tot i r - tot i r2 = 0 := by omega
      have M8a : MatV h8.blks h0.next h8.next i (fun _ => i) r (cR R O) rc' (.slice (some ⟨B, 0, none⟩) i i) := ⟨(M5.top.mono fun b _ hb => p8.get b (by omega)).wide (Nat.le_refl _) (by omega), fun a ha => ((M5.row a ha).mono fun b _ hb => p8.get b (by omega)).wide (Nat.le_refl _) (by omega)⟩
      have M8 := (hM8.wide (lo' := h0.next) (hi' := h8.next) (by omega) (Nat.le_refl _)).mat
      have hr2ok := hcan2.bd.ok hrd
      simp (disch := omega) only [go_sem,reduceIte,Nat.reduceEqDiff,Nat.reduceLT, e6, e7, q00, hz]
      refine CallO_same (refShape_spec (n := i) (c := i) (A := some ⟨B, 0, none⟩) M8 (by omega)) (by omega) fun u hu => ?_
      obtain ⟨y, rfl, hyy⟩ := hu
      obtain rfl : y = true := hyy.2 ⟨rfl, fun _ _ => rfl⟩
      simp (disch := omega) only [go_sem,reduceIte,Nat.reduceEqDiff,Nat.reduceLT, e6, e7]
      refine CallO_same (Q := fun v => v = .int .i64 (tot i r2)) (refSum_spec M8 (fun _ _ => rfl) hn8 fun a b ha hb => by have := hr2ok a b ha hb; omega) (by omega) fun v hv => ?_
      subst hv
      simp (disch := omega) only [go_sem,reduceIte,Nat.reduceEqDiff,Nat.reduceLT, e6, e7]
      refine CallO_same (Q := fun v => v = .int .i64 (tot i r)) (refSum_spec M8a (fun _ _ => rfl) hn8 fun a b ha hb => by have := hrok a b ha hb; omega) (by omega) fun v hv => ?_
      subst hv
      have de : decide (tot i r2 = tot i r) = true := decide_eq_true hag
      simp (disch := omega) only [go_sem,reduceIte,Nat.reduceEqDiff,Nat.reduceLT, de]
      exact hQ' _ _ ⟨pr05.trans (p8.le (by omega)), rfl⟩
end
end Go.Proofs.YtngpoamjhngcgaaGreatDoor.Ev

