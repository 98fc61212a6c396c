/- The reference's lines: one edge after the other, what it touches is put into it. -/
import Derived.Test.YtnhbkoeomefkdaaDoorPmhUB
set_option linter.unusedVariables false
set_option linter.unusedSimpArgs false
namespace Go.Proofs.YtnhbkoeomefkdaaDoor.Ev.L
open Go Go.Proofs Go.Proofs.YtnhbkoeomefkdaaDoor.Ev
noncomputable section

theorem edg_get : ∀ {L : List Sq} {i k : Nat} {q : Sq}, L[i]? = some q → k < 2 → (edg L)[2 * i + k]? = some (q.2.1 + (k : Int) * q.2.2, q.1, q.1 + q.2.2)
  | [], i, k, q, h, hk => by simp at h
  | a :: L, 0, k, q, h, hk => by
    have ha : a = q := by simpa using h
    subst ha
    have e : edg (a :: L) = (a.2.1, a.1, a.1 + a.2.2) :: (a.2.1 + a.2.2, a.1, a.1 + a.2.2) :: edg L := rfl
    rw [e]
    match k, hk with
    | 0, _ => simp
    | 1, _ => simp
  | a :: L, i + 1, k, q, h, hk => by
    have h' : L[i]? = some q := by simpa using h
    have := edg_get h' hk
    have e : edg (a :: L) = (a.2.1, a.1, a.1 + a.2.2) :: (a.2.1 + a.2.2, a.1, a.1 + a.2.2) :: edg L := rfl
    rw [e, show 2 * (i + 1) + k = (2 * i + k) + 1 + 1 by omega, List.getElem?_cons_succ, List.getElem?_cons_succ]
    exact this
theorem edg_perm {L M : List Sq} (h : L.Perm M) {y x : Int} : cvr (edg L) y x ↔ cvr (edg M) y x := by
  have hp : (edg L).Perm (edg M) := h.flatMap_right _
  unfold cvr
  exact ⟨fun ⟨q, hq, g⟩ => ⟨q, hp.mem_iff.1 hq, g⟩, fun ⟨q, hq, g⟩ => ⟨q, hp.mem_iff.2 hq, g⟩⟩
/-- lines as they come -/
structure LSt (L : List Sq) (m : Nat) (S : List Sq) : Prop where
  sep : Sep S
  cv : ∀ y x, cvr S y x ↔ cvr ((edg L).take m) y x
  len : S.length ≤ m
theorem lst_zero {L : List Sq} : LSt L 0 [] := ⟨Sep.nil, fun y x => by simp, Nat.le_refl _⟩
theorem lst_put {L S R : List Sq} {m t : Nat} {n0 n : Sq} (s : LSt L m S) (he : (edg L)[m]? = some n0) (f : FzOk S n0 S.length R n) (hlt : ∀ i q, i < t → R[i]? = some q → ltE q n) (hge : ∀ q, R[t]? = some q → ¬ ltE q n) (hat : t ≤ R.length) : LSt L (m + 1) (R.take t ++ n :: R.drop t) := by
  obtain ⟨h1, h2⟩ := put_sep s.sep f hlt hge hat
  refine ⟨h1, fun y x => ?_, ?_⟩
  · rw [h2, s.cv, take_snoc he, cvr_app, cvr_cons]
    simp [cvr_nil]
  · have hs : R.Sublist (S.take S.length) := f.sub
    have := hs.length_le
    have := s.len
    simp only [List.length_append, List.length_cons, List.length_take, List.length_drop] at *
    omega
theorem WK_regionV3 {P : Program} {E : Env} [NoFz E] {n : Nat} {k : List Frm} {α : Tr Value} {h : H} {R : Rt} {id : Nat} {ops : Array Oper} (p : Nat) (hm : cutAt ops = p + 1 ∧ wAt ops (p + 1) = true ∧ regOkW ops p = true)
    (hk : At P E n ops.toList true (ops.toList.take p) [] (.inv (fun α1 h1 => lateB E h1 α1 ops p = true ∧ At P E n ops.toList false (ops.toList.drop p) [] k α1 h1 R) :: []) α h R) : WK P E n (.region id ops true) k α h R := by
  obtain ⟨F, α1, h1, hq, hk⟩ := hk
  have hk := WL_nil.1 hk
  exact WK_regionW p hm ⟨F, α1, h1, hq, hk⟩
theorem v3.w {B : Tr Blk} {b : Nat} {q : Sq} (v : Var B b [.int .i64 q.1, .int .i64 q.2.1, .int .i64 q.2.2]) : loadv B b 0 = some (.int .i64 q.1) ∧ loadv B b 1 = some (.int .i64 q.2.1) ∧ loadv B b 2 = some (.int .i64 q.2.2) := v.sq

set_option maxRecDepth 100000 in
set_option maxHeartbeats 64000000 in
theorem Lines_spec {G lo hi c : Nat} {L : List Sq} {A : Option Addr} {h : H} (hG : G ≤ h.next) (hG3 : 3 ≤ G) (hhi : hi ≤ h.next) (hv : SlV h.blks lo hi 3 L.length (sqc L) (.slice A L.length c)) (hl : L.length ≤ 24) (hok : ∀ q ∈ L, okSq q) :
    Spec Tryd.prog (En G) 47 [.slice A L.length c] h fun v h' => ∃ (S : List Sq) (B : Option Addr), v = .slice B S.length S.length ∧ LSt L (2 * L.length) S ∧ SlV h'.blks h.next h'.next 3 S.length (sqc S) (.slice B S.length S.length) := by
  refine CallsE_enter (En_known (by decide)) (En_f.trans Tryd.func47) rfl ⟨Nat.le_of_ble_eq_true rfl, by decide⟩ fun Q' hQ' => ?_
  simp only [Tryd.f47, go_sem,reduceIte,Nat.reduceEqDiff,Nat.reduceLT]
  refine At_lit0 u80 i83 zero83 (by rw [size83]; rfl) (by omega) ?_
  simp only [go_sem,reduceIte,Nat.reduceEqDiff,Nat.reduceLT]
  refine WK_loopN (fun j α h2 => ∃ (i : Nat) (B : Option Addr) (S : List Sq), i + j = L.length ∧ Pres h.next h h2 ∧ LSt L (2 * i) S ∧ SlV h2.blks h.next h2.next 3 S.length (sqc S) (.slice B S.length S.length) ∧ α.get 0 = some (.slice A L.length c) ∧ α.get 3 = some (.slice B S.length S.length) ∧ α.get 4 = some (.int .i64 (i : Int))) L.length
    ⟨0, some ⟨0, 0, some 0⟩, [], by omega, Pres.refl _ _, lst_zero, .emp rfl rfl, by simp only [go_sem,reduceIte,Nat.reduceEqDiff,Nat.reduceLT], by (simp only [go_sem,reduceIte,Nat.reduceEqDiff,Nat.reduceLT]) <;> rfl, by (simp only [go_sem,reduceIte,Nat.reduceEqDiff,Nat.reduceLT]) <;> rfl⟩ (by omega) ?_
  rintro J j α h2 ⟨i, B, S, hij, pr, hS, hs, e0, e3, e4⟩ hJ
  by_cases hlt : (i : Int) < (L.length : Int)
  · obtain ⟨q, hq⟩ : ∃ q, L[i]? = some q := ⟨_, List.getElem?_eq_getElem (show i < L.length by omega)⟩
    obtain ⟨qa1, qa2, ⟨qa3, qa4⟩, qa5, qa6⟩ := hok q (List.mem_of_getElem? hq)
    obtain ⟨bA, oA, rfl, _, _, _⟩ := hv.at_ (by omega)
    simp (disch := omega) only [go_sem,reduceIte,Nat.reduceEqDiff,Nat.reduceLT, e0, e3, e4, hlt, len22]
    refine WK_loopN (fun j α h2 => ∃ (k : Nat) (B : Option Addr) (S : List Sq), k + j = 2 ∧ Pres h.next h h2 ∧ LSt L (2 * i + k) S ∧ SlV h2.blks h.next h2.next 3 S.length (sqc S) (.slice B S.length S.length) ∧ α.get 0 = some (.slice (some ⟨bA, oA, none⟩) L.length c) ∧ α.get 3 = some (.slice B S.length S.length) ∧ α.get 4 = some (.int .i64 (i : Int)) ∧ α.get 5 = some (.int .i64 (k : Int))) 2
      ⟨0, B, S, by omega, pr, hS, hs, by simp only [go_sem,reduceIte,Nat.reduceEqDiff,Nat.reduceLT, e0], by simp only [go_sem,reduceIte,Nat.reduceEqDiff,Nat.reduceLT, e3], by simp only [go_sem,reduceIte,Nat.reduceEqDiff,Nat.reduceLT, e4], by (simp only [go_sem,reduceIte,Nat.reduceEqDiff,Nat.reduceLT]) <;> rfl⟩ (by omega) ?_
    clear e0 e3 e4 hs hS pr
    rintro J2 j2 α h2 ⟨k, B, S, hkj, pr, hS, hs, e0, e3, e4, e5⟩ hJ2
    have n2 := pr.next
    by_cases hk : (k : Int) < 2
    · have hv2 := hv.mono (B' := h2.blks) fun b _ hb => pr.get b (by omega)
      obtain ⟨_, la0, la1, la2⟩ := hv2.sq_at (G := G) hq rfl
      have hkz : 0 ≤ (k : Int) * q.2.2 ∧ (k : Int) * q.2.2 ≤ q.2.2 := by
        have : k = 0 ∨ k = 1 := by omega
        rcases this with rfl | rfl
        · simp; omega
        · simp; omega
      have hSl := hS.len
      obtain ⟨n0, hn0⟩ : ∃ n0 : Sq, n0 = (q.2.1 + (k : Int) * q.2.2, q.1, q.1 + q.2.2) := ⟨_, rfl⟩
      have he := edg_get hq (show k < 2 by omega)
      rw [← hn0] at he
      have hn0p : n0.2.1 < n0.2.2 := by rw [hn0]; show q.1 < q.1 + q.2.2; omega
      simp (disch := omega) only [go_sem,reduceIte,Nat.reduceEqDiff,Nat.reduceLT, e0, e3, e4, e5, hk]
      refine WK_regionT 31 ⟨by kernel_rfl, by kernel_rfl, by kernel_rfl⟩ ?_
      simp (maxSteps := 3000000) (disch := omega) only [go_sem,reduceIte,Nat.reduceEqDiff,Nat.reduceLT, e0, e3, e4, e5, idxA22, Int.toNat_natCast, fld61_0, fld61_1, fld61_2, Nat.add_zero, load3, la0, la1, la2, wrap_i64, build83]
      refine At_alloc i83 zero83 rfl (by omega) fun h3 hn3 => ?_
      have n3 := hn3.next
      have w3 := hn3.var
      rw [sqv_cells] at w3
      have p3 : Pres h2.next h2 h3 := hn3.pres (Nat.le_refl _)
      try simp only [go_sem,reduceIte,Nat.reduceEqDiff,Nat.reduceLT]
      refine At_storeV (v := sqv n0) i83 (by simp only [go_sem,reduceIte,Nat.reduceEqDiff,Nat.reduceLT]) (by rw [hn0]; (simp only [go_sem,reduceIte,Nat.reduceEqDiff,Nat.reduceLT]) <;> rfl) w3 (by rw [size83]; rfl) (by rw [size83]; rfl) rfl (by rw [En_G]; omega) fun h4 hs4 v4 => ?_
      rw [sqv_cells] at v4
      have p4 : Pres h2.next h2 h4 := p3.trans (hs4.pres (Nat.le_refl _))
      have n4 : h4.next = h3.next := hs4.next
      try simp only [go_sem,reduceIte,Nat.reduceEqDiff,Nat.reduceLT]
      refine At_lit0 u80 i83 zero83 (by rw [size83]; rfl) (by omega) ?_
      simp only [go_sem,reduceIte,Nat.reduceEqDiff,Nat.reduceLT]
      refine WK_loopN (fun j α h5 => ∃ (m : Nat) (R : List Sq) (nn : Sq) (D : Option Addr), m + j = S.length ∧ fz S n0 m = (R, nn) ∧ Pres h2.next h2 h5 ∧ h4.next ≤ h5.next ∧ Var h5.blks h2.next [.int .i64 nn.1, .int .i64 nn.2.1, .int .i64 nn.2.2] ∧ SlV h5.blks h4.next h5.next 3 R.length (sqc R) (.slice D R.length R.length) ∧ α.get 0 = some (.slice (some ⟨bA, oA, none⟩) L.length c) ∧ α.get 3 = some (.slice B S.length S.length) ∧ α.get 4 = some (.int .i64 (i : Int)) ∧ α.get 5 = some (.int .i64 (k : Int)) ∧ α.get 6 = some (.pointer (some ⟨h2.next, 0, none⟩)) ∧ α.get 7 = some (.slice D R.length R.length) ∧ α.get 8 = some (.int .i64 (m : Int))) S.length
        ⟨0, [], n0, some ⟨0, 0, some 0⟩, by omega, fz_zero, p4, Nat.le_refl _, v4, .emp rfl rfl, by simp only [go_sem,reduceIte,Nat.reduceEqDiff,Nat.reduceLT, e0], by simp only [go_sem,reduceIte,Nat.reduceEqDiff,Nat.reduceLT, e3], by simp only [go_sem,reduceIte,Nat.reduceEqDiff,Nat.reduceLT, e4], by simp only [go_sem,reduceIte,Nat.reduceEqDiff,Nat.reduceLT, e5], by simp only [go_sem,reduceIte,Nat.reduceEqDiff,Nat.reduceLT], by (simp only [go_sem,reduceIte,Nat.reduceEqDiff,Nat.reduceLT]) <;> rfl, by (simp only [go_sem,reduceIte,Nat.reduceEqDiff,Nat.reduceLT]) <;> rfl⟩ (by omega) ?_
      clear e0 e3 e4 e5
      rintro J3 j3 α h5 ⟨m, R, nn, D, hmj, hfz, p5, nx5, v5, hr5, e0, e3, e4, e5, e6, e7, e8⟩ hJ3
      have n5 := p5.next
      have hfk := fz_ok hS.sep hn0p m (by omega)
      rw [hfz] at hfk
      have hfk : FzOk S n0 m R nn := hfk
      have hRl : R.length ≤ m := by
        have := hfk.sub.length_le
        rw [List.length_take] at this
        omega
      obtain ⟨q0, q1, q2⟩ := v5.sq
      have hs5 := hs.mono (B' := h5.blks) fun b _ hb => p5.get b (by omega)
      by_cases hm : (m : Int) < (S.length : Int)
      · obtain ⟨a, ha⟩ : ∃ a, S[m]? = some a := ⟨_, List.getElem?_eq_getElem (show m < S.length by omega)⟩
        obtain ⟨bS, oS, rfl, bS1, bS2, _⟩ := hs5.at_ (by omega)
        obtain ⟨_, a0, a1, a2⟩ := hs5.sq_at (G := G) ha rfl
        have laa := ln_at (G := G) agg83 i83 size83 hs5 ha rfl
        have hstep := fz_step (n := n0) ha
        rw [hfz] at hstep
        by_cases c1 : a.1 = nn.1
        · have d1 : decide (a.1 = nn.1) = true := decide_eq_true c1
          by_cases c2 : a.2.1 ≤ nn.2.2
          · by_cases c3 : nn.2.1 ≤ a.2.2
            · have hnx : fz S n0 (m + 1) = (R, grow nn a) := hstep.trans (if_pos ⟨c1, c2, c3⟩)
              simp (maxSteps := 3000000) (disch := omega) only [go_sem,reduceIte,Nat.reduceEqDiff,Nat.reduceLT, e0, e3, e4, e5, e6, e7, e8, hm, len80]
              refine WK_regionT 26 ⟨by kernel_rfl, by kernel_rfl, by kernel_rfl⟩ ?_
              simp (maxSteps := 3000000) (disch := omega) only [go_sem,reduceIte,Nat.reduceEqDiff,Nat.reduceLT, e0, e3, e4, e5, e6, e7, e8, idxA80, Int.toNat_natCast, fld83_0, fld83_1, fld83_2, Nat.add_zero, Nat.zero_add, load3, q0, q1, q2, a0, a1, a2, d1, c2, c3]
              refine WK_regionV3 17 ⟨by kernel_rfl, by kernel_rfl, by kernel_rfl⟩ ?_
              simp (maxSteps := 3000000) (disch := omega) only [go_sem,reduceIte,Nat.reduceEqDiff,Nat.reduceLT, e0, e3, e4, e5, e6, e7, e8, idxA80, Int.toNat_natCast, fld83_0, fld83_1, fld83_2, Nat.add_zero, Nat.zero_add, load3, q0, q1, q2, a0, a1, a2]
              refine ⟨?_, ?_⟩
              · have hne : Nat.beq bS h2.next = false := by
                  cases hb : Nat.beq bS h2.next with
                  | true => exact absurd (Nat.eq_of_beq_eq_true hb) (by omega)
                  | false => rfl
                unfold lateB
                simp (maxSteps := 3000000) only [go_sem,reduceIte,Nat.reduceEqDiff,Nat.reduceLT, nth, List.range, List.range.loop, List.all_cons, List.all_nil, waits]
                simp [Region.binds, hne, freeOp, lateOp]
              · have v5' := v5
                obtain ⟨cls, es, gb, _⟩ := v5
                refine At_store (inf := inf3) (b := h2.next) (off := 1) (v := .int .i64 (min nn.2.1 a.2.1)) i3 (by simp only [go_sem,reduceIte,Nat.reduceEqDiff,Nat.reduceLT]) (by simp only [go_sem,reduceIte,Nat.reduceEqDiff,Nat.reduceLT]) (by rw [size3]; rfl) rfl gb (by rw [size3]; show 1 + 1 ≤ 3; omega) (by rw [En_G]; omega) fun h6 hs6 => ?_
                have v6 : Var h6.blks h2.next [.int .i64 nn.1, .int .i64 (min nn.2.1 a.2.1), .int .i64 nn.2.2] := hs6.varAt v5' (by show 1 + 1 ≤ 3; omega)
                have n6 := hs6.next
                simp (maxSteps := 3000000) (disch := omega) only [go_sem,reduceIte,Nat.reduceEqDiff,Nat.reduceLT, e0, e3, e4, e5, e6, e7, e8, fld83_2, Nat.zero_add]
                have v6' := v6
                obtain ⟨cls2, es2, gb2, _⟩ := v6
                refine At_store (inf := inf3) (b := h2.next) (off := 2) (v := .int .i64 (max nn.2.2 a.2.2)) i3 (by simp only [go_sem,reduceIte,Nat.reduceEqDiff,Nat.reduceLT]) (by simp only [go_sem,reduceIte,Nat.reduceEqDiff,Nat.reduceLT]) (by rw [size3]; rfl) rfl gb2 (by rw [size3]; show 2 + 1 ≤ 3; omega) (by rw [En_G]; omega) fun h7 hs7 => ?_
                have v7 : Var h7.blks h2.next [.int .i64 nn.1, .int .i64 (min nn.2.1 a.2.1), .int .i64 (max nn.2.2 a.2.2)] := hs7.varAt v6' (by show 2 + 1 ≤ 3; omega)
                have n7 := hs7.next
                have hr7 := hr5.mono (B' := h7.blks) fun b hb _ => by rw [hs7.get b (by omega), hs6.get b (by omega)]
                simp (maxSteps := 3000000) (disch := omega) only [go_sem,reduceIte,Nat.reduceEqDiff,Nat.reduceLT, e0, e3, e4, e5, e6, e7, e8, wrap_i64]
                exact hJ3 (j3 - 1) _ _ (by omega) ⟨m + 1, R, grow nn a, D, by omega, hnx, p5.trans (((hs6.pres (Nat.le_refl _)).trans (hs7.pres (Nat.le_refl _))).le (by omega)), by omega, v7, hr7.wide (Nat.le_refl _) (by omega), by simp only [go_sem,reduceIte,Nat.reduceEqDiff,Nat.reduceLT, e0], by simp only [go_sem,reduceIte,Nat.reduceEqDiff,Nat.reduceLT, e3], by simp only [go_sem,reduceIte,Nat.reduceEqDiff,Nat.reduceLT, e4], by simp only [go_sem,reduceIte,Nat.reduceEqDiff,Nat.reduceLT, e5], by simp only [go_sem,reduceIte,Nat.reduceEqDiff,Nat.reduceLT, e6], by simp only [go_sem,reduceIte,Nat.reduceEqDiff,Nat.reduceLT, e7], by (simp only [go_sem,reduceIte,Nat.reduceEqDiff,Nat.reduceLT]) <;> rfl⟩
            · have hnx : fz S n0 (m + 1) = (R ++ [a], nn) := hstep.trans (if_neg fun g => c3 g.2.2)
              simp (maxSteps := 3000000) (disch := omega) only [go_sem,reduceIte,Nat.reduceEqDiff,Nat.reduceLT, e0, e3, e4, e5, e6, e7, e8, hm, len80]
              refine WK_regionT 26 ⟨by kernel_rfl, by kernel_rfl, by kernel_rfl⟩ ?_
              simp (maxSteps := 3000000) (disch := omega) only [go_sem,reduceIte,Nat.reduceEqDiff,Nat.reduceLT, e0, e3, e4, e5, e6, e7, e8, idxA80, Int.toNat_natCast, fld83_0, fld83_1, fld83_2, Nat.add_zero, Nat.zero_add, load3, q0, q1, q2, a0, a1, a2, laa, d1, c2, c3]
              refine At_lit (vs := [(0, sqv a)]) (cs := #[.int .i64 a.1, .int .i64 a.2.1, .int .i64 a.2.2]) u80 i83 zero83 (by rw [size83]; rfl) (by simp only [go_sem,reduceIte,Nat.reduceEqDiff,Nat.reduceLT]) (by rw [size83]; rfl) (by omega) fun h6 hn6 => ?_
              rw [size83] at hn6
              have n6 := hn6.next
              have hsx : SlV h6.blks h5.next h6.next 3 1 (sqc [a]) (.slice (some ⟨h5.next, 0, none⟩) 1 1) := hn6.slv rfl
              have hr6 := hr5.mono (B' := h6.blks) fun b _ hb => by rw [hn6.get, if_neg (by omega)]
              try simp only [go_sem,reduceIte,Nat.reduceEqDiff,Nat.reduceLT]
              refine At_append2 (lo := h4.next) (hi := h5.next) (A := D) (sl := R.length) (m := 1) (L := sqc R) (M := sqc [a]) (v := .slice (some ⟨h5.next, 0, none⟩) 1 1) u80 u80 i83 zero83 (by rw [size83, bytes83]; rfl) (by simp only [go_sem,reduceIte,Nat.reduceEqDiff,Nat.reduceLT, e7]) (by rw [size83]; exact hr6) (by omega) (by rw [En_G]; omega) (by omega) (by simp only [go_sem,reduceIte,Nat.reduceEqDiff,Nat.reduceLT]) (by rw [size83]; exact hsx) (by omega) sqc_one (by omega) fun D7 h7 pr7 hs7 => ?_
              rw [size83, ← sqc_app] at hs7
              have hl7 : R.length + 1 = (R ++ [a]).length := by rw [List.length_append]; rfl
              rw [hl7] at hs7 ⊢
              have n7 := pr7.next
              have v7 := v5.mono (B' := h7.blks) (by rw [pr7.get _ (by omega), hn6.get, if_neg (by omega)])
              simp (disch := omega) only [go_sem,reduceIte,Nat.reduceEqDiff,Nat.reduceLT, e0, e3, e4, e5, e6, e8, wrap_i64]
              exact hJ3 (j3 - 1) _ _ (by omega) ⟨m + 1, R ++ [a], nn, D7, by omega, hnx, p5.trans ((hn6.pres (by omega)).trans (pr7.le (by omega))), by omega, v7, hs7, by simp only [go_sem,reduceIte,Nat.reduceEqDiff,Nat.reduceLT, e0], by simp only [go_sem,reduceIte,Nat.reduceEqDiff,Nat.reduceLT, e3], by simp only [go_sem,reduceIte,Nat.reduceEqDiff,Nat.reduceLT, e4], by simp only [go_sem,reduceIte,Nat.reduceEqDiff,Nat.reduceLT, e5], by simp only [go_sem,reduceIte,Nat.reduceEqDiff,Nat.reduceLT, e6], by simp only [go_sem,reduceIte,Nat.reduceEqDiff,Nat.reduceLT], by (simp only [go_sem,reduceIte,Nat.reduceEqDiff,Nat.reduceLT]) <;> rfl⟩
          · have hnx : fz S n0 (m + 1) = (R ++ [a], nn) := hstep.trans (if_neg fun g => c2 g.2.1)
            simp (maxSteps := 3000000) (disch := omega) only [go_sem,reduceIte,Nat.reduceEqDiff,Nat.reduceLT, e0, e3, e4, e5, e6, e7, e8, hm, len80]
            refine WK_regionT 26 ⟨by kernel_rfl, by kernel_rfl, by kernel_rfl⟩ ?_
            simp (maxSteps := 3000000) (disch := omega) only [go_sem,reduceIte,Nat.reduceEqDiff,Nat.reduceLT, e0, e3, e4, e5, e6, e7, e8, idxA80, Int.toNat_natCast, fld83_0, fld83_1, fld83_2, Nat.add_zero, Nat.zero_add, load3, q0, q1, q2, a0, a1, a2, laa, d1, c2]
            refine At_lit (vs := [(0, sqv a)]) (cs := #[.int .i64 a.1, .int .i64 a.2.1, .int .i64 a.2.2]) u80 i83 zero83 (by rw [size83]; rfl) (by simp only [go_sem,reduceIte,Nat.reduceEqDiff,Nat.reduceLT]) (by rw [size83]; rfl) (by omega) fun h6 hn6 => ?_
            rw [size83] at hn6
            have n6 := hn6.next
            have hsx : SlV h6.blks h5.next h6.next 3 1 (sqc [a]) (.slice (some ⟨h5.next, 0, none⟩) 1 1) := hn6.slv rfl
            have hr6 := hr5.mono (B' := h6.blks) fun b _ hb => by rw [hn6.get, if_neg (by omega)]
            try simp only [go_sem,reduceIte,Nat.reduceEqDiff,Nat.reduceLT]
            refine At_append2 (lo := h4.next) (hi := h5.next) (A := D) (sl := R.length) (m := 1) (L := sqc R) (M := sqc [a]) (v := .slice (some ⟨h5.next, 0, none⟩) 1 1) u80 u80 i83 zero83 (by rw [size83, bytes83]; rfl) (by simp only [go_sem,reduceIte,Nat.reduceEqDiff,Nat.reduceLT, e7]) (by rw [size83]; exact hr6) (by omega) (by rw [En_G]; omega) (by omega) (by simp only [go_sem,reduceIte,Nat.reduceEqDiff,Nat.reduceLT]) (by rw [size83]; exact hsx) (by omega) sqc_one (by omega) fun D7 h7 pr7 hs7 => ?_
            rw [size83, ← sqc_app] at hs7
            have hl7 : R.length + 1 = (R ++ [a]).length := by rw [List.length_append]; rfl
            rw [hl7] at hs7 ⊢
            have n7 := pr7.next
            have v7 := v5.mono (B' := h7.blks) (by rw [pr7.get _ (by omega), hn6.get, if_neg (by omega)])
            simp (disch := omega) only [go_sem,reduceIte,Nat.reduceEqDiff,Nat.reduceLT, e0, e3, e4, e5, e6, e8, wrap_i64]
            exact hJ3 (j3 - 1) _ _ (by omega) ⟨m + 1, R ++ [a], nn, D7, by omega, hnx, p5.trans ((hn6.pres (by omega)).trans (pr7.le (by omega))), by omega, v7, hs7, by simp only [go_sem,reduceIte,Nat.reduceEqDiff,Nat.reduceLT, e0], by simp only [go_sem,reduceIte,Nat.reduceEqDiff,Nat.reduceLT, e3], by simp only [go_sem,reduceIte,Nat.reduceEqDiff,Nat.reduceLT, e4], by simp only [go_sem,reduceIte,Nat.reduceEqDiff,Nat.reduceLT, e5], by simp only [go_sem,reduceIte,Nat.reduceEqDiff,Nat.reduceLT, e6], by simp only [go_sem,reduceIte,Nat.reduceEqDiff,Nat.reduceLT], by (simp only [go_sem,reduceIte,Nat.reduceEqDiff,Nat.reduceLT]) <;> rfl⟩
        · have hnx : fz S n0 (m + 1) = (R ++ [a], nn) := hstep.trans (if_neg fun g => c1 g.1)
          have d1 : decide (a.1 = nn.1) = false := decide_eq_false c1
          simp (maxSteps := 3000000) (disch := omega) only [go_sem,reduceIte,Nat.reduceEqDiff,Nat.reduceLT, e0, e3, e4, e5, e6, e7, e8, hm, len80]
          refine WK_regionT 26 ⟨by kernel_rfl, by kernel_rfl, by kernel_rfl⟩ ?_
          simp (maxSteps := 3000000) (disch := omega) only [go_sem,reduceIte,Nat.reduceEqDiff,Nat.reduceLT, e0, e3, e4, e5, e6, e7, e8, idxA80, Int.toNat_natCast, fld83_0, fld83_1, fld83_2, Nat.add_zero, Nat.zero_add, load3, q0, q1, q2, a0, a1, a2, laa, d1]
          refine At_lit (vs := [(0, sqv a)]) (cs := #[.int .i64 a.1, .int .i64 a.2.1, .int .i64 a.2.2]) u80 i83 zero83 (by rw [size83]; rfl) (by simp only [go_sem,reduceIte,Nat.reduceEqDiff,Nat.reduceLT]) (by rw [size83]; rfl) (by omega) fun h6 hn6 => ?_
          rw [size83] at hn6
          have n6 := hn6.next
          have hsx : SlV h6.blks h5.next h6.next 3 1 (sqc [a]) (.slice (some ⟨h5.next, 0, none⟩) 1 1) := hn6.slv rfl
          have hr6 := hr5.mono (B' := h6.blks) fun b _ hb => by rw [hn6.get, if_neg (by omega)]
          try simp only [go_sem,reduceIte,Nat.reduceEqDiff,Nat.reduceLT]
          refine At_append2 (lo := h4.next) (hi := h5.next) (A := D) (sl := R.length) (m := 1) (L := sqc R) (M := sqc [a]) (v := .slice (some ⟨h5.next, 0, none⟩) 1 1) u80 u80 i83 zero83 (by rw [size83, bytes83]; rfl) (by simp only [go_sem,reduceIte,Nat.reduceEqDiff,Nat.reduceLT, e7]) (by rw [size83]; exact hr6) (by omega) (by rw [En_G]; omega) (by omega) (by simp only [go_sem,reduceIte,Nat.reduceEqDiff,Nat.reduceLT]) (by rw [size83]; exact hsx) (by omega) sqc_one (by omega) fun D7 h7 pr7 hs7 => ?_
          rw [size83, ← sqc_app] at hs7
          have hl7 : R.length + 1 = (R ++ [a]).length := by rw [List.length_append]; rfl
          rw [hl7] at hs7 ⊢
          have n7 := pr7.next
          have v7 := v5.mono (B' := h7.blks) (by rw [pr7.get _ (by omega), hn6.get, if_neg (by omega)])
          simp (disch := omega) only [go_sem,reduceIte,Nat.reduceEqDiff,Nat.reduceLT, e0, e3, e4, e5, e6, e8, wrap_i64]
          exact hJ3 (j3 - 1) _ _ (by omega) ⟨m + 1, R ++ [a], nn, D7, by omega, hnx, p5.trans ((hn6.pres (by omega)).trans (pr7.le (by omega))), by omega, v7, hs7, by simp only [go_sem,reduceIte,Nat.reduceEqDiff,Nat.reduceLT, e0], by simp only [go_sem,reduceIte,Nat.reduceEqDiff,Nat.reduceLT, e3], by simp only [go_sem,reduceIte,Nat.reduceEqDiff,Nat.reduceLT, e4], by simp only [go_sem,reduceIte,Nat.reduceEqDiff,Nat.reduceLT, e5], by simp only [go_sem,reduceIte,Nat.reduceEqDiff,Nat.reduceLT, e6], by simp only [go_sem,reduceIte,Nat.reduceEqDiff,Nat.reduceLT], by (simp only [go_sem,reduceIte,Nat.reduceEqDiff,Nat.reduceLT]) <;> rfl⟩
      · obtain rfl : m = S.length := by omega
        simp (maxSteps := 3000000) (disch := omega) only [go_sem,reduceIte,Nat.reduceEqDiff,Nat.reduceLT, e0, e3, e4, e5, e6, e7, e8, hm, len80]
        have hz5 := hr5
        refine WK_loopN (fun j α h6 => ∃ t : Nat, t + j = R.length ∧ h5 = h6 ∧ (∀ i q, i < t → R[i]? = some q → ltE q nn) ∧ α.get 0 = some (.slice (some ⟨bA, oA, none⟩) L.length c) ∧ α.get 4 = some (.int .i64 (i : Int)) ∧ α.get 5 = some (.int .i64 (k : Int)) ∧ α.get 6 = some (.pointer (some ⟨h2.next, 0, none⟩)) ∧ α.get 7 = some (.slice D R.length R.length) ∧ α.get 9 = some (.int .i64 (t : Int))) R.length
          ⟨0, by omega, rfl, fun i q hi => absurd hi (Nat.not_lt_zero _), by simp only [go_sem,reduceIte,Nat.reduceEqDiff,Nat.reduceLT, e0], by simp only [go_sem,reduceIte,Nat.reduceEqDiff,Nat.reduceLT, e4], by simp only [go_sem,reduceIte,Nat.reduceEqDiff,Nat.reduceLT, e5], by simp only [go_sem,reduceIte,Nat.reduceEqDiff,Nat.reduceLT, e6], by simp only [go_sem,reduceIte,Nat.reduceEqDiff,Nat.reduceLT, e7], by (simp only [go_sem,reduceIte,Nat.reduceEqDiff,Nat.reduceLT]) <;> rfl⟩ (by omega) ?_
        clear e0 e3 e4 e5 e6 e7 e8 hz5
        rintro J4 j4 α h6 ⟨t, htj, rfl, hlts, e0, e4, e5, e6, e7, e9⟩ hJ4
        by_cases hlt4 : (t : Int) < (R.length : Int)
        · obtain ⟨a, ha⟩ : ∃ a, R[t]? = some a := ⟨_, List.getElem?_eq_getElem (show t < R.length by omega)⟩
          obtain ⟨bR, oR, rfl, _, _, _⟩ := hr5.at_ (by omega)
          obtain ⟨_, a0, a1, a2⟩ := hr5.sq_at (G := G) ha rfl
          simp (maxSteps := 3000000) (disch := omega) only [go_sem,reduceIte,Nat.reduceEqDiff,Nat.reduceLT]
          refine WK_regionT 30 ⟨by kernel_rfl, by kernel_rfl, by kernel_rfl⟩ ?_
          by_cases c1 : a.1 < nn.1
          · simp (maxSteps := 3000000) (disch := omega) only [go_sem,reduceIte,Nat.reduceEqDiff,Nat.reduceLT, e0, e4, e5, e6, e7, e9, hlt4, len80, idxA80, Int.toNat_natCast, fld83_0, fld83_1, fld83_2, Nat.add_zero, Nat.zero_add, load3, q0, q1, q2, a0, a1, a2, c1, wrap_i64]
            exact hJ4 (j4 - 1) _ _ (by omega) ⟨t + 1, by omega, rfl, fun i q hi hq => by
              by_cases e : i = t
              · subst e; rw [ha] at hq; cases hq; exact .inl c1
              · exact hlts i q (by omega) hq, by simp only [go_sem,reduceIte,Nat.reduceEqDiff,Nat.reduceLT, e0], by simp only [go_sem,reduceIte,Nat.reduceEqDiff,Nat.reduceLT, e4], by simp only [go_sem,reduceIte,Nat.reduceEqDiff,Nat.reduceLT, e5], by simp only [go_sem,reduceIte,Nat.reduceEqDiff,Nat.reduceLT, e6], by simp only [go_sem,reduceIte,Nat.reduceEqDiff,Nat.reduceLT, e7], by (simp only [go_sem,reduceIte,Nat.reduceEqDiff,Nat.reduceLT]) <;> rfl⟩
          · by_cases c2 : a.1 = nn.1
            · have d2 : decide (a.1 = nn.1) = true := decide_eq_true c2
              by_cases c3 : a.2.1 < nn.2.1
              · simp (maxSteps := 3000000) (disch := omega) only [go_sem,reduceIte,Nat.reduceEqDiff,Nat.reduceLT, e0, e4, e5, e6, e7, e9, hlt4, len80, idxA80, Int.toNat_natCast, fld83_0, fld83_1, fld83_2, Nat.add_zero, Nat.zero_add, load3, q0, q1, q2, a0, a1, a2, c1, d2, c3, wrap_i64]
                exact hJ4 (j4 - 1) _ _ (by omega) ⟨t + 1, by omega, rfl, fun i q hi hq => by
                  by_cases e : i = t
                  · subst e; rw [ha] at hq; cases hq; exact .inr ⟨c2, c3⟩
                  · exact hlts i q (by omega) hq, by simp only [go_sem,reduceIte,Nat.reduceEqDiff,Nat.reduceLT, e0], by simp only [go_sem,reduceIte,Nat.reduceEqDiff,Nat.reduceLT, e4], by simp only [go_sem,reduceIte,Nat.reduceEqDiff,Nat.reduceLT, e5], by simp only [go_sem,reduceIte,Nat.reduceEqDiff,Nat.reduceLT, e6], by simp only [go_sem,reduceIte,Nat.reduceEqDiff,Nat.reduceLT, e7], by (simp only [go_sem,reduceIte,Nat.reduceEqDiff,Nat.reduceLT]) <;> rfl⟩
              · have hge : ∀ q, R[t]? = some q → ¬ ltE q nn := fun q hq g => by
                  rw [ha] at hq; cases hq
                  rcases g with g | g
                  · exact c1 g
                  · exact c3 g.2
                simp (maxSteps := 3000000) (disch := omega) only [go_sem,reduceIte,Nat.reduceEqDiff,Nat.reduceLT, e0, e4, e5, e6, e7, e9, hlt4, len80, idxA80, Int.toNat_natCast, fld83_0, fld83_1, fld83_2, Nat.add_zero, Nat.zero_add, load3, q0, q1, q2, a0, a1, a2, c1, d2, c3]
                obtain ⟨B1, c1, hsl1, hp1⟩ := sliceO_take (E := En G) (kd := .i64) (m := t) u80 i83 size83 hr5 (by omega)
                rw [sqc_take] at hp1
                refine WK_regionD 11 7 ⟨by kernel_rfl, by kernel_rfl, by kernel_rfl, by kernel_rfl⟩ rfl rfl ?_
                try simp only [go_sem,reduceIte,Nat.reduceEqDiff,Nat.reduceLT]
                refine At_lit0 u80 i83 zero83 (by rw [size83]; rfl) (by omega) ?_
                simp (disch := omega) only [go_sem,reduceIte,Nat.reduceEqDiff,Nat.reduceLT, e7, e9, hsl1]
                refine At_appendF (M := sqc (R.take t)) (m := t) (v := .slice B1 t c1) u80 u80 i83 zero83 (by rw [size83, bytes83]; rfl) (by simp only [go_sem,reduceIte,Nat.reduceEqDiff,Nat.reduceLT]) (by simp only [go_sem,reduceIte,Nat.reduceEqDiff,Nat.reduceLT]) (by rw [size83]; exact hp1) (by omega) sqc_one (by omega) fun B8 h8 pr8 hs8 => ?_
                rw [size83] at hs8
                have n8 := pr8.next
                have ln8 := ln_var (G := G) agg83 i83 size83 (v5.mono (B' := h8.blks) (pr8.get _ (by omega)))
                simp (disch := omega) only [go_sem,reduceIte,Nat.reduceEqDiff,Nat.reduceLT, e6, ln8]
                refine At_lit (vs := [(0, sqv nn)]) (cs := #[.int .i64 nn.1, .int .i64 nn.2.1, .int .i64 nn.2.2]) u80 i83 zero83 (by rw [size83]; rfl) (by simp only [go_sem,reduceIte,Nat.reduceEqDiff,Nat.reduceLT]) (by rw [size83]; rfl) (by omega) fun h9 hn9 => ?_
                rw [size83] at hn9
                have n9 := hn9.next
                have hsx : SlV h9.blks h8.next h9.next 3 1 (sqc [nn]) (.slice (some ⟨h8.next, 0, none⟩) 1 1) := hn9.slv rfl
                have hs9 : SlV h9.blks h5.next h8.next 3 t (sqc (R.take t)) (.slice B8 t t) := hs8.mono fun b _ hb => by rw [hn9.get, if_neg (by omega)]
                have ob : ∀ y, blkOf (.slice B8 t t) = some y → h5.next ≤ y := fun y hy => hs9.blk y hy
                simp only [go_sem,reduceIte,Nat.reduceEqDiff,Nat.reduceLT]
                refine At_append (lo := h5.next) (hi := h8.next) (lo2 := h8.next) (hi2 := h9.next) (sl := t) (sc := t) (m := 1) (L := sqc (R.take t)) (M := sqc [nn]) (A := B8) (v := .slice (some ⟨h8.next, 0, none⟩) 1 1) u80 u80 i83 zero83 (by rw [size83, bytes83]; rfl) (by simp only [go_sem,reduceIte,Nat.reduceEqDiff,Nat.reduceLT]) (by rw [size83]; exact hs9) (by omega) (by rw [En_G]; omega) (by simp only [go_sem,reduceIte,Nat.reduceEqDiff,Nat.reduceLT]) (by rw [size83]; exact hsx) (by omega) (by omega) sqc_one (by omega) fun h10 ha10 => ?_
                rw [size83] at ha10
                have n10 : h10.next = h9.next + 1 := ha10.next
                have w10 : h5.next ≤ h10.wm := by
                  have := ha10.wm h5.next ob
                  have e : (st true h9).wm = h9.next := rfl
                  rw [e] at this
                  omega
                have g10 : ∀ y, y < h5.next → h10.blks.get y = h5.blks.get y := fun y hy => by
                  rw [ha10.get]
                  have e1 : ¬ y = (st true h9).next := by show ¬ y = h9.next; omega
                  rw [if_neg e1, if_neg fun e2 => by have := ob y e2; omega]
                  show h9.blks.get y = _
                  rw [hn9.get, if_neg (by omega), pr8.get y hy]
                have hs10 := ha10.slv (n := t + 1) (c := t + 1) (by rw [List.length_append, sqc_len, sqc_len, List.length_take, List.length_singleton]; omega)
                rw [← sqc_app] at hs10
                simp only [go_sem,reduceIte,Nat.reduceEqDiff,Nat.reduceLT]
                intro wm hwm
                have pr11 : Pres h5.next h5 ⟨h10.blks, h10.next, wm⟩ := ⟨by show h5.next ≤ h10.next; omega, by have := pr8.wm; have := hn9.wm; show _ ≤ wm; omega, fun y hy => g10 y hy⟩
                have hs11 : SlV (H.mk h10.blks h10.next wm).blks h9.next (H.mk h10.blks h10.next wm).next 3 (t + 1) (sqc (R.take t ++ [nn])) (.slice (some ⟨h9.next, 0, none⟩) (t + 1) (t + 1)) := hs10
                have n11 : (H.mk h10.blks h10.next wm).next = h10.next := rfl
                have hs511 := hr5.mono (B' := h10.blks) fun b _ hb => g10 b (by omega)
                obtain ⟨B2, c2, hsl2, hp2⟩ := sliceO_drop (E := En G) (kd := .i64) (m := t) u80 i83 size83 hs511 (by omega)
                rw [sqc_dropn] at hp2
                simp (disch := omega) only [go_sem,reduceIte,Nat.reduceEqDiff,Nat.reduceLT, e7, e9, hsl2]
                have hs59 := hr5.mono (B' := h9.blks) fun b _ hb => by rw [hn9.get, if_neg (by omega), pr8.get b (by omega)]
                refine ⟨dirtyOK_of2 (Ls := [10]) (by kernel_rfl) (fun i hi => by
                  obtain rfl : i = 10 := by simpa using hi
                  refine .inr (SliceSame.of_slv (t := 80) (x := .tmp 155) (l := some (.tmp 156)) (r := none) rfl rfl rfl (by (simp only [go_sem,reduceIte,Nat.reduceEqDiff,Nat.reduceLT, e7]) <;> rfl) hs59 fun b _ hb => ?_)
                  show h10.blks.get b = _
                  rw [g10 b (by omega), hn9.get, if_neg (by omega), pr8.get b (by omega)]), ?_⟩
                try simp only [go_sem,reduceIte,Nat.reduceEqDiff,Nat.reduceLT]
                refine At_append2 (lo := h9.next) (hi := h10.next) (A := some ⟨h9.next, 0, none⟩) (sl := t + 1) (m := R.length - t) (L := sqc (R.take t ++ [nn])) (M := sqc (R.drop t)) (v := .slice B2 (R.length - t) c2) u80 u80 i83 zero83 (by rw [size83, bytes83]; rfl) (by (simp only [go_sem,reduceIte,Nat.reduceEqDiff,Nat.reduceLT]) <;> rfl) (by rw [size83]; exact hs11) (by omega) (by rw [En_G]; omega) (by omega) (by simp only [go_sem,reduceIte,Nat.reduceEqDiff,Nat.reduceLT]) (by rw [size83]; exact hp2) (by omega) sqc_one (by omega) fun B12 h12 pr12 hs12 => ?_
                rw [size83] at hs12
                have n12 := pr12.next
                have eO : sqc (R.take t ++ [nn]) ++ sqc (R.drop t) = sqc (R.take t ++ nn :: R.drop t) := by rw [← sqc_app, List.append_assoc]; rfl
                rw [eO, show t + 1 + (R.length - t) = R.length + 1 by omega] at hs12
                rw [show t + 1 + (R.length - t) = R.length + 1 by omega]
                have hlR : R.length + 1 = (R.take t ++ nn :: R.drop t).length := by simp only [List.length_append, List.length_cons, List.length_take, List.length_drop]; omega
                rw [hlR] at hs12 ⊢
                simp (disch := omega) only [go_sem,reduceIte,Nat.reduceEqDiff,Nat.reduceLT, e0, e4, e5, wrap_i64]
                exact hJ2 (j2 - 1) _ _ (by omega) ⟨k + 1, B12, R.take t ++ nn :: R.drop t, by omega, pr.trans ((p5.trans ((pr11.trans (pr12.le (by omega))).le (by omega))).le (by omega)), lst_put hS he hfk hlts hge (by omega), hs12.wide (by omega) (Nat.le_refl _), by simp only [go_sem,reduceIte,Nat.reduceEqDiff,Nat.reduceLT, e0], by simp only [go_sem,reduceIte,Nat.reduceEqDiff,Nat.reduceLT], by simp only [go_sem,reduceIte,Nat.reduceEqDiff,Nat.reduceLT, e4], by (simp only [go_sem,reduceIte,Nat.reduceEqDiff,Nat.reduceLT]) <;> rfl⟩
            · have d2 : decide (a.1 = nn.1) = false := decide_eq_false c2
              have hge : ∀ q, R[t]? = some q → ¬ ltE q nn := fun q hq g => by
                rw [ha] at hq; cases hq
                rcases g with g | g
                · exact c1 g
                · exact c2 g.1
              simp (maxSteps := 3000000) (disch := omega) only [go_sem,reduceIte,Nat.reduceEqDiff,Nat.reduceLT, e0, e4, e5, e6, e7, e9, hlt4, len80, idxA80, Int.toNat_natCast, fld83_0, fld83_1, fld83_2, Nat.add_zero, Nat.zero_add, load3, q0, q1, q2, a0, a1, a2, c1, d2]
              obtain ⟨B1, c1, hsl1, hp1⟩ := sliceO_take (E := En G) (kd := .i64) (m := t) u80 i83 size83 hr5 (by omega)
              rw [sqc_take] at hp1
              refine WK_regionD 11 7 ⟨by kernel_rfl, by kernel_rfl, by kernel_rfl, by kernel_rfl⟩ rfl rfl ?_
              try simp only [go_sem,reduceIte,Nat.reduceEqDiff,Nat.reduceLT]
              refine At_lit0 u80 i83 zero83 (by rw [size83]; rfl) (by omega) ?_
              simp (disch := omega) only [go_sem,reduceIte,Nat.reduceEqDiff,Nat.reduceLT, e7, e9, hsl1]
              refine At_appendF (M := sqc (R.take t)) (m := t) (v := .slice B1 t c1) u80 u80 i83 zero83 (by rw [size83, bytes83]; rfl) (by simp only [go_sem,reduceIte,Nat.reduceEqDiff,Nat.reduceLT]) (by simp only [go_sem,reduceIte,Nat.reduceEqDiff,Nat.reduceLT]) (by rw [size83]; exact hp1) (by omega) sqc_one (by omega) fun B8 h8 pr8 hs8 => ?_
              rw [size83] at hs8
              have n8 := pr8.next
              have ln8 := ln_var (G := G) agg83 i83 size83 (v5.mono (B' := h8.blks) (pr8.get _ (by omega)))
              simp (disch := omega) only [go_sem,reduceIte,Nat.reduceEqDiff,Nat.reduceLT, e6, ln8]
              refine At_lit (vs := [(0, sqv nn)]) (cs := #[.int .i64 nn.1, .int .i64 nn.2.1, .int .i64 nn.2.2]) u80 i83 zero83 (by rw [size83]; rfl) (by simp only [go_sem,reduceIte,Nat.reduceEqDiff,Nat.reduceLT]) (by rw [size83]; rfl) (by omega) fun h9 hn9 => ?_
              rw [size83] at hn9
              have n9 := hn9.next
              have hsx : SlV h9.blks h8.next h9.next 3 1 (sqc [nn]) (.slice (some ⟨h8.next, 0, none⟩) 1 1) := hn9.slv rfl
              have hs9 : SlV h9.blks h5.next h8.next 3 t (sqc (R.take t)) (.slice B8 t t) := hs8.mono fun b _ hb => by rw [hn9.get, if_neg (by omega)]
              have ob : ∀ y, blkOf (.slice B8 t t) = some y → h5.next ≤ y := fun y hy => hs9.blk y hy
              simp only [go_sem,reduceIte,Nat.reduceEqDiff,Nat.reduceLT]
              refine At_append (lo := h5.next) (hi := h8.next) (lo2 := h8.next) (hi2 := h9.next) (sl := t) (sc := t) (m := 1) (L := sqc (R.take t)) (M := sqc [nn]) (A := B8) (v := .slice (some ⟨h8.next, 0, none⟩) 1 1) u80 u80 i83 zero83 (by rw [size83, bytes83]; rfl) (by simp only [go_sem,reduceIte,Nat.reduceEqDiff,Nat.reduceLT]) (by rw [size83]; exact hs9) (by omega) (by rw [En_G]; omega) (by simp only [go_sem,reduceIte,Nat.reduceEqDiff,Nat.reduceLT]) (by rw [size83]; exact hsx) (by omega) (by omega) sqc_one (by omega) fun h10 ha10 => ?_
              rw [size83] at ha10
              have n10 : h10.next = h9.next + 1 := ha10.next
              have w10 : h5.next ≤ h10.wm := by
                have := ha10.wm h5.next ob
                have e : (st true h9).wm = h9.next := rfl
                rw [e] at this
                omega
              have g10 : ∀ y, y < h5.next → h10.blks.get y = h5.blks.get y := fun y hy => by
                rw [ha10.get]
                have e1 : ¬ y = (st true h9).next := by show ¬ y = h9.next; omega
                rw [if_neg e1, if_neg fun e2 => by have := ob y e2; omega]
                show h9.blks.get y = _
                rw [hn9.get, if_neg (by omega), pr8.get y hy]
              have hs10 := ha10.slv (n := t + 1) (c := t + 1) (by rw [List.length_append, sqc_len, sqc_len, List.length_take, List.length_singleton]; omega)
              rw [← sqc_app] at hs10
              simp only [go_sem,reduceIte,Nat.reduceEqDiff,Nat.reduceLT]
              intro wm hwm
              have pr11 : Pres h5.next h5 ⟨h10.blks, h10.next, wm⟩ := ⟨by show h5.next ≤ h10.next; omega, by have := pr8.wm; have := hn9.wm; show _ ≤ wm; omega, fun y hy => g10 y hy⟩
              have hs11 : SlV (H.mk h10.blks h10.next wm).blks h9.next (H.mk h10.blks h10.next wm).next 3 (t + 1) (sqc (R.take t ++ [nn])) (.slice (some ⟨h9.next, 0, none⟩) (t + 1) (t + 1)) := hs10
              have n11 : (H.mk h10.blks h10.next wm).next = h10.next := rfl
              have hs511 := hr5.mono (B' := h10.blks) fun b _ hb => g10 b (by omega)
              obtain ⟨B2, c2, hsl2, hp2⟩ := sliceO_drop (E := En G) (kd := .i64) (m := t) u80 i83 size83 hs511 (by omega)
              rw [sqc_dropn] at hp2
              simp (disch := omega) only [go_sem,reduceIte,Nat.reduceEqDiff,Nat.reduceLT, e7, e9, hsl2]
              have hs59 := hr5.mono (B' := h9.blks) fun b _ hb => by rw [hn9.get, if_neg (by omega), pr8.get b (by omega)]
              refine ⟨dirtyOK_of2 (Ls := [10]) (by kernel_rfl) (fun i hi => by
                obtain rfl : i = 10 := by simpa using hi
                refine .inr (SliceSame.of_slv (t := 80) (x := .tmp 155) (l := some (.tmp 156)) (r := none) rfl rfl rfl (by (simp only [go_sem,reduceIte,Nat.reduceEqDiff,Nat.reduceLT, e7]) <;> rfl) hs59 fun b _ hb => ?_)
                show h10.blks.get b = _
                rw [g10 b (by omega), hn9.get, if_neg (by omega), pr8.get b (by omega)]), ?_⟩
              try simp only [go_sem,reduceIte,Nat.reduceEqDiff,Nat.reduceLT]
              refine At_append2 (lo := h9.next) (hi := h10.next) (A := some ⟨h9.next, 0, none⟩) (sl := t + 1) (m := R.length - t) (L := sqc (R.take t ++ [nn])) (M := sqc (R.drop t)) (v := .slice B2 (R.length - t) c2) u80 u80 i83 zero83 (by rw [size83, bytes83]; rfl) (by (simp only [go_sem,reduceIte,Nat.reduceEqDiff,Nat.reduceLT]) <;> rfl) (by rw [size83]; exact hs11) (by omega) (by rw [En_G]; omega) (by omega) (by simp only [go_sem,reduceIte,Nat.reduceEqDiff,Nat.reduceLT]) (by rw [size83]; exact hp2) (by omega) sqc_one (by omega) fun B12 h12 pr12 hs12 => ?_
              rw [size83] at hs12
              have n12 := pr12.next
              have eO : sqc (R.take t ++ [nn]) ++ sqc (R.drop t) = sqc (R.take t ++ nn :: R.drop t) := by rw [← sqc_app, List.append_assoc]; rfl
              rw [eO, show t + 1 + (R.length - t) = R.length + 1 by omega] at hs12
              rw [show t + 1 + (R.length - t) = R.length + 1 by omega]
              have hlR : R.length + 1 = (R.take t ++ nn :: R.drop t).length := by simp only [List.length_append, List.length_cons, List.length_take, List.length_drop]; omega
              rw [hlR] at hs12 ⊢
              simp (disch := omega) only [go_sem,reduceIte,Nat.reduceEqDiff,Nat.reduceLT, e0, e4, e5, wrap_i64]
              exact hJ2 (j2 - 1) _ _ (by omega) ⟨k + 1, B12, R.take t ++ nn :: R.drop t, by omega, pr.trans ((p5.trans ((pr11.trans (pr12.le (by omega))).le (by omega))).le (by omega)), lst_put hS he hfk hlts hge (by omega), hs12.wide (by omega) (Nat.le_refl _), by simp only [go_sem,reduceIte,Nat.reduceEqDiff,Nat.reduceLT, e0], by simp only [go_sem,reduceIte,Nat.reduceEqDiff,Nat.reduceLT], by simp only [go_sem,reduceIte,Nat.reduceEqDiff,Nat.reduceLT, e4], by (simp only [go_sem,reduceIte,Nat.reduceEqDiff,Nat.reduceLT]) <;> rfl⟩
        · obtain rfl : t = R.length := by omega
          have hge : ∀ q, R[R.length]? = some q → ¬ ltE q nn := fun q hq => by simp at hq
          simp (maxSteps := 3000000) (disch := omega) only [go_sem,reduceIte,Nat.reduceEqDiff,Nat.reduceLT]
          refine WK_regionT 30 ⟨by kernel_rfl, by kernel_rfl, by kernel_rfl⟩ ?_
          simp (maxSteps := 3000000) (disch := omega) only [go_sem,reduceIte,Nat.reduceEqDiff,Nat.reduceLT, e0, e4, e5, e6, e7, e9, hlt4, len80]
          obtain ⟨B1, c1, hsl1, hp1⟩ := sliceO_take (E := En G) (kd := .i64) (m := R.length) u80 i83 size83 hr5 (by omega)
          rw [sqc_take] at hp1
          refine WK_regionD 11 7 ⟨by kernel_rfl, by kernel_rfl, by kernel_rfl, by kernel_rfl⟩ rfl rfl ?_
          try simp only [go_sem,reduceIte,Nat.reduceEqDiff,Nat.reduceLT]
          refine At_lit0 u80 i83 zero83 (by rw [size83]; rfl) (by omega) ?_
          simp (disch := omega) only [go_sem,reduceIte,Nat.reduceEqDiff,Nat.reduceLT, e7, e9, hsl1]
          refine At_appendF (M := sqc (R.take R.length)) (m := R.length) (v := .slice B1 R.length c1) u80 u80 i83 zero83 (by rw [size83, bytes83]; rfl) (by simp only [go_sem,reduceIte,Nat.reduceEqDiff,Nat.reduceLT]) (by simp only [go_sem,reduceIte,Nat.reduceEqDiff,Nat.reduceLT]) (by rw [size83]; exact hp1) (by omega) sqc_one (by omega) fun B8 h8 pr8 hs8 => ?_
          rw [size83] at hs8
          have n8 := pr8.next
          have ln8 := ln_var (G := G) agg83 i83 size83 (v5.mono (B' := h8.blks) (pr8.get _ (by omega)))
          simp (disch := omega) only [go_sem,reduceIte,Nat.reduceEqDiff,Nat.reduceLT, e6, ln8]
          refine At_lit (vs := [(0, sqv nn)]) (cs := #[.int .i64 nn.1, .int .i64 nn.2.1, .int .i64 nn.2.2]) u80 i83 zero83 (by rw [size83]; rfl) (by simp only [go_sem,reduceIte,Nat.reduceEqDiff,Nat.reduceLT]) (by rw [size83]; rfl) (by omega) fun h9 hn9 => ?_
          rw [size83] at hn9
          have n9 := hn9.next
          have hsx : SlV h9.blks h8.next h9.next 3 1 (sqc [nn]) (.slice (some ⟨h8.next, 0, none⟩) 1 1) := hn9.slv rfl
          have hs9 : SlV h9.blks h5.next h8.next 3 R.length (sqc (R.take R.length)) (.slice B8 R.length R.length) := hs8.mono fun b _ hb => by rw [hn9.get, if_neg (by omega)]
          have ob : ∀ y, blkOf (.slice B8 R.length R.length) = some y → h5.next ≤ y := fun y hy => hs9.blk y hy
          simp only [go_sem,reduceIte,Nat.reduceEqDiff,Nat.reduceLT]
          refine At_append (lo := h5.next) (hi := h8.next) (lo2 := h8.next) (hi2 := h9.next) (sl := R.length) (sc := R.length) (m := 1) (L := sqc (R.take R.length)) (M := sqc [nn]) (A := B8) (v := .slice (some ⟨h8.next, 0, none⟩) 1 1) u80 u80 i83 zero83 (by rw [size83, bytes83]; rfl) (by simp only [go_sem,reduceIte,Nat.reduceEqDiff,Nat.reduceLT]) (by rw [size83]; exact hs9) (by omega) (by rw [En_G]; omega) (by simp only [go_sem,reduceIte,Nat.reduceEqDiff,Nat.reduceLT]) (by rw [size83]; exact hsx) (by omega) (by omega) sqc_one (by omega) fun h10 ha10 => ?_
          rw [size83] at ha10
          have n10 : h10.next = h9.next + 1 := ha10.next
          have w10 : h5.next ≤ h10.wm := by
            have := ha10.wm h5.next ob
            have e : (st true h9).wm = h9.next := rfl
            rw [e] at this
            omega
          have g10 : ∀ y, y < h5.next → h10.blks.get y = h5.blks.get y := fun y hy => by
            rw [ha10.get]
            have e1 : ¬ y = (st true h9).next := by show ¬ y = h9.next; omega
            rw [if_neg e1, if_neg fun e2 => by have := ob y e2; omega]
            show h9.blks.get y = _
            rw [hn9.get, if_neg (by omega), pr8.get y hy]
          have hs10 := ha10.slv (n := R.length + 1) (c := R.length + 1) (by rw [List.length_append, sqc_len, sqc_len, List.length_take, List.length_singleton]; omega)
          rw [← sqc_app] at hs10
          simp only [go_sem,reduceIte,Nat.reduceEqDiff,Nat.reduceLT]
          intro wm hwm
          have pr11 : Pres h5.next h5 ⟨h10.blks, h10.next, wm⟩ := ⟨by show h5.next ≤ h10.next; omega, by have := pr8.wm; have := hn9.wm; show _ ≤ wm; omega, fun y hy => g10 y hy⟩
          have hs11 : SlV (H.mk h10.blks h10.next wm).blks h9.next (H.mk h10.blks h10.next wm).next 3 (R.length + 1) (sqc (R.take R.length ++ [nn])) (.slice (some ⟨h9.next, 0, none⟩) (R.length + 1) (R.length + 1)) := hs10
          have n11 : (H.mk h10.blks h10.next wm).next = h10.next := rfl
          have hs511 := hr5.mono (B' := h10.blks) fun b _ hb => g10 b (by omega)
          obtain ⟨B2, c2, hsl2, hp2⟩ := sliceO_drop (E := En G) (kd := .i64) (m := R.length) u80 i83 size83 hs511 (by omega)
          rw [sqc_dropn] at hp2
          simp (disch := omega) only [go_sem,reduceIte,Nat.reduceEqDiff,Nat.reduceLT, e7, e9, hsl2]
          have hs59 := hr5.mono (B' := h9.blks) fun b _ hb => by rw [hn9.get, if_neg (by omega), pr8.get b (by omega)]
          refine ⟨dirtyOK_of2 (Ls := [10]) (by kernel_rfl) (fun i hi => by
            obtain rfl : i = 10 := by simpa using hi
            refine .inr (SliceSame.of_slv (t := 80) (x := .tmp 155) (l := some (.tmp 156)) (r := none) rfl rfl rfl (by (simp only [go_sem,reduceIte,Nat.reduceEqDiff,Nat.reduceLT, e7]) <;> rfl) hs59 fun b _ hb => ?_)
            show h10.blks.get b = _
            rw [g10 b (by omega), hn9.get, if_neg (by omega), pr8.get b (by omega)]), ?_⟩
          try simp only [go_sem,reduceIte,Nat.reduceEqDiff,Nat.reduceLT]
          refine At_append2 (lo := h9.next) (hi := h10.next) (A := some ⟨h9.next, 0, none⟩) (sl := R.length + 1) (m := R.length - R.length) (L := sqc (R.take R.length ++ [nn])) (M := sqc (R.drop R.length)) (v := .slice B2 (R.length - R.length) c2) u80 u80 i83 zero83 (by rw [size83, bytes83]; rfl) (by (simp only [go_sem,reduceIte,Nat.reduceEqDiff,Nat.reduceLT]) <;> rfl) (by rw [size83]; exact hs11) (by omega) (by rw [En_G]; omega) (by omega) (by simp only [go_sem,reduceIte,Nat.reduceEqDiff,Nat.reduceLT]) (by rw [size83]; exact hp2) (by omega) sqc_one (by omega) fun B12 h12 pr12 hs12 => ?_
          rw [size83] at hs12
          have n12 := pr12.next
          have eO : sqc (R.take R.length ++ [nn]) ++ sqc (R.drop R.length) = sqc (R.take R.length ++ nn :: R.drop R.length) := by rw [← sqc_app, List.append_assoc]; rfl
          rw [eO, show R.length + 1 + (R.length - R.length) = R.length + 1 by omega] at hs12
          rw [show R.length + 1 + (R.length - R.length) = R.length + 1 by omega]
          have hlR : R.length + 1 = (R.take R.length ++ nn :: R.drop R.length).length := by simp only [List.length_append, List.length_cons, List.length_take, List.length_drop]; omega
          rw [hlR] at hs12 ⊢
          simp (disch := omega) only [go_sem,reduceIte,Nat.reduceEqDiff,Nat.reduceLT, e0, e4, e5, wrap_i64]
          exact hJ2 (j2 - 1) _ _ (by omega) ⟨k + 1, B12, R.take R.length ++ nn :: R.drop R.length, by omega, pr.trans ((p5.trans ((pr11.trans (pr12.le (by omega))).le (by omega))).le (by omega)), lst_put hS he hfk hlts hge (by omega), hs12.wide (by omega) (Nat.le_refl _), by simp only [go_sem,reduceIte,Nat.reduceEqDiff,Nat.reduceLT, e0], by simp only [go_sem,reduceIte,Nat.reduceEqDiff,Nat.reduceLT], by simp only [go_sem,reduceIte,Nat.reduceEqDiff,Nat.reduceLT, e4], by (simp only [go_sem,reduceIte,Nat.reduceEqDiff,Nat.reduceLT]) <;> rfl⟩
    · obtain rfl : k = 2 := by omega
      simp (disch := omega) only [go_sem,reduceIte,Nat.reduceEqDiff,Nat.reduceLT, e0, e3, e4, e5, hk, wrap_i64]
      exact hJ (j - 1) _ _ (by omega) ⟨i + 1, B, S, by omega, pr, by rw [show 2 * (i + 1) = 2 * i + 2 by omega]; exact hS, hs, by simp only [go_sem,reduceIte,Nat.reduceEqDiff,Nat.reduceLT, e0], by simp only [go_sem,reduceIte,Nat.reduceEqDiff,Nat.reduceLT, e3], by (simp only [go_sem,reduceIte,Nat.reduceEqDiff,Nat.reduceLT]) <;> rfl⟩
  · obtain rfl : i = L.length := by omega
    simp (disch := omega) only [go_sem,reduceIte,Nat.reduceEqDiff,Nat.reduceLT, e0, e3, e4, hlt, len22]
    exact hQ' _ _ ⟨pr, S, B, rfl, hS, hs⟩
end
end Go.Proofs.YtnhbkoeomefkdaaDoor.Ev.L

