/- A cheapest way. -/
import Derived.Test.YtngpoamjhngcgaaGreatDoorPmeD3
set_option linter.unusedVariables false
set_option linter.unusedSimpArgs false
namespace Go.Proofs.YtngpoamjhngcgaaGreatDoor.Ev
open Go Go.Proofs
noncomputable section

def wayL (w : List Nat) : List Value := w.map fun (v : Nat) => Value.int .i64 (v : Int)
theorem slv_lt {B : Tr Blk} {lo hi sz n b off c : Nat} {L : List Value} (s : SlV B lo hi sz n L (.slice (some ⟨b, off, none⟩) n c)) (h : 0 < n) : b < hi := by
  cases s with
  | mk hb hlo hhi hsz hL hc => exact hhi
theorem wayL_len {w : List Nat} : (wayL w).length = w.length := by simp [wayL]
theorem wayL_get {w : List Nat} {k : Nat} (h : k < w.length) : (wayL w)[k]? = some (.int .i64 ((w.getD k 0 : Nat) : Int)) := by
  unfold wayL
  rw [List.getElem?_map, List.getD, List.getElem?_eq_getElem h]
  rfl
theorem wayL_one {w : List Nat} : (wayL w).all oneB = true := by
  rw [List.all_eq_true]
  intro x hx
  obtain ⟨j, _, rfl⟩ := List.mem_map.1 hx
  rfl
theorem SlV.way_at {B : Tr Blk} {lo hi b off c k : Nat} {w : List Nat} (s : SlV B lo hi 1 w.length (wayL w) (.slice (some ⟨b, off, none⟩) w.length c)) (h : k < w.length) : loadv B b (off + k) = some (.int .i64 ((w.getD k 0 : Nat) : Int)) := by
  obtain ⟨b', off', he, _, _, hld⟩ := s.at_ (by omega)
  injection he with he
  injection he with e1 e2
  subst e1; subst e2
  rw [hld k (by omega), wayL_get h]
theorem Cheap.congr {d r : Nat → Nat → Int} {n : Nat} {st st' c b : Nat → Int} {T : Nat → Nat} (h : Cheap d r n st c b T) (e : ∀ v, v < n → st v = st' v) : Cheap d r n st' c b T :=
  ⟨h.fix, fun v hv => by rw [← e v hv]; exact h.from_ v hv, h.T_le, h.bd⟩

set_option maxRecDepth 100000 in
set_option maxHeartbeats 64000000 in
theorem cheapestWay_spec {G lo hi lo2 hi2 lo3 hi3 n c0 c02 c03 : Nat} {g g2 : Nat → Nat} {d r : Nat → Nat → Int} {RA RA2 : Nat → Option Addr} {rc rc2 : Nat → Nat} {A A2 A3 : Option Addr} {h : H} {o : Nat → Int} (hG : G ≤ h.next)
    (hm : MatV h.blks lo hi n g d RA rc (.slice A n c0)) (hg : ∀ i, i < n → g i = n) (hm2 : MatV h.blks lo2 hi2 n g2 r RA2 rc2 (.slice A2 n c02)) (hg2 : ∀ i, i < n → g2 i = n) (hv : SlV h.blks lo3 hi3 1 n (intsL n o) (.slice A3 n c03))
    (q1 : hi ≤ h.next) (q2 : hi2 ≤ h.next) (q3 : hi3 ≤ h.next) (hn : n ≤ 8) (h0 : 0 < n) (ho : ∀ v, v < n → o v = opn d r n v) (hcan : Can d r n) (hd : ∀ i, i < n → d i i = 0) :
    Spec Tryz.prog (En G) 101 [.slice A n c0, .slice A2 n c02, .slice A3 n c03] h fun v h' => (v = .slice none 0 0 ∧ ∀ v, v < n → o v = 0) ∨ ∃ (w : List Nat) (st c b : Nat → Int) (T : Nat → Nat) (B : Option Addr) (cw : Nat), v = .slice B w.length cw ∧ SlV h'.blks h.next h'.next 1 w.length (wayL w) v ∧
      0 < w.length ∧ w.length ≤ 1000 ∧ Way d r n c T w ∧ Cheap d r n st c b T ∧ 0 < o (w.getD 0 0) ∧ o (w.getD (w.length - 1) 0) < 0 := by
  refine CallsE_enter (En_known (by decide)) (En_f.trans Tryz.func101) rfl ⟨Nat.le_of_ble_eq_true rfl, by decide⟩ fun Q' hQ' => ?_
  obtain ⟨b3, o3, rfl, hld⟩ := hv.ints_at h0
  simp (disch := omega) only [Tryz.f101, go_sem,reduceIte,Nat.reduceEqDiff,Nat.reduceLT, len23]
  refine At_make (k1 := .i64) (k2 := .i64) (l := n) (c := n) u23 i3 zero3 (by rw [size3, bytes3]; rfl) (by simp only [go_sem,reduceIte,Nat.reduceEqDiff,Nat.reduceLT]) (by simp only [go_sem,reduceIte,Nat.reduceEqDiff,Nat.reduceLT]) (Nat.le_refl _) (by rw [size3]; omega) (by omega) (by omega) fun h1 hn1 => ?_
  have ez : zeros (Value.int .i64 0).cells.toList n = intsL n fun _ => 0 := zeros_ints n
  rw [size3, ez] at hn1
  have n1 := hn1.next
  have s1 := hn1.slv (n := n) (c := n) (by rw [intsL_len]; simp)
  obtain ⟨bs, hbs⟩ : ∃ bs, bs = h.next := ⟨_, rfl⟩
  rw [n1, ← hbs] at s1
  have pr1 : Pres h.next h h1 := hn1.pres (Nat.le_refl _)
  simp (disch := omega) only [go_sem,reduceIte,Nat.reduceEqDiff,Nat.reduceLT, len23, ← hbs]
  -- where the search begins
  refine WK_loopN (fun j α hh => ∃ i : Nat, i + j = n ∧ hh.next = h1.next ∧ Pres h.next h hh ∧ SlV hh.blks bs (bs + 1) 1 n (intsL n fun k => if k < i then stO o k else 0) (.slice (some ⟨bs, 0, none⟩) n n) ∧
      α.get 0 = some (.slice A n c0) ∧ α.get 1 = some (.slice A2 n c02) ∧ α.get 2 = some (.slice (some ⟨b3, o3, none⟩) n c03) ∧ α.get 7 = some (.slice (some ⟨bs, 0, none⟩) n n) ∧ α.get 20 = some (.slice (some ⟨b3, o3, none⟩) n c03) ∧ α.get 21 = some (.int .i64 (n : Int)) ∧ α.get 22 = some (.int .i64 (i : Int))) n
    ⟨0, by omega, rfl, pr1, by rw [intsL_congr (f' := fun _ => 0) fun k _ => if_neg (Nat.not_lt_zero k)]; exact s1, by simp only [go_sem,reduceIte,Nat.reduceEqDiff,Nat.reduceLT], by simp only [go_sem,reduceIte,Nat.reduceEqDiff,Nat.reduceLT], by simp only [go_sem,reduceIte,Nat.reduceEqDiff,Nat.reduceLT], by simp only [go_sem,reduceIte,Nat.reduceEqDiff,Nat.reduceLT], by (simp only [go_sem,reduceIte,Nat.reduceEqDiff,Nat.reduceLT]) <;> rfl, by (simp only [go_sem,reduceIte,Nat.reduceEqDiff,Nat.reduceLT]) <;> rfl, by (simp only [go_sem,reduceIte,Nat.reduceEqDiff,Nat.reduceLT]) <;> rfl⟩ (by omega) ?_
  rintro J j α hh ⟨i, hij, nn, pr, hs, e0, e1, e2, e7, e20, e21, e22⟩ hJ
  by_cases hlt : (i : Int) < (n : Int)
  · have l3 := hld i (by omega)
    have l3' : loadv hh.blks b3 (o3 + i) = some (.int .i64 (o i)) := by
      rw [← l3]
      exact loadv_eq (pr.get _ (by have := slv_lt hv h0; omega)) _
    have hni : n1 = n1 := rfl
    by_cases c1 : o i ≤ 0
    · simp (disch := omega) only [go_sem,reduceIte,Nat.reduceEqDiff,Nat.reduceLT, e0, e1, e2, e7, e20, e21, e22, hlt, idxA23, load3, Int.toNat_natCast, Nat.mul_one, l3', c1]
      refine At_setInt (i := i) (z := 1000) (by simp only [go_sem,reduceIte,Nat.reduceEqDiff,Nat.reduceLT]) (by simp only [go_sem,reduceIte,Nat.reduceEqDiff,Nat.reduceLT]) hs (by omega) (by omega) fun ha hsa hfa => ?_
      simp (disch := omega) only [go_sem,reduceIte,Nat.reduceEqDiff,Nat.reduceLT, e22, wrap_i64]
      refine hJ (j - 1) _ _ (by omega) ⟨i + 1, by omega, hsa.next.trans nn, pr.trans (hsa.pres (by omega)), ?_, by simp only [go_sem,reduceIte,Nat.reduceEqDiff,Nat.reduceLT, e0], by simp only [go_sem,reduceIte,Nat.reduceEqDiff,Nat.reduceLT, e1], by simp only [go_sem,reduceIte,Nat.reduceEqDiff,Nat.reduceLT, e2], by simp only [go_sem,reduceIte,Nat.reduceEqDiff,Nat.reduceLT, e7], by simp only [go_sem,reduceIte,Nat.reduceEqDiff,Nat.reduceLT, e20], by simp only [go_sem,reduceIte,Nat.reduceEqDiff,Nat.reduceLT, e21], by (simp only [go_sem,reduceIte,Nat.reduceEqDiff,Nat.reduceLT]) <;> rfl⟩
      rw [intsL_congr (f' := fun r => if r = i then 1000 else if r < i then stO o r else 0) fun r hr => by
        by_cases g1 : r = i
        · subst g1; rw [if_pos (by omega), if_pos rfl]; unfold stO; rw [if_pos c1]
        · rw [if_neg g1]
          by_cases g2 : r < i
          · rw [if_pos (by omega), if_pos g2]
          · rw [if_neg (by omega), if_neg g2]]
      exact hfa
    · simp (disch := omega) only [go_sem,reduceIte,Nat.reduceEqDiff,Nat.reduceLT, e0, e1, e2, e7, e20, e21, e22, hlt, idxA23, load3, Int.toNat_natCast, Nat.mul_one, l3', c1, wrap_i64]
      refine hJ (j - 1) _ _ (by omega) ⟨i + 1, by omega, nn, pr, ?_, by simp only [go_sem,reduceIte,Nat.reduceEqDiff,Nat.reduceLT, e0], by simp only [go_sem,reduceIte,Nat.reduceEqDiff,Nat.reduceLT, e1], by simp only [go_sem,reduceIte,Nat.reduceEqDiff,Nat.reduceLT, e2], by simp only [go_sem,reduceIte,Nat.reduceEqDiff,Nat.reduceLT, e7], by simp only [go_sem,reduceIte,Nat.reduceEqDiff,Nat.reduceLT, e20], by simp only [go_sem,reduceIte,Nat.reduceEqDiff,Nat.reduceLT, e21], by (simp only [go_sem,reduceIte,Nat.reduceEqDiff,Nat.reduceLT]) <;> rfl⟩
      rw [intsL_congr (f' := fun r => if r < i then stO o r else 0) fun r hr => by
        by_cases g1 : r = i
        · subst g1; rw [if_pos (by omega), if_neg (by omega)]; unfold stO; rw [if_neg c1]
        · by_cases g2 : r < i
          · rw [if_pos (by omega), if_pos g2]
          · rw [if_neg (by omega), if_neg g2]]
      exact hs
  · obtain rfl : i = n := by omega
    clear hJ
    have hs' : SlV hh.blks bs (bs + 1) 1 i (intsL i (stO o)) (.slice (some ⟨bs, 0, none⟩) i i) := by
      rw [intsL_congr (f' := fun r => if r < i then stO o r else 0) fun r hr => (if_pos hr).symm]
      exact hs
    have ohi := slv_lt hv h0
    simp (disch := omega) only [go_sem,reduceIte,Nat.reduceEqDiff,Nat.reduceLT, e0, e1, e2, e7, e20, e21, e22, hlt]
    refine CallO_f (cheapest_spec (by omega) (hm.mono fun b _ hb => pr.get b (by omega)) hg (hm2.mono fun b _ hb => pr.get b (by omega)) hg2 hs' (by omega) (by omega) (by omega) hn h0 (fun v hv => by unfold stO; split <;> omega) hcan hd) (by omega) fun u h3 p3 ⟨bc, bb, c, b, T, hu, hch, hsc, hsb⟩ => ?_
    subst hu
    have n3 := p3.next
    have pr3 : Pres h.next h h3 := pr.trans (p3.le (by omega))
    simp (disch := omega) only [go_sem,reduceIte,Nat.reduceEqDiff,Nat.reduceLT, e2, len23]
    have hld3 : ∀ k, k < i → loadv h3.blks b3 (o3 + k) = some (.int .i64 (o k)) := fun k hk => by
      rw [← hld k hk]
      exact loadv_eq (pr3.get _ (by omega)) _
    have hbl : ∀ k, k < i → loadv h3.blks bb (0 + k) = some (.int .i64 (b k)) := fun k hk => hsb.ints_at' hk
    refine WK_loopN (fun j α h4 => ∃ m : Nat, m + j = i ∧ h3 = h4 ∧ (∀ k, k < m → ¬ (o k < 0 ∧ c k < 1000)) ∧ α.get 10 = some (.slice (some ⟨bc, 0, none⟩) i i) ∧ α.get 11 = some (.slice (some ⟨bb, 0, none⟩) i i) ∧ α.get 12 = some (.int .i64 (-1)) ∧ α.get 40 = some (.slice (some ⟨b3, o3, none⟩) i c03) ∧ α.get 41 = some (.int .i64 (i : Int)) ∧ α.get 42 = some (.int .i64 (m : Int))) i
      ⟨0, by omega, rfl, fun k hk => absurd hk (Nat.not_lt_zero k), by simp only [go_sem,reduceIte,Nat.reduceEqDiff,Nat.reduceLT], by simp only [go_sem,reduceIte,Nat.reduceEqDiff,Nat.reduceLT], by (simp only [go_sem,reduceIte,Nat.reduceEqDiff,Nat.reduceLT]) <;> rfl, by (simp only [go_sem,reduceIte,Nat.reduceEqDiff,Nat.reduceLT, e2]) <;> rfl, by (simp only [go_sem,reduceIte,Nat.reduceEqDiff,Nat.reduceLT]) <;> rfl, by (simp only [go_sem,reduceIte,Nat.reduceEqDiff,Nat.reduceLT]) <;> rfl⟩ (by omega) ?_
    clear e0 e1 e2 e7 e20 e21 e22
    rintro J j α h4 ⟨m, hmj, rfl, hnone, e10, e11, e12, e40, e41, e42⟩ hJ
    by_cases hlm : (m : Int) < (i : Int)
    · have lo3 := hld3 m (by omega)
      have lc := hsc.ints_at' (j := m) (by omega)
      by_cases g : o m < 0 ∧ c m < 1000
      · obtain ⟨g1, g2⟩ := g
        simp (maxSteps := 3000000) (disch := omega) only [go_sem,reduceIte,Nat.reduceEqDiff,Nat.reduceLT, e10, e11, e12, e40, e41, e42, hlm, idxA23, load3, Int.toNat_natCast, Nat.mul_one, lo3, lc, g1, g2]
        clear hJ
        have hT := hch.T_le m (by omega)
        -- the way back
        refine WK_loopN (fun j α h5 => ∃ (w : List Nat) (B : Option Addr) (cw : Nat), Pres h3.next h3 h5 ∧ α.get 11 = some (.slice (some ⟨bb, 0, none⟩) i i) ∧ α.get 15 = some (.slice B w.length cw) ∧ SlV h5.blks h3.next h5.next 1 w.length (wayL w) (.slice B w.length cw) ∧ w.length + j ≤ 950 ∧
            ((j = 0 ∧ ∃ v w', w = v :: w' ∧ Way d r i c T w ∧ w.getD (w.length - 1) 0 = m ∧ b v = -1 ∧ α.get 16 = some (.int .i64 (-1))) ∨
             (∃ u, j = T u + 1 ∧ u < i ∧ c u < 1000 ∧ Way d r i c T (u :: w) ∧ (u :: w).getD w.length 0 = m ∧ α.get 16 = some (.int .i64 (u : Int))))) (T m + 1)
          ⟨[], none, 0, Pres.refl _ _, by simp only [go_sem,reduceIte,Nat.reduceEqDiff,Nat.reduceLT, e11], by (simp only [go_sem,reduceIte,Nat.reduceEqDiff,Nat.reduceLT]) <;> rfl, .nil rfl rfl, by simp only [List.length_nil]; omega, .inr ⟨m, rfl, by omega, g2, Way.one (by omega) g2, rfl, by (simp only [go_sem,reduceIte,Nat.reduceEqDiff,Nat.reduceLT]) <;> rfl⟩⟩ (by omega) ?_
        clear e10 e11 e12 e40 e41 e42
        rintro J5 j5 α h5 ⟨w, B, cw, pr5, e11, e15, hsw, hwj, hst⟩ hJ5
        have n5 := pr5.next
        rcases hst with ⟨rfl, v, w', hw, hway, hlast, hbv, e16⟩ | ⟨u, rfl, hu, hcu, hway, hlast, e16⟩
        · have gm : ¬ ((0 : Int) ≤ -1) := by omega
          simp (maxSteps := 3000000) (disch := omega) only [go_sem,reduceIte,Nat.reduceEqDiff,Nat.reduceLT, e11, e15, e16, gm]
          have hwl : 0 < w.length := by rw [hw]; simp
          have hv0 : w.getD 0 0 = v := by rw [hw]; rfl
          have hvi := hway.lt 0 hwl
          have hvc := hway.act 0 hwl
          rw [hv0] at hvi hvc
          have hpos := hch.first hvi hvc hbv
          exact hQ' _ _ ⟨pr3.trans (pr5.le (by omega)), .inr ⟨w, stO o, c, b, T, B, cw, rfl, hsw.wide (by omega) (Nat.le_refl _), hwl, by omega, hway, hch, by rw [hv0]; exact hpos, by rw [hlast]; exact g1⟩⟩
        · have gu : (0 : Int) ≤ (u : Int) := by omega
          have hbu := hbl u hu
          have hbb : bb < h3.next := slv_lt hsb h0
          simp (maxSteps := 3000000) (disch := omega) only [go_sem,reduceIte,Nat.reduceEqDiff,Nat.reduceLT, e11, e15, e16, gu]
          refine At_lit (vs := [(0, .int .i64 (u : Int))]) (cs := #[.int .i64 (u : Int)]) u23 i3 zero3 (by rw [size3]; rfl) (by simp only [go_sem,reduceIte,Nat.reduceEqDiff,Nat.reduceLT]) (by rw [size3]; rfl) (by omega) fun h6 hn6 => ?_
          rw [size3] at hn6
          have n6 := hn6.next
          have s6 : SlV h6.blks h5.next h6.next 1 1 [.int .i64 (u : Int)] (.slice (some ⟨h5.next, 0, none⟩) 1 1) := hn6.slv rfl
          have hsw6 := hsw.mono (B' := h6.blks) fun x _ hx => by rw [hn6.get, if_neg (by omega)]
          try simp only [go_sem,reduceIte,Nat.reduceEqDiff,Nat.reduceLT]
          -- what comes next
          have next : ∀ (α' : Tr Value) (h7 : H) (B7 : Option Addr) (c7 : Nat), Pres h5.next h5 h7 → SlV h7.blks h5.next h7.next 1 (u :: w).length (wayL (u :: w)) (.slice B7 (u :: w).length c7) → α'.get 11 = some (.slice (some ⟨bb, 0, none⟩) i i) → α'.get 15 = some (.slice B7 (u :: w).length c7) → α'.get 16 = some (.int .i64 (b u)) → J5 α' h7 := fun α' h7 B7 c7 p7 s7 a11 a15 a16 => by
            have pp := pr5.trans (p7.le (by omega))
            have s7' := s7.wide (lo' := h3.next) (hi' := h7.next) (by omega) (Nat.le_refl _)
            have hlen : (u :: w).length = w.length + 1 := rfl
            rcases hch.from_ u hu with ⟨f1, f2⟩ | ⟨u', s, f1, f2, f3, f4, f5, f6⟩
            · exact hJ5 0 _ _ (by omega) ⟨u :: w, B7, c7, pp, a11, a15, s7', by omega, .inl ⟨rfl, u, w, rfl, hway, by rw [hlen, Nat.add_sub_cancel]; exact hlast, f1, by rw [f1] at a16; exact a16⟩⟩
            · exact hJ5 (T u' + 1) _ _ (by omega) ⟨u :: w, B7, c7, pp, a11, a15, s7', by omega, .inr ⟨u', rfl, f1, f4, hway.cons f1 f4 f3 f5 f6, by rw [hlen, getD_cons_succ']; exact hlast, by rw [f2] at a16; exact a16⟩⟩
          by_cases hw0 : w = []
          · subst hw0
            have hB : .slice B ([] : List Nat).length cw = (Value.slice none 0 0) ∨ srcLen (.slice B ([] : List Nat).length cw) = some 0 := .inr rfl
            refine At_append0 (sl := 1) (sc := 1) (A := some ⟨h5.next, 0, none⟩) (v := .slice B 0 cw) u23 u23 i3 (by (simp only [go_sem,reduceIte,Nat.reduceEqDiff,Nat.reduceLT]) <;> rfl) (by (simp only [go_sem,reduceIte,Nat.reduceEqDiff,Nat.reduceLT, e15]) <;> rfl) rfl (by omega) ?_
            have hb6 : loadv h6.blks bb (0 + u) = some (.int .i64 (b u)) := by
              rw [← hbu]
              exact loadv_eq (by rw [hn6.get, if_neg (by omega)]; exact pr5.get _ (by omega)) _
            simp (maxSteps := 3000000) (disch := omega) only [go_sem,reduceIte,Nat.reduceEqDiff,Nat.reduceLT, e11, e16, idxA23, Int.toNat_natCast, Nat.mul_one, load3, hb6]
            exact next _ h6 (some ⟨h5.next, 0, none⟩) 1 (hn6.pres (Nat.le_refl _)) s6 (by simp only [go_sem,reduceIte,Nat.reduceEqDiff,Nat.reduceLT, e11]) (by (simp only [go_sem,reduceIte,Nat.reduceEqDiff,Nat.reduceLT]) <;> rfl) (by (simp only [go_sem,reduceIte,Nat.reduceEqDiff,Nat.reduceLT]) <;> rfl)
          · have hwl : 0 < w.length := List.length_pos_iff.2 hw0
            refine At_append (lo := h5.next) (hi := h6.next) (lo2 := h3.next) (hi2 := h5.next) (sl := 1) (sc := 1) (m := w.length) (L := [.int .i64 (u : Int)]) (M := wayL w) (A := some ⟨h5.next, 0, none⟩) (v := .slice B w.length cw) u23 u23 i3 zero3 (by rw [size3, bytes3]; rfl) (by (simp only [go_sem,reduceIte,Nat.reduceEqDiff,Nat.reduceLT]) <;> rfl) (by rw [size3]; exact s6) (by omega) (by rw [En_G]; omega) (by simp only [go_sem,reduceIte,Nat.reduceEqDiff,Nat.reduceLT, e15]) (by rw [size3]; exact hsw6) hwl (by omega) wayL_one (by omega) fun h7 ha7 => ?_
            rw [size3, show [Value.int .i64 (u : Int)] ++ wayL w = wayL (u :: w) from rfl] at ha7
            have n7 := ha7.next
            have s7 := ha7.slv (n := (u :: w).length) (c := (u :: w).length) (by rw [wayL_len, Nat.mul_one])
            have hb7 : loadv h7.blks bb (0 + u) = some (.int .i64 (b u)) := by
              rw [← hbu]
              refine loadv_eq ?_ _
              rw [ha7.get, if_neg (by omega), if_neg (fun e => by simp only [blkOf, Option.some.injEq] at e; omega), hn6.get, if_neg (by omega)]
              exact pr5.get _ (by omega)
            have p7 : Pres h5.next h5 h7 := (hn6.pres (Nat.le_refl _)).trans (ha7.pres (by omega) fun x hx => by simp only [blkOf, Option.some.injEq] at hx; omega)
            have hl1 : 1 + w.length = (u :: w).length := by rw [List.length_cons]; omega
            rw [hl1]
            simp (maxSteps := 3000000) (disch := omega) only [go_sem,reduceIte,Nat.reduceEqDiff,Nat.reduceLT, e11, e16, idxA23, Int.toNat_natCast, Nat.mul_one, load3, hb7]
            exact next _ h7 (some ⟨h6.next, 0, none⟩) (u :: w).length p7 (s7.wide (by omega) (Nat.le_refl _)) (by simp only [go_sem,reduceIte,Nat.reduceEqDiff,Nat.reduceLT, e11]) (by (simp only [go_sem,reduceIte,Nat.reduceEqDiff,Nat.reduceLT]) <;> rfl) (by (simp only [go_sem,reduceIte,Nat.reduceEqDiff,Nat.reduceLT]) <;> rfl)
      · have hnx : ∀ k, k < m + 1 → ¬ (o k < 0 ∧ c k < 1000) := fun k hk => by
          by_cases hkm : k = m
          · subst hkm; exact g
          · exact hnone k (by omega)
        by_cases g1 : o m < 0
        · have g2 : ¬ c m < 1000 := fun k => g ⟨g1, k⟩
          simp (maxSteps := 3000000) (disch := omega) only [go_sem,reduceIte,Nat.reduceEqDiff,Nat.reduceLT, e10, e11, e12, e40, e41, e42, hlm, idxA23, load3, Int.toNat_natCast, Nat.mul_one, lo3, lc, g1, g2, wrap_i64]
          exact hJ (j - 1) _ _ (by omega) ⟨m + 1, by omega, rfl, hnx, by simp only [go_sem,reduceIte,Nat.reduceEqDiff,Nat.reduceLT, e10], by simp only [go_sem,reduceIte,Nat.reduceEqDiff,Nat.reduceLT, e11], by simp only [go_sem,reduceIte,Nat.reduceEqDiff,Nat.reduceLT, e12], by simp only [go_sem,reduceIte,Nat.reduceEqDiff,Nat.reduceLT, e40], by simp only [go_sem,reduceIte,Nat.reduceEqDiff,Nat.reduceLT, e41], by (simp only [go_sem,reduceIte,Nat.reduceEqDiff,Nat.reduceLT]) <;> rfl⟩
        · simp (maxSteps := 3000000) (disch := omega) only [go_sem,reduceIte,Nat.reduceEqDiff,Nat.reduceLT, e10, e11, e12, e40, e41, e42, hlm, idxA23, load3, Int.toNat_natCast, Nat.mul_one, lo3, lc, g1, wrap_i64]
          exact hJ (j - 1) _ _ (by omega) ⟨m + 1, by omega, rfl, hnx, by simp only [go_sem,reduceIte,Nat.reduceEqDiff,Nat.reduceLT, e10], by simp only [go_sem,reduceIte,Nat.reduceEqDiff,Nat.reduceLT, e11], by simp only [go_sem,reduceIte,Nat.reduceEqDiff,Nat.reduceLT, e12], by simp only [go_sem,reduceIte,Nat.reduceEqDiff,Nat.reduceLT, e40], by simp only [go_sem,reduceIte,Nat.reduceEqDiff,Nat.reduceLT, e41], by (simp only [go_sem,reduceIte,Nat.reduceEqDiff,Nat.reduceLT]) <;> rfl⟩
    · obtain rfl : m = i := by omega
      clear hJ
      simp (maxSteps := 3000000) (disch := omega) only [go_sem,reduceIte,Nat.reduceEqDiff,Nat.reduceLT, e10, e11, e12, e40, e41, e42, hlm]
      have hz : ∀ v, v < m → o v = 0 := fun v hv => by
        rw [ho v hv]
        exact no_way hcan.bd (hch.congr (st' := stO (opn d r m)) fun v hv => by unfold stO; rw [ho v hv]) (fun v hv h1 => fun h2 => hnone v hv ⟨by rw [ho v hv]; exact h1, h2⟩) v hv
      refine WK_loopN (fun j α h5 => h3 = h5 ∧ α.get 15 = some (.slice none 0 0) ∧ α.get 16 = some (.int .i64 (-1))) 0 ⟨rfl, by (simp only [go_sem,reduceIte,Nat.reduceEqDiff,Nat.reduceLT]) <;> rfl, by (simp only [go_sem,reduceIte,Nat.reduceEqDiff,Nat.reduceLT, e12]) <;> rfl⟩ (by omega) ?_
      rintro J5 j5 α h5 ⟨rfl, e15, e16⟩ hJ5
      have gm : ¬ ((0 : Int) ≤ -1) := by omega
      simp (maxSteps := 3000000) (disch := omega) only [go_sem,reduceIte,Nat.reduceEqDiff,Nat.reduceLT, e15, e16, gm]
      exact hQ' _ _ ⟨pr3, .inl ⟨rfl, hz⟩⟩
end
end Go.Proofs.YtngpoamjhngcgaaGreatDoor.Ev

