/- The document's order of squares. -/
import Derived.Test.YtnhbkoeomefkdaaDoorPmhA4
import Derived.Test.YtnhbkoeomefkdaaDoorPmhG0
import Derived.Test.YtnhbkoeomefkdaaDoorPmDr
set_option linter.unusedSimpArgs false
set_option linter.unusedVariables false
namespace Go.Proofs.YtnhbkoeomefkdaaDoor.Ev
open Go Go.Proofs
noncomputable section

section
variable {P : Program} {n : Nat} {ops : List Oper} {r tl : List Oper} {k : List Frm} {α : Tr Value} {h : H} {R : Rt}
end
set_option maxRecDepth 100000 in
set_option maxHeartbeats 32000000 in
/-- out = append(append(append([]T{}, out[:k]...), q), out[k:]...): the region of one more square in its place -/
theorem Order_spec {G lo hi c : Nat} {L : List Sq} {A : Option Addr} {h : H} (hG : G ≤ h.next) (hhi : hi ≤ h.next) (hv : SlV h.blks lo hi 3 L.length (sqc L) (.slice A L.length c)) (hl : L.length ≤ 1000000) :
    Spec Tryd.prog (En G) 35 [.slice A L.length c] h fun v h' => ∃ (A' : Option Addr) (O : List Sq), v = .slice A' L.length L.length ∧ O.Perm L ∧ Srt O ∧ SlV h'.blks h.next h'.next 3 L.length (sqc O) (.slice A' L.length L.length) := by
  refine CallsE_enter (En_known (by decide)) (En_f.trans Tryd.func35) rfl ⟨Nat.le_of_ble_eq_true rfl, by decide⟩ fun Q' hQ' => ?_
  simp only [Tryd.f35, go_sem,reduceIte,Nat.reduceEqDiff,Nat.reduceLT]
  refine At_lit0 u22 i61 zero61 (by rw [size61]; rfl) (by omega) ?_
  simp only [go_sem,reduceIte,Nat.reduceEqDiff,Nat.reduceLT]
  refine WK_loopN (fun j α h2 => ∃ (i : Nat) (A' : Option Addr) (O : List Sq), i + j = L.length ∧ Pres h.next h h2 ∧ O.Perm (L.take i) ∧ Srt O ∧ SlV h2.blks h.next h2.next 3 i (sqc O) (.slice A' i i) ∧ α.get 0 = some (.slice A L.length c) ∧ α.get 3 = some (.slice A' i i) ∧ α.get 4 = some (.int .i64 i)) L.length
    ⟨0, some ⟨0, 0, some 0⟩, [], by omega, Pres.refl _ _, by simp, List.Pairwise.nil, .emp rfl rfl, by simp only [go_sem,reduceIte,Nat.reduceEqDiff,Nat.reduceLT], by (simp only [go_sem,reduceIte,Nat.reduceEqDiff,Nat.reduceLT]) <;> rfl, by (simp only [go_sem,reduceIte,Nat.reduceEqDiff,Nat.reduceLT]) <;> rfl⟩ (by omega) ?_
  rintro J j α h2 ⟨i, A', O, hij, pr, hpm, hsO, hs, e0, e3, e4⟩ hJ
  have nx := pr.next
  have hti : (L.take i).length = i := by rw [List.length_take]; omega
  have hOl : O.length = i := hpm.length_eq.trans hti
  have hv2 := hv.mono (B' := h2.blks) fun b _ hb => pr.get b (by omega)
  by_cases hlt : (i : Int) < (L.length : Int)
  · obtain ⟨q, hq⟩ : ∃ q, L[i]? = some q := ⟨_, List.getElem?_eq_getElem (show i < L.length by omega)⟩
    obtain ⟨bA, oA, rfl, _, _, _⟩ := hv2.at_ (by omega)
    simp (disch := omega) only [go_sem,reduceIte,Nat.reduceEqDiff,Nat.reduceLT, e0, e3, e4, hlt, len22]
    refine WK_loopN (fun j α h3 => ∃ k : Nat, k = j ∧ k ≤ i ∧ Pres h2.next h2 h3 ∧ (∀ (j : Nat) (a : Sq), k ≤ j → O[j]? = some a → ltSq q a = true) ∧ α.get 0 = some (.slice (some ⟨bA, oA, none⟩) L.length c) ∧ α.get 3 = some (.slice A' i i) ∧ α.get 4 = some (.int .i64 i) ∧ α.get 5 = some (.int .i64 k)) i
      ⟨i, rfl, Nat.le_refl _, Pres.refl _ _, fun j a h1 h2 => by have := (List.getElem?_eq_some_iff.1 h2).1; omega, by simp only [go_sem,reduceIte,Nat.reduceEqDiff,Nat.reduceLT, e0], by simp only [go_sem,reduceIte,Nat.reduceEqDiff,Nat.reduceLT, e3], by simp only [go_sem,reduceIte,Nat.reduceEqDiff,Nat.reduceLT, e4], by (simp only [go_sem,reduceIte,Nat.reduceEqDiff,Nat.reduceLT]) <;> rfl⟩ (by omega) ?_
    rintro J2 j2 α2 h3 ⟨k, rfl, hki, pr3, hlts, g0, g3, g4, g5⟩ hJ2
    have nx3 := pr3.next
    have prh3 : Pres h.next h h3 := pr.trans (pr3.le (by omega))
    have hv3 := hv.mono (B' := h3.blks) fun b _ hb => prh3.get b (by omega)
    have hs3 := hs.mono (B' := h3.blks) fun b _ hb => pr3.get b (by omega)
    obtain ⟨la, _, _, _⟩ := hv3.sq_at (G := G) hq rfl
    by_cases hk0 : (0 : Int) < (k : Int)
    · obtain ⟨a, ha⟩ : ∃ a, O[k - 1]? = some a := ⟨_, List.getElem?_eq_getElem (show k - 1 < O.length by omega)⟩
      obtain ⟨bO, oO, rfl, _, _, _⟩ := hs3.at_ (by omega)
      obtain ⟨lo1, _, _, _⟩ := hs3.sq_at (G := G) ha hOl.symm
      have hk1 : (k : Int) - 1 = ((k - 1 : Nat) : Int) := by omega
      try simp only [go_sem,reduceIte,Nat.reduceEqDiff,Nat.reduceLT]
      refine WK_regionT 12 ⟨by kernel_rfl, by kernel_rfl, by kernel_rfl⟩ ?_
      simp (maxSteps := 3000000) (disch := omega) only [go_sem,reduceIte,Nat.reduceEqDiff,Nat.reduceLT, g0, g3, g4, g5, hk0, idxA22, Int.toNat_natCast, la, wrap_i64, hk1, lo1]
      refine CallO_f (BeforeSq_spec (by omega)) (by omega) fun u h4 pr4 hu => ?_
      subst hu
      have nx4 := pr4.next
      cases hb : ltSq q a with
      | true =>
        simp (disch := omega) only [go_sem,reduceIte,Nat.reduceEqDiff,Nat.reduceLT, g5, wrap_i64, hk1]
        exact hJ2 (k - 1) _ _ (by omega) ⟨k - 1, rfl, by omega, pr3.trans (pr4.le (by omega)), fun j b h1 h2 => by
          by_cases e : j = k - 1
          · subst e; rw [ha] at h2; injection h2 with h2; subst h2; exact hb
          · exact hlts j b (by omega) h2, by simp only [go_sem,reduceIte,Nat.reduceEqDiff,Nat.reduceLT, g0], by simp only [go_sem,reduceIte,Nat.reduceEqDiff,Nat.reduceLT, g3], by simp only [go_sem,reduceIte,Nat.reduceEqDiff,Nat.reduceLT, g4], by (simp only [go_sem,reduceIte,Nat.reduceEqDiff,Nat.reduceLT]) <;> rfl⟩
      | false =>
        simp (disch := omega) only [go_sem,reduceIte,Nat.reduceEqDiff,Nat.reduceLT]
        have hle : ∀ a', 0 < k → O[k - 1]? = some a' → ltSq q a' = false := fun a' _ h => by rw [ha] at h; injection h with h; subst h; exact hb
        have prh4 : Pres h.next h h4 := prh3.trans (pr4.le (by omega))
        have hs4 := hs3.mono (B' := h4.blks) fun b _ hb => pr4.get b (by omega)
        have hv4 := hv.mono (B' := h4.blks) fun b _ hb => prh4.get b (by omega)
        obtain ⟨lq, _, _, _⟩ := hv4.sq_at (G := G) hq rfl
        obtain ⟨B1, c1, hsl1, hp1⟩ := sliceO_take (E := En G) (kd := .i64) (m := k) u22 i61 size61 hs4 (by omega)
        rw [sqc_take] at hp1
        refine WK_regionD 14 10 ⟨by kernel_rfl, by kernel_rfl, by kernel_rfl, by kernel_rfl⟩ rfl rfl ?_
        try simp only [go_sem,reduceIte,Nat.reduceEqDiff,Nat.reduceLT]
        refine At_lit0 u22 i61 zero61 (by rw [size61]; rfl) (by omega) ?_
        simp (disch := omega) only [go_sem,reduceIte,Nat.reduceEqDiff,Nat.reduceLT, g0, g3, g4, g5, hsl1]
        refine At_appendF (M := sqc (O.take k)) (m := k) (v := .slice B1 k c1) u22 u22 i61 zero61 (by rw [size61, bytes61]; rfl) (by simp only [go_sem,reduceIte,Nat.reduceEqDiff,Nat.reduceLT]) (by simp only [go_sem,reduceIte,Nat.reduceEqDiff,Nat.reduceLT]) (by rw [size61]; exact hp1) (by omega) sqc_one (by omega) fun B5 h5 pr5 hs5 => ?_
        rw [size61] at hs5
        have n5 := pr5.next
        have lq5 : loadO (En G) 61 h5.blks (some (.pointer (some ⟨bA, oA + i * 3, none⟩))) = some (sqv q) := ((hv4.mono (B' := h5.blks) fun b _ hb => pr5.get b (by omega)).sq_at (G := G) hq rfl).1
        simp (disch := omega) only [go_sem,reduceIte,Nat.reduceEqDiff,Nat.reduceLT, g0, g4, idxA22, Int.toNat_natCast, lq5]
        refine At_lit (vs := [(0, sqv q)]) (cs := #[.int .i64 q.1, .int .i64 q.2.1, .int .i64 q.2.2]) u22 i61 zero61 (by rw [size61]; rfl) (by simp only [go_sem,reduceIte,Nat.reduceEqDiff,Nat.reduceLT]) (by rw [size61]; rfl) (by omega) fun h6 hn6 => ?_
        rw [size61] at hn6
        have n6 := hn6.next
        have hsx : SlV h6.blks h5.next h6.next 3 1 (sqc [q]) (.slice (some ⟨h5.next, 0, none⟩) 1 1) := hn6.slv rfl
        have hs6 : SlV h6.blks h4.next h5.next 3 k (sqc (O.take k)) (.slice B5 k k) := hs5.mono fun b _ hb => by rw [hn6.get, if_neg (by omega)]
        have ob : ∀ y, blkOf (.slice B5 k k) = some y → h4.next ≤ y := fun y hy => hs6.blk y hy
        simp only [go_sem,reduceIte,Nat.reduceEqDiff,Nat.reduceLT]
        refine At_append (lo := h4.next) (hi := h5.next) (lo2 := h5.next) (hi2 := h6.next) (sl := k) (sc := k) (m := 1) (L := sqc (O.take k)) (M := sqc [q]) (A := B5) (v := .slice (some ⟨h5.next, 0, none⟩) 1 1) u22 u22 i61 zero61 (by rw [size61, bytes61]; rfl) (by simp only [go_sem,reduceIte,Nat.reduceEqDiff,Nat.reduceLT]) (by rw [size61]; exact hs6) (by omega) (by rw [En_G]; omega) (by simp only [go_sem,reduceIte,Nat.reduceEqDiff,Nat.reduceLT]) (by rw [size61]; exact hsx) (by omega) (by omega) sqc_one (by omega) fun h7 ha7 => ?_
        rw [size61] at ha7
        have n7 : h7.next = h6.next + 1 := ha7.next
        have w7 : h4.next ≤ h7.wm := by
          have := ha7.wm h4.next ob
          have e : (st true h6).wm = h6.next := rfl
          rw [e] at this
          omega
        have g7 : ∀ y, y < h4.next → h7.blks.get y = h4.blks.get y := fun y hy => by
          rw [ha7.get]
          have e1 : ¬ y = (st true h6).next := by show ¬ y = h6.next; omega
          rw [if_neg e1, if_neg fun e2 => by have := ob y e2; omega]
          show h6.blks.get y = _
          rw [hn6.get, if_neg (by omega), pr5.get y hy]
        have hs7 := ha7.slv (n := k + 1) (c := k + 1) (by rw [List.length_append, sqc_len, sqc_len, List.length_take, List.length_singleton]; omega)
        rw [← sqc_app] at hs7
        simp only [go_sem,reduceIte,Nat.reduceEqDiff,Nat.reduceLT]
        intro wm hwm
        have pr8 : Pres h4.next h4 ⟨h7.blks, h7.next, wm⟩ := ⟨by show h4.next ≤ h7.next; omega, by have := pr5.wm; have := hn6.wm; show _ ≤ wm; omega, fun y hy => g7 y hy⟩
        have hs8 : SlV (H.mk h7.blks h7.next wm).blks h6.next (H.mk h7.blks h7.next wm).next 3 (k + 1) (sqc (O.take k ++ [q])) (.slice (some ⟨h6.next, 0, none⟩) (k + 1) (k + 1)) := hs7
        have n8 : (H.mk h7.blks h7.next wm).next = h7.next := rfl
        have hs48 := hs4.mono (B' := h7.blks) fun b _ hb => g7 b (by omega)
        obtain ⟨B2, c2, hsl2, hp2⟩ := sliceO_drop (E := En G) (kd := .i64) (m := k) u22 i61 size61 hs48 (by omega)
        rw [sqc_dropn] at hp2
        simp (disch := omega) only [go_sem,reduceIte,Nat.reduceEqDiff,Nat.reduceLT, g3, g5, hsl2]
        have hs46 := hs4.mono (B' := h6.blks) fun b _ hb => by rw [hn6.get, if_neg (by omega), pr5.get b (by omega)]
        refine ⟨dirtyOK_of2 (Ls := [13]) (by kernel_rfl) (fun i hi => by
          obtain rfl : i = 13 := by simpa using hi
          refine .inr (SliceSame.of_slv (t := 22) (x := .tmp 42) (l := some (.tmp 43)) (r := none) rfl rfl rfl (by (simp only [go_sem,reduceIte,Nat.reduceEqDiff,Nat.reduceLT, g3]) <;> rfl) hs46 fun b _ hb => ?_)
          show h7.blks.get b = _
          rw [g7 b (by omega), hn6.get, if_neg (by omega), pr5.get b (by omega)]), ?_⟩
        try simp only [go_sem,reduceIte,Nat.reduceEqDiff,Nat.reduceLT]
        refine At_append2 (lo := h6.next) (hi := h7.next) (A := some ⟨h6.next, 0, none⟩) (sl := k + 1) (m := i - k) (L := sqc (O.take k ++ [q])) (M := sqc (O.drop k)) (v := .slice B2 (i - k) c2) u22 u22 i61 zero61 (by rw [size61, bytes61]; rfl) (by (simp only [go_sem,reduceIte,Nat.reduceEqDiff,Nat.reduceLT]) <;> rfl) (by rw [size61]; exact hs8) (by omega) (by rw [En_G]; omega) (by omega) (by simp only [go_sem,reduceIte,Nat.reduceEqDiff,Nat.reduceLT]) (by rw [size61]; exact hp2) (by omega) sqc_one (by omega) fun B9 h9 pr9 hs9 => ?_
        rw [size61] at hs9
        have n9 := pr9.next
        have eO : sqc (O.take k ++ [q]) ++ sqc (O.drop k) = sqc (O.take k ++ q :: O.drop k) := by rw [← sqc_app, List.append_assoc]; rfl
        rw [eO, show k + 1 + (i - k) = i + 1 by omega] at hs9
        rw [show k + 1 + (i - k) = i + 1 by omega]
        simp (disch := omega) only [go_sem,reduceIte,Nat.reduceEqDiff,Nat.reduceLT, g4, wrap_i64]
        exact hJ (L.length - (i + 1)) _ _ (by omega) ⟨i + 1, B9, O.take k ++ q :: O.drop k, by omega, prh4.trans ((pr8.trans (pr9.le (by omega))).le (by omega)), by rw [take_snoc hq]; exact put_perm hpm, srt_put hsO (by omega) hlts hle, hs9.wide (by omega) (Nat.le_refl _), by simp only [go_sem,reduceIte,Nat.reduceEqDiff,Nat.reduceLT, g0], by (simp only [go_sem,reduceIte,Nat.reduceEqDiff,Nat.reduceLT]) <;> rfl, by (simp only [go_sem,reduceIte,Nat.reduceEqDiff,Nat.reduceLT]) <;> rfl⟩
    · obtain rfl : k = 0 := by omega
      have pr4 : Pres h3.next h3 h3 := Pres.refl _ _
      try simp only [go_sem,reduceIte,Nat.reduceEqDiff,Nat.reduceLT]
      refine WK_regionT 12 ⟨by kernel_rfl, by kernel_rfl, by kernel_rfl⟩ ?_
      simp (maxSteps := 3000000) (disch := omega) only [go_sem,reduceIte,Nat.reduceEqDiff,Nat.reduceLT, g0, g3, g4, g5, hk0]
      have hle : ∀ a', 0 < 0 → O[0 - 1]? = some a' → ltSq q a' = false := fun a' h _ => absurd h (Nat.lt_irrefl 0)
      have prh4 : Pres h.next h h3 := prh3.trans (pr4.le (by omega))
      have hs4 := hs3.mono (B' := h3.blks) fun b _ hb => pr4.get b (by omega)
      have hv4 := hv.mono (B' := h3.blks) fun b _ hb => prh4.get b (by omega)
      obtain ⟨lq, _, _, _⟩ := hv4.sq_at (G := G) hq rfl
      obtain ⟨B1, c1, hsl1, hp1⟩ := sliceO_take (E := En G) (kd := .i64) (m := 0) u22 i61 size61 hs4 (by omega)
      rw [sqc_take] at hp1
      refine WK_regionD 14 10 ⟨by kernel_rfl, by kernel_rfl, by kernel_rfl, by kernel_rfl⟩ rfl rfl ?_
      try simp only [go_sem,reduceIte,Nat.reduceEqDiff,Nat.reduceLT]
      refine At_lit0 u22 i61 zero61 (by rw [size61]; rfl) (by omega) ?_
      simp (disch := omega) only [go_sem,reduceIte,Nat.reduceEqDiff,Nat.reduceLT, g0, g3, g4, g5, hsl1]
      refine At_appendF (M := sqc (O.take 0)) (m := 0) (v := .slice B1 0 c1) u22 u22 i61 zero61 (by rw [size61, bytes61]; rfl) (by simp only [go_sem,reduceIte,Nat.reduceEqDiff,Nat.reduceLT]) (by simp only [go_sem,reduceIte,Nat.reduceEqDiff,Nat.reduceLT]) (by rw [size61]; exact hp1) (by omega) sqc_one (by omega) fun B5 h5 pr5 hs5 => ?_
      rw [size61] at hs5
      have n5 := pr5.next
      have lq5 : loadO (En G) 61 h5.blks (some (.pointer (some ⟨bA, oA + i * 3, none⟩))) = some (sqv q) := ((hv4.mono (B' := h5.blks) fun b _ hb => pr5.get b (by omega)).sq_at (G := G) hq rfl).1
      simp (disch := omega) only [go_sem,reduceIte,Nat.reduceEqDiff,Nat.reduceLT, g0, g4, idxA22, Int.toNat_natCast, lq5]
      refine At_lit (vs := [(0, sqv q)]) (cs := #[.int .i64 q.1, .int .i64 q.2.1, .int .i64 q.2.2]) u22 i61 zero61 (by rw [size61]; rfl) (by simp only [go_sem,reduceIte,Nat.reduceEqDiff,Nat.reduceLT]) (by rw [size61]; rfl) (by omega) fun h6 hn6 => ?_
      rw [size61] at hn6
      have n6 := hn6.next
      have hsx : SlV h6.blks h5.next h6.next 3 1 (sqc [q]) (.slice (some ⟨h5.next, 0, none⟩) 1 1) := hn6.slv rfl
      have hs6 : SlV h6.blks h3.next h5.next 3 0 (sqc (O.take 0)) (.slice B5 0 0) := hs5.mono fun b _ hb => by rw [hn6.get, if_neg (by omega)]
      have ob : ∀ y, blkOf (.slice B5 0 0) = some y → h3.next ≤ y := fun y hy => hs6.blk y hy
      simp only [go_sem,reduceIte,Nat.reduceEqDiff,Nat.reduceLT]
      refine At_append (lo := h3.next) (hi := h5.next) (lo2 := h5.next) (hi2 := h6.next) (sl := 0) (sc := 0) (m := 1) (L := sqc (O.take 0)) (M := sqc [q]) (A := B5) (v := .slice (some ⟨h5.next, 0, none⟩) 1 1) u22 u22 i61 zero61 (by rw [size61, bytes61]; rfl) (by simp only [go_sem,reduceIte,Nat.reduceEqDiff,Nat.reduceLT]) (by rw [size61]; exact hs6) (by omega) (by rw [En_G]; omega) (by simp only [go_sem,reduceIte,Nat.reduceEqDiff,Nat.reduceLT]) (by rw [size61]; exact hsx) (by omega) (by omega) sqc_one (by omega) fun h7 ha7 => ?_
      rw [size61] at ha7
      have n7 : h7.next = h6.next + 1 := ha7.next
      have w7 : h3.next ≤ h7.wm := by
        have := ha7.wm h3.next ob
        have e : (st true h6).wm = h6.next := rfl
        rw [e] at this
        omega
      have g7 : ∀ y, y < h3.next → h7.blks.get y = h3.blks.get y := fun y hy => by
        rw [ha7.get]
        have e1 : ¬ y = (st true h6).next := by show ¬ y = h6.next; omega
        rw [if_neg e1, if_neg fun e2 => by have := ob y e2; omega]
        show h6.blks.get y = _
        rw [hn6.get, if_neg (by omega), pr5.get y hy]
      have hs7 := ha7.slv (n := 0 + 1) (c := 0 + 1) (by rw [List.length_append, sqc_len, sqc_len, List.length_take, List.length_singleton]; omega)
      rw [← sqc_app] at hs7
      simp only [go_sem,reduceIte,Nat.reduceEqDiff,Nat.reduceLT]
      intro wm hwm
      have pr8 : Pres h3.next h3 ⟨h7.blks, h7.next, wm⟩ := ⟨by show h3.next ≤ h7.next; omega, by have := pr5.wm; have := hn6.wm; show _ ≤ wm; omega, fun y hy => g7 y hy⟩
      have hs8 : SlV (H.mk h7.blks h7.next wm).blks h6.next (H.mk h7.blks h7.next wm).next 3 (0 + 1) (sqc (O.take 0 ++ [q])) (.slice (some ⟨h6.next, 0, none⟩) (0 + 1) (0 + 1)) := hs7
      have n8 : (H.mk h7.blks h7.next wm).next = h7.next := rfl
      have hs48 := hs4.mono (B' := h7.blks) fun b _ hb => g7 b (by omega)
      obtain ⟨B2, c2, hsl2, hp2⟩ := sliceO_drop (E := En G) (kd := .i64) (m := 0) u22 i61 size61 hs48 (by omega)
      rw [sqc_dropn] at hp2
      simp (disch := omega) only [go_sem,reduceIte,Nat.reduceEqDiff,Nat.reduceLT, g3, g5, hsl2]
      have hs46 := hs4.mono (B' := h6.blks) fun b _ hb => by rw [hn6.get, if_neg (by omega), pr5.get b (by omega)]
      refine ⟨dirtyOK_of2 (Ls := [13]) (by kernel_rfl) (fun i hi => by
        obtain rfl : i = 13 := by simpa using hi
        refine .inr (SliceSame.of_slv (t := 22) (x := .tmp 42) (l := some (.tmp 43)) (r := none) rfl rfl rfl (by (simp only [go_sem,reduceIte,Nat.reduceEqDiff,Nat.reduceLT, g3]) <;> rfl) hs46 fun b _ hb => ?_)
        show h7.blks.get b = _
        rw [g7 b (by omega), hn6.get, if_neg (by omega), pr5.get b (by omega)]), ?_⟩
      try simp only [go_sem,reduceIte,Nat.reduceEqDiff,Nat.reduceLT]
      refine At_append2 (lo := h6.next) (hi := h7.next) (A := some ⟨h6.next, 0, none⟩) (sl := 0 + 1) (m := i - 0) (L := sqc (O.take 0 ++ [q])) (M := sqc (O.drop 0)) (v := .slice B2 (i - 0) c2) u22 u22 i61 zero61 (by rw [size61, bytes61]; rfl) (by (simp only [go_sem,reduceIte,Nat.reduceEqDiff,Nat.reduceLT]) <;> rfl) (by rw [size61]; exact hs8) (by omega) (by rw [En_G]; omega) (by omega) (by simp only [go_sem,reduceIte,Nat.reduceEqDiff,Nat.reduceLT]) (by rw [size61]; exact hp2) (by omega) sqc_one (by omega) fun B9 h9 pr9 hs9 => ?_
      rw [size61] at hs9
      have n9 := pr9.next
      have eO : sqc (O.take 0 ++ [q]) ++ sqc (O.drop 0) = sqc (O.take 0 ++ q :: O.drop 0) := by rw [← sqc_app, List.append_assoc]; rfl
      rw [eO, show 0 + 1 + (i - 0) = i + 1 by omega] at hs9
      rw [show 0 + 1 + (i - 0) = i + 1 by omega]
      simp (disch := omega) only [go_sem,reduceIte,Nat.reduceEqDiff,Nat.reduceLT, g4, wrap_i64]
      exact hJ (L.length - (i + 1)) _ _ (by omega) ⟨i + 1, B9, O.take 0 ++ q :: O.drop 0, by omega, prh4.trans ((pr8.trans (pr9.le (by omega))).le (by omega)), by rw [take_snoc hq]; exact put_perm hpm, srt_put hsO (by omega) hlts hle, hs9.wide (by omega) (Nat.le_refl _), by simp only [go_sem,reduceIte,Nat.reduceEqDiff,Nat.reduceLT, g0], by (simp only [go_sem,reduceIte,Nat.reduceEqDiff,Nat.reduceLT]) <;> rfl, by (simp only [go_sem,reduceIte,Nat.reduceEqDiff,Nat.reduceLT]) <;> rfl⟩
  · obtain rfl : i = L.length := by omega
    rw [List.take_length] at hpm
    simp (disch := omega) only [go_sem,reduceIte,Nat.reduceEqDiff,Nat.reduceLT, e0, e3, e4, hlt, len22]
    exact hQ' _ _ ⟨pr, A', O, rfl, hpm, hsO, hs⟩
end
end Go.Proofs.YtnhbkoeomefkdaaDoor.Ev

