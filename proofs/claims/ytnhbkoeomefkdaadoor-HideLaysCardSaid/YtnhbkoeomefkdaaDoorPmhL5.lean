/- The reference's Lay. -/
import Derived.Test.YtnhbkoeomefkdaaDoorPmhL4
set_option linter.unusedSimpArgs false
set_option linter.unusedVariables false
namespace Go.Proofs.YtnhbkoeomefkdaaDoor.Ev.L
open Go Go.Proofs Go.Proofs.YtnhbkoeomefkdaaDoor.Ev
noncomputable section

theorem sinv {B : Tr Blk} {lo hi sz n b off c : Nat} {L : List Value} (s : SlV B lo hi sz n L (.slice (some ⟨b, off, none⟩) n c)) : ∃ cells size, B.get b = some (.mk cells size sz) ∧ lo ≤ b ∧ b < hi ∧ off + n * sz ≤ size ∧ L.length = n * sz ∧ ∀ i, i < n * sz → cells.get (off + i) = L[i]? := by
  cases s with
  | mk hb hlo hhi hsz hL hc => exact ⟨_, _, hb, hlo, hhi, hsz, hL, hc⟩
theorem room_ex {l : List Int} {k : Nat} (hk : k < l.length) (low : ∀ i, i < l.length → l.getD k 0 ≤ l.getD i 0) (left : ∀ i, i < k → l.getD k 0 < l.getD i 0) : ∃ m, RoomOf l k m := by
  have key : ∀ (d t : Nat), t + d = l.length → k < t → (∀ i, k ≤ i → i < t → l.getD i 0 = l.getD k 0) → ∃ m, RoomOf l k m := by
    intro d
    induction d with
    | zero => intro t ht hkt hf; exact ⟨t - k, by omega, low, left, fun i h1 h2 => hf i h1 (by omega), fun h => by omega, by omega⟩
    | succ d ih =>
      intro t ht hkt hf
      by_cases hq : l.getD t 0 = l.getD k 0
      · refine ih (t + 1) (by omega) (by omega) fun i h1 h2 => ?_
        by_cases hit : i = t
        · subst hit; exact hq
        · exact hf i h1 (by omega)
      · exact ⟨t - k, by omega, low, left, fun i h1 h2 => hf i h1 (by omega), fun _ => by rw [show k + (t - k) = t by omega]; exact hq, by omega⟩
  exact key (l.length - (k + 1)) (k + 1) (by omega) (by omega) fun i h1 h2 => by
    have : i = k := by omega
    subst this; rfl

set_option maxHeartbeats 16000000 in
theorem refLay_spec {G lo hi n c w : Nat} {A : Option Addr} {L : List Int} {h : H} (hG : G ≤ h.next) (hv : SlV h.blks lo hi 1 n (ints L) (.slice A n c)) (hhi : hi ≤ h.next) (hn : n ≤ 25) (hw : 1 ≤ w ∧ w ≤ 1000) (hL : ∀ z ∈ L, 1 ≤ z ∧ z ≤ 1000) :
    Spec Tryd.prog (En G) 24 [.int .i64 w, .slice A n c] h fun u h' => (layOn (List.replicate w 0) L = none ∧ u = .tuple #[.slice none 0 0, .bool false]) ∨
      ∃ sq B, layOn (List.replicate w 0) L = some sq ∧ u = .tuple #[.slice B sq.length sq.length, .bool true] ∧ SlV h'.blks h.next h'.next 3 sq.length (sqCells sq) (.slice B sq.length sq.length) := by
  have hl : L.length = n := by have := hv.len; rw [ints_len] at this; omega
  refine CallsE_enter (En_known (by decide)) (En_f.trans Tryd.func24) rfl ⟨Nat.le_of_ble_eq_true rfl, by decide⟩ fun Q' hQ' => ?_
  simp only [Tryd.f24, go_sem,reduceIte,Nat.reduceEqDiff,Nat.reduceLT]
  refine At_make (k1 := .i64) (k2 := .i64) (l := w) (c := w) u27 i3 zero3 (by rw [size3, bytes3]; rfl) (by simp only [go_sem,reduceIte,Nat.reduceEqDiff,Nat.reduceLT]) (by simp only [go_sem,reduceIte,Nat.reduceEqDiff,Nat.reduceLT]) (Nat.le_refl _) (by rw [size3]; omega) (by omega) (by omega) fun h1 hn1 => ?_
  rw [size3, zeros_ints] at hn1
  have n1 := hn1.next
  have hf1 := hn1.slv (n := w) (c := w) (by rw [ints_len]; simp)
  rw [n1] at hf1
  refine At_lit0 u22 i61 zero61 (by rw [size61]; rfl) (by omega) ?_
  simp only [go_sem,reduceIte,Nat.reduceEqDiff,Nat.reduceLT]
  refine WK_loopN (fun j α h2 => ∃ (k : Nat) (F : List Int) (sq : List (Nat × Int × Int)) (B : Option Addr), k + j = n ∧ sq.length = k ∧ (∀ i, i < w → 0 ≤ F.getD i 0 ∧ F.getD i 0 ≤ 1000) ∧ α.get 0 = some (.int .i64 w) ∧ α.get 1 = some (.slice A n c) ∧ α.get 6 = some (.slice (some ⟨h.next, 0, none⟩) w w) ∧
      α.get 7 = some (.slice B sq.length sq.length) ∧ α.get 8 = some (.int .i64 k) ∧ h.next < h2.next ∧
      SlV h2.blks h.next (h.next + 1) 1 w (ints F) (.slice (some ⟨h.next, 0, none⟩) w w) ∧ SlV h2.blks (h.next + 1) h2.next 3 sq.length (sqCells sq) (.slice B sq.length sq.length) ∧
      layOn (List.replicate w 0) L = (layOn F (L.drop k)).map (sq ++ ·) ∧ Pres h.next h h2) n
    ⟨0, List.replicate w 0, [], some ⟨0, 0, some 0⟩, by omega, rfl, fun i hi => (by simp [List.getD, hi]), by simp only [go_sem,reduceIte,Nat.reduceEqDiff,Nat.reduceLT], by simp only [go_sem,reduceIte,Nat.reduceEqDiff,Nat.reduceLT], by simp only [go_sem,reduceIte,Nat.reduceEqDiff,Nat.reduceLT], by (simp only [go_sem,reduceIte,Nat.reduceEqDiff,Nat.reduceLT]) <;> rfl, by (simp only [go_sem,reduceIte,Nat.reduceEqDiff,Nat.reduceLT]) <;> rfl, by omega, hf1, .emp rfl rfl, by simp, hn1.pres (Nat.le_refl _)⟩ (by omega) ?_
  clear hf1 hn1 n1 h1
  rintro J j α h2 ⟨k, F, sq, B, hk, hsk, hF, e0, e1, e6, e7, e8, hnx, hf, hsq, hlay, hpr⟩ hJ
  have hFl : F.length = w := by have := hf.len; rw [ints_len] at this; omega
  have lF : ∀ x, x < w → loadv h2.blks h.next (0 + x) = some (.int .i64 (F.getD x 0)) := fun x hx => by
    obtain ⟨b1, off1, he, _, _, h5⟩ := hf.at_ (by omega)
    injection he with he
    injection he with q1 q2
    subst q1; subst q2
    rw [h5 x (by omega), ints_getD (by omega)]
  by_cases hlt : (k : Int) < n
  · have hkn : k < n := by omega
    obtain ⟨z, hz⟩ : ∃ z, L[k]? = some z := ⟨L[k]'(by omega), List.getElem?_eq_getElem (by omega)⟩
    have hzb := hL z (List.mem_of_getElem? hz)
    have hv2 : SlV h2.blks lo hi 1 n (ints L) (.slice A n c) := hv.mono fun b _ hb => hpr.get b (by omega)
    obtain ⟨bA, oA, rfl, hbA, hbA', hld⟩ := hv2.at_ (by omega)
    have hld := hld k (by omega)
    rw [ints_get hz] at hld
    have hdrop : L.drop k = z :: L.drop (k + 1) := by
      obtain ⟨g, rfl⟩ := List.getElem?_eq_some_iff.1 hz
      exact List.drop_eq_getElem_cons g
    rw [hdrop, layOn] at hlay
    simp (disch := omega) only [go_sem,reduceIte,Nat.reduceEqDiff,Nat.reduceLT, e0, e1, e6, e7, e8, len27, hlt]
    -- the scan for the least column
    refine WK_loopN (fun j α h3 => ∃ x m : Nat, x + j = w ∧ h3 = h2 ∧ (m < x ∨ m = 0) ∧ α.get 0 = some (.int .i64 w) ∧ α.get 1 = some (.slice (some ⟨bA, oA, none⟩) n c) ∧ α.get 6 = some (.slice (some ⟨h.next, 0, none⟩) w w) ∧ α.get 7 = some (.slice B sq.length sq.length) ∧ α.get 8 = some (.int .i64 k) ∧
        α.get 9 = some (.int .i64 m) ∧ α.get 10 = some (.int .i64 x) ∧ (∀ i, i < x → F.getD m 0 ≤ F.getD i 0) ∧ (∀ i, i < m → F.getD m 0 < F.getD i 0)) w
      ⟨0, 0, by omega, rfl, by omega, by simp only [go_sem,reduceIte,Nat.reduceEqDiff,Nat.reduceLT, e0], by simp only [go_sem,reduceIte,Nat.reduceEqDiff,Nat.reduceLT, e1], by simp only [go_sem,reduceIte,Nat.reduceEqDiff,Nat.reduceLT, e6], by simp only [go_sem,reduceIte,Nat.reduceEqDiff,Nat.reduceLT, e7], by simp only [go_sem,reduceIte,Nat.reduceEqDiff,Nat.reduceLT, e8], by (simp only [go_sem,reduceIte,Nat.reduceEqDiff,Nat.reduceLT]) <;> rfl, by (simp only [go_sem,reduceIte,Nat.reduceEqDiff,Nat.reduceLT]) <;> rfl, fun i hi => by omega, fun i hi => by omega⟩ (by omega) ?_
    clear e0 e1 e6 e7 e8
    rintro J2 j2 α h3 ⟨x, m, hx, rfl, hmx, e0, e1, e6, e7, e8, e9, e10, hmin, hleft⟩ hJ2
    by_cases hxw : (x : Int) < w
    · have l1 := lF x (by omega)
      have l2 := lF m (by omega)
      simp (disch := omega) only [go_sem,reduceIte,Nat.reduceEqDiff,Nat.reduceLT, e0, e1, e6, e7, e8, e9, e10, hxw]
      refine WK_regionT 8 ⟨by kernel_rfl, by kernel_rfl, by kernel_rfl⟩ ?_
      by_cases hc : F.getD x 0 < F.getD m 0
      · simp (disch := omega) only [go_sem,reduceIte,Nat.reduceEqDiff,Nat.reduceLT, e0, e1, e6, e7, e8, e9, e10, idxA27, load3, Int.toNat_natCast, Nat.mul_one, l1, l2, hc, wrap_i64]
        refine hJ2 (j2 - 1) _ _ (by omega) ⟨x + 1, x, by omega, rfl, by omega, by simp only [go_sem,reduceIte,Nat.reduceEqDiff,Nat.reduceLT, e0], by simp only [go_sem,reduceIte,Nat.reduceEqDiff,Nat.reduceLT, e1], by simp only [go_sem,reduceIte,Nat.reduceEqDiff,Nat.reduceLT, e6], by simp only [go_sem,reduceIte,Nat.reduceEqDiff,Nat.reduceLT, e7], by simp only [go_sem,reduceIte,Nat.reduceEqDiff,Nat.reduceLT, e8], by simp only [go_sem,reduceIte,Nat.reduceEqDiff,Nat.reduceLT], by (simp only [go_sem,reduceIte,Nat.reduceEqDiff,Nat.reduceLT]) <;> rfl, fun i hi => ?_, fun i hi => ?_⟩
        · by_cases hix : i = x
          · subst hix; exact Int.le_refl _
          · have := hmin i (by omega); omega
        · have := hmin i hi; omega
      · simp (disch := omega) only [go_sem,reduceIte,Nat.reduceEqDiff,Nat.reduceLT, e0, e1, e6, e7, e8, e9, e10, idxA27, load3, Int.toNat_natCast, Nat.mul_one, l1, l2, hc, wrap_i64]
        refine hJ2 (j2 - 1) _ _ (by omega) ⟨x + 1, m, by omega, rfl, by omega, by simp only [go_sem,reduceIte,Nat.reduceEqDiff,Nat.reduceLT, e0], by simp only [go_sem,reduceIte,Nat.reduceEqDiff,Nat.reduceLT, e1], by simp only [go_sem,reduceIte,Nat.reduceEqDiff,Nat.reduceLT, e6], by simp only [go_sem,reduceIte,Nat.reduceEqDiff,Nat.reduceLT, e7], by simp only [go_sem,reduceIte,Nat.reduceEqDiff,Nat.reduceLT, e8], by simp only [go_sem,reduceIte,Nat.reduceEqDiff,Nat.reduceLT, e9], by (simp only [go_sem,reduceIte,Nat.reduceEqDiff,Nat.reduceLT]) <;> rfl, fun i hi => ?_, hleft⟩
        by_cases hix : i = x
        · subst hix; omega
        · exact hmin i (by omega)
    · have hxw' : x = w := by omega
      subst hxw'
      have hmw : m < x := by omega
      clear hJ2
      obtain ⟨wd, hroom⟩ := room_ex (l := F) (k := m) (by omega) (fun i hi => hmin i (by omega)) hleft
      have hrp := hroom.pos
      have hrl := hroom.le
      rw [hroom.eq.1, hroom.eq.2] at hlay
      have lm := lF m hmw
      have hFm := hF m hmw
      simp (disch := omega) only [go_sem,reduceIte,Nat.reduceEqDiff,Nat.reduceLT, e0, e1, e6, e7, e8, e9, e10, hxw]
      refine WK_regionT 11 ⟨by kernel_rfl, by kernel_rfl, by kernel_rfl⟩ ?_
      simp (disch := omega) only [go_sem,reduceIte,Nat.reduceEqDiff,Nat.reduceLT, e0, e1, e6, e7, e8, e9, e10, idxA27, load3, Int.toNat_natCast, Nat.mul_one, lm, hld, build61]
      refine At_alloc i61 zero61 rfl (by omega) fun h4 hn4 => ?_
      have n4 := hn4.next
      obtain ⟨c11, e11', g11, g11'⟩ := hn4.var
      simp only [go_sem,reduceIte,Nat.reduceEqDiff,Nat.reduceLT]
      refine At_store (inf := inf61) (b := h3.next) (off := 0) (v := .agg #[.int .i64 m, .int .i64 (F.getD m 0), .int .i64 z]) i61 (by simp only [go_sem,reduceIte,Nat.reduceEqDiff,Nat.reduceLT]) (by simp only [go_sem,reduceIte,Nat.reduceEqDiff,Nat.reduceLT]) (by rw [size61]; rfl) rfl g11 (by rw [size61]; exact Nat.le_refl _) (by show G ≤ h3.next; omega) fun h5 hs5 => ?_
      have v11 : Var h5.blks h3.next [.int .i64 m, .int .i64 (F.getD m 0), .int .i64 z] := hs5.var ⟨c11, e11', g11, g11'⟩ rfl
      have n5 := hs5.next
      have old5 : ∀ b, b < h3.next → h5.blks.get b = h3.blks.get b := fun b hb => by rw [hs5.get _ (by omega), hn4.get, if_neg (by omega)]
      have pr5 : Pres h3.next h3 h5 := (hn4.pres (Nat.le_refl _)).trans (hs5.pres (Nat.le_refl _))
      have q0 : ∀ (B : Tr Blk), Var B h3.next [.int .i64 m, .int .i64 (F.getD m 0), .int .i64 z] → loadv B h3.next (0 + 1) = some (.int .i64 (F.getD m 0)) := fun B v => v.load (i := 1) (by show 1 < 3; decide)
      have q2 : ∀ (B : Tr Blk), Var B h3.next [.int .i64 m, .int .i64 (F.getD m 0), .int .i64 z] → loadv B h3.next (0 + 2) = some (.int .i64 z) := fun B v => v.load (i := 2) (by show 2 < 3; decide)
      by_cases hout : (x : Int) < m + z
      · rw [if_pos (by omega)] at hlay
        simp (disch := omega) only [go_sem,reduceIte,Nat.reduceEqDiff,Nat.reduceLT, e0, e1, e6, e7, e8, e9, fld61, load3, q2 _ v11, q0 _ v11, wrap_i64, hout]
        exact hQ' _ _ ⟨hpr.trans (pr5.le (by omega)), .inl ⟨hlay, rfl⟩⟩
      · by_cases hhigh : 1000 < F.getD m 0 + z
        · rw [if_pos (by omega)] at hlay
          simp (disch := omega) only [go_sem,reduceIte,Nat.reduceEqDiff,Nat.reduceLT, e0, e1, e6, e7, e8, e9, fld61, load3, q2 _ v11, q0 _ v11, wrap_i64, hout, hhigh]
          exact hQ' _ _ ⟨hpr.trans (pr5.le (by omega)), .inl ⟨hlay, rfl⟩⟩
        · simp (disch := omega) only [go_sem,reduceIte,Nat.reduceEqDiff,Nat.reduceLT, e0, e1, e6, e7, e8, e9, fld61, load3, q2 _ v11, q0 _ v11, wrap_i64, hout, hhigh]
          have hf5 : SlV h5.blks h.next (h.next + 1) 1 x (ints (raise F m 0 z)) (.slice (some ⟨h.next, 0, none⟩) x x) := by rw [raise_zero]; exact hf.mono fun b _ hb => old5 b (by omega)
          have hsq5 : SlV h5.blks (h.next + 1) h3.next 3 sq.length (sqCells sq) (.slice B sq.length sq.length) := hsq.mono fun b _ hb => old5 b hb
          refine WK_loopN (fun j α h6 => ∃ y : Nat, y + j = z.toNat ∧ α.get 0 = some (.int .i64 x) ∧ α.get 1 = some (.slice (some ⟨bA, oA, none⟩) n c) ∧ α.get 6 = some (.slice (some ⟨h.next, 0, none⟩) x x) ∧ α.get 7 = some (.slice B sq.length sq.length) ∧ α.get 8 = some (.int .i64 k) ∧
              α.get 9 = some (.int .i64 m) ∧ α.get 11 = some (.pointer (some ⟨h3.next, 0, none⟩)) ∧ α.get 12 = some (.int .i64 (m + y : Nat)) ∧ h6.next = h5.next ∧ Var h6.blks h3.next [.int .i64 m, .int .i64 (F.getD m 0), .int .i64 z] ∧
              SlV h6.blks h.next (h.next + 1) 1 x (ints (raise F m y z)) (.slice (some ⟨h.next, 0, none⟩) x x) ∧ SlV h6.blks (h.next + 1) h3.next 3 sq.length (sqCells sq) (.slice B sq.length sq.length) ∧ (∀ i, m ≤ i → i < m + y → F.getD i 0 = F.getD m 0) ∧ Pres h.next h h6) z.toNat
            ⟨0, by omega, by simp only [go_sem,reduceIte,Nat.reduceEqDiff,Nat.reduceLT, e0], by simp only [go_sem,reduceIte,Nat.reduceEqDiff,Nat.reduceLT, e1], by simp only [go_sem,reduceIte,Nat.reduceEqDiff,Nat.reduceLT, e6], by simp only [go_sem,reduceIte,Nat.reduceEqDiff,Nat.reduceLT, e7], by simp only [go_sem,reduceIte,Nat.reduceEqDiff,Nat.reduceLT, e8], by simp only [go_sem,reduceIte,Nat.reduceEqDiff,Nat.reduceLT, e9], by simp only [go_sem,reduceIte,Nat.reduceEqDiff,Nat.reduceLT], by (simp only [go_sem,reduceIte,Nat.reduceEqDiff,Nat.reduceLT, e9]) <;> rfl, rfl, v11, hf5, hsq5, fun i h1 h2 => by omega, hpr.trans (pr5.le (by omega))⟩ (by omega) ?_
          clear e0 e1 e6 e7 e8 e9 e10 hf5 hsq5
          rintro J3 j3 α h6 ⟨y, hy, e0, e1, e6, e7, e8, e9, e11, e12, n6, v6, hf6, hsq6, hflat, pr6⟩ hJ3
          by_cases hyz : ((m + y : Nat) : Int) < m + z
          · have hmy : m + y < x := by omega
            have ly : loadv h6.blks h.next (0 + (m + y)) = some (.int .i64 (F.getD (m + y) 0)) := by
              obtain ⟨b1, off1, he, _, _, h5⟩ := hf6.at_ (by omega)
              injection he with he
              injection he with q1 q2
              subst q1; subst q2
              rw [h5 (m + y) (by omega), ints_getD (by rw [raise_len]; omega), raise_get (by omega), if_neg (by omega)]
            have hlow := hroom.low (m + y) (by omega)
            simp (disch := omega) only [go_sem,reduceIte,Nat.reduceEqDiff,Nat.reduceLT, e0, e1, e6, e7, e8, e9, e11, e12, fld61, load3, q2 _ v6, q0 _ v6, wrap_i64, hyz]
            refine WK_regionT 6 ⟨by kernel_rfl, by kernel_rfl, by kernel_rfl⟩ ?_
            by_cases hup : F.getD m 0 < F.getD (m + y) 0
            · rw [if_pos (by
                rcases Nat.lt_or_ge (m + y) (m + wd) with h | h
                · have := hroom.flat (m + y) (by omega) h; omega
                · omega)] at hlay
              simp (disch := omega) only [go_sem,reduceIte,Nat.reduceEqDiff,Nat.reduceLT, e0, e1, e6, e7, e8, e9, e11, e12, fld61, load3, q2 _ v6, q0 _ v6, idxA27, Int.toNat_natCast, Nat.mul_one, ly, hup]
              exact hQ' _ _ ⟨pr6, .inl ⟨hlay, rfl⟩⟩
            · simp (disch := omega) only [go_sem,reduceIte,Nat.reduceEqDiff,Nat.reduceLT, e0, e1, e6, e7, e8, e9, e11, e12, fld61, load3, q2 _ v6, q0 _ v6, idxA27, Int.toNat_natCast, Nat.mul_one, ly, hup, wrap_i64]
              have hsame : F.getD (m + y) 0 = F.getD m 0 := by omega
              rcases sinv hf6 with ⟨cells6, size6, gb, glo, ghi, gsz, gL, gc⟩
              ·
                refine At_store (inf := inf3) (b := h.next) (off := 0 + (m + y)) (v := .int .i64 (F.getD m 0 + z)) i3 (by simp only [go_sem,reduceIte,Nat.reduceEqDiff,Nat.reduceLT]) (by simp only [go_sem,reduceIte,Nat.reduceEqDiff,Nat.reduceLT]) (by rw [size3]; rfl) rfl gb (by rw [size3]; omega) (by exact hG) fun h7 hs7 => ?_
                have hsl' := hs7.slv (c := x) (.mk gb glo ghi gsz gL gc) (by show m + y + 1 ≤ x * 1; omega)
                have he : (ints (raise F m y z)).take (m + y) ++ (Value.int .i64 (F.getD m 0 + z)).cells.toList ++ (ints (raise F m y z)).drop (m + y + (Value.int .i64 (F.getD m 0 + z)).cells.toList.length) = ints (raise F m (y + 1) z) := by
                  rw [← raise_step, ← hsame, ← ints_set (by rw [raise_len]; omega)]; rfl
                rw [he] at hsl'
                simp (disch := omega) only [go_sem,reduceIte,Nat.reduceEqDiff,Nat.reduceLT, e12, wrap_i64]
                refine hJ3 (j3 - 1) _ _ (by omega) ⟨y + 1, by omega, by simp only [go_sem,reduceIte,Nat.reduceEqDiff,Nat.reduceLT, e0], by simp only [go_sem,reduceIte,Nat.reduceEqDiff,Nat.reduceLT, e1], by simp only [go_sem,reduceIte,Nat.reduceEqDiff,Nat.reduceLT, e6], by simp only [go_sem,reduceIte,Nat.reduceEqDiff,Nat.reduceLT, e7], by simp only [go_sem,reduceIte,Nat.reduceEqDiff,Nat.reduceLT, e8], by simp only [go_sem,reduceIte,Nat.reduceEqDiff,Nat.reduceLT, e9], by simp only [go_sem,reduceIte,Nat.reduceEqDiff,Nat.reduceLT, e11], by (simp only [go_sem,reduceIte,Nat.reduceEqDiff,Nat.reduceLT]) <;> rfl, hs7.next.trans n6, v6.mono (hs7.get _ (by omega)), hsl', hsq6.mono fun b h1 h2 => hs7.get _ (by omega), fun i h1 h2 => ?_, pr6.trans (hs7.pres (Nat.le_refl _))⟩
                by_cases hiy : i = m + y
                · subst hiy; exact hsame
                · exact hflat i h1 (by omega)
          · have hyz' : y = z.toNat := by omega
            subst hyz'
            have hwd : z.toNat ≤ wd := by
              rcases Nat.lt_or_ge wd z.toNat with h | h
              · exact absurd (hflat (m + wd) (by omega) (by omega)) (hroom.wall (by omega))
              · exact h
            rw [if_neg (by omega)] at hlay
            simp (disch := omega) only [go_sem,reduceIte,Nat.reduceEqDiff,Nat.reduceLT, e0, e1, e6, e7, e8, e9, e11, e12, fld61, load3, q2 _ v6, q0 _ v6, wrap_i64, hyz, v6.loadA agg61 i61 size61.symm]
            refine At_push (lo := h.next + 1) (hi := h3.next) (L := sqCells sq) (vs := [.int .i64 m, .int .i64 (F.getD m 0), .int .i64 z]) u22 i61 zero61 (by rw [size61, bytes61]; rfl) (by (simp only [go_sem,reduceIte,Nat.reduceEqDiff,Nat.reduceLT]) <;> rfl) (by rw [size61]; rfl) (by rw [size61]; rfl) rfl (by (simp only [go_sem,reduceIte,Nat.reduceEqDiff,Nat.reduceLT, e7]) <;> rfl) (by rw [size61]; exact hsq6) (by omega) (Nat.le_refl _) (by show G ≤ h.next + 1; omega) (by omega) (by decide) (by decide) (by decide) fun h8 hpu => ?_
            rw [size61] at hpu
            have n8 := hpu.next
            have hcells : sqCells sq ++ [.int .i64 m, .int .i64 (F.getD m 0), .int .i64 z] = sqCells (sq ++ [(m, F.getD m 0, z)]) := by rw [sqCells_append]; rfl
            rw [hcells] at hpu
            have hsq8 := hpu.slv (n := (sq ++ [(m, F.getD m 0, z)]).length) (c := (sq ++ [(m, F.getD m 0, z)]).length) (by rw [sqCells_len])
            have hf8 : SlV h8.blks h.next (h.next + 1) 1 x (ints (raise F m z.toNat z)) (.slice (some ⟨h.next, 0, none⟩) x x) := hpu.other hf6 (by omega) fun b hb => .inr (hsq6.blk b hb)
            simp (disch := omega) only [go_sem,reduceIte,Nat.reduceEqDiff,Nat.reduceLT, e8, wrap_i64]
            refine hJ (j - 1) _ _ (by omega) ⟨k + 1, raise F m z.toNat z, sq ++ [(m, F.getD m 0, z)], some ⟨h6.next + 1, 0, none⟩, by omega, by simp [hsk], fun i hi => ?_, by simp only [go_sem,reduceIte,Nat.reduceEqDiff,Nat.reduceLT, e0], by simp only [go_sem,reduceIte,Nat.reduceEqDiff,Nat.reduceLT, e1], by simp only [go_sem,reduceIte,Nat.reduceEqDiff,Nat.reduceLT, e6], by simp only [go_sem,reduceIte,Nat.reduceEqDiff,Nat.reduceLT, List.length_append, List.length_singleton], by (simp only [go_sem,reduceIte,Nat.reduceEqDiff,Nat.reduceLT]) <;> rfl, by omega, hf8, hsq8.wide (by omega) (Nat.le_refl _), ?_, pr6.trans (hpu.pres (by omega) fun b hb => by have := hsq6.blk b hb; omega)⟩
            · rw [raise_get (by omega)]
              have h6 := hF i hi
              split
              · rename_i hin
                have := hroom.flat i hin.1 (by omega)
                omega
              · exact h6
            · rw [hlay]
              cases layOn (raise F m z.toNat z) (L.drop (k + 1)) <;> simp
  · have hkn : k = n := by omega
    simp (disch := omega) only [go_sem,reduceIte,Nat.reduceEqDiff,Nat.reduceLT, e0, e1, e6, e7, e8, len27, hlt]
    rw [List.drop_of_length_le (by omega), layOn, hFl] at hlay
    clear hJ
    refine WK_loopN (fun j α h3 => ∃ x : Nat, x + j = w ∧ h3 = h2 ∧ α.get 0 = some (.int .i64 w) ∧ α.get 6 = some (.slice (some ⟨h.next, 0, none⟩) w w) ∧ α.get 7 = some (.slice B sq.length sq.length) ∧ α.get 13 = some (.int .i64 x) ∧ ∀ i, i < x → F.getD i 0 = F.getD 0 0) w
      ⟨0, by omega, rfl, by simp only [go_sem,reduceIte,Nat.reduceEqDiff,Nat.reduceLT, e0], by simp only [go_sem,reduceIte,Nat.reduceEqDiff,Nat.reduceLT, e6], by simp only [go_sem,reduceIte,Nat.reduceEqDiff,Nat.reduceLT, e7], by (simp only [go_sem,reduceIte,Nat.reduceEqDiff,Nat.reduceLT]) <;> rfl, fun i hi => by omega⟩ (by omega) ?_
    clear e0 e1 e6 e7 e8
    rintro J2 j2 α h3 ⟨x, hx, rfl, e0, e6, e7, e13, hall⟩ hJ2
    by_cases hxw : (x : Int) < w
    · have l1 := lF x (by omega)
      have l0 : loadv h3.blks h.next (0 + 0) = some (.int .i64 (F.getD 0 0)) := lF 0 (by omega)
      simp (disch := omega) only [go_sem,reduceIte,Nat.reduceEqDiff,Nat.reduceLT, e0, e6, e7, e13, hxw]
      refine WK_regionT 7 ⟨by kernel_rfl, by kernel_rfl, by kernel_rfl⟩ ?_
      by_cases hq : F.getD x 0 = F.getD 0 0
      · simp (disch := omega) only [go_sem,reduceIte,Nat.reduceEqDiff,Nat.reduceLT, e0, e6, e7, e13, idxA27, load3, Int.toNat_natCast, Int.toNat_zero, Nat.mul_one, l1, l0, hq, ne_eq, not_true_eq_false, wrap_i64]
        refine hJ2 (j2 - 1) _ _ (by omega) ⟨x + 1, by omega, rfl, by simp only [go_sem,reduceIte,Nat.reduceEqDiff,Nat.reduceLT, e0], by simp only [go_sem,reduceIte,Nat.reduceEqDiff,Nat.reduceLT, e6], by simp only [go_sem,reduceIte,Nat.reduceEqDiff,Nat.reduceLT, e7], by (simp only [go_sem,reduceIte,Nat.reduceEqDiff,Nat.reduceLT]) <;> rfl, fun i hi => ?_⟩
        by_cases hix : i = x
        · subst hix; exact hq
        · exact hall i (by omega)
      · simp (disch := omega) only [go_sem,reduceIte,Nat.reduceEqDiff,Nat.reduceLT, e0, e6, e7, e13, idxA27, load3, Int.toNat_natCast, Int.toNat_zero, Nat.mul_one, l1, l0, hq, ne_eq, not_false_eq_true]
        have hnone : wideOf F < w := by
          by_cases hr : ∃ k m, RoomOf F k m
          · obtain ⟨k', m', hroom⟩ := hr
            rw [hroom.eq.2]
            have := hroom.le
            rcases Nat.lt_or_ge m' w with h | h
            · exact h
            · have hk0 : k' = 0 := by omega
              subst hk0
              exact absurd (hroom.flat x (by omega) (by omega)) hq
          · unfold wideOf; rw [dif_neg hr]; omega
        rw [if_pos hnone] at hlay
        exact hQ' _ _ ⟨hpr, .inl ⟨hlay, rfl⟩⟩
    · simp (disch := omega) only [go_sem,reduceIte,Nat.reduceEqDiff,Nat.reduceLT, e0, e6, e7, e13, hxw]
      obtain ⟨m', hroom⟩ := room_ex (l := F) (k := 0) (by omega) (fun i hi => by rw [hall i (by omega)]; exact Int.le_refl _) fun i hi => by omega
      have hm' : ¬ wideOf F < w := by
        rw [hroom.eq.2]
        intro h
        have := hroom.le
        exact hroom.wall (by omega) (hall _ (by omega))
      rw [if_neg hm'] at hlay
      exact hQ' _ _ ⟨hpr, .inr ⟨sq, B, by simpa using hlay, rfl, hsq.wide (by omega) (Nat.le_refl _)⟩⟩
end
end Go.Proofs.YtnhbkoeomefkdaaDoor.Ev.L

