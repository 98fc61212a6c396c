/- room: the leftmost column with the least floor. -/
import Derived.Test.YtnhbkoeomefkdaaDoorPmhHH
set_option linter.unusedSimpArgs false
set_option linter.unusedVariables false
namespace Go.Proofs.YtnhbkoeomefkdaaDoor.Ev.L
open Go Go.Proofs Go.Proofs.YtnhbkoeomefkdaaDoor.Ev
noncomputable section

theorem ints_getD {l : List Int} {i : Nat} (h : i < l.length) : (ints l)[i]? = some (.int .i64 (l.getD i 0)) := by
  rw [ints_get (z := l.getD i 0)]
  rw [List.getD, List.getElem?_eq_getElem h]; rfl

/-- where there is room: the leftmost least column, and how many are as low from there on -/
structure RoomOf (l : List Int) (k n : Nat) : Prop where
  le : k + n ≤ l.length
  low : ∀ i, i < l.length → l.getD k 0 ≤ l.getD i 0
  left : ∀ i, i < k → l.getD k 0 < l.getD i 0
  flat : ∀ i, k ≤ i → i < k + n → l.getD i 0 = l.getD k 0
  wall : k + n < l.length → l.getD (k + n) 0 ≠ l.getD k 0
  pos : 0 < n

set_option maxHeartbeats 4000000 in
theorem room_spec {G lo hi n : Nat} {l : List Int} {v : Value} {h : H} (hv : SlV h.blks lo hi 1 n (ints l) v) (h0 : 0 < n) (hn : n < 4000000000000000000) :
    Spec Tryd.prog (En G) 63 [v] h fun u h' => h' = h ∧ ∃ k m : Nat, u = .tuple #[.int .i64 k, .int .i64 m] ∧ RoomOf l k m := by
  obtain ⟨A, c, rfl⟩ := hv.shape
  have hl : l.length = n := by have := hv.len; rw [ints_len] at this; omega
  obtain ⟨b, off, rfl, _, _, hld⟩ := hv.at_ h0
  have hld : ∀ i, i < n → loadv h.blks b (off + i) = some (.int .i64 (l.getD i 0)) := fun i hi => by rw [hld i (by omega), ints_getD (by omega)]
  refine CallsE_enter (En_known (by decide)) (En_f.trans Tryd.func63) rfl ⟨Nat.le_of_ble_eq_true rfl, by decide⟩ fun Q' hQ' => ?_
  simp only [Tryd.f63, go_sem,reduceIte,Nat.reduceEqDiff,Nat.reduceLT, len96]
  refine WK_loopN (fun j α h1 => ∃ k m : Nat, k + j = n ∧ h1 = h ∧ (m < k ∨ m = 0) ∧ α.get 0 = some (.slice (some ⟨b, off, none⟩) n c) ∧ α.get 4 = some (.int .i64 m) ∧ α.get 8 = some (.slice (some ⟨b, off, none⟩) n c) ∧ α.get 9 = some (.int .i64 n) ∧ α.get 10 = some (.int .i64 k) ∧
      (∀ i, i < k → l.getD m 0 ≤ l.getD i 0) ∧ (∀ i, i < m → l.getD m 0 < l.getD i 0)) n
    ⟨0, 0, by omega, rfl, by omega, by simp only [go_sem,reduceIte,Nat.reduceEqDiff,Nat.reduceLT], by (simp only [go_sem,reduceIte,Nat.reduceEqDiff,Nat.reduceLT]) <;> rfl, by simp only [go_sem,reduceIte,Nat.reduceEqDiff,Nat.reduceLT], by simp only [go_sem,reduceIte,Nat.reduceEqDiff,Nat.reduceLT], by (simp only [go_sem,reduceIte,Nat.reduceEqDiff,Nat.reduceLT]) <;> rfl, fun i hi => by omega, fun i hi => by omega⟩ (by omega) ?_
  rintro J j α h1 ⟨k, m, hk, rfl, hmk, e0, e4, e8, e9, e10, hmin, hleft⟩ hJ
  by_cases hlt : (k : Int) < n
  · have hkn : k < n := by omega
    have hmn : m < n := by omega
    have l1 := hld k hkn
    have l2 := hld m hmn
    by_cases hc : l.getD k 0 < l.getD m 0
    · simp (disch := omega) only [go_sem,reduceIte,Nat.reduceEqDiff,Nat.reduceLT, e0, e4, e8, e9, e10, hlt, hc, idxA96, load3, Int.toNat_natCast, Nat.mul_one, l1, l2, wrap_i64]
      refine hJ (j - 1) _ _ (by omega) ⟨k + 1, k, by omega, rfl, by omega, by simp only [go_sem,reduceIte,Nat.reduceEqDiff,Nat.reduceLT, e0], by simp only [go_sem,reduceIte,Nat.reduceEqDiff,Nat.reduceLT], by simp only [go_sem,reduceIte,Nat.reduceEqDiff,Nat.reduceLT, e8], by simp only [go_sem,reduceIte,Nat.reduceEqDiff,Nat.reduceLT, e9], by (simp only [go_sem,reduceIte,Nat.reduceEqDiff,Nat.reduceLT]) <;> rfl, fun i hi => ?_, fun i hi => ?_⟩
      · by_cases hik : i = k
        · subst hik; exact Int.le_refl _
        · have := hmin i (by omega); omega
      · have := hmin i hi; omega
    · simp (disch := omega) only [go_sem,reduceIte,Nat.reduceEqDiff,Nat.reduceLT, e0, e4, e8, e9, e10, hlt, hc, idxA96, load3, Int.toNat_natCast, Nat.mul_one, l1, l2, wrap_i64]
      refine hJ (j - 1) _ _ (by omega) ⟨k + 1, m, by omega, rfl, by omega, by simp only [go_sem,reduceIte,Nat.reduceEqDiff,Nat.reduceLT, e0], by simp only [go_sem,reduceIte,Nat.reduceEqDiff,Nat.reduceLT, e4], by simp only [go_sem,reduceIte,Nat.reduceEqDiff,Nat.reduceLT, e8], by simp only [go_sem,reduceIte,Nat.reduceEqDiff,Nat.reduceLT, e9], by (simp only [go_sem,reduceIte,Nat.reduceEqDiff,Nat.reduceLT]) <;> rfl, fun i hi => ?_, hleft⟩
      by_cases hik : i = k
      · subst hik; omega
      · exact hmin i (by omega)
  · have hkn : k = n := by omega
    subst hkn
    have hmn : m < k := by omega
    simp (disch := omega) only [go_sem,reduceIte,Nat.reduceEqDiff,Nat.reduceLT, e0, e4, e8, e9, e10, hlt]
    clear hJ
    refine WK_loopN (fun j α h2 => ∃ t : Nat, m ≤ t ∧ t + j = k ∧ h2 = h1 ∧ α.get 0 = some (.slice (some ⟨b, off, none⟩) k c) ∧ α.get 4 = some (.int .i64 m) ∧ α.get 7 = some (.int .i64 t) ∧ (∀ i, m ≤ i → i < t → l.getD i 0 = l.getD m 0)) (k - m)
      ⟨m, Nat.le_refl _, by omega, rfl, by simp only [go_sem,reduceIte,Nat.reduceEqDiff,Nat.reduceLT, e0], by simp only [go_sem,reduceIte,Nat.reduceEqDiff,Nat.reduceLT, e4], by simp only [go_sem,reduceIte,Nat.reduceEqDiff,Nat.reduceLT, e4], fun i hi hi' => by omega⟩ (by omega) ?_
    clear e0 e4 e8 e9 e10
    rintro J2 j2 α2 h2 ⟨t, hmt, ht, rfl, e0, e4, e7, hflat⟩ hJ2
    simp only [go_sem,reduceIte,Nat.reduceEqDiff,Nat.reduceLT]
    refine WK_regionT 13 ⟨by kernel_rfl, by kernel_rfl, by kernel_rfl⟩ ?_
    have done : (t < k → l.getD t 0 ≠ l.getD m 0) → RoomOf l m (t - m) := fun hw => by
      have hmt' : m < t := by
        rcases Nat.lt_or_ge m t with h | h
        · exact h
        · have : t = m := by omega
          subst this
          exact absurd rfl (hw hmn)
      exact ⟨by omega, fun i hi => hmin i (by omega), hleft, fun i h1 h2 => hflat i h1 (by omega), fun h1 => by rw [show m + (t - m) = t by omega]; exact hw (by omega), by omega⟩
    by_cases htk : (t : Int) < k
    · have l1 := hld t (by omega)
      have l2 := hld m hmn
      by_cases hq : l.getD t 0 = l.getD m 0
      · simp (disch := omega) only [go_sem,reduceIte,Nat.reduceEqDiff,Nat.reduceLT, e0, e4, e7, len96, htk, hq, idxA96, load3, Int.toNat_natCast, Nat.mul_one, l1, l2, wrap_i64]
        refine hJ2 (j2 - 1) _ _ (by omega) ⟨t + 1, by omega, by omega, rfl, by simp only [go_sem,reduceIte,Nat.reduceEqDiff,Nat.reduceLT, e0], by simp only [go_sem,reduceIte,Nat.reduceEqDiff,Nat.reduceLT, e4], by (simp only [go_sem,reduceIte,Nat.reduceEqDiff,Nat.reduceLT]) <;> rfl, fun i h1 h2 => ?_⟩
        by_cases hit : i = t
        · subst hit; exact hq
        · exact hflat i h1 (by omega)
      · simp (disch := omega) only [go_sem,reduceIte,Nat.reduceEqDiff,Nat.reduceLT, e0, e4, e7, len96, htk, hq, idxA96, load3, Int.toNat_natCast, Nat.mul_one, l1, l2, wrap_i64]
        refine hQ' _ _ ⟨Pres.refl _ _, rfl, m, t - m, ?_, done fun _ => hq⟩
        rw [show ((t - m : Nat) : Int) = (t : Int) - m by omega]
    · simp (disch := omega) only [go_sem,reduceIte,Nat.reduceEqDiff,Nat.reduceLT, e0, e4, e7, len96, htk, wrap_i64]
      refine hQ' _ _ ⟨Pres.refl _ _, rfl, m, t - m, ?_, done fun h => by omega⟩
      rw [show ((t - m : Nat) : Int) = (t : Int) - m by omega]
end
end Go.Proofs.YtnhbkoeomefkdaaDoor.Ev.L

/- Variables that lie in memory; squares; put. -/
set_option linter.unusedSimpArgs false
set_option linter.unusedVariables false
namespace Go.Proofs.YtnhbkoeomefkdaaDoor.Ev.L
open Go Go.Proofs Go.Proofs.YtnhbkoeomefkdaaDoor.Ev
noncomputable section

/-- a square -/
theorem u61 {G : Nat} : ∃ fs, (En G).u 61 = some (.struct fs) := ⟨_, En_u.trans <| (envOf_u (by decide)).trans Tryd.underlying61⟩
theorem agg61 {G : Nat} : (En G).agg 61 = some true := by
  obtain ⟨fs, h⟩ := @u61 G
  unfold Env.agg; rw [h]
theorem zero61 : inf61.zero = some (.agg #[.int .i64 0, .int .i64 0, .int .i64 0]) := by kernel_rfl
theorem build61 {G : Nat} {a b c : Int} : buildO (En G) 61 (some [(0, .int .i64 a), (1, .int .i64 b), (2, .int .i64 c)]) = some (.agg #[.int .i64 a, .int .i64 b, .int .i64 c]) := by
  have hu : (En G).u 61 = _ := En_u.trans <| (envOf_u (by decide)).trans Tryd.underlying61
  simp only [buildO, evBuild, i61, hu, zero61, places, i3, size3]
  rfl
/-- k columns from x on are s higher -/
def raise (l : List Int) (x k : Nat) (s : Int) : List Int := (List.range l.length).map fun i => if x ≤ i ∧ i < x + k then l.getD i 0 + s else l.getD i 0
theorem raise_len {l : List Int} {x k : Nat} {s : Int} : (raise l x k s).length = l.length := by simp [raise]
theorem raise_get {l : List Int} {x k i : Nat} {s : Int} (hi : i < l.length) : (raise l x k s).getD i 0 = if x ≤ i ∧ i < x + k then l.getD i 0 + s else l.getD i 0 := by
  simp [raise, List.getD, hi]
theorem raise_zero {l : List Int} {x : Nat} {s : Int} : raise l x 0 s = l := by
  apply List.ext_getElem (by rw [raise_len])
  intro i h1 h2
  simp only [raise, List.getElem_map, List.getElem_range]
  rw [if_neg (by omega), List.getD, List.getElem?_eq_getElem h2]; rfl
theorem raise_step {l : List Int} {x k : Nat} {s : Int} : (raise l x k s).set (x + k) (l.getD (x + k) 0 + s) = raise l x (k + 1) s := by
  apply List.ext_getElem (by simp [raise_len])
  intro i h1 h2
  rw [List.getElem_set]
  simp only [raise, List.getElem_map, List.getElem_range]
  by_cases hi : x + k = i
  · subst hi
    rw [if_pos rfl, if_pos (by omega)]
  · rw [if_neg hi]
    by_cases h3 : x ≤ i ∧ i < x + k
    · rw [if_pos h3, if_pos (by omega)]
    · rw [if_neg h3, if_neg (by omega)]
theorem ints_set {l : List Int} {j : Nat} {z : Int} (hj : j < l.length) : (ints l).take j ++ [.int .i64 z] ++ (ints l).drop (j + [Value.int .i64 z].length) = ints (l.set j z) := by
  simp only [ints, List.length_singleton]
  rw [← List.map_take, ← List.map_drop, List.set_eq_take_append_cons_drop, if_pos hj]
  simp

/-- put: the floor is raised, the square is returned -/
structure PutOf (h h' : H) (b n c off : Nat) (l : List Int) (x : Nat) (s : Int) : Prop where
  slv : SlV h'.blks b (b + 1) 1 n (ints (raise l x s.toNat s)) (.slice (some ⟨b, off, none⟩) n c)
  pres : Pres b h h'
  get : ∀ b', b' < h.next → b' ≠ b → h'.blks.get b' = h.blks.get b'

set_option maxHeartbeats 4000000 in
theorem hput_spec {G n b off c x : Nat} {s : Int} {l : List Int} {h : H} (hv : SlV h.blks b (b + 1) 1 n (ints l) (.slice (some ⟨b, off, none⟩) n c)) (hG : G ≤ b) (hb : b < h.next) (hs : 1 ≤ s) (hx : x + s.toNat ≤ n) (hn : n ≤ 1000) (hs2 : s ≤ 1000) (hlo : ∀ i, i < n → 0 ≤ l.getD i 0 ∧ l.getD i 0 ≤ 1000) :
    CallsE Tryd.prog (En G) 64 [.slice (some ⟨b, off, none⟩) n c, .int .i64 x, .int .i64 s] h fun u h' => u = .agg #[.int .i64 x, .int .i64 (l.getD x 0), .int .i64 s] ∧ PutOf h h' b n c off l x s := by
  have hl : l.length = n := by have := hv.len; rw [ints_len] at this; omega
  have hld : ∀ i, i < n → loadv h.blks b (off + i) = some (.int .i64 (l.getD i 0)) := fun i hi => by
    obtain ⟨b1, off1, he, _, _, h5⟩ := hv.at_ (by omega)
    injection he with he
    injection he with e1 e2
    subst e1; subst e2
    rw [h5 i (by omega), ints_getD (by omega)]
  refine CallsE_enter (En_known (by decide)) (En_f.trans Tryd.func64) rfl ⟨Nat.le_of_ble_eq_true rfl, by decide⟩ fun Q' hQ' => ?_
  simp only [Tryd.f64, go_sem,reduceIte,Nat.reduceEqDiff,Nat.reduceLT]
  refine At_alloc i61 zero61 rfl (by omega) fun h1 hn1 => ?_
  have n1 := hn1.next
  have l1 : ∀ i, i < n → loadv h1.blks b (off + i) = some (.int .i64 (l.getD i 0)) := fun i hi => (loadv_eq (B := h.blks) (by rw [hn1.get, if_neg (by omega)]) _).trans (hld i hi)
  simp (disch := omega) only [go_sem,reduceIte,Nat.reduceEqDiff,Nat.reduceLT, idxA96, load3, Int.toNat_natCast, Nat.mul_one, l1, build61]
  refine At_alloc i61 zero61 rfl (by omega) fun h2 hn2 => ?_
  have n2 := hn2.next
  obtain ⟨c7, e7, g7, g7'⟩ := hn2.var
  refine At_store (inf := inf61) (b := h1.next) (off := 0) (v := .agg #[.int .i64 x, .int .i64 (l.getD x 0), .int .i64 s]) i61 (by simp only [go_sem,reduceIte,Nat.reduceEqDiff,Nat.reduceLT]) (by simp only [go_sem,reduceIte,Nat.reduceEqDiff,Nat.reduceLT]) (by rw [size61]; rfl) rfl g7 (by rw [size61]; exact Nat.le_refl _) (by show G ≤ h1.next; omega) fun h3 hs3 => ?_
  have v7 : Var h3.blks h1.next [.int .i64 x, .int .i64 (l.getD x 0), .int .i64 s] := hs3.var ⟨c7, e7, g7, g7'⟩ rfl
  have v6 : Var h3.blks h.next [.int .i64 0, .int .i64 0, .int .i64 0] := hn1.var.mono (by rw [hs3.get _ (by omega), hn2.get, if_neg (by omega)])
  have n3 := hs3.next
  have hsl3 : SlV h3.blks b (b + 1) 1 n (ints (raise l x 0 s)) (.slice (some ⟨b, off, none⟩) n c) := by
    rw [raise_zero]
    exact hv.mono fun b' h1 h2 => by rw [hs3.get _ (by omega), hn2.get, if_neg (by omega), hn1.get, if_neg (by omega)]
  have old3 : ∀ b', b' < h.next → h3.blks.get b' = h.blks.get b' := fun b' hb' => by rw [hs3.get _ (by omega), hn2.get, if_neg (by omega), hn1.get, if_neg (by omega)]
  have pr3 : Pres b h h3 := (hn1.pres (by omega)).trans ((hn2.pres (by omega)).trans (hs3.pres (by omega)))
  simp only [go_sem,reduceIte,Nat.reduceEqDiff,Nat.reduceLT]
  refine WK_loopN (fun j α h4 => ∃ k : Nat, k + j = s.toNat ∧ α.get 0 = some (.slice (some ⟨b, off, none⟩) n c) ∧ α.get 1 = some (.int .i64 x) ∧ α.get 2 = some (.int .i64 s) ∧ α.get 6 = some (.pointer (some ⟨h.next, 0, none⟩)) ∧ α.get 7 = some (.pointer (some ⟨h1.next, 0, none⟩)) ∧
      α.get 16 = some (.int .i64 s) ∧ α.get 17 = some (.int .i64 k) ∧ h4.next = h3.next ∧ Var h4.blks h1.next [.int .i64 x, .int .i64 (l.getD x 0), .int .i64 s] ∧ Var h4.blks h.next [.int .i64 0, .int .i64 0, .int .i64 0] ∧
      SlV h4.blks b (b + 1) 1 n (ints (raise l x k s)) (.slice (some ⟨b, off, none⟩) n c) ∧ Pres b h h4 ∧ ∀ b', b' < h.next → b' ≠ b → h4.blks.get b' = h.blks.get b') s.toNat
    ⟨0, by omega, by simp only [go_sem,reduceIte,Nat.reduceEqDiff,Nat.reduceLT], by simp only [go_sem,reduceIte,Nat.reduceEqDiff,Nat.reduceLT], by simp only [go_sem,reduceIte,Nat.reduceEqDiff,Nat.reduceLT], by simp only [go_sem,reduceIte,Nat.reduceEqDiff,Nat.reduceLT], by simp only [go_sem,reduceIte,Nat.reduceEqDiff,Nat.reduceLT], by simp only [go_sem,reduceIte,Nat.reduceEqDiff,Nat.reduceLT], by (simp only [go_sem,reduceIte,Nat.reduceEqDiff,Nat.reduceLT]) <;> rfl, rfl, v7, v6, hsl3, pr3, fun b' hb' _ => old3 b' hb'⟩ (by omega) ?_
  clear hsl3 v6 v7 old3 pr3 l1
  rintro J j α h4 ⟨k, hk, e0, e1, e2, e6, e7, e16, e17, n4, v7, v6, hsl, pr, old⟩ hJ
  by_cases hlt : (k : Int) < s
  · have hkx : x + k < n := by omega
    have lv : loadv h4.blks b (off + (x + k)) = some (.int .i64 (l.getD (x + k) 0)) := by
      obtain ⟨b1, off1, he, _, _, h5⟩ := hsl.at_ (by omega)
      injection he with he
      injection he with q1 q2
      subst q1; subst q2
      rw [h5 (x + k) (by omega), ints_getD (by rw [raise_len]; omega), raise_get (by omega), if_neg (by omega)]
    have hxk := hlo (x + k) hkx
    have exk : ((x : Int) + (k : Int)).toNat = x + k := by omega
    simp (disch := omega) only [go_sem,reduceIte,Nat.reduceEqDiff,Nat.reduceLT, e0, e1, e2, e6, e7, e16, e17, hlt, idxA96, load3, exk, Nat.mul_one, lv, wrap_i64]
    cases hsl with
    | mk gb glo ghi gsz gL gc =>
      refine At_store (inf := inf3) (b := b) (off := off + (x + k)) (v := .int .i64 (l.getD (x + k) 0 + s)) i3 (by simp only [go_sem,reduceIte,Nat.reduceEqDiff,Nat.reduceLT]) (by simp only [go_sem,reduceIte,Nat.reduceEqDiff,Nat.reduceLT]) (by rw [size3]; rfl) rfl gb (by rw [size3]; omega) (by exact hG) fun h5 hs5 => ?_
      have hsl' := hs5.slv (c := c) (.mk gb glo ghi gsz gL gc) (by show x + k + 1 ≤ n * 1; omega)
      have he : (ints (raise l x k s)).take (x + k) ++ (Value.int .i64 (l.getD (x + k) 0 + s)).cells.toList ++ (ints (raise l x k s)).drop (x + k + (Value.int .i64 (l.getD (x + k) 0 + s)).cells.toList.length) = ints (raise l x (k + 1) s) := by
        rw [← raise_step, ← ints_set (by rw [raise_len]; omega)]; rfl
      rw [he] at hsl'
      simp (disch := omega) only [go_sem,reduceIte,Nat.reduceEqDiff,Nat.reduceLT, e17, wrap_i64]
      refine hJ (j - 1) _ _ (by omega) ⟨k + 1, by omega, by simp only [go_sem,reduceIte,Nat.reduceEqDiff,Nat.reduceLT, e0], by simp only [go_sem,reduceIte,Nat.reduceEqDiff,Nat.reduceLT, e1], by simp only [go_sem,reduceIte,Nat.reduceEqDiff,Nat.reduceLT, e2], by simp only [go_sem,reduceIte,Nat.reduceEqDiff,Nat.reduceLT, e6], by simp only [go_sem,reduceIte,Nat.reduceEqDiff,Nat.reduceLT, e7], by simp only [go_sem,reduceIte,Nat.reduceEqDiff,Nat.reduceLT, e16], by (simp only [go_sem,reduceIte,Nat.reduceEqDiff,Nat.reduceLT]) <;> rfl, hs5.next.trans n4, v7.mono (hs5.get _ (by omega)), v6.mono (hs5.get _ (by omega)), hsl', pr.trans (hs5.pres (Nat.le_refl _)), fun b' h1 h2 => by rw [hs5.get _ h2]; exact old b' h1 h2⟩
  · have hks : k = s.toNat := by omega
    subst hks
    simp (disch := omega) only [go_sem,reduceIte,Nat.reduceEqDiff,Nat.reduceLT, e0, e1, e2, e6, e7, e16, e17, hlt, v7.loadA agg61 i61 size61.symm]
    obtain ⟨c6, e6', g6, g6'⟩ := v6
    refine At_store (inf := inf61) (b := h.next) (off := 0) (v := .agg #[.int .i64 x, .int .i64 (l.getD x 0), .int .i64 s]) i61 (by simp only [go_sem,reduceIte,Nat.reduceEqDiff,Nat.reduceLT, e6]) (by simp only [go_sem,reduceIte,Nat.reduceEqDiff,Nat.reduceLT]) (by rw [size61]; rfl) rfl g6 (by rw [size61]; exact Nat.le_refl _) (by show G ≤ h.next; omega) fun h5 hs5 => ?_
    have v6' : Var h5.blks h.next [.int .i64 x, .int .i64 (l.getD x 0), .int .i64 s] := hs5.var ⟨c6, e6', g6, g6'⟩ rfl
    have hev : evLoad (En G) h5 61 (.pointer (some ⟨h.next, 0, none⟩)) = some (.agg #[.int .i64 x, .int .i64 (l.getD x 0), .int .i64 s]) := (evLoad_loadO).trans (v6'.loadA agg61 i61 size61.symm)
    simp only [go_sem,reduceIte,Nat.reduceEqDiff,Nat.reduceLT, e6, hev]
    exact hQ' _ _ ⟨rfl, hsl.mono fun b' h1 h2 => hs5.get _ (by omega), pr.trans (hs5.pres (by omega)), fun b' h1 h2 => by rw [hs5.get _ (by omega)]; exact old b' h1 h2⟩
end
end Go.Proofs.YtnhbkoeomefkdaaDoor.Ev.L

/- laid. -/
set_option linter.unusedSimpArgs false
set_option linter.unusedVariables false
namespace Go.Proofs.YtnhbkoeomefkdaaDoor.Ev.L
open Go Go.Proofs Go.Proofs.YtnhbkoeomefkdaaDoor.Ev
noncomputable section

theorem RoomOf.uniq {l : List Int} {k m k' m' : Nat} (a : RoomOf l k m) (b : RoomOf l k' m') : k = k' ∧ m = m' := by
  have a1 := a.pos; have a2 := a.le; have b1 := b.pos; have b2 := b.le
  have h1 := a.low k' (by omega)
  have h2 := b.low k (by omega)
  have hk : k = k' := by
    rcases Nat.lt_trichotomy k k' with h | h | h
    · have := b.left k h; omega
    · exact h
    · have := a.left k' h; omega
  subst hk
  refine ⟨rfl, ?_⟩
  rcases Nat.lt_trichotomy m m' with h | h | h
  · exact absurd (b.flat (k + m) (by omega) (by omega)) (a.wall (by omega))
  · exact h
  · exact absurd (a.flat (k + m') (by omega) (by omega)) (b.wall (by omega))

open Classical in
/-- the leftmost least column; how many are as low from there on -/
def lowest (l : List Int) : Nat := if h : ∃ k m, RoomOf l k m then h.choose else 0
open Classical in
def wideOf (l : List Int) : Nat := if h : ∃ k m, RoomOf l k m then h.choose_spec.choose else 0
theorem RoomOf.eq {l : List Int} {k m : Nat} (a : RoomOf l k m) : lowest l = k ∧ wideOf l = m := by
  have h : ∃ k m, RoomOf l k m := ⟨k, m, a⟩
  have hs : RoomOf l h.choose h.choose_spec.choose := h.choose_spec.choose_spec
  unfold lowest wideOf
  rw [dif_pos h, dif_pos h]
  exact hs.uniq a

/-- the squares of a code, on a floor -/
def layOn : List Int → List Int → Option (List (Nat × Int × Int))
  | F, [] => if wideOf F < F.length then none else some []
  | F, s :: r => if min (wideOf F : Int) (1000 - F.getD (lowest F) 0) < s then none else (layOn (raise F (lowest F) s.toNat s) r).map ((lowest F, F.getD (lowest F) 0, s) :: ·)

def sqCells (l : List (Nat × Int × Int)) : List Value := l.flatMap fun q => [.int .i64 q.1, .int .i64 q.2.1, .int .i64 q.2.2]
theorem sqCells_len {l : List (Nat × Int × Int)} : (sqCells l).length = l.length * 3 := by
  induction l with
  | nil => rfl
  | cons a l ih =>
    simp only [sqCells, List.flatMap_cons, List.length_append, List.length_cons, List.length_nil] at ih ⊢
    omega
theorem sqCells_append {l m : List (Nat × Int × Int)} : sqCells (l ++ m) = sqCells l ++ sqCells m := by simp [sqCells]
theorem layOn_len : ∀ {L F : List Int} {sq : List (Nat × Int × Int)}, layOn F L = some sq → sq.length = L.length
  | [], F, sq, h => by
    rw [layOn] at h
    split at h
    · cases h
    · injection h with h; subst h; rfl
  | s :: r, F, sq, h => by
    rw [layOn] at h
    split at h
    · cases h
    · obtain ⟨t, h1, rfl⟩ := Option.map_eq_some_iff.1 h
      simp [layOn_len h1]

theorem zeros_ints {w : Nat} : zeros (Value.int .i64 0).cells.toList w = ints (List.replicate w 0) := by
  induction w with
  | zero => rfl
  | succ w ih => rw [zeros, ih]; rfl

section
variable {P : Program} {E : Env} {n : Nat} {ops : List Oper} {r tl : List Oper} {k : List Frm} {α : Tr Value} {h : H} {R : Rt} {d : Nat}
theorem CallO_any {g : FuncId} {vs : List Value} {Q : Value → H → Prop} (hs : CallsE P E g vs h Q) (hd : d < n) (hk : ∀ v h', Q v h' → At P E n ops false r tl k (Tr.put α d v) h' R) :
    CallO P E n ops false r tl k α h R (some d) (some (.func (.func g) #[] #[])) (some vs) := CallO_of hs hd fun v h' hq => ⟨fun e => (by cases e), hk v h' hq⟩
end

set_option maxHeartbeats 8000000 in
theorem laid_spec {G lo hi n c w : Nat} {A : Option Addr} {L : List Int} {h : H} (hG : G ≤ h.next) (hv : SlV h.blks lo hi 1 n (ints L) (.slice A n c)) (hhi : hi ≤ h.next) (hn : n ≤ 25) (hw : 1 ≤ w ∧ w ≤ 1000) (hL : ∀ z ∈ L, 1 ≤ z ∧ z ≤ 1000) :
    Spec Tryd.prog (En G) 44 [.int .i64 w, .slice A n c] h fun u h' => (layOn (List.replicate w 0) L = none ∧ u = .slice none 0 0) ∨
      ∃ sq B, layOn (List.replicate w 0) L = some sq ∧ u = .slice B sq.length sq.length ∧ SlV h'.blks h.next h'.next 3 sq.length (sqCells sq) u := by
  have hl : L.length = n := by have := hv.len; rw [ints_len] at this; omega
  refine CallsE_enter (En_known (by decide)) (En_f.trans Tryd.func44) rfl ⟨Nat.le_of_ble_eq_true rfl, by decide⟩ fun Q' hQ' => ?_
  simp only [Tryd.f44, go_sem,reduceIte,Nat.reduceEqDiff,Nat.reduceLT]
  refine At_make (k1 := .i64) (k2 := .i64) (l := w) (c := w) u96 i3 zero3 (by rw [size3, bytes3]; rfl) (by simp only [go_sem,reduceIte,Nat.reduceEqDiff,Nat.reduceLT]) (by simp only [go_sem,reduceIte,Nat.reduceEqDiff,Nat.reduceLT]) (Nat.le_refl _) (by rw [size3]; omega) (by omega) (by omega) fun h1 hn1 => ?_
  rw [size3, zeros_ints] at hn1
  have n1 := hn1.next
  have hf1 := hn1.slv (n := w) (c := w) (by rw [ints_len]; simp)
  rw [n1] at hf1
  simp only [go_sem,reduceIte,Nat.reduceEqDiff,Nat.reduceLT, len27]
  refine WK_loopN (fun j α h2 => ∃ (k : Nat) (F : List Int) (sq : List (Nat × Int × Int)) (B : Option Addr), k + j = n ∧ sq.length = k ∧ (∀ i, i < w → 0 ≤ F.getD i 0 ∧ F.getD i 0 ≤ 1000) ∧ α.get 0 = some (.int .i64 w) ∧ α.get 1 = some (.slice A n c) ∧ α.get 5 = some (.slice (some ⟨h.next, 0, none⟩) w w) ∧
      α.get 6 = some (.slice B sq.length sq.length) ∧ α.get 15 = some (.slice A n c) ∧ α.get 16 = some (.int .i64 n) ∧ α.get 17 = some (.int .i64 k) ∧ h.next < h2.next ∧
      SlV h2.blks h.next (h.next + 1) 1 w (ints F) (.slice (some ⟨h.next, 0, none⟩) w w) ∧ SlV h2.blks (h.next + 1) h2.next 3 sq.length (sqCells sq) (.slice B sq.length sq.length) ∧
      layOn (List.replicate w 0) L = (layOn F (L.drop k)).map (sq ++ ·) ∧ Pres h.next h h2) n
    ⟨0, List.replicate w 0, [], none, by omega, rfl, fun i hi => (by simp [List.getD, hi]), by simp only [go_sem,reduceIte,Nat.reduceEqDiff,Nat.reduceLT], by simp only [go_sem,reduceIte,Nat.reduceEqDiff,Nat.reduceLT], by simp only [go_sem,reduceIte,Nat.reduceEqDiff,Nat.reduceLT], by (simp only [go_sem,reduceIte,Nat.reduceEqDiff,Nat.reduceLT]) <;> rfl, by simp only [go_sem,reduceIte,Nat.reduceEqDiff,Nat.reduceLT], by simp only [go_sem,reduceIte,Nat.reduceEqDiff,Nat.reduceLT], by (simp only [go_sem,reduceIte,Nat.reduceEqDiff,Nat.reduceLT]) <;> rfl, by omega, hf1, .nil rfl rfl, by simp, hn1.pres (Nat.le_refl _)⟩ (by omega) ?_
  clear hf1 hn1 n1 h1
  rintro J j α h2 ⟨k, F, sq, B, hk, hsk, hF, e0, e1, e5, e6, e15, e16, e17, hnx, hf, hsq, hlay, hpr⟩ hJ
  have hFl : F.length = w := by have := hf.len; rw [ints_len] at this; omega
  by_cases hlt : (k : Int) < n
  · have hkn : k < n := by omega
    obtain ⟨z, hz⟩ : ∃ z, L[k]? = some z := ⟨L[k]'(by omega), List.getElem?_eq_getElem (by omega)⟩
    have hzb := hL z (List.mem_of_getElem? hz)
    have hv2 : SlV h2.blks lo hi 1 n (ints L) (.slice A n c) := hv.mono fun b _ hb => hpr.get b (by omega)
    obtain ⟨bA, oA, rfl, _, _, hld⟩ := hv2.at_ (by omega)
    have hld := hld k (by omega)
    rw [ints_get hz] at hld
    simp (disch := omega) only [go_sem,reduceIte,Nat.reduceEqDiff,Nat.reduceLT, e0, e1, e5, e6, e15, e16, e17, hlt, idxA27, load3, Int.toNat_natCast, Nat.mul_one, hld]
    refine CallO_f (room_spec hf (by omega) (by omega)) (by omega) fun u h3 _ hu => ?_
    obtain ⟨rfl, x, m, rfl, hroom⟩ := hu
    have hrp := hroom.pos
    have hrl := hroom.le
    have hFx := hF x (by omega)
    have lx : loadv h3.blks h.next (0 + x) = some (.int .i64 (F.getD x 0)) := by
      obtain ⟨b1, off1, he, _, _, h5⟩ := hf.at_ (by omega)
      injection he with he
      injection he with q1 q2
      subst q1; subst q2
      rw [h5 x (by omega), ints_getD (by omega)]
    have hdrop : L.drop k = z :: L.drop (k + 1) := by
      obtain ⟨g, rfl⟩ := List.getElem?_eq_some_iff.1 hz
      exact List.drop_eq_getElem_cons g
    rw [hdrop, layOn, hroom.eq.1, hroom.eq.2] at hlay
    by_cases hfit : min (m : Int) (1000 - F.getD x 0) < z
    · rw [if_pos hfit] at hlay
      simp (disch := omega) only [go_sem,reduceIte,Nat.reduceEqDiff,Nat.reduceLT, e0, e1, e5, e6, e15, e16, e17, idxA96, load3, Int.toNat_natCast, Nat.mul_one, lx, wrap_i64, hfit]
      exact hQ' _ _ ⟨hpr, .inl ⟨hlay, rfl⟩⟩
    · rw [if_neg hfit] at hlay
      simp (disch := omega) only [go_sem,reduceIte,Nat.reduceEqDiff,Nat.reduceLT, e0, e1, e5, e6, e15, e16, e17, idxA96, load3, Int.toNat_natCast, Nat.mul_one, lx, wrap_i64, hfit]
      refine CallO_any (hput_spec hf hG hnx (by omega) (by omega) (by omega) (by omega) hF) (by omega) fun u h4 hu => ?_
      obtain ⟨rfl, hp⟩ := hu
      have n4 := hp.pres.next
      have hsq4 : SlV h4.blks (h.next + 1) h3.next 3 sq.length (sqCells sq) (.slice B sq.length sq.length) := hsq.mono fun b h1 h2 => hp.get b h2 (by omega)
      refine At_push (lo := h.next + 1) (hi := h3.next) (L := sqCells sq) (vs := [.int .i64 x, .int .i64 (F.getD x 0), .int .i64 z]) u22 i61 zero61 (by rw [size61, bytes61]; rfl) (by (simp only [go_sem,reduceIte,Nat.reduceEqDiff,Nat.reduceLT]) <;> rfl) (by rw [size61]; rfl) (by rw [size61]; rfl) rfl (by (simp only [go_sem,reduceIte,Nat.reduceEqDiff,Nat.reduceLT, e6]) <;> rfl) (by rw [size61]; exact hsq4) n4 (Nat.le_refl _) (by show G ≤ h.next + 1; omega) (by omega) (by decide) (by decide) (by decide) fun h5 hpu => ?_
      rw [size61] at hpu
      have n5 := hpu.next
      have hcells : sqCells sq ++ [.int .i64 x, .int .i64 (F.getD x 0), .int .i64 z] = sqCells (sq ++ [(x, F.getD x 0, z)]) := by rw [sqCells_append]; rfl
      rw [hcells] at hpu
      have hsq5 := hpu.slv (n := (sq ++ [(x, F.getD x 0, z)]).length) (c := (sq ++ [(x, F.getD x 0, z)]).length) (by rw [sqCells_len])
      have hf5 : SlV h5.blks h.next (h.next + 1) 1 w (ints (raise F x z.toNat z)) (.slice (some ⟨h.next, 0, none⟩) w w) := hpu.other hp.slv (by omega) fun b hb => .inr (hsq4.blk b hb)
      simp (disch := omega) only [go_sem,reduceIte,Nat.reduceEqDiff,Nat.reduceLT, e17, wrap_i64]
      refine hJ (j - 1) _ _ (by omega) ⟨k + 1, raise F x z.toNat z, sq ++ [(x, F.getD x 0, z)], some ⟨h4.next + 1, 0, none⟩, by omega, by simp [hsk], fun i hi => ?_, by simp only [go_sem,reduceIte,Nat.reduceEqDiff,Nat.reduceLT, e0], by simp only [go_sem,reduceIte,Nat.reduceEqDiff,Nat.reduceLT, e1], by simp only [go_sem,reduceIte,Nat.reduceEqDiff,Nat.reduceLT, e5], by simp only [go_sem,reduceIte,Nat.reduceEqDiff,Nat.reduceLT, List.length_append, List.length_singleton], by simp only [go_sem,reduceIte,Nat.reduceEqDiff,Nat.reduceLT, e15], by simp only [go_sem,reduceIte,Nat.reduceEqDiff,Nat.reduceLT, e16], by (simp only [go_sem,reduceIte,Nat.reduceEqDiff,Nat.reduceLT]) <;> rfl, by omega, hf5, hsq5.wide (by omega) (Nat.le_refl _), ?_, hpr.trans (hp.pres.trans (hpu.pres (by omega) fun b hb => by have := hsq4.blk b hb; omega))⟩
      · rw [raise_get (by omega)]
        have h6 := hF i hi
        split
        · rename_i hin
          have := hroom.flat i hin.1 (by omega)
          omega
        · exact h6
      · rw [hlay]
        cases layOn (raise F x z.toNat z) (L.drop (k + 1)) <;> simp
  · have hkn : k = n := by omega
    simp (disch := omega) only [go_sem,reduceIte,Nat.reduceEqDiff,Nat.reduceLT, e0, e1, e5, e6, e15, e16, e17, hlt]
    refine CallO_f (room_spec hf (by omega) (by omega)) (by omega) fun u h3 _ hu => ?_
    obtain ⟨rfl, x, m, rfl, hroom⟩ := hu
    rw [List.drop_of_length_le (by omega), layOn, hroom.eq.2, hFl] at hlay
    by_cases hwd : (m : Int) < w
    · rw [if_pos (by omega)] at hlay
      simp (disch := omega) only [go_sem,reduceIte,Nat.reduceEqDiff,Nat.reduceLT, e0, e1, e5, e6, e15, e16, e17, hwd]
      exact hQ' _ _ ⟨hpr, .inl ⟨hlay, rfl⟩⟩
    · rw [if_neg (by omega)] at hlay
      simp (disch := omega) only [go_sem,reduceIte,Nat.reduceEqDiff,Nat.reduceLT, e0, e1, e5, e6, e15, e16, e17, hwd]
      exact hQ' _ _ ⟨hpr, .inr ⟨sq, B, by simpa using hlay, rfl, hsq.wide (by omega) (Nat.le_refl _)⟩⟩
end
end Go.Proofs.YtnhbkoeomefkdaaDoor.Ev.L

/- The program's Lay. -/
set_option linter.unusedSimpArgs false
set_option linter.unusedVariables false
namespace Go.Proofs.YtnhbkoeomefkdaaDoor.Ev.L
open Go Go.Proofs Go.Proofs.YtnhbkoeomefkdaaDoor.Ev
noncomputable section

/-- what Lay answers -/
def LayRes (h h' : H) (w : Int) (L : List Int) (v : Value) : Prop :=
  (24 < L.length ∧ v = .tuple #[.slice none 0 0, .int .i64 3]) ∨
  (L.length ≤ 24 ∧ ¬ (L ≠ [] ∧ sideOk w = true ∧ L.all sideOk = true) ∧ v = .tuple #[.slice none 0 0, .int .i64 1]) ∨
  (L.length ≤ 24 ∧ (L ≠ [] ∧ sideOk w = true ∧ L.all sideOk = true) ∧ layOn (List.replicate w.toNat 0) L = none ∧ v = .tuple #[.slice none 0 0, .int .i64 5]) ∨
  (L.length ≤ 24 ∧ (L ≠ [] ∧ sideOk w = true ∧ L.all sideOk = true) ∧ ∃ sq B, layOn (List.replicate w.toNat 0) L = some sq ∧ v = .tuple #[.slice B sq.length sq.length, .int .i64 0] ∧ SlV h'.blks h.next h'.next 3 sq.length (sqCells sq) (.slice B sq.length sq.length))

theorem sideOk_iff {z : Int} : sideOk z = true ↔ 1 ≤ z ∧ z ≤ 1000 := by simp [sideOk]

set_option maxHeartbeats 8000000 in
theorem hideLay_spec {G lo hi n c : Nat} {w : Int} {A : Option Addr} {L : List Int} {h : H} (hG : G ≤ h.next) (hv : SlV h.blks lo hi 1 n (ints L) (.slice A n c)) (hhi : hi ≤ h.next) (hn : n ≤ 25) :
    Spec Tryd.prog (En G) 23 [.int .i64 w, .slice A n c] h fun u h' => LayRes h h' w L u := by
  have hl : L.length = n := by have := hv.len; rw [ints_len] at this; omega
  refine CallsE_enter (En_known (by decide)) (En_f.trans Tryd.func23) rfl ⟨Nat.le_of_ble_eq_true rfl, by decide⟩ fun Q' hQ' => ?_
  by_cases h24 : (24 : Int) < n
  · simp only [Tryd.f23, go_sem,reduceIte,Nat.reduceEqDiff,Nat.reduceLT, len27, h24]
    exact hQ' _ _ ⟨Pres.refl _ _, .inl ⟨by omega, rfl⟩⟩
  · by_cases h0 : (n : Int) = 0
    · have d0 : decide ((n : Int) = 0) = true := decide_eq_true h0
      simp only [Tryd.f23, go_sem,reduceIte,Nat.reduceEqDiff,Nat.reduceLT, len27, h24, d0]
      exact hQ' _ _ ⟨Pres.refl _ _, .inr (.inl ⟨by omega, fun hh => hh.1 (List.length_eq_zero_iff.1 (by omega)), rfl⟩)⟩
    · have hne : L ≠ [] := fun e => by subst e; simp at hl; omega
      simp only [Tryd.f23, go_sem,reduceIte,Nat.reduceEqDiff,Nat.reduceLT, len27, h24, h0]
      refine At_lit (vs := [(0, .int .i64 w)]) (cs := #[.int .i64 w]) u27 i3 zero3 (by rw [size3]; rfl) (by simp only [go_sem,reduceIte,Nat.reduceEqDiff,Nat.reduceLT]) (by rw [size3]; rfl) (by omega) fun h1 hn1 => ?_
      rw [size3] at hn1
      have n1 := hn1.next
      have pr1 : Pres h.next h h1 := hn1.pres (Nat.le_refl _)
      simp only [go_sem,reduceIte,Nat.reduceEqDiff,Nat.reduceLT]
      refine CallO_f (areSides_spec (l := [w]) (hn1.slv rfl) (by omega)) (by omega) fun u h2 hp2 hu => ?_
      subst hu
      have pr2 : Pres h.next h h2 := pr1.trans (hp2.le (by omega))
      have hall : [w].all sideOk = sideOk w := by simp
      rw [hall]
      by_cases hw : sideOk w = true
      · simp only [go_sem,reduceIte,Nat.reduceEqDiff,Nat.reduceLT, hw]
        refine CallO_f (areSides_spec (hv.mono fun b _ hb => pr2.get b (by omega)) (by omega)) (by omega) fun u h3 hp3 hu => ?_
        subst hu
        have n2 := pr2.next
        have pr3 : Pres h.next h h3 := pr2.trans (hp3.le (by omega))
        by_cases hL : L.all sideOk = true
        · simp only [go_sem,reduceIte,Nat.reduceEqDiff,Nat.reduceLT, hL]
          obtain ⟨w', rfl⟩ := Int.eq_ofNat_of_zero_le (a := w) (by have := sideOk_iff.1 hw; omega)
          have n3 := pr3.next
          have hwb := sideOk_iff.1 hw
          refine CallO_f (laid_spec (w := w') (by omega) (hv.mono fun b _ hb => pr3.get b (by omega)) (by omega) hn (by omega) fun z hz => sideOk_iff.1 (List.all_eq_true.1 hL z hz)) (by omega) fun u h4 hp4 hu => ?_
          have pr4 : Pres h.next h h4 := pr3.trans (hp4.le (by omega))
          rcases hu with ⟨g1, rfl⟩ | ⟨sq, B, g1, rfl, g3⟩
          · have d0 : decide (((0 : Nat) : Int) = 0) = true := rfl
            simp only [go_sem,reduceIte,Nat.reduceEqDiff,Nat.reduceLT, len22, d0]
            exact hQ' _ _ ⟨pr4, .inr (.inr (.inl ⟨by omega, ⟨hne, hw, hL⟩, g1, rfl⟩))⟩
          · have hsl := layOn_len g1
            have hsz : ¬ (sq.length : Int) = 0 := by omega
            simp only [go_sem,reduceIte,Nat.reduceEqDiff,Nat.reduceLT, len22, hsz]
            exact hQ' _ _ ⟨pr4, .inr (.inr (.inr ⟨by omega, ⟨hne, hw, hL⟩, sq, B, g1, rfl, g3.wide (by omega) (Nat.le_refl _)⟩))⟩
        · have hL' : L.all sideOk = false := by simpa using hL
          simp only [go_sem,reduceIte,Nat.reduceEqDiff,Nat.reduceLT, hL']
          exact hQ' _ _ ⟨pr3, .inr (.inl ⟨by omega, fun hh => hL hh.2.2, rfl⟩)⟩
      · have hw' : sideOk w = false := by simpa using hw
        simp only [go_sem,reduceIte,Nat.reduceEqDiff,Nat.reduceLT, hw']
        exact hQ' _ _ ⟨pr2, .inr (.inl ⟨by omega, fun hh => hw hh.2.1, rfl⟩)⟩
end
end Go.Proofs.YtnhbkoeomefkdaaDoor.Ev.L

/- The reference's Lay. -/
set_option linter.unusedSimpArgs false
set_option linter.unusedVariables false
namespace Go.Proofs.YtnhbkoeomefkdaaDoor.Ev.L
open Go Go.Proofs Go.Proofs.YtnhbkoeomefkdaaDoor.Ev
noncomputable section

theorem sinv {B : Tr Blk} {lo hi sz n b off c : Nat} {L : List Value} (s : SlV B lo hi sz n L (.slice (some ⟨b, off, none⟩) n c)) : ∃ cells size, B.get b = some (.mk cells size sz) ∧ lo ≤ b ∧ b < hi ∧ off + n * sz ≤ size ∧ L.length = n * sz ∧ ∀ i, i < n * sz → cells.get (off + i) = L[i]? := by
  cases s with
  | mk hb hlo hhi hsz hL hc => exact ⟨_, _, hb, hlo, hhi, hsz, hL, hc⟩
theorem room_ex {l : List Int} {k : Nat} (hk : k < l.length) (low : ∀ i, i < l.length → l.getD k 0 ≤ l.getD i 0) (left : ∀ i, i < k → l.getD k 0 < l.getD i 0) : ∃ m, RoomOf l k m := by
  have key : ∀ (d t : Nat), t + d = l.length → k < t → (∀ i, k ≤ i → i < t → l.getD i 0 = l.getD k 0) → ∃ m, RoomOf l k m := by
    intro d
    induction d with
    | zero => intro t ht hkt hf; exact ⟨t - k, by omega, low, left, fun i h1 h2 => hf i h1 (by omega), fun h => by omega, by omega⟩
    | succ d ih =>
      intro t ht hkt hf
      by_cases hq : l.getD t 0 = l.getD k 0
      · refine ih (t + 1) (by omega) (by omega) fun i h1 h2 => ?_
        by_cases hit : i = t
        · subst hit; exact hq
        · exact hf i h1 (by omega)
      · exact ⟨t - k, by omega, low, left, fun i h1 h2 => hf i h1 (by omega), fun _ => by rw [show k + (t - k) = t by omega]; exact hq, by omega⟩
  exact key (l.length - (k + 1)) (k + 1) (by omega) (by omega) fun i h1 h2 => by
    have : i = k := by omega
    subst this; rfl

end
end Go.Proofs.YtnhbkoeomefkdaaDoor.Ev.L

