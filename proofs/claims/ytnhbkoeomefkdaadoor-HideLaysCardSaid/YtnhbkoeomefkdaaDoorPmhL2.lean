/- Variables that lie in memory; squares; put. -/
import Derived.Test.YtnhbkoeomefkdaaDoorPmhL1
set_option linter.unusedSimpArgs false
set_option linter.unusedVariables false
namespace Go.Proofs.YtnhbkoeomefkdaaDoor.Ev.L
open Go Go.Proofs Go.Proofs.YtnhbkoeomefkdaaDoor.Ev
noncomputable section

/-- a square -/
theorem u61 {G : Nat} : ∃ fs, (En G).u 61 = some (.struct fs) := ⟨_, En_u.trans <| (envOf_u (by decide)).trans Tryd.underlying61⟩
theorem agg61 {G : Nat} : (En G).agg 61 = some true := by
  obtain ⟨fs, h⟩ := @u61 G
  unfold Env.agg; rw [h]
theorem zero61 : inf61.zero = some (.agg #[.int .i64 0, .int .i64 0, .int .i64 0]) := by kernel_rfl
theorem build61 {G : Nat} {a b c : Int} : buildO (En G) 61 (some [(0, .int .i64 a), (1, .int .i64 b), (2, .int .i64 c)]) = some (.agg #[.int .i64 a, .int .i64 b, .int .i64 c]) := by
  have hu : (En G).u 61 = _ := En_u.trans <| (envOf_u (by decide)).trans Tryd.underlying61
  simp only [buildO, evBuild, i61, hu, zero61, places, i3, size3]
  rfl
theorem fld61 {G b off : Nat} {i : Nat} (hi : i < 3) : fieldAddrO (En G) 61 i (some (.pointer (some ⟨b, off, none⟩))) = some (.pointer (some ⟨b, off + i, none⟩)) := by
  have hu : (En G).u 61 = _ := En_u.trans <| (envOf_u (by decide)).trans Tryd.underlying61
  match i, hi with
  | 0, _ => simp only [fieldAddrO, evFieldAddr, hu, List.getElem?_toArray, List.getElem?_cons_zero, List.getElem?_cons_succ, i3, size3, forceN_eq]; rfl
  | 1, _ => simp only [fieldAddrO, evFieldAddr, hu, List.getElem?_toArray, List.getElem?_cons_zero, List.getElem?_cons_succ, i3, size3, forceN_eq]; rfl
  | 2, _ => simp only [fieldAddrO, evFieldAddr, hu, List.getElem?_toArray, List.getElem?_cons_zero, List.getElem?_cons_succ, i3, size3, forceN_eq]; rfl

/-- k columns from x on are s higher -/
def raise (l : List Int) (x k : Nat) (s : Int) : List Int := (List.range l.length).map fun i => if x ≤ i ∧ i < x + k then l.getD i 0 + s else l.getD i 0
theorem raise_len {l : List Int} {x k : Nat} {s : Int} : (raise l x k s).length = l.length := by simp [raise]
theorem raise_get {l : List Int} {x k i : Nat} {s : Int} (hi : i < l.length) : (raise l x k s).getD i 0 = if x ≤ i ∧ i < x + k then l.getD i 0 + s else l.getD i 0 := by
  simp [raise, List.getD, hi]
theorem raise_zero {l : List Int} {x : Nat} {s : Int} : raise l x 0 s = l := by
  apply List.ext_getElem (by rw [raise_len])
  intro i h1 h2
  simp only [raise, List.getElem_map, List.getElem_range]
  rw [if_neg (by omega), List.getD, List.getElem?_eq_getElem h2]; rfl
theorem raise_step {l : List Int} {x k : Nat} {s : Int} : (raise l x k s).set (x + k) (l.getD (x + k) 0 + s) = raise l x (k + 1) s := by
  apply List.ext_getElem (by simp [raise_len])
  intro i h1 h2
  rw [List.getElem_set]
  simp only [raise, List.getElem_map, List.getElem_range]
  by_cases hi : x + k = i
  · subst hi
    rw [if_pos rfl, if_pos (by omega)]
  · rw [if_neg hi]
    by_cases h3 : x ≤ i ∧ i < x + k
    · rw [if_pos h3, if_pos (by omega)]
    · rw [if_neg h3, if_neg (by omega)]
theorem ints_set {l : List Int} {j : Nat} {z : Int} (hj : j < l.length) : (ints l).take j ++ [.int .i64 z] ++ (ints l).drop (j + [Value.int .i64 z].length) = ints (l.set j z) := by
  simp only [ints, List.length_singleton]
  rw [← List.map_take, ← List.map_drop, List.set_eq_take_append_cons_drop, if_pos hj]
  simp

/-- put: the floor is raised, the square is returned -/
structure PutOf (h h' : H) (b n c off : Nat) (l : List Int) (x : Nat) (s : Int) : Prop where
  slv : SlV h'.blks b (b + 1) 1 n (ints (raise l x s.toNat s)) (.slice (some ⟨b, off, none⟩) n c)
  pres : Pres b h h'
  get : ∀ b', b' < h.next → b' ≠ b → h'.blks.get b' = h.blks.get b'

set_option maxHeartbeats 4000000 in
theorem hput_spec {G n b off c x : Nat} {s : Int} {l : List Int} {h : H} (hv : SlV h.blks b (b + 1) 1 n (ints l) (.slice (some ⟨b, off, none⟩) n c)) (hG : G ≤ b) (hb : b < h.next) (hs : 1 ≤ s) (hx : x + s.toNat ≤ n) (hn : n ≤ 1000) (hs2 : s ≤ 1000) (hlo : ∀ i, i < n → 0 ≤ l.getD i 0 ∧ l.getD i 0 ≤ 1000) :
    CallsE Tryd.prog (En G) 64 [.slice (some ⟨b, off, none⟩) n c, .int .i64 x, .int .i64 s] h fun u h' => u = .agg #[.int .i64 x, .int .i64 (l.getD x 0), .int .i64 s] ∧ PutOf h h' b n c off l x s := by
  have hl : l.length = n := by have := hv.len; rw [ints_len] at this; omega
  have hld : ∀ i, i < n → loadv h.blks b (off + i) = some (.int .i64 (l.getD i 0)) := fun i hi => by
    obtain ⟨b1, off1, he, _, _, h5⟩ := hv.at_ (by omega)
    injection he with he
    injection he with e1 e2
    subst e1; subst e2
    rw [h5 i (by omega), ints_getD (by omega)]
  refine CallsE_enter (En_known (by decide)) (En_f.trans Tryd.func64) rfl ⟨Nat.le_of_ble_eq_true rfl, by decide⟩ fun Q' hQ' => ?_
  simp only [Tryd.f64, go_sem,reduceIte,Nat.reduceEqDiff,Nat.reduceLT]
  refine At_alloc i61 zero61 rfl (by omega) fun h1 hn1 => ?_
  have n1 := hn1.next
  have l1 : ∀ i, i < n → loadv h1.blks b (off + i) = some (.int .i64 (l.getD i 0)) := fun i hi => (loadv_eq (B := h.blks) (by rw [hn1.get, if_neg (by omega)]) _).trans (hld i hi)
  simp (disch := omega) only [go_sem,reduceIte,Nat.reduceEqDiff,Nat.reduceLT, idxA96, load3, Int.toNat_natCast, Nat.mul_one, l1, build61]
  refine At_alloc i61 zero61 rfl (by omega) fun h2 hn2 => ?_
  have n2 := hn2.next
  obtain ⟨c7, e7, g7, g7'⟩ := hn2.var
  refine At_store (inf := inf61) (b := h1.next) (off := 0) (v := .agg #[.int .i64 x, .int .i64 (l.getD x 0), .int .i64 s]) i61 (by simp only [go_sem,reduceIte,Nat.reduceEqDiff,Nat.reduceLT]) (by simp only [go_sem,reduceIte,Nat.reduceEqDiff,Nat.reduceLT]) (by rw [size61]; rfl) rfl g7 (by rw [size61]; exact Nat.le_refl _) (by show G ≤ h1.next; omega) fun h3 hs3 => ?_
  have v7 : Var h3.blks h1.next [.int .i64 x, .int .i64 (l.getD x 0), .int .i64 s] := hs3.var ⟨c7, e7, g7, g7'⟩ rfl
  have v6 : Var h3.blks h.next [.int .i64 0, .int .i64 0, .int .i64 0] := hn1.var.mono (by rw [hs3.get _ (by omega), hn2.get, if_neg (by omega)])
  have n3 := hs3.next
  have hsl3 : SlV h3.blks b (b + 1) 1 n (ints (raise l x 0 s)) (.slice (some ⟨b, off, none⟩) n c) := by
    rw [raise_zero]
    exact hv.mono fun b' h1 h2 => by rw [hs3.get _ (by omega), hn2.get, if_neg (by omega), hn1.get, if_neg (by omega)]
  have old3 : ∀ b', b' < h.next → h3.blks.get b' = h.blks.get b' := fun b' hb' => by rw [hs3.get _ (by omega), hn2.get, if_neg (by omega), hn1.get, if_neg (by omega)]
  have pr3 : Pres b h h3 := (hn1.pres (by omega)).trans ((hn2.pres (by omega)).trans (hs3.pres (by omega)))
  simp only [go_sem,reduceIte,Nat.reduceEqDiff,Nat.reduceLT]
  refine WK_loopN (fun j α h4 => ∃ k : Nat, k + j = s.toNat ∧ α.get 0 = some (.slice (some ⟨b, off, none⟩) n c) ∧ α.get 1 = some (.int .i64 x) ∧ α.get 2 = some (.int .i64 s) ∧ α.get 6 = some (.pointer (some ⟨h.next, 0, none⟩)) ∧ α.get 7 = some (.pointer (some ⟨h1.next, 0, none⟩)) ∧
      α.get 16 = some (.int .i64 s) ∧ α.get 17 = some (.int .i64 k) ∧ h4.next = h3.next ∧ Var h4.blks h1.next [.int .i64 x, .int .i64 (l.getD x 0), .int .i64 s] ∧ Var h4.blks h.next [.int .i64 0, .int .i64 0, .int .i64 0] ∧
      SlV h4.blks b (b + 1) 1 n (ints (raise l x k s)) (.slice (some ⟨b, off, none⟩) n c) ∧ Pres b h h4 ∧ ∀ b', b' < h.next → b' ≠ b → h4.blks.get b' = h.blks.get b') s.toNat
    ⟨0, by omega, by simp only [go_sem,reduceIte,Nat.reduceEqDiff,Nat.reduceLT], by simp only [go_sem,reduceIte,Nat.reduceEqDiff,Nat.reduceLT], by simp only [go_sem,reduceIte,Nat.reduceEqDiff,Nat.reduceLT], by simp only [go_sem,reduceIte,Nat.reduceEqDiff,Nat.reduceLT], by simp only [go_sem,reduceIte,Nat.reduceEqDiff,Nat.reduceLT], by simp only [go_sem,reduceIte,Nat.reduceEqDiff,Nat.reduceLT], by (simp only [go_sem,reduceIte,Nat.reduceEqDiff,Nat.reduceLT]) <;> rfl, rfl, v7, v6, hsl3, pr3, fun b' hb' _ => old3 b' hb'⟩ (by omega) ?_
  clear hsl3 v6 v7 old3 pr3 l1
  rintro J j α h4 ⟨k, hk, e0, e1, e2, e6, e7, e16, e17, n4, v7, v6, hsl, pr, old⟩ hJ
  by_cases hlt : (k : Int) < s
  · have hkx : x + k < n := by omega
    have lv : loadv h4.blks b (off + (x + k)) = some (.int .i64 (l.getD (x + k) 0)) := by
      obtain ⟨b1, off1, he, _, _, h5⟩ := hsl.at_ (by omega)
      injection he with he
      injection he with q1 q2
      subst q1; subst q2
      rw [h5 (x + k) (by omega), ints_getD (by rw [raise_len]; omega), raise_get (by omega), if_neg (by omega)]
    have hxk := hlo (x + k) hkx
    have exk : ((x : Int) + (k : Int)).toNat = x + k := by omega
    simp (disch := omega) only [go_sem,reduceIte,Nat.reduceEqDiff,Nat.reduceLT, e0, e1, e2, e6, e7, e16, e17, hlt, idxA96, load3, exk, Nat.mul_one, lv, wrap_i64]
    cases hsl with
    | mk gb glo ghi gsz gL gc =>
      refine At_store (inf := inf3) (b := b) (off := off + (x + k)) (v := .int .i64 (l.getD (x + k) 0 + s)) i3 (by simp only [go_sem,reduceIte,Nat.reduceEqDiff,Nat.reduceLT]) (by simp only [go_sem,reduceIte,Nat.reduceEqDiff,Nat.reduceLT]) (by rw [size3]; rfl) rfl gb (by rw [size3]; omega) (by exact hG) fun h5 hs5 => ?_
      have hsl' := hs5.slv (c := c) (.mk gb glo ghi gsz gL gc) (by show x + k + 1 ≤ n * 1; omega)
      have he : (ints (raise l x k s)).take (x + k) ++ (Value.int .i64 (l.getD (x + k) 0 + s)).cells.toList ++ (ints (raise l x k s)).drop (x + k + (Value.int .i64 (l.getD (x + k) 0 + s)).cells.toList.length) = ints (raise l x (k + 1) s) := by
        rw [← raise_step, ← ints_set (by rw [raise_len]; omega)]; rfl
      rw [he] at hsl'
      simp (disch := omega) only [go_sem,reduceIte,Nat.reduceEqDiff,Nat.reduceLT, e17, wrap_i64]
      refine hJ (j - 1) _ _ (by omega) ⟨k + 1, by omega, by simp only [go_sem,reduceIte,Nat.reduceEqDiff,Nat.reduceLT, e0], by simp only [go_sem,reduceIte,Nat.reduceEqDiff,Nat.reduceLT, e1], by simp only [go_sem,reduceIte,Nat.reduceEqDiff,Nat.reduceLT, e2], by simp only [go_sem,reduceIte,Nat.reduceEqDiff,Nat.reduceLT, e6], by simp only [go_sem,reduceIte,Nat.reduceEqDiff,Nat.reduceLT, e7], by simp only [go_sem,reduceIte,Nat.reduceEqDiff,Nat.reduceLT, e16], by (simp only [go_sem,reduceIte,Nat.reduceEqDiff,Nat.reduceLT]) <;> rfl, hs5.next.trans n4, v7.mono (hs5.get _ (by omega)), v6.mono (hs5.get _ (by omega)), hsl', pr.trans (hs5.pres (Nat.le_refl _)), fun b' h1 h2 => by rw [hs5.get _ h2]; exact old b' h1 h2⟩
  · have hks : k = s.toNat := by omega
    subst hks
    simp (disch := omega) only [go_sem,reduceIte,Nat.reduceEqDiff,Nat.reduceLT, e0, e1, e2, e6, e7, e16, e17, hlt, v7.loadA agg61 i61 size61.symm]
    obtain ⟨c6, e6', g6, g6'⟩ := v6
    refine At_store (inf := inf61) (b := h.next) (off := 0) (v := .agg #[.int .i64 x, .int .i64 (l.getD x 0), .int .i64 s]) i61 (by simp only [go_sem,reduceIte,Nat.reduceEqDiff,Nat.reduceLT, e6]) (by simp only [go_sem,reduceIte,Nat.reduceEqDiff,Nat.reduceLT]) (by rw [size61]; rfl) rfl g6 (by rw [size61]; exact Nat.le_refl _) (by show G ≤ h.next; omega) fun h5 hs5 => ?_
    have v6' : Var h5.blks h.next [.int .i64 x, .int .i64 (l.getD x 0), .int .i64 s] := hs5.var ⟨c6, e6', g6, g6'⟩ rfl
    have hev : evLoad (En G) h5 61 (.pointer (some ⟨h.next, 0, none⟩)) = some (.agg #[.int .i64 x, .int .i64 (l.getD x 0), .int .i64 s]) := (evLoad_loadO).trans (v6'.loadA agg61 i61 size61.symm)
    simp only [go_sem,reduceIte,Nat.reduceEqDiff,Nat.reduceLT, e6, hev]
    exact hQ' _ _ ⟨rfl, hsl.mono fun b' h1 h2 => hs5.get _ (by omega), pr.trans (hs5.pres (by omega)), fun b' h1 h2 => by rw [hs5.get _ (by omega)]; exact old b' h1 h2⟩
end
end Go.Proofs.YtnhbkoeomefkdaaDoor.Ev.L

