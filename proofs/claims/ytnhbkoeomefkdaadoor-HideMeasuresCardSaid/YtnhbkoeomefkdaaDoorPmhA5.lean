/- Measure, Code, Perfect; the document's Covers, Check, Measure, Perfect. -/
import Derived.Test.YtnhbkoeomefkdaaDoorPmhA4
import Derived.Test.YtnhbkoeomefkdaaDoorPmhIB
set_option linter.unusedSimpArgs false
set_option linter.unusedVariables false
namespace Go.Proofs.YtnhbkoeomefkdaaDoor.Ev
open Go Go.Proofs
noncomputable section

set_option maxRecDepth 100000 in
set_option maxHeartbeats 8000000 in
theorem Measure_spec {G lo hi c : Nat} {L : List Sq} {A : Option Addr} {h : H} (hG : G ≤ h.next) (hG3 : 3 ≤ G) (hhi : hi ≤ h.next) (ht : TabsIn tabs h.blks) (hv : SlV h.blks lo hi 3 L.length (sqc L) (.slice A L.length c)) (hl : L.length ≤ 1000) :
    Spec Tryd.prog (En G) 14 [.slice A L.length c] h fun v _ => (chk L = 0 ∧ v = .tuple #[.int .i64 (wid L), .int .i64 (hei L), .int .i64 0]) ∨ (chk L ≠ 0 ∧ v = .tuple #[.int .i64 0, .int .i64 0, .int .i64 (chk L)]) := by
  refine CallsE_enter (En_known (by decide)) (En_f.trans Tryd.func14) rfl ⟨Nat.le_of_ble_eq_true rfl, by decide⟩ fun Q' hQ' => ?_
  simp only [Tryd.f14, go_sem,reduceIte,Nat.reduceEqDiff,Nat.reduceLT]
  refine CallO_f (newCut_spec hG hG3 hhi ht hv hl) (by omega) fun u h1 ph1 hcut => ?_
  have n1 := ph1.next
  rcases hcut with ⟨he, A', hu, hsv⟩ | ⟨he, hu⟩
  · subst hu
    simp only [go_sem,reduceIte,Nat.reduceEqDiff,Nat.reduceLT]
    refine At_alloc i64 zero64 rfl (by omega) fun h2 hn2 => ?_
    have n2 := hn2.next
    have w2 := hn2.var
    rw [cutV_cells] at w2
    have pg2 : Pres h1.next h1 h2 := hn2.pres (Nat.le_refl _)
    try simp only [go_sem,reduceIte,Nat.reduceEqDiff,Nat.reduceLT]
    refine At_storeV (v := cutV A' L.length (wid L) (hei L)) i64 (by simp only [go_sem,reduceIte,Nat.reduceEqDiff,Nat.reduceLT]) (by (simp only [go_sem,reduceIte,Nat.reduceEqDiff,Nat.reduceLT]) <;> rfl) w2 (by rw [size64]; rfl) (by rw [size64]; rfl) rfl (by rw [En_G]; omega) fun h3 hs3 v3 => ?_
    rw [cutV_cells] at v3
    have ph3 : Pres h1.next h1 h3 := pg2.trans (hs3.pres (Nat.le_refl _))
    have n3 : h3.next = h2.next := hs3.next
    have pr3 : Pres h.next h h3 := ph1.trans (ph3.le (by omega))
    have l30 : loadv h3.blks h1.next 0 = some (.slice A' L.length L.length) := v3.load (i := 0) (by simp only [List.length_cons, List.length_nil]; omega)
    have l31 : loadv h3.blks h1.next 1 = some (.int .i64 (wid L)) := v3.load (i := 1) (by simp only [List.length_cons, List.length_nil]; omega)
    have l32 : loadv h3.blks h1.next 2 = some (.int .i64 (hei L)) := v3.load (i := 2) (by simp only [List.length_cons, List.length_nil]; omega)
    simp only [go_sem,reduceIte,Nat.reduceEqDiff,Nat.reduceLT]
    refine WK_regionT 6 ⟨by kernel_rfl, by kernel_rfl, by kernel_rfl⟩ ?_
    simp only [go_sem,reduceIte,Nat.reduceEqDiff,Nat.reduceLT, fld64_1, fld64_2, Nat.zero_add, load3, l31, l32]
    exact hQ' _ _ ⟨pr3, .inl ⟨he, rfl⟩⟩
  · subst hu
    simp only [go_sem,reduceIte,Nat.reduceEqDiff,Nat.reduceLT]
    refine At_alloc i64 zero64 rfl (by omega) fun h2 hn2 => ?_
    have n2 := hn2.next
    have w2 := hn2.var
    rw [cutV_cells] at w2
    have pg2 : Pres h1.next h1 h2 := hn2.pres (Nat.le_refl _)
    try simp only [go_sem,reduceIte,Nat.reduceEqDiff,Nat.reduceLT]
    refine At_storeV (v := cutV none 0 0 0) i64 (by simp only [go_sem,reduceIte,Nat.reduceEqDiff,Nat.reduceLT]) (by (simp only [go_sem,reduceIte,Nat.reduceEqDiff,Nat.reduceLT]) <;> rfl) w2 (by rw [size64]; rfl) (by rw [size64]; rfl) rfl (by rw [En_G]; omega) fun h3 hs3 v3 => ?_
    rw [cutV_cells] at v3
    have ph3 : Pres h1.next h1 h3 := pg2.trans (hs3.pres (Nat.le_refl _))
    have n3 : h3.next = h2.next := hs3.next
    have pr3 : Pres h.next h h3 := ph1.trans (ph3.le (by omega))
    have l30 : loadv h3.blks h1.next 0 = some (.slice none 0 0) := v3.load (i := 0) (by simp only [List.length_cons, List.length_nil]; omega)
    have l31 : loadv h3.blks h1.next 1 = some (.int .i64 0) := v3.load (i := 1) (by simp only [List.length_cons, List.length_nil]; omega)
    have l32 : loadv h3.blks h1.next 2 = some (.int .i64 0) := v3.load (i := 2) (by simp only [List.length_cons, List.length_nil]; omega)
    simp only [go_sem,reduceIte,Nat.reduceEqDiff,Nat.reduceLT]
    refine WK_regionT 6 ⟨by kernel_rfl, by kernel_rfl, by kernel_rfl⟩ ?_
    simp only [go_sem,reduceIte,Nat.reduceEqDiff,Nat.reduceLT, fld64_1, fld64_2, Nat.zero_add, load3, l31, l32]
    exact hQ' _ _ ⟨pr3, .inr ⟨he, rfl⟩⟩

abbrev szs (L : List Sq) : List Int := L.map fun q => q.2.2
set_option maxRecDepth 100000 in
set_option maxHeartbeats 8000000 in
theorem Code_spec {G lo hi c : Nat} {L : List Sq} {A : Option Addr} {h : H} (hG : G ≤ h.next) (hG3 : 3 ≤ G) (hhi : hi ≤ h.next) (ht : TabsIn tabs h.blks) (hv : SlV h.blks lo hi 3 L.length (sqc L) (.slice A L.length c)) (hl : L.length ≤ 1000) :
    Spec Tryd.prog (En G) 15 [.slice A L.length c] h fun v h' => (chk L = 0 ∧ ∃ A', v = .tuple #[.slice A' L.length L.length, .int .i64 0] ∧ SlV h'.blks h.next h'.next 1 L.length (ints (szs (ordSq L))) (.slice A' L.length L.length)) ∨ (chk L ≠ 0 ∧ ∃ A', v = .tuple #[.slice A' 0 0, .int .i64 (chk L)]) := by
  refine CallsE_enter (En_known (by decide)) (En_f.trans Tryd.func15) rfl ⟨Nat.le_of_ble_eq_true rfl, by decide⟩ fun Q' hQ' => ?_
  simp only [Tryd.f15, go_sem,reduceIte,Nat.reduceEqDiff,Nat.reduceLT]
  refine CallO_f (newCut_spec hG hG3 hhi ht hv hl) (by omega) fun u h1 ph1 hcut => ?_
  have n1 := ph1.next
  rcases hcut with ⟨he, A', hu, hsv⟩ | ⟨he, hu⟩
  · subst hu
    simp only [go_sem,reduceIte,Nat.reduceEqDiff,Nat.reduceLT]
    refine At_alloc i64 zero64 rfl (by omega) fun h2 hn2 => ?_
    have n2 := hn2.next
    have w2 := hn2.var
    rw [cutV_cells] at w2
    have pg2 : Pres h1.next h1 h2 := hn2.pres (Nat.le_refl _)
    try simp only [go_sem,reduceIte,Nat.reduceEqDiff,Nat.reduceLT]
    refine At_storeV (v := cutV A' L.length (wid L) (hei L)) i64 (by simp only [go_sem,reduceIte,Nat.reduceEqDiff,Nat.reduceLT]) (by (simp only [go_sem,reduceIte,Nat.reduceEqDiff,Nat.reduceLT]) <;> rfl) w2 (by rw [size64]; rfl) (by rw [size64]; rfl) rfl (by rw [En_G]; omega) fun h3 hs3 v3 => ?_
    rw [cutV_cells] at v3
    have ph3 : Pres h1.next h1 h3 := pg2.trans (hs3.pres (Nat.le_refl _))
    have n3 : h3.next = h2.next := hs3.next
    have pr3 : Pres h.next h h3 := ph1.trans (ph3.le (by omega))
    have l30 : loadv h3.blks h1.next 0 = some (.slice A' L.length L.length) := v3.load (i := 0) (by simp only [List.length_cons, List.length_nil]; omega)
    have l31 : loadv h3.blks h1.next 1 = some (.int .i64 (wid L)) := v3.load (i := 1) (by simp only [List.length_cons, List.length_nil]; omega)
    have l32 : loadv h3.blks h1.next 2 = some (.int .i64 (hei L)) := v3.load (i := 2) (by simp only [List.length_cons, List.length_nil]; omega)
    have hol : (ordSq L).length = L.length := ordSq_perm.length_eq
    have hs3' := hsv.mono (B' := h3.blks) fun b hb hb2 => ph3.get b hb2
    rw [← hol] at hs3' l30
    simp only [go_sem,reduceIte,Nat.reduceEqDiff,Nat.reduceLT, fld64_0, Nat.add_zero, load22, l30]
    refine CallO_f (sizesOf_spec (by omega) (by omega) hs3' (by omega)) (by omega) fun u h4 ph4 ⟨A4, hu, hs4⟩ => ?_
    subst hu
    rw [hol] at hs4 ⊢
    simp only [go_sem,reduceIte,Nat.reduceEqDiff,Nat.reduceLT]
    exact hQ' _ _ ⟨pr3.trans (ph4.le (by omega)), .inl ⟨he, A4, rfl, hs4.wide (by omega) (Nat.le_refl _)⟩⟩
  · subst hu
    simp only [go_sem,reduceIte,Nat.reduceEqDiff,Nat.reduceLT]
    refine At_alloc i64 zero64 rfl (by omega) fun h2 hn2 => ?_
    have n2 := hn2.next
    have w2 := hn2.var
    rw [cutV_cells] at w2
    have pg2 : Pres h1.next h1 h2 := hn2.pres (Nat.le_refl _)
    try simp only [go_sem,reduceIte,Nat.reduceEqDiff,Nat.reduceLT]
    refine At_storeV (v := cutV none 0 0 0) i64 (by simp only [go_sem,reduceIte,Nat.reduceEqDiff,Nat.reduceLT]) (by (simp only [go_sem,reduceIte,Nat.reduceEqDiff,Nat.reduceLT]) <;> rfl) w2 (by rw [size64]; rfl) (by rw [size64]; rfl) rfl (by rw [En_G]; omega) fun h3 hs3 v3 => ?_
    rw [cutV_cells] at v3
    have ph3 : Pres h1.next h1 h3 := pg2.trans (hs3.pres (Nat.le_refl _))
    have n3 : h3.next = h2.next := hs3.next
    have pr3 : Pres h.next h h3 := ph1.trans (ph3.le (by omega))
    have l30 : loadv h3.blks h1.next 0 = some (.slice none 0 0) := v3.load (i := 0) (by simp only [List.length_cons, List.length_nil]; omega)
    have l31 : loadv h3.blks h1.next 1 = some (.int .i64 0) := v3.load (i := 1) (by simp only [List.length_cons, List.length_nil]; omega)
    have l32 : loadv h3.blks h1.next 2 = some (.int .i64 0) := v3.load (i := 2) (by simp only [List.length_cons, List.length_nil]; omega)
    simp only [go_sem,reduceIte,Nat.reduceEqDiff,Nat.reduceLT, fld64_0, Nat.add_zero, load22, l30]
    refine CallO_f (sizesOf_spec (lo := 0) (hi := 0) (L := []) (by omega) (by omega) (.nil rfl rfl) (by decide)) (by omega) fun u h4 ph4 ⟨A4, hu, hs4⟩ => ?_
    subst hu
    simp only [go_sem,reduceIte,Nat.reduceEqDiff,Nat.reduceLT]
    exact hQ' _ _ ⟨pr3.trans (ph4.le (by omega)), .inr ⟨he, A4, rfl⟩⟩

/-- what has been seen: bools by sizes -/
abbrev seenL (p : Nat → Bool) : List Value := boolsL 1001 p
theorem zero67 : inf67.zero = some (.agg (seenL fun _ => false).toArray) := by kernel_rfl
theorem seen_set {k : Nat} {p : Nat → Bool} (hk : k < 1001) : (seenL p).take k ++ [.bool true] ++ (seenL p).drop (k + 1) = seenL fun r => if r = k then true else p r := boolsL_set hk
def sn (T : List Sq) (r : Nat) : Bool := T.any fun q => decide (q.2.2 = (r : Int))
theorem sn_iff {T : List Sq} {r : Nat} : sn T r = true ↔ ∃ a ∈ T, a.2.2 = (r : Int) := by simp [sn]
theorem prf_snoc {L : List Sq} {q : Sq} : prf (L ++ [q]) ↔ prf L ∧ ∀ a ∈ L, a.2.2 ≠ q.2.2 := by
  unfold prf
  rw [List.map_append, List.nodup_append]
  constructor
  · rintro ⟨h1, _, h3⟩
    exact ⟨h1, fun a ha => h3 _ (List.mem_map_of_mem ha) _ (by simp)⟩
  · rintro ⟨h1, h2⟩
    refine ⟨h1, by simp, fun x hx y hy => ?_⟩
    obtain ⟨a, ha, rfl⟩ := List.mem_map.1 hx
    simp at hy
    subst hy
    exact h2 a ha
theorem prf_take {L : List Sq} {i : Nat} (h : prf L) : prf (L.take i) := by
  unfold prf at *
  rw [List.map_take]
  exact h.sublist (List.take_sublist _ _)
set_option maxRecDepth 100000 in
set_option maxHeartbeats 16000000 in
theorem Perfect_spec {G lo hi c : Nat} {L : List Sq} {A : Option Addr} {h : H} (hG : G ≤ h.next) (hG3 : 3 ≤ G) (hhi : hi ≤ h.next) (ht : TabsIn tabs h.blks) (hv : SlV h.blks lo hi 3 L.length (sqc L) (.slice A L.length c)) (hl : L.length ≤ 1000) :
    Spec Tryd.prog (En G) 16 [.slice A L.length c] h fun v _ => (chk L = 0 ∧ ∃ r, v = .tuple #[.bool r, .int .i64 0] ∧ (r = true ↔ prf L)) ∨ (chk L ≠ 0 ∧ v = .tuple #[.bool false, .int .i64 (chk L)]) := by
  refine CallsE_enter (En_known (by decide)) (En_f.trans Tryd.func16) rfl ⟨Nat.le_of_ble_eq_true rfl, by decide⟩ fun Q' hQ' => ?_
  simp only [Tryd.f16, go_sem,reduceIte,Nat.reduceEqDiff,Nat.reduceLT]
  refine CallO_f (newCut_spec hG hG3 hhi ht hv hl) (by omega) fun u h1 ph1 hcut => ?_
  have n1 := ph1.next
  rcases hcut with ⟨he, A', hu, hsv⟩ | ⟨he, hu⟩
  · subst hu
    simp only [go_sem,reduceIte,Nat.reduceEqDiff,Nat.reduceLT]
    refine At_alloc i64 zero64 rfl (by omega) fun h2 hn2 => ?_
    have n2 := hn2.next
    have w2 := hn2.var
    rw [cutV_cells] at w2
    have pg2 : Pres h1.next h1 h2 := hn2.pres (Nat.le_refl _)
    try simp only [go_sem,reduceIte,Nat.reduceEqDiff,Nat.reduceLT]
    refine At_storeV (v := cutV A' L.length (wid L) (hei L)) i64 (by simp only [go_sem,reduceIte,Nat.reduceEqDiff,Nat.reduceLT]) (by (simp only [go_sem,reduceIte,Nat.reduceEqDiff,Nat.reduceLT]) <;> rfl) w2 (by rw [size64]; rfl) (by rw [size64]; rfl) rfl (by rw [En_G]; omega) fun h3 hs3 v3 => ?_
    rw [cutV_cells] at v3
    have ph3 : Pres h1.next h1 h3 := pg2.trans (hs3.pres (Nat.le_refl _))
    have n3 : h3.next = h2.next := hs3.next
    have pr3 : Pres h.next h h3 := ph1.trans (ph3.le (by omega))
    have l30 : loadv h3.blks h1.next 0 = some (.slice A' L.length L.length) := v3.load (i := 0) (by simp only [List.length_cons, List.length_nil]; omega)
    have l31 : loadv h3.blks h1.next 1 = some (.int .i64 (wid L)) := v3.load (i := 1) (by simp only [List.length_cons, List.length_nil]; omega)
    have l32 : loadv h3.blks h1.next 2 = some (.int .i64 (hei L)) := v3.load (i := 2) (by simp only [List.length_cons, List.length_nil]; omega)
    have hol : (ordSq L).length = L.length := ordSq_perm.length_eq
    have hs3' := hsv.mono (B' := h3.blks) fun b hb hb2 => ph3.get b hb2
    obtain ⟨_, hokL, _⟩ := chk_zero he
    have hok : ∀ q ∈ ordSq L, okSq q := fun q hq => hokL q (ordSq_perm.mem_iff.1 hq)
    have hpr : prf (ordSq L) ↔ prf L := prf_perm ordSq_perm
    rw [← hol] at hs3' l30
    have fin : ∀ r h', Pres h.next h h' → (r = true ↔ prf (ordSq L)) → Q' (.tuple #[.bool r, .int .i64 0]) h' := fun r h' hp hr => hQ' _ _ ⟨hp, .inl ⟨he, r, rfl, hr.trans hpr⟩⟩
    clear hQ'
    generalize ordSq L = M at *
    have k0 : decide ((0 : Int) ≠ 0) = false := rfl
    simp only [go_sem,reduceIte,Nat.reduceEqDiff,Nat.reduceLT, k0]
    refine At_alloc i67 zero67 rfl (by omega) fun h4 hn4 => ?_
    have n4 := hn4.next
    have v4 := hn4.var
    have e4c : (Value.agg (seenL fun _ => false).toArray).cells.toList = seenL fun _ => false := rfl
    rw [e4c] at v4
    have ph4 : Pres h3.next h3 h4 := hn4.pres (Nat.le_refl _)
    have l40 : loadv h4.blks h1.next 0 = some (.slice A' M.length M.length) := by
      unfold loadv at l30 ⊢
      rw [ph4.get _ (by omega)]; exact l30
    simp only [go_sem,reduceIte,Nat.reduceEqDiff,Nat.reduceLT, fld64_0, Nat.add_zero, load22, l40, len22]
    refine WK_loopN (fun j α h5 => ∃ i : Nat, i + j = M.length ∧ Pres h3.next h3 h5 ∧ h4.next ≤ h5.next ∧ prf (M.take i) ∧ Var h5.blks h3.next (seenL (sn (M.take i))) ∧ α.get 6 = some (.pointer (some ⟨h3.next, 0, none⟩)) ∧ α.get 18 = some (.slice A' M.length M.length) ∧ α.get 19 = some (.int .i64 M.length) ∧ α.get 20 = some (.int .i64 i)) M.length
      ⟨0, by omega, ph4, Nat.le_refl _, by simp [prf], by
        have e : seenL (sn (M.take 0)) = seenL fun _ => false := boolsL_congr fun k _ => by simp [sn]
        rw [e]; exact v4, by (simp only [go_sem,reduceIte,Nat.reduceEqDiff,Nat.reduceLT]) <;> rfl, by simp only [go_sem,reduceIte,Nat.reduceEqDiff,Nat.reduceLT], by (simp only [go_sem,reduceIte,Nat.reduceEqDiff,Nat.reduceLT]) <;> rfl, by (simp only [go_sem,reduceIte,Nat.reduceEqDiff,Nat.reduceLT]) <;> rfl⟩ (by omega) ?_
    rintro J j α h5 ⟨i, hij, pr5, nx5, hpf, vs, e6, e18, e19, e20⟩ hJ
    by_cases hlt : (i : Int) < (M.length : Int)
    · obtain ⟨q, hq⟩ : ∃ q, M[i]? = some q := ⟨_, List.getElem?_eq_getElem (show i < M.length by omega)⟩
      have hqo := hok q (List.mem_of_getElem? hq)
      have hv5 := hs3'.mono (B' := h5.blks) fun b _ hb => pr5.get b (by omega)
      obtain ⟨bA, oA, rfl, _, _, _⟩ := hv5.at_ (by omega)
      obtain ⟨la, _, _, _⟩ := hv5.sq_at (G := G) hq rfl
      simp (disch := omega) only [go_sem,reduceIte,Nat.reduceEqDiff,Nat.reduceLT, e6, e18, e19, e20, hlt, idxA22, Int.toNat_natCast, la]
      refine At_alloc i61 zero61 rfl (by omega) fun h6 hnh6 => ?_
      have nh6 := hnh6.next
      have wh6 := hnh6.var
      have ph6 : Pres h5.next h5 h6 := hnh6.pres (Nat.le_refl _)
      try simp only [go_sem,reduceIte,Nat.reduceEqDiff,Nat.reduceLT]
      refine At_storeV (v := sqv q) i61 (by simp only [go_sem,reduceIte,Nat.reduceEqDiff,Nat.reduceLT]) (by (simp only [go_sem,reduceIte,Nat.reduceEqDiff,Nat.reduceLT]) <;> rfl) wh6 (by rw [size61]; rfl) (by rw [size61]; rfl) rfl (by rw [En_G]; omega) fun h7 hsh7 vh7 => ?_
      rw [sqv_cells] at vh7
      have ph7 : Pres h5.next h5 h7 := ph6.trans (hsh7.pres (Nat.le_refl _))
      have nh7 : h7.next = h6.next := hsh7.next
      obtain ⟨vh70, vh71, vh72⟩ := vh7.sq
      have pr7 : Pres h3.next h3 h7 := pr5.trans (ph7.le (by omega))
      have vs7 := vs.mono (B' := h7.blks) (ph7.get _ (by omega))
      obtain ⟨s, hs⟩ : ∃ s : Nat, q.2.2 = (s : Int) := ⟨q.2.2.toNat, by have := hqo.1; omega⟩
      have hs1 : s < 1001 := by have := hqo.2.1; omega
      have lseen : loadv h7.blks h3.next s = some (.bool (sn (M.take i) s)) := by
        rw [vs7.load (i := s) (by rw [boolsL_len]; exact hs1)]
        exact boolsL_get hs1
      by_cases hsn : sn (M.take i) s = true
      · rw [hsn] at lseen
        simp (disch := omega) only [go_sem,reduceIte,Nat.reduceEqDiff,Nat.reduceLT, e6, fld61_2, load3, Nat.zero_add, vh72, hs, idxP67, Int.toNat_natCast, Nat.mul_one, load4, lseen]
        refine fin false _ (pr3.trans (pr7.le (by omega))) ⟨(fun e => by cases e), fun hp => ?_⟩
        have h9 := prf_take (i := i + 1) hp
        rw [take_snoc hq, prf_snoc] at h9
        obtain ⟨a, ha, hae⟩ := sn_iff.1 hsn
        exact absurd (hae.trans hs.symm) (h9.2 a ha)
      · rw [Bool.eq_false_iff.2 hsn] at lseen
        simp (disch := omega) only [go_sem,reduceIte,Nat.reduceEqDiff,Nat.reduceLT, e6, fld61_2, load3, Nat.zero_add, vh72, hs, idxP67, Int.toNat_natCast, Nat.mul_one, load4, lseen]
        refine At_store (inf := inf4) (b := h3.next) (off := s) (v := .bool true) i4 (by simp only [go_sem,reduceIte,Nat.reduceEqDiff,Nat.reduceLT]) (by (simp only [go_sem,reduceIte,Nat.reduceEqDiff,Nat.reduceLT]) <;> rfl) (by rw [size4]; rfl) rfl vs7.choose_spec.choose_spec.1 (by rw [size4, boolsL_len]; omega) (by rw [En_G]; omega) fun h8 hs8 => ?_
        have n8 := hs8.next
        have vs8 := hs8.varAt vs7 (by rw [boolsL_len]; show s + 1 ≤ 1001; omega)
        have e1 : (Value.bool true).cells.toList = [.bool true] := rfl
        rw [e1, List.length_singleton, seen_set hs1] at vs8
        have e2 : (seenL fun r => if r = s then true else sn (M.take i) r) = seenL (sn (M.take (i + 1))) := boolsL_congr fun k _ => by
          rw [take_snoc hq]
          unfold sn
          rw [List.any_append]
          by_cases hk : k = s
          · subst hk
            simp [hs]
          · have : ¬ q.2.2 = (k : Int) := by omega
            simp [hk, this]
        rw [e2] at vs8
        have pr8 : Pres h3.next h3 h8 := pr7.trans (hs8.pres (Nat.le_refl _))
        simp (disch := omega) only [go_sem,reduceIte,Nat.reduceEqDiff,Nat.reduceLT, e20, wrap_i64]
        refine hJ (M.length - (i + 1)) _ _ (by omega) ⟨i + 1, by omega, pr8, by omega, ?_, vs8, by simp only [go_sem,reduceIte,Nat.reduceEqDiff,Nat.reduceLT, e6], by simp only [go_sem,reduceIte,Nat.reduceEqDiff,Nat.reduceLT, e18], by simp only [go_sem,reduceIte,Nat.reduceEqDiff,Nat.reduceLT, e19], by (simp only [go_sem,reduceIte,Nat.reduceEqDiff,Nat.reduceLT]) <;> rfl⟩
        rw [take_snoc hq, prf_snoc]
        exact ⟨hpf, fun a ha hae => hsn (sn_iff.2 ⟨a, ha, hae.trans hs⟩)⟩
    · obtain rfl : i = M.length := by omega
      rw [List.take_length] at hpf
      simp (disch := omega) only [go_sem,reduceIte,Nat.reduceEqDiff,Nat.reduceLT, e6, e18, e19, e20, hlt]
      exact fin true _ (pr3.trans (pr5.le (by omega))) ⟨fun _ => hpf, fun _ => rfl⟩
  · subst hu
    simp only [go_sem,reduceIte,Nat.reduceEqDiff,Nat.reduceLT]
    refine At_alloc i64 zero64 rfl (by omega) fun h2 hn2 => ?_
    have n2 := hn2.next
    have w2 := hn2.var
    rw [cutV_cells] at w2
    have pg2 : Pres h1.next h1 h2 := hn2.pres (Nat.le_refl _)
    try simp only [go_sem,reduceIte,Nat.reduceEqDiff,Nat.reduceLT]
    refine At_storeV (v := cutV none 0 0 0) i64 (by simp only [go_sem,reduceIte,Nat.reduceEqDiff,Nat.reduceLT]) (by (simp only [go_sem,reduceIte,Nat.reduceEqDiff,Nat.reduceLT]) <;> rfl) w2 (by rw [size64]; rfl) (by rw [size64]; rfl) rfl (by rw [En_G]; omega) fun h3 hs3 v3 => ?_
    rw [cutV_cells] at v3
    have ph3 : Pres h1.next h1 h3 := pg2.trans (hs3.pres (Nat.le_refl _))
    have n3 : h3.next = h2.next := hs3.next
    have pr3 : Pres h.next h h3 := ph1.trans (ph3.le (by omega))
    have l30 : loadv h3.blks h1.next 0 = some (.slice none 0 0) := v3.load (i := 0) (by simp only [List.length_cons, List.length_nil]; omega)
    have l31 : loadv h3.blks h1.next 1 = some (.int .i64 0) := v3.load (i := 1) (by simp only [List.length_cons, List.length_nil]; omega)
    have l32 : loadv h3.blks h1.next 2 = some (.int .i64 0) := v3.load (i := 2) (by simp only [List.length_cons, List.length_nil]; omega)
    have k0 : decide (chk L ≠ 0) = true := decide_eq_true he
    simp only [go_sem,reduceIte,Nat.reduceEqDiff,Nat.reduceLT, k0]
    exact hQ' _ _ ⟨pr3, .inr ⟨he, rfl⟩⟩
end
end Go.Proofs.YtnhbkoeomefkdaaDoor.Ev

