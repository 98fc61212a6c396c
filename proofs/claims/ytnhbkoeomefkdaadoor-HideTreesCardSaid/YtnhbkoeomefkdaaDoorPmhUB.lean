/- The line on which an edge begins: a closure, and the first index at which it says yes. -/
import Derived.Test.YtnhbkoeomefkdaaDoorPmhUA
set_option linter.unusedVariables false
set_option linter.unusedSimpArgs false
namespace Go.Proofs.YtnhbkoeomefkdaaDoor.Ev.L
open Go Go.Proofs Go.Proofs.YtnhbkoeomefkdaaDoor.Ev
noncomputable section

section
variable {P : Program} {E : Env} {n : Nat} {ops : List Oper} {q : Bool} {r tl : List Oper} {k : List Frm} {α : Tr Value} {h : H} {R : Rt} {d : Nat}
/-- a call of a function with what it has captured -/
theorem CallO_cap {g : FuncId} {fs cs : Array Value} {vs : List Value} {Q : Value → H → Prop} (hs : Spec P E g (fs.toList ++ vs ++ cs.toList) h Q) (hd : d < n) (hk : ∀ v h', Pres h.next h h' → Q v h' → At P E n ops false r tl k (Tr.put α d v) h' R) :
    CallO P E n ops false r tl k α h R (some d) (some (.func (.func g) fs cs)) (some vs) := by
  unfold CallO
  refine CallsE.mono hs fun v h' hq => ?_
  rw [HeapO_some hd]
  exact ⟨fun e => (by cases e), hk v h' hq.1 hq.2⟩
end

/-- the place from x to x + 1 at the height y lies on the line -/
def onL (l : Sq) (x y : Int) : Prop := l.1 = y ∧ l.2.1 ≤ x ∧ x < l.2.2
instance {l : Sq} {x y : Int} : Decidable (onL l x y) := by unfold onL; infer_instance

set_option maxRecDepth 100000 in
set_option maxHeartbeats 16000000 in
theorem at1_spec {G bx bY : Nat} {l : Sq} {x y : Int} {h : H} (hG : G ≤ h.next) (hx : Var h.blks bx [.int .i64 x]) (hy : Var h.blks bY [.int .i64 y]) (hbx : bx < h.next) (hby : bY < h.next) :
    Spec Tryd.prog (En G) 84 [sqv l, .pointer (some ⟨bY, 0, none⟩), .pointer (some ⟨bx, 0, none⟩)] h fun v h' => v = .bool (decide (onL l x y)) := by
  refine CallsE_enter (En_known (by decide)) (En_f.trans Tryd.func84) rfl ⟨Nat.le_of_ble_eq_true rfl, by decide⟩ fun Q' hQ' => ?_
  simp only [Tryd.f84, go_sem,reduceIte,Nat.reduceEqDiff,Nat.reduceLT]
  refine At_box (v := sqv l) (by (simp only [go_sem,reduceIte,Nat.reduceEqDiff,Nat.reduceLT]) <;> rfl) (by omega) fun h1 hn1 => ?_
  have v1 := hn1.var
  rw [sqv_cells] at v1
  have n1 := hn1.next
  have pr1 : Pres h.next h h1 := hn1.pres (Nat.le_refl _)
  obtain ⟨q0, q1, q2⟩ := v1.sq
  have ly : loadv h1.blks bY 0 = some (.int .i64 y) := by rw [loadv_eq (pr1.get _ hby)]; exact hy.load (i := 0) (by simp)
  have lx : loadv h1.blks bx 0 = some (.int .i64 x) := by rw [loadv_eq (pr1.get _ hbx)]; exact hx.load (i := 0) (by simp)
  have fin : ∀ b : Bool, b = decide (onL l x y) → (Pres h.next h h1 ∧ (Value.bool b) = .bool (decide (onL l x y))) := fun b hb => ⟨pr1, by rw [hb]⟩
  by_cases c1 : l.1 = y
  · have d1 : decide (l.1 = y) = true := decide_eq_true c1
    by_cases c2 : l.2.1 ≤ x
    · by_cases c3 : x < l.2.2
      · simp (maxSteps := 3000000) (disch := omega) only [go_sem,reduceIte,Nat.reduceEqDiff,Nat.reduceLT, fld100_0, fld100_1, fld100_2, Nat.zero_add, load3, q0, q1, q2, lx, ly, d1, c2, c3]
        exact hQ' _ _ (fin _ (decide_eq_true ⟨c1, c2, c3⟩).symm)
      · simp (maxSteps := 3000000) (disch := omega) only [go_sem,reduceIte,Nat.reduceEqDiff,Nat.reduceLT, fld100_0, fld100_1, fld100_2, Nat.zero_add, load3, q0, q1, q2, lx, ly, d1, c2, c3]
        exact hQ' _ _ (fin _ (decide_eq_false fun g => c3 g.2.2).symm)
    · simp (maxSteps := 3000000) (disch := omega) only [go_sem,reduceIte,Nat.reduceEqDiff,Nat.reduceLT, fld100_0, fld100_1, fld100_2, Nat.zero_add, load3, q0, q1, q2, lx, ly, d1, c2]
      exact hQ' _ _ (fin _ (decide_eq_false fun g => c2 g.2.1).symm)
  · have d1 : decide (l.1 = y) = false := decide_eq_false c1
    simp (maxSteps := 3000000) (disch := omega) only [go_sem,reduceIte,Nat.reduceEqDiff,Nat.reduceLT, fld100_0, fld100_1, fld100_2, Nat.zero_add, load3, q0, q1, q2, lx, ly, d1]
    exact hQ' _ _ (fin _ (decide_eq_false fun g => c1 g.1).symm)

set_option maxRecDepth 100000 in
set_option maxHeartbeats 16000000 in
theorem idx_spec {G bx bY lo hi c i : Nat} {A : Option Addr} {L : List Sq} {q : Sq} {x y : Int} {h : H} (hG : G ≤ h.next) (hx : Var h.blks bx [.int .i64 x]) (hy : Var h.blks bY [.int .i64 y]) (hbx : bx < h.next) (hby : bY < h.next) (hhi : hi ≤ h.next)
    (hv : SlV h.blks lo hi 3 L.length (sqc L) (.slice A L.length c)) (hl : L.length ≤ 1000) (hq : L[i]? = some q) (hon : onL q x y) (hun : ∀ (j : Nat) (p : Sq), L[j]? = some p → onL p x y → j = i) :
    Spec Tryd.prog (En G) 83 [.slice A L.length c, .func (.func 84) #[] #[.pointer (some ⟨bY, 0, none⟩), .pointer (some ⟨bx, 0, none⟩)]] h fun v h' => v = .int .i64 (i : Int) := by
  have hi' : i < L.length := (List.getElem?_eq_some_iff.1 hq).1
  obtain ⟨b, off, rfl, _, _, _⟩ := hv.at_ (by omega)
  refine CallsE_enter (En_known (by decide)) (En_f.trans Tryd.func83) rfl ⟨Nat.le_of_ble_eq_true rfl, by decide⟩ fun Q' hQ' => ?_
  simp (maxSteps := 3000000) (disch := omega) only [Tryd.f83, go_sem,reduceIte,Nat.reduceEqDiff,Nat.reduceLT, len77]
  refine WK_loopN (fun j α h2 => ∃ k : Nat, k + j = i ∧ Pres h.next h h2 ∧ α.get 0 = some (.slice (some ⟨b, off, none⟩) L.length c) ∧ α.get 1 = some (.func (.func 84) #[] #[.pointer (some ⟨bY, 0, none⟩), .pointer (some ⟨bx, 0, none⟩)]) ∧ α.get 7 = some (.int .i64 (L.length : Int)) ∧ α.get 8 = some (.int .i64 (k : Int))) i
    ⟨0, by omega, Pres.refl _ _, by simp only [go_sem,reduceIte,Nat.reduceEqDiff,Nat.reduceLT], by simp only [go_sem,reduceIte,Nat.reduceEqDiff,Nat.reduceLT], by simp only [go_sem,reduceIte,Nat.reduceEqDiff,Nat.reduceLT], by (simp only [go_sem,reduceIte,Nat.reduceEqDiff,Nat.reduceLT]) <;> rfl⟩ (by omega) ?_
  rintro J j α h2 ⟨k, hkj, pr, e0, e1, e7, e8⟩ hJ
  have n2 := pr.next
  have hlt : (k : Int) < (L.length : Int) := by omega
  obtain ⟨p, hp⟩ : ∃ p, L[k]? = some p := ⟨_, List.getElem?_eq_getElem (show k < L.length by omega)⟩
  have hv2 := hv.mono (B' := h2.blks) fun b _ hb => pr.get b (by omega)
  have la := ln_at (G := G) agg100 i100 size100 hv2 hp rfl
  simp (maxSteps := 3000000) (disch := omega) only [go_sem,reduceIte,Nat.reduceEqDiff,Nat.reduceLT, e0, e1, e7, e8, hlt, idxA77, Int.toNat_natCast, la]
  refine CallO_cap (at1_spec (l := p) (x := x) (y := y) (bx := bx) (bY := bY) (by omega) (hx.mono (pr.get _ hbx)) (hy.mono (pr.get _ hby)) (by omega) (by omega)) (by omega) fun v h3 pr3 hvv => ?_
  subst hvv
  by_cases c : onL p x y
  · obtain rfl := hun k p hp c
    have dc : decide (onL p x y) = true := decide_eq_true c
    simp (maxSteps := 3000000) (disch := omega) only [go_sem,reduceIte,Nat.reduceEqDiff,Nat.reduceLT, e0, e1, e7, e8, dc]
    exact hQ' _ _ ⟨pr.trans (pr3.le (by omega)), rfl⟩
  · have hne : k ≠ i := fun e => by
      subst e
      rw [hp] at hq
      cases hq
      exact c hon
    have dc : decide (onL p x y) = false := decide_eq_false c
    simp (maxSteps := 3000000) (disch := omega) only [go_sem,reduceIte,Nat.reduceEqDiff,Nat.reduceLT, e0, e1, e7, e8, dc, wrap_i64]
    exact hJ (j - 1) _ _ (by omega) ⟨k + 1, by omega, pr.trans (pr3.le (by omega)), by simp only [go_sem,reduceIte,Nat.reduceEqDiff,Nat.reduceLT, e0], by simp only [go_sem,reduceIte,Nat.reduceEqDiff,Nat.reduceLT, e1], by simp only [go_sem,reduceIte,Nat.reduceEqDiff,Nat.reduceLT, e7], by (simp only [go_sem,reduceIte,Nat.reduceEqDiff,Nat.reduceLT]) <;> rfl⟩

set_option maxRecDepth 100000 in
set_option maxHeartbeats 16000000 in
theorem lineAt_spec {G lo hi c i : Nat} {A : Option Addr} {L : List Sq} {q : Sq} {x y : Int} {h : H} (hG : G ≤ h.next) (hhi : hi ≤ h.next)
    (hv : SlV h.blks lo hi 3 L.length (sqc L) (.slice A L.length c)) (hl : L.length ≤ 1000) (hq : L[i]? = some q) (hon : onL q x y) (hun : ∀ (j : Nat) (p : Sq), L[j]? = some p → onL p x y → j = i) :
    Spec Tryd.prog (En G) 69 [.slice A L.length c, .int .i64 x, .int .i64 y] h fun v h' => v = .int .i64 (i : Int) := by
  refine CallsE_enter (En_known (by decide)) (En_f.trans Tryd.func69) rfl ⟨Nat.le_of_ble_eq_true rfl, by decide⟩ fun Q' hQ' => ?_
  simp only [Tryd.f69, go_sem,reduceIte,Nat.reduceEqDiff,Nat.reduceLT]
  refine At_box (v := .int .i64 x) (by (simp only [go_sem,reduceIte,Nat.reduceEqDiff,Nat.reduceLT]) <;> rfl) (by omega) fun h1 hn1 => ?_
  have v1 := hn1.var
  have n1 := hn1.next
  have pr1 : Pres h.next h h1 := hn1.pres (Nat.le_refl _)
  try simp only [go_sem,reduceIte,Nat.reduceEqDiff,Nat.reduceLT]
  refine At_box (v := .int .i64 y) (by (simp only [go_sem,reduceIte,Nat.reduceEqDiff,Nat.reduceLT]) <;> rfl) (by omega) fun h2 hn2 => ?_
  have v2 := hn2.var
  have n2 := hn2.next
  have pr2 : Pres h1.next h1 h2 := hn2.pres (Nat.le_refl _)
  simp (maxSteps := 3000000) (disch := omega) only [go_sem,reduceIte,Nat.reduceEqDiff,Nat.reduceLT]
  refine CallO_f (idx_spec (bx := h.next) (bY := h1.next) (i := i) (q := q) (x := x) (y := y) (by omega) (v1.mono (pr2.get _ (by omega))) v2 (by omega) (by omega) (by omega) (hv.mono fun b _ hb => by rw [pr2.get b (by omega), pr1.get b (by omega)]) hl hq hon hun) (by omega) fun v h3 pr3 hvv => ?_
  subst hvv
  simp (maxSteps := 3000000) (disch := omega) only [go_sem,reduceIte,Nat.reduceEqDiff,Nat.reduceLT]
  exact hQ' _ _ ⟨pr1.trans ((pr2.le (by omega)).trans (pr3.le (by omega))), rfl⟩
end
end Go.Proofs.YtnhbkoeomefkdaaDoor.Ev.L

/- Wires: pairs of lines. Network. -/
set_option linter.unusedVariables false
set_option linter.unusedSimpArgs false
namespace Go.Proofs.YtnhbkoeomefkdaaDoor.Ev.L
open Go Go.Proofs Go.Proofs.YtnhbkoeomefkdaaDoor.Ev
noncomputable section

/- pairs in memory -/
abbrev Pr := Int × Int
def prv (p : Pr) : Value := .agg #[.int .i64 p.1, .int .i64 p.2]
def prl (p : Pr) : List Value := [.int .i64 p.1, .int .i64 p.2]
def prc (L : List Pr) : List Value := L.flatMap prl
theorem prc_app {L M : List Pr} : prc (L ++ M) = prc L ++ prc M := by simp [prc]
theorem prc_one {L : List Pr} : (prc L).all oneB = true := by
  refine List.all_eq_true.2 fun v hv => ?_
  obtain ⟨q, _, hv⟩ := List.mem_flatMap.1 hv
  simp only [prl, List.mem_cons, List.not_mem_nil, or_false] at hv
  rcases hv with rfl | rfl <;> rfl
theorem zero51 : inf51.zero = some (prv (0, 0)) := by kernel_rfl
theorem us51 {G : Nat} : (En G).u 51 = Tryd.prog.underlying 51 := En_u.trans (envOf_u (by decide))
theorem build51 {G : Nat} {a b : Int} : buildO (En G) 51 (some [(0, .int .i64 a), (1, .int .i64 b)]) = some (prv (a, b)) := by
  have hu : (En G).u 51 = _ := us51.trans Tryd.underlying51
  simp only [buildO, evBuild, i51, hu, zero51, places, i3, size3]
  rfl
/- on which line -/
def lnAt (Ls : List Sq) (x y : Int) : Nat := Ls.findIdx fun l => decide (onL l x y)
theorem lnAt_of {Ls : List Sq} {x y : Int} {i : Nat} {q : Sq} (hq : Ls[i]? = some q) (hon : onL q x y) (hun : ∀ (j : Nat) (p : Sq), Ls[j]? = some p → onL p x y → j = i) : lnAt Ls x y = i := by
  obtain ⟨hi, rfl⟩ := List.getElem?_eq_some_iff.1 hq
  refine (List.findIdx_eq hi).2 ⟨decide_eq_true hon, fun j hj => decide_eq_false fun g => ?_⟩
  have := hun j _ (List.getElem?_eq_getElem (by omega)) g
  omega
def wirs (Ls O : List Sq) : List Pr := O.map fun q => ((lnAt Ls q.1 q.2.1 : Int), (lnAt Ls q.1 (q.2.1 + q.2.2) : Int))
/-- the edge of a square lies on one line -/
def Onto (Ls : List Sq) (q : Sq) (y : Int) : Prop := ∃ (i : Nat) (l : Sq), Ls[i]? = some l ∧ onL l q.1 y ∧ q.1 + q.2.2 ≤ l.2.2 ∧ ∀ (j : Nat) (p : Sq), Ls[j]? = some p → onL p q.1 y → j = i
def Onto2 (Ls : List Sq) (O : List Sq) : Prop := ∀ q ∈ O, Onto Ls q q.2.1 ∧ Onto Ls q (q.2.1 + q.2.2)
theorem onto_of {Ls O : List Sq} (s : Sep Ls) (hc : ∀ y x, cvr Ls y x ↔ cvr (edg O) y x) (hok : ∀ q ∈ O, okSq q) : Onto2 Ls O := fun q hq => by
  have key : ∀ y, (y, q.1, q.1 + q.2.2) ∈ edg O → Onto Ls q y := fun y hy => by
    have hpos := (hok q hq).1
    obtain ⟨i, l, h1, h2, h3, h4, h5⟩ := on_line (L := Ls) (y := y) (f := q.1) (t := q.1 + q.2.2) s (by omega) fun x hx1 hx2 => (hc y x).2 ⟨_, hy, rfl, hx1, hx2⟩
    exact ⟨i, l, h1, ⟨h2, h3, by omega⟩, h4, fun j p hp hon => h5 j p hp hon.1 hon.2.1 hon.2.2⟩
  exact ⟨key _ (List.mem_flatMap.2 ⟨q, hq, by simp⟩), key _ (List.mem_flatMap.2 ⟨q, hq, by simp⟩)⟩
theorem wirs_snoc {Ls O : List Sq} {i : Nat} {q : Sq} (h : O[i]? = some q) : wirs Ls (O.take (i + 1)) = wirs Ls (O.take i) ++ [((lnAt Ls q.1 q.2.1 : Int), (lnAt Ls q.1 (q.2.1 + q.2.2) : Int))] := by
  rw [take_snoc h]
  simp [wirs]
theorem wirs_len {Ls O : List Sq} : (wirs Ls O).length = O.length := by simp [wirs]

set_option maxRecDepth 100000 in
set_option maxHeartbeats 32000000 in
theorem wires_spec {G lo hi lo2 hi2 c : Nat} {O Ls : List Sq} {A B : Option Addr} {W Ht : Int} {h : H} (hG : G ≤ h.next) (hG3 : 3 ≤ G) (hhi : hi ≤ h.next) (hhi2 : hi2 ≤ h.next) (hv : SlV h.blks lo hi 3 O.length (sqc O) (.slice A O.length O.length)) (hw : SlV h.blks lo2 hi2 3 Ls.length (sqc Ls) (.slice B Ls.length c)) (hl : O.length ≤ 24) (hll : Ls.length ≤ 48) (hok : ∀ q ∈ O, okSq q) (hon : Onto2 Ls O) :
    Spec Tryd.prog (En G) 46 [cutV A O.length W Ht, .slice B Ls.length c] h fun v h' => ∃ A', v = .slice A' O.length O.length ∧ SlV h'.blks h.next h'.next 2 O.length (prc (wirs Ls O)) (.slice A' O.length O.length) := by
  refine CallsE_enter (En_known (by decide)) (En_f.trans Tryd.func46) rfl ⟨Nat.le_of_ble_eq_true rfl, by decide⟩ fun Q' hQ' => ?_
  simp only [Tryd.f46, go_sem,reduceIte,Nat.reduceEqDiff,Nat.reduceLT]
  refine At_box (v := cutV A O.length W Ht) (by (simp only [go_sem,reduceIte,Nat.reduceEqDiff,Nat.reduceLT]) <;> rfl) (by omega) fun h1 hn1 => ?_
  have v1 := hn1.var
  rw [cutV_cells] at v1
  have n1 := hn1.next
  have pr1 : Pres h.next h h1 := hn1.pres (Nat.le_refl _)
  have c0 : loadv h1.blks h.next 0 = some (.slice A O.length O.length) := v1.load (i := 0) (by simp only [List.length_cons, List.length_nil]; omega)
  simp (disch := omega) only [go_sem,reduceIte,Nat.reduceEqDiff,Nat.reduceLT, fld64_0, Nat.zero_add, load22, c0, len22]
  refine WK_loopN (fun j α h2 => ∃ (i : Nat) (D : Option Addr), i + j = O.length ∧ Pres h.next h h2 ∧ SlV h2.blks h.next h2.next 2 i (prc (wirs Ls (O.take i))) (.slice D i i) ∧ α.get 1 = some (.slice B Ls.length c) ∧ α.get 5 = some (.slice D i i) ∧ α.get 9 = some (.slice A O.length O.length) ∧ α.get 10 = some (.int .i64 (O.length : Int)) ∧ α.get 11 = some (.int .i64 (i : Int))) O.length
    ⟨0, none, by omega, pr1, .nil rfl rfl, by simp only [go_sem,reduceIte,Nat.reduceEqDiff,Nat.reduceLT], by (simp only [go_sem,reduceIte,Nat.reduceEqDiff,Nat.reduceLT]) <;> rfl, by simp only [go_sem,reduceIte,Nat.reduceEqDiff,Nat.reduceLT], by simp only [go_sem,reduceIte,Nat.reduceEqDiff,Nat.reduceLT], by (simp only [go_sem,reduceIte,Nat.reduceEqDiff,Nat.reduceLT]) <;> rfl⟩ (by omega) ?_
  rintro J j α h2 ⟨i, D, hij, pr, hs, e1, e5, e9, e10, e11⟩ hJ
  have n2 := pr.next
  by_cases hlt : (i : Int) < (O.length : Int)
  · obtain ⟨q, hq⟩ : ∃ q, O[i]? = some q := ⟨_, List.getElem?_eq_getElem (show i < O.length by omega)⟩
    have hqm := List.mem_of_getElem? hq
    obtain ⟨qa1, qa2, ⟨qa3, qa4⟩, qa5, qa6⟩ := hok q hqm
    obtain ⟨⟨i1, l1, a1, a2, _, a3⟩, ⟨i2, l2, b1, b2, _, b3⟩⟩ := hon q hqm
    have hv2 := hv.mono (B' := h2.blks) fun b _ hb => pr.get b (by omega)
    have hw2 := hw.mono (B' := h2.blks) fun b _ hb => pr.get b (by omega)
    obtain ⟨bA, oA, rfl, _, _, _⟩ := hv2.at_ (by omega)
    obtain ⟨la, _, _, _⟩ := hv2.sq_at (G := G) hq rfl
    simp (maxSteps := 3000000) (disch := omega) only [go_sem,reduceIte,Nat.reduceEqDiff,Nat.reduceLT, e1, e5, e9, e10, e11, hlt, idxA22, Int.toNat_natCast, la]
    refine At_alloc i61 Go.Proofs.YtnhbkoeomefkdaaDoor.Ev.zero61 rfl (by omega) fun h3 hn3 => ?_
    have n3 := hn3.next
    have w3 := hn3.var
    rw [sqv_cells] at w3
    have p3 : Pres h2.next h2 h3 := hn3.pres (Nat.le_refl _)
    try simp only [go_sem,reduceIte,Nat.reduceEqDiff,Nat.reduceLT]
    refine At_storeV (v := sqv q) i61 (by simp only [go_sem,reduceIte,Nat.reduceEqDiff,Nat.reduceLT]) (by (simp only [go_sem,reduceIte,Nat.reduceEqDiff,Nat.reduceLT]) <;> rfl) w3 (by rw [size61]; rfl) (by rw [size61]; rfl) rfl (by rw [En_G]; omega) fun h4 hs4 v4 => ?_
    rw [sqv_cells] at v4
    have p4 : Pres h2.next h2 h4 := p3.trans (hs4.pres (Nat.le_refl _))
    have n4 : h4.next = h3.next := hs4.next
    obtain ⟨q0, q1, q2⟩ := v4.sq
    have hw4 := hw2.mono (B' := h4.blks) fun b _ hb => p4.get b (by omega)
    try simp only [go_sem,reduceIte,Nat.reduceEqDiff,Nat.reduceLT]
    refine WK_regionT 15 ⟨by kernel_rfl, by kernel_rfl, by kernel_rfl⟩ ?_
    simp (maxSteps := 3000000) (disch := omega) only [go_sem,reduceIte,Nat.reduceEqDiff,Nat.reduceLT, e1, e5, e9, e10, e11, fld61_0, fld61_1, fld61_2, Nat.zero_add, load3, q0, q1, q2]
    refine CallO_spec (lineAt_spec (h := st true h4) (i := i1) (q := l1) (x := q.1) (y := q.2.1) (by show G ≤ h4.next; omega) (by show hi2 ≤ h4.next; omega) hw4 (by omega) a1 a2 a3) (by omega) (fun v h' wm hq => hq) fun v h5 p5 hv5 => ?_
    subst hv5
    have n5 := p5.next
    have x0 : loadv h5.blks h2.next 0 = some (.int .i64 q.1) := by rw [loadv_eq (p5.get _ (by omega))]; exact q0
    have x1 : loadv h5.blks h2.next 1 = some (.int .i64 q.2.1) := by rw [loadv_eq (p5.get _ (by omega))]; exact q1
    have x2 : loadv h5.blks h2.next 2 = some (.int .i64 q.2.2) := by rw [loadv_eq (p5.get _ (by omega))]; exact q2
    have hw5 := hw4.mono (B' := h5.blks) fun b _ hb => p5.get b (by omega)
    simp (maxSteps := 3000000) (disch := omega) only [go_sem,reduceIte,Nat.reduceEqDiff,Nat.reduceLT, e1, e5, e9, e10, e11, fld61_0, fld61_1, fld61_2, Nat.zero_add, load3, x0, x1, x2, wrap_i64]
    refine CallO_f (lineAt_spec (i := i2) (q := l2) (x := q.1) (y := q.2.1 + q.2.2) (by omega) (by omega) hw5 (by omega) b1 b2 b3) (by omega) fun v h6 p6 hv6 => ?_
    subst hv6
    have n6 := p6.next
    simp (maxSteps := 3000000) (disch := omega) only [go_sem,reduceIte,Nat.reduceEqDiff,Nat.reduceLT, e1, e5, e9, e10, e11, build51]
    refine At_lit (vs := [(0, prv ((i1 : Int), (i2 : Int)))]) (cs := #[.int .i64 (i1 : Int), .int .i64 (i2 : Int)]) u45 i51 zero51 (by rw [size51]; rfl) (by simp only [go_sem,reduceIte,Nat.reduceEqDiff,Nat.reduceLT]) (by rw [size51]; rfl) (by omega) fun h7 hn7 => ?_
    rw [size51] at hn7
    have n7 := hn7.next
    have hsx : SlV h7.blks h6.next h7.next 2 1 (prc [((i1 : Int), (i2 : Int))]) (.slice (some ⟨h6.next, 0, none⟩) 1 1) := hn7.slv rfl
    have hs7 := hs.mono (B' := h7.blks) fun b _ hb => by rw [hn7.get, if_neg (by omega), p6.get b (by omega), p5.get b (by omega), p4.get b (by omega)]
    try simp only [go_sem,reduceIte,Nat.reduceEqDiff,Nat.reduceLT]
    refine At_append2 (lo := h.next) (hi := h2.next) (A := D) (sl := i) (m := 1) (L := prc (wirs Ls (O.take i))) (M := prc [((i1 : Int), (i2 : Int))]) (v := .slice (some ⟨h6.next, 0, none⟩) 1 1) u45 u45 i51 zero51 (by rw [size51, bytes51]; rfl) (by simp only [go_sem,reduceIte,Nat.reduceEqDiff,Nat.reduceLT, e5]) (by rw [size51]; exact hs7) (by omega) (by rw [En_G]; omega) (by omega) (by simp only [go_sem,reduceIte,Nat.reduceEqDiff,Nat.reduceLT]) (by rw [size51]; exact hsx) (by omega) prc_one (by omega) fun D8 h8 pr8 hs8 => ?_
    have hw9 : wirs Ls (O.take (i + 1)) = wirs Ls (O.take i) ++ [((i1 : Int), (i2 : Int))] := by rw [wirs_snoc hq, lnAt_of a1 a2 a3, lnAt_of b1 b2 b3]
    rw [size51, ← prc_app, ← hw9] at hs8
    have n8 := pr8.next
    simp (disch := omega) only [go_sem,reduceIte,Nat.reduceEqDiff,Nat.reduceLT, e1, e9, e10, e11, wrap_i64]
    exact hJ (j - 1) _ _ (by omega) ⟨i + 1, D8, by omega, pr.trans ((p4.le (by omega)).trans ((p5.le (by omega)).trans ((p6.le (by omega)).trans ((hn7.pres (by omega)).trans pr8)))), hs8, by simp only [go_sem,reduceIte,Nat.reduceEqDiff,Nat.reduceLT, e1], by simp only [go_sem,reduceIte,Nat.reduceEqDiff,Nat.reduceLT], by simp only [go_sem,reduceIte,Nat.reduceEqDiff,Nat.reduceLT, e9], by simp only [go_sem,reduceIte,Nat.reduceEqDiff,Nat.reduceLT, e10], by (simp only [go_sem,reduceIte,Nat.reduceEqDiff,Nat.reduceLT]) <;> rfl⟩
  · obtain rfl : i = O.length := by omega
    rw [List.take_length] at hs
    simp (maxSteps := 3000000) (disch := omega) only [go_sem,reduceIte,Nat.reduceEqDiff,Nat.reduceLT, e1, e5, e9, e10, e11, hlt]
    exact hQ' _ _ ⟨pr, D, rfl, hs⟩
end
end Go.Proofs.YtnhbkoeomefkdaaDoor.Ev.L

/- Network. -/
set_option linter.unusedVariables false
set_option linter.unusedSimpArgs false
namespace Go.Proofs.YtnhbkoeomefkdaaDoor.Ev.L
open Go Go.Proofs Go.Proofs.YtnhbkoeomefkdaaDoor.Ev
noncomputable section

set_option maxRecDepth 100000 in
set_option maxHeartbeats 16000000 in
theorem Network_spec {G lo hi c : Nat} {L : List Sq} {A : Option Addr} {h : H} (hG : G ≤ h.next) (hG3 : 3 ≤ G) (hhi : hi ≤ h.next) (ht : TabsIn tabs h.blks) (hv : SlV h.blks lo hi 3 L.length (sqc L) (.slice A L.length c)) (hl : L.length ≤ 1000) :
    Spec Tryd.prog (En G) 26 [.slice A L.length c] h fun v h' => (chk L ≠ 0 ∧ v = .tuple #[.int .i64 0, .slice none 0 0, .int .i64 (chk L)]) ∨ (chk L = 0 ∧ ∃ (Ls : List Sq) (D : Option Addr), v = .tuple #[.int .i64 (Ls.length : Int), .slice D (ordSq L).length (ordSq L).length, .int .i64 0] ∧ Sep Ls ∧ (∀ y x, cvr Ls y x ↔ cvr (edg (ordSq L)) y x) ∧ Ls.length ≤ 2 * (ordSq L).length ∧
      SlV h'.blks h.next h'.next 2 (ordSq L).length (prc (wirs Ls (ordSq L))) (.slice D (ordSq L).length (ordSq L).length)) := by
  refine CallsE_enter (En_known (by decide)) (En_f.trans Tryd.func26) rfl ⟨Nat.le_of_ble_eq_true rfl, by decide⟩ fun Q' hQ' => ?_
  simp only [Tryd.f26, go_sem,reduceIte,Nat.reduceEqDiff,Nat.reduceLT]
  refine CallO_f (newCut_spec hG hG3 hhi ht hv hl) (by omega) fun u h1 ph1 hcut => ?_
  have n1 := ph1.next
  rcases hcut with ⟨he, A', hu, hsv⟩ | ⟨he, hu⟩
  · subst hu
    simp only [go_sem,reduceIte,Nat.reduceEqDiff,Nat.reduceLT]
    refine At_alloc i64 zero64 rfl (by omega) fun h2 hn2 => ?_
    have n2 := hn2.next
    have w2 := hn2.var
    rw [cutV_cells] at w2
    have pg2 : Pres h1.next h1 h2 := hn2.pres (Nat.le_refl _)
    try simp only [go_sem,reduceIte,Nat.reduceEqDiff,Nat.reduceLT]
    refine At_storeV (v := cutV A' L.length (wid L) (hei L)) i64 (by simp only [go_sem,reduceIte,Nat.reduceEqDiff,Nat.reduceLT]) (by (simp only [go_sem,reduceIte,Nat.reduceEqDiff,Nat.reduceLT]) <;> rfl) w2 (by rw [size64]; rfl) (by rw [size64]; rfl) rfl (by rw [En_G]; omega) fun h3 hs3 v3 => ?_
    rw [cutV_cells] at v3
    have ph3 : Pres h1.next h1 h3 := pg2.trans (hs3.pres (Nat.le_refl _))
    have n3 : h3.next = h2.next := hs3.next
    have pr3 : Pres h.next h h3 := ph1.trans (ph3.le (by omega))
    have k0 : decide ((0 : Int) ≠ 0) = false := rfl
    have hcl : loadO (En G) 64 h3.blks (some (.pointer (some ⟨h1.next, 0, none⟩))) = some (cutV A' L.length (wid L) (hei L)) := v3.loadA agg64 i64 size64.symm
    obtain ⟨hl24, hok, hcov⟩ := chk_zero he
    have hok' : ∀ q ∈ ordSq L, okSq q := fun q hq => hok q (ordSq_perm.mem_iff.1 hq)
    have hol : (ordSq L).length = L.length := ordSq_perm.length_eq
    have h0 : 0 < (ordSq L).length := by have := hcov.1; omega
    simp only [go_sem,reduceIte,Nat.reduceEqDiff,Nat.reduceLT, k0, hcl]
    have hsv3 := hsv.mono (B' := h3.blks) fun b _ hb => ph3.get b hb
    rw [← hol] at hsv3 hcl ⊢
    refine CallO_f (lines_spec (by omega) hG3 (by omega) (ht.le pr3 (by omega)) hsv3 h0 (by omega) hok') (by omega) fun u h4 ph4 ⟨Ls, B, cc, hu, hsB, hsep, hcv, hl48⟩ => ?_
    subst hu
    have n4 := ph4.next
    have pr4 : Pres h.next h h4 := pr3.trans (ph4.le (by omega))
    have hcl4 : loadO (En G) 64 h4.blks (some (.pointer (some ⟨h1.next, 0, none⟩))) = some (cutV A' (ordSq L).length (wid L) (hei L)) := by
      have := (v3.mono (ph4.get _ (by omega))).loadA (E := En G) agg64 i64 size64.symm
      rw [hol]
      exact this
    simp only [go_sem,reduceIte,Nat.reduceEqDiff,Nat.reduceLT, hcl4, len77]
    refine CallO_f (wires_spec (by omega) hG3 (by omega) (by omega) (hsv3.mono fun b _ hb => ph4.get b (by omega)) hsB (by omega) (by omega) hok' (onto_of hsep hcv hok')) (by omega) fun u h5 ph5 ⟨D, hu, hsD⟩ => ?_
    subst hu
    have n5 := ph5.next
    simp only [go_sem,reduceIte,Nat.reduceEqDiff,Nat.reduceLT]
    exact hQ' _ _ ⟨pr4.trans (ph5.le (by omega)), .inr ⟨he, Ls, D, rfl, hsep, hcv, hl48, hsD.wide (by omega) (Nat.le_refl _)⟩⟩
  · subst hu
    have kc : decide (chk L ≠ 0) = true := decide_eq_true he
    simp only [go_sem,reduceIte,Nat.reduceEqDiff,Nat.reduceLT]
    refine At_alloc i64 zero64 rfl (by omega) fun h2 hn2 => ?_
    have n2 := hn2.next
    have w2 := hn2.var
    rw [cutV_cells] at w2
    have pg2 : Pres h1.next h1 h2 := hn2.pres (Nat.le_refl _)
    try simp only [go_sem,reduceIte,Nat.reduceEqDiff,Nat.reduceLT]
    refine At_storeV (v := cutV none 0 0 0) i64 (by simp only [go_sem,reduceIte,Nat.reduceEqDiff,Nat.reduceLT]) (by (simp only [go_sem,reduceIte,Nat.reduceEqDiff,Nat.reduceLT]) <;> rfl) w2 (by rw [size64]; rfl) (by rw [size64]; rfl) rfl (by rw [En_G]; omega) fun h3 hs3 v3 => ?_
    have ph3 : Pres h1.next h1 h3 := pg2.trans (hs3.pres (Nat.le_refl _))
    have pr3 : Pres h.next h h3 := ph1.trans (ph3.le (by omega))
    simp only [go_sem,reduceIte,Nat.reduceEqDiff,Nat.reduceLT, kc]
    exact hQ' _ _ ⟨pr3, .inl ⟨he, rfl⟩⟩
end
end Go.Proofs.YtnhbkoeomefkdaaDoor.Ev.L

