/- areSides. -/
import Derived.Test.YtnhbkoeomefkdaaDoorPmhA3
set_option linter.unusedSimpArgs false
set_option linter.unusedVariables false
namespace Go.Proofs.YtnhbkoeomefkdaaDoor.Ev.L
open Go Go.Proofs Go.Proofs.YtnhbkoeomefkdaaDoor.Ev
noncomputable section
def sideOk (z : Int) : Bool := decide (1 ≤ z) && decide (z ≤ 1000)
theorem ints_get {l : List Int} {i : Nat} {z : Int} (h : l[i]? = some z) : (ints l)[i]? = some (.int .i64 z) := by simp [ints, h]

theorem all_step {p : Int → Bool} {zs : List Int} {k : Nat} {z : Int} (h : (zs.take k).all p = true) (hz : zs[k]? = some z) (hp : p z = true) : (zs.take (k + 1)).all p = true := by
  rw [List.take_add_one, hz]; simp [List.all_append, h, hp]
theorem all_fails {p : Int → Bool} {zs : List Int} {k : Nat} {z : Int} (hz : zs[k]? = some z) (hp : p z = false) : zs.all p = false := by
  rw [List.all_eq_false]
  exact ⟨z, List.mem_of_getElem? hz, by simp [hp]⟩

set_option maxHeartbeats 1000000 in
theorem areSides_spec {G lo hi n : Nat} {l : List Int} {v : Value} {h : H} (hv : SlV h.blks lo hi 1 n (ints l) v) (hn : n < 4000000000000000000) :
    Spec Tryd.prog (En G) 43 [v] h fun u _ => u = .bool (l.all sideOk) := by
  obtain ⟨A, c, rfl⟩ := hv.shape
  have hl : l.length = n := by have := hv.len; rw [ints_len] at this; omega
  refine CallsE_enter (En_known (by decide)) (En_f.trans Tryd.func43) rfl ⟨Nat.le_of_ble_eq_true rfl, by decide⟩ fun Q' hQ' => ?_
  simp only [Tryd.f43, go_sem,reduceIte,Nat.reduceEqDiff,Nat.reduceLT, len27]
  refine WK_loopN (fun j α h1 => ∃ k : Nat, k + j = n ∧ h1 = h ∧ α.get 5 = some (.slice A n c) ∧ α.get 6 = some (.int .i64 n) ∧ α.get 7 = some (.int .i64 k) ∧ (l.take k).all sideOk = true) n
    ⟨0, by omega, rfl, by simp only [go_sem,reduceIte,Nat.reduceEqDiff,Nat.reduceLT], by simp only [go_sem,reduceIte,Nat.reduceEqDiff,Nat.reduceLT], by simp only [go_sem,reduceIte,Nat.reduceEqDiff,Nat.reduceLT]; rfl, by simp⟩ (by omega) ?_
  rintro J j α h1 ⟨k, hk, rfl, h5, h6, h7, hall⟩ hJ
  simp only [go_sem,reduceIte,Nat.reduceEqDiff,Nat.reduceLT, h5, h6, h7]
  refine Cond_dec (fun hlt => ?_) (fun hge => ?_)
  · have hkn : k < n := by omega
    obtain ⟨b, off, rfl, _, _, hld⟩ := hv.at_ (by omega)
    obtain ⟨z, hz⟩ : ∃ z, l[k]? = some z := ⟨l[k]'(by omega), List.getElem?_eq_getElem (by omega)⟩
    have hld := hld k (by omega)
    rw [ints_get hz] at hld
    by_cases hlo : z < 1
    · simp (disch := omega) only [go_sem,reduceIte,Nat.reduceEqDiff,Nat.reduceLT, h5, h6, h7, idxA27, load3, Int.toNat_natCast, Nat.mul_one, hld, hlo]
      exact hQ' _ _ ⟨Pres.refl _ _, by rw [all_fails hz (by simp [sideOk]; omega)]⟩
    · by_cases hhi : 1000 < z
      · simp (disch := omega) only [go_sem,reduceIte,Nat.reduceEqDiff,Nat.reduceLT, h5, h6, h7, idxA27, load3, Int.toNat_natCast, Nat.mul_one, hld, hlo, hhi]
        exact hQ' _ _ ⟨Pres.refl _ _, by rw [all_fails hz (by simp [sideOk]; omega)]⟩
      · simp (disch := omega) only [go_sem,reduceIte,Nat.reduceEqDiff,Nat.reduceLT, h5, h6, h7, idxA27, load3, Int.toNat_natCast, Nat.mul_one, hld, hlo, hhi, wrap_i64]
        exact hJ (j - 1) _ _ (by omega) ⟨k + 1, by omega, rfl, by simp only [go_sem,reduceIte,Nat.reduceEqDiff,Nat.reduceLT, h5], by simp only [go_sem,reduceIte,Nat.reduceEqDiff,Nat.reduceLT, h6], by simp only [go_sem,reduceIte,Nat.reduceEqDiff,Nat.reduceLT]; rfl, all_step hall hz (by simp [sideOk]; omega)⟩
  · simp only [go_sem,reduceIte,Nat.reduceEqDiff,Nat.reduceLT, h5, h6, h7]
    exact hQ' _ _ ⟨Pres.refl _ _, by rw [← hall, List.take_of_length_le (by omega)]⟩
end
end Go.Proofs.YtnhbkoeomefkdaaDoor.Ev.L

/- Euclid: the program's and the reference's. -/
set_option linter.unusedSimpArgs false
set_option linter.unusedVariables false
namespace Go.Proofs.YtnhbkoeomefkdaaDoor.Ev.L
open Go Go.Proofs Go.Proofs.YtnhbkoeomefkdaaDoor.Ev
noncomputable section

/-- the sizes that are cut off -/
def eu : Nat → Int → Int → List Int
  | 0, _, _ => []
  | k + 1, w, h => if 0 < w ∧ 0 < h then min w h :: (if h < w then eu k (w - min w h) h else eu k w (h - min w h)) else []
theorem eu_stop {k : Nat} {w h : Int} (hs : ¬ (0 < w ∧ 0 < h)) : eu k w h = [] := by
  cases k with
  | zero => rfl
  | succ k => rw [eu, if_neg hs]
theorem eu_go {k : Nat} {w h : Int} (hs : 0 < w ∧ 0 < h) (hk : w + h ≤ k) : eu k w h = min w h :: (if h < w then eu (k - 1) (w - min w h) h else eu (k - 1) w (h - min w h)) := by
  cases k with
  | zero => omega
  | succ k => rw [eu, if_pos hs]; rfl
/-- fuel enough is fuel enough -/
theorem eu_fuel : ∀ (k j : Nat) (w h : Int), 0 ≤ w → 0 ≤ h → w + h ≤ k → w + h ≤ j → eu k w h = eu j w h := by
  intro k
  induction k with
  | zero => intro j w h h1 h2 h3 h4; rw [eu_stop (by omega), eu_stop (by omega)]
  | succ k ih =>
    intro j w h h1 h2 h3 h4
    by_cases hs : 0 < w ∧ 0 < h
    · rw [eu_go hs h3, eu_go hs h4]
      congr 1
      split
      · exact ih _ _ _ (by omega) (by omega) (by omega) (by omega)
      · exact ih _ _ _ (by omega) (by omega) (by omega) (by omega)
    · rw [eu_stop hs, eu_stop hs]
end
end Go.Proofs.YtnhbkoeomefkdaaDoor.Ev.L

/- The program's Euclid. -/
set_option linter.unusedSimpArgs false
set_option linter.unusedVariables false
namespace Go.Proofs.YtnhbkoeomefkdaaDoor.Ev.L
open Go Go.Proofs Go.Proofs.YtnhbkoeomefkdaaDoor.Ev
noncomputable section

set_option maxHeartbeats 4000000 in
theorem hideEuclid_ok {G : Nat} {w h : Int} {h0 : H} (hG : G ≤ h0.next) (hw : 1 ≤ w ∧ w ≤ 1000) (hh : 1 ≤ h ∧ h ≤ 1000) :
    Spec Tryd.prog (En G) 32 [.int .i64 w, .int .i64 h] h0 fun v h' =>
      ((eu 2000 w h).length ≤ 24 ∧ ∃ A, v = .tuple #[.slice A (eu 2000 w h).length (eu 2000 w h).length, .int .i64 0] ∧ SlV h'.blks h0.next h'.next 1 (eu 2000 w h).length (ints (eu 2000 w h)) (.slice A (eu 2000 w h).length (eu 2000 w h).length)) ∨
      (24 < (eu 2000 w h).length ∧ v = .tuple #[.slice none 0 0, .int .i64 3]) := by
  refine CallsE_enter (En_known (by decide)) (En_f.trans Tryd.func32) rfl ⟨Nat.le_of_ble_eq_true rfl, by decide⟩ fun Q' hQ' => ?_
  simp only [Tryd.f32, go_sem,reduceIte,Nat.reduceEqDiff,Nat.reduceLT]
  refine At_lit (vs := [(0, .int .i64 w), (1, .int .i64 h)]) (cs := #[.int .i64 w, .int .i64 h]) u27 i3 zero3 (by rw [size3]; rfl) (by simp only [go_sem,reduceIte,Nat.reduceEqDiff,Nat.reduceLT]) (by rw [size3]; rfl) (by omega) fun h1 hn => ?_
  rw [size3] at hn
  simp only [go_sem,reduceIte,Nat.reduceEqDiff,Nat.reduceLT]
  refine CallO_f (areSides_spec (l := [w, h]) (hn.slv rfl) (by omega)) (by omega) fun v h2 hp hv => ?_
  subst hv
  have hall : [w, h].all sideOk = true := by
    simp only [List.all_cons, List.all_nil, sideOk, Bool.and_true, Bool.and_eq_true, decide_eq_true_eq]
    exact ⟨hw, hh⟩
  simp only [go_sem,reduceIte,Nat.reduceEqDiff,Nat.reduceLT, hall]
  have hpr0 : Pres h0.next h0 h2 := (hn.pres (Nat.le_refl _)).trans (hp.le (by have := hn.next; omega))
  refine WK_loopN (fun j α h2 => ∃ (x y : Int) (l : List Int) (A : Option Addr), 0 ≤ x ∧ x ≤ 1000 ∧ 0 ≤ y ∧ y ≤ 1000 ∧ j = (x + y).toNat ∧ l ++ eu 2000 x y = eu 2000 w h ∧ l.length ≤ 24 ∧ α.get 0 = some (.int .i64 x) ∧ α.get 1 = some (.int .i64 y) ∧
      α.get 6 = some (.slice A l.length l.length) ∧ SlV h2.blks h0.next h2.next 1 l.length (ints l) (.slice A l.length l.length) ∧ Pres h0.next h0 h2) (w + h).toNat
    ⟨w, h, [], none, by omega, by omega, by omega, by omega, rfl, rfl, by simp, by simp only [go_sem,reduceIte,Nat.reduceEqDiff,Nat.reduceLT], by simp only [go_sem,reduceIte,Nat.reduceEqDiff,Nat.reduceLT], by simp only [go_sem,reduceIte,Nat.reduceEqDiff,Nat.reduceLT]; rfl, .nil rfl rfl, hpr0⟩ (by omega) ?_
  clear hpr0 hp hn h1 h2 hall
  rintro J j α h2 ⟨x, y, l, A, hx0, hx1, hy0, hy1, rfl, hl, hl24, e0, e1, e6, hsl, hpr⟩ hJ
  by_cases hs : 0 < x ∧ 0 < y
  · obtain ⟨hs1, hs2⟩ := hs
    have hgo := eu_go (k := 2000) ⟨hs1, hs2⟩ (by omega)
    have hlong : l.length < (eu 2000 w h).length := by
      rw [← hl, hgo]; simp
    by_cases h24 : (l.length : Int) = 24
    · simp (disch := omega) only [go_sem,reduceIte,Nat.reduceEqDiff,Nat.reduceLT, e0, e1, e6, hs1, hs2, len27, h24]
      exact hQ' _ _ ⟨hpr, .inr ⟨by omega, rfl⟩⟩
    · simp (disch := omega) only [go_sem,reduceIte,Nat.reduceEqDiff,Nat.reduceLT, e0, e1, e6, hs1, hs2, len27, h24]
      have nx := hpr.next
      refine At_pushI (lo := h0.next) (hi := h2.next) (l := l) (z := min x y) (by (simp only [go_sem,reduceIte,Nat.reduceEqDiff,Nat.reduceLT]) <;> rfl) (by simp only [go_sem,reduceIte,Nat.reduceEqDiff,Nat.reduceLT, e6]) hsl (by omega) (by omega) (by omega) (by omega) (by decide) (by decide) (by decide) fun A3 h3 pr3 hs3 nx3 => ?_
      have hpr' := hpr.trans pr3
      by_cases hlt : y < x
      · simp (disch := omega) only [go_sem,reduceIte,Nat.reduceEqDiff,Nat.reduceLT, e0, e1, hlt, wrap_i64]
        rw [if_pos hlt, eu_fuel 1999 2000 _ _ (by omega) (by omega) (by omega) (by omega)] at hgo
        refine hJ _ _ _ ?_ ⟨x - min x y, y, l ++ [min x y], A3, by omega, by omega, by omega, by omega, rfl, ?_, by simp only [List.length_append, List.length_singleton]; omega, by simp only [go_sem,reduceIte,Nat.reduceEqDiff,Nat.reduceLT], by simp only [go_sem,reduceIte,Nat.reduceEqDiff,Nat.reduceLT, e1], by simp only [go_sem,reduceIte,Nat.reduceEqDiff,Nat.reduceLT], hs3, hpr'⟩
        · omega
        · rw [List.append_assoc, ← hl, hgo]; rfl
      · simp (disch := omega) only [go_sem,reduceIte,Nat.reduceEqDiff,Nat.reduceLT, e0, e1, hlt, wrap_i64]
        rw [if_neg hlt, eu_fuel 1999 2000 _ _ (by omega) (by omega) (by omega) (by omega)] at hgo
        refine hJ _ _ _ ?_ ⟨x, y - min x y, l ++ [min x y], A3, by omega, by omega, by omega, by omega, rfl, ?_, by simp only [List.length_append, List.length_singleton]; omega, by simp only [go_sem,reduceIte,Nat.reduceEqDiff,Nat.reduceLT, e0], by simp only [go_sem,reduceIte,Nat.reduceEqDiff,Nat.reduceLT], by simp only [go_sem,reduceIte,Nat.reduceEqDiff,Nat.reduceLT], hs3, hpr'⟩
        · omega
        · rw [List.append_assoc, ← hl, hgo]; rfl
  · have hstop := eu_stop (k := 2000) hs
    rw [hstop, List.append_nil] at hl
    subst hl
    by_cases hs1 : 0 < x
    · have hs2 : ¬ 0 < y := fun h => hs ⟨hs1, h⟩
      simp (disch := omega) only [go_sem,reduceIte,Nat.reduceEqDiff,Nat.reduceLT, e0, e1, e6, hs1, hs2]
      exact hQ' _ _ ⟨hpr, .inl ⟨hl24, A, rfl, hsl⟩⟩
    · simp (disch := omega) only [go_sem,reduceIte,Nat.reduceEqDiff,Nat.reduceLT, e0, e1, e6, hs1]
      exact hQ' _ _ ⟨hpr, .inl ⟨hl24, A, rfl, hsl⟩⟩
end
end Go.Proofs.YtnhbkoeomefkdaaDoor.Ev.L

/- Before and Same. -/
set_option linter.unusedSimpArgs false
set_option linter.unusedVariables false
namespace Go.Proofs.YtnhbkoeomefkdaaDoor.Ev.L
open Go Go.Proofs Go.Proofs.YtnhbkoeomefkdaaDoor.Ev
noncomputable section

/-- the lexicographic order -/
def beforeB : List Int → List Int → Bool
  | [], [] => false
  | [], _ :: _ => true
  | _ :: _, [] => false
  | a :: l, b :: m => if a = b then beforeB l m else decide (a < b)
theorem before_drop {l m : List Int} {k : Nat} {a b : Int} (h1 : l[k]? = some a) (h2 : m[k]? = some b) : beforeB (l.drop k) (m.drop k) = if a = b then beforeB (l.drop (k + 1)) (m.drop (k + 1)) else decide (a < b) := by
  obtain ⟨g1, rfl⟩ := List.getElem?_eq_some_iff.1 h1
  obtain ⟨g2, rfl⟩ := List.getElem?_eq_some_iff.1 h2
  rw [List.drop_eq_getElem_cons g1, List.drop_eq_getElem_cons g2, beforeB]
theorem before_end {l m : List Int} {k : Nat} (h : l.length ≤ k ∨ m.length ≤ k) (hl : k ≤ l.length) (hm : k ≤ m.length) : beforeB (l.drop k) (m.drop k) = decide (l.length < m.length) := by
  rcases Nat.lt_or_ge l.length m.length with h1 | h1
  · have : l.drop k = [] := List.drop_eq_nil_of_le (by omega)
    rw [this, List.drop_eq_getElem_cons (by omega)]
    simp [beforeB, h1]
  · have : m.drop k = [] := List.drop_eq_nil_of_le (by omega)
    rw [this]
    cases l.drop k <;> simp [beforeB] <;> omega
theorem before_irrefl : ∀ l : List Int, beforeB l l = false
  | [] => rfl
  | a :: l => by simp [beforeB, before_irrefl l]

set_option maxHeartbeats 4000000 in
theorem before_spec {G lo1 hi1 lo2 hi2 n1 n2 : Nat} {l m : List Int} {v u : Value} {h : H} (hv : SlV h.blks lo1 hi1 1 n1 (ints l) v) (hu : SlV h.blks lo2 hi2 1 n2 (ints m) u) (hn1 : n1 < 4000000000000000000) (hn2 : n2 < 4000000000000000000) :
    Spec Tryd.prog (En G) 42 [v, u] h fun r _ => r = .bool (beforeB l m) := by
  obtain ⟨A, c, rfl⟩ := hv.shape
  obtain ⟨A', c', rfl⟩ := hu.shape
  have hl : l.length = n1 := by have := hv.len; rw [ints_len] at this; omega
  have hm : m.length = n2 := by have := hu.len; rw [ints_len] at this; omega
  refine CallsE_enter (En_known (by decide)) (En_f.trans Tryd.func42) rfl ⟨Nat.le_of_ble_eq_true rfl, by decide⟩ fun Q' hQ' => ?_
  simp only [Tryd.f42, go_sem,reduceIte,Nat.reduceEqDiff,Nat.reduceLT]
  refine WK_loopN (fun j α h1 => ∃ k : Nat, k + j = n1 ∧ k ≤ n2 ∧ h1 = h ∧ α.get 0 = some (.slice A n1 c) ∧ α.get 1 = some (.slice A' n2 c') ∧ α.get 5 = some (.int .i64 k) ∧ beforeB (l.drop k) (m.drop k) = beforeB l m) n1
    ⟨0, by omega, by omega, rfl, by simp only [go_sem,reduceIte,Nat.reduceEqDiff,Nat.reduceLT], by simp only [go_sem,reduceIte,Nat.reduceEqDiff,Nat.reduceLT], by simp only [go_sem,reduceIte,Nat.reduceEqDiff,Nat.reduceLT]; rfl, by simp⟩ (by omega) ?_
  rintro J j α h1 ⟨k, hk, hk2, rfl, e0, e1, e5, hb⟩ hJ
  by_cases hlt : k < n1 ∧ k < n2
  · obtain ⟨hlt1, hlt2⟩ := hlt
    have g1 : (k : Int) < n1 := by omega
    have g2 : (k : Int) < n2 := by omega
    obtain ⟨b, off, rfl, _, _, hld⟩ := hv.at_ (by omega)
    obtain ⟨b', off', rfl, _, _, hld'⟩ := hu.at_ (by omega)
    obtain ⟨y, hy⟩ : ∃ y, l[k]? = some y := ⟨l[k]'(by omega), List.getElem?_eq_getElem (by omega)⟩
    obtain ⟨z, hz⟩ : ∃ z, m[k]? = some z := ⟨m[k]'(by omega), List.getElem?_eq_getElem (by omega)⟩
    have hld := hld k (by omega)
    have hld' := hld' k (by omega)
    rw [ints_get hy] at hld
    rw [ints_get hz] at hld'
    rw [before_drop hy hz] at hb
    simp (disch := omega) only [go_sem,reduceIte,Nat.reduceEqDiff,Nat.reduceLT, e0, e1, e5, len27, g1, g2]
    refine WK_regionT 8 ⟨by kernel_rfl, by kernel_rfl, by kernel_rfl⟩ ?_
    by_cases hyz : y = z
    · simp (disch := omega) only [go_sem,reduceIte,Nat.reduceEqDiff,Nat.reduceLT, e0, e1, e5, idxA27, load3, Int.toNat_natCast, Nat.mul_one, hld, hld', hyz, ne_eq, not_true_eq_false, wrap_i64]
      rw [if_pos hyz] at hb
      exact hJ (j - 1) _ _ (by omega) ⟨k + 1, by omega, by omega, rfl, by simp only [go_sem,reduceIte,Nat.reduceEqDiff,Nat.reduceLT, e0], by simp only [go_sem,reduceIte,Nat.reduceEqDiff,Nat.reduceLT, e1], by simp only [go_sem,reduceIte,Nat.reduceEqDiff,Nat.reduceLT]; rfl, hb⟩
    · simp (disch := omega) only [go_sem,reduceIte,Nat.reduceEqDiff,Nat.reduceLT, e0, e1, e5, idxA27, load3, Int.toNat_natCast, Nat.mul_one, hld, hld', hyz, ne_eq, not_false_eq_true]
      refine WK_regionT 8 ⟨by kernel_rfl, by kernel_rfl, by kernel_rfl⟩ ?_
      simp (disch := omega) only [go_sem,reduceIte,Nat.reduceEqDiff,Nat.reduceLT, e0, e1, e5, idxA27, load3, Int.toNat_natCast, Nat.mul_one, hld, hld']
      rw [if_neg hyz] at hb
      exact hQ' _ _ ⟨Pres.refl _ _, by rw [← hb]⟩
  · have hend := before_end (l := l) (m := m) (k := k) (by omega) (by omega) (by omega)
    rw [hb] at hend
    have hfin : (decide ((n1 : Int) < n2)) = beforeB l m := by
      rw [hend, hl, hm]
      by_cases h : n1 < n2 <;> simp [h]
    by_cases g1 : (k : Int) < n1
    · have g2 : ¬ (k : Int) < n2 := by omega
      simp (disch := omega) only [go_sem,reduceIte,Nat.reduceEqDiff,Nat.reduceLT, e0, e1, e5, len27, g1, g2]
      exact hQ' _ _ ⟨Pres.refl _ _, by rw [← hfin]⟩
    · simp (disch := omega) only [go_sem,reduceIte,Nat.reduceEqDiff,Nat.reduceLT, e0, e1, e5, len27, g1]
      exact hQ' _ _ ⟨Pres.refl _ _, by rw [← hfin]⟩

set_option maxHeartbeats 4000000 in
theorem same_spec {G lo1 hi1 lo2 hi2 n1 n2 : Nat} {l : List Int} {v u : Value} {h : H} (hv : SlV h.blks lo1 hi1 1 n1 (ints l) v) (hu : SlV h.blks lo2 hi2 1 n2 (ints l) u) (h1 : hi1 ≤ h.next) (h2 : hi2 ≤ h.next) (hn1 : n1 < 4000000000000000000) (hn2 : n2 < 4000000000000000000) :
    Spec Tryd.prog (En G) 20 [v, u] h fun r _ => r = .bool true := by
  refine CallsE_enter (En_known (by decide)) (En_f.trans Tryd.func20) rfl ⟨Nat.le_of_ble_eq_true rfl, by decide⟩ fun Q' hQ' => ?_
  simp only [Tryd.f20, go_sem,reduceIte,Nat.reduceEqDiff,Nat.reduceLT]
  refine CallO_f (before_spec hv hu hn1 hn2) (by omega) fun r h3 hp hr => ?_
  subst hr
  simp only [go_sem,reduceIte,Nat.reduceEqDiff,Nat.reduceLT, before_irrefl]
  have hv' : SlV h3.blks lo1 hi1 1 n1 (ints l) v := hv.mono fun b _ hb => hp.get b (by omega)
  have hu' : SlV h3.blks lo2 hi2 1 n2 (ints l) u := hu.mono fun b _ hb => hp.get b (by omega)
  refine CallO_f (before_spec hu' hv' hn2 hn1) (by omega) fun r h4 hp2 hr => ?_
  subst hr
  simp only [go_sem,reduceIte,Nat.reduceEqDiff,Nat.reduceLT, before_irrefl]
  exact hQ' _ _ ⟨hp.trans (hp2.le (by have := hp.next; omega)), rfl⟩
end
end Go.Proofs.YtnhbkoeomefkdaaDoor.Ev.L

