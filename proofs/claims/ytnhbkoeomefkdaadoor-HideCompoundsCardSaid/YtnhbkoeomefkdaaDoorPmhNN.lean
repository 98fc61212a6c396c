/- What a part is: comparisons of parts; the squares between two. -/
import Derived.Test.YtnhbkoeomefkdaaDoorPmhM1
import Derived.Test.YtnhbkoeomefkdaaDoorPmhLM
set_option linter.unusedVariables false
set_option linter.unusedSimpArgs false
namespace Go.Proofs.YtnhbkoeomefkdaaDoor.Ev.L
open Go Go.Proofs Go.Proofs.YtnhbkoeomefkdaaDoor.Ev
noncomputable section

theorem isNaN_spec {G : Nat} {x : Int} {h : H} : Spec Tryd.prog (En G) 82 [.int .i64 x] h fun v h' => v = .bool false ∧ h' = h := by
  refine CallsE_enter (En_known (by decide)) (En_f.trans Tryd.func82) rfl ⟨Nat.le_of_ble_eq_true rfl, by decide⟩ fun Q' hQ' => ?_
  have d : decide (x ≠ x) = false := decide_eq_false fun e => e rfl
  simp only [Tryd.f82, go_sem,reduceIte,Nat.reduceEqDiff,Nat.reduceLT, d]
  exact hQ' _ _ ⟨Pres.refl _ _, rfl, rfl⟩
def cmp (x y : Int) : Int := if x < y then -1 else if y < x then 1 else 0
theorem Compare_spec {G : Nat} {x y : Int} {h : H} : Spec Tryd.prog (En G) 68 [.int .i64 x, .int .i64 y] h fun v h' => v = .int .i64 (cmp x y) ∧ h' = h := by
  refine CallsE_enter (En_known (by decide)) (En_f.trans Tryd.func68) rfl ⟨Nat.le_of_ble_eq_true rfl, by decide⟩ fun Q' hQ' => ?_
  simp only [Tryd.f68, go_sem,reduceIte,Nat.reduceEqDiff,Nat.reduceLT]
  refine CallO_same (Q := fun v => v = .bool false) isNaN_spec (by omega) fun u hu => ?_
  subst hu
  simp only [go_sem,reduceIte,Nat.reduceEqDiff,Nat.reduceLT]
  refine CallO_same (Q := fun v => v = .bool false) isNaN_spec (by omega) fun u hu => ?_
  subst hu
  by_cases h1 : x < y
  · simp only [go_sem,reduceIte,Nat.reduceEqDiff,Nat.reduceLT, h1]
    exact hQ' _ _ ⟨Pres.refl _ _, by unfold cmp; rw [if_pos h1], rfl⟩
  · by_cases h2 : y < x
    · simp only [go_sem,reduceIte,Nat.reduceEqDiff,Nat.reduceLT, h1, h2]
      exact hQ' _ _ ⟨Pres.refl _ _, by unfold cmp; rw [if_neg h1, if_pos h2], rfl⟩
    · simp only [go_sem,reduceIte,Nat.reduceEqDiff,Nat.reduceLT, h1, h2]
      exact hQ' _ _ ⟨Pres.refl _ _, by unfold cmp; rw [if_neg h1, if_neg h2], rfl⟩
/-- cmp.Or of two numbers -/
theorem Or_spec {G lo hi : Nat} {x y : Int} {A : Option Addr} {c : Nat} {h : H} (hv : SlV h.blks lo hi 1 2 [.int .i64 x, .int .i64 y] (.slice A 2 c)) : Spec Tryd.prog (En G) 67 [.slice A 2 c] h fun v h' => v = .int .i64 (if x ≠ 0 then x else y) ∧ h' = h := by
  refine CallsE_enter (En_known (by decide)) (En_f.trans Tryd.func67) rfl ⟨Nat.le_of_ble_eq_true rfl, by decide⟩ fun Q' hQ' => ?_
  obtain ⟨b, off, rfl, _, _, hld⟩ := hv.at_ (by omega)
  have l0 := hld 0 (by simp)
  have l1 := hld 1 (by simp)
  simp only [List.getElem?_cons_zero, List.getElem?_cons_succ, Nat.add_zero] at l0 l1
  simp only [Tryd.f67, go_sem,reduceIte,Nat.reduceEqDiff,Nat.reduceLT, len27]
  refine WK_loopN (fun j α h2 => ∃ i : Nat, i + j = 2 ∧ h2 = h ∧ (i = 1 → x = 0) ∧ (i = 2 → x = 0 ∧ y = 0) ∧ α.get 3 = some (.int .i64 0) ∧ α.get 6 = some (.slice (some ⟨b, off, none⟩) 2 c) ∧ α.get 7 = some (.int .i64 2) ∧ α.get 8 = some (.int .i64 i)) 2
    ⟨0, rfl, rfl, by omega, by omega, by simp only [go_sem,reduceIte,Nat.reduceEqDiff,Nat.reduceLT], by simp only [go_sem,reduceIte,Nat.reduceEqDiff,Nat.reduceLT], by (simp only [go_sem,reduceIte,Nat.reduceEqDiff,Nat.reduceLT]) <;> rfl, by (simp only [go_sem,reduceIte,Nat.reduceEqDiff,Nat.reduceLT]) <;> rfl⟩ (by omega) ?_
  rintro J j α h2 ⟨i, hij, rfl, hx, hy, e3, e6, e7, e8⟩ hJ
  obtain rfl | rfl | rfl : i = 0 ∨ i = 1 ∨ i = 2 := by omega
  · have c1 : ((0 : Nat) : Int) < 2 := by decide
    have i0 : Int.toNat ((0 : Nat) : Int) = 0 := rfl
    by_cases h0 : x = 0
    · have d : decide (x ≠ 0) = false := decide_eq_false fun e => e h0
      simp (disch := omega) only [go_sem,reduceIte,Nat.reduceEqDiff,Nat.reduceLT, e3, e6, e7, e8, c1, idxA27, i0, Nat.zero_mul, Nat.add_zero, load3, l0, d, wrap_i64]
      exact hJ 1 _ _ (by omega) ⟨1, rfl, rfl, fun _ => h0, by omega, by simp only [go_sem,reduceIte,Nat.reduceEqDiff,Nat.reduceLT, e3], by simp only [go_sem,reduceIte,Nat.reduceEqDiff,Nat.reduceLT, e6], by simp only [go_sem,reduceIte,Nat.reduceEqDiff,Nat.reduceLT, e7], by (simp only [go_sem,reduceIte,Nat.reduceEqDiff,Nat.reduceLT]) <;> rfl⟩
    · have d : decide (x ≠ 0) = true := decide_eq_true h0
      simp (disch := omega) only [go_sem,reduceIte,Nat.reduceEqDiff,Nat.reduceLT, e3, e6, e7, e8, c1, idxA27, i0, Nat.zero_mul, Nat.add_zero, load3, l0, d]
      exact hQ' _ _ ⟨Pres.refl _ _, by rw [if_pos h0], rfl⟩
  · have c1 : ((1 : Nat) : Int) < 2 := by decide
    have i0 : Int.toNat ((1 : Nat) : Int) = 1 := rfl
    have hx0 := hx rfl
    by_cases h0 : y = 0
    · have d : decide (y ≠ 0) = false := decide_eq_false fun e => e h0
      simp (disch := omega) only [go_sem,reduceIte,Nat.reduceEqDiff,Nat.reduceLT, e3, e6, e7, e8, c1, idxA27, i0, Nat.one_mul, load3, l1, d, wrap_i64]
      exact hJ 0 _ _ (by omega) ⟨2, rfl, rfl, by omega, fun _ => ⟨hx0, h0⟩, by simp only [go_sem,reduceIte,Nat.reduceEqDiff,Nat.reduceLT, e3], by simp only [go_sem,reduceIte,Nat.reduceEqDiff,Nat.reduceLT, e6], by simp only [go_sem,reduceIte,Nat.reduceEqDiff,Nat.reduceLT, e7], by (simp only [go_sem,reduceIte,Nat.reduceEqDiff,Nat.reduceLT]) <;> rfl⟩
    · have d : decide (y ≠ 0) = true := decide_eq_true h0
      simp (disch := omega) only [go_sem,reduceIte,Nat.reduceEqDiff,Nat.reduceLT, e3, e6, e7, e8, c1, idxA27, i0, Nat.one_mul, load3, l1, d]
      exact hQ' _ _ ⟨Pres.refl _ _, by rw [if_neg (fun e => e hx0)], rfl⟩
  · have c1 : ¬ ((2 : Nat) : Int) < 2 := by decide
    obtain ⟨hx0, hy0⟩ := hy rfl
    simp (disch := omega) only [go_sem,reduceIte,Nat.reduceEqDiff,Nat.reduceLT, e3, e6, e7, e8, c1]
    exact hQ' _ _ ⟨Pres.refl _ _, by rw [if_neg (fun e => e hx0), hy0], rfl⟩

/-- lexicographically -/
def cmpL : List Int → List Int → Int
  | [], [] => 0
  | [], _ :: _ => -1
  | _ :: _, [] => 1
  | a :: l, b :: m => if cmp a b ≠ 0 then cmp a b else cmpL l m
theorem cmp_zero {a b : Int} : cmp a b = 0 ↔ a = b := by
  unfold cmp
  repeat' split
  all_goals constructor <;> intro h <;> omega
theorem drop_cons {l : List Int} {k : Nat} (h : k < l.length) : l.drop k = l.getD k 0 :: l.drop (k + 1) := by
  rw [List.drop_eq_getElem_cons h, List.getD, List.getElem?_eq_getElem h]; rfl
theorem cmpL_step {l m : List Int} {k : Nat} (h1 : k < l.length) (h2 : k < m.length) : cmpL (l.drop k) (m.drop k) = if cmp (l.getD k 0) (m.getD k 0) ≠ 0 then cmp (l.getD k 0) (m.getD k 0) else cmpL (l.drop (k + 1)) (m.drop (k + 1)) := by
  rw [drop_cons h1, drop_cons h2, cmpL]
theorem _root_.Go.Proofs.YtnhbkoeomefkdaaDoor.Ev.SlV.int_at {B : Tr Blk} {lo hi n c b off i : Nat} {l : List Int} (s : SlV B lo hi 1 n (ints l) (.slice (some ⟨b, off, none⟩) n c)) (hn : n = l.length) (hi' : i < n) : loadv B b (off + i) = some (.int .i64 (l.getD i 0)) := by
  obtain ⟨b1, o1, he, _, _, hld⟩ := s.at_ (by omega)
  injection he with he
  injection he with e1 e2
  subst e1; subst e2
  rw [hld i (by omega), ints_getD (by omega)]

set_option maxHeartbeats 8000000 in
theorem sCompare_spec {G lo1 hi1 lo2 hi2 c1 c2 : Nat} {A1 A2 : Option Addr} {l m : List Int} {h : H} (hv : SlV h.blks lo1 hi1 1 l.length (ints l) (.slice A1 l.length c1)) (hu : SlV h.blks lo2 hi2 1 m.length (ints m) (.slice A2 m.length c2)) (hn : l.length < 4611686018427387904) (hn2 : m.length < 4611686018427387904) :
    Spec Tryd.prog (En G) 85 [.slice A1 l.length c1, .slice A2 m.length c2] h fun v h' => v = .int .i64 (cmpL l m) ∧ h' = h := by
  refine CallsE_enter (En_known (by decide)) (En_f.trans Tryd.func85) rfl ⟨Nat.le_of_ble_eq_true rfl, by decide⟩ fun Q' hQ' => ?_
  simp only [Tryd.f85, go_sem,reduceIte,Nat.reduceEqDiff,Nat.reduceLT, len27]
  refine WK_loopN (fun j α h1 => ∃ k : Nat, k + j = l.length ∧ k ≤ m.length ∧ h1 = h ∧ cmpL l m = cmpL (l.drop k) (m.drop k) ∧ α.get 0 = some (.slice A1 l.length c1) ∧ α.get 1 = some (.slice A2 m.length c2) ∧ α.get 9 = some (.slice A1 l.length c1) ∧ α.get 10 = some (.int .i64 l.length) ∧ α.get 11 = some (.int .i64 k)) l.length
    ⟨0, by omega, by omega, rfl, rfl, by simp only [go_sem,reduceIte,Nat.reduceEqDiff,Nat.reduceLT], by simp only [go_sem,reduceIte,Nat.reduceEqDiff,Nat.reduceLT], by simp only [go_sem,reduceIte,Nat.reduceEqDiff,Nat.reduceLT], by simp only [go_sem,reduceIte,Nat.reduceEqDiff,Nat.reduceLT], by (simp only [go_sem,reduceIte,Nat.reduceEqDiff,Nat.reduceLT]) <;> rfl⟩ (by omega) ?_
  rintro J j α h1 ⟨k, hk, hkm, rfl, hc, e0, e1, e9, e10, e11⟩ hJ
  by_cases hlt : (k : Int) < (l.length : Int)
  · obtain ⟨b1, o1, rfl, _, _, _⟩ := hv.at_ (by omega)
    have l1 := hv.int_at rfl (show k < l.length by omega)
    by_cases hge : (m.length : Int) ≤ (k : Int)
    · simp (disch := omega) only [go_sem,reduceIte,Nat.reduceEqDiff,Nat.reduceLT, e0, e1, e9, e10, e11, len27, hlt, idxA27, Int.toNat_natCast, Nat.mul_one, load3, l1, hge]
      refine hQ' _ _ ⟨Pres.refl _ _, ?_, rfl⟩
      rw [hc, List.drop_of_length_le (l := m) (by omega), drop_cons (l := l) (by omega)]
      rfl
    · obtain ⟨b2, o2, rfl, _, _, _⟩ := hu.at_ (by omega)
      have l2 := hu.int_at rfl (show k < m.length by omega)
      have hst := cmpL_step (l := l) (m := m) (k := k) (by omega) (by omega)
      simp (disch := omega) only [go_sem,reduceIte,Nat.reduceEqDiff,Nat.reduceLT, e0, e1, e9, e10, e11, len27, hlt, idxA27, Int.toNat_natCast, Nat.mul_one, load3, l1, l2, hge]
      refine CallO_same (Q := fun v => v = .int .i64 (cmp (l.getD k 0) (m.getD k 0))) Compare_spec (by omega) fun u hu' => ?_
      subst hu'
      by_cases hz : cmp (l.getD k 0) (m.getD k 0) = 0
      · have dz : decide (cmp (l.getD k 0) (m.getD k 0) ≠ 0) = false := decide_eq_false fun e => e hz
        rw [if_neg fun e => e hz] at hst
        simp (disch := omega) only [go_sem,reduceIte,Nat.reduceEqDiff,Nat.reduceLT, e0, e1, e9, e10, e11, dz, wrap_i64]
        exact hJ (j - 1) _ _ (by omega) ⟨k + 1, by omega, by omega, rfl, by rw [hc, hst], by simp only [go_sem,reduceIte,Nat.reduceEqDiff,Nat.reduceLT, e0], by simp only [go_sem,reduceIte,Nat.reduceEqDiff,Nat.reduceLT, e1], by simp only [go_sem,reduceIte,Nat.reduceEqDiff,Nat.reduceLT, e9], by simp only [go_sem,reduceIte,Nat.reduceEqDiff,Nat.reduceLT, e10], by (simp only [go_sem,reduceIte,Nat.reduceEqDiff,Nat.reduceLT]) <;> rfl⟩
      · have dz : decide (cmp (l.getD k 0) (m.getD k 0) ≠ 0) = true := decide_eq_true hz
        rw [if_pos hz] at hst
        simp (disch := omega) only [go_sem,reduceIte,Nat.reduceEqDiff,Nat.reduceLT, e0, e1, e9, e10, e11, dz]
        exact hQ' _ _ ⟨Pres.refl _ _, by rw [hc, hst], rfl⟩
  · have hkl : k = l.length := by omega
    by_cases hs : (l.length : Int) < (m.length : Int)
    · simp (disch := omega) only [go_sem,reduceIte,Nat.reduceEqDiff,Nat.reduceLT, e0, e1, e9, e10, e11, len27, hlt, hs]
      refine hQ' _ _ ⟨Pres.refl _ _, ?_, rfl⟩
      rw [hc, List.drop_of_length_le (l := l) (by omega), drop_cons (l := m) (by omega)]
      rfl
    · simp (disch := omega) only [go_sem,reduceIte,Nat.reduceEqDiff,Nat.reduceLT, e0, e1, e9, e10, e11, len27, hlt, hs]
      refine hQ' _ _ ⟨Pres.refl _ _, ?_, rfl⟩
      rw [hc, List.drop_of_length_le (l := l) (by omega), List.drop_of_length_le (l := m) (by omega)]
      rfl
/-- smaller parts first, then lexicographically -/
def cmpP (a b : List Int) : Int := if cmp a.length b.length ≠ 0 then cmp a.length b.length else cmpL a b
theorem comparePart_spec {G lo1 hi1 lo2 hi2 c1 c2 : Nat} {A1 A2 : Option Addr} {l m : List Int} {h : H} (hG : G ≤ h.next) (hv : SlV h.blks lo1 hi1 1 l.length (ints l) (.slice A1 l.length c1)) (hu : SlV h.blks lo2 hi2 1 m.length (ints m) (.slice A2 m.length c2)) (hn : l.length < 4611686018427387904) (hn2 : m.length < 4611686018427387904) :
    Spec Tryd.prog (En G) 71 [.slice A1 l.length c1, .slice A2 m.length c2] h fun v _ => v = .int .i64 (cmpP l m) := by
  refine CallsE_enter (En_known (by decide)) (En_f.trans Tryd.func71) rfl ⟨Nat.le_of_ble_eq_true rfl, by decide⟩ fun Q' hQ' => ?_
  simp only [Tryd.f71, go_sem,reduceIte,Nat.reduceEqDiff,Nat.reduceLT, len27]
  refine CallO_same (Q := fun v => v = .int .i64 (cmp l.length m.length)) Compare_spec (by omega) fun u hu' => ?_
  subst hu'
  try simp only [go_sem,reduceIte,Nat.reduceEqDiff,Nat.reduceLT]
  refine CallO_same (Q := fun v => v = .int .i64 (cmpL l m)) (sCompare_spec hv hu hn hn2) (by omega) fun u hu' => ?_
  subst hu'
  try simp only [go_sem,reduceIte,Nat.reduceEqDiff,Nat.reduceLT]
  refine At_lit (vs := [(0, .int .i64 (cmp l.length m.length)), (1, .int .i64 (cmpL l m))]) (cs := #[.int .i64 (cmp l.length m.length), .int .i64 (cmpL l m)]) u27 i3 zero3 (by rw [size3]; rfl) (by simp only [go_sem,reduceIte,Nat.reduceEqDiff,Nat.reduceLT]) (by rw [size3]; rfl) (by omega) fun h1 hn1 => ?_
  rw [size3] at hn1
  have n1 := hn1.next
  try simp only [go_sem,reduceIte,Nat.reduceEqDiff,Nat.reduceLT]
  refine CallO_f (Or_spec (hn1.slv (n := 2) (c := 2) rfl)) (by omega) fun u h2 pr2 ⟨hu', he⟩ => ?_
  subst hu'
  subst he
  try simp only [go_sem,reduceIte,Nat.reduceEqDiff,Nat.reduceLT]
  exact hQ' _ _ ⟨hn1.pres (Nat.le_refl _), rfl⟩
end
end Go.Proofs.YtnhbkoeomefkdaaDoor.Ev.L

/- The squares between two. -/
set_option linter.unusedVariables false
set_option linter.unusedSimpArgs false
namespace Go.Proofs.YtnhbkoeomefkdaaDoor.Ev.L
open Go Go.Proofs Go.Proofs.YtnhbkoeomefkdaaDoor.Ev
noncomputable section

/-- a square lies in the rectangle from one square's corner to another's end -/
def insB (f l q : Sq) : Bool := decide (f.1 ≤ q.1) && decide (f.2.1 ≤ q.2.1) && decide (q.1 + q.2.2 ≤ l.1 + l.2.2) && decide (q.2.1 + q.2.2 ≤ l.2.1 + l.2.2)
def inP (f l : Sq) (O : List Sq) (k : Nat) : List Int := ((List.range k).filter fun i => insB f l (O.getD i (0, 0, 0))).map Int.ofNat
def fil (f l : Sq) (O : List Sq) (k : Nat) : List Sq := (O.take k).filter (insB f l)
def rectA (f l : Sq) : Int := (l.1 + l.2.2 - f.1) * (l.2.1 + l.2.2 - f.2.1)
def btw (O : List Sq) (f l : Sq) : List Int := if rectA f l - are (O.filter (insB f l)) ≠ 0 then [] else inP f l O O.length
theorem inP_step {f l : Sq} {O : List Sq} {k : Nat} {q : Sq} (h : O[k]? = some q) : inP f l O (k + 1) = if insB f l q = true then inP f l O k ++ [(k : Int)] else inP f l O k := by
  have e : O.getD k (0, 0, 0) = q := by rw [List.getD, h]; rfl
  unfold inP
  rw [List.range_succ, List.filter_append, List.map_append]
  by_cases hi : insB f l q = true
  · rw [if_pos hi]
    simp [List.filter_cons, e, hi]
    rw [List.getD] at e
    simp [e, hi]
  · rw [if_neg hi]
    simp [List.filter_cons]
    rw [List.getD] at e
    simp [e, hi]
theorem fil_step {f l : Sq} {O : List Sq} {k : Nat} {q : Sq} (h : O[k]? = some q) : fil f l O (k + 1) = if insB f l q = true then fil f l O k ++ [q] else fil f l O k := by
  unfold fil
  rw [take_snoc h, List.filter_append]
  by_cases hi : insB f l q = true
  · rw [if_pos hi]; simp [hi]
  · rw [if_neg hi]; simp [hi]
theorem inP_len {f l : Sq} {O : List Sq} {k : Nat} : (inP f l O k).length ≤ k := by
  unfold inP
  rw [List.length_map]
  exact Nat.le_trans (List.length_filter_le _ _) (by simp)

theorem blk_lt {B : Tr Blk} {lo hi sz n : Nat} {L : List Value} {v : Value} (s : SlV B lo hi sz n L v) (b : Nat) (hb : some b = blkOf v) : b < hi := by
  cases s with
  | nil _ _ => cases hb
  | emp _ _ => cases hb
  | mk _ _ hhi _ _ _ => simp only [blkOf, Option.some.injEq] at hb; omega
theorem mul_ab {a b : Int} (h1 : -1000 ≤ a) (h2 : a ≤ 1000) (h3 : -1000 ≤ b) (h4 : b ≤ 1000) : -1000000 ≤ a * b ∧ a * b ≤ 1000000 := by
  have k1 : (a + 1000) * (b + 1000) ≤ 2000 * 2000 := Int.mul_le_mul (by omega) (by omega) (by omega) (by omega)
  have k2 : 0 ≤ (a + 1000) * (b + 1000) := Int.mul_nonneg (by omega) (by omega)
  have k3 : 0 ≤ (1000 - a) * (1000 - b) := Int.mul_nonneg (by omega) (by omega)
  have k4 : 0 ≤ (1000 - a) * (b + 1000) := Int.mul_nonneg (by omega) (by omega)
  have k5 : 0 ≤ (a + 1000) * (1000 - b) := Int.mul_nonneg (by omega) (by omega)
  simp only [Int.add_mul, Int.mul_add, Int.sub_mul, Int.mul_sub] at *
  omega

set_option maxRecDepth 100000 in
set_option maxHeartbeats 16000000 in
theorem between_spec {G lo hi c : Nat} {O : List Sq} {A : Option Addr} {W Ht : Int} {f l : Sq} {h : H} (hG : G ≤ h.next) (hhi : hi ≤ h.next) (hv : SlV h.blks lo hi 3 O.length (sqc O) (.slice A O.length c)) (hl : O.length ≤ 24) (hok : ∀ q ∈ O, okSq q) (hf : okSq f) (hla : okSq l) :
    Spec Tryd.prog (En G) 70 [.agg #[.slice A O.length c, .int .i64 W, .int .i64 Ht], sqv f, sqv l] h fun v h' => (v = .slice none 0 0 ∧ btw O f l = []) ∨ ∃ A', v = .slice A' (btw O f l).length (btw O f l).length ∧ SlV h'.blks h.next h'.next 1 (btw O f l).length (ints (btw O f l)) v := by
  refine CallsE_enter (En_known (by decide)) (En_f.trans Tryd.func70) rfl ⟨Nat.le_of_ble_eq_true rfl, by decide⟩ fun Q' hQ' => ?_
  simp only [Tryd.f70, go_sem,reduceIte,Nat.reduceEqDiff,Nat.reduceLT]
  refine At_box (v := .agg #[.slice A O.length c, .int .i64 W, .int .i64 Ht]) (by (simp only [go_sem,reduceIte,Nat.reduceEqDiff,Nat.reduceLT]) <;> rfl) (by omega) fun h1 hn1 => ?_
  have v3 := hn1.var
  rw [show (Value.agg #[.slice A O.length c, .int .i64 W, .int .i64 Ht]).cells.toList = [.slice A O.length c, .int .i64 W, .int .i64 Ht] from rfl] at v3
  have n1 := hn1.next
  have pr1 : Pres h.next h h1 := hn1.pres (Nat.le_refl _)
  try simp only [go_sem,reduceIte,Nat.reduceEqDiff,Nat.reduceLT]
  refine At_box (v := sqv f) (by (simp only [go_sem,reduceIte,Nat.reduceEqDiff,Nat.reduceLT]) <;> rfl) (by omega) fun h2 hn2 => ?_
  have v4 := hn2.var
  rw [sqv_cells] at v4
  have n2 := hn2.next
  have pr2 : Pres h1.next h1 h2 := hn2.pres (Nat.le_refl _)
  try simp only [go_sem,reduceIte,Nat.reduceEqDiff,Nat.reduceLT]
  refine At_box (v := sqv l) (by (simp only [go_sem,reduceIte,Nat.reduceEqDiff,Nat.reduceLT]) <;> rfl) (by omega) fun h3 hn3 => ?_
  have v5 := hn3.var
  rw [sqv_cells] at v5
  have n3 := hn3.next
  have pr3 : Pres h2.next h2 h3 := hn3.pres (Nat.le_refl _)
  have v4' := v4.mono (B' := h3.blks) (pr3.get _ (by omega))
  have v3' := v3.mono (B' := h3.blks) ((pr3.get _ (by omega)).trans (pr2.get _ (by omega)))
  have pr03 : Pres h.next h h3 := pr1.trans ((pr2.le (by omega)).trans (pr3.le (by omega)))
  obtain ⟨f0, f1, f2⟩ := v4'.sq
  obtain ⟨l0, l1, l2⟩ := v5.sq
  obtain ⟨fa1, fa2, ⟨fa3, fa4⟩, fa5, fa6⟩ := hf
  obtain ⟨la1, la2, ⟨la3, la4⟩, la5, la6⟩ := hla
  try simp only [go_sem,reduceIte,Nat.reduceEqDiff,Nat.reduceLT]
  refine WK_regionT 11 ⟨by kernel_rfl, by kernel_rfl, by kernel_rfl⟩ ?_
  obtain ⟨RA, hRA⟩ : ∃ RA : Int, RA = (l.1 + l.2.2 - f.1) * (l.2.1 + l.2.2 - f.2.1) := ⟨_, rfl⟩
  have hRAb : -1000000 ≤ RA ∧ RA ≤ 1000000 := by
    rw [hRA]
    exact mul_ab (by omega) (by omega) (by omega) (by omega)
  have c0 : loadv h3.blks h.next 0 = some (.slice A O.length c) := v3'.load (i := 0) (by simp only [List.length_cons, List.length_nil]; omega)
  simp (disch := omega) only [go_sem,reduceIte,Nat.reduceEqDiff,Nat.reduceLT, fld61_0, fld61_1, fld61_2, fld64_0, Nat.add_zero, Nat.zero_add, load3, load22, len22, c0, f0, f1, f2, l0, l1, l2, wrap_i64, ← hRA]
  have hareb : ∀ k, 0 ≤ are (fil f l O k) ∧ are (fil f l O k) ≤ 24000000 := fun k => by
    have hb := (bounds (fil f l O k) fun q hq => hok q (List.mem_of_mem_take ((List.mem_filter.1 hq).1))).2.2
    have : (fil f l O k).length ≤ O.length := Nat.le_trans (List.length_filter_le _ _) (by simp; omega)
    omega
  refine WK_loopN (fun j α h4 => ∃ (i : Nat) (A' : Option Addr), i + j = O.length ∧ Pres h3.next h3 h4 ∧ SlV h4.blks h3.next h4.next 1 (inP f l O i).length (ints (inP f l O i)) (.slice A' (inP f l O i).length (inP f l O i).length) ∧ α.get 3 = some (.pointer (some ⟨h.next, 0, none⟩)) ∧ α.get 4 = some (.pointer (some ⟨h1.next, 0, none⟩)) ∧ α.get 7 = some (.int .i64 (l.1 + l.2.2)) ∧ α.get 8 = some (.int .i64 (l.2.1 + l.2.2)) ∧ α.get 9 = some (.int .i64 (RA - are (fil f l O i))) ∧ α.get 10 = some (.slice A' (inP f l O i).length (inP f l O i).length) ∧ α.get 33 = some (.slice A O.length c) ∧ α.get 34 = some (.int .i64 O.length) ∧ α.get 35 = some (.int .i64 i)) O.length
    ⟨0, none, by omega, Pres.refl _ _, .nil rfl rfl, by simp only [go_sem,reduceIte,Nat.reduceEqDiff,Nat.reduceLT], by simp only [go_sem,reduceIte,Nat.reduceEqDiff,Nat.reduceLT], by simp only [go_sem,reduceIte,Nat.reduceEqDiff,Nat.reduceLT], by simp only [go_sem,reduceIte,Nat.reduceEqDiff,Nat.reduceLT], by (simp only [go_sem,reduceIte,Nat.reduceEqDiff,Nat.reduceLT]) <;> (simp [fil, are]), by (simp only [go_sem,reduceIte,Nat.reduceEqDiff,Nat.reduceLT]) <;> rfl, by simp only [go_sem,reduceIte,Nat.reduceEqDiff,Nat.reduceLT], by simp only [go_sem,reduceIte,Nat.reduceEqDiff,Nat.reduceLT], by (simp only [go_sem,reduceIte,Nat.reduceEqDiff,Nat.reduceLT]) <;> rfl⟩ (by omega) ?_
  rintro J j α h4 ⟨i, A', hij, pr, hs, e3, e4, e7, e8, e9, e10, e33, e34, e35⟩ hJ
  have nx := pr.next
  by_cases hlt : (i : Int) < (O.length : Int)
  · obtain ⟨q, hq⟩ : ∃ q, O[i]? = some q := ⟨_, List.getElem?_eq_getElem (show i < O.length by omega)⟩
    obtain ⟨qa1, qa2, ⟨qa3, qa4⟩, qa5, qa6⟩ := hok q (List.mem_of_getElem? hq)
    have hv4 := hv.mono (B' := h4.blks) fun b _ hb => (pr.get b (by omega)).trans (pr03.get b (by omega))
    obtain ⟨bA, oA, rfl, _, _, _⟩ := hv4.at_ (by omega)
    obtain ⟨la, _, _, _⟩ := hv4.sq_at (G := G) hq rfl
    simp (maxSteps := 3000000) (disch := omega) only [go_sem,reduceIte,Nat.reduceEqDiff,Nat.reduceLT, e3, e4, e7, e8, e9, e10, e33, e34, e35, hlt, idxA22, Int.toNat_natCast, la]
    refine At_alloc i61 zero61 rfl (by omega) fun h5 hn5 => ?_
    have n5 := hn5.next
    have w5 := hn5.var
    have p5 : Pres h4.next h4 h5 := hn5.pres (Nat.le_refl _)
    try simp only [go_sem,reduceIte,Nat.reduceEqDiff,Nat.reduceLT]
    refine At_storeV (v := sqv q) i61 (by simp only [go_sem,reduceIte,Nat.reduceEqDiff,Nat.reduceLT]) (by (simp only [go_sem,reduceIte,Nat.reduceEqDiff,Nat.reduceLT]) <;> rfl) w5 (by rw [size61]; rfl) (by rw [size61]; rfl) rfl (by rw [En_G]; omega) fun h6 hs6 v6 => ?_
    rw [sqv_cells] at v6
    have p6 : Pres h4.next h4 h6 := p5.trans (hs6.pres (Nat.le_refl _))
    have n6 : h6.next = h5.next := hs6.next
    obtain ⟨q0, q1, q2⟩ := v6.sq
    have pr6 : Pres h3.next h3 h6 := pr.trans (p6.le (by omega))
    have hs6' := hs.mono (B' := h6.blks) fun b _ hb => p6.get b hb
    obtain ⟨g0, g1, g2⟩ := (v4'.mono (B' := h6.blks) (pr6.get _ (by omega))).sq
    have out : ∀ α' : Tr Value, insB f l q = false → α'.get 3 = some (.pointer (some ⟨h.next, 0, none⟩)) → α'.get 4 = some (.pointer (some ⟨h1.next, 0, none⟩)) → α'.get 7 = some (.int .i64 (l.1 + l.2.2)) → α'.get 8 = some (.int .i64 (l.2.1 + l.2.2)) → α'.get 9 = some (.int .i64 (RA - are (fil f l O i))) → α'.get 10 = some (.slice A' (inP f l O i).length (inP f l O i).length) → α'.get 33 = some (.slice (some ⟨bA, oA, none⟩) O.length c) → α'.get 34 = some (.int .i64 O.length) → α'.get 35 = some (.int .i64 (i + 1 : Nat)) → J α' h6 := fun α' hin a3 a4 a7 a8 a9 a10 a33 a34 a35 => by
      have eP := inP_step (f := f) (l := l) hq
      have eF := fil_step (f := f) (l := l) hq
      rw [if_neg (by rw [hin]; decide)] at eP eF
      exact hJ (j - 1) _ _ (by omega) ⟨i + 1, A', by omega, pr6, by rw [eP]; exact hs6'.wide (Nat.le_refl _) (by omega), a3, a4, a7, a8, by rw [eF]; exact a9, by rw [eP]; exact a10, a33, a34, a35⟩
    by_cases c1 : f.1 ≤ q.1
    · by_cases c2 : f.2.1 ≤ q.2.1
      · by_cases c3 : q.1 + q.2.2 ≤ l.1 + l.2.2
        · by_cases c4 : q.2.1 + q.2.2 ≤ l.2.1 + l.2.2
          · have hin : insB f l q = true := by unfold insB; rw [decide_eq_true c1, decide_eq_true c2, decide_eq_true c3, decide_eq_true c4]; rfl
            have eP := inP_step (f := f) (l := l) hq
            have eF := fil_step (f := f) (l := l) hq
            rw [if_pos hin] at eP eF
            have hare := hareb i
            have hsq := sq_le qa1 qa2
            have hPl := inP_len (f := f) (l := l) (O := O) (k := i)
            simp (maxSteps := 3000000) (disch := omega) only [go_sem,reduceIte,Nat.reduceEqDiff,Nat.reduceLT, e3, e4, e7, e8, e9, e10, e33, e34, e35, fld61_0, fld61_1, fld61_2, Nat.zero_add, load3, q0, q1, q2, g0, g1, g2, wrap_i64, c1, c2, c3, c4]
            refine At_push (lo := h3.next) (hi := h4.next) (L := ints (inP f l O i)) (vs := [.int .i64 (i : Int)]) u27 i3 zero3 (by rw [size3, bytes3]; rfl) (by (simp only [go_sem,reduceIte,Nat.reduceEqDiff,Nat.reduceLT]) <;> rfl) (by rw [size3]; rfl) (by rw [size3]; rfl) rfl (by (simp only [go_sem,reduceIte,Nat.reduceEqDiff,Nat.reduceLT, e10]) <;> rfl) (by rw [size3]; exact hs6') (by omega) (Nat.le_refl _) (by rw [En_G]; omega) (by omega) (by decide) (by decide) (by decide) fun h7 hpu => ?_
            rw [size3, show ints (inP f l O i) ++ [Value.int .i64 (i : Int)] = ints (inP f l O (i + 1)) by rw [eP]; simp [ints]] at hpu
            have n7 := hpu.next
            have hpl1 : (inP f l O (i + 1)).length = (inP f l O i).length + 1 := by rw [eP]; simp
            have hs7 := hpu.slv (n := (inP f l O (i + 1)).length) (c := (inP f l O (i + 1)).length) (by rw [ints_len, Nat.mul_one])
            have pr7 : Pres h3.next h6 h7 := hpu.pres (by omega) fun b hb => hs6'.blk b hb
            have g12 : h7.blks.get h4.next = h6.blks.get h4.next := by
              rw [hpu.get _ (by omega), if_neg]
              intro e
              have := blk_lt hs6' h4.next e.symm
              omega
            have q2' := (v6.mono (B' := h7.blks) g12).sq.2.2
            simp (maxSteps := 3000000) (disch := omega) only [go_sem,reduceIte,Nat.reduceEqDiff,Nat.reduceLT, e3, e4, e7, e8, e9, e33, e34, e35, fld61_2, Nat.zero_add, load3, q2', wrap_i64]
            exact hJ (j - 1) _ _ (by omega) ⟨i + 1, some ⟨h6.next + 1, 0, none⟩, by omega, pr6.trans pr7, hs7.wide (by omega) (Nat.le_refl _), by simp only [go_sem,reduceIte,Nat.reduceEqDiff,Nat.reduceLT, e3], by simp only [go_sem,reduceIte,Nat.reduceEqDiff,Nat.reduceLT, e4], by simp only [go_sem,reduceIte,Nat.reduceEqDiff,Nat.reduceLT, e7], by simp only [go_sem,reduceIte,Nat.reduceEqDiff,Nat.reduceLT, e8], by (simp only [go_sem,reduceIte,Nat.reduceEqDiff,Nat.reduceLT]) <;> (rw [eF, are_snoc, Int.sub_sub]), by rw [hpl1]; simp only [go_sem,reduceIte,Nat.reduceEqDiff,Nat.reduceLT], by simp only [go_sem,reduceIte,Nat.reduceEqDiff,Nat.reduceLT, e33], by simp only [go_sem,reduceIte,Nat.reduceEqDiff,Nat.reduceLT, e34], by (simp only [go_sem,reduceIte,Nat.reduceEqDiff,Nat.reduceLT]) <;> rfl⟩
          · simp (maxSteps := 3000000) (disch := omega) only [go_sem,reduceIte,Nat.reduceEqDiff,Nat.reduceLT, e3, e4, e7, e8, e9, e10, e33, e34, e35, fld61_0, fld61_1, fld61_2, Nat.zero_add, load3, q0, q1, q2, g0, g1, g2, wrap_i64, c1, c2, c3, c4]
            exact out _ (by unfold insB; rw [decide_eq_false c4]; simp) (by simp only [go_sem,reduceIte,Nat.reduceEqDiff,Nat.reduceLT, e3]) (by simp only [go_sem,reduceIte,Nat.reduceEqDiff,Nat.reduceLT, e4]) (by simp only [go_sem,reduceIte,Nat.reduceEqDiff,Nat.reduceLT, e7]) (by simp only [go_sem,reduceIte,Nat.reduceEqDiff,Nat.reduceLT, e8]) (by simp only [go_sem,reduceIte,Nat.reduceEqDiff,Nat.reduceLT, e9]) (by simp only [go_sem,reduceIte,Nat.reduceEqDiff,Nat.reduceLT, e10]) (by simp only [go_sem,reduceIte,Nat.reduceEqDiff,Nat.reduceLT, e33]) (by simp only [go_sem,reduceIte,Nat.reduceEqDiff,Nat.reduceLT, e34]) (by (simp only [go_sem,reduceIte,Nat.reduceEqDiff,Nat.reduceLT]) <;> rfl)
        · simp (maxSteps := 3000000) (disch := omega) only [go_sem,reduceIte,Nat.reduceEqDiff,Nat.reduceLT, e3, e4, e7, e8, e9, e10, e33, e34, e35, fld61_0, fld61_1, fld61_2, Nat.zero_add, load3, q0, q1, q2, g0, g1, g2, wrap_i64, c1, c2, c3]
          exact out _ (by unfold insB; rw [decide_eq_false c3]; simp) (by simp only [go_sem,reduceIte,Nat.reduceEqDiff,Nat.reduceLT, e3]) (by simp only [go_sem,reduceIte,Nat.reduceEqDiff,Nat.reduceLT, e4]) (by simp only [go_sem,reduceIte,Nat.reduceEqDiff,Nat.reduceLT, e7]) (by simp only [go_sem,reduceIte,Nat.reduceEqDiff,Nat.reduceLT, e8]) (by simp only [go_sem,reduceIte,Nat.reduceEqDiff,Nat.reduceLT, e9]) (by simp only [go_sem,reduceIte,Nat.reduceEqDiff,Nat.reduceLT, e10]) (by simp only [go_sem,reduceIte,Nat.reduceEqDiff,Nat.reduceLT, e33]) (by simp only [go_sem,reduceIte,Nat.reduceEqDiff,Nat.reduceLT, e34]) (by (simp only [go_sem,reduceIte,Nat.reduceEqDiff,Nat.reduceLT]) <;> rfl)
      · simp (maxSteps := 3000000) (disch := omega) only [go_sem,reduceIte,Nat.reduceEqDiff,Nat.reduceLT, e3, e4, e7, e8, e9, e10, e33, e34, e35, fld61_0, fld61_1, fld61_2, Nat.zero_add, load3, q0, q1, q2, g0, g1, g2, wrap_i64, c1, c2]
        exact out _ (by unfold insB; rw [decide_eq_false c2]; simp) (by simp only [go_sem,reduceIte,Nat.reduceEqDiff,Nat.reduceLT, e3]) (by simp only [go_sem,reduceIte,Nat.reduceEqDiff,Nat.reduceLT, e4]) (by simp only [go_sem,reduceIte,Nat.reduceEqDiff,Nat.reduceLT, e7]) (by simp only [go_sem,reduceIte,Nat.reduceEqDiff,Nat.reduceLT, e8]) (by simp only [go_sem,reduceIte,Nat.reduceEqDiff,Nat.reduceLT, e9]) (by simp only [go_sem,reduceIte,Nat.reduceEqDiff,Nat.reduceLT, e10]) (by simp only [go_sem,reduceIte,Nat.reduceEqDiff,Nat.reduceLT, e33]) (by simp only [go_sem,reduceIte,Nat.reduceEqDiff,Nat.reduceLT, e34]) (by (simp only [go_sem,reduceIte,Nat.reduceEqDiff,Nat.reduceLT]) <;> rfl)
    · simp (maxSteps := 3000000) (disch := omega) only [go_sem,reduceIte,Nat.reduceEqDiff,Nat.reduceLT, e3, e4, e7, e8, e9, e10, e33, e34, e35, fld61_0, fld61_1, fld61_2, Nat.zero_add, load3, q0, q1, q2, g0, g1, g2, wrap_i64, c1]
      exact out _ (by unfold insB; rw [decide_eq_false c1]; simp) (by simp only [go_sem,reduceIte,Nat.reduceEqDiff,Nat.reduceLT, e3]) (by simp only [go_sem,reduceIte,Nat.reduceEqDiff,Nat.reduceLT, e4]) (by simp only [go_sem,reduceIte,Nat.reduceEqDiff,Nat.reduceLT, e7]) (by simp only [go_sem,reduceIte,Nat.reduceEqDiff,Nat.reduceLT, e8]) (by simp only [go_sem,reduceIte,Nat.reduceEqDiff,Nat.reduceLT, e9]) (by simp only [go_sem,reduceIte,Nat.reduceEqDiff,Nat.reduceLT, e10]) (by simp only [go_sem,reduceIte,Nat.reduceEqDiff,Nat.reduceLT, e33]) (by simp only [go_sem,reduceIte,Nat.reduceEqDiff,Nat.reduceLT, e34]) (by (simp only [go_sem,reduceIte,Nat.reduceEqDiff,Nat.reduceLT]) <;> rfl)
  · obtain rfl : i = O.length := by omega
    have hfl : fil f l O O.length = O.filter (insB f l) := by unfold fil; rw [List.take_length]
    have hare := hareb O.length
    have hrA : rectA f l = RA := hRA.symm
    by_cases hz : RA - are (fil f l O O.length) = 0
    · have dz : decide (RA - are (fil f l O O.length) ≠ 0) = false := decide_eq_false fun e => e hz
      have hb : btw O f l = inP f l O O.length := by unfold btw; rw [hrA, ← hfl, if_neg fun e => e hz]
      simp (maxSteps := 3000000) (disch := omega) only [go_sem,reduceIte,Nat.reduceEqDiff,Nat.reduceLT, e3, e4, e7, e8, e9, e10, e33, e34, e35, hlt, dz]
      refine hQ' _ _ ⟨pr03.trans (pr.le (by omega)), .inr ⟨A', by rw [hb], ?_⟩⟩
      rw [hb]
      exact hs.wide (by omega) (Nat.le_refl _)
    · have dz : decide (RA - are (fil f l O O.length) ≠ 0) = true := decide_eq_true hz
      have hb : btw O f l = [] := by unfold btw; rw [hrA, ← hfl, if_pos hz]
      simp (maxSteps := 3000000) (disch := omega) only [go_sem,reduceIte,Nat.reduceEqDiff,Nat.reduceLT, e3, e4, e7, e8, e9, e10, e33, e34, e35, hlt, dz]
      exact hQ' _ _ ⟨pr03.trans (pr.le (by omega)), .inl ⟨rfl, hb⟩⟩
end
end Go.Proofs.YtnhbkoeomefkdaaDoor.Ev.L

/- Squares compared; the least part. -/
set_option linter.unusedVariables false
set_option linter.unusedSimpArgs false
namespace Go.Proofs.YtnhbkoeomefkdaaDoor.Ev.L
open Go Go.Proofs Go.Proofs.YtnhbkoeomefkdaaDoor.Ev
noncomputable section
theorem eq61g {d : Nat} {x y s x' y' s' : Int} : pureRun Tryd.prog (Op.equalIn (d + 2) 61 (.agg #[.int .i64 x, .int .i64 y, .int .i64 s]) (.agg #[.int .i64 x', .int .i64 y', .int .i64 s'])) = some (x == x' && y == y' && s == s') := by
  rw [Op.equalIn]
  simp only [pureRun_bindS, und61, Option.bind_some, pureProg, held61, Bool.false_eq_true, if_false]
  rw [← Array.forIn_toList, flds61]
  by_cases h1 : x = x'
  · by_cases h2 : y = y'
    · by_cases h3 : s = s'
      · simp [List.forIn_cons, pureRun_bindS, part3_0, part3_1, part3_2, eq3, plain, pureRun_pure, h1, h2, h3]
      · simp [List.forIn_cons, pureRun_bindS, part3_0, part3_1, part3_2, eq3, plain, pureRun_pure, h1, h2, h3]
    · simp [List.forIn_cons, pureRun_bindS, part3_0, part3_1, part3_2, eq3, plain, pureRun_pure, h1, h2]
  · simp [List.forIn_cons, pureRun_bindS, part3_0, part3_1, part3_2, eq3, plain, pureRun_pure, h1]
theorem eqSq {G : Nat} {a b : Sq} : binO Tryd.prog (En G) .eql 61 (some (sqv a)) (some (sqv b)) = some (.bool (decide (a = b))) := by
  obtain ⟨x, y, s⟩ := a
  obtain ⟨x', y', s'⟩ := b
  show binO Tryd.prog (En G) .eql 61 (some (.agg #[.int .i64 x, .int .i64 y, .int .i64 s])) (some (.agg #[.int .i64 x', .int .i64 y', .int .i64 s'])) = _
  have hg : pureRun Tryd.prog (eqGuard .eql 61 (.tmp 0) (.tmp 0) (.agg #[.int .i64 x, .int .i64 y, .int .i64 s]) (.agg #[.int .i64 x', .int .i64 y', .int .i64 s'])) = some () := by
    simp [eqGuard, pureRun_bindS, pureProg, guard61, pureRun_pure]
  have hd : (x == x' && y == y' && s == s') = decide ((x, y, s) = (x', y', s')) := by
    rw [Bool.eq_iff_iff]
    simp [and_assoc]
  have hb : pureRun Tryd.prog (binOp .eql 61 (.agg #[.int .i64 x, .int .i64 y, .int .i64 s]) (.agg #[.int .i64 x', .int .i64 y', .int .i64 s'])) = some (.bool (x == x' && y == y' && s == s')) := by
    simp only [binOp, Op.equal, pureRun_bindS]
    have : Op.maxDepth = 9998 + 2 := rfl
    rw [this, eq61g]
    rfl
  have hs : slowBin Tryd.prog .eql 61 (.agg #[.int .i64 x, .int .i64 y, .int .i64 s]) (.agg #[.int .i64 x', .int .i64 y', .int .i64 s']) = some (.bool (x == x' && y == y' && s == s')) := by
    unfold slowBin
    rw [pureRun_bindS, hg]
    simp only [Option.bind_some, hb]
    rfl
  have hp : (plainA (.agg #[.int .i64 x, .int .i64 y, .int .i64 s]) && plainA (.agg #[.int .i64 x', .int .i64 y', .int .i64 s'])) = true := rfl
  have hf : fastBin .eql (.agg #[.int .i64 x, .int .i64 y, .int .i64 s]) (.agg #[.int .i64 x', .int .i64 y', .int .i64 s']) = none := rfl
  simp only [binO, hp, if_true, hf, hs, hd]

/-- a part is taken if it is less -/
def stp (O : List Sq) (lst part : List Int) : List Int := if part = [] ∨ part.length = O.length then lst else if lst = [] ∨ cmpP part lst < 0 then part else lst
def inn (O : List Sq) (f : Sq) : Nat → List Int → List Int
  | 0, lst => lst
  | k + 1, lst => if f = O.getD k (0, 0, 0) then inn O f k lst else stp O (inn O f k lst) (btw O f (O.getD k (0, 0, 0)))
def outr (O : List Sq) : Nat → List Int
  | 0 => []
  | i + 1 => inn O (O.getD i (0, 0, 0)) O.length (outr O i)
theorem eqlNil27 {P : Program} {G n c : Nat} {A : Option Addr} : binO P (En G) .eql 27 (some (.slice A n c)) (some (.slice none 0 0)) = some (.bool A.isNone) := by
  have h : evNil (En G) 27 (.slice A n c) (.slice none 0 0) = some A.isNone := by
    simp only [evNil, u27]
    cases A <;> rfl
  have hp : (plainA (.slice A n c) && plainA (.slice none 0 0)) = false := rfl
  simp only [binO, hp, h]
  rfl
theorem btw_len {O : List Sq} {f l : Sq} : (btw O f l).length ≤ O.length := by
  unfold btw
  split
  · simp
  · exact inP_len

set_option maxRecDepth 100000 in
set_option maxHeartbeats 32000000 in
theorem leastPart_spec {G lo hi c : Nat} {O : List Sq} {A : Option Addr} {W Ht : Int} {h : H} (hG : G ≤ h.next) (hhi : hi ≤ h.next) (hv : SlV h.blks lo hi 3 O.length (sqc O) (.slice A O.length c)) (hl : O.length ≤ 24) (hok : ∀ q ∈ O, okSq q) :
    Spec Tryd.prog (En G) 48 [.agg #[.slice A O.length c, .int .i64 W, .int .i64 Ht]] h fun v h' => ∃ B, v = .slice B (outr O O.length).length (outr O O.length).length ∧ SlV h'.blks h.next h'.next 1 (outr O O.length).length (ints (outr O O.length)) v := by
  refine CallsE_enter (En_known (by decide)) (En_f.trans Tryd.func48) rfl ⟨Nat.le_of_ble_eq_true rfl, by decide⟩ fun Q' hQ' => ?_
  simp only [Tryd.f48, go_sem,reduceIte,Nat.reduceEqDiff,Nat.reduceLT]
  refine At_box (v := .agg #[.slice A O.length c, .int .i64 W, .int .i64 Ht]) (by (simp only [go_sem,reduceIte,Nat.reduceEqDiff,Nat.reduceLT]) <;> rfl) (by omega) fun h1 hn1 => ?_
  have v1 := hn1.var
  rw [show (Value.agg #[.slice A O.length c, .int .i64 W, .int .i64 Ht]).cells.toList = [.slice A O.length c, .int .i64 W, .int .i64 Ht] from rfl] at v1
  have n1 := hn1.next
  have pr1 : Pres h.next h h1 := hn1.pres (Nat.le_refl _)
  have c0 : loadv h1.blks h.next 0 = some (.slice A O.length c) := v1.load (i := 0) (by simp only [List.length_cons, List.length_nil]; omega)
  simp (disch := omega) only [go_sem,reduceIte,Nat.reduceEqDiff,Nat.reduceLT, fld64_0, Nat.add_zero, Nat.zero_add, load22, len22, c0]
  refine WK_loopN (fun j α h2 => ∃ (i : Nat) (B : Option Addr), i + j = O.length ∧ Pres h1.next h1 h2 ∧ SlV h2.blks h1.next h2.next 1 (outr O i).length (ints (outr O i)) (.slice B (outr O i).length (outr O i).length) ∧ (outr O i = [] → B = none) ∧ (outr O i).length ≤ O.length ∧ α.get 1 = some (.pointer (some ⟨h.next, 0, none⟩)) ∧ α.get 3 = some (.slice B (outr O i).length (outr O i).length) ∧ α.get 10 = some (.slice A O.length c) ∧ α.get 11 = some (.int .i64 O.length) ∧ α.get 12 = some (.int .i64 i)) O.length
    ⟨0, none, by omega, Pres.refl _ _, .nil rfl rfl, fun _ => rfl, by simp [outr], by simp only [go_sem,reduceIte,Nat.reduceEqDiff,Nat.reduceLT], by (simp only [go_sem,reduceIte,Nat.reduceEqDiff,Nat.reduceLT]) <;> rfl, by simp only [go_sem,reduceIte,Nat.reduceEqDiff,Nat.reduceLT], by simp only [go_sem,reduceIte,Nat.reduceEqDiff,Nat.reduceLT], by (simp only [go_sem,reduceIte,Nat.reduceEqDiff,Nat.reduceLT]) <;> rfl⟩ (by omega) ?_
  rintro J j α h2 ⟨i, B, hij, pr, hs, hBn, hll, e1, e3, e10, e11, e12⟩ hJ
  have nx := pr.next
  by_cases hlt : (i : Int) < (O.length : Int)
  · obtain ⟨f, hf⟩ : ∃ q, O[i]? = some q := ⟨_, List.getElem?_eq_getElem (show i < O.length by omega)⟩
    have hfD : O.getD i (0, 0, 0) = f := by rw [List.getD, hf]; rfl
    have hfok := hok f (List.mem_of_getElem? hf)
    have hv2 := hv.mono (B' := h2.blks) fun b _ hb => (pr.get b (by omega)).trans (pr1.get b (by omega))
    obtain ⟨bA, oA, rfl, _, _, _⟩ := hv2.at_ (by omega)
    obtain ⟨la, _, _, _⟩ := hv2.sq_at (G := G) hf rfl
    simp (disch := omega) only [go_sem,reduceIte,Nat.reduceEqDiff,Nat.reduceLT, e1, e3, e10, e11, e12, hlt, idxA22, Int.toNat_natCast, la]
    refine At_alloc i61 zero61 rfl (by omega) fun h4 hn4 => ?_
    have n4 := hn4.next
    have w4 := hn4.var
    have p4 : Pres h2.next h2 h4 := hn4.pres (Nat.le_refl _)
    try simp only [go_sem,reduceIte,Nat.reduceEqDiff,Nat.reduceLT]
    refine At_storeV (v := sqv f) i61 (by simp only [go_sem,reduceIte,Nat.reduceEqDiff,Nat.reduceLT]) (by (simp only [go_sem,reduceIte,Nat.reduceEqDiff,Nat.reduceLT]) <;> rfl) w4 (by rw [size61]; rfl) (by rw [size61]; rfl) rfl (by rw [En_G]; omega) fun h5 hs5 v5 => ?_
    rw [sqv_cells] at v5
    have p5 : Pres h2.next h2 h5 := p4.trans (hs5.pres (Nat.le_refl _))
    have n5 : h5.next = h4.next := hs5.next
    have pr5 : Pres h1.next h1 h5 := pr.trans (p5.le (by omega))
    have c5 : loadv h5.blks h.next 0 = some (.slice (some ⟨bA, oA, none⟩) O.length c) := (loadv_eq (B := h1.blks) (pr5.get _ (by omega)) _).trans c0
    have hs5' := (hs.mono (B' := h5.blks) fun b _ hb => p5.get b hb).wide (Nat.le_refl _) (show h2.next ≤ h5.next by omega)
    simp (disch := omega) only [go_sem,reduceIte,Nat.reduceEqDiff,Nat.reduceLT, e1, e3, e10, e11, e12, fld64_0, Nat.add_zero, Nat.zero_add, load22, len22, c5]
    refine WK_loopN (fun j α h6 => ∃ (k : Nat) (B : Option Addr), k + j = O.length ∧ Pres h5.next h5 h6 ∧ SlV h6.blks h1.next h6.next 1 (inn O f k (outr O i)).length (ints (inn O f k (outr O i))) (.slice B (inn O f k (outr O i)).length (inn O f k (outr O i)).length) ∧ (inn O f k (outr O i) = [] → B = none) ∧ (inn O f k (outr O i)).length ≤ O.length ∧ α.get 1 = some (.pointer (some ⟨h.next, 0, none⟩)) ∧ α.get 3 = some (.slice B (inn O f k (outr O i)).length (inn O f k (outr O i)).length) ∧ α.get 10 = some (.slice (some ⟨bA, oA, none⟩) O.length c) ∧ α.get 11 = some (.int .i64 O.length) ∧ α.get 12 = some (.int .i64 i) ∧ α.get 5 = some (.pointer (some ⟨h2.next, 0, none⟩)) ∧ α.get 17 = some (.slice (some ⟨bA, oA, none⟩) O.length c) ∧ α.get 18 = some (.int .i64 O.length) ∧ α.get 19 = some (.int .i64 k)) O.length
      ⟨0, B, by omega, Pres.refl _ _, hs5', hBn, hll, by simp only [go_sem,reduceIte,Nat.reduceEqDiff,Nat.reduceLT, e1], by (simp only [go_sem,reduceIte,Nat.reduceEqDiff,Nat.reduceLT, e3]) <;> rfl, by simp only [go_sem,reduceIte,Nat.reduceEqDiff,Nat.reduceLT, e10], by simp only [go_sem,reduceIte,Nat.reduceEqDiff,Nat.reduceLT, e11], by simp only [go_sem,reduceIte,Nat.reduceEqDiff,Nat.reduceLT, e12], by simp only [go_sem,reduceIte,Nat.reduceEqDiff,Nat.reduceLT], by simp only [go_sem,reduceIte,Nat.reduceEqDiff,Nat.reduceLT], by simp only [go_sem,reduceIte,Nat.reduceEqDiff,Nat.reduceLT], by (simp only [go_sem,reduceIte,Nat.reduceEqDiff,Nat.reduceLT]) <;> rfl⟩ (by omega) ?_
    clear e1 e3 e10 e11 e12 hs5' hs hBn hll
    rintro J2 j2 α h6 ⟨k, B2, hkj, pr6, hs, hBn, hll, e1, e3, e10, e11, e12, e5, e17, e18, e19⟩ hJ2
    have n6 := pr6.next
    by_cases hkl : (k : Int) < (O.length : Int)
    · obtain ⟨l, hl'⟩ : ∃ q, O[k]? = some q := ⟨_, List.getElem?_eq_getElem (show k < O.length by omega)⟩
      have hlD : O.getD k (0, 0, 0) = l := by rw [List.getD, hl']; rfl
      have hlok := hok l (List.mem_of_getElem? hl')
      have hv6 := hv2.mono (B' := h6.blks) fun b hb1 hb => (pr6.get b (by omega)).trans (p5.get b (by omega))
      obtain ⟨lb, _, _, _⟩ := hv6.sq_at (G := G) hl' rfl
      simp (disch := omega) only [go_sem,reduceIte,Nat.reduceEqDiff,Nat.reduceLT, e1, e3, e5, e10, e11, e12, e17, e18, e19, hkl, idxA22, Int.toNat_natCast, lb]
      refine At_alloc i61 zero61 rfl (by omega) fun h7 hn7 => ?_
      have n7 := hn7.next
      have w7 := hn7.var
      have p7 : Pres h6.next h6 h7 := hn7.pres (Nat.le_refl _)
      try simp only [go_sem,reduceIte,Nat.reduceEqDiff,Nat.reduceLT]
      refine At_storeV (v := sqv l) i61 (by simp only [go_sem,reduceIte,Nat.reduceEqDiff,Nat.reduceLT]) (by (simp only [go_sem,reduceIte,Nat.reduceEqDiff,Nat.reduceLT]) <;> rfl) w7 (by rw [size61]; rfl) (by rw [size61]; rfl) rfl (by rw [En_G]; omega) fun h8 hs8 v8 => ?_
      rw [sqv_cells] at v8
      have p8 : Pres h6.next h6 h8 := p7.trans (hs8.pres (Nat.le_refl _))
      have n8 : h8.next = h7.next := hs8.next
      have v5' := v5.mono (B' := h8.blks) ((p8.get _ (by omega)).trans (pr6.get _ (by omega)))
      have pr8 : Pres h5.next h5 h8 := pr6.trans (p8.le (by omega))
      have ha := v5'.sqA (G := G)
      have hb := v8.sqA (G := G)
      have hst := (show inn O f (k + 1) (outr O i) = _ from rfl : inn O f (k + 1) (outr O i) = if f = O.getD k (0, 0, 0) then inn O f k (outr O i) else stp O (inn O f k (outr O i)) (btw O f (O.getD k (0, 0, 0))))
      rw [hlD] at hst
      have hs8' := (hs.mono (B' := h8.blks) fun b _ hb => p8.get b hb).wide (Nat.le_refl _) (show h6.next ≤ h8.next by omega)
      by_cases hfl : f = l
      · have dfl : decide (f = l) = true := decide_eq_true hfl
        rw [if_pos hfl] at hst
        simp (disch := omega) only [go_sem,reduceIte,Nat.reduceEqDiff,Nat.reduceLT, e1, e3, e5, e10, e11, e12, e17, e18, e19, ha, hb, eqSq, dfl, wrap_i64]
        exact hJ2 (j2 - 1) _ _ (by omega) ⟨k + 1, B2, by omega, pr8, by rw [hst]; exact hs8', by rw [hst]; exact hBn, by rw [hst]; exact hll, by simp only [go_sem,reduceIte,Nat.reduceEqDiff,Nat.reduceLT, e1], by rw [hst]; simp only [go_sem,reduceIte,Nat.reduceEqDiff,Nat.reduceLT, e3], by simp only [go_sem,reduceIte,Nat.reduceEqDiff,Nat.reduceLT, e10], by simp only [go_sem,reduceIte,Nat.reduceEqDiff,Nat.reduceLT, e11], by simp only [go_sem,reduceIte,Nat.reduceEqDiff,Nat.reduceLT, e12], by simp only [go_sem,reduceIte,Nat.reduceEqDiff,Nat.reduceLT, e5], by simp only [go_sem,reduceIte,Nat.reduceEqDiff,Nat.reduceLT, e17], by simp only [go_sem,reduceIte,Nat.reduceEqDiff,Nat.reduceLT, e18], by (simp only [go_sem,reduceIte,Nat.reduceEqDiff,Nat.reduceLT]) <;> rfl⟩
      · have dfl : decide (f = l) = false := decide_eq_false hfl
        rw [if_neg hfl] at hst
        have v18 := v1.mono (B' := h8.blks) ((pr8.get _ (by omega)).trans (pr5.get _ (by omega)))
        have hcut : loadO (En G) 64 h8.blks (some (.pointer (some ⟨h.next, 0, none⟩))) = some (.agg #[.slice (some ⟨bA, oA, none⟩) O.length c, .int .i64 W, .int .i64 Ht]) := v18.loadA agg64 i64 size64.symm
        simp (disch := omega) only [go_sem,reduceIte,Nat.reduceEqDiff,Nat.reduceLT, e1, e3, e5, e10, e11, e12, e17, e18, e19, ha, hb, eqSq, dfl, hcut]
        have hv8 := hv6.mono (B' := h8.blks) fun b _ hb => p8.get b (by omega)
        refine CallO_f (between_spec (by omega) (by omega) hv8 hl hok hfok hlok) (by omega) fun u h9 pr9 hu => ?_
        obtain ⟨Ab, hu, hsb⟩ : ∃ A', u = .slice A' (btw O f l).length (btw O f l).length ∧ SlV h9.blks h8.next h9.next 1 (btw O f l).length (ints (btw O f l)) (.slice A' (btw O f l).length (btw O f l).length) := by
          rcases hu with ⟨hu, hb⟩ | ⟨A', hu, hsb⟩
          · exact ⟨none, by rw [hu, hb]; rfl, by rw [hb]; exact .nil rfl rfl⟩
          · exact ⟨A', hu, by rw [← hu]; exact hsb⟩
        subst hu
        have n9 := pr9.next
        have prA : Pres h5.next h5 h9 := pr8.trans (pr9.le (by omega))
        have hs9 := (hs8'.mono (B' := h9.blks) fun b _ hb => pr9.get b hb).wide (Nat.le_refl _) (show h8.next ≤ h9.next by omega)
        have c9 : loadv h9.blks h.next 0 = some (.slice (some ⟨bA, oA, none⟩) O.length c) := (loadv_eq (B := h5.blks) (prA.get _ (by omega)) _).trans c5
        have hbl := btw_len (O := O) (f := f) (l := l)
        have hsb' := hsb.wide (show h1.next ≤ h8.next by omega) (Nat.le_refl _)
        by_cases d1 : ((btw O f l).length : Int) = 0
        · have k1 : decide (((btw O f l).length : Int) = 0) = true := decide_eq_true d1
          rw [stp, if_pos (.inl (List.length_eq_zero_iff.1 (by omega)))] at hst
          simp (maxSteps := 3000000) (disch := omega) only [go_sem,reduceIte,Nat.reduceEqDiff,Nat.reduceLT, e1, e3, e5, e10, e11, e12, e17, e18, e19, len27, len22, fld64_0, Nat.add_zero, Nat.zero_add, load22, c9, wrap_i64, k1]
          exact hJ2 (j2 - 1) _ _ (by omega) ⟨k + 1, B2, by omega, prA, by rw [hst]; exact hs9, by rw [hst]; exact hBn, by rw [hst]; exact hll, by simp only [go_sem,reduceIte,Nat.reduceEqDiff,Nat.reduceLT, e1], by rw [hst]; simp only [go_sem,reduceIte,Nat.reduceEqDiff,Nat.reduceLT, e3], by simp only [go_sem,reduceIte,Nat.reduceEqDiff,Nat.reduceLT, e10], by simp only [go_sem,reduceIte,Nat.reduceEqDiff,Nat.reduceLT, e11], by simp only [go_sem,reduceIte,Nat.reduceEqDiff,Nat.reduceLT, e12], by simp only [go_sem,reduceIte,Nat.reduceEqDiff,Nat.reduceLT, e5], by simp only [go_sem,reduceIte,Nat.reduceEqDiff,Nat.reduceLT, e17], by simp only [go_sem,reduceIte,Nat.reduceEqDiff,Nat.reduceLT, e18], by (simp only [go_sem,reduceIte,Nat.reduceEqDiff,Nat.reduceLT]) <;> rfl⟩
        · have k1 : decide (((btw O f l).length : Int) = 0) = false := decide_eq_false d1
          have hne : btw O f l ≠ [] := fun e => d1 (by rw [e]; rfl)
          by_cases d2 : ((btw O f l).length : Int) = (O.length : Int)
          · have k2 : decide (((btw O f l).length : Int) = (O.length : Int)) = true := decide_eq_true d2
            rw [stp, if_pos (.inr (by omega))] at hst
            simp (maxSteps := 3000000) (disch := omega) only [go_sem,reduceIte,Nat.reduceEqDiff,Nat.reduceLT, e1, e3, e5, e10, e11, e12, e17, e18, e19, len27, len22, fld64_0, Nat.add_zero, Nat.zero_add, load22, c9, wrap_i64, k1, k2]
            exact hJ2 (j2 - 1) _ _ (by omega) ⟨k + 1, B2, by omega, prA, by rw [hst]; exact hs9, by rw [hst]; exact hBn, by rw [hst]; exact hll, by simp only [go_sem,reduceIte,Nat.reduceEqDiff,Nat.reduceLT, e1], by rw [hst]; simp only [go_sem,reduceIte,Nat.reduceEqDiff,Nat.reduceLT, e3], by simp only [go_sem,reduceIte,Nat.reduceEqDiff,Nat.reduceLT, e10], by simp only [go_sem,reduceIte,Nat.reduceEqDiff,Nat.reduceLT, e11], by simp only [go_sem,reduceIte,Nat.reduceEqDiff,Nat.reduceLT, e12], by simp only [go_sem,reduceIte,Nat.reduceEqDiff,Nat.reduceLT, e5], by simp only [go_sem,reduceIte,Nat.reduceEqDiff,Nat.reduceLT, e17], by simp only [go_sem,reduceIte,Nat.reduceEqDiff,Nat.reduceLT, e18], by (simp only [go_sem,reduceIte,Nat.reduceEqDiff,Nat.reduceLT]) <;> rfl⟩
          · have k2 : decide (((btw O f l).length : Int) = (O.length : Int)) = false := decide_eq_false d2
            rw [stp, if_neg (by rintro (g | g); exact hne g; exact d2 (by omega))] at hst
            by_cases hB : inn O f k (outr O i) = []
            · rw [if_pos (.inl hB)] at hst
              have hB2 := hBn hB
              subst hB2
              simp (maxSteps := 3000000) (disch := omega) only [go_sem,reduceIte,Nat.reduceEqDiff,Nat.reduceLT, e1, e3, e5, e10, e11, e12, e17, e18, e19, len27, len22, fld64_0, Nat.add_zero, Nat.zero_add, load22, c9, wrap_i64, k1, k2, eqlNil27, Option.isNone_none]
              exact hJ2 (j2 - 1) _ _ (by omega) ⟨k + 1, Ab, by omega, prA, by rw [hst]; exact hsb', by rw [hst]; exact fun e => absurd (by rw [e]; rfl) d1, by rw [hst]; exact hbl, by simp only [go_sem,reduceIte,Nat.reduceEqDiff,Nat.reduceLT, e1], by rw [hst]; simp only [go_sem,reduceIte,Nat.reduceEqDiff,Nat.reduceLT], by simp only [go_sem,reduceIte,Nat.reduceEqDiff,Nat.reduceLT, e10], by simp only [go_sem,reduceIte,Nat.reduceEqDiff,Nat.reduceLT, e11], by simp only [go_sem,reduceIte,Nat.reduceEqDiff,Nat.reduceLT, e12], by simp only [go_sem,reduceIte,Nat.reduceEqDiff,Nat.reduceLT, e5], by simp only [go_sem,reduceIte,Nat.reduceEqDiff,Nat.reduceLT, e17], by simp only [go_sem,reduceIte,Nat.reduceEqDiff,Nat.reduceLT, e18], by (simp only [go_sem,reduceIte,Nat.reduceEqDiff,Nat.reduceLT]) <;> rfl⟩
            · have hpos : 0 < (inn O f k (outr O i)).length := List.length_pos_iff.2 hB
              obtain ⟨bB, oB, hB2, _, _, _⟩ := hs9.at_ hpos
              simp (maxSteps := 3000000) (disch := omega) only [go_sem,reduceIte,Nat.reduceEqDiff,Nat.reduceLT, e1, e3, e5, e10, e11, e12, e17, e18, e19, len27, len22, fld64_0, Nat.add_zero, Nat.zero_add, load22, c9, wrap_i64, k1, k2, eqlNil27, hB2, Option.isNone_some]
              rw [hB2] at hs9 hs8' hs e3
              refine CallO_f (comparePart_spec (by omega) hsb hs9 (by omega) (by omega)) (by omega) fun u hA prC hu => ?_
              subst hu
              have nA := prC.next
              have prD : Pres h5.next h5 hA := prA.trans (prC.le (by omega))
              have hsA := (hs9.mono (B' := hA.blks) fun b _ hb => prC.get b hb).wide (Nat.le_refl _) (show h9.next ≤ hA.next by omega)
              have hsbA := (hsb'.mono (B' := hA.blks) fun b _ hb => prC.get b hb).wide (Nat.le_refl _) (show h9.next ≤ hA.next by omega)
              by_cases hc : cmpP (btw O f l) (inn O f k (outr O i)) < 0
              · rw [if_pos (.inr hc)] at hst
                simp (maxSteps := 3000000) (disch := omega) only [go_sem,reduceIte,Nat.reduceEqDiff,Nat.reduceLT, e1, e3, e5, e10, e11, e12, e17, e18, e19, len27, len22, fld64_0, Nat.add_zero, Nat.zero_add, load22, c9, wrap_i64, hc]
                exact hJ2 (j2 - 1) _ _ (by omega) ⟨k + 1, Ab, by omega, prD, by rw [hst]; exact hsbA, by rw [hst]; exact fun e => absurd (by rw [e]; rfl) d1, by rw [hst]; exact hbl, by simp only [go_sem,reduceIte,Nat.reduceEqDiff,Nat.reduceLT, e1], by rw [hst]; simp only [go_sem,reduceIte,Nat.reduceEqDiff,Nat.reduceLT], by simp only [go_sem,reduceIte,Nat.reduceEqDiff,Nat.reduceLT, e10], by simp only [go_sem,reduceIte,Nat.reduceEqDiff,Nat.reduceLT, e11], by simp only [go_sem,reduceIte,Nat.reduceEqDiff,Nat.reduceLT, e12], by simp only [go_sem,reduceIte,Nat.reduceEqDiff,Nat.reduceLT, e5], by simp only [go_sem,reduceIte,Nat.reduceEqDiff,Nat.reduceLT, e17], by simp only [go_sem,reduceIte,Nat.reduceEqDiff,Nat.reduceLT, e18], by (simp only [go_sem,reduceIte,Nat.reduceEqDiff,Nat.reduceLT]) <;> rfl⟩
              · rw [if_neg (by rintro (g | g); exact hB g; exact hc g)] at hst
                simp (maxSteps := 3000000) (disch := omega) only [go_sem,reduceIte,Nat.reduceEqDiff,Nat.reduceLT, e1, e3, e5, e10, e11, e12, e17, e18, e19, len27, len22, fld64_0, Nat.add_zero, Nat.zero_add, load22, c9, wrap_i64, hc]
                exact hJ2 (j2 - 1) _ _ (by omega) ⟨k + 1, some ⟨bB, oB, none⟩, by omega, prD, by rw [hst]; exact hsA, by rw [hst]; exact fun e => absurd e hB, by rw [hst]; exact hll, by simp only [go_sem,reduceIte,Nat.reduceEqDiff,Nat.reduceLT, e1], by rw [hst]; simp only [go_sem,reduceIte,Nat.reduceEqDiff,Nat.reduceLT, e3], by simp only [go_sem,reduceIte,Nat.reduceEqDiff,Nat.reduceLT, e10], by simp only [go_sem,reduceIte,Nat.reduceEqDiff,Nat.reduceLT, e11], by simp only [go_sem,reduceIte,Nat.reduceEqDiff,Nat.reduceLT, e12], by simp only [go_sem,reduceIte,Nat.reduceEqDiff,Nat.reduceLT, e5], by simp only [go_sem,reduceIte,Nat.reduceEqDiff,Nat.reduceLT, e17], by simp only [go_sem,reduceIte,Nat.reduceEqDiff,Nat.reduceLT, e18], by (simp only [go_sem,reduceIte,Nat.reduceEqDiff,Nat.reduceLT]) <;> rfl⟩
    · obtain rfl : k = O.length := by omega
      have hout : outr O (i + 1) = inn O f O.length (outr O i) := by rw [← hfD]; rfl
      simp (disch := omega) only [go_sem,reduceIte,Nat.reduceEqDiff,Nat.reduceLT, e1, e3, e5, e10, e11, e12, e17, e18, e19, hkl, wrap_i64]
      exact hJ (j - 1) _ _ (by omega) ⟨i + 1, B2, by omega, pr5.trans (pr6.le (by omega)), by rw [hout]; exact hs, by rw [hout]; exact hBn, by rw [hout]; exact hll, by simp only [go_sem,reduceIte,Nat.reduceEqDiff,Nat.reduceLT, e1], by rw [hout]; simp only [go_sem,reduceIte,Nat.reduceEqDiff,Nat.reduceLT, e3], by simp only [go_sem,reduceIte,Nat.reduceEqDiff,Nat.reduceLT, e10], by simp only [go_sem,reduceIte,Nat.reduceEqDiff,Nat.reduceLT, e11], by (simp only [go_sem,reduceIte,Nat.reduceEqDiff,Nat.reduceLT]) <;> rfl⟩
  · obtain rfl : i = O.length := by omega
    simp (disch := omega) only [go_sem,reduceIte,Nat.reduceEqDiff,Nat.reduceLT, e1, e3, e10, e11, e12, hlt]
    exact hQ' _ _ ⟨pr1.trans (pr.le (by omega)), B, rfl, hs.wide (by omega) (Nat.le_refl _)⟩
end
end Go.Proofs.YtnhbkoeomefkdaaDoor.Ev.L

/- Compound. -/
set_option linter.unusedVariables false
set_option linter.unusedSimpArgs false
namespace Go.Proofs.YtnhbkoeomefkdaaDoor.Ev.L
open Go Go.Proofs Go.Proofs.YtnhbkoeomefkdaaDoor.Ev
noncomputable section
/-- the least part of a cut, by the numbers of its squares in order -/
def lpt (L : List Sq) : List Int := outr (ordSq L) (ordSq L).length

set_option maxRecDepth 100000 in
set_option maxHeartbeats 8000000 in
theorem Compound_spec {G lo hi c : Nat} {L : List Sq} {A : Option Addr} {h : H} (hG : G ≤ h.next) (hG3 : 3 ≤ G) (hhi : hi ≤ h.next) (ht : TabsIn tabs h.blks) (hv : SlV h.blks lo hi 3 L.length (sqc L) (.slice A L.length c)) (hl : L.length ≤ 1000) :
    Spec Tryd.prog (En G) 28 [.slice A L.length c] h fun v h' => (chk L ≠ 0 ∧ v = .tuple #[.slice none 0 0, .int .i64 (chk L)]) ∨ (chk L = 0 ∧ lpt L = [] ∧ v = .tuple #[.slice none 0 0, .int .i64 5]) ∨
      (chk L = 0 ∧ lpt L ≠ [] ∧ ∃ B, v = .tuple #[.slice B (lpt L).length (lpt L).length, .int .i64 0] ∧ SlV h'.blks h.next h'.next 1 (lpt L).length (ints (lpt L)) (.slice B (lpt L).length (lpt L).length)) := by
  refine CallsE_enter (En_known (by decide)) (En_f.trans Tryd.func28) rfl ⟨Nat.le_of_ble_eq_true rfl, by decide⟩ fun Q' hQ' => ?_
  simp only [Tryd.f28, go_sem,reduceIte,Nat.reduceEqDiff,Nat.reduceLT]
  refine CallO_f (newCut_spec hG hG3 hhi ht hv hl) (by omega) fun u h1 ph1 hcut => ?_
  have n1 := ph1.next
  rcases hcut with ⟨he, A', hu, hsv⟩ | ⟨he, hu⟩
  · subst hu
    simp only [go_sem,reduceIte,Nat.reduceEqDiff,Nat.reduceLT]
    refine At_alloc i64 zero64 rfl (by omega) fun h2 hn2 => ?_
    have n2 := hn2.next
    have w2 := hn2.var
    rw [cutV_cells] at w2
    have pg2 : Pres h1.next h1 h2 := hn2.pres (Nat.le_refl _)
    try simp only [go_sem,reduceIte,Nat.reduceEqDiff,Nat.reduceLT]
    refine At_storeV (v := cutV A' L.length (wid L) (hei L)) i64 (by simp only [go_sem,reduceIte,Nat.reduceEqDiff,Nat.reduceLT]) (by (simp only [go_sem,reduceIte,Nat.reduceEqDiff,Nat.reduceLT]) <;> rfl) w2 (by rw [size64]; rfl) (by rw [size64]; rfl) rfl (by rw [En_G]; omega) fun h3 hs3 v3 => ?_
    rw [cutV_cells] at v3
    have ph3 : Pres h1.next h1 h3 := pg2.trans (hs3.pres (Nat.le_refl _))
    have n3 : h3.next = h2.next := hs3.next
    have pr3 : Pres h.next h h3 := ph1.trans (ph3.le (by omega))
    have k0 : decide ((0 : Int) ≠ 0) = false := rfl
    have hcl : loadO (En G) 64 h3.blks (some (.pointer (some ⟨h1.next, 0, none⟩))) = some (cutV A' L.length (wid L) (hei L)) := v3.loadA agg64 i64 size64.symm
    obtain ⟨hl24, hok, hcov⟩ := chk_zero he
    have hol : (ordSq L).length = L.length := ordSq_perm.length_eq
    simp only [go_sem,reduceIte,Nat.reduceEqDiff,Nat.reduceLT, k0, hcl]
    have hsv3 := hsv.mono (B' := h3.blks) fun b _ hb => ph3.get b hb
    rw [← hol] at hsv3 ⊢
    refine CallO_f (leastPart_spec (by omega) (by omega) hsv3 (by omega) fun q hq => hok q (ordSq_perm.mem_iff.1 hq)) (by omega) fun u h4 ph4 ⟨B, hu, hsB⟩ => ?_
    subst hu
    have n4 := ph4.next
    have pr4 : Pres h.next h h4 := pr3.trans (ph4.le (by omega))
    rw [show outr (ordSq L) (ordSq L).length = lpt L from rfl] at hsB ⊢
    by_cases hz : ((lpt L).length : Int) = 0
    · have kz : decide (((lpt L).length : Int) = 0) = true := decide_eq_true hz
      simp only [go_sem,reduceIte,Nat.reduceEqDiff,Nat.reduceLT, len27, kz]
      exact hQ' _ _ ⟨pr4, .inr (.inl ⟨he, List.length_eq_zero_iff.1 (by omega), rfl⟩)⟩
    · have kz : decide (((lpt L).length : Int) = 0) = false := decide_eq_false hz
      simp only [go_sem,reduceIte,Nat.reduceEqDiff,Nat.reduceLT, len27, kz]
      exact hQ' _ _ ⟨pr4, .inr (.inr ⟨he, fun e => hz (by rw [e]; rfl), B, rfl, hsB.wide (by omega) (Nat.le_refl _)⟩)⟩
  · subst hu
    have kc : decide (chk L ≠ 0) = true := decide_eq_true he
    simp only [go_sem,reduceIte,Nat.reduceEqDiff,Nat.reduceLT]
    refine At_alloc i64 zero64 rfl (by omega) fun h2 hn2 => ?_
    have n2 := hn2.next
    have w2 := hn2.var
    rw [cutV_cells] at w2
    have pg2 : Pres h1.next h1 h2 := hn2.pres (Nat.le_refl _)
    try simp only [go_sem,reduceIte,Nat.reduceEqDiff,Nat.reduceLT]
    refine At_storeV (v := cutV none 0 0 0) i64 (by simp only [go_sem,reduceIte,Nat.reduceEqDiff,Nat.reduceLT]) (by (simp only [go_sem,reduceIte,Nat.reduceEqDiff,Nat.reduceLT]) <;> rfl) w2 (by rw [size64]; rfl) (by rw [size64]; rfl) rfl (by rw [En_G]; omega) fun h3 hs3 v3 => ?_
    have ph3 : Pres h1.next h1 h3 := pg2.trans (hs3.pres (Nat.le_refl _))
    simp only [go_sem,reduceIte,Nat.reduceEqDiff,Nat.reduceLT, kc]
    exact hQ' _ _ ⟨ph1.trans (ph3.le (by omega)), .inl ⟨he, rfl⟩⟩
end
end Go.Proofs.YtnhbkoeomefkdaaDoor.Ev.L

