/- Matrices in memory; small functions. -/
import Derived.Test.YtngpoamjhngcgaaGreatDoorPmeS1
set_option linter.unusedSimpArgs false
namespace Go.Proofs.YtngpoamjhngcgaaGreatDoor.Ev
open Go Go.Proofs
noncomputable section

theorem sliceO_take {E : Env} {B : Tr Blk} {lo hi sz n c m : Nat} {kd : IntKind} {t elem : TypeId} {inf : TypeInfo} {A : Option Addr} {L : List Value} (hu : E.u t = some (.slice elem)) (hi' : E.i elem = some inf) (hsz : inf.size = sz) (s : SlV B lo hi sz n L (.slice A n c)) (hm : m ≤ n) :
    ∃ A' c', sliceO E t B (some (.slice A n c)) (some []) (some [.int kd m]) = some (.slice A' m c') ∧ SlV B lo hi sz m (L.take (m * sz)) (.slice A' m c') := by
  cases s with
  | nil hn hL =>
    subst hL
    obtain rfl : m = 0 := by omega
    refine ⟨none, 0, ?_, .nil rfl (by simp)⟩
    show evSlice E ⟨B, 0, 0⟩ t (.slice none 0 0) none (some (.int kd (Int.ofNat 0))) = _
    simp [evSlice, hu, hi', bound]
  | emp hn hL =>
    subst hL
    obtain rfl : m = 0 := by omega
    refine ⟨some ⟨0, 0, some 0⟩, 0, ?_, .emp rfl (by simp)⟩
    show evSlice E ⟨B, 0, 0⟩ t (.slice (some ⟨0, 0, some 0⟩) 0 0) none (some (.int kd (Int.ofNat 0))) = _
    simp [evSlice, hu, hi', bound]
  | mk hb hlo hhi hs hL hc =>
    rename_i b off size cells
    have hmul : m * sz ≤ n * sz := Nat.mul_le_mul_right _ hm
    refine ⟨some ⟨b, off, none⟩, c, ?_, .mk hb hlo hhi (by omega) (by simp; omega) fun i hi => ?_⟩
    · show evSlice E ⟨B, 0, 0⟩ t (.slice (some ⟨b, off, none⟩) n c) none (some (.int kd (Int.ofNat m))) = _
      simp [evSlice, hu, hi', bound, hm, hb, hsz, forceN_eq]
    · rw [hc i (by omega), List.getElem?_take, if_pos hi]

def intsL (n : Nat) (f : Nat → Int) : List Value := (List.range n).map fun j => .int .i64 (f j)
theorem intsL_len {n : Nat} {f : Nat → Int} : (intsL n f).length = n := by simp [intsL]
theorem intsL_get {n j : Nat} {f : Nat → Int} (h : j < n) : (intsL n f)[j]? = some (.int .i64 (f j)) := by simp [intsL, h]
theorem intsL_take {n m : Nat} {f : Nat → Int} (h : m ≤ n) : (intsL n f).take m = intsL m f := by
  unfold intsL
  rw [← List.map_take]
  congr 1
  rw [List.take_range, Nat.min_eq_left h]
theorem intsL_one {n : Nat} {f : Nat → Int} : (intsL n f).all oneB = true := by
  rw [List.all_eq_true]
  intro x hx
  obtain ⟨j, _, rfl⟩ := List.mem_map.1 hx
  rfl
def rowsL (n : Nat) (g : Nat → Nat) (RA : Nat → Option Addr) (rc : Nat → Nat) : List Value := (List.range n).map fun i => .slice (RA i) (g i) (rc i)
theorem rowsL_len {n : Nat} {g : Nat → Nat} {RA : Nat → Option Addr} {rc : Nat → Nat} : (rowsL n g RA rc).length = n := by simp [rowsL]
theorem rowsL_get {n i : Nat} {g : Nat → Nat} {RA : Nat → Option Addr} {rc : Nat → Nat} (h : i < n) : (rowsL n g RA rc)[i]? = some (.slice (RA i) (g i) (rc i)) := by simp [rowsL, h]
/-- a matrix in memory: its rows lie anywhere -/
structure MatV (B : Tr Blk) (lo hi n : Nat) (g : Nat → Nat) (f : Nat → Nat → Int) (RA : Nat → Option Addr) (rc : Nat → Nat) (v : Value) : Prop where
  top : SlV B lo hi 1 n (rowsL n g RA rc) v
  row : ∀ i, i < n → SlV B lo hi 1 (g i) (intsL (g i) (f i)) (.slice (RA i) (g i) (rc i))
theorem MatV.mono {B B' : Tr Blk} {lo hi n : Nat} {g : Nat → Nat} {f : Nat → Nat → Int} {RA : Nat → Option Addr} {rc : Nat → Nat} {v : Value} (m : MatV B lo hi n g f RA rc v) (hB : ∀ b, lo ≤ b → b < hi → B'.get b = B.get b) : MatV B' lo hi n g f RA rc v :=
  ⟨m.top.mono hB, fun i h => (m.row i h).mono hB⟩
theorem SlV.ints_at {B : Tr Blk} {lo hi n c : Nat} {f : Nat → Int} {A : Option Addr} (s : SlV B lo hi 1 n (intsL n f) (.slice A n c)) (h : 0 < n) : ∃ b off, A = some ⟨b, off, none⟩ ∧ ∀ j, j < n → loadv B b (off + j) = some (.int .i64 (f j)) := by
  obtain ⟨b, off, e, _, _, hld⟩ := s.at_ h
  exact ⟨b, off, e, fun j hj => by rw [hld j (by omega), intsL_get hj]⟩
theorem MatV.at_ {B : Tr Blk} {lo hi n c : Nat} {g : Nat → Nat} {f : Nat → Nat → Int} {RA : Nat → Option Addr} {rc : Nat → Nat} {A : Option Addr} (m : MatV B lo hi n g f RA rc (.slice A n c)) (h : 0 < n) : ∃ b off, A = some ⟨b, off, none⟩ ∧ ∀ i, i < n → loadv B b (off + i) = some (.slice (RA i) (g i) (rc i)) := by
  obtain ⟨b, off, e, _, _, hld⟩ := m.top.at_ h
  exact ⟨b, off, e, fun j hj => by rw [hld j (by omega), rowsL_get hj]⟩

theorem in_spec {G : Nat} {v a b : Int} {h : H} : Spec Tryz.prog (En G) 62 [.int .i64 v, .int .i64 a, .int .i64 b] h fun r h' => r = .bool (decide (a ≤ v) && decide (v ≤ b)) ∧ h' = h := by
  refine CallsE_enter (En_known (by decide)) (En_f.trans Tryz.func62) rfl ⟨Nat.le_of_ble_eq_true rfl, by decide⟩ fun Q' hQ' => ?_
  simp only [Tryz.f62, go_sem,reduceIte,Nat.reduceEqDiff,Nat.reduceLT]
  by_cases h1 : a ≤ v
  · simp only [go_sem,reduceIte,Nat.reduceEqDiff,Nat.reduceLT, h1]
    exact hQ' _ _ ⟨Pres.refl _ _, by simp [h1], rfl⟩
  · simp only [go_sem,reduceIte,Nat.reduceEqDiff,Nat.reduceLT, h1]
    exact hQ' _ _ ⟨Pres.refl _ _, by simp [h1], rfl⟩

/-- prices in their range -/
def PrOk (m : Nat) (p : Nat → Int) : Prop := ∀ i, i < m → -1000 ≤ p i ∧ p i ≤ 1000

theorem prices_spec {G lo hi m c : Nat} {A : Option Addr} {p : Nat → Int} {h : H} (hv : SlV h.blks lo hi 1 m (intsL m p) (.slice A m c)) (hm : m < 2147483648) :
    Spec Tryz.prog (En G) 21 [.slice A m c] h fun v h' => (∃ b, v = .bool b ∧ (b = true ↔ PrOk m p)) ∧ h' = h := by
  refine CallsE_enter (En_known (by decide)) (En_f.trans Tryz.func21) rfl ⟨Nat.le_of_ble_eq_true rfl, by decide⟩ fun Q' hQ' => ?_
  simp only [Tryz.f21, go_sem,reduceIte,Nat.reduceEqDiff,Nat.reduceLT]
  refine WK_loopN (fun j α h2 => ∃ i : Nat, i + j = m ∧ h2 = h ∧ α.get 0 = some (.slice A m c) ∧ α.get 3 = some (.int .i64 i) ∧ PrOk i p) m
    ⟨0, by omega, rfl, by simp only [go_sem,reduceIte,Nat.reduceEqDiff,Nat.reduceLT], by (simp only [go_sem,reduceIte,Nat.reduceEqDiff,Nat.reduceLT]) <;> rfl, fun k hk => absurd hk (Nat.not_lt_zero k)⟩ (by omega) ?_
  rintro J j α h2 ⟨i, hij, rfl, e0, e3, hall⟩ hJ
  by_cases hlt : (i : Int) < m
  · obtain ⟨b, off, rfl, hld⟩ := hv.ints_at (by omega)
    have l1 := hld i (by omega)
    by_cases hlo : p i < -1000
    · simp (disch := omega) only [go_sem,reduceIte,Nat.reduceEqDiff,Nat.reduceLT, e0, e3, hlt, len23, idxA23, load3, Int.toNat_natCast, Nat.mul_one, l1, hlo]
      exact hQ' _ _ ⟨Pres.refl _ _, ⟨false, rfl, ⟨fun e => (by cases e), fun hh => absurd (hh i (by omega)) (by omega)⟩⟩, rfl⟩
    · by_cases hhi : 1000 < p i
      · simp (disch := omega) only [go_sem,reduceIte,Nat.reduceEqDiff,Nat.reduceLT, e0, e3, hlt, len23, idxA23, load3, Int.toNat_natCast, Nat.mul_one, l1, hlo, hhi]
        exact hQ' _ _ ⟨Pres.refl _ _, ⟨false, rfl, ⟨fun e => (by cases e), fun hh => absurd (hh i (by omega)) (by omega)⟩⟩, rfl⟩
      · simp (disch := omega) only [go_sem,reduceIte,Nat.reduceEqDiff,Nat.reduceLT, e0, e3, hlt, len23, idxA23, load3, Int.toNat_natCast, Nat.mul_one, l1, hlo, hhi, wrap_i64]
        refine hJ (m - (i + 1)) _ _ (by omega) ⟨i + 1, by omega, rfl, by simp only [go_sem,reduceIte,Nat.reduceEqDiff,Nat.reduceLT, e0], by (simp only [go_sem,reduceIte,Nat.reduceEqDiff,Nat.reduceLT]) <;> rfl, fun k hk => ?_⟩
        by_cases hk2 : k = i
        · subst hk2; omega
        · exact hall k (by omega)
  · obtain rfl : i = m := by omega
    simp (disch := omega) only [go_sem,reduceIte,Nat.reduceEqDiff,Nat.reduceLT, e0, e3, hlt, len23]
    exact hQ' _ _ ⟨Pres.refl _ _, ⟨true, rfl, ⟨fun _ => hall, fun _ => rfl⟩⟩, rfl⟩

/-- the first nine of a row, in a slice of one's own -/
theorem cut_spec {G lo hi n c : Nat} {A : Option Addr} {f : Nat → Int} {h : H} (hv : SlV h.blks lo hi 1 n (intsL n f) (.slice A n c)) :
    Spec Tryz.prog (En G) 17 [.slice A n c, .int .i64 9] h fun v h' => ∃ A' c', v = .slice A' (min n 9) c' ∧ SlV h'.blks h.next h'.next 1 (min n 9) (intsL (min n 9) f) v := by
  refine CallsE_enter (En_known (by decide)) (En_f.trans Tryz.func17) rfl ⟨Nat.le_of_ble_eq_true rfl, by decide⟩ fun Q' hQ' => ?_
  obtain ⟨m, hm, hmn, hm9, hmin⟩ : ∃ m : Nat, min n 9 = m ∧ m ≤ n ∧ m ≤ 9 ∧ min (n : Int) 9 = (m : Int) := ⟨min n 9, rfl, by omega, by omega, by omega⟩
  subst hm
  obtain ⟨A', c', hsl, hv'⟩ := sliceO_take (E := En G) (kd := .i64) (m := min n 9) u23 i3 size3 hv hmn
  rw [Nat.mul_one, intsL_take hmn] at hv'
  simp only [Tryz.f17, go_sem,reduceIte,Nat.reduceEqDiff,Nat.reduceLT]
  refine At_lit0 u23 i3 zero3 (by rw [size3]; rfl) (by omega) ?_
  simp only [go_sem,reduceIte,Nat.reduceEqDiff,Nat.reduceLT, len23, hmin, hsl]
  refine At_appendE (M := intsL (min n 9) f) (m := min n 9) u23 u23 i3 zero3 (by rw [size3, bytes3]; rfl) (by (simp only [go_sem,reduceIte,Nat.reduceEqDiff,Nat.reduceLT]) <;> rfl) (by (simp only [go_sem,reduceIte,Nat.reduceEqDiff,Nat.reduceLT]) <;> rfl) (by rw [size3]; exact hv') (by omega) intsL_one (by omega) fun A2 c2 h2 pr2 hs2 => ?_
  rw [size3] at hs2
  simp only [go_sem,reduceIte,Nat.reduceEqDiff,Nat.reduceLT]
  exact hQ' _ _ ⟨pr2, A2, c2, rfl, hs2⟩
end
end Go.Proofs.YtngpoamjhngcgaaGreatDoor.Ev


