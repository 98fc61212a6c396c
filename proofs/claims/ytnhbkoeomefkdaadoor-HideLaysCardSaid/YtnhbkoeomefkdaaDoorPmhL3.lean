/- laid. -/
import Derived.Test.YtnhbkoeomefkdaaDoorPmhL2
set_option linter.unusedSimpArgs false
set_option linter.unusedVariables false
namespace Go.Proofs.YtnhbkoeomefkdaaDoor.Ev.L
open Go Go.Proofs Go.Proofs.YtnhbkoeomefkdaaDoor.Ev
noncomputable section

theorem RoomOf.uniq {l : List Int} {k m k' m' : Nat} (a : RoomOf l k m) (b : RoomOf l k' m') : k = k' ∧ m = m' := by
  have a1 := a.pos; have a2 := a.le; have b1 := b.pos; have b2 := b.le
  have h1 := a.low k' (by omega)
  have h2 := b.low k (by omega)
  have hk : k = k' := by
    rcases Nat.lt_trichotomy k k' with h | h | h
    · have := b.left k h; omega
    · exact h
    · have := a.left k' h; omega
  subst hk
  refine ⟨rfl, ?_⟩
  rcases Nat.lt_trichotomy m m' with h | h | h
  · exact absurd (b.flat (k + m) (by omega) (by omega)) (a.wall (by omega))
  · exact h
  · exact absurd (a.flat (k + m') (by omega) (by omega)) (b.wall (by omega))

open Classical in
/-- the leftmost least column; how many are as low from there on -/
def lowest (l : List Int) : Nat := if h : ∃ k m, RoomOf l k m then h.choose else 0
open Classical in
def wideOf (l : List Int) : Nat := if h : ∃ k m, RoomOf l k m then h.choose_spec.choose else 0
theorem RoomOf.eq {l : List Int} {k m : Nat} (a : RoomOf l k m) : lowest l = k ∧ wideOf l = m := by
  have h : ∃ k m, RoomOf l k m := ⟨k, m, a⟩
  have hs : RoomOf l h.choose h.choose_spec.choose := h.choose_spec.choose_spec
  unfold lowest wideOf
  rw [dif_pos h, dif_pos h]
  exact hs.uniq a

/-- the squares of a code, on a floor -/
def layOn : List Int → List Int → Option (List (Nat × Int × Int))
  | F, [] => if wideOf F < F.length then none else some []
  | F, s :: r => if min (wideOf F : Int) (1000 - F.getD (lowest F) 0) < s then none else (layOn (raise F (lowest F) s.toNat s) r).map ((lowest F, F.getD (lowest F) 0, s) :: ·)

def sqCells (l : List (Nat × Int × Int)) : List Value := l.flatMap fun q => [.int .i64 q.1, .int .i64 q.2.1, .int .i64 q.2.2]
theorem sqCells_len {l : List (Nat × Int × Int)} : (sqCells l).length = l.length * 3 := by
  induction l with
  | nil => rfl
  | cons a l ih =>
    simp only [sqCells, List.flatMap_cons, List.length_append, List.length_cons, List.length_nil] at ih ⊢
    omega
theorem sqCells_append {l m : List (Nat × Int × Int)} : sqCells (l ++ m) = sqCells l ++ sqCells m := by simp [sqCells]
theorem layOn_len : ∀ {L F : List Int} {sq : List (Nat × Int × Int)}, layOn F L = some sq → sq.length = L.length
  | [], F, sq, h => by
    rw [layOn] at h
    split at h
    · cases h
    · injection h with h; subst h; rfl
  | s :: r, F, sq, h => by
    rw [layOn] at h
    split at h
    · cases h
    · obtain ⟨t, h1, rfl⟩ := Option.map_eq_some_iff.1 h
      simp [layOn_len h1]

theorem zeros_ints {w : Nat} : zeros (Value.int .i64 0).cells.toList w = ints (List.replicate w 0) := by
  induction w with
  | zero => rfl
  | succ w ih => rw [zeros, ih]; rfl

section
variable {P : Program} {E : Env} {n : Nat} {ops : List Oper} {r tl : List Oper} {k : List Frm} {α : Tr Value} {h : H} {R : Rt} {d : Nat}
theorem CallO_any {g : FuncId} {vs : List Value} {Q : Value → H → Prop} (hs : CallsE P E g vs h Q) (hd : d < n) (hk : ∀ v h', Q v h' → At P E n ops false r tl k (Tr.put α d v) h' R) :
    CallO P E n ops false r tl k α h R (some d) (some (.func (.func g) #[] #[])) (some vs) := CallO_of hs hd fun v h' hq => ⟨fun e => (by cases e), hk v h' hq⟩
end

set_option maxHeartbeats 8000000 in
theorem laid_spec {G lo hi n c w : Nat} {A : Option Addr} {L : List Int} {h : H} (hG : G ≤ h.next) (hv : SlV h.blks lo hi 1 n (ints L) (.slice A n c)) (hhi : hi ≤ h.next) (hn : n ≤ 25) (hw : 1 ≤ w ∧ w ≤ 1000) (hL : ∀ z ∈ L, 1 ≤ z ∧ z ≤ 1000) :
    Spec Tryd.prog (En G) 44 [.int .i64 w, .slice A n c] h fun u h' => (layOn (List.replicate w 0) L = none ∧ u = .slice none 0 0) ∨
      ∃ sq B, layOn (List.replicate w 0) L = some sq ∧ u = .slice B sq.length sq.length ∧ SlV h'.blks h.next h'.next 3 sq.length (sqCells sq) u := by
  have hl : L.length = n := by have := hv.len; rw [ints_len] at this; omega
  refine CallsE_enter (En_known (by decide)) (En_f.trans Tryd.func44) rfl ⟨Nat.le_of_ble_eq_true rfl, by decide⟩ fun Q' hQ' => ?_
  simp only [Tryd.f44, go_sem,reduceIte,Nat.reduceEqDiff,Nat.reduceLT]
  refine At_make (k1 := .i64) (k2 := .i64) (l := w) (c := w) u96 i3 zero3 (by rw [size3, bytes3]; rfl) (by simp only [go_sem,reduceIte,Nat.reduceEqDiff,Nat.reduceLT]) (by simp only [go_sem,reduceIte,Nat.reduceEqDiff,Nat.reduceLT]) (Nat.le_refl _) (by rw [size3]; omega) (by omega) (by omega) fun h1 hn1 => ?_
  rw [size3, zeros_ints] at hn1
  have n1 := hn1.next
  have hf1 := hn1.slv (n := w) (c := w) (by rw [ints_len]; simp)
  rw [n1] at hf1
  simp only [go_sem,reduceIte,Nat.reduceEqDiff,Nat.reduceLT, len27]
  refine WK_loopN (fun j α h2 => ∃ (k : Nat) (F : List Int) (sq : List (Nat × Int × Int)) (B : Option Addr), k + j = n ∧ sq.length = k ∧ (∀ i, i < w → 0 ≤ F.getD i 0 ∧ F.getD i 0 ≤ 1000) ∧ α.get 0 = some (.int .i64 w) ∧ α.get 1 = some (.slice A n c) ∧ α.get 5 = some (.slice (some ⟨h.next, 0, none⟩) w w) ∧
      α.get 6 = some (.slice B sq.length sq.length) ∧ α.get 15 = some (.slice A n c) ∧ α.get 16 = some (.int .i64 n) ∧ α.get 17 = some (.int .i64 k) ∧ h.next < h2.next ∧
      SlV h2.blks h.next (h.next + 1) 1 w (ints F) (.slice (some ⟨h.next, 0, none⟩) w w) ∧ SlV h2.blks (h.next + 1) h2.next 3 sq.length (sqCells sq) (.slice B sq.length sq.length) ∧
      layOn (List.replicate w 0) L = (layOn F (L.drop k)).map (sq ++ ·) ∧ Pres h.next h h2) n
    ⟨0, List.replicate w 0, [], none, by omega, rfl, fun i hi => (by simp [List.getD, hi]), by simp only [go_sem,reduceIte,Nat.reduceEqDiff,Nat.reduceLT], by simp only [go_sem,reduceIte,Nat.reduceEqDiff,Nat.reduceLT], by simp only [go_sem,reduceIte,Nat.reduceEqDiff,Nat.reduceLT], by (simp only [go_sem,reduceIte,Nat.reduceEqDiff,Nat.reduceLT]) <;> rfl, by simp only [go_sem,reduceIte,Nat.reduceEqDiff,Nat.reduceLT], by simp only [go_sem,reduceIte,Nat.reduceEqDiff,Nat.reduceLT], by (simp only [go_sem,reduceIte,Nat.reduceEqDiff,Nat.reduceLT]) <;> rfl, by omega, hf1, .nil rfl rfl, by simp, hn1.pres (Nat.le_refl _)⟩ (by omega) ?_
  clear hf1 hn1 n1 h1
  rintro J j α h2 ⟨k, F, sq, B, hk, hsk, hF, e0, e1, e5, e6, e15, e16, e17, hnx, hf, hsq, hlay, hpr⟩ hJ
  have hFl : F.length = w := by have := hf.len; rw [ints_len] at this; omega
  by_cases hlt : (k : Int) < n
  · have hkn : k < n := by omega
    obtain ⟨z, hz⟩ : ∃ z, L[k]? = some z := ⟨L[k]'(by omega), List.getElem?_eq_getElem (by omega)⟩
    have hzb := hL z (List.mem_of_getElem? hz)
    have hv2 : SlV h2.blks lo hi 1 n (ints L) (.slice A n c) := hv.mono fun b _ hb => hpr.get b (by omega)
    obtain ⟨bA, oA, rfl, _, _, hld⟩ := hv2.at_ (by omega)
    have hld := hld k (by omega)
    rw [ints_get hz] at hld
    simp (disch := omega) only [go_sem,reduceIte,Nat.reduceEqDiff,Nat.reduceLT, e0, e1, e5, e6, e15, e16, e17, hlt, idxA27, load3, Int.toNat_natCast, Nat.mul_one, hld]
    refine CallO_f (room_spec hf (by omega) (by omega)) (by omega) fun u h3 _ hu => ?_
    obtain ⟨rfl, x, m, rfl, hroom⟩ := hu
    have hrp := hroom.pos
    have hrl := hroom.le
    have hFx := hF x (by omega)
    have lx : loadv h3.blks h.next (0 + x) = some (.int .i64 (F.getD x 0)) := by
      obtain ⟨b1, off1, he, _, _, h5⟩ := hf.at_ (by omega)
      injection he with he
      injection he with q1 q2
      subst q1; subst q2
      rw [h5 x (by omega), ints_getD (by omega)]
    have hdrop : L.drop k = z :: L.drop (k + 1) := by
      obtain ⟨g, rfl⟩ := List.getElem?_eq_some_iff.1 hz
      exact List.drop_eq_getElem_cons g
    rw [hdrop, layOn, hroom.eq.1, hroom.eq.2] at hlay
    by_cases hfit : min (m : Int) (1000 - F.getD x 0) < z
    · rw [if_pos hfit] at hlay
      simp (disch := omega) only [go_sem,reduceIte,Nat.reduceEqDiff,Nat.reduceLT, e0, e1, e5, e6, e15, e16, e17, idxA96, load3, Int.toNat_natCast, Nat.mul_one, lx, wrap_i64, hfit]
      exact hQ' _ _ ⟨hpr, .inl ⟨hlay, rfl⟩⟩
    · rw [if_neg hfit] at hlay
      simp (disch := omega) only [go_sem,reduceIte,Nat.reduceEqDiff,Nat.reduceLT, e0, e1, e5, e6, e15, e16, e17, idxA96, load3, Int.toNat_natCast, Nat.mul_one, lx, wrap_i64, hfit]
      refine CallO_any (hput_spec hf hG hnx (by omega) (by omega) (by omega) (by omega) hF) (by omega) fun u h4 hu => ?_
      obtain ⟨rfl, hp⟩ := hu
      have n4 := hp.pres.next
      have hsq4 : SlV h4.blks (h.next + 1) h3.next 3 sq.length (sqCells sq) (.slice B sq.length sq.length) := hsq.mono fun b h1 h2 => hp.get b h2 (by omega)
      refine At_push (lo := h.next + 1) (hi := h3.next) (L := sqCells sq) (vs := [.int .i64 x, .int .i64 (F.getD x 0), .int .i64 z]) u22 i61 zero61 (by rw [size61, bytes61]; rfl) (by (simp only [go_sem,reduceIte,Nat.reduceEqDiff,Nat.reduceLT]) <;> rfl) (by rw [size61]; rfl) (by rw [size61]; rfl) rfl (by (simp only [go_sem,reduceIte,Nat.reduceEqDiff,Nat.reduceLT, e6]) <;> rfl) (by rw [size61]; exact hsq4) n4 (Nat.le_refl _) (by show G ≤ h.next + 1; omega) (by omega) (by decide) (by decide) (by decide) fun h5 hpu => ?_
      rw [size61] at hpu
      have n5 := hpu.next
      have hcells : sqCells sq ++ [.int .i64 x, .int .i64 (F.getD x 0), .int .i64 z] = sqCells (sq ++ [(x, F.getD x 0, z)]) := by rw [sqCells_append]; rfl
      rw [hcells] at hpu
      have hsq5 := hpu.slv (n := (sq ++ [(x, F.getD x 0, z)]).length) (c := (sq ++ [(x, F.getD x 0, z)]).length) (by rw [sqCells_len])
      have hf5 : SlV h5.blks h.next (h.next + 1) 1 w (ints (raise F x z.toNat z)) (.slice (some ⟨h.next, 0, none⟩) w w) := hpu.other hp.slv (by omega) fun b hb => .inr (hsq4.blk b hb)
      simp (disch := omega) only [go_sem,reduceIte,Nat.reduceEqDiff,Nat.reduceLT, e17, wrap_i64]
      refine hJ (j - 1) _ _ (by omega) ⟨k + 1, raise F x z.toNat z, sq ++ [(x, F.getD x 0, z)], some ⟨h4.next + 1, 0, none⟩, by omega, by simp [hsk], fun i hi => ?_, by simp only [go_sem,reduceIte,Nat.reduceEqDiff,Nat.reduceLT, e0], by simp only [go_sem,reduceIte,Nat.reduceEqDiff,Nat.reduceLT, e1], by simp only [go_sem,reduceIte,Nat.reduceEqDiff,Nat.reduceLT, e5], by simp only [go_sem,reduceIte,Nat.reduceEqDiff,Nat.reduceLT, List.length_append, List.length_singleton], by simp only [go_sem,reduceIte,Nat.reduceEqDiff,Nat.reduceLT, e15], by simp only [go_sem,reduceIte,Nat.reduceEqDiff,Nat.reduceLT, e16], by (simp only [go_sem,reduceIte,Nat.reduceEqDiff,Nat.reduceLT]) <;> rfl, by omega, hf5, hsq5.wide (by omega) (Nat.le_refl _), ?_, hpr.trans (hp.pres.trans (hpu.pres (by omega) fun b hb => by have := hsq4.blk b hb; omega))⟩
      · rw [raise_get (by omega)]
        have h6 := hF i hi
        split
        · rename_i hin
          have := hroom.flat i hin.1 (by omega)
          omega
        · exact h6
      · rw [hlay]
        cases layOn (raise F x z.toNat z) (L.drop (k + 1)) <;> simp
  · have hkn : k = n := by omega
    simp (disch := omega) only [go_sem,reduceIte,Nat.reduceEqDiff,Nat.reduceLT, e0, e1, e5, e6, e15, e16, e17, hlt]
    refine CallO_f (room_spec hf (by omega) (by omega)) (by omega) fun u h3 _ hu => ?_
    obtain ⟨rfl, x, m, rfl, hroom⟩ := hu
    rw [List.drop_of_length_le (by omega), layOn, hroom.eq.2, hFl] at hlay
    by_cases hwd : (m : Int) < w
    · rw [if_pos (by omega)] at hlay
      simp (disch := omega) only [go_sem,reduceIte,Nat.reduceEqDiff,Nat.reduceLT, e0, e1, e5, e6, e15, e16, e17, hwd]
      exact hQ' _ _ ⟨hpr, .inl ⟨hlay, rfl⟩⟩
    · rw [if_neg (by omega)] at hlay
      simp (disch := omega) only [go_sem,reduceIte,Nat.reduceEqDiff,Nat.reduceLT, e0, e1, e5, e6, e15, e16, e17, hwd]
      exact hQ' _ _ ⟨hpr, .inr ⟨sq, B, by simpa using hlay, rfl, hsq.wide (by omega) (Nat.le_refl _)⟩⟩
end
end Go.Proofs.YtnhbkoeomefkdaaDoor.Ev.L

