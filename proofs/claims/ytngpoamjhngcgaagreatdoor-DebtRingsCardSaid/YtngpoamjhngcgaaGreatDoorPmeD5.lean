/- A copy of a matrix; rings are cancelled. -/
import Derived.Test.YtngpoamjhngcgaaGreatDoorPmeD4
set_option linter.unusedVariables false
set_option linter.unusedSimpArgs false
namespace Go.Proofs.YtngpoamjhngcgaaGreatDoor.Ev
open Go Go.Proofs
noncomputable section

section
variable {P : Program} {E : Env} {n : Nat} {ops : List Oper} {r tl : List Oper} {k : List Frm} {α : Tr Value} {h : H} {R : Rt} {d : Nat} {ty : TypeId} {pos : String} {af : Array Edge}
/-- clear(x), as a statement -/
theorem At_clear0 [NoFz E] {x : Operand} {t elem : TypeId} {inf : TypeInfo} {z : Value} {m sc b off size es : Nat} {cells : Tr Value} (hu : E.u t = some (.slice elem)) (hi' : E.i elem = some inf) (hz : inf.zero = some z) (hc : okConst z = true) (hx : ev E h α x = some (.slice (some ⟨b, off, none⟩) m sc))
    (hm : 0 < m) (hone : (zeros z.cells.toList m).all oneB = true) (hb : h.blks.get b = some (.mk cells size es)) (hle : off + (zeros z.cells.toList m).length ≤ size) (hG : E.G ≤ b)
    (hk : ∀ h', Sto h h' b off (zeros z.cells.toList m) → At P E n ops false r tl k α h' R) :
    At P E n ops false (⟨none, .call ⟨.builtin .clear, #[x], #[t]⟩, ty, pos, af, none⟩ :: r) tl k α h R := by
  rw [At_heap rfl rfl]
  obtain ⟨h', w1, w2⟩ := wr_sto (E := E) hone hb hle hG
  have hm0 : ¬ m = 0 := by omega
  have e : evOp P E nocall (st false h) α ⟨none, .call ⟨.builtin .clear, #[x], #[t]⟩, ty, pos, af, none⟩ = some (undef, h') := by
    rw [evOp_eq]
    have hx1 : ev E (st false h) α x = _ := hx
    simp only [evOpS, evs, hx1]
    show evClear E (st false h) t (.slice (some ⟨b, off, none⟩) m sc) = _
    simp only [evClear, hu, hi', hz, hm0, if_false, hc, if_true, w1]
  rw [e, HeapO_none]
  exact ⟨fun e => (by cases e), hk h' w2⟩
end
theorem Fill.congr {B : Tr Blk} {T hi n i m : Nat} {f f' : Nat → Nat → Int} {R O rc : Nat → Nat} (w : Fill B T hi n i m f R O rc) (h : ∀ k j, k < i → j < m → f k j = f' k j) : Fill B T hi n i m f' R O rc :=
  ⟨w.top, fun k hk => by
    obtain ⟨h1, h2, cells, size, h3, h4, h5⟩ := w.row k hk
    exact ⟨h1, h2, cells, size, h3, h4, fun j hj => by rw [h5 j hj, h k j hk hj]⟩, w.inj⟩
theorem Fill.get {B : Tr Blk} {T hi n i m k : Nat} {f : Nat → Nat → Int} {R O rc : Nat → Nat} (w : Fill B T hi n i m f R O rc) (hk : k < i) (hn : k < n) : loadv B T (0 + k) = some (.slice (some ⟨R k, O k, none⟩) m (rc k)) := by
  obtain ⟨b', off', he, _, _, hld⟩ := w.top.at_ (by omega)
  injection he with he
  injection he with e1 e2
  subst e1; subst e2
  rw [hld k (by omega), rowsL_get hn, if_pos hk, if_pos hk, if_pos hk]
  rfl

set_option maxRecDepth 100000 in
set_option maxHeartbeats 16000000 in
theorem copied_spec {G lo hi n c : Nat} {g : Nat → Nat} {f : Nat → Nat → Int} {RA : Nat → Option Addr} {rc : Nat → Nat} {A : Option Addr} {h : H} (hG : G ≤ h.next) (hm : MatV h.blks lo hi n g f RA rc (.slice A n c)) (hg : ∀ i, i < n → g i = n) (hhi : hi ≤ h.next) (hn : n ≤ 8) (h0 : 0 < n) :
    Spec Tryz.prog (En G) 100 [.slice A n c] h fun v h' => ∃ (R O rc' : Nat → Nat), v = .slice (some ⟨h.next, 0, none⟩) n n ∧ MatW h'.blks h.next h'.next n n f R O rc' v := by
  refine CallsE_enter (En_known (by decide)) (En_f.trans Tryz.func100) rfl ⟨Nat.le_of_ble_eq_true rfl, by decide⟩ fun Q' hQ' => ?_
  obtain ⟨bd, od, rfl, hacc⟩ := hm.acc hg h0
  simp only [Tryz.f100, go_sem,reduceIte,Nat.reduceEqDiff,Nat.reduceLT, len22]
  refine At_make (k1 := .i64) (k2 := .i64) (l := n) (c := n) u22 i23 zero23 (by rw [size23, bytes23]; rfl) (by simp only [go_sem,reduceIte,Nat.reduceEqDiff,Nat.reduceLT]) (by simp only [go_sem,reduceIte,Nat.reduceEqDiff,Nat.reduceLT]) (Nat.le_refl _) (by rw [size23]; omega) (by omega) (by omega) fun h1 hn1 => ?_
  have ez : zeros (Value.slice none 0 0).cells.toList n = rowsL n (fun _ => 0) (fun _ => none) (fun _ => 0) := zeros_rows n
  rw [size23, ez] at hn1
  have n1 := hn1.next
  have s1 := hn1.slv (n := n) (c := n) (by rw [rowsL_len]; simp)
  obtain ⟨T, hT⟩ : ∃ T, T = h.next := ⟨_, rfl⟩
  rw [n1, ← hT] at s1
  have pr1 : Pres T h h1 := hn1.pres (by omega)
  have hF0 : Fill h1.blks T h1.next n 0 n f (fun _ => 0) (fun _ => 0) (fun _ => 0) := ⟨by
      rw [rowsL_congr (g' := fun _ => 0) (RA' := fun _ => none) (rc' := fun _ => 0) fun k _ => ⟨if_neg (Nat.not_lt_zero k), if_neg (Nat.not_lt_zero k), if_neg (Nat.not_lt_zero k)⟩]
      exact s1, fun k hk => absurd hk (Nat.not_lt_zero k), fun a b ha => absurd ha (Nat.not_lt_zero a)⟩
  simp only [go_sem,reduceIte,Nat.reduceEqDiff,Nat.reduceLT, len22, ← hT]
  refine WK_loopN (fun j α h2 => ∃ (i : Nat) (R O rc' : Nat → Nat), i + j = n ∧ T < h2.next ∧ Pres T h h2 ∧ Fill h2.blks T h2.next n i n f R O rc' ∧ α.get 3 = some (.slice (some ⟨T, 0, none⟩) n n) ∧ α.get 9 = some (.slice (some ⟨bd, od, none⟩) n c) ∧ α.get 10 = some (.int .i64 (n : Int)) ∧ α.get 11 = some (.int .i64 (i : Int))) n
    ⟨0, _, _, _, by omega, by omega, pr1, hF0, by (simp only [go_sem,reduceIte,Nat.reduceEqDiff,Nat.reduceLT]) <;> rfl, by (simp only [go_sem,reduceIte,Nat.reduceEqDiff,Nat.reduceLT]) <;> rfl, by (simp only [go_sem,reduceIte,Nat.reduceEqDiff,Nat.reduceLT]) <;> rfl, by (simp only [go_sem,reduceIte,Nat.reduceEqDiff,Nat.reduceLT]) <;> rfl⟩ (by omega) ?_
  rintro J j α h2 ⟨i, R, O, rc', hij, hTn, pr, hF, e3, e9, e10, e11⟩ hJ
  by_cases hlt : (i : Int) < (n : Int)
  · have hin : i < n := by omega
    obtain ⟨x1, y1, d1, d2⟩ := hacc i hin
    have tb := slv_lt hm.top h0
    have xb : x1 < h.next := by
      have hr := hm.row i hin
      obtain ⟨b2, o2, g1, g2⟩ := hr.ints_at (by rw [hg i hin]; exact h0)
      obtain ⟨b', off', he, hld⟩ := hm.at_ h0
      injection he with he
      injection he with e1 e2
      subst e1; subst e2
      have := hld i hin
      rw [d1, g1] at this
      injection this with this
      injection this with k1 k2 k3
      injection k1 with k1
      injection k1 with k1 k4
      subst k1
      rw [g1] at hr
      have := slv_lt hr (by rw [hg i hin]; exact h0)
      omega
    have d1' : loadv h2.blks bd (od + i) = some (.slice (some ⟨x1, y1, none⟩) n (rc i)) := by
      rw [← d1]; exact loadv_eq (pr.get _ (by omega)) _
    simp (disch := omega) only [go_sem,reduceIte,Nat.reduceEqDiff,Nat.reduceLT, e3, e9, e10, e11, hlt, idxA22, load22, load23, Int.toNat_natCast, Nat.mul_one, d1', len23]
    refine At_make (k1 := .i64) (k2 := .i64) (l := n) (c := n) u23 i3 zero3 (by rw [size3, bytes3]; rfl) (by simp only [go_sem,reduceIte,Nat.reduceEqDiff,Nat.reduceLT]) (by simp only [go_sem,reduceIte,Nat.reduceEqDiff,Nat.reduceLT]) (Nat.le_refl _) (by rw [size3]; omega) (by omega) (by omega) fun h3 hn3 => ?_
    have ez3 : zeros (Value.int .i64 0).cells.toList n = intsL n fun _ => 0 := zeros_ints n
    rw [size3, ez3] at hn3
    have n3 := hn3.next
    have s3 := hn3.slv (n := n) (c := n) (by rw [intsL_len]; simp)
    obtain ⟨ct, st', t1, t2⟩ := slv_blk (hF.top.mono (B' := h3.blks) fun b h1 h2 => by rw [hn3.get, if_neg (by omega)])
    simp (disch := omega) only [go_sem,reduceIte,Nat.reduceEqDiff,Nat.reduceLT, e3, idxA22, Int.toNat_natCast, Nat.mul_one]
    refine At_store (inf := inf23) (b := T) (off := 0 + i) (v := .slice (some ⟨h2.next, 0, none⟩) n n) i23 (by simp only [go_sem,reduceIte,Nat.reduceEqDiff,Nat.reduceLT]) (by simp only [go_sem,reduceIte,Nat.reduceEqDiff,Nat.reduceLT]) (by rw [size23]; rfl) rfl t1 (by rw [size23]; omega) (by rw [En_G]; omega) fun h4 hs4 => ?_
    have n4 := hs4.next
    have hF1 := (hF.congr (f' := fun k j => if k = i then 0 else f k j) fun k j hk hj => (if_neg (by omega)).symm).next hTn hin (hn3.pres (Nat.le_refl _)) (b := h2.next) (off := 0) (c := n) (by
      rw [intsL_congr (f' := fun _ => 0) fun j hj => if_pos rfl]
      exact s3) hs4
    have hF1' := hF1.get (k := i) (by omega) hin
    simp only [if_true] at hF1'
    obtain ⟨_, _, cr, sr, r1, r2, _⟩ := hF1.row i (by omega)
    simp only [if_true] at r1 r2
    have hsrc : SlV h4.blks lo hi 1 n (intsL n (f i)) (.slice (some ⟨x1, y1, none⟩) n (rc i)) := by
      have hr := hm.row i hin
      obtain ⟨b2, o2, g1, g2⟩ := hr.ints_at (by rw [hg i hin]; exact h0)
      obtain ⟨b', off', he, hld⟩ := hm.at_ h0
      injection he with he
      injection he with e1 e2
      subst e1; subst e2
      have := hld i hin
      rw [d1, g1] at this
      injection this with this
      injection this with k1 k2 k3
      injection k1 with k1
      injection k1 with k1 k4
      subst k1; subst k4
      rw [g1, hg i hin] at hr
      exact hr.mono fun b _ hb => by rw [hs4.get b (by omega), hn3.get, if_neg (by omega)]; exact pr.get b (by omega)
    simp (disch := omega) only [go_sem,reduceIte,Nat.reduceEqDiff,Nat.reduceLT, e3, idxA22, load23, Int.toNat_natCast, Nat.mul_one, hF1']
    refine At_copy (m := n) (off := 0) (dl := n) (sc := n) (v := .slice (some ⟨x1, y1, none⟩) n (rc i)) (L := intsL n (f i)) u23 i3 (by simp only [go_sem,reduceIte,Nat.reduceEqDiff,Nat.reduceLT]) (by simp only [go_sem,reduceIte,Nat.reduceEqDiff,Nat.reduceLT]) (by rw [size3]; exact hsrc) h0 (Nat.le_refl _) intsL_one r1 (by rw [size3]; omega) (by rw [En_G]; omega) (by omega) fun h5 hs5 => ?_
    have n5 := hs5.next
    have hF2 := hF1.over (k0 := i) (f0 := f i) (by omega) (by simp only [if_true]; exact hs5)
    have hF3 := hF2.congr (f' := f) fun k j hk hj => by
      by_cases e : k = i
      · subst e; rw [if_pos rfl]
      · rw [if_neg e, if_neg e]
    rw [← n5] at hF3
    simp (disch := omega) only [go_sem,reduceIte,Nat.reduceEqDiff,Nat.reduceLT, e11, wrap_i64]
    exact hJ (j - 1) _ _ (by omega) ⟨i + 1, _, _, _, by omega, by omega, pr.trans ((hn3.pres (by omega)).trans ((hs4.pres (Nat.le_refl _)).trans (hs5.pres (by omega)))), hF3, by simp only [go_sem,reduceIte,Nat.reduceEqDiff,Nat.reduceLT, e3], by simp only [go_sem,reduceIte,Nat.reduceEqDiff,Nat.reduceLT, e9], by simp only [go_sem,reduceIte,Nat.reduceEqDiff,Nat.reduceLT, e10], by (simp only [go_sem,reduceIte,Nat.reduceEqDiff,Nat.reduceLT]) <;> rfl⟩
  · obtain rfl : i = n := by omega
    simp (disch := omega) only [go_sem,reduceIte,Nat.reduceEqDiff,Nat.reduceLT, e3, e9, e10, e11, hlt]
    exact hQ' _ _ ⟨by rw [← hT]; exact pr, R, O, rc', by rw [← hT], by rw [← hT]; exact hF.done hTn⟩
end
end Go.Proofs.YtngpoamjhngcgaaGreatDoor.Ev

