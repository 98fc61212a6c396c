/- The document's own numbers: sums and whole numbers are new; lists of numbers, of rows of numbers. -/
import Derived.Test.YthankillfhmfkaaGreatDoorPmHH
import Derived.Test.YthankillfhmfkaaGreatDoorPmAA
import Derived.Test.YthankillfhmfkaaGreatDoorPmFO
import Derived.Test.YthankillfhmfkaaGreatDoorPmFF
set_option linter.unusedSimpArgs false
set_option linter.unusedVariables false
namespace Go.Proofs.YthankillfhmfkaaGreatDoor.Ev
open Go Go.Proofs Go.Lm
open Nat renaming reduceEqDiff → nqD, reduceLT → nqL
noncomputable section
theorem RZL.congr {B : Tr Blk} {lo N x x' : Nat} {s s' : Bool} {v : Value} (a : RZL B lo N s x v) (h1 : s = s') (h2 : x = x') : RZL B lo N s' x' v := by
 subst h1; subst h2; exact a
theorem RZL.wide {B : Tr Blk} {lo lo' N N' x : Nat} {s : Bool} {v : Value} (a : RZL B lo N s x v) (h1 : lo' ≤ lo) (h2 : N ≤ N') : RZL B lo' N' s x v := by
 obtain ⟨l, A, c, e, hs, r⟩ := a
 exact ⟨l, A, c, e, hs.wide h1 h2, r⟩
theorem RZL.mono {B B' : Tr Blk} {lo N x : Nat} {s : Bool} {v : Value} (a : RZL B lo N s x v) (hB : ∀ b, lo ≤ b → b < N → B'.get b = B.get b) : RZL B' lo N s x v := by
 obtain ⟨l, A, c, e, hs, r⟩ := a
 exact ⟨l, A, c, e, hs.mono hB, r⟩
theorem RZL.sto {h h' : H} {lo N x b off : Nat} {s : Bool} {v : Value} {L vs : List Value} (hv : RZL h.blks lo N s x v) (hs : Sto h h' b off vs) (hvar : Var h.blks b L) (hL : L.all (fun v => !isI v) = true) : RZL h'.blks lo N s x v := by
 obtain ⟨l, A, c, rfl, h2, r⟩ := hv
 exact ⟨l, A, c, rfl, h2.stoN hs hvar hL, r⟩
theorem RZL.shape {B : Tr Blk} {lo N x : Nat} {s : Bool} {v : Value} (a : RZL B lo N s x v) : ∃ A n c, v = .agg #[.bool s, .slice A n c] := a.rz.shape
def ZVL (B : Tr Blk) (lo N : Nat) (z : Int) (v : Value) : Prop := RZL B lo N (decide (z < 0)) z.natAbs v
theorem ZVL.zv {B : Tr Blk} {lo N : Nat} {z : Int} {v : Value} (a : ZVL B lo N z v) : ZV B N z v := RZL.rz a
theorem ZVL.shape {B : Tr Blk} {lo N : Nat} {z : Int} {v : Value} (a : ZVL B lo N z v) : ∃ A n c, v = .agg #[.bool (decide (z < 0)), .slice A n c] := RZL.shape a
set_option maxHeartbeats 16000000 in
set_option maxRecDepth 100000 in
theorem Add_fresh {G N : Nat} {a b : Int} {v u : Value} {h : H} (hG : G ≤ h.next) (hN : N ≤ h.next) (hv : ZV h.blks N a v) (hu : ZV h.blks N b u) (ha : Sr a.natAbs) (hb : Sr b.natAbs) :
  Spec Tryz.prog (En G) 77 [v, u] h fun w h' => ZVL h'.blks h.next h'.next (a + b) w := by
 obtain ⟨l, A, c, rfl, hs, hl, hn, el⟩ := hv
 obtain ⟨m, A', c', rfl, hs', hl', hn', em⟩ := hu
 rw [← el] at ha
 rw [← em] at hb
 have hlen := ha.len hn
 have hlen' := hb.len hn'
 refine CallsE_enter (En_known (by decide)) (En_f.trans Tryz.func77) rfl ⟨Nat.le_of_ble_eq_true rfl, by decide⟩ fun Q' hQ' => ?_
 simp (disch := omega) only [Tryz.f77, go_sem,reduceIte,nqD,nqL]
 refine At_box (v := .agg #[.bool (decide (a < 0)), .slice A l.length c]) (by simp only [go_sem,reduceIte,nqD,nqL]) (by omega) fun h1 hn1 => ?_
 have n1 := hn1.next
 have pr1 : Pres h.next h h1 := hn1.pres nlr
 have x1 : Var h1.blks h.next [.bool (decide (a < 0)), .slice A l.length c] := hn1.var
 try simp (disch := omega) only [go_sem,reduceIte,nqD,nqL]
 refine At_box (v := .agg #[.bool (decide (b < 0)), .slice A' m.length c']) (by simp only [go_sem,reduceIte,nqD,nqL]) (by omega) fun h2 hn2 => ?_
 have n2 := hn2.next
 have pr2 : Pres h.next h h2 := pr1.trans ((hn2.pres nlr).le (by omega))
 have x2 : Var h2.blks h1.next [.bool (decide (b < 0)), .slice A' m.length c'] := hn2.var
 replace x1 := x1.mono (B' := h2.blks) (by rw [hn2.get, if_neg (by omega)])
 try simp (disch := omega) only [go_sem,reduceIte,nqD,nqL]
 refine At_alloc i60 zero60 rfl (by omega) fun h3 hn3 => ?_
 have n3 := hn3.next
 have pr3 : Pres h.next h h3 := pr2.trans ((hn3.pres nlr).le (by omega))
 have x3 : Var h3.blks h2.next [.bool false, .slice none 0 0] := hn3.var
 replace x1 := x1.mono (B' := h3.blks) (by rw [hn3.get, if_neg (by omega)])
 replace x2 := x2.mono (B' := h3.blks) (by rw [hn3.get, if_neg (by omega)])
 have l10 : loadv h3.blks h.next 0 = some (.bool (decide (a < 0))) := by rw [x1.load (by simp)]; rfl
 have l11 : loadv h3.blks h.next 1 = some (.slice A l.length c) := by rw [x1.load (by simp)]; rfl
 have l20 : loadv h3.blks h1.next 0 = some (.bool (decide (b < 0))) := by rw [x2.load (by simp)]; rfl
 have l21 : loadv h3.blks h1.next 1 = some (.slice A' m.length c') := by rw [x2.load (by simp)]; rfl
 have hs1 := hs.mono (B' := h3.blks) fun b _ hb => pr3.get b (by omega)
 have hs2 := hs'.mono (B' := h3.blks) fun b _ hb => pr3.get b (by omega)
 clear hn1 hn2 hn3 x1 x2
 have hfin : ∀ {h5 : H} {w : Value} {s : Bool} {x : Nat}, Pres h3.next h3 h5 → RZL h5.blks h3.next h5.next s x w → s = decide (a + b < 0) → x = (a + b).natAbs → ∀ {h6 : H}, Sto h5 h6 h2.next 0 w.cells.toList → Q' w h6 := fun {h5 w s x} p5 hw e1 e2 {h6} hs6 => by
  have n5 := p5.next
  refine hQ' _ _ ⟨(pr3.trans (p5.le (by omega))).trans (hs6.pres (by omega)), ?_⟩
  exact ((hw.congr e1 e2).sto hs6 (x3.mono (p5.get _ (by omega))) noI_s).wide (by omega) (by have := hs6.next; omega)
 simp (disch := omega) only [go_sem,reduceIte,nqD,nqL, fld60_0, load4, Nat.zero_add, l10, l20, eq_bool]
 by_cases hsg : (decide (a < 0) == decide (b < 0)) = true
 ·have hsg' : decide (a < 0) = decide (b < 0) := by simpa using hsg
  rw [decide_eq_decide] at hsg'
  simp (disch := omega) only [hsg, go_sem,reduceIte,nqD,nqL]
  refine WK_regionT 7 ⟨by kernel_rfl, by kernel_rfl, by kernel_rfl⟩ ?_
  simp (disch := omega) only [go_sem,reduceIte,nqD,nqL, fld60_0, fld60_1, load4, load34, Nat.zero_add, l10, l11, l21]
  refine CallO_spec (plus_ref (N := N) (by rw [st_next]; omega) (by rw [st_next]; omega) hl hl' (by rw [st_blks]; exact hs1) (by rw [st_blks]; exact hs2) hlen hlen') (by omega) (fun _ _ _ h => h) fun w4 h4 pr4 hw4 => ?_
  have n4 := pr4.next
  obtain ⟨L, A3, c3, rfl, hsL, hlL, eL, hLn⟩ := hw4
  simp (disch := omega) only [go_sem,reduceIte,nqD,nqL, build60]
  refine CallO_spec (lean_fresh (N := h4.next) (by rw [st_next]; omega) (by rw [st_next]; omega) hlL (by rw [st_blks]; exact hsL) (by omega)) (by omega) (fun _ _ _ h => h) fun w5 h5 pr5 hw5 => ?_
  have n5 := pr5.next
  replace hw5 := RZL.wide (lo := h4.next) (lo' := h3.next) (N' := h5.next) hw5 (by omega) nlr
  obtain ⟨A5, nl5, c5, e5⟩ := hw5.shape
  subst e5
  try simp (disch := omega) only [go_sem,reduceIte,nqD,nqL]
  refine At_storeV (inf := inf60) (v := .agg #[.bool (decide (a < 0) && decide (nv 10000 L ≠ 0)), .slice A5 nl5 c5]) i60 (by simp only [go_sem,reduceIte,nqD,nqL]) (by simp only [go_sem,reduceIte,nqD,nqL]) (x3.mono ((pr5.get _ (by omega)).trans (pr4.get _ (by omega)))) (by rw [size60]; rfl) (by rw [size60]; rfl) rfl (by show G ≤ h2.next; omega) fun h6 hs6 v6 => ?_
  have r6 := v6.znE (G := G) rfl
  simp (disch := omega) only [go_sem,reduceIte,nqD,nqL, r6]
  refine hfin (pr4.trans (pr5.le (by omega))) hw5 ?_ (by omega) hs6
  rw [← Bool.decide_and, decide_eq_decide]; omega
 ·have hsg0 : (decide (a < 0) == decide (b < 0)) = false := by simpa using hsg
  have hsg' : ¬ (a < 0 ↔ b < 0) := fun e => hsg (by simp [e])
  simp (disch := omega) only [go_sem,reduceIte,nqD,nqL, hsg0, fld60_1, load34, Nat.zero_add, l11, l21]
  refine CallO_same (sizes_spec (N := N) hl hl' hn hn' hs1 hs2 (by omega) (by omega)) (by omega) fun u hu => ?_
  subst hu
  by_cases hge : m.length = m.length ∧ nv 10000 m ≤ nv 10000 l
  ·obtain ⟨_, hge⟩ := hge
   have d1 : decide ((0 : Int) ≤ cmpI (nv 10000 l) (nv 10000 m)) = true := decide_eq_true (by unfold cmpI; split <;> first | omega | (split <;> omega))
   simp (disch := omega) only [go_sem,reduceIte,nqD,nqL, d1]
   refine WK_regionT 7 ⟨by kernel_rfl, by kernel_rfl, by kernel_rfl⟩ ?_
   simp (disch := omega) only [go_sem,reduceIte,nqD,nqL, fld60_0, fld60_1, load4, load34, Nat.zero_add, l10, l11, l21]
   refine CallO_spec (less_spec (N := N) (by rw [st_next]; omega) (by rw [st_next]; omega) hl hl' hn' hge (by rw [st_blks]; exact hs1) (by rw [st_blks]; exact hs2) hlen) (by omega) (fun _ _ _ h => h) fun w4 h4 pr4 hw4 => ?_
   have n4 := pr4.next
   obtain ⟨L, A3, c3, rfl, hsL, hlL, eL, hLn⟩ := hw4
   simp (disch := omega) only [go_sem,reduceIte,nqD,nqL, build60]
   refine CallO_spec (lean_fresh (N := h4.next) (by rw [st_next]; omega) (by rw [st_next]; omega) hlL (by rw [st_blks]; exact hsL) (by omega)) (by omega) (fun _ _ _ h => h) fun w5 h5 pr5 hw5 => ?_
   have n5 := pr5.next
   replace hw5 := RZL.wide (lo := h4.next) (lo' := h3.next) (N' := h5.next) hw5 (by omega) nlr
   obtain ⟨A5, nl5, c5, e5⟩ := hw5.shape
   subst e5
   try simp (disch := omega) only [go_sem,reduceIte,nqD,nqL]
   refine At_storeV (inf := inf60) (v := .agg #[.bool (decide (a < 0) && decide (nv 10000 L ≠ 0)), .slice A5 nl5 c5]) i60 (by simp only [go_sem,reduceIte,nqD,nqL]) (by simp only [go_sem,reduceIte,nqD,nqL]) (x3.mono ((pr5.get _ (by omega)).trans (pr4.get _ (by omega)))) (by rw [size60]; rfl) (by rw [size60]; rfl) rfl (by show G ≤ h2.next; omega) fun h6 hs6 v6 => ?_
   have r6 := v6.znE (G := G) rfl
   simp (disch := omega) only [go_sem,reduceIte,nqD,nqL, r6]
   refine hfin (pr4.trans (pr5.le (by omega))) hw5 ?_ (by omega) hs6
   rw [← Bool.decide_and, decide_eq_decide]; omega
  ·have hge : nv 10000 l < nv 10000 m := by omega
   have d1 : decide ((0 : Int) ≤ cmpI (nv 10000 l) (nv 10000 m)) = false := decide_eq_false (by unfold cmpI; rw [if_pos (by omega)]; omega)
   simp (disch := omega) only [go_sem,reduceIte,nqD,nqL, d1]
   refine WK_regionT 7 ⟨by kernel_rfl, by kernel_rfl, by kernel_rfl⟩ ?_
   simp (disch := omega) only [go_sem,reduceIte,nqD,nqL, fld60_0, fld60_1, load4, load34, Nat.zero_add, l20, l11, l21]
   refine CallO_spec (less_spec (N := N) (by rw [st_next]; omega) (by rw [st_next]; omega) hl' hl hn (by omega) (by rw [st_blks]; exact hs2) (by rw [st_blks]; exact hs1) hlen') (by omega) (fun _ _ _ h => h) fun w4 h4 pr4 hw4 => ?_
   have n4 := pr4.next
   obtain ⟨L, A3, c3, rfl, hsL, hlL, eL, hLn⟩ := hw4
   simp (disch := omega) only [go_sem,reduceIte,nqD,nqL, build60]
   refine CallO_spec (lean_fresh (N := h4.next) (by rw [st_next]; omega) (by rw [st_next]; omega) hlL (by rw [st_blks]; exact hsL) (by omega)) (by omega) (fun _ _ _ h => h) fun w5 h5 pr5 hw5 => ?_
   have n5 := pr5.next
   replace hw5 := RZL.wide (lo := h4.next) (lo' := h3.next) (N' := h5.next) hw5 (by omega) nlr
   obtain ⟨A5, nl5, c5, e5⟩ := hw5.shape
   subst e5
   try simp (disch := omega) only [go_sem,reduceIte,nqD,nqL]
   refine At_storeV (inf := inf60) (v := .agg #[.bool (decide (b < 0) && decide (nv 10000 L ≠ 0)), .slice A5 nl5 c5]) i60 (by simp only [go_sem,reduceIte,nqD,nqL]) (by simp only [go_sem,reduceIte,nqD,nqL]) (x3.mono ((pr5.get _ (by omega)).trans (pr4.get _ (by omega)))) (by rw [size60]; rfl) (by rw [size60]; rfl) rfl (by show G ≤ h2.next; omega) fun h6 hs6 v6 => ?_
   have r6 := v6.znE (G := G) rfl
   simp (disch := omega) only [go_sem,reduceIte,nqD,nqL, r6]
   refine hfin (pr4.trans (pr5.le (by omega))) hw5 ?_ (by omega) hs6
   rw [← Bool.decide_and, decide_eq_decide]; omega
set_option maxHeartbeats 8000000 in
set_option maxRecDepth 100000 in
theorem Int_fresh {G : Nat} {z : Int} {h : H} (hG : G ≤ h.next) (hlo : -9223372036854775808 ≤ z) (hhi : z ≤ 9223372036854775807) :
  Spec Tryz.prog (En G) 39 [.int .i64 z] h fun w h' => ZVL h'.blks h.next h'.next z w := by
 refine CallsE_enter (En_known (by decide)) (En_f.trans Tryz.func39) rfl ⟨Nat.le_of_ble_eq_true rfl, by decide⟩ fun Q' hQ' => ?_
 simp (disch := omega) only [Tryz.f39, go_sem,reduceIte,nqD,nqL]
 refine At_alloc i60 zero60 rfl (by omega) fun h1 hn1 => ?_
 have n1 := hn1.next
 have pr1 : Pres h.next h h1 := hn1.pres nlr
 have x1 : Var h1.blks h.next [.bool false, .slice none 0 0] := hn1.var
 try simp (disch := omega) only [go_sem,reduceIte,nqD,nqL, build60s]
 refine At_alloc i60 zero60 rfl (by omega) fun h2 hn2 => ?_
 have n2 := hn2.next
 have pr2 : Pres h.next h h2 := pr1.trans ((hn2.pres nlr).le (by omega))
 have x2 : Var h2.blks h1.next [.bool false, .slice none 0 0] := hn2.var
 replace x1 := x1.mono (B' := h2.blks) (by rw [hn2.get, if_neg (by omega)])
 try simp (disch := omega) only [go_sem,reduceIte,nqD,nqL, build60s]
 refine At_storeV (inf := inf60) (v := .agg #[.bool (decide (z < 0)), .slice none 0 0]) i60 (by simp only [go_sem,reduceIte,nqD,nqL]) (by simp only [go_sem,reduceIte,nqD,nqL]) x2 (by rw [size60]; rfl) (by rw [size60]; rfl) rfl (by show G ≤ h1.next; omega) fun h3 hs3 x3 => ?_
 have n3 := hs3.next
 have pr3 : Pres h.next h h3 := pr2.trans (hs3.pres (by omega))
 replace x1 := x1.mono (B' := h3.blks) (hs3.get _ (by omega))
 simp (disch := omega) only [go_sem,reduceIte,nqD,nqL]
 refine WK_loopN (fun j α h4 => ∃ (v : Int) (L : List Nat) (A : Option Addr), α.get 0 = some (.int .i64 v) ∧ α.get 2 = some (.pointer (some ⟨h.next, 0, none⟩)) ∧ α.get 3 = some (.pointer (some ⟨h1.next, 0, none⟩)) ∧ Var h4.blks h.next [.bool false, .slice none 0 0] ∧ Var h4.blks h1.next [.bool (decide (z < 0)), .slice A L.length L.length] ∧
   SlV h4.blks h3.next h4.next 1 L.length (nats L) (.slice A L.length L.length) ∧ Lim 10000 L ∧ (v = 0 → Nrm L) ∧ nv 10000 L + 10000 ^ L.length * v.natAbs = z.natAbs ∧ v.natAbs < 10000 ^ j ∧ v.natAbs ≤ 9223372036854775808 ∧ L.length + j = 5 ∧ Pres h.next h h4 ∧ h3.next ≤ h4.next) 5
  ⟨z, [], none, by simp only [go_sem,reduceIte,nqD,nqL], by simp only [go_sem,reduceIte,nqD,nqL], by simp only [go_sem,reduceIte,nqD,nqL], x1, x3, .nil rfl rfl, Lim.nil, fun _ => Nrm.nil, by simp [nv], by omega, by omega, rfl, pr3, Nat.le_refl _⟩ (by omega) ?_
 clear x1 x2 x3 hn1 hn2 hs3
 rintro J j α h4 ⟨v, L, A, e0, e2, e3, x1, x2, hsv, hlL, hnr, hinv, hvj, hvb, hLj, pr, hnx⟩ hJ
 by_cases hv0 : v = 0
 ·have d0 : decide (v ≠ 0) = false := decide_eq_false (by omega)
  have r2 := x2.zn (G := G) rfl
  simp (disch := omega) only [go_sem,reduceIte,nqD,nqL, e0, e2, e3, d0, r2]
  refine At_storeV (inf := inf60) (v := .agg #[.bool (decide (z < 0)), .slice A L.length L.length]) i60 (by simp only [go_sem,reduceIte,nqD,nqL, e2]) (by simp only [go_sem,reduceIte,nqD,nqL]) x1 (by rw [size60]; rfl) (by rw [size60]; rfl) rfl (by show G ≤ h.next; omega) fun h6 hs6 v6 => ?_
  have n6 := hs6.next
  have r6 := v6.znE (G := G) rfl
  simp (disch := omega) only [go_sem,reduceIte,nqD,nqL, e2, r6]
  refine hQ' _ _ ⟨pr.trans (hs6.pres (by omega)), L, A, _, rfl, ?_, hlL, hnr hv0, ?_⟩
  ·exact (hsv.mono fun b hb _ => hs6.get b (by omega)).wide (by omega) (by omega)
  ·rw [hv0] at hinv; simpa using hinv
 ·have d0 : decide (v ≠ 0) = true := decide_eq_true hv0
  have hj0 : j ≠ 0 := fun e => by
   rw [e, Nat.pow_zero] at hvj; omega
  obtain ⟨s, hs1, hmod, hdiv, hvs⟩ := tmod_abs v
  have hq : (v.tdiv 10000).natAbs = v.natAbs / 10000 := by
   rw [hdiv]; rcases hs1 with rfl | rfl <;> omega
  have w7 : IntKind.i64.wrap (v.tdiv 10000) = v.tdiv 10000 := wrap_i64 (by omega) (by omega)
  have hneq : (10000 : Int) ≠ 0 := by omega
  have l1 : loadv h4.blks h1.next 1 = some (.slice A L.length L.length) := by rw [x2.load (by simp)]; rfl
  simp (disch := omega) only [go_sem,reduceIte,nqD,nqL, e0, e2, e3, d0]
  refine CondO_cut (fun α' h' => h4 = h' ∧ α'.get 0 = some (.int .i64 v) ∧ α'.get 2 = some (.pointer (some ⟨h.next, 0, none⟩)) ∧ α'.get 3 = some (.pointer (some ⟨h1.next, 0, none⟩)) ∧ α'.get 4 = some (.int .i64 ((v.natAbs % 10000 : Nat) : Int))) ?_ ?_
  ·by_cases hm : v.tmod 10000 < 0
   ·have dm : decide (v.tmod 10000 < 0) = true := decide_eq_true hm
    have e9 : IntKind.i64.wrap (0 - v.tmod 10000) = ((v.natAbs % 10000 : Nat) : Int) := wrap_nat (by rcases hs1 with rfl | rfl <;> omega) (by omega)
    simp (disch := omega) only [go_sem,reduceIte,nqD,nqL, dm, e9]
    exact ⟨trivial, by simp only [go_sem,reduceIte,nqD,nqL, e0], by simp only [go_sem,reduceIte,nqD,nqL, e2], by simp only [go_sem,reduceIte,nqD,nqL, e3], by simp only [go_sem,reduceIte,nqD,nqL]⟩
   ·have dm : decide (v.tmod 10000 < 0) = false := decide_eq_false hm
    have e9 : v.tmod 10000 = ((v.natAbs % 10000 : Nat) : Int) := by rcases hs1 with rfl | rfl <;> omega
    simp (disch := omega) only [go_sem,reduceIte,nqD,nqL, dm]
    exact ⟨trivial, by simp only [go_sem,reduceIte,nqD,nqL, e0], by simp only [go_sem,reduceIte,nqD,nqL, e2], by simp only [go_sem,reduceIte,nqD,nqL, e3], by (simp only [go_sem,reduceIte,nqD,nqL, e9]) <;> rfl⟩
  clear e0 e2 e3
  rintro α h5 ⟨rfl, e0, e2, e3, e4⟩
  simp (disch := omega) only [go_sem,reduceIte,nqD,nqL, e0, e2, e3, e4, fld60_1, load34, Nat.zero_add, l1]
  refine At_pushN (lo := h3.next) (hi := h4.next) (l := L) (z := v.natAbs % 10000) (A := A) (by simp only [go_sem,reduceIte,nqD,nqL]) (by simp only [go_sem,reduceIte,nqD,nqL]) hsv nlr (by omega) hnx (by omega) (by decide) (by decide) (by decide) fun A6 h6 pr6 hs6 n6 => ?_
  have y1 := x1.mono (B' := h6.blks) (pr6.get _ (by omega))
  have y2 := x2.mono (B' := h6.blks) (pr6.get _ (by omega))
  simp (disch := omega) only [go_sem,reduceIte,nqD,nqL, e0, e2, e3, fld60_1]
  refine At_store (inf := inf34) (b := h1.next) (off := 0 + 1) (v := .slice A6 (L ++ [v.natAbs % 10000]).length (L ++ [v.natAbs % 10000]).length) i34 (by simp only [go_sem,reduceIte,nqD,nqL]) (by (simp only [go_sem,reduceIte,nqD,nqL]) <;> rfl) (by rw [size34]; rfl) rfl y2.choose_spec.choose_spec.1 (by rw [size34]; show 0 + 1 + 1 ≤ 2; omega) (by show G ≤ h1.next; omega) fun h7 hs7 => ?_
  have n7 := hs7.next
  have z2 : Var h7.blks h1.next [.bool (decide (z < 0)), .slice A6 (L ++ [v.natAbs % 10000]).length (L ++ [v.natAbs % 10000]).length] := hs7.varAt y2 (by show 0 + 1 + 1 ≤ 2; omega)
  have z1 := y1.mono (B' := h7.blks) (hs7.get _ (by omega))
  simp (disch := omega) only [go_sem,reduceIte,nqD,nqL, e0, e2, e3, w7]
  have hlen : (L ++ [v.natAbs % 10000]).length = L.length + 1 := by simp
  refine hJ (j - 1) _ _ (by omega) ⟨v.tdiv 10000, L ++ [v.natAbs % 10000], A6, by simp only [go_sem,reduceIte,nqD,nqL], by simp only [go_sem,reduceIte,nqD,nqL, e2], by simp only [go_sem,reduceIte,nqD,nqL, e3], z1, z2, (hs6.mono fun b hb _ => hs7.get b (by omega)).wide nlr (by omega), hlL.app (Lim.one (by omega)), fun e => ?_, ?_, ?_, by omega, by omega, (pr.trans (pr6.le (by omega))).trans (hs7.pres (by omega)), by omega⟩
  ·have : v.natAbs % 10000 ≠ 0 := by
    have h1 : v.natAbs / 10000 = 0 := by rw [← hq, e]; rfl
    omega
   simp [Nrm, this]
  ·rw [nv_snoc, hlen, hq, nv_div_step]; exact hinv
  ·rw [hq]
   obtain ⟨j', rfl⟩ : ∃ j', j = j' + 1 := ⟨j - 1, by omega⟩
   rw [Nat.add_sub_cancel]
   rw [Nat.pow_succ] at hvj
   exact Nat.div_lt_of_lt_mul (by rw [Nat.mul_comm]; exact hvj)
theorem SlV.blkB {B : Tr Blk} {lo hi sz n : Nat} {L : List Value} {v : Value} (s : SlV B lo hi sz n L v) (b : Nat) (hb : blkOf v = some b) : lo ≤ b ∧ b < hi := by
 cases s with
 | mk h1 h2 h3 h4 h5 h6 => cases hb; exact ⟨h2, h3⟩
 | nil _ _ => cases hb
 | emp _ _ => cases hb
def flatV (vs : List Value) : List Value := vs.flatMap fun w => w.cells.toList
theorem flatV_snoc {vs : List Value} {w : Value} : flatV (vs ++ [w]) = flatV vs ++ w.cells.toList := by simp [flatV]
structure QOK {α : Type} (Q : Tr Blk → Nat → Nat → α → Value → Prop) : Prop where
 mono : ∀ {B B' : Tr Blk} {lo hi : Nat} {a : α} {w : Value}, Q B lo hi a w → (∀ b, lo ≤ b → b < hi → B'.get b = B.get b) → Q B' lo hi a w
 wide : ∀ {B : Tr Blk} {lo hi lo' hi' : Nat} {a : α} {w : Value}, Q B lo hi a w → lo' ≤ lo → hi ≤ hi' → Q B lo' hi' a w
def GL {α : Type} (Q : Tr Blk → Nat → Nat → α → Value → Prop) (sz : Nat) (B : Tr Blk) (lo hi : Nat) (l : List α) (v : Value) : Prop :=
 ∃ (r : Nat) (vs : List Value), lo ≤ r ∧ r ≤ hi ∧ vs.length = l.length ∧ (∀ w ∈ vs, w.cells.size = sz) ∧ SlV B r hi sz l.length (flatV vs) v ∧ ∀ (i : Nat) (a : α) (w : Value), l[i]? = some a → vs[i]? = some w → Q B lo r a w
section
variable {α : Type} {Q : Tr Blk → Nat → Nat → α → Value → Prop} {sz : Nat}
theorem GL.mono (hq : QOK Q) {B B' : Tr Blk} {lo hi : Nat} {l : List α} {v : Value} (g : GL Q sz B lo hi l v) (hB : ∀ b, lo ≤ b → b < hi → B'.get b = B.get b) : GL Q sz B' lo hi l v := by
 obtain ⟨r, vs, h1, h2, h3, h4, h5, h6⟩ := g
 exact ⟨r, vs, h1, h2, h3, h4, h5.mono fun b hb1 hb2 => hB b (by omega) hb2, fun i a w e1 e2 => hq.mono (h6 i a w e1 e2) fun b hb1 hb2 => hB b hb1 (by omega)⟩
theorem GL.wide (hq : QOK Q) {B : Tr Blk} {lo hi lo' hi' : Nat} {l : List α} {v : Value} (g : GL Q sz B lo hi l v) (h1' : lo' ≤ lo) (h2' : hi ≤ hi') : GL Q sz B lo' hi' l v := by
 obtain ⟨r, vs, h1, h2, h3, h4, h5, h6⟩ := g
 exact ⟨r, vs, by omega, by omega, h3, h4, h5.wide nlr h2', fun i a w e1 e2 => hq.wide (h6 i a w e1 e2) h1' nlr⟩
theorem QOK.gl (hq : QOK Q) : QOK (GL Q sz) := ⟨fun g hB => GL.mono hq g hB, fun g h1 h2 => GL.wide hq g h1 h2⟩
theorem GL.emp {B : Tr Blk} {lo hi : Nat} (h : lo ≤ hi) : GL Q sz B lo hi [] empV := ⟨hi, [], h, Nat.le_refl _, rfl, fun w hw => (by cases hw), .emp rfl rfl, fun i a w h1 => by simp at h1⟩
theorem flatV_len {vs : List Value} (h : ∀ w ∈ vs, w.cells.size = sz) : (flatV vs).length = vs.length * sz := by
 induction vs with
 | nil => simp [flatV]
 | cons w vs ih =>
  have h1 := h w List.mem_cons_self
  have h2 := ih fun x hx => h x (List.mem_cons_of_mem _ hx)
  rw [flatV] at *
  rw [List.flatMap_cons, List.length_append, h2, List.length_cons, Nat.add_mul, Nat.one_mul, Array.length_toList, h1]
  omega
theorem flatV_get {vs : List Value} (h : ∀ w ∈ vs, w.cells.size = sz) {i j : Nat} {w : Value} (hw : vs[i]? = some w) (hj : j < sz) : (flatV vs)[i * sz + j]? = w.cells.toList[j]? := by
 induction vs generalizing i with
 | nil => simp at hw
 | cons v vs ih =>
  have h1 := h v List.mem_cons_self
  rw [flatV, List.flatMap_cons]
  cases i with
  | zero =>
   simp only [List.getElem?_cons_zero, Option.some.injEq] at hw
   subst hw
   rw [Nat.zero_mul, Nat.zero_add, List.getElem?_append_left (by rw [Array.length_toList, h1]; exact hj)]
  | succ i =>
   rw [List.getElem?_cons_succ] at hw
   have := ih (fun x hx => h x (List.mem_cons_of_mem _ hx)) hw
   rw [List.getElem?_append_right (by rw [Array.length_toList, h1, Nat.add_mul]; omega), Array.length_toList, h1]
   rw [show (i + 1) * sz + j - sz = i * sz + j by rw [Nat.add_mul]; omega]
   exact this
theorem GL.push (hq : QOK Q) {h h' : H} {lo hi n : Nat} {l : List α} {a : α} {w : Value} {A : Option Addr} (g : GL Q sz h.blks lo hi l (.slice A n n)) (hn : n = l.length) (hhi : hi ≤ h.next) (hw : Q h.blks hi h.next a w) (hsz : w.cells.size = sz)
  (hb : ∀ L, SlV h.blks lo hi sz l.length L (.slice A n n) → Push h h' (blkOf (.slice A n n)) (L ++ w.cells.toList) sz) :
  GL Q sz h'.blks lo h'.next (l ++ [a]) (.slice (some ⟨h.next + 1, 0, none⟩) (n + 1) (n + 1)) := by
 obtain ⟨r, vs, h1, h2, h3, h4, h5, h6⟩ := g
 have hpu := hb _ (h5.wide h1 nlr)
 have hnx := hpu.next
 have hob : ∀ b, blkOf (.slice A n n) = some b → r ≤ b ∧ b < hi := fun b e => h5.blkB b e
 have hall : ∀ x ∈ vs ++ [w], x.cells.size = sz := fun x hx => by
  rcases List.mem_append.1 hx with hx | hx
  ·exact h4 x hx
  ·rw [List.mem_singleton.1 hx]; exact hsz
 have keep : ∀ b, b < h.next → (b < r ∨ hi ≤ b) → h'.blks.get b = h.blks.get b := fun b hb1 hb2 => by
  rw [hpu.get b hb1]
  rw [if_neg fun e => by have := hob b e; omega]
 refine ⟨h.next + 1, vs ++ [w], by omega, by omega, by simp [h3], hall, ?_, ?_⟩
 ·have e1 : (l ++ [a]).length = n + 1 := by simp [hn]
  rw [flatV_snoc]
  have := hpu.slv (n := (l ++ [a]).length) (c := (l ++ [a]).length) (by rw [← flatV_snoc, flatV_len hall]; simp [h3])
  rw [e1] at this ⊢
  exact this.wide nlr (by omega)
 ·intro i x u hx hu
  by_cases hi' : i < l.length
  ·rw [List.getElem?_append_left hi'] at hx
   rw [List.getElem?_append_left (by omega)] at hu
   exact hq.wide (hq.mono (h6 i x u hx hu) fun b hb1 hb2 => keep b (by omega) (.inl hb2)) nlr (by omega)
  ·rw [List.getElem?_append_right (by omega)] at hx hu
   have hi2 : i - l.length = 0 := by
    rcases Nat.eq_zero_or_pos (i - l.length) with e | e
    ·exact e
    ·rw [List.getElem?_eq_none (by simp; omega)] at hx; cases hx
   rw [hi2] at hx
   rw [h3, hi2] at hu
   simp only [List.getElem?_cons_zero, Option.some.injEq] at hx hu
   subst hx; subst hu
   exact hq.wide (hq.mono hw fun b hb1 hb2 => keep b hb2 (.inr hb1)) (by omega) (by omega)
end
theorem QOK.zvl : QOK ZVL := ⟨fun g hB => RZL.mono g hB, fun g h1 h2 => RZL.wide g h1 h2⟩
def ZRow : Tr Blk → Nat → Nat → List Int → Value → Prop := GL ZVL 2
def ZRows : Tr Blk → Nat → Nat → List (List Int) → Value → Prop := GL ZRow 1
theorem QOK.zrow : QOK ZRow := QOK.gl QOK.zvl
theorem QOK.zrows : QOK ZRows := QOK.gl QOK.zrow
end
end Go.Proofs.YthankillfhmfkaaGreatDoor.Ev
namespace Go.Proofs.YthankillfhmfkaaGreatDoor.Ev
open Go Go.Proofs Go.Lm
open Nat renaming reduceEqDiff → nqD, reduceLT → nqL
noncomputable section
theorem strs_at {B : Tr Blk} {lo hi n c i : Nat} {A : Option Addr} {l : List (List UInt8)} {s : List UInt8} (hs : SlV B lo hi 1 n (strs l) (.slice A n c)) (hi' : l[i]? = some s) : ∃ b off, A = some ⟨b, off, none⟩ ∧ lo ≤ b ∧ b < hi ∧ loadv B b (off + i) = some (strV s) := by
 have hlen : l.length = n := by have := hs.len; rw [strs_len] at this; omega
 have hi2 : i < n := by rw [← hlen]; exact (List.getElem?_eq_some_iff.1 hi').1
 obtain ⟨b, off, h1, h2, h3, h4⟩ := hs.at_ (by omega)
 refine ⟨b, off, h1, h2, h3, ?_⟩
 have := h4 i (by omega)
 rw [this]
 simp [strs, hi']
section
variable {P : Program} {n0 : Nat} {ops : List Oper} {r tl : List Oper} {k : List Frm} {α : Tr Value} {h : H} {R : Rt} {ty : TypeId} {pos : String} {af : Array Edge}
theorem At_pushS {G s d1 d lo hi : Nat} {x : Operand} {l : List (List UInt8)} {z : List UInt8} {A : Option Addr} {ty' : TypeId} {pos' : String} {af' : Array Edge} (hx : ev (En G) h α x = some (strV z)) (hs : α.get s = some (.slice A l.length l.length))
  (hsl : SlV h.blks lo hi 1 l.length (strs l) (.slice A l.length l.length)) (hhi : hi ≤ h.next) (hG : G ≤ lo) (hlo : lo ≤ h.next) (hsm : l.length < 2147483640) (hsd : s ≠ d1) (hd1 : d1 < n0) (hd : d < n0)
  (hk : ∀ A' h', Pres lo h h' → SlV h'.blks lo h'.next 1 (l ++ [z]).length (strs (l ++ [z])) (.slice A' (l ++ [z]).length (l ++ [z]).length) → h.next ≤ h'.next →
   At P (En G) n0 ops false r tl k (Tr.put (Tr.put α d1 (.slice (some ⟨h.next, 0, none⟩) 1 1)) d (.slice A' (l ++ [z]).length (l ++ [z]).length)) h' R) :
  At P (En G) n0 ops false (⟨some d1, .buildSlice 28 1 #[(0, x)], ty, pos, af, none⟩ :: ⟨some d, .call ⟨.builtin .append, #[.tmp s, .tmp d1], #[28, 28]⟩, ty', pos', af', none⟩ :: r) tl k α h R := by
 refine At_push (lo := lo) (hi := hi) (L := strs l) (vs := [strV z]) u28 i9 zero9 (by rw [size9, bytes9]; rfl) hx (by rw [size9]; rfl) (by rw [size9]; rfl) rfl hs (by rw [size9]; exact hsl) hhi nlr (by rw [En_G]; exact hG) hsm hsd hd1 hd fun h' hp => ?_
 rw [size9] at hp
 have e : strs l ++ [strV z] = strs (l ++ [z]) := by simp [strs]
 rw [e] at hp
 have hsl' := hp.slv (n := (l ++ [z]).length) (c := (l ++ [z]).length) (by rw [strs_len, Nat.mul_one])
 have hnx := hp.next
 have := hk (some ⟨h.next + 1, 0, none⟩) h' (hp.pres hlo hsl.blk) (hsl'.wide (by omega) nlr) (by omega)
 rw [List.length_append, List.length_singleton] at this
 exact this
end
theorem allT {p : UInt8 → Bool} {s : List UInt8} {j : Nat} {c : UInt8} (h : s[j]? = some c) : (s.take (j + 1)).all p = ((s.take j).all p && p c) := by
 rw [List.take_add_one, h]; simp
theorem sts_len {cm : Nat → Nat → Bool} : ∀ x, (sts cm x).length ≤ 2 ^ x
 | 0 => Nat.le_refl _
 | x + 1 => by
  rw [sts, List.length_append, List.length_map, Nat.pow_succ]
  have h1 := sts_len (cm := cm) x
  have h2 := List.length_filter_le (fun s : List UInt8 => s.all fun c => cm (lt c) x) (sts cm x)
  omega
theorem st_le {x : Nat} (hx : x ≤ 6) {s : List UInt8} (h : StOk x s) : s.length ≤ 6 := by
 rw [← h.pop]
 exact Nat.le_trans List.countP_le_length (by simp)
def nsts (cm : Nat → Nat → Bool) (x i : Nat) : List (List UInt8) := (((sts cm x).take i).filter fun s => s.all fun c => cm (lt c) x).map fun s => s ++ [UInt8.ofNat (97 + x)]
theorem nsts_step {cm : Nat → Nat → Bool} {x i : Nat} {s : List UInt8} (h : (sts cm x)[i]? = some s) : nsts cm x (i + 1) = nsts cm x i ++ (if (s.all fun c => cm (lt c) x) = true then [s ++ [UInt8.ofNat (97 + x)]] else []) := by
 unfold nsts
 rw [List.take_add_one, h, List.filter_append, List.map_append]
 congr 1
 show (List.filter _ [s]).map _ = _
 by_cases hc : (s.all fun c => cm (lt c) x) = true
 ·rw [if_pos hc]; simp [List.filter_cons, hc]
 ·rw [if_neg hc]; simp only [Bool.not_eq_true] at hc; simp [List.filter_cons, hc]
theorem nsts_len {cm : Nat → Nat → Bool} {x i : Nat} : (nsts cm x i).length ≤ (sts cm x).length := by
 rw [nsts, List.length_map]
 exact Nat.le_trans (List.length_filter_le _ _) (by rw [List.length_take]; omega)
set_option maxHeartbeats 16000000 in
set_option maxRecDepth 100000 in
theorem sets_spec {G lo hi n c k : Nat} {A : Option Addr} {ps : List (Int × Int)} {h : H} (hG : G ≤ h.next) (hv : SlV h.blks lo hi 2 n (prs ps) (.slice A n c)) (hhi : hi ≤ h.next) (hn : n < 2147483648) (hk : k ≤ 6) (hps : OkP k ps) :
  Spec Tryz.prog (En G) 74 [.int .i64 k, .slice A n c] h fun v h' => ∃ A', v = .slice A' (sts (pc ps) k).length (sts (pc ps) k).length ∧ SlV h'.blks h.next h'.next 1 (sts (pc ps) k).length (strs (sts (pc ps) k)) v := by
 refine CallsE_enter (En_known (by decide)) (En_f.trans Tryz.func74) rfl ⟨Nat.le_of_ble_eq_true rfl, by decide⟩ fun Q' hQ' => ?_
 simp (disch := omega) only [Tryz.f74, go_sem,reduceIte,nqD,nqL]
 refine At_lit (vs := [(0, strV [])]) (cs := #[strV []]) u28 i9 zero9 (by rw [size9]; rfl) (by simp only [go_sem,reduceIte,nqD,nqL]) (by rw [size9]; rfl) (by omega) fun h1 hn1 => ?_
 rw [size9] at hn1
 have n1 := hn1.next
 have hls := hn1.slv (n := 1) (c := 1) rfl
 have pr1 : Pres h.next h h1 := hn1.pres nlr
 simp (disch := omega) only [go_sem,reduceIte,nqD,nqL]
 have h64 : ∀ x, x ≤ 6 → (2 : Nat) ^ x ≤ 64 := fun x hx => Nat.le_trans (Nat.pow_le_pow_right (by omega) hx) (by decide)
 refine WK_loopN (fun j α g => ∃ (x : Nat) (A1 : Option Addr), x + j = k ∧ α.get 0 = some (.int .i64 (k : Int)) ∧ α.get 1 = some (.slice A n c) ∧ α.get 5 = some (.slice A1 (sts (pc ps) x).length (sts (pc ps) x).length) ∧ α.get 6 = some (.int .u8 ((97 + x : Nat) : Int)) ∧
   SlV g.blks h.next g.next 1 (sts (pc ps) x).length (strs (sts (pc ps) x)) (.slice A1 (sts (pc ps) x).length (sts (pc ps) x).length) ∧ Pres h.next h g) k
  ⟨0, some ⟨h.next, 0, none⟩, by omega, by simp only [go_sem,reduceIte,nqD,nqL], by simp only [go_sem,reduceIte,nqD,nqL], by simp only [go_sem,reduceIte,nqD,nqL]; rfl, by (simp only [go_sem,reduceIte,nqD,nqL]) <;> rfl, hls, pr1⟩ (by omega) ?_
 clear hls pr1 hn1
 rintro J j α g ⟨x, A1, hxj, e0, e1, e5, e6, hsv, pr⟩ hJ
 have ng := pr.next
 have hvg := hv.mono (B' := g.blks) fun b _ hb => pr.get b (by omega)
 have w6 : IntKind.u8.wrap (((97 + x : Nat) : Int) - 97) = (x : Int) := by rw [wrap_u8' (by omega) (by omega)]; omega
 by_cases hlt : x < k
 ·have d1 : decide ((x : Int) < (k : Int)) = true := decide_eq_true (by omega)
  have hSl := Nat.le_trans (sts_len (cm := pc ps) x) (h64 x (by omega))
  have hok := fun s hs => sts_ok (cm := pc ps) x (by omega) s hs
  obtain ⟨S, hS⟩ : ∃ S, sts (pc ps) x = S := ⟨_, rfl⟩
  have hn0 : S ++ nsts (pc ps) x 0 = S := by simp [nsts]
  simp (disch := omega) only [go_sem,reduceIte,nqD,nqL, e0, e1, e5, e6, w6, conv53z, d1, len28]
  rw [hS] at e5 hsv hSl hok ⊢
  refine WK_loopN (fun j2 β g2 => ∃ (i : Nat) (A2 : Option Addr), i + j2 = S.length ∧ β.get 0 = some (.int .i64 (k : Int)) ∧ β.get 1 = some (.slice A n c) ∧ β.get 5 = some (.slice A2 (S ++ nsts (pc ps) x i).length (S ++ nsts (pc ps) x i).length) ∧ β.get 6 = some (.int .u8 ((97 + x : Nat) : Int)) ∧ β.get 7 = some (.int .i64 (i : Int)) ∧ β.get 8 = some (.int .i64 (S.length : Int)) ∧
    SlV g2.blks h.next g2.next 1 (S ++ nsts (pc ps) x i).length (strs (S ++ nsts (pc ps) x i)) (.slice A2 (S ++ nsts (pc ps) x i).length (S ++ nsts (pc ps) x i).length) ∧ Pres h.next h g2) S.length
   ⟨0, A1, by omega, by simp only [go_sem,reduceIte,nqD,nqL, e0], by simp only [go_sem,reduceIte,nqD,nqL, e1], by rw [hn0]; simp only [go_sem,reduceIte,nqD,nqL, e5], by simp only [go_sem,reduceIte,nqD,nqL, e6], by (simp only [go_sem,reduceIte,nqD,nqL]) <;> rfl, by simp only [go_sem,reduceIte,nqD,nqL], by rw [hn0]; exact hsv, pr⟩ (by omega) ?_
  clear e0 e1 e5 e6 hsv pr hn0 hvg ng
  rintro J2 j2 β g2 ⟨i, A2, hij, e0, e1, e5, e6, e7, e8, hsv, pr⟩ hJ2
  have ng := pr.next
  have hvg := hv.mono (B' := g2.blks) fun b _ hb => pr.get b (by omega)
  have hnl := nsts_len (cm := pc ps) (x := x) (i := i)
  rw [hS] at hnl
  have hTl : (S ++ nsts (pc ps) x i).length ≤ 128 := by rw [List.length_append]; omega
  by_cases hi : i < S.length
  ·have d2 : decide ((i : Int) < (S.length : Int)) = true := decide_eq_true (by omega)
   obtain ⟨s, hs⟩ : ∃ s, S[i]? = some s := ⟨S[i]'hi, List.getElem?_eq_getElem hi⟩
   have hso := hok s (List.mem_of_getElem? hs)
   have hsl6 := st_le (by omega) hso
   have hT : (S ++ nsts (pc ps) x i)[i]? = some s := by rw [List.getElem?_append_left hi]; exact hs
   have hstep := nsts_step (cm := pc ps) (x := x) (i := i) (s := s) (by rw [hS]; exact hs)
   generalize hTd : S ++ nsts (pc ps) x i = T at *
   obtain ⟨b, off, rfl, _, _, ls⟩ := strs_at hsv hT
   have hiT : i < T.length := (List.getElem?_eq_some_iff.1 hT).1
   simp (disch := omega) only [go_sem,reduceIte,nqD,nqL, e0, e1, e5, e6, e7, e8, d2]
   refine WK_loopN (fun j3 γ g3 => ∃ q : Nat, g2 = g3 ∧ q + j3 = s.length ∧ γ.get 0 = some (.int .i64 (k : Int)) ∧ γ.get 1 = some (.slice A n c) ∧ γ.get 5 = some (.slice (some ⟨b, off, none⟩) T.length T.length) ∧ γ.get 6 = some (.int .u8 ((97 + x : Nat) : Int)) ∧ γ.get 7 = some (.int .i64 (i : Int)) ∧ γ.get 8 = some (.int .i64 (S.length : Int)) ∧ γ.get 9 = some (.bool ((s.take q).all fun c => pc ps (lt c) x)) ∧ γ.get 10 = some (.int .i64 (q : Int))) s.length
    ⟨0, rfl, by omega, by simp only [go_sem,reduceIte,nqD,nqL, e0], by simp only [go_sem,reduceIte,nqD,nqL, e1], by simp only [go_sem,reduceIte,nqD,nqL, e5], by simp only [go_sem,reduceIte,nqD,nqL, e6], by simp only [go_sem,reduceIte,nqD,nqL, e7], by simp only [go_sem,reduceIte,nqD,nqL, e8], by (simp only [go_sem,reduceIte,nqD,nqL]) <;> rfl, by (simp only [go_sem,reduceIte,nqD,nqL]) <;> rfl⟩ (by omega) ?_
   clear e0 e1 e5 e6 e7 e8
   rintro J3 j3 γ g3 ⟨q, rfl, hqj, e0, e1, e5, e6, e7, e8, e9, e10⟩ hJ3
   by_cases hq : q < s.length
   ·have d3 : decide ((q : Int) < (s.length : Int)) = true := decide_eq_true (by omega)
    obtain ⟨ch, hch⟩ : ∃ ch, s[q]? = some ch := ⟨s[q]'hq, List.getElem?_eq_getElem hq⟩
    have hchb := hso.ok ch (List.mem_of_getElem? hch)
    have hat := allT (p := fun c => pc ps (lt c) x) hch
    have ix : ∀ {G : Nat}, idxO (En G) 9 (some (strV s)) (some (.int .i64 (q : Int))) = some (.int .u8 ch.toNat) := idx9 (by omega) (by rw [Int.toNat_natCast]; exact hch)
    have hbx : ((UInt8.ofNat (97 + x)).toNat : Int) = ((97 + x : Nat) : Int) := by
     have : (UInt8.ofNat (97 + x)).toNat = 97 + x := by simp; omega
     rw [this]
    have hltx : lt (UInt8.ofNat (97 + x)) = x := by
     unfold lt
     have : (UInt8.ofNat (97 + x)).toNat = 97 + x := by simp; omega
     omega
    cases hpre : (s.take q).all fun c => pc ps (lt c) x with
    | false =>
     rw [hpre] at e9
     simp (disch := omega) only [go_sem,reduceIte,nqD,nqL, e0, e1, e5, e6, e7, e8, e9, e10, idxA28, Int.toNat_natCast, Nat.mul_one, load9, ls, len9, d3, wrap_i64]
     refine hJ3 (j3 - 1) _ _ (by omega) ⟨q + 1, rfl, by omega, by simp only [go_sem,reduceIte,nqD,nqL, e0], by simp only [go_sem,reduceIte,nqD,nqL, e1], by simp only [go_sem,reduceIte,nqD,nqL, e5], by simp only [go_sem,reduceIte,nqD,nqL, e6], by simp only [go_sem,reduceIte,nqD,nqL, e7], by simp only [go_sem,reduceIte,nqD,nqL, e8], by rw [hat, hpre]; (simp only [go_sem,reduceIte,nqD,nqL]) <;> rfl, by (simp only [go_sem,reduceIte,nqD,nqL]) <;> rfl⟩
    | true =>
     rw [hpre] at e9
     simp (disch := omega) only [go_sem,reduceIte,nqD,nqL, e0, e1, e5, e6, e7, e8, e9, e10, idxA28, Int.toNat_natCast, Nat.mul_one, load9, ls, len9, d3, ix]
     have hfree := free_spec (G := G) (h := g2) (x := ch) (y := UInt8.ofNat (97 + x)) hvg hn hk hps hchb.1 (by omega)
     rw [hbx, hltx] at hfree
     refine CallO_same hfree (by omega) fun u hu => ?_
     subst hu
     simp (disch := omega) only [go_sem,reduceIte,nqD,nqL, e10, wrap_i64]
     refine hJ3 (j3 - 1) _ _ (by omega) ⟨q + 1, rfl, by omega, by simp only [go_sem,reduceIte,nqD,nqL, e0], by simp only [go_sem,reduceIte,nqD,nqL, e1], by simp only [go_sem,reduceIte,nqD,nqL, e5], by simp only [go_sem,reduceIte,nqD,nqL, e6], by simp only [go_sem,reduceIte,nqD,nqL, e7], by simp only [go_sem,reduceIte,nqD,nqL, e8], by rw [hat, hpre, Bool.true_and]; simp only [go_sem,reduceIte,nqD,nqL], by (simp only [go_sem,reduceIte,nqD,nqL]) <;> rfl⟩
   ·have d3 : decide ((q : Int) < (s.length : Int)) = false := decide_eq_false (by omega)
    obtain rfl : q = s.length := by omega
    rw [List.take_length] at e9
    cases hall : s.all fun c => pc ps (lt c) x with
    | false =>
     rw [hall] at e9 hstep
     rw [if_neg (by simp), List.append_nil] at hstep
     simp (disch := omega) only [go_sem,reduceIte,nqD,nqL, e0, e1, e5, e6, e7, e8, e9, e10, idxA28, Int.toNat_natCast, Nat.mul_one, load9, ls, len9, d3, wrap_i64]
     refine hJ2 (j2 - 1) _ _ (by omega) ⟨i + 1, some ⟨b, off, none⟩, by omega, by simp only [go_sem,reduceIte,nqD,nqL, e0], by simp only [go_sem,reduceIte,nqD,nqL, e1], by rw [hstep, hTd]; simp only [go_sem,reduceIte,nqD,nqL, e5], by simp only [go_sem,reduceIte,nqD,nqL, e6], by (simp only [go_sem,reduceIte,nqD,nqL]) <;> rfl, by simp only [go_sem,reduceIte,nqD,nqL, e8], by rw [hstep, hTd]; exact hsv, pr⟩
    | true =>
     rw [hall] at e9 hstep
     rw [if_pos rfl] at hstep
     simp (disch := omega) only [go_sem,reduceIte,nqD,nqL, e0, e1, e5, e6, e7, e8, e9, e10, idxA28, Int.toNat_natCast, Nat.mul_one, load9, ls, len9, d3]
     refine WK_regionT 8 ⟨by kernel_rfl, by kernel_rfl, by kernel_rfl⟩ ?_
     simp (disch := omega) only [go_sem,reduceIte,nqD,nqL, e0, e1, e5, e6, e7, e8, e9, e10, idxA28, Int.toNat_natCast, Nat.mul_one, load9, ls]
     refine At_lit (vs := [(0, .int .u8 ((97 + x : Nat) : Int))]) (cs := #[.int .u8 ((97 + x : Nat) : Int)]) u73 i5 zero5 (by rw [size5]; rfl) (by simp only [go_sem,reduceIte,nqD,nqL, e6]) (by rw [size5]; rfl) (by omega) fun g4 hg4 => ?_
     rw [size5] at hg4
     have n4 := hg4.next
     have p4 : Pres g2.next g2 g4 := hg4.pres nlr
     have hlit : SlV g4.blks g2.next g4.next 1 1 (byts [UInt8.ofNat (97 + x)]) (.slice (some ⟨g2.next, 0, none⟩) 1 1) := by
      have := hg4.slv (n := 1) (c := 1) rfl
      have hbx : ((UInt8.ofNat (97 + x)).toNat : Int) = ((97 + x : Nat) : Int) := by
       have : (UInt8.ofNat (97 + x)).toNat = 97 + x := by simp; omega
       rw [this]
      simp only [byts, List.map_cons, List.map_nil, hbx]
      exact this
     have hadd : ∀ {t : TypeId}, binO Tryz.prog (En G) .add t (some (strV s)) (some (strV [UInt8.ofNat (97 + x)])) = some (strV (s ++ [UInt8.ofNat (97 + x)])) := add_str (by simp; omega)
     simp (disch := omega) only [go_sem,reduceIte,nqD,nqL, conv55_9 hlit, hadd]
     refine At_pushS (lo := h.next) (hi := g2.next) (l := T) (z := s ++ [UInt8.ofNat (97 + x)]) (A := some ⟨b, off, none⟩) (by simp only [go_sem,reduceIte,nqD,nqL]) (by simp only [go_sem,reduceIte,nqD,nqL, e5]) (hsv.mono fun b _ hb => p4.get b (by omega)) (by omega) (by omega) (by omega) (by omega) (by decide) (by decide) (by decide) fun A5 g5 p5 hs5 n5 => ?_
     simp (disch := omega) only [go_sem,reduceIte,nqD,nqL, e7, wrap_i64]
     have hTn : S ++ nsts (pc ps) x (i + 1) = T ++ [s ++ [UInt8.ofNat (97 + x)]] := by rw [hstep, ← List.append_assoc, hTd]
     refine hJ2 (j2 - 1) _ _ (by omega) ⟨i + 1, A5, by omega, by simp only [go_sem,reduceIte,nqD,nqL, e0], by simp only [go_sem,reduceIte,nqD,nqL, e1], by rw [hTn]; simp only [go_sem,reduceIte,nqD,nqL], by simp only [go_sem,reduceIte,nqD,nqL, e6], by (simp only [go_sem,reduceIte,nqD,nqL]) <;> rfl, by simp only [go_sem,reduceIte,nqD,nqL, e8], by rw [hTn]; exact hs5, pr.trans ((p4.le (by omega)).trans p5)⟩
  ·have d2 : decide ((i : Int) < (S.length : Int)) = false := decide_eq_false (by omega)
   obtain rfl : i = S.length := by omega
   have hTn : S ++ nsts (pc ps) x S.length = sts (pc ps) (x + 1) := by
    rw [sts, nsts, hS, List.take_length]
   rw [hTn] at e5 hsv
   have w7 : IntKind.u8.wrap (((97 + x : Nat) : Int) + 1) = ((97 + (x + 1) : Nat) : Int) := by rw [wrap_u8' (by omega) (by omega)]; omega
   simp (disch := omega) only [go_sem,reduceIte,nqD,nqL, e0, e1, e5, e6, e7, e8, d2, w7]
   exact hJ (j - 1) _ _ (by omega) ⟨x + 1, A2, by omega, by simp only [go_sem,reduceIte,nqD,nqL, e0], by simp only [go_sem,reduceIte,nqD,nqL, e1], by simp only [go_sem,reduceIte,nqD,nqL, e5], by simp only [go_sem,reduceIte,nqD,nqL], hsv, pr⟩
 ·have d1 : decide ((x : Int) < (k : Int)) = false := decide_eq_false (by omega)
  obtain rfl : x = k := by omega
  simp (disch := omega) only [go_sem,reduceIte,nqD,nqL, e0, e1, e5, e6, w6, conv53z, d1]
  exact hQ' _ _ ⟨pr, A1, rfl, hsv⟩
theorem allF {p : UInt8 → Bool} {t : List UInt8} {q : Nat} {ch : UInt8} (h : t[q]? = some ch) (hp : p ch = false) : t.all p = false := by
 rw [List.all_eq_false]; exact ⟨ch, List.mem_of_getElem? h, by simp [hp]⟩
theorem any_take {p : UInt8 → Bool} {s : List UInt8} {j : Nat} {c : UInt8} (h : s[j]? = some c) : (s.take (j + 1)).any p = ((s.take j).any p || p c) := by
 rw [List.take_add_one, h]; simp
set_option maxHeartbeats 16000000 in
set_option maxRecDepth 100000 in
theorem follows_spec {G lo hi n c k : Nat} {A : Option Addr} {ps : List (Int × Int)} {s t : List UInt8} {h : H} (hv : SlV h.blks lo hi 2 n (prs ps) (.slice A n c)) (hn : n < 2147483648) (hk : k ≤ 6) (hps : OkP k ps) (hs : OkL 6 s) (ht : OkL 6 t) (hsl : s.length < 1000000) (htl : t.length < 1000000) :
  Spec Tryz.prog (En G) 76 [.slice A n c, strV s, strV t] h fun v h' => v = .bool (fol (pc ps) s t) ∧ h' = h := by
 refine CallsE_enter (En_known (by decide)) (En_f.trans Tryz.func76) rfl ⟨Nat.le_of_ble_eq_true rfl, by decide⟩ fun Q' hQ' => ?_
 simp (disch := omega) only [Tryz.f76, go_sem,reduceIte,nqD,nqL]
 refine WK_loopN (fun j α g => ∃ q : Nat, h = g ∧ q + j = t.length ∧ α.get 0 = some (.slice A n c) ∧ α.get 1 = some (strV s) ∧ α.get 2 = some (strV t) ∧ α.get 7 = some (.int .i64 (q : Int)) ∧ ((t.take q).all fun c => s.any fun b => !pc ps (lt b) (lt c)) = true) t.length
  ⟨0, rfl, by omega, by simp only [go_sem,reduceIte,nqD,nqL], by simp only [go_sem,reduceIte,nqD,nqL], by simp only [go_sem,reduceIte,nqD,nqL], by (simp only [go_sem,reduceIte,nqD,nqL]) <;> rfl, rfl⟩ (by omega) ?_
 rintro J j α g ⟨q, rfl, hqj, e0, e1, e2, e7, hall⟩ hJ
 by_cases hq : q < t.length
 ·have d1 : decide ((q : Int) < (t.length : Int)) = true := decide_eq_true (by omega)
  obtain ⟨ch, hch⟩ : ∃ ch, t[q]? = some ch := ⟨t[q]'hq, List.getElem?_eq_getElem hq⟩
  have hcb := ht ch (List.mem_of_getElem? hch)
  have ix : ∀ {G : Nat}, idxO (En G) 9 (some (strV t)) (some (.int .i64 (q : Int))) = some (.int .u8 ch.toNat) := idx9 (by omega) (by rw [Int.toNat_natCast]; exact hch)
  simp (disch := omega) only [go_sem,reduceIte,nqD,nqL, e0, e1, e2, e7, len9, d1]
  refine WK_loopN (fun j2 β g2 => ∃ i : Nat, h = g2 ∧ i + j2 = s.length ∧ β.get 0 = some (.slice A n c) ∧ β.get 1 = some (strV s) ∧ β.get 2 = some (strV t) ∧ β.get 7 = some (.int .i64 (q : Int)) ∧ β.get 8 = some (.bool ((s.take i).any fun b => !pc ps (lt b) (lt ch))) ∧ β.get 9 = some (.int .i64 (i : Int))) s.length
   ⟨0, rfl, by omega, by simp only [go_sem,reduceIte,nqD,nqL, e0], by simp only [go_sem,reduceIte,nqD,nqL, e1], by simp only [go_sem,reduceIte,nqD,nqL, e2], by simp only [go_sem,reduceIte,nqD,nqL, e7], by (simp only [go_sem,reduceIte,nqD,nqL]) <;> rfl, by (simp only [go_sem,reduceIte,nqD,nqL]) <;> rfl⟩ (by omega) ?_
  clear e0 e1 e2 e7
  rintro J2 j2 β g2 ⟨i, rfl, hij, e0, e1, e2, e7, e8, e9⟩ hJ2
  by_cases hi : i < s.length
  ·have d2 : decide ((i : Int) < (s.length : Int)) = true := decide_eq_true (by omega)
   obtain ⟨cb, hcb'⟩ : ∃ cb, s[i]? = some cb := ⟨s[i]'hi, List.getElem?_eq_getElem hi⟩
   have hbb := hs cb (List.mem_of_getElem? hcb')
   have ix2 : ∀ {G : Nat}, idxO (En G) 9 (some (strV s)) (some (.int .i64 (i : Int))) = some (.int .u8 cb.toNat) := idx9 (by omega) (by rw [Int.toNat_natCast]; exact hcb')
   have hat := any_take (p := fun b => !pc ps (lt b) (lt ch)) hcb'
   simp (disch := omega) only [go_sem,reduceIte,nqD,nqL, e0, e1, e2, e7, e8, e9, len9, d2]
   refine WK_regionT 9 ⟨by kernel_rfl, by kernel_rfl, by kernel_rfl⟩ ?_
   cases hpre : (s.take i).any fun b => !pc ps (lt b) (lt ch) with
   | true =>
    rw [hpre] at e8
    simp (disch := omega) only [go_sem,reduceIte,nqD,nqL, e0, e1, e2, e7, e8, e9, wrap_i64]
    refine hJ2 (j2 - 1) _ _ (by omega) ⟨i + 1, rfl, by omega, by simp only [go_sem,reduceIte,nqD,nqL, e0], by simp only [go_sem,reduceIte,nqD,nqL, e1], by simp only [go_sem,reduceIte,nqD,nqL, e2], by simp only [go_sem,reduceIte,nqD,nqL, e7], by rw [hat, hpre]; (simp only [go_sem,reduceIte,nqD,nqL]) <;> rfl, by (simp only [go_sem,reduceIte,nqD,nqL]) <;> rfl⟩
   | false =>
    rw [hpre] at e8
    simp (disch := omega) only [go_sem,reduceIte,nqD,nqL, e0, e1, e2, e7, e8, e9, ix, ix2]
    refine CallO_same (free_spec (G := G) (x := cb) (y := ch) hv hn hk hps hbb.1 hcb.1) (by omega) fun u hu => ?_
    subst hu
    simp (disch := omega) only [go_sem,reduceIte,nqD,nqL, e9, wrap_i64]
    refine hJ2 (j2 - 1) _ _ (by omega) ⟨i + 1, rfl, by omega, by simp only [go_sem,reduceIte,nqD,nqL, e0], by simp only [go_sem,reduceIte,nqD,nqL, e1], by simp only [go_sem,reduceIte,nqD,nqL, e2], by simp only [go_sem,reduceIte,nqD,nqL, e7], by rw [hat, hpre, Bool.false_or]; (simp only [go_sem,reduceIte,nqD,nqL]) <;> rfl, by (simp only [go_sem,reduceIte,nqD,nqL]) <;> rfl⟩
  ·have d2 : decide ((i : Int) < (s.length : Int)) = false := decide_eq_false (by omega)
   obtain rfl : i = s.length := by omega
   rw [List.take_length] at e8
   have hat := allT (p := fun c => s.any fun b => !pc ps (lt b) (lt c)) hch
   cases hany : s.any fun b => !pc ps (lt b) (lt ch) with
   | true =>
    rw [hany] at e8 hat
    simp (disch := omega) only [go_sem,reduceIte,nqD,nqL, e0, e1, e2, e7, e8, e9, len9, d2, wrap_i64]
    exact hJ (j - 1) _ _ (by omega) ⟨q + 1, rfl, by omega, by simp only [go_sem,reduceIte,nqD,nqL, e0], by simp only [go_sem,reduceIte,nqD,nqL, e1], by simp only [go_sem,reduceIte,nqD,nqL, e2], by (simp only [go_sem,reduceIte,nqD,nqL]) <;> rfl, by rw [hat, hall]; rfl⟩
   | false =>
    rw [hany] at e8
    simp (disch := omega) only [go_sem,reduceIte,nqD,nqL, e0, e1, e2, e7, e8, e9, len9, d2]
    exact hQ' _ _ ⟨Pres.refl _ _, by rw [fol, allF hch hany], rfl⟩
 ·have d1 : decide ((q : Int) < (t.length : Int)) = false := decide_eq_false (by omega)
  obtain rfl : q = t.length := by omega
  rw [List.take_length] at hall
  simp (disch := omega) only [go_sem,reduceIte,nqD,nqL, e0, e1, e2, e7, len9, d1]
  exact hQ' _ _ ⟨Pres.refl _ _, by rw [fol, hall], rfl⟩
end
end Go.Proofs.YthankillfhmfkaaGreatDoor.Ev
namespace Go.Proofs.YthankillfhmfkaaGreatDoor.Ev
open Go Go.Proofs Go.Lm
open Nat renaming reduceEqDiff → nqD, reduceLT → nqL
noncomputable section
def bl (l : List (List UInt8)) : List Nat := l.foldl (fun L s => Lm.bump L s.length) []
theorem bl_snoc {l : List (List UInt8)} {s : List UInt8} : bl (l ++ [s]) = Lm.bump (bl l) s.length := by simp [bl]
theorem bl_step {l : List (List UInt8)} {i : Nat} {s : List UInt8} (h : l[i]? = some s) : bl (l.take (i + 1)) = Lm.bump (bl (l.take i)) s.length := by
 rw [List.take_add_one, h]; exact bl_snoc
theorem bump_le {L : List Nat} {s i : Nat} : (Lm.bump L s).getD i 0 ≤ L.getD i 0 + 1 := by
 rw [Lm.bump, List.getD_eq_getElem?_getD, List.getElem?_set]
 have h1 : (pad L s).getD i 0 = L.getD i 0 := pad_getD
 by_cases e : s = i
 ·subst e
  rw [if_pos rfl]
  split
  ·show (pad L s).getD s 0 + 1 ≤ _
   omega
  ·simp
 ·rw [if_neg e, ← List.getD_eq_getElem?_getD, h1]; omega
theorem bl_le {l : List (List UInt8)} : ∀ n i, n ≤ l.length → (bl (l.take n)).getD i 0 ≤ n
 | 0, i, _ => by simp [bl]
 | n + 1, i, h => by
  rw [bl_step (List.getElem?_eq_getElem (by omega))]
  have := bump_le (L := bl (l.take n)) (s := (l[n]'(by omega)).length) (i := i)
  have := bl_le (l := l) n i (by omega)
  omega
theorem bl_len {l : List (List UInt8)} (h : ∀ s ∈ l, s.length ≤ 6) : ∀ n, n ≤ l.length → (bl (l.take n)).length ≤ 7
 | 0, _ => by simp [bl]
 | n + 1, hn => by
  rw [bl_step (List.getElem?_eq_getElem (by omega)), bump_len]
  have := bl_len h n (by omega)
  have := h _ (List.getElem_mem (show n < l.length by omega))
  omega
set_option maxHeartbeats 16000000 in
set_option maxRecDepth 100000 in
theorem refCliques_spec {G lo hi n c k : Nat} {A : Option Addr} {ps : List (Int × Int)} {h : H} (hG : G ≤ h.next) (hv : SlV h.blks lo hi 2 n (prs ps) (.slice A n c)) (hhi : hi ≤ h.next) (hn : n < 2147483648) (hk : k ≤ 6) (hps : OkP k ps) (hsy : Sym (pc ps)) :
  Spec Tryz.prog (En G) 36 [.int .i64 k, .slice A n c] h fun v h' => ∃ A', v = .slice A' (clq (pc ps) k).length (clq (pc ps) k).length ∧ SlV h'.blks h.next h'.next 1 (clq (pc ps) k).length (nats (clq (pc ps) k)) v := by
 refine CallsE_enter (En_known (by decide)) (En_f.trans Tryz.func36) rfl ⟨Nat.le_of_ble_eq_true rfl, by decide⟩ fun Q' hQ' => ?_
 simp (disch := omega) only [Tryz.f36, go_sem,reduceIte,nqD,nqL]
 refine CallO_f (sets_spec (k := k) hG hv hhi hn hk hps) (by omega) fun w1 h1 pr1 hw1 => ?_
 obtain ⟨A1, rfl, hS⟩ := hw1
 have n1 := pr1.next
 try simp (disch := omega) only [go_sem,reduceIte,nqD,nqL]
 refine At_lit0 u34 i3 zero3 (by rw [size3]; rfl) (by omega) ?_
 have hlen64 : (sts (pc ps) k).length ≤ 64 := Nat.le_trans (sts_len k) (Nat.le_trans (Nat.pow_le_pow_right (by omega) hk) (by decide))
 have hall6 : ∀ s ∈ sts (pc ps) k, s.length ≤ 6 := fun s hs => st_le hk (sts_ok k hk s hs)
 have hres := sts_clq hsy hk
 change bl (sts (pc ps) k) = _ at hres
 rw [← hres] at hQ'
 generalize sts (pc ps) k = S at *
 try simp (disch := omega) only [go_sem,reduceIte,nqD,nqL]
 refine WK_loopN (fun j α g => ∃ (i : Nat) (A2 : Option Addr), i + j = S.length ∧ α.get 5 = some (.slice A1 S.length S.length) ∧ α.get 6 = some (.slice A2 (bl (S.take i)).length (bl (S.take i)).length) ∧ α.get 7 = some (.int .i64 (i : Int)) ∧ SlV g.blks h1.next g.next 1 (bl (S.take i)).length (nats (bl (S.take i))) (.slice A2 (bl (S.take i)).length (bl (S.take i)).length) ∧ Pres h1.next h1 g) S.length
  ⟨0, some ⟨0, 0, some 0⟩, by omega, by simp only [go_sem,reduceIte,nqD,nqL], by (simp only [go_sem,reduceIte,nqD,nqL]) <;> rfl, by (simp only [go_sem,reduceIte,nqD,nqL]) <;> rfl, .emp rfl rfl, Pres.refl _ _⟩ (by omega) ?_
 rintro J j α g ⟨i, A2, hij, e5, e6, e7, hsv, pg⟩ hJ
 have ng := pg.next
 have hSg := hS.mono (B' := g.blks) fun b _ hb => pg.get b (by omega)
 by_cases hi' : i < S.length
 ·have d1 : decide ((i : Int) < (S.length : Int)) = true := decide_eq_true (by omega)
  obtain ⟨s, hs⟩ : ∃ s, S[i]? = some s := ⟨S[i]'hi', List.getElem?_eq_getElem hi'⟩
  have hs6 := hall6 s (List.mem_of_getElem? hs)
  obtain ⟨b, off, rfl, _, _, ls⟩ := strs_at hSg hs
  have hstep := bl_step hs
  have hlenL := bl_len hall6 i (by omega)
  have hle := fun x => bl_le (l := S) i x (by omega)
  generalize hLd : bl (S.take i) = L at *
  simp (disch := omega) only [go_sem,reduceIte,nqD,nqL, e5, e6, e7, len28, d1]
  refine WK_loopN (fun j2 β g2 => ∃ (q : Nat) (A3 : Option Addr), j2 + q = 7 ∧ L.length + q ≤ max L.length (s.length + 1) ∧ β.get 5 = some (.slice (some ⟨b, off, none⟩) S.length S.length) ∧ β.get 6 = some (.slice A3 (L ++ List.replicate q 0).length (L ++ List.replicate q 0).length) ∧ β.get 7 = some (.int .i64 (i : Int)) ∧
    SlV g2.blks h1.next g2.next 1 (L ++ List.replicate q 0).length (nats (L ++ List.replicate q 0)) (.slice A3 (L ++ List.replicate q 0).length (L ++ List.replicate q 0).length) ∧ Pres h1.next h1 g2) 7
   ⟨0, A2, by omega, by omega, by simp only [go_sem,reduceIte,nqD,nqL, e5], by rw [List.replicate_zero, List.append_nil]; simp only [go_sem,reduceIte,nqD,nqL, e6], by simp only [go_sem,reduceIte,nqD,nqL, e7], by rw [List.replicate_zero, List.append_nil]; exact hsv, pg⟩ (by omega) ?_
  clear e5 e6 e7 hsv pg ng ls hSg
  rintro J2 j2 β g2 ⟨q, A3, hqj, hql, e5, e6, e7, hsv, pg⟩ hJ2
  have ng := pg.next
  have hSg := hS.mono (B' := g2.blks) fun b _ hb => pg.get b (by omega)
  obtain ⟨b', off', eb, _, _, ls⟩ := strs_at hSg hs
  injection eb with eb
  injection eb with eb1 eb2
  subst eb1; subst eb2
  have hlen : (L ++ List.replicate q 0).length = L.length + q := by simp
  by_cases hle2 : L.length + q ≤ s.length
  ·have d2 : decide (((L ++ List.replicate q 0).length : Int) ≤ (s.length : Int)) = true := decide_eq_true (by omega)
   have hadd : L ++ List.replicate (q + 1) 0 = (L ++ List.replicate q 0) ++ [0] := by rw [List.replicate_succ', List.append_assoc]
   simp (disch := omega) only [go_sem,reduceIte,nqD,nqL, e5, e6, e7, len34, idxA28, Int.toNat_natCast, Nat.mul_one, load9, ls, len9, d2]
   refine At_pushN (lo := h1.next) (hi := g2.next) (l := L ++ List.replicate q 0) (z := 0) (A := A3) (by (simp only [go_sem,reduceIte,nqD,nqL]) <;> rfl) (by simp only [go_sem,reduceIte,nqD,nqL, e6]) hsv nlr (by omega) ng (by omega) (by decide) (by decide) (by decide) fun A4 g5 pr5 hs5 n5 => ?_
   simp (disch := omega) only [go_sem,reduceIte,nqD,nqL]
   exact hJ2 (j2 - 1) _ _ (by omega) ⟨q + 1, A4, by omega, by omega, by simp only [go_sem,reduceIte,nqD,nqL, e5], by rw [hadd]; simp only [go_sem,reduceIte,nqD,nqL], by simp only [go_sem,reduceIte,nqD,nqL, e7], by rw [hadd]; exact hs5, pg.trans pr5⟩
  ·have d2 : decide (((L ++ List.replicate q 0).length : Int) ≤ (s.length : Int)) = false := decide_eq_false (by omega)
   have hpad : L ++ List.replicate q 0 = pad L s.length := by
    unfold pad
    congr 2
    omega
   rw [hpad] at e6 hsv d2 hlen
   have hpl := pad_len (L := L) (s := s.length)
   obtain ⟨x, hx⟩ : ∃ x, (pad L s.length)[s.length]? = some x := ⟨(pad L s.length)[s.length]'(by omega), List.getElem?_eq_getElem (by omega)⟩
   obtain ⟨bb, ob, rfl, hb1, hb2, lx⟩ := nats_at hsv hx
   have hgd : (pad L s.length).getD s.length 0 = x := by rw [List.getD_eq_getElem?_getD, hx]; rfl
   have hxb : x ≤ 64 := by
    have h1 : (pad L s.length).getD s.length 0 = L.getD s.length 0 := pad_getD
    have := hle s.length
    omega
   have hbump : Lm.bump L s.length = (pad L s.length).set s.length (x + 1) := by rw [Lm.bump, hgd]
   have w2 : IntKind.i64.wrap ((x : Int) + 1) = ((x + 1 : Nat) : Int) := wrap_nat (by omega) (by omega)
   simp (disch := omega) only [go_sem,reduceIte,nqD,nqL, e5, e6, e7, len34, idxA28, Int.toNat_natCast, Nat.mul_one, load9, ls, len9, d2, idxA34, load3, lx, w2]
   refine At_nat (b := bb) (off := ob) (i := s.length) (x := x + 1) (by simp only [go_sem,reduceIte,nqD,nqL]) (by simp only [go_sem,reduceIte,nqD,nqL]) hsv (by omega) (by omega) fun g5 hs5 hsv5 => ?_
   have n5 := hs5.next
   simp (disch := omega) only [go_sem,reduceIte,nqD,nqL, e7, wrap_i64]
   rw [← hbump, ← hstep] at hsv5
   have hlb : (pad L s.length).length = (bl (S.take (i + 1))).length := by rw [hstep, hbump, List.length_set]
   rw [hlb] at hsv5 e6
   exact hJ (j - 1) _ _ (by omega) ⟨i + 1, some ⟨bb, ob, none⟩, by omega, by simp only [go_sem,reduceIte,nqD,nqL, e5], by simp only [go_sem,reduceIte,nqD,nqL, e6], by (simp only [go_sem,reduceIte,nqD,nqL]) <;> rfl, hsv5.wide nlr (by omega), pg.trans (hs5.pres (by omega))⟩
 ·have d1 : decide ((i : Int) < (S.length : Int)) = false := decide_eq_false (by omega)
  obtain rfl : i = S.length := by omega
  rw [List.take_length] at e6 hsv
  simp (disch := omega) only [go_sem,reduceIte,nqD,nqL, e5, e6, e7, len28, d1]
  exact hQ' _ _ ⟨pr1.trans (pg.le (by omega)), A2, rfl, hsv.wide (by omega) nlr⟩
end
end Go.Proofs.YthankillfhmfkaaGreatDoor.Ev
namespace Go.Proofs.YthankillfhmfkaaGreatDoor.Ev
open Go Go.Proofs Go.Lm
open Nat renaming reduceEqDiff → nqD, reduceLT → nqL
noncomputable section
theorem SlV.uniq {B : Tr Blk} {lo hi sz n : Nat} {L L' : List Value} {v : Value} (a : SlV B lo hi sz n L v) (b : SlV B lo hi sz n L' v) : L = L' := by
 have hl : L.length = L'.length := a.len.trans b.len.symm
 cases a with
 | nil _ hL => cases b with
  | nil _ hL' => rw [hL, hL']
 | emp _ hL => cases b with
  | emp _ hL' => rw [hL, hL']
 | mk hb hlo hhi hsz hL hc => cases b with
  | mk hb' _ _ _ hL' hc' =>
   rw [hb] at hb'
   injection hb' with e
   injection e with e1 e2 e3
   subst e1
   apply List.ext_getElem?
   intro i
   by_cases hi' : i < n * sz
   ·rw [← hc i hi', ← hc' i hi']
   ·rw [List.getElem?_eq_none (by omega), List.getElem?_eq_none (by omega)]
theorem GL.len {α : Type} {Q : Tr Blk → Nat → Nat → α → Value → Prop} {sz : Nat} {B : Tr Blk} {lo hi n c : Nat} {l : List α} {A : Option Addr} (g : GL Q sz B lo hi l (.slice A n c)) : n = l.length := by
 obtain ⟨r, vs, _, _, _, _, h5, _⟩ := g
 obtain ⟨A', c', e⟩ := h5.shape
 injection e
theorem ZRow.shape {B : Tr Blk} {lo hi : Nat} {zs : List Int} {w : Value} (g : ZRow B lo hi zs w) : ∃ A c, w = .slice A zs.length c := by
 obtain ⟨r, vs, _, _, _, _, h5, _⟩ := g
 exact h5.shape
theorem ZRows.get {B : Tr Blk} {lo hi n c i : Nat} {rows : List (List Int)} {row : List Int} {A : Option Addr} (g : ZRows B lo hi rows (.slice A n c)) (h : rows[i]? = some row) : ∃ b off A2 c2, A = some ⟨b, off, none⟩ ∧ loadv B b (off + i) = some (.slice A2 row.length c2) ∧ ZRow B lo hi row (.slice A2 row.length c2) := by
 obtain rfl := g.len
 obtain ⟨r, vs, h1, h2, h3, h4, h5, h6⟩ := g
 have hi' : i < rows.length := (List.getElem?_eq_some_iff.1 h).1
 obtain ⟨w, hw⟩ : ∃ w, vs[i]? = some w := ⟨vs[i]'(by omega), List.getElem?_eq_getElem (by omega)⟩
 have hq := h6 i row w h hw
 obtain ⟨A2, c2, rfl⟩ := ZRow.shape hq
 have hf := flatV_get h4 hw (j := 0) (by omega)
 rw [Nat.mul_one, Nat.add_zero] at hf
 obtain ⟨b, off, e1, e2, e3, e4⟩ := h5.at_ (by omega)
 refine ⟨b, off, A2, c2, e1, ?_, QOK.zrow.wide hq nlr h2⟩
 rw [e4 i (by omega), hf]; rfl
theorem ZRow.get {B : Tr Blk} {lo hi n c i : Nat} {zs : List Int} {z : Int} {A : Option Addr} (g : ZRow B lo hi zs (.slice A n c)) (h : zs[i]? = some z) : ∃ b off w, A = some ⟨b, off, none⟩ ∧ (∀ {G : Nat}, loadO (En G) 60 B (some (.pointer (some ⟨b, off + i * 2, none⟩))) = some w) ∧ ZVL B lo hi z w := by
 have hn := g.len
 obtain ⟨r, vs, h1, h2, h3, h4, h5, h6⟩ := g
 have hi' : i < zs.length := (List.getElem?_eq_some_iff.1 h).1
 obtain ⟨w, hw⟩ : ∃ w, vs[i]? = some w := ⟨vs[i]'(by omega), List.getElem?_eq_getElem (by omega)⟩
 have hq := h6 i z w h hw
 rw [← hn] at h5
 obtain ⟨A2, n2, c2, rfl⟩ := ZVL.shape hq
 have hf0 := flatV_get h4 hw (j := 0) (by omega)
 have hf1 := flatV_get h4 hw (j := 1) (by omega)
 cases h5 with
 | nil hn hL => omega
 | emp hn hL => omega
 | mk hb hlo hhi hsz hL hc =>
  rename_i b off size cells
  refine ⟨b, off, _, rfl, fun {G} => ?_, QOK.zvl.wide hq nlr h2⟩
  refine loadO_agg (L := [.bool (decide (z < 0)), .slice A2 n2 c2]) agg60 i60 hb (by rw [size60]; omega) (by rw [size60]; rfl) fun j hj => ?_
  rw [size60] at hj
  match j, hj with
  | 0, _ => rw [Nat.add_assoc, hc _ (by omega), hf0]; rfl
  | 1, _ => rw [Nat.add_assoc, hc _ (by omega), hf1]; rfl
section
variable {P : Program} {n0 : Nat} {ops : List Oper} {r tl : List Oper} {k : List Frm} {α : Tr Value} {h : H} {R : Rt} {ty : TypeId} {pos : String} {af : Array Edge}
theorem At_pushZ {G s d1 d lo hi : Nat} {x : Operand} {l : List Int} {z : Int} {w : Value} {A : Option Addr} {ty' : TypeId} {pos' : String} {af' : Array Edge} (hx : ev (En G) h α x = some w) (hw : ZVL h.blks hi h.next z w) (hs : α.get s = some (.slice A l.length l.length))
  (g : ZRow h.blks lo hi l (.slice A l.length l.length)) (hhi : hi ≤ h.next) (hG : G ≤ lo) (hlo : lo ≤ h.next) (hsm : l.length < 2147483640) (hsd : s ≠ d1) (hd1 : d1 < n0) (hd : d < n0)
  (hk : ∀ A' h', ZRow h'.blks lo h'.next (l ++ [z]) (.slice A' (l ++ [z]).length (l ++ [z]).length) → Pres lo h h' → h.next ≤ h'.next →
   At P (En G) n0 ops false r tl k (Tr.put (Tr.put α d1 (.slice (some ⟨h.next, 0, none⟩) 1 1)) d (.slice A' (l ++ [z]).length (l ++ [z]).length)) h' R) :
  At P (En G) n0 ops false (⟨some d1, .buildSlice 121 1 #[(0, x)], ty, pos, af, none⟩ :: ⟨some d, .call ⟨.builtin .append, #[.tmp s, .tmp d1], #[121, 121]⟩, ty', pos', af', none⟩ :: r) tl k α h R := by
 have g0 := g
 obtain ⟨r0, vs, h1, h2, h3, h4, h5, h6⟩ := g
 obtain ⟨A2, n2, c2, rfl⟩ := hw.shape
 refine At_push (lo := lo) (hi := hi) (L := flatV vs) (vs := [.bool (decide (z < 0)), .slice A2 n2 c2]) u121 i60 zero60 (by rw [size60, bytes60]; rfl) hx (by rw [size60]; rfl) (by rw [size60]; rfl) rfl hs (by rw [size60]; exact h5.wide h1 nlr) hhi nlr (by rw [En_G]; exact hG) hsm hsd hd1 hd fun h' hp => ?_
 rw [size60] at hp
 have hnx := hp.next
 have e1 : l.length + 1 = (l ++ [z]).length := by simp
 have hG' := GL.push QOK.zvl g0 rfl hhi hw rfl (fun L hL => by
  have e : L = flatV vs := by
   have s1 := h5.wide (lo' := lo) h1 (Nat.le_refl hi)
   exact SlV.uniq hL s1
  rw [e]; exact hp)
 rw [e1] at hG'
 have hpr : Pres lo h h' := hp.pres hlo fun b e => (h5.wide (lo' := lo) h1 (Nat.le_refl hi)).blkB b e |>.1
 have := hk (some ⟨h.next + 1, 0, none⟩) h' hG' hpr (by omega)
 rw [← e1] at this
 exact this
theorem At_pushR {G s d1 d lo hi : Nat} {x : Operand} {l : List (List Int)} {z : List Int} {w : Value} {A : Option Addr} {ty' : TypeId} {pos' : String} {af' : Array Edge} (hx : ev (En G) h α x = some w) (hw : ZRow h.blks hi h.next z w) (hs : α.get s = some (.slice A l.length l.length))
  (g : ZRows h.blks lo hi l (.slice A l.length l.length)) (hhi : hi ≤ h.next) (hG : G ≤ lo) (hlo : lo ≤ h.next) (hsm : l.length < 2147483640) (hsd : s ≠ d1) (hd1 : d1 < n0) (hd : d < n0)
  (hk : ∀ A' h', ZRows h'.blks lo h'.next (l ++ [z]) (.slice A' (l ++ [z]).length (l ++ [z]).length) → Pres lo h h' → h.next ≤ h'.next →
   At P (En G) n0 ops false r tl k (Tr.put (Tr.put α d1 (.slice (some ⟨h.next, 0, none⟩) 1 1)) d (.slice A' (l ++ [z]).length (l ++ [z]).length)) h' R) :
  At P (En G) n0 ops false (⟨some d1, .buildSlice 120 1 #[(0, x)], ty, pos, af, none⟩ :: ⟨some d, .call ⟨.builtin .append, #[.tmp s, .tmp d1], #[120, 120]⟩, ty', pos', af', none⟩ :: r) tl k α h R := by
 have g0 := g
 obtain ⟨r0, vs, h1, h2, h3, h4, h5, h6⟩ := g
 obtain ⟨A2, c2, rfl⟩ := hw.shape
 refine At_push (lo := lo) (hi := hi) (L := flatV vs) (vs := [.slice A2 z.length c2]) u120 i121 zero121 (by rw [size121, bytes121]; rfl) hx (by rw [size121]; rfl) (by rw [size121]; rfl) rfl hs (by rw [size121]; exact h5.wide h1 nlr) hhi nlr (by rw [En_G]; exact hG) hsm hsd hd1 hd fun h' hp => ?_
 rw [size121] at hp
 have hnx := hp.next
 have e1 : l.length + 1 = (l ++ [z]).length := by simp
 have hG' := GL.push QOK.zrow g0 rfl hhi hw rfl (fun L hL => by
  have e : L = flatV vs := by
   have s1 := h5.wide (lo' := lo) h1 (Nat.le_refl hi)
   exact SlV.uniq hL s1
  rw [e]; exact hp)
 rw [e1] at hG'
 have hpr : Pres lo h h' := hp.pres hlo fun b e => (h5.wide (lo' := lo) h1 (Nat.le_refl hi)).blkB b e |>.1
 have := hk (some ⟨h.next + 1, 0, none⟩) h' hG' hpr (by omega)
 rw [← e1] at this
 exact this
end
theorem sm_bound {f : List UInt8 → Int} {P : Nat} (h : ∀ s, (f s).natAbs ≤ P) : ∀ {l : List (List UInt8)} {n : Nat}, l.length ≤ n → (sm l f).natAbs ≤ n * P
 | [], n, _ => by simp [sm_nil]
 | s :: l, n, hn => by
  rw [sm_cons]
  have h1 := h s
  obtain ⟨n', rfl⟩ : ∃ n', n = n' + 1 := ⟨n - 1, by simp at hn; omega⟩
  have h2 := sm_bound h (l := l) (n := n') (by simp at hn; omega)
  rw [Nat.add_mul, Nat.one_mul]
  omega
def psr (cm : Nat → Nat → Bool) (S : List (List UInt8)) (E : List (List Int)) (m : Nat) (s : List UInt8) (j : Nat) : Int := sm (List.range j) fun j => if S.getD j [] ≠ [] ∧ fol cm (S.getD j []) s = true then (E.getD (m - s.length) []).getD j 0 else 0
theorem psr_succ {cm : Nat → Nat → Bool} {S : List (List UInt8)} {E : List (List Int)} {m j : Nat} {s : List UInt8} : psr cm S E m s (j + 1) = psr cm S E m s j + (if S.getD j [] ≠ [] ∧ fol cm (S.getD j []) s = true then (E.getD (m - s.length) []).getD j 0 else 0) := sm_range_succ
theorem psr_bound {cm : Nat → Nat → Bool} {S : List (List UInt8)} {E : List (List Int)} {m P : Nat} {s : List UInt8} (h : ∀ j, ((E.getD (m - s.length) []).getD j 0).natAbs ≤ P) : ∀ j, (psr cm S E m s j).natAbs ≤ j * P
 | 0 => by simp [psr, sm_nil]
 | j + 1 => by
  rw [psr_succ, Nat.add_mul, Nat.one_mul]
  have h1 := psr_bound (cm := cm) (S := S) h j
  have h2 := h j
  split <;> omega
theorem rowv_bound {cm : Nat → Nat → Bool} {S : List (List UInt8)} (hS : S.length ≤ 64) : ∀ (m : Nat) (s : List UInt8), (rowv cm S (endsL cm S m) m s).natAbs ≤ 64 ^ m
 | m, s => by
  rw [rowv]
  split
  ·simp
  ·rename_i hne
   split
   ·exact Nat.one_le_pow _ _ (by omega)
   ·rename_i hl
    have hlt : 1 ≤ s.length ∧ s.length < m := by
     have : s ≠ [] := fun e => hne (.inl e)
     have := List.length_pos_iff.2 this
     omega
    have hrow : ∀ j, (((endsL cm S m).getD (m - s.length) []).getD j 0).natAbs ≤ 64 ^ (m - s.length) := fun j => by
     rw [endsL_get (by omega), List.getD_eq_getElem?_getD, List.getElem?_map]
     cases S[j]? with
     | none => simp
     | some t => exact rowv_bound hS (m - s.length) t
    have h1 := psr_bound (cm := cm) (S := S) hrow S.length
    have h2 : S.length * 64 ^ (m - s.length) ≤ 64 * 64 ^ (m - 1) := Nat.mul_le_mul hS (Nat.pow_le_pow_right (by omega) (by omega))
    have h3 : 64 * 64 ^ (m - 1) = 64 ^ m := by rw [Nat.mul_comm, ← Nat.pow_succ]; congr 1; omega
    exact Nat.le_trans h1 (by omega)
 termination_by m => m
theorem sr64 {x : Nat} (h : x ≤ 64 ^ 61) : Sr x := ⟨120, by omega, Nat.lt_of_le_of_lt h (Nat.le_of_ble_eq_true rfl)⟩
theorem p64 {a : Nat} (h : a ≤ 60) : 64 * 64 ^ a ≤ 64 ^ 61 := by
 have : 64 * 64 ^ a = 64 ^ (a + 1) := by rw [Nat.pow_succ, Nat.mul_comm]
 rw [this]; exact Nat.pow_le_pow_right (by omega) (by omega)
theorem p64' {a : Nat} (h : a ≤ 60) : 64 ^ a ≤ 64 ^ 61 := Nat.pow_le_pow_right (by omega) (by omega)
set_option maxHeartbeats 32000000 in
set_option maxRecDepth 100000 in
theorem refCount_spec {G lo hi c k n : Nat} {A : Option Addr} {ps : List (Int × Int)} {h : H} (hG : G ≤ h.next) (hv : SlV h.blks lo hi 2 ps.length (prs ps) (.slice A ps.length c)) (hhi : hi ≤ h.next) (hpn : ps.length < 2147483648) (hk : k ≤ 6) (hps0 : OkP k ps) (hn : n ≤ 60) :
  Spec Tryz.prog (En G) 38 [.int .i64 k, .slice A ps.length c, .int .i64 n] h fun v h' => ZV h'.blks h'.next (if n = 0 then 1 else sm (sts (pc ps) k) (rowv (pc ps) (sts (pc ps) k) (endsL (pc ps) (sts (pc ps) k) n) n)) v := by
 refine CallsE_enter (En_known (by decide)) (En_f.trans Tryz.func38) rfl ⟨Nat.le_of_ble_eq_true rfl, by decide⟩ fun Q' hQ' => ?_
 simp (disch := omega) only [Tryz.f38, go_sem,reduceIte,nqD,nqL]
 refine At_alloc i60 zero60 rfl (by omega) fun h1 hn1 => ?_
 have n1 := hn1.next
 have pr1 : Pres h.next h h1 := hn1.pres nlr
 have x_r : Var h1.blks h.next [.bool false, .slice none 0 0] := hn1.var
 try simp (disch := omega) only [go_sem,reduceIte,nqD,nqL]
 refine CallO_f (sets_spec (k := k) (by omega) (hv.mono fun b _ hb => pr1.get b (by omega)) (by omega) hpn hk hps0) (by omega) fun w2 h2 pr2 hw2 => ?_
 obtain ⟨A1, rfl, hS⟩ := hw2
 have n2 := pr2.next
 replace x_r := x_r.mono (B' := h2.blks) (pr2.get _ (by omega))
 have pr02 := pr1.trans (pr2.le (m' := h.next) (by omega))
 have hlen64 : (sts (pc ps) k).length ≤ 64 := Nat.le_trans (sts_len k) (Nat.le_trans (Nat.pow_le_pow_right (by omega) hk) (by decide))
 have hall : ∀ s ∈ sts (pc ps) k, OkL 6 s ∧ s.length ≤ 6 := fun s hs => ⟨(sts_ok k hk s hs).ok.mono hk, st_le hk (sts_ok k hk s hs)⟩
 have hrb := fun m s => rowv_bound (cm := pc ps) hlen64 m s
 generalize hcm : pc ps = cm at *
 generalize sts cm k = S at *
 clear hn1 pr1 pr2
 try simp (disch := omega) only [go_sem,reduceIte,nqD,nqL]
 refine At_lit0 u120 i121 zero121 (by rw [size121]; rfl) (by omega) ?_
 try simp (disch := omega) only [go_sem,reduceIte,nqD,nqL]
 refine WK_loopN (fun j α g => ∃ (m : Nat) (A8 : Option Addr), m + j = n + 1 ∧ α.get 1 = some (.slice A ps.length c) ∧ α.get 2 = some (.int .i64 (n : Int)) ∧ α.get 6 = some (.pointer (some ⟨h.next, 0, none⟩)) ∧ α.get 7 = some (.slice A1 S.length S.length) ∧ α.get 8 = some (.slice A8 m m) ∧ α.get 9 = some (.int .i64 (m : Int)) ∧
   Var g.blks h.next [.bool false, .slice none 0 0] ∧ ZRows g.blks h2.next g.next (endsL cm S m) (.slice A8 m m) ∧ Pres h2.next h2 g) (n + 1)
  ⟨0, some ⟨0, 0, some 0⟩, by omega, by simp only [go_sem,reduceIte,nqD,nqL], by simp only [go_sem,reduceIte,nqD,nqL], by simp only [go_sem,reduceIte,nqD,nqL], by simp only [go_sem,reduceIte,nqD,nqL], by (simp only [go_sem,reduceIte,nqD,nqL]) <;> rfl, by (simp only [go_sem,reduceIte,nqD,nqL]) <;> rfl, x_r, GL.emp nlr, Pres.refl _ _⟩ (by omega) ?_
 clear x_r
 rintro J j α g ⟨m, A8, hmj, e1, e2, e6, e7, e8, e9, x_r, hE, pg⟩ hJ
 have ng := pg.next
 by_cases hm : m ≤ n
 ·have d1 : decide ((m : Int) ≤ (n : Int)) = true := decide_eq_true (by omega)
  simp (disch := omega) only [go_sem,reduceIte,nqD,nqL, e1, e2, e6, e7, e8, e9, d1]
  refine At_lit0 u121 i60 zero60 (by rw [size60]; rfl) (by omega) ?_
  simp (disch := omega) only [go_sem,reduceIte,nqD,nqL]
  refine WK_loopN (fun j2 β g2 => ∃ (i : Nat) (A10 : Option Addr), i + j2 = S.length ∧ β.get 1 = some (.slice A ps.length c) ∧ β.get 2 = some (.int .i64 (n : Int)) ∧ β.get 6 = some (.pointer (some ⟨h.next, 0, none⟩)) ∧ β.get 7 = some (.slice A1 S.length S.length) ∧ β.get 8 = some (.slice A8 m m) ∧ β.get 9 = some (.int .i64 (m : Int)) ∧ β.get 10 = some (.slice A10 i i) ∧ β.get 11 = some (.int .i64 (i : Int)) ∧
    Var g2.blks h.next [.bool false, .slice none 0 0] ∧ ZRows g2.blks h2.next g.next (endsL cm S m) (.slice A8 m m) ∧ ZRow g2.blks g.next g2.next ((S.take i).map (rowv cm S (endsL cm S m) m)) (.slice A10 i i) ∧ Pres g.next g g2) S.length
   ⟨0, some ⟨0, 0, some 0⟩, by omega, by simp only [go_sem,reduceIte,nqD,nqL, e1], by simp only [go_sem,reduceIte,nqD,nqL, e2], by simp only [go_sem,reduceIte,nqD,nqL, e6], by simp only [go_sem,reduceIte,nqD,nqL, e7], by simp only [go_sem,reduceIte,nqD,nqL, e8], by simp only [go_sem,reduceIte,nqD,nqL, e9], by (simp only [go_sem,reduceIte,nqD,nqL]) <;> rfl, by (simp only [go_sem,reduceIte,nqD,nqL]) <;> rfl, x_r, hE, GL.emp nlr, Pres.refl _ _⟩ (by omega) ?_
  clear e1 e2 e6 e7 e8 e9 x_r hE
  rintro J2 j2 β g2 ⟨i, A10, hij, e1, e2, e6, e7, e8, e9, e10, e11, x_r, hE, hR, p2⟩ hJ2
  have m2 := p2.next
  have pg2 := pg.trans (p2.le (m' := h2.next) (by omega))
  have hS2 := hS.mono (B' := g2.blks) fun b _ hb => pg2.get b (by omega)
  have hv2 := hv.mono (B' := g2.blks) fun b _ hb => (pg2.get b (by omega)).trans (pr02.get b (by omega))
  by_cases hi' : i < S.length
  ·have d2 : decide ((i : Int) < (S.length : Int)) = true := decide_eq_true (by omega)
   obtain ⟨s, hs⟩ : ∃ s, S[i]? = some s := ⟨S[i]'hi', List.getElem?_eq_getElem hi'⟩
   have hso := hall s (List.mem_of_getElem? hs)
   have hRlen : ((S.take i).map (rowv cm S (endsL cm S m) m)).length = i := by simp; omega
   have hRn : ((S.take (i + 1)).map (rowv cm S (endsL cm S m) m)) = ((S.take i).map (rowv cm S (endsL cm S m) m)) ++ [rowv cm S (endsL cm S m) m s] := by rw [List.take_add_one, hs, List.map_append]; rfl
   simp (disch := omega) only [go_sem,reduceIte,nqD,nqL, e1, e2, e6, e7, e8, e9, e10, e11, len28, d2]
   refine CallO_f (Int_fresh (z := 0) (by omega) (by omega) (by omega)) (by omega) fun w3 g3 p3 hw3 => ?_
   have m3 := p3.next
   obtain ⟨A3, k3, c3, rfl⟩ := hw3.shape
   try simp (disch := omega) only [go_sem,reduceIte,nqD,nqL]
   refine At_alloc i60 zero60 rfl (by omega) fun g4 hg4 => ?_
   have m4 := hg4.next
   have p4 : Pres g3.next g3 g4 := hg4.pres nlr
   have x_v : Var g4.blks g3.next [.bool false, .slice none 0 0] := hg4.var
   try simp (disch := omega) only [go_sem,reduceIte,nqD,nqL]
   refine At_storeV (inf := inf60) (v := .agg #[.bool (decide ((0 : Int) < 0)), .slice A3 k3 c3]) i60 (by simp only [go_sem,reduceIte,nqD,nqL]) (by simp only [go_sem,reduceIte,nqD,nqL]) x_v (by rw [size60]; rfl) (by rw [size60]; rfl) rfl (by show G ≤ g3.next; omega) fun g5 hs5 y_v => ?_
   have m5 := hs5.next
   have p35 : Pres g3.next g3 g5 := p4.trans (hs5.pres nlr)
   have p25 : Pres g2.next g2 g5 := p3.trans (p35.le (by omega))
   have hz5 : ZVL g5.blks g2.next g5.next 0 (.agg #[.bool (decide ((0 : Int) < 0)), .slice A3 k3 c3]) := RZL.wide (RZL.mono hw3 fun b _ hb => p35.get b hb) nlr (by omega)
   replace x_v : Var g5.blks g3.next [.bool (decide ((0 : Int) < 0)), .slice A3 k3 c3] := y_v
   clear y_v hw3 hg4 hs5
   have hS5 := hS2.mono (B' := g5.blks) fun b _ hb => p25.get b (by omega)
   have hE5 := QOK.zrows.mono hE (B' := g5.blks) fun b _ hb => p25.get b (by omega)
   have hR5 := QOK.zrow.mono hR (B' := g5.blks) fun b _ hb => p25.get b hb
   have x_r5 := x_r.mono (B' := g5.blks) (p25.get _ (by omega))
   obtain ⟨b, off, rfl, _, _, ls⟩ := strs_at hS5 hs
   have iA : idxAddrO (En G) 28 (some (.slice (some ⟨b, off, none⟩) S.length S.length)) (some (.int .i64 (i : Int))) = some (.pointer (some ⟨b, off + i, none⟩)) := by
    have := idxA28 (G := G) (b := b) (off := off) (n := S.length) (c := S.length) (kd := .i64) (z := (i : Int)) (by omega) (by omega)
    rw [Int.toNat_natCast, Nat.mul_one] at this
    exact this
   by_cases hsm : s = [] ∨ m < s.length
   ·have hzv : rowv cm S (endsL cm S m) m s = 0 := rowv_small hsm
    have dd1 : decide ((s.length : Int) > (m : Int)) = decide (m < s.length) := decide_eq_decide.2 (by omega)
    by_cases hse : s = []
    ·have ds : decide (s = []) = true := decide_eq_true hse
     simp (disch := omega) only [go_sem,reduceIte,nqD,nqL, e1, e2, e6, e7, e8, e9, e10, e11, iA, load9, ls, len9, eql_str, ds]
     have rv := x_v.zn (G := G) rfl
     simp (disch := omega) only [go_sem,reduceIte,nqD,nqL, e1, e2, e6, e7, e8, e9, e10, e11, rv]
     refine At_pushZ (lo := g.next) (hi := g2.next) (l := ((S.take i).map (rowv cm S (endsL cm S m) m))) (z := 0) (w := .agg #[.bool (decide ((0 : Int) < 0)), .slice A3 k3 c3]) (A := A10) (by simp only [go_sem,reduceIte,nqD,nqL]) hz5 (by simp only [go_sem,reduceIte,nqD,nqL, e10, hRlen]) (by rw [hRlen]; exact hR5) (by omega) (by omega) (by omega) (by rw [hRlen]; omega) (by decide) (by decide) (by decide) fun A11 g9 hR9 p9 m9 => ?_
     have hl9 : (((S.take i).map (rowv cm S (endsL cm S m) m)) ++ [0]).length = i + 1 := by simp; omega
     have hR9' : ZRow g9.blks g.next g9.next ((S.take (i + 1)).map (rowv cm S (endsL cm S m) m)) (.slice A11 (i + 1) (i + 1)) := by
      rw [hl9] at hR9
      rw [hRn, hzv]; exact hR9
     rw [hl9]
     simp (disch := omega) only [go_sem,reduceIte,nqD,nqL, e11, wrap_i64]
     refine hJ2 (j2 - 1) _ _ (by omega) ⟨i + 1, A11, by omega, by simp only [go_sem,reduceIte,nqD,nqL, e1], by simp only [go_sem,reduceIte,nqD,nqL, e2], by simp only [go_sem,reduceIte,nqD,nqL, e6], by simp only [go_sem,reduceIte,nqD,nqL, e7], by simp only [go_sem,reduceIte,nqD,nqL, e8], by simp only [go_sem,reduceIte,nqD,nqL, e9], by (simp only [go_sem,reduceIte,nqD,nqL]) <;> rfl, by (simp only [go_sem,reduceIte,nqD,nqL]) <;> rfl, x_r5.mono (p9.get _ (by omega)), QOK.zrows.mono hE5 fun b _ hb => p9.get b hb, hR9', (p2.trans (p25.le (by omega))).trans p9⟩
    ·have ds : decide (s = []) = false := decide_eq_false hse
     have dl : decide ((m : Int) < (s.length : Int)) = true := decide_eq_true (by have := hsm.resolve_left hse; omega)
     simp (disch := omega) only [go_sem,reduceIte,nqD,nqL, e1, e2, e6, e7, e8, e9, e10, e11, iA, load9, ls, len9, eql_str, ds, dl]
     have rv := x_v.zn (G := G) rfl
     simp (disch := omega) only [go_sem,reduceIte,nqD,nqL, e1, e2, e6, e7, e8, e9, e10, e11, rv]
     refine At_pushZ (lo := g.next) (hi := g2.next) (l := ((S.take i).map (rowv cm S (endsL cm S m) m))) (z := 0) (w := .agg #[.bool (decide ((0 : Int) < 0)), .slice A3 k3 c3]) (A := A10) (by simp only [go_sem,reduceIte,nqD,nqL]) hz5 (by simp only [go_sem,reduceIte,nqD,nqL, e10, hRlen]) (by rw [hRlen]; exact hR5) (by omega) (by omega) (by omega) (by rw [hRlen]; omega) (by decide) (by decide) (by decide) fun A11 g9 hR9 p9 m9 => ?_
     have hl9 : (((S.take i).map (rowv cm S (endsL cm S m) m)) ++ [0]).length = i + 1 := by simp; omega
     have hR9' : ZRow g9.blks g.next g9.next ((S.take (i + 1)).map (rowv cm S (endsL cm S m) m)) (.slice A11 (i + 1) (i + 1)) := by
      rw [hl9] at hR9
      rw [hRn, hzv]; exact hR9
     rw [hl9]
     simp (disch := omega) only [go_sem,reduceIte,nqD,nqL, e11, wrap_i64]
     refine hJ2 (j2 - 1) _ _ (by omega) ⟨i + 1, A11, by omega, by simp only [go_sem,reduceIte,nqD,nqL, e1], by simp only [go_sem,reduceIte,nqD,nqL, e2], by simp only [go_sem,reduceIte,nqD,nqL, e6], by simp only [go_sem,reduceIte,nqD,nqL, e7], by simp only [go_sem,reduceIte,nqD,nqL, e8], by simp only [go_sem,reduceIte,nqD,nqL, e9], by (simp only [go_sem,reduceIte,nqD,nqL]) <;> rfl, by (simp only [go_sem,reduceIte,nqD,nqL]) <;> rfl, x_r5.mono (p9.get _ (by omega)), QOK.zrows.mono hE5 fun b _ hb => p9.get b hb, hR9', (p2.trans (p25.le (by omega))).trans p9⟩
   ·have hse : s ≠ [] := fun e => hsm (.inl e)
    have hsp := List.length_pos_iff.2 hse
    have ds : decide (s = []) = false := decide_eq_false hse
    have dl : decide ((m : Int) < (s.length : Int)) = false := decide_eq_false (by omega)
    by_cases heq : s.length = m
    ·have de : decide ((s.length : Int) = (m : Int)) = true := decide_eq_true (by omega)
     have hzv : rowv cm S (endsL cm S m) m s = 1 := by rw [rowv, if_neg hsm, if_pos heq]
     simp (disch := omega) only [go_sem,reduceIte,nqD,nqL, e1, e2, e6, e7, e8, e9, e10, e11, iA, load9, ls, len9, eql_str, ds, dl, de]
     refine CallO_f (Int_fresh (z := 1) (by omega) (by omega) (by omega)) (by omega) fun w6 g6 p6 hw6 => ?_
     have m6 := p6.next
     obtain ⟨A6, k6, c6, rfl⟩ := hw6.shape
     replace x_v := x_v.mono (B' := g6.blks) (p6.get _ (by omega))
     try simp (disch := omega) only [go_sem,reduceIte,nqD,nqL]
     refine At_storeV (inf := inf60) (v := .agg #[.bool (decide ((1 : Int) < 0)), .slice A6 k6 c6]) i60 (by simp only [go_sem,reduceIte,nqD,nqL]) (by simp only [go_sem,reduceIte,nqD,nqL]) x_v (by rw [size60]; rfl) (by rw [size60]; rfl) rfl (by show G ≤ g3.next; omega) fun g7 hs7 y_v => ?_
     have m7 := hs7.next
     have p57 : Pres g3.next g5 g7 := (p6.le (by omega)).trans (hs7.pres nlr)
     have p27 : Pres g2.next g2 g7 := p25.trans (p57.le (by omega))
     have hz7 : ZVL g7.blks g2.next g7.next 1 (.agg #[.bool (decide ((1 : Int) < 0)), .slice A6 k6 c6]) := RZL.wide (RZL.sto hw6 hs7 x_v rfl) (by omega) (by omega)
     replace x_v : Var g7.blks g3.next [.bool (decide ((1 : Int) < 0)), .slice A6 k6 c6] := y_v
     have hE7 := QOK.zrows.mono hE (B' := g7.blks) fun b _ hb => p27.get b (by omega)
     have hR7 := QOK.zrow.mono hR (B' := g7.blks) fun b _ hb => p27.get b hb
     have x_r7 := x_r.mono (B' := g7.blks) (p27.get _ (by omega))
     have rv := x_v.zn (G := G) rfl
     simp (disch := omega) only [go_sem,reduceIte,nqD,nqL, e1, e2, e6, e7, e8, e9, e10, e11, rv]
     refine At_pushZ (lo := g.next) (hi := g2.next) (l := ((S.take i).map (rowv cm S (endsL cm S m) m))) (z := 1) (w := .agg #[.bool (decide ((1 : Int) < 0)), .slice A6 k6 c6]) (A := A10) (by simp only [go_sem,reduceIte,nqD,nqL]) hz7 (by simp only [go_sem,reduceIte,nqD,nqL, e10, hRlen]) (by rw [hRlen]; exact hR7) (by omega) (by omega) (by omega) (by rw [hRlen]; omega) (by decide) (by decide) (by decide) fun A11 g9 hR9 p9 m9 => ?_
     have hl9 : (((S.take i).map (rowv cm S (endsL cm S m) m)) ++ [1]).length = i + 1 := by simp; omega
     have hR9' : ZRow g9.blks g.next g9.next ((S.take (i + 1)).map (rowv cm S (endsL cm S m) m)) (.slice A11 (i + 1) (i + 1)) := by
      rw [hl9] at hR9
      rw [hRn, hzv]; exact hR9
     rw [hl9]
     simp (disch := omega) only [go_sem,reduceIte,nqD,nqL, e11, wrap_i64]
     refine hJ2 (j2 - 1) _ _ (by omega) ⟨i + 1, A11, by omega, by simp only [go_sem,reduceIte,nqD,nqL, e1], by simp only [go_sem,reduceIte,nqD,nqL, e2], by simp only [go_sem,reduceIte,nqD,nqL, e6], by simp only [go_sem,reduceIte,nqD,nqL, e7], by simp only [go_sem,reduceIte,nqD,nqL, e8], by simp only [go_sem,reduceIte,nqD,nqL, e9], by (simp only [go_sem,reduceIte,nqD,nqL]) <;> rfl, by (simp only [go_sem,reduceIte,nqD,nqL]) <;> rfl, x_r7.mono (p9.get _ (by omega)), QOK.zrows.mono hE7 fun b _ hb => p9.get b hb, hR9', (p2.trans (p27.le (by omega))).trans p9⟩
    ·have de : decide ((s.length : Int) = (m : Int)) = false := decide_eq_false (by omega)
     have hzv0 : rowv cm S (endsL cm S m) m s = psr cm S (endsL cm S m) m s S.length := by rw [rowv, if_neg hsm, if_neg heq]; rfl
     simp (disch := omega) only [go_sem,reduceIte,nqD,nqL, e1, e2, e6, e7, e8, e9, e10, e11, iA, load9, ls, len9, eql_str, ds, dl, de]
     refine WK_loopN (fun j3 γ g6 => ∃ (q : Nat) (A3 : Option Addr) (k3 c3 : Nat), q + j3 = S.length ∧ γ.get 1 = some (.slice A ps.length c) ∧ γ.get 2 = some (.int .i64 (n : Int)) ∧ γ.get 6 = some (.pointer (some ⟨h.next, 0, none⟩)) ∧ γ.get 7 = some (.slice (some ⟨b, off, none⟩) S.length S.length) ∧ γ.get 8 = some (.slice A8 m m) ∧ γ.get 9 = some (.int .i64 (m : Int)) ∧ γ.get 10 = some (.slice A10 i i) ∧ γ.get 11 = some (.int .i64 (i : Int)) ∧ γ.get 12 = some (.pointer (some ⟨g3.next, 0, none⟩)) ∧ γ.get 13 = some (.int .i64 (q : Int)) ∧
       Var g6.blks g3.next [.bool (decide ((psr cm S (endsL cm S m) m s q) < 0)), .slice A3 k3 c3] ∧ ZVL g6.blks g2.next g6.next (psr cm S (endsL cm S m) m s q) (.agg #[.bool (decide ((psr cm S (endsL cm S m) m s q) < 0)), .slice A3 k3 c3]) ∧ Pres g3.next g5 g6 ∧ g5.next ≤ g6.next) S.length
      ⟨0, A3, k3, c3, by omega, by simp only [go_sem,reduceIte,nqD,nqL, e1], by simp only [go_sem,reduceIte,nqD,nqL, e2], by simp only [go_sem,reduceIte,nqD,nqL, e6], by simp only [go_sem,reduceIte,nqD,nqL, e7], by simp only [go_sem,reduceIte,nqD,nqL, e8], by simp only [go_sem,reduceIte,nqD,nqL, e9], by simp only [go_sem,reduceIte,nqD,nqL, e10], by simp only [go_sem,reduceIte,nqD,nqL, e11], by simp only [go_sem,reduceIte,nqD,nqL], by (simp only [go_sem,reduceIte,nqD,nqL]) <;> rfl, x_v, hz5, Pres.refl _ _, Nat.le_refl _⟩ (by omega) ?_
     clear e1 e2 e6 e7 e8 e9 e10 e11 x_v hz5
     rintro J3 j3 γ g6 ⟨q, A3, k3, c3, hqj, e1, e2, e6, e7, e8, e9, e10, e11, e12, e13, x_v, hz6, p56, m6⟩ hJ3
     have p26 : Pres g2.next g2 g6 := p25.trans (p56.le (by omega))
     have hS6 := hS2.mono (B' := g6.blks) fun b _ hb => p26.get b (by omega)
     have hv6 := hv2.mono (B' := g6.blks) fun b _ hb => p26.get b (by omega)
     have hE6 := QOK.zrows.mono hE (B' := g6.blks) fun b _ hb => p26.get b (by omega)
     have hR6 := QOK.zrow.mono hR (B' := g6.blks) fun b _ hb => p26.get b hb
     have x_r6 := x_r.mono (B' := g6.blks) (p26.get _ (by omega))
     have ls6 : loadv g6.blks b (off + i) = some (strV s) := by
      obtain ⟨b9, o9, e9, _, _, l9⟩ := strs_at hS6 hs
      injection e9 with e9
      injection e9 with e91 e92
      subst e91; subst e92; exact l9
     by_cases hq : q < S.length
     ·have dq : decide ((q : Int) < (S.length : Int)) = true := decide_eq_true (by omega)
      obtain ⟨t, ht⟩ : ∃ t, S[q]? = some t := ⟨S[q]'hq, List.getElem?_eq_getElem hq⟩
      have hto := hall t (List.mem_of_getElem? ht)
      have htd : S.getD q [] = t := by rw [List.getD_eq_getElem?_getD, ht]; rfl
      have lt6 : loadv g6.blks b (off + q) = some (strV t) := by
       obtain ⟨b9, o9, e9, _, _, l9⟩ := strs_at hS6 ht
       injection e9 with e9
       injection e9 with e91 e92
       subst e91; subst e92; exact l9
      have iQ : idxAddrO (En G) 28 (some (.slice (some ⟨b, off, none⟩) S.length S.length)) (some (.int .i64 (q : Int))) = some (.pointer (some ⟨b, off + q, none⟩)) := by
       have := idxA28 (G := G) (b := b) (off := off) (n := S.length) (c := S.length) (kd := .i64) (z := (q : Int)) (by omega) (by omega)
       rw [Int.toNat_natCast, Nat.mul_one] at this
       exact this
      have hps := psr_succ (cm := cm) (S := S) (E := endsL cm S m) (m := m) (s := s) (j := q)
      rw [htd] at hps
      simp (disch := omega) only [go_sem,reduceIte,nqD,nqL, e1, e2, e6, e7, e8, e9, e10, e11, e12, e13, len28, dq]
      refine WK_regionT 15 ⟨by kernel_rfl, by kernel_rfl, by kernel_rfl⟩ ?_
      by_cases hte : t = []
      ·have dt : decide (t ≠ []) = false := decide_eq_false (by simpa using hte)
       rw [if_neg (by rintro ⟨h, _⟩; exact h hte), Int.add_zero] at hps
       simp (disch := omega) only [go_sem,reduceIte,nqD,nqL, e1, e2, e6, e7, e8, e9, e10, e11, e12, e13, iQ, iA, load9, lt6, ls6, neq_str, dt, wrap_i64]
       refine hJ3 (j3 - 1) _ _ (by omega) ⟨q + 1, A3, k3, c3, by omega, by simp only [go_sem,reduceIte,nqD,nqL, e1], by simp only [go_sem,reduceIte,nqD,nqL, e2], by simp only [go_sem,reduceIte,nqD,nqL, e6], by simp only [go_sem,reduceIte,nqD,nqL, e7], by simp only [go_sem,reduceIte,nqD,nqL, e8], by simp only [go_sem,reduceIte,nqD,nqL, e9], by simp only [go_sem,reduceIte,nqD,nqL, e10], by simp only [go_sem,reduceIte,nqD,nqL, e11], by simp only [go_sem,reduceIte,nqD,nqL, e12], by (simp only [go_sem,reduceIte,nqD,nqL]) <;> rfl, by rw [hps]; exact x_v, by rw [hps]; exact hz6, p56, m6⟩
      ·have dt : decide (t ≠ []) = true := decide_eq_true hte
       simp (maxSteps := 400000) (disch := omega) only [go_sem,reduceIte,nqD,nqL, e1, e2, e6, e7, e8, e9, e10, e11, e12, e13, iQ, iA, load9, lt6, ls6, neq_str, dt]
       refine CallO_same (follows_spec (k := k) hv6 hpn hk hps0 hto.1 hso.1 (by omega) (by omega)) (by omega) fun u hu => ?_
       subst hu
       rw [hcm]
       cases hf : fol cm t s with
       | false =>
        rw [if_neg (by rintro ⟨_, h⟩; rw [hf] at h; cases h), Int.add_zero] at hps
        simp (disch := omega) only [go_sem,reduceIte,nqD,nqL, e1, e2, e6, e7, e8, e9, e10, e11, e12, e13, wrap_i64]
        refine hJ3 (j3 - 1) _ _ (by omega) ⟨q + 1, A3, k3, c3, by omega, by simp only [go_sem,reduceIte,nqD,nqL, e1], by simp only [go_sem,reduceIte,nqD,nqL, e2], by simp only [go_sem,reduceIte,nqD,nqL, e6], by simp only [go_sem,reduceIte,nqD,nqL, e7], by simp only [go_sem,reduceIte,nqD,nqL, e8], by simp only [go_sem,reduceIte,nqD,nqL, e9], by simp only [go_sem,reduceIte,nqD,nqL, e10], by simp only [go_sem,reduceIte,nqD,nqL, e11], by simp only [go_sem,reduceIte,nqD,nqL, e12], by (simp only [go_sem,reduceIte,nqD,nqL]) <;> rfl, by rw [hps]; exact x_v, by rw [hps]; exact hz6, p56, m6⟩
       | true =>
        rw [if_pos ⟨hte, hf⟩] at hps
        have hml : m - s.length < m := by omega
        have hrow : (endsL cm S m)[m - s.length]? = some (S.map (rowv cm S (endsL cm S (m - s.length)) (m - s.length))) := by
         have h1 := endsL_get (cm := cm) (L := S) hml
         rw [List.getD_eq_getElem?_getD] at h1
         have h2 : m - s.length < (endsL cm S m).length := by rw [endsL_len]; exact hml
         rw [List.getElem?_eq_getElem h2] at h1 ⊢
         exact congrArg some h1
        have hgd : (endsL cm S m).getD (m - s.length) [] = S.map (rowv cm S (endsL cm S (m - s.length)) (m - s.length)) := endsL_get hml
        obtain ⟨be, oe, Ae, ce, rfl, lrow, hrowZ⟩ := ZRows.get hE6 hrow
        have hzq : (S.map (rowv cm S (endsL cm S (m - s.length)) (m - s.length)))[q]? = some (rowv cm S (endsL cm S (m - s.length)) (m - s.length) t) := by rw [List.getElem?_map, ht]; rfl
        obtain ⟨bz, oz, wz, rfl, lz, hzZ⟩ := ZRow.get hrowZ hzq
        have hgq : ((endsL cm S m).getD (m - s.length) []).getD q 0 = rowv cm S (endsL cm S (m - s.length)) (m - s.length) t := by rw [hgd, List.getD_eq_getElem?_getD, hzq]; rfl
        have hb1 : ∀ x, (((endsL cm S m).getD (m - s.length) []).getD x 0).natAbs ≤ 64 ^ (m - s.length) := fun x => by
         rw [hgd, List.getD_eq_getElem?_getD, List.getElem?_map]
         cases S[x]? with
         | none => simp
         | some t => exact hrb (m - s.length) t
        have hb2 := psr_bound (cm := cm) (S := S) hb1 q
        have hb3 : q * 64 ^ (m - s.length) ≤ 64 * 64 ^ (m - s.length) := Nat.mul_le_mul_right _ (by omega)
        have hb4 := p64 (a := m - s.length) (by omega)
        have hb5 := hrb (m - s.length) t
        have hb6 := p64' (a := m - s.length) (by omega)
        rw [hgq] at hps
        have wml : IntKind.i64.wrap ((m : Int) - (s.length : Int)) = ((m - s.length : Nat) : Int) := wrap_nat (by omega) (by omega)
        have iE : idxAddrO (En G) 120 (some (.slice (some ⟨be, oe, none⟩) m m)) (some (.int .i64 ((m - s.length : Nat) : Int))) = some (.pointer (some ⟨be, oe + (m - s.length), none⟩)) := by
         have := idxA120 (G := G) (b := be) (off := oe) (n := m) (c := m) (kd := .i64) (z := ((m - s.length : Nat) : Int)) (by omega) (by omega)
         rw [Int.toNat_natCast, Nat.mul_one] at this
         exact this
        have iZ : idxAddrO (En G) 121 (some (.slice (some ⟨bz, oz, none⟩) (S.map (rowv cm S (endsL cm S (m - s.length)) (m - s.length))).length ce)) (some (.int .i64 (q : Int))) = some (.pointer (some ⟨bz, oz + q * 2, none⟩)) := by
         have := idxA121 (G := G) (b := bz) (off := oz) (n := (S.map (rowv cm S (endsL cm S (m - s.length)) (m - s.length))).length) (c := ce) (kd := .i64) (z := (q : Int)) (by omega) (by rw [List.length_map]; omega)
         rw [Int.toNat_natCast] at this
         exact this
        have rv := x_v.zn (G := G) rfl
        have hzZ' := hzZ.zv
        simp (disch := omega) only [go_sem,reduceIte,nqD,nqL, e1, e2, e6, e7, e8, e9, e10, e11, e12, e13]
        refine WK_regionT 14 ⟨by kernel_rfl, by kernel_rfl, by kernel_rfl⟩ ?_
        simp (maxSteps := 400000) (disch := omega) only [go_sem,reduceIte,nqD,nqL, e1, e2, e6, e7, e8, e9, e10, e11, e12, e13, rv, iA, load9, ls6, len9, wml, iE, load121, lrow, iZ, lz]
        refine CallO_spec (Add_fresh (N := g6.next) (by rw [st_next]; omega) (by rw [st_next]; omega) (by rw [st_blks]; exact hz6.zv) (by rw [st_blks]; exact hzZ'.wide (by omega)) (sr64 (by omega)) (sr64 (by omega))) (by omega) (fun _ _ _ h => h) fun w7 g7 p7 hw7 => ?_
        have m7 := p7.next
        obtain ⟨A7, k7, c7, rfl⟩ := hw7.shape
        have y0 := x_v.mono (B' := g7.blks) (p7.get _ (by omega))
        try simp (disch := omega) only [go_sem,reduceIte,nqD,nqL]
        refine At_storeV (inf := inf60) (v := .agg #[.bool (decide ((psr cm S (endsL cm S m) m s q) + rowv cm S (endsL cm S (m - s.length)) (m - s.length) t < 0)), .slice A7 k7 c7]) i60 (by simp only [go_sem,reduceIte,nqD,nqL, e12]) (by simp only [go_sem,reduceIte,nqD,nqL]) y0 (by rw [size60]; rfl) (by rw [size60]; rfl) rfl (by show G ≤ g3.next; omega) fun g8 hs8 y_v => ?_
        have m8 := hs8.next
        have hw7' : ZVL g7.blks g6.next g7.next ((psr cm S (endsL cm S m) m s q) + rowv cm S (endsL cm S (m - s.length)) (m - s.length) t) (.agg #[.bool (decide ((psr cm S (endsL cm S m) m s q) + rowv cm S (endsL cm S (m - s.length)) (m - s.length) t < 0)), .slice A7 k7 c7]) := hw7
        have hz8 : ZVL g8.blks g2.next g8.next ((psr cm S (endsL cm S m) m s q) + rowv cm S (endsL cm S (m - s.length)) (m - s.length) t) (.agg #[.bool (decide ((psr cm S (endsL cm S m) m s q) + rowv cm S (endsL cm S (m - s.length)) (m - s.length) t < 0)), .slice A7 k7 c7]) := RZL.wide (RZL.sto hw7' hs8 y0 rfl) (by omega) (by omega)
        have x_v8 : Var g8.blks g3.next [.bool (decide ((psr cm S (endsL cm S m) m s q) + rowv cm S (endsL cm S (m - s.length)) (m - s.length) t < 0)), .slice A7 k7 c7] := y_v
        rw [← hps] at hz8 x_v8
        simp (disch := omega) only [go_sem,reduceIte,nqD,nqL, e13, wrap_i64]
        refine hJ3 (j3 - 1) _ _ (by omega) ⟨q + 1, A7, k7, c7, by omega, by simp only [go_sem,reduceIte,nqD,nqL, e1], by simp only [go_sem,reduceIte,nqD,nqL, e2], by simp only [go_sem,reduceIte,nqD,nqL, e6], by simp only [go_sem,reduceIte,nqD,nqL, e7], by simp only [go_sem,reduceIte,nqD,nqL, e8], by simp only [go_sem,reduceIte,nqD,nqL, e9], by simp only [go_sem,reduceIte,nqD,nqL, e10], by simp only [go_sem,reduceIte,nqD,nqL, e11], by simp only [go_sem,reduceIte,nqD,nqL, e12], by (simp only [go_sem,reduceIte,nqD,nqL]) <;> rfl, x_v8, hz8, (p56.trans (p7.le (by omega))).trans (hs8.pres nlr), by omega⟩
     ·have dq : decide ((q : Int) < (S.length : Int)) = false := decide_eq_false (by omega)
      obtain rfl : q = S.length := by omega
      have hzv : rowv cm S (endsL cm S m) m s = psr cm S (endsL cm S m) m s S.length := hzv0
      simp (disch := omega) only [go_sem,reduceIte,nqD,nqL, e1, e2, e6, e7, e8, e9, e10, e11, e12, e13, len28, dq]
      have rv := x_v.zn (G := G) rfl
      simp (disch := omega) only [go_sem,reduceIte,nqD,nqL, e1, e2, e6, e7, e8, e9, e10, e11, e12, rv]
      refine At_pushZ (lo := g.next) (hi := g2.next) (l := ((S.take i).map (rowv cm S (endsL cm S m) m))) (z := psr cm S (endsL cm S m) m s S.length) (w := .agg #[.bool (decide (psr cm S (endsL cm S m) m s S.length < 0)), .slice A3 k3 c3]) (A := A10) (by simp only [go_sem,reduceIte,nqD,nqL]) hz6 (by simp only [go_sem,reduceIte,nqD,nqL, e10, hRlen]) (by rw [hRlen]; exact hR6) (by omega) (by omega) (by omega) (by rw [hRlen]; omega) (by decide) (by decide) (by decide) fun A11 g9 hR9 p9 m9 => ?_
      have hl9 : (((S.take i).map (rowv cm S (endsL cm S m) m)) ++ [psr cm S (endsL cm S m) m s S.length]).length = i + 1 := by simp; omega
      have hR9' : ZRow g9.blks g.next g9.next ((S.take (i + 1)).map (rowv cm S (endsL cm S m) m)) (.slice A11 (i + 1) (i + 1)) := by
       rw [hl9] at hR9
       rw [hRn, hzv]; exact hR9
      rw [hl9]
      simp (disch := omega) only [go_sem,reduceIte,nqD,nqL, e11, wrap_i64]
      refine hJ2 (j2 - 1) _ _ (by omega) ⟨i + 1, A11, by omega, by simp only [go_sem,reduceIte,nqD,nqL, e1], by simp only [go_sem,reduceIte,nqD,nqL, e2], by simp only [go_sem,reduceIte,nqD,nqL, e6], by simp only [go_sem,reduceIte,nqD,nqL, e7], by simp only [go_sem,reduceIte,nqD,nqL, e8], by simp only [go_sem,reduceIte,nqD,nqL, e9], by (simp only [go_sem,reduceIte,nqD,nqL]) <;> rfl, by (simp only [go_sem,reduceIte,nqD,nqL]) <;> rfl, x_r6.mono (p9.get _ (by omega)), QOK.zrows.mono hE6 fun b _ hb => p9.get b hb, hR9', (p2.trans (p26.le (by omega))).trans p9⟩
  ·have d2 : decide ((i : Int) < (S.length : Int)) = false := decide_eq_false (by omega)
   obtain rfl : i = S.length := by omega
   rw [List.take_length] at hR
   simp (disch := omega) only [go_sem,reduceIte,nqD,nqL, e1, e2, e6, e7, e8, e9, e10, e11, len28, d2]
   have hrl : (S.map (rowv cm S (endsL cm S m) m)).length = S.length := by simp
   have hel : (endsL cm S m).length = m := endsL_len m
   refine At_pushR (lo := h2.next) (hi := g.next) (l := endsL cm S m) (z := S.map (rowv cm S (endsL cm S m) m)) (w := .slice A10 S.length S.length) (A := A8) (by simp only [go_sem,reduceIte,nqD,nqL, e10]) hR (by simp only [go_sem,reduceIte,nqD,nqL, e8, hel]) (by rw [hel]; exact hE) (by omega) (by omega) (by omega) (by rw [hel]; omega) (by decide) (by decide) (by decide) fun A9 g9 hE9 p9 m9 => ?_
   have hen : endsL cm S m ++ [S.map (rowv cm S (endsL cm S m) m)] = endsL cm S (m + 1) := rfl
   rw [hen, endsL_len] at hE9
   rw [hen, endsL_len]
   simp (disch := omega) only [go_sem,reduceIte,nqD,nqL, e9, wrap_i64]
   refine hJ (j - 1) _ _ (by omega) ⟨m + 1, A9, by omega, by simp only [go_sem,reduceIte,nqD,nqL, e1], by simp only [go_sem,reduceIte,nqD,nqL, e2], by simp only [go_sem,reduceIte,nqD,nqL, e6], by simp only [go_sem,reduceIte,nqD,nqL, e7], by (simp only [go_sem,reduceIte,nqD,nqL]) <;> rfl, by (simp only [go_sem,reduceIte,nqD,nqL]) <;> rfl, x_r.mono (p9.get _ (by omega)), hE9, pg2.trans p9⟩
 ·have d1 : decide ((m : Int) ≤ (n : Int)) = false := decide_eq_false (by omega)
  obtain rfl : m = n + 1 := by omega
  have prg := pr02.trans (pg.le (m' := h.next) (by omega))
  by_cases hn0 : n = 0
  ·have d2 : decide ((n : Int) = 0) = true := decide_eq_true (by omega)
   rw [if_pos hn0] at hQ'
   simp (disch := omega) only [go_sem,reduceIte,nqD,nqL, e1, e2, e6, e7, e8, e9, d1, d2]
   refine CallO_f (Int_fresh (z := 1) (by omega) (by omega) (by omega)) (by omega) fun w3 g3 p3 hw3 => ?_
   have m3 := p3.next
   obtain ⟨A3, k3, c3, rfl⟩ := hw3.shape
   have y0 := x_r.mono (B' := g3.blks) (p3.get _ (by omega))
   try simp (disch := omega) only [go_sem,reduceIte,nqD,nqL]
   refine At_storeV (inf := inf60) (v := .agg #[.bool (decide ((1 : Int) < 0)), .slice A3 k3 c3]) i60 (by simp only [go_sem,reduceIte,nqD,nqL, e6]) (by simp only [go_sem,reduceIte,nqD,nqL]) y0 (by rw [size60]; rfl) (by rw [size60]; rfl) rfl (by show G ≤ h.next; omega) fun g4 hs4 y4 => ?_
   have m4 := hs4.next
   have r4 := y4.znE (G := G) rfl
   simp (disch := omega) only [go_sem,reduceIte,nqD,nqL, e6, r4]
   exact hQ' _ _ ⟨(prg.trans (p3.le (by omega))).trans (hs4.pres nlr), RZL.rz (RZL.wide (RZL.sto hw3 hs4 y0 rfl) nlr (by omega))⟩
  ·have d2 : decide ((n : Int) = 0) = false := decide_eq_false (by omega)
   rw [if_neg hn0] at hQ'
   simp (disch := omega) only [go_sem,reduceIte,nqD,nqL, e1, e2, e6, e7, e8, e9, d1, d2]
   refine CallO_f (Int_fresh (z := 0) (by omega) (by omega) (by omega)) (by omega) fun w3 g3 p3 hw3 => ?_
   have m3 := p3.next
   obtain ⟨A3, k3, c3, rfl⟩ := hw3.shape
   try simp (disch := omega) only [go_sem,reduceIte,nqD,nqL]
   refine At_alloc i60 zero60 rfl (by omega) fun g4 hg4 => ?_
   have m4 := hg4.next
   have p4 : Pres g3.next g3 g4 := hg4.pres nlr
   have x_v : Var g4.blks g3.next [.bool false, .slice none 0 0] := hg4.var
   try simp (disch := omega) only [go_sem,reduceIte,nqD,nqL]
   refine At_storeV (inf := inf60) (v := .agg #[.bool (decide ((0 : Int) < 0)), .slice A3 k3 c3]) i60 (by simp only [go_sem,reduceIte,nqD,nqL]) (by simp only [go_sem,reduceIte,nqD,nqL]) x_v (by rw [size60]; rfl) (by rw [size60]; rfl) rfl (by show G ≤ g3.next; omega) fun g5 hs5 y_v => ?_
   have m5 := hs5.next
   have p35 : Pres g3.next g3 g5 := p4.trans (hs5.pres nlr)
   have pg5 : Pres g.next g g5 := p3.trans (p35.le (by omega))
   have hz5 : ZV g5.blks g5.next 0 (.agg #[.bool (decide ((0 : Int) < 0)), .slice A3 k3 c3]) := RZL.rz (RZL.wide (RZL.mono hw3 fun b _ hb => p35.get b hb) nlr (by omega))
   replace x_v : Var g5.blks g3.next [.bool (decide ((0 : Int) < 0)), .slice A3 k3 c3] := y_v
   clear y_v hw3 hg4 hs5
   simp (disch := omega) only [go_sem,reduceIte,nqD,nqL]
   refine WK_loopN (fun j2 β g6 => ∃ (i : Nat) (A3 : Option Addr) (k3 c3 : Nat), i + j2 = S.length ∧ β.get 1 = some (.slice A ps.length c) ∧ β.get 2 = some (.int .i64 (n : Int)) ∧ β.get 6 = some (.pointer (some ⟨h.next, 0, none⟩)) ∧ β.get 7 = some (.slice A1 S.length S.length) ∧ β.get 8 = some (.slice A8 (n + 1) (n + 1)) ∧ β.get 14 = some (.pointer (some ⟨g3.next, 0, none⟩)) ∧ β.get 15 = some (.int .i64 (i : Int)) ∧
     Var g6.blks g3.next [.bool (decide ((sm (S.take i) (rowv cm S (endsL cm S n) n)) < 0)), .slice A3 k3 c3] ∧ ZV g6.blks g6.next (sm (S.take i) (rowv cm S (endsL cm S n) n)) (.agg #[.bool (decide ((sm (S.take i) (rowv cm S (endsL cm S n) n)) < 0)), .slice A3 k3 c3]) ∧ Pres g3.next g5 g6 ∧ g5.next ≤ g6.next) S.length
    ⟨0, A3, k3, c3, by omega, by simp only [go_sem,reduceIte,nqD,nqL, e1], by simp only [go_sem,reduceIte,nqD,nqL, e2], by simp only [go_sem,reduceIte,nqD,nqL, e6], by simp only [go_sem,reduceIte,nqD,nqL, e7], by simp only [go_sem,reduceIte,nqD,nqL, e8], by simp only [go_sem,reduceIte,nqD,nqL], by (simp only [go_sem,reduceIte,nqD,nqL]) <;> rfl, x_v, hz5, Pres.refl _ _, Nat.le_refl _⟩ (by omega) ?_
   clear e1 e2 e6 e7 e8 e9 x_v hz5
   rintro J2 j2 β g6 ⟨i, A3, k3, c3, hij, e1, e2, e6, e7, e8, e14, e15, x_v, hz6, p56, m6⟩ hJ2
   have pg6 : Pres g.next g g6 := pg5.trans (p56.le (by omega))
   have x_r6 := x_r.mono (B' := g6.blks) (pg6.get _ (by omega))
   have hE6 := QOK.zrows.mono hE (B' := g6.blks) fun b _ hb => pg6.get b hb
   have rv := x_v.zn (G := G) rfl
   by_cases hi' : i < S.length
   ·have di : decide ((i : Int) < (S.length : Int)) = true := decide_eq_true (by omega)
    obtain ⟨s, hs⟩ : ∃ s, S[i]? = some s := ⟨S[i]'hi', List.getElem?_eq_getElem hi'⟩
    have hts : sm (S.take (i + 1)) (rowv cm S (endsL cm S n) n) = (sm (S.take i) (rowv cm S (endsL cm S n) n)) + rowv cm S (endsL cm S n) n s := by
     rw [List.take_add_one, hs, sm_append]
     show _ + sm [s] _ = _
     rw [sm_cons, sm_nil, Int.add_zero]
    have hrow : (endsL cm S (n + 1))[n]? = some (S.map (rowv cm S (endsL cm S n) n)) := by
     have h1 := endsL_get (cm := cm) (L := S) (show n < n + 1 by omega)
     rw [List.getD_eq_getElem?_getD] at h1
     have h2 : n < (endsL cm S (n + 1)).length := by rw [endsL_len]; omega
     rw [List.getElem?_eq_getElem h2] at h1 ⊢
     exact congrArg some h1
    obtain ⟨be, oe, Ae, ce, rfl, lrow, hrowZ⟩ := ZRows.get hE6 hrow
    have hzq : (S.map (rowv cm S (endsL cm S n) n))[i]? = some (rowv cm S (endsL cm S n) n s) := by rw [List.getElem?_map, hs]; rfl
    obtain ⟨bz, oz, wz, rfl, lz, hzZ⟩ := ZRow.get hrowZ hzq
    have hb1 : ((sm (S.take i) (rowv cm S (endsL cm S n) n))).natAbs ≤ i * 64 ^ n := sm_bound (fun t => hrb n t) (by simp; omega)
    have hb3 : i * 64 ^ n ≤ 64 * 64 ^ n := Nat.mul_le_mul_right _ (by omega)
    have hb4 := p64 (a := n) hn
    have hb5 := hrb n s
    have hb6 := p64' (a := n) hn
    have iE : idxAddrO (En G) 120 (some (.slice (some ⟨be, oe, none⟩) (n + 1) (n + 1))) (some (.int .i64 (n : Int))) = some (.pointer (some ⟨be, oe + n, none⟩)) := by
     have := idxA120 (G := G) (b := be) (off := oe) (n := n + 1) (c := n + 1) (kd := .i64) (z := (n : Int)) (by omega) (by omega)
     rw [Int.toNat_natCast, Nat.mul_one] at this
     exact this
    have iZ : idxAddrO (En G) 121 (some (.slice (some ⟨bz, oz, none⟩) (S.map (rowv cm S (endsL cm S n) n)).length ce)) (some (.int .i64 (i : Int))) = some (.pointer (some ⟨bz, oz + i * 2, none⟩)) := by
     have := idxA121 (G := G) (b := bz) (off := oz) (n := (S.map (rowv cm S (endsL cm S n) n)).length) (c := ce) (kd := .i64) (z := (i : Int)) (by omega) (by rw [List.length_map]; omega)
     rw [Int.toNat_natCast] at this
     exact this
    simp (disch := omega) only [go_sem,reduceIte,nqD,nqL, e1, e2, e6, e7, e8, e14, e15, len28, di]
    refine WK_regionT 8 ⟨by kernel_rfl, by kernel_rfl, by kernel_rfl⟩ ?_
    simp (maxSteps := 400000) (disch := omega) only [go_sem,reduceIte,nqD,nqL, e1, e2, e6, e7, e8, e14, e15, rv, iE, load121, lrow, iZ, lz]
    refine CallO_spec (Add_spec (N := g6.next) (by rw [st_next]; omega) (by rw [st_next]; omega) (by rw [st_blks]; exact hz6) (by rw [st_blks]; exact hzZ.zv.wide (by omega)) (sr64 (by omega)) (sr64 (by omega))) (by omega) (fun _ _ _ h => h) fun w7 g7 p7 hw7 => ?_
    have m7 := p7.next
    rw [← hts] at hw7
    obtain ⟨A7, k7, c7, rfl⟩ := hw7.shape
    have y0 := x_v.mono (B' := g7.blks) (p7.get _ (by omega))
    try simp (disch := omega) only [go_sem,reduceIte,nqD,nqL]
    refine At_storeV (inf := inf60) (v := .agg #[.bool (decide (sm (S.take (i + 1)) (rowv cm S (endsL cm S n) n) < 0)), .slice A7 k7 c7]) i60 (by simp only [go_sem,reduceIte,nqD,nqL, e14]) (by simp only [go_sem,reduceIte,nqD,nqL]) y0 (by rw [size60]; rfl) (by rw [size60]; rfl) rfl (by show G ≤ g3.next; omega) fun g8 hs8 y_v => ?_
    have m8 := hs8.next
    simp (disch := omega) only [go_sem,reduceIte,nqD,nqL, e15, wrap_i64]
    refine hJ2 (j2 - 1) _ _ (by omega) ⟨i + 1, A7, k7, c7, by omega, by simp only [go_sem,reduceIte,nqD,nqL, e1], by simp only [go_sem,reduceIte,nqD,nqL, e2], by simp only [go_sem,reduceIte,nqD,nqL, e6], by simp only [go_sem,reduceIte,nqD,nqL, e7], by simp only [go_sem,reduceIte,nqD,nqL, e8], by simp only [go_sem,reduceIte,nqD,nqL, e14], by (simp only [go_sem,reduceIte,nqD,nqL]) <;> rfl, y_v, (hw7.sto hs8 y0 rfl).wide (by omega), (p56.trans (p7.le (by omega))).trans (hs8.pres nlr), by omega⟩
   ·have di : decide ((i : Int) < (S.length : Int)) = false := decide_eq_false (by omega)
    obtain rfl : i = S.length := by omega
    rw [List.take_length] at x_v hz6 rv
    simp (disch := omega) only [go_sem,reduceIte,nqD,nqL, e1, e2, e6, e7, e8, e14, e15, len28, di, rv]
    refine At_storeV (inf := inf60) (v := .agg #[.bool (decide (sm S (rowv cm S (endsL cm S n) n) < 0)), .slice A3 k3 c3]) i60 (by simp only [go_sem,reduceIte,nqD,nqL, e6]) (by simp only [go_sem,reduceIte,nqD,nqL]) x_r6 (by rw [size60]; rfl) (by rw [size60]; rfl) rfl (by show G ≤ h.next; omega) fun g8 hs8 y8 => ?_
    have m8 := hs8.next
    have r8 := y8.znE (G := G) rfl
    simp (disch := omega) only [go_sem,reduceIte,nqD,nqL, e6, r8]
    exact hQ' _ _ ⟨(prg.trans (pg6.le (by omega))).trans (hs8.pres nlr), (hz6.sto hs8 x_r6 rfl).wide (by omega)⟩
end
end Go.Proofs.YthankillfhmfkaaGreatDoor.Ev
