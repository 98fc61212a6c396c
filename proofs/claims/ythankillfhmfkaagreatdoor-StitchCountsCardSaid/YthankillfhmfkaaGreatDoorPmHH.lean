/- The document's own numbers: without a sign, times a digit, divided. -/
import Derived.Test.YthankillfhmfkaaGreatDoorPmGB
import Derived.Test.YthankillfhmfkaaGreatDoorPmNN
set_option linter.unusedSimpArgs false
set_option linter.unusedVariables false
namespace Go.Proofs.YthankillfhmfkaaGreatDoor.Ev
open Go Go.Proofs Go.Lm
open Nat renaming reduceEqDiff → nqD, reduceLT → nqL
noncomputable section
def LZ (B : Tr Blk) (lo N : Nat) (x : Nat) (v : Value) : Prop := ∃ l A c, v = .slice A l.length c ∧ SlV B lo N 1 l.length (nats l) (.slice A l.length c) ∧ Lim 10000 l ∧ Nrm l ∧ nv 10000 l = x
theorem LZ.wide {B : Tr Blk} {lo lo' N N' x : Nat} {v : Value} (a : LZ B lo N x v) (h1 : lo' ≤ lo) (h2 : N ≤ N') : LZ B lo' N' x v := by
 obtain ⟨l, A, c, e, hs, r⟩ := a
 exact ⟨l, A, c, e, hs.wide h1 h2, r⟩
theorem LZ.mono {B B' : Tr Blk} {lo N x : Nat} {v : Value} (a : LZ B lo N x v) (hB : ∀ b, lo ≤ b → b < N → B'.get b = B.get b) : LZ B' lo N x v := by
 obtain ⟨l, A, c, e, hs, r⟩ := a
 exact ⟨l, A, c, e, hs.mono hB, r⟩
theorem LZ.shape {B : Tr Blk} {lo N x : Nat} {v : Value} (a : LZ B lo N x v) : ∃ A n c, v = .slice A n c := by
 obtain ⟨l, A, c, rfl, _⟩ := a
 exact ⟨A, _, c, rfl⟩
theorem LZ.zv {B : Tr Blk} {lo N x : Nat} {A : Option Addr} {n c : Nat} (a : LZ B lo N x (.slice A n c)) : ZV B N (x : Int) (.agg #[.bool false, .slice A n c]) := by
 obtain ⟨l, A', c', e, hs, hl, hn, hx⟩ := a
 refine ⟨l, A', c', by rw [← e, show decide ((x : Int) < 0) = false from decide_eq_false (by omega)], hs.wide (Nat.zero_le _) nlr, hl, hn, by rw [hx]; omega⟩
theorem RZL.lz {B : Tr Blk} {lo N x : Nat} {s : Bool} {w : Value} (a : RZL B lo N s x w) : ∃ A n c, w = .agg #[.bool s, .slice A n c] ∧ LZ B lo N x (.slice A n c) := by
 obtain ⟨l, A, c, rfl, hs, hl, hn, hx⟩ := a
 exact ⟨A, _, c, rfl, l, A, c, rfl, hs, hl, hn, hx⟩
theorem ZV.lz {B : Tr Blk} {N : Nat} {z : Int} {w : Value} (a : ZV B N z w) : ∃ A n c, w = .agg #[.bool (decide (z < 0)), .slice A n c] ∧ LZ B 0 N z.natAbs (.slice A n c) := by
 obtain ⟨l, A, c, rfl, hs, hl, hn, hx⟩ := a
 exact ⟨A, _, c, rfl, l, A, c, rfl, hs, hl, hn, hx⟩
theorem fldv60_1 {G : Nat} {s : Bool} {A : Option Addr} {n c : Nat} : fieldO (En G) 60 1 (some (.agg #[.bool s, .slice A n c])) = some (.slice A n c) := by
 have hu : (En G).u 60 = some (.struct #[_, _]) := us60.trans Tryz.underlying60
 show evField (En G) 60 (.agg #[.bool s, .slice A n c]) 1 = _
 unfold evField
 rw [hu]
 show evPart (En G) 34 #[.bool s, .slice A n c] 1 = _
 unfold evPart
 rw [agg34]
 rfl
theorem build60t {G : Nat} {A : Option Addr} {n c : Nat} : buildO (En G) 60 (some [(1, .slice A n c)]) = some (.agg #[.bool false, .slice A n c]) := by
 have hu : (En G).u 60 = some (.struct #[_, _]) := us60.trans Tryz.underlying60
 have hz : okConst (.agg #[.bool false, .slice none 0 0]) = true := rfl
 simp only [buildO, evBuild, i60, hu, zero60, places, i4, size4, i34, size34, hz, if_true]
 rfl
def Sb (x : Nat) : Prop := ∃ k, k ≤ 4000000 ∧ x < 10000 ^ k
theorem Sr.sb {x : Nat} (h : Sr x) : Sb x := by
 obtain ⟨k, h1, h2⟩ := h
 exact ⟨k, by omega, h2⟩
theorem Sb.le {x y : Nat} (h : Sb x) (hy : y ≤ x) : Sb y := by
 obtain ⟨k, h1, h2⟩ := h
 exact ⟨k, h1, Nat.lt_of_le_of_lt hy h2⟩
theorem Sb.len {l : List Nat} (h : Sb (nv 10000 l)) (hn : Nrm l) : l.length ≤ 4000000 := by
 obtain ⟨k, h1, h2⟩ := h
 refine Nat.le_trans ?_ h1
 by_cases h : l = []
 ·rw [h]; simp
 ·have h1 := nrm_pos (B := 10000) (by omega) hn h
  have h3 := Nat.pow_lt_pow_iff_right (a := 10000) (n := l.length - 1) (m := k) (by omega)
  have := h3.1 (Nat.lt_of_le_of_lt h1 h2)
  omega
theorem lean_zv {G N : Nat} {z : Int} {v : Value} {h : H} (hG : G ≤ h.next) (hN : N ≤ h.next) (hv : ZV h.blks N z v) (hz : Sb z.natAbs) :
  Spec Tryz.prog (En G) 101 [v] h fun w h' => RZL h'.blks h.next h'.next (decide (z < 0)) z.natAbs w := by
 obtain ⟨l, A, c, rfl, hs, hl, hn, el⟩ := hv
 have hlen : l.length ≤ 4000000 := Sb.len (by rw [el]; exact hz) hn
 refine Spec.mono (lean_fresh hG hN hl hs hlen) fun w h' _ hh => ?_
 rw [el] at hh
 have e : (decide (z < 0) && decide (z.natAbs ≠ 0)) = decide (z < 0) := by
  by_cases h : z < 0
  ·have : z.natAbs ≠ 0 := by omega
   simp [h, this]
  ·simp [h]
 rw [e] at hh
 exact hh
set_option maxHeartbeats 8000000 in
theorem Abs_spec {G N : Nat} {a : Int} {v : Value} {h : H} (hG : G ≤ h.next) (hN : N ≤ h.next) (hv : ZV h.blks N a v) :
  Spec Tryz.prog (En G) 100 [v] h fun w h' => ZV h'.blks h'.next (a.natAbs : Int) w := by
 obtain ⟨A, n, c, rfl, hz⟩ := hv.lz
 refine CallsE_enter (En_known (by decide)) (En_f.trans Tryz.func100) rfl ⟨Nat.le_of_ble_eq_true rfl, by decide⟩ fun Q' hQ' => ?_
 simp (disch := omega) only [Tryz.f100, go_sem,reduceIte,nqD,nqL]
 refine At_box (v := .agg #[.bool (decide (a < 0)), .slice A n c]) (by simp only [go_sem,reduceIte,nqD,nqL]) (by omega) fun h1 hnh1 => ?_
 have nh1 := hnh1.next
 have ph1 : Pres h.next h h1 := hnh1.pres nlr
 have x_a : Var h1.blks h.next [.bool (decide (a < 0)), .slice A n c] := hnh1.var
 have pr : Pres h.next h h1 := ph1
 try simp (disch := omega) only [go_sem,reduceIte,nqD,nqL]
 refine At_alloc i60 zero60 rfl (by omega) fun h2 hnh2 => ?_
 have nh2 := hnh2.next
 have ph2 : Pres h1.next h1 h2 := hnh2.pres nlr
 have x_r : Var h2.blks h1.next [.bool false, .slice none 0 0] := hnh2.var
 replace x_a := x_a.mono (B' := h2.blks) (ph2.get _ (by omega))
 replace pr := pr.trans (ph2.le (by omega))
 try simp (disch := omega) only [go_sem,reduceIte,nqD,nqL]
 simp (disch := omega) only [go_sem,reduceIte,nqD,nqL, fld60_0]
 refine At_store (inf := inf4) (b := h.next) (off := 0) (v := .bool false) i4 (by simp only [go_sem,reduceIte,nqD,nqL, fld60_0]) (by (simp only [go_sem,reduceIte,nqD,nqL]) <;> rfl) (by rw [size4]; rfl) rfl x_a.choose_spec.choose_spec.1 (by rw [size4]; show 0 + 1 ≤ 2; omega) (by show G ≤ h.next; omega) fun h5 hs5 => ?_
 have n5 := hs5.next
 have y1 : Var h5.blks h.next [.bool false, .slice A n c] := hs5.varAt x_a (by show 0 + 1 ≤ 2; omega)
 replace x_r := x_r.mono (B' := h5.blks) (hs5.get _ (by omega))
 have r1 := y1.zn (G := G) rfl
 simp (disch := omega) only [go_sem,reduceIte,nqD,nqL, r1]
 refine At_storeV (inf := inf60) (v := .agg #[.bool false, .slice A n c]) i60 (by simp only [go_sem,reduceIte,nqD,nqL]) (by simp only [go_sem,reduceIte,nqD,nqL]) x_r (by rw [size60]; rfl) (by rw [size60]; rfl) rfl (by show G ≤ h1.next; omega) fun h6 hs6 v6 => ?_
 have n6 := hs6.next
 have r6 := v6.znE (G := G) rfl
 simp (disch := omega) only [go_sem,reduceIte,nqD,nqL, r6]
 refine hQ' _ _ ⟨pr.trans ((hs5.pres (by omega)).trans (hs6.pres (by omega))), ?_⟩
 exact LZ.zv ((hz.mono (B' := h6.blks) fun b _ hb => by rw [hs6.get _ (by omega), hs5.get _ (by omega)]; exact pr.get b (by omega)).wide nlr (by omega))
theorem Sr.big {x : Nat} (h : Sr x) {d : Nat} (hd : d ≤ 10000) : Sb (x * d) := by
 obtain ⟨k, h1, h2⟩ := h
 refine ⟨k + 1, by omega, ?_⟩
 rw [Nat.pow_succ]
 rcases Nat.eq_zero_or_pos d with rfl | h0
 ·rw [Nat.mul_zero]
  exact Nat.mul_pos (by omega) (by omega)
 ·exact Nat.lt_of_lt_of_le (Nat.mul_lt_mul_of_pos_right h2 h0) (Nat.mul_le_mul_left _ hd)
theorem sr_small {d : Nat} (hd : d ≤ 10000) : Sr d := ⟨2, by omega, by omega⟩
set_option maxHeartbeats 8000000 in
theorem timesR_spec {G lo N x d : Nat} {v : Value} {h : H} (hG : G ≤ h.next) (hN : N ≤ h.next) (hv : LZ h.blks lo N x v) (hx : Sr x) (hd : d ≤ 10000) :
  Spec Tryz.prog (En G) 158 [v, .int .i64 (d : Int)] h fun w h' => LZ h'.blks h.next h'.next (x * d) w := by
 obtain ⟨A, n, c, rfl⟩ := hv.shape
 have hz := hv.zv
 refine CallsE_enter (En_known (by decide)) (En_f.trans Tryz.func158) rfl ⟨Nat.le_of_ble_eq_true rfl, by decide⟩ fun Q' hQ' => ?_
 simp (disch := omega) only [Tryz.f158, go_sem,reduceIte,nqD,nqL, build60t]
 replace hz := hz.wide hN
 refine CallO_f (Int_spec (z := (d : Int)) (by omega) (by omega) (by omega)) (by omega) fun w1 h1 ph1 hw1 => ?_
 have nh1 := ph1.next
 replace hz := (hz.pres ph1 nlr).wide (N' := h1.next) (by omega)
 have pr : Pres h.next h h1 := ph1
 simp (disch := omega) only [go_sem,reduceIte,nqD,nqL]
 refine CallO_f (Mul_spec (N := h1.next) (by omega) nlr hz hw1 hx (by rw [Int.natAbs_natCast]; exact sr_small hd)) (by omega) fun w2 h2 ph2 hw2 => ?_
 have nh2 := ph2.next
 replace hz := (hz.pres ph2 nlr).wide (N' := h2.next) (by omega)
 replace hw1 := (hw1.pres ph2 nlr).wide (N' := h2.next) (by omega)
 replace pr := pr.trans (ph2.le (by omega))
 simp (disch := omega) only [go_sem,reduceIte,nqD,nqL]
 refine CallO_f (lean_zv (N := h2.next) (by omega) nlr hw2 (by rw [← Int.natCast_mul, Int.natAbs_natCast]; exact hx.big hd)) (by omega) fun w3 h3 ph3 hw3 => ?_
 have nh3 := ph3.next
 replace hw2 := (hw2.pres ph3 nlr).wide (N' := h3.next) (by omega)
 replace pr := pr.trans (ph3.le (by omega))
 obtain ⟨A3, m3, c3, rfl, hw4⟩ := hw3.lz
 simp (disch := omega) only [go_sem,reduceIte,nqD,nqL, fldv60_1]
 rw [← Int.natCast_mul, Int.natAbs_natCast] at hw4
 exact hQ' _ _ ⟨pr, hw4.wide (by omega) nlr⟩
end
end Go.Proofs.YthankillfhmfkaaGreatDoor.Ev
namespace Go.Proofs.YthankillfhmfkaaGreatDoor.Ev
open Go Go.Proofs Go.Lm
open Nat renaming reduceEqDiff → nqD, reduceLT → nqL
noncomputable section
def DivZ (B : Tr Blk) (N : Nat) (a b : Int) (v : Value) : Prop := ∃ q r, v = .tuple #[q, r] ∧ ZV B N (a / b) q ∧ ZV B N (a % b) r
theorem natsc {x : Nat} {l : List Nat} : [Value.int .i64 (x : Int)] ++ nats l = nats (x :: l) := rfl
theorem RZ.zvs {B : Tr Blk} {N x : Nat} {s : Bool} {v : Value} (a : RZ B N (s && decide (x ≠ 0)) x v) : ZV B N (sgv s x) v := by
 unfold ZV
 rw [sgv_abs, ← sgv_neg]
 exact a
set_option maxHeartbeats 16000000 in
set_option maxRecDepth 100000 in
theorem DivMod_spec {G N : Nat} {a b : Int} {v u : Value} {h : H} (hG : G ≤ h.next) (hN : N ≤ h.next) (hv : ZV h.blks N a v) (hu : ZV h.blks N b u) (ha : Sr a.natAbs) (hb : Sr (b.natAbs * 10000)) (hb0 : 0 < b) :
  Spec Tryz.prog (En G) 130 [v, u] h fun w h' => DivZ h'.blks h'.next a b w := by
 have hv0 := hv
 have hu0 := hu
 obtain ⟨l, A, c, rfl, hs, hl, hn, el⟩ := hv
 obtain ⟨m, A', c', rfl, hs', hl', hn', em⟩ := hu
 have hbn : 0 < b.natAbs := by omega
 have hlen : l.length ≤ 1000000 := Sr.len (by rw [el]; exact ha) hn
 have hbs : Sr b.natAbs := hb.le (by omega)
 have hsb : decide (b < 0) = false := decide_eq_false (by omega)
 rw [hsb]
 refine CallsE_enter (En_known (by decide)) (En_f.trans Tryz.func130) rfl ⟨Nat.le_of_ble_eq_true rfl, by decide⟩ fun Q' hQ' => ?_
 simp (disch := omega) only [Tryz.f130, go_sem,reduceIte,nqD,nqL]
 refine At_box (v := .agg #[.bool (decide (a < 0)), .slice A l.length c]) (by simp only [go_sem,reduceIte,nqD,nqL]) (by omega) fun h1 hnh1 => ?_
 have nh1 := hnh1.next
 have ph1 : Pres h.next h h1 := hnh1.pres nlr
 have x_a : Var h1.blks h.next [.bool (decide (a < 0)), .slice A l.length c] := hnh1.var
 have pr : Pres h.next h h1 := ph1
 try simp (disch := omega) only [go_sem,reduceIte,nqD,nqL]
 refine At_box (v := .agg #[.bool false, .slice A' m.length c']) (by simp only [go_sem,reduceIte,nqD,nqL]) (by omega) fun h2 hnh2 => ?_
 have nh2 := hnh2.next
 have ph2 : Pres h1.next h1 h2 := hnh2.pres nlr
 have x_b : Var h2.blks h1.next [.bool false, .slice A' m.length c'] := hnh2.var
 replace x_a := x_a.mono (B' := h2.blks) (ph2.get _ (by omega))
 replace pr := pr.trans (ph2.le (by omega))
 try simp (disch := omega) only [go_sem,reduceIte,nqD,nqL]
 refine At_alloc i60 zero60 rfl (by omega) fun h3 hnh3 => ?_
 have nh3 := hnh3.next
 have ph3 : Pres h2.next h2 h3 := hnh3.pres nlr
 have x_q : Var h3.blks h2.next [.bool false, .slice none 0 0] := hnh3.var
 replace x_a := x_a.mono (B' := h3.blks) (ph3.get _ (by omega))
 replace x_b := x_b.mono (B' := h3.blks) (ph3.get _ (by omega))
 replace pr := pr.trans (ph3.le (by omega))
 try simp (disch := omega) only [go_sem,reduceIte,nqD,nqL]
 refine At_alloc i60 zero60 rfl (by omega) fun h4 hnh4 => ?_
 have nh4 := hnh4.next
 have ph4 : Pres h3.next h3 h4 := hnh4.pres nlr
 have x_r : Var h4.blks h3.next [.bool false, .slice none 0 0] := hnh4.var
 replace x_a := x_a.mono (B' := h4.blks) (ph4.get _ (by omega))
 replace x_b := x_b.mono (B' := h4.blks) (ph4.get _ (by omega))
 replace x_q := x_q.mono (B' := h4.blks) (ph4.get _ (by omega))
 replace pr := pr.trans (ph4.le (by omega))
 have LD : ∀ {hh : H}, Pres h4.next h4 hh → loadv hh.blks h.next 0 = some (.bool (decide (a < 0))) ∧ loadv hh.blks h.next 1 = some (.slice A l.length c) ∧ loadv hh.blks h1.next 1 = some (.slice A' m.length c') := fun {hh} p => by
  have y1 := x_a.mono (B' := hh.blks) (p.get _ (by omega))
  have y2 := x_b.mono (B' := hh.blks) (p.get _ (by omega))
  exact ⟨by rw [y1.load (by simp)]; rfl, by rw [y1.load (by simp)]; rfl, by rw [y2.load (by simp)]; rfl⟩
 have pr4 := pr
 clear pr ph1 ph2 ph3 ph4 hnh1 hnh2 hnh3 hnh4
 obtain ⟨l10, l11, l21⟩ := LD (Pres.refl h4.next h4)
 simp (disch := omega) only [go_sem,reduceIte,nqD,nqL, fld60_1, load34, Nat.zero_add, l11, len34]
 refine At_make (k1 := .i64) (k2 := .i64) (l := l.length) (c := l.length) u34 i3 zero3 (by rw [size3, bytes3]; rfl) (by simp only [go_sem,reduceIte,nqD,nqL]) (by simp only [go_sem,reduceIte,nqD,nqL]) nlr (by rw [size3]; omega) (by omega) (by omega) fun h5 hn5 => ?_
 have n5 := hn5.next
 have b5 := make_nats hn5
 have p5 : Pres h4.next h4 h5 := hn5.pres nlr
 clear hn5 l10 l11 l21
 obtain ⟨l10, l11, l21⟩ := LD p5
 try simp (disch := omega) only [go_sem,reduceIte,nqD,nqL]
 refine At_lit0 u34 i3 zero3 (by rw [size3]; rfl) (by omega) ?_
 simp (disch := omega) only [go_sem,reduceIte,nqD,nqL, fld60_1, load34, Nat.zero_add, l11, len34, wrap_i64]
 refine WK_loopN (fun j α g => ∃ (L lr : List Nat) (Ar : Option Addr) (cr : Nat), j ≤ l.length ∧ α.get 2 = some (.pointer (some ⟨h.next, 0, none⟩)) ∧ α.get 3 = some (.pointer (some ⟨h1.next, 0, none⟩)) ∧ α.get 4 = some (.pointer (some ⟨h2.next, 0, none⟩)) ∧ α.get 5 = some (.pointer (some ⟨h3.next, 0, none⟩)) ∧
   α.get 6 = some (.slice (some ⟨h4.next, 0, none⟩) l.length l.length) ∧ α.get 7 = some (.slice Ar lr.length cr) ∧ α.get 8 = some (.int .i64 ((j : Int) - 1)) ∧ SlV g.blks h4.next h5.next 1 l.length (nats L) (.slice (some ⟨h4.next, 0, none⟩) l.length l.length) ∧ L.length = l.length ∧ Lim 10000 L ∧
   SlV g.blks h5.next g.next 1 lr.length (nats lr) (.slice Ar lr.length cr) ∧ Lim 10000 lr ∧ Nrm lr ∧ nv 10000 (l.drop j) = b.natAbs * nv 10000 (L.drop j) + nv 10000 lr ∧ nv 10000 lr < b.natAbs ∧ Pres h4.next h4 g ∧ h5.next ≤ g.next) l.length
  ⟨List.replicate l.length 0, [], _, _, Nat.le_refl _, by simp only [go_sem,reduceIte,nqD,nqL], by simp only [go_sem,reduceIte,nqD,nqL], by simp only [go_sem,reduceIte,nqD,nqL], by simp only [go_sem,reduceIte,nqD,nqL], by simp only [go_sem,reduceIte,nqD,nqL], by (simp only [go_sem,reduceIte,nqD,nqL]) <;> rfl, by simp only [go_sem,reduceIte,nqD,nqL], b5, by simp, Lim.zeros (by omega), .emp rfl rfl, Lim.nil, Nrm.nil, by simp [nv], by simpa [nv] using hbn, p5, Nat.le_refl _⟩ (by omega) ?_
 clear b5 p5 l10 l11 l21
 rintro J j α g ⟨L, lr, Ar, cr, hj, e2, e3, e4, e5, e6, e7, e8, hq, hL, hlL, hr, hlr, hnr, hinv, hrb, pg, hg⟩ hJ
 obtain ⟨l10, l11, l21⟩ := LD pg
 have prg := pr4.trans (pg.le (by omega))
 have hrS : Sr (nv 10000 lr) := hbs.le (by omega)
 have hrlen : lr.length ≤ 1000000 := hrS.len hnr
 cases j with
 | zero =>
  have d0 : decide ((0 : Int) ≤ ((0 : Nat) : Int) - 1) = false := rfl
  simp (disch := omega) only [go_sem,reduceIte,nqD,nqL, e2, e3, e4, e5, e6, e7, e8, d0]
  rw [List.drop_zero, List.drop_zero, el] at hinv
  have hs2 := hq.wide (Nat.zero_le _) hg
  have hr2 := hr.wide (Nat.zero_le _) nlr
  have pr := prg
  replace x_a := x_a.mono (B' := g.blks) (pg.get _ (by omega))
  replace x_b := x_b.mono (B' := g.blks) (pg.get _ (by omega))
  replace x_q := x_q.mono (B' := g.blks) (pg.get _ (by omega))
  replace x_r := x_r.mono (B' := g.blks) (pg.get _ (by omega))
  simp (disch := omega) only [go_sem,reduceIte,nqD,nqL, e2, e3, e4, e5, e6, e7, e8, fld60_0, load4, Nat.add_zero, Nat.zero_add, l10, build60]
  refine CallO_f ((lean_fresh (G := G) (N := g.next) (s := decide (a < 0)) (l := L) (A := some ⟨h4.next, 0, none⟩) (c := l.length) (by omega) nlr hlL (by rw [hL]; exact hs2) (by omega)) |> fun hh => by rw [hL] at hh; exact hh) (by omega) fun w1 kh1 pkh1 hw1 => ?_
  have nkh1 := pkh1.next
  replace x_a := x_a.mono (B' := kh1.blks) (pkh1.get _ (by omega))
  replace x_b := x_b.mono (B' := kh1.blks) (pkh1.get _ (by omega))
  replace x_q := x_q.mono (B' := kh1.blks) (pkh1.get _ (by omega))
  replace x_r := x_r.mono (B' := kh1.blks) (pkh1.get _ (by omega))
  replace pr := pr.trans (pkh1.le (by omega))
  have hz1 := hw1.rz.zvs
  clear hw1
  simp (disch := omega) only [go_sem,reduceIte,nqD,nqL, build60t, e7]
  refine CallO_f (lean_fresh (N := kh1.next) (s := false) (by omega) nlr hlr ((hr2.mono (B' := kh1.blks) fun b _ hb => pkh1.get b (by omega)).wide nlr (by omega)) (by omega)) (by omega) fun w2 kh2 pkh2 hw2 => ?_
  have nkh2 := pkh2.next
  replace x_a := x_a.mono (B' := kh2.blks) (pkh2.get _ (by omega))
  replace x_b := x_b.mono (B' := kh2.blks) (pkh2.get _ (by omega))
  replace x_q := x_q.mono (B' := kh2.blks) (pkh2.get _ (by omega))
  replace x_r := x_r.mono (B' := kh2.blks) (pkh2.get _ (by omega))
  replace hz1 := (hz1.pres pkh2 nlr).wide (N' := kh2.next) (by omega)
  replace pr := pr.trans (pkh2.le (by omega))
  rw [Bool.false_and] at hw2
  obtain ⟨ll, Al, cl, rfl, hsl, hll, hnl, hvl⟩ := hw2
  have hz2 : ZV kh2.blks kh2.next (nv 10000 lr : Int) (.agg #[.bool (decide ((nv 10000 lr : Int) < 0)), .slice Al ll.length cl]) := by
   rw [show decide ((nv 10000 lr : Int) < 0) = false from decide_eq_false (by omega)]
   exact LZ.zv ⟨ll, Al, cl, rfl, hsl, hll, hnl, hvl⟩
  have hlz : ll.length = 0 ↔ nv 10000 lr = 0 := by rw [← hvl, nrm_zero (by omega) hnl, ← List.length_eq_zero_iff]
  have hLS : Sr (nv 10000 L) := ha.le (by rw [hinv]; exact Nat.le_trans (Nat.le_mul_of_pos_left _ hbn) (Nat.le_add_right _ _))
  have hlf : decide ((nv 10000 lr : Int) < 0) = false := decide_eq_false (by omega)
  rw [hlf] at hz2
  clear hsl
  obtain ⟨A1, n1', c1, rfl⟩ := hz1.shape
  generalize hz0 : sgv (decide (a < 0)) (nv 10000 L) = z0 at *
  try simp (disch := omega) only [go_sem,reduceIte,nqD,nqL]
  refine At_alloc i60 zero60 rfl (by omega) fun kh3 hnkh3 => ?_
  have nkh3 := hnkh3.next
  have pkh3 : Pres kh2.next kh2 kh3 := hnkh3.pres nlr
  have x_n : Var kh3.blks kh2.next [.bool false, .slice none 0 0] := hnkh3.var
  replace x_a := x_a.mono (B' := kh3.blks) (pkh3.get _ (by omega))
  replace x_b := x_b.mono (B' := kh3.blks) (pkh3.get _ (by omega))
  replace x_q := x_q.mono (B' := kh3.blks) (pkh3.get _ (by omega))
  replace x_r := x_r.mono (B' := kh3.blks) (pkh3.get _ (by omega))
  replace hz1 := (hz1.pres pkh3 nlr).wide (N' := kh3.next) (by omega)
  replace hz2 := (hz2.pres pkh3 nlr).wide (N' := kh3.next) (by omega)
  replace pr := pr.trans (pkh3.le (by omega))
  try simp (disch := omega) only [go_sem,reduceIte,nqD,nqL]
  refine At_alloc i60 zero60 rfl (by omega) fun kh4 hnkh4 => ?_
  have nkh4 := hnkh4.next
  have pkh4 : Pres kh3.next kh3 kh4 := hnkh4.pres nlr
  have x_m : Var kh4.blks kh3.next [.bool false, .slice none 0 0] := hnkh4.var
  replace x_a := x_a.mono (B' := kh4.blks) (pkh4.get _ (by omega))
  replace x_b := x_b.mono (B' := kh4.blks) (pkh4.get _ (by omega))
  replace x_q := x_q.mono (B' := kh4.blks) (pkh4.get _ (by omega))
  replace x_r := x_r.mono (B' := kh4.blks) (pkh4.get _ (by omega))
  replace x_n := x_n.mono (B' := kh4.blks) (pkh4.get _ (by omega))
  replace hz1 := (hz1.pres pkh4 nlr).wide (N' := kh4.next) (by omega)
  replace hz2 := (hz2.pres pkh4 nlr).wide (N' := kh4.next) (by omega)
  replace pr := pr.trans (pkh4.le (by omega))
  try simp (disch := omega) only [go_sem,reduceIte,nqD,nqL]
  refine At_storeV (inf := inf60) (v := .agg #[.bool (decide (z0 < 0)), .slice A1 n1' c1]) i60 (by simp only [go_sem,reduceIte,nqD,nqL]) (by simp only [go_sem,reduceIte,nqD,nqL]) x_n (by rw [size60]; rfl) (by rw [size60]; rfl) rfl (by show G ≤ kh2.next; omega) fun kh5 hskh5 y_n => ?_
  have nkh5 := hskh5.next
  replace x_a := x_a.mono (B' := kh5.blks) (hskh5.get _ (by omega))
  replace x_b := x_b.mono (B' := kh5.blks) (hskh5.get _ (by omega))
  replace x_q := x_q.mono (B' := kh5.blks) (hskh5.get _ (by omega))
  replace x_r := x_r.mono (B' := kh5.blks) (hskh5.get _ (by omega))
  replace x_m := x_m.mono (B' := kh5.blks) (hskh5.get _ (by omega))
  replace hz1 := (hz1.sto hskh5 x_n rfl).wide (N' := kh5.next) (by omega)
  replace hz2 := (hz2.sto hskh5 x_n rfl).wide (N' := kh5.next) (by omega)
  replace pr := pr.trans (hskh5.pres (by omega))
  replace x_n : Var kh5.blks kh2.next [.bool (decide (z0 < 0)), .slice A1 n1' c1] := y_n
  clear y_n
  try simp (disch := omega) only [go_sem,reduceIte,nqD,nqL]
  refine At_storeV (inf := inf60) (v := .agg #[.bool false, .slice Al ll.length cl]) i60 (by simp only [go_sem,reduceIte,nqD,nqL]) (by simp only [go_sem,reduceIte,nqD,nqL]) x_m (by rw [size60]; rfl) (by rw [size60]; rfl) rfl (by show G ≤ kh3.next; omega) fun kh6 hskh6 y_m => ?_
  have nkh6 := hskh6.next
  replace x_a := x_a.mono (B' := kh6.blks) (hskh6.get _ (by omega))
  replace x_b := x_b.mono (B' := kh6.blks) (hskh6.get _ (by omega))
  replace x_q := x_q.mono (B' := kh6.blks) (hskh6.get _ (by omega))
  replace x_r := x_r.mono (B' := kh6.blks) (hskh6.get _ (by omega))
  replace x_n := x_n.mono (B' := kh6.blks) (hskh6.get _ (by omega))
  replace hz1 := (hz1.sto hskh6 x_m rfl).wide (N' := kh6.next) (by omega)
  replace hz2 := (hz2.sto hskh6 x_m rfl).wide (N' := kh6.next) (by omega)
  replace pr := pr.trans (hskh6.pres (by omega))
  replace x_m : Var kh6.blks kh3.next [.bool false, .slice Al ll.length cl] := y_m
  clear y_m
  have la0 : loadv kh6.blks h.next 0 = some (.bool (decide (a < 0))) := by rw [x_a.load (by simp)]; rfl
  have lm1 : loadv kh6.blks kh3.next 1 = some (.slice Al ll.length cl) := by rw [x_m.load (by simp)]; rfl
  have rn := x_n.zn (G := G) rfl
  have rm := x_m.zn (G := G) rfl
  have rb := x_b.zn (G := G) rfl
  have hend : a / b = z0 ∧ a % b = (nv 10000 lr : Int) → ∀ {Q2 : Prop}, True := fun _ {_} => trivial
  by_cases hneg : a < 0
  ·have da : decide (a < 0) = true := decide_eq_true hneg
   rw [da] at la0
   by_cases hr0 : nv 10000 lr = 0
   ·have dl : decide ((0 : Int) < (ll.length : Int)) = false := decide_eq_false (by omega)
    simp (disch := omega) only [go_sem,reduceIte,nqD,nqL, e2, e3, e4, e5, fld60_0, fld60_1, load4, load34, Nat.add_zero, Nat.zero_add, la0, lm1, len34, dl]
    refine WK_regionV 2 ⟨by kernel_rfl, by kernel_rfl, by kernel_rfl⟩ ?_
    simp (disch := omega) only [go_sem,reduceIte,nqD,nqL, e2, e3, e4, e5, rn, rm]
    refine ⟨lateB_two (b := h2.next) (off := 0) (d := none) (b' := kh3.next) (off' := 0) (d' := none) rfl rfl (by simp only [go_sem,reduceIte,nqD,nqL, e4]) rfl (by kernel_rfl) rfl rfl rfl (by simp only [go_sem,reduceIte,nqD,nqL]) (by omega), ?_⟩
    try simp (disch := omega) only [go_sem,reduceIte,nqD,nqL, e4, e5]
    refine At_storeV (inf := inf60) (v := .agg #[.bool (decide (z0 < 0)), .slice A1 n1' c1]) i60 (by simp only [go_sem,reduceIte,nqD,nqL, e4]) (by simp only [go_sem,reduceIte,nqD,nqL]) x_q (by rw [size60]; rfl) (by rw [size60]; rfl) rfl (by show G ≤ h2.next; omega) fun kh7 hskh7 y_q => ?_
    have nkh7 := hskh7.next
    replace x_a := x_a.mono (B' := kh7.blks) (hskh7.get _ (by omega))
    replace x_b := x_b.mono (B' := kh7.blks) (hskh7.get _ (by omega))
    replace x_r := x_r.mono (B' := kh7.blks) (hskh7.get _ (by omega))
    replace x_n := x_n.mono (B' := kh7.blks) (hskh7.get _ (by omega))
    replace x_m := x_m.mono (B' := kh7.blks) (hskh7.get _ (by omega))
    replace hz1 := (hz1.sto hskh7 x_q rfl).wide (N' := kh7.next) (by omega)
    replace hz2 := (hz2.sto hskh7 x_q rfl).wide (N' := kh7.next) (by omega)
    replace pr := pr.trans (hskh7.pres (by omega))
    replace x_q : Var kh7.blks h2.next [.bool (decide (z0 < 0)), .slice A1 n1' c1] := y_q
    clear y_q
    try simp (disch := omega) only [go_sem,reduceIte,nqD,nqL, e4, e5]
    refine At_storeV (inf := inf60) (v := .agg #[.bool false, .slice Al ll.length cl]) i60 (by simp only [go_sem,reduceIte,nqD,nqL, e5]) (by simp only [go_sem,reduceIte,nqD,nqL]) x_r (by rw [size60]; rfl) (by rw [size60]; rfl) rfl (by show G ≤ h3.next; omega) fun kh8 hskh8 y_r => ?_
    have nkh8 := hskh8.next
    replace x_a := x_a.mono (B' := kh8.blks) (hskh8.get _ (by omega))
    replace x_b := x_b.mono (B' := kh8.blks) (hskh8.get _ (by omega))
    replace x_q := x_q.mono (B' := kh8.blks) (hskh8.get _ (by omega))
    replace x_n := x_n.mono (B' := kh8.blks) (hskh8.get _ (by omega))
    replace x_m := x_m.mono (B' := kh8.blks) (hskh8.get _ (by omega))
    replace hz1 := (hz1.sto hskh8 x_r rfl).wide (N' := kh8.next) (by omega)
    replace hz2 := (hz2.sto hskh8 x_r rfl).wide (N' := kh8.next) (by omega)
    replace pr := pr.trans (hskh8.pres (by omega))
    replace x_r : Var kh8.blks h3.next [.bool false, .slice Al ll.length cl] := y_r
    clear y_r
    have rq := x_q.znE (G := G) rfl
    have rr := x_r.znE (G := G) rfl
    simp (disch := omega) only [go_sem,reduceIte,nqD,nqL, e4, e5, rq, rr]
    have hf := (show a / b = z0 ∧ a % b = (nv 10000 lr : Int) from by
         have := fl_neg0 (q := nv 10000 L) hneg hb0 (by rw [hinv, hr0])
         rw [← hz0, da, hr0]
         exact this)
    rw [← hlf] at hz2
    refine hQ' _ _ ⟨pr, _, _, rfl, ?_, ?_⟩
    ·rw [hf.1]; exact hz1
    ·rw [hf.2]; simpa [hlf] using hz2
   ·have dl : decide ((0 : Int) < (ll.length : Int)) = true := decide_eq_true (by omega)
    simp (disch := omega) only [go_sem,reduceIte,nqD,nqL, e2, e3, e4, e5, fld60_0, fld60_1, load4, load34, Nat.add_zero, Nat.zero_add, la0, lm1, len34, dl]
    refine WK_regionT 5 ⟨by kernel_rfl, by kernel_rfl, by kernel_rfl⟩ ?_
    simp (disch := omega) only [go_sem,reduceIte,nqD,nqL, e2, e3, e4, e5, rn]
    refine CallO_spec (Int_spec (z := 1) (by rw [st_next]; omega) (by omega) (by omega)) (by omega) (fun _ _ _ h => h) fun w3 kh7 pkh7 hw3 => ?_
    have nkh7 := pkh7.next
    replace x_a := x_a.mono (B' := kh7.blks) (pkh7.get _ (by omega))
    replace x_b := x_b.mono (B' := kh7.blks) (pkh7.get _ (by omega))
    replace x_q := x_q.mono (B' := kh7.blks) (pkh7.get _ (by omega))
    replace x_r := x_r.mono (B' := kh7.blks) (pkh7.get _ (by omega))
    replace x_n := x_n.mono (B' := kh7.blks) (pkh7.get _ (by omega))
    replace x_m := x_m.mono (B' := kh7.blks) (pkh7.get _ (by omega))
    replace hz1 := (hz1.pres pkh7 nlr).wide (N' := kh7.next) (by omega)
    replace hz2 := (hz2.pres pkh7 nlr).wide (N' := kh7.next) (by omega)
    replace pr := pr.trans (pkh7.le (by omega))
    simp (disch := omega) only [go_sem,reduceIte,nqD,nqL, e2, e3, e4, e5]
    refine CallO_spec (Sub_spec (N := kh7.next) (by rw [st_next]; omega) (by rw [st_next]; omega) (by rw [st_blks]; exact hz1) (by rw [st_blks]; exact hw3) (by rw [← hz0, sgv_abs]; exact hLS) (sr_small (by decide))) (by omega) (fun _ _ _ h => h) fun w4 kh8 pkh8 hw4 => ?_
    have nkh8 := pkh8.next
    replace x_a := x_a.mono (B' := kh8.blks) (pkh8.get _ (by omega))
    replace x_b := x_b.mono (B' := kh8.blks) (pkh8.get _ (by omega))
    replace x_q := x_q.mono (B' := kh8.blks) (pkh8.get _ (by omega))
    replace x_r := x_r.mono (B' := kh8.blks) (pkh8.get _ (by omega))
    replace x_n := x_n.mono (B' := kh8.blks) (pkh8.get _ (by omega))
    replace x_m := x_m.mono (B' := kh8.blks) (pkh8.get _ (by omega))
    replace hz1 := (hz1.pres pkh8 nlr).wide (N' := kh8.next) (by omega)
    replace hz2 := (hz2.pres pkh8 nlr).wide (N' := kh8.next) (by omega)
    replace hw3 := (hw3.pres pkh8 nlr).wide (N' := kh8.next) (by omega)
    replace pr := pr.trans (pkh8.le (by omega))
    have hukh8 : ZV kh8.blks kh8.next b (.agg #[.bool false, .slice A' m.length c']) := by
     rw [← hsb]; exact (hu0.pres pr hN).wide (by omega)
    have rb := x_b.zn (G := G) rfl
    have rm := x_m.zn (G := G) rfl
    simp (disch := omega) only [go_sem,reduceIte,nqD,nqL, e2, e3, e4, e5, rb, rm]
    refine CallO_spec (Sub_spec (N := kh8.next) (by rw [st_next]; omega) (by rw [st_next]; omega) (by rw [st_blks]; exact hukh8) (by rw [st_blks]; exact hz2) hbs (by rw [Int.natAbs_natCast]; exact hrS)) (by omega) (fun _ _ _ h => h) fun w5 kh9 pkh9 hw5 => ?_
    have nkh9 := pkh9.next
    replace x_a := x_a.mono (B' := kh9.blks) (pkh9.get _ (by omega))
    replace x_b := x_b.mono (B' := kh9.blks) (pkh9.get _ (by omega))
    replace x_q := x_q.mono (B' := kh9.blks) (pkh9.get _ (by omega))
    replace x_r := x_r.mono (B' := kh9.blks) (pkh9.get _ (by omega))
    replace x_n := x_n.mono (B' := kh9.blks) (pkh9.get _ (by omega))
    replace x_m := x_m.mono (B' := kh9.blks) (pkh9.get _ (by omega))
    replace hz1 := (hz1.pres pkh9 nlr).wide (N' := kh9.next) (by omega)
    replace hz2 := (hz2.pres pkh9 nlr).wide (N' := kh9.next) (by omega)
    replace hw3 := (hw3.pres pkh9 nlr).wide (N' := kh9.next) (by omega)
    replace hw4 := (hw4.pres pkh9 nlr).wide (N' := kh9.next) (by omega)
    replace pr := pr.trans (pkh9.le (by omega))
    obtain ⟨A4, n4', c4, rfl⟩ := hw4.shape
    obtain ⟨A5, n5', c5, rfl⟩ := hw5.shape
    try simp (disch := omega) only [go_sem,reduceIte,nqD,nqL, e2, e3, e4, e5]
    refine At_storeV (inf := inf60) (v := .agg #[.bool (decide (z0 - 1 < 0)), .slice A4 n4' c4]) i60 (by simp only [go_sem,reduceIte,nqD,nqL, e4]) (by simp only [go_sem,reduceIte,nqD,nqL]) x_q (by rw [size60]; rfl) (by rw [size60]; rfl) rfl (by show G ≤ h2.next; omega) fun kh10 hskh10 y_q => ?_
    have nkh10 := hskh10.next
    replace x_a := x_a.mono (B' := kh10.blks) (hskh10.get _ (by omega))
    replace x_b := x_b.mono (B' := kh10.blks) (hskh10.get _ (by omega))
    replace x_r := x_r.mono (B' := kh10.blks) (hskh10.get _ (by omega))
    replace x_n := x_n.mono (B' := kh10.blks) (hskh10.get _ (by omega))
    replace x_m := x_m.mono (B' := kh10.blks) (hskh10.get _ (by omega))
    replace hw4 := (hw4.sto hskh10 x_q rfl).wide (N' := kh10.next) (by omega)
    replace hw5 := (hw5.sto hskh10 x_q rfl).wide (N' := kh10.next) (by omega)
    replace pr := pr.trans (hskh10.pres (by omega))
    replace x_q : Var kh10.blks h2.next [.bool (decide (z0 - 1 < 0)), .slice A4 n4' c4] := y_q
    clear y_q
    try simp (disch := omega) only [go_sem,reduceIte,nqD,nqL, e4, e5]
    refine At_storeV (inf := inf60) (v := .agg #[.bool (decide (b - (nv 10000 lr : Int) < 0)), .slice A5 n5' c5]) i60 (by simp only [go_sem,reduceIte,nqD,nqL, e5]) (by simp only [go_sem,reduceIte,nqD,nqL]) x_r (by rw [size60]; rfl) (by rw [size60]; rfl) rfl (by show G ≤ h3.next; omega) fun kh11 hskh11 y_r => ?_
    have nkh11 := hskh11.next
    replace x_a := x_a.mono (B' := kh11.blks) (hskh11.get _ (by omega))
    replace x_b := x_b.mono (B' := kh11.blks) (hskh11.get _ (by omega))
    replace x_q := x_q.mono (B' := kh11.blks) (hskh11.get _ (by omega))
    replace x_n := x_n.mono (B' := kh11.blks) (hskh11.get _ (by omega))
    replace x_m := x_m.mono (B' := kh11.blks) (hskh11.get _ (by omega))
    replace hw4 := (hw4.sto hskh11 x_r rfl).wide (N' := kh11.next) (by omega)
    replace hw5 := (hw5.sto hskh11 x_r rfl).wide (N' := kh11.next) (by omega)
    replace pr := pr.trans (hskh11.pres (by omega))
    replace x_r : Var kh11.blks h3.next [.bool (decide (b - (nv 10000 lr : Int) < 0)), .slice A5 n5' c5] := y_r
    clear y_r
    have rq := x_q.znE (G := G) rfl
    have rr := x_r.znE (G := G) rfl
    simp (disch := omega) only [go_sem,reduceIte,nqD,nqL, e4, e5, rq, rr]
    have hf : a / b = z0 - 1 ∧ a % b = b - (nv 10000 lr : Int) := by
     have := fl_neg (q := nv 10000 L) (r := nv 10000 lr) hneg hb0 hinv hrb (by omega)
     rw [← hz0, da]
     exact this
    refine hQ' _ _ ⟨pr, _, _, rfl, ?_, ?_⟩
    ·rw [hf.1]; exact hw4
    ·rw [hf.2]; exact hw5
  ·have da : decide (a < 0) = false := decide_eq_false hneg
   rw [da] at la0
   simp (disch := omega) only [go_sem,reduceIte,nqD,nqL, e2, e3, e4, e5, fld60_0, fld60_1, load4, load34, Nat.add_zero, Nat.zero_add, la0, lm1, len34]
   refine WK_regionV 2 ⟨by kernel_rfl, by kernel_rfl, by kernel_rfl⟩ ?_
   simp (disch := omega) only [go_sem,reduceIte,nqD,nqL, e2, e3, e4, e5, rn, rm]
   refine ⟨lateB_two (b := h2.next) (off := 0) (d := none) (b' := kh3.next) (off' := 0) (d' := none) rfl rfl (by simp only [go_sem,reduceIte,nqD,nqL, e4]) rfl (by kernel_rfl) rfl rfl rfl (by simp only [go_sem,reduceIte,nqD,nqL]) (by omega), ?_⟩
   try simp (disch := omega) only [go_sem,reduceIte,nqD,nqL, e4, e5]
   refine At_storeV (inf := inf60) (v := .agg #[.bool (decide (z0 < 0)), .slice A1 n1' c1]) i60 (by simp only [go_sem,reduceIte,nqD,nqL, e4]) (by simp only [go_sem,reduceIte,nqD,nqL]) x_q (by rw [size60]; rfl) (by rw [size60]; rfl) rfl (by show G ≤ h2.next; omega) fun kh7 hskh7 y_q => ?_
   have nkh7 := hskh7.next
   replace x_a := x_a.mono (B' := kh7.blks) (hskh7.get _ (by omega))
   replace x_b := x_b.mono (B' := kh7.blks) (hskh7.get _ (by omega))
   replace x_r := x_r.mono (B' := kh7.blks) (hskh7.get _ (by omega))
   replace x_n := x_n.mono (B' := kh7.blks) (hskh7.get _ (by omega))
   replace x_m := x_m.mono (B' := kh7.blks) (hskh7.get _ (by omega))
   replace hz1 := (hz1.sto hskh7 x_q rfl).wide (N' := kh7.next) (by omega)
   replace hz2 := (hz2.sto hskh7 x_q rfl).wide (N' := kh7.next) (by omega)
   replace pr := pr.trans (hskh7.pres (by omega))
   replace x_q : Var kh7.blks h2.next [.bool (decide (z0 < 0)), .slice A1 n1' c1] := y_q
   clear y_q
   try simp (disch := omega) only [go_sem,reduceIte,nqD,nqL, e4, e5]
   refine At_storeV (inf := inf60) (v := .agg #[.bool false, .slice Al ll.length cl]) i60 (by simp only [go_sem,reduceIte,nqD,nqL, e5]) (by simp only [go_sem,reduceIte,nqD,nqL]) x_r (by rw [size60]; rfl) (by rw [size60]; rfl) rfl (by show G ≤ h3.next; omega) fun kh8 hskh8 y_r => ?_
   have nkh8 := hskh8.next
   replace x_a := x_a.mono (B' := kh8.blks) (hskh8.get _ (by omega))
   replace x_b := x_b.mono (B' := kh8.blks) (hskh8.get _ (by omega))
   replace x_q := x_q.mono (B' := kh8.blks) (hskh8.get _ (by omega))
   replace x_n := x_n.mono (B' := kh8.blks) (hskh8.get _ (by omega))
   replace x_m := x_m.mono (B' := kh8.blks) (hskh8.get _ (by omega))
   replace hz1 := (hz1.sto hskh8 x_r rfl).wide (N' := kh8.next) (by omega)
   replace hz2 := (hz2.sto hskh8 x_r rfl).wide (N' := kh8.next) (by omega)
   replace pr := pr.trans (hskh8.pres (by omega))
   replace x_r : Var kh8.blks h3.next [.bool false, .slice Al ll.length cl] := y_r
   clear y_r
   have rq := x_q.znE (G := G) rfl
   have rr := x_r.znE (G := G) rfl
   simp (disch := omega) only [go_sem,reduceIte,nqD,nqL, e4, e5, rq, rr]
   have hf := (show a / b = z0 ∧ a % b = (nv 10000 lr : Int) from by
       have := fl_pos (q := nv 10000 L) (r := nv 10000 lr) (by omega) hb0 hinv hrb
       rw [← hz0, da]
       exact this)
   rw [← hlf] at hz2
   refine hQ' _ _ ⟨pr, _, _, rfl, ?_, ?_⟩
   ·rw [hf.1]; exact hz1
   ·rw [hf.2]; simpa [hlf] using hz2
 | succ i =>
  obtain ⟨x, hx⟩ := limb_at (l := l) (i := i) (by omega)
  have hxl := hl.get hx
  have hs1 := hs.mono (B' := g.blks) fun b _ hb => prg.get b (by omega)
  obtain ⟨ba, offa, rfl, _, _, la⟩ := nats_at hs1 hx
  have j1 : ((i + 1 : Nat) : Int) - 1 = (i : Int) := by omega
  have d0 : decide ((0 : Int) ≤ (i : Int)) = true := decide_eq_true (by omega)
  rw [j1] at e8
  simp (disch := omega) only [go_sem,reduceIte,nqD,nqL, e2, e3, e4, e5, e6, e7, e8, d0, fld60_1, load34, Nat.zero_add, l11, idxA34, Int.toNat_natCast, Nat.mul_one, load3, la]
  refine At_lit (vs := [(0, .int .i64 (x : Int))]) (cs := #[.int .i64 (x : Int)]) u34 i3 zero3 (by rw [size3]; rfl) (by simp only [go_sem,reduceIte,nqD,nqL]) (by rw [size3]; rfl) (by omega) fun g1 hg1 => ?_
  rw [size3] at hg1
  have m1 := hg1.next
  have hb1 := hg1.slv (n := 1) (c := 1) rfl
  have q1 : Pres g.next g g1 := hg1.pres nlr
  have hr1 := hr.mono (B' := g1.blks) fun b _ hb => q1.get b (by omega)
  simp (disch := omega) only [go_sem,reduceIte,nqD,nqL, e7]
  refine At_app2 (lo := g.next) (hi := g1.next) (sl := 1) (A := some ⟨g.next, 0, none⟩) (m := lr.length) (L := [Value.int .i64 (x : Int)]) (M := nats lr) (v := .slice Ar lr.length cr) u34 u34 i3 zero3 (by rw [size3, bytes3]; rfl) (by simp only [go_sem,reduceIte,nqD,nqL]) (by rw [size3]; exact hb1) nlr (by rw [En_G]; omega) (by omega) (by simp only [go_sem,reduceIte,nqD,nqL, e7]) (by rw [size3]; exact hr1) (by omega) nats_one (by omega) fun A2 g2 q2 hs2 => ?_
  rw [size3, natsc] at hs2
  have m2 := q2.next
  have l1 : 1 + lr.length = (x :: lr).length := by simp; omega
  rw [l1] at hs2
  rw [l1]
  simp (disch := omega) only [go_sem,reduceIte,nqD,nqL, build60t]
  refine CallO_f (lean_fresh (G := G) (N := g2.next) (s := false) (by omega) nlr (Lim.cons hxl hlr) (hs2.wide (Nat.zero_le _) nlr) (by simp; omega)) (by omega) fun w3 g3 q3 hw3 => ?_
  have m3 := q3.next
  rw [Bool.false_and] at hw3
  obtain ⟨lR, AR, cR, rfl, hsR, hlR, hnR, hvR⟩ := hw3
  simp (disch := omega) only [go_sem,reduceIte,nqD,nqL, fldv60_1]
  have hR0 : nv 10000 lR = x + 10000 * nv 10000 lr := by rw [hvR, nv_cons]
  have hRb : nv 10000 lR < b.natAbs * 10000 := by rw [hR0]; exact dig_top hrb hxl
  have hRS : Sr (nv 10000 lR) := hb.le (by omega)
  have hRlen := hRS.len hnR
  have q13 : Pres g.next g g3 := q1.trans ((q2.le (by omega)).trans (q3.le (by omega)))
  have pg3 : Pres h4.next h4 g3 := pg.trans (q13.le (by omega))
  have hM : ∀ {hh : H}, Pres g3.next g3 hh → LZ hh.blks 0 N b.natAbs (.slice A' m.length c') := fun {hh} p => by
   have p' : Pres h.next h hh := pr4.trans ((pg3.le (by omega)).trans (p.le (by omega)))
   exact ⟨m, A', c', rfl, hs'.mono fun b _ hb => p'.get b (by omega), hl', hn', em⟩
  have hq3 := hq.mono (B' := g3.blks) fun b _ hb => q13.get b (by omega)
  clear l10 l11 l21
  refine WK_loopN (fun j2 β g4 => ∃ lo hi : Nat, lo < hi ∧ hi ≤ 10000 ∧ hi ≤ lo + j2 + 1 ∧ β.get 2 = some (.pointer (some ⟨h.next, 0, none⟩)) ∧ β.get 3 = some (.pointer (some ⟨h1.next, 0, none⟩)) ∧ β.get 4 = some (.pointer (some ⟨h2.next, 0, none⟩)) ∧ β.get 5 = some (.pointer (some ⟨h3.next, 0, none⟩)) ∧
    β.get 6 = some (.slice (some ⟨h4.next, 0, none⟩) l.length l.length) ∧ β.get 7 = some (.slice AR lR.length cR) ∧ β.get 8 = some (.int .i64 (i : Int)) ∧ β.get 9 = some (.int .i64 (lo : Int)) ∧ β.get 10 = some (.int .i64 (hi : Int)) ∧ b.natAbs * lo ≤ nv 10000 lR ∧ nv 10000 lR < b.natAbs * hi ∧ Pres g3.next g3 g4) 9999
   ⟨0, 10000, by omega, by omega, by omega, by simp only [go_sem,reduceIte,nqD,nqL, e2], by simp only [go_sem,reduceIte,nqD,nqL, e3], by simp only [go_sem,reduceIte,nqD,nqL, e4], by simp only [go_sem,reduceIte,nqD,nqL, e5], by simp only [go_sem,reduceIte,nqD,nqL, e6], by simp only [go_sem,reduceIte,nqD,nqL], by simp only [go_sem,reduceIte,nqD,nqL, e8], by (simp only [go_sem,reduceIte,nqD,nqL]) <;> rfl, by (simp only [go_sem,reduceIte,nqD,nqL]) <;> rfl, by omega, hRb, Pres.refl _ _⟩ (by omega) ?_
  clear e2 e3 e4 e5 e6 e7 e8
  rintro J2 j2 β g4 ⟨lo, hi, hlh, hh1, hhj, e2, e3, e4, e5, e6, e7, e8, e9, e10, hlo, hhi, p34⟩ hJ2
  have m4 := p34.next
  obtain ⟨l10, l11, l21⟩ := LD (pg3.trans (p34.le (by omega)))
  by_cases hgo : lo + 1 < hi
  ·have dg : decide ((1 : Int) < (hi : Int) - (lo : Int)) = true := decide_eq_true (by omega)
   obtain ⟨hm1, hm2⟩ := dig_mid hgo
   have w1 : IntKind.i64.wrap ((lo : Int) + (hi : Int)) = ((lo + hi : Nat) : Int) := wrap_nat (by omega) (by omega)
   have hdiv : ((lo + hi : Nat) : Int).tdiv 2 = (((lo + hi) / 2 : Nat) : Int) := by
    rw [Int.tdiv_eq_ediv_of_nonneg (by omega)]; rfl
   have w2 : IntKind.i64.wrap (((lo + hi) / 2 : Nat) : Int) = (((lo + hi) / 2 : Nat) : Int) := wrap_nat rfl (by omega)
   generalize hmid : (lo + hi) / 2 = mid at *
   simp (disch := omega) only [go_sem,reduceIte,nqD,nqL, e2, e3, e4, e5, e6, e7, e8, e9, e10, dg, wrap_i64, w1, hdiv, w2, fld60_1, load34, Nat.zero_add, l21]
   refine CallO_f (timesR_spec (N := N) (by omega) (by omega) (hM p34) hbs (by omega)) (by omega) fun w5 g5 p5 hw5 => ?_
   have m5 := p5.next
   obtain ⟨lt, At1, ct, rfl, hst, hlt, hnt, hvt⟩ := hw5
   have hltS : Sr (nv 10000 lt) := hb.le (by rw [hvt]; exact Nat.mul_le_mul_left _ (by omega))
   have hltn := hltS.len hnt
   have hs5 := (hsR.mono (B' := g4.blks) fun b _ hb => p34.get b (by omega)).mono (B' := g5.blks) fun b _ hb => p5.get b (by omega)
   simp (disch := omega) only [go_sem,reduceIte,nqD,nqL, e7]
   refine CallO_f (sizes_spec (N := g5.next) hlt hlR hnt hnR (hst.wide (Nat.zero_le _) nlr) (hs5.wide (Nat.zero_le _) (by omega)) (by omega) (by omega)) (by omega) fun w6 g6 p6 hw6 => ?_
   obtain ⟨rfl, rfl⟩ := hw6
   have p45 := p34.trans (p5.le (by omega))
   by_cases hle : nv 10000 lt ≤ nv 10000 lR
   ·have dc : decide (cmpI (nv 10000 lt : Int) (nv 10000 lR : Int) ≤ 0) = true := decide_eq_true (by unfold cmpI; split <;> (try split) <;> omega)
    simp (disch := omega) only [go_sem,reduceIte,nqD,nqL, e2, e3, e4, e5, e6, e7, e8, e9, e10, dc]
    refine hJ2 (j2 - 1) _ _ (by omega) ⟨mid, hi, hm2, hh1, by omega, by simp only [go_sem,reduceIte,nqD,nqL, e2], by simp only [go_sem,reduceIte,nqD,nqL, e3], by simp only [go_sem,reduceIte,nqD,nqL, e4], by simp only [go_sem,reduceIte,nqD,nqL, e5], by simp only [go_sem,reduceIte,nqD,nqL, e6], by simp only [go_sem,reduceIte,nqD,nqL, e7], by simp only [go_sem,reduceIte,nqD,nqL, e8], by simp only [go_sem,reduceIte,nqD,nqL], by simp only [go_sem,reduceIte,nqD,nqL, e10], by rw [← hvt]; exact hle, hhi, p45⟩
   ·have dc : decide (cmpI (nv 10000 lt : Int) (nv 10000 lR : Int) ≤ 0) = false := decide_eq_false (by unfold cmpI; split <;> (try split) <;> omega)
    simp (disch := omega) only [go_sem,reduceIte,nqD,nqL, e2, e3, e4, e5, e6, e7, e8, e9, e10, dc]
    refine hJ2 (j2 - 1) _ _ (by omega) ⟨lo, mid, hm1, by omega, by omega, by simp only [go_sem,reduceIte,nqD,nqL, e2], by simp only [go_sem,reduceIte,nqD,nqL, e3], by simp only [go_sem,reduceIte,nqD,nqL, e4], by simp only [go_sem,reduceIte,nqD,nqL, e5], by simp only [go_sem,reduceIte,nqD,nqL, e6], by simp only [go_sem,reduceIte,nqD,nqL, e7], by simp only [go_sem,reduceIte,nqD,nqL, e8], by simp only [go_sem,reduceIte,nqD,nqL, e9], by simp only [go_sem,reduceIte,nqD,nqL], hlo, by rw [← hvt]; omega, p45⟩
  ·have dg : decide ((1 : Int) < (hi : Int) - (lo : Int)) = false := decide_eq_false (by omega)
   have hlq := dig_end hlo hhi (by omega) hbn
   have hq4 := hq3.mono (B' := g4.blks) fun b _ hb => p34.get b (by omega)
   simp (disch := omega) only [go_sem,reduceIte,nqD,nqL, e2, e3, e4, e5, e6, e7, e8, e9, e10, dg, wrap_i64, idxA34, Int.toNat_natCast, Nat.mul_one]
   refine At_natB (b := h4.next) (off := 0) (i := i) (x := lo) (by (simp only [go_sem,reduceIte,nqD,nqL]) <;> rw [Nat.zero_add]) (by simp only [go_sem,reduceIte,nqD,nqL, e9]) hq4 (by omega) (by omega) fun g5 hs5 hq5 => ?_
   have m5 := hs5.next
   have p5 : Pres h4.next g4 g5 := hs5.pres nlr
   have pg5 : Pres h4.next h4 g5 := (pg3.trans (p34.le (by omega))).trans p5
   clear l10 l11 l21
   obtain ⟨l10, l11, l21⟩ := LD pg5
   have hM5 := (hM p34).mono (B' := g5.blks) fun b _ hb => p5.get b (by omega)
   simp (disch := omega) only [go_sem,reduceIte,nqD,nqL, e2, e3, e4, e5, e6, e7, e8, e9, e10, fld60_1, load34, Nat.zero_add, l21]
   refine CallO_f (timesR_spec (N := N) (by omega) (by omega) hM5 hbs (by omega)) (by omega) fun w6 g6 p6 hw6 => ?_
   have m6 := p6.next
   obtain ⟨lt, At1, ct, rfl, hst, hlt, hnt, hvt⟩ := hw6
   have hsR6 := ((hsR.mono (B' := g4.blks) fun b _ hb => p34.get b (by omega)).mono (B' := g5.blks) fun b hb _ => hs5.get b (by omega)).mono (B' := g6.blks) fun b _ hb => p6.get b (by omega)
   simp (disch := omega) only [go_sem,reduceIte,nqD,nqL, e7]
   refine CallO_f (less_spec (N := g6.next) (by omega) nlr hlR hlt hnt (by rw [hvt]; exact hlo) (hsR6.wide (Nat.zero_le _) (by omega)) (hst.wide (Nat.zero_le _) nlr) hRlen) (by omega) fun w7 g7 p7 hw7 => ?_
   have m7 := p7.next
   obtain ⟨l7, A7, c7, rfl, hs7, hl7, hv7, hn7⟩ := hw7
   simp (disch := omega) only [go_sem,reduceIte,nqD,nqL, build60t]
   refine CallO_f (lean_fresh (N := g7.next) (s := false) (by omega) nlr hl7 hs7 (by omega)) (by omega) fun w8 g8 p8 hw8 => ?_
   have m8 := p8.next
   rw [Bool.false_and] at hw8
   obtain ⟨l8, A8, c8, rfl, hs8, hl8, hn8, hv8⟩ := hw8
   have e8r : nv 10000 l8 = nv 10000 lR % b.natAbs := by rw [hv8, hv7, hvt, hlq, dig_rest]
   simp (disch := omega) only [go_sem,reduceIte,nqD,nqL, e2, e3, e4, e5, e6, e8, fldv60_1, wrap_i64]
   have p58 : Pres g5.next g5 g8 := p6.trans ((p7.le (by omega)).trans (p8.le (by omega)))
   refine hJ i _ _ (by omega) ⟨L.set i lo, l8, A8, c8, by omega, by simp only [go_sem,reduceIte,nqD,nqL, e2], by simp only [go_sem,reduceIte,nqD,nqL, e3], by simp only [go_sem,reduceIte,nqD,nqL, e4], by simp only [go_sem,reduceIte,nqD,nqL, e5], by simp only [go_sem,reduceIte,nqD,nqL, e6], by simp only [go_sem,reduceIte,nqD,nqL], by simp only [go_sem,reduceIte,nqD,nqL], hq5.mono fun b _ hb => p58.get b (by omega), by rw [List.length_set, hL], hlL.set (by omega), hs8.wide (by omega) nlr, hl8, hn8, ?_, ?_, pg5.trans (p58.le (by omega)), by omega⟩
   ·rw [nv_drop hx, nv_set_drop (by omega), e8r, hlq, hR0]
    exact div_fig hinv
   ·rw [e8r]; exact Nat.mod_lt _ hbn
end
end Go.Proofs.YthankillfhmfkaaGreatDoor.Ev
namespace Go.Proofs.YthankillfhmfkaaGreatDoor.Ev
open Go Go.Proofs Go.Lm
open Nat renaming reduceEqDiff → nqD, reduceLT → nqL
noncomputable section
def Sd (x : Nat) : Prop := ∃ k, k ≤ 900000 ∧ x < 10000 ^ k
theorem Sd.sr {x : Nat} (h : Sd x) : Sr x := by
 obtain ⟨k, h1, h2⟩ := h
 exact ⟨k, by omega, h2⟩
theorem Sd.le {x y : Nat} (h : Sd x) (hy : y ≤ x) : Sd y := by
 obtain ⟨k, h1, h2⟩ := h
 exact ⟨k, h1, Nat.lt_of_le_of_lt hy h2⟩
theorem Sd.ten {x : Nat} (h : Sd x) : Sr (x * 10000) := by
 obtain ⟨k, h1, h2⟩ := h
 refine ⟨k + 1, by omega, ?_⟩
 rw [Nat.pow_succ]
 exact Nat.mul_lt_mul_of_pos_right h2 (by omega)
theorem Sd.fuel {x y : Nat} (h : Sd x) (h' : Sd y) : ∃ e, e ≤ 25200000 ∧ x * y < 2 ^ e := by
 obtain ⟨k, h1, h2⟩ := h
 obtain ⟨m, h3, h4⟩ := h'
 exact ⟨14 * k + 14 * m, by omega, euc_fuel h2 h4⟩
theorem ZV.len0 {B : Tr Blk} {N : Nat} {x : Nat} {s : Bool} {A : Option Addr} {n c : Nat} (a : ZV B N (x : Int) (.agg #[.bool s, .slice A n c])) : (n = 0 ↔ x = 0) := by
 obtain ⟨l, A', c', e, hs, hl, hn, el⟩ := a
 injection e with e
 have e2 := congrArg Array.toList e
 simp only [List.cons.injEq, Value.slice.injEq] at e2
 obtain ⟨_, ⟨_, e3, _⟩, _⟩ := e2
 rw [e3, List.length_eq_zero_iff, ← nrm_zero (B := 10000) (by omega) hn, el]
 omega
def Eu (a b j : Nat) : Prop := (b ≤ a → a * b < 2 ^ j) ∧ (a < b → ∃ i, j = i + 1 ∧ a * b < 2 ^ i)
theorem Eu.start {a b e : Nat} (h : a * b < 2 ^ e) : Eu a b (e + 1) := by
 refine ⟨fun _ => ?_, fun _ => ⟨e, rfl, h⟩⟩
 rw [Nat.pow_succ]; omega
theorem Eu.pos {a b j : Nat} (h : Eu a b j) (hb : 0 < b) : 0 < j := by
 rcases Nat.lt_or_ge a b with h1 | h1
 ·obtain ⟨i, e, _⟩ := h.2 h1; omega
 ·exact euc_pos hb h1 (h.1 h1)
theorem Eu.next {a b j : Nat} (h : Eu a b j) (hb : 0 < b) : Eu b (a % b) (j - 1) := by
 have hm := Nat.mod_lt a hb
 refine ⟨fun _ => ?_, fun h1 => by omega⟩
 rcases Nat.lt_or_ge a b with h1 | h1
 ·obtain ⟨i, e, h2⟩ := h.2 h1
  rw [Nat.mod_eq_of_lt h1, Nat.mul_comm, e, Nat.add_sub_cancel]; exact h2
 ·have hp := h.pos hb
  obtain ⟨i, rfl⟩ : ∃ i, j = i + 1 := ⟨j - 1, by omega⟩
  rw [Nat.add_sub_cancel]
  exact euc_step hb h1 (h.1 h1)
set_option maxHeartbeats 8000000 in
set_option maxRecDepth 100000 in
theorem Gcd_spec {G N : Nat} {a b : Int} {v u : Value} {h : H} (hG : G ≤ h.next) (hN : N ≤ h.next) (hv : ZV h.blks N a v) (hu : ZV h.blks N b u) (ha : Sd a.natAbs) (hb : Sd b.natAbs) :
  Spec Tryz.prog (En G) 108 [v, u] h fun w h' => ZV h'.blks h'.next (Nat.gcd a.natAbs b.natAbs : Int) w := by
 obtain ⟨A, n, c, rfl⟩ := hv.shape
 obtain ⟨A', n', c', rfl⟩ := hu.shape
 refine CallsE_enter (En_known (by decide)) (En_f.trans Tryz.func108) rfl ⟨Nat.le_of_ble_eq_true rfl, by decide⟩ fun Q' hQ' => ?_
 simp (disch := omega) only [Tryz.f108, go_sem,reduceIte,nqD,nqL]
 replace hv := hv.wide hN
 replace hu := hu.wide hN
 refine At_box (v := .agg #[.bool (decide (a < 0)), .slice A n c]) (by simp only [go_sem,reduceIte,nqD,nqL]) (by omega) fun h1 hnh1 => ?_
 have nh1 := hnh1.next
 have ph1 : Pres h.next h h1 := hnh1.pres nlr
 have x_a : Var h1.blks h.next [.bool (decide (a < 0)), .slice A n c] := hnh1.var
 replace hv := (hv.pres ph1 nlr).wide (N' := h1.next) (by omega)
 replace hu := (hu.pres ph1 nlr).wide (N' := h1.next) (by omega)
 have pr : Pres h.next h h1 := ph1
 try simp (disch := omega) only [go_sem,reduceIte,nqD,nqL]
 refine At_box (v := .agg #[.bool (decide (b < 0)), .slice A' n' c']) (by simp only [go_sem,reduceIte,nqD,nqL]) (by omega) fun h2 hnh2 => ?_
 have nh2 := hnh2.next
 have ph2 : Pres h1.next h1 h2 := hnh2.pres nlr
 have x_b : Var h2.blks h1.next [.bool (decide (b < 0)), .slice A' n' c'] := hnh2.var
 replace x_a := x_a.mono (B' := h2.blks) (ph2.get _ (by omega))
 replace hv := (hv.pres ph2 nlr).wide (N' := h2.next) (by omega)
 replace hu := (hu.pres ph2 nlr).wide (N' := h2.next) (by omega)
 replace pr := pr.trans (ph2.le (by omega))
 try simp (disch := omega) only [go_sem,reduceIte,nqD,nqL]
 refine At_alloc i60 zero60 rfl (by omega) fun h3 hnh3 => ?_
 have nh3 := hnh3.next
 have ph3 : Pres h2.next h2 h3 := hnh3.pres nlr
 have x_r : Var h3.blks h2.next [.bool false, .slice none 0 0] := hnh3.var
 replace x_a := x_a.mono (B' := h3.blks) (ph3.get _ (by omega))
 replace x_b := x_b.mono (B' := h3.blks) (ph3.get _ (by omega))
 replace hv := (hv.pres ph3 nlr).wide (N' := h3.next) (by omega)
 replace hu := (hu.pres ph3 nlr).wide (N' := h3.next) (by omega)
 replace pr := pr.trans (ph3.le (by omega))
 try simp (disch := omega) only [go_sem,reduceIte,nqD,nqL]
 have ra := x_a.zn (G := G) rfl
 have rb := x_b.zn (G := G) rfl
 try simp (disch := omega) only [go_sem,reduceIte,nqD,nqL]
 refine WK_regionT 3 ⟨by kernel_rfl, by kernel_rfl, by kernel_rfl⟩ ?_
 simp (disch := omega) only [go_sem,reduceIte,nqD,nqL, ra, rb]
 refine CallO_spec (Abs_spec (N := h3.next) (by rw [st_next]; omega) (by rw [st_next]; omega) (by rw [st_blks]; exact hv)) (by omega) (fun _ _ _ h => h) fun w1 h4 ph4 hw1 => ?_
 have nh4 := ph4.next
 replace x_a := x_a.mono (B' := h4.blks) (ph4.get _ (by omega))
 replace x_b := x_b.mono (B' := h4.blks) (ph4.get _ (by omega))
 replace x_r := x_r.mono (B' := h4.blks) (ph4.get _ (by omega))
 replace hv := (hv.pres ph4 nlr).wide (N' := h4.next) (by omega)
 replace hu := (hu.pres ph4 nlr).wide (N' := h4.next) (by omega)
 replace pr := pr.trans (ph4.le (by omega))
 have rb := x_b.zn (G := G) rfl
 simp (disch := omega) only [go_sem,reduceIte,nqD,nqL, rb]
 refine CallO_spec (Abs_spec (N := h4.next) (by rw [st_next]; omega) (by rw [st_next]; omega) (by rw [st_blks]; exact hu)) (by omega) (fun _ _ _ h => h) fun w2 h5 ph5 hw2 => ?_
 have nh5 := ph5.next
 replace x_a := x_a.mono (B' := h5.blks) (ph5.get _ (by omega))
 replace x_b := x_b.mono (B' := h5.blks) (ph5.get _ (by omega))
 replace x_r := x_r.mono (B' := h5.blks) (ph5.get _ (by omega))
 replace hv := (hv.pres ph5 nlr).wide (N' := h5.next) (by omega)
 replace hu := (hu.pres ph5 nlr).wide (N' := h5.next) (by omega)
 replace hw1 := (hw1.pres ph5 nlr).wide (N' := h5.next) (by omega)
 replace pr := pr.trans (ph5.le (by omega))
 clear hv hu
 obtain ⟨A1, k1, c1, rfl⟩ := hw1.shape
 obtain ⟨A2, k2, c2, rfl⟩ := hw2.shape
 try simp (disch := omega) only [go_sem,reduceIte,nqD,nqL]
 refine At_storeV (inf := inf60) (v := .agg #[.bool (decide ((a.natAbs : Int) < 0)), .slice A1 k1 c1]) i60 (by simp only [go_sem,reduceIte,nqD,nqL]) (by simp only [go_sem,reduceIte,nqD,nqL]) x_a (by rw [size60]; rfl) (by rw [size60]; rfl) rfl (by show G ≤ h.next; omega) fun h6 hsh6 y_a => ?_
 have nh6 := hsh6.next
 replace x_b := x_b.mono (B' := h6.blks) (hsh6.get _ (by omega))
 replace x_r := x_r.mono (B' := h6.blks) (hsh6.get _ (by omega))
 replace hw1 := (hw1.sto hsh6 x_a rfl).wide (N' := h6.next) (by omega)
 replace hw2 := (hw2.sto hsh6 x_a rfl).wide (N' := h6.next) (by omega)
 replace pr := pr.trans (hsh6.pres (by omega))
 replace x_a : Var h6.blks h.next [.bool (decide ((a.natAbs : Int) < 0)), .slice A1 k1 c1] := y_a
 clear y_a
 try simp (disch := omega) only [go_sem,reduceIte,nqD,nqL]
 refine At_storeV (inf := inf60) (v := .agg #[.bool (decide ((b.natAbs : Int) < 0)), .slice A2 k2 c2]) i60 (by simp only [go_sem,reduceIte,nqD,nqL]) (by simp only [go_sem,reduceIte,nqD,nqL]) x_b (by rw [size60]; rfl) (by rw [size60]; rfl) rfl (by show G ≤ h1.next; omega) fun h7 hsh7 y_b => ?_
 have nh7 := hsh7.next
 replace x_a := x_a.mono (B' := h7.blks) (hsh7.get _ (by omega))
 replace x_r := x_r.mono (B' := h7.blks) (hsh7.get _ (by omega))
 replace hw1 := (hw1.sto hsh7 x_b rfl).wide (N' := h7.next) (by omega)
 replace hw2 := (hw2.sto hsh7 x_b rfl).wide (N' := h7.next) (by omega)
 replace pr := pr.trans (hsh7.pres (by omega))
 replace x_b : Var h7.blks h1.next [.bool (decide ((b.natAbs : Int) < 0)), .slice A2 k2 c2] := y_b
 clear y_b
 try simp (disch := omega) only [go_sem,reduceIte,nqD,nqL]
 obtain ⟨e, he, hfuel⟩ := ha.fuel hb
 try simp (disch := omega) only [go_sem,reduceIte,nqD,nqL]
 refine WK_loopN (fun j α g => ∃ (x y : Nat) (B1 B2 : Option Addr) (m1 m2 d1 d2 : Nat), Eu x y j ∧ Sd x ∧ Sd y ∧ Nat.gcd x y = Nat.gcd a.natAbs b.natAbs ∧ α.get 2 = some (.pointer (some ⟨h.next, 0, none⟩)) ∧ α.get 3 = some (.pointer (some ⟨h1.next, 0, none⟩)) ∧ α.get 4 = some (.pointer (some ⟨h2.next, 0, none⟩)) ∧
   Var g.blks h.next [.bool (decide ((x : Int) < 0)), .slice B1 m1 d1] ∧ Var g.blks h1.next [.bool (decide ((y : Int) < 0)), .slice B2 m2 d2] ∧ Var g.blks h2.next [.bool false, .slice none 0 0] ∧ ZV g.blks g.next (x : Int) (.agg #[.bool (decide ((x : Int) < 0)), .slice B1 m1 d1]) ∧ ZV g.blks g.next (y : Int) (.agg #[.bool (decide ((y : Int) < 0)), .slice B2 m2 d2]) ∧ Pres h.next h g ∧ h7.next ≤ g.next) (e + 1)
  ⟨a.natAbs, b.natAbs, A1, A2, k1, k2, c1, c2, Eu.start hfuel, ha, hb, rfl, by simp only [go_sem,reduceIte,nqD,nqL], by simp only [go_sem,reduceIte,nqD,nqL], by simp only [go_sem,reduceIte,nqD,nqL], x_a, x_b, x_r, hw1, hw2, pr, Nat.le_refl _⟩ (by omega) ?_
 clear x_a x_b x_r hw1 hw2 pr hfuel
 rintro J j α g ⟨x, y, B1, B2, m1, m2, d1, d2, hE, sx, sy, hg, e2, e3, e4, x_a, x_b, x_r, hx, hy, pr, hgn⟩ hJ
 have hy0 := hy.len0
 have lb : loadv g.blks h1.next 1 = some (.slice B2 m2 d2) := by rw [x_b.load (by simp)]; rfl
 by_cases h0 : y = 0
 ·have dl : decide ((0 : Int) < (m2 : Int)) = false := decide_eq_false (by omega)
  have ra := x_a.zn (G := G) rfl
  simp (disch := omega) only [go_sem,reduceIte,nqD,nqL, e2, e3, e4, fld60_1, load34, Nat.zero_add, lb, len34, dl, ra]
  refine At_storeV (inf := inf60) (v := .agg #[.bool (decide ((x : Int) < 0)), .slice B1 m1 d1]) i60 (by simp only [go_sem,reduceIte,nqD,nqL, e4]) (by simp only [go_sem,reduceIte,nqD,nqL]) x_r (by rw [size60]; rfl) (by rw [size60]; rfl) rfl (by show G ≤ h2.next; omega) fun g2 hs2 y2 => ?_
  have m3 := hs2.next
  have r2 := y2.znE (G := G) rfl
  simp (disch := omega) only [go_sem,reduceIte,nqD,nqL, e4, r2]
  refine hQ' _ _ ⟨pr.trans (hs2.pres (by omega)), ?_⟩
  rw [← hg, h0, Nat.gcd_zero_right]
  exact (hx.sto hs2 x_r rfl).wide (by omega)
 ·have dl : decide ((0 : Int) < (m2 : Int)) = true := decide_eq_true (by omega)
  have ra := x_a.zn (G := G) rfl
  have rb := x_b.zn (G := G) rfl
  simp (disch := omega) only [go_sem,reduceIte,nqD,nqL, e2, e3, e4, fld60_1, load34, Nat.zero_add, lb, len34, dl, ra, rb]
  refine CallO_f (DivMod_spec (N := g.next) (by omega) nlr hx hy (by rw [Int.natAbs_natCast]; exact sx.sr) (by rw [Int.natAbs_natCast]; exact sy.ten) (by omega)) (by omega) fun w5 gh1 pgh1 hw5 => ?_
  have ngh1 := pgh1.next
  replace x_a := x_a.mono (B' := gh1.blks) (pgh1.get _ (by omega))
  replace x_b := x_b.mono (B' := gh1.blks) (pgh1.get _ (by omega))
  replace x_r := x_r.mono (B' := gh1.blks) (pgh1.get _ (by omega))
  replace hy := (hy.pres pgh1 nlr).wide (N' := gh1.next) (by omega)
  replace pr := pr.trans (pgh1.le (by omega))
  obtain ⟨wq, wr, rfl, hq, hr⟩ := hw5
  obtain ⟨A5, k5, c5, rfl⟩ := hq.shape
  obtain ⟨A6, k6, c6, rfl⟩ := hr.shape
  have em : (x : Int) % (y : Int) = ((x % y : Nat) : Int) := rfl
  rw [em] at hr
  simp (disch := omega) only [go_sem,reduceIte,nqD,nqL, em]
  refine At_alloc i60 zero60 rfl (by omega) fun gh2 hngh2 => ?_
  have ngh2 := hngh2.next
  have pgh2 : Pres gh1.next gh1 gh2 := hngh2.pres nlr
  have x_s : Var gh2.blks gh1.next [.bool false, .slice none 0 0] := hngh2.var
  replace x_a := x_a.mono (B' := gh2.blks) (pgh2.get _ (by omega))
  replace x_b := x_b.mono (B' := gh2.blks) (pgh2.get _ (by omega))
  replace x_r := x_r.mono (B' := gh2.blks) (pgh2.get _ (by omega))
  replace hy := (hy.pres pgh2 nlr).wide (N' := gh2.next) (by omega)
  replace hr := (hr.pres pgh2 nlr).wide (N' := gh2.next) (by omega)
  replace pr := pr.trans (pgh2.le (by omega))
  try simp (disch := omega) only [go_sem,reduceIte,nqD,nqL]
  refine At_alloc i60 zero60 rfl (by omega) fun gh3 hngh3 => ?_
  have ngh3 := hngh3.next
  have pgh3 : Pres gh2.next gh2 gh3 := hngh3.pres nlr
  have x_t : Var gh3.blks gh2.next [.bool false, .slice none 0 0] := hngh3.var
  replace x_a := x_a.mono (B' := gh3.blks) (pgh3.get _ (by omega))
  replace x_b := x_b.mono (B' := gh3.blks) (pgh3.get _ (by omega))
  replace x_r := x_r.mono (B' := gh3.blks) (pgh3.get _ (by omega))
  replace x_s := x_s.mono (B' := gh3.blks) (pgh3.get _ (by omega))
  replace hy := (hy.pres pgh3 nlr).wide (N' := gh3.next) (by omega)
  replace hr := (hr.pres pgh3 nlr).wide (N' := gh3.next) (by omega)
  replace pr := pr.trans (pgh3.le (by omega))
  try simp (disch := omega) only [go_sem,reduceIte,nqD,nqL]
  refine At_storeV (inf := inf60) (v := .agg #[.bool (decide ((x : Int) / (y : Int) < 0)), .slice A5 k5 c5]) i60 (by simp only [go_sem,reduceIte,nqD,nqL]) (by simp only [go_sem,reduceIte,nqD,nqL]) x_s (by rw [size60]; rfl) (by rw [size60]; rfl) rfl (by show G ≤ gh1.next; omega) fun gh4 hsgh4 y_s => ?_
  have ngh4 := hsgh4.next
  replace x_a := x_a.mono (B' := gh4.blks) (hsgh4.get _ (by omega))
  replace x_b := x_b.mono (B' := gh4.blks) (hsgh4.get _ (by omega))
  replace x_r := x_r.mono (B' := gh4.blks) (hsgh4.get _ (by omega))
  replace x_t := x_t.mono (B' := gh4.blks) (hsgh4.get _ (by omega))
  replace hy := (hy.sto hsgh4 x_s rfl).wide (N' := gh4.next) (by omega)
  replace hr := (hr.sto hsgh4 x_s rfl).wide (N' := gh4.next) (by omega)
  replace pr := pr.trans (hsgh4.pres (by omega))
  replace x_s : Var gh4.blks gh1.next [.bool (decide ((x : Int) / (y : Int) < 0)), .slice A5 k5 c5] := y_s
  clear y_s
  try simp (disch := omega) only [go_sem,reduceIte,nqD,nqL]
  refine At_storeV (inf := inf60) (v := .agg #[.bool (decide (((x % y : Nat) : Int) < 0)), .slice A6 k6 c6]) i60 (by simp only [go_sem,reduceIte,nqD,nqL]) (by simp only [go_sem,reduceIte,nqD,nqL]) x_t (by rw [size60]; rfl) (by rw [size60]; rfl) rfl (by show G ≤ gh2.next; omega) fun gh5 hsgh5 y_t => ?_
  have ngh5 := hsgh5.next
  replace x_a := x_a.mono (B' := gh5.blks) (hsgh5.get _ (by omega))
  replace x_b := x_b.mono (B' := gh5.blks) (hsgh5.get _ (by omega))
  replace x_r := x_r.mono (B' := gh5.blks) (hsgh5.get _ (by omega))
  replace x_s := x_s.mono (B' := gh5.blks) (hsgh5.get _ (by omega))
  replace hy := (hy.sto hsgh5 x_t rfl).wide (N' := gh5.next) (by omega)
  replace hr := (hr.sto hsgh5 x_t rfl).wide (N' := gh5.next) (by omega)
  replace pr := pr.trans (hsgh5.pres (by omega))
  replace x_t : Var gh5.blks gh2.next [.bool (decide (((x % y : Nat) : Int) < 0)), .slice A6 k6 c6] := y_t
  clear y_t
  try simp (disch := omega) only [go_sem,reduceIte,nqD,nqL, e2, e3, e4]
  have rb := x_b.zn (G := G) rfl
  have rt := x_t.zn (G := G) rfl
  refine WK_regionV 2 ⟨by kernel_rfl, by kernel_rfl, by kernel_rfl⟩ ?_
  simp (disch := omega) only [go_sem,reduceIte,nqD,nqL, e2, e3, e4, rb, rt]
  refine ⟨lateB_two (b := h.next) (off := 0) (d := none) (b' := gh2.next) (off' := 0) (d' := none) rfl rfl (by simp only [go_sem,reduceIte,nqD,nqL, e2]) rfl (by kernel_rfl) rfl rfl rfl (by simp only [go_sem,reduceIte,nqD,nqL]) (by omega), ?_⟩
  try simp (disch := omega) only [go_sem,reduceIte,nqD,nqL, e2, e3]
  refine At_storeV (inf := inf60) (v := .agg #[.bool (decide ((y : Int) < 0)), .slice B2 m2 d2]) i60 (by simp only [go_sem,reduceIte,nqD,nqL, e2]) (by simp only [go_sem,reduceIte,nqD,nqL]) x_a (by rw [size60]; rfl) (by rw [size60]; rfl) rfl (by show G ≤ h.next; omega) fun gh6 hsgh6 y_a => ?_
  have ngh6 := hsgh6.next
  replace x_b := x_b.mono (B' := gh6.blks) (hsgh6.get _ (by omega))
  replace x_r := x_r.mono (B' := gh6.blks) (hsgh6.get _ (by omega))
  replace x_s := x_s.mono (B' := gh6.blks) (hsgh6.get _ (by omega))
  replace x_t := x_t.mono (B' := gh6.blks) (hsgh6.get _ (by omega))
  replace hy := (hy.sto hsgh6 x_a rfl).wide (N' := gh6.next) (by omega)
  replace hr := (hr.sto hsgh6 x_a rfl).wide (N' := gh6.next) (by omega)
  replace pr := pr.trans (hsgh6.pres (by omega))
  replace x_a : Var gh6.blks h.next [.bool (decide ((y : Int) < 0)), .slice B2 m2 d2] := y_a
  clear y_a
  try simp (disch := omega) only [go_sem,reduceIte,nqD,nqL, e2, e3]
  refine At_storeV (inf := inf60) (v := .agg #[.bool (decide (((x % y : Nat) : Int) < 0)), .slice A6 k6 c6]) i60 (by simp only [go_sem,reduceIte,nqD,nqL, e3]) (by simp only [go_sem,reduceIte,nqD,nqL]) x_b (by rw [size60]; rfl) (by rw [size60]; rfl) rfl (by show G ≤ h1.next; omega) fun gh7 hsgh7 y_b => ?_
  have ngh7 := hsgh7.next
  replace x_a := x_a.mono (B' := gh7.blks) (hsgh7.get _ (by omega))
  replace x_r := x_r.mono (B' := gh7.blks) (hsgh7.get _ (by omega))
  replace x_s := x_s.mono (B' := gh7.blks) (hsgh7.get _ (by omega))
  replace x_t := x_t.mono (B' := gh7.blks) (hsgh7.get _ (by omega))
  replace hy := (hy.sto hsgh7 x_b rfl).wide (N' := gh7.next) (by omega)
  replace hr := (hr.sto hsgh7 x_b rfl).wide (N' := gh7.next) (by omega)
  replace pr := pr.trans (hsgh7.pres (by omega))
  replace x_b : Var gh7.blks h1.next [.bool (decide (((x % y : Nat) : Int) < 0)), .slice A6 k6 c6] := y_b
  clear y_b
  try simp (disch := omega) only [go_sem,reduceIte,nqD,nqL, e2, e3]
  refine hJ (j - 1) _ _ (by have := hE.pos (by omega); omega) ⟨y, x % y, B2, A6, m2, k6, d2, c6, hE.next (by omega), sy, sy.le (by have := Nat.mod_lt x (show 0 < y by omega); omega), ?_, by simp only [go_sem,reduceIte,nqD,nqL, e2], by simp only [go_sem,reduceIte,nqD,nqL, e3], by simp only [go_sem,reduceIte,nqD,nqL, e4], x_a, x_b, x_r, hy, hr, pr, by omega⟩
  rw [← hg]; exact gcd_step x y
end
end Go.Proofs.YthankillfhmfkaaGreatDoor.Ev
namespace Go.Proofs.YthankillfhmfkaaGreatDoor.Ev
open Go Go.Proofs Go.Lm
open Nat renaming reduceEqDiff → nqD, reduceLT → nqL
noncomputable section
theorem low_n {a : Int} {d : Nat} (hd : 0 < d) : (a / (Nat.gcd a.natAbs d : Int)).natAbs = rt a d ∧ (a / (Nat.gcd a.natAbs d : Int) < 0 ↔ a < 0) := by
 have hg := gcd_pos (m := a.natAbs) hd
 obtain ⟨k, hk⟩ := nat_dvd_int.2 (Nat.gcd_dvd_left a.natAbs d)
 unfold rt
 generalize Nat.gcd a.natAbs d = g at *
 have e : a / (g : Int) = k := by
  rw [hk]; exact Int.mul_ediv_cancel_left _ (by omega)
 have e2 : a.natAbs = g * k.natAbs := by rw [hk, Int.natAbs_mul, Int.natAbs_natCast]
 have e3 : a.natAbs / g = k.natAbs := by rw [e2]; exact Nat.mul_div_cancel_left _ hg
 rw [e, e3]
 refine ⟨rfl, ?_⟩
 by_cases h : k < 0
 ·have : (g : Int) * k < 0 := Int.mul_neg_of_pos_of_neg (by omega) h
  exact ⟨fun _ => by omega, fun _ => h⟩
 ·have : 0 ≤ (g : Int) * k := Int.mul_nonneg (by omega) (by omega)
  exact ⟨fun _ => by omega, fun _ => by omega⟩
theorem low_d {a b : Int} (hb : 0 < b) : b / (Nat.gcd a.natAbs b.natAbs : Int) = (rb a b.natAbs : Int) := by
 unfold rb
 have : b = (b.natAbs : Int) := by omega
 conv => lhs; arg 1; rw [this]
 rfl
set_option maxHeartbeats 8000000 in
set_option maxRecDepth 100000 in
theorem Lowest_spec {G N : Nat} {a1 a2 : Int} {v : Value} {h : H} (hG : G ≤ h.next) (hN : N ≤ h.next) (hv : QV h.blks N a1 a2 v) (s1 : Sd a1.natAbs) (s2 : Sd a2.natAbs) (h0 : 0 < a2) :
  Spec Tryz.prog (En G) 98 [v] h fun w h' => QV h'.blks h'.next (a1 / (Nat.gcd a1.natAbs a2.natAbs : Int)) (a2 / (Nat.gcd a1.natAbs a2.natAbs : Int)) w := by
 obtain ⟨A1, A2, k1, k2, c1, c2, rfl, hv1, hv2⟩ := hv
 have hg0 : 0 < Nat.gcd a1.natAbs a2.natAbs := gcd_pos (by omega)
 have hgs : Sd (Nat.gcd a1.natAbs a2.natAbs) := s2.le (Nat.gcd_le_right _ (by omega))
 refine CallsE_enter (En_known (by decide)) (En_f.trans Tryz.func98) rfl ⟨Nat.le_of_ble_eq_true rfl, by decide⟩ fun Q' hQ' => ?_
 simp (disch := omega) only [Tryz.f98, go_sem,reduceIte,nqD,nqL]
 replace hv1 := hv1.wide hN
 replace hv2 := hv2.wide hN
 refine At_box (v := .agg #[.bool (decide (a1 < 0)), .slice A1 k1 c1, .bool (decide (a2 < 0)), .slice A2 k2 c2]) (by simp only [go_sem,reduceIte,nqD,nqL]) (by omega) fun h1 hnh1 => ?_
 have nh1 := hnh1.next
 have ph1 : Pres h.next h h1 := hnh1.pres nlr
 have x_q : Var h1.blks h.next [.bool (decide (a1 < 0)), .slice A1 k1 c1, .bool (decide (a2 < 0)), .slice A2 k2 c2] := hnh1.var
 replace hv1 := (hv1.pres ph1 nlr).wide (N' := h1.next) (by omega)
 replace hv2 := (hv2.pres ph1 nlr).wide (N' := h1.next) (by omega)
 have pr : Pres h.next h h1 := ph1
 try simp (disch := omega) only [go_sem,reduceIte,nqD,nqL]
 refine At_alloc i64 zero64 rfl (by omega) fun h2 hnh2 => ?_
 have nh2 := hnh2.next
 have ph2 : Pres h1.next h1 h2 := hnh2.pres nlr
 have x_r : Var h2.blks h1.next [.bool false, .slice none 0 0, .bool false, .slice none 0 0] := hnh2.var
 replace x_q := x_q.mono (B' := h2.blks) (ph2.get _ (by omega))
 replace hv1 := (hv1.pres ph2 nlr).wide (N' := h2.next) (by omega)
 replace hv2 := (hv2.pres ph2 nlr).wide (N' := h2.next) (by omega)
 replace pr := pr.trans (ph2.le (by omega))
 simp (disch := omega) only [go_sem,reduceIte,nqD,nqL, fld64_0, fld64_1, Nat.zero_add, x_q.q0, x_q.q1]
 refine CallO_f (Gcd_spec (N := h2.next) (by omega) nlr hv1 hv2 s1 s2) (by omega) fun w3 h3 ph3 hg => ?_
 have nh3 := ph3.next
 replace x_q := x_q.mono (B' := h3.blks) (ph3.get _ (by omega))
 replace x_r := x_r.mono (B' := h3.blks) (ph3.get _ (by omega))
 replace hv1 := (hv1.pres ph3 nlr).wide (N' := h3.next) (by omega)
 replace hv2 := (hv2.pres ph3 nlr).wide (N' := h3.next) (by omega)
 replace pr := pr.trans (ph3.le (by omega))
 obtain ⟨A3, k3, c3, rfl⟩ := hg.shape
 generalize hgz : Nat.gcd a1.natAbs a2.natAbs = gz at *
 try simp (disch := omega) only [go_sem,reduceIte,nqD,nqL]
 refine At_alloc i60 zero60 rfl (by omega) fun h4 hnh4 => ?_
 have nh4 := hnh4.next
 have ph4 : Pres h3.next h3 h4 := hnh4.pres nlr
 have x_g : Var h4.blks h3.next [.bool false, .slice none 0 0] := hnh4.var
 replace x_q := x_q.mono (B' := h4.blks) (ph4.get _ (by omega))
 replace x_r := x_r.mono (B' := h4.blks) (ph4.get _ (by omega))
 replace hv1 := (hv1.pres ph4 nlr).wide (N' := h4.next) (by omega)
 replace hv2 := (hv2.pres ph4 nlr).wide (N' := h4.next) (by omega)
 replace hg := (hg.pres ph4 nlr).wide (N' := h4.next) (by omega)
 replace pr := pr.trans (ph4.le (by omega))
 try simp (disch := omega) only [go_sem,reduceIte,nqD,nqL]
 refine At_storeV (inf := inf60) (v := .agg #[.bool (decide ((gz : Int) < 0)), .slice A3 k3 c3]) i60 (by simp only [go_sem,reduceIte,nqD,nqL]) (by simp only [go_sem,reduceIte,nqD,nqL]) x_g (by rw [size60]; rfl) (by rw [size60]; rfl) rfl (by show G ≤ h3.next; omega) fun h5 hsh5 y_g => ?_
 have nh5 := hsh5.next
 replace x_q := x_q.mono (B' := h5.blks) (hsh5.get _ (by omega))
 replace x_r := x_r.mono (B' := h5.blks) (hsh5.get _ (by omega))
 replace hv1 := (hv1.sto hsh5 x_g rfl).wide (N' := h5.next) (by omega)
 replace hv2 := (hv2.sto hsh5 x_g rfl).wide (N' := h5.next) (by omega)
 replace hg := (hg.sto hsh5 x_g rfl).wide (N' := h5.next) (by omega)
 replace pr := pr.trans (hsh5.pres (by omega))
 replace x_g : Var h5.blks h3.next [.bool (decide ((gz : Int) < 0)), .slice A3 k3 c3] := y_g
 clear y_g
 have rg := x_g.zn (G := G) rfl
 simp (disch := omega) only [go_sem,reduceIte,nqD,nqL, fld64_0, fld64_1, Nat.zero_add, x_q.q0, x_q.q1, rg]
 refine CallO_f (DivMod_spec (N := h5.next) (by omega) nlr hv1 hg s1.sr (by rw [Int.natAbs_natCast]; exact hgs.ten) (by omega)) (by omega) fun w4 h6 ph6 hw4 => ?_
 have nh6 := ph6.next
 replace x_q := x_q.mono (B' := h6.blks) (ph6.get _ (by omega))
 replace x_r := x_r.mono (B' := h6.blks) (ph6.get _ (by omega))
 replace x_g := x_g.mono (B' := h6.blks) (ph6.get _ (by omega))
 replace hv1 := (hv1.pres ph6 nlr).wide (N' := h6.next) (by omega)
 replace hv2 := (hv2.pres ph6 nlr).wide (N' := h6.next) (by omega)
 replace hg := (hg.pres ph6 nlr).wide (N' := h6.next) (by omega)
 replace pr := pr.trans (ph6.le (by omega))
 obtain ⟨wq4, wr4, rfl, hq4, hr4⟩ := hw4
 obtain ⟨B4, m4, d4, rfl⟩ := hq4.shape
 obtain ⟨C4, n4, f4, rfl⟩ := hr4.shape
 try simp (disch := omega) only [go_sem,reduceIte,nqD,nqL]
 refine At_alloc i60 zero60 rfl (by omega) fun h7 hnh7 => ?_
 have nh7 := hnh7.next
 have ph7 : Pres h6.next h6 h7 := hnh7.pres nlr
 have x_n : Var h7.blks h6.next [.bool false, .slice none 0 0] := hnh7.var
 replace x_q := x_q.mono (B' := h7.blks) (ph7.get _ (by omega))
 replace x_r := x_r.mono (B' := h7.blks) (ph7.get _ (by omega))
 replace x_g := x_g.mono (B' := h7.blks) (ph7.get _ (by omega))
 replace hv1 := (hv1.pres ph7 nlr).wide (N' := h7.next) (by omega)
 replace hv2 := (hv2.pres ph7 nlr).wide (N' := h7.next) (by omega)
 replace hg := (hg.pres ph7 nlr).wide (N' := h7.next) (by omega)
 replace hq4 := (hq4.pres ph7 nlr).wide (N' := h7.next) (by omega)
 replace pr := pr.trans (ph7.le (by omega))
 try simp (disch := omega) only [go_sem,reduceIte,nqD,nqL]
 refine At_alloc i60 zero60 rfl (by omega) fun h8 hnh8 => ?_
 have nh8 := hnh8.next
 have ph8 : Pres h7.next h7 h8 := hnh8.pres nlr
 have x_nm : Var h8.blks h7.next [.bool false, .slice none 0 0] := hnh8.var
 replace x_q := x_q.mono (B' := h8.blks) (ph8.get _ (by omega))
 replace x_r := x_r.mono (B' := h8.blks) (ph8.get _ (by omega))
 replace x_g := x_g.mono (B' := h8.blks) (ph8.get _ (by omega))
 replace x_n := x_n.mono (B' := h8.blks) (ph8.get _ (by omega))
 replace hv1 := (hv1.pres ph8 nlr).wide (N' := h8.next) (by omega)
 replace hv2 := (hv2.pres ph8 nlr).wide (N' := h8.next) (by omega)
 replace hg := (hg.pres ph8 nlr).wide (N' := h8.next) (by omega)
 replace hq4 := (hq4.pres ph8 nlr).wide (N' := h8.next) (by omega)
 replace pr := pr.trans (ph8.le (by omega))
 try simp (disch := omega) only [go_sem,reduceIte,nqD,nqL]
 refine At_storeV (inf := inf60) (v := .agg #[.bool (decide (a1 / (gz : Int) < 0)), .slice B4 m4 d4]) i60 (by simp only [go_sem,reduceIte,nqD,nqL]) (by simp only [go_sem,reduceIte,nqD,nqL]) x_n (by rw [size60]; rfl) (by rw [size60]; rfl) rfl (by show G ≤ h6.next; omega) fun h9 hsh9 y_n => ?_
 have nh9 := hsh9.next
 replace x_q := x_q.mono (B' := h9.blks) (hsh9.get _ (by omega))
 replace x_r := x_r.mono (B' := h9.blks) (hsh9.get _ (by omega))
 replace x_g := x_g.mono (B' := h9.blks) (hsh9.get _ (by omega))
 replace x_nm := x_nm.mono (B' := h9.blks) (hsh9.get _ (by omega))
 replace hv1 := (hv1.sto hsh9 x_n rfl).wide (N' := h9.next) (by omega)
 replace hv2 := (hv2.sto hsh9 x_n rfl).wide (N' := h9.next) (by omega)
 replace hg := (hg.sto hsh9 x_n rfl).wide (N' := h9.next) (by omega)
 replace hq4 := (hq4.sto hsh9 x_n rfl).wide (N' := h9.next) (by omega)
 replace pr := pr.trans (hsh9.pres (by omega))
 replace x_n : Var h9.blks h6.next [.bool (decide (a1 / (gz : Int) < 0)), .slice B4 m4 d4] := y_n
 clear y_n
 try simp (disch := omega) only [go_sem,reduceIte,nqD,nqL]
 refine At_storeV (inf := inf60) (v := .agg #[.bool (decide (a1 % (gz : Int) < 0)), .slice C4 n4 f4]) i60 (by simp only [go_sem,reduceIte,nqD,nqL]) (by simp only [go_sem,reduceIte,nqD,nqL]) x_nm (by rw [size60]; rfl) (by rw [size60]; rfl) rfl (by show G ≤ h7.next; omega) fun h10 hsh10 y_nm => ?_
 have nh10 := hsh10.next
 replace x_q := x_q.mono (B' := h10.blks) (hsh10.get _ (by omega))
 replace x_r := x_r.mono (B' := h10.blks) (hsh10.get _ (by omega))
 replace x_g := x_g.mono (B' := h10.blks) (hsh10.get _ (by omega))
 replace x_n := x_n.mono (B' := h10.blks) (hsh10.get _ (by omega))
 replace hv1 := (hv1.sto hsh10 x_nm rfl).wide (N' := h10.next) (by omega)
 replace hv2 := (hv2.sto hsh10 x_nm rfl).wide (N' := h10.next) (by omega)
 replace hg := (hg.sto hsh10 x_nm rfl).wide (N' := h10.next) (by omega)
 replace hq4 := (hq4.sto hsh10 x_nm rfl).wide (N' := h10.next) (by omega)
 replace pr := pr.trans (hsh10.pres (by omega))
 replace x_nm : Var h10.blks h7.next [.bool (decide (a1 % (gz : Int) < 0)), .slice C4 n4 f4] := y_nm
 clear y_nm
 have rg := x_g.zn (G := G) rfl
 simp (disch := omega) only [go_sem,reduceIte,nqD,nqL, fld64_0, fld64_1, Nat.zero_add, x_q.q0, x_q.q1, rg]
 refine CallO_f (DivMod_spec (N := h10.next) (by omega) nlr hv2 hg s2.sr (by rw [Int.natAbs_natCast]; exact hgs.ten) (by omega)) (by omega) fun w5 h11 ph11 hw5 => ?_
 have nh11 := ph11.next
 replace x_q := x_q.mono (B' := h11.blks) (ph11.get _ (by omega))
 replace x_r := x_r.mono (B' := h11.blks) (ph11.get _ (by omega))
 replace x_g := x_g.mono (B' := h11.blks) (ph11.get _ (by omega))
 replace x_n := x_n.mono (B' := h11.blks) (ph11.get _ (by omega))
 replace hv2 := (hv2.pres ph11 nlr).wide (N' := h11.next) (by omega)
 replace hg := (hg.pres ph11 nlr).wide (N' := h11.next) (by omega)
 replace hq4 := (hq4.pres ph11 nlr).wide (N' := h11.next) (by omega)
 replace pr := pr.trans (ph11.le (by omega))
 obtain ⟨wq5, wr5, rfl, hq5, hr5⟩ := hw5
 obtain ⟨B5, m5, d5, rfl⟩ := hq5.shape
 obtain ⟨C5, n5, f5, rfl⟩ := hr5.shape
 try simp (disch := omega) only [go_sem,reduceIte,nqD,nqL]
 refine At_alloc i60 zero60 rfl (by omega) fun h12 hnh12 => ?_
 have nh12 := hnh12.next
 have ph12 : Pres h11.next h11 h12 := hnh12.pres nlr
 have x_d : Var h12.blks h11.next [.bool false, .slice none 0 0] := hnh12.var
 replace x_q := x_q.mono (B' := h12.blks) (ph12.get _ (by omega))
 replace x_r := x_r.mono (B' := h12.blks) (ph12.get _ (by omega))
 replace x_g := x_g.mono (B' := h12.blks) (ph12.get _ (by omega))
 replace x_n := x_n.mono (B' := h12.blks) (ph12.get _ (by omega))
 replace hv2 := (hv2.pres ph12 nlr).wide (N' := h12.next) (by omega)
 replace hg := (hg.pres ph12 nlr).wide (N' := h12.next) (by omega)
 replace hq4 := (hq4.pres ph12 nlr).wide (N' := h12.next) (by omega)
 replace hq5 := (hq5.pres ph12 nlr).wide (N' := h12.next) (by omega)
 replace pr := pr.trans (ph12.le (by omega))
 try simp (disch := omega) only [go_sem,reduceIte,nqD,nqL]
 refine At_alloc i60 zero60 rfl (by omega) fun h13 hnh13 => ?_
 have nh13 := hnh13.next
 have ph13 : Pres h12.next h12 h13 := hnh13.pres nlr
 have x_dm : Var h13.blks h12.next [.bool false, .slice none 0 0] := hnh13.var
 replace x_q := x_q.mono (B' := h13.blks) (ph13.get _ (by omega))
 replace x_r := x_r.mono (B' := h13.blks) (ph13.get _ (by omega))
 replace x_g := x_g.mono (B' := h13.blks) (ph13.get _ (by omega))
 replace x_n := x_n.mono (B' := h13.blks) (ph13.get _ (by omega))
 replace x_d := x_d.mono (B' := h13.blks) (ph13.get _ (by omega))
 replace hv2 := (hv2.pres ph13 nlr).wide (N' := h13.next) (by omega)
 replace hg := (hg.pres ph13 nlr).wide (N' := h13.next) (by omega)
 replace hq4 := (hq4.pres ph13 nlr).wide (N' := h13.next) (by omega)
 replace hq5 := (hq5.pres ph13 nlr).wide (N' := h13.next) (by omega)
 replace pr := pr.trans (ph13.le (by omega))
 try simp (disch := omega) only [go_sem,reduceIte,nqD,nqL]
 refine At_storeV (inf := inf60) (v := .agg #[.bool (decide (a2 / (gz : Int) < 0)), .slice B5 m5 d5]) i60 (by simp only [go_sem,reduceIte,nqD,nqL]) (by simp only [go_sem,reduceIte,nqD,nqL]) x_d (by rw [size60]; rfl) (by rw [size60]; rfl) rfl (by show G ≤ h11.next; omega) fun h14 hsh14 y_d => ?_
 have nh14 := hsh14.next
 replace x_q := x_q.mono (B' := h14.blks) (hsh14.get _ (by omega))
 replace x_r := x_r.mono (B' := h14.blks) (hsh14.get _ (by omega))
 replace x_g := x_g.mono (B' := h14.blks) (hsh14.get _ (by omega))
 replace x_n := x_n.mono (B' := h14.blks) (hsh14.get _ (by omega))
 replace x_dm := x_dm.mono (B' := h14.blks) (hsh14.get _ (by omega))
 replace hv2 := (hv2.sto hsh14 x_d rfl).wide (N' := h14.next) (by omega)
 replace hg := (hg.sto hsh14 x_d rfl).wide (N' := h14.next) (by omega)
 replace hq4 := (hq4.sto hsh14 x_d rfl).wide (N' := h14.next) (by omega)
 replace hq5 := (hq5.sto hsh14 x_d rfl).wide (N' := h14.next) (by omega)
 replace pr := pr.trans (hsh14.pres (by omega))
 replace x_d : Var h14.blks h11.next [.bool (decide (a2 / (gz : Int) < 0)), .slice B5 m5 d5] := y_d
 clear y_d
 try simp (disch := omega) only [go_sem,reduceIte,nqD,nqL]
 refine At_storeV (inf := inf60) (v := .agg #[.bool (decide (a2 % (gz : Int) < 0)), .slice C5 n5 f5]) i60 (by simp only [go_sem,reduceIte,nqD,nqL]) (by simp only [go_sem,reduceIte,nqD,nqL]) x_dm (by rw [size60]; rfl) (by rw [size60]; rfl) rfl (by show G ≤ h12.next; omega) fun h15 hsh15 y_dm => ?_
 have nh15 := hsh15.next
 replace x_q := x_q.mono (B' := h15.blks) (hsh15.get _ (by omega))
 replace x_r := x_r.mono (B' := h15.blks) (hsh15.get _ (by omega))
 replace x_g := x_g.mono (B' := h15.blks) (hsh15.get _ (by omega))
 replace x_n := x_n.mono (B' := h15.blks) (hsh15.get _ (by omega))
 replace x_d := x_d.mono (B' := h15.blks) (hsh15.get _ (by omega))
 replace hv2 := (hv2.sto hsh15 x_dm rfl).wide (N' := h15.next) (by omega)
 replace hg := (hg.sto hsh15 x_dm rfl).wide (N' := h15.next) (by omega)
 replace hq4 := (hq4.sto hsh15 x_dm rfl).wide (N' := h15.next) (by omega)
 replace hq5 := (hq5.sto hsh15 x_dm rfl).wide (N' := h15.next) (by omega)
 replace pr := pr.trans (hsh15.pres (by omega))
 replace x_dm : Var h15.blks h12.next [.bool (decide (a2 % (gz : Int) < 0)), .slice C5 n5 f5] := y_dm
 clear y_dm
 have rg := x_g.zn (G := G) rfl
 have rn := x_n.zn (G := G) rfl
 have rd := x_d.zn (G := G) rfl
 simp (disch := omega) only [go_sem,reduceIte,nqD,nqL, rn, rd, build64]
 refine At_storeV (inf := inf64) (v := .agg #[.bool (decide (a1 / (gz : Int) < 0)), .slice B4 m4 d4, .bool (decide (a2 / (gz : Int) < 0)), .slice B5 m5 d5]) i64 (by simp only [go_sem,reduceIte,nqD,nqL]) (by simp only [go_sem,reduceIte,nqD,nqL]) x_r (by rw [size64]; rfl) (by rw [size64]; rfl) rfl (by show G ≤ h1.next; omega) fun h16 hsh16 y_r => ?_
 have nh16 := hsh16.next
 replace x_n := x_n.mono (B' := h16.blks) (hsh16.get _ (by omega))
 replace x_d := x_d.mono (B' := h16.blks) (hsh16.get _ (by omega))
 replace hq4 := (hq4.sto hsh16 x_r rfl).wide (N' := h16.next) (by omega)
 replace hq5 := (hq5.sto hsh16 x_r rfl).wide (N' := h16.next) (by omega)
 replace pr := pr.trans (hsh16.pres (by omega))
 replace x_r : Var h16.blks h1.next [.bool (decide (a1 / (gz : Int) < 0)), .slice B4 m4 d4, .bool (decide (a2 / (gz : Int) < 0)), .slice B5 m5 d5] := y_r
 clear y_r
 have rr := x_r.qnE (G := G) rfl
 simp (disch := omega) only [go_sem,reduceIte,nqD,nqL, rr]
 exact hQ' _ _ ⟨pr, B4, B5, m4, m5, d4, d5, rfl, hq4, hq5⟩
theorem dg_val {d : Nat} : ((dg d).toNat : Int) = ((48 + d % 10 : Nat) : Int) := by rw [dg_toNat]
theorem digs4 {a : Nat} : digs 4 a = [dg (a / 10 / 10 / 10), dg (a / 10 / 10), dg (a / 10), dg a] := rfl
theorem fours_drop {l : List Nat} {i a : Nat} (h : l[i]? = some a) : fours (l.drop i) = fours (l.drop (i + 1)) ++ digs 4 a := by
 rw [drop_get h]; rfl
theorem fours_len : ∀ {l : List Nat}, (fours l).length = 4 * l.length
 | [] => rfl
 | a :: l => by rw [fours, List.length_append, digs_len, fours_len (l := l), List.length_cons]; omega
theorem tdivN {x k : Nat} : ((x : Int)).tdiv (k : Int) = ((x / k : Nat) : Int) := by
 rw [Int.tdiv_eq_ediv_of_nonneg (by omega)]; rfl
theorem tmodN {x k : Nat} : ((x : Int)).tmod (k : Int) = ((x % k : Nat) : Int) := by
 rw [Int.tmod_eq_emod_of_nonneg (by omega)]; rfl
set_option maxHeartbeats 8000000 in
set_option maxRecDepth 100000 in
theorem figures_spec {G N : Nat} {x : Nat} {v : Value} {h : H} (hG : G ≤ h.next) (hN : N ≤ h.next) (hv : ZV h.blks N (x : Int) v) (hx : Sr x) :
  Spec Tryz.prog (En G) 99 [v] h fun w h' => w = strV (dec x) := by
 obtain ⟨l, A, c, rfl, hs, hl, hn, el⟩ := hv
 rw [Int.natAbs_natCast] at el
 have hlen : l.length ≤ 1000000 := Sr.len (by rw [el]; exact hx) hn
 have hz : nv 10000 l = 0 ↔ l.length = 0 := by rw [nrm_zero (by omega) hn, ← List.length_eq_zero_iff]
 refine CallsE_enter (En_known (by decide)) (En_f.trans Tryz.func99) rfl ⟨Nat.le_of_ble_eq_true rfl, by decide⟩ fun Q' hQ' => ?_
 simp (disch := omega) only [Tryz.f99, go_sem,reduceIte,nqD,nqL]
 refine At_box (v := .agg #[.bool (decide ((x : Int) < 0)), .slice A l.length c]) (by simp only [go_sem,reduceIte,nqD,nqL]) (by omega) fun h1 hnh1 => ?_
 have nh1 := hnh1.next
 have ph1 : Pres h.next h h1 := hnh1.pres nlr
 have x_a : Var h1.blks h.next [.bool (decide ((x : Int) < 0)), .slice A l.length c] := hnh1.var
 have pr : Pres h.next h h1 := ph1
 try simp (disch := omega) only [go_sem,reduceIte,nqD,nqL]
 have l1 : loadv h1.blks h.next 1 = some (.slice A l.length c) := by rw [x_a.load (by simp)]; rfl
 have hs1 := hs.mono (B' := h1.blks) fun b _ hb => ph1.get b (by omega)
 by_cases h0 : x = 0
 ·have d0 : decide ((l.length : Int) = 0) = true := decide_eq_true (by omega)
  simp (disch := omega) only [go_sem,reduceIte,nqD,nqL, fld60_1, load34, Nat.zero_add, l1, len34, d0]
  refine hQ' _ _ ⟨pr, ?_⟩
  rw [h0]
  show strV [48] = strV (dec 0)
  rw [dec_small (by omega)]; rfl
 ·have d0 : decide ((l.length : Int) = 0) = false := decide_eq_false (by omega)
  simp (disch := omega) only [go_sem,reduceIte,nqD,nqL, fld60_1, load34, Nat.zero_add, l1, len34, d0, wrap_i64]
  refine WK_loopN (fun j α g => j ≤ l.length ∧ α.get 1 = some (.pointer (some ⟨h.next, 0, none⟩)) ∧ α.get 3 = some (strV (fours (l.drop j))) ∧ α.get 4 = some (.int .i64 ((j : Int) - 1)) ∧ Pres h1.next h1 g) l.length
   ⟨Nat.le_refl _, by simp only [go_sem,reduceIte,nqD,nqL], by rw [List.drop_length]; (simp only [go_sem,reduceIte,nqD,nqL]) <;> rfl, by simp only [go_sem,reduceIte,nqD,nqL], Pres.refl _ _⟩ (by omega) ?_
  rintro J j α g ⟨hj, e1, e3, e4, pg⟩ hJ
  have lg : loadv g.blks h.next 1 = some (.slice A l.length c) := by rw [loadv_eq (pg.get _ (by omega))]; exact l1
  have ng := pg.next
  cases j with
  | zero =>
   have dz : decide ((0 : Int) ≤ ((0 : Nat) : Int) - 1) = false := rfl
   simp (disch := omega) only [go_sem,reduceIte,nqD,nqL, e1, e3, e4, dz]
   rw [List.drop_zero] at e3
   replace pg := pr.trans (pg.le (by omega))
   have hfl := fours_len (l := l)
   have hst := strip_fours hl (by omega)
   rw [el] at hst
   refine WK_loopN (fun j α g2 => ∃ s : List UInt8, g = g2 ∧ s.length = j ∧ j ≤ 4000000 ∧ α.get 3 = some (strV s) ∧ strip s = dec x) (fours l).length
    ⟨fours l, rfl, rfl, by omega, by simp only [go_sem,reduceIte,nqD,nqL, e3], hst⟩ (by omega) ?_
   rintro J j β g2 ⟨s, rfl, hsl, hj, e3, hst⟩ hJ
   cases s with
   | nil =>
    have := dec_pos (n := x)
    rw [← hst] at this
    simp [strip] at this
   | cons ch s =>
    have ix : ∀ {G : Nat}, idxO (En G) 9 (some (strV (ch :: s))) (some (.int .i64 0)) = some (.int .u8 ch.toNat) := idx9 (by omega) rfl
    have hlen2 : (ch :: s).length = s.length + 1 := rfl
    by_cases h48 : ch = 48
    ·have dc : decide ((ch.toNat : Int) = 48) = true := decide_eq_true (by rw [h48]; rfl)
     have sl : sliceO (En G) 9 g.blks (some (strV (ch :: s))) (some [.int .i64 1]) (some []) = some (strV s) := slcLo9 (by omega) (by rw [hlen2]; omega)
     simp (disch := omega) only [go_sem,reduceIte,nqD,nqL, e3, ix, dc, sl]
     refine hJ s.length _ _ (by omega) ⟨s, rfl, rfl, by omega, by simp only [go_sem,reduceIte,nqD,nqL], ?_⟩
     rw [strip, if_pos h48] at hst
     exact hst
    ·have dc : decide ((ch.toNat : Int) = 48) = false := decide_eq_false fun e => h48 (UInt8.toNat_inj.1 (show ch.toNat = 48 by omega))
     simp (disch := omega) only [go_sem,reduceIte,nqD,nqL, e3, ix, dc]
     rw [strip, if_neg h48] at hst
     exact hQ' _ _ ⟨pg, by rw [hst]⟩
  | succ i =>
   obtain ⟨a, ha⟩ := limb_at (l := l) (i := i) (by omega)
   have hal := hl.get ha
   have hsg := hs1.mono (B' := g.blks) fun b _ hb => pg.get b (by omega)
   obtain ⟨ba, offa, rfl, _, _, la⟩ := nats_at hsg ha
   have j1 : ((i + 1 : Nat) : Int) - 1 = (i : Int) := by omega
   have dz : decide ((0 : Int) ≤ (i : Int)) = true := decide_eq_true (by omega)
   rw [j1] at e4
   have q1 : (a : Int).tdiv 1000 = ((a / 1000 : Nat) : Int) := tdivN (k := 1000)
   have q2 : (a : Int).tdiv 100 = ((a / 100 : Nat) : Int) := tdivN (k := 100)
   have q3 : (a : Int).tdiv 10 = ((a / 10 : Nat) : Int) := tdivN (k := 10)
   have q4 : (a : Int).tmod 10 = ((a % 10 : Nat) : Int) := tmodN (k := 10)
   have q5 : ((a / 100 : Nat) : Int).tmod 10 = ((a / 100 % 10 : Nat) : Int) := tmodN (k := 10)
   have q6 : ((a / 10 : Nat) : Int).tmod 10 = ((a / 10 % 10 : Nat) : Int) := tmodN (k := 10)
   simp (disch := omega) only [go_sem,reduceIte,nqD,nqL, e1, e3, e4, dz, fld60_1, load34, Nat.zero_add, lg, idxA34, Int.toNat_natCast, Nat.mul_one, load3, la, q1, q2, q3, q4, q5, q6, wrap_i64, conv3_5]
   refine At_lit (vs := [(0, .int .u8 (48 + ((a / 1000 : Nat) : Int))), (1, .int .u8 (48 + ((a / 100 % 10 : Nat) : Int))), (2, .int .u8 (48 + ((a / 10 % 10 : Nat) : Int))), (3, .int .u8 (48 + ((a % 10 : Nat) : Int)))]) (cs := #[.int .u8 (48 + ((a / 1000 : Nat) : Int)), .int .u8 (48 + ((a / 100 % 10 : Nat) : Int)), .int .u8 (48 + ((a / 10 % 10 : Nat) : Int)), .int .u8 (48 + ((a % 10 : Nat) : Int))]) u73 i5 zero5 (by rw [size5]; rfl) (by simp only [go_sem,reduceIte,nqD,nqL]) (by rw [size5]; rfl) (by omega) fun g2 hg2 => ?_
   rw [size5] at hg2
   have n2 := hg2.next
   have p2 : Pres g.next g g2 := hg2.pres nlr
   have hlit : SlV g2.blks g.next g2.next 1 4 (byts (digs 4 a)) (.slice (some ⟨g.next, 0, none⟩) 4 4) := by
    have := hg2.slv (n := 4) (c := 4) rfl
    rw [digs4]
    simp only [byts, List.map_cons, List.map_nil, dg_val]
    rw [show ((48 + a / 10 / 10 / 10 % 10 : Nat) : Int) = 48 + ((a / 1000 : Nat) : Int) by omega, show ((48 + a / 10 / 10 % 10 : Nat) : Int) = 48 + ((a / 100 % 10 : Nat) : Int) by omega, show ((48 + a / 10 % 10 : Nat) : Int) = 48 + ((a / 10 % 10 : Nat) : Int) by omega, show ((48 + a % 10 : Nat) : Int) = 48 + ((a % 10 : Nat) : Int) by omega]
    exact this
   have hfl := fours_len (l := l.drop (i + 1))
   have hadd : ∀ {t : TypeId}, binO Tryz.prog (En G) .add t (some (strV (fours (l.drop (i + 1))))) (some (strV (digs 4 a))) = some (strV (fours (l.drop (i + 1)) ++ digs 4 a)) := add_str (by rw [hfl, digs_len, List.length_drop]; omega)
   simp (disch := omega) only [go_sem,reduceIte,nqD,nqL, conv55_9 hlit, hadd, e1, e3, e4, wrap_i64]
   refine hJ i _ _ (by omega) ⟨by omega, by simp only [go_sem,reduceIte,nqD,nqL, e1], by rw [fours_drop ha]; simp only [go_sem,reduceIte,nqD,nqL], by simp only [go_sem,reduceIte,nqD,nqL], pg.trans (p2.le (by omega))⟩
end
end Go.Proofs.YthankillfhmfkaaGreatDoor.Ev
namespace Go.Proofs.YthankillfhmfkaaGreatDoor.Ev
open Go Go.Proofs Go.Lm
open Nat renaming reduceEqDiff → nqD, reduceLT → nqL
noncomputable section
def numT (s : Bool) (n d : Nat) : List UInt8 := (if s then 45 :: dec n else dec n) ++ (if d = 1 then [] else 47 :: dec d)
def numOK (n d : Nat) : Bool := decide ((dec n).length ≤ 4000) && decide ((dec d).length ≤ 4000)
theorem dec_one {d : Nat} : (dec d = [49]) ↔ d = 1 := by
 have e : dec 1 = [49] := by rw [dec_small (by omega)]; rfl
 constructor
 ·intro h; exact dec_inj (by rw [h, e])
 ·rintro rfl; exact e
theorem dec_len1 {x : Nat} (h : Sr x) : (dec x).length ≤ 4000004 := by
 obtain ⟨k, h1, h2⟩ := h
 have h3 : x < 10 ^ (4 * k + 1) := by
  rw [Nat.pow_succ, Nat.pow_mul]
  have : (10 ^ 4) ^ k = 10000 ^ k := rfl
  rw [this]
  have : 0 < 10000 ^ k := Nat.pow_pos (by omega)
  omega
 have := dec_len h3
 omega
theorem rt_le {n : Int} {d : Nat} : rt n d ≤ n.natAbs := Nat.div_le_self _ _
theorem rb_le {n : Int} {d : Nat} : rb n d ≤ d := Nat.div_le_self _ _
set_option maxHeartbeats 8000000 in
set_option maxRecDepth 100000 in
theorem Num_ref {G N : Nat} {a1 a2 : Int} {v : Value} {h : H} (hG : G ≤ h.next) (hN : N ≤ h.next) (hv : QV h.blks N a1 a2 v) (s1 : Sd a1.natAbs) (s2 : Sd a2.natAbs) (h0 : 0 < a2) :
  Spec Tryz.prog (En G) 75 [v] h fun w h' => w = .tuple #[strV (if numOK (rt a1 a2.natAbs) (rb a1 a2.natAbs) then numT (decide (a1 < 0)) (rt a1 a2.natAbs) (rb a1 a2.natAbs) else []), .bool (numOK (rt a1 a2.natAbs) (rb a1 a2.natAbs))] := by
 have hv0 := hv.wide hN
 obtain ⟨A1, A2, k1, k2, c1, c2, rfl, hv1, hv2⟩ := hv
 refine CallsE_enter (En_known (by decide)) (En_f.trans Tryz.func75) rfl ⟨Nat.le_of_ble_eq_true rfl, by decide⟩ fun Q' hQ' => ?_
 simp (disch := omega) only [Tryz.f75, go_sem,reduceIte,nqD,nqL]
 refine At_box (v := .agg #[.bool (decide (a1 < 0)), .slice A1 k1 c1, .bool (decide (a2 < 0)), .slice A2 k2 c2]) (by simp only [go_sem,reduceIte,nqD,nqL]) (by omega) fun h1 hnh1 => ?_
 have nh1 := hnh1.next
 have ph1 : Pres h.next h h1 := hnh1.pres nlr
 have x_q : Var h1.blks h.next [.bool (decide (a1 < 0)), .slice A1 k1 c1, .bool (decide (a2 < 0)), .slice A2 k2 c2] := hnh1.var
 have pr : Pres h.next h h1 := ph1
 replace hv0 := (hv0.pres ph1 nlr).wide (N' := h1.next) (by omega)
 have rq := x_q.qn (G := G) rfl
 simp (disch := omega) only [go_sem,reduceIte,nqD,nqL, rq]
 refine CallO_f (Lowest_spec (N := h1.next) (by omega) nlr hv0 s1 s2 h0) (by omega) fun w2 h2 ph2 hq => ?_
 have nh2 := ph2.next
 replace x_q := x_q.mono (B' := h2.blks) (ph2.get _ (by omega))
 replace pr := pr.trans (ph2.le (by omega))
 obtain ⟨B1, B2, m1, m2, d1, d2, rfl, hq1, hq2⟩ := hq
 clear hv0 hv1 hv2
 obtain ⟨ln, hneg⟩ := low_n (a := a1) (d := a2.natAbs) (by omega)
 have ld := low_d (a := a1) h0
 generalize a1 / (Nat.gcd a1.natAbs a2.natAbs : Int) = n at *
 rw [ld] at hq2
 rw [ld]
 rw [show decide (n < 0) = decide (a1 < 0) from decide_eq_decide.2 hneg] at hq1 ⊢
 have hq1' : ZV h2.blks h2.next n (.agg #[.bool (decide (n < 0)), .slice B1 m1 d1]) := by rw [show decide (n < 0) = decide (a1 < 0) from decide_eq_decide.2 hneg]; exact hq1
 clear hq1
 try simp (disch := omega) only [go_sem,reduceIte,nqD,nqL]
 refine At_storeV (inf := inf64) (v := .agg #[.bool (decide (a1 < 0)), .slice B1 m1 d1, .bool (decide ((rb a1 a2.natAbs : Int) < 0)), .slice B2 m2 d2]) i64 (by simp only [go_sem,reduceIte,nqD,nqL]) (by simp only [go_sem,reduceIte,nqD,nqL]) x_q (by rw [size64]; rfl) (by rw [size64]; rfl) rfl (by show G ≤ h.next; omega) fun h3 hsh3 y_q => ?_
 have nh3 := hsh3.next
 replace hq2 := (hq2.sto hsh3 x_q rfl).wide (N' := h3.next) (by omega)
 replace hq1' := (hq1'.sto hsh3 x_q rfl).wide (N' := h3.next) (by omega)
 replace pr := pr.trans (hsh3.pres (by omega))
 replace x_q : Var h3.blks h.next [.bool (decide (a1 < 0)), .slice B1 m1 d1, .bool (decide ((rb a1 a2.natAbs : Int) < 0)), .slice B2 m2 d2] := y_q
 clear y_q
 try simp (disch := omega) only [go_sem,reduceIte,nqD,nqL]
 have q0 := x_q.q0 (G := G)
 have q1 := x_q.q1 (G := G)
 try simp (disch := omega) only [go_sem,reduceIte,nqD,nqL]
 refine WK_regionT 6 ⟨by kernel_rfl, by kernel_rfl, by kernel_rfl⟩ ?_
 simp (disch := omega) only [go_sem,reduceIte,nqD,nqL, fld64_0, q0]
 rw [show decide (n < 0) = decide (a1 < 0) from decide_eq_decide.2 hneg] at hq1'
 refine CallO_spec (Abs_spec (a := n) (N := h3.next) (by rw [st_next]; omega) (by rw [st_next]; omega) (by rw [st_blks]; exact hq1')) (by omega) (fun _ _ _ h => h) fun w3 h4 ph4 hw3 => ?_
 have nh4 := ph4.next
 replace x_q := x_q.mono (B' := h4.blks) (ph4.get _ (by omega))
 replace hq2 := (hq2.pres ph4 nlr).wide (N' := h4.next) (by omega)
 replace hq1' := (hq1'.pres ph4 nlr).wide (N' := h4.next) (by omega)
 replace pr := pr.trans (ph4.le (by omega))
 try simp (disch := omega) only [go_sem,reduceIte,nqD,nqL]
 refine CallO_spec (figures_spec (x := n.natAbs) (N := h4.next) (by rw [st_next]; omega) (by rw [st_next]; omega) (by rw [st_blks]; exact hw3) (by rw [ln]; exact s1.sr.le rt_le)) (by omega) (fun _ _ _ h => h) fun w4 h5 ph5 hw4 => ?_
 have nh5 := ph5.next
 replace x_q := x_q.mono (B' := h5.blks) (ph5.get _ (by omega))
 replace hq2 := (hq2.pres ph5 nlr).wide (N' := h5.next) (by omega)
 replace hw3 := (hw3.pres ph5 nlr).wide (N' := h5.next) (by omega)
 replace pr := pr.trans (ph5.le (by omega))
 subst hw4
 have q1 := x_q.q1 (G := G)
 simp (disch := omega) only [go_sem,reduceIte,nqD,nqL, fld64_1, Nat.zero_add, q1]
 refine CallO_spec (figures_spec (x := rb a1 a2.natAbs) (N := h5.next) (by rw [st_next]; omega) (by rw [st_next]; omega) (by rw [st_blks]; exact hq2) (s2.sr.le rb_le)) (by omega) (fun _ _ _ h => h) fun w5 h6 ph6 hw5 => ?_
 have nh6 := ph6.next
 replace x_q := x_q.mono (B' := h6.blks) (ph6.get _ (by omega))
 replace hq2 := (hq2.pres ph6 nlr).wide (N' := h6.next) (by omega)
 replace pr := pr.trans (ph6.le (by omega))
 subst hw5
 rw [ln]
 have hl1 := dec_len1 (s1.sr.le (rt_le (n := a1) (d := a2.natAbs)))
 have hl2 := dec_len1 (s2.sr.le (rb_le (n := a1) (d := a2.natAbs)))
 have hd1 := dec_one (d := rb a1 a2.natAbs)
 generalize rt a1 a2.natAbs = tn at *
 generalize rb a1 a2.natAbs = td at *
 have lq : loadv h6.blks h.next 0 = some (.bool (decide (a1 < 0))) := by rw [x_q.load (by simp)]; rfl
 by_cases g1 : (4000 : Int) < ((dec tn).length : Int)
 ·have d1 : decide ((4000 : Int) < ((dec tn).length : Int)) = true := decide_eq_true g1
  simp (disch := omega) only [go_sem,reduceIte,nqD,nqL, len9, d1]
  refine hQ' _ _ ⟨pr, ?_⟩
  have : numOK tn td = false := by simp [numOK]; omega
  rw [this]; rfl
 ·have d1 : decide ((4000 : Int) < ((dec tn).length : Int)) = false := decide_eq_false g1
  by_cases g2 : (4000 : Int) < ((dec td).length : Int)
  ·have d2 : decide ((4000 : Int) < ((dec td).length : Int)) = true := decide_eq_true g2
   simp (disch := omega) only [go_sem,reduceIte,nqD,nqL, len9, d1, d2]
   refine hQ' _ _ ⟨pr, ?_⟩
   have : numOK tn td = false := by simp [numOK]; omega
   rw [this]; rfl
  ·have d2 : decide ((4000 : Int) < ((dec td).length : Int)) = false := decide_eq_false g2
   have hok : numOK tn td = true := by simp [numOK]; omega
   rw [hok] at hQ'
   have ad1 : ∀ {t : TypeId}, binO Tryz.prog (En G) .add t (some (strV [45])) (some (strV (dec tn))) = some (strV (45 :: dec tn)) := add_str (by simp; omega)
   have ad2 : ∀ {t : TypeId}, binO Tryz.prog (En G) .add t (some (strV [47])) (some (strV (dec td))) = some (strV (47 :: dec td)) := add_str (by simp; omega)
   have ad3 : ∀ {t : TypeId}, binO Tryz.prog (En G) .add t (some (strV (dec tn))) (some (strV (47 :: dec td))) = some (strV (dec tn ++ 47 :: dec td)) := add_str (by simp; omega)
   have ad4 : ∀ {t : TypeId}, binO Tryz.prog (En G) .add t (some (strV (45 :: dec tn))) (some (strV (47 :: dec td))) = some (strV (45 :: dec tn ++ 47 :: dec td)) := add_str (by simp; omega)
   by_cases hs : a1 < 0
   ·have ds : decide (a1 < 0) = true := decide_eq_true hs
    rw [ds] at lq hQ'
    by_cases h1 : td = 1
    ·have e1 : decide (dec td ≠ [49]) = false := decide_eq_false (by rw [Ne, hd1]; simp [h1])
     simp (maxSteps := 3000000) (disch := omega) only [go_sem,reduceIte,nqD,nqL, len9, d1, d2, fld64_0, fld60_0, load4, Nat.add_zero, lq, ad1, neq_str, e1]
     exact hQ' _ _ ⟨pr, by simp [numT, h1]⟩
    ·have e1 : decide (dec td ≠ [49]) = true := decide_eq_true (by rw [Ne, hd1]; simp [h1])
     simp (maxSteps := 3000000) (disch := omega) only [go_sem,reduceIte,nqD,nqL, len9, d1, d2, fld64_0, fld60_0, load4, Nat.add_zero, lq, ad1, ad2, ad4, neq_str, e1]
     exact hQ' _ _ ⟨pr, by simp [numT, h1]⟩
   ·have ds : decide (a1 < 0) = false := decide_eq_false hs
    rw [ds] at lq hQ'
    by_cases h1 : td = 1
    ·have e1 : decide (dec td ≠ [49]) = false := decide_eq_false (by rw [Ne, hd1]; simp [h1])
     simp (maxSteps := 3000000) (disch := omega) only [go_sem,reduceIte,nqD,nqL, len9, d1, d2, fld64_0, fld60_0, load4, Nat.add_zero, lq, neq_str, e1]
     exact hQ' _ _ ⟨pr, by simp [numT, h1]⟩
    ·have e1 : decide (dec td ≠ [49]) = true := decide_eq_true (by rw [Ne, hd1]; simp [h1])
     simp (maxSteps := 3000000) (disch := omega) only [go_sem,reduceIte,nqD,nqL, len9, d1, d2, fld64_0, fld60_0, load4, Nat.add_zero, lq, ad2, ad3, neq_str, e1]
     exact hQ' _ _ ⟨pr, by simp [numT, h1]⟩
def isNum (x : List UInt8) (a1 a2 : Int) : Bool := numOK (rt a1 a2.natAbs) (rb a1 a2.natAbs) && decide (x = numT (decide (a1 < 0)) (rt a1 a2.natAbs) (rb a1 a2.natAbs))
set_option maxHeartbeats 8000000 in
theorem Is_spec {G N : Nat} {a1 a2 : Int} {x : List UInt8} {v : Value} {h : H} (hG : G ≤ h.next) (hN : N ≤ h.next) (hv : QV h.blks N a1 a2 v) (s1 : Sd a1.natAbs) (s2 : Sd a2.natAbs) (h0 : 0 < a2) :
  Spec Tryz.prog (En G) 37 [strV x, v] h fun w h' => w = .bool (isNum x a1 a2) := by
 have hv0 := hv.wide hN
 obtain ⟨A1, A2, k1, k2, c1, c2, rfl, hv1, hv2⟩ := hv
 refine CallsE_enter (En_known (by decide)) (En_f.trans Tryz.func37) rfl ⟨Nat.le_of_ble_eq_true rfl, by decide⟩ fun Q' hQ' => ?_
 simp (disch := omega) only [Tryz.f37, go_sem,reduceIte,nqD,nqL]
 refine At_box (v := .agg #[.bool (decide (a1 < 0)), .slice A1 k1 c1, .bool (decide (a2 < 0)), .slice A2 k2 c2]) (by simp only [go_sem,reduceIte,nqD,nqL]) (by omega) fun h1 hnh1 => ?_
 have nh1 := hnh1.next
 have ph1 : Pres h.next h h1 := hnh1.pres nlr
 have x_q : Var h1.blks h.next [.bool (decide (a1 < 0)), .slice A1 k1 c1, .bool (decide (a2 < 0)), .slice A2 k2 c2] := hnh1.var
 have pr : Pres h.next h h1 := ph1
 replace hv0 := (hv0.pres ph1 nlr).wide (N' := h1.next) (by omega)
 have rq := x_q.qn (G := G) rfl
 simp (disch := omega) only [go_sem,reduceIte,nqD,nqL, rq]
 refine CallO_f (Num_ref (N := h1.next) (by omega) nlr hv0 s1 s2 h0) (by omega) fun w2 h2 ph2 hq => ?_
 have nh2 := ph2.next
 replace x_q := x_q.mono (B' := h2.blks) (ph2.get _ (by omega))
 replace pr := pr.trans (ph2.le (by omega))
 subst hq
 have hdef : isNum x a1 a2 = (numOK (rt a1 a2.natAbs) (rb a1 a2.natAbs) && decide (x = numT (decide (a1 < 0)) (rt a1 a2.natAbs) (rb a1 a2.natAbs))) := rfl
 rw [hdef] at hQ'
 generalize numT (decide (a1 < 0)) (rt a1 a2.natAbs) (rb a1 a2.natAbs) = t at *
 cases hok : numOK (rt a1 a2.natAbs) (rb a1 a2.natAbs) with
 | false =>
  rw [hok] at hQ'
  simp (disch := omega) only [go_sem,reduceIte,nqD,nqL]
  exact hQ' _ _ ⟨pr, by simp⟩
 | true =>
  rw [hok] at hQ'
  simp (disch := omega) only [go_sem,reduceIte,nqD,nqL, eql_str]
  exact hQ' _ _ ⟨pr, by simp⟩
end
end Go.Proofs.YthankillfhmfkaaGreatDoor.Ev
