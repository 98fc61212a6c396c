/- The document's own numbers: products. -/
import Derived.Test.YthankillfhmfkaaGreatDoorPmGA
set_option linter.unusedSimpArgs false
set_option linter.unusedVariables false
namespace Go.Proofs.YthankillfhmfkaaGreatDoor.Ev
open Go Go.Proofs Go.Lm
open Nat renaming reduceEqDiff → nqD, reduceLT → nqL
noncomputable section
theorem nats_zeros {n : Nat} : zeros [Value.int .i64 0] n = nats (List.replicate n 0) := by
 induction n with
 | zero => rfl
 | succ n ih => rw [List.replicate_succ]; show Value.int .i64 0 :: zeros [Value.int .i64 0] n = _; rw [ih]; rfl
theorem make_nats {h h1 : H} {n : Nat} (hn : New h h1 (zeros (Value.int .i64 0).cells.toList n) inf3.size) : SlV h1.blks h.next h1.next 1 n (nats (List.replicate n 0)) (.slice (some ⟨h.next, 0, none⟩) n n) := by
 rw [size3] at hn
 have e : zeros (Value.int .i64 0).cells.toList n = nats (List.replicate n 0) := nats_zeros
 rw [e] at hn
 exact hn.slv (by rw [nats_len]; simp)
section
variable {P : Program} {n0 : Nat} {ops : List Oper} {r tl : List Oper} {k : List Frm} {α : Tr Value} {h : H} {R : Rt} {ty : TypeId} {pos : String} {af : Array Edge}
theorem At_natB {G b off lo hi i x n c : Nat} {L : List Nat} {X Y : Operand} (hx : ev (En G) h α X = some (.pointer (some ⟨b, off + i, none⟩))) (hy : ev (En G) h α Y = some (.int .i64 (x : Int)))
  (hs : SlV h.blks lo hi 1 n (nats L) (.slice (some ⟨b, off, none⟩) n c)) (hin : i < n) (hG : G ≤ b)
  (hk : ∀ h', Sto h h' b (off + i) [.int .i64 (x : Int)] → SlV h'.blks lo hi 1 n (nats (L.set i x)) (.slice (some ⟨b, off, none⟩) n c) → At P (En G) n0 ops false r tl k α h' R) :
  At P (En G) n0 ops false (⟨none, .store 3 X Y, ty, pos, af, none⟩ :: r) tl k α h R := by
 have hlen : L.length = n := by have := hs.len; rw [nats_len] at this; omega
 have hs0 := hs
 cases hs with
 | mk gb glo ghi gsz gL gc =>
  refine At_store (inf := inf3) (v := .int .i64 (x : Int)) i3 hx hy (by rw [size3]; rfl) rfl gb (by rw [size3]; omega) (by rw [En_G]; exact hG) fun h' hs' => ?_
  refine hk h' hs' ?_
  have := Sto.slv (j := i) hs' hs0 (by show i + 1 ≤ n * 1; omega)
  have e : (Value.int .i64 (x : Int)).cells.toList.length = 1 := rfl
  rw [e] at this
  have e2 : (Value.int .i64 (x : Int)).cells.toList = [Value.int .i64 (x : Int)] := rfl
  rw [e2, nats_set (by omega)] at this
  exact this
end
theorem carry_zero {P E c V : Nat} (h : P + E * c = V) (hV : V < E) : c = 0 := by
 rcases Nat.eq_zero_or_pos c with h0 | h0
 ·exact h0
 ·have : E * 1 ≤ E * c := Nat.mul_le_mul_left _ h0
  omega
theorem mul_lt_pow {B i n x y : Nat} (hx : x < B ^ i) (hy : y < B ^ n) : x * y < B ^ (i + n) := by
 rw [Nat.pow_add]
 exact Nat.mul_lt_mul'' hx hy
set_option maxHeartbeats 16000000 in
set_option maxRecDepth 100000 in
theorem Mul_spec {G N : Nat} {a b : Int} {v u : Value} {h : H} (hG : G ≤ h.next) (hN : N ≤ h.next) (hv : ZV h.blks N a v) (hu : ZV h.blks N b u) (ha : Sr a.natAbs) (hb : Sr b.natAbs) :
  Spec Tryz.prog (En G) 85 [v, u] h fun w h' => ZV h'.blks h'.next (a * b) w := by
 obtain ⟨l, A, c, rfl, hs, hl, hn, el⟩ := hv
 obtain ⟨m, A', c', rfl, hs', hl', hn', em⟩ := hu
 rw [← el] at ha
 rw [← em] at hb
 have hlen := ha.len hn
 have hlen' := hb.len hn'
 refine CallsE_enter (En_known (by decide)) (En_f.trans Tryz.func85) rfl ⟨Nat.le_of_ble_eq_true rfl, by decide⟩ fun Q' hQ' => ?_
 simp (disch := omega) only [Tryz.f85, go_sem,reduceIte,nqD,nqL]
 refine At_box (v := .agg #[.bool (decide (a < 0)), .slice A l.length c]) (by simp only [go_sem,reduceIte,nqD,nqL]) (by omega) fun h1 hn1 => ?_
 have n1 := hn1.next
 have pr1 : Pres h.next h h1 := hn1.pres nlr
 have x1 : Var h1.blks h.next [.bool (decide (a < 0)), .slice A l.length c] := hn1.var
 try simp (disch := omega) only [go_sem,reduceIte,nqD,nqL]
 refine At_box (v := .agg #[.bool (decide (b < 0)), .slice A' m.length c']) (by simp only [go_sem,reduceIte,nqD,nqL]) (by omega) fun h2 hn2 => ?_
 have n2 := hn2.next
 have pr2 : Pres h.next h h2 := pr1.trans ((hn2.pres nlr).le (by omega))
 have x2 : Var h2.blks h1.next [.bool (decide (b < 0)), .slice A' m.length c'] := hn2.var
 replace x1 := x1.mono (B' := h2.blks) (by rw [hn2.get, if_neg (by omega)])
 try simp (disch := omega) only [go_sem,reduceIte,nqD,nqL]
 refine At_alloc i60 zero60 rfl (by omega) fun h3 hn3 => ?_
 have n3 := hn3.next
 have pr3 : Pres h.next h h3 := pr2.trans ((hn3.pres nlr).le (by omega))
 have x3 : Var h3.blks h2.next [.bool false, .slice none 0 0] := hn3.var
 replace x1 := x1.mono (B' := h3.blks) (by rw [hn3.get, if_neg (by omega)])
 replace x2 := x2.mono (B' := h3.blks) (by rw [hn3.get, if_neg (by omega)])
 have hs1 := hs.mono (B' := h3.blks) fun b _ hb => pr3.get b (by omega)
 have hs2 := hs'.mono (B' := h3.blks) fun b _ hb => pr3.get b (by omega)
 clear hn1 hn2 hn3
 have LD : ∀ {hh : H}, Pres h3.next h3 hh → loadv hh.blks h.next 0 = some (.bool (decide (a < 0))) ∧ loadv hh.blks h.next 1 = some (.slice A l.length c) ∧ loadv hh.blks h1.next 0 = some (.bool (decide (b < 0))) ∧ loadv hh.blks h1.next 1 = some (.slice A' m.length c') := fun {hh} p => by
  have y1 := x1.mono (B' := hh.blks) (p.get _ (by omega))
  have y2 := x2.mono (B' := hh.blks) (p.get _ (by omega))
  exact ⟨by rw [y1.load (by simp)]; rfl, by rw [y1.load (by simp)]; rfl, by rw [y2.load (by simp)]; rfl, by rw [y2.load (by simp)]; rfl⟩
 obtain ⟨l10, l11, l20, l21⟩ := LD (Pres.refl h3.next h3)
 have w0 : IntKind.i64.wrap ((l.length : Int) + (m.length : Int)) = ((l.length + m.length : Nat) : Int) := wrap_nat (by omega) (by omega)
 have w1 : IntKind.i64.wrap (((l.length + m.length : Nat) : Int) + 1) = ((l.length + m.length + 1 : Nat) : Int) := wrap_nat (by omega) (by omega)
 simp (disch := omega) only [go_sem,reduceIte,nqD,nqL, fld60_1, load34, Nat.zero_add, l11, l21, len34, w0, w1]
 generalize hMx : l.length + m.length + 1 = M at *
 refine At_make (k1 := .i64) (k2 := .i64) (l := M) (c := M) u34 i3 zero3 (by rw [size3, bytes3]; rfl) (by simp only [go_sem,reduceIte,nqD,nqL]) (by simp only [go_sem,reduceIte,nqD,nqL]) nlr (by rw [size3]; omega) (by omega) (by omega) fun h4 hn4 => ?_
 have n4 := hn4.next
 have b4 := make_nats hn4
 have pr4 : Pres h3.next h3 h4 := hn4.pres nlr
 clear hn4
 simp (disch := omega) only [go_sem,reduceIte,nqD,nqL]
 refine WK_loopN (fun j α h5 => ∃ (i : Nat) (L : List Nat), i + j = l.length ∧ α.get 2 = some (.pointer (some ⟨h.next, 0, none⟩)) ∧ α.get 3 = some (.pointer (some ⟨h1.next, 0, none⟩)) ∧ α.get 4 = some (.pointer (some ⟨h2.next, 0, none⟩)) ∧ α.get 5 = some (.slice (some ⟨h3.next, 0, none⟩) M M) ∧ α.get 6 = some (.int .i64 (i : Int)) ∧
   SlV h5.blks h3.next h4.next 1 M (nats L) (.slice (some ⟨h3.next, 0, none⟩) M M) ∧ L.length = M ∧ Lim 10000 L ∧ nv 10000 L = nv 10000 (l.take i) * nv 10000 m ∧ Pres h3.next h3 h5 ∧ h5.next = h4.next) l.length
  ⟨0, List.replicate M 0, by omega, by simp only [go_sem,reduceIte,nqD,nqL], by simp only [go_sem,reduceIte,nqD,nqL], by simp only [go_sem,reduceIte,nqD,nqL], by simp only [go_sem,reduceIte,nqD,nqL], by (simp only [go_sem,reduceIte,nqD,nqL]) <;> rfl, b4, by simp, Lim.zeros (by omega), by rw [nv_zeros]; simp [nv], pr4, rfl⟩ (by omega) ?_
 clear b4 pr4 l10 l11 l20 l21
 rintro J j α h5 ⟨i, L, hij, e2, e3, e4, e5, e6, hb, hL, hlL, hinv, pr5, hnx⟩ hJ
 obtain ⟨l10, l11, l20, l21⟩ := LD pr5
 have w6 : IntKind.i64.wrap ((i : Int) + 1) = ((i + 1 : Nat) : Int) := wrap_nat (by omega) (by omega)
 by_cases hlt : (i : Int) < l.length
 ·obtain ⟨x, hx'⟩ := limb_at (l := l) (i := i) (by omega)
  have hxl := hl.get hx'
  simp (disch := omega) only [go_sem,reduceIte,nqD,nqL, e2, e3, e4, e5, e6, fld60_1, load34, Nat.zero_add, l11, len34, hlt]
  refine WK_loopN (fun j2 β h6 => ∃ (k carry : Nat) (L : List Nat), k + j2 = m.length + 1 ∧ (k ≤ m.length ∨ carry = 0) ∧ β.get 2 = some (.pointer (some ⟨h.next, 0, none⟩)) ∧ β.get 3 = some (.pointer (some ⟨h1.next, 0, none⟩)) ∧ β.get 4 = some (.pointer (some ⟨h2.next, 0, none⟩)) ∧ β.get 5 = some (.slice (some ⟨h3.next, 0, none⟩) M M) ∧ β.get 6 = some (.int .i64 (i : Int)) ∧ β.get 7 = some (.int .i64 (carry : Int)) ∧ β.get 8 = some (.int .i64 (k : Int)) ∧
    SlV h6.blks h3.next h4.next 1 M (nats L) (.slice (some ⟨h3.next, 0, none⟩) M M) ∧ L.length = M ∧ Lim 10000 L ∧ carry ≤ 9999 ∧ nv 10000 L + 10000 ^ (i + k) * carry = nv 10000 (l.take i) * nv 10000 m + 10000 ^ i * (x * nv 10000 (m.take k)) ∧ Pres h3.next h3 h6 ∧ h6.next = h4.next) (m.length + 1)
   ⟨0, 0, L, by omega, by omega, by simp only [go_sem,reduceIte,nqD,nqL, e2], by simp only [go_sem,reduceIte,nqD,nqL, e3], by simp only [go_sem,reduceIte,nqD,nqL, e4], by simp only [go_sem,reduceIte,nqD,nqL, e5], by simp only [go_sem,reduceIte,nqD,nqL, e6], by (simp only [go_sem,reduceIte,nqD,nqL]) <;> rfl, by (simp only [go_sem,reduceIte,nqD,nqL]) <;> rfl, hb, hL, hlL, by omega, by rw [hinv]; simp [nv], pr5, hnx⟩ (by omega) ?_
  clear e2 e3 e4 e5 e6 l10 l11 l20 l21 hb hinv hlL hL pr5 hnx
  rintro J2 j2 β h6 ⟨k, carry, L, hkj, hkc, e2, e3, e4, e5, e6, e7, e8, hb, hL, hlL, hc9, hinv, pr6, hnx⟩ hJ2
  obtain ⟨l10, l11, l20, l21⟩ := LD pr6
  by_cases hgo : k < m.length ∨ 0 < carry
  ·have hkm : k ≤ m.length := by omega
   obtain ⟨p, hp⟩ := limb_at (l := L) (i := i + k) (by omega)
   have hpl := hlL.get hp
   have hld : loadv h6.blks h3.next (0 + (i + k)) = some (.int .i64 (p : Int)) := by
    obtain ⟨b9, o9, e9, _, _, q⟩ := nats_at hb hp
    injection e9 with e9
    injection e9 with q1 q2
    subst q1; subst q2; exact q
   rw [Nat.zero_add] at hld
   have wik : IntKind.i64.wrap ((i : Int) + (k : Int)) = ((i + k : Nat) : Int) := wrap_nat (by omega) (by omega)
   have w5 : IntKind.i64.wrap ((p : Int) + (carry : Int)) = ((p + carry : Nat) : Int) := wrap_nat (by omega) (by omega)
   have w8 : IntKind.i64.wrap ((k : Int) + 1) = ((k + 1 : Nat) : Int) := wrap_nat (by omega) (by omega)
   have hym := getD_lt (i := k) (by omega) hl'
   have hxy : x * m.getD k 0 ≤ 99980001 := Nat.mul_le_mul (show x ≤ 9999 by omega) (show m.getD k 0 ≤ 9999 by omega)
   have hmt : nv 10000 (m.take (k + 1)) = nv 10000 (m.take k) + 10000 ^ k * m.getD k 0 := nv_take_getD
   have hset := nv_set (B := 10000) (x := (carry + (x * m.getD k 0 + p)) % 10000) hp
   have hst := mul_step hinv hset
   have hrem : (((carry + (x * m.getD k 0 + p) : Nat)) : Int).tmod 10000 = (((carry + (x * m.getD k 0 + p)) % 10000 : Nat) : Int) := by
    rw [Int.tmod_eq_emod_of_nonneg (by omega)]; rfl
   have hdiv : (((carry + (x * m.getD k 0 + p) : Nat)) : Int).tdiv 10000 = (((carry + (x * m.getD k 0 + p)) / 10000 : Nat) : Int) := by
    rw [Int.tdiv_eq_ediv_of_nonneg (by omega)]; rfl
   have w4 : IntKind.i64.wrap (((carry + (x * m.getD k 0 + p)) / 10000 : Nat) : Int) = (((carry + (x * m.getD k 0 + p)) / 10000 : Nat) : Int) := wrap_nat rfl (by omega)
   have next : ∀ (β' : Tr Value) (h7 : H), β'.get 2 = some (.pointer (some ⟨h.next, 0, none⟩)) → β'.get 3 = some (.pointer (some ⟨h1.next, 0, none⟩)) → β'.get 4 = some (.pointer (some ⟨h2.next, 0, none⟩)) → β'.get 5 = some (.slice (some ⟨h3.next, 0, none⟩) M M) → β'.get 6 = some (.int .i64 (i : Int)) → β'.get 7 = some (.int .i64 (((carry + (x * m.getD k 0 + p)) / 10000 : Nat) : Int)) → β'.get 8 = some (.int .i64 ((k + 1 : Nat) : Int)) →
     Sto h6 h7 h3.next (0 + (i + k)) [.int .i64 (((carry + (x * m.getD k 0 + p)) % 10000 : Nat) : Int)] → SlV h7.blks h3.next h4.next 1 M (nats (L.set (i + k) ((carry + (x * m.getD k 0 + p)) % 10000))) (.slice (some ⟨h3.next, 0, none⟩) M M) → J2 β' h7 := fun β' h7 f2 f3 f4 f5 f6 f7 f8 hs7 hb7 => by
    have hnew : nv 10000 (L.set (i + k) ((carry + (x * m.getD k 0 + p)) % 10000)) + 10000 ^ (i + (k + 1)) * ((carry + (x * m.getD k 0 + p)) / 10000) = nv 10000 (l.take i) * nv 10000 m + 10000 ^ i * (x * nv 10000 (m.take (k + 1))) := by
     rw [hmt]; exact hst
    refine hJ2 (j2 - 1) _ _ (by omega) ⟨k + 1, _, _, by omega, ?_, f2, f3, f4, f5, f6, f7, f8, hb7, by rw [List.length_set]; exact hL, hlL.set (Nat.mod_lt _ (by omega)), by omega, hnew, pr6.trans (hs7.pres nlr), hs7.next.trans hnx⟩
    rcases Nat.lt_or_ge k m.length with h1 | h1
    ·exact .inl h1
    ·right
     refine carry_zero hnew ?_
     rw [List.take_of_length_le (l := m) (by omega)]
     have e1 : nv 10000 (l.take i) * nv 10000 m + 10000 ^ i * (x * nv 10000 m) = nv 10000 (l.take (i + 1)) * nv 10000 m := by
      rw [nv_take_succ hx', Nat.add_mul, Nat.mul_assoc]
     rw [e1]
     have e2 := nv_lt (hl.take (n := i + 1))
     have e3 := nv_lt hl'
     rw [show (l.take (i + 1)).length = i + 1 by rw [List.length_take]; omega] at e2
     have := mul_lt_pow e2 e3
     rw [show i + (k + 1) = i + 1 + m.length by omega]
     exact this
   by_cases c1 : k < m.length
   ·have g1 : decide ((k : Int) < (m.length : Int)) = true := decide_eq_true (by omega)
    obtain ⟨y, hy⟩ := limb_at (l := m) (i := k) (by omega)
    have ey : y = m.getD k 0 := by rw [List.getD_eq_getElem?_getD, hy]; rfl
    have hq1 := hs1.mono (B' := h6.blks) fun b _ hb => pr6.get b (by omega)
    have hq2 := hs2.mono (B' := h6.blks) fun b _ hb => pr6.get b (by omega)
    obtain ⟨b1, o1, rfl, _, _, la⟩ := nats_at hq1 hx'
    obtain ⟨b2, o2, rfl, _, _, lb⟩ := nats_at hq2 hy
    rw [ey] at lb
    have wm : IntKind.i64.wrap ((x : Int) * ((m.getD k 0 : Nat) : Int)) = ((x * m.getD k 0 : Nat) : Int) := wrap_nat (by simp) (by omega)
    have ws : IntKind.i64.wrap (((p + carry : Nat) : Int) + ((x * m.getD k 0 : Nat) : Int)) = ((carry + (x * m.getD k 0 + p) : Nat) : Int) := wrap_nat (by omega) (by omega)
    simp (disch := omega) only [go_sem,reduceIte,nqD,nqL, e2, e3, e4, e5, e6, e7, e8, fld60_1, load34, Nat.zero_add, l21, len34, g1, wik, idxA34, Int.toNat_natCast, Nat.mul_one, load3, hld, w5]
    refine WK_regionT 11 ⟨by kernel_rfl, by kernel_rfl, by kernel_rfl⟩ ?_
    simp (maxSteps := 2000000) (disch := omega) only [go_sem,reduceIte,nqD,nqL, e2, e3, e4, e5, e6, e7, e8, fld60_1, load34, Nat.zero_add, l11, l21, idxA34, Int.toNat_natCast, Nat.mul_one, load3, la, lb, wm, ws, wik, hrem, hdiv, w4]
    refine At_natB (b := h3.next) (off := 0) (i := i + k) (x := (carry + (x * m.getD k 0 + p)) % 10000) (by (simp only [go_sem,reduceIte,nqD,nqL]) <;> rw [Nat.zero_add]) (by simp only [go_sem,reduceIte,nqD,nqL]) hb (by omega) (by omega) fun h7 hs7 hb7 => ?_
    simp (disch := omega) only [go_sem,reduceIte,nqD,nqL, e2, e3, e4, e5, e6, e8, w8]
    exact next _ _ (by simp only [go_sem,reduceIte,nqD,nqL, e2]) (by simp only [go_sem,reduceIte,nqD,nqL, e3]) (by simp only [go_sem,reduceIte,nqD,nqL, e4]) (by simp only [go_sem,reduceIte,nqD,nqL, e5]) (by simp only [go_sem,reduceIte,nqD,nqL, e6]) (by simp only [go_sem,reduceIte,nqD,nqL]) (by simp only [go_sem,reduceIte,nqD,nqL]) hs7 hb7
   ·have g1 : decide ((k : Int) < (m.length : Int)) = false := decide_eq_false (by omega)
    have g2 : decide ((0 : Int) < (carry : Int)) = true := decide_eq_true (by omega)
    have ey : m.getD k 0 = 0 := by rw [List.getD_eq_getElem?_getD, List.getElem?_eq_none (by omega)]; rfl
    have es : p + carry = carry + (x * m.getD k 0 + p) := by rw [ey, Nat.mul_zero]; omega
    rw [es] at w5
    simp (disch := omega) only [go_sem,reduceIte,nqD,nqL, e2, e3, e4, e5, e6, e7, e8, fld60_1, load34, Nat.zero_add, l21, len34, g1, g2, wik, idxA34, Int.toNat_natCast, Nat.mul_one, load3, hld, w5, hrem, hdiv, w4]
    refine At_natB (b := h3.next) (off := 0) (i := i + k) (x := (carry + (x * m.getD k 0 + p)) % 10000) (by (simp only [go_sem,reduceIte,nqD,nqL]) <;> rw [Nat.zero_add]) (by simp only [go_sem,reduceIte,nqD,nqL]) hb (by omega) (by omega) fun h7 hs7 hb7 => ?_
    simp (disch := omega) only [go_sem,reduceIte,nqD,nqL, e2, e3, e4, e5, e6, e8, w8]
    exact next _ _ (by simp only [go_sem,reduceIte,nqD,nqL, e2]) (by simp only [go_sem,reduceIte,nqD,nqL, e3]) (by simp only [go_sem,reduceIte,nqD,nqL, e4]) (by simp only [go_sem,reduceIte,nqD,nqL, e5]) (by simp only [go_sem,reduceIte,nqD,nqL, e6]) (by simp only [go_sem,reduceIte,nqD,nqL]) (by simp only [go_sem,reduceIte,nqD,nqL]) hs7 hb7
  ·have g1 : decide ((k : Int) < (m.length : Int)) = false := decide_eq_false (by omega)
   have g2 : decide ((0 : Int) < (carry : Int)) = false := decide_eq_false (by omega)
   have hc0 : carry = 0 := by omega
   simp (disch := omega) only [go_sem,reduceIte,nqD,nqL, e2, e3, e4, e5, e6, e7, e8, fld60_1, load34, Nat.zero_add, l21, len34, g1, g2, w6]
   refine hJ (j - 1) _ _ (by omega) ⟨i + 1, L, by omega, by simp only [go_sem,reduceIte,nqD,nqL, e2], by simp only [go_sem,reduceIte,nqD,nqL, e3], by simp only [go_sem,reduceIte,nqD,nqL, e4], by simp only [go_sem,reduceIte,nqD,nqL, e5], by simp only [go_sem,reduceIte,nqD,nqL], hb, hL, hlL, ?_, pr6, hnx⟩
   rw [hc0, Nat.mul_zero, Nat.add_zero, List.take_of_length_le (l := m) (by omega)] at hinv
   rw [hinv, nv_take_succ hx', Nat.add_mul, Nat.mul_assoc]
 ·obtain rfl : i = l.length := by omega
  rw [List.take_of_length_le nlr] at hinv
  simp (disch := omega) only [go_sem,reduceIte,nqD,nqL, e2, e3, e4, e5, e6, fld60_0, fld60_1, load4, load34, Nat.zero_add, l10, l11, l20, len34, hlt, neq_bool, build60]
  have hlean := lean_spec (G := G) (N := h4.next) (s := (decide (a < 0) != decide (b < 0))) (l := L) (A := some ⟨h3.next, 0, none⟩) (c := M) (h := h5) (by omega) (by omega) hlL (by rw [hL]; exact hb.wide (Nat.zero_le _) nlr) (by omega)
  rw [hL] at hlean
  refine CallO_f hlean (by omega) fun w6 h6 pr6 hw6 => ?_
  have n6 := pr6.next
  obtain ⟨A5, nl5, c5, e5'⟩ := hw6.shape
  subst e5'
  have y3 := x3.mono (B' := h6.blks) ((pr6.get _ (by omega)).trans (pr5.get _ (by omega)))
  try simp (disch := omega) only [go_sem,reduceIte,nqD,nqL, e4]
  refine At_storeV (inf := inf60) (v := .agg #[.bool ((decide (a < 0) != decide (b < 0)) && decide (nv 10000 L ≠ 0)), .slice A5 nl5 c5]) i60 (by simp only [go_sem,reduceIte,nqD,nqL, e4]) (by simp only [go_sem,reduceIte,nqD,nqL]) y3 (by rw [size60]; rfl) (by rw [size60]; rfl) rfl (by show G ≤ h2.next; omega) fun h7 hs7 v7 => ?_
  have n7 := hs7.next
  have r7 := v7.znE (G := G) rfl
  simp (disch := omega) only [go_sem,reduceIte,nqD,nqL, e4, r7]
  have hnab : nv 10000 L = (a * b).natAbs := by rw [hinv, el, em, Int.natAbs_mul]
  refine hQ' _ _ ⟨(pr3.trans (pr5.le (by omega))).trans ((pr6.le (by omega)).trans (hs7.pres (by omega))), ?_⟩
  refine ((hw6.congr ?_ hnab).sto hs7 y3 noI_s).wide (by omega)
  rw [hnab]
  by_cases ha0 : a < 0 <;> by_cases hb0 : b < 0
  ·have : 0 < a * b := Int.mul_pos_of_neg_of_neg ha0 hb0
   simp [ha0, hb0]; omega
  ·by_cases hb1 : b = 0
   ·subst hb1; simp [ha0]
   ·have : a * b < 0 := Int.mul_neg_of_neg_of_pos ha0 (by omega)
    simp [ha0, hb0, this]; omega
  ·by_cases ha1 : a = 0
   ·subst ha1; simp [hb0]
   ·have : a * b < 0 := Int.mul_neg_of_pos_of_neg (by omega) hb0
    simp [ha0, hb0, this]; omega
  ·have : 0 ≤ a * b := Int.mul_nonneg (by omega) (by omega)
   simp [ha0, hb0]; omega
end
end Go.Proofs.YthankillfhmfkaaGreatDoor.Ev
namespace Go.Proofs.YthankillfhmfkaaGreatDoor.Ev
open Go Go.Proofs Go.Lm
open Nat renaming reduceEqDiff → nqD, reduceLT → nqL
noncomputable section
theorem Var.q0 {B : Tr Blk} {b : Nat} {v0 v1 v2 v3 : Value} (v : Var B b [v0, v1, v2, v3]) {G : Nat} : loadO (En G) 60 B (some (.pointer (some ⟨b, 0, none⟩))) = some (.agg #[v0, v1]) := by
 obtain ⟨c, e, h1, h2⟩ := v
 exact loadO_agg (L := [v0, v1]) agg60 i60 h1 (by rw [size60]; show 0 + 2 ≤ 4; omega) (by rw [size60]; rfl) fun i hi => by
  rw [size60] at hi
  rw [Nat.zero_add, h2 i (by show i < 4; omega)]
  match i, hi with
  | 0, _ => rfl
  | 1, _ => rfl
theorem Var.q1 {B : Tr Blk} {b : Nat} {v0 v1 v2 v3 : Value} (v : Var B b [v0, v1, v2, v3]) {G : Nat} : loadO (En G) 60 B (some (.pointer (some ⟨b, 2, none⟩))) = some (.agg #[v2, v3]) := by
 obtain ⟨c, e, h1, h2⟩ := v
 exact loadO_agg (L := [v2, v3]) agg60 i60 h1 (by rw [size60]; show 2 + 2 ≤ 4; omega) (by rw [size60]; rfl) fun i hi => by
  rw [size60] at hi
  rw [h2 (2 + i) (by show 2 + i < 4; omega)]
  match i, hi with
  | 0, _ => rfl
  | 1, _ => rfl
end
end Go.Proofs.YthankillfhmfkaaGreatDoor.Ev
namespace Go.Proofs.YthankillfhmfkaaGreatDoor.Ev
open Go Go.Proofs Go.Lm
open Nat renaming reduceEqDiff → nqD, reduceLT → nqL
noncomputable section
def Dk (x : Nat) : Prop := ∃ k, k ≤ 3999 ∧ x < 10 ^ (k + 1)
theorem Dk.len {x : Nat} (h : Dk x) : (dec x).length ≤ 4000 := by
 obtain ⟨k, h1, h2⟩ := h
 exact Nat.le_trans (dec_len h2) (by omega)
end
end Go.Proofs.YthankillfhmfkaaGreatDoor.Ev
namespace Go.Proofs.YthankillfhmfkaaGreatDoor.Ev
open Go Go.Proofs Go.Lm
open Nat renaming reduceEqDiff → nqD, reduceLT → nqL
noncomputable section
theorem QV.shape {B : Tr Blk} {N : Nat} {a b : Int} {v : Value} (x : QV B N a b v) : ∃ (A A' : Option Addr) (n n' c c' : Nat), v = .agg #[.bool (decide (a < 0)), .slice A n c, .bool (decide (b < 0)), .slice A' n' c'] := by
 obtain ⟨A, A', n, n', c, c', e, _⟩ := x
 exact ⟨A, A', n, n', c, c', e⟩
end
end Go.Proofs.YthankillfhmfkaaGreatDoor.Ev
