/- The document's own numbers: products. -/
import Derived.Test.YthankillfhmfkaaGreatDoorPmGA
set_option linter.unusedSimpArgs false
set_option linter.unusedVariables false
namespace Go.Proofs.YthankillfhmfkaaGreatDoor.Ev
open Go Go.Proofs Go.Lm
noncomputable section
theorem nats_zeros {n : Nat} : zeros [Value.int .i64 0] n = nats (List.replicate n 0) := by
  induction n with
  | zero => rfl
  | succ n ih => rw [List.replicate_succ]; show Value.int .i64 0 :: zeros [Value.int .i64 0] n = _; rw [ih]; rfl
theorem make_nats {h h1 : H} {n : Nat} (hn : New h h1 (zeros (Value.int .i64 0).cells.toList n) inf3.size) : SlV h1.blks h.next h1.next 1 n (nats (List.replicate n 0)) (.slice (some ⟨h.next, 0, none⟩) n n) := by
  rw [size3] at hn
  have e : zeros (Value.int .i64 0).cells.toList n = nats (List.replicate n 0) := nats_zeros
  rw [e] at hn
  exact hn.slv (by rw [nats_len]; simp)
section
variable {P : Program} {n0 : Nat} {ops : List Oper} {r tl : List Oper} {k : List Frm} {α : Tr Value} {h : H} {R : Rt} {ty : TypeId} {pos : String} {af : Array Edge}
theorem At_natB {G b off lo hi i x n c : Nat} {L : List Nat} {X Y : Operand} (hx : ev (En G) h α X = some (.pointer (some ⟨b, off + i, none⟩))) (hy : ev (En G) h α Y = some (.int .i64 (x : Int)))
    (hs : SlV h.blks lo hi 1 n (nats L) (.slice (some ⟨b, off, none⟩) n c)) (hin : i < n) (hG : G ≤ b)
    (hk : ∀ h', Sto h h' b (off + i) [.int .i64 (x : Int)] → SlV h'.blks lo hi 1 n (nats (L.set i x)) (.slice (some ⟨b, off, none⟩) n c) → At P (En G) n0 ops false r tl k α h' R) :
    At P (En G) n0 ops false (⟨none, .store 3 X Y, ty, pos, af, none⟩ :: r) tl k α h R := by
  have hlen : L.length = n := by have := hs.len; rw [nats_len] at this; omega
  have hs0 := hs
  cases hs with
  | mk gb glo ghi gsz gL gc =>
    refine At_store (inf := inf3) (v := .int .i64 (x : Int)) i3 hx hy (by rw [size3]; rfl) rfl gb (by rw [size3]; omega) (by rw [En_G]; exact hG) fun h' hs' => ?_
    refine hk h' hs' ?_
    have := Sto.slv (j := i) hs' hs0 (by show i + 1 ≤ n * 1; omega)
    have e : (Value.int .i64 (x : Int)).cells.toList.length = 1 := rfl
    rw [e] at this
    have e2 : (Value.int .i64 (x : Int)).cells.toList = [Value.int .i64 (x : Int)] := rfl
    rw [e2, nats_set (by omega)] at this
    exact this
end
theorem carry_zero {P E c V : Nat} (h : P + E * c = V) (hV : V < E) : c = 0 := by
  rcases Nat.eq_zero_or_pos c with h0 | h0
  · exact h0
  · have : E * 1 ≤ E * c := Nat.mul_le_mul_left _ h0
    omega
theorem mul_lt_pow {B i n x y : Nat} (hx : x < B ^ i) (hy : y < B ^ n) : x * y < B ^ (i + n) := by
  rw [Nat.pow_add]
  exact Nat.mul_lt_mul'' hx hy
set_option maxHeartbeats 16000000 in
set_option maxRecDepth 100000 in
theorem Mul_spec {G N : Nat} {a b : Int} {v u : Value} {h : H} (hG : G ≤ h.next) (hN : N ≤ h.next) (hv : ZV h.blks N a v) (hu : ZV h.blks N b u) (ha : Sr a.natAbs) (hb : Sr b.natAbs) :
    Spec Tryz.prog (En G) 85 [v, u] h fun w h' => ZV h'.blks h'.next (a * b) w := by
  obtain ⟨l, A, c, rfl, hs, hl, hn, el⟩ := hv
  obtain ⟨m, A', c', rfl, hs', hl', hn', em⟩ := hu
  rw [← el] at ha
  rw [← em] at hb
  have hlen := ha.len hn
  have hlen' := hb.len hn'
  refine CallsE_enter (En_known (by decide)) (En_f.trans Tryz.func85) rfl ⟨Nat.le_of_ble_eq_true rfl, by decide⟩ fun Q' hQ' => ?_
  simp (disch := omega) only [Tryz.f85, go_sem,reduceIte,Nat.reduceEqDiff,Nat.reduceLT]
  refine At_box (v := .agg #[.bool (decide (a < 0)), .slice A l.length c]) (by simp only [go_sem,reduceIte,Nat.reduceEqDiff,Nat.reduceLT]) (by omega) fun h1 hn1 => ?_
  have n1 := hn1.next
  have pr1 : Pres h.next h h1 := hn1.pres (Nat.le_refl _)
  have x1 : Var h1.blks h.next [.bool (decide (a < 0)), .slice A l.length c] := hn1.var
  try simp (disch := omega) only [go_sem,reduceIte,Nat.reduceEqDiff,Nat.reduceLT]
  refine At_box (v := .agg #[.bool (decide (b < 0)), .slice A' m.length c']) (by simp only [go_sem,reduceIte,Nat.reduceEqDiff,Nat.reduceLT]) (by omega) fun h2 hn2 => ?_
  have n2 := hn2.next
  have pr2 : Pres h.next h h2 := pr1.trans ((hn2.pres (Nat.le_refl _)).le (by omega))
  have x2 : Var h2.blks h1.next [.bool (decide (b < 0)), .slice A' m.length c'] := hn2.var
  replace x1 := x1.mono (B' := h2.blks) (by rw [hn2.get, if_neg (by omega)])
  try simp (disch := omega) only [go_sem,reduceIte,Nat.reduceEqDiff,Nat.reduceLT]
  refine At_alloc i60 zero60 rfl (by omega) fun h3 hn3 => ?_
  have n3 := hn3.next
  have pr3 : Pres h.next h h3 := pr2.trans ((hn3.pres (Nat.le_refl _)).le (by omega))
  have x3 : Var h3.blks h2.next [.bool false, .slice none 0 0] := hn3.var
  replace x1 := x1.mono (B' := h3.blks) (by rw [hn3.get, if_neg (by omega)])
  replace x2 := x2.mono (B' := h3.blks) (by rw [hn3.get, if_neg (by omega)])
  have hs1 := hs.mono (B' := h3.blks) fun b _ hb => pr3.get b (by omega)
  have hs2 := hs'.mono (B' := h3.blks) fun b _ hb => pr3.get b (by omega)
  clear hn1 hn2 hn3
  have LD : ∀ {hh : H}, Pres h3.next h3 hh → loadv hh.blks h.next 0 = some (.bool (decide (a < 0))) ∧ loadv hh.blks h.next 1 = some (.slice A l.length c) ∧ loadv hh.blks h1.next 0 = some (.bool (decide (b < 0))) ∧ loadv hh.blks h1.next 1 = some (.slice A' m.length c') := fun {hh} p => by
    have y1 := x1.mono (B' := hh.blks) (p.get _ (by omega))
    have y2 := x2.mono (B' := hh.blks) (p.get _ (by omega))
    exact ⟨by rw [y1.load (by simp)]; rfl, by rw [y1.load (by simp)]; rfl, by rw [y2.load (by simp)]; rfl, by rw [y2.load (by simp)]; rfl⟩
  obtain ⟨l10, l11, l20, l21⟩ := LD (Pres.refl h3.next h3)
  have w0 : IntKind.i64.wrap ((l.length : Int) + (m.length : Int)) = ((l.length + m.length : Nat) : Int) := wrap_nat (by omega) (by omega)
  have w1 : IntKind.i64.wrap (((l.length + m.length : Nat) : Int) + 1) = ((l.length + m.length + 1 : Nat) : Int) := wrap_nat (by omega) (by omega)
  simp (disch := omega) only [go_sem,reduceIte,Nat.reduceEqDiff,Nat.reduceLT, fld60_1, load34, Nat.zero_add, l11, l21, len34, w0, w1]
  generalize hMx : l.length + m.length + 1 = M at *
  refine At_make (k1 := .i64) (k2 := .i64) (l := M) (c := M) u34 i3 zero3 (by rw [size3, bytes3]; rfl) (by simp only [go_sem,reduceIte,Nat.reduceEqDiff,Nat.reduceLT]) (by simp only [go_sem,reduceIte,Nat.reduceEqDiff,Nat.reduceLT]) (Nat.le_refl _) (by rw [size3]; omega) (by omega) (by omega) fun h4 hn4 => ?_
  have n4 := hn4.next
  have b4 := make_nats hn4
  have pr4 : Pres h3.next h3 h4 := hn4.pres (Nat.le_refl _)
  clear hn4
  simp (disch := omega) only [go_sem,reduceIte,Nat.reduceEqDiff,Nat.reduceLT]
  refine WK_loopN (fun j α h5 => ∃ (i : Nat) (L : List Nat), i + j = l.length ∧ α.get 2 = some (.pointer (some ⟨h.next, 0, none⟩)) ∧ α.get 3 = some (.pointer (some ⟨h1.next, 0, none⟩)) ∧ α.get 4 = some (.pointer (some ⟨h2.next, 0, none⟩)) ∧ α.get 5 = some (.slice (some ⟨h3.next, 0, none⟩) M M) ∧ α.get 6 = some (.int .i64 (i : Int)) ∧
      SlV h5.blks h3.next h4.next 1 M (nats L) (.slice (some ⟨h3.next, 0, none⟩) M M) ∧ L.length = M ∧ Lim 10000 L ∧ nv 10000 L = nv 10000 (l.take i) * nv 10000 m ∧ Pres h3.next h3 h5 ∧ h5.next = h4.next) l.length
    ⟨0, List.replicate M 0, by omega, by simp only [go_sem,reduceIte,Nat.reduceEqDiff,Nat.reduceLT], by simp only [go_sem,reduceIte,Nat.reduceEqDiff,Nat.reduceLT], by simp only [go_sem,reduceIte,Nat.reduceEqDiff,Nat.reduceLT], by simp only [go_sem,reduceIte,Nat.reduceEqDiff,Nat.reduceLT], by (simp only [go_sem,reduceIte,Nat.reduceEqDiff,Nat.reduceLT]) <;> rfl, b4, by simp, Lim.zeros (by omega), by rw [nv_zeros]; simp [nv], pr4, rfl⟩ (by omega) ?_
  clear b4 pr4 l10 l11 l20 l21
  rintro J j α h5 ⟨i, L, hij, e2, e3, e4, e5, e6, hb, hL, hlL, hinv, pr5, hnx⟩ hJ
  obtain ⟨l10, l11, l20, l21⟩ := LD pr5
  have w6 : IntKind.i64.wrap ((i : Int) + 1) = ((i + 1 : Nat) : Int) := wrap_nat (by omega) (by omega)
  by_cases hlt : (i : Int) < l.length
  · obtain ⟨x, hx'⟩ := limb_at (l := l) (i := i) (by omega)
    have hxl := hl.get hx'
    simp (disch := omega) only [go_sem,reduceIte,Nat.reduceEqDiff,Nat.reduceLT, e2, e3, e4, e5, e6, fld60_1, load34, Nat.zero_add, l11, len34, hlt]
    refine WK_loopN (fun j2 β h6 => ∃ (k carry : Nat) (L : List Nat), k + j2 = m.length + 1 ∧ (k ≤ m.length ∨ carry = 0) ∧ β.get 2 = some (.pointer (some ⟨h.next, 0, none⟩)) ∧ β.get 3 = some (.pointer (some ⟨h1.next, 0, none⟩)) ∧ β.get 4 = some (.pointer (some ⟨h2.next, 0, none⟩)) ∧ β.get 5 = some (.slice (some ⟨h3.next, 0, none⟩) M M) ∧ β.get 6 = some (.int .i64 (i : Int)) ∧ β.get 7 = some (.int .i64 (carry : Int)) ∧ β.get 8 = some (.int .i64 (k : Int)) ∧
        SlV h6.blks h3.next h4.next 1 M (nats L) (.slice (some ⟨h3.next, 0, none⟩) M M) ∧ L.length = M ∧ Lim 10000 L ∧ carry ≤ 9999 ∧ nv 10000 L + 10000 ^ (i + k) * carry = nv 10000 (l.take i) * nv 10000 m + 10000 ^ i * (x * nv 10000 (m.take k)) ∧ Pres h3.next h3 h6 ∧ h6.next = h4.next) (m.length + 1)
      ⟨0, 0, L, by omega, by omega, by simp only [go_sem,reduceIte,Nat.reduceEqDiff,Nat.reduceLT, e2], by simp only [go_sem,reduceIte,Nat.reduceEqDiff,Nat.reduceLT, e3], by simp only [go_sem,reduceIte,Nat.reduceEqDiff,Nat.reduceLT, e4], by simp only [go_sem,reduceIte,Nat.reduceEqDiff,Nat.reduceLT, e5], by simp only [go_sem,reduceIte,Nat.reduceEqDiff,Nat.reduceLT, e6], by (simp only [go_sem,reduceIte,Nat.reduceEqDiff,Nat.reduceLT]) <;> rfl, by (simp only [go_sem,reduceIte,Nat.reduceEqDiff,Nat.reduceLT]) <;> rfl, hb, hL, hlL, by omega, by rw [hinv]; simp [nv], pr5, hnx⟩ (by omega) ?_
    clear e2 e3 e4 e5 e6 l10 l11 l20 l21 hb hinv hlL hL pr5 hnx
    rintro J2 j2 β h6 ⟨k, carry, L, hkj, hkc, e2, e3, e4, e5, e6, e7, e8, hb, hL, hlL, hc9, hinv, pr6, hnx⟩ hJ2
    obtain ⟨l10, l11, l20, l21⟩ := LD pr6
    by_cases hgo : k < m.length ∨ 0 < carry
    · have hkm : k ≤ m.length := by omega
      obtain ⟨p, hp⟩ := limb_at (l := L) (i := i + k) (by omega)
      have hpl := hlL.get hp
      have hld : loadv h6.blks h3.next (0 + (i + k)) = some (.int .i64 (p : Int)) := by
        obtain ⟨b9, o9, e9, _, _, q⟩ := nats_at hb hp
        injection e9 with e9
        injection e9 with q1 q2
        subst q1; subst q2; exact q
      rw [Nat.zero_add] at hld
      have wik : IntKind.i64.wrap ((i : Int) + (k : Int)) = ((i + k : Nat) : Int) := wrap_nat (by omega) (by omega)
      have w5 : IntKind.i64.wrap ((p : Int) + (carry : Int)) = ((p + carry : Nat) : Int) := wrap_nat (by omega) (by omega)
      have w8 : IntKind.i64.wrap ((k : Int) + 1) = ((k + 1 : Nat) : Int) := wrap_nat (by omega) (by omega)
      have hym := getD_lt (i := k) (by omega) hl'
      have hxy : x * m.getD k 0 ≤ 99980001 := Nat.mul_le_mul (show x ≤ 9999 by omega) (show m.getD k 0 ≤ 9999 by omega)
      have hmt : nv 10000 (m.take (k + 1)) = nv 10000 (m.take k) + 10000 ^ k * m.getD k 0 := nv_take_getD
      have hset := nv_set (B := 10000) (x := (carry + (x * m.getD k 0 + p)) % 10000) hp
      have hst := mul_step hinv hset
      have hrem : (((carry + (x * m.getD k 0 + p) : Nat)) : Int).tmod 10000 = (((carry + (x * m.getD k 0 + p)) % 10000 : Nat) : Int) := by
        rw [Int.tmod_eq_emod_of_nonneg (by omega)]; rfl
      have hdiv : (((carry + (x * m.getD k 0 + p) : Nat)) : Int).tdiv 10000 = (((carry + (x * m.getD k 0 + p)) / 10000 : Nat) : Int) := by
        rw [Int.tdiv_eq_ediv_of_nonneg (by omega)]; rfl
      have w4 : IntKind.i64.wrap (((carry + (x * m.getD k 0 + p)) / 10000 : Nat) : Int) = (((carry + (x * m.getD k 0 + p)) / 10000 : Nat) : Int) := wrap_nat rfl (by omega)
      have next : ∀ (β' : Tr Value) (h7 : H), β'.get 2 = some (.pointer (some ⟨h.next, 0, none⟩)) → β'.get 3 = some (.pointer (some ⟨h1.next, 0, none⟩)) → β'.get 4 = some (.pointer (some ⟨h2.next, 0, none⟩)) → β'.get 5 = some (.slice (some ⟨h3.next, 0, none⟩) M M) → β'.get 6 = some (.int .i64 (i : Int)) → β'.get 7 = some (.int .i64 (((carry + (x * m.getD k 0 + p)) / 10000 : Nat) : Int)) → β'.get 8 = some (.int .i64 ((k + 1 : Nat) : Int)) →
          Sto h6 h7 h3.next (0 + (i + k)) [.int .i64 (((carry + (x * m.getD k 0 + p)) % 10000 : Nat) : Int)] → SlV h7.blks h3.next h4.next 1 M (nats (L.set (i + k) ((carry + (x * m.getD k 0 + p)) % 10000))) (.slice (some ⟨h3.next, 0, none⟩) M M) → J2 β' h7 := fun β' h7 f2 f3 f4 f5 f6 f7 f8 hs7 hb7 => by
        have hnew : nv 10000 (L.set (i + k) ((carry + (x * m.getD k 0 + p)) % 10000)) + 10000 ^ (i + (k + 1)) * ((carry + (x * m.getD k 0 + p)) / 10000) = nv 10000 (l.take i) * nv 10000 m + 10000 ^ i * (x * nv 10000 (m.take (k + 1))) := by
          rw [hmt]; exact hst
        refine hJ2 (j2 - 1) _ _ (by omega) ⟨k + 1, _, _, by omega, ?_, f2, f3, f4, f5, f6, f7, f8, hb7, by rw [List.length_set]; exact hL, hlL.set (Nat.mod_lt _ (by omega)), by omega, hnew, pr6.trans (hs7.pres (Nat.le_refl _)), hs7.next.trans hnx⟩
        rcases Nat.lt_or_ge k m.length with h1 | h1
        · exact .inl h1
        · right
          refine carry_zero hnew ?_
          rw [List.take_of_length_le (l := m) (by omega)]
          have e1 : nv 10000 (l.take i) * nv 10000 m + 10000 ^ i * (x * nv 10000 m) = nv 10000 (l.take (i + 1)) * nv 10000 m := by
            rw [nv_take_succ hx', Nat.add_mul, Nat.mul_assoc]
          rw [e1]
          have e2 := nv_lt (hl.take (n := i + 1))
          have e3 := nv_lt hl'
          rw [show (l.take (i + 1)).length = i + 1 by rw [List.length_take]; omega] at e2
          have := mul_lt_pow e2 e3
          rw [show i + (k + 1) = i + 1 + m.length by omega]
          exact this
      by_cases c1 : k < m.length
      · have g1 : decide ((k : Int) < (m.length : Int)) = true := decide_eq_true (by omega)
        obtain ⟨y, hy⟩ := limb_at (l := m) (i := k) (by omega)
        have ey : y = m.getD k 0 := by rw [List.getD_eq_getElem?_getD, hy]; rfl
        have hq1 := hs1.mono (B' := h6.blks) fun b _ hb => pr6.get b (by omega)
        have hq2 := hs2.mono (B' := h6.blks) fun b _ hb => pr6.get b (by omega)
        obtain ⟨b1, o1, rfl, _, _, la⟩ := nats_at hq1 hx'
        obtain ⟨b2, o2, rfl, _, _, lb⟩ := nats_at hq2 hy
        rw [ey] at lb
        have wm : IntKind.i64.wrap ((x : Int) * ((m.getD k 0 : Nat) : Int)) = ((x * m.getD k 0 : Nat) : Int) := wrap_nat (by simp) (by omega)
        have ws : IntKind.i64.wrap (((p + carry : Nat) : Int) + ((x * m.getD k 0 : Nat) : Int)) = ((carry + (x * m.getD k 0 + p) : Nat) : Int) := wrap_nat (by omega) (by omega)
        simp (disch := omega) only [go_sem,reduceIte,Nat.reduceEqDiff,Nat.reduceLT, e2, e3, e4, e5, e6, e7, e8, fld60_1, load34, Nat.zero_add, l21, len34, g1, wik, idxA34, Int.toNat_natCast, Nat.mul_one, load3, hld, w5]
        refine WK_regionT 11 ⟨by kernel_rfl, by kernel_rfl, by kernel_rfl⟩ ?_
        simp (maxSteps := 2000000) (disch := omega) only [go_sem,reduceIte,Nat.reduceEqDiff,Nat.reduceLT, e2, e3, e4, e5, e6, e7, e8, fld60_1, load34, Nat.zero_add, l11, l21, idxA34, Int.toNat_natCast, Nat.mul_one, load3, la, lb, wm, ws, wik, hrem, hdiv, w4]
        refine At_natB (b := h3.next) (off := 0) (i := i + k) (x := (carry + (x * m.getD k 0 + p)) % 10000) (by (simp only [go_sem,reduceIte,Nat.reduceEqDiff,Nat.reduceLT]) <;> rw [Nat.zero_add]) (by simp only [go_sem,reduceIte,Nat.reduceEqDiff,Nat.reduceLT]) hb (by omega) (by omega) fun h7 hs7 hb7 => ?_
        simp (disch := omega) only [go_sem,reduceIte,Nat.reduceEqDiff,Nat.reduceLT, e2, e3, e4, e5, e6, e8, w8]
        exact next _ _ (by simp only [go_sem,reduceIte,Nat.reduceEqDiff,Nat.reduceLT, e2]) (by simp only [go_sem,reduceIte,Nat.reduceEqDiff,Nat.reduceLT, e3]) (by simp only [go_sem,reduceIte,Nat.reduceEqDiff,Nat.reduceLT, e4]) (by simp only [go_sem,reduceIte,Nat.reduceEqDiff,Nat.reduceLT, e5]) (by simp only [go_sem,reduceIte,Nat.reduceEqDiff,Nat.reduceLT, e6]) (by simp only [go_sem,reduceIte,Nat.reduceEqDiff,Nat.reduceLT]) (by simp only [go_sem,reduceIte,Nat.reduceEqDiff,Nat.reduceLT]) hs7 hb7
      · have g1 : decide ((k : Int) < (m.length : Int)) = false := decide_eq_false (by omega)
        have g2 : decide ((0 : Int) < (carry : Int)) = true := decide_eq_true (by omega)
        have ey : m.getD k 0 = 0 := by rw [List.getD_eq_getElem?_getD, List.getElem?_eq_none (by omega)]; rfl
        have es : p + carry = carry + (x * m.getD k 0 + p) := by rw [ey, Nat.mul_zero]; omega
        rw [es] at w5
        simp (disch := omega) only [go_sem,reduceIte,Nat.reduceEqDiff,Nat.reduceLT, e2, e3, e4, e5, e6, e7, e8, fld60_1, load34, Nat.zero_add, l21, len34, g1, g2, wik, idxA34, Int.toNat_natCast, Nat.mul_one, load3, hld, w5, hrem, hdiv, w4]
        refine At_natB (b := h3.next) (off := 0) (i := i + k) (x := (carry + (x * m.getD k 0 + p)) % 10000) (by (simp only [go_sem,reduceIte,Nat.reduceEqDiff,Nat.reduceLT]) <;> rw [Nat.zero_add]) (by simp only [go_sem,reduceIte,Nat.reduceEqDiff,Nat.reduceLT]) hb (by omega) (by omega) fun h7 hs7 hb7 => ?_
        simp (disch := omega) only [go_sem,reduceIte,Nat.reduceEqDiff,Nat.reduceLT, e2, e3, e4, e5, e6, e8, w8]
        exact next _ _ (by simp only [go_sem,reduceIte,Nat.reduceEqDiff,Nat.reduceLT, e2]) (by simp only [go_sem,reduceIte,Nat.reduceEqDiff,Nat.reduceLT, e3]) (by simp only [go_sem,reduceIte,Nat.reduceEqDiff,Nat.reduceLT, e4]) (by simp only [go_sem,reduceIte,Nat.reduceEqDiff,Nat.reduceLT, e5]) (by simp only [go_sem,reduceIte,Nat.reduceEqDiff,Nat.reduceLT, e6]) (by simp only [go_sem,reduceIte,Nat.reduceEqDiff,Nat.reduceLT]) (by simp only [go_sem,reduceIte,Nat.reduceEqDiff,Nat.reduceLT]) hs7 hb7
    · have g1 : decide ((k : Int) < (m.length : Int)) = false := decide_eq_false (by omega)
      have g2 : decide ((0 : Int) < (carry : Int)) = false := decide_eq_false (by omega)
      have hc0 : carry = 0 := by omega
      simp (disch := omega) only [go_sem,reduceIte,Nat.reduceEqDiff,Nat.reduceLT, e2, e3, e4, e5, e6, e7, e8, fld60_1, load34, Nat.zero_add, l21, len34, g1, g2, w6]
      refine hJ (j - 1) _ _ (by omega) ⟨i + 1, L, by omega, by simp only [go_sem,reduceIte,Nat.reduceEqDiff,Nat.reduceLT, e2], by simp only [go_sem,reduceIte,Nat.reduceEqDiff,Nat.reduceLT, e3], by simp only [go_sem,reduceIte,Nat.reduceEqDiff,Nat.reduceLT, e4], by simp only [go_sem,reduceIte,Nat.reduceEqDiff,Nat.reduceLT, e5], by simp only [go_sem,reduceIte,Nat.reduceEqDiff,Nat.reduceLT], hb, hL, hlL, ?_, pr6, hnx⟩
      rw [hc0, Nat.mul_zero, Nat.add_zero, List.take_of_length_le (l := m) (by omega)] at hinv
      rw [hinv, nv_take_succ hx', Nat.add_mul, Nat.mul_assoc]
  · obtain rfl : i = l.length := by omega
    rw [List.take_of_length_le (Nat.le_refl _)] at hinv
    simp (disch := omega) only [go_sem,reduceIte,Nat.reduceEqDiff,Nat.reduceLT, e2, e3, e4, e5, e6, fld60_0, fld60_1, load4, load34, Nat.zero_add, l10, l11, l20, len34, hlt, neq_bool, build60]
    have hlean := lean_spec (G := G) (N := h4.next) (s := (decide (a < 0) != decide (b < 0))) (l := L) (A := some ⟨h3.next, 0, none⟩) (c := M) (h := h5) (by omega) (by omega) hlL (by rw [hL]; exact hb.wide (Nat.zero_le _) (Nat.le_refl _)) (by omega)
    rw [hL] at hlean
    refine CallO_f hlean (by omega) fun w6 h6 pr6 hw6 => ?_
    have n6 := pr6.next
    obtain ⟨A5, nl5, c5, e5'⟩ := hw6.shape
    subst e5'
    have y3 := x3.mono (B' := h6.blks) ((pr6.get _ (by omega)).trans (pr5.get _ (by omega)))
    try simp (disch := omega) only [go_sem,reduceIte,Nat.reduceEqDiff,Nat.reduceLT, e4]
    refine At_storeV (inf := inf60) (v := .agg #[.bool ((decide (a < 0) != decide (b < 0)) && decide (nv 10000 L ≠ 0)), .slice A5 nl5 c5]) i60 (by simp only [go_sem,reduceIte,Nat.reduceEqDiff,Nat.reduceLT, e4]) (by simp only [go_sem,reduceIte,Nat.reduceEqDiff,Nat.reduceLT]) y3 (by rw [size60]; rfl) (by rw [size60]; rfl) rfl (by show G ≤ h2.next; omega) fun h7 hs7 v7 => ?_
    have n7 := hs7.next
    have r7 := v7.znE (G := G) rfl
    simp (disch := omega) only [go_sem,reduceIte,Nat.reduceEqDiff,Nat.reduceLT, e4, r7]
    have hnab : nv 10000 L = (a * b).natAbs := by rw [hinv, el, em, Int.natAbs_mul]
    refine hQ' _ _ ⟨(pr3.trans (pr5.le (by omega))).trans ((pr6.le (by omega)).trans (hs7.pres (by omega))), ?_⟩
    refine ((hw6.congr ?_ hnab).sto hs7 y3 noI_s).wide (by omega)
    rw [hnab]
    by_cases ha0 : a < 0 <;> by_cases hb0 : b < 0
    · have : 0 < a * b := Int.mul_pos_of_neg_of_neg ha0 hb0
      simp [ha0, hb0]; omega
    · by_cases hb1 : b = 0
      · subst hb1; simp [ha0]
      · have : a * b < 0 := Int.mul_neg_of_neg_of_pos ha0 (by omega)
        simp [ha0, hb0, this]; omega
    · by_cases ha1 : a = 0
      · subst ha1; simp [hb0]
      · have : a * b < 0 := Int.mul_neg_of_pos_of_neg (by omega) hb0
        simp [ha0, hb0, this]; omega
    · have : 0 ≤ a * b := Int.mul_nonneg (by omega) (by omega)
      simp [ha0, hb0]; omega
end
end Go.Proofs.YthankillfhmfkaaGreatDoor.Ev

/- The document's own numbers: sums and products of fractions. -/
set_option linter.unusedSimpArgs false
set_option linter.unusedVariables false
namespace Go.Proofs.YthankillfhmfkaaGreatDoor.Ev
open Go Go.Proofs Go.Lm
noncomputable section
theorem Var.q0 {B : Tr Blk} {b : Nat} {v0 v1 v2 v3 : Value} (v : Var B b [v0, v1, v2, v3]) {G : Nat} : loadO (En G) 60 B (some (.pointer (some ⟨b, 0, none⟩))) = some (.agg #[v0, v1]) := by
  obtain ⟨c, e, h1, h2⟩ := v
  exact loadO_agg (L := [v0, v1]) agg60 i60 h1 (by rw [size60]; show 0 + 2 ≤ 4; omega) (by rw [size60]; rfl) fun i hi => by
    rw [size60] at hi
    rw [Nat.zero_add, h2 i (by show i < 4; omega)]
    match i, hi with
    | 0, _ => rfl
    | 1, _ => rfl
theorem Var.q1 {B : Tr Blk} {b : Nat} {v0 v1 v2 v3 : Value} (v : Var B b [v0, v1, v2, v3]) {G : Nat} : loadO (En G) 60 B (some (.pointer (some ⟨b, 2, none⟩))) = some (.agg #[v2, v3]) := by
  obtain ⟨c, e, h1, h2⟩ := v
  exact loadO_agg (L := [v2, v3]) agg60 i60 h1 (by rw [size60]; show 2 + 2 ≤ 4; omega) (by rw [size60]; rfl) fun i hi => by
    rw [size60] at hi
    rw [h2 (2 + i) (by show 2 + i < 4; omega)]
    match i, hi with
    | 0, _ => rfl
    | 1, _ => rfl
set_option maxHeartbeats 8000000 in
set_option maxRecDepth 100000 in
theorem MulQ_spec {G N : Nat} {a1 a2 b1 b2 : Int} {v u : Value} {h : H} (hG : G ≤ h.next) (hN : N ≤ h.next) (hv : QV h.blks N a1 a2 v) (hu : QV h.blks N b1 b2 u) (s1 : Sr a1.natAbs) (s2 : Sr a2.natAbs) (s3 : Sr b1.natAbs) (s4 : Sr b2.natAbs) :
    Spec Tryz.prog (En G) 57 [v, u] h fun w h' => QV h'.blks h'.next (a1 * b1) (a2 * b2) w := by
  obtain ⟨A1, A2, k1, k2, c1, c2, rfl, hv1, hv2⟩ := hv
  obtain ⟨A3, A4, k3, k4, c3, c4, rfl, hu1, hu2⟩ := hu
  refine CallsE_enter (En_known (by decide)) (En_f.trans Tryz.func57) rfl ⟨Nat.le_of_ble_eq_true rfl, by decide⟩ fun Q' hQ' => ?_
  simp (disch := omega) only [Tryz.f57, go_sem,reduceIte,Nat.reduceEqDiff,Nat.reduceLT]
  refine At_box (v := .agg #[.bool (decide (a1 < 0)), .slice A1 k1 c1, .bool (decide (a2 < 0)), .slice A2 k2 c2]) (by simp only [go_sem,reduceIte,Nat.reduceEqDiff,Nat.reduceLT]) (by omega) fun h1 hn1 => ?_
  have n1 := hn1.next
  have pr1 : Pres h.next h h1 := hn1.pres (Nat.le_refl _)
  have x1 : Var h1.blks h.next [.bool (decide (a1 < 0)), .slice A1 k1 c1, .bool (decide (a2 < 0)), .slice A2 k2 c2] := hn1.var
  try simp (disch := omega) only [go_sem,reduceIte,Nat.reduceEqDiff,Nat.reduceLT]
  refine At_box (v := .agg #[.bool (decide (b1 < 0)), .slice A3 k3 c3, .bool (decide (b2 < 0)), .slice A4 k4 c4]) (by simp only [go_sem,reduceIte,Nat.reduceEqDiff,Nat.reduceLT]) (by omega) fun h2 hn2 => ?_
  have n2 := hn2.next
  have pr2 : Pres h.next h h2 := pr1.trans ((hn2.pres (Nat.le_refl _)).le (by omega))
  have x2 : Var h2.blks h1.next [.bool (decide (b1 < 0)), .slice A3 k3 c3, .bool (decide (b2 < 0)), .slice A4 k4 c4] := hn2.var
  replace x1 := x1.mono (B' := h2.blks) (by rw [hn2.get, if_neg (by omega)])
  try simp (disch := omega) only [go_sem,reduceIte,Nat.reduceEqDiff,Nat.reduceLT]
  refine At_alloc i64 zero64 rfl (by omega) fun h3 hn3 => ?_
  have n3 := hn3.next
  have pr3 : Pres h.next h h3 := pr2.trans ((hn3.pres (Nat.le_refl _)).le (by omega))
  have x3 : Var h3.blks h2.next [.bool false, .slice none 0 0, .bool false, .slice none 0 0] := hn3.var
  replace x1 := x1.mono (B' := h3.blks) (by rw [hn3.get, if_neg (by omega)])
  replace x2 := x2.mono (B' := h3.blks) (by rw [hn3.get, if_neg (by omega)])
  clear hn1 hn2 hn3
  have LD : ∀ {hh : H}, Pres h3.next h3 hh → loadO (En G) 60 hh.blks (some (.pointer (some ⟨h.next, 0, none⟩))) = some (.agg #[.bool (decide (a1 < 0)), .slice A1 k1 c1]) ∧ loadO (En G) 60 hh.blks (some (.pointer (some ⟨h.next, 2, none⟩))) = some (.agg #[.bool (decide (a2 < 0)), .slice A2 k2 c2]) ∧ loadO (En G) 60 hh.blks (some (.pointer (some ⟨h1.next, 0, none⟩))) = some (.agg #[.bool (decide (b1 < 0)), .slice A3 k3 c3]) ∧ loadO (En G) 60 hh.blks (some (.pointer (some ⟨h1.next, 2, none⟩))) = some (.agg #[.bool (decide (b2 < 0)), .slice A4 k4 c4]) := fun {hh} p => by
    have y1 := x1.mono (B' := hh.blks) (p.get _ (by omega))
    have y2 := x2.mono (B' := hh.blks) (p.get _ (by omega))
    exact ⟨y1.q0, y1.q1, y2.q0, y2.q1⟩
  obtain ⟨l10, l11, l20, l21⟩ := LD (Pres.refl h3.next h3)
  simp (disch := omega) only [go_sem,reduceIte,Nat.reduceEqDiff,Nat.reduceLT]
  refine WK_regionT 9 ⟨by kernel_rfl, by kernel_rfl, by kernel_rfl⟩ ?_
  simp (disch := omega) only [go_sem,reduceIte,Nat.reduceEqDiff,Nat.reduceLT, fld64_0, fld64_1, Nat.zero_add, l10, l11, l20, l21]
  refine CallO_spec (Mul_spec (N := N) (by rw [st_next]; omega) (by rw [st_next]; omega) (by rw [st_blks]; exact hv1.pres pr3 hN) (by rw [st_blks]; exact hu1.pres pr3 hN) s1 s3) (by omega) (fun _ _ _ h => h) fun w4 h4 pr4 hw4 => ?_
  have n4 := pr4.next
  obtain ⟨l10, l11, l20, l21⟩ := LD pr4
  simp (disch := omega) only [go_sem,reduceIte,Nat.reduceEqDiff,Nat.reduceLT, fld64_0, fld64_1, Nat.zero_add, l10, l11, l20, l21]
  refine CallO_spec (Mul_spec (N := N) (by rw [st_next]; omega) (by rw [st_next]; omega) (by rw [st_blks]; exact (hv2.pres pr3 hN).pres pr4 (by omega)) (by rw [st_blks]; exact (hu2.pres pr3 hN).pres pr4 (by omega)) s2 s4) (by omega) (fun _ _ _ h => h) fun w5 h5 pr5 hw5 => ?_
  have n5 := pr5.next
  have hw4' := (hw4.pres pr5 (Nat.le_refl _)).wide n5
  obtain ⟨A, n, c, rfl⟩ := hw4.shape
  obtain ⟨A', n', c', rfl⟩ := hw5.shape
  have y3 := x3.mono (B' := h5.blks) ((pr5.get _ (by omega)).trans (pr4.get _ (by omega)))
  simp (disch := omega) only [go_sem,reduceIte,Nat.reduceEqDiff,Nat.reduceLT, build64]
  refine At_storeV (inf := inf64) (v := .agg #[.bool (decide (a1 * b1 < 0)), .slice A n c, .bool (decide (a2 * b2 < 0)), .slice A' n' c']) i64 (by simp only [go_sem,reduceIte,Nat.reduceEqDiff,Nat.reduceLT]) (by simp only [go_sem,reduceIte,Nat.reduceEqDiff,Nat.reduceLT]) y3 (by rw [size64]; rfl) (by rw [size64]; rfl) rfl (by show G ≤ h2.next; omega) fun h6 hs6 v6 => ?_
  have n6 := hs6.next
  have r6 := v6.qnE (G := G) rfl
  simp (disch := omega) only [go_sem,reduceIte,Nat.reduceEqDiff,Nat.reduceLT, r6]
  refine hQ' _ _ ⟨((pr3.trans (pr4.le (by omega))).trans (pr5.le (by omega))).trans (hs6.pres (by omega)), A, A', n, n', c, c', rfl, ?_, ?_⟩
  · exact (hw4'.sto hs6 y3 noI_q).wide (by omega)
  · exact (hw5.sto hs6 y3 noI_q).wide (by omega)
set_option maxHeartbeats 8000000 in
set_option maxRecDepth 100000 in
theorem AddQ_spec {G N : Nat} {a1 a2 b1 b2 : Int} {v u : Value} {h : H} (hG : G ≤ h.next) (hN : N ≤ h.next) (hv : QV h.blks N a1 a2 v) (hu : QV h.blks N b1 b2 u) (s1 : Sr a1.natAbs) (s2 : Sr a2.natAbs) (s3 : Sr b1.natAbs) (s4 : Sr b2.natAbs) (s5 : Sr (a1 * b2).natAbs) (s6 : Sr (b1 * a2).natAbs) :
    Spec Tryz.prog (En G) 56 [v, u] h fun w h' => QV h'.blks h'.next (a1 * b2 + b1 * a2) (a2 * b2) w := by
  obtain ⟨A1, A2, k1, k2, c1, c2, rfl, hv1, hv2⟩ := hv
  obtain ⟨A3, A4, k3, k4, c3, c4, rfl, hu1, hu2⟩ := hu
  refine CallsE_enter (En_known (by decide)) (En_f.trans Tryz.func56) rfl ⟨Nat.le_of_ble_eq_true rfl, by decide⟩ fun Q' hQ' => ?_
  simp (disch := omega) only [Tryz.f56, go_sem,reduceIte,Nat.reduceEqDiff,Nat.reduceLT]
  refine At_box (v := .agg #[.bool (decide (a1 < 0)), .slice A1 k1 c1, .bool (decide (a2 < 0)), .slice A2 k2 c2]) (by simp only [go_sem,reduceIte,Nat.reduceEqDiff,Nat.reduceLT]) (by omega) fun h1 hn1 => ?_
  have n1 := hn1.next
  have pr1 : Pres h.next h h1 := hn1.pres (Nat.le_refl _)
  have x1 : Var h1.blks h.next [.bool (decide (a1 < 0)), .slice A1 k1 c1, .bool (decide (a2 < 0)), .slice A2 k2 c2] := hn1.var
  try simp (disch := omega) only [go_sem,reduceIte,Nat.reduceEqDiff,Nat.reduceLT]
  refine At_box (v := .agg #[.bool (decide (b1 < 0)), .slice A3 k3 c3, .bool (decide (b2 < 0)), .slice A4 k4 c4]) (by simp only [go_sem,reduceIte,Nat.reduceEqDiff,Nat.reduceLT]) (by omega) fun h2 hn2 => ?_
  have n2 := hn2.next
  have pr2 : Pres h.next h h2 := pr1.trans ((hn2.pres (Nat.le_refl _)).le (by omega))
  have x2 : Var h2.blks h1.next [.bool (decide (b1 < 0)), .slice A3 k3 c3, .bool (decide (b2 < 0)), .slice A4 k4 c4] := hn2.var
  replace x1 := x1.mono (B' := h2.blks) (by rw [hn2.get, if_neg (by omega)])
  try simp (disch := omega) only [go_sem,reduceIte,Nat.reduceEqDiff,Nat.reduceLT]
  refine At_alloc i64 zero64 rfl (by omega) fun h3 hn3 => ?_
  have n3 := hn3.next
  have pr3 : Pres h.next h h3 := pr2.trans ((hn3.pres (Nat.le_refl _)).le (by omega))
  have x3 : Var h3.blks h2.next [.bool false, .slice none 0 0, .bool false, .slice none 0 0] := hn3.var
  replace x1 := x1.mono (B' := h3.blks) (by rw [hn3.get, if_neg (by omega)])
  replace x2 := x2.mono (B' := h3.blks) (by rw [hn3.get, if_neg (by omega)])
  clear hn1 hn2 hn3
  have LD : ∀ {hh : H}, Pres h3.next h3 hh → loadO (En G) 60 hh.blks (some (.pointer (some ⟨h.next, 0, none⟩))) = some (.agg #[.bool (decide (a1 < 0)), .slice A1 k1 c1]) ∧ loadO (En G) 60 hh.blks (some (.pointer (some ⟨h.next, 2, none⟩))) = some (.agg #[.bool (decide (a2 < 0)), .slice A2 k2 c2]) ∧ loadO (En G) 60 hh.blks (some (.pointer (some ⟨h1.next, 0, none⟩))) = some (.agg #[.bool (decide (b1 < 0)), .slice A3 k3 c3]) ∧ loadO (En G) 60 hh.blks (some (.pointer (some ⟨h1.next, 2, none⟩))) = some (.agg #[.bool (decide (b2 < 0)), .slice A4 k4 c4]) := fun {hh} p => by
    have y1 := x1.mono (B' := hh.blks) (p.get _ (by omega))
    have y2 := x2.mono (B' := hh.blks) (p.get _ (by omega))
    exact ⟨y1.q0, y1.q1, y2.q0, y2.q1⟩
  obtain ⟨l10, l11, l20, l21⟩ := LD (Pres.refl h3.next h3)
  simp (disch := omega) only [go_sem,reduceIte,Nat.reduceEqDiff,Nat.reduceLT]
  refine WK_regionT 15 ⟨by kernel_rfl, by kernel_rfl, by kernel_rfl⟩ ?_
  simp (disch := omega) only [go_sem,reduceIte,Nat.reduceEqDiff,Nat.reduceLT, fld64_0, fld64_1, Nat.zero_add, l10, l11, l20, l21]
  refine CallO_spec (Mul_spec (N := N) (by rw [st_next]; omega) (by rw [st_next]; omega) (by rw [st_blks]; exact hv1.pres pr3 hN) (by rw [st_blks]; exact hu2.pres pr3 hN) s1 s4) (by omega) (fun _ _ _ h => h) fun w4 h4 pr4 hw4 => ?_
  have n4 := pr4.next
  obtain ⟨l10, l11, l20, l21⟩ := LD pr4
  simp (disch := omega) only [go_sem,reduceIte,Nat.reduceEqDiff,Nat.reduceLT, fld64_0, fld64_1, Nat.zero_add, l10, l11, l20, l21]
  refine CallO_spec (Mul_spec (N := N) (by rw [st_next]; omega) (by rw [st_next]; omega) (by rw [st_blks]; exact (hu1.pres pr3 hN).pres pr4 (by omega)) (by rw [st_blks]; exact (hv2.pres pr3 hN).pres pr4 (by omega)) s3 s2) (by omega) (fun _ _ _ h => h) fun w5 h5 pr5 hw5 => ?_
  have n5 := pr5.next
  have pr35 := pr4.trans (pr5.le (m' := h3.next) (by omega))
  simp (disch := omega) only [go_sem,reduceIte,Nat.reduceEqDiff,Nat.reduceLT]
  refine CallO_spec (Add_spec (N := h5.next) (by rw [st_next]; omega) (by rw [st_next]; omega) (by rw [st_blks]; exact (hw4.pres pr5 (Nat.le_refl _)).wide n5) (by rw [st_blks]; exact hw5) s5 s6) (by omega) (fun _ _ _ h => h) fun w6 h6 pr6 hw6 => ?_
  have n6 := pr6.next
  have pr36 := pr35.trans (pr6.le (m' := h3.next) (by omega))
  obtain ⟨l10, l11, l20, l21⟩ := LD pr36
  simp (disch := omega) only [go_sem,reduceIte,Nat.reduceEqDiff,Nat.reduceLT, fld64_0, fld64_1, Nat.zero_add, l10, l11, l20, l21]
  refine CallO_spec (Mul_spec (N := N) (by rw [st_next]; omega) (by rw [st_next]; omega) (by rw [st_blks]; exact (hv2.pres pr3 hN).pres pr36 (by omega)) (by rw [st_blks]; exact (hu2.pres pr3 hN).pres pr36 (by omega)) s2 s4) (by omega) (fun _ _ _ h => h) fun w7 h7 pr7 hw7 => ?_
  have n7 := pr7.next
  have pr37 := pr36.trans (pr7.le (m' := h3.next) (by omega))
  have hw6' := (hw6.pres pr7 (Nat.le_refl _)).wide n7
  obtain ⟨A, n, c, rfl⟩ := hw6.shape
  obtain ⟨A', n', c', rfl⟩ := hw7.shape
  have y3 := x3.mono (B' := h7.blks) (pr37.get _ (by omega))
  simp (disch := omega) only [go_sem,reduceIte,Nat.reduceEqDiff,Nat.reduceLT, build64]
  refine At_storeV (inf := inf64) (v := .agg #[.bool (decide (a1 * b2 + b1 * a2 < 0)), .slice A n c, .bool (decide (a2 * b2 < 0)), .slice A' n' c']) i64 (by simp only [go_sem,reduceIte,Nat.reduceEqDiff,Nat.reduceLT]) (by simp only [go_sem,reduceIte,Nat.reduceEqDiff,Nat.reduceLT]) y3 (by rw [size64]; rfl) (by rw [size64]; rfl) rfl (by show G ≤ h2.next; omega) fun h8 hs8 v8 => ?_
  have n8 := hs8.next
  have r8 := v8.qnE (G := G) rfl
  simp (disch := omega) only [go_sem,reduceIte,Nat.reduceEqDiff,Nat.reduceLT, r8]
  refine hQ' _ _ ⟨(pr3.trans (pr37.le (by omega))).trans (hs8.pres (by omega)), A, A', n, n', c, c', rfl, ?_, ?_⟩
  · exact (hw6'.sto hs8 y3 noI_q).wide (by omega)
  · exact (hw7.sto hs8 y3 noI_q).wide (by omega)
end
end Go.Proofs.YthankillfhmfkaaGreatDoor.Ev

/- The document's own numbers: read from figures. -/
set_option linter.unusedSimpArgs false
set_option linter.unusedVariables false
namespace Go.Proofs.YthankillfhmfkaaGreatDoor.Ev
open Go Go.Proofs Go.Lm
noncomputable section
theorem dval_chunk {l : List UInt8} {q a k : Nat} (hqa : q ≤ a) (ha : a + 4 * k = l.length) : dval (l.drop q) = dval ((l.drop q).take (a - q)) * 10000 ^ k + dval (l.drop a) := by
  have h := dval_take (s := l.drop q) (j := a - q)
  rw [h, List.drop_drop, show q + (a - q) = a by omega, List.length_drop, show l.length - q - (a - q) = 4 * k by omega]
  rw [Nat.pow_mul]
theorem dval_snoc_take {s : List UInt8} {i : Nat} {c : UInt8} (h : s[i]? = some c) : dval (s.take (i + 1)) = 10 * dval (s.take i) + (c.toNat - 48) := by
  have : s.take (i + 1) = s.take i ++ [c] := by
    rw [List.take_add_one, h]; rfl
  rw [this, dval_snoc]
theorem dval_take_lt {s : List UInt8} {i : Nat} (h : ∀ c ∈ s, isDg c) (hi : i ≤ 4) : dval (s.take i) < 10000 := by
  have h1 := dval_lt (l := s.take i) fun c hc => h c (List.mem_of_mem_take hc)
  have h2 : (s.take i).length ≤ 4 := by rw [List.length_take]; omega
  have h3 : 10 ^ (s.take i).length ≤ 10 ^ 4 := Nat.pow_le_pow_right (by omega) h2
  omega
set_option maxHeartbeats 16000000 in
set_option maxRecDepth 100000 in
theorem digits_spec {G : Nat} {l : List UInt8} {h : H} (hG : G ≤ h.next) (h1 : 1 ≤ l.length) (h2 : l.length ≤ 4000) (hd : ∀ c ∈ l, isDg c) (hz : l.head? ≠ some 48 ∨ l.length = 1) :
    Spec Tryz.prog (En G) 107 [strV l] h fun w h' => ∃ u, w = .tuple #[u, .bool true] ∧ ZV h'.blks h'.next (dval l : Int) u := by
  refine CallsE_enter (En_known (by decide)) (En_f.trans Tryz.func107) rfl ⟨Nat.le_of_ble_eq_true rfl, by decide⟩ fun Q' hQ' => ?_
  simp (disch := omega) only [Tryz.f107, go_sem,reduceIte,Nat.reduceEqDiff,Nat.reduceLT]
  refine At_alloc i60 zero60 rfl (by omega) fun g1 hn1 => ?_
  have n1 := hn1.next
  have pr1 : Pres h.next h g1 := hn1.pres (Nat.le_refl _)
  have x1 : Var g1.blks h.next [.bool false, .slice none 0 0] := hn1.var
  have d1 : decide ((l.length : Int) < 1) = false := decide_eq_false (by omega)
  have d2 : decide ((4000 : Int) < (l.length : Int)) = false := decide_eq_false (by omega)
  obtain ⟨c0, hc0⟩ : ∃ c, l[0]? = some c := ⟨l[0]'(by omega), List.getElem?_eq_getElem (by omega)⟩
  have ix0 : ∀ {G : Nat}, idxO (En G) 9 (some (strV l)) (some (.int .i64 0)) = some (.int .u8 c0.toNat) := idx9 (by omega) (by simpa using hc0)
  have hhead : l.head? = some c0 := by rw [List.head?_eq_getElem?]; exact hc0
  by_cases hc48 : c0 = 48
  · have hl1 : l.length = 1 := by
      rcases hz with hz | hz
      · exact absurd (by rw [hhead, hc48]) hz
      · exact hz
    have d3 : decide ((c0.toNat : Int) = 48) = true := decide_eq_true (by rw [hc48]; rfl)
    have d4 : decide ((1 : Int) < (l.length : Int)) = false := decide_eq_false (by omega)
    simp (disch := omega) only [go_sem,reduceIte,Nat.reduceEqDiff,Nat.reduceLT, d1, d2, ix0, d3, d4, build60z]
    refine At_alloc i60 zero60 rfl (by omega) fun g2 hn2 => ?_
    have n2 := hn2.next
    have pr2 : Pres h.next h g2 := pr1.trans ((hn2.pres (Nat.le_refl _)).le (by omega))
    have x2 : Var g2.blks g1.next [.bool false, .slice none 0 0] := hn2.var
    replace x1 := x1.mono (B' := g2.blks) (by rw [hn2.get, if_neg (by omega)])
    try simp (disch := omega) only [go_sem,reduceIte,Nat.reduceEqDiff,Nat.reduceLT, build60z]
    refine At_storeV (inf := inf60) (v := .agg #[.bool false, .slice none 0 0]) i60 (by simp only [go_sem,reduceIte,Nat.reduceEqDiff,Nat.reduceLT]) (by simp only [go_sem,reduceIte,Nat.reduceEqDiff,Nat.reduceLT]) x2 (by rw [size60]; rfl) (by rw [size60]; rfl) rfl (by show G ≤ g1.next; omega) fun g3 hs3 x3 => ?_
    have n3 := hs3.next
    have pr3 : Pres h.next h g3 := pr2.trans (hs3.pres (by omega))
    replace x1 := x1.mono (B' := g3.blks) (hs3.get _ (by omega))
    simp (disch := omega) only [go_sem,reduceIte,Nat.reduceEqDiff,Nat.reduceLT]
    refine WK_loopN (fun j α g4 => ∃ (at_ i : Nat) (L : List Nat) (A : Option Addr) (z : Int), (z = (at_ : Int) ∧ at_ + 4 * i = l.length ∨ at_ = 0 ∧ z ≤ 0 ∧ -4 < z) ∧ at_ ≤ j * 4 ∧ j ≤ 1001 ∧ α.get 0 = some (strV l) ∧ α.get 2 = some (.pointer (some ⟨h.next, 0, none⟩)) ∧ α.get 4 = some (.pointer (some ⟨g1.next, 0, none⟩)) ∧ α.get 5 = some (.int .i64 z) ∧ Var g4.blks h.next [.bool false, .slice none 0 0] ∧ Var g4.blks g1.next [.bool false, .slice A L.length L.length] ∧
        SlV g4.blks g3.next g4.next 1 L.length (nats L) (.slice A L.length L.length) ∧ Lim 10000 L ∧ (0 < at_ → L.length = i) ∧ L.length + j ≤ 1001 ∧ nv 10000 L = dval (l.drop at_) ∧ Pres h.next h g4 ∧ g3.next ≤ g4.next) 1001
      ⟨l.length, 0, [], none, l.length, .inl ⟨rfl, by omega⟩, by omega, by omega, by simp only [go_sem,reduceIte,Nat.reduceEqDiff,Nat.reduceLT], by simp only [go_sem,reduceIte,Nat.reduceEqDiff,Nat.reduceLT], by simp only [go_sem,reduceIte,Nat.reduceEqDiff,Nat.reduceLT], by simp only [go_sem,reduceIte,Nat.reduceEqDiff,Nat.reduceLT], x1, x3, .nil rfl rfl, Lim.nil, fun _ => rfl, by simp, by rw [List.drop_length]; rfl, pr3, Nat.le_refl _⟩ (by omega) ?_
    clear x1 x2 x3 hn1 hn2 hs3 pr1 pr2 pr3 ix0
    rintro J j α g4 ⟨at_, i, L, A, z, hz, hatj, hj1, e0, e2, e4, e5, x1, x2, hsv, hlL, hLi, hLj, hinv, pr, hnx⟩ hJ
    by_cases h0 : 0 < at_
    · obtain ⟨rfl, hai⟩ : z = (at_ : Int) ∧ at_ + 4 * i = l.length := by rcases hz with hz | hz <;> first | exact hz | omega
      have dz : decide ((0 : Int) < (at_ : Int)) = true := decide_eq_true (by omega)
      obtain ⟨q, hq, hqa, hq4⟩ : ∃ q : Nat, (q : Int) = max 0 ((at_ : Int) - 4) ∧ q ≤ at_ ∧ (at_ - q ≤ 4 ∧ (q + 4 = at_ ∨ q = 0)) := ⟨at_ - 4, by omega, by omega, by omega⟩
      have w1 : IntKind.i64.wrap ((at_ : Int) - 4) = (at_ : Int) - 4 := wrap_i64 (by omega) (by omega)
      have hmx : mmO Tryz.prog Builtin.max2 (some [.int .i64 0, .int .i64 ((at_ : Int) - 4)]) = some (.int .i64 (q : Int)) := by
        rw [hq]; exact mm_max
      have hch := dval_chunk (l := l) (q := q) (a := at_) (k := i) hqa hai
      have hcl := dval_take_lt (s := l.drop q) (i := at_ - q) (fun c hc => hd c (List.mem_of_mem_drop hc)) (by omega)
      simp (disch := omega) only [go_sem,reduceIte,Nat.reduceEqDiff,Nat.reduceLT, e0, e2, e4, e5, dz, w1, hmx]
      refine WK_loopN (fun j2 β g5 => ∃ p : Nat, g4 = g5 ∧ p + j2 = at_ - q ∧ β.get 0 = some (strV l) ∧ β.get 2 = some (.pointer (some ⟨h.next, 0, none⟩)) ∧ β.get 4 = some (.pointer (some ⟨g1.next, 0, none⟩)) ∧ β.get 5 = some (.int .i64 (at_ : Int)) ∧ β.get 6 = some (.int .i64 (dval ((l.drop q).take p) : Int)) ∧ β.get 7 = some (.int .i64 ((q + p : Nat) : Int))) (at_ - q)
        ⟨0, rfl, by omega, by simp only [go_sem,reduceIte,Nat.reduceEqDiff,Nat.reduceLT, e0], by simp only [go_sem,reduceIte,Nat.reduceEqDiff,Nat.reduceLT, e2], by simp only [go_sem,reduceIte,Nat.reduceEqDiff,Nat.reduceLT, e4], by simp only [go_sem,reduceIte,Nat.reduceEqDiff,Nat.reduceLT, e5], by (simp only [go_sem,reduceIte,Nat.reduceEqDiff,Nat.reduceLT]) <;> rfl, by simp only [go_sem,reduceIte,Nat.reduceEqDiff,Nat.reduceLT, Nat.add_zero]⟩ (by omega) ?_
      clear e0 e2 e4 e5 hmx
      rintro J2 j2 β g5 ⟨p, rfl, hpj, e0, e2, e4, e5, e6, e7⟩ hJ2
      by_cases hp : p < at_ - q
      · have dp : decide (((q + p : Nat) : Int) < (at_ : Int)) = true := decide_eq_true (by omega)
        obtain ⟨c, hc⟩ : ∃ c, l[q + p]? = some c := ⟨l[q + p]'(by omega), List.getElem?_eq_getElem (by omega)⟩
        have hdc := hd c (List.mem_of_getElem? hc)
        unfold isDg at hdc
        have ix : ∀ {G : Nat}, idxO (En G) 9 (some (strV l)) (some (.int .i64 ((q + p : Nat) : Int))) = some (.int .u8 c.toNat) := idx9 (by omega) (by rw [Int.toNat_natCast]; exact hc)
        have dc1 : decide ((c.toNat : Int) < 48) = false := decide_eq_false (by omega)
        have dc2 : decide ((57 : Int) < (c.toNat : Int)) = false := decide_eq_false (by omega)
        have hpl := dval_take_lt (s := l.drop q) (i := p) (fun c hc => hd c (List.mem_of_mem_drop hc)) (by omega)
        have hst := dval_snoc_take (s := l.drop q) (i := p) (c := c) (by rw [List.getElem?_drop]; exact hc)
        have w2 : IntKind.u8.wrap ((c.toNat : Int) - 48) = (c.toNat : Int) - 48 := wrap_u8' (by omega) (by omega)
        have cv : convO Tryz.prog (En G) g4.blks 5 3 (some (.int .u8 ((c.toNat : Int) - 48))) = some (.int .i64 ((c.toNat : Int) - 48)) := conv53z (by omega) (by omega)
        have w3 : IntKind.i64.wrap (10 * (dval ((l.drop q).take p) : Int)) = 10 * (dval ((l.drop q).take p) : Int) := wrap_i64 (by omega) (by omega)
        have w4 : IntKind.i64.wrap (10 * (dval ((l.drop q).take p) : Int) + ((c.toNat : Int) - 48)) = (dval ((l.drop q).take (p + 1)) : Int) := wrap_nat (by omega) (by omega)
        have w5 : IntKind.i64.wrap (((q + p : Nat) : Int) + 1) = ((q + (p + 1) : Nat) : Int) := wrap_nat (by omega) (by omega)
        simp (disch := omega) only [go_sem,reduceIte,Nat.reduceEqDiff,Nat.reduceLT, e0, e2, e4, e5, e6, e7, dp, ix, dc1, dc2, w2, cv, w3, w4, w5]
        exact hJ2 (j2 - 1) _ _ (by omega) ⟨p + 1, rfl, by omega, by simp only [go_sem,reduceIte,Nat.reduceEqDiff,Nat.reduceLT, e0], by simp only [go_sem,reduceIte,Nat.reduceEqDiff,Nat.reduceLT, e2], by simp only [go_sem,reduceIte,Nat.reduceEqDiff,Nat.reduceLT, e4], by simp only [go_sem,reduceIte,Nat.reduceEqDiff,Nat.reduceLT, e5], by simp only [go_sem,reduceIte,Nat.reduceEqDiff,Nat.reduceLT], by simp only [go_sem,reduceIte,Nat.reduceEqDiff,Nat.reduceLT]⟩
      · have dp : decide (((q + p : Nat) : Int) < (at_ : Int)) = false := decide_eq_false (by omega)
        obtain rfl : p = at_ - q := by omega
        have l1 : loadv g4.blks g1.next 1 = some (.slice A L.length L.length) := by rw [x2.load (by simp)]; rfl
        generalize hch' : dval ((l.drop q).take (at_ - q)) = ch at *
        simp (disch := omega) only [go_sem,reduceIte,Nat.reduceEqDiff,Nat.reduceLT, e0, e2, e4, e5, e6, e7, dp, fld60_1, load34, Nat.zero_add, l1]
        refine At_pushN (lo := g3.next) (hi := g4.next) (l := L) (z := ch) (A := A) (by simp only [go_sem,reduceIte,Nat.reduceEqDiff,Nat.reduceLT]) (by simp only [go_sem,reduceIte,Nat.reduceEqDiff,Nat.reduceLT]) hsv (Nat.le_refl _) (by omega) hnx (by omega) (by decide) (by decide) (by decide) fun A6 g6 pr6 hs6 n6 => ?_
        have y1 := x1.mono (B' := g6.blks) (pr6.get _ (by omega))
        have y2 := x2.mono (B' := g6.blks) (pr6.get _ (by omega))
        simp (disch := omega) only [go_sem,reduceIte,Nat.reduceEqDiff,Nat.reduceLT, e0, e2, e4, e5, fld60_1]
        refine At_store (inf := inf34) (b := g1.next) (off := 0 + 1) (v := .slice A6 (L ++ [ch]).length (L ++ [ch]).length) i34 (by simp only [go_sem,reduceIte,Nat.reduceEqDiff,Nat.reduceLT]) (by (simp only [go_sem,reduceIte,Nat.reduceEqDiff,Nat.reduceLT]) <;> rfl) (by rw [size34]; rfl) rfl y2.choose_spec.choose_spec.1 (by rw [size34]; show 0 + 1 + 1 ≤ 2; omega) (by show G ≤ g1.next; omega) fun g7 hs7 => ?_
        have n7 := hs7.next
        have z2 : Var g7.blks g1.next [.bool false, .slice A6 (L ++ [ch]).length (L ++ [ch]).length] := hs7.varAt y2 (by show 0 + 1 + 1 ≤ 2; omega)
        have z1 := y1.mono (B' := g7.blks) (hs7.get _ (by omega))
        have hlen : (L ++ [ch]).length = L.length + 1 := by simp
        have hLi' := hLi h0
        simp (disch := omega) only [go_sem,reduceIte,Nat.reduceEqDiff,Nat.reduceLT, e0, e2, e4, e5, w1]
        refine hJ (j - 1) _ _ (by omega) ⟨q, i + 1, L ++ [ch], A6, (at_ : Int) - 4, by omega, by omega, by omega, by simp only [go_sem,reduceIte,Nat.reduceEqDiff,Nat.reduceLT, e0], by simp only [go_sem,reduceIte,Nat.reduceEqDiff,Nat.reduceLT, e2], by simp only [go_sem,reduceIte,Nat.reduceEqDiff,Nat.reduceLT, e4], by simp only [go_sem,reduceIte,Nat.reduceEqDiff,Nat.reduceLT], z1, z2, (hs6.mono fun b hb _ => hs7.get b (by omega)).wide (Nat.le_refl _) (by omega), hlL.app (Lim.one (by omega)), fun _ => by omega, by omega, ?_, (pr.trans (pr6.le (by omega))).trans (hs7.pres (by omega)), by omega⟩
        rw [nv_snoc, hinv, hLi', hch, Nat.add_comm, Nat.mul_comm]
    · have dz : decide ((0 : Int) < z) = false := decide_eq_false (by omega)
      obtain rfl : at_ = 0 := by omega
      rw [List.drop_zero] at hinv
      have r2 := x2.zn (G := G) rfl
      simp (disch := omega) only [go_sem,reduceIte,Nat.reduceEqDiff,Nat.reduceLT, e0, e2, e4, e5, dz, r2]
      refine CallO_f (lean_spec (N := g4.next) (by omega) (Nat.le_refl _) hlL (hsv.wide (Nat.zero_le _) (Nat.le_refl _)) (by omega)) (by omega) fun w6 g6 pr6 hw6 => ?_
      have n6 := pr6.next
      obtain ⟨A5, nl5, c5, e5'⟩ := hw6.shape
      subst e5'
      have y1 := x1.mono (B' := g6.blks) (pr6.get _ (by omega))
      try simp (disch := omega) only [go_sem,reduceIte,Nat.reduceEqDiff,Nat.reduceLT, e2]
      refine At_storeV (inf := inf60) (v := .agg #[.bool (false && decide (nv 10000 L ≠ 0)), .slice A5 nl5 c5]) i60 (by simp only [go_sem,reduceIte,Nat.reduceEqDiff,Nat.reduceLT, e2]) (by simp only [go_sem,reduceIte,Nat.reduceEqDiff,Nat.reduceLT]) y1 (by rw [size60]; rfl) (by rw [size60]; rfl) rfl (by show G ≤ h.next; omega) fun g7 hs7 v7 => ?_
      have n7 := hs7.next
      have r7 := v7.znE (G := G) rfl
      simp (disch := omega) only [go_sem,reduceIte,Nat.reduceEqDiff,Nat.reduceLT, e2, r7]
      refine hQ' _ _ ⟨(pr.trans (pr6.le (by omega))).trans (hs7.pres (by omega)), _, rfl, ?_⟩
      refine ((hw6.congr ?_ ?_).sto hs7 y1 noI_s).wide (by omega)
      · rw [Bool.false_and, Eq.comm, decide_eq_false_iff_not]; omega
      · rw [hinv]; rfl
  · have d3 : decide ((c0.toNat : Int) = 48) = false := decide_eq_false fun e => hc48 (by
      have : c0.toNat = 48 := by omega
      exact UInt8.toNat_inj.1 this)
    simp (disch := omega) only [go_sem,reduceIte,Nat.reduceEqDiff,Nat.reduceLT, d1, d2, ix0, d3, build60z]
    refine At_alloc i60 zero60 rfl (by omega) fun g2 hn2 => ?_
    have n2 := hn2.next
    have pr2 : Pres h.next h g2 := pr1.trans ((hn2.pres (Nat.le_refl _)).le (by omega))
    have x2 : Var g2.blks g1.next [.bool false, .slice none 0 0] := hn2.var
    replace x1 := x1.mono (B' := g2.blks) (by rw [hn2.get, if_neg (by omega)])
    try simp (disch := omega) only [go_sem,reduceIte,Nat.reduceEqDiff,Nat.reduceLT, build60z]
    refine At_storeV (inf := inf60) (v := .agg #[.bool false, .slice none 0 0]) i60 (by simp only [go_sem,reduceIte,Nat.reduceEqDiff,Nat.reduceLT]) (by simp only [go_sem,reduceIte,Nat.reduceEqDiff,Nat.reduceLT]) x2 (by rw [size60]; rfl) (by rw [size60]; rfl) rfl (by show G ≤ g1.next; omega) fun g3 hs3 x3 => ?_
    have n3 := hs3.next
    have pr3 : Pres h.next h g3 := pr2.trans (hs3.pres (by omega))
    replace x1 := x1.mono (B' := g3.blks) (hs3.get _ (by omega))
    simp (disch := omega) only [go_sem,reduceIte,Nat.reduceEqDiff,Nat.reduceLT]
    refine WK_loopN (fun j α g4 => ∃ (at_ i : Nat) (L : List Nat) (A : Option Addr) (z : Int), (z = (at_ : Int) ∧ at_ + 4 * i = l.length ∨ at_ = 0 ∧ z ≤ 0 ∧ -4 < z) ∧ at_ ≤ j * 4 ∧ j ≤ 1001 ∧ α.get 0 = some (strV l) ∧ α.get 2 = some (.pointer (some ⟨h.next, 0, none⟩)) ∧ α.get 4 = some (.pointer (some ⟨g1.next, 0, none⟩)) ∧ α.get 5 = some (.int .i64 z) ∧ Var g4.blks h.next [.bool false, .slice none 0 0] ∧ Var g4.blks g1.next [.bool false, .slice A L.length L.length] ∧
        SlV g4.blks g3.next g4.next 1 L.length (nats L) (.slice A L.length L.length) ∧ Lim 10000 L ∧ (0 < at_ → L.length = i) ∧ L.length + j ≤ 1001 ∧ nv 10000 L = dval (l.drop at_) ∧ Pres h.next h g4 ∧ g3.next ≤ g4.next) 1001
      ⟨l.length, 0, [], none, l.length, .inl ⟨rfl, by omega⟩, by omega, by omega, by simp only [go_sem,reduceIte,Nat.reduceEqDiff,Nat.reduceLT], by simp only [go_sem,reduceIte,Nat.reduceEqDiff,Nat.reduceLT], by simp only [go_sem,reduceIte,Nat.reduceEqDiff,Nat.reduceLT], by simp only [go_sem,reduceIte,Nat.reduceEqDiff,Nat.reduceLT], x1, x3, .nil rfl rfl, Lim.nil, fun _ => rfl, by simp, by rw [List.drop_length]; rfl, pr3, Nat.le_refl _⟩ (by omega) ?_
    clear x1 x2 x3 hn1 hn2 hs3 pr1 pr2 pr3 ix0
    rintro J j α g4 ⟨at_, i, L, A, z, hz, hatj, hj1, e0, e2, e4, e5, x1, x2, hsv, hlL, hLi, hLj, hinv, pr, hnx⟩ hJ
    by_cases h0 : 0 < at_
    · obtain ⟨rfl, hai⟩ : z = (at_ : Int) ∧ at_ + 4 * i = l.length := by rcases hz with hz | hz <;> first | exact hz | omega
      have dz : decide ((0 : Int) < (at_ : Int)) = true := decide_eq_true (by omega)
      obtain ⟨q, hq, hqa, hq4⟩ : ∃ q : Nat, (q : Int) = max 0 ((at_ : Int) - 4) ∧ q ≤ at_ ∧ (at_ - q ≤ 4 ∧ (q + 4 = at_ ∨ q = 0)) := ⟨at_ - 4, by omega, by omega, by omega⟩
      have w1 : IntKind.i64.wrap ((at_ : Int) - 4) = (at_ : Int) - 4 := wrap_i64 (by omega) (by omega)
      have hmx : mmO Tryz.prog Builtin.max2 (some [.int .i64 0, .int .i64 ((at_ : Int) - 4)]) = some (.int .i64 (q : Int)) := by
        rw [hq]; exact mm_max
      have hch := dval_chunk (l := l) (q := q) (a := at_) (k := i) hqa hai
      have hcl := dval_take_lt (s := l.drop q) (i := at_ - q) (fun c hc => hd c (List.mem_of_mem_drop hc)) (by omega)
      simp (disch := omega) only [go_sem,reduceIte,Nat.reduceEqDiff,Nat.reduceLT, e0, e2, e4, e5, dz, w1, hmx]
      refine WK_loopN (fun j2 β g5 => ∃ p : Nat, g4 = g5 ∧ p + j2 = at_ - q ∧ β.get 0 = some (strV l) ∧ β.get 2 = some (.pointer (some ⟨h.next, 0, none⟩)) ∧ β.get 4 = some (.pointer (some ⟨g1.next, 0, none⟩)) ∧ β.get 5 = some (.int .i64 (at_ : Int)) ∧ β.get 6 = some (.int .i64 (dval ((l.drop q).take p) : Int)) ∧ β.get 7 = some (.int .i64 ((q + p : Nat) : Int))) (at_ - q)
        ⟨0, rfl, by omega, by simp only [go_sem,reduceIte,Nat.reduceEqDiff,Nat.reduceLT, e0], by simp only [go_sem,reduceIte,Nat.reduceEqDiff,Nat.reduceLT, e2], by simp only [go_sem,reduceIte,Nat.reduceEqDiff,Nat.reduceLT, e4], by simp only [go_sem,reduceIte,Nat.reduceEqDiff,Nat.reduceLT, e5], by (simp only [go_sem,reduceIte,Nat.reduceEqDiff,Nat.reduceLT]) <;> rfl, by simp only [go_sem,reduceIte,Nat.reduceEqDiff,Nat.reduceLT, Nat.add_zero]⟩ (by omega) ?_
      clear e0 e2 e4 e5 hmx
      rintro J2 j2 β g5 ⟨p, rfl, hpj, e0, e2, e4, e5, e6, e7⟩ hJ2
      by_cases hp : p < at_ - q
      · have dp : decide (((q + p : Nat) : Int) < (at_ : Int)) = true := decide_eq_true (by omega)
        obtain ⟨c, hc⟩ : ∃ c, l[q + p]? = some c := ⟨l[q + p]'(by omega), List.getElem?_eq_getElem (by omega)⟩
        have hdc := hd c (List.mem_of_getElem? hc)
        unfold isDg at hdc
        have ix : ∀ {G : Nat}, idxO (En G) 9 (some (strV l)) (some (.int .i64 ((q + p : Nat) : Int))) = some (.int .u8 c.toNat) := idx9 (by omega) (by rw [Int.toNat_natCast]; exact hc)
        have dc1 : decide ((c.toNat : Int) < 48) = false := decide_eq_false (by omega)
        have dc2 : decide ((57 : Int) < (c.toNat : Int)) = false := decide_eq_false (by omega)
        have hpl := dval_take_lt (s := l.drop q) (i := p) (fun c hc => hd c (List.mem_of_mem_drop hc)) (by omega)
        have hst := dval_snoc_take (s := l.drop q) (i := p) (c := c) (by rw [List.getElem?_drop]; exact hc)
        have w2 : IntKind.u8.wrap ((c.toNat : Int) - 48) = (c.toNat : Int) - 48 := wrap_u8' (by omega) (by omega)
        have cv : convO Tryz.prog (En G) g4.blks 5 3 (some (.int .u8 ((c.toNat : Int) - 48))) = some (.int .i64 ((c.toNat : Int) - 48)) := conv53z (by omega) (by omega)
        have w3 : IntKind.i64.wrap (10 * (dval ((l.drop q).take p) : Int)) = 10 * (dval ((l.drop q).take p) : Int) := wrap_i64 (by omega) (by omega)
        have w4 : IntKind.i64.wrap (10 * (dval ((l.drop q).take p) : Int) + ((c.toNat : Int) - 48)) = (dval ((l.drop q).take (p + 1)) : Int) := wrap_nat (by omega) (by omega)
        have w5 : IntKind.i64.wrap (((q + p : Nat) : Int) + 1) = ((q + (p + 1) : Nat) : Int) := wrap_nat (by omega) (by omega)
        simp (disch := omega) only [go_sem,reduceIte,Nat.reduceEqDiff,Nat.reduceLT, e0, e2, e4, e5, e6, e7, dp, ix, dc1, dc2, w2, cv, w3, w4, w5]
        exact hJ2 (j2 - 1) _ _ (by omega) ⟨p + 1, rfl, by omega, by simp only [go_sem,reduceIte,Nat.reduceEqDiff,Nat.reduceLT, e0], by simp only [go_sem,reduceIte,Nat.reduceEqDiff,Nat.reduceLT, e2], by simp only [go_sem,reduceIte,Nat.reduceEqDiff,Nat.reduceLT, e4], by simp only [go_sem,reduceIte,Nat.reduceEqDiff,Nat.reduceLT, e5], by simp only [go_sem,reduceIte,Nat.reduceEqDiff,Nat.reduceLT], by simp only [go_sem,reduceIte,Nat.reduceEqDiff,Nat.reduceLT]⟩
      · have dp : decide (((q + p : Nat) : Int) < (at_ : Int)) = false := decide_eq_false (by omega)
        obtain rfl : p = at_ - q := by omega
        have l1 : loadv g4.blks g1.next 1 = some (.slice A L.length L.length) := by rw [x2.load (by simp)]; rfl
        generalize hch' : dval ((l.drop q).take (at_ - q)) = ch at *
        simp (disch := omega) only [go_sem,reduceIte,Nat.reduceEqDiff,Nat.reduceLT, e0, e2, e4, e5, e6, e7, dp, fld60_1, load34, Nat.zero_add, l1]
        refine At_pushN (lo := g3.next) (hi := g4.next) (l := L) (z := ch) (A := A) (by simp only [go_sem,reduceIte,Nat.reduceEqDiff,Nat.reduceLT]) (by simp only [go_sem,reduceIte,Nat.reduceEqDiff,Nat.reduceLT]) hsv (Nat.le_refl _) (by omega) hnx (by omega) (by decide) (by decide) (by decide) fun A6 g6 pr6 hs6 n6 => ?_
        have y1 := x1.mono (B' := g6.blks) (pr6.get _ (by omega))
        have y2 := x2.mono (B' := g6.blks) (pr6.get _ (by omega))
        simp (disch := omega) only [go_sem,reduceIte,Nat.reduceEqDiff,Nat.reduceLT, e0, e2, e4, e5, fld60_1]
        refine At_store (inf := inf34) (b := g1.next) (off := 0 + 1) (v := .slice A6 (L ++ [ch]).length (L ++ [ch]).length) i34 (by simp only [go_sem,reduceIte,Nat.reduceEqDiff,Nat.reduceLT]) (by (simp only [go_sem,reduceIte,Nat.reduceEqDiff,Nat.reduceLT]) <;> rfl) (by rw [size34]; rfl) rfl y2.choose_spec.choose_spec.1 (by rw [size34]; show 0 + 1 + 1 ≤ 2; omega) (by show G ≤ g1.next; omega) fun g7 hs7 => ?_
        have n7 := hs7.next
        have z2 : Var g7.blks g1.next [.bool false, .slice A6 (L ++ [ch]).length (L ++ [ch]).length] := hs7.varAt y2 (by show 0 + 1 + 1 ≤ 2; omega)
        have z1 := y1.mono (B' := g7.blks) (hs7.get _ (by omega))
        have hlen : (L ++ [ch]).length = L.length + 1 := by simp
        have hLi' := hLi h0
        simp (disch := omega) only [go_sem,reduceIte,Nat.reduceEqDiff,Nat.reduceLT, e0, e2, e4, e5, w1]
        refine hJ (j - 1) _ _ (by omega) ⟨q, i + 1, L ++ [ch], A6, (at_ : Int) - 4, by omega, by omega, by omega, by simp only [go_sem,reduceIte,Nat.reduceEqDiff,Nat.reduceLT, e0], by simp only [go_sem,reduceIte,Nat.reduceEqDiff,Nat.reduceLT, e2], by simp only [go_sem,reduceIte,Nat.reduceEqDiff,Nat.reduceLT, e4], by simp only [go_sem,reduceIte,Nat.reduceEqDiff,Nat.reduceLT], z1, z2, (hs6.mono fun b hb _ => hs7.get b (by omega)).wide (Nat.le_refl _) (by omega), hlL.app (Lim.one (by omega)), fun _ => by omega, by omega, ?_, (pr.trans (pr6.le (by omega))).trans (hs7.pres (by omega)), by omega⟩
        rw [nv_snoc, hinv, hLi', hch, Nat.add_comm, Nat.mul_comm]
    · have dz : decide ((0 : Int) < z) = false := decide_eq_false (by omega)
      obtain rfl : at_ = 0 := by omega
      rw [List.drop_zero] at hinv
      have r2 := x2.zn (G := G) rfl
      simp (disch := omega) only [go_sem,reduceIte,Nat.reduceEqDiff,Nat.reduceLT, e0, e2, e4, e5, dz, r2]
      refine CallO_f (lean_spec (N := g4.next) (by omega) (Nat.le_refl _) hlL (hsv.wide (Nat.zero_le _) (Nat.le_refl _)) (by omega)) (by omega) fun w6 g6 pr6 hw6 => ?_
      have n6 := pr6.next
      obtain ⟨A5, nl5, c5, e5'⟩ := hw6.shape
      subst e5'
      have y1 := x1.mono (B' := g6.blks) (pr6.get _ (by omega))
      try simp (disch := omega) only [go_sem,reduceIte,Nat.reduceEqDiff,Nat.reduceLT, e2]
      refine At_storeV (inf := inf60) (v := .agg #[.bool (false && decide (nv 10000 L ≠ 0)), .slice A5 nl5 c5]) i60 (by simp only [go_sem,reduceIte,Nat.reduceEqDiff,Nat.reduceLT, e2]) (by simp only [go_sem,reduceIte,Nat.reduceEqDiff,Nat.reduceLT]) y1 (by rw [size60]; rfl) (by rw [size60]; rfl) rfl (by show G ≤ h.next; omega) fun g7 hs7 v7 => ?_
      have n7 := hs7.next
      have r7 := v7.znE (G := G) rfl
      simp (disch := omega) only [go_sem,reduceIte,Nat.reduceEqDiff,Nat.reduceLT, e2, r7]
      refine hQ' _ _ ⟨(pr.trans (pr6.le (by omega))).trans (hs7.pres (by omega)), _, rfl, ?_⟩
      refine ((hw6.congr ?_ ?_).sto hs7 y1 noI_s).wide (by omega)
      · rw [Bool.false_and, Eq.comm, decide_eq_false_iff_not]; omega
      · rw [hinv]; rfl
end
end Go.Proofs.YthankillfhmfkaaGreatDoor.Ev

/- The document's own numbers: whole numbers read. -/
set_option linter.unusedSimpArgs false
set_option linter.unusedVariables false
namespace Go.Proofs.YthankillfhmfkaaGreatDoor.Ev
open Go Go.Proofs Go.Lm
noncomputable section
theorem dec_head' {n : Nat} : (dec n).head? ≠ some 48 ∨ (dec n).length = 1 := by
  by_cases h : n = 0
  · right; rw [h, dec_small (by omega)]; rfl
  · exact .inl (dec_head h)
theorem decZ_neg {z : Int} (h : z < 0) : decZ z = 45 :: dec z.natAbs := by rw [decZ, if_pos h]
theorem decZ_pos {z : Int} (h : ¬ z < 0) : decZ z = dec z.natAbs := by rw [decZ, if_neg h]
/-- with at most 4000 figures -/
def Dk (x : Nat) : Prop := ∃ k, k ≤ 3999 ∧ x < 10 ^ (k + 1)
theorem Dk.len {x : Nat} (h : Dk x) : (dec x).length ≤ 4000 := by
  obtain ⟨k, h1, h2⟩ := h
  exact Nat.le_trans (dec_len h2) (by omega)
set_option maxHeartbeats 16000000 in
set_option maxRecDepth 100000 in
theorem Parse_spec {G : Nat} {z : Int} {h : H} (hG : G ≤ h.next) (hz : Dk z.natAbs) :
    Spec Tryz.prog (En G) 83 [strV (decZ z)] h fun w h' => ∃ u, w = .tuple #[u, .bool true] ∧ QV h'.blks h'.next z 1 u := by
  have hlen : (dec z.natAbs).length ≤ 4000 := hz.len
  have hpos := dec_pos (n := z.natAbs)
  have hdg := dec_isDg (n := z.natAbs)
  have hhd := dec_head' (n := z.natAbs)
  have hdv := dval_dec (n := z.natAbs)
  obtain ⟨c0, hc0⟩ : ∃ c, (dec z.natAbs)[0]? = some c := ⟨(dec z.natAbs)[0]'(by omega), List.getElem?_eq_getElem (by omega)⟩
  have hc0d := hdg c0 (List.mem_of_getElem? hc0)
  unfold isDg at hc0d
  clear hz
  refine CallsE_enter (En_known (by decide)) (En_f.trans Tryz.func83) rfl ⟨Nat.le_of_ble_eq_true rfl, by decide⟩ fun Q' hQ' => ?_
  simp (disch := omega) only [Tryz.f83, go_sem,reduceIte,Nat.reduceEqDiff,Nat.reduceLT]
  refine At_alloc i64 zero64 rfl (by omega) fun g1 hn1 => ?_
  have n1 := hn1.next
  have pr1 : Pres h.next h g1 := hn1.pres (Nat.le_refl _)
  have x1 : Var g1.blks h.next [.bool false, .slice none 0 0, .bool false, .slice none 0 0] := hn1.var
  have hdl : (decZ z).length ≤ 4001 ∧ 0 < (decZ z).length := by
    by_cases hneg : z < 0
    · rw [decZ_neg hneg]; simp; omega
    · rw [decZ_pos hneg]; omega
  have d1 : decide ((8002 : Int) < ((decZ z).length : Int)) = false := decide_eq_false (by omega)
  have d2 : decide ((0 : Int) < ((decZ z).length : Int)) = true := decide_eq_true (by omega)
  obtain ⟨c1, hc1, hc1n⟩ : ∃ c, (decZ z)[0]? = some c ∧ ((c.toNat : Int) = 45 ↔ z < 0) := by
    by_cases hneg : z < 0
    · exact ⟨45, by rw [decZ_neg hneg]; rfl, by simp [hneg]⟩
    · exact ⟨c0, by rw [decZ_pos hneg]; exact hc0, by simp only [hneg, iff_false]; omega⟩
  have ix0 : ∀ {G : Nat}, idxO (En G) 9 (some (strV (decZ z))) (some (.int .i64 0)) = some (.int .u8 c1.toNat) := idx9 (by omega) (by simpa using hc1)
  simp (disch := omega) only [go_sem,reduceIte,Nat.reduceEqDiff,Nat.reduceLT, d1, d2, ix0]
  refine CondO_cut (fun α' h' => g1 = h' ∧ α'.get 2 = some (.pointer (some ⟨h.next, 0, none⟩)) ∧ α'.get 4 = some (strV (dec z.natAbs)) ∧ α'.get 5 = some (.bool (decide (z < 0)))) ?_ ?_
  · by_cases hneg : z < 0
    · have d3 : decide ((c1.toNat : Int) = 45) = true := decide_eq_true (hc1n.2 hneg)
      have sl : sliceO (En G) 9 g1.blks (some (strV (decZ z))) (some [.int .i64 1]) (some []) = some (strV (dec z.natAbs)) := by
        rw [slcLo9 (by omega) (by omega), decZ_neg hneg]; rfl
      have d4 : decide (z < 0) = true := decide_eq_true hneg
      simp (disch := omega) only [go_sem,reduceIte,Nat.reduceEqDiff,Nat.reduceLT, d3, sl]
      exact ⟨trivial, by simp only [go_sem,reduceIte,Nat.reduceEqDiff,Nat.reduceLT], by simp only [go_sem,reduceIte,Nat.reduceEqDiff,Nat.reduceLT], by simp only [go_sem,reduceIte,Nat.reduceEqDiff,Nat.reduceLT, d4]⟩
    · have d3 : decide ((c1.toNat : Int) = 45) = false := decide_eq_false fun e => hneg (hc1n.1 e)
      have d4 : decide (z < 0) = false := decide_eq_false hneg
      simp (disch := omega) only [go_sem,reduceIte,Nat.reduceEqDiff,Nat.reduceLT, d3]
      exact ⟨trivial, by simp only [go_sem,reduceIte,Nat.reduceEqDiff,Nat.reduceLT], by simp only [go_sem,reduceIte,Nat.reduceEqDiff,Nat.reduceLT, decZ_pos hneg], by simp only [go_sem,reduceIte,Nat.reduceEqDiff,Nat.reduceLT, d4]⟩
  clear d1 d2 ix0 hc1 hc1n hdl hn1
  rintro α g2 ⟨rfl, e2, e4, e5⟩
  generalize hs : dec z.natAbs = s at *
  have w1 : IntKind.i64.wrap ((s.length : Int) - 1) = (s.length : Int) - 1 := wrap_i64 (by omega) (by omega)
  simp (disch := omega) only [go_sem,reduceIte,Nat.reduceEqDiff,Nat.reduceLT, e2, e4, e5, w1]
  refine WK_loopN (fun j α g3 => g1 = g3 ∧ j ≤ s.length ∧ α.get 2 = some (.pointer (some ⟨h.next, 0, none⟩)) ∧ α.get 4 = some (strV s) ∧ α.get 5 = some (.bool (decide (z < 0))) ∧ α.get 6 = some (.int .i64 (s.length : Int)) ∧ α.get 7 = some (.int .i64 ((j : Int) - 1))) s.length
    ⟨rfl, Nat.le_refl _, by simp only [go_sem,reduceIte,Nat.reduceEqDiff,Nat.reduceLT, e2], by simp only [go_sem,reduceIte,Nat.reduceEqDiff,Nat.reduceLT, e4], by simp only [go_sem,reduceIte,Nat.reduceEqDiff,Nat.reduceLT, e5], by simp only [go_sem,reduceIte,Nat.reduceEqDiff,Nat.reduceLT], by simp only [go_sem,reduceIte,Nat.reduceEqDiff,Nat.reduceLT]⟩ (by omega) ?_
  clear e2 e4 e5
  rintro J j α g3 ⟨rfl, hj, e2, e4, e5, e6, e7⟩ hJ
  cases j with
  | succ j =>
    have j1 : ((j + 1 : Nat) : Int) - 1 = (j : Int) := by omega
    rw [j1] at e7
    have d0 : decide ((0 : Int) ≤ (j : Int)) = true := decide_eq_true (by omega)
    obtain ⟨c, hc⟩ : ∃ c, s[j]? = some c := ⟨s[j]'(by omega), List.getElem?_eq_getElem (by omega)⟩
    have hdc := hdg c (List.mem_of_getElem? hc)
    unfold isDg at hdc
    have ix : ∀ {G : Nat}, idxO (En G) 9 (some (strV s)) (some (.int .i64 (j : Int))) = some (.int .u8 c.toNat) := idx9 (by omega) (by rw [Int.toNat_natCast]; exact hc)
    have dc : decide ((c.toNat : Int) = 47) = false := decide_eq_false (by omega)
    have w2 : IntKind.i64.wrap ((j : Int) - 1) = (j : Int) - 1 := wrap_i64 (by omega) (by omega)
    simp (disch := omega) only [go_sem,reduceIte,Nat.reduceEqDiff,Nat.reduceLT, e2, e4, e5, e6, e7, d0, ix, dc, w2]
    exact hJ j _ _ (by omega) ⟨rfl, by omega, by simp only [go_sem,reduceIte,Nat.reduceEqDiff,Nat.reduceLT, e2], by simp only [go_sem,reduceIte,Nat.reduceEqDiff,Nat.reduceLT, e4], by simp only [go_sem,reduceIte,Nat.reduceEqDiff,Nat.reduceLT, e5], by simp only [go_sem,reduceIte,Nat.reduceEqDiff,Nat.reduceLT, e6], by simp only [go_sem,reduceIte,Nat.reduceEqDiff,Nat.reduceLT]⟩
  | zero =>
    have d0 : decide ((0 : Int) ≤ ((0 : Nat) : Int) - 1) = false := rfl
    have sl : sliceO (En G) 9 g1.blks (some (strV s)) (some []) (some [.int .i64 (s.length : Int)]) = some (strV s) := by
      rw [slcHi9 (by omega) (by omega), Int.toNat_natCast, List.take_length]
    simp (disch := omega) only [go_sem,reduceIte,Nat.reduceEqDiff,Nat.reduceLT, e2, e4, e5, e6, e7, d0, sl]
    refine CallO_f (digits_spec (l := s) (by omega) (by omega) hlen hdg hhd) (by omega) fun w3 g3 pr3 hw3 => ?_
    have n3 := pr3.next
    obtain ⟨u3, rfl, hu3⟩ := hw3
    rw [hdv] at hu3
    have hu30 := hu3
    have hzl : ∃ (A3 : Option Addr) (k3 c3 : Nat), u3 = .agg #[.bool false, .slice A3 k3 c3] ∧ (z < 0 → k3 ≠ 0) := by
      obtain ⟨l, A, c, rfl, _, _, hn, el⟩ := hu3
      refine ⟨A, l.length, c, ?_, fun hneg e => ?_⟩
      · rw [show decide (((z.natAbs : Nat) : Int) < 0) = false from decide_eq_false (by omega)]
      · rw [List.length_eq_zero_iff] at e
        rw [e, nv_nil] at el; omega
    obtain ⟨A3, k3, c3, rfl, hk3⟩ := hzl
    simp (disch := omega) only [go_sem,reduceIte,Nat.reduceEqDiff,Nat.reduceLT]
    refine At_alloc i60 zero60 rfl (by omega) fun g4 hn4 => ?_
    have n4 := hn4.next
    have pr4 : Pres g3.next g3 g4 := hn4.pres (Nat.le_refl _)
    have x4 : Var g4.blks g3.next [.bool false, .slice none 0 0] := hn4.var
    try simp (disch := omega) only [go_sem,reduceIte,Nat.reduceEqDiff,Nat.reduceLT]
    refine At_storeV (inf := inf60) (v := .agg #[.bool false, .slice A3 k3 c3]) i60 (by simp only [go_sem,reduceIte,Nat.reduceEqDiff,Nat.reduceLT]) (by simp only [go_sem,reduceIte,Nat.reduceEqDiff,Nat.reduceLT]) x4 (by rw [size60]; rfl) (by rw [size60]; rfl) rfl (by show G ≤ g3.next; omega) fun g5 hs5 x5 => ?_
    have n5 := hs5.next
    replace x5 : Var g5.blks g3.next [.bool false, .slice A3 k3 c3] := x5
    have prA : Pres h.next h g5 := (pr1.trans (pr3.le (by omega))).trans ((pr4.le (by omega)).trans (hs5.pres (by omega)))
    have hu5 := ((hu30.pres pr4 (Nat.le_refl _)).pres (hs5.pres (m := g3.next) (Nat.le_refl _)) (Nat.le_refl _)).wide (N' := g5.next) (by omega)
    have xr5 : Var g5.blks h.next [.bool false, .slice none 0 0, .bool false, .slice none 0 0] := x1.mono ((hs5.get _ (by omega)).trans ((pr4.get _ (by omega)).trans (pr3.get _ (by omega))))
    simp (disch := omega) only [go_sem,reduceIte,Nat.reduceEqDiff,Nat.reduceLT]
    refine CallO_f (Int_spec (z := 1) (by omega) (by omega) (by omega)) (by omega) fun w6 g6 pr6 hw6 => ?_
    have n6 := pr6.next
    have hw60 := hw6
    obtain ⟨A6, k6, c6, rfl⟩ := hw6.shape
    have x6 := x5.mono (B' := g6.blks) (pr6.get _ (by omega))
    have hu6 := (hu5.pres pr6 (Nat.le_refl _)).wide n6
    have xr6 := xr5.mono (B' := g6.blks) (pr6.get _ (by omega))
    try simp (disch := omega) only [go_sem,reduceIte,Nat.reduceEqDiff,Nat.reduceLT]
    refine At_alloc i60 zero60 rfl (by omega) fun g7 hn7 => ?_
    have n7 := hn7.next
    have pr7 : Pres g6.next g6 g7 := hn7.pres (Nat.le_refl _)
    have x7 : Var g7.blks g6.next [.bool false, .slice none 0 0] := hn7.var
    try simp (disch := omega) only [go_sem,reduceIte,Nat.reduceEqDiff,Nat.reduceLT]
    refine At_storeV (inf := inf60) (v := .agg #[.bool (decide ((1 : Int) < 0)), .slice A6 k6 c6]) i60 (by simp only [go_sem,reduceIte,Nat.reduceEqDiff,Nat.reduceLT]) (by simp only [go_sem,reduceIte,Nat.reduceEqDiff,Nat.reduceLT]) x7 (by rw [size60]; rfl) (by rw [size60]; rfl) rfl (by show G ≤ g6.next; omega) fun g8 hs8 x8 => ?_
    have n8 := hs8.next
    replace x8 : Var g8.blks g6.next [.bool (decide ((1 : Int) < 0)), .slice A6 k6 c6] := x8
    have pr68 : Pres g6.next g6 g8 := pr7.trans (hs8.pres (Nat.le_refl _))
    have prB : Pres h.next h g8 := (prA.trans (pr6.le (by omega))).trans (pr68.le (by omega))
    have hu8 := (hu6.pres pr68 (Nat.le_refl _)).wide (N' := g8.next) (by omega)
    have hw8 := (hw60.pres pr68 (Nat.le_refl _)).wide (N' := g8.next) (by omega)
    have xr8 := xr6.mono (B' := g8.blks) (pr68.get _ (by omega))
    have xd8 := x6.mono (B' := g8.blks) (pr68.get _ (by omega))
    have l81 : loadv g8.blks g3.next 1 = some (.slice A3 k3 c3) := by rw [xd8.load (by simp)]; rfl
    have hdl : decide ((s.length : Int) < (s.length : Int)) = false := decide_eq_false (by omega)
    clear x1 x4 x5 x6 x7 hn4 hn7 hs5 hs8 xr5 xr6 hu5 hu6 hw60 hw6 hu30 hu3 pr7 pr68
    by_cases hneg : z < 0
    · have d5 : decide (z < 0) = true := decide_eq_true hneg
      have d6 : decide ((k3 : Int) = 0) = false := decide_eq_false (by have := hk3 hneg; omega)
      have r8 := xd8.zn (G := G) rfl
      rw [d5] at e5
      simp (disch := omega) only [go_sem,reduceIte,Nat.reduceEqDiff,Nat.reduceLT, e2, e4, e5, e6, hdl, fld60_1, load34, Nat.zero_add, l81, len34, d6, r8]
      refine CallO_f (Neg_spec (N := g8.next) (by omega) (Nat.le_refl _) (by
        have e : decide (((z.natAbs : Nat) : Int) < 0) = false := decide_eq_false (by omega)
        exact hu8)) (by omega) fun w9 g9 pr9 hw9 => ?_
      have n9 := pr9.next
      rw [show -((z.natAbs : Nat) : Int) = z by omega] at hw9
      have hw90 := hw9
      obtain ⟨A9, k9, c9, rfl⟩ := hw9.shape
      have xd9 := xd8.mono (B' := g9.blks) (pr9.get _ (by omega))
      try simp (disch := omega) only [go_sem,reduceIte,Nat.reduceEqDiff,Nat.reduceLT]
      refine At_storeV (inf := inf60) (v := .agg #[.bool (decide (z < 0)), .slice A9 k9 c9]) i60 (by simp only [go_sem,reduceIte,Nat.reduceEqDiff,Nat.reduceLT]) (by simp only [go_sem,reduceIte,Nat.reduceEqDiff,Nat.reduceLT]) xd9 (by rw [size60]; rfl) (by rw [size60]; rfl) rfl (by show G ≤ g3.next; omega) fun g10 hs10 x10 => ?_
      have n10 := hs10.next
      replace x10 : Var g10.blks g3.next [.bool (decide (z < 0)), .slice A9 k9 c9] := x10
      have r10 := x10.zn (G := G) rfl
      have xo10 := (x8.mono (B' := g10.blks) ((hs10.get _ (by omega)).trans (pr9.get _ (by omega))))
      have r11 := xo10.zn (G := G) rfl
      have xr10 := xr8.mono (B' := g10.blks) ((hs10.get _ (by omega)).trans (pr9.get _ (by omega)))
      have hz10 := (hw90.sto hs10 xd9 noI_s).wide (N' := g10.next) (by omega)
      have ho10 := (((hw8.pres pr9 (Nat.le_refl _)).wide n9).sto hs10 xd9 noI_s).wide (N' := g10.next) (by omega)
      simp (disch := omega) only [go_sem,reduceIte,Nat.reduceEqDiff,Nat.reduceLT, e2, r10, r11, build64]
      refine At_storeV (inf := inf64) (v := .agg #[.bool (decide (z < 0)), .slice A9 k9 c9, .bool (decide ((1 : Int) < 0)), .slice A6 k6 c6]) i64 (by simp only [go_sem,reduceIte,Nat.reduceEqDiff,Nat.reduceLT, e2]) (by simp only [go_sem,reduceIte,Nat.reduceEqDiff,Nat.reduceLT]) xr10 (by rw [size64]; rfl) (by rw [size64]; rfl) rfl (by show G ≤ h.next; omega) fun g12 hs12 v12 => ?_
      have n12 := hs12.next
      have r12 := v12.qnE (G := G) rfl
      simp (disch := omega) only [go_sem,reduceIte,Nat.reduceEqDiff,Nat.reduceLT, e2, r12]
      refine hQ' _ _ ⟨(prB.trans (pr9.le (by omega))).trans ((hs10.pres (by omega)).trans (hs12.pres (by omega))), _, rfl, A9, A6, k9, k6, c9, c6, rfl, ?_, ?_⟩
      · exact (hz10.sto hs12 xr10 noI_q).wide (by omega)
      · exact (ho10.sto hs12 xr10 noI_q).wide (by omega)
    · have d5 : decide (z < 0) = false := decide_eq_false hneg
      have r8 := xd8.zn (G := G) rfl
      have r9 := x8.zn (G := G) rfl
      rw [d5] at e5
      have hz8 : ZV g8.blks g8.next z (.agg #[.bool (decide (z < 0)), .slice A3 k3 c3]) := by
        have e : ((z.natAbs : Nat) : Int) = z := by omega
        rw [e] at hu8
        rw [d5]
        exact hu8
      have rb : buildO (En G) 64 (some [(0, .agg #[.bool false, .slice A3 k3 c3]), (1, .agg #[.bool (decide ((1 : Int) < 0)), .slice A6 k6 c6])]) = some (.agg #[.bool (decide (z < 0)), .slice A3 k3 c3, .bool (decide ((1 : Int) < 0)), .slice A6 k6 c6]) := by rw [build64, d5]
      simp (disch := omega) only [go_sem,reduceIte,Nat.reduceEqDiff,Nat.reduceLT, e2, e4, e5, e6, hdl, r8, r9]
      simp (disch := omega) only [go_sem,reduceIte,Nat.reduceEqDiff,Nat.reduceLT, rb]
      refine At_storeV (inf := inf64) (v := .agg #[.bool (decide (z < 0)), .slice A3 k3 c3, .bool (decide ((1 : Int) < 0)), .slice A6 k6 c6]) i64 (by simp only [go_sem,reduceIte,Nat.reduceEqDiff,Nat.reduceLT, e2]) (by simp only [go_sem,reduceIte,Nat.reduceEqDiff,Nat.reduceLT]) xr8 (by rw [size64]; rfl) (by rw [size64]; rfl) rfl (by show G ≤ h.next; omega) fun g12 hs12 v12 => ?_
      have n12 := hs12.next
      have r12 := v12.qnE (G := G) rfl
      simp (disch := omega) only [go_sem,reduceIte,Nat.reduceEqDiff,Nat.reduceLT, e2, r12]
      refine hQ' _ _ ⟨prB.trans (hs12.pres (by omega)), _, rfl, A3, A6, k3, k6, c3, c6, rfl, ?_, ?_⟩
      · exact (hz8.sto hs12 xr8 noI_q).wide (by omega)
      · exact (hw8.sto hs12 xr8 noI_q).wide (by omega)
end
end Go.Proofs.YthankillfhmfkaaGreatDoor.Ev

/- The document's own numbers: Integer and Of. -/
set_option linter.unusedSimpArgs false
set_option linter.unusedVariables false
namespace Go.Proofs.YthankillfhmfkaaGreatDoor.Ev
open Go Go.Proofs Go.Lm
noncomputable section
theorem QV.shape {B : Tr Blk} {N : Nat} {a b : Int} {v : Value} (x : QV B N a b v) : ∃ (A A' : Option Addr) (n n' c c' : Nat), v = .agg #[.bool (decide (a < 0)), .slice A n c, .bool (decide (b < 0)), .slice A' n' c'] := by
  obtain ⟨A, A', n, n', c, c', e, _⟩ := x
  exact ⟨A, A', n, n', c, c', e⟩
theorem sr_one : Sr (1 : Int).natAbs := ⟨1, by omega, by decide⟩
set_option maxHeartbeats 8000000 in
theorem Integer_spec {G : Nat} {z : Int} {h : H} (hG : G ≤ h.next) (hz : Dk z.natAbs) :
    Spec Tryz.prog (En G) 55 [strV (decZ z)] h fun w h' => w = .bool true := by
  refine CallsE_enter (En_known (by decide)) (En_f.trans Tryz.func55) rfl ⟨Nat.le_of_ble_eq_true rfl, by decide⟩ fun Q' hQ' => ?_
  simp (disch := omega) only [Tryz.f55, go_sem,reduceIte,Nat.reduceEqDiff,Nat.reduceLT]
  refine CallO_f (Parse_spec (z := z) hG hz) (by omega) fun w1 g1 pr1 hw1 => ?_
  clear hz
  have n1 := pr1.next
  obtain ⟨u, rfl, hu⟩ := hw1
  have hu0 := hu
  obtain ⟨A, A', n, n', c, c', rfl, hz1, hz2⟩ := hu
  try simp (disch := omega) only [go_sem,reduceIte,Nat.reduceEqDiff,Nat.reduceLT]
  refine At_alloc i64 zero64 rfl (by omega) fun g2 hn2 => ?_
  have n2 := hn2.next
  have x2 : Var g2.blks g1.next [.bool false, .slice none 0 0, .bool false, .slice none 0 0] := hn2.var
  have pr2 : Pres g1.next g1 g2 := hn2.pres (Nat.le_refl _)
  try simp (disch := omega) only [go_sem,reduceIte,Nat.reduceEqDiff,Nat.reduceLT]
  refine At_storeV (inf := inf64) (v := .agg #[.bool (decide (z < 0)), .slice A n c, .bool (decide ((1 : Int) < 0)), .slice A' n' c']) i64 (by simp only [go_sem,reduceIte,Nat.reduceEqDiff,Nat.reduceLT]) (by simp only [go_sem,reduceIte,Nat.reduceEqDiff,Nat.reduceLT]) x2 (by rw [size64]; rfl) (by rw [size64]; rfl) rfl (by show G ≤ g1.next; omega) fun g3 hs3 x3 => ?_
  have n3 := hs3.next
  replace x3 : Var g3.blks g1.next [.bool (decide (z < 0)), .slice A n c, .bool (decide ((1 : Int) < 0)), .slice A' n' c'] := x3
  have pr3 : Pres g1.next g1 g3 := pr2.trans (hs3.pres (Nat.le_refl _))
  have hd3 := (hz2.pres pr3 (Nat.le_refl _)).wide (N' := g3.next) (by omega)
  have l3 := x3.q1 (G := G)
  simp (disch := omega) only [go_sem,reduceIte,Nat.reduceEqDiff,Nat.reduceLT]
  refine WK_regionT 5 ⟨by kernel_rfl, by kernel_rfl, by kernel_rfl⟩ ?_
  simp (disch := omega) only [go_sem,reduceIte,Nat.reduceEqDiff,Nat.reduceLT, fld64_1, Nat.zero_add, l3]
  refine CallO_spec (Int_spec (z := 1) (by rw [st_next]; omega) (by omega) (by omega)) (by omega) (fun _ _ _ h => h) fun w4 g4 pr4 hw4 => ?_
  have n4 := pr4.next
  simp (disch := omega) only [go_sem,reduceIte,Nat.reduceEqDiff,Nat.reduceLT]
  refine CallO_spec (Cmp_spec (N := g4.next) (by rw [st_next]; omega) (by rw [st_next]; omega) (by rw [st_blks]; exact (hd3.pres pr4 (Nat.le_refl _)).wide n4) (by rw [st_blks]; exact hw4) sr_one sr_one) (by omega) (fun _ _ _ h => h) fun w5 g5 pr5 hw5 => ?_
  have n5 := pr5.next
  subst hw5
  have d : decide (sgnI (1 - 1) = 0) = true := rfl
  simp (disch := omega) only [go_sem,reduceIte,Nat.reduceEqDiff,Nat.reduceLT, d]
  exact hQ' _ _ ⟨((pr1.trans (pr3.le (by omega))).trans (pr4.le (by omega))).trans (pr5.le (by omega)), rfl⟩
set_option maxHeartbeats 8000000 in
theorem Of_spec {G : Nat} {z : Int} {h : H} (hG : G ≤ h.next) (hz : Dk z.natAbs) :
    Spec Tryz.prog (En G) 58 [strV (decZ z)] h fun w h' => QV h'.blks h'.next z 1 w := by
  refine CallsE_enter (En_known (by decide)) (En_f.trans Tryz.func58) rfl ⟨Nat.le_of_ble_eq_true rfl, by decide⟩ fun Q' hQ' => ?_
  simp (disch := omega) only [Tryz.f58, go_sem,reduceIte,Nat.reduceEqDiff,Nat.reduceLT]
  refine At_alloc i64 zero64 rfl (by omega) fun g0 hn0 => ?_
  have n0 := hn0.next
  have pr0 : Pres h.next h g0 := hn0.pres (Nat.le_refl _)
  have x0 : Var g0.blks h.next [.bool false, .slice none 0 0, .bool false, .slice none 0 0] := hn0.var
  try simp (disch := omega) only [go_sem,reduceIte,Nat.reduceEqDiff,Nat.reduceLT]
  refine CallO_f (Parse_spec (z := z) (by omega) hz) (by omega) fun w1 g1 pr1 hw1 => ?_
  clear hz
  have n1 := pr1.next
  obtain ⟨u, rfl, hu⟩ := hw1
  have hu0 := hu
  obtain ⟨A, A', n, n', c, c', rfl⟩ := hu.shape
  try simp (disch := omega) only [go_sem,reduceIte,Nat.reduceEqDiff,Nat.reduceLT]
  refine At_alloc i64 zero64 rfl (by omega) fun g2 hn2 => ?_
  have n2 := hn2.next
  have x2 : Var g2.blks g1.next [.bool false, .slice none 0 0, .bool false, .slice none 0 0] := hn2.var
  have pr2 : Pres g1.next g1 g2 := hn2.pres (Nat.le_refl _)
  try simp (disch := omega) only [go_sem,reduceIte,Nat.reduceEqDiff,Nat.reduceLT]
  refine At_storeV (inf := inf64) (v := .agg #[.bool (decide (z < 0)), .slice A n c, .bool (decide ((1 : Int) < 0)), .slice A' n' c']) i64 (by simp only [go_sem,reduceIte,Nat.reduceEqDiff,Nat.reduceLT]) (by simp only [go_sem,reduceIte,Nat.reduceEqDiff,Nat.reduceLT]) x2 (by rw [size64]; rfl) (by rw [size64]; rfl) rfl (by show G ≤ g1.next; omega) fun g3 hs3 x3 => ?_
  have n3 := hs3.next
  replace x3 : Var g3.blks g1.next [.bool (decide (z < 0)), .slice A n c, .bool (decide ((1 : Int) < 0)), .slice A' n' c'] := x3
  have pr3 : Pres g1.next g1 g3 := pr2.trans (hs3.pres (Nat.le_refl _))
  have r3 := x3.qn (G := G) rfl
  have y0 := x0.mono (B' := g3.blks) ((pr3.get _ (by omega)).trans (pr1.get _ (by omega)))
  simp (disch := omega) only [go_sem,reduceIte,Nat.reduceEqDiff,Nat.reduceLT, r3]
  refine At_storeV (inf := inf64) (v := .agg #[.bool (decide (z < 0)), .slice A n c, .bool (decide ((1 : Int) < 0)), .slice A' n' c']) i64 (by simp only [go_sem,reduceIte,Nat.reduceEqDiff,Nat.reduceLT]) (by simp only [go_sem,reduceIte,Nat.reduceEqDiff,Nat.reduceLT]) y0 (by rw [size64]; rfl) (by rw [size64]; rfl) rfl (by show G ≤ h.next; omega) fun g4 hs4 x4 => ?_
  have n4 := hs4.next
  have r4 := x4.qnE (G := G) rfl
  simp (disch := omega) only [go_sem,reduceIte,Nat.reduceEqDiff,Nat.reduceLT, r4]
  refine hQ' _ _ ⟨((pr0.trans (pr1.le (by omega))).trans (pr3.le (by omega))).trans (hs4.pres (by omega)), ?_⟩
  exact ((hu0.pres pr3 (Nat.le_refl _)).sto hs4 y0 noI_q).wide (by omega)
end
end Go.Proofs.YthankillfhmfkaaGreatDoor.Ev

