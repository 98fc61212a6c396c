/- The law's maker of cuts. -/
import Derived.Test.YtnhbkoeomefkdaaDoorPmhQ3
import Derived.Test.YtnhbkoeomefkdaaDoorPmhA7
set_option linter.unusedVariables false
set_option linter.unusedSimpArgs false
namespace Go.Proofs.YtnhbkoeomefkdaaDoor.Ev.L
open Go Go.Proofs Go.Proofs.YtnhbkoeomefkdaaDoor.Ev
noncomputable section

section
variable {P : Program} {E : Env} {n : Nat} {a b c : Code} {k : List Frm} {α : Tr Value} {h : H} {R : Rt}
/-- what holds where a piece of code has ended -/
theorem WK_cut (J : Tr Value → H → Prop) (h1 : WK P E n c (.inv J :: k) α h R) (h2 : ∀ α' h', J α' h' → cont P E n k .normal α' h' R) : WK P E n c k α h R := by
  unfold WK at *
  refine W.mono h1 fun e α' h' he => ?_
  cases e with
  | normal => exact h2 _ _ he
  | exit id => exact he
  | ret => exact he
theorem CondO_cut (J : Tr Value → H → Prop) {v : Option Value} (h1 : CondO P E n a b (.inv J :: k) α h R v) (h2 : ∀ α' h', J α' h' → cont P E n k .normal α' h' R) : CondO P E n a b k α h R v := by
  unfold CondO at *
  split at h1
  · exact WK_cut J h1 h2
  · exact WK_cut J h1 h2
  · exact h1.elim
end
def u8s (l : List Nat) : List Value := l.map fun (z : Nat) => .int .u8 (z : Int)
theorem tm_nat {a b : Nat} : (a : Int).tmod (b : Int) = ((a % b : Nat) : Int) := rfl
theorem td_nat {a b : Nat} : (a : Int).tdiv (b : Int) = ((a / b : Nat) : Int) := rfl
theorem wrap_u8 {x : Int} (h1 : 0 ≤ x) (h2 : x ≤ 255) : IntKind.u8.wrap x = x := by
  unfold IntKind.wrap
  simp [IntKind.bits, IntKind.signed]
  omega
theorem _root_.Go.Proofs.YtnhbkoeomefkdaaDoor.Ev.SlV.u8_at {B : Tr Blk} {lo hi n c : Nat} {l : List Nat} {b off i z : Nat} (s : SlV B lo hi 1 n (u8s l) (.slice (some ⟨b, off, none⟩) n c)) (hz : l[i]? = some z) (hn : n = l.length) : loadv B b (off + i) = some (.int .u8 (z : Int)) := by
  have hi : i < l.length := (List.getElem?_eq_some_iff.1 hz).1
  obtain ⟨b1, o1, he, _, _, hld⟩ := s.at_ (by omega)
  injection he with he
  injection he with e1 e2
  subst e1; subst e2
  rw [hld i (by omega), u8s, List.getElem?_map, hz]
  rfl
theorem conv53 {P : Program} {G z : Nat} {B : Tr Blk} (h : z ≤ 255) : convO P (En G) B 5 3 (some (.int .u8 (z : Int))) = some (.int .i64 z) := by
  rw [convO_int u5 u3, wrap_i64 (by omega) (by omega)]
theorem td2 {z : Nat} : (z : Int).tdiv 2 = ((z / 2 : Nat) : Int) := rfl
theorem tm3 {z : Nat} : (z : Int).tmod 3 = ((z % 3 : Nat) : Int) := rfl
theorem tm2 {z : Nat} : (z : Int).tmod 2 = ((z % 2 : Nat) : Int) := rfl
theorem mul_bd {a : Int} {m : Nat} (h0 : 0 ≤ a) (h1 : a ≤ 80) (h2 : m ≤ 3) : 0 ≤ a * m ∧ a * m ≤ 240 := by
  constructor
  · exact Int.mul_nonneg h0 (by omega)
  · have := Int.mul_le_mul h1 (show (m : Int) ≤ 3 by omega) (by omega) (by omega)
    omega
/-- the list while squares are scaled, one after the other -/
def part (m : Int) (k : Nat) (L : List Sq) : List Sq := (L.take k).map (scl m) ++ L.drop k
theorem part_len {m : Int} {k : Nat} {L : List Sq} : (part m k L).length = L.length := by
  simp [part]
  omega
theorem part_at {m : Int} {k : Nat} {L : List Sq} {q : Sq} (h : L[k]? = some q) : (part m k L)[k]? = some q := by
  have hk : k < L.length := (List.getElem?_eq_some_iff.1 h).1
  unfold part
  rw [List.getElem?_append_right (by simp; omega)]
  simp
  rw [show k + (k - min k L.length) = k by omega]
  exact h
theorem part_set {m : Int} {k : Nat} {L : List Sq} {q : Sq} (h : L[k]? = some q) : (sqc (part m k L)).take (k * 3) ++ tri (q.1 * m) (q.2.1 * m) (q.2.2 * m) ++ (sqc (part m k L)).drop (k * 3 + 3) = sqc (part m (k + 1) L) := by
  have hk : k < L.length := (List.getElem?_eq_some_iff.1 h).1
  have hl : ((L.take k).map (scl m)).length = k := by simp; omega
  have h1 : (part m k L).take k = (L.take k).map (scl m) := by
    unfold part
    rw [List.take_append, hl, Nat.sub_self, List.take_zero, List.append_nil, List.take_of_length_le (by omega)]
  have h2 : (part m k L).drop (k + 1) = L.drop (k + 1) := by
    unfold part
    rw [List.drop_append, hl, List.drop_of_length_le (by omega), List.nil_append, List.drop_drop]
    congr 1
    omega
  rw [sqc_take, h1, show k * 3 + 3 = (k + 1) * 3 by omega, sqc_dropn, h2]
  have : part m (k + 1) L = (L.take k).map (scl m) ++ [scl m q] ++ L.drop (k + 1) := by
    unfold part
    rw [take_snoc h, List.map_append]
    rfl
  rw [this, sqc_app, sqc_app]
  rfl
theorem part_all {m : Int} {L : List Sq} : part m L.length L = L.map (scl m) := by
  unfold part
  rw [List.take_length, List.drop_length, List.append_nil]

set_option maxRecDepth 100000 in
set_option maxHeartbeats 16000000 in
theorem made_spec {G lo hi c most : Nat} {zs : List Nat} {A : Option Addr} {h : H} (hG : G ≤ h.next) (hhi : hi ≤ h.next) (hv : SlV h.blks lo hi 1 zs.length (u8s zs) (.slice A zs.length c)) (hz : ∀ z ∈ zs, z ≤ 255) (hn : zs.length < 4611686018427387904) (hm1 : 1 ≤ most) (hm : most ≤ 24) :
    Spec Tryd.prog (En G) 34 [.slice A zs.length c, .int .i64 most] h fun v h' => ∃ (A' : Option Addr) (L : List Sq) (w ht : Nat), v = .slice A' L.length L.length ∧ Mk L w ht ∧ w ≤ 80 ∧ ht ≤ 80 ∧ L.length ≤ most ∧ SlV h'.blks h.next h'.next 3 L.length (sqc L) (.slice A' L.length L.length) := by
  refine CallsE_enter (En_known (by decide)) (En_f.trans Tryd.func34) rfl ⟨Nat.le_of_ble_eq_true rfl, by decide⟩ fun Q' hQ' => ?_
  simp only [Tryd.f34, go_sem,reduceIte,Nat.reduceEqDiff,Nat.reduceLT]
  have hb0 : buildO (En G) 61 (some [(2, .int .i64 1)]) = some (sqv (0, 0, 1)) := by
    have hu : (En G).u 61 = _ := En_u.trans <| (envOf_u (by decide)).trans Tryd.underlying61
    simp only [buildO, evBuild, i61, hu, zero61, places, i3, size3]
    rfl
  simp only [go_sem,reduceIte,Nat.reduceEqDiff,Nat.reduceLT, hb0]
  refine At_lit (vs := [(0, sqv (0, 0, 1))]) (cs := #[.int .i64 0, .int .i64 0, .int .i64 1]) u22 i61 zero61 (by rw [size61]; rfl) (by simp only [go_sem,reduceIte,Nat.reduceEqDiff,Nat.reduceLT]) (by rw [size61]; rfl) (by omega) fun h1 hn1 => ?_
  rw [size61] at hn1
  have hs1 : SlV h1.blks h.next h1.next 3 1 (sqc [(0, 0, 1)]) (.slice (some ⟨h.next, 0, none⟩) 1 1) := hn1.slv (n := 1) (c := 1) rfl
  have n1 := hn1.next
  have pr1 : Pres h.next h h1 := hn1.pres (Nat.le_refl _)
  have fin : ∀ (A' : Option Addr) (L : List Sq) (w ht : Nat) h', Mk L w ht → w ≤ 80 → ht ≤ 80 → L.length ≤ most → Pres h.next h h' → SlV h'.blks h.next h'.next 3 L.length (sqc L) (.slice A' L.length L.length) → Q' (.slice A' L.length L.length) h' := fun A' L w ht h' g1 g2 g3 g4 g5 g6 => hQ' _ _ ⟨g5, A', L, w, ht, rfl, g1, g2, g3, g4, g6⟩
  clear hQ'
  simp only [go_sem,reduceIte,Nat.reduceEqDiff,Nat.reduceLT]
  refine WK_loopN (fun j α h2 => ∃ (i : Nat) (A' : Option Addr) (L : List Sq) (w ht : Nat), i + j = zs.length ∧ Mk L w ht ∧ w ≤ 80 ∧ ht ≤ 80 ∧ L.length ≤ most ∧ Pres h.next h h2 ∧ SlV h2.blks h.next h2.next 3 L.length (sqc L) (.slice A' L.length L.length) ∧
      α.get 0 = some (.slice A zs.length c) ∧ α.get 1 = some (.int .i64 most) ∧ α.get 5 = some (.slice A' L.length L.length) ∧ α.get 6 = some (.int .i64 w) ∧ α.get 7 = some (.int .i64 ht) ∧ α.get 8 = some (.int .i64 i)) zs.length
    ⟨0, some ⟨h.next, 0, none⟩, [(0, 0, 1)], 1, 1, by omega, Mk.one, by omega, by omega, hm1, pr1, hs1, by simp only [go_sem,reduceIte,Nat.reduceEqDiff,Nat.reduceLT], by simp only [go_sem,reduceIte,Nat.reduceEqDiff,Nat.reduceLT], by (simp only [go_sem,reduceIte,Nat.reduceEqDiff,Nat.reduceLT]) <;> rfl, by (simp only [go_sem,reduceIte,Nat.reduceEqDiff,Nat.reduceLT]) <;> rfl, by (simp only [go_sem,reduceIte,Nat.reduceEqDiff,Nat.reduceLT]) <;> rfl, by (simp only [go_sem,reduceIte,Nat.reduceEqDiff,Nat.reduceLT]) <;> rfl⟩ (by omega) ?_
  clear hs1 hn1 n1 pr1 h1 hb0
  rintro J j α h2 ⟨i, A', L, w, ht, hij, hmk, hw, hht, hLm, pr, hs, e0, e1, e5, e6, e7, e8⟩ hJ
  have nx := pr.next
  by_cases hlt : (i : Int) < (zs.length : Int)
  · obtain ⟨z, hzi⟩ : ∃ z, zs[i]? = some z := ⟨_, List.getElem?_eq_getElem (show i < zs.length by omega)⟩
    have hz255 := hz z (List.mem_of_getElem? hzi)
    have hv2 := hv.mono (B' := h2.blks) fun b _ hb => pr.get b (by omega)
    obtain ⟨bA, oA, rfl, _, _, _⟩ := hv2.at_ (by omega)
    have lz := hv2.u8_at hzi rfl
    have lz' : loadv h2.blks bA (oA + i) = some (.int .u8 (((UInt8.ofNat z).toNat : Nat) : Int)) := by
      rw [lz, UInt8.toNat_ofNat', Nat.mod_eq_of_lt (by omega)]
    simp (disch := omega) only [go_sem,reduceIte,Nat.reduceEqDiff,Nat.reduceLT, e0, e1, e5, e6, e7, e8, hlt, len55]
    refine WK_regionT 10 ⟨by kernel_rfl, by kernel_rfl, by kernel_rfl⟩ ?_
    obtain ⟨m, hmz⟩ : ∃ m : Nat, m = z / 2 % 3 + 1 := ⟨_, rfl⟩
    have em : ((z / 2 % 3 : Nat) : Int) + 1 = (m : Int) := by omega
    have hm13 : 1 ≤ m ∧ m ≤ 3 := by omega
    simp (disch := omega) only [go_sem,reduceIte,Nat.reduceEqDiff,Nat.reduceLT, e0, e1, e5, e6, e7, e8, hlt, len55, idxA55, Int.toNat_natCast, Nat.mul_one, load5, lz, conv53 hz255, td2, tm3, tm2, wrap_i64, em]
    refine CondO_cut (fun α' h' => ∃ sd : Nat, sd = (if z % 2 = 1 then w else ht) ∧ h' = h2 ∧ α'.get 0 = some (.slice (some ⟨bA, oA, none⟩) zs.length c) ∧ α'.get 1 = some (.int .i64 most) ∧ α'.get 5 = some (.slice A' L.length L.length) ∧ α'.get 6 = some (.int .i64 w) ∧ α'.get 7 = some (.int .i64 ht) ∧ α'.get 8 = some (.int .i64 i) ∧ α'.get 9 = some (.int .i64 sd) ∧ α'.get 10 = some (.int .i64 m)) ?_ ?_
    · by_cases hodd : ((z % 2 : Nat) : Int) = 1
      · simp (disch := omega) only [go_sem,reduceIte,Nat.reduceEqDiff,Nat.reduceLT, e0, e1, e5, e6, e7, e8, hodd]
        exact ⟨w, by rw [if_pos (by omega)], by trivial, by simp only [go_sem,reduceIte,Nat.reduceEqDiff,Nat.reduceLT, e0], by simp only [go_sem,reduceIte,Nat.reduceEqDiff,Nat.reduceLT, e1], by simp only [go_sem,reduceIte,Nat.reduceEqDiff,Nat.reduceLT, e5], by simp only [go_sem,reduceIte,Nat.reduceEqDiff,Nat.reduceLT, e6], by simp only [go_sem,reduceIte,Nat.reduceEqDiff,Nat.reduceLT, e7], by simp only [go_sem,reduceIte,Nat.reduceEqDiff,Nat.reduceLT, e8], by simp only [go_sem,reduceIte,Nat.reduceEqDiff,Nat.reduceLT], by simp only [go_sem,reduceIte,Nat.reduceEqDiff,Nat.reduceLT]⟩
      · simp (disch := omega) only [go_sem,reduceIte,Nat.reduceEqDiff,Nat.reduceLT, e0, e1, e5, e6, e7, e8, hodd]
        exact ⟨ht, by rw [if_neg (by omega)], by trivial, by simp only [go_sem,reduceIte,Nat.reduceEqDiff,Nat.reduceLT, e0], by simp only [go_sem,reduceIte,Nat.reduceEqDiff,Nat.reduceLT, e1], by simp only [go_sem,reduceIte,Nat.reduceEqDiff,Nat.reduceLT, e5], by simp only [go_sem,reduceIte,Nat.reduceEqDiff,Nat.reduceLT, e6], by simp only [go_sem,reduceIte,Nat.reduceEqDiff,Nat.reduceLT, e7], by simp only [go_sem,reduceIte,Nat.reduceEqDiff,Nat.reduceLT, e8], by simp only [go_sem,reduceIte,Nat.reduceEqDiff,Nat.reduceLT], by simp only [go_sem,reduceIte,Nat.reduceEqDiff,Nat.reduceLT]⟩
    · clear e0 e1 e5 e6 e7 e8
      rintro α h' ⟨sd, hsd, rfl, e0, e1, e5, e6, e7, e8, e9, e10⟩
      obtain ⟨P, hP⟩ : ∃ P : Nat, P = max w ht * m := ⟨_, rfl⟩
      have eP : max (w : Int) (ht : Int) * (m : Int) = (P : Int) := by
        rw [hP, Int.natCast_mul]
        congr 1
        omega
      have hPb : P ≤ 240 := by
        rw [hP]
        exact Nat.mul_le_mul (show max w ht ≤ 80 by omega) hm13.2
      have hLt : L.length ≤ 24 := by omega
      simp (disch := omega) only [go_sem,reduceIte,Nat.reduceEqDiff,Nat.reduceLT, e0, e1, e5, e6, e7, e8, e9, e10, len22]
      by_cases c1 : (most : Int) < (L.length : Int) + (m : Int)
      · simp (disch := omega) only [go_sem,reduceIte,Nat.reduceEqDiff,Nat.reduceLT, e0, e1, e5, e6, e7, e8, e9, e10, len22, wrap_i64, c1]
        exact hJ (j - 1) _ _ (by omega) ⟨i + 1, A', L, w, ht, by omega, hmk, hw, hht, hLm, pr, hs, by simp only [go_sem,reduceIte,Nat.reduceEqDiff,Nat.reduceLT, e0], by simp only [go_sem,reduceIte,Nat.reduceEqDiff,Nat.reduceLT, e1], by simp only [go_sem,reduceIte,Nat.reduceEqDiff,Nat.reduceLT, e5], by simp only [go_sem,reduceIte,Nat.reduceEqDiff,Nat.reduceLT, e6], by simp only [go_sem,reduceIte,Nat.reduceEqDiff,Nat.reduceLT, e7], by (simp only [go_sem,reduceIte,Nat.reduceEqDiff,Nat.reduceLT]) <;> rfl⟩
      · by_cases c2 : (40 : Int) < (P : Int)
        · simp (disch := omega) only [go_sem,reduceIte,Nat.reduceEqDiff,Nat.reduceLT, e0, e1, e5, e6, e7, e8, e9, e10, len22, wrap_i64, c1, eP, c2]
          exact hJ (j - 1) _ _ (by omega) ⟨i + 1, A', L, w, ht, by omega, hmk, hw, hht, hLm, pr, hs, by simp only [go_sem,reduceIte,Nat.reduceEqDiff,Nat.reduceLT, e0], by simp only [go_sem,reduceIte,Nat.reduceEqDiff,Nat.reduceLT, e1], by simp only [go_sem,reduceIte,Nat.reduceEqDiff,Nat.reduceLT, e5], by simp only [go_sem,reduceIte,Nat.reduceEqDiff,Nat.reduceLT, e6], by simp only [go_sem,reduceIte,Nat.reduceEqDiff,Nat.reduceLT, e7], by (simp only [go_sem,reduceIte,Nat.reduceEqDiff,Nat.reduceLT]) <;> rfl⟩
        · simp (disch := omega) only [go_sem,reduceIte,Nat.reduceEqDiff,Nat.reduceLT, e0, e1, e5, e6, e7, e8, e9, e10, len22, wrap_i64, c1, eP, c2, tm_nat]
          have hwP : w * m ≤ P := by
            rw [hP]
            exact Nat.mul_le_mul_right _ (by omega)
          have hhP : ht * m ≤ P := by
            rw [hP]
            exact Nat.mul_le_mul_right _ (by omega)
          have hw1 : w ≤ w * m := Nat.le_mul_of_pos_right _ (by omega)
          have hh1 : ht ≤ ht * m := Nat.le_mul_of_pos_right _ (by omega)
          refine CondO_cut (fun α' hh => ∃ (A2 : Option Addr) (L2 : List Sq) (w2 h2' sd2 : Nat), Mk L2 w2 h2' ∧ w2 ≤ 40 ∧ h2' ≤ 40 ∧ sd2 = (if z % 2 = 1 then w2 else h2') ∧ sd2 % m = 0 ∧ L2.length = L.length ∧ Pres h.next h hh ∧ SlV hh.blks h.next hh.next 3 L2.length (sqc L2) (.slice A2 L2.length L2.length) ∧ α'.get 0 = some (.slice (some ⟨bA, oA, none⟩) zs.length c) ∧ α'.get 1 = some (.int .i64 most) ∧ α'.get 5 = some (.slice A2 L2.length L2.length) ∧ α'.get 6 = some (.int .i64 w2) ∧ α'.get 7 = some (.int .i64 h2') ∧ α'.get 8 = some (.int .i64 i) ∧ α'.get 9 = some (.int .i64 sd2) ∧ α'.get 10 = some (.int .i64 m)) ?_ ?_
          · by_cases c3 : ((sd % m : Nat) : Int) = 0
            · simp (disch := omega) only [go_sem,reduceIte,Nat.reduceEqDiff,Nat.reduceLT, c3, ne_eq, not_true_eq_false]
              exact ⟨A', L, w, ht, sd, hmk, by omega, by omega, hsd, by omega, rfl, pr, hs, by simp only [go_sem,reduceIte,Nat.reduceEqDiff,Nat.reduceLT, e0], by simp only [go_sem,reduceIte,Nat.reduceEqDiff,Nat.reduceLT, e1], by simp only [go_sem,reduceIte,Nat.reduceEqDiff,Nat.reduceLT, e5], by simp only [go_sem,reduceIte,Nat.reduceEqDiff,Nat.reduceLT, e6], by simp only [go_sem,reduceIte,Nat.reduceEqDiff,Nat.reduceLT, e7], by simp only [go_sem,reduceIte,Nat.reduceEqDiff,Nat.reduceLT, e8], by simp only [go_sem,reduceIte,Nat.reduceEqDiff,Nat.reduceLT, e9], by simp only [go_sem,reduceIte,Nat.reduceEqDiff,Nat.reduceLT, e10]⟩
            · simp (disch := omega) only [go_sem,reduceIte,Nat.reduceEqDiff,Nat.reduceLT, c3, ne_eq, not_false_eq_true]
              have hL0 : 0 < L.length := by
                have := (hmk.cov (by omega) (by omega)).1.1
                exact this
              obtain ⟨bL, oL, rfl, _, _, _⟩ := hs.at_ hL0
              have hGl : G ≤ bL := by
                obtain ⟨_, _, _, g, _⟩ := sinv hs
                omega
              refine WK_loopN (fun j α h3 => ∃ k : Nat, k + j = L.length ∧ h3.next = h'.next ∧ Pres h.next h h3 ∧ SlV h3.blks h.next h3.next 3 L.length (sqc (part m k L)) (.slice (some ⟨bL, oL, none⟩) L.length L.length) ∧
                  α.get 0 = some (.slice (some ⟨bA, oA, none⟩) zs.length c) ∧ α.get 1 = some (.int .i64 most) ∧ α.get 5 = some (.slice (some ⟨bL, oL, none⟩) L.length L.length) ∧ α.get 6 = some (.int .i64 w) ∧ α.get 7 = some (.int .i64 ht) ∧ α.get 8 = some (.int .i64 i) ∧ α.get 9 = some (.int .i64 sd) ∧ α.get 10 = some (.int .i64 m) ∧ α.get 11 = some (.int .i64 k)) L.length
                ⟨0, by omega, rfl, pr, by rw [show part (m : Int) 0 L = L by simp [part]]; exact hs, by simp only [go_sem,reduceIte,Nat.reduceEqDiff,Nat.reduceLT, e0], by simp only [go_sem,reduceIte,Nat.reduceEqDiff,Nat.reduceLT, e1], by simp only [go_sem,reduceIte,Nat.reduceEqDiff,Nat.reduceLT, e5], by simp only [go_sem,reduceIte,Nat.reduceEqDiff,Nat.reduceLT, e6], by simp only [go_sem,reduceIte,Nat.reduceEqDiff,Nat.reduceLT, e7], by simp only [go_sem,reduceIte,Nat.reduceEqDiff,Nat.reduceLT, e8], by simp only [go_sem,reduceIte,Nat.reduceEqDiff,Nat.reduceLT, e9], by simp only [go_sem,reduceIte,Nat.reduceEqDiff,Nat.reduceLT, e10], by (simp only [go_sem,reduceIte,Nat.reduceEqDiff,Nat.reduceLT]) <;> rfl⟩ (by omega) ?_
              clear e0 e1 e5 e6 e7 e8 e9 e10
              rintro J2 j2 α h3 ⟨k, hk, n3, pr3, hs3, e0, e1, e5, e6, e7, e8, e9, e10, e11⟩ hJ2
              by_cases hkl : (k : Int) < (L.length : Int)
              · obtain ⟨q, hq⟩ : ∃ q, L[k]? = some q := ⟨_, List.getElem?_eq_getElem (show k < L.length by omega)⟩
                obtain ⟨a1, a2, a3, a4, a5⟩ := hmk.inn q (List.mem_of_getElem? hq)
                have b1 := mul_bd a2 (show q.1 ≤ 80 by omega) hm13.2
                have b2 := mul_bd a3 (show q.2.1 ≤ 80 by omega) hm13.2
                have b3 := mul_bd (show 0 ≤ q.2.2 by omega) (show q.2.2 ≤ 80 by omega) hm13.2
                obtain ⟨_, la0, la1, la2⟩ := hs3.sq_at (G := G) (part_at hq) part_len.symm
                simp (disch := omega) only [go_sem,reduceIte,Nat.reduceEqDiff,Nat.reduceLT, e0, e1, e5, e6, e7, e8, e9, e10, e11, len22, hkl]
                refine WK_regionT 23 ⟨by kernel_rfl, by kernel_rfl, by kernel_rfl⟩ ?_
                simp (disch := omega) only [go_sem,reduceIte,Nat.reduceEqDiff,Nat.reduceLT, e0, e1, e5, e6, e7, e8, e9, e10, e11, len22, idxA22, Int.toNat_natCast, fld61_0, fld61_1, fld61_2, Nat.add_zero, load3, la0, la1, la2, wrap_i64, build61]
                obtain ⟨cells6, size6, gb, glo, ghi, gsz, gL, gc⟩ := sinv hs3
                refine At_store (inf := inf61) (b := bL) (off := oL + k * 3) (v := .agg #[.int .i64 (q.1 * m), .int .i64 (q.2.1 * m), .int .i64 (q.2.2 * m)]) i61 (by simp only [go_sem,reduceIte,Nat.reduceEqDiff,Nat.reduceLT]) (by simp only [go_sem,reduceIte,Nat.reduceEqDiff,Nat.reduceLT]) (by rw [size61]; rfl) rfl gb (by rw [size61]; omega) (by exact hGl) fun h4 hs4 => ?_
                have hsl' := hs4.slv (c := L.length) (.mk gb glo ghi gsz gL gc) (by show k * 3 + 3 ≤ L.length * 3; omega)
                have he : (sqc (part m k L)).take (k * 3) ++ (Value.agg #[.int .i64 (q.1 * m), .int .i64 (q.2.1 * m), .int .i64 (q.2.2 * m)]).cells.toList ++ (sqc (part m k L)).drop (k * 3 + (Value.agg #[.int .i64 (q.1 * m), .int .i64 (q.2.1 * m), .int .i64 (q.2.2 * m)]).cells.toList.length) = sqc (part m (k + 1) L) := part_set hq
                rw [he] at hsl'
                have n4 := hs4.next
                simp (disch := omega) only [go_sem,reduceIte,Nat.reduceEqDiff,Nat.reduceLT, e11, wrap_i64]
                exact hJ2 (j2 - 1) _ _ (by omega) ⟨k + 1, by omega, by omega, pr3.trans (hs4.pres glo), hsl'.wide (Nat.le_refl _) (by omega), by simp only [go_sem,reduceIte,Nat.reduceEqDiff,Nat.reduceLT, e0], by simp only [go_sem,reduceIte,Nat.reduceEqDiff,Nat.reduceLT, e1], by simp only [go_sem,reduceIte,Nat.reduceEqDiff,Nat.reduceLT, e5], by simp only [go_sem,reduceIte,Nat.reduceEqDiff,Nat.reduceLT, e6], by simp only [go_sem,reduceIte,Nat.reduceEqDiff,Nat.reduceLT, e7], by simp only [go_sem,reduceIte,Nat.reduceEqDiff,Nat.reduceLT, e8], by simp only [go_sem,reduceIte,Nat.reduceEqDiff,Nat.reduceLT, e9], by simp only [go_sem,reduceIte,Nat.reduceEqDiff,Nat.reduceLT, e10], by (simp only [go_sem,reduceIte,Nat.reduceEqDiff,Nat.reduceLT]) <;> rfl⟩
              · obtain rfl : k = L.length := by omega
                rw [part_all] at hs3
                have hsw : (sd * m : Nat) = (if z % 2 = 1 then w * m else ht * m) := by rw [hsd]; split <;> rfl
                have hsm : sd * m % m = 0 := Nat.mul_mod_left _ _
                have ew : (w : Int) * (m : Int) = ((w * m : Nat) : Int) := by rw [Int.natCast_mul]
                have eh : (ht : Int) * (m : Int) = ((ht * m : Nat) : Int) := by rw [Int.natCast_mul]
                have es : (sd : Int) * (m : Int) = ((sd * m : Nat) : Int) := by rw [Int.natCast_mul]
                have hsb : sd * m ≤ 240 := by rw [hsw]; split <;> omega
                have hll : (L.map (scl m)).length = L.length := List.length_map ..
                simp (disch := omega) only [go_sem,reduceIte,Nat.reduceEqDiff,Nat.reduceLT, e0, e1, e5, e6, e7, e8, e9, e10, e11, len22, hkl, ew, eh, es, wrap_i64]
                exact ⟨some ⟨bL, oL, none⟩, L.map (scl m), w * m, ht * m, sd * m, hmk.scale hm13.1, by omega, by omega, hsw, hsm, hll, pr3, by rw [hll]; exact hs3, by simp only [go_sem,reduceIte,Nat.reduceEqDiff,Nat.reduceLT, e0], by simp only [go_sem,reduceIte,Nat.reduceEqDiff,Nat.reduceLT, e1], by (rw [hll]) <;> (simp only [go_sem,reduceIte,Nat.reduceEqDiff,Nat.reduceLT, e5]), by simp only [go_sem,reduceIte,Nat.reduceEqDiff,Nat.reduceLT], by simp only [go_sem,reduceIte,Nat.reduceEqDiff,Nat.reduceLT], by simp only [go_sem,reduceIte,Nat.reduceEqDiff,Nat.reduceLT, e8], by simp only [go_sem,reduceIte,Nat.reduceEqDiff,Nat.reduceLT], by simp only [go_sem,reduceIte,Nat.reduceEqDiff,Nat.reduceLT, e10]⟩
          · clear e0 e1 e5 e6 e7 e8 e9 e10
            rintro α h4 ⟨A2, L2, w2, h2', sd2, hmk2, hw2, hh2, hsd2, hdv, hL2, pr2, hs2, e0, e1, e5, e6, e7, e8, e9, e10⟩
            have w21 := hmk2.w1
            have h21 := hmk2.h1
            have hsd1 : 1 ≤ sd2 ∧ sd2 ≤ 40 := by rw [hsd2]; split <;> omega
            obtain ⟨t, ht⟩ : ∃ t : Nat, t = sd2 / m := ⟨_, rfl⟩
            have hmt : sd2 = m * t := by
              have := Nat.div_add_mod sd2 m
              rw [ht]; omega
            have ht1 : 1 ≤ t := by
              rcases Nat.eq_zero_or_pos t with g | g
              · rw [g, Nat.mul_zero] at hmt; omega
              · exact g
            have ht40 : t ≤ sd2 := by rw [hmt]; exact Nat.le_mul_of_pos_left _ (by omega)
            have hL2t : L2.length + m ≤ most := by omega
            simp (disch := omega) only [go_sem,reduceIte,Nat.reduceEqDiff,Nat.reduceLT, e0, e1, e5, e6, e7, e8, e9, e10, td_nat, ← ht, wrap_i64]
            refine WK_loopN (fun j α h3 => ∃ (k : Nat) (A3 : Option Addr) (L3 : List Sq), k + j = m ∧ L3 = L2 ++ (if z % 2 = 1 then rowB h2' t k else rowR w2 t k) ∧ L3.length = L2.length + k ∧ Pres h.next h h3 ∧ SlV h3.blks h.next h3.next 3 L3.length (sqc L3) (.slice A3 L3.length L3.length) ∧
                α.get 0 = some (.slice (some ⟨bA, oA, none⟩) zs.length c) ∧ α.get 1 = some (.int .i64 most) ∧ α.get 5 = some (.slice A3 L3.length L3.length) ∧ α.get 6 = some (.int .i64 w2) ∧ α.get 7 = some (.int .i64 h2') ∧ α.get 8 = some (.int .i64 i) ∧ α.get 10 = some (.int .i64 m) ∧ α.get 12 = some (.int .i64 t) ∧ α.get 13 = some (.int .i64 k)) m
              ⟨0, A2, L2, by omega, by split <;> simp [rowB, rowR], rfl, pr2, hs2, by simp only [go_sem,reduceIte,Nat.reduceEqDiff,Nat.reduceLT, e0], by simp only [go_sem,reduceIte,Nat.reduceEqDiff,Nat.reduceLT, e1], by simp only [go_sem,reduceIte,Nat.reduceEqDiff,Nat.reduceLT, e5], by simp only [go_sem,reduceIte,Nat.reduceEqDiff,Nat.reduceLT, e6], by simp only [go_sem,reduceIte,Nat.reduceEqDiff,Nat.reduceLT, e7], by simp only [go_sem,reduceIte,Nat.reduceEqDiff,Nat.reduceLT, e8], by simp only [go_sem,reduceIte,Nat.reduceEqDiff,Nat.reduceLT, e10], by simp only [go_sem,reduceIte,Nat.reduceEqDiff,Nat.reduceLT], by (simp only [go_sem,reduceIte,Nat.reduceEqDiff,Nat.reduceLT]) <;> rfl⟩ (by omega) ?_
            clear e0 e1 e5 e6 e7 e8 e9 e10
            rintro J3 j3 α h3 ⟨k, A3, L3, hk, hL3, hL3l, pr3, hs3, e0, e1, e5, e6, e7, e8, e10, e12, e13⟩ hJ3
            have nx3 := pr3.next
            have hv3 := hv.mono (B' := h3.blks) fun b _ hb => pr3.get b (by omega)
            have lz3 := hv3.u8_at hzi rfl
            by_cases hkm : (k : Int) < (m : Int)
            · have hktb : (k : Int) * (t : Int) = ((k * t : Nat) : Int) := by rw [Int.natCast_mul]
              have hkt : k * t ≤ 120 := Nat.mul_le_mul (show k ≤ 3 by omega) (show t ≤ 40 by omega)
              by_cases hodd : ((z % 2 : Nat) : Int) = 1
              · simp (disch := omega) only [go_sem,reduceIte,Nat.reduceEqDiff,Nat.reduceLT, e0, e1, e5, e6, e7, e8, e10, e12, e13, hkm, idxA55, Int.toNat_natCast, Nat.mul_one, load5, lz3, tm2, hodd, hktb, wrap_i64, build61]
                · skip
                  refine At_push (lo := h.next) (hi := h3.next) (L := sqc L3) (vs := tri ((k : Int) * (t : Int)) (h2' : Int) (t : Int)) u22 i61 zero61 (by rw [size61, bytes61]; rfl) (by (simp only [go_sem,reduceIte,Nat.reduceEqDiff,Nat.reduceLT]) <;> rfl) (by rw [size61]; rfl) (by rw [size61]; rfl) rfl (by (simp only [go_sem,reduceIte,Nat.reduceEqDiff,Nat.reduceLT, e5]) <;> rfl) (by rw [size61]; exact hs3) (Nat.le_refl _) (Nat.le_refl _) (by show G ≤ h.next; exact hG) (by omega) (by decide) (by decide) (by decide) fun h5 hpu => ?_
                  rw [size61] at hpu
                  have n5 := hpu.next
                  have hcells : sqc L3 ++ tri ((k : Int) * (t : Int)) (h2' : Int) (t : Int) = sqc (L3 ++ [((k : Int) * (t : Int), (h2' : Int), (t : Int))]) := by rw [sqc_app]; rfl
                  rw [hcells] at hpu
                  have hsq5 := hpu.slv (n := (L3 ++ [((k : Int) * (t : Int), (h2' : Int), (t : Int))]).length) (c := (L3 ++ [((k : Int) * (t : Int), (h2' : Int), (t : Int))]).length) (by rw [sqc_len])
                  have hl4 : (L3 ++ [((k : Int) * (t : Int), (h2' : Int), (t : Int))]).length = L3.length + 1 := by simp
                  simp (disch := omega) only [go_sem,reduceIte,Nat.reduceEqDiff,Nat.reduceLT, e13, wrap_i64]
                  exact hJ3 (j3 - 1) _ _ (by omega) ⟨k + 1, some ⟨h3.next + 1, 0, none⟩, L3 ++ [((k : Int) * (t : Int), (h2' : Int), (t : Int))], by omega, by rw [hL3, if_pos (by omega), if_pos (by omega), rowB_succ, List.append_assoc], by omega, pr3.trans (hpu.pres nx3 fun b hb => hs3.blk b hb), hsq5.wide (by omega) (Nat.le_refl _), by simp only [go_sem,reduceIte,Nat.reduceEqDiff,Nat.reduceLT, e0], by simp only [go_sem,reduceIte,Nat.reduceEqDiff,Nat.reduceLT, e1], by (rw [hl4]) <;> (simp only [go_sem,reduceIte,Nat.reduceEqDiff,Nat.reduceLT]), by simp only [go_sem,reduceIte,Nat.reduceEqDiff,Nat.reduceLT, e6], by simp only [go_sem,reduceIte,Nat.reduceEqDiff,Nat.reduceLT, e7], by simp only [go_sem,reduceIte,Nat.reduceEqDiff,Nat.reduceLT, e8], by simp only [go_sem,reduceIte,Nat.reduceEqDiff,Nat.reduceLT, e10], by simp only [go_sem,reduceIte,Nat.reduceEqDiff,Nat.reduceLT, e12], by (simp only [go_sem,reduceIte,Nat.reduceEqDiff,Nat.reduceLT]) <;> rfl⟩
              · simp (disch := omega) only [go_sem,reduceIte,Nat.reduceEqDiff,Nat.reduceLT, e0, e1, e5, e6, e7, e8, e10, e12, e13, hkm, idxA55, Int.toNat_natCast, Nat.mul_one, load5, lz3, tm2, hodd, hktb, wrap_i64, build61]
                · skip
                  refine At_push (lo := h.next) (hi := h3.next) (L := sqc L3) (vs := tri (w2 : Int) ((k : Int) * (t : Int)) (t : Int)) u22 i61 zero61 (by rw [size61, bytes61]; rfl) (by (simp only [go_sem,reduceIte,Nat.reduceEqDiff,Nat.reduceLT]) <;> rfl) (by rw [size61]; rfl) (by rw [size61]; rfl) rfl (by (simp only [go_sem,reduceIte,Nat.reduceEqDiff,Nat.reduceLT, e5]) <;> rfl) (by rw [size61]; exact hs3) (Nat.le_refl _) (Nat.le_refl _) (by show G ≤ h.next; exact hG) (by omega) (by decide) (by decide) (by decide) fun h5 hpu => ?_
                  rw [size61] at hpu
                  have n5 := hpu.next
                  have hcells : sqc L3 ++ tri (w2 : Int) ((k : Int) * (t : Int)) (t : Int) = sqc (L3 ++ [((w2 : Int), (k : Int) * (t : Int), (t : Int))]) := by rw [sqc_app]; rfl
                  rw [hcells] at hpu
                  have hsq5 := hpu.slv (n := (L3 ++ [((w2 : Int), (k : Int) * (t : Int), (t : Int))]).length) (c := (L3 ++ [((w2 : Int), (k : Int) * (t : Int), (t : Int))]).length) (by rw [sqc_len])
                  have hl4 : (L3 ++ [((w2 : Int), (k : Int) * (t : Int), (t : Int))]).length = L3.length + 1 := by simp
                  simp (disch := omega) only [go_sem,reduceIte,Nat.reduceEqDiff,Nat.reduceLT, e13, wrap_i64]
                  exact hJ3 (j3 - 1) _ _ (by omega) ⟨k + 1, some ⟨h3.next + 1, 0, none⟩, L3 ++ [((w2 : Int), (k : Int) * (t : Int), (t : Int))], by omega, by rw [hL3, if_neg (by omega), if_neg (by omega), rowR_succ, List.append_assoc], by omega, pr3.trans (hpu.pres nx3 fun b hb => hs3.blk b hb), hsq5.wide (by omega) (Nat.le_refl _), by simp only [go_sem,reduceIte,Nat.reduceEqDiff,Nat.reduceLT, e0], by simp only [go_sem,reduceIte,Nat.reduceEqDiff,Nat.reduceLT, e1], by (rw [hl4]) <;> (simp only [go_sem,reduceIte,Nat.reduceEqDiff,Nat.reduceLT]), by simp only [go_sem,reduceIte,Nat.reduceEqDiff,Nat.reduceLT, e6], by simp only [go_sem,reduceIte,Nat.reduceEqDiff,Nat.reduceLT, e7], by simp only [go_sem,reduceIte,Nat.reduceEqDiff,Nat.reduceLT, e8], by simp only [go_sem,reduceIte,Nat.reduceEqDiff,Nat.reduceLT, e10], by simp only [go_sem,reduceIte,Nat.reduceEqDiff,Nat.reduceLT, e12], by (simp only [go_sem,reduceIte,Nat.reduceEqDiff,Nat.reduceLT]) <;> rfl⟩
            · obtain rfl : k = m := by omega
              by_cases hodd : ((z % 2 : Nat) : Int) = 1
              · simp (disch := omega) only [go_sem,reduceIte,Nat.reduceEqDiff,Nat.reduceLT, e0, e1, e5, e6, e7, e8, e10, e12, e13, hkm, idxA55, Int.toNat_natCast, Nat.mul_one, load5, lz3, tm2, hodd, wrap_i64]
                rw [if_pos (by omega)] at hL3 hsd2
                subst hL3
                exact hJ (j - 1) _ _ (by omega) ⟨i + 1, A3, _, w2, h2' + t, by omega, hmk2.bottom ht1 (by omega), by omega, by omega, by omega, pr3, hs3, by simp only [go_sem,reduceIte,Nat.reduceEqDiff,Nat.reduceLT, e0], by simp only [go_sem,reduceIte,Nat.reduceEqDiff,Nat.reduceLT, e1], by simp only [go_sem,reduceIte,Nat.reduceEqDiff,Nat.reduceLT, e5], by simp only [go_sem,reduceIte,Nat.reduceEqDiff,Nat.reduceLT, e6], by (simp only [go_sem,reduceIte,Nat.reduceEqDiff,Nat.reduceLT]) <;> rfl, by (simp only [go_sem,reduceIte,Nat.reduceEqDiff,Nat.reduceLT]) <;> rfl⟩
              · simp (disch := omega) only [go_sem,reduceIte,Nat.reduceEqDiff,Nat.reduceLT, e0, e1, e5, e6, e7, e8, e10, e12, e13, hkm, idxA55, Int.toNat_natCast, Nat.mul_one, load5, lz3, tm2, hodd, wrap_i64]
                rw [if_neg (by omega)] at hL3 hsd2
                subst hL3
                exact hJ (j - 1) _ _ (by omega) ⟨i + 1, A3, _, w2 + t, h2', by omega, hmk2.right ht1 (by omega), by omega, by omega, by omega, pr3, hs3, by simp only [go_sem,reduceIte,Nat.reduceEqDiff,Nat.reduceLT, e0], by simp only [go_sem,reduceIte,Nat.reduceEqDiff,Nat.reduceLT, e1], by simp only [go_sem,reduceIte,Nat.reduceEqDiff,Nat.reduceLT, e5], by (simp only [go_sem,reduceIte,Nat.reduceEqDiff,Nat.reduceLT]) <;> rfl, by simp only [go_sem,reduceIte,Nat.reduceEqDiff,Nat.reduceLT, e7], by (simp only [go_sem,reduceIte,Nat.reduceEqDiff,Nat.reduceLT]) <;> rfl⟩
  · simp (disch := omega) only [go_sem,reduceIte,Nat.reduceEqDiff,Nat.reduceLT, e0, e1, e5, e6, e7, e8, hlt, len55]
    exact fin _ _ _ _ _ hmk hw hht hLm pr hs
end
end Go.Proofs.YtnhbkoeomefkdaaDoor.Ev.L

