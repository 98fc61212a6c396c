/- The program: sets of letters that commute. -/
import Derived.Test.YthankillfhmfkaaGreatDoorPmEB
import Derived.Test.YthankillfhmfkaaGreatDoorPmNN
import Derived.Test.YthankillfhmfkaaGreatDoorPmQB
import Derived.Test.YthankillfhmfkaaGreatDoorPmAA
set_option linter.unusedSimpArgs false
set_option linter.unusedVariables false
namespace Go.Proofs.YthankillfhmfkaaGreatDoor.Ev
open Go Go.Proofs Go.Lm
open Nat renaming reduceEqDiff → nqD, reduceLT → nqL
noncomputable section
set_option maxRecDepth 100000 in
theorem ones_all {G : Nat} {h : H} : (List.range 64).map (fun x => callWith (En G) (run Tryz.prog (En G) 50) 97 [.int .u64 (Int.ofNat x)] h) = (List.range 64).map fun x => some (.int .i64 (Int.ofNat (pop x)), h) := by kernel_rfl
theorem ones_spec {G x : Nat} {h : H} (hx : x < 64) : Spec Tryz.prog (En G) 97 [.int .u64 (x : Int)] h fun v h' => v = .int .i64 (pop x : Int) ∧ h' = h := by
 have e := congrArg (fun l => l[x]?) (ones_all (G := G) (h := h))
 simp only [List.getElem?_map, List.getElem?_range hx, Option.map_some, Option.some.injEq] at e
 exact ⟨50, _, _, e, Pres.refl _ _, rfl, rfl⟩
def okAB (m : List Bool) (S a b : Nat) : Bool := !(S.testBit a && S.testBit b && !mcomm m a b)
theorem isCl_def {m : List Bool} {k S : Nat} : isCl (mcomm m) k S = (List.range k).all fun a => (List.range a).all fun b => okAB m S a b := rfl
theorem all_succ {p : Nat → Bool} {n : Nat} : (List.range (n + 1)).all p = ((List.range n).all p && p n) := by
 rw [List.range_succ, List.all_append]; simp
theorem all_false {p : Nat → Bool} {n i : Nat} (hi : i < n) (h : p i = false) : (List.range n).all p = false := by
 rw [List.all_eq_false]
 exact ⟨i, List.mem_range.2 hi, by simp [h]⟩
set_option maxHeartbeats 8000000 in
set_option maxRecDepth 100000 in
theorem isClique_spec {G k S : Nat} {m : List Bool} {h : H} (hk : k ≤ 6) (hm : m.length = 36) (hS : S < 64) : Spec Tryz.prog (En G) 96 [thrV k m, .int .i64 (S : Int)] h fun v h' => v = .bool (isCl (mcomm m) k S) := by
 refine CallsE_enter (En_known (by decide)) (En_f.trans Tryz.func96) rfl ⟨Nat.le_of_ble_eq_true rfl, by decide⟩ fun Q' hQ' => ?_
 simp (disch := omega) only [Tryz.f96, go_sem,reduceIte,nqD,nqL]
 refine At_box (v := thrV k m) (by simp only [go_sem,reduceIte,nqD,nqL]) (by omega) fun h1 hn1 => ?_
 have pr1 : Pres h.next h h1 := hn1.pres nlr
 have v1 : Var h1.blks h.next (thrL k m) := hn1.var
 have l0 := thr_count v1
 have hcell : ∀ {x y : Nat}, x < 6 → y < 6 → loadv h1.blks h.next (1 + x * 6 + y) = some (.bool (mcomm m x y)) := fun hx hy => thr_cell v1 hm hx hy
 simp (disch := omega) only [go_sem,reduceIte,nqD,nqL, fld95_0, load3, Nat.add_zero, l0]
 refine WK_loopN (fun j α h2 => ∃ a : Nat, h1 = h2 ∧ a + j = k ∧ α.get 1 = some (.int .i64 (S : Int)) ∧ α.get 2 = some (.pointer (some ⟨h.next, 0, none⟩)) ∧ α.get 8 = some (.int .i64 (k : Int)) ∧ α.get 9 = some (.int .i64 (a : Int)) ∧ ((List.range a).all fun a => (List.range a).all fun b => okAB m S a b) = true) k
  ⟨0, rfl, by omega, by simp only [go_sem,reduceIte,nqD,nqL], by simp only [go_sem,reduceIte,nqD,nqL], by simp only [go_sem,reduceIte,nqD,nqL], by (simp only [go_sem,reduceIte,nqD,nqL]) <;> rfl, rfl⟩ (by omega) ?_
 rintro J j α h2 ⟨a, rfl, haj, e1, e2, e8, e9, hall⟩ hJ
 by_cases hlt : (a : Int) < k
 ·simp (disch := omega) only [go_sem,reduceIte,nqD,nqL, e1, e2, e8, e9, hlt]
  refine WK_loopN (fun j2 β h3 => ∃ b : Nat, h1 = h3 ∧ b + j2 = a ∧ β.get 1 = some (.int .i64 (S : Int)) ∧ β.get 2 = some (.pointer (some ⟨h.next, 0, none⟩)) ∧ β.get 8 = some (.int .i64 (k : Int)) ∧ β.get 9 = some (.int .i64 (a : Int)) ∧ β.get 5 = some (.int .i64 (a : Int)) ∧ β.get 12 = some (.int .i64 (a : Int)) ∧ β.get 13 = some (.int .i64 (b : Int)) ∧ ((List.range b).all fun b => okAB m S a b) = true) a
   ⟨0, rfl, by omega, by simp only [go_sem,reduceIte,nqD,nqL, e1], by simp only [go_sem,reduceIte,nqD,nqL, e2], by simp only [go_sem,reduceIte,nqD,nqL, e8], by simp only [go_sem,reduceIte,nqD,nqL, e9], by simp only [go_sem,reduceIte,nqD,nqL], by simp only [go_sem,reduceIte,nqD,nqL], by (simp only [go_sem,reduceIte,nqD,nqL]) <;> rfl, rfl⟩ (by omega) ?_
  clear e1 e2 e8 e9
  rintro J2 j2 β h3 ⟨b, rfl, hbj, e1, e2, e8, e9, e5, e12, e13, hall2⟩ hJ2
  by_cases hlt2 : (b : Int) < a
  ·have s1 : ∀ {t : TypeId} {k2 : IntKind}, binO Tryz.prog (En G) .shr t (some (.int .i64 (S : Int))) (some (.int k2 (a : Int))) = some (.int .i64 ((S >>> a : Nat) : Int)) := bin_shr (by omega)
   have s2 : ∀ {t : TypeId} {k2 : IntKind}, binO Tryz.prog (En G) .shr t (some (.int .i64 (S : Int))) (some (.int k2 (b : Int))) = some (.int .i64 ((S >>> b : Nat) : Int)) := bin_shr (by omega)
   have sh : ∀ c, S >>> c < 2 ^ 63 := fun c => by
    have : S >>> c ≤ S := by rw [Nat.shiftRight_eq_div_pow]; exact Nat.div_le_self _ _
    omega
   have a1 : ∀ {t : TypeId} {c : Nat}, binO Tryz.prog (En G) .and t (some (.int .i64 ((S >>> c : Nat) : Int))) (some (.int .i64 1)) = some (.int .i64 ((S >>> c &&& 1 : Nat) : Int)) := fun {t c} => bin_and (b := 1) (sh c) (by omega)
   have lc := hcell (x := a) (y := b) (by omega) (by omega)
   have w1 : IntKind.i64.wrap ((b : Int) + 1) = ((b + 1 : Nat) : Int) := wrap_nat (by omega) (by omega)
   have hp1 : fieldAddrO (En G) 95 1 (some (.pointer (some ⟨h.next, 0, none⟩))) = some (.pointer (some ⟨h.next, 1, none⟩)) := fld95_1
   have next : okAB m S a b = true → ∀ {β' : Tr Value}, β'.get 1 = some (.int .i64 (S : Int)) → β'.get 2 = some (.pointer (some ⟨h.next, 0, none⟩)) → β'.get 8 = some (.int .i64 (k : Int)) → β'.get 9 = some (.int .i64 (a : Int)) → β'.get 5 = some (.int .i64 (a : Int)) → β'.get 12 = some (.int .i64 (a : Int)) → β'.get 13 = some (.int .i64 ((b + 1 : Nat) : Int)) → J2 β' h1 := fun hok β' f1 f2 f8 f9 f5 f12 f13 =>
    hJ2 (j2 - 1) _ _ (by omega) ⟨b + 1, rfl, by omega, f1, f2, f8, f9, f5, f12, f13, by rw [all_succ, hall2, hok]; rfl⟩
   cases hta : S.testBit a with
   | false =>
    simp (disch := omega) only [go_sem,reduceIte,nqD,nqL, e1, e2, e5, e12, e13, hlt2, s1, a1, tb_int, hta, w1]
    exact next (by simp [okAB, hta]) (by simp only [go_sem,reduceIte,nqD,nqL, e1]) (by simp only [go_sem,reduceIte,nqD,nqL, e2]) (by simp only [go_sem,reduceIte,nqD,nqL, e8]) (by simp only [go_sem,reduceIte,nqD,nqL, e9]) (by simp only [go_sem,reduceIte,nqD,nqL, e5]) (by simp only [go_sem,reduceIte,nqD,nqL, e12]) (by simp only [go_sem,reduceIte,nqD,nqL])
   | true =>
    cases htb : S.testBit b with
    | false =>
     simp (disch := omega) only [go_sem,reduceIte,nqD,nqL, e1, e2, e5, e12, e13, hlt2, s1, s2, a1, tb_int, hta, htb, w1]
     exact next (by simp [okAB, htb]) (by simp only [go_sem,reduceIte,nqD,nqL, e1]) (by simp only [go_sem,reduceIte,nqD,nqL, e2]) (by simp only [go_sem,reduceIte,nqD,nqL, e8]) (by simp only [go_sem,reduceIte,nqD,nqL, e9]) (by simp only [go_sem,reduceIte,nqD,nqL, e5]) (by simp only [go_sem,reduceIte,nqD,nqL, e12]) (by simp only [go_sem,reduceIte,nqD,nqL])
    | true =>
     cases hcm : mcomm m a b with
     | true =>
      rw [hcm] at lc
      simp (disch := omega) only [go_sem,reduceIte,nqD,nqL, e1, e2, e5, e12, e13, hlt2, s1, s2, a1, tb_int, hta, htb, hp1, idxP92, idxP93, Int.toNat_natCast, Nat.mul_one, load4, lc, w1]
      exact next (by simp [okAB, hcm]) (by simp only [go_sem,reduceIte,nqD,nqL, e1]) (by simp only [go_sem,reduceIte,nqD,nqL, e2]) (by simp only [go_sem,reduceIte,nqD,nqL, e8]) (by simp only [go_sem,reduceIte,nqD,nqL, e9]) (by simp only [go_sem,reduceIte,nqD,nqL, e5]) (by simp only [go_sem,reduceIte,nqD,nqL, e12]) (by simp only [go_sem,reduceIte,nqD,nqL])
     | false =>
      rw [hcm] at lc
      simp (disch := omega) only [go_sem,reduceIte,nqD,nqL, e1, e2, e5, e12, e13, hlt2, s1, s2, a1, tb_int, hta, htb, hp1, idxP92, idxP93, Int.toNat_natCast, Nat.mul_one, load4, lc]
      refine hQ' _ _ ⟨pr1, ?_⟩
      rw [isCl_def, all_false (i := a) (by omega) (all_false (i := b) (by omega) (by simp [okAB, hta, htb, hcm]))]
  ·obtain rfl : b = a := by omega
   have w1 : IntKind.i64.wrap ((b : Int) + 1) = ((b + 1 : Nat) : Int) := wrap_nat (by omega) (by omega)
   simp (disch := omega) only [go_sem,reduceIte,nqD,nqL, e1, e2, e9, e12, e13, hlt2, w1]
   exact hJ (j - 1) _ _ (by omega) ⟨b + 1, rfl, by omega, by simp only [go_sem,reduceIte,nqD,nqL, e1], by simp only [go_sem,reduceIte,nqD,nqL, e2], by simp only [go_sem,reduceIte,nqD,nqL, e8], by simp only [go_sem,reduceIte,nqD,nqL], by rw [all_succ, hall, hall2]; rfl⟩
 ·obtain rfl : a = k := by omega
  simp (disch := omega) only [go_sem,reduceIte,nqD,nqL, e1, e2, e8, e9, hlt]
  exact hQ' _ _ ⟨pr1, by rw [isCl_def, hall]⟩
theorem mem_le_sum : ∀ {l : List Nat} {x : Nat}, x ∈ l → x ≤ l.sum
 | a :: l, x, h => by
  rw [List.sum_cons]
  rcases List.mem_cons.1 h with rfl | h
  ·omega
  ·have := mem_le_sum h; omega
def nats (l : List Nat) : List Value := l.map fun (a : Nat) => Value.int .i64 (a : Int)
theorem nats_len {l : List Nat} : (nats l).length = l.length := by simp [nats]
theorem nats_get {l : List Nat} {i a : Nat} (h : l[i]? = some a) : (nats l)[i]? = some (.int .i64 (a : Int)) := by simp [nats, h]
theorem nats_set {l : List Nat} {j a : Nat} (hj : j < l.length) : (nats l).take j ++ [Value.int .i64 (a : Int)] ++ (nats l).drop (j + 1) = nats (l.set j a) := by
 simp only [nats, ← List.map_take, ← List.map_drop, List.set_eq_take_append_cons_drop, if_pos hj, List.map_append, List.map_cons]
 simp
theorem nats_at {B : Tr Blk} {lo hi n c i a : Nat} {l : List Nat} {A : Option Addr} (hs : SlV B lo hi 1 n (nats l) (.slice A n c)) (ha : l[i]? = some a) : ∃ b off, A = some ⟨b, off, none⟩ ∧ lo ≤ b ∧ b < hi ∧ loadv B b (off + i) = some (.int .i64 (a : Int)) := by
 have hlen : l.length = n := by have := hs.len; rw [nats_len] at this; omega
 have hi := (List.getElem?_eq_some_iff.1 ha).1
 obtain ⟨b, off, e, h1, h2, hld⟩ := hs.at_ (by omega)
 exact ⟨b, off, e, h1, h2, by rw [hld i (by omega), nats_get ha]⟩
section
variable {P : Program} {n0 : Nat} {ops : List Oper} {r tl : List Oper} {k : List Frm} {α : Tr Value} {h : H} {R : Rt} {ty : TypeId} {pos : String} {af : Array Edge}
theorem At_nat {G b off lo hi i n c x : Nat} {L : List Nat} {X Y : Operand} (hx : ev (En G) h α X = some (.pointer (some ⟨b, off + i, none⟩))) (hy : ev (En G) h α Y = some (.int .i64 (x : Int)))
  (hs : SlV h.blks lo hi 1 n (nats L) (.slice (some ⟨b, off, none⟩) n c)) (hin : i < n) (hG : G ≤ b)
  (hk : ∀ h', Sto h h' b (off + i) [.int .i64 (x : Int)] → SlV h'.blks lo hi 1 n (nats (L.set i x)) (.slice (some ⟨b, off, none⟩) n c) → At P (En G) n0 ops false r tl k α h' R) :
  At P (En G) n0 ops false (⟨none, .store 3 X Y, ty, pos, af, none⟩ :: r) tl k α h R := by
 have hlen : L.length = n := by have := hs.len; rw [nats_len] at this; omega
 have hs0 := hs
 cases hs with
 | mk gb glo ghi gsz gL gc =>
  refine At_store (inf := inf3) (v := .int .i64 (x : Int)) i3 hx hy (by rw [size3]; rfl) rfl gb (by rw [size3]; omega) (by rw [En_G]; exact hG) fun h' hs' => ?_
  refine hk h' hs' ?_
  have e2 : (Value.int .i64 (x : Int)).cells.toList = [Value.int .i64 (x : Int)] := rfl
  have := Sto.slv (j := i) hs' hs0 (by rw [e2]; show i + 1 ≤ n * 1; omega)
  rw [e2] at this
  have e : [Value.int .i64 (x : Int)].length = 1 := rfl
  rw [e, nats_set (by omega)] at this
  exact this
end
theorem c3_145 {P : Program} {G : Nat} {B : Tr Blk} {x : Nat} (h : x < 9223372036854775808) : convO P (En G) B 3 145 (some (.int .i64 (x : Int))) = some (.int .u64 (x : Int)) := by
 rw [convO_int u3 u145, wrap_u64n (by omega)]
set_option maxHeartbeats 8000000 in
set_option maxRecDepth 100000 in
theorem cliques_spec {G k : Nat} {m : List Bool} {h : H} (hG : G ≤ h.next) (hk : k ≤ 6) (hm : m.length = 36) : Spec Tryz.prog (En G) 72 [thrV k m] h fun v h' => ∃ A, v = .slice A (clq (mcomm m) k).length (clq (mcomm m) k).length ∧ SlV h'.blks h.next h'.next 1 (clq (mcomm m) k).length (nats (clq (mcomm m) k)) v := by
 refine CallsE_enter (En_known (by decide)) (En_f.trans Tryz.func72) rfl ⟨Nat.le_of_ble_eq_true rfl, by decide⟩ fun Q' hQ' => ?_
 simp (disch := omega) only [Tryz.f72, go_sem,reduceIte,nqD,nqL]
 refine At_box (v := thrV k m) (by simp only [go_sem,reduceIte,nqD,nqL]) (by omega) fun h1 hn1 => ?_
 have n1 := hn1.next
 have pr1 : Pres h.next h h1 := hn1.pres nlr
 have v1 : Var h1.blks h.next (thrL k m) := hn1.var
 have l0 := thr_count v1
 have hp : 2 ^ k ≤ 2 ^ 6 := Nat.pow_le_pow_right (by omega) hk
 have sl : ∀ {t : TypeId} {k2 : IntKind}, binO Tryz.prog (En G) .shl t (some (.int .i64 1)) (some (.int k2 (k : Int))) = some (.int .i64 ((2 ^ k : Nat) : Int)) := bin_shl (by omega)
 simp (disch := omega) only [go_sem,reduceIte,nqD,nqL, fld95_0, load3, Nat.add_zero, l0, sl]
 refine WK_loopN (fun j α h2 => ∃ (s : Nat) (A : Option Addr), s + j = 2 ^ k ∧ α.get 1 = some (.pointer (some ⟨h.next, 0, none⟩)) ∧ α.get 3 = some (.slice A (clqs (mcomm m) k (List.range s)).length (clqs (mcomm m) k (List.range s)).length) ∧ α.get 8 = some (.int .i64 ((2 ^ k : Nat) : Int)) ∧ α.get 9 = some (.int .i64 (s : Int)) ∧
   SlV h2.blks h1.next h2.next 1 (clqs (mcomm m) k (List.range s)).length (nats (clqs (mcomm m) k (List.range s))) (.slice A (clqs (mcomm m) k (List.range s)).length (clqs (mcomm m) k (List.range s)).length) ∧ Var h2.blks h.next (thrL k m) ∧ Pres h.next h h2 ∧ h1.next ≤ h2.next) (2 ^ k)
  ⟨0, none, by omega, by simp only [go_sem,reduceIte,nqD,nqL], by (simp only [go_sem,reduceIte,nqD,nqL]) <;> rfl, by simp only [go_sem,reduceIte,nqD,nqL], by (simp only [go_sem,reduceIte,nqD,nqL]) <;> rfl, .nil rfl rfl, v1, pr1, Nat.le_refl _⟩ (by omega) ?_
 clear v1 l0
 rintro J j α h2 ⟨s, A, hsj, e1, e3, e8, e9, hsv, v1, pr, hnx⟩ hJ
 by_cases hlt : (s : Int) < ((2 ^ k : Nat) : Int)
 ·have la : loadO (En G) 95 h2.blks (some (.pointer (some ⟨h.next, 0, none⟩))) = some (thrV k m) := v1.loadA agg95 i95 (by rw [size95, thrL_len, hm])
  have hs64 : s < 64 := by omega
  have hsnoc := clqs_snoc (cm := mcomm m) (k := k) (S := s) (Ss := List.range s)
  rw [← List.range_succ] at hsnoc
  have w1 : IntKind.i64.wrap ((s : Int) + 1) = ((s + 1 : Nat) : Int) := wrap_nat (by omega) (by omega)
  have hll : (clqs (mcomm m) k (List.range s)).length ≤ 7 := (clqF_len (Ss := List.range s) (L := []) (by simp)).2
  simp (disch := omega) only [go_sem,reduceIte,nqD,nqL, e1, e3, e8, e9, hlt, la]
  refine CallO_f (isClique_spec hk hm hs64) (by omega) fun u h3 pr3 hu => ?_
  subst hu
  have n3 := pr3.next
  have hsv3 := hsv.mono (B' := h3.blks) fun b _ hb => pr3.get b hb
  have v3 := v1.mono (B' := h3.blks) (pr3.get _ (by omega))
  have pr3' := pr.trans (pr3.le (m' := h.next) (by omega))
  cases hcl : isCl (mcomm m) k s with
  | false =>
   simp (disch := omega) only [go_sem,reduceIte,nqD,nqL, hcl, e9, w1]
   rw [if_neg (by simp [hcl])] at hsnoc
   exact hJ (j - 1) _ _ (by omega) ⟨s + 1, A, by omega, by simp only [go_sem,reduceIte,nqD,nqL, e1], by rw [hsnoc]; simp only [go_sem,reduceIte,nqD,nqL, e3], by simp only [go_sem,reduceIte,nqD,nqL, e8], by simp only [go_sem,reduceIte,nqD,nqL], by rw [hsnoc]; exact hsv3.wide nlr n3, v3, pr3', by omega⟩
  | true =>
   have hpop := pop_le (S := s)
   rw [if_pos hcl] at hsnoc
   generalize clqs (mcomm m) k (List.range s) = L at *
   simp (disch := omega) only [go_sem,reduceIte,nqD,nqL, hcl, c3_145]
   refine CallO_same (ones_spec hs64) (by omega) fun u hu => ?_
   subst hu
   generalize pop s = p at *
   simp (disch := omega) only [go_sem,reduceIte,nqD,nqL]
   refine WK_loopN (fun j2 β h4 => ∃ (i : Nat) (A' : Option Addr), j2 + i = 7 ∧ L.length + i ≤ max L.length (p + 1) ∧ β.get 1 = some (.pointer (some ⟨h.next, 0, none⟩)) ∧ β.get 3 = some (.slice A' (L ++ List.replicate i 0).length (L ++ List.replicate i 0).length) ∧ β.get 5 = some (.int .i64 (p : Int)) ∧ β.get 8 = some (.int .i64 ((2 ^ k : Nat) : Int)) ∧ β.get 9 = some (.int .i64 (s : Int)) ∧
     SlV h4.blks h1.next h4.next 1 (L ++ List.replicate i 0).length (nats (L ++ List.replicate i 0)) (.slice A' (L ++ List.replicate i 0).length (L ++ List.replicate i 0).length) ∧ Var h4.blks h.next (thrL k m) ∧ Pres h.next h h4 ∧ h1.next ≤ h4.next) 7
    ⟨0, A, by omega, by omega, by simp only [go_sem,reduceIte,nqD,nqL, e1], by simp only [go_sem,reduceIte,nqD,nqL, e3, List.replicate_zero, List.append_nil], by simp only [go_sem,reduceIte,nqD,nqL], by simp only [go_sem,reduceIte,nqD,nqL, e8], by simp only [go_sem,reduceIte,nqD,nqL, e9], by rw [List.replicate_zero, List.append_nil]; exact hsv3.wide nlr n3, v3, pr3', by omega⟩ (by omega) ?_
   clear e1 e3 e8 e9 hsv v1 pr v3 pr3' hsv3
   rintro J2 j2 β h4 ⟨i, A', hij, hil, e1, e3, e5, e8, e9, hsv, v4, pr4, hnx4⟩ hJ2
   have hlen : (L ++ List.replicate i 0).length = L.length + i := by simp
   by_cases hle : L.length + i ≤ p
   ·have d1 : decide (((L ++ List.replicate i 0).length : Int) ≤ (p : Int)) = true := decide_eq_true (by omega)
    simp (disch := omega) only [go_sem,reduceIte,nqD,nqL, e3, e5, len34, d1]
    refine At_push (lo := h1.next) (hi := h4.next) (L := nats (L ++ List.replicate i 0)) (v := .int .i64 0) (vs := [.int .i64 0]) (A := A') (sl := (L ++ List.replicate i 0).length) (sc := (L ++ List.replicate i 0).length) u34 i3 zero3 (by rw [size3, bytes3]; rfl) (by simp only [go_sem,reduceIte,nqD,nqL]) (by rw [size3]; rfl) (by rw [size3]; rfl) rfl (by simp only [go_sem,reduceIte,nqD,nqL, e3]) (by rw [size3]; exact hsv) nlr nlr (by show G ≤ h1.next; omega) (by omega) (by decide) (by decide) (by decide) fun h5 hp5 => ?_
    rw [size3] at hp5
    have n5 := hp5.next
    have hcells : nats (L ++ List.replicate i 0) ++ [Value.int .i64 0] = nats (L ++ List.replicate (i + 1) 0) := by
     rw [List.replicate_succ', ← List.append_assoc]; simp [nats]
    have hl5 : (L ++ List.replicate i 0).length + 1 = (L ++ List.replicate (i + 1) 0).length := by simp; omega
    rw [hcells] at hp5
    have hsv5 := hp5.slv (n := (L ++ List.replicate (i + 1) 0).length) (c := (L ++ List.replicate (i + 1) 0).length) (by rw [nats_len]; simp)
    have hpr5 : Pres h1.next h4 h5 := hp5.pres hnx4 fun b e => hsv.blk b e
    simp (disch := omega) only [go_sem,reduceIte,nqD,nqL, hl5]
    exact hJ2 (j2 - 1) _ _ (by omega) ⟨i + 1, _, by omega, by omega, by simp only [go_sem,reduceIte,nqD,nqL, e1], by simp only [go_sem,reduceIte,nqD,nqL], by simp only [go_sem,reduceIte,nqD,nqL, e5], by simp only [go_sem,reduceIte,nqD,nqL, e8], by simp only [go_sem,reduceIte,nqD,nqL, e9], hsv5.wide (by omega) nlr, v4.mono (hpr5.get _ (by omega)), pr4.trans (hpr5.le (by omega)), by omega⟩
   ·have d1 : decide (((L ++ List.replicate i 0).length : Int) ≤ (p : Int)) = false := decide_eq_false (by omega)
    have hpad : L ++ List.replicate i 0 = pad L p := by
     unfold pad
     congr 2
     omega
    rw [hpad] at e3 hsv d1 hlen
    have hpl := pad_len (L := L) (s := p)
    obtain ⟨x, hx⟩ : ∃ x, (pad L p)[p]? = some x := ⟨(pad L p)[p]'(by omega), List.getElem?_eq_getElem (by omega)⟩
    obtain ⟨b, off, rfl, hb1, hb2, lx⟩ := nats_at hsv hx
    have hgd : (pad L p).getD p 0 = x := by rw [List.getD_eq_getElem?_getD, hx]; rfl
    have hbump : Lm.bump L p = (pad L p).set p (x + 1) := by rw [Lm.bump, hgd]
    have hxb : x < 1000 := by
     have hsum : (clqs (mcomm m) k (List.range (s + 1))).sum ≤ 64 := by
      have := clqF_sum (cm := mcomm m) (k := k) (Ss := List.range (s + 1)) (L := [])
      simp only [List.sum_nil, List.length_range] at this
      rw [clqs_eq]; omega
     rw [hsnoc, hbump] at hsum
     have := mem_le_sum (l := (pad L p).set p (x + 1)) (x := x + 1) (List.mem_of_getElem? (by rw [List.getElem?_set_self (by omega)]))
     omega
    have w2 : IntKind.i64.wrap ((x : Int) + 1) = ((x + 1 : Nat) : Int) := wrap_nat (by omega) (by omega)
    simp (disch := omega) only [go_sem,reduceIte,nqD,nqL, e3, e5, len34, d1, idxA34, Int.toNat_natCast, Nat.mul_one, load3, lx, w2]
    refine At_nat (b := b) (off := off) (i := p) (x := x + 1) (by simp only [go_sem,reduceIte,nqD,nqL]) (by simp only [go_sem,reduceIte,nqD,nqL]) hsv (by omega) (by omega) fun h5 hs5 hsv5 => ?_
    have n5 := hs5.next
    have pr5 : Pres h.next h4 h5 := hs5.pres (by omega)
    simp (disch := omega) only [go_sem,reduceIte,nqD,nqL, e9, w1]
    rw [← hbump, ← hsnoc] at hsv5
    have hlb : (pad L p).length = (clqs (mcomm m) k (List.range (s + 1))).length := by rw [hsnoc, hbump, List.length_set]
    rw [hlb] at hsv5 e3
    exact hJ (j - 1) _ _ (by omega) ⟨s + 1, some ⟨b, off, none⟩, by omega, by simp only [go_sem,reduceIte,nqD,nqL, e1], by simp only [go_sem,reduceIte,nqD,nqL, e3], by simp only [go_sem,reduceIte,nqD,nqL, e8], by simp only [go_sem,reduceIte,nqD,nqL], hsv5.wide nlr (by omega), v4.mono (hs5.get _ (by omega)), pr4.trans pr5, by omega⟩
 ·obtain rfl : s = 2 ^ k := by omega
  simp (disch := omega) only [go_sem,reduceIte,nqD,nqL, e1, e3, e8, e9, hlt]
  refine hQ' _ _ ⟨pr, A, rfl, ?_⟩
  exact hsv.wide (by omega) nlr
end
end Go.Proofs.YthankillfhmfkaaGreatDoor.Ev
namespace Go.Proofs.YthankillfhmfkaaGreatDoor.Ev
open Go Go.Proofs Go.Lm
open Nat renaming reduceEqDiff → nqD, reduceLT → nqL
noncomputable section
def IntV (B : Tr Blk) (N : Nat) (z : Int) (v : Value) : Prop := RatC B N (decide (z < 0)) z.natAbs 0 v
theorem sgv_int {z : Int} : sgv (decide (z < 0)) z.natAbs = z := by
 unfold sgv
 by_cases h : z < 0
 ·simp [h]; omega
 ·simp [h]; omega
theorem den0 : den 0 = 1 := rfl
theorem smM {x : Nat} (h : x ≤ 64 ^ 62 * 4294967296 * 4) : Sm x := ⟨20, by omega, Nat.lt_of_le_of_lt h (Nat.le_of_ble_eq_true rfl)⟩
theorem times_int {G N : Nat} {a b : Int} {v1 v2 : Value} {h : H} (hG : G ≤ h.next) (hN : N ≤ h.next) (hr : IntV h.blks N a v1) (ho : IntV h.blks N b v2) (m1 : Sm a.natAbs) (m2 : Sm b.natAbs) (m3 : Sm (a.natAbs * b.natAbs)) :
  Spec Tryz.prog (En G) 92 [v1, v2] h fun w h' => IntV h'.blks h'.next (a * b) w := by
 refine Spec.mono (times_spec hG hN hr ho m1 m2 m3 (by rw [den0]; omega) (by rw [den0]; omega) (by rw [den0]; omega)) fun w h' _ hw => ?_
 unfold IntV
 rw [den0, Nat.mul_one, Nat.gcd_one_right, Nat.div_one, Nat.div_one, if_pos rfl, ← Int.natAbs_mul] at hw
 have e : ((decide (a < 0) != decide (b < 0)) && decide ((a * b).natAbs ≠ 0)) = decide (a * b < 0) := by
  by_cases ha : a < 0 <;> by_cases hb : b < 0
  ·have : 0 < a * b := Int.mul_pos_of_neg_of_neg ha hb
   simp [ha, hb]; omega
  ·by_cases hb0 : b = 0
   ·subst hb0; simp [ha]
   ·have : a * b < 0 := Int.mul_neg_of_neg_of_pos ha (by omega)
    simp [ha, hb, this]; omega
  ·by_cases ha0 : a = 0
   ·subst ha0; simp [hb]
   ·have : a * b < 0 := Int.mul_neg_of_pos_of_neg (by omega) hb
    simp [ha, hb, this]; omega
  ·have : 0 ≤ a * b := Int.mul_nonneg (by omega) (by omega)
   simp [ha, hb]; omega
 rw [e] at hw
 exact hw
theorem negated_int {G N : Nat} {a : Int} {v : Value} {h : H} (hG : G ≤ h.next) (hN : N ≤ h.next) (hv : IntV h.blks N a v) (hs : Sm a.natAbs) :
  Spec Tryz.prog (En G) 93 [v] h fun w h' => IntV h'.blks h'.next (-a) w := by
 refine Spec.mono (negated_spec hG hN hv hs) fun w h' _ hw => ?_
 have e : (!decide (a < 0) && decide (a.natAbs ≠ 0)) = decide (-a < 0) := by
  by_cases ha : a < 0
  ·simp [ha]; omega
  ·by_cases h0 : a = 0
   ·subst h0; rfl
   ·simp [ha, h0]; omega
 rw [e] at hw
 unfold IntV
 rw [Int.natAbs_neg]
 exact hw
theorem plus_int {G N : Nat} {a b : Int} {v1 v2 : Value} {h : H} (hG : G ≤ h.next) (hN : N ≤ h.next) (hr : IntV h.blks N a v1) (ho : IntV h.blks N b v2) (m1 : Sm ((a.natAbs + b.natAbs) * 4294967296)) :
  Spec Tryz.prog (En G) 94 [v1, v2] h fun w h' => IntV h'.blks h'.next (a + b) w := by
 refine Spec.mono (plus_spec hG hN hr ho m1 (by rw [den0]; omega) (by rw [den0]; omega)) fun w h' _ hw => ?_
 obtain ⟨hz, hp⟩ := hw
 have e : sgv (decide (a < 0)) a.natAbs * (den 0 / Nat.gcd (den 0) (den 0) : Nat) + sgv (decide (b < 0)) b.natAbs * (den 0 / Nat.gcd (den 0) (den 0) : Nat) = a + b := by
  rw [sgv_int, sgv_int, den0]; simp
 rw [e] at hz hp
 unfold IntV
 by_cases h0 : a + b = 0
 ·rw [h0]; exact hz h0
 ·have := hp (a + b).natAbs 1 1 rfl (by omega) (by rw [den0, Nat.gcd_self, Nat.gcd_one_right]) (by rw [den0]; simp)
  rw [Nat.div_one, if_pos rfl] at this
  exact this
theorem IntV.pres {h h' : H} {m N : Nat} {z : Int} {v : Value} (a : IntV h.blks N z v) (p : Pres m h h') (hN : N ≤ m) : IntV h'.blks N z v := RatC.pres a p hN
theorem IntV.wide {B : Tr Blk} {N N' : Nat} {z : Int} {v : Value} (a : IntV B N z v) (h : N ≤ N') : IntV B N' z v := RatC.wide a h
theorem IntV.sto {h h' : H} {N b off : Nat} {z : Int} {v : Value} {L vs : List Value} (hv : IntV h.blks N z v) (hs : Sto h h' b off vs) (hvar : Var h.blks b L) (hL : L.all (fun v => !isI v) = true) : IntV h'.blks N z v := RatC.sto hv hs hvar hL
def rats (l : List (Bool × Value × Value)) : List Value := l.flatMap fun p => [.bool p.1, p.2.1, p.2.2]
theorem rats_len {l : List (Bool × Value × Value)} : (rats l).length = l.length * 3 := by
 induction l with
 | nil => rfl
 | cons p l ih =>
  rw [show rats (p :: l) = [Value.bool p.1, p.2.1, p.2.2] ++ rats l from rfl, List.length_append, ih]
  simp only [List.length_cons, List.length_nil]
  omega
theorem rats_drop {l : List (Bool × Value × Value)} {i : Nat} {p : Bool × Value × Value} (h : l[i]? = some p) : ∀ j, j < 3 → (rats l)[i * 3 + j]? = [Value.bool p.1, p.2.1, p.2.2][j]? := by
 induction l generalizing i with
 | nil => simp at h
 | cons q l ih =>
  intro j hj
  simp only [rats, List.flatMap_cons]
  cases i with
  | zero =>
   simp only [List.getElem?_cons_zero, Option.some.injEq] at h
   subst h
   rw [Nat.zero_mul, Nat.zero_add, List.getElem?_append_left (by simpa using hj)]
  | succ i =>
   rw [List.getElem?_append_right (by simp; omega)]
   have := ih (i := i) (by simpa using h) j hj
   rw [show (i + 1) * 3 + j - [Value.bool q.1, q.2.1, q.2.2].length = i * 3 + j by simp; omega]
   exact this
structure RatsV (B : Tr Blk) (N b : Nat) (cs : List Int) (l : List (Bool × Value × Value)) : Prop where
 len : l.length = cs.length
 blk : B.get b = some (.mk (Tr.ofList (rats l)) (rats l).length 3)
 at_ : ∀ (i : Nat) (p : Bool × Value × Value) (z : Int), l[i]? = some p → cs[i]? = some z → IntV B N z (.agg #[.bool p.1, p.2.1, p.2.2])
theorem RatsV.noI {B : Tr Blk} {N b : Nat} {cs : List Int} {l : List (Bool × Value × Value)} (h : RatsV B N b cs l) : (rats l).all (fun v => !isI v) = true := by
 rw [List.all_eq_true]
 intro v hv
 rw [rats, List.mem_flatMap] at hv
 obtain ⟨p, hp, hv⟩ := hv
 obtain ⟨i, hi⟩ := List.getElem?_of_mem hp
 have hlt := (List.getElem?_eq_some_iff.1 hi).1
 have hl := h.len
 obtain ⟨tv, bv, e, h1, h2⟩ := h.at_ i p _ hi (List.getElem?_eq_getElem (by omega))
 have e2 : p.2.1 = tv ∧ p.2.2 = bv := by
  injection e with e
  have := congrArg Array.toList e
  simp only [List.cons.injEq, Value.bool.injEq, and_true] at this
  exact ⟨this.2.1, this.2.2⟩
 obtain ⟨_, _, _, s1⟩ := natV_shape h1
 obtain ⟨_, _, _, s2⟩ := natV_shape h2
 simp only [List.mem_cons, List.not_mem_nil, or_false] at hv
 rcases hv with rfl | rfl | rfl
 ·rfl
 ·rw [e2.1, s1]; rfl
 ·rw [e2.2, s2]; rfl
theorem NatV.push2 {h h' : H} {N x es : Nat} {v : Value} {ob : Option Nat} {cells : List Value} (hv : NatV h.blks N x v) (hN : N ≤ h.next) (hp : Push h h' ob cells es) (ho : ∀ b, ob = some b → ∃ (L : List Value) (e : Nat), h.blks.get b = some (.mk (Tr.ofList L) L.length e) ∧ L.all (fun v => !isI v) = true) : NatV h'.blks N x v := by
 obtain ⟨l, A, c, rfl, h2, h3, h4, h5⟩ := hv
 refine ⟨l, A, c, rfl, ?_, h3, h4, h5⟩
 intro hne
 have hl0 : l.length ≠ 0 := fun e => hne (List.length_eq_zero_iff.1 e)
 have hget : ∀ i, i < l.length → ∃ a : Nat, (lims l)[i]? = some (.int .u32 (a : Int)) := fun i hi => by
  obtain ⟨a, ha⟩ := limb_at hi
  exact ⟨a, lims_get ha⟩
 replace h2 := h2 hne
 clear h3 h4 h5
 generalize lims l = M at *
 generalize l.length = n at *
 cases h2 with
 | nil hn hL => omega
 | emp hn hL => omega
 | mk hb hlo hhi hsz hLl hc =>
  rename_i b' off' size cells'
  refine .mk ?_ hlo hhi hsz hLl hc
  rw [hp.get b' (by omega)]
  split
  ·rename_i e
   exfalso
   obtain ⟨L, e3, hcs, hall⟩ := ho b' e
   rw [hb] at hcs
   injection hcs with hcs
   injection hcs with q1 q2 q3
   subst q1
   obtain ⟨a, ha⟩ := hget 0 (by omega)
   have q := hc 0 (by omega)
   rw [ha, Tr.ofList_get] at q
   have := List.all_eq_true.1 hall _ (List.mem_of_getElem? q)
   simp [isI] at this
  ·exact hb
theorem IntV.push {h h' : H} {N es : Nat} {z : Int} {v : Value} {ob : Option Nat} {cells : List Value} (hv : IntV h.blks N z v) (hN : N ≤ h.next) (hp : Push h h' ob cells es) (ho : ∀ b, ob = some b → ∃ (L : List Value) (e : Nat), h.blks.get b = some (.mk (Tr.ofList L) L.length e) ∧ L.all (fun v => !isI v) = true) : IntV h'.blks N z v := by
 obtain ⟨tv, bv, rfl, h1, h2⟩ := hv
 exact ⟨tv, bv, rfl, h1.push2 hN hp ho, h2.push2 hN hp ho⟩
theorem RatsV.sto {h h' : H} {N b b2 off : Nat} {cs : List Int} {l : List (Bool × Value × Value)} {L vs : List Value} (hr : RatsV h.blks N b cs l) (hs : Sto h h' b2 off vs) (hvar : Var h.blks b2 L) (hL : L.all (fun v => !isI v) = true) (hne : b ≠ b2) : RatsV h'.blks N b cs l :=
 ⟨hr.len, (hs.get b hne).trans hr.blk, fun i p z h1 h2 => (hr.at_ i p z h1 h2).sto hs hvar hL⟩
theorem RatsV.pres {h h' : H} {m N b : Nat} {cs : List Int} {l : List (Bool × Value × Value)} (hr : RatsV h.blks N b cs l) (p : Pres m h h') (hN : N ≤ m) (hb : b < m) : RatsV h'.blks N b cs l :=
 ⟨hr.len, (p.get b hb).trans hr.blk, fun i q z h1 h2 => (hr.at_ i q z h1 h2).pres p hN⟩
theorem RatsV.wide {B : Tr Blk} {N N' b : Nat} {cs : List Int} {l : List (Bool × Value × Value)} (hr : RatsV B N b cs l) (h : N ≤ N') : RatsV B N' b cs l := ⟨hr.len, hr.blk, fun i q z h1 h2 => (hr.at_ i q z h1 h2).wide h⟩
theorem RatsV.load {B : Tr Blk} {N b i G : Nat} {cs : List Int} {l : List (Bool × Value × Value)} {z : Int} (hr : RatsV B N b cs l) (hz : cs[i]? = some z) : ∃ w, loadO (En G) 112 B (some (.pointer (some ⟨b, 0 + i * 3, none⟩))) = some w ∧ IntV B N z w := by
 have hi := (List.getElem?_eq_some_iff.1 hz).1
 have hl := hr.len
 obtain ⟨p, hp⟩ : ∃ p, l[i]? = some p := ⟨l[i]'(by omega), List.getElem?_eq_getElem (by omega)⟩
 refine ⟨_, ?_, hr.at_ i p z hp hz⟩
 refine (loadO_agg (L := [.bool p.1, p.2.1, p.2.2]) agg112 i112 hr.blk (by rw [rats_len, size112]; omega) (by rw [size112]; rfl) fun j hj => ?_).trans rfl
 rw [size112] at hj
 rw [Tr.ofList_get, Nat.zero_add, rats_drop hp j hj]
theorem RatsV.slv {B : Tr Blk} {N b : Nat} {cs : List Int} {l : List (Bool × Value × Value)} {hi : Nat} (hr : RatsV B N b cs l) (hb : b < hi) {c : Nat} : SlV B b hi 3 cs.length (rats l) (.slice (some ⟨b, 0, none⟩) cs.length c) :=
 .mk hr.blk nlr hb (by rw [rats_len, hr.len]; omega) (by rw [rats_len, hr.len]) fun i hi => by rw [Tr.ofList_get, Nat.zero_add]
theorem clq_getD_le {cm : Nat → Nat → Bool} {k i : Nat} (hk : k ≤ 6) : (clq cm k).getD i 0 ≤ 64 := by
 rw [List.getD_eq_getElem?_getD]
 cases hg : (clq cm k)[i]? with
 | none => exact Nat.zero_le _
 | some a => exact Nat.le_trans (mem_le_sum (List.mem_of_getElem? hg)) (clq_sum hk)
theorem pow64_le {n : Nat} (h : n ≤ 61) : 64 ^ n ≤ 64 ^ 61 := Nat.pow_le_pow_right (by omega) h
end
end Go.Proofs.YthankillfhmfkaaGreatDoor.Ev
namespace Go.Proofs.YthankillfhmfkaaGreatDoor.Ev
open Go Go.Proofs Go.Lm
open Nat renaming reduceEqDiff → nqD, reduceLT → nqL
noncomputable section
set_option maxHeartbeats 16000000 in
set_option maxRecDepth 100000 in
theorem seams_spec {G k n : Nat} {m : List Bool} {h : H} (hG : G ≤ h.next) (hk : k ≤ 6) (hk0 : 0 < k) (hm : m.length = 36) (hn : n ≤ 60) : Spec Tryz.prog (En G) 70 [thrV k m, .int .i64 (n : Int)] h fun v h' => IntV h'.blks h'.next (cnt (clq (mcomm m) k) n) v := by
 refine CallsE_enter (En_known (by decide)) (En_f.trans Tryz.func70) rfl ⟨Nat.le_of_ble_eq_true rfl, by decide⟩ fun Q' hQ' => ?_
 have hsum := clq_sum (cm := mcomm m) hk
 have hcll := clq_len (cm := mcomm m) (k := k)
 have hcl2 := clq_two (cm := mcomm m) hk hk0
 have hcgl : ∀ i, (clq (mcomm m) k).getD i 0 ≤ 64 := fun i => clq_getD_le hk
 simp (disch := omega) only [Tryz.f70, go_sem,reduceIte,nqD,nqL]
 refine At_box (v := thrV k m) (by simp only [go_sem,reduceIte,nqD,nqL]) (by omega) fun h1 hn1 => ?_
 have n1 := hn1.next
 have pr1 : Pres h.next h h1 := hn1.pres nlr
 have v1 : Var h1.blks h.next (thrL k m) := hn1.var
 try simp (disch := omega) only [go_sem,reduceIte,nqD,nqL]
 refine At_alloc i112 zero112 rfl (by omega) fun h2 hn2 => ?_
 have n2 := hn2.next
 have pr2 : Pres h.next h h2 := pr1.trans ((hn2.pres nlr).le (by omega))
 have v4 : Var h2.blks h1.next [.bool false, .slice none 0 0, .slice none 0 0] := hn2.var
 replace v1 := v1.mono (B' := h2.blks) (by rw [hn2.get, if_neg (by omega)])
 have la : loadO (En G) 95 h2.blks (some (.pointer (some ⟨h.next, 0, none⟩))) = some (thrV k m) := v1.loadA agg95 i95 (by rw [size95, thrL_len, hm])
 simp (disch := omega) only [go_sem,reduceIte,nqD,nqL, la]
 refine CallO_f (cliques_spec (by omega) hk hm) (by omega) fun u h3 pr3 hu => ?_
 obtain ⟨Ac, rfl, hcs⟩ := hu
 have n3 := pr3.next
 have pr3' := pr2.trans (pr3.le (m' := h.next) (by omega))
 replace v4 := v4.mono (B' := h3.blks) (pr3.get _ (by omega))
 generalize clq (mcomm m) k = cl at *
 simp (disch := omega) only [go_sem,reduceIte,nqD,nqL]
 refine CallO_f (whole_spec (z := 1) (by omega) (by omega) (by omega)) (by omega) fun u h4 pr4 hu => ?_
 have n4 := pr4.next
 obtain ⟨tv1, bv1, rfl, ht1, hb1⟩ := hu
 have ht1' := natV_shape ht1
 have hb1' := natV_shape hb1
 try simp (disch := omega) only [go_sem,reduceIte,nqD,nqL]
 refine At_lit (vs := [(0, .agg #[.bool (decide ((1 : Int) < 0)), tv1, bv1])]) (cs := #[.bool (decide ((1 : Int) < 0)), tv1, bv1]) u140 i112 zero112 (by rw [size112]; rfl) (by simp only [go_sem,reduceIte,nqD,nqL]) (by rw [size112]; rfl) (by omega) fun h5 hn5 => ?_
 have n5 := hn5.next
 rw [size112] at hn5
 have pr5 : Pres h4.next h4 h5 := hn5.pres nlr
 have pr5' : Pres h2.next h2 h5 := (pr3.trans (pr4.le (by omega))).trans (pr5.le (by omega))
 have r5 : RatsV h5.blks h4.next h4.next (cnts cl 0) [(decide ((1 : Int) < 0), tv1, bv1)] := ⟨rfl, by rw [hn5.get, if_pos rfl]; rfl, fun i p z hp hz => by
  have hi : i = 0 := by have := (List.getElem?_eq_some_iff.1 hp).1; simp at this; exact this
  subst hi
  simp only [List.getElem?_cons_zero, Option.some.injEq, cnts] at hp hz
  subst hp; subst hz
  exact ⟨tv1, bv1, rfl, ht1.pres pr5 nlr, hb1.pres pr5 nlr⟩⟩
 have hcs5 : SlV h5.blks h2.next h3.next 1 cl.length (nats cl) (.slice Ac cl.length cl.length) := hcs.mono fun b _ hb => by rw [hn5.get, if_neg (by omega)]; exact pr4.get b hb
 have v45 : Var h5.blks h1.next [.bool false, .slice none 0 0, .slice none 0 0] := v4.mono ((pr5.get _ (by omega)).trans (pr4.get _ (by omega)))
 have pr05 : Pres h.next h h5 := pr2.trans (pr5'.le (by omega))
 clear hcs v4 la v1
 simp (disch := omega) only [go_sem,reduceIte,nqD,nqL]
 refine WK_loopN (fun j α h6 => ∃ (len b0 : Nat) (l : List (Bool × Value × Value)), len + j = n + 1 ∧ 1 ≤ len ∧ α.get 1 = some (.int .i64 (n : Int)) ∧ α.get 4 = some (.pointer (some ⟨h1.next, 0, none⟩)) ∧ α.get 5 = some (.slice Ac cl.length cl.length) ∧ α.get 6 = some (.slice (some ⟨b0, 0, none⟩) len len) ∧ α.get 7 = some (.int .i64 (len : Int)) ∧
   RatsV h6.blks h6.next b0 (cnts cl (len - 1)) l ∧ h4.next ≤ b0 ∧ b0 < h6.next ∧ SlV h6.blks h2.next h3.next 1 cl.length (nats cl) (.slice Ac cl.length cl.length) ∧ Var h6.blks h1.next [.bool false, .slice none 0 0, .slice none 0 0] ∧ Pres h.next h h6 ∧ h5.next ≤ h6.next) n
  ⟨1, h4.next, _, by omega, by omega, by simp only [go_sem,reduceIte,nqD,nqL], by simp only [go_sem,reduceIte,nqD,nqL], by simp only [go_sem,reduceIte,nqD,nqL], by simp only [go_sem,reduceIte,nqD,nqL], by (simp only [go_sem,reduceIte,nqD,nqL]) <;> rfl, r5.wide (by omega), Nat.le_refl _, by omega, hcs5, v45, pr05, Nat.le_refl _⟩ (by omega) ?_
 clear r5 hcs5 v45 pr05 pr5'
 rintro J j α h6 ⟨len, b0, l, hlj, hlen1, e1, e4, e5, e6, e7, hr, hb0, hb0', hcs, v4, pr, hnx⟩ hJ
 obtain ⟨nn, rfl⟩ : ∃ nn, len = nn + 1 := ⟨len - 1, by omega⟩
 rw [Nat.add_sub_cancel] at hr
 have hcl := cnts_len (cl := cl) nn
 by_cases hlt : ((nn + 1 : Nat) : Int) ≤ n
 ·simp (disch := omega) only [go_sem,reduceIte,nqD,nqL, e1, e4, e5, e6, e7, hlt]
  refine At_alloc i112 zero112 rfl (by omega) fun h7 hn7 => ?_
  have n7 := hn7.next
  have pr7 : Pres h6.next h6 h7 := hn7.pres nlr
  have v8 : Var h7.blks h6.next [.bool false, .slice none 0 0, .slice none 0 0] := hn7.var
  have hz0 : IntV h7.blks h7.next 0 (.agg #[.bool false, .slice none 0 0, .slice none 0 0]) := ⟨_, _, rfl, NatV.nil, NatV.nil⟩
  simp (disch := omega) only [go_sem,reduceIte,nqD,nqL]
  have hP : 64 ^ (nn + 1) ≤ 64 ^ 61 := pow64_le (by omega)
  have hP1 : 64 ^ nn * 64 = 64 ^ (nn + 1) := (Nat.pow_succ ..).symm
  refine WK_loopN (fun j2 β h8 => ∃ (s : Nat) (sv : Value), s + j2 = szs cl (nn + 1) + 1 ∧ 1 ≤ s ∧ β.get 1 = some (.int .i64 (n : Int)) ∧ β.get 4 = some (.pointer (some ⟨h1.next, 0, none⟩)) ∧ β.get 5 = some (.slice Ac cl.length cl.length) ∧ β.get 6 = some (.slice (some ⟨b0, 0, none⟩) (nn + 1) (nn + 1)) ∧ β.get 7 = some (.int .i64 ((nn + 1 : Nat) : Int)) ∧ β.get 8 = some (.pointer (some ⟨h6.next, 0, none⟩)) ∧ β.get 9 = some (.int .i64 (s : Int)) ∧
    RatsV h8.blks h8.next b0 (cnts cl nn) l ∧ SlV h8.blks h2.next h3.next 1 cl.length (nats cl) (.slice Ac cl.length cl.length) ∧ Var h8.blks h1.next [.bool false, .slice none 0 0, .slice none 0 0] ∧ (∃ sb st sd, sv = .agg #[.bool sb, st, sd] ∧ Var h8.blks h6.next [.bool sb, st, sd] ∧ IntV h8.blks h8.next (psum cl (cnts cl nn) (nn + 1) (s - 1)) sv) ∧ Pres h.next h h8 ∧ h7.next ≤ h8.next) (szs cl (nn + 1))
   ⟨1, _, by omega, by omega, by simp only [go_sem,reduceIte,nqD,nqL, e1], by simp only [go_sem,reduceIte,nqD,nqL, e4], by simp only [go_sem,reduceIte,nqD,nqL, e5], by simp only [go_sem,reduceIte,nqD,nqL, e6], by simp only [go_sem,reduceIte,nqD,nqL, e7], by simp only [go_sem,reduceIte,nqD,nqL], by (simp only [go_sem,reduceIte,nqD,nqL]) <;> rfl, (hr.pres pr7 nlr hb0').wide (by omega), hcs.mono fun b _ hb => pr7.get b (by omega), v4.mono (pr7.get _ (by omega)), ⟨_, _, _, rfl, v8, hz0⟩, pr.trans (pr7.le (by omega)), Nat.le_refl _⟩ (by simp only [szs]; omega) ?_
  clear e1 e4 e5 e6 e7 hr hcs v4 pr v8 hz0
  rintro J2 j2 β h8 ⟨s, sv, hsj, hs1, e1, e4, e5, e6, e7, e8, e9, hr, hcs, v4, ⟨sb, stv, sd, rfl, v8, hsv⟩, pr, hnx8⟩ hJ2
  obtain ⟨s, rfl⟩ : ∃ s', s = s' + 1 := ⟨s - 1, by omega⟩
  rw [Nat.add_sub_cancel] at hsv
  have hshape := hsv
  obtain ⟨tv', bv', he', g1, g2⟩ := hshape
  have hst : stv = tv' ∧ sd = bv' := by
   injection he' with e
   have := congrArg Array.toList e
   simp only [List.cons.injEq, Value.bool.injEq, and_true] at this
   exact ⟨this.2.1, this.2.2⟩
  obtain ⟨rfl, rfl⟩ := hst
  have noI8 : [Value.bool sb, stv, sd].all (fun v => !isI v) = true := by
   obtain ⟨_, _, _, rfl⟩ := natV_shape g1
   obtain ⟨_, _, _, rfl⟩ := natV_shape g2
   rfl
  clear g1 g2 he'
  have hszb : szs cl (nn + 1) ≤ nn + 1 := by simp only [szs]; omega
  have w9 : IntKind.i64.wrap (((s + 1 : Nat) : Int) + 1) = ((s + 1 + 1 : Nat) : Int) := wrap_nat (by omega) (by omega)
  have w7 : IntKind.i64.wrap (((nn + 1 : Nat) : Int) + 1) = ((nn + 1 + 1 : Nat) : Int) := wrap_nat (by omega) (by omega)
  by_cases hle : s + 1 ≤ szs cl (nn + 1)
  ·have hszs := hle
   simp only [szs] at hszs
   have d1 : decide (((s + 1 : Nat) : Int) < (cl.length : Int)) = true := decide_eq_true (by omega)
   have d2 : decide (((s + 1 : Nat) : Int) ≤ ((nn + 1 : Nat) : Int)) = true := decide_eq_true (by omega)
   obtain ⟨x, hx⟩ : ∃ x, cl[s + 1]? = some x := ⟨cl[s + 1]'(by omega), List.getElem?_eq_getElem (by omega)⟩
   have hxd : cl.getD (s + 1) 0 = x := by rw [List.getD_eq_getElem?_getD, hx]; rfl
   have hx64 : x ≤ 64 := by rw [← hxd]; exact hcgl (s + 1)
   obtain ⟨bc, oc, rfl, _, _, lx⟩ := nats_at hcs hx
   obtain ⟨z, hz⟩ : ∃ z, (cnts cl nn)[nn - s]? = some z := ⟨(cnts cl nn)[nn - s]'(by omega), List.getElem?_eq_getElem (by omega)⟩
   have hzd : (cnts cl nn).getD (nn + 1 - (s + 1)) 0 = z := by rw [show nn + 1 - (s + 1) = nn - s by omega, List.getD_eq_getElem?_getD, hz]; rfl
   have hz64 : z.natAbs ≤ 64 ^ nn := by
    rw [← hzd, cnts_getD (by omega)]
    exact Nat.le_trans (cnt_bound hsum _) (Nat.pow_le_pow_right (by omega) (by omega))
   have hxz : x * z.natAbs ≤ 64 ^ (nn + 1) := by
    rw [← hP1, Nat.mul_comm (64 ^ nn)]
    exact Nat.mul_le_mul hx64 hz64
   have hps : (psum cl (cnts cl nn) (nn + 1) s).natAbs ≤ 64 ^ (nn + 1) := psum_bound2 hsum (by omega)
   have hps1 : psum cl (cnts cl nn) (nn + 1) (s + 1) = psum cl (cnts cl nn) (nn + 1) s + sg (s + 1) * (x : Int) * z := by rw [psum, hxd, hzd]
   obtain ⟨w, hw1, hw2⟩ := hr.load (G := G) hz
   have w8 : IntKind.i64.wrap (((nn + 1 : Nat) : Int) - ((s + 1 : Nat) : Int)) = ((nn - s : Nat) : Int) := wrap_nat (by omega) (by omega)
   simp (disch := omega) only [go_sem,reduceIte,nqD,nqL, e1, e4, e5, e6, e7, e8, e9, len34, d1, d2]
   refine WK_regionT 13 ⟨by kernel_rfl, by kernel_rfl, by kernel_rfl⟩ ?_
   have hst' : ∀ {q : Bool} {h : H}, (st q h).blks = h.blks := fun {q h} => by cases q <;> rfl
   have hsn : ∀ {q : Bool} {h : H}, (st q h).next = h.next := fun {q h} => by cases q <;> rfl
   simp (disch := omega) only [go_sem,reduceIte,nqD,nqL, e5, e6, e7, e9, idxA34, idxA140, Int.toNat_natCast, Nat.mul_one, load3, lx, w8]
   refine CallO_spec (whole_spec (z := (x : Int)) (by rw [hsn]; omega) (by omega) (by omega)) (by omega) (fun _ _ _ h => h) fun wv h9 pr9 hwv => ?_
   have n9 := pr9.next
   obtain ⟨w', hw1', hw2'⟩ := (hr.pres pr9 nlr (by omega)).load (G := G) hz
   simp (disch := omega) only [go_sem,reduceIte,nqD,nqL, e6, e7, e9, idxA140, Int.toNat_natCast, w8, hw1']
   refine CallO_spec (times_int (a := (x : Int)) (b := z) (N := h9.next) (by rw [hsn]; omega) (by rw [hsn]; omega) (by rw [hst']; exact hwv) (by rw [hst']; exact hw2'.wide n9) (smM (by omega)) (smM (by omega)) (smM (by rw [Int.natAbs_natCast]; omega))) (by omega) (fun _ _ _ h => h) fun tv h10 pr10 htv => ?_
   have n10 := pr10.next
   have pr10' := pr9.trans (pr10.le (m' := h8.next) (by omega))
   obtain ⟨tt, tb, rfl, gt1, gt2⟩ := htv
   replace v8 := v8.mono (B' := h10.blks) (pr10'.get _ (by omega))
   replace v4 := v4.mono (B' := h10.blks) (pr10'.get _ (by omega))
   replace hcs := hcs.mono (B' := h10.blks) fun b _ hb => pr10'.get b (by omega)
   replace hr := (hr.pres pr10' nlr (by omega)).wide (N' := h10.next) (by omega)
   replace hsv := (hsv.pres pr10' nlr).wide (N' := h10.next) (by omega)
   have htv : IntV h10.blks h10.next ((x : Int) * z) (.agg #[.bool (decide ((x : Int) * z < 0)), tt, tb]) := ⟨tt, tb, rfl, gt1, gt2⟩
   try simp (disch := omega) only [go_sem,reduceIte,nqD,nqL]
   refine At_alloc i112 zero112 rfl (by omega) fun h11 hn11 => ?_
   have n11 := hn11.next
   have pr11 : Pres h10.next h10 h11 := hn11.pres nlr
   have v10 : Var h11.blks h10.next [.bool false, .slice none 0 0, .slice none 0 0] := hn11.var
   replace v8 := v8.mono (B' := h11.blks) (pr11.get _ (by omega))
   replace v4 := v4.mono (B' := h11.blks) (pr11.get _ (by omega))
   replace hcs := hcs.mono (B' := h11.blks) fun b _ hb => pr11.get b (by omega)
   replace hr := (hr.pres pr11 nlr (by omega)).wide (N' := h11.next) (by omega)
   replace hsv := (hsv.pres pr11 nlr).wide (N' := h11.next) (by omega)
   replace htv := (htv.pres pr11 nlr).wide (N' := h11.next) (by omega)
   try simp (disch := omega) only [go_sem,reduceIte,nqD,nqL]
   refine At_storeV (inf := inf112) (v := .agg #[.bool (decide ((x : Int) * z < 0)), tt, tb]) i112 (by simp only [go_sem,reduceIte,nqD,nqL]) (by simp only [go_sem,reduceIte,nqD,nqL]) v10 (by rw [size112]; rfl) (by rw [size112]; rfl) (RatC.one gt1 gt2) (by show G ≤ h10.next; omega) fun h12 hs12 v12 => ?_
   have n12 := hs12.next
   replace v8 := v8.mono (B' := h12.blks) (hs12.get _ (by omega))
   replace v4 := v4.mono (B' := h12.blks) (hs12.get _ (by omega))
   replace hcs := hcs.mono (B' := h12.blks) fun b _ hb => hs12.get b (by omega)
   replace hr := hr.sto hs12 v10 noI_z (by omega)
   replace hsv := hsv.sto hs12 v10 noI_z
   replace htv := htv.sto hs12 v10 noI_z
   have pr12 : Pres h.next h h12 := (pr.trans (pr10'.le (by omega))).trans ((pr11.le (by omega)).trans (hs12.pres (by omega)))
   replace v12 : Var h12.blks h10.next [.bool (decide ((x : Int) * z < 0)), tt, tb] := v12
   rw [← n12] at hr hsv htv
   have hcnt12 : h8.next ≤ h12.next := by omega
   have hcnt10 : h8.next ≤ h10.next := by omega
   clear pr10 pr10' pr9 pr11 hn11 v10 hs12 hw1 hw1' hw2 hw2' hwv gt1 gt2 n10 n9
   -- the sign
   have hrem : (((s + 1 : Nat) : Int)).tmod 2 = (((s + 1) % 2 : Nat) : Int) := by
    rw [Int.tmod_eq_emod_of_nonneg (by omega)]; rfl
   simp (disch := omega) only [go_sem,reduceIte,nqD,nqL, e9, hrem]
   refine CondO_cut (fun α' h' => ∃ (tt tb : Value) (ts : Bool), α'.get 1 = some (.int .i64 (n : Int)) ∧ α'.get 4 = some (.pointer (some ⟨h1.next, 0, none⟩)) ∧ α'.get 5 = some (.slice (some ⟨bc, oc, none⟩) cl.length cl.length) ∧ α'.get 6 = some (.slice (some ⟨b0, 0, none⟩) (nn + 1) (nn + 1)) ∧ α'.get 7 = some (.int .i64 ((nn + 1 : Nat) : Int)) ∧ α'.get 8 = some (.pointer (some ⟨h6.next, 0, none⟩)) ∧ α'.get 9 = some (.int .i64 ((s + 1 : Nat) : Int)) ∧ α'.get 10 = some (.pointer (some ⟨h10.next, 0, none⟩)) ∧
    Var h'.blks h10.next [.bool ts, tt, tb] ∧ IntV h'.blks h'.next (sg (s + 1) * (x : Int) * z) (.agg #[.bool ts, tt, tb]) ∧
    RatsV h'.blks h'.next b0 (cnts cl nn) l ∧ SlV h'.blks h2.next h3.next 1 cl.length (nats cl) (.slice (some ⟨bc, oc, none⟩) cl.length cl.length) ∧ Var h'.blks h1.next [.bool false, .slice none 0 0, .slice none 0 0] ∧ Var h'.blks h6.next [.bool sb, stv, sd] ∧ IntV h'.blks h'.next (psum cl (cnts cl nn) (nn + 1) s) (.agg #[.bool sb, stv, sd]) ∧ Pres h.next h h' ∧ h12.next ≤ h'.next) ?_ ?_
   ·by_cases hev : (s + 1) % 2 = 0
    ·have d3 : decide ((((s + 1) % 2 : Nat) : Int) = 0) = true := decide_eq_true (by omega)
     have r12 := v12.rat (G := G) rfl
     simp (disch := omega) only [go_sem,reduceIte,nqD,nqL, d3, r12]
     refine CallO_f (negated_int (a := (x : Int) * z) (N := h12.next) (by omega) nlr htv (smM (by rw [Int.natAbs_mul, Int.natAbs_natCast]; omega))) (by omega) fun nv h13 pr13 hnv => ?_
     have n13 := pr13.next
     obtain ⟨ut, ub, rfl, gu1, gu2⟩ := hnv
     replace v12 := v12.mono (B' := h13.blks) (pr13.get _ (by omega))
     replace v8 := v8.mono (B' := h13.blks) (pr13.get _ (by omega))
     replace v4 := v4.mono (B' := h13.blks) (pr13.get _ (by omega))
     replace hcs := hcs.mono (B' := h13.blks) fun b _ hb => pr13.get b (by omega)
     replace hr := (hr.pres pr13 nlr (by omega)).wide (N' := h13.next) (by omega)
     replace hsv := (hsv.pres pr13 nlr).wide (N' := h13.next) (by omega)
     have noI12 : [Value.bool (decide ((x : Int) * z < 0)), tt, tb].all (fun v => !isI v) = true := by
      obtain ⟨_, _, e, q1, q2⟩ := htv
      injection e with e
      have := congrArg Array.toList e
      simp only [List.cons.injEq, Value.bool.injEq, and_true] at this
      obtain ⟨_, _, _, s1⟩ := natV_shape q1
      obtain ⟨_, _, _, s2⟩ := natV_shape q2
      rw [this.2.1, this.2.2, s1, s2]; rfl
     have hnv : IntV h13.blks h13.next (-((x : Int) * z)) (.agg #[.bool (decide (-((x : Int) * z) < 0)), ut, ub]) := ⟨ut, ub, rfl, gu1, gu2⟩
     try simp (disch := omega) only [go_sem,reduceIte,nqD,nqL]
     refine At_storeV (inf := inf112) (v := .agg #[.bool (decide (-((x : Int) * z) < 0)), ut, ub]) i112 (by simp only [go_sem,reduceIte,nqD,nqL]) (by simp only [go_sem,reduceIte,nqD,nqL]) v12 (by rw [size112]; rfl) (by rw [size112]; rfl) (RatC.one gu1 gu2) (by show G ≤ h10.next; omega) fun h14 hs14 v14 => ?_
     have n14 := hs14.next
     have hsg : sg (s + 1) * (x : Int) * z = -((x : Int) * z) := by
      unfold sg; rw [if_pos hev, Int.neg_one_mul, Int.neg_mul]
     simp (disch := omega) only [go_sem,reduceIte,nqD,nqL]
     refine ⟨ut, ub, _, by simp only [go_sem,reduceIte,nqD,nqL, e1], by simp only [go_sem,reduceIte,nqD,nqL, e4], by simp only [go_sem,reduceIte,nqD,nqL, e5], by simp only [go_sem,reduceIte,nqD,nqL, e6], by simp only [go_sem,reduceIte,nqD,nqL, e7], by simp only [go_sem,reduceIte,nqD,nqL, e8], by simp only [go_sem,reduceIte,nqD,nqL, e9], by first | rfl | trivial, v14, ?_, (hr.sto hs14 v12 noI12 (by omega)).wide (by omega), hcs.mono fun b _ hb => hs14.get b (by omega), v4.mono (hs14.get _ (by omega)), v8.mono (hs14.get _ (by omega)), (hsv.sto hs14 v12 noI12).wide (by omega), (pr12.trans (pr13.le (by omega))).trans (hs14.pres (by omega)), by omega⟩
     rw [hsg]
     exact (hnv.sto hs14 v12 noI12).wide (by omega)
    ·have d3 : decide ((((s + 1) % 2 : Nat) : Int) = 0) = false := decide_eq_false (by omega)
     have hsg : sg (s + 1) * (x : Int) * z = (x : Int) * z := by
      unfold sg; rw [if_neg hev, Int.one_mul]
     simp (disch := omega) only [go_sem,reduceIte,nqD,nqL, d3]
     refine ⟨tt, tb, _, by simp only [go_sem,reduceIte,nqD,nqL, e1], by simp only [go_sem,reduceIte,nqD,nqL, e4], by simp only [go_sem,reduceIte,nqD,nqL, e5], by simp only [go_sem,reduceIte,nqD,nqL, e6], by simp only [go_sem,reduceIte,nqD,nqL, e7], by simp only [go_sem,reduceIte,nqD,nqL, e8], by simp only [go_sem,reduceIte,nqD,nqL, e9], by first | rfl | trivial, v12, ?_, hr, hcs, v4, v8, hsv, pr12, Nat.le_refl _⟩
     rw [hsg]; exact htv
   clear e1 e4 e5 e6 e7 e8 e9 v12 htv hr hcs v4 v8 hsv pr12
   rintro β h13 ⟨tt, tb, ts, e1, e4, e5, e6, e7, e8, e9, e10, v12, htv, hr, hcs, v4, v8, hsv, pr13, n13⟩
   have rt := v12.rat (G := G) rfl
   have rs := v8.rat (G := G) rfl
   simp (disch := omega) only [go_sem,reduceIte,nqD,nqL, e8, e10, rt, rs]
   have htb : (sg (s + 1) * (x : Int) * z).natAbs ≤ 64 ^ (nn + 1) := by
    have : (sg (s + 1)).natAbs = 1 := by unfold sg; split <;> rfl
    rw [Int.mul_assoc, Int.natAbs_mul, this, Nat.one_mul, Int.natAbs_mul, Int.natAbs_natCast]; exact hxz
   refine CallO_f (plus_int (a := psum cl (cnts cl nn) (nn + 1) s) (b := sg (s + 1) * (x : Int) * z) (N := h13.next) (by omega) nlr hsv htv (smM (by omega))) (by omega) fun pv h14 pr14 hpv => ?_
   have n14 := pr14.next
   rw [← hps1] at hpv
   obtain ⟨ut, ub, rfl, gu1, gu2⟩ := hpv
   have hpv : IntV h14.blks h14.next (psum cl (cnts cl nn) (nn + 1) (s + 1)) (.agg #[.bool (decide (psum cl (cnts cl nn) (nn + 1) (s + 1) < 0)), ut, ub]) := ⟨ut, ub, rfl, gu1, gu2⟩
   replace v8 := v8.mono (B' := h14.blks) (pr14.get _ (by omega))
   try simp (disch := omega) only [go_sem,reduceIte,nqD,nqL, e8]
   refine At_storeV (inf := inf112) (v := .agg #[.bool (decide (psum cl (cnts cl nn) (nn + 1) (s + 1) < 0)), ut, ub]) i112 (by simp only [go_sem,reduceIte,nqD,nqL, e8]) (by simp only [go_sem,reduceIte,nqD,nqL]) v8 (by rw [size112]; rfl) (by rw [size112]; rfl) (RatC.one gu1 gu2) (by show G ≤ h6.next; omega) fun h15 hs15 v15 => ?_
   have n15 := hs15.next
   simp (disch := omega) only [go_sem,reduceIte,nqD,nqL, e9, w9]
   refine hJ2 (j2 - 1) _ _ (by omega) ⟨s + 1 + 1, _, by omega, by omega, by simp only [go_sem,reduceIte,nqD,nqL, e1], by simp only [go_sem,reduceIte,nqD,nqL, e4], by simp only [go_sem,reduceIte,nqD,nqL, e5], by simp only [go_sem,reduceIte,nqD,nqL, e6], by simp only [go_sem,reduceIte,nqD,nqL, e7], by simp only [go_sem,reduceIte,nqD,nqL, e8], by simp only [go_sem,reduceIte,nqD,nqL], ((hr.pres pr14 nlr (by omega)).sto hs15 v8 noI8 (by omega)).wide (by omega), hcs.mono fun b _ hb => (hs15.get b (by omega)).trans (pr14.get b (by omega)), v4.mono ((hs15.get _ (by omega)).trans (pr14.get _ (by omega))), ⟨_, ut, ub, rfl, v15, (hpv.sto hs15 v8 noI8).wide (by omega)⟩, (pr13.trans (pr14.le (by omega))).trans (hs15.pres (by omega)), by omega⟩
  ·have hsz : s = szs cl (nn + 1) := by omega
   have hcond : (s + 1 < cl.length ∧ s + 1 ≤ nn + 1) → False := fun hc => by
    have : s + 1 ≤ szs cl (nn + 1) := by simp only [szs]; omega
    exact hle this
   have hlast : psum cl (cnts cl nn) (nn + 1) s = cnt cl (nn + 1) := by
    have h2 : cnt cl (nn + 1) = psum cl (cnts cl (nn + 1)) (nn + 1) (szs cl (nn + 1)) := cnt_rec (by omega)
    rw [h2, ← hsz]
    refine psum_congr (by omega) fun i hi => ?_
    rw [cnts_getD (by omega), cnts_getD (by omega)]
   have fin : WK Tryz.prog (En G) 59 .skip [] β h8 ⟨[], fun _ _ => True⟩ ∨ True := .inr trivial
   clear fin
   have rs := v8.rat (G := G) rfl
   have hcs1 : cnts cl (nn + 1) = cnts cl nn ++ [psum cl (cnts cl nn) (nn + 1) s] := by rw [cnts, hsz]
   have hrl := hr.len
   have hslv := hr.slv (hi := b0 + 1) (c := nn + 1) (by omega)
   rw [hcl] at hslv
   have tail : ∀ (β' : Tr Value) (h9 : H), β'.get 1 = some (.int .i64 (n : Int)) → β'.get 4 = some (.pointer (some ⟨h1.next, 0, none⟩)) → β'.get 5 = some (.slice Ac cl.length cl.length) → β'.get 7 = some (.int .i64 ((nn + 1 + 1 : Nat) : Int)) → Push h8 h9 (some b0) (rats l ++ [.bool sb, stv, sd]) 3 → β'.get 6 = some (.slice (some ⟨h8.next + 1, 0, none⟩) (nn + 1 + 1) (nn + 1 + 1)) → J β' h9 := fun β' h9 f1 f4 f5 f7 hp9 f6 => by
    have n9 := hp9.next
    have hob : ∀ b, some b0 = some b → ∃ (L : List Value) (e : Nat), h8.blks.get b = some (.mk (Tr.ofList L) L.length e) ∧ L.all (fun v => !isI v) = true := fun b e => by
     injection e with e; subst e
     exact ⟨_, _, hr.blk, hr.noI⟩
    have hcells : rats l ++ [Value.bool sb, stv, sd] = rats (l ++ [(sb, stv, sd)]) := by simp [rats]
    have r9 : RatsV h9.blks h9.next (h8.next + 1) (cnts cl (nn + 1)) (l ++ [(sb, stv, sd)]) := ⟨by rw [hcs1]; simp [hrl], by rw [hp9.new, hcells], fun i p z hp hz => by
     rw [hcs1] at hz
     by_cases hi : i < l.length
     ·rw [List.getElem?_append_left hi] at hp
      rw [List.getElem?_append_left (by omega)] at hz
      exact ((hr.at_ i p z hp hz).push nlr hp9 hob).wide (by omega)
     ·have hi2 : i = l.length := by
       have := (List.getElem?_eq_some_iff.1 hp).1
       simp at this; omega
      subst hi2
      rw [List.getElem?_append_right nlr, Nat.sub_self] at hp
      rw [List.getElem?_append_right (by omega), ← hrl, Nat.sub_self] at hz
      simp only [List.getElem?_cons_zero, Option.some.injEq] at hp hz
      subst hp; subst hz
      exact (hsv.push nlr hp9 hob).wide (by omega)⟩
    have hget9 : ∀ b, b < h8.next → b ≠ b0 → h9.blks.get b = h8.blks.get b := fun b h1 h2 => by
     rw [hp9.get b h1, if_neg (by simpa using Ne.symm h2)]
    exact hJ (j - 1) _ _ (by omega) ⟨nn + 1 + 1, h8.next + 1, _, by omega, by omega, f1, f4, f5, f6, f7, r9, by omega, by omega, hcs.mono fun b _ hb => hget9 b (by omega) (by omega), v4.mono (hget9 _ (by omega) (by omega)), pr.trans (hp9.pres (by omega) fun b e => by injection e with e; omega), by omega⟩
   by_cases hc1 : s + 1 < cl.length
   ·have d1 : decide (((s + 1 : Nat) : Int) < (cl.length : Int)) = true := decide_eq_true (by omega)
    have d2 : decide (((s + 1 : Nat) : Int) ≤ ((nn + 1 : Nat) : Int)) = false := decide_eq_false fun h => hcond ⟨hc1, by omega⟩
    simp (disch := omega) only [go_sem,reduceIte,nqD,nqL, e1, e4, e5, e6, e7, e8, e9, len34, d1, d2, rs]
    refine At_push (lo := b0) (hi := b0 + 1) (L := rats l) (v := .agg #[.bool sb, stv, sd]) (vs := [.bool sb, stv, sd]) (A := some ⟨b0, 0, none⟩) (sl := nn + 1) (sc := nn + 1) u140 i112 zero112 (by rw [size112, bytes112]; rfl) (by simp only [go_sem,reduceIte,nqD,nqL]) (by rw [size112]; rfl) (by rw [size112]; rfl) (by
     obtain ⟨_, _, e, q1, q2⟩ := hsv
     injection e with e
     have := congrArg Array.toList e
     simp only [List.cons.injEq, Value.bool.injEq, and_true] at this
     obtain ⟨_, _, _, s1⟩ := natV_shape q1
     obtain ⟨_, _, _, s2⟩ := natV_shape q2
     rw [this.2.1, this.2.2, s1, s2]; rfl) (by simp only [go_sem,reduceIte,nqD,nqL, e6]) (by rw [size112]; exact hslv) (by omega) nlr (by show G ≤ b0; omega) (by omega) (by decide) (by decide) (by decide) fun h9 hp9 => ?_
    rw [size112] at hp9
    simp (disch := omega) only [go_sem,reduceIte,nqD,nqL, e7, w7]
    exact tail _ _ (by simp only [go_sem,reduceIte,nqD,nqL, e1]) (by simp only [go_sem,reduceIte,nqD,nqL, e4]) (by simp only [go_sem,reduceIte,nqD,nqL, e5]) (by simp only [go_sem,reduceIte,nqD,nqL]) hp9 (by simp only [go_sem,reduceIte,nqD,nqL])
   ·have d1 : decide (((s + 1 : Nat) : Int) < (cl.length : Int)) = false := decide_eq_false (by omega)
    simp (disch := omega) only [go_sem,reduceIte,nqD,nqL, e1, e4, e5, e6, e7, e8, e9, len34, d1, rs]
    refine At_push (lo := b0) (hi := b0 + 1) (L := rats l) (v := .agg #[.bool sb, stv, sd]) (vs := [.bool sb, stv, sd]) (A := some ⟨b0, 0, none⟩) (sl := nn + 1) (sc := nn + 1) u140 i112 zero112 (by rw [size112, bytes112]; rfl) (by simp only [go_sem,reduceIte,nqD,nqL]) (by rw [size112]; rfl) (by rw [size112]; rfl) (by
     obtain ⟨_, _, e, q1, q2⟩ := hsv
     injection e with e
     have := congrArg Array.toList e
     simp only [List.cons.injEq, Value.bool.injEq, and_true] at this
     obtain ⟨_, _, _, s1⟩ := natV_shape q1
     obtain ⟨_, _, _, s2⟩ := natV_shape q2
     rw [this.2.1, this.2.2, s1, s2]; rfl) (by simp only [go_sem,reduceIte,nqD,nqL, e6]) (by rw [size112]; exact hslv) (by omega) nlr (by show G ≤ b0; omega) (by omega) (by decide) (by decide) (by decide) fun h9 hp9 => ?_
    rw [size112] at hp9
    simp (disch := omega) only [go_sem,reduceIte,nqD,nqL, e7, w7]
    exact tail _ _ (by simp only [go_sem,reduceIte,nqD,nqL, e1]) (by simp only [go_sem,reduceIte,nqD,nqL, e4]) (by simp only [go_sem,reduceIte,nqD,nqL, e5]) (by simp only [go_sem,reduceIte,nqD,nqL]) hp9 (by simp only [go_sem,reduceIte,nqD,nqL])
 ·obtain rfl : nn = n := by omega
  have hz : (cnts cl nn)[nn]? = some (cnt cl nn) := by
   have : (cnts cl nn).getD nn 0 = cnt cl nn := rfl
   rw [← this, List.getD_eq_getElem?_getD, List.getElem?_eq_getElem (by omega)]; rfl
  obtain ⟨w, hw1, hw2⟩ := hr.load (G := G) hz
  obtain ⟨ut, ub, rfl, gu1, gu2⟩ := hw2
  have hw2 : IntV h6.blks h6.next (cnt cl nn) (.agg #[.bool (decide (cnt cl nn < 0)), ut, ub]) := ⟨ut, ub, rfl, gu1, gu2⟩
  simp (disch := omega) only [go_sem,reduceIte,nqD,nqL, e1, e4, e5, e6, e7, hlt, idxA140, Int.toNat_natCast, hw1]
  refine At_storeV (inf := inf112) (v := .agg #[.bool (decide (cnt cl nn < 0)), ut, ub]) i112 (by simp only [go_sem,reduceIte,nqD,nqL, e4]) (by simp only [go_sem,reduceIte,nqD,nqL]) v4 (by rw [size112]; rfl) (by rw [size112]; rfl) (RatC.one gu1 gu2) (by show G ≤ h1.next; omega) fun h9 hs9 v9 => ?_
  have n9 := hs9.next
  have e9 := v9.ratE (G := G) rfl
  simp (disch := omega) only [go_sem,reduceIte,nqD,nqL, e4, e9]
  exact hQ' _ _ ⟨pr.trans (hs9.pres (by omega)), (hw2.sto hs9 v4 noI_z).wide (by omega)⟩
end
end Go.Proofs.YthankillfhmfkaaGreatDoor.Ev
namespace Go.Proofs.YthankillfhmfkaaGreatDoor.Ev
open Go Go.Proofs Go.Lm
open Nat renaming reduceEqDiff → nqD, reduceLT → nqL
noncomputable section
theorem isCl_congr {c1 c2 : Nat → Nat → Bool} {k S : Nat} (hk : k ≤ 6) (h : ∀ a b, a < 6 → b < 6 → c1 a b = c2 a b) : isCl c1 k S = isCl c2 k S := by
 unfold isCl
 rw [Bool.eq_iff_iff]
 simp only [List.all_eq_true, List.mem_range]
 constructor <;> intro hh a ha b hb
 ·rw [← h a b (by omega) (by omega)]; exact hh a ha b hb
 ·rw [h a b (by omega) (by omega)]; exact hh a ha b hb
theorem clq_congr {c1 c2 : Nat → Nat → Bool} {k : Nat} (hk : k ≤ 6) (h : ∀ a b, a < 6 → b < 6 → c1 a b = c2 a b) : clq c1 k = clq c2 k := by
 unfold clq clqs
 congr 1
 funext L S
 rw [isCl_congr hk h]
theorem dg_cnt {cl : List Nat} (hc : cl.sum ≤ 64) {n : Nat} (hn : n ≤ 60) : Dg (cnt cl n).natAbs :=
 ⟨60, by decide, Nat.lt_of_le_of_lt (cnt_bound hc n) (Nat.lt_of_le_of_lt (Nat.pow_le_pow_right (by decide) hn) (by decide))⟩
set_option maxHeartbeats 8000000 in
theorem Cliques_spec {G lo hi n c : Nat} {k : Int} {A : Option Addr} {ps : List (Int × Int)} {h : H} (hG : G ≤ h.next) (hv : SlV h.blks lo hi 2 n (prs ps) (.slice A n c)) (hhi : hi ≤ h.next) (hn : n < 1000000) :
  Spec Tryz.prog (En G) 34 [.int .i64 k, .slice A n c] h fun v h' => (okT k ps = false ∧ v = .tuple #[.slice none 0 0, .int .i64 1]) ∨
   (okT k ps = true ∧ ∃ (Ac : Option Addr), v = .tuple #[.slice Ac (clq (pc ps) k.toNat).length (clq (pc ps) k.toNat).length, .int .i64 0] ∧ SlV h'.blks h.next h'.next 1 (clq (pc ps) k.toNat).length (nats (clq (pc ps) k.toNat)) (.slice Ac (clq (pc ps) k.toNat).length (clq (pc ps) k.toNat).length)) := by
 refine CallsE_enter (En_known (by decide)) (En_f.trans Tryz.func34) rfl ⟨Nat.le_of_ble_eq_true rfl, by decide⟩ fun Q' hQ' => ?_
 simp (disch := omega) only [Tryz.f34, go_sem,reduceIte,nqD,nqL]
 refine CallO_f (newThreads_spec (k := k) hG hv hhi hn) (by omega) fun u h1 pr1 hu => ?_
 have n1 := pr1.next
 rcases hu with ⟨hno, rfl⟩ | ⟨hyes, m, hm, hmc, rfl⟩
 ·have d1 : decide ((1 : Int) ≠ 0) = true := rfl
  try simp (disch := omega) only [go_sem,reduceIte,nqD,nqL, d1]
  refine At_alloc i95 zero74 rfl (by omega) fun h4 hn4 => ?_
  have n4 := hn4.next
  have v10 : Var h4.blks h1.next (thrL 0 nilM) := hn4.var
  try simp (disch := omega) only [go_sem,reduceIte,nqD,nqL, d1]
  refine At_storeV (inf := inf95) (v := thrV 0 nilM) i95 (by simp only [go_sem,reduceIte,nqD,nqL]) (by simp only [go_sem,reduceIte,nqD,nqL]) v10 (by rw [size95]; rfl) (by rw [size95]; rfl) rfl (by show G ≤ h1.next; omega) fun h5 hs5 v10 => ?_
  try simp (disch := omega) only [go_sem,reduceIte,nqD,nqL, d1]
  exact hQ' _ _ ⟨pr1.trans ((hn4.pres (by omega)).trans (hs5.pres (by omega))), .inl ⟨hno, rfl⟩⟩
 ·obtain ⟨k1, k6, _, _⟩ := okT_okP hyes
  have d1 : decide ((0 : Int) ≠ 0) = false := rfl
  obtain ⟨kn, rfl⟩ := Int.eq_ofNat_of_zero_le (show 0 ≤ k by omega)
  try simp (disch := omega) only [go_sem,reduceIte,nqD,nqL, d1]
  refine At_alloc i95 zero74 rfl (by omega) fun h4 hn4 => ?_
  have n4 := hn4.next
  have v10 : Var h4.blks h1.next (thrL 0 nilM) := hn4.var
  try simp (disch := omega) only [go_sem,reduceIte,nqD,nqL, d1]
  refine At_storeV (inf := inf95) (v := thrV kn m) i95 (by simp only [go_sem,reduceIte,nqD,nqL]) (by simp only [go_sem,reduceIte,nqD,nqL]) v10 (by rw [size95, ← Array.length_toList, thrV_cells, thrL_len, hm]) (by rw [size95]; rfl) (by rw [thrV_cells]; simp [thrL, oneB]) (by show G ≤ h1.next; omega) fun h5 hs5 v10 => ?_
  have n5 := hs5.next
  replace v10 : Var h5.blks h1.next (thrL kn m) := v10
  have l5 : loadO (En G) 95 h5.blks (some (.pointer (some ⟨h1.next, 0, none⟩))) = some (thrV kn m) := thr_loadA v10 hm
  try simp (disch := omega) only [go_sem,reduceIte,nqD,nqL, d1, l5]
  refine CallO_f (cliques_spec (by omega) (by omega) hm) (by omega) fun u h6 pr6 hu => ?_
  have n6 := pr6.next
  obtain ⟨Ac, rfl, hcs⟩ := hu
  rw [clq_congr (k := kn) (by omega) hmc] at hcs ⊢
  try simp (disch := omega) only [go_sem,reduceIte,nqD,nqL]
  refine hQ' _ _ ⟨(pr1.trans ((hn4.pres (by omega)).trans (hs5.pres (by omega)))).trans (pr6.le (by omega)), .inr ⟨hyes, Ac, rfl, ?_⟩⟩
  exact hcs.wide (by omega) nlr
set_option maxHeartbeats 8000000 in
theorem Count_spec {G lo hi n c : Nat} {k z : Int} {A : Option Addr} {ps : List (Int × Int)} {h : H} (hG : G ≤ h.next) (hG4 : 4 ≤ G) (ht : TabsIn tabs h.blks) (hv : SlV h.blks lo hi 2 n (prs ps) (.slice A n c)) (hhi : hi ≤ h.next) (hn : n < 1000000) :
  Spec Tryz.prog (En G) 33 [.int .i64 k, .slice A n c, .int .i64 z] h fun v h' => ((okT k ps = false ∨ z < 0 ∨ 60 < z) ∧ v = .tuple #[strV [], .int .i64 1]) ∨
   (okT k ps = true ∧ 0 ≤ z ∧ z ≤ 60 ∧ v = .tuple #[strV (decZ (cnt (clq (pc ps) k.toNat) z.toNat)), .int .i64 0]) := by
 refine CallsE_enter (En_known (by decide)) (En_f.trans Tryz.func33) rfl ⟨Nat.le_of_ble_eq_true rfl, by decide⟩ fun Q' hQ' => ?_
 simp (disch := omega) only [Tryz.f33, go_sem,reduceIte,nqD,nqL]
 refine CallO_f (newThreads_spec (k := k) hG hv hhi hn) (by omega) fun u h1 pr1 hu => ?_
 have n1 := pr1.next
 rcases hu with ⟨hno, rfl⟩ | ⟨hyes, m, hm, hmc, rfl⟩
 ·have d1 : decide ((1 : Int) ≠ 0) = true := rfl
  try simp (disch := omega) only [go_sem,reduceIte,nqD,nqL, d1]
  refine At_alloc i95 zero74 rfl (by omega) fun h4 hn4 => ?_
  have n4 := hn4.next
  have v10 : Var h4.blks h1.next (thrL 0 nilM) := hn4.var
  try simp (disch := omega) only [go_sem,reduceIte,nqD,nqL, d1]
  refine At_storeV (inf := inf95) (v := thrV 0 nilM) i95 (by simp only [go_sem,reduceIte,nqD,nqL]) (by simp only [go_sem,reduceIte,nqD,nqL]) v10 (by rw [size95]; rfl) (by rw [size95]; rfl) rfl (by show G ≤ h1.next; omega) fun h5 hs5 v10 => ?_
  try simp (disch := omega) only [go_sem,reduceIte,nqD,nqL, d1]
  exact hQ' _ _ ⟨pr1.trans ((hn4.pres (by omega)).trans (hs5.pres (by omega))), .inl ⟨.inl hno, rfl⟩⟩
 ·obtain ⟨k1, k6, _, _⟩ := okT_okP hyes
  have d1 : decide ((0 : Int) ≠ 0) = false := rfl
  obtain ⟨kn, rfl⟩ := Int.eq_ofNat_of_zero_le (show 0 ≤ k by omega)
  try simp (disch := omega) only [go_sem,reduceIte,nqD,nqL, d1]
  refine At_alloc i95 zero74 rfl (by omega) fun h4 hn4 => ?_
  have n4 := hn4.next
  have v10 : Var h4.blks h1.next (thrL 0 nilM) := hn4.var
  try simp (disch := omega) only [go_sem,reduceIte,nqD,nqL, d1]
  refine At_storeV (inf := inf95) (v := thrV kn m) i95 (by simp only [go_sem,reduceIte,nqD,nqL]) (by simp only [go_sem,reduceIte,nqD,nqL]) v10 (by rw [size95, ← Array.length_toList, thrV_cells, thrL_len, hm]) (by rw [size95]; rfl) (by rw [thrV_cells]; simp [thrL, oneB]) (by show G ≤ h1.next; omega) fun h5 hs5 v10 => ?_
  have n5 := hs5.next
  replace v10 : Var h5.blks h1.next (thrL kn m) := v10
  have l5 : loadO (En G) 95 h5.blks (some (.pointer (some ⟨h1.next, 0, none⟩))) = some (thrV kn m) := thr_loadA v10 hm
  have pr5 : Pres h.next h h5 := pr1.trans ((hn4.pres (by omega)).trans (hs5.pres (by omega)))
  by_cases hz : 0 ≤ z ∧ z ≤ 60
  ·obtain ⟨z1, z2⟩ := hz
   obtain ⟨zn, rfl⟩ := Int.eq_ofNat_of_zero_le z1
   have d2 : decide ((zn : Int) < 0) = false := decide_eq_false (by omega)
   have d3 : decide ((zn : Int) > 60) = false := decide_eq_false (by omega)
   try simp (disch := omega) only [go_sem,reduceIte,nqD,nqL, d1, d2, d3, l5]
   refine CallO_f (seams_spec (n := zn) (by omega) (by omega) (by omega) hm (by omega)) (by omega) fun u h6 pr6 hu => ?_
   have n6 := pr6.next
   rw [clq_congr (k := kn) (by omega) hmc] at hu
   have pr56 := pr5.trans (pr6.le (m' := h.next) (by omega))
   try simp (disch := omega) only [go_sem,reduceIte,nqD,nqL]
   refine CallO_f (num_spec (N := h6.next) (by omega) hG4 nlr (ht.pres pr56 fun x hx => by have := tabs_lt x hx; omega) hu (dg_cnt (clq_sum (by omega)) (by omega))) (by omega) fun u h7 pr7 hu => ?_
   have n7 := pr7.next
   subst hu
   try simp (disch := omega) only [go_sem,reduceIte,nqD,nqL]
   exact hQ' _ _ ⟨pr56.trans (pr7.le (by omega)), .inr ⟨hyes, by omega, by omega, rfl⟩⟩
  ·by_cases hz0 : z < 0
   ·have d2 : decide (z < 0) = true := decide_eq_true hz0
    try simp (disch := omega) only [go_sem,reduceIte,nqD,nqL, d1, d2]
    exact hQ' _ _ ⟨pr5, .inl ⟨.inr (.inl hz0), rfl⟩⟩
   ·have d2 : decide (z < 0) = false := decide_eq_false hz0
    have d3 : decide (z > 60) = true := decide_eq_true (by omega)
    try simp (disch := omega) only [go_sem,reduceIte,nqD,nqL, d1, d2, d3]
    exact hQ' _ _ ⟨pr5, .inl ⟨.inr (.inr (by omega)), rfl⟩⟩
end
end Go.Proofs.YthankillfhmfkaaGreatDoor.Ev
