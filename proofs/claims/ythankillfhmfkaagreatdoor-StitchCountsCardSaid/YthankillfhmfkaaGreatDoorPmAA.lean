/- front; the reference's Free and First. -/
import Derived.Test.YthankillfhmfkaaGreatDoorPmsS1
import Derived.Test.YthankillfhmfkaaGreatDoorPmT1
set_option linter.unusedSimpArgs false
set_option linter.unusedVariables false
namespace Go.Proofs.YthankillfhmfkaaGreatDoor.Ev
open Go Go.Proofs
open Nat renaming reduceEqDiff → nqD, reduceLT → nqL
noncomputable section
def prs (ps : List (Int × Int)) : List Value := ps.flatMap fun p => [.int .i64 p.1, .int .i64 p.2]
theorem prs_len {ps : List (Int × Int)} : (prs ps).length = ps.length * 2 := by
 induction ps with
 | nil => rfl
 | cons p ps ih => simp only [prs, List.flatMap_cons, List.length_append, List.length_cons, List.length_nil] at ih ⊢; omega
theorem prs_get : ∀ {ps : List (Int × Int)} {i : Nat} {p : Int × Int}, ps[i]? = some p → (prs ps)[i * 2]? = some (.int .i64 p.1) ∧ (prs ps)[i * 2 + 1]? = some (.int .i64 p.2)
 | q :: ps, 0, p, h => by simp at h; subst h; simp [prs]
 | q :: ps, i + 1, p, h => by
  have h' : ps[i]? = some p := by simpa using h
  have := prs_get h'
  rw [show (i + 1) * 2 = i * 2 + 1 + 1 by omega]
  simpa [prs] using this
def pc (ps : List (Int × Int)) (a b : Nat) : Bool := ps.any fun p => decide (p.1 = a ∧ p.2 = b ∨ p.1 = b ∧ p.2 = a)
theorem pc_cons {p : Int × Int} {ps : List (Int × Int)} {a b : Nat} : pc (p :: ps) a b = (decide (p.1 = a ∧ p.2 = b ∨ p.1 = b ∧ p.2 = a) || pc ps a b) := by simp only [pc, List.any_cons]
def OkP (k : Nat) (ps : List (Int × Int)) : Prop := ∀ p ∈ ps, 0 ≤ p.1 ∧ p.1 < k ∧ 0 ≤ p.2 ∧ p.2 < k ∧ p.1 ≠ p.2
theorem conv3_5 {P : Program} {G : Nat} {B : Tr Blk} {z : Int} (h0 : 0 ≤ z) (h1 : z ≤ 255) : convO P (En G) B 3 5 (some (.int .i64 z)) = some (.int .u8 z) := by
 rw [convO_int u3 u5, wrap_u8' h0 h1]
set_option maxHeartbeats 4000000 in
theorem free_spec {G lo hi n c k : Nat} {A : Option Addr} {ps : List (Int × Int)} {x y : UInt8} {h : H} (hv : SlV h.blks lo hi 2 n (prs ps) (.slice A n c)) (hn : n < 2147483648) (hk : k ≤ 6) (hps : OkP k ps) (hx : 97 ≤ x.toNat) (hy : 97 ≤ y.toNat) :
  Spec Tryz.prog (En G) 52 [.slice A n c, .int .u8 x.toNat, .int .u8 y.toNat] h fun v h' => v = .bool (pc ps (lt x) (lt y)) ∧ h' = h := by
 have hl : ps.length = n := by have := hv.len; rw [prs_len] at this; omega
 refine CallsE_enter (En_known (by decide)) (En_f.trans Tryz.func52) rfl ⟨Nat.le_of_ble_eq_true rfl, by decide⟩ fun Q' hQ' => ?_
 simp only [Tryz.f52, go_sem,reduceIte,nqD,nqL]
 refine WK_loopN (fun j α h1 => ∃ i : Nat, i + j = n ∧ h1 = h ∧ pc ps (lt x) (lt y) = pc (ps.drop i) (lt x) (lt y) ∧ α.get 0 = some (.slice A n c) ∧ α.get 1 = some (.int .u8 x.toNat) ∧ α.get 2 = some (.int .u8 y.toNat) ∧ α.get 7 = some (.int .i64 i)) n
  ⟨0, by omega, rfl, rfl, by simp only [go_sem,reduceIte,nqD,nqL], by simp only [go_sem,reduceIte,nqD,nqL], by simp only [go_sem,reduceIte,nqD,nqL], by simp only [go_sem,reduceIte,nqD,nqL]; rfl⟩ (by omega) ?_
 rintro J j α h1 ⟨i, hij, rfl, hp, e0, e1, e2, e7⟩ hJ
 by_cases hlt : (i : Int) < n
 ·obtain ⟨p, hpi⟩ : ∃ p, ps[i]? = some p := ⟨ps[i]'(by omega), List.getElem?_eq_getElem (by omega)⟩
  have hpb := hps p (List.mem_of_getElem? hpi)
  obtain ⟨b, off, rfl, _, _, hld⟩ := hv.at_ (by omega)
  obtain ⟨g1, g2⟩ := prs_get hpi
  have l1 := hld (i * 2) (by omega)
  have l2 := hld (i * 2 + 1) (by omega)
  rw [g1] at l1
  rw [g2, ← Nat.add_assoc] at l2
  obtain ⟨gi, hpe⟩ := List.getElem?_eq_some_iff.1 hpi
  rw [List.drop_eq_getElem_cons gi, hpe, pc_cons] at hp
  simp (disch := omega) only [go_sem,reduceIte,nqD,nqL, e0, e1, e2, e7, len22, hlt]
  refine WK_regionT 15 ⟨by kernel_rfl, by kernel_rfl, by kernel_rfl⟩ ?_
  simp (disch := omega) only [go_sem,reduceIte,nqD,nqL, e0, e1, e2, e7, idxA22, load3, fld104_0, fld104_1, Int.toNat_natCast, Nat.add_zero, l1, l2, wrap_i64, conv3_5]
  have q1 : (p.1 = (lt x : Nat)) ↔ 97 + p.1 = (x.toNat : Int) := by unfold lt; omega
  have q2 : (p.2 = (lt y : Nat)) ↔ 97 + p.2 = (y.toNat : Int) := by unfold lt; omega
  have q3 : (p.1 = (lt y : Nat)) ↔ 97 + p.1 = (y.toNat : Int) := by unfold lt; omega
  have q4 : (p.2 = (lt x : Nat)) ↔ 97 + p.2 = (x.toNat : Int) := by unfold lt; omega
  simp only [q1, q2, q3, q4] at hp
  have hgo : decide (97 + p.1 = (x.toNat : Int) ∧ 97 + p.2 = (y.toNat : Int) ∨ 97 + p.1 = (y.toNat : Int) ∧ 97 + p.2 = (x.toNat : Int)) = (decide (97 + p.1 = (x.toNat : Int)) && decide (97 + p.2 = (y.toNat : Int)) || decide (97 + p.1 = (y.toNat : Int)) && decide (97 + p.2 = (x.toNat : Int))) := by simp
  rw [hgo] at hp
  cases d1 : decide (97 + p.1 = (x.toNat : Int)) <;> cases d2 : decide (97 + p.2 = (y.toNat : Int)) <;> cases d3 : decide (97 + p.1 = (y.toNat : Int)) <;> cases d4 : decide (97 + p.2 = (x.toNat : Int)) <;>
   simp only [d1, d2, d3, d4, Bool.and_true, Bool.and_false, Bool.true_and, Bool.false_and, Bool.or_false, Bool.or_true, Bool.false_or, Bool.true_or] at hp <;> simp (maxSteps := 2000000) (disch := omega) only [go_sem,reduceIte,nqD,nqL, d1, d2, d3, d4, e0, e1, e2, e7, wrap_i64]
  all_goals first
   | exact hQ' _ _ ⟨Pres.refl _ _, by rw [hp], rfl⟩
   | exact hJ (j - 1) _ _ (by omega) ⟨i + 1, by omega, rfl, hp, by simp only [go_sem,reduceIte,nqD,nqL, e0], by simp only [go_sem,reduceIte,nqD,nqL, e1], by simp only [go_sem,reduceIte,nqD,nqL, e2], by simp only [go_sem,reduceIte,nqD,nqL]; rfl⟩
 ·have hin : i = n := by omega
  have hdr : ps.drop i = [] := List.drop_of_length_le (by omega)
  rw [hdr] at hp
  simp (disch := omega) only [go_sem,reduceIte,nqD,nqL, e0, e1, e2, e7, len22, hlt]
  exact hQ' _ _ ⟨Pres.refl _ _, by rw [hp]; rfl, rfl⟩
end
end Go.Proofs.YthankillfhmfkaaGreatDoor.Ev
namespace Go.Proofs.YthankillfhmfkaaGreatDoor.Ev
open Go Go.Proofs
open Nat renaming reduceEqDiff → nqD, reduceLT → nqL
noncomputable section
theorem SlV.blk {B : Tr Blk} {lo hi sz n : Nat} {L : List Value} {v : Value} (s : SlV B lo hi sz n L v) (b : Nat) (hb : blkOf v = some b) : lo ≤ b := by
 cases s with
 | nil _ _ => cases hb
 | emp _ _ => cases hb
 | mk _ hlo _ _ _ _ => simp only [blkOf, Option.some.injEq] at hb; omega
theorem thr_loadA {G b : Nat} {k : Int} {m : List Bool} {B : Tr Blk} (v : Var B b (thrL k m)) (hm : m.length = 36) : loadO (En G) 95 B (some (.pointer (some ⟨b, 0, none⟩))) = some (thrV k m) :=
 v.loadA agg95 i95 (by rw [thrL_len, hm, size95])
end
end Go.Proofs.YthankillfhmfkaaGreatDoor.Ev
namespace Go.Proofs.YthankillfhmfkaaGreatDoor.Ev
open Go Go.Proofs
open Nat renaming reduceEqDiff → nqD, reduceLT → nqL
noncomputable section
def okPair (k : Int) (p : Int × Int) : Bool := decide (0 ≤ p.1 ∧ p.1 < k ∧ 0 ≤ p.2 ∧ p.2 < k ∧ p.1 ≠ p.2)
def okT (k : Int) (ps : List (Int × Int)) : Bool := decide (1 ≤ k ∧ k ≤ 6 ∧ ps.length ≤ 30) && ps.all (okPair k)
def nilM : List Bool := List.replicate 36 false
theorem okT_iff {k : Int} {ps : List (Int × Int)} : okT k ps = true ↔ (1 ≤ k ∧ k ≤ 6 ∧ ps.length ≤ 30) ∧ ∀ p ∈ ps, okPair k p = true := by
 simp [okT]
theorem okT_okP {k : Int} {ps : List (Int × Int)} (h : okT k ps = true) : 1 ≤ k ∧ k ≤ 6 ∧ ps.length ≤ 30 ∧ OkP k.toNat ps := by
 obtain ⟨⟨h1, h2, h3⟩, h4⟩ := okT_iff.1 h
 refine ⟨h1, h2, h3, fun p hp => ?_⟩
 have := h4 p hp
 simp only [okPair, decide_eq_true_eq] at this
 omega
theorem zero74 : inf95.zero = some (thrV 0 nilM) := by kernel_rfl
theorem build74 {G : Nat} : buildO (En G) 95 (some []) = some (thrV 0 nilM) := by
 simp only [buildO, evBuild, i95, us95, Tryz.underlying95, zero74, places, i3, size3, i93, size93]
 rfl
theorem build74k {G : Nat} {k : Int} : buildO (En G) 95 (some [(0, .int .i64 k)]) = some (thrV k nilM) := by
 simp only [buildO, evBuild, i95, us95, Tryz.underlying95, zero74, places, i3, size3, i93, size93]
 rfl
theorem has_spec {G : Nat} {k z : Int} {m : List Bool} {h : H} : Spec Tryz.prog (En G) 87 [thrV k m, .int .i64 z] h fun v _ => v = .bool (decide (0 ≤ z ∧ z < k)) := by
 refine CallsE_enter (En_known (by decide)) (En_f.trans Tryz.func87) rfl ⟨Nat.le_of_ble_eq_true rfl, by decide⟩ fun Q' hQ' => ?_
 simp only [Tryz.f87, go_sem,reduceIte,nqD,nqL]
 refine At_box (v := thrV k m) (by simp only [go_sem,reduceIte,nqD,nqL]) (by omega) fun h1 hn1 => ?_
 have v2 : Var h1.blks h.next (thrL k m) := hn1.var
 have lk := thr_count v2
 by_cases h0 : 0 ≤ z
 ·simp only [go_sem,reduceIte,nqD,nqL, load3, lk, fld95_0, Nat.add_zero, h0]
  exact hQ' _ _ ⟨hn1.pres nlr, by simp [h0]⟩
 ·simp only [go_sem,reduceIte,nqD,nqL, load3, lk, fld95_0, Nat.add_zero, h0]
  exact hQ' _ _ ⟨hn1.pres nlr, by simp [h0]⟩
theorem in_spec {G : Nat} {v lo hi : Int} {h : H} : Spec Tryz.prog (En G) 73 [.int .i64 v, .int .i64 lo, .int .i64 hi] h fun r h' => r = .bool (decide (lo ≤ v ∧ v ≤ hi)) ∧ h' = h := by
 refine CallsE_enter (En_known (by decide)) (En_f.trans Tryz.func73) rfl ⟨Nat.le_of_ble_eq_true rfl, by decide⟩ fun Q' hQ' => ?_
 by_cases h0 : lo ≤ v
 ·simp only [Tryz.f73, go_sem,reduceIte,nqD,nqL, h0]
  exact hQ' _ _ ⟨Pres.refl _ _, by simp [h0], rfl⟩
 ·simp only [Tryz.f73, go_sem,reduceIte,nqD,nqL, h0]
  exact hQ' _ _ ⟨Pres.refl _ _, by simp [h0], rfl⟩
theorem thrL_set {k : Int} {m : List Bool} {j : Nat} (hj : j < m.length) : (thrL k m).take (1 + j) ++ [Value.bool true] ++ (thrL k m).drop (1 + j + 1) = thrL k (m.set j true) := by
 simp only [thrL, show 1 + j = j + 1 by omega, show j + 1 + 1 = (j + 1) + 1 from rfl, List.take_succ_cons, List.drop_succ_cons, ← List.map_take, ← List.map_drop, List.set_eq_take_append_cons_drop, if_pos hj]
 simp
theorem mcomm_set {m : List Bool} {x y a b : Nat} (hm : m.length = 36) (hx : x < 6) (hy : y < 6) (ha : a < 6) (hb : b < 6) : mcomm (m.set (x * 6 + y) true) a b = (decide (a = x ∧ b = y) || mcomm m a b) := by
 unfold mcomm
 by_cases h : a = x ∧ b = y
 ·obtain ⟨rfl, rfl⟩ := h
  simp [List.getD, List.getElem?_set, show a * 6 + b < m.length by omega]
 ·have : ¬ x * 6 + y = a * 6 + b := by omega
  simp [List.getD, List.getElem?_set, this, h]
set_option maxHeartbeats 8000000 in
theorem newThreads_spec {G lo hi n c : Nat} {k : Int} {A : Option Addr} {ps : List (Int × Int)} {h : H} (hG : G ≤ h.next) (hv : SlV h.blks lo hi 2 n (prs ps) (.slice A n c)) (hhi : hi ≤ h.next) (hn : n < 1000000) :
  Spec Tryz.prog (En G) 69 [.int .i64 k, .slice A n c] h fun v _ => (okT k ps = false ∧ v = .tuple #[thrV 0 nilM, .int .i64 1]) ∨
   (okT k ps = true ∧ ∃ m, m.length = 36 ∧ (∀ a b, a < 6 → b < 6 → mcomm m a b = pc ps a b) ∧ v = .tuple #[thrV k m, .int .i64 0]) := by
 have hl : ps.length = n := by have := hv.len; rw [prs_len] at this; omega
 refine CallsE_enter (En_known (by decide)) (En_f.trans Tryz.func69) rfl ⟨Nat.le_of_ble_eq_true rfl, by decide⟩ fun Q' hQ' => ?_
 simp only [Tryz.f69, go_sem,reduceIte,nqD,nqL]
 refine At_alloc i95 zero74 rfl (by omega) fun h1 hn1 => ?_
 have n1 := hn1.next
 have v4 : Var h1.blks h.next (thrL 0 nilM) := hn1.var
 have pr1 : Pres h.next h h1 := hn1.pres nlr
 have hbad : ∀ {α : Tr Value} {n : Nat} {ops : List Oper} {hh : H} {L : List Value}, True := fun {_ _ _ _ _} => trivial
 have hres : ∀ {h5 : H} {k' : Int} {m' : List Bool}, m'.length = 36 → Var h5.blks h.next (thrL k' m') → evLoad (En G) h5 95 (.pointer (some ⟨h.next, 0, none⟩)) = some (thrV k' m') := fun hm hv => by
  rw [evLoad_loadO]; exact thr_loadA hv hm
 by_cases hk : (1 ≤ k ∧ k ≤ 6) ∧ n ≤ 30
 ·obtain ⟨⟨hk1, hk6⟩, hn30⟩ := hk
  have d1 : decide (k < 1) = false := decide_eq_false (by omega)
  have d2 : decide (6 < k) = false := decide_eq_false (by omega)
  have d3 : decide (30 < (n : Int)) = false := decide_eq_false (by omega)
  simp only [go_sem,reduceIte,nqD,nqL, len22, d1, d2, d3, build74k]
  refine At_alloc i95 zero74 rfl (by omega) fun h2 hn2 => ?_
  have n2 := hn2.next
  have v6 : Var h2.blks h1.next (thrL 0 nilM) := hn2.var
  replace v4 := v4.mono (B' := h2.blks) (by rw [hn2.get, if_neg (by omega)])
  try simp only [go_sem,reduceIte,nqD,nqL]
  refine At_storeV (inf := inf95) (v := thrV k nilM) i95 (by simp only [go_sem,reduceIte,nqD,nqL]) (by simp only [go_sem,reduceIte,nqD,nqL]) v6 (by rw [size95]; rfl) (by rw [size95]; rfl) rfl (by show G ≤ h1.next; omega) fun h3 hs3 v6 => ?_
  replace v4 := v4.mono (B' := h3.blks) (hs3.get _ (by omega))
  have n3 := hs3.next
  have pr3 : Pres h.next h h3 := pr1.trans ((hn2.pres (by omega)).trans (hs3.pres (by omega)))
  simp only [go_sem,reduceIte,nqD,nqL, len22]
  refine WK_loopN (fun j α h4 => ∃ (i : Nat) (m : List Bool), i + j = n ∧ m.length = 36 ∧ (∀ a b, a < 6 → b < 6 → mcomm m a b = pc (ps.take i) a b) ∧ (∀ p ∈ ps.take i, okPair k p = true) ∧ α.get 4 = some (.pointer (some ⟨h.next, 0, none⟩)) ∧ α.get 6 = some (.pointer (some ⟨h1.next, 0, none⟩)) ∧
    α.get 23 = some (.slice A n c) ∧ α.get 24 = some (.int .i64 n) ∧ α.get 25 = some (.int .i64 i) ∧ Var h4.blks h.next (thrL 0 nilM) ∧ Var h4.blks h1.next (thrL k m) ∧ Pres h.next h h4 ∧ h1.next < h4.next) n
   ⟨0, nilM, by omega, rfl, fun a b ha hb => ?_, fun p hp => (by simp at hp), by simp only [go_sem,reduceIte,nqD,nqL], by simp only [go_sem,reduceIte,nqD,nqL], by simp only [go_sem,reduceIte,nqD,nqL], by simp only [go_sem,reduceIte,nqD,nqL], by simp only [go_sem,reduceIte,nqD,nqL]; rfl, v4, v6, pr3, by omega⟩ (by omega) ?_
  ·simp only [List.take_zero, pc, List.any_nil, mcomm, nilM, List.getD, List.getElem?_replicate]
   split <;> rfl
  rintro J j α h4 ⟨i, m, hij, hm, hmc, hall, e4, e6, e23, e24, e25, v4, v6, pr, hnx⟩ hJ
  by_cases hlt : (i : Int) < n
  ·obtain ⟨p, hpi⟩ : ∃ p, ps[i]? = some p := ⟨ps[i]'(by omega), List.getElem?_eq_getElem (by omega)⟩
   have hv4 : SlV h4.blks lo hi 2 n (prs ps) (.slice A n c) := hv.mono fun b _ hb => pr.get b (by omega)
   obtain ⟨b, off, rfl, _, _, hld⟩ := hv4.at_ (by omega)
   obtain ⟨g1, g2⟩ := prs_get hpi
   have lp : loadO (En G) 104 h4.blks (some (.pointer (some ⟨b, off + i * 2, none⟩))) = some (.agg #[.int .i64 p.1, .int .i64 p.2]) := by
    cases hv4 with
    | mk hb hlo hhi2 hsz hL hc =>
     refine loadO_agg (L := [.int .i64 p.1, .int .i64 p.2]) agg104 i104 hb (by rw [size104]; omega) (by rw [size104]; rfl) fun q hq => ?_
     rw [size104] at hq
     rw [Nat.add_assoc, hc _ (by omega)]
     match q, hq with
     | 0, _ => exact g1
     | 1, _ => exact g2
   have htk : ps.take (i + 1) = ps.take i ++ [p] := by
    obtain ⟨g, ge⟩ := List.getElem?_eq_some_iff.1 hpi
    rw [List.take_add_one, hpi]; rfl
   simp (disch := omega) only [go_sem,reduceIte,nqD,nqL, e4, e6, e23, e24, e25, hlt, idxA22, Int.toNat_natCast, lp]
   refine At_alloc i104 (by kernel_rfl : inf104.zero = some (.agg #[.int .i64 0, .int .i64 0])) rfl (by omega) fun h5 hn5 => ?_
   have n5 := hn5.next
   have v8 : Var h5.blks h4.next [.int .i64 0, .int .i64 0] := hn5.var
   replace v4 := v4.mono (B' := h5.blks) (by rw [hn5.get, if_neg (by have := pr.next; omega)])
   replace v6 := v6.mono (B' := h5.blks) (by rw [hn5.get, if_neg (by omega)])
   try simp only [go_sem,reduceIte,nqD,nqL]
   have p0 := pr.next
   refine At_storeV (inf := inf104) (v := .agg #[.int .i64 p.1, .int .i64 p.2]) i104 (by simp only [go_sem,reduceIte,nqD,nqL]) (by simp only [go_sem,reduceIte,nqD,nqL]) v8 (by rw [size104]; rfl) (by rw [size104]; rfl) rfl (by show G ≤ h4.next; omega) fun h6 hs6 v8 => ?_
   replace v4 := v4.mono (B' := h6.blks) (hs6.get _ (by omega))
   replace v6 := v6.mono (B' := h6.blks) (hs6.get _ (by omega))
   have n6 := hs6.next
   have pr6 : Pres h.next h h6 := pr.trans ((hn5.pres (by omega)).trans (hs6.pres (by omega)))
   have l80 : loadv h6.blks h4.next 0 = some (.int .i64 p.1) := by rw [v8.load (show 0 < 2 by omega)]; rfl
   have l81 : loadv h6.blks h4.next 1 = some (.int .i64 p.2) := by rw [v8.load (show 1 < 2 by omega)]; rfl
   have la := thr_loadA (G := G) v6 hm
   have hno : okPair k p = false → okT k ps = false := fun e => by
    rw [Bool.eq_false_iff]
    intro ht
    have := (okT_iff.1 ht).2 p (List.mem_of_getElem? hpi)
    rw [e] at this; cases this
   simp (disch := omega) only [go_sem,reduceIte,nqD,nqL, e6, la, fld104_0, load3, l80, Nat.add_zero]
   refine CallO_f has_spec (by omega) fun u h7 hp7 hu => ?_
   subst hu
   have n7 := hp7.next
   have pr7 : Pres h.next h h7 := pr6.trans (hp7.le (by omega))
   have v47 := v4.mono (B' := h7.blks) (hp7.get _ (by omega))
   have v67 := v6.mono (B' := h7.blks) (hp7.get _ (by omega))
   have v87 := v8.mono (B' := h7.blks) (hp7.get _ (by omega))
   have l80' : loadv h7.blks h4.next 0 = some (.int .i64 p.1) := by rw [v87.load (show 0 < 2 by omega)]; rfl
   have l81' : loadv h7.blks h4.next 1 = some (.int .i64 p.2) := by rw [v87.load (show 1 < 2 by omega)]; rfl
   have la7 := thr_loadA (G := G) v67 hm
   by_cases hA : 0 ≤ p.1 ∧ p.1 < k
   ·have dA : decide (0 ≤ p.1 ∧ p.1 < k) = true := decide_eq_true hA
    simp (disch := omega) only [go_sem,reduceIte,nqD,nqL, dA, e6, la7, fld104_1, load3, l81', Nat.add_zero]
    refine CallO_f has_spec (by omega) fun u h8 hp8 hu => ?_
    subst hu
    have n8 := hp8.next
    have pr8 : Pres h.next h h8 := pr7.trans (hp8.le (by omega))
    have v48 := v47.mono (B' := h8.blks) (hp8.get _ (by omega))
    have v68 := v67.mono (B' := h8.blks) (hp8.get _ (by omega))
    have v88 := v87.mono (B' := h8.blks) (hp8.get _ (by omega))
    have l80'' : loadv h8.blks h4.next 0 = some (.int .i64 p.1) := by rw [v88.load (show 0 < 2 by omega)]; rfl
    have l81'' : loadv h8.blks h4.next 1 = some (.int .i64 p.2) := by rw [v88.load (show 1 < 2 by omega)]; rfl
    by_cases hB : (0 ≤ p.2 ∧ p.2 < k) ∧ p.1 ≠ p.2
    ·obtain ⟨hB, hne⟩ := hB
     have dB : decide (0 ≤ p.2 ∧ p.2 < k) = true := decide_eq_true hB
     have dn : decide (p.1 = p.2) = false := decide_eq_false hne
     obtain ⟨x, hx⟩ := Int.eq_ofNat_of_zero_le hA.1
     obtain ⟨y, hy⟩ := Int.eq_ofNat_of_zero_le hB.1
     have hx6 : x < 6 := by omega
     have hy6 : y < 6 := by omega
     simp (disch := omega) only [go_sem,reduceIte,nqD,nqL, dB, dn, fld104_0, fld104_1, load3, l80'', l81'', Nat.add_zero]
     refine WK_regionT 6 ⟨by kernel_rfl, by kernel_rfl, by kernel_rfl⟩ ?_
     rw [hx] at l80''
     rw [hy] at l81''
     simp (disch := omega) only [go_sem,reduceIte,nqD,nqL, e6, fld104_0, fld104_1, fld95_1, load3, l80'', l81'', Nat.add_zero, Nat.zero_add, idxP93, idxP92, Int.toNat_natCast, Nat.mul_one]
     obtain ⟨cc, es, q1, q2⟩ := id v68
     refine At_store (inf := inf4) (b := h1.next) (off := 1 + x * 6 + y) (v := .bool true) i4 (by simp only [go_sem,reduceIte,nqD,nqL]) (by simp only [go_sem,reduceIte,nqD,nqL]) (by rw [size4]; rfl) rfl q1 (by rw [size4, thrL_len]; omega) (by show G ≤ h1.next; omega) fun h9 hs9 => ?_
     have n9 := hs9.next
     have v69 := hs9.varAt v68 (by rw [thrL_len]; show 1 + x * 6 + y + 1 ≤ _; omega)
     have e69 : (thrL k m).take (1 + x * 6 + y) ++ (Value.bool true).cells.toList ++ (thrL k m).drop (1 + x * 6 + y + (Value.bool true).cells.toList.length) = thrL k (m.set (x * 6 + y) true) := by
      rw [← thrL_set (by omega), show 1 + (x * 6 + y) = 1 + x * 6 + y by omega]; rfl
     rw [e69] at v69
     have v49 := v48.mono (B' := h9.blks) (hs9.get _ (by omega))
     have v89 := v88.mono (B' := h9.blks) (hs9.get _ (by omega))
     have l80c : loadv h9.blks h4.next 0 = some (.int .i64 x) := by rw [v89.load (show 0 < 2 by omega)]; rw [← hx]; rfl
     have l81c : loadv h9.blks h4.next 1 = some (.int .i64 y) := by rw [v89.load (show 1 < 2 by omega)]; rw [← hy]; rfl
     have pr9 : Pres h.next h h9 := pr8.trans (hs9.pres (by omega))
     try simp only [go_sem,reduceIte,nqD,nqL]
     refine WK_regionT 6 ⟨by kernel_rfl, by kernel_rfl, by kernel_rfl⟩ ?_
     simp (disch := omega) only [go_sem,reduceIte,nqD,nqL, e6, fld104_0, fld104_1, fld95_1, load3, l80c, l81c, Nat.add_zero, Nat.zero_add, idxP93, idxP92, Int.toNat_natCast, Nat.mul_one]
     have hml : (m.set (x * 6 + y) true).length = 36 := by simp [hm]
     obtain ⟨cc2, es2, q3, q4⟩ := id v69
     refine At_store (inf := inf4) (b := h1.next) (off := 1 + y * 6 + x) (v := .bool true) i4 (by simp only [go_sem,reduceIte,nqD,nqL]) (by simp only [go_sem,reduceIte,nqD,nqL]) (by rw [size4]; rfl) rfl q3 (by rw [size4, thrL_len]; omega) (by show G ≤ h1.next; omega) fun h10 hs10 => ?_
     have n10 := hs10.next
     have v610 := hs10.varAt v69 (by rw [thrL_len]; show 1 + y * 6 + x + 1 ≤ _; omega)
     have e610 : (thrL k (m.set (x * 6 + y) true)).take (1 + y * 6 + x) ++ (Value.bool true).cells.toList ++ (thrL k (m.set (x * 6 + y) true)).drop (1 + y * 6 + x + (Value.bool true).cells.toList.length) = thrL k ((m.set (x * 6 + y) true).set (y * 6 + x) true) := by
      rw [← thrL_set (k := k) (m := m.set (x * 6 + y) true) (j := y * 6 + x) (by omega), show 1 + (y * 6 + x) = 1 + y * 6 + x by omega]; rfl
     rw [e610] at v610
     have v410 := v49.mono (B' := h10.blks) (hs10.get _ (by omega))
     simp (disch := omega) only [go_sem,reduceIte,nqD,nqL, e25, wrap_i64]
     refine hJ (j - 1) _ _ (by omega) ⟨i + 1, (m.set (x * 6 + y) true).set (y * 6 + x) true, by omega, by simp [hm], fun a b' ha hb' => ?_, fun q hq => ?_, by simp only [go_sem,reduceIte,nqD,nqL, e4], by simp only [go_sem,reduceIte,nqD,nqL, e6], by simp only [go_sem,reduceIte,nqD,nqL, e23], by simp only [go_sem,reduceIte,nqD,nqL, e24], by simp only [go_sem,reduceIte,nqD,nqL]; rfl, v410, v610, pr9.trans (hs10.pres (by omega)), by omega⟩
     ·rw [mcomm_set hml hy6 hx6 ha hb', mcomm_set hm hx6 hy6 ha hb', hmc a b' ha hb', htk]
      simp only [pc, List.any_append, List.any_cons, List.any_nil, Bool.or_false, hx, hy]
      rw [Bool.eq_iff_iff]
      simp only [Bool.or_eq_true, decide_eq_true_eq]
      constructor
      ·rintro (h | h | h)
       ·right; omega
       ·right; omega
       ·left; exact h
      ·rintro (h | h)
       ·right; right; exact h
       ·omega
     ·rw [htk] at hq
      rcases List.mem_append.1 hq with hq | hq
      ·exact hall q hq
      ·rw [List.mem_singleton.1 hq]
       simp only [okPair, decide_eq_true_eq]
       omega
    ·have hbad2 : okPair k p = false := by
      simp only [okPair, decide_eq_false_iff_not]
      omega
     by_cases hB2 : 0 ≤ p.2 ∧ p.2 < k
     ·have dB : decide (0 ≤ p.2 ∧ p.2 < k) = true := decide_eq_true hB2
      have dn : decide (p.1 = p.2) = true := decide_eq_true (by omega)
      simp (disch := omega) only [go_sem,reduceIte,nqD,nqL, dB, dn, fld104_0, fld104_1, load3, l80'', l81'', Nat.add_zero, build74, e4]
      refine At_storeV (inf := inf95) (v := thrV 0 nilM) i95 (by simp only [go_sem,reduceIte,nqD,nqL, e4]) (by simp only [go_sem,reduceIte,nqD,nqL]) v48 (by rw [size95]; rfl) (by rw [size95]; rfl) rfl (by show G ≤ h.next; omega) fun h9 hs9 v49 => ?_
      simp only [go_sem,reduceIte,nqD,nqL, e4, hres rfl v49]
      exact hQ' _ _ ⟨pr8.trans (hs9.pres (by omega)), .inl ⟨hno hbad2, rfl⟩⟩
     ·have dB : decide (0 ≤ p.2 ∧ p.2 < k) = false := decide_eq_false hB2
      simp (disch := omega) only [go_sem,reduceIte,nqD,nqL, dB, build74, e4]
      refine At_storeV (inf := inf95) (v := thrV 0 nilM) i95 (by simp only [go_sem,reduceIte,nqD,nqL, e4]) (by simp only [go_sem,reduceIte,nqD,nqL]) v48 (by rw [size95]; rfl) (by rw [size95]; rfl) rfl (by show G ≤ h.next; omega) fun h9 hs9 v49 => ?_
      simp only [go_sem,reduceIte,nqD,nqL, e4, hres rfl v49]
      exact hQ' _ _ ⟨pr8.trans (hs9.pres (by omega)), .inl ⟨hno hbad2, rfl⟩⟩
   ·have hbad2 : okPair k p = false := by
     simp only [okPair, decide_eq_false_iff_not]
     omega
    have dA : decide (0 ≤ p.1 ∧ p.1 < k) = false := decide_eq_false hA
    simp (disch := omega) only [go_sem,reduceIte,nqD,nqL, dA, build74, e4]
    refine At_storeV (inf := inf95) (v := thrV 0 nilM) i95 (by simp only [go_sem,reduceIte,nqD,nqL, e4]) (by simp only [go_sem,reduceIte,nqD,nqL]) v47 (by rw [size95]; rfl) (by rw [size95]; rfl) rfl (by show G ≤ h.next; omega) fun h9 hs9 v49 => ?_
    simp only [go_sem,reduceIte,nqD,nqL, e4, hres rfl v49]
    exact hQ' _ _ ⟨pr7.trans (hs9.pres (by omega)), .inl ⟨hno hbad2, rfl⟩⟩
  ·have hin : i = n := by omega
   subst hin
   have htk : ps.take i = ps := List.take_of_length_le (by omega)
   rw [htk] at hmc hall
   have la := thr_loadA (G := G) v6 hm
   simp (disch := omega) only [go_sem,reduceIte,nqD,nqL, e4, e6, e24, e25, hlt, la]
   refine At_storeV (inf := inf95) (v := thrV k m) i95 (by simp only [go_sem,reduceIte,nqD,nqL, e4]) (by simp only [go_sem,reduceIte,nqD,nqL]) v4 (by rw [size95, ← Array.length_toList, thrV_cells, thrL_len, hm]) (by rw [size95]; rfl) ?_ (by show G ≤ h.next; omega) fun h9 hs9 v49 => ?_
   ·rw [thrV_cells]; simp [thrL, oneB]
   simp only [go_sem,reduceIte,nqD,nqL, e4, hres hm v49]
   exact hQ' _ _ ⟨pr.trans (hs9.pres (by omega)), .inr ⟨okT_iff.2 ⟨⟨hk1, hk6, by omega⟩, hall⟩, m, hm, hmc, rfl⟩⟩
 ·have hno : okT k ps = false := by
   rw [Bool.eq_false_iff]
   intro ht
   have := (okT_iff.1 ht).1
   apply hk
   omega
  have fin : ∀ {h5 : H}, Sto h1 h5 h.next 0 (thrV 0 nilM).cells.toList → Var h5.blks h.next (thrL 0 nilM) → Pres h.next h h5 := fun hs _ => pr1.trans (hs.pres (by omega))
  by_cases d1 : k < 1
  ·simp only [go_sem,reduceIte,nqD,nqL, len22, d1, build74]
   refine At_storeV (inf := inf95) (v := thrV 0 nilM) i95 (by simp only [go_sem,reduceIte,nqD,nqL]) (by simp only [go_sem,reduceIte,nqD,nqL]) v4 (by rw [size95]; rfl) (by rw [size95]; rfl) rfl (by show G ≤ h.next; omega) fun h9 hs9 v49 => ?_
   simp only [go_sem,reduceIte,nqD,nqL, hres rfl v49]
   exact hQ' _ _ ⟨fin hs9 v49, .inl ⟨hno, rfl⟩⟩
  ·by_cases d2 : 6 < k
   ·simp only [go_sem,reduceIte,nqD,nqL, len22, d1, d2, build74]
    refine At_storeV (inf := inf95) (v := thrV 0 nilM) i95 (by simp only [go_sem,reduceIte,nqD,nqL]) (by simp only [go_sem,reduceIte,nqD,nqL]) v4 (by rw [size95]; rfl) (by rw [size95]; rfl) rfl (by show G ≤ h.next; omega) fun h9 hs9 v49 => ?_
    simp only [go_sem,reduceIte,nqD,nqL, hres rfl v49]
    exact hQ' _ _ ⟨fin hs9 v49, .inl ⟨hno, rfl⟩⟩
   ·have d3 : (30 : Int) < n := by omega
    simp only [go_sem,reduceIte,nqD,nqL, len22, d1, d2, d3, build74]
    refine At_storeV (inf := inf95) (v := thrV 0 nilM) i95 (by simp only [go_sem,reduceIte,nqD,nqL]) (by simp only [go_sem,reduceIte,nqD,nqL]) v4 (by rw [size95]; rfl) (by rw [size95]; rfl) rfl (by show G ≤ h.next; omega) fun h9 hs9 v49 => ?_
    simp only [go_sem,reduceIte,nqD,nqL, hres rfl v49]
    exact hQ' _ _ ⟨fin hs9 v49, .inl ⟨hno, rfl⟩⟩
end
end Go.Proofs.YthankillfhmfkaaGreatDoor.Ev
namespace Go.Proofs.YthankillfhmfkaaGreatDoor.Ev
open Go Go.Proofs
open Nat renaming reduceEqDiff → nqD, reduceLT → nqL
noncomputable section
theorem pair_load {G lo hi n b off c i : Nat} {B : Tr Blk} {ps : List (Int × Int)} {p : Int × Int} (hv : SlV B lo hi 2 n (prs ps) (.slice (some ⟨b, off, none⟩) n c)) (hi' : i < n) (hpi : ps[i]? = some p) :
  loadv B b (off + i * 2) = some (.int .i64 p.1) ∧ loadv B b (off + i * 2 + 1) = some (.int .i64 p.2) := by
 obtain ⟨b1, o1, he, _, _, hld⟩ := hv.at_ (by omega)
 injection he with he
 injection he with e1 e2
 subst e1; subst e2
 obtain ⟨g1, g2⟩ := prs_get hpi
 have l1 := hld (i * 2) (by omega)
 have l2 := hld (i * 2 + 1) (by omega)
 rw [g1] at l1
 rw [g2, ← Nat.add_assoc] at l2
 exact ⟨l1, l2⟩
set_option maxHeartbeats 8000000 in
theorem refThreads_spec {G lo hi n c : Nat} {k : Int} {A : Option Addr} {ps : List (Int × Int)} {h : H} (hv : SlV h.blks lo hi 2 n (prs ps) (.slice A n c)) (hn : n < 1000000) :
  Spec Tryz.prog (En G) 35 [.int .i64 k, .slice A n c] h fun v h' => v = .bool (okT k ps) ∧ h' = h := by
 have hl : ps.length = n := by have := hv.len; rw [prs_len] at this; omega
 refine CallsE_enter (En_known (by decide)) (En_f.trans Tryz.func35) rfl ⟨Nat.le_of_ble_eq_true rfl, by decide⟩ fun Q' hQ' => ?_
 simp only [Tryz.f35, go_sem,reduceIte,nqD,nqL]
 obtain ⟨W, hW⟩ : ∃ W, IntKind.i64.wrap (k - 1) = W := ⟨_, rfl⟩
 have hWk : 1 ≤ k ∧ k ≤ 6 → W = k - 1 := fun h => by rw [← hW, wrap_i64 (by omega) (by omega)]
 refine WK_loopN (fun j α h1 => ∃ i : Nat, i + j = n ∧ h1 = h ∧ (1 ≤ k ∧ k ≤ 6 → ∀ p ∈ ps.take i, okPair k p = true) ∧ α.get 0 = some (.int .i64 k) ∧ α.get 1 = some (.slice A n c) ∧ α.get 5 = some (.int .i64 i)) n
  ⟨0, by omega, rfl, fun _ p hp => (by simp at hp), by simp only [go_sem,reduceIte,nqD,nqL], by simp only [go_sem,reduceIte,nqD,nqL], by simp only [go_sem,reduceIte,nqD,nqL]; rfl⟩ (by omega) ?_
 rintro J j α h1 ⟨i, hij, rfl, hall, e0, e1, e5⟩ hJ
 by_cases hlt : (i : Int) < n
 ·obtain ⟨p, hpi⟩ : ∃ p, ps[i]? = some p := ⟨ps[i]'(by omega), List.getElem?_eq_getElem (by omega)⟩
  have htk : ps.take (i + 1) = ps.take i ++ [p] := by rw [List.take_add_one, hpi]; rfl
  obtain ⟨b, off, rfl, _, _, _⟩ := hv.at_ (by omega)
  obtain ⟨l1, l2⟩ := pair_load (G := G) hv (by omega) hpi
  have hno : (1 ≤ k ∧ k ≤ 6 → okPair k p = false) → okT k ps = false := fun e => by
   rw [Bool.eq_false_iff]
   intro ht
   obtain ⟨h1, h2⟩ := okT_iff.1 ht
   have := h2 p (List.mem_of_getElem? hpi)
   rw [e ⟨h1.1, h1.2.1⟩] at this; cases this
  simp (disch := omega) only [go_sem,reduceIte,nqD,nqL, e0, e1, e5, len22, hlt]
  refine WK_regionT 31 ⟨by kernel_rfl, by kernel_rfl, by kernel_rfl⟩ ?_
  simp (disch := omega) only [go_sem,reduceIte,nqD,nqL, e0, e1, e5, idxA22, load3, fld104_0, fld104_1, Int.toNat_natCast, Nat.add_zero, l1, l2, hW]
  refine CallO_same in_spec (by omega) fun u hu => ?_
  subst hu
  by_cases hA : 0 ≤ p.1 ∧ p.1 ≤ W
  ·have dA : decide (0 ≤ p.1 ∧ p.1 ≤ W) = true := decide_eq_true hA
   simp (disch := omega) only [go_sem,reduceIte,nqD,nqL, dA, e0, e1, e5, idxA22, load3, fld104_0, fld104_1, Int.toNat_natCast, Nat.add_zero, l1, l2, hW]
   refine CallO_same in_spec (by omega) fun u hu => ?_
   subst hu
   by_cases hB : 0 ≤ p.2 ∧ p.2 ≤ W
   ·have dB : decide (0 ≤ p.2 ∧ p.2 ≤ W) = true := decide_eq_true hB
    by_cases hE : p.1 = p.2
    ·have dE : decide (p.1 = p.2) = true := decide_eq_true hE
     simp (disch := omega) only [go_sem,reduceIte,nqD,nqL, dB, e0, e1, e5, idxA22, load3, fld104_0, fld104_1, Int.toNat_natCast, Nat.add_zero, l1, l2, hW, dE]
     exact hQ' _ _ ⟨Pres.refl _ _, by rw [hno fun _ => by simp only [okPair, decide_eq_false_iff_not]; omega], rfl⟩
    ·have dE : decide (p.1 = p.2) = false := decide_eq_false hE
     simp (disch := omega) only [go_sem,reduceIte,nqD,nqL, dB, e0, e1, e5, idxA22, load3, fld104_0, fld104_1, Int.toNat_natCast, Nat.add_zero, l1, l2, hW, dE, wrap_i64]
     refine hJ (j - 1) _ _ (by omega) ⟨i + 1, by omega, rfl, fun hk q hq => ?_, by simp only [go_sem,reduceIte,nqD,nqL, e0], by simp only [go_sem,reduceIte,nqD,nqL, e1], by simp only [go_sem,reduceIte,nqD,nqL]; rfl⟩
     rw [htk] at hq
     rcases List.mem_append.1 hq with hq | hq
     ·exact hall hk q hq
     ·rw [List.mem_singleton.1 hq]
      have := hWk hk
      simp only [okPair, decide_eq_true_eq]
      omega
   ·have dB : decide (0 ≤ p.2 ∧ p.2 ≤ W) = false := decide_eq_false hB
    simp (disch := omega) only [go_sem,reduceIte,nqD,nqL, dB, e0, e1, e5]
    exact hQ' _ _ ⟨Pres.refl _ _, by rw [hno fun hk => by have := hWk hk; simp only [okPair, decide_eq_false_iff_not]; omega], rfl⟩
  ·have dA : decide (0 ≤ p.1 ∧ p.1 ≤ W) = false := decide_eq_false hA
   simp (disch := omega) only [go_sem,reduceIte,nqD,nqL, dA, e0, e1, e5]
   exact hQ' _ _ ⟨Pres.refl _ _, by rw [hno fun hk => by have := hWk hk; simp only [okPair, decide_eq_false_iff_not]; omega], rfl⟩
 ·have hin : i = n := by omega
  subst hin
  have htk : ps.take i = ps := List.take_of_length_le (by omega)
  rw [htk] at hall
  simp (disch := omega) only [go_sem,reduceIte,nqD,nqL, e0, e1, e5, len22, hlt]
  refine CallO_same in_spec (by omega) fun u hu => ?_
  subst hu
  by_cases hk : 1 ≤ k ∧ k ≤ 6
  ·have dk : decide (1 ≤ k ∧ k ≤ 6) = true := decide_eq_true hk
   simp (disch := omega) only [go_sem,reduceIte,nqD,nqL, dk, e0, e1, len22]
   refine hQ' _ _ ⟨Pres.refl _ _, ?_, rfl⟩
   congr 1
   rw [Bool.eq_iff_iff, okT_iff]
   simp only [decide_eq_true_eq]
   constructor
   ·intro h; exact ⟨⟨hk.1, hk.2, by omega⟩, hall hk⟩
   ·intro h; omega
  ·have dk : decide (1 ≤ k ∧ k ≤ 6) = false := decide_eq_false hk
   simp (disch := omega) only [go_sem,reduceIte,nqD,nqL, dk, e0, e1, len22]
   refine hQ' _ _ ⟨Pres.refl _ _, ?_, rfl⟩
   congr 1
   symm
   rw [Bool.eq_false_iff]
   intro ht
   have := (okT_iff.1 ht).1
   omega
theorem conv53z {P : Program} {G : Nat} {B : Tr Blk} {z : Int} (h0 : 0 ≤ z) (h1 : z ≤ 255) : convO P (En G) B 5 3 (some (.int .u8 z)) = some (.int .i64 z) := by
 rw [convO_int u5 u3, wrap_i64 (by omega) (by omega)]
def strs (ls : List (List UInt8)) : List Value := ls.map strV
theorem strs_len {ls : List (List UInt8)} : (strs ls).length = ls.length := by simp [strs]
end
end Go.Proofs.YthankillfhmfkaaGreatDoor.Ev
namespace Go.Proofs.YthankillfhmfkaaGreatDoor.Ev
open Go Go.Proofs
open Nat renaming reduceEqDiff → nqD, reduceLT → nqL
noncomputable section
theorem En_tabs {G : Nat} : (En G).tabs = tabs := rfl
section
variable {G n : Nat} {ops : List Oper} {r tl : List Oper} {k : List Frm} {α : Tr Value} {h : H} {R : Rt} {d : Nat}
theorem Call_lives (ht : TabsIn tabs h.blks) (hd : d < n) (hk : At Tryz.prog (En G) n ops false r tl k (Tr.put α d (.bool true)) h R) : CallO Tryz.prog (En G) n ops false r tl k α h R (some d) (some (.func (.func 24) #[] #[])) (some []) := by
 refine CallO_of (Q := fun v h' => v = .bool true ∧ h' = h) (CallsE_known En_lives (by rw [En_tabs]; exact ht) ⟨rfl, rfl⟩) hd fun v h' ⟨e1, e2⟩ => ?_
 subst e1; subst e2
 exact ⟨fun e => (by cases e), hk⟩
end
theorem TabsIn.pres {tbs : List (Nat × List Value)} {m : Nat} {h h' : H} (ht : TabsIn tbs h.blks) (hp : Pres m h h') (hm : ∀ x ∈ tbs, x.1 < m) : TabsIn tbs h'.blks := fun x hx => by
 obtain ⟨c, s, e, h1, h2⟩ := ht x hx
 exact ⟨c, s, e, by rw [hp.get _ (hm x hx)]; exact h1, h2⟩
theorem tabs_lt : ∀ x ∈ tabs, x.1 < 4 := fun x hx => by
 simp only [tabs, List.mem_cons, List.not_mem_nil, or_false] at hx
 rcases hx with rfl | rfl | rfl <;> decide
theorem eqB {a b : Bool} : pureRun Tryz.prog (do eqGuard .eql 4 (.tmp 0) (.tmp 0) (.bool a) (.bool b); binOp .eql 4 (.bool a) (.bool b)) = some (.bool (a == b)) := by
 cases a <;> cases b <;> kernel_rfl
theorem eql_bool {G : Nat} {a b : Bool} : binO Tryz.prog (En G) .eql 4 (some (.bool a)) (some (.bool b)) = some (.bool (a == b)) := by
 have h1 : (plainA (.bool a) && plainA (.bool b)) = true := rfl
 have h2 : fastBin .eql (.bool a) (.bool b) = none := rfl
 simp only [binO, h1, if_true, h2, slowBin, eqB]
 rfl
theorem prs_take {ps : List (Int × Int)} {m : Nat} : (prs ps).take (m * 2) = prs (ps.take m) := by
 induction ps generalizing m with
 | nil => simp [prs]
 | cons p ps ih =>
  cases m with
  | zero => simp [prs]
  | succ m =>
   have := ih (m := m)
   simp only [prs, List.flatMap_cons, List.take_succ_cons] at this ⊢
   rw [← this, show (m + 1) * 2 = m * 2 + 1 + 1 by omega]
   rfl
theorem sliceO_take {E : Env} {B : Tr Blk} {lo hi sz n c m : Nat} {kd : IntKind} {t elem : TypeId} {inf : TypeInfo} {A : Option Addr} {L : List Value} (hu : E.u t = some (.slice elem)) (hi' : E.i elem = some inf) (hsz : inf.size = sz) (s : SlV B lo hi sz n L (.slice A n c)) (hm : m ≤ n) :
  ∃ A' c', sliceO E t B (some (.slice A n c)) (some []) (some [.int kd m]) = some (.slice A' m c') ∧ SlV B lo hi sz m (L.take (m * sz)) (.slice A' m c') := by
 cases s with
 | nil hn hL =>
  subst hL
  obtain rfl : m = 0 := by omega
  refine ⟨none, 0, ?_, .nil rfl (by simp)⟩
  show evSlice E ⟨B, 0, 0⟩ t (.slice none 0 0) none (some (.int kd (Int.ofNat 0))) = _
  simp [evSlice, hu, hi', bound]
 | emp hn hL =>
  subst hL
  obtain rfl : m = 0 := by omega
  refine ⟨some ⟨0, 0, some 0⟩, 0, ?_, .emp rfl (by simp)⟩
  show evSlice E ⟨B, 0, 0⟩ t (.slice (some ⟨0, 0, some 0⟩) 0 0) none (some (.int kd (Int.ofNat 0))) = _
  simp [evSlice, hu, hi', bound]
 | mk hb hlo hhi hs hL hc =>
  rename_i b off size cells
  have hmul : m * sz ≤ n * sz := Nat.mul_le_mul_right _ hm
  refine ⟨some ⟨b, off, none⟩, c, ?_, .mk hb hlo hhi (by omega) (by simp; omega) fun i hi => ?_⟩
  ·show evSlice E ⟨B, 0, 0⟩ t (.slice (some ⟨b, off, none⟩) n c) none (some (.int kd (Int.ofNat m))) = _
   simp [evSlice, hu, hi', bound, hm, hb, hsz, forceN_eq]
  ·rw [hc i (by omega), List.getElem?_take, if_pos hi]
theorem zero82 : inf104.zero = some (.agg #[.int .i64 0, .int .i64 0]) := by kernel_rfl
theorem prs_one {ps : List (Int × Int)} : (prs ps).all oneB = true := by
 rw [List.all_eq_true]
 intro v hv
 simp only [prs, List.mem_flatMap] at hv
 obtain ⟨p, _, hp⟩ := hv
 rcases List.mem_cons.1 hp with rfl | hp
 ·rfl
 ·rw [List.mem_singleton.1 hp]; rfl
set_option maxHeartbeats 4000000 in
theorem few_spec {G lo hi n c : Nat} {k : Int} {A : Option Addr} {ps : List (Int × Int)} {h : H} (hG : G ≤ h.next) (hv : SlV h.blks lo hi 2 n (prs ps) (.slice A n c)) (hhi : hi ≤ h.next) :
  Spec Tryz.prog (En G) 18 [.agg #[.int .i64 k, .slice A n c]] h fun v h' => ∃ A' c', v = .tuple #[.int .i64 k, .slice A' (ps.take 31).length c'] ∧ SlV h'.blks h.next h'.next 2 (ps.take 31).length (prs (ps.take 31)) (.slice A' (ps.take 31).length c') := by
 have hl : ps.length = n := by have := hv.len; rw [prs_len] at this; omega
 have hm : (ps.take 31).length = min n 31 := by simp; omega
 have hmin : min (n : Int) 31 = (((ps.take 31).length : Nat) : Int) := by omega
 refine CallsE_enter (En_known (by decide)) (En_f.trans Tryz.func18) rfl ⟨Nat.le_of_ble_eq_true rfl, by decide⟩ fun Q' hQ' => ?_
 simp only [Tryz.f18, go_sem,reduceIte,nqD,nqL]
 refine At_box (v := .agg #[.int .i64 k, .slice A n c]) (by simp only [go_sem,reduceIte,nqD,nqL]) (by omega) fun h1 hn1 => ?_
 have n1 := hn1.next
 have v1 : Var h1.blks h.next [.int .i64 k, .slice A n c] := hn1.var
 have l0 : loadv h1.blks h.next 0 = some (.int .i64 k) := by rw [v1.load (by simp)]; rfl
 have l1 : loadv h1.blks h.next 1 = some (.slice A n c) := by rw [v1.load (by simp)]; rfl
 have hv1 : SlV h1.blks lo hi 2 n (prs ps) (.slice A n c) := hv.mono fun b _ hb => by rw [hn1.get, if_neg (by omega)]
 obtain ⟨A', c', hsl, hv1'⟩ := sliceO_take (E := En G) (kd := .i64) (m := (ps.take 31).length) u22 i104 size104 hv1 (by omega)
 rw [prs_take] at hv1'
 have htt : ps.take (ps.take 31).length = ps.take 31 := by
  rw [hm]
  rcases Nat.le_total n 31 with h2 | h2
  ·rw [Nat.min_eq_left h2, List.take_of_length_le (by omega), List.take_of_length_le (by omega)]
  ·rw [Nat.min_eq_right h2]
 rw [htt] at hv1'
 try simp only [go_sem,reduceIte,nqD,nqL]
 refine WK_regionT 11 ⟨by kernel_rfl, by kernel_rfl, by kernel_rfl⟩ ?_
 try simp only [go_sem,reduceIte,nqD,nqL, fld24_0, fld24_1, load3, load22, Nat.add_zero, l0, l1]
 refine At_lit0 u22 i104 zero82 (by rw [size104]; rfl) (by omega) ?_
 simp only [go_sem,reduceIte,nqD,nqL, fld24_0, fld24_1, load3, load22, Nat.zero_add, l0, l1, len22, hmin, hsl]
 refine At_appendE (M := prs (ps.take 31)) (m := (ps.take 31).length) u22 u22 i104 zero82 (by rw [size104, bytes104]; rfl) (by simp only [go_sem,reduceIte,nqD,nqL]) (by simp only [go_sem,reduceIte,nqD,nqL]; rfl) (by rw [size104]; exact hv1') (by omega) prs_one (by omega) fun A2 c2 h2 pr2 hs2 => ?_
 rw [size104] at hs2
 simp only [go_sem,reduceIte,nqD,nqL]
 exact hQ' _ _ ⟨(hn1.pres nlr).trans (pr2.le (by omega)), A2, c2, rfl, hs2.wide (by omega) nlr⟩
end
end Go.Proofs.YthankillfhmfkaaGreatDoor.Ev
