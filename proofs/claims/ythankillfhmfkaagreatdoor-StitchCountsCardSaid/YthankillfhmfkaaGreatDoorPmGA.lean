/- The document's own numbers: in memory; without zeros in front. -/
import Derived.Test.YthankillfhmfkaaGreatDoorPmFF
import Derived.Test.YthankillfhmfkaaGreatDoorPmNN
set_option linter.unusedSimpArgs false
set_option linter.unusedVariables false
namespace Go.Proofs.YthankillfhmfkaaGreatDoor.Ev
open Go Go.Proofs Go.Lm
open Nat renaming reduceEqDiff → nqD, reduceLT → nqL
noncomputable section
theorem nats_take {l : List Nat} {n : Nat} : nats (l.take n) = (nats l).take n := by simp [nats, List.map_take]
theorem nats_one {l : List Nat} : (nats l).all oneB = true := by
 simp [nats, oneB]
def RZ (B : Tr Blk) (N : Nat) (s : Bool) (x : Nat) (v : Value) : Prop := ∃ l A c, v = .agg #[.bool s, .slice A l.length c] ∧ SlV B 0 N 1 l.length (nats l) (.slice A l.length c) ∧ Lim 10000 l ∧ Nrm l ∧ nv 10000 l = x
def ZV (B : Tr Blk) (N : Nat) (z : Int) (v : Value) : Prop := RZ B N (decide (z < 0)) z.natAbs v
def RZL (B : Tr Blk) (lo N : Nat) (s : Bool) (x : Nat) (v : Value) : Prop := ∃ l A c, v = .agg #[.bool s, .slice A l.length c] ∧ SlV B lo N 1 l.length (nats l) (.slice A l.length c) ∧ Lim 10000 l ∧ Nrm l ∧ nv 10000 l = x
theorem RZL.rz {B : Tr Blk} {lo N x : Nat} {s : Bool} {v : Value} (a : RZL B lo N s x v) : RZ B N s x v := by
 obtain ⟨l, A, c, h1, h2, h3, h4, h5⟩ := a
 exact ⟨l, A, c, h1, h2.wide (Nat.zero_le _) nlr, h3, h4, h5⟩
theorem RZ.mono {B B' : Tr Blk} {N x : Nat} {s : Bool} {v : Value} (a : RZ B N s x v) (hB : ∀ b, b < N → B'.get b = B.get b) : RZ B' N s x v := by
 obtain ⟨l, A, c, h1, h2, h3, h4, h5⟩ := a
 exact ⟨l, A, c, h1, h2.mono fun b _ hb => hB b hb, h3, h4, h5⟩
theorem RZ.wide {B : Tr Blk} {N N' x : Nat} {s : Bool} {v : Value} (a : RZ B N s x v) (h : N ≤ N') : RZ B N' s x v := by
 obtain ⟨l, A, c, h1, h2, h3, h4, h5⟩ := a
 exact ⟨l, A, c, h1, h2.wide nlr h, h3, h4, h5⟩
theorem RZ.pres {h h' : H} {m N x : Nat} {s : Bool} {v : Value} (a : RZ h.blks N s x v) (p : Pres m h h') (hN : N ≤ m) : RZ h'.blks N s x v := a.mono fun b hb => p.get b (by omega)
theorem SlV.stoN {h h' : H} {lo hi n b off : Nat} {l : List Nat} {v : Value} {L vs : List Value} (h2 : SlV h.blks lo hi 1 n (nats l) v) (hs : Sto h h' b off vs) (hvar : Var h.blks b L) (hL : L.all (fun v => !isI v) = true) : SlV h'.blks lo hi 1 n (nats l) v := by
 have hget : ∀ i, i < (nats l).length → ∃ a : Nat, (nats l)[i]? = some (.int .i64 (a : Int)) := fun i hi => by
  rw [nats_len] at hi
  obtain ⟨a, ha⟩ := limb_at hi
  exact ⟨a, nats_get ha⟩
 generalize nats l = M at *
 cases h2 with
 | nil hn hL => exact .nil hn hL
 | emp hn hL => exact .emp hn hL
 | mk hb hlo hhi hsz hLl hc =>
  rename_i b' off' c' size cells
  by_cases e : b' = b
  ·subst e
   rcases Nat.eq_zero_or_pos n with h0 | h0
   ·exact .mk (hs.at_ _ _ _ hb) hlo hhi hsz hLl fun i hi => by omega
   ·exfalso
    obtain ⟨cs, es, g1, g2⟩ := hvar
    rw [hb] at g1
    injection g1 with g1
    injection g1 with q1 q2 q3
    subst q1
    obtain ⟨a, ha⟩ := hget 0 (by omega)
    have h3 := hc 0 (by omega)
    rw [ha, Nat.add_zero] at h3
    have h4 := g2 off' (by omega)
    rw [h3] at h4
    have h5 := List.mem_of_getElem? h4.symm
    have h6 := List.all_eq_true.1 hL _ h5
    exact absurd h6 (by simp [isI])
  ·exact .mk ((hs.get _ e).trans hb) hlo hhi hsz hLl hc
theorem RZ.sto {h h' : H} {N x b off : Nat} {s : Bool} {v : Value} {L vs : List Value} (hv : RZ h.blks N s x v) (hs : Sto h h' b off vs) (hvar : Var h.blks b L) (hL : L.all (fun v => !isI v) = true) : RZ h'.blks N s x v := by
 obtain ⟨l, A, c, rfl, h2, h3, h4, h5⟩ := hv
 exact ⟨l, A, c, rfl, h2.stoN hs hvar hL, h3, h4, h5⟩
def Sr (x : Nat) : Prop := ∃ k, k ≤ 1000000 ∧ x < 10000 ^ k
theorem Sr.le {x y : Nat} (h : Sr x) (hy : y ≤ x) : Sr y := by
 obtain ⟨k, h1, h2⟩ := h
 exact ⟨k, h1, Nat.lt_of_le_of_lt hy h2⟩
theorem Sr.len {l : List Nat} (h : Sr (nv 10000 l)) (hn : Nrm l) : l.length ≤ 1000000 := by
 obtain ⟨k, h1, h2⟩ := h
 refine Nat.le_trans ?_ h1
 by_cases h : l = []
 ·rw [h]; simp
 ·have h1 := nrm_pos (B := 10000) (by omega) hn h
  have h3 := Nat.pow_lt_pow_iff_right (a := 10000) (n := l.length - 1) (m := k) (by omega)
  have := h3.1 (Nat.lt_of_le_of_lt h1 h2)
  omega
theorem sl_one {A : Option Addr} {n c : Nat} {s : Bool} (_ : True) : (Value.agg #[.bool s, .slice A n c]).cells.toList.all oneB = true := rfl
theorem SlV.shape' {B : Tr Blk} {lo hi sz n : Nat} {L : List Value} {v : Value} (_ : SlV B lo hi sz n L v) : True := trivial
theorem zero60 : inf60.zero = some (.agg #[.bool false, .slice none 0 0]) := by kernel_rfl
theorem Var.zn {B : Tr Blk} {b : Nat} {L : List Value} (v : Var B b L) (hl : L.length = 2) {G : Nat} : loadO (En G) 60 B (some (.pointer (some ⟨b, 0, none⟩))) = some (.agg L.toArray) := v.loadA agg60 i60 (by rw [size60]; exact hl)
theorem Var.znE {h : H} {b : Nat} {L : List Value} (v : Var h.blks b L) (hl : L.length = 2) {G : Nat} : evLoad (En G) h 60 (.pointer (some ⟨b, 0, none⟩)) = some (.agg L.toArray) := by
 rw [evLoad_loadO]; exact v.zn hl
set_option maxHeartbeats 8000000 in
set_option maxRecDepth 100000 in
theorem lean_fresh {G N c : Nat} {s : Bool} {A : Option Addr} {l : List Nat} {h : H} (hG : G ≤ h.next) (hN : N ≤ h.next) (hl : Lim 10000 l) (hs : SlV h.blks 0 N 1 l.length (nats l) (.slice A l.length c)) (hn : l.length ≤ 4000000) :
  Spec Tryz.prog (En G) 101 [.agg #[.bool s, .slice A l.length c]] h fun w h' => RZL h'.blks h.next h'.next (s && decide (nv 10000 l ≠ 0)) (nv 10000 l) w := by
 refine CallsE_enter (En_known (by decide)) (En_f.trans Tryz.func101) rfl ⟨Nat.le_of_ble_eq_true rfl, by decide⟩ fun Q' hQ' => ?_
 simp (disch := omega) only [Tryz.f101, go_sem,reduceIte,nqD,nqL]
 refine At_box (v := .agg #[.bool s, .slice A l.length c]) (by simp only [go_sem,reduceIte,nqD,nqL]) (by omega) fun h1 hn1 => ?_
 have n1 := hn1.next
 have pr1 : Pres h.next h h1 := hn1.pres nlr
 have v1 : Var h1.blks h.next [.bool s, .slice A l.length c] := hn1.var
 try simp (disch := omega) only [go_sem,reduceIte,nqD,nqL]
 refine At_alloc i60 zero60 rfl (by omega) fun h2 hn2 => ?_
 have n2 := hn2.next
 have pr2 : Pres h.next h h2 := pr1.trans (hn2.pres (by omega))
 have v2 : Var h2.blks h1.next [.bool false, .slice none 0 0] := hn2.var
 replace v1 := v1.mono (B' := h2.blks) (by rw [hn2.get, if_neg (by omega)])
 have l1 : loadv h2.blks h.next 1 = some (.slice A l.length c) := by rw [v1.load (by simp)]; rfl
 have hs1 := hs.mono (B' := h2.blks) fun b _ hb => pr2.get b (by omega)
 clear hn1 hn2
 simp (disch := omega) only [go_sem,reduceIte,nqD,nqL, fld60_1, load34, Nat.zero_add, l1, len34]
 refine WK_loopN (fun j α h3 => h2 = h3 ∧ j ≤ l.length ∧ α.get 1 = some (.pointer (some ⟨h.next, 0, none⟩)) ∧ α.get 2 = some (.pointer (some ⟨h1.next, 0, none⟩)) ∧ α.get 3 = some (.int .i64 (j : Int)) ∧ nv 10000 (l.take j) = nv 10000 l) l.length
  ⟨rfl, Nat.le_refl _, by simp only [go_sem,reduceIte,nqD,nqL], by simp only [go_sem,reduceIte,nqD,nqL], by (simp only [go_sem,reduceIte,nqD,nqL]) <;> rfl, by rw [List.take_length]⟩ (by omega) ?_
 rintro J j α h3 ⟨rfl, hj, e1, e2, e3, hv⟩ hJ
 have fin : ∀ h5 : H, True := fun _ => trivial
 cases j with
 | zero =>
  have d0 : decide ((0 : Int) < ((0 : Nat) : Int)) = false := rfl
  simp (disch := omega) only [go_sem,reduceIte,nqD,nqL, e1, e2, e3, d0]
  have hnr : Nrm (l.take 0) := by rw [List.take_zero]; exact Nrm.nil
  have tk : (l.take 0).length = 0 := by rw [List.length_take]; omega
  obtain ⟨A2, c2, hsl, hs2⟩ := sliceO_take (E := En G) (kd := .i64) u34 i3 size3 hs1 (m := 0) (by omega)
  rw [Nat.mul_one, ← nats_take] at hs2
  refine At_lit0 u34 i3 zero3 (by rw [size3]; rfl) (by omega) ?_
  simp (disch := omega) only [go_sem,reduceIte,nqD,nqL, e1, e2, e3, fld60_1, load34, Nat.zero_add, l1, hsl]
  refine At_appendE (M := nats (l.take 0)) (m := 0) u34 u34 i3 zero3 (by rw [size3, bytes3]; rfl) (by (simp only [go_sem,reduceIte,nqD,nqL]) <;> rfl) (by (simp only [go_sem,reduceIte,nqD,nqL]) <;> rfl) (by rw [size3]; exact hs2) (by omega) nats_one (by omega) fun A3 c3 h4 pr4 hs3 => ?_
  have n4 := pr4.next
  rw [size3] at hs3
  have v1' := v1.mono (B' := h4.blks) (pr4.get _ (by omega))
  have v2' := v2.mono (B' := h4.blks) (pr4.get _ (by omega))
  simp (disch := omega) only [go_sem,reduceIte,nqD,nqL, e1, e2, e3, fld60_1]
  refine At_store (inf := inf34) (b := h.next) (off := 0 + 1) (v := .slice A3 0 c3) i34 (by simp only [go_sem,reduceIte,nqD,nqL]) (by (simp only [go_sem,reduceIte,nqD,nqL]) <;> rfl) (by rw [size34]; rfl) rfl v1'.choose_spec.choose_spec.1 (by rw [size34]; show 0 + 1 + 1 ≤ 2; omega) (by show G ≤ h.next; omega) fun h5 hs5 => ?_
  have n5 := hs5.next
  have v15 : Var h5.blks h.next [.bool s, .slice A3 0 c3] := hs5.varAt v1' (by show 0 + 1 + 1 ≤ 2; omega)
  have v25 := v2'.mono (B' := h5.blks) (hs5.get _ (by omega))
  have l0 : loadv h5.blks h.next 0 = some (.bool s) := by rw [v15.load (by simp)]; rfl
  have hs35 : SlV h5.blks h2.next h4.next 1 0 (nats (l.take 0)) (.slice A3 0 c3) := hs3.mono fun b hb _ => hs5.get b (by omega)
  simp (disch := omega) only [go_sem,reduceIte,nqD,nqL, e1, e2, e3, fld60_0, load4, Nat.add_zero, l0]
  have hz : nv 10000 l = 0 ↔ 0 = 0 := by
   rw [← hv, nrm_zero (by omega) hnr, ← List.length_eq_zero_iff, tk]
  have hfin : ∀ {h6 : H}, Sto h5 h6 h.next 0 [.bool (s && decide (nv 10000 l ≠ 0))] → ∀ {h7 : H}, Sto h6 h7 h1.next 0 [.bool (s && decide (nv 10000 l ≠ 0)), .slice A3 0 c3] → Q' (.agg #[.bool (s && decide (nv 10000 l ≠ 0)), .slice A3 0 c3]) h7 := fun {h6} hs6 {h7} hs7 => by
   have n6 := hs6.next
   have n7 := hs7.next
   refine hQ' _ _ ⟨(pr2.trans (pr4.le (by omega))).trans ((hs5.pres (by omega)).trans ((hs6.pres (by omega)).trans (hs7.pres (by omega)))), l.take 0, A3, c3, by rw [tk], ?_, hl.take, hnr, hv⟩
   rw [tk]
   exact (hs35.mono fun b hb _ => (hs7.get b (by omega)).trans (hs6.get b (by omega))).wide (by omega) (by omega)
  cases s with
  | false =>
   simp (disch := omega) only [go_sem,reduceIte,nqD,nqL, e1, e2, e3, fld60_0, load4, Nat.add_zero, l0]
   refine At_store (inf := inf4) (b := h.next) (off := 0) (v := .bool false) i4 (by simp only [go_sem,reduceIte,nqD,nqL, e1, fld60_0]) (by (simp only [go_sem,reduceIte,nqD,nqL]) <;> rfl) (by rw [size4]; rfl) rfl v15.choose_spec.choose_spec.1 (by rw [size4]; show 0 + 1 ≤ 2; omega) (by show G ≤ h.next; omega) fun h6 hs6 => ?_
   have v16 : Var h6.blks h.next [.bool false, .slice A3 0 c3] := hs6.varAt v15 (by show 0 + 1 ≤ 2; omega)
   have v26 := v25.mono (B' := h6.blks) (hs6.get _ (by omega))
   have r1 := v16.zn (G := G) rfl
   simp (disch := omega) only [go_sem,reduceIte,nqD,nqL, e1, e2, e3, r1]
   refine At_storeV (inf := inf60) (v := .agg #[.bool false, .slice A3 0 c3]) i60 (by simp only [go_sem,reduceIte,nqD,nqL, e2]) (by simp only [go_sem,reduceIte,nqD,nqL]) v26 (by rw [size60]; rfl) (by rw [size60]; rfl) (sl_one (hs35.shape')) (by show G ≤ h1.next; omega) fun h7 hs7 v27 => ?_
   have r2 := v27.znE (G := G) rfl
   simp (disch := omega) only [go_sem,reduceIte,nqD,nqL, e1, e2, e3, r2]
   exact hfin hs6 hs7
  | true =>
   have d3 : decide ((0 : Int) < ((0 : Nat) : Int)) = decide (nv 10000 l ≠ 0) := by rw [decide_eq_decide, Ne, hz]; omega
   simp (disch := omega) only [go_sem,reduceIte,nqD,nqL, e1, e2, e3, fld60_0, load4, Nat.add_zero, l0, d3]
   refine At_store (inf := inf4) (b := h.next) (off := 0) (v := .bool (decide (nv 10000 l ≠ 0))) i4 (by simp only [go_sem,reduceIte,nqD,nqL, e1, fld60_0]) (by (simp only [go_sem,reduceIte,nqD,nqL]) <;> rfl) (by rw [size4]; rfl) rfl v15.choose_spec.choose_spec.1 (by rw [size4]; show 0 + 1 ≤ 2; omega) (by show G ≤ h.next; omega) fun h6 hs6 => ?_
   have v16 : Var h6.blks h.next [.bool (decide (nv 10000 l ≠ 0)), .slice A3 0 c3] := hs6.varAt v15 (by show 0 + 1 ≤ 2; omega)
   have v26 := v25.mono (B' := h6.blks) (hs6.get _ (by omega))
   have r1 := v16.zn (G := G) rfl
   simp (disch := omega) only [go_sem,reduceIte,nqD,nqL, e1, e2, e3, r1]
   refine At_storeV (inf := inf60) (v := .agg #[.bool (decide (nv 10000 l ≠ 0)), .slice A3 0 c3]) i60 (by simp only [go_sem,reduceIte,nqD,nqL, e2]) (by simp only [go_sem,reduceIte,nqD,nqL]) v26 (by rw [size60]; rfl) (by rw [size60]; rfl) (sl_one (hs35.shape')) (by show G ≤ h1.next; omega) fun h7 hs7 v27 => ?_
   have r2 := v27.znE (G := G) rfl
   simp (disch := omega) only [go_sem,reduceIte,nqD,nqL, e1, e2, e3, r2]
   exact hfin hs6 hs7
 | succ m =>
  obtain ⟨a, ha⟩ := limb_at (l := l) (i := m) (by omega)
  obtain ⟨b, off, rfl, _, _, la⟩ := nats_at hs1 ha
  have j1 : ((m + 1 : Nat) : Int) - 1 = (m : Int) := by omega
  have d1 : decide ((0 : Int) < ((m + 1 : Nat) : Int)) = true := decide_eq_true (by omega)
  by_cases h0 : a = 0
  ·have d2 : decide ((a : Int) = 0) = true := decide_eq_true (by omega)
   simp (disch := omega) only [go_sem,reduceIte,nqD,nqL, e1, e2, e3, d1, j1, wrap_i64, fld60_1, load34, Nat.zero_add, l1, idxA34, Int.toNat_natCast, Nat.mul_one, load3, la, d2]
   exact hJ m _ _ (by omega) ⟨rfl, by omega, by simp only [go_sem,reduceIte,nqD,nqL, e1], by simp only [go_sem,reduceIte,nqD,nqL, e2], by simp only [go_sem,reduceIte,nqD,nqL], by rw [← trim_step (by rw [ha, h0])]; exact hv⟩
  ·have d2 : decide ((a : Int) = 0) = false := decide_eq_false (by omega)
   simp (disch := omega) only [go_sem,reduceIte,nqD,nqL, e1, e2, e3, d1, j1, wrap_i64, fld60_1, load34, Nat.zero_add, l1, idxA34, Int.toNat_natCast, Nat.mul_one, load3, la, d2]
   have hnr : Nrm (l.take (m + 1)) := nrm_take ha h0
   have tk : (l.take (m + 1)).length = (m + 1) := by rw [List.length_take]; omega
   obtain ⟨A2, c2, hsl, hs2⟩ := sliceO_take (E := En G) (kd := .i64) u34 i3 size3 hs1 (m := (m + 1)) (by omega)
   rw [Nat.mul_one, ← nats_take] at hs2
   refine At_lit0 u34 i3 zero3 (by rw [size3]; rfl) (by omega) ?_
   simp (disch := omega) only [go_sem,reduceIte,nqD,nqL, e1, e2, e3, fld60_1, load34, Nat.zero_add, l1, hsl]
   refine At_appendE (M := nats (l.take (m + 1))) (m := (m + 1)) u34 u34 i3 zero3 (by rw [size3, bytes3]; rfl) (by (simp only [go_sem,reduceIte,nqD,nqL]) <;> rfl) (by (simp only [go_sem,reduceIte,nqD,nqL]) <;> rfl) (by rw [size3]; exact hs2) (by omega) nats_one (by omega) fun A3 c3 h4 pr4 hs3 => ?_
   have n4 := pr4.next
   rw [size3] at hs3
   have v1' := v1.mono (B' := h4.blks) (pr4.get _ (by omega))
   have v2' := v2.mono (B' := h4.blks) (pr4.get _ (by omega))
   simp (disch := omega) only [go_sem,reduceIte,nqD,nqL, e1, e2, e3, fld60_1]
   refine At_store (inf := inf34) (b := h.next) (off := 0 + 1) (v := .slice A3 (m + 1) c3) i34 (by simp only [go_sem,reduceIte,nqD,nqL]) (by (simp only [go_sem,reduceIte,nqD,nqL]) <;> rfl) (by rw [size34]; rfl) rfl v1'.choose_spec.choose_spec.1 (by rw [size34]; show 0 + 1 + 1 ≤ 2; omega) (by show G ≤ h.next; omega) fun h5 hs5 => ?_
   have n5 := hs5.next
   have v15 : Var h5.blks h.next [.bool s, .slice A3 (m + 1) c3] := hs5.varAt v1' (by show 0 + 1 + 1 ≤ 2; omega)
   have v25 := v2'.mono (B' := h5.blks) (hs5.get _ (by omega))
   have l0 : loadv h5.blks h.next 0 = some (.bool s) := by rw [v15.load (by simp)]; rfl
   have hs35 : SlV h5.blks h2.next h4.next 1 (m + 1) (nats (l.take (m + 1))) (.slice A3 (m + 1) c3) := hs3.mono fun b hb _ => hs5.get b (by omega)
   simp (disch := omega) only [go_sem,reduceIte,nqD,nqL, e1, e2, e3, fld60_0, load4, Nat.add_zero, l0]
   have hz : nv 10000 l = 0 ↔ (m + 1) = 0 := by
    rw [← hv, nrm_zero (by omega) hnr, ← List.length_eq_zero_iff, tk]
   have hfin : ∀ {h6 : H}, Sto h5 h6 h.next 0 [.bool (s && decide (nv 10000 l ≠ 0))] → ∀ {h7 : H}, Sto h6 h7 h1.next 0 [.bool (s && decide (nv 10000 l ≠ 0)), .slice A3 (m + 1) c3] → Q' (.agg #[.bool (s && decide (nv 10000 l ≠ 0)), .slice A3 (m + 1) c3]) h7 := fun {h6} hs6 {h7} hs7 => by
    have n6 := hs6.next
    have n7 := hs7.next
    refine hQ' _ _ ⟨(pr2.trans (pr4.le (by omega))).trans ((hs5.pres (by omega)).trans ((hs6.pres (by omega)).trans (hs7.pres (by omega)))), l.take (m + 1), A3, c3, by rw [tk], ?_, hl.take, hnr, hv⟩
    rw [tk]
    exact (hs35.mono fun b hb _ => (hs7.get b (by omega)).trans (hs6.get b (by omega))).wide (by omega) (by omega)
   cases s with
   | false =>
    simp (disch := omega) only [go_sem,reduceIte,nqD,nqL, e1, e2, e3, fld60_0, load4, Nat.add_zero, l0]
    refine At_store (inf := inf4) (b := h.next) (off := 0) (v := .bool false) i4 (by simp only [go_sem,reduceIte,nqD,nqL, e1, fld60_0]) (by (simp only [go_sem,reduceIte,nqD,nqL]) <;> rfl) (by rw [size4]; rfl) rfl v15.choose_spec.choose_spec.1 (by rw [size4]; show 0 + 1 ≤ 2; omega) (by show G ≤ h.next; omega) fun h6 hs6 => ?_
    have v16 : Var h6.blks h.next [.bool false, .slice A3 (m + 1) c3] := hs6.varAt v15 (by show 0 + 1 ≤ 2; omega)
    have v26 := v25.mono (B' := h6.blks) (hs6.get _ (by omega))
    have r1 := v16.zn (G := G) rfl
    simp (disch := omega) only [go_sem,reduceIte,nqD,nqL, e1, e2, e3, r1]
    refine At_storeV (inf := inf60) (v := .agg #[.bool false, .slice A3 (m + 1) c3]) i60 (by simp only [go_sem,reduceIte,nqD,nqL, e2]) (by simp only [go_sem,reduceIte,nqD,nqL]) v26 (by rw [size60]; rfl) (by rw [size60]; rfl) (sl_one (hs35.shape')) (by show G ≤ h1.next; omega) fun h7 hs7 v27 => ?_
    have r2 := v27.znE (G := G) rfl
    simp (disch := omega) only [go_sem,reduceIte,nqD,nqL, e1, e2, e3, r2]
    exact hfin hs6 hs7
   | true =>
    have d3 : decide ((0 : Int) < (((m + 1) : Nat) : Int)) = decide (nv 10000 l ≠ 0) := by rw [decide_eq_decide, Ne, hz]; omega
    simp (disch := omega) only [go_sem,reduceIte,nqD,nqL, e1, e2, e3, fld60_0, load4, Nat.add_zero, l0, d3]
    refine At_store (inf := inf4) (b := h.next) (off := 0) (v := .bool (decide (nv 10000 l ≠ 0))) i4 (by simp only [go_sem,reduceIte,nqD,nqL, e1, fld60_0]) (by (simp only [go_sem,reduceIte,nqD,nqL]) <;> rfl) (by rw [size4]; rfl) rfl v15.choose_spec.choose_spec.1 (by rw [size4]; show 0 + 1 ≤ 2; omega) (by show G ≤ h.next; omega) fun h6 hs6 => ?_
    have v16 : Var h6.blks h.next [.bool (decide (nv 10000 l ≠ 0)), .slice A3 (m + 1) c3] := hs6.varAt v15 (by show 0 + 1 ≤ 2; omega)
    have v26 := v25.mono (B' := h6.blks) (hs6.get _ (by omega))
    have r1 := v16.zn (G := G) rfl
    simp (disch := omega) only [go_sem,reduceIte,nqD,nqL, e1, e2, e3, r1]
    refine At_storeV (inf := inf60) (v := .agg #[.bool (decide (nv 10000 l ≠ 0)), .slice A3 (m + 1) c3]) i60 (by simp only [go_sem,reduceIte,nqD,nqL, e2]) (by simp only [go_sem,reduceIte,nqD,nqL]) v26 (by rw [size60]; rfl) (by rw [size60]; rfl) (sl_one (hs35.shape')) (by show G ≤ h1.next; omega) fun h7 hs7 v27 => ?_
    have r2 := v27.znE (G := G) rfl
    simp (disch := omega) only [go_sem,reduceIte,nqD,nqL, e1, e2, e3, r2]
    exact hfin hs6 hs7
theorem lean_spec {G N c : Nat} {s : Bool} {A : Option Addr} {l : List Nat} {h : H} (hG : G ≤ h.next) (hN : N ≤ h.next) (hl : Lim 10000 l) (hs : SlV h.blks 0 N 1 l.length (nats l) (.slice A l.length c)) (hn : l.length ≤ 4000000) :
  Spec Tryz.prog (En G) 101 [.agg #[.bool s, .slice A l.length c]] h fun w h' => RZ h'.blks h'.next (s && decide (nv 10000 l ≠ 0)) (nv 10000 l) w := by
 exact Spec.mono (lean_fresh hG hN hl hs hn) fun w h' _ hh => hh.rz
end
end Go.Proofs.YthankillfhmfkaaGreatDoor.Ev
namespace Go.Proofs.YthankillfhmfkaaGreatDoor.Ev
open Go Go.Proofs Go.Lm
open Nat renaming reduceEqDiff → nqD, reduceLT → nqL
noncomputable section
section
variable {P : Program} {n : Nat} {ops : List Oper} {q : Bool} {r tl : List Oper} {k : List Frm} {α : Tr Value} {h : H} {R : Rt} {ty : TypeId} {pos : String} {af : Array Edge}
theorem At_pushN {G s d1 d lo hi : Nat} {x : Operand} {l : List Nat} {z : Nat} {A : Option Addr} {ty' : TypeId} {pos' : String} {af' : Array Edge} (hx : ev (En G) h α x = some (.int .i64 (z : Int))) (hs : α.get s = some (.slice A l.length l.length))
  (hsl : SlV h.blks lo hi 1 l.length (nats l) (.slice A l.length l.length)) (hhi : hi ≤ h.next) (hG : G ≤ lo) (hlo : lo ≤ h.next) (hsm : l.length < 2147483640) (hsd : s ≠ d1) (hd1 : d1 < n) (hd : d < n)
  (hk : ∀ A' h', Pres lo h h' → SlV h'.blks lo h'.next 1 (l ++ [z]).length (nats (l ++ [z])) (.slice A' (l ++ [z]).length (l ++ [z]).length) → h.next ≤ h'.next →
   At P (En G) n ops false r tl k (Tr.put (Tr.put α d1 (.slice (some ⟨h.next, 0, none⟩) 1 1)) d (.slice A' (l ++ [z]).length (l ++ [z]).length)) h' R) :
  At P (En G) n ops false (⟨some d1, .buildSlice 34 1 #[(0, x)], ty, pos, af, none⟩ :: ⟨some d, .call ⟨.builtin .append, #[.tmp s, .tmp d1], #[34, 34]⟩, ty', pos', af', none⟩ :: r) tl k α h R := by
 refine At_push (lo := lo) (hi := hi) (L := nats l) (vs := [.int .i64 (z : Int)]) u34 i3 zero3 (by rw [size3, bytes3]; rfl) hx (by rw [size3]; rfl) (by rw [size3]; rfl) rfl hs (by rw [size3]; exact hsl) hhi nlr (by rw [En_G]; exact hG) hsm hsd hd1 hd fun h' hp => ?_
 rw [size3] at hp
 have e : nats l ++ [.int .i64 (z : Int)] = nats (l ++ [z]) := by simp [nats]
 rw [e] at hp
 have hsl' := hp.slv (n := (l ++ [z]).length) (c := (l ++ [z]).length) (by rw [nats_len, Nat.mul_one])
 have hnx := hp.next
 have := hk (some ⟨h.next + 1, 0, none⟩) h' (hp.pres hlo hsl.blk) (hsl'.wide (by omega) nlr) (by omega)
 rw [List.length_append, List.length_singleton] at this
 exact this
end
theorem getD_lt {l : List Nat} {i B : Nat} (hB : 0 < B) (h : Lim B l) : l.getD i 0 < B := by
 rcases Nat.lt_or_ge i l.length with hi | hi
 ·obtain ⟨a, ha⟩ := limb_at hi
  rw [List.getD_eq_getElem?_getD, ha]; exact h.get ha
 ·rw [List.getD_eq_getElem?_getD, List.getElem?_eq_none hi]; exact hB
set_option maxHeartbeats 8000000 in
set_option maxRecDepth 100000 in
theorem plus_ref {G N c c' : Nat} {A A' : Option Addr} {l m : List Nat} {h : H} (hG : G ≤ h.next) (hN : N ≤ h.next) (hl : Lim 10000 l) (hm : Lim 10000 m) (hs : SlV h.blks 0 N 1 l.length (nats l) (.slice A l.length c)) (hs' : SlV h.blks 0 N 1 m.length (nats m) (.slice A' m.length c')) (hn : l.length ≤ 1000000) (hn' : m.length ≤ 1000000) :
  Spec Tryz.prog (En G) 102 [.slice A l.length c, .slice A' m.length c'] h fun w h' => ∃ L A3 c3, w = .slice A3 L.length c3 ∧ SlV h'.blks 0 h'.next 1 L.length (nats L) (.slice A3 L.length c3) ∧ Lim 10000 L ∧ nv 10000 L = nv 10000 l + nv 10000 m ∧ L.length ≤ 1000001 := by
 refine CallsE_enter (En_known (by decide)) (En_f.trans Tryz.func102) rfl ⟨Nat.le_of_ble_eq_true rfl, by decide⟩ fun Q' hQ' => ?_
 simp (disch := omega) only [Tryz.f102, go_sem,reduceIte,nqD,nqL]
 refine At_lit0 u34 i3 zero3 (by rw [size3]; rfl) (by omega) ?_
 simp (disch := omega) only [go_sem,reduceIte,nqD,nqL]
 have hM : l.length ≤ max l.length m.length ∧ m.length ≤ max l.length m.length ∧ max l.length m.length ≤ 1000000 := by omega
 generalize max l.length m.length = M at hM
 refine WK_loopN (fun j α h1 => ∃ (i carry : Nat) (L : List Nat) (A3 : Option Addr), i + j = M + 1 ∧ (i ≤ M ∨ carry = 0) ∧ α.get 0 = some (.slice A l.length c) ∧ α.get 1 = some (.slice A' m.length c') ∧ α.get 5 = some (.slice A3 L.length L.length) ∧ α.get 6 = some (.int .i64 (carry : Int)) ∧ α.get 7 = some (.int .i64 (i : Int)) ∧
   SlV h1.blks h.next h1.next 1 L.length (nats L) (.slice A3 L.length L.length) ∧ L.length = i ∧ Lim 10000 L ∧ carry ≤ 1 ∧ nv 10000 L + 10000 ^ i * carry = nv 10000 (l.take i) + nv 10000 (m.take i) ∧ Pres h.next h h1) (M + 1)
  ⟨0, 0, [], _, by omega, by omega, by simp only [go_sem,reduceIte,nqD,nqL], by simp only [go_sem,reduceIte,nqD,nqL], by (simp only [go_sem,reduceIte,nqD,nqL]) <;> rfl, by (simp only [go_sem,reduceIte,nqD,nqL]) <;> rfl, by (simp only [go_sem,reduceIte,nqD,nqL]) <;> rfl, .emp rfl rfl, rfl, Lim.nil, by omega, by simp [nv], Pres.refl _ _⟩ (by omega) ?_
 rintro J j α h1 ⟨i, carry, L, A3, hij, hic, e0, e1, e5, e6, e7, hsv, hL, hlL, hc1, hinv, pr⟩ hJ
 have n1 := pr.next
 have step : ((i < l.length ∨ i < m.length) ∨ 0 < carry) → i ≤ M ∧ True := fun hh => ⟨by omega, trivial⟩
 have hdone : ¬ ((i < l.length ∨ i < m.length) ∨ 0 < carry) → Q' (.slice A3 L.length L.length) h1 := fun hh => by
  refine hQ' _ _ ⟨pr, L, A3, _, rfl, hsv.wide (Nat.zero_le _) nlr, hlL, ?_, by omega⟩
  rw [List.take_of_length_le (by omega), List.take_of_length_le (by omega), show carry = 0 by omega, Nat.mul_zero, Nat.add_zero] at hinv
  exact hinv
 have hs1 := hs.mono (B' := h1.blks) fun b _ hb => pr.get b (by omega)
 have hs2 := hs'.mono (B' := h1.blks) fun b _ hb => pr.get b (by omega)
 by_cases c1 : i < l.length
 ·have g1 : decide ((i : Int) < (l.length : Int)) = true := decide_eq_true (by omega)
  obtain ⟨a, ha⟩ := limb_at (l := l) (i := i) (by omega)
  obtain ⟨b, off, rfl, _, _, la⟩ := nats_at hs1 ha
  have eg : a = l.getD i 0 := by rw [List.getD_eq_getElem?_getD, ha]; rfl
  rw [eg] at la
  by_cases c2 : i < m.length
  ·have g2 : decide ((i : Int) < (m.length : Int)) = true := decide_eq_true (by omega)
   obtain ⟨a2, ha2⟩ := limb_at (l := m) (i := i) (by omega)
   obtain ⟨b2, off2, rfl, _, _, la2⟩ := nats_at hs2 ha2
   have eg2 : a2 = m.getD i 0 := by rw [List.getD_eq_getElem?_getD, ha2]; rfl
   rw [eg2] at la2
   have hi := (step (.inl (.inl c1))).1
   have hgl := getD_lt (i := i) (by omega) hl
   have hgm := getD_lt (i := i) (by omega) hm
   have w3 : IntKind.i64.wrap ((carry : Int) + ((l.getD i 0 : Nat) : Int)) = ((carry + l.getD i 0 : Nat) : Int) := wrap_nat (by omega) (by omega)
   have w3' : IntKind.i64.wrap (((carry + l.getD i 0 : Nat) : Int) + ((m.getD i 0 : Nat) : Int)) = ((carry + l.getD i 0 + m.getD i 0 : Nat) : Int) := wrap_nat (by omega) (by omega)
   have w3'' : IntKind.i64.wrap ((carry : Int) + ((m.getD i 0 : Nat) : Int)) = ((carry + m.getD i 0 : Nat) : Int) := wrap_nat (by omega) (by omega)
   have hsumE : True := trivial
   have hrem : (((carry + l.getD i 0 + m.getD i 0 : Nat)) : Int).tmod 10000 = (((carry + l.getD i 0 + m.getD i 0) % 10000 : Nat) : Int) := by
    rw [Int.tmod_eq_emod_of_nonneg (by omega)]; rfl
   have hdiv : (((carry + l.getD i 0 + m.getD i 0 : Nat)) : Int).tdiv 10000 = (((carry + l.getD i 0 + m.getD i 0) / 10000 : Nat) : Int) := by
    rw [Int.tdiv_eq_ediv_of_nonneg (by omega)]; rfl
   have w4 : IntKind.i64.wrap (((carry + l.getD i 0 + m.getD i 0) / 10000 : Nat) : Int) = (((carry + l.getD i 0 + m.getD i 0) / 10000 : Nat) : Int) := wrap_nat rfl (by omega)
   have w5 : IntKind.i64.wrap ((i : Int) + 1) = ((i + 1 : Nat) : Int) := wrap_nat (by omega) (by omega)
   simp (disch := omega) only [go_sem,reduceIte,nqD,nqL, e0, e1, e5, e6, e7, len34, g1, g2, la, la2, idxA34, Int.toNat_natCast, Nat.mul_one, load3, w3, w3', w3'', hsumE, hrem]
   refine At_pushN (lo := h.next) (hi := h1.next) (l := L) (z := (carry + l.getD i 0 + m.getD i 0) % 10000) (A := A3) (by simp only [go_sem,reduceIte,nqD,nqL]) (by simp only [go_sem,reduceIte,nqD,nqL]) hsv nlr hG n1 (by omega) (by decide) (by decide) (by decide) fun A4 h5 pr5 hs5 n5 => ?_
   simp (disch := omega) only [go_sem,reduceIte,nqD,nqL, e0, e1, e5, e7, hdiv, w4, w5]
   refine hJ (j - 1) _ _ (by omega) ⟨i + 1, (carry + l.getD i 0 + m.getD i 0) / 10000, L ++ [(carry + l.getD i 0 + m.getD i 0) % 10000], A4, by omega, by omega, by simp only [go_sem,reduceIte,nqD,nqL, e0], by simp only [go_sem,reduceIte,nqD,nqL, e1], by simp only [go_sem,reduceIte,nqD,nqL], by simp only [go_sem,reduceIte,nqD,nqL], by simp only [go_sem,reduceIte,nqD,nqL], hs5, by simp [hL], hlL.app (Lim.one (by omega)), by omega, ?_, pr.trans pr5⟩
   rw [nv_snoc, hL, nv_take_getD (l := l), nv_take_getD (l := m)]
   exact add_step hinv
  ·have g2 : decide ((i : Int) < (m.length : Int)) = false := decide_eq_false (by omega)
   have eg2 : m.getD i 0 = 0 := by rw [List.getD_eq_getElem?_getD, List.getElem?_eq_none (by omega)]; rfl
   have hi := (step (.inl (.inl c1))).1
   have hgl := getD_lt (i := i) (by omega) hl
   have hgm := getD_lt (i := i) (by omega) hm
   have w3 : IntKind.i64.wrap ((carry : Int) + ((l.getD i 0 : Nat) : Int)) = ((carry + l.getD i 0 : Nat) : Int) := wrap_nat (by omega) (by omega)
   have w3' : IntKind.i64.wrap (((carry + l.getD i 0 : Nat) : Int) + ((m.getD i 0 : Nat) : Int)) = ((carry + l.getD i 0 + m.getD i 0 : Nat) : Int) := wrap_nat (by omega) (by omega)
   have w3'' : IntKind.i64.wrap ((carry : Int) + ((m.getD i 0 : Nat) : Int)) = ((carry + m.getD i 0 : Nat) : Int) := wrap_nat (by omega) (by omega)
   have hsumE : carry + l.getD i 0 = carry + l.getD i 0 + m.getD i 0 := by omega
   have hrem : (((carry + l.getD i 0 + m.getD i 0 : Nat)) : Int).tmod 10000 = (((carry + l.getD i 0 + m.getD i 0) % 10000 : Nat) : Int) := by
    rw [Int.tmod_eq_emod_of_nonneg (by omega)]; rfl
   have hdiv : (((carry + l.getD i 0 + m.getD i 0 : Nat)) : Int).tdiv 10000 = (((carry + l.getD i 0 + m.getD i 0) / 10000 : Nat) : Int) := by
    rw [Int.tdiv_eq_ediv_of_nonneg (by omega)]; rfl
   have w4 : IntKind.i64.wrap (((carry + l.getD i 0 + m.getD i 0) / 10000 : Nat) : Int) = (((carry + l.getD i 0 + m.getD i 0) / 10000 : Nat) : Int) := wrap_nat rfl (by omega)
   have w5 : IntKind.i64.wrap ((i : Int) + 1) = ((i + 1 : Nat) : Int) := wrap_nat (by omega) (by omega)
   simp (disch := omega) only [go_sem,reduceIte,nqD,nqL, e0, e1, e5, e6, e7, len34, g1, g2, la, idxA34, Int.toNat_natCast, Nat.mul_one, load3, w3, w3']
   rw [hsumE]
   simp (disch := omega) only [go_sem,reduceIte,nqD,nqL, e0, e1, e5, e6, e7, hrem]
   refine At_pushN (lo := h.next) (hi := h1.next) (l := L) (z := (carry + l.getD i 0 + m.getD i 0) % 10000) (A := A3) (by simp only [go_sem,reduceIte,nqD,nqL]) (by simp only [go_sem,reduceIte,nqD,nqL]) hsv nlr hG n1 (by omega) (by decide) (by decide) (by decide) fun A4 h5 pr5 hs5 n5 => ?_
   simp (disch := omega) only [go_sem,reduceIte,nqD,nqL, e0, e1, e5, e7, hdiv, w4, w5]
   refine hJ (j - 1) _ _ (by omega) ⟨i + 1, (carry + l.getD i 0 + m.getD i 0) / 10000, L ++ [(carry + l.getD i 0 + m.getD i 0) % 10000], A4, by omega, by omega, by simp only [go_sem,reduceIte,nqD,nqL, e0], by simp only [go_sem,reduceIte,nqD,nqL, e1], by simp only [go_sem,reduceIte,nqD,nqL], by simp only [go_sem,reduceIte,nqD,nqL], by simp only [go_sem,reduceIte,nqD,nqL], hs5, by simp [hL], hlL.app (Lim.one (by omega)), by omega, ?_, pr.trans pr5⟩
   rw [nv_snoc, hL, nv_take_getD (l := l), nv_take_getD (l := m)]
   exact add_step hinv
 ·have g1 : decide ((i : Int) < (l.length : Int)) = false := decide_eq_false (by omega)
  have eg : l.getD i 0 = 0 := by rw [List.getD_eq_getElem?_getD, List.getElem?_eq_none (by omega)]; rfl
  by_cases c2 : i < m.length
  ·have g2 : decide ((i : Int) < (m.length : Int)) = true := decide_eq_true (by omega)
   obtain ⟨a2, ha2⟩ := limb_at (l := m) (i := i) (by omega)
   obtain ⟨b2, off2, rfl, _, _, la2⟩ := nats_at hs2 ha2
   have eg2 : a2 = m.getD i 0 := by rw [List.getD_eq_getElem?_getD, ha2]; rfl
   rw [eg2] at la2
   have hi := (step (.inl (.inr c2))).1
   have hgl := getD_lt (i := i) (by omega) hl
   have hgm := getD_lt (i := i) (by omega) hm
   have w3 : IntKind.i64.wrap ((carry : Int) + ((l.getD i 0 : Nat) : Int)) = ((carry + l.getD i 0 : Nat) : Int) := wrap_nat (by omega) (by omega)
   have w3' : IntKind.i64.wrap (((carry + l.getD i 0 : Nat) : Int) + ((m.getD i 0 : Nat) : Int)) = ((carry + l.getD i 0 + m.getD i 0 : Nat) : Int) := wrap_nat (by omega) (by omega)
   have w3'' : IntKind.i64.wrap ((carry : Int) + ((m.getD i 0 : Nat) : Int)) = ((carry + m.getD i 0 : Nat) : Int) := wrap_nat (by omega) (by omega)
   have hsumE : carry + m.getD i 0 = carry + l.getD i 0 + m.getD i 0 := by omega
   have hrem : (((carry + l.getD i 0 + m.getD i 0 : Nat)) : Int).tmod 10000 = (((carry + l.getD i 0 + m.getD i 0) % 10000 : Nat) : Int) := by
    rw [Int.tmod_eq_emod_of_nonneg (by omega)]; rfl
   have hdiv : (((carry + l.getD i 0 + m.getD i 0 : Nat)) : Int).tdiv 10000 = (((carry + l.getD i 0 + m.getD i 0) / 10000 : Nat) : Int) := by
    rw [Int.tdiv_eq_ediv_of_nonneg (by omega)]; rfl
   have w4 : IntKind.i64.wrap (((carry + l.getD i 0 + m.getD i 0) / 10000 : Nat) : Int) = (((carry + l.getD i 0 + m.getD i 0) / 10000 : Nat) : Int) := wrap_nat rfl (by omega)
   have w5 : IntKind.i64.wrap ((i : Int) + 1) = ((i + 1 : Nat) : Int) := wrap_nat (by omega) (by omega)
   simp (disch := omega) only [go_sem,reduceIte,nqD,nqL, e0, e1, e5, e6, e7, len34, g1, g2, la2, idxA34, Int.toNat_natCast, Nat.mul_one, load3, w3, w3', w3'', hsumE, hrem]
   refine At_pushN (lo := h.next) (hi := h1.next) (l := L) (z := (carry + l.getD i 0 + m.getD i 0) % 10000) (A := A3) (by simp only [go_sem,reduceIte,nqD,nqL]) (by simp only [go_sem,reduceIte,nqD,nqL]) hsv nlr hG n1 (by omega) (by decide) (by decide) (by decide) fun A4 h5 pr5 hs5 n5 => ?_
   simp (disch := omega) only [go_sem,reduceIte,nqD,nqL, e0, e1, e5, e7, hdiv, w4, w5]
   refine hJ (j - 1) _ _ (by omega) ⟨i + 1, (carry + l.getD i 0 + m.getD i 0) / 10000, L ++ [(carry + l.getD i 0 + m.getD i 0) % 10000], A4, by omega, by omega, by simp only [go_sem,reduceIte,nqD,nqL, e0], by simp only [go_sem,reduceIte,nqD,nqL, e1], by simp only [go_sem,reduceIte,nqD,nqL], by simp only [go_sem,reduceIte,nqD,nqL], by simp only [go_sem,reduceIte,nqD,nqL], hs5, by simp [hL], hlL.app (Lim.one (by omega)), by omega, ?_, pr.trans pr5⟩
   rw [nv_snoc, hL, nv_take_getD (l := l), nv_take_getD (l := m)]
   exact add_step hinv
  ·have g2 : decide ((i : Int) < (m.length : Int)) = false := decide_eq_false (by omega)
   have eg2 : m.getD i 0 = 0 := by rw [List.getD_eq_getElem?_getD, List.getElem?_eq_none (by omega)]; rfl
   by_cases c3 : 0 < carry
   ·have g3 : decide ((0 : Int) < (carry : Int)) = true := decide_eq_true (by omega)
    have hi := (step (.inr c3)).1
    have hgl := getD_lt (i := i) (by omega) hl
    have hgm := getD_lt (i := i) (by omega) hm
    have w3 : IntKind.i64.wrap ((carry : Int) + ((l.getD i 0 : Nat) : Int)) = ((carry + l.getD i 0 : Nat) : Int) := wrap_nat (by omega) (by omega)
    have w3' : IntKind.i64.wrap (((carry + l.getD i 0 : Nat) : Int) + ((m.getD i 0 : Nat) : Int)) = ((carry + l.getD i 0 + m.getD i 0 : Nat) : Int) := wrap_nat (by omega) (by omega)
    have w3'' : IntKind.i64.wrap ((carry : Int) + ((m.getD i 0 : Nat) : Int)) = ((carry + m.getD i 0 : Nat) : Int) := wrap_nat (by omega) (by omega)
    have hsumE : carry = carry + l.getD i 0 + m.getD i 0 := by omega
    have hrem : (((carry + l.getD i 0 + m.getD i 0 : Nat)) : Int).tmod 10000 = (((carry + l.getD i 0 + m.getD i 0) % 10000 : Nat) : Int) := by
     rw [Int.tmod_eq_emod_of_nonneg (by omega)]; rfl
    have hrem0 : ((carry : Nat) : Int).tmod 10000 = (((carry + l.getD i 0 + m.getD i 0) % 10000 : Nat) : Int) := by rw [← hrem, ← hsumE]
    have hdiv0 : ((carry : Nat) : Int).tdiv 10000 = (((carry + l.getD i 0 + m.getD i 0) / 10000 : Nat) : Int) := by rw [Int.tdiv_eq_ediv_of_nonneg (by omega), ← hsumE]; rfl
    have hdiv : (((carry + l.getD i 0 + m.getD i 0 : Nat)) : Int).tdiv 10000 = (((carry + l.getD i 0 + m.getD i 0) / 10000 : Nat) : Int) := by
     rw [Int.tdiv_eq_ediv_of_nonneg (by omega)]; rfl
    have w4 : IntKind.i64.wrap (((carry + l.getD i 0 + m.getD i 0) / 10000 : Nat) : Int) = (((carry + l.getD i 0 + m.getD i 0) / 10000 : Nat) : Int) := wrap_nat rfl (by omega)
    have w5 : IntKind.i64.wrap ((i : Int) + 1) = ((i + 1 : Nat) : Int) := wrap_nat (by omega) (by omega)
    simp (disch := omega) only [go_sem,reduceIte,nqD,nqL, e0, e1, e5, e6, e7, len34, g1, g2, g3, idxA34, Int.toNat_natCast, Nat.mul_one, load3, w3, w3', w3'', hrem0]
    refine At_pushN (lo := h.next) (hi := h1.next) (l := L) (z := (carry + l.getD i 0 + m.getD i 0) % 10000) (A := A3) (by simp only [go_sem,reduceIte,nqD,nqL]) (by simp only [go_sem,reduceIte,nqD,nqL]) hsv nlr hG n1 (by omega) (by decide) (by decide) (by decide) fun A4 h5 pr5 hs5 n5 => ?_
    simp (disch := omega) only [go_sem,reduceIte,nqD,nqL, e0, e1, e5, e6, e7, hdiv0, w4, w5]
    refine hJ (j - 1) _ _ (by omega) ⟨i + 1, (carry + l.getD i 0 + m.getD i 0) / 10000, L ++ [(carry + l.getD i 0 + m.getD i 0) % 10000], A4, by omega, by omega, by simp only [go_sem,reduceIte,nqD,nqL, e0], by simp only [go_sem,reduceIte,nqD,nqL, e1], by simp only [go_sem,reduceIte,nqD,nqL], by simp only [go_sem,reduceIte,nqD,nqL], by simp only [go_sem,reduceIte,nqD,nqL], hs5, by simp [hL], hlL.app (Lim.one (by omega)), by omega, ?_, pr.trans pr5⟩
    rw [nv_snoc, hL, nv_take_getD (l := l), nv_take_getD (l := m)]
    exact add_step hinv
   ·have g3 : decide ((0 : Int) < (carry : Int)) = false := decide_eq_false (by omega)
    simp (disch := omega) only [go_sem,reduceIte,nqD,nqL, e0, e1, e5, e6, e7, len34, g1, g2, g3]
    exact hdone (by omega)
end
end Go.Proofs.YthankillfhmfkaaGreatDoor.Ev
namespace Go.Proofs.YthankillfhmfkaaGreatDoor.Ev
open Go Go.Proofs Go.Lm
open Nat renaming reduceEqDiff → nqD, reduceLT → nqL
noncomputable section
set_option maxHeartbeats 8000000 in
theorem sizes_spec {G N c c' : Nat} {A A' : Option Addr} {l m : List Nat} {h : H} (hl : Lim 10000 l) (hm : Lim 10000 m) (nl : Nrm l) (nm : Nrm m) (hs : SlV h.blks 0 N 1 l.length (nats l) (.slice A l.length c)) (hs' : SlV h.blks 0 N 1 m.length (nats m) (.slice A' m.length c')) (hn : l.length ≤ 2000000) (hn' : m.length ≤ 2000000) :
  Spec Tryz.prog (En G) 103 [.slice A l.length c, .slice A' m.length c'] h fun z h' => z = .int .i64 (cmpI (nv 10000 l) (nv 10000 m)) ∧ h' = h := by
 have key : ∀ {z : Int}, (nv 10000 l < nv 10000 m ∧ z = -1 ∨ nv 10000 l = nv 10000 m ∧ z = 0 ∨ nv 10000 m < nv 10000 l ∧ z = 1) → z = cmpI (nv 10000 l) (nv 10000 m) := fun {z} hz => by
  unfold cmpI
  rcases hz with ⟨h1, rfl⟩ | ⟨h1, rfl⟩ | ⟨h1, rfl⟩
  ·rw [if_pos (by omega)]
  ·rw [if_neg (by omega), if_neg (by omega)]
  ·rw [if_neg (by omega), if_pos (by omega)]
 refine CallsE_enter (En_known (by decide)) (En_f.trans Tryz.func103) rfl ⟨Nat.le_of_ble_eq_true rfl, by decide⟩ fun Q' hQ' => ?_
 by_cases he : l.length = m.length
 ·have d1 : decide ((l.length : Int) ≠ (m.length : Int)) = false := decide_eq_false (by omega)
  simp (disch := omega) only [Tryz.f103, go_sem,reduceIte,nqD,nqL, len34, d1, wrap_i64]
  refine WK_loopN (fun j α h2 => h = h2 ∧ j ≤ l.length ∧ α.get 0 = some (.slice A l.length c) ∧ α.get 1 = some (.slice A' m.length c') ∧ α.get 5 = some (.int .i64 ((j : Int) - 1)) ∧ l.drop j = m.drop j) l.length
   ⟨rfl, Nat.le_refl _, by simp only [go_sem,reduceIte,nqD,nqL], by simp only [go_sem,reduceIte,nqD,nqL], by simp only [go_sem,reduceIte,nqD,nqL], by rw [List.drop_length, he, List.drop_length]⟩ (by omega) ?_
  rintro J j α h2 ⟨rfl, hj, e0, e1, e5, hd⟩ hJ
  cases j with
  | zero =>
   have d0 : decide ((0 : Int) ≤ ((0 : Nat) : Int) - 1) = false := rfl
   simp (disch := omega) only [go_sem,reduceIte,nqD,nqL, e0, e1, e5, d0]
   refine hQ' _ _ ⟨Pres.refl _ _, congrArg _ (key (.inr (.inl ⟨?_, rfl⟩))), rfl⟩
   rw [list_eq_drop hd]
  | succ j =>
   obtain ⟨a, ha⟩ := limb_at (l := l) (i := j) (by omega)
   obtain ⟨a', ha'⟩ := limb_at (l := m) (i := j) (by omega)
   obtain ⟨b, off, rfl, _, _, la⟩ := nats_at hs ha
   obtain ⟨b', off', rfl, _, _, la'⟩ := nats_at hs' ha'
   have j1 : ((j + 1 : Nat) : Int) - 1 = (j : Int) := by omega
   have d0 : decide ((0 : Int) ≤ (j : Int)) = true := decide_eq_true (by omega)
   rw [j1] at e5
   simp (disch := omega) only [go_sem,reduceIte,nqD,nqL, e0, e1, e5, d0]
   refine WK_regionT 8 ⟨by kernel_rfl, by kernel_rfl, by kernel_rfl⟩ ?_
   by_cases hlt : a < a'
   ·have d2 : decide ((a : Int) < (a' : Int)) = true := decide_eq_true (by omega)
    simp (disch := omega) only [go_sem,reduceIte,nqD,nqL, e0, e1, e5, idxA34, Int.toNat_natCast, Nat.mul_one, load3, la, la', d2]
    refine hQ' _ _ ⟨Pres.refl _ _, congrArg _ (key (.inl ⟨nv_top_lt hl ha ha' hlt hd, rfl⟩)), rfl⟩
   ·have d2 : decide ((a : Int) < (a' : Int)) = false := decide_eq_false (by omega)
    simp (disch := omega) only [go_sem,reduceIte,nqD,nqL, e0, e1, e5, idxA34, Int.toNat_natCast, Nat.mul_one, load3, la, la', d2]
    refine WK_regionT 8 ⟨by kernel_rfl, by kernel_rfl, by kernel_rfl⟩ ?_
    by_cases hgt : a' < a
    ·have d3 : decide ((a' : Int) < (a : Int)) = true := decide_eq_true (by omega)
     simp (disch := omega) only [go_sem,reduceIte,nqD,nqL, e0, e1, e5, idxA34, Int.toNat_natCast, Nat.mul_one, load3, la, la', d3]
     refine hQ' _ _ ⟨Pres.refl _ _, congrArg _ (key (.inr (.inr ⟨nv_top_lt hm ha' ha hgt hd.symm, rfl⟩))), rfl⟩
    ·have d3 : decide ((a' : Int) < (a : Int)) = false := decide_eq_false (by omega)
     simp (disch := omega) only [go_sem,reduceIte,nqD,nqL, e0, e1, e5, idxA34, Int.toNat_natCast, Nat.mul_one, load3, la, la', d3, wrap_i64]
     refine hJ j _ _ (by omega) ⟨rfl, by omega, by simp only [go_sem,reduceIte,nqD,nqL, e0], by simp only [go_sem,reduceIte,nqD,nqL, e1], by simp only [go_sem,reduceIte,nqD,nqL], ?_⟩
     rw [drop_get ha, drop_get ha', hd, show a = a' by omega]
 ·have d1 : decide ((l.length : Int) ≠ (m.length : Int)) = true := decide_eq_true (by omega)
  by_cases hlt : l.length < m.length
  ·have d2 : decide ((l.length : Int) < (m.length : Int)) = true := decide_eq_true (by omega)
   simp (disch := omega) only [Tryz.f103, go_sem,reduceIte,nqD,nqL, len34, d1, d2]
   refine hQ' _ _ ⟨Pres.refl _ _, congrArg _ (key (.inl ⟨nv_len_lt (by omega) hl nm hlt, rfl⟩)), rfl⟩
  ·have d2 : decide ((l.length : Int) < (m.length : Int)) = false := decide_eq_false (by omega)
   simp (disch := omega) only [Tryz.f103, go_sem,reduceIte,nqD,nqL, len34, d1, d2]
   refine hQ' _ _ ⟨Pres.refl _ _, congrArg _ (key (.inr (.inr ⟨nv_len_lt (by omega) hm nl (by omega), rfl⟩))), rfl⟩
theorem less_step {B i x y w : Nat} {S a b : Nat} (h : S + b = a + B ^ i * w) (hB : 0 < B) : 
  (y + w ≤ x → (S + B ^ i * (x - w - y)) + (b + B ^ i * y) = (a + B ^ i * x) + B ^ (i + 1) * 0) ∧
  (x < y + w → x < B → y < B → w ≤ 1 → (S + B ^ i * (x + B - w - y)) + (b + B ^ i * y) = (a + B ^ i * x) + B ^ (i + 1) * 1) := by
 constructor
 ·intro h1
  obtain ⟨z, rfl⟩ := Nat.exists_eq_add_of_le h1
  rw [show y + w + z - w - y = z by omega]
  grind
 ·intro h1 h2 h3 h4
  obtain ⟨z, hz⟩ : ∃ z, x + B = y + w + z := ⟨x + B - (y + w), by omega⟩
  rw [hz, show y + w + z - w - y = z by omega, Nat.pow_succ]
  grind
set_option maxHeartbeats 8000000 in
set_option maxRecDepth 100000 in
theorem less_spec {G N c c' : Nat} {A A' : Option Addr} {l m : List Nat} {h : H} (hG : G ≤ h.next) (hN : N ≤ h.next) (hl : Lim 10000 l) (hm : Lim 10000 m) (nm : Nrm m) (hle : nv 10000 m ≤ nv 10000 l) (hs : SlV h.blks 0 N 1 l.length (nats l) (.slice A l.length c)) (hs' : SlV h.blks 0 N 1 m.length (nats m) (.slice A' m.length c')) (hn : l.length ≤ 1000000) :
  Spec Tryz.prog (En G) 104 [.slice A l.length c, .slice A' m.length c'] h fun w h' => ∃ L A3 c3, w = .slice A3 L.length c3 ∧ SlV h'.blks 0 h'.next 1 L.length (nats L) (.slice A3 L.length c3) ∧ Lim 10000 L ∧ nv 10000 L = nv 10000 l - nv 10000 m ∧ L.length = l.length := by
 have hml : m.length ≤ l.length := by
  rcases Nat.lt_or_ge l.length m.length with h1 | h1
  ·have := nv_len_lt (B := 10000) (by omega) hl nm h1; omega
  ·exact h1
 refine CallsE_enter (En_known (by decide)) (En_f.trans Tryz.func104) rfl ⟨Nat.le_of_ble_eq_true rfl, by decide⟩ fun Q' hQ' => ?_
 simp (disch := omega) only [Tryz.f104, go_sem,reduceIte,nqD,nqL]
 refine At_lit0 u34 i3 zero3 (by rw [size3]; rfl) (by omega) ?_
 simp (disch := omega) only [go_sem,reduceIte,nqD,nqL]
 refine WK_loopN (fun j α h1 => ∃ (i w : Nat) (L : List Nat) (A3 : Option Addr), i + j = l.length ∧ α.get 0 = some (.slice A l.length c) ∧ α.get 1 = some (.slice A' m.length c') ∧ α.get 5 = some (.slice A3 L.length L.length) ∧ α.get 6 = some (.int .i64 (w : Int)) ∧ α.get 7 = some (.int .i64 (i : Int)) ∧
   SlV h1.blks h.next h1.next 1 L.length (nats L) (.slice A3 L.length L.length) ∧ L.length = i ∧ Lim 10000 L ∧ w ≤ 1 ∧ nv 10000 L + nv 10000 (m.take i) = nv 10000 (l.take i) + 10000 ^ i * w ∧ Pres h.next h h1) l.length
  ⟨0, 0, [], _, by omega, by simp only [go_sem,reduceIte,nqD,nqL], by simp only [go_sem,reduceIte,nqD,nqL], by (simp only [go_sem,reduceIte,nqD,nqL]) <;> rfl, by (simp only [go_sem,reduceIte,nqD,nqL]) <;> rfl, by (simp only [go_sem,reduceIte,nqD,nqL]) <;> rfl, .emp rfl rfl, rfl, Lim.nil, by omega, by simp [nv], Pres.refl _ _⟩ (by omega) ?_
 rintro J j α h1 ⟨i, w, L, A3, hij, e0, e1, e5, e6, e7, hsv, hL, hlL, hw1, hinv, pr⟩ hJ
 have n1 := pr.next
 have hs1 := hs.mono (B' := h1.blks) fun b _ hb => pr.get b (by omega)
 have hs2 := hs'.mono (B' := h1.blks) fun b _ hb => pr.get b (by omega)
 by_cases c1 : i < l.length
 ·have g1 : decide ((i : Int) < (l.length : Int)) = true := decide_eq_true (by omega)
  obtain ⟨a, ha⟩ := limb_at (l := l) (i := i) (by omega)
  have hal := hl.get ha
  have hbm := getD_lt (i := i) (by omega) hm
  obtain ⟨b, off, rfl, _, _, la⟩ := nats_at hs1 ha
  have w3 : IntKind.i64.wrap ((a : Int) - (w : Int)) = (a : Int) - (w : Int) := wrap_i64 (by omega) (by omega)
  have w3' : IntKind.i64.wrap ((a : Int) - (w : Int) - ((m.getD i 0 : Nat) : Int)) = (a : Int) - (w : Int) - ((m.getD i 0 : Nat) : Int) := wrap_i64 (by omega) (by omega)
  have w5 : IntKind.i64.wrap ((i : Int) + 1) = ((i + 1 : Nat) : Int) := wrap_nat (by omega) (by omega)
  have st1 := less_step (B := 10000) (x := a) (y := m.getD i 0) hinv (by omega)
  simp (disch := omega) only [go_sem,reduceIte,nqD,nqL, e0, e1, e5, e6, e7, len34, g1, idxA34, Int.toNat_natCast, Nat.mul_one, load3, la, w3]
  refine CondO_cut (fun α' h' => h1 = h' ∧ α'.get 0 = some (.slice (some ⟨b, off, none⟩) l.length c) ∧ α'.get 1 = some (.slice A' m.length c') ∧ α'.get 5 = some (.slice A3 L.length L.length) ∧ α'.get 7 = some (.int .i64 (i : Int)) ∧ α'.get 8 = some (.int .i64 ((a : Int) - (w : Int) - ((m.getD i 0 : Nat) : Int)))) ?_ ?_
  ·by_cases hx : (i : Int) < m.length
   ·obtain ⟨a2, ha2⟩ := limb_at (l := m) (i := i) (by omega)
    obtain ⟨b2, off2, rfl, _, _, la2⟩ := nats_at hs2 ha2
    have eg : a2 = m.getD i 0 := by rw [List.getD_eq_getElem?_getD, ha2]; rfl
    rw [eg] at la2
    have dx : decide ((i : Int) < (m.length : Int)) = true := decide_eq_true hx
    simp (disch := omega) only [go_sem,reduceIte,nqD,nqL, e0, e1, e5, e7, dx, idxA34, Int.toNat_natCast, Nat.mul_one, load3, la2, w3']
    exact ⟨trivial, by simp only [go_sem,reduceIte,nqD,nqL, e0], by simp only [go_sem,reduceIte,nqD,nqL, e1], by simp only [go_sem,reduceIte,nqD,nqL, e5], by simp only [go_sem,reduceIte,nqD,nqL, e7], by simp only [go_sem,reduceIte,nqD,nqL]⟩
   ·have eg : m.getD i 0 = 0 := by rw [List.getD_eq_getElem?_getD, List.getElem?_eq_none (by omega)]; rfl
    have dx : decide ((i : Int) < (m.length : Int)) = false := decide_eq_false hx
    simp (disch := omega) only [go_sem,reduceIte,nqD,nqL, e0, e1, e5, e7, dx]
    exact ⟨trivial, by simp only [go_sem,reduceIte,nqD,nqL, e0], by simp only [go_sem,reduceIte,nqD,nqL, e1], by simp only [go_sem,reduceIte,nqD,nqL, e5], by simp only [go_sem,reduceIte,nqD,nqL, e7], by (simp only [go_sem,reduceIte,nqD,nqL, eg]) <;> simp⟩
  clear e0 e1 e5 e6 e7
  rintro α h2 ⟨rfl, e0, e1, e5, e7, e8⟩
  generalize hxb : m.getD i 0 = y at *
  by_cases hneg : a < y + w
  ·have d8 : decide ((a : Int) - (w : Int) - (y : Int) < 0) = true := decide_eq_true (by omega)
   have w9 : IntKind.i64.wrap ((a : Int) - (w : Int) - (y : Int) + 10000) = ((a + 10000 - w - y : Nat) : Int) := wrap_nat (by omega) (by omega)
   simp (disch := omega) only [go_sem,reduceIte,nqD,nqL, e0, e1, e5, e7, e8, d8, w9]
   refine At_pushN (lo := h.next) (hi := h1.next) (l := L) (z := a + 10000 - w - y) (A := A3) (by simp only [go_sem,reduceIte,nqD,nqL]) (by simp only [go_sem,reduceIte,nqD,nqL, e5]) hsv nlr hG n1 (by omega) (by decide) (by decide) (by decide) fun A4 h5 pr5 hs5 n5 => ?_
   simp (disch := omega) only [go_sem,reduceIte,nqD,nqL, e0, e1, e5, e7, w5]
   refine hJ (j - 1) _ _ (by omega) ⟨i + 1, 1, L ++ [a + 10000 - w - y], A4, by omega, by simp only [go_sem,reduceIte,nqD,nqL, e0], by simp only [go_sem,reduceIte,nqD,nqL, e1], by simp only [go_sem,reduceIte,nqD,nqL], by (simp only [go_sem,reduceIte,nqD,nqL]) <;> rfl, by simp only [go_sem,reduceIte,nqD,nqL], hs5, by simp [hL], hlL.app (Lim.one (by omega)), by omega, ?_, pr.trans pr5⟩
   rw [nv_snoc, hL, nv_take_succ ha, nv_take_getD (l := m), hxb]
   exact st1.2 hneg hal hbm hw1
  ·have d8 : decide ((a : Int) - (w : Int) - (y : Int) < 0) = false := decide_eq_false (by omega)
   have w9 : (a : Int) - (w : Int) - (y : Int) = ((a - w - y : Nat) : Int) := by omega
   simp (disch := omega) only [go_sem,reduceIte,nqD,nqL, e0, e1, e5, e7, e8, d8]
   refine At_pushN (lo := h.next) (hi := h1.next) (l := L) (z := a - w - y) (A := A3) (by (simp only [go_sem,reduceIte,nqD,nqL, e8]) <;> rw [w9]) (by simp only [go_sem,reduceIte,nqD,nqL, e5]) hsv nlr hG n1 (by omega) (by decide) (by decide) (by decide) fun A4 h5 pr5 hs5 n5 => ?_
   simp (disch := omega) only [go_sem,reduceIte,nqD,nqL, e0, e1, e5, e7, w5]
   refine hJ (j - 1) _ _ (by omega) ⟨i + 1, 0, L ++ [a - w - y], A4, by omega, by simp only [go_sem,reduceIte,nqD,nqL, e0], by simp only [go_sem,reduceIte,nqD,nqL, e1], by simp only [go_sem,reduceIte,nqD,nqL], by (simp only [go_sem,reduceIte,nqD,nqL]) <;> rfl, by simp only [go_sem,reduceIte,nqD,nqL], hs5, by simp [hL], hlL.app (Lim.one (by omega)), by omega, ?_, pr.trans pr5⟩
   rw [nv_snoc, hL, nv_take_succ ha, nv_take_getD (l := m), hxb]
   exact st1.1 (by omega)
 ·have g1 : decide ((i : Int) < (l.length : Int)) = false := decide_eq_false (by omega)
  simp (disch := omega) only [go_sem,reduceIte,nqD,nqL, e0, e1, e5, e6, e7, len34, g1]
  refine hQ' _ _ ⟨pr, L, A3, _, rfl, hsv.wide (Nat.zero_le _) nlr, hlL, ?_, by omega⟩
  rw [List.take_of_length_le (by omega), List.take_of_length_le (by omega)] at hinv
  have hlt := nv_lt hlL
  rw [show L.length = i from hL] at hlt
  have hw0 : w = 0 := by
   rcases Nat.eq_zero_or_pos w with e | e
   ·exact e
   ·obtain rfl : w = 1 := by omega
    rw [Nat.mul_one] at hinv; omega
  rw [hw0, Nat.mul_zero, Nat.add_zero] at hinv
  omega
end
end Go.Proofs.YthankillfhmfkaaGreatDoor.Ev
namespace Go.Proofs.YthankillfhmfkaaGreatDoor.Ev
open Go Go.Proofs Go.Lm
open Nat renaming reduceEqDiff → nqD, reduceLT → nqL
noncomputable section
theorem eqBl {a b : Bool} : pureRun Tryz.prog (do eqGuard .eql 4 (.tmp 0) (.tmp 0) (.bool a) (.bool b); binOp .eql 4 (.bool a) (.bool b)) = some (.bool (a == b)) := by
 cases a <;> cases b <;> kernel_rfl
theorem eq_bool {G : Nat} {a b : Bool} : binO Tryz.prog (En G) .eql 4 (some (.bool a)) (some (.bool b)) = some (.bool (a == b)) := by
 have h1 : (plainA (.bool a) && plainA (.bool b)) = true := rfl
 have h2 : fastBin .eql (.bool a) (.bool b) = none := rfl
 simp only [binO, h1, if_true, h2, slowBin, eqBl]
 rfl
theorem build60 {G : Nat} {s : Bool} {A : Option Addr} {n c : Nat} : buildO (En G) 60 (some [(0, .bool s), (1, .slice A n c)]) = some (.agg #[.bool s, .slice A n c]) := by
 have hu : (En G).u 60 = some (.struct #[_, _]) := us60.trans Tryz.underlying60
 have hz : okConst (.agg #[.bool false, .slice none 0 0]) = true := rfl
 simp only [buildO, evBuild, i60, hu, zero60, places, i4, size4, i34, size34, hz, if_true]
 rfl
theorem build60s {G : Nat} {s : Bool} : buildO (En G) 60 (some [(0, .bool s)]) = some (.agg #[.bool s, .slice none 0 0]) := by
 have hu : (En G).u 60 = some (.struct #[_, _]) := us60.trans Tryz.underlying60
 have hz : okConst (.agg #[.bool false, .slice none 0 0]) = true := rfl
 simp only [buildO, evBuild, i60, hu, zero60, places, i4, size4, i34, size34, hz, if_true]
 rfl
theorem noI_s {s : Bool} {A : Option Addr} {n c : Nat} : [Value.bool s, .slice A n c].all (fun v => !isI v) = true := rfl
theorem st_blks {q : Bool} {h : H} : (st q h).blks = h.blks := by cases q <;> rfl
theorem st_next {q : Bool} {h : H} : (st q h).next = h.next := by cases q <;> rfl
theorem RZ.congr {B : Tr Blk} {N x x' : Nat} {s s' : Bool} {v : Value} (a : RZ B N s x v) (h1 : s = s') (h2 : x = x') : RZ B N s' x' v := by
 subst h1; subst h2; exact a
theorem ZV.pres {h h' : H} {m N : Nat} {z : Int} {v : Value} (a : ZV h.blks N z v) (p : Pres m h h') (hN : N ≤ m) : ZV h'.blks N z v := RZ.pres a p hN
theorem ZV.wide {B : Tr Blk} {N N' : Nat} {z : Int} {v : Value} (a : ZV B N z v) (h : N ≤ N') : ZV B N' z v := RZ.wide a h
theorem ZV.sto {h h' : H} {N b off : Nat} {z : Int} {v : Value} {L vs : List Value} (hv : ZV h.blks N z v) (hs : Sto h h' b off vs) (hvar : Var h.blks b L) (hL : L.all (fun v => !isI v) = true) : ZV h'.blks N z v := RZ.sto hv hs hvar hL
theorem ZV.shape {B : Tr Blk} {N : Nat} {z : Int} {v : Value} (a : ZV B N z v) : ∃ A n c, v = .agg #[.bool (decide (z < 0)), .slice A n c] := by
 obtain ⟨l, A, c, rfl, _⟩ := a
 exact ⟨A, _, c, rfl⟩
theorem RZ.shape {B : Tr Blk} {N x : Nat} {s : Bool} {v : Value} (a : RZ B N s x v) : ∃ A n c, v = .agg #[.bool s, .slice A n c] := by
 obtain ⟨l, A, c, rfl, _⟩ := a
 exact ⟨A, _, c, rfl⟩
set_option maxHeartbeats 16000000 in
set_option maxRecDepth 100000 in
theorem Add_spec {G N : Nat} {a b : Int} {v u : Value} {h : H} (hG : G ≤ h.next) (hN : N ≤ h.next) (hv : ZV h.blks N a v) (hu : ZV h.blks N b u) (ha : Sr a.natAbs) (hb : Sr b.natAbs) :
  Spec Tryz.prog (En G) 77 [v, u] h fun w h' => ZV h'.blks h'.next (a + b) w := by
 obtain ⟨l, A, c, rfl, hs, hl, hn, el⟩ := hv
 obtain ⟨m, A', c', rfl, hs', hl', hn', em⟩ := hu
 rw [← el] at ha
 rw [← em] at hb
 have hlen := ha.len hn
 have hlen' := hb.len hn'
 refine CallsE_enter (En_known (by decide)) (En_f.trans Tryz.func77) rfl ⟨Nat.le_of_ble_eq_true rfl, by decide⟩ fun Q' hQ' => ?_
 simp (disch := omega) only [Tryz.f77, go_sem,reduceIte,nqD,nqL]
 refine At_box (v := .agg #[.bool (decide (a < 0)), .slice A l.length c]) (by simp only [go_sem,reduceIte,nqD,nqL]) (by omega) fun h1 hn1 => ?_
 have n1 := hn1.next
 have pr1 : Pres h.next h h1 := hn1.pres nlr
 have x1 : Var h1.blks h.next [.bool (decide (a < 0)), .slice A l.length c] := hn1.var
 try simp (disch := omega) only [go_sem,reduceIte,nqD,nqL]
 refine At_box (v := .agg #[.bool (decide (b < 0)), .slice A' m.length c']) (by simp only [go_sem,reduceIte,nqD,nqL]) (by omega) fun h2 hn2 => ?_
 have n2 := hn2.next
 have pr2 : Pres h.next h h2 := pr1.trans ((hn2.pres nlr).le (by omega))
 have x2 : Var h2.blks h1.next [.bool (decide (b < 0)), .slice A' m.length c'] := hn2.var
 replace x1 := x1.mono (B' := h2.blks) (by rw [hn2.get, if_neg (by omega)])
 try simp (disch := omega) only [go_sem,reduceIte,nqD,nqL]
 refine At_alloc i60 zero60 rfl (by omega) fun h3 hn3 => ?_
 have n3 := hn3.next
 have pr3 : Pres h.next h h3 := pr2.trans ((hn3.pres nlr).le (by omega))
 have x3 : Var h3.blks h2.next [.bool false, .slice none 0 0] := hn3.var
 replace x1 := x1.mono (B' := h3.blks) (by rw [hn3.get, if_neg (by omega)])
 replace x2 := x2.mono (B' := h3.blks) (by rw [hn3.get, if_neg (by omega)])
 have l10 : loadv h3.blks h.next 0 = some (.bool (decide (a < 0))) := by rw [x1.load (by simp)]; rfl
 have l11 : loadv h3.blks h.next 1 = some (.slice A l.length c) := by rw [x1.load (by simp)]; rfl
 have l20 : loadv h3.blks h1.next 0 = some (.bool (decide (b < 0))) := by rw [x2.load (by simp)]; rfl
 have l21 : loadv h3.blks h1.next 1 = some (.slice A' m.length c') := by rw [x2.load (by simp)]; rfl
 have hs1 := hs.mono (B' := h3.blks) fun b _ hb => pr3.get b (by omega)
 have hs2 := hs'.mono (B' := h3.blks) fun b _ hb => pr3.get b (by omega)
 clear hn1 hn2 hn3 x1 x2
 have hfin : ∀ {h5 : H} {w : Value} {s : Bool} {x : Nat}, Pres h3.next h3 h5 → RZ h5.blks h5.next s x w → s = decide (a + b < 0) → x = (a + b).natAbs → ∀ {h6 : H}, Sto h5 h6 h2.next 0 w.cells.toList → Q' w h6 := fun {h5 w s x} p5 hw e1 e2 {h6} hs6 => by
  have n5 := p5.next
  refine hQ' _ _ ⟨(pr3.trans (p5.le (by omega))).trans (hs6.pres (by omega)), ?_⟩
  exact ((hw.congr e1 e2).sto hs6 (x3.mono (p5.get _ (by omega))) noI_s).wide (by have := hs6.next; omega)
 simp (disch := omega) only [go_sem,reduceIte,nqD,nqL, fld60_0, load4, Nat.zero_add, l10, l20, eq_bool]
 by_cases hsg : (decide (a < 0) == decide (b < 0)) = true
 ·have hsg' : decide (a < 0) = decide (b < 0) := by simpa using hsg
  rw [decide_eq_decide] at hsg'
  simp (disch := omega) only [hsg, go_sem,reduceIte,nqD,nqL]
  refine WK_regionT 7 ⟨by kernel_rfl, by kernel_rfl, by kernel_rfl⟩ ?_
  simp (disch := omega) only [go_sem,reduceIte,nqD,nqL, fld60_0, fld60_1, load4, load34, Nat.zero_add, l10, l11, l21]
  refine CallO_spec (plus_ref (N := N) (by rw [st_next]; omega) (by rw [st_next]; omega) hl hl' (by rw [st_blks]; exact hs1) (by rw [st_blks]; exact hs2) hlen hlen') (by omega) (fun _ _ _ h => h) fun w4 h4 pr4 hw4 => ?_
  have n4 := pr4.next
  obtain ⟨L, A3, c3, rfl, hsL, hlL, eL, hLn⟩ := hw4
  simp (disch := omega) only [go_sem,reduceIte,nqD,nqL, build60]
  refine CallO_spec (lean_spec (N := h4.next) (by rw [st_next]; omega) (by rw [st_next]; omega) hlL (by rw [st_blks]; exact hsL) (by omega)) (by omega) (fun _ _ _ h => h) fun w5 h5 pr5 hw5 => ?_
  have n5 := pr5.next
  obtain ⟨A5, nl5, c5, e5⟩ := hw5.shape
  subst e5
  try simp (disch := omega) only [go_sem,reduceIte,nqD,nqL]
  refine At_storeV (inf := inf60) (v := .agg #[.bool (decide (a < 0) && decide (nv 10000 L ≠ 0)), .slice A5 nl5 c5]) i60 (by simp only [go_sem,reduceIte,nqD,nqL]) (by simp only [go_sem,reduceIte,nqD,nqL]) (x3.mono ((pr5.get _ (by omega)).trans (pr4.get _ (by omega)))) (by rw [size60]; rfl) (by rw [size60]; rfl) rfl (by show G ≤ h2.next; omega) fun h6 hs6 v6 => ?_
  have r6 := v6.znE (G := G) rfl
  simp (disch := omega) only [go_sem,reduceIte,nqD,nqL, r6]
  refine hfin (pr4.trans (pr5.le (by omega))) hw5 ?_ (by omega) hs6
  rw [← Bool.decide_and, decide_eq_decide]; omega
 ·have hsg0 : (decide (a < 0) == decide (b < 0)) = false := by simpa using hsg
  have hsg' : ¬ (a < 0 ↔ b < 0) := fun e => hsg (by simp [e])
  simp (disch := omega) only [go_sem,reduceIte,nqD,nqL, hsg0, fld60_1, load34, Nat.zero_add, l11, l21]
  refine CallO_same (sizes_spec (N := N) hl hl' hn hn' hs1 hs2 (by omega) (by omega)) (by omega) fun u hu => ?_
  subst hu
  by_cases hge : m.length = m.length ∧ nv 10000 m ≤ nv 10000 l
  ·obtain ⟨_, hge⟩ := hge
   have d1 : decide ((0 : Int) ≤ cmpI (nv 10000 l) (nv 10000 m)) = true := decide_eq_true (by unfold cmpI; split <;> first | omega | (split <;> omega))
   simp (disch := omega) only [go_sem,reduceIte,nqD,nqL, d1]
   refine WK_regionT 7 ⟨by kernel_rfl, by kernel_rfl, by kernel_rfl⟩ ?_
   simp (disch := omega) only [go_sem,reduceIte,nqD,nqL, fld60_0, fld60_1, load4, load34, Nat.zero_add, l10, l11, l21]
   refine CallO_spec (less_spec (N := N) (by rw [st_next]; omega) (by rw [st_next]; omega) hl hl' hn' hge (by rw [st_blks]; exact hs1) (by rw [st_blks]; exact hs2) hlen) (by omega) (fun _ _ _ h => h) fun w4 h4 pr4 hw4 => ?_
   have n4 := pr4.next
   obtain ⟨L, A3, c3, rfl, hsL, hlL, eL, hLn⟩ := hw4
   simp (disch := omega) only [go_sem,reduceIte,nqD,nqL, build60]
   refine CallO_spec (lean_spec (N := h4.next) (by rw [st_next]; omega) (by rw [st_next]; omega) hlL (by rw [st_blks]; exact hsL) (by omega)) (by omega) (fun _ _ _ h => h) fun w5 h5 pr5 hw5 => ?_
   have n5 := pr5.next
   obtain ⟨A5, nl5, c5, e5⟩ := hw5.shape
   subst e5
   try simp (disch := omega) only [go_sem,reduceIte,nqD,nqL]
   refine At_storeV (inf := inf60) (v := .agg #[.bool (decide (a < 0) && decide (nv 10000 L ≠ 0)), .slice A5 nl5 c5]) i60 (by simp only [go_sem,reduceIte,nqD,nqL]) (by simp only [go_sem,reduceIte,nqD,nqL]) (x3.mono ((pr5.get _ (by omega)).trans (pr4.get _ (by omega)))) (by rw [size60]; rfl) (by rw [size60]; rfl) rfl (by show G ≤ h2.next; omega) fun h6 hs6 v6 => ?_
   have r6 := v6.znE (G := G) rfl
   simp (disch := omega) only [go_sem,reduceIte,nqD,nqL, r6]
   refine hfin (pr4.trans (pr5.le (by omega))) hw5 ?_ (by omega) hs6
   rw [← Bool.decide_and, decide_eq_decide]; omega
  ·have hge : nv 10000 l < nv 10000 m := by omega
   have d1 : decide ((0 : Int) ≤ cmpI (nv 10000 l) (nv 10000 m)) = false := decide_eq_false (by unfold cmpI; rw [if_pos (by omega)]; omega)
   simp (disch := omega) only [go_sem,reduceIte,nqD,nqL, d1]
   refine WK_regionT 7 ⟨by kernel_rfl, by kernel_rfl, by kernel_rfl⟩ ?_
   simp (disch := omega) only [go_sem,reduceIte,nqD,nqL, fld60_0, fld60_1, load4, load34, Nat.zero_add, l20, l11, l21]
   refine CallO_spec (less_spec (N := N) (by rw [st_next]; omega) (by rw [st_next]; omega) hl' hl hn (by omega) (by rw [st_blks]; exact hs2) (by rw [st_blks]; exact hs1) hlen') (by omega) (fun _ _ _ h => h) fun w4 h4 pr4 hw4 => ?_
   have n4 := pr4.next
   obtain ⟨L, A3, c3, rfl, hsL, hlL, eL, hLn⟩ := hw4
   simp (disch := omega) only [go_sem,reduceIte,nqD,nqL, build60]
   refine CallO_spec (lean_spec (N := h4.next) (by rw [st_next]; omega) (by rw [st_next]; omega) hlL (by rw [st_blks]; exact hsL) (by omega)) (by omega) (fun _ _ _ h => h) fun w5 h5 pr5 hw5 => ?_
   have n5 := pr5.next
   obtain ⟨A5, nl5, c5, e5⟩ := hw5.shape
   subst e5
   try simp (disch := omega) only [go_sem,reduceIte,nqD,nqL]
   refine At_storeV (inf := inf60) (v := .agg #[.bool (decide (b < 0) && decide (nv 10000 L ≠ 0)), .slice A5 nl5 c5]) i60 (by simp only [go_sem,reduceIte,nqD,nqL]) (by simp only [go_sem,reduceIte,nqD,nqL]) (x3.mono ((pr5.get _ (by omega)).trans (pr4.get _ (by omega)))) (by rw [size60]; rfl) (by rw [size60]; rfl) rfl (by show G ≤ h2.next; omega) fun h6 hs6 v6 => ?_
   have r6 := v6.znE (G := G) rfl
   simp (disch := omega) only [go_sem,reduceIte,nqD,nqL, r6]
   refine hfin (pr4.trans (pr5.le (by omega))) hw5 ?_ (by omega) hs6
   rw [← Bool.decide_and, decide_eq_decide]; omega
end
end Go.Proofs.YthankillfhmfkaaGreatDoor.Ev
namespace Go.Proofs.YthankillfhmfkaaGreatDoor.Ev
open Go Go.Proofs Go.Lm
open Nat renaming reduceEqDiff → nqD, reduceLT → nqL
noncomputable section
set_option maxHeartbeats 8000000 in
theorem Neg_spec {G N : Nat} {a : Int} {v : Value} {h : H} (hG : G ≤ h.next) (hN : N ≤ h.next) (hv : ZV h.blks N a v) :
  Spec Tryz.prog (En G) 109 [v] h fun w h' => ZV h'.blks h'.next (-a) w := by
 have hv0 := hv
 obtain ⟨l, A, c, rfl, hs, hl, hn, el⟩ := hv
 have hz : nv 10000 l = 0 ↔ l.length = 0 := by rw [nrm_zero (by omega) hn, ← List.length_eq_zero_iff]
 refine CallsE_enter (En_known (by decide)) (En_f.trans Tryz.func109) rfl ⟨Nat.le_of_ble_eq_true rfl, by decide⟩ fun Q' hQ' => ?_
 simp (disch := omega) only [Tryz.f109, go_sem,reduceIte,nqD,nqL]
 refine At_box (v := .agg #[.bool (decide (a < 0)), .slice A l.length c]) (by simp only [go_sem,reduceIte,nqD,nqL]) (by omega) fun h1 hn1 => ?_
 have n1 := hn1.next
 have pr1 : Pres h.next h h1 := hn1.pres nlr
 have x1 : Var h1.blks h.next [.bool (decide (a < 0)), .slice A l.length c] := hn1.var
 try simp (disch := omega) only [go_sem,reduceIte,nqD,nqL]
 refine At_alloc i60 zero60 rfl (by omega) fun h3 hn3 => ?_
 have n3 := hn3.next
 have pr3 : Pres h.next h h3 := pr1.trans ((hn3.pres nlr).le (by omega))
 have x3 : Var h3.blks h1.next [.bool false, .slice none 0 0] := hn3.var
 replace x1 := x1.mono (B' := h3.blks) (by rw [hn3.get, if_neg (by omega)])
 have l10 : loadv h3.blks h.next 0 = some (.bool (decide (a < 0))) := by rw [x1.load (by simp)]; rfl
 have l11 : loadv h3.blks h.next 1 = some (.slice A l.length c) := by rw [x1.load (by simp)]; rfl
 have hfin : ∀ {s : Bool}, s = decide (-a < 0) → ∀ {h5 : H}, Sto h3 h5 h.next 0 [.bool s] → ∀ {h6 : H}, Sto h5 h6 h1.next 0 [.bool s, .slice A l.length c] → Q' (.agg #[.bool s, .slice A l.length c]) h6 := fun {s} e1 {h5} hs5 {h6} hs6 => by
  have n5 := hs5.next
  have n6 := hs6.next
  refine hQ' _ _ ⟨pr3.trans ((hs5.pres (by omega)).trans (hs6.pres (by omega))), l, A, c, by rw [e1], ?_, hl, hn, by omega⟩
  exact ((hs.mono (B' := h6.blks) fun b _ hb => by rw [hs6.get _ (by omega), hs5.get _ (by omega)]; exact pr3.get b (by omega))).wide nlr (by omega)
 by_cases hneg : a < 0
 ·have d0 : decide (a < 0) = true := decide_eq_true hneg
  rw [d0] at l10
  simp (disch := omega) only [go_sem,reduceIte,nqD,nqL, fld60_0, load4, Nat.add_zero, l10]
  refine At_store (inf := inf4) (b := h.next) (off := 0) (v := .bool false) i4 (by simp only [go_sem,reduceIte,nqD,nqL, fld60_0]) (by (simp only [go_sem,reduceIte,nqD,nqL]) <;> rfl) (by rw [size4]; rfl) rfl x1.choose_spec.choose_spec.1 (by rw [size4]; show 0 + 1 ≤ 2; omega) (by show G ≤ h.next; omega) fun h5 hs5 => ?_
  have x15 : Var h5.blks h.next [.bool false, .slice A l.length c] := hs5.varAt x1 (by show 0 + 1 ≤ 2; omega)
  have r1 := x15.zn (G := G) rfl
  simp (disch := omega) only [go_sem,reduceIte,nqD,nqL, r1]
  refine At_storeV (inf := inf60) (v := .agg #[.bool false, .slice A l.length c]) i60 (by simp only [go_sem,reduceIte,nqD,nqL]) (by simp only [go_sem,reduceIte,nqD,nqL]) (x3.mono (hs5.get _ (by omega))) (by rw [size60]; rfl) (by rw [size60]; rfl) rfl (by show G ≤ h1.next; omega) fun h6 hs6 v6 => ?_
  have r6 := v6.znE (G := G) rfl
  simp (disch := omega) only [go_sem,reduceIte,nqD,nqL, r6]
  exact hfin (by rw [Eq.comm, decide_eq_false_iff_not]; omega) hs5 hs6
 ·have d0 : decide (a < 0) = false := decide_eq_false hneg
  rw [d0] at l10
  have d1 : decide ((0 : Int) < (l.length : Int)) = decide (-a < 0) := decide_eq_decide.2 (by omega)
  simp (disch := omega) only [go_sem,reduceIte,nqD,nqL, fld60_0, fld60_1, load4, load34, Nat.add_zero, Nat.zero_add, l10, l11, len34, d1]
  refine At_store (inf := inf4) (b := h.next) (off := 0) (v := .bool (decide (-a < 0))) i4 (by simp only [go_sem,reduceIte,nqD,nqL, fld60_0]) (by (simp only [go_sem,reduceIte,nqD,nqL]) <;> rfl) (by rw [size4]; rfl) rfl x1.choose_spec.choose_spec.1 (by rw [size4]; show 0 + 1 ≤ 2; omega) (by show G ≤ h.next; omega) fun h5 hs5 => ?_
  have x15 : Var h5.blks h.next [.bool (decide (-a < 0)), .slice A l.length c] := hs5.varAt x1 (by show 0 + 1 ≤ 2; omega)
  have r1 := x15.zn (G := G) rfl
  simp (disch := omega) only [go_sem,reduceIte,nqD,nqL, r1]
  refine At_storeV (inf := inf60) (v := .agg #[.bool (decide (-a < 0)), .slice A l.length c]) i60 (by simp only [go_sem,reduceIte,nqD,nqL]) (by simp only [go_sem,reduceIte,nqD,nqL]) (x3.mono (hs5.get _ (by omega))) (by rw [size60]; rfl) (by rw [size60]; rfl) rfl (by show G ≤ h1.next; omega) fun h6 hs6 v6 => ?_
  have r6 := v6.znE (G := G) rfl
  simp (disch := omega) only [go_sem,reduceIte,nqD,nqL, r6]
  exact hfin rfl hs5 hs6
set_option maxHeartbeats 4000000 in
theorem Sub_spec {G N : Nat} {a b : Int} {v u : Value} {h : H} (hG : G ≤ h.next) (hN : N ≤ h.next) (hv : ZV h.blks N a v) (hu : ZV h.blks N b u) (ha : Sr a.natAbs) (hb : Sr b.natAbs) :
  Spec Tryz.prog (En G) 110 [v, u] h fun w h' => ZV h'.blks h'.next (a - b) w := by
 have hv0 := hv
 have hu0 := hu
 obtain ⟨A, n, c, rfl⟩ := hv.shape
 obtain ⟨A', n', c', rfl⟩ := hu.shape
 refine CallsE_enter (En_known (by decide)) (En_f.trans Tryz.func110) rfl ⟨Nat.le_of_ble_eq_true rfl, by decide⟩ fun Q' hQ' => ?_
 simp (disch := omega) only [Tryz.f110, go_sem,reduceIte,nqD,nqL]
 refine At_box (v := .agg #[.bool (decide (a < 0)), .slice A n c]) (by simp only [go_sem,reduceIte,nqD,nqL]) (by omega) fun h1 hn1 => ?_
 have n1 := hn1.next
 have pr1 : Pres h.next h h1 := hn1.pres nlr
 have x1 : Var h1.blks h.next [.bool (decide (a < 0)), .slice A n c] := hn1.var
 try simp (disch := omega) only [go_sem,reduceIte,nqD,nqL]
 refine At_box (v := .agg #[.bool (decide (b < 0)), .slice A' n' c']) (by simp only [go_sem,reduceIte,nqD,nqL]) (by omega) fun h2 hn2 => ?_
 have n2 := hn2.next
 have pr2 : Pres h.next h h2 := pr1.trans ((hn2.pres nlr).le (by omega))
 have x2 : Var h2.blks h1.next [.bool (decide (b < 0)), .slice A' n' c'] := hn2.var
 replace x1 := x1.mono (B' := h2.blks) (by rw [hn2.get, if_neg (by omega)])
 try simp (disch := omega) only [go_sem,reduceIte,nqD,nqL]
 refine At_alloc i60 zero60 rfl (by omega) fun h3 hn3 => ?_
 have n3 := hn3.next
 have pr3 : Pres h.next h h3 := pr2.trans ((hn3.pres nlr).le (by omega))
 have x3 : Var h3.blks h2.next [.bool false, .slice none 0 0] := hn3.var
 replace x1 := x1.mono (B' := h3.blks) (by rw [hn3.get, if_neg (by omega)])
 replace x2 := x2.mono (B' := h3.blks) (by rw [hn3.get, if_neg (by omega)])
 have r1 := x1.zn (G := G) rfl
 have r2 := x2.zn (G := G) rfl
 simp (disch := omega) only [go_sem,reduceIte,nqD,nqL]
 refine WK_regionT 3 ⟨by kernel_rfl, by kernel_rfl, by kernel_rfl⟩ ?_
 simp (disch := omega) only [go_sem,reduceIte,nqD,nqL, r1, r2]
 refine CallO_spec (Neg_spec (N := N) (by rw [st_next]; omega) (by rw [st_next]; omega) (by rw [st_blks]; exact hu0.pres pr3 hN)) (by omega) (fun _ _ _ h => h) fun w4 h4 pr4 hw4 => ?_
 have n4 := pr4.next
 simp (disch := omega) only [go_sem,reduceIte,nqD,nqL]
 refine CallO_spec (Add_spec (N := h4.next) (by rw [st_next]; omega) (by rw [st_next]; omega) (by rw [st_blks]; exact ((hv0.pres pr3 hN).pres pr4 (by omega)).wide (by omega)) (by rw [st_blks]; exact hw4) ha (by rw [Int.natAbs_neg]; exact hb)) (by omega) (fun _ _ _ h => h) fun w5 h5 pr5 hw5 => ?_
 have n5 := pr5.next
 obtain ⟨A5, nl5, c5, rfl⟩ := hw5.shape
 try simp (disch := omega) only [go_sem,reduceIte,nqD,nqL]
 refine At_storeV (inf := inf60) (v := .agg #[.bool (decide (a + -b < 0)), .slice A5 nl5 c5]) i60 (by simp only [go_sem,reduceIte,nqD,nqL]) (by simp only [go_sem,reduceIte,nqD,nqL]) (x3.mono ((pr5.get _ (by omega)).trans (pr4.get _ (by omega)))) (by rw [size60]; rfl) (by rw [size60]; rfl) rfl (by show G ≤ h2.next; omega) fun h6 hs6 v6 => ?_
 have n6 := hs6.next
 have r6 := v6.znE (G := G) rfl
 simp (disch := omega) only [go_sem,reduceIte,nqD,nqL, r6]
 refine hQ' _ _ ⟨((pr3.trans (pr4.le (by omega))).trans (pr5.le (by omega))).trans (hs6.pres (by omega)), ?_⟩
 rw [Int.sub_eq_add_neg]
 exact (hw5.sto hs6 (x3.mono ((pr5.get _ (by omega)).trans (pr4.get _ (by omega)))) noI_s).wide (by omega)
end
end Go.Proofs.YthankillfhmfkaaGreatDoor.Ev
namespace Go.Proofs.YthankillfhmfkaaGreatDoor.Ev
open Go Go.Proofs Go.Lm
open Nat renaming reduceEqDiff → nqD, reduceLT → nqL
noncomputable section
theorem tmod_abs (v : Int) : ∃ s : Int, (s = 1 ∨ s = -1) ∧ v.tmod 10000 = s * ((v.natAbs % 10000 : Nat) : Int) ∧ v.tdiv 10000 = s * ((v.natAbs / 10000 : Nat) : Int) ∧ v = s * (v.natAbs : Int) := by
 rcases Int.le_total 0 v with h | h
 ·refine ⟨1, .inl rfl, ?_, ?_, by omega⟩
  ·rw [Int.tmod_eq_emod_of_nonneg h]; omega
  ·rw [Int.tdiv_eq_ediv_of_nonneg h]; omega
 ·obtain ⟨w, rfl⟩ : ∃ w, v = -w := ⟨-v, by omega⟩
  refine ⟨-1, .inr rfl, ?_, ?_, by omega⟩
  ·rw [Int.neg_tmod, Int.tmod_eq_emod_of_nonneg (by omega)]; omega
  ·rw [Int.neg_tdiv, Int.tdiv_eq_ediv_of_nonneg (by omega)]; omega
theorem nv_div_step {S x k : Nat} : S + 10000 ^ k * (x % 10000) + 10000 ^ (k + 1) * (x / 10000) = S + 10000 ^ k * x := by
 have := Nat.mod_add_div x 10000
 rw [Nat.pow_succ]
 generalize x % 10000 = r at *
 generalize x / 10000 = q at *
 subst this
 grind
set_option maxHeartbeats 8000000 in
set_option maxRecDepth 100000 in
theorem Int_spec {G : Nat} {z : Int} {h : H} (hG : G ≤ h.next) (hlo : -9223372036854775808 ≤ z) (hhi : z ≤ 9223372036854775807) :
  Spec Tryz.prog (En G) 39 [.int .i64 z] h fun w h' => ZV h'.blks h'.next z w := by
 refine CallsE_enter (En_known (by decide)) (En_f.trans Tryz.func39) rfl ⟨Nat.le_of_ble_eq_true rfl, by decide⟩ fun Q' hQ' => ?_
 simp (disch := omega) only [Tryz.f39, go_sem,reduceIte,nqD,nqL]
 refine At_alloc i60 zero60 rfl (by omega) fun h1 hn1 => ?_
 have n1 := hn1.next
 have pr1 : Pres h.next h h1 := hn1.pres nlr
 have x1 : Var h1.blks h.next [.bool false, .slice none 0 0] := hn1.var
 try simp (disch := omega) only [go_sem,reduceIte,nqD,nqL, build60s]
 refine At_alloc i60 zero60 rfl (by omega) fun h2 hn2 => ?_
 have n2 := hn2.next
 have pr2 : Pres h.next h h2 := pr1.trans ((hn2.pres nlr).le (by omega))
 have x2 : Var h2.blks h1.next [.bool false, .slice none 0 0] := hn2.var
 replace x1 := x1.mono (B' := h2.blks) (by rw [hn2.get, if_neg (by omega)])
 try simp (disch := omega) only [go_sem,reduceIte,nqD,nqL, build60s]
 refine At_storeV (inf := inf60) (v := .agg #[.bool (decide (z < 0)), .slice none 0 0]) i60 (by simp only [go_sem,reduceIte,nqD,nqL]) (by simp only [go_sem,reduceIte,nqD,nqL]) x2 (by rw [size60]; rfl) (by rw [size60]; rfl) rfl (by show G ≤ h1.next; omega) fun h3 hs3 x3 => ?_
 have n3 := hs3.next
 have pr3 : Pres h.next h h3 := pr2.trans (hs3.pres (by omega))
 replace x1 := x1.mono (B' := h3.blks) (hs3.get _ (by omega))
 simp (disch := omega) only [go_sem,reduceIte,nqD,nqL]
 refine WK_loopN (fun j α h4 => ∃ (v : Int) (L : List Nat) (A : Option Addr), α.get 0 = some (.int .i64 v) ∧ α.get 2 = some (.pointer (some ⟨h.next, 0, none⟩)) ∧ α.get 3 = some (.pointer (some ⟨h1.next, 0, none⟩)) ∧ Var h4.blks h.next [.bool false, .slice none 0 0] ∧ Var h4.blks h1.next [.bool (decide (z < 0)), .slice A L.length L.length] ∧
   SlV h4.blks h3.next h4.next 1 L.length (nats L) (.slice A L.length L.length) ∧ Lim 10000 L ∧ (v = 0 → Nrm L) ∧ nv 10000 L + 10000 ^ L.length * v.natAbs = z.natAbs ∧ v.natAbs < 10000 ^ j ∧ v.natAbs ≤ 9223372036854775808 ∧ L.length + j = 5 ∧ Pres h.next h h4 ∧ h3.next ≤ h4.next) 5
  ⟨z, [], none, by simp only [go_sem,reduceIte,nqD,nqL], by simp only [go_sem,reduceIte,nqD,nqL], by simp only [go_sem,reduceIte,nqD,nqL], x1, x3, .nil rfl rfl, Lim.nil, fun _ => Nrm.nil, by simp [nv], by omega, by omega, rfl, pr3, Nat.le_refl _⟩ (by omega) ?_
 clear x1 x2 x3 hn1 hn2 hs3
 rintro J j α h4 ⟨v, L, A, e0, e2, e3, x1, x2, hsv, hlL, hnr, hinv, hvj, hvb, hLj, pr, hnx⟩ hJ
 by_cases hv0 : v = 0
 ·have d0 : decide (v ≠ 0) = false := decide_eq_false (by omega)
  have r2 := x2.zn (G := G) rfl
  simp (disch := omega) only [go_sem,reduceIte,nqD,nqL, e0, e2, e3, d0, r2]
  refine At_storeV (inf := inf60) (v := .agg #[.bool (decide (z < 0)), .slice A L.length L.length]) i60 (by simp only [go_sem,reduceIte,nqD,nqL, e2]) (by simp only [go_sem,reduceIte,nqD,nqL]) x1 (by rw [size60]; rfl) (by rw [size60]; rfl) rfl (by show G ≤ h.next; omega) fun h6 hs6 v6 => ?_
  have n6 := hs6.next
  have r6 := v6.znE (G := G) rfl
  simp (disch := omega) only [go_sem,reduceIte,nqD,nqL, e2, r6]
  refine hQ' _ _ ⟨pr.trans (hs6.pres (by omega)), L, A, _, rfl, ?_, hlL, hnr hv0, ?_⟩
  ·exact (hsv.mono fun b hb _ => hs6.get b (by omega)).wide (by omega) (by omega)
  ·rw [hv0] at hinv; simpa using hinv
 ·have d0 : decide (v ≠ 0) = true := decide_eq_true hv0
  have hj0 : j ≠ 0 := fun e => by
   rw [e, Nat.pow_zero] at hvj; omega
  obtain ⟨s, hs1, hmod, hdiv, hvs⟩ := tmod_abs v
  have hq : (v.tdiv 10000).natAbs = v.natAbs / 10000 := by
   rw [hdiv]; rcases hs1 with rfl | rfl <;> omega
  have w7 : IntKind.i64.wrap (v.tdiv 10000) = v.tdiv 10000 := wrap_i64 (by omega) (by omega)
  have hneq : (10000 : Int) ≠ 0 := by omega
  have l1 : loadv h4.blks h1.next 1 = some (.slice A L.length L.length) := by rw [x2.load (by simp)]; rfl
  simp (disch := omega) only [go_sem,reduceIte,nqD,nqL, e0, e2, e3, d0]
  refine CondO_cut (fun α' h' => h4 = h' ∧ α'.get 0 = some (.int .i64 v) ∧ α'.get 2 = some (.pointer (some ⟨h.next, 0, none⟩)) ∧ α'.get 3 = some (.pointer (some ⟨h1.next, 0, none⟩)) ∧ α'.get 4 = some (.int .i64 ((v.natAbs % 10000 : Nat) : Int))) ?_ ?_
  ·by_cases hm : v.tmod 10000 < 0
   ·have dm : decide (v.tmod 10000 < 0) = true := decide_eq_true hm
    have e9 : IntKind.i64.wrap (0 - v.tmod 10000) = ((v.natAbs % 10000 : Nat) : Int) := wrap_nat (by rcases hs1 with rfl | rfl <;> omega) (by omega)
    simp (disch := omega) only [go_sem,reduceIte,nqD,nqL, dm, e9]
    exact ⟨trivial, by simp only [go_sem,reduceIte,nqD,nqL, e0], by simp only [go_sem,reduceIte,nqD,nqL, e2], by simp only [go_sem,reduceIte,nqD,nqL, e3], by simp only [go_sem,reduceIte,nqD,nqL]⟩
   ·have dm : decide (v.tmod 10000 < 0) = false := decide_eq_false hm
    have e9 : v.tmod 10000 = ((v.natAbs % 10000 : Nat) : Int) := by rcases hs1 with rfl | rfl <;> omega
    simp (disch := omega) only [go_sem,reduceIte,nqD,nqL, dm]
    exact ⟨trivial, by simp only [go_sem,reduceIte,nqD,nqL, e0], by simp only [go_sem,reduceIte,nqD,nqL, e2], by simp only [go_sem,reduceIte,nqD,nqL, e3], by (simp only [go_sem,reduceIte,nqD,nqL, e9]) <;> rfl⟩
  clear e0 e2 e3
  rintro α h5 ⟨rfl, e0, e2, e3, e4⟩
  simp (disch := omega) only [go_sem,reduceIte,nqD,nqL, e0, e2, e3, e4, fld60_1, load34, Nat.zero_add, l1]
  refine At_pushN (lo := h3.next) (hi := h4.next) (l := L) (z := v.natAbs % 10000) (A := A) (by simp only [go_sem,reduceIte,nqD,nqL]) (by simp only [go_sem,reduceIte,nqD,nqL]) hsv nlr (by omega) hnx (by omega) (by decide) (by decide) (by decide) fun A6 h6 pr6 hs6 n6 => ?_
  have y1 := x1.mono (B' := h6.blks) (pr6.get _ (by omega))
  have y2 := x2.mono (B' := h6.blks) (pr6.get _ (by omega))
  simp (disch := omega) only [go_sem,reduceIte,nqD,nqL, e0, e2, e3, fld60_1]
  refine At_store (inf := inf34) (b := h1.next) (off := 0 + 1) (v := .slice A6 (L ++ [v.natAbs % 10000]).length (L ++ [v.natAbs % 10000]).length) i34 (by simp only [go_sem,reduceIte,nqD,nqL]) (by (simp only [go_sem,reduceIte,nqD,nqL]) <;> rfl) (by rw [size34]; rfl) rfl y2.choose_spec.choose_spec.1 (by rw [size34]; show 0 + 1 + 1 ≤ 2; omega) (by show G ≤ h1.next; omega) fun h7 hs7 => ?_
  have n7 := hs7.next
  have z2 : Var h7.blks h1.next [.bool (decide (z < 0)), .slice A6 (L ++ [v.natAbs % 10000]).length (L ++ [v.natAbs % 10000]).length] := hs7.varAt y2 (by show 0 + 1 + 1 ≤ 2; omega)
  have z1 := y1.mono (B' := h7.blks) (hs7.get _ (by omega))
  simp (disch := omega) only [go_sem,reduceIte,nqD,nqL, e0, e2, e3, w7]
  have hlen : (L ++ [v.natAbs % 10000]).length = L.length + 1 := by simp
  refine hJ (j - 1) _ _ (by omega) ⟨v.tdiv 10000, L ++ [v.natAbs % 10000], A6, by simp only [go_sem,reduceIte,nqD,nqL], by simp only [go_sem,reduceIte,nqD,nqL, e2], by simp only [go_sem,reduceIte,nqD,nqL, e3], z1, z2, (hs6.mono fun b hb _ => hs7.get b (by omega)).wide nlr (by omega), hlL.app (Lim.one (by omega)), fun e => ?_, ?_, ?_, by omega, by omega, (pr.trans (pr6.le (by omega))).trans (hs7.pres (by omega)), by omega⟩
  ·have : v.natAbs % 10000 ≠ 0 := by
    have h1 : v.natAbs / 10000 = 0 := by rw [← hq, e]; rfl
    omega
   simp [Nrm, this]
  ·rw [nv_snoc, hlen, hq, nv_div_step]; exact hinv
  ·rw [hq]
   obtain ⟨j', rfl⟩ : ∃ j', j = j' + 1 := ⟨j - 1, by omega⟩
   rw [Nat.add_sub_cancel]
   rw [Nat.pow_succ] at hvj
   exact Nat.div_lt_of_lt_mul (by rw [Nat.mul_comm]; exact hvj)
def QV (B : Tr Blk) (N : Nat) (a b : Int) (v : Value) : Prop := ∃ (A A' : Option Addr) (n n' c c' : Nat), v = .agg #[.bool (decide (a < 0)), .slice A n c, .bool (decide (b < 0)), .slice A' n' c'] ∧ ZV B N a (.agg #[.bool (decide (a < 0)), .slice A n c]) ∧ ZV B N b (.agg #[.bool (decide (b < 0)), .slice A' n' c'])
theorem QV.pres {h h' : H} {m N : Nat} {a b : Int} {v : Value} (x : QV h.blks N a b v) (p : Pres m h h') (hN : N ≤ m) : QV h'.blks N a b v := by
 obtain ⟨A, A', n, n', c, c', e, h1, h2⟩ := x
 exact ⟨A, A', n, n', c, c', e, h1.pres p hN, h2.pres p hN⟩
theorem QV.wide {B : Tr Blk} {N N' : Nat} {a b : Int} {v : Value} (x : QV B N a b v) (h : N ≤ N') : QV B N' a b v := by
 obtain ⟨A, A', n, n', c, c', e, h1, h2⟩ := x
 exact ⟨A, A', n, n', c, c', e, h1.wide h, h2.wide h⟩
theorem QV.sto {h h' : H} {N b off : Nat} {x y : Int} {v : Value} {L vs : List Value} (hv : QV h.blks N x y v) (hs : Sto h h' b off vs) (hvar : Var h.blks b L) (hL : L.all (fun v => !isI v) = true) : QV h'.blks N x y v := by
 obtain ⟨A, A', n, n', c, c', e, h1, h2⟩ := hv
 exact ⟨A, A', n, n', c, c', e, h1.sto hs hvar hL, h2.sto hs hvar hL⟩
theorem zero64 : inf64.zero = some (.agg #[.bool false, .slice none 0 0, .bool false, .slice none 0 0]) := by kernel_rfl
theorem build64 {G : Nat} {s s' : Bool} {A A' : Option Addr} {n c n' c' : Nat} : buildO (En G) 64 (some [(0, .agg #[.bool s, .slice A n c]), (1, .agg #[.bool s', .slice A' n' c'])]) = some (.agg #[.bool s, .slice A n c, .bool s', .slice A' n' c']) := by
 have hu : (En G).u 64 = some (.struct #[_, _]) := us64.trans Tryz.underlying64
 have hz : okConst (.agg #[.bool false, .slice none 0 0, .bool false, .slice none 0 0]) = true := rfl
 simp only [buildO, evBuild, i64, hu, zero64, places, i60, size60, hz, if_true]
 rfl
theorem Var.qn {B : Tr Blk} {b : Nat} {L : List Value} (v : Var B b L) (hl : L.length = 4) {G : Nat} : loadO (En G) 64 B (some (.pointer (some ⟨b, 0, none⟩))) = some (.agg L.toArray) := v.loadA agg64 i64 (by rw [size64]; exact hl)
theorem Var.qnE {h : H} {b : Nat} {L : List Value} (v : Var h.blks b L) (hl : L.length = 4) {G : Nat} : evLoad (En G) h 64 (.pointer (some ⟨b, 0, none⟩)) = some (.agg L.toArray) := by
 rw [evLoad_loadO]; exact v.qn hl
end
end Go.Proofs.YthankillfhmfkaaGreatDoor.Ev
