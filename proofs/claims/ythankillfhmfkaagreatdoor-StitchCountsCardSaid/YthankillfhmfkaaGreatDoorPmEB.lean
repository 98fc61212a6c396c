/- Exact numbers: fractions. -/
import Derived.Test.YthankillfhmfkaaGreatDoorPmEA
import Derived.Test.YthankillfhmfkaaGreatDoorPmNN
set_option linter.unusedSimpArgs false
set_option linter.unusedVariables false
namespace Go.Proofs.YthankillfhmfkaaGreatDoor.Ev
open Go Go.Proofs Go.Lm
open Nat renaming reduceEqDiff → nqD, reduceLT → nqL
noncomputable section
def RatC (B : Tr Blk) (N : Nat) (s : Bool) (t b : Nat) (v : Value) : Prop := ∃ tv bv, v = .agg #[.bool s, tv, bv] ∧ NatV B N t tv ∧ NatV B N b bv
theorem RatC.mono {B B' : Tr Blk} {N : Nat} {s : Bool} {t b : Nat} {v : Value} (a : RatC B N s t b v) (hB : ∀ b, b < N → B'.get b = B.get b) : RatC B' N s t b v := by
 obtain ⟨tv, bv, h1, h2, h3⟩ := a
 exact ⟨tv, bv, h1, h2.mono hB, h3.mono hB⟩
theorem RatC.wide {B : Tr Blk} {N N' : Nat} {s : Bool} {t b : Nat} {v : Value} (a : RatC B N s t b v) (h : N ≤ N') : RatC B N' s t b v := by
 obtain ⟨tv, bv, h1, h2, h3⟩ := a
 exact ⟨tv, bv, h1, h2.wide h, h3.wide h⟩
theorem RatC.pres {h h' : H} {m N : Nat} {s : Bool} {t b : Nat} {v : Value} (a : RatC h.blks N s t b v) (p : Pres m h h') (hN : N ≤ m) : RatC h'.blks N s t b v := a.mono fun b hb => p.get b (by omega)
theorem natV_shape {B : Tr Blk} {N x : Nat} {v : Value} (hv : NatV B N x v) : ∃ A n c, v = .slice A n c := by
 obtain ⟨l, A, c, rfl, _⟩ := hv
 exact ⟨A, _, c, rfl⟩
theorem zero112 : inf112.zero = some (.agg #[.bool false, .slice none 0 0, .slice none 0 0]) := by kernel_rfl
theorem build112 {G : Nat} {s : Bool} {A A' : Option Addr} {n c n' c' : Nat} : buildO (En G) 112 (some [(0, .bool s), (1, .slice A n c), (2, .slice A' n' c')]) = some (.agg #[.bool s, .slice A n c, .slice A' n' c']) := by
 have hu : (En G).u 112 = some (.struct #[_, _, _]) := us112.trans Tryz.underlying112
 have hz : okConst (.agg #[.bool false, .slice none 0 0, .slice none 0 0]) = true := rfl
 simp only [buildO, evBuild, i112, hu, zero112, places, i4, size4, i110, size110, hz, if_true]
 rfl
theorem build112t {G : Nat} {A : Option Addr} {n c : Nat} : buildO (En G) 112 (some [(1, .slice A n c)]) = some (.agg #[.bool false, .slice A n c, .slice none 0 0]) := by
 have hu : (En G).u 112 = some (.struct #[_, _, _]) := us112.trans Tryz.underlying112
 have hz : okConst (.agg #[.bool false, .slice none 0 0, .slice none 0 0]) = true := rfl
 simp only [buildO, evBuild, i112, hu, zero112, places, i4, size4, i110, size110, hz, if_true]
 rfl
theorem build112b {G : Nat} {s : Bool} {A : Option Addr} {n c : Nat} : buildO (En G) 112 (some [(0, .bool s), (1, .slice A n c)]) = some (.agg #[.bool s, .slice A n c, .slice none 0 0]) := by
 have hu : (En G).u 112 = some (.struct #[_, _, _]) := us112.trans Tryz.underlying112
 have hz : okConst (.agg #[.bool false, .slice none 0 0, .slice none 0 0]) = true := rfl
 simp only [buildO, evBuild, i112, hu, zero112, places, i4, size4, i110, size110, hz, if_true]
 rfl
theorem build112z {G : Nat} : buildO (En G) 112 (some []) = some (.agg #[.bool false, .slice none 0 0, .slice none 0 0]) := by
 have hu : (En G).u 112 = some (.struct #[_, _, _]) := us112.trans Tryz.underlying112
 have hz : okConst (.agg #[.bool false, .slice none 0 0, .slice none 0 0]) = true := rfl
 simp only [buildO, evBuild, i112, hu, zero112, places, i4, size4, i110, size110, hz, if_true]
 rfl
theorem Var.rat {B : Tr Blk} {b : Nat} {L : List Value} (v : Var B b L) (hl : L.length = 3) {G : Nat} : loadO (En G) 112 B (some (.pointer (some ⟨b, 0, none⟩))) = some (.agg L.toArray) := v.loadA agg112 i112 (by rw [size112]; exact hl)
theorem Var.ratE {h : H} {b : Nat} {L : List Value} (v : Var h.blks b L) (hl : L.length = 3) {G : Nat} : evLoad (En G) h 112 (.pointer (some ⟨b, 0, none⟩)) = some (.agg L.toArray) := by
 rw [evLoad_loadO]; exact v.rat hl
set_option maxHeartbeats 4000000 in
theorem inLowest_spec {G N t b : Nat} {s : Bool} {tv bv : Value} {h : H} (hG : G ≤ h.next) (hN : N ≤ h.next) (ht : NatV h.blks N t tv) (hb : NatV h.blks N b bv) (hsb : Sm b) :
  Spec Tryz.prog (En G) 122 [.bool s, tv, bv] h fun w h' => RatC h'.blks h'.next s t (if b = 1 then 0 else b) w := by
 obtain ⟨A, n, c, rfl⟩ := natV_shape ht
 have hb0 := hb
 obtain ⟨A', n', c', rfl⟩ := natV_shape hb
 refine CallsE_enter (En_known (by decide)) (En_f.trans Tryz.func122) rfl ⟨Nat.le_of_ble_eq_true rfl, by decide⟩ fun Q' hQ' => ?_
 simp (disch := omega) only [Tryz.f122, go_sem,reduceIte,nqD,nqL]
 refine At_alloc i112 zero112 rfl (by omega) fun h1 hn1 => ?_
 have n1 := hn1.next
 have pr1 : Pres h.next h h1 := hn1.pres nlr
 have v1 : Var h1.blks h.next [.bool false, .slice none 0 0, .slice none 0 0] := hn1.var
 simp (disch := omega) only [go_sem,reduceIte,nqD,nqL]
 refine CallO_same (isOne_spec (hb0.pres pr1 hN) hsb) (by omega) fun u hu => ?_
 subst hu
 by_cases h1 : b = 1
 ·have d1 : decide (b = 1) = true := decide_eq_true h1
  simp (disch := omega) only [go_sem,reduceIte,nqD,nqL, d1, build112]
  refine At_storeV (inf := inf112) (v := .agg #[.bool s, .slice A n c, .slice none 0 0]) i112 (by simp only [go_sem,reduceIte,nqD,nqL]) (by simp only [go_sem,reduceIte,nqD,nqL]) v1 (by rw [size112]; rfl) (by rw [size112]; rfl) rfl (by show G ≤ h.next; omega) fun h5 hs5 v5 => ?_
  have n5 := hs5.next
  have e5 := v5.ratE (G := G) rfl
  simp (disch := omega) only [go_sem,reduceIte,nqD,nqL, e5]
  refine hQ' _ _ ⟨pr1.trans (hs5.pres nlr), _, _, rfl, ?_, ?_⟩
  ·exact ((ht.pres pr1 hN).pres (hs5.pres (m := h.next) nlr) hN).wide (by omega)
  ·rw [if_pos h1]; exact NatV.nil
 ·have d1 : decide (b = 1) = false := decide_eq_false h1
  simp (disch := omega) only [go_sem,reduceIte,nqD,nqL, d1, build112]
  refine At_storeV (inf := inf112) (v := .agg #[.bool s, .slice A n c, .slice A' n' c']) i112 (by simp only [go_sem,reduceIte,nqD,nqL]) (by simp only [go_sem,reduceIte,nqD,nqL]) v1 (by rw [size112]; rfl) (by rw [size112]; rfl) rfl (by show G ≤ h.next; omega) fun h5 hs5 v5 => ?_
  have n5 := hs5.next
  have e5 := v5.ratE (G := G) rfl
  simp (disch := omega) only [go_sem,reduceIte,nqD,nqL, e5]
  refine hQ' _ _ ⟨pr1.trans (hs5.pres nlr), _, _, rfl, ?_, ?_⟩
  ·exact ((ht.pres pr1 hN).pres (hs5.pres (m := h.next) nlr) hN).wide (by omega)
  ·rw [if_neg h1]; exact ((hb0.pres pr1 hN).pres (hs5.pres (m := h.next) nlr) hN).wide (by omega)
def den (b : Nat) : Nat := if b = 0 then 1 else b
theorem NatV.one {B : Tr Blk} {N : Nat} {A : Option Addr} {c : Nat} (hs : SlV B 0 N 1 1 (lims [1]) (.slice A 1 c)) : NatV B N 1 (.slice A 1 c) := ⟨[1], A, c, rfl, fun _ => hs, Lim.one (by omega), by simp [Nrm], nv_one⟩
set_option maxHeartbeats 4000000 in
theorem denominator_spec {G N t b : Nat} {s : Bool} {v : Value} {h : H} (hN : N ≤ h.next) (hv : RatC h.blks N s t b v) (hsb : Sm b) :
  Spec Tryz.prog (En G) 117 [v] h fun w h' => NatV h'.blks h'.next (den b) w := by
 obtain ⟨tv, bv, rfl, ht, hb⟩ := hv
 have hb0 := hb
 obtain ⟨A', n', c', rfl, hn', hz⟩ := natV_len hb hsb
 obtain ⟨A, n, c, rfl⟩ := natV_shape ht
 refine CallsE_enter (En_known (by decide)) (En_f.trans Tryz.func117) rfl ⟨Nat.le_of_ble_eq_true rfl, by decide⟩ fun Q' hQ' => ?_
 simp (disch := omega) only [Tryz.f117, go_sem,reduceIte,nqD,nqL]
 refine At_box (v := .agg #[.bool s, .slice A n c, .slice A' n' c']) (by simp only [go_sem,reduceIte,nqD,nqL]) (by omega) fun h1 hn1 => ?_
 have n1 := hn1.next
 have pr1 : Pres h.next h h1 := hn1.pres nlr
 have v1 : Var h1.blks h.next [.bool s, .slice A n c, .slice A' n' c'] := hn1.var
 have l2 : loadv h1.blks h.next 2 = some (.slice A' n' c') := by rw [v1.load (by simp)]; rfl
 by_cases h0 : b = 0
 ·obtain rfl : n' = 0 := hz.2 h0
  have d1 : decide (((0 : Nat) : Int) = 0) = true := rfl
  simp (disch := omega) only [go_sem,reduceIte,nqD,nqL, fld112_2, load110, Nat.zero_add, l2, len110, d1]
  refine At_lit (vs := [(0, .int .u32 1)]) (cs := #[.int .u32 1]) u110 i168 zero168 (by rw [size168]; rfl) (by simp only [go_sem,reduceIte,nqD,nqL]) (by rw [size168]; rfl) (by omega) fun h2 hn2 => ?_
  have n2 := hn2.next
  rw [size168] at hn2
  have hs2 := hn2.slv (n := 1) (c := 1) (by rfl)
  simp (disch := omega) only [go_sem,reduceIte,nqD,nqL]
  refine hQ' _ _ ⟨pr1.trans ((hn2.pres nlr).le (by omega)), ?_⟩
  rw [h0]
  exact NatV.one (hs2.wide (by omega) (by omega))
 ·have hnp : n' ≠ 0 := fun e => h0 (hz.1 e)
  have d1 : decide ((n' : Int) = 0) = false := decide_eq_false (by omega)
  simp (disch := omega) only [go_sem,reduceIte,nqD,nqL, fld112_2, load110, Nat.zero_add, l2, len110, d1]
  refine hQ' _ _ ⟨pr1, ?_⟩
  rw [den, if_neg h0]
  exact (hb0.pres pr1 hN).wide (by omega)
def sgnR (s : Bool) (t : Nat) : Int := if s = true then -1 else if t = 0 then 0 else 1
set_option maxHeartbeats 4000000 in
theorem sign_spec {G N t b : Nat} {s : Bool} {v : Value} {h : H} (hv : RatC h.blks N s t b v) (hst : Sm t) :
  Spec Tryz.prog (En G) 121 [v] h fun w h' => w = .int .i64 (sgnR s t) := by
 obtain ⟨tv, bv, rfl, ht, hb⟩ := hv
 obtain ⟨A', n', c', rfl⟩ := natV_shape hb
 obtain ⟨A, n, c, rfl, hn, hz⟩ := natV_len ht hst
 refine CallsE_enter (En_known (by decide)) (En_f.trans Tryz.func121) rfl ⟨Nat.le_of_ble_eq_true rfl, by decide⟩ fun Q' hQ' => ?_
 simp (disch := omega) only [Tryz.f121, go_sem,reduceIte,nqD,nqL]
 refine At_box (v := .agg #[.bool s, .slice A n c, .slice A' n' c']) (by simp only [go_sem,reduceIte,nqD,nqL]) (by omega) fun h1 hn1 => ?_
 have pr1 : Pres h.next h h1 := hn1.pres nlr
 have v1 : Var h1.blks h.next [.bool s, .slice A n c, .slice A' n' c'] := hn1.var
 have l0 : loadv h1.blks h.next 0 = some (.bool s) := by rw [v1.load (by simp)]; rfl
 have l1 : loadv h1.blks h.next 1 = some (.slice A n c) := by rw [v1.load (by simp)]; rfl
 unfold sgnR at hQ'
 cases s with
 | true =>
  simp (disch := omega) only [go_sem,reduceIte,nqD,nqL, fld112_0, load4, Nat.zero_add, l0]
  exact hQ' _ _ ⟨pr1, rfl⟩
 | false =>
  by_cases h0 : t = 0
  ·obtain rfl : n = 0 := hz.2 h0
   have d1 : decide (((0 : Nat) : Int) = 0) = true := rfl
   simp (disch := omega) only [go_sem,reduceIte,nqD,nqL, fld112_0, fld112_1, load4, load110, Nat.zero_add, l0, l1, len110, d1]
   exact hQ' _ _ ⟨pr1, by simp [h0]⟩
  ·have hnp : n ≠ 0 := fun e => h0 (hz.1 e)
   have d1 : decide ((n : Int) = 0) = false := decide_eq_false (by omega)
   simp (disch := omega) only [go_sem,reduceIte,nqD,nqL, fld112_0, fld112_1, load4, load110, Nat.zero_add, l0, l1, len110, d1]
   exact hQ' _ _ ⟨pr1, by simp [h0]⟩
set_option maxHeartbeats 4000000 in
theorem negated_spec {G N t b : Nat} {s : Bool} {v : Value} {h : H} (hG : G ≤ h.next) (hN : N ≤ h.next) (hv : RatC h.blks N s t b v) (hst : Sm t) :
  Spec Tryz.prog (En G) 93 [v] h fun w h' => RatC h'.blks h'.next (!s && decide (t ≠ 0)) t b w := by
 obtain ⟨tv, bv, rfl, ht, hb⟩ := hv
 have ht0 := ht
 obtain ⟨A', n', c', rfl⟩ := natV_shape hb
 obtain ⟨A, n, c, rfl, hn, hz⟩ := natV_len ht hst
 refine CallsE_enter (En_known (by decide)) (En_f.trans Tryz.func93) rfl ⟨Nat.le_of_ble_eq_true rfl, by decide⟩ fun Q' hQ' => ?_
 simp (disch := omega) only [Tryz.f93, go_sem,reduceIte,nqD,nqL]
 refine At_box (v := .agg #[.bool s, .slice A n c, .slice A' n' c']) (by simp only [go_sem,reduceIte,nqD,nqL]) (by omega) fun h1 hn1 => ?_
 have n1 := hn1.next
 have pr1 : Pres h.next h h1 := hn1.pres nlr
 have v1 : Var h1.blks h.next [.bool s, .slice A n c, .slice A' n' c'] := hn1.var
 try simp (disch := omega) only [go_sem,reduceIte,nqD,nqL]
 refine At_alloc i112 zero112 rfl (by omega) fun h2 hn2 => ?_
 have n2 := hn2.next
 have pr2 : Pres h.next h h2 := pr1.trans ((hn2.pres nlr).le (by omega))
 have v2 : Var h2.blks h1.next [.bool false, .slice none 0 0, .slice none 0 0] := hn2.var
 replace v1 := v1.mono (B' := h2.blks) (by rw [hn2.get, if_neg (by omega)])
 have l0 : loadv h2.blks h.next 0 = some (.bool s) := by rw [v1.load (by simp)]; rfl
 have l1 : loadv h2.blks h.next 1 = some (.slice A n c) := by rw [v1.load (by simp)]; rfl
 have l2 : loadv h2.blks h.next 2 = some (.slice A' n' c') := by rw [v1.load (by simp)]; rfl
 have fin : ∀ s', s' = (!s && decide (t ≠ 0)) → ∀ {h5 : H}, Sto h2 h5 h1.next 0 [.bool s', .slice A n c, .slice A' n' c'] → Q' (.agg #[.bool s', .slice A n c, .slice A' n' c']) h5 := fun s' hs' h5 hs5 => by
  have n5 := hs5.next
  refine hQ' _ _ ⟨pr2.trans (hs5.pres (by omega)), _, _, by rw [hs'], ?_, ?_⟩
  ·exact ((ht0.pres pr2 hN).pres (hs5.pres (m := h.next) (by omega)) hN).wide (by omega)
  ·exact ((hb.pres pr2 hN).pres (hs5.pres (m := h.next) (by omega)) hN).wide (by omega)
 have d1 : decide (0 < (n : Int)) = decide (t ≠ 0) := decide_eq_decide.2 (by omega)
 cases s with
 | true =>
  simp (disch := omega) only [go_sem,reduceIte,nqD,nqL, fld112_0, fld112_1, fld112_2, load4, load110, Nat.zero_add, l0, l1, l2, build112]
  refine At_storeV (inf := inf112) (v := .agg #[.bool false, .slice A n c, .slice A' n' c']) i112 (by simp only [go_sem,reduceIte,nqD,nqL]) (by simp only [go_sem,reduceIte,nqD,nqL]) v2 (by rw [size112]; rfl) (by rw [size112]; rfl) rfl (by show G ≤ h1.next; omega) fun h5 hs5 v5 => ?_
  have e5 := v5.ratE (G := G) rfl
  simp (disch := omega) only [go_sem,reduceIte,nqD,nqL, e5]
  exact fin _ rfl hs5
 | false =>
  simp (disch := omega) only [go_sem,reduceIte,nqD,nqL, fld112_0, fld112_1, fld112_2, load4, load110, Nat.zero_add, l0, l1, l2, len110, d1, build112]
  refine At_storeV (inf := inf112) (v := .agg #[.bool (decide (t ≠ 0)), .slice A n c, .slice A' n' c']) i112 (by simp only [go_sem,reduceIte,nqD,nqL]) (by simp only [go_sem,reduceIte,nqD,nqL]) v2 (by rw [size112]; rfl) (by rw [size112]; rfl) rfl (by show G ≤ h1.next; omega) fun h5 hs5 v5 => ?_
  have e5 := v5.ratE (G := G) rfl
  simp (disch := omega) only [go_sem,reduceIte,nqD,nqL, e5]
  exact fin _ rfl hs5
end
end Go.Proofs.YthankillfhmfkaaGreatDoor.Ev
namespace Go.Proofs.YthankillfhmfkaaGreatDoor.Ev
open Go Go.Proofs Go.Lm
open Nat renaming reduceEqDiff → nqD, reduceLT → nqL
noncomputable section
theorem sm32 {x : Nat} (h : x < 4294967296) : Sm x := ⟨1, by omega, by omega⟩
theorem sm64 {x : Nat} (h : x < 18446744073709551616) : Sm x := ⟨2, by omega, by omega⟩
def isI : Value → Bool
 | .int _ _ => true
 | _ => false
theorem NatV.sto {h h' : H} {N x b off : Nat} {v : Value} {L vs : List Value} (hv : NatV h.blks N x v) (hs : Sto h h' b off vs) (hvar : Var h.blks b L) (hL : L.all (fun v => !isI v) = true) : NatV h'.blks N x v := by
 obtain ⟨l, A, c, rfl, h2, h3, h4, h5⟩ := hv
 refine ⟨l, A, c, rfl, ?_, h3, h4, h5⟩
 intro hne
 replace h2 := h2 hne
 have hlen : (lims l).length = l.length := lims_len
 have hget : ∀ i, i < l.length → ∃ a : Nat, (lims l)[i]? = some (.int .u32 (a : Int)) := fun i hi => by
  obtain ⟨a, ha⟩ := limb_at hi
  exact ⟨a, lims_get ha⟩
 clear h3 h4 h5
 generalize lims l = M at *
 generalize l.length = n at *
 cases h2 with
 | nil hn hL => exact .nil hn hL
 | emp hn hL => exact .emp hn hL
 | mk hb hlo hhi hsz hLl hc =>
  rename_i b' off' size cells
  by_cases e : b' = b
  ·subst e
   rcases Nat.eq_zero_or_pos n with h0 | h0
   ·exact .mk (hs.at_ _ _ _ hb) hlo hhi hsz hLl fun i hi => by omega
   ·exfalso
    obtain ⟨cs, es, g1, g2⟩ := hvar
    rw [hb] at g1
    injection g1 with g1
    injection g1 with q1 q2 q3
    subst q1
    have q := hc 0 (by omega)
    obtain ⟨a, ha⟩ := hget 0 h0
    rw [ha, Nat.add_zero, g2 off' (by omega)] at q
    have := List.all_eq_true.1 hL _ (List.mem_of_getElem? q)
    simp [isI] at this
  ·exact .mk ((hs.get b' e).trans hb) hlo hhi hsz hLl hc
theorem RatC.sto {h h' : H} {N t bt b off : Nat} {s : Bool} {v : Value} {L vs : List Value} (hv : RatC h.blks N s t bt v) (hs : Sto h h' b off vs) (hvar : Var h.blks b L) (hL : L.all (fun v => !isI v) = true) : RatC h'.blks N s t bt v := by
 obtain ⟨tv, bv, rfl, h1, h2⟩ := hv
 exact ⟨tv, bv, rfl, h1.sto hs hvar hL, h2.sto hs hvar hL⟩
theorem RatC.one {B : Tr Blk} {N t b : Nat} {s : Bool} {tv bv : Value} (h1 : NatV B N t tv) (h2 : NatV B N b bv) : (Value.agg #[.bool s, tv, bv]).cells.toList.all oneB = true := by
 obtain ⟨_, _, _, rfl⟩ := natV_shape h1
 obtain ⟨_, _, _, rfl⟩ := natV_shape h2
 rfl
theorem noI_z : [Value.bool false, .slice none 0 0, .slice none 0 0].all (fun v => !isI v) = true := rfl
set_option maxHeartbeats 8000000 in
theorem lowest_spec {G N t b : Nat} {s : Bool} {tv bv : Value} {h : H} (hG : G ≤ h.next) (hN : N ≤ h.next) (ht : NatV h.blks N t tv) (hb : NatV h.blks N b bv) (hst : Sm t) (hb0 : 0 < b) (hb2 : b < 4294967296) :
  Spec Tryz.prog (En G) 115 [.bool s, tv, bv] h fun w h' => RatC h'.blks h'.next (s && decide (t ≠ 0)) (t / Nat.gcd t b) (if b / Nat.gcd t b = 1 then 0 else b / Nat.gcd t b) w := by
 have ht0 := ht
 obtain ⟨A', n', c', rfl⟩ := natV_shape hb
 obtain ⟨A, n, c, rfl, hn, hz⟩ := natV_len ht hst
 refine CallsE_enter (En_known (by decide)) (En_f.trans Tryz.func115) rfl ⟨Nat.le_of_ble_eq_true rfl, by decide⟩ fun Q' hQ' => ?_
 simp (disch := omega) only [Tryz.f115, go_sem,reduceIte,nqD,nqL]
 refine At_alloc i112 zero112 rfl (by omega) fun h1 hn1 => ?_
 have n1 := hn1.next
 have pr1 : Pres h.next h h1 := hn1.pres nlr
 have v1 : Var h1.blks h.next [.bool false, .slice none 0 0, .slice none 0 0] := hn1.var
 by_cases h0 : t = 0
 ·obtain rfl : n = 0 := hz.2 h0
  have d1 : decide (((0 : Nat) : Int) = 0) = true := rfl
  simp (disch := omega) only [go_sem,reduceIte,nqD,nqL, len110, d1, build112z]
  refine At_storeV (inf := inf112) (v := .agg #[.bool false, .slice none 0 0, .slice none 0 0]) i112 (by simp only [go_sem,reduceIte,nqD,nqL]) (by simp only [go_sem,reduceIte,nqD,nqL]) v1 (by rw [size112]; rfl) (by rw [size112]; rfl) rfl (by show G ≤ h.next; omega) fun h5 hs5 v5 => ?_
  have e5 := v5.ratE (G := G) rfl
  simp (disch := omega) only [go_sem,reduceIte,nqD,nqL, e5]
  have es : (s && decide (t ≠ 0)) = false := by simp [h0]
  refine hQ' _ _ ⟨pr1.trans (hs5.pres nlr), .slice none 0 0, .slice none 0 0, by rw [es] <;> rfl, ?_, ?_⟩
  ·rw [h0, Nat.zero_div]; exact NatV.nil
  ·rw [h0, Nat.gcd_zero_left, Nat.div_self hb0, if_pos rfl]; exact NatV.nil
 ·have hnp : n ≠ 0 := fun e => h0 (hz.1 e)
  have d1 : decide ((n : Int) = 0) = false := decide_eq_false (by omega)
  have es : (s && decide (t ≠ 0)) = s := by simp [h0]
  have hgb : Nat.gcd t b ≤ b := Nat.gcd_le_right _ hb0
  have hgp : 0 < Nat.gcd t b := gcd_pos hb0
  simp (disch := omega) only [go_sem,reduceIte,nqD,nqL, len110, d1]
  refine CallO_f (gcdNat_spec (N := N) (by omega) (by omega) (ht0.pres pr1 hN) (hb.pres pr1 hN) hst hb2) (by omega) fun g h2 pr2 hg => ?_
  have n2 := pr2.next
  have pr2' : Pres h.next h h2 := pr1.trans (pr2.le (by omega))
  have v2 : Var h2.blks h.next [.bool false, .slice none 0 0, .slice none 0 0] := v1.mono (B' := h2.blks) (pr2.get _ (by omega))
  simp (disch := omega) only [go_sem,reduceIte,nqD,nqL]
  refine CallO_same (isOne_spec hg (sm32 (by omega))) (by omega) fun u hu => ?_
  subst hu
  simp (disch := omega) only [go_sem,reduceIte,nqD,nqL]
  refine CondO_cut (fun α' h' => ∃ tv bv, α'.get 0 = some (.bool s) ∧ α'.get 1 = some tv ∧ α'.get 2 = some bv ∧ α'.get 6 = some (.pointer (some ⟨h.next, 0, none⟩)) ∧ NatV h'.blks h'.next (t / Nat.gcd t b) tv ∧ NatV h'.blks h'.next (b / Nat.gcd t b) bv ∧ Pres h2.next h2 h') ?_ ?_
  ·by_cases hg1 : Nat.gcd t b = 1
   ·have d2 : decide (Nat.gcd t b = 1) = true := decide_eq_true hg1
    simp (disch := omega) only [go_sem,reduceIte,nqD,nqL, d2]
    refine ⟨_, _, by first | rfl | trivial, by first | rfl | trivial, by first | rfl | trivial, by first | rfl | trivial, ?_, ?_, Pres.refl _ _⟩
    ·rw [hg1, Nat.div_one]; exact (ht0.pres pr2' hN).wide (by omega)
    ·rw [hg1, Nat.div_one]; exact (hb.pres pr2' hN).wide (by omega)
   ·have d2 : decide (Nat.gcd t b = 1) = false := decide_eq_false hg1
    simp (disch := omega) only [go_sem,reduceIte,nqD,nqL, d2]
    refine CallO_f (divNat_spec (by omega) nlr ((ht0.pres pr2' hN).wide (by omega)) hg hst hgp (.inl (by omega))) (by omega) fun w h3 pr3 hw => ?_
    obtain ⟨q, r, rfl, hq, _⟩ := hw
    have n3 := pr3.next
    simp (disch := omega) only [go_sem,reduceIte,nqD,nqL]
    refine CallO_f (divNat_spec (by omega) nlr (((hb.pres pr2' hN).wide (N' := h2.next) (by omega)).pres pr3 nlr |>.wide n3) ((hg.pres pr3 nlr).wide n3) (sm32 hb2) hgp (.inl (by omega))) (by omega) fun w h4 pr4 hw => ?_
    obtain ⟨q2, r2, rfl, hq2, _⟩ := hw
    have n4 := pr4.next
    simp (disch := omega) only [go_sem,reduceIte,nqD,nqL]
    exact ⟨q, q2, by first | rfl | trivial, by first | rfl | trivial, by first | rfl | trivial, by first | rfl | trivial, (hq.pres pr4 nlr).wide n4, hq2, pr3.trans (pr4.le (by omega))⟩
  rintro α h3 ⟨tv, bv, e0, e1, e2, e6, htv, hbv, pr3⟩
  have n3 := pr3.next
  have hbg : b / Nat.gcd t b ≤ b := Nat.div_le_self _ _
  simp (disch := omega) only [go_sem,reduceIte,nqD,nqL, e0, e1, e2, e6]
  refine CallO_f (inLowest_spec (by omega) nlr htv hbv (sm32 (by omega))) (by omega) fun w h4 pr4 hw => ?_
  have n4 := pr4.next
  obtain ⟨tv, bv, rfl, hw1, hw2⟩ := hw
  have v4 := v2.mono (B' := h4.blks) ((pr4.get _ (by omega)).trans (pr3.get _ (by omega)))
  try simp (disch := omega) only [go_sem,reduceIte,nqD,nqL, e6]
  refine At_storeV (inf := inf112) (v := .agg #[.bool s, tv, bv]) i112 (by simp only [go_sem,reduceIte,nqD,nqL, e6]) (by simp only [go_sem,reduceIte,nqD,nqL]) v4 (by rw [size112]; rfl) (by rw [size112]; rfl) (RatC.one hw1 hw2) (by show G ≤ h.next; omega) fun h5 hs5 v5 => ?_
  have n5 := hs5.next
  have e5 := v5.ratE (G := G) rfl
  simp (disch := omega) only [go_sem,reduceIte,nqD,nqL, e6, e5]
  refine hQ' _ _ ⟨((pr2'.trans (pr3.le (by omega))).trans (pr4.le (by omega))).trans (hs5.pres nlr), tv, bv, by rw [es] <;> rfl, ?_, ?_⟩
  ·exact (hw1.sto hs5 v4 noI_z).wide (by omega)
  ·exact (hw2.sto hs5 v4 noI_z).wide (by omega)
theorem neB {a b : Bool} : pureRun Tryz.prog (do eqGuard .neq 4 (.tmp 0) (.tmp 0) (.bool a) (.bool b); binOp .neq 4 (.bool a) (.bool b)) = some (.bool (a != b)) := by
 cases a <;> cases b <;> kernel_rfl
theorem neq_bool {G : Nat} {a b : Bool} : binO Tryz.prog (En G) .neq 4 (some (.bool a)) (some (.bool b)) = some (.bool (a != b)) := by
 have h1 : (plainA (.bool a) && plainA (.bool b)) = true := rfl
 have h2 : fastBin .neq (.bool a) (.bool b) = none := rfl
 simp only [binO, h1, if_true, h2, slowBin, neB]
 rfl
def sgv (s : Bool) (t : Nat) : Int := if s = true then -(t : Int) else t
set_option maxHeartbeats 8000000 in
theorem addSigned_spec {G N t1 t2 : Nat} {s1 s2 : Bool} {v1 v2 : Value} {h : H} (hG : G ≤ h.next) (hN : N ≤ h.next) (h1 : NatV h.blks N t1 v1) (h2 : NatV h.blks N t2 v2) (m1 : Sm t1) (m2 : Sm t2) :
  Spec Tryz.prog (En G) 120 [.bool s1, v1, .bool s2, v2] h fun w h' => ∃ s t u, w = .tuple #[.bool s, u] ∧ NatV h'.blks h'.next t u ∧ sgv s t = sgv s1 t1 + sgv s2 t2 ∧ t ≤ t1 + t2 := by
 refine CallsE_enter (En_known (by decide)) (En_f.trans Tryz.func120) rfl ⟨Nat.le_of_ble_eq_true rfl, by decide⟩ fun Q' hQ' => ?_
 have hadd : s1 = s2 → sgv s1 (t1 + t2) = sgv s1 t1 + sgv s2 t2 := fun e => by
  subst e; unfold sgv; cases s1 <;> simp; omega
 have hsub : s1 ≠ s2 → (t2 ≤ t1 → sgv s1 (t1 - t2) = sgv s1 t1 + sgv s2 t2) ∧ (t1 ≤ t2 → sgv s2 (t2 - t1) = sgv s1 t1 + sgv s2 t2) := fun e => by
  unfold sgv
  cases s1 <;> cases s2 <;> simp at e ⊢ <;> omega
 by_cases he : s1 = s2
 ·have d1 : (s1 == s2) = true := by simp [he]
  simp (disch := omega) only [Tryz.f120, go_sem,reduceIte,nqD,nqL, eql_bool, d1]
  refine CallO_f (addNat_spec hG hN h1 h2 m1 m2) (by omega) fun w h3 pr3 hw => ?_
  simp (disch := omega) only [go_sem,reduceIte,nqD,nqL]
  exact hQ' _ _ ⟨pr3, s1, t1 + t2, w, rfl, hw, hadd he, Nat.le_refl _⟩
 ·have d1 : (s1 == s2) = false := by simp [he]
  simp (disch := omega) only [Tryz.f120, go_sem,reduceIte,nqD,nqL, eql_bool, d1]
  refine CallO_same (compareNat_spec h1 h2 m1 m2) (by omega) fun u hu => ?_
  subst hu
  by_cases hle : t2 ≤ t1
  ·have d2 : decide (0 ≤ cmpI t1 t2) = true := decide_eq_true (by unfold cmpI; rw [if_neg (by omega)]; split <;> omega)
   simp (disch := omega) only [go_sem,reduceIte,nqD,nqL, d2]
   refine CallO_f (subNat_spec hG hN h1 h2 m1 hle) (by omega) fun w h3 pr3 hw => ?_
   simp (disch := omega) only [go_sem,reduceIte,nqD,nqL]
   exact hQ' _ _ ⟨pr3, s1, t1 - t2, w, rfl, hw, (hsub he).1 hle, by omega⟩
  ·have d2 : decide (0 ≤ cmpI t1 t2) = false := decide_eq_false (by unfold cmpI; rw [if_pos (by omega)]; omega)
   simp (disch := omega) only [go_sem,reduceIte,nqD,nqL, d2]
   refine CallO_f (subNat_spec hG hN h2 h1 m2 (by omega)) (by omega) fun w h3 pr3 hw => ?_
   simp (disch := omega) only [go_sem,reduceIte,nqD,nqL]
   exact hQ' _ _ ⟨pr3, s2, t2 - t1, w, rfl, hw, (hsub he).2 (by omega), by omega⟩
set_option maxHeartbeats 4000000 in
theorem whole_spec {G : Nat} {z : Int} {h : H} (hG : G ≤ h.next) (h1 : -9223372036854775808 ≤ z) (h2 : z ≤ 9223372036854775807) :
  Spec Tryz.prog (En G) 91 [.int .i64 z] h fun w h' => RatC h'.blks h'.next (decide (z < 0)) z.natAbs 0 w := by
 refine CallsE_enter (En_known (by decide)) (En_f.trans Tryz.func91) rfl ⟨Nat.le_of_ble_eq_true rfl, by decide⟩ fun Q' hQ' => ?_
 simp (disch := omega) only [Tryz.f91, go_sem,reduceIte,nqD,nqL]
 refine At_alloc i112 zero112 rfl (by omega) fun h3 hn3 => ?_
 have n3 := hn3.next
 have pr3 : Pres h.next h h3 := hn3.pres nlr
 have v3 : Var h3.blks h.next [.bool false, .slice none 0 0, .slice none 0 0] := hn3.var
 have cu : ∀ {P : Program} {B : Tr Blk}, convO P (En G) B 3 159 (some (.int .i64 z)) = some (.int .u64 (IntKind.u64.wrap z)) := fun {P B} => convO_int u3 u159
 by_cases hz : z < 0
 ·have d1 : decide (z < 0) = true := decide_eq_true hz
  have w1 : IntKind.u64.wrap (0 - IntKind.u64.wrap z) = ((z.natAbs : Nat) : Int) := by
   rw [IntKind.wrap_u64, IntKind.wrap_u64]; omega
  simp (disch := omega) only [go_sem,reduceIte,nqD,nqL, d1, cu, w1]
  refine CallO_f (natOf_spec (x := z.natAbs) (by omega)) (by omega) fun w h4 pr4 hw => ?_
  have n4 := pr4.next
  have hw0 := hw
  obtain ⟨A, n, c, rfl⟩ := natV_shape hw
  replace v3 := v3.mono (B' := h4.blks) (pr4.get _ (by omega))
  simp (disch := omega) only [go_sem,reduceIte,nqD,nqL, build112b]
  refine At_storeV (inf := inf112) (v := .agg #[.bool true, .slice A n c, .slice none 0 0]) i112 (by simp only [go_sem,reduceIte,nqD,nqL]) (by simp only [go_sem,reduceIte,nqD,nqL]) v3 (by rw [size112]; rfl) (by rw [size112]; rfl) rfl (by show G ≤ h.next; omega) fun h5 hs5 v5 => ?_
  have n5 := hs5.next
  have e5 := v5.ratE (G := G) rfl
  simp (disch := omega) only [go_sem,reduceIte,nqD,nqL, e5]
  exact hQ' _ _ ⟨(pr3.trans (pr4.le (by omega))).trans (hs5.pres nlr), .slice A n c, .slice none 0 0, by rw [d1] <;> rfl, (hw0.sto hs5 v3 noI_z).wide (by omega), NatV.nil⟩
 ·have d1 : decide (z < 0) = false := decide_eq_false hz
  have w1 : IntKind.u64.wrap z = ((z.natAbs : Nat) : Int) := by
   rw [IntKind.wrap_u64]; omega
  simp (disch := omega) only [go_sem,reduceIte,nqD,nqL, d1, cu, w1]
  refine CallO_f (natOf_spec (x := z.natAbs) (by omega)) (by omega) fun w h4 pr4 hw => ?_
  have n4 := pr4.next
  have hw0 := hw
  obtain ⟨A, n, c, rfl⟩ := natV_shape hw
  replace v3 := v3.mono (B' := h4.blks) (pr4.get _ (by omega))
  simp (disch := omega) only [go_sem,reduceIte,nqD,nqL, build112t]
  refine At_storeV (inf := inf112) (v := .agg #[.bool false, .slice A n c, .slice none 0 0]) i112 (by simp only [go_sem,reduceIte,nqD,nqL]) (by simp only [go_sem,reduceIte,nqD,nqL]) v3 (by rw [size112]; rfl) (by rw [size112]; rfl) rfl (by show G ≤ h.next; omega) fun h5 hs5 v5 => ?_
  have n5 := hs5.next
  have e5 := v5.ratE (G := G) rfl
  simp (disch := omega) only [go_sem,reduceIte,nqD,nqL, e5]
  exact hQ' _ _ ⟨(pr3.trans (pr4.le (by omega))).trans (hs5.pres nlr), .slice A n c, .slice none 0 0, by rw [d1] <;> rfl, (hw0.sto hs5 v3 noI_z).wide (by omega), NatV.nil⟩
end
end Go.Proofs.YthankillfhmfkaaGreatDoor.Ev
namespace Go.Proofs.YthankillfhmfkaaGreatDoor.Ev
open Go Go.Proofs Go.Lm
open Nat renaming reduceEqDiff → nqD, reduceLT → nqL
noncomputable section
theorem sm96 {x : Nat} (h : x < 79228162514264337593543950336) : Sm x := ⟨3, by omega, Nat.lt_of_lt_of_le h (Nat.le_of_ble_eq_true rfl)⟩
theorem den_pos {b : Nat} : 0 < den b := by unfold den; split <;> omega
theorem den_one {x : Nat} (h : 0 < x) : den (if x = 1 then 0 else x) = x := by
 unfold den
 split
 ·split <;> first | omega | rfl
 ·split <;> first | omega | rfl
theorem sm_den {b : Nat} (h : den b < 4294967296) : Sm b := sm32 (by unfold den at h; split at h <;> omega)
theorem natV_wm {x : Nat} : ∀ (v : Value) (h' : H) (wm : Nat), NatV h'.blks h'.next x v → NatV ({ h' with wm := wm } : H).blks ({ h' with wm := wm } : H).next x v := fun _ _ _ h => h
theorem Pres.fr {m : Nat} {h h' : H} (p : Pres m h h') (hm : h.next ≤ m) : Pres h.next h h' := p.le hm
set_option maxHeartbeats 8000000 in
theorem times_spec {G N t1 t2 b1 b2 : Nat} {s1 s2 : Bool} {v1 v2 : Value} {h : H} (hG : G ≤ h.next) (hN : N ≤ h.next) (hr : RatC h.blks N s1 t1 b1 v1) (ho : RatC h.blks N s2 t2 b2 v2) (m1 : Sm t1) (m2 : Sm t2) (m3 : Sm (t1 * t2))
  (d1 : den b1 < 4294967296) (d2 : den b2 < 4294967296) (d3 : den b1 * den b2 < 4294967296) :
  Spec Tryz.prog (En G) 92 [v1, v2] h fun w h' => RatC h'.blks h'.next ((s1 != s2) && decide (t1 * t2 ≠ 0)) (t1 * t2 / Nat.gcd (t1 * t2) (den b1 * den b2)) (if den b1 * den b2 / Nat.gcd (t1 * t2) (den b1 * den b2) = 1 then 0 else den b1 * den b2 / Nat.gcd (t1 * t2) (den b1 * den b2)) w := by
 have hr0 := hr
 have ho0 := ho
 obtain ⟨tv1, bv1, rfl, ht1, hb1⟩ := hr
 obtain ⟨tv2, bv2, rfl, ht2, hb2⟩ := ho
 refine CallsE_enter (En_known (by decide)) (En_f.trans Tryz.func92) rfl ⟨Nat.le_of_ble_eq_true rfl, by decide⟩ fun Q' hQ' => ?_
 simp (disch := omega) only [Tryz.f92, go_sem,reduceIte,nqD,nqL]
 refine At_box (v := .agg #[.bool s1, tv1, bv1]) (by simp only [go_sem,reduceIte,nqD,nqL]) (by omega) fun h1 hn1 => ?_
 have n1 := hn1.next
 have pr1 : Pres h.next h h1 := hn1.pres nlr
 have x1 : Var h1.blks h.next [.bool s1, tv1, bv1] := hn1.var
 try simp (disch := omega) only [go_sem,reduceIte,nqD,nqL]
 refine At_box (v := .agg #[.bool s2, tv2, bv2]) (by simp only [go_sem,reduceIte,nqD,nqL]) (by omega) fun h2 hn2 => ?_
 have n2 := hn2.next
 have pr2 : Pres h.next h h2 := pr1.trans ((hn2.pres nlr).le (by omega))
 have x2 : Var h2.blks h1.next [.bool s2, tv2, bv2] := hn2.var
 replace x1 := x1.mono (B' := h2.blks) (by rw [hn2.get, if_neg (by omega)])
 try simp (disch := omega) only [go_sem,reduceIte,nqD,nqL]
 refine At_alloc i112 zero112 rfl (by omega) fun h3 hn3 => ?_
 have n3 := hn3.next
 have pr3 : Pres h.next h h3 := pr2.trans ((hn3.pres nlr).le (by omega))
 have x3 : Var h3.blks h2.next [.bool false, .slice none 0 0, .slice none 0 0] := hn3.var
 replace x1 := x1.mono (B' := h3.blks) (by rw [hn3.get, if_neg (by omega)])
 replace x2 := x2.mono (B' := h3.blks) (by rw [hn3.get, if_neg (by omega)])
 have l10 : loadv h3.blks h.next 0 = some (.bool s1) := by rw [x1.load (by simp)]; rfl
 have l11 : loadv h3.blks h.next 1 = some tv1 := by rw [x1.load (by simp)]; rfl
 have l20 : loadv h3.blks h1.next 0 = some (.bool s2) := by rw [x2.load (by simp)]; rfl
 have l21 : loadv h3.blks h1.next 1 = some tv2 := by rw [x2.load (by simp)]; rfl
 have la1 := x1.rat (G := G) rfl
 have la2 := x2.rat (G := G) rfl
 simp (disch := omega) only [go_sem,reduceIte,nqD,nqL]
 refine WK_regionT 15 ⟨by kernel_rfl, by kernel_rfl, by kernel_rfl⟩ ?_
 simp (disch := omega) only [go_sem,reduceIte,nqD,nqL, fld112_0, fld112_1, load4, load110, Nat.zero_add, l10, l11, l20, l21, neq_bool]
 have hst : ∀ {q : Bool} {h : H}, (st q h).blks = h.blks := fun {q h} => by cases q <;> rfl
 have hsn : ∀ {q : Bool} {h : H}, (st q h).next = h.next := fun {q h} => by cases q <;> rfl
 refine CallO_spec (mulNat_spec (N := N) (by rw [hsn]; omega) (by rw [hsn]; omega) (by rw [hst]; exact ht1.pres pr3 hN) (by rw [hst]; exact ht2.pres pr3 hN) m1 m2) (by omega) natV_wm fun u4 h4 pr4 hu4 => ?_
 have n4 := pr4.next
 have pr4' : Pres h.next h h4 := pr3.trans (pr4.le (by omega))
 have y1 := (x1.mono (B' := h4.blks) (pr4.get _ (by omega))).rat (G := G) rfl
 simp (disch := omega) only [go_sem,reduceIte,nqD,nqL, y1]
 refine CallO_spec (denominator_spec (G := G) (N := N) (by rw [hsn]; omega) (by rw [hst]; exact hr0.pres pr4' hN) (sm_den d1)) (by omega) natV_wm fun u5 h5 pr5 hu5 => ?_
 have n5 := pr5.next
 have pr5' : Pres h.next h h5 := pr4'.trans (pr5.le (by omega))
 have y2 := (x2.mono (B' := h5.blks) ((pr5.get _ (by omega)).trans (pr4.get _ (by omega)))).rat (G := G) rfl
 simp (disch := omega) only [go_sem,reduceIte,nqD,nqL, y2]
 refine CallO_spec (denominator_spec (G := G) (N := N) (by rw [hsn]; omega) (by rw [hst]; exact ho0.pres pr5' hN) (sm_den d2)) (by omega) natV_wm fun u6 h6 pr6 hu6 => ?_
 have n6 := pr6.next
 simp (disch := omega) only [go_sem,reduceIte,nqD,nqL]
 refine CallO_spec (mulNat_spec (N := h6.next) (by rw [hsn]; omega) (by rw [hsn]; omega) (by rw [hst]; exact (hu5.pres pr6 nlr).wide n6) (by rw [hst]; exact hu6) (sm32 d1) (sm32 d2)) (by omega) natV_wm fun u7 h7 pr7 hu7 => ?_
 have n7 := pr7.next
 simp (disch := omega) only [go_sem,reduceIte,nqD,nqL]
 refine CallO_spec (lowest_spec (N := h7.next) (by rw [hsn]; omega) (by rw [hsn]; omega) (by rw [hst]; exact (((hu4.pres pr5 nlr).wide n5).pres pr6 nlr |>.wide n6).pres pr7 nlr |>.wide n7) (by rw [hst]; exact hu7) m3 (Nat.mul_pos den_pos den_pos) d3) (by omega) (fun _ _ _ h => h) fun u8 h8 pr8 hu8 => ?_
 have n8 := pr8.next
 have pr8' : Pres h.next h h8 := (((pr5'.trans (pr6.le (by omega))).trans (pr7.le (by omega))).trans (pr8.le (by omega)))
 obtain ⟨tv, bv, rfl, hw1, hw2⟩ := hu8
 have x8 := x3.mono (B' := h8.blks) ((pr8.get _ (by omega)).trans ((pr7.get _ (by omega)).trans ((pr6.get _ (by omega)).trans ((pr5.get _ (by omega)).trans (pr4.get _ (by omega))))))
 try simp (disch := omega) only [go_sem,reduceIte,nqD,nqL]
 refine At_storeV (inf := inf112) (v := .agg #[.bool ((s1 != s2) && decide (t1 * t2 ≠ 0)), tv, bv]) i112 (by simp only [go_sem,reduceIte,nqD,nqL]) (by simp only [go_sem,reduceIte,nqD,nqL]) x8 (by rw [size112]; rfl) (by rw [size112]; rfl) (RatC.one hw1 hw2) (by show G ≤ h2.next; omega) fun h9 hs9 v9 => ?_
 have n9 := hs9.next
 have e9 := v9.ratE (G := G) rfl
 simp (disch := omega) only [go_sem,reduceIte,nqD,nqL, e9]
 exact hQ' _ _ ⟨pr8'.trans (hs9.pres (by omega)), tv, bv, rfl, (hw1.sto hs9 x8 noI_z).wide (by omega), (hw2.sto hs9 x8 noI_z).wide (by omega)⟩
structure PlusV (B : Tr Blk) (N : Nat) (s1 s2 : Bool) (t1 t2 b1 b2 : Nat) (w : Value) : Prop where
 zero : sgv s1 t1 * (den b2 / Nat.gcd (den b1) (den b2) : Nat) + sgv s2 t2 * (den b1 / Nat.gcd (den b1) (den b2) : Nat) = 0 → RatC B N false 0 0 w
 pos : ∀ m g d, m = (sgv s1 t1 * (den b2 / Nat.gcd (den b1) (den b2) : Nat) + sgv s2 t2 * (den b1 / Nat.gcd (den b1) (den b2) : Nat)).natAbs → m ≠ 0 → g = Nat.gcd m (Nat.gcd (den b1) (den b2)) → d = Nat.gcd (den b1) (den b2) / g * (den b1 / Nat.gcd (den b1) (den b2) * (den b2 / Nat.gcd (den b1) (den b2))) →
  RatC B N (decide (sgv s1 t1 * (den b2 / Nat.gcd (den b1) (den b2) : Nat) + sgv s2 t2 * (den b1 / Nat.gcd (den b1) (den b2) : Nat) < 0)) (m / g) (if d = 1 then 0 else d) w
theorem sgv_abs {s : Bool} {t : Nat} : (sgv s t).natAbs = t := by unfold sgv; cases s <;> simp
theorem sgv_mul {s : Bool} {t k : Nat} : sgv s (t * k) = sgv s t * (k : Int) := by
 unfold sgv; cases s
 ·simp
 ·simp [Int.neg_mul]
theorem sgv_neg {s : Bool} {t : Nat} : (s && decide (t ≠ 0)) = decide (sgv s t < 0) := by
 unfold sgv; cases s
 ·simp
 ·by_cases h : t = 0 <;> simp [h]; omega
theorem sgnR_zero {s : Bool} {t : Nat} (h : s = true → t ≠ 0) : decide (sgnR s t = 0) = decide (t = 0) := by
 unfold sgnR; cases s
 ·by_cases h0 : t = 0 <;> simp [h0]
 ·simp [h rfl]
set_option maxHeartbeats 16000000 in
theorem plus_spec {G N t1 t2 b1 b2 : Nat} {s1 s2 : Bool} {v1 v2 : Value} {h : H} (hG : G ≤ h.next) (hN : N ≤ h.next) (hr : RatC h.blks N s1 t1 b1 v1) (ho : RatC h.blks N s2 t2 b2 v2) (m1 : Sm ((t1 + t2) * 4294967296))
  (d1 : den b1 < 4294967296) (d2 : den b2 < 4294967296) :
  Spec Tryz.prog (En G) 94 [v1, v2] h fun w h' => PlusV h'.blks h'.next s1 s2 t1 t2 b1 b2 w := by
 have hr0 := hr
 have ho0 := ho
 obtain ⟨tv1, bv1, rfl, ht1, hb1⟩ := hr
 obtain ⟨tv2, bv2, rfl, ht2, hb2⟩ := ho
 have hcp : 0 < Nat.gcd (den b1) (den b2) := gcd_pos den_pos
 have hcl : Nat.gcd (den b1) (den b2) < 4294967296 := Nat.lt_of_le_of_lt (Nat.gcd_le_left _ den_pos) d1
 have hol : den b1 / Nat.gcd (den b1) (den b2) < 4294967296 := Nat.lt_of_le_of_lt (Nat.div_le_self _ _) d1
 have htl : den b2 / Nat.gcd (den b1) (den b2) < 4294967296 := Nat.lt_of_le_of_lt (Nat.div_le_self _ _) d2
 have hm1 : Sm t1 := m1.le (by omega)
 have hm2 : Sm t2 := m1.le (by omega)
 have hp1 : t1 * (den b2 / Nat.gcd (den b1) (den b2)) ≤ t1 * 4294967296 := Nat.mul_le_mul_left _ (by omega)
 have hp2 : t2 * (den b1 / Nat.gcd (den b1) (den b2)) ≤ t2 * 4294967296 := Nat.mul_le_mul_left _ (by omega)
 have hq1 : t1 * (den b2 / Nat.gcd (den b1) (den b2)) ≤ (t1 + t2) * 4294967296 := Nat.le_trans (Nat.mul_le_mul_left t1 (Nat.le_of_lt htl)) (Nat.mul_le_mul_right _ (Nat.le_add_right t1 t2))
 have hq2 : t2 * (den b1 / Nat.gcd (den b1) (den b2)) ≤ (t1 + t2) * 4294967296 := Nat.le_trans (Nat.mul_le_mul_left t2 (Nat.le_of_lt hol)) (Nat.mul_le_mul_right _ (Nat.le_add_left t2 t1))
 have hm3 := m1.le hq1
 have hm4 := m1.le hq2
 refine CallsE_enter (En_known (by decide)) (En_f.trans Tryz.func94) rfl ⟨Nat.le_of_ble_eq_true rfl, by decide⟩ fun Q' hQ' => ?_
 simp (disch := omega) only [Tryz.f94, go_sem,reduceIte,nqD,nqL]
 refine At_box (v := .agg #[.bool s1, tv1, bv1]) (by simp only [go_sem,reduceIte,nqD,nqL]) (by omega) fun h1 hn1 => ?_
 have n1 := hn1.next
 have pr1 : Pres h.next h h1 := hn1.pres nlr
 have x1 : Var h1.blks h.next [.bool s1, tv1, bv1] := hn1.var
 try simp (disch := omega) only [go_sem,reduceIte,nqD,nqL]
 refine At_box (v := .agg #[.bool s2, tv2, bv2]) (by simp only [go_sem,reduceIte,nqD,nqL]) (by omega) fun h2 hn2 => ?_
 have n2 := hn2.next
 have pr2 : Pres h.next h h2 := pr1.trans ((hn2.pres nlr).le (by omega))
 have x2 : Var h2.blks h1.next [.bool s2, tv2, bv2] := hn2.var
 replace x1 := x1.mono (B' := h2.blks) (by rw [hn2.get, if_neg (by omega)])
 try simp (disch := omega) only [go_sem,reduceIte,nqD,nqL]
 refine At_alloc i112 zero112 rfl (by omega) fun h3 hn3 => ?_
 have n3 := hn3.next
 have pr3 : Pres h.next h h3 := pr2.trans ((hn3.pres nlr).le (by omega))
 have x3 : Var h3.blks h2.next [.bool false, .slice none 0 0, .slice none 0 0] := hn3.var
 replace x1 := x1.mono (B' := h3.blks) (by rw [hn3.get, if_neg (by omega)])
 replace x2 := x2.mono (B' := h3.blks) (by rw [hn3.get, if_neg (by omega)])
 have la1 := x1.rat (G := G) rfl
 have la2 := x2.rat (G := G) rfl
 have hst : ∀ {q : Bool} {h : H}, (st q h).blks = h.blks := fun {q h} => by cases q <;> rfl
 have hsn : ∀ {q : Bool} {h : H}, (st q h).next = h.next := fun {q h} => by cases q <;> rfl
 simp (disch := omega) only [go_sem,reduceIte,nqD,nqL]
 refine WK_regionT 3 ⟨by kernel_rfl, by kernel_rfl, by kernel_rfl⟩ ?_
 simp (disch := omega) only [go_sem,reduceIte,nqD,nqL, la1, la2]
 refine CallO_spec (denominator_spec (G := G) (N := N) (by rw [hsn]; omega) (by rw [hst]; exact hr0.pres pr3 hN) (sm_den d1)) (by omega) natV_wm fun u4 h4 pr4 hu4 => ?_
 have n4 := pr4.next
 have pr4' : Pres h.next h h4 := pr3.trans (pr4.le (by omega))
 have y2 := (x2.mono (B' := h4.blks) (pr4.get _ (by omega))).rat (G := G) rfl
 simp (disch := omega) only [go_sem,reduceIte,nqD,nqL, y2]
 refine CallO_spec (denominator_spec (G := G) (N := N) (by rw [hsn]; omega) (by rw [hst]; exact ho0.pres pr4' hN) (sm_den d2)) (by omega) natV_wm fun u5 h5 pr5 hu5 => ?_
 have n5 := pr5.next
 have pr5' : Pres h.next h h5 := pr4'.trans (pr5.le (by omega))
 simp (disch := omega) only [go_sem,reduceIte,nqD,nqL]
 refine CallO_spec (gcdNat_spec (N := h5.next) (by rw [hsn]; omega) (by rw [hsn]; omega) (by rw [hst]; exact (hu4.pres pr5 nlr).wide n5) (by rw [hst]; exact hu5) (sm32 d1) d2) (by omega) natV_wm fun cm h6 pr6 hcm => ?_
 have n6 := pr6.next
 have pr6' : Pres h.next h h6 := pr5'.trans (pr6.le (by omega))
 have z1 := x1.mono (B' := h6.blks) ((pr6.get _ (by omega)).trans ((pr5.get _ (by omega)).trans (pr4.get _ (by omega))))
 have z2 := x2.mono (B' := h6.blks) ((pr6.get _ (by omega)).trans ((pr5.get _ (by omega)).trans (pr4.get _ (by omega))))
 have z3 := x3.mono (B' := h6.blks) ((pr6.get _ (by omega)).trans ((pr5.get _ (by omega)).trans (pr4.get _ (by omega))))
 clear la1 la2 y2 x1 x2 x3 hu4 hu5
 have w1 := z1.rat (G := G) rfl
 simp (disch := omega) only [go_sem,reduceIte,nqD,nqL, w1]
 -- own
 refine CallO_f (denominator_spec (G := G) (N := N) (by omega) (hr0.pres pr6' hN) (sm_den d1)) (by omega) fun u7 h7 pr7 hu7 => ?_
 have n7 := pr7.next
 simp (disch := omega) only [go_sem,reduceIte,nqD,nqL]
 refine CallO_f (divNat_spec (by omega) nlr hu7 ((hcm.pres pr7 nlr).wide n7) (sm32 d1) hcp (.inl hcl)) (by omega) fun u8 h8 pr8 hu8 => ?_
 obtain ⟨own, _, rfl, hown, _⟩ := hu8
 have n8 := pr8.next
 have pr8' : Pres h.next h h8 := (pr6'.trans (pr7.le (by omega))).trans (pr8.le (by omega))
 replace z1 := z1.mono (B' := h8.blks) ((pr8.get _ (by omega)).trans (pr7.get _ (by omega)))
 replace z2 := z2.mono (B' := h8.blks) ((pr8.get _ (by omega)).trans (pr7.get _ (by omega)))
 replace z3 := z3.mono (B' := h8.blks) ((pr8.get _ (by omega)).trans (pr7.get _ (by omega)))
 have hcm8 := ((hcm.pres pr7 nlr).wide n7).pres pr8 nlr |>.wide n8
 clear hcm hu7 w1
 have w2 := z2.rat (G := G) rfl
 simp (disch := omega) only [go_sem,reduceIte,nqD,nqL, w2]
 -- others
 refine CallO_f (denominator_spec (G := G) (N := N) (by omega) (ho0.pres pr8' hN) (sm_den d2)) (by omega) fun u9 h9 pr9 hu9 => ?_
 have n9 := pr9.next
 simp (disch := omega) only [go_sem,reduceIte,nqD,nqL]
 refine CallO_f (divNat_spec (by omega) nlr hu9 ((hcm8.pres pr9 nlr).wide n9) (sm32 d2) hcp (.inl hcl)) (by omega) fun u10 h10 pr10 hu10 => ?_
 obtain ⟨oth, _, rfl, hoth, _⟩ := hu10
 have n10 := pr10.next
 have pr10' : Pres h.next h h10 := (pr8'.trans (pr9.le (by omega))).trans (pr10.le (by omega))
 replace z1 := z1.mono (B' := h10.blks) ((pr10.get _ (by omega)).trans (pr9.get _ (by omega)))
 replace z2 := z2.mono (B' := h10.blks) ((pr10.get _ (by omega)).trans (pr9.get _ (by omega)))
 replace z3 := z3.mono (B' := h10.blks) ((pr10.get _ (by omega)).trans (pr9.get _ (by omega)))
 have hcm10 := ((hcm8.pres pr9 nlr).wide n9).pres pr10 nlr |>.wide n10
 have hown10 := ((hown.pres pr9 nlr).wide n9).pres pr10 nlr |>.wide n10
 clear hcm8 hu9 w2 hown
 have l10 : loadv h10.blks h.next 0 = some (.bool s1) := by rw [z1.load (by simp)]; rfl
 have l11 : loadv h10.blks h.next 1 = some tv1 := by rw [z1.load (by simp)]; rfl
 simp (disch := omega) only [go_sem,reduceIte,nqD,nqL]
 refine WK_regionT 17 ⟨by kernel_rfl, by kernel_rfl, by kernel_rfl⟩ ?_
 simp (disch := omega) only [go_sem,reduceIte,nqD,nqL, fld112_0, fld112_1, load4, load110, Nat.zero_add, l10, l11]
 refine CallO_spec (mulNat_spec (N := h10.next) (by rw [hsn]; omega) (by rw [hsn]; omega) (by rw [hst]; exact (ht1.pres pr10' hN).wide (by omega)) (by rw [hst]; exact hoth) hm1 (sm32 htl)) (by omega) natV_wm fun p1 h11 pr11 hp1' => ?_
 have n11 := pr11.next
 have q20 : loadv h11.blks h1.next 0 = some (.bool s2) := by rw [(z2.mono (B' := h11.blks) (pr11.get _ (by omega))).load (by simp)]; rfl
 have q21 : loadv h11.blks h1.next 1 = some tv2 := by rw [(z2.mono (B' := h11.blks) (pr11.get _ (by omega))).load (by simp)]; rfl
 have pr11' : Pres h.next h h11 := pr10'.trans (pr11.le (by omega))
 have hown11 := (hown10.pres pr11 nlr).wide n11
 simp (disch := omega) only [go_sem,reduceIte,nqD,nqL, fld112_0, fld112_1, load4, load110, Nat.zero_add, q20, q21]
 refine CallO_spec (mulNat_spec (N := h11.next) (by rw [hsn]; omega) (by rw [hsn]; omega) (by rw [hst]; exact (ht2.pres pr11' hN).wide (by omega)) (by rw [hst]; exact hown11) hm2 (sm32 hol)) (by omega) natV_wm fun p2 h12 pr12 hp2' => ?_
 have n12 := pr12.next
 simp (disch := omega) only [go_sem,reduceIte,nqD,nqL]
 refine CallO_spec (addSigned_spec (s1 := s1) (s2 := s2) (N := h12.next) (by rw [hsn]; omega) (by rw [hsn]; omega) (by rw [hst]; exact (hp1'.pres pr12 nlr).wide n12) (by rw [hst]; exact hp2') hm3 hm4) (by omega) (fun _ _ _ h => h) fun u13 h13 pr13 hu13 => ?_
 obtain ⟨s, t, tv, rfl, htv, hsgv, htle⟩ := hu13
 have n13 := pr13.next
 have pr13' : Pres h.next h h13 := (pr11'.trans (pr12.le (by omega))).trans (pr13.le (by omega))
 have hcm13 := ((((hcm10.pres pr11 nlr).wide n11).pres pr12 nlr).wide n12).pres pr13 nlr |>.wide n13
 have hown13 := ((hown11.pres pr12 nlr).wide n12).pres pr13 nlr |>.wide n13
 have hoth13 := ((((hoth.pres pr11 nlr).wide n11).pres pr12 nlr).wide n12).pres pr13 nlr |>.wide n13
 replace z3 := z3.mono (B' := h13.blks) ((pr13.get _ (by omega)).trans ((pr12.get _ (by omega)).trans (pr11.get _ (by omega))))
 have hst1 : Sm t := m1.le (by omega)
 clear hcm10 hown10 hown11 hoth hp1' hp2' l10 l11 q20 q21 z1 z2
 rw [sgv_mul, sgv_mul] at hsgv
 generalize hc : Nat.gcd (den b1) (den b2) = c at *
 generalize ho1 : den b1 / c = o1 at *
 generalize ho2 : den b2 / c = o2 at *
 simp (disch := omega) only [go_sem,reduceIte,nqD,nqL]
 refine CallO_f (lowest_spec (N := h13.next) (by omega) nlr htv hcm13 hst1 hcp hcl) (by omega) fun w h14 pr14 hw => ?_
 have n14 := pr14.next
 have hw0 := hw
 obtain ⟨wt, wb, rfl, hwt, hwb⟩ := hw
 have hgp : 0 < Nat.gcd t c := gcd_pos hcp
 have hgc : Nat.gcd t c ≤ c := Nat.gcd_le_right _ hcp
 have hcg : 0 < c / Nat.gcd t c := Nat.div_pos hgc hgp
 have hcg2 : c / Nat.gcd t c ≤ c := Nat.div_le_self _ _
 have htg : t / Nat.gcd t c ≤ t := Nat.div_le_self _ _
 try simp (disch := omega) only [go_sem,reduceIte,nqD,nqL]
 refine At_alloc i112 zero112 rfl (by omega) fun h15 hn15 => ?_
 have n15 := hn15.next
 have pr15 : Pres h14.next h14 h15 := hn15.pres nlr
 have x15 : Var h15.blks h14.next [.bool false, .slice none 0 0, .slice none 0 0] := hn15.var
 try simp (disch := omega) only [go_sem,reduceIte,nqD,nqL]
 refine At_storeV (inf := inf112) (v := .agg #[.bool (s && decide (t ≠ 0)), wt, wb]) i112 (by simp only [go_sem,reduceIte,nqD,nqL]) (by simp only [go_sem,reduceIte,nqD,nqL]) x15 (by rw [size112]; rfl) (by rw [size112]; rfl) (RatC.one hwt hwb) (by show G ≤ h14.next; omega) fun h16 hs16 v16 => ?_
 have n16 := hs16.next
 have pr16 : Pres h14.next h14 h16 := pr15.trans (hs16.pres nlr)
 have pr16' : Pres h.next h h16 := (pr13'.trans (pr14.le (by omega))).trans (pr16.le (by omega))
 have hw16 := hw0.pres pr16 nlr
 replace v16 : Var h16.blks h14.next [.bool (s && decide (t ≠ 0)), wt, wb] := v16
 have r16 := v16.rat (G := G) rfl
 have z16 := z3.mono (B' := h16.blks) ((pr16.get _ (by omega)).trans (pr14.get _ (by omega)))
 simp (disch := omega) only [go_sem,reduceIte,nqD,nqL, r16]
 refine CallO_f (sign_spec (G := G) hw16 (hst1.le htg)) (by omega) fun u h17 pr17 hu => ?_
 subst hu
 have n17 := pr17.next
 have pr17' : Pres h.next h h17 := pr16'.trans (pr17.le (by omega))
 have v17 := v16.mono (B' := h17.blks) (pr17.get _ (by omega))
 have z17 := z16.mono (B' := h17.blks) (pr17.get _ (by omega))
 have hw17 := hw16.pres pr17 (by omega)
 have htz : t = 0 ↔ t / Nat.gcd t c = 0 := by
  constructor
  ·intro e; rw [e]; simp
  ·intro e
   have := Nat.div_mul_cancel (Nat.gcd_dvd_left t c)
   rw [e, Nat.zero_mul] at this; exact this.symm
 have hsz := sgnR_zero (s := s && decide (t ≠ 0)) (t := t / Nat.gcd t c) fun e => by
  rw [Bool.and_eq_true, decide_eq_true_eq] at e
  exact fun e2 => e.2 (htz.2 e2)
 have hsg0 : t = 0 ↔ sgv s1 t1 * (o2 : Int) + sgv s2 t2 * (o1 : Int) = 0 := by
  rw [← hsgv]; unfold sgv; cases s <;> simp
 have hneg : (s && decide (t ≠ 0)) = decide (sgv s1 t1 * (o2 : Int) + sgv s2 t2 * (o1 : Int) < 0) := by rw [sgv_neg, hsgv]
 have habs : (sgv s1 t1 * (o2 : Int) + sgv s2 t2 * (o1 : Int)).natAbs = t := by rw [← hsgv, sgv_abs]
 have r17 := v17.rat (G := G) rfl
 by_cases h0 : t = 0
 ·have d5 : decide (t / Nat.gcd t c = 0) = true := decide_eq_true (htz.1 h0)
  simp (disch := omega) only [go_sem,reduceIte,nqD,nqL, hsz, d5, r17]
  refine At_storeV (inf := inf112) (v := .agg #[.bool (s && decide (t ≠ 0)), wt, wb]) i112 (by simp only [go_sem,reduceIte,nqD,nqL]) (by simp only [go_sem,reduceIte,nqD,nqL]) z17 (by rw [size112]; rfl) (by rw [size112]; rfl) (RatC.one hwt hwb) (by show G ≤ h2.next; omega) fun h18 hs18 v18 => ?_
  have n18 := hs18.next
  have e18 := v18.ratE (G := G) rfl
  simp (disch := omega) only [go_sem,reduceIte,nqD,nqL, e18]
  refine hQ' _ _ ⟨pr17'.trans (hs18.pres (by omega)), fun _ => ?_, fun m g d hm hm0 => ?_⟩
  ·have hw18 := (hw17.sto hs18 z17 noI_z).wide (N' := h18.next) (by omega)
   have e1 : (s && decide (t ≠ 0)) = false := by simp [h0]
   have e2 : t / Nat.gcd t c = 0 := htz.1 h0
   have e3 : (if c / Nat.gcd t c = 1 then 0 else c / Nat.gcd t c) = 0 := by rw [h0, Nat.gcd_zero_left, Nat.div_self hcp, if_pos rfl]
   rw [e1, e2, e3] at hw18
   rw [e1]
   exact hw18
  ·exfalso
   rw [hc, ho1, ho2] at hm
   rw [habs] at hm; omega
 ·have d5 : decide (t / Nat.gcd t c = 0) = false := decide_eq_false fun e => h0 (htz.2 e)
  have l0 : loadv h17.blks h14.next 0 = some (.bool (s && decide (t ≠ 0))) := by rw [v17.load (by simp)]; rfl
  have l1 : loadv h17.blks h14.next 1 = some wt := by rw [v17.load (by simp)]; rfl
  have hdn : den (if c / Nat.gcd t c = 1 then 0 else c / Nat.gcd t c) = c / Nat.gcd t c := den_one hcg
  simp (disch := omega) only [go_sem,reduceIte,nqD,nqL, hsz, d5]
  refine WK_regionT 10 ⟨by kernel_rfl, by kernel_rfl, by kernel_rfl⟩ ?_
  simp (disch := omega) only [go_sem,reduceIte,nqD,nqL, fld112_0, fld112_1, load4, load110, Nat.zero_add, l0, l1, r17]
  refine CallO_spec (denominator_spec (G := G) (N := h14.next) (by rw [hsn]; omega) (by rw [hst]; exact hw17) (sm32 (by split <;> omega))) (by omega) natV_wm fun u19 h19 pr19 hu19 => ?_
  rw [hdn] at hu19
  have n19 := pr19.next
  have prA : Pres h13.next h13 h19 := (((pr14.trans (pr16.le (by omega))).trans (pr17.le (by omega))).trans (pr19.le (by omega)))
  simp (disch := omega) only [go_sem,reduceIte,nqD,nqL]
  refine CallO_spec (mulNat_spec (N := h13.next) (by rw [hsn]; omega) (by rw [hsn]; omega) (by rw [hst]; exact hown13.pres prA nlr) (by rw [hst]; exact hoth13.pres prA nlr) (sm32 hol) (sm32 htl)) (by omega) natV_wm fun u20 h20 pr20 hu20 => ?_
  have n20 := pr20.next
  have hoo : o1 * o2 ≤ 4294967295 * 4294967295 := Nat.mul_le_mul (by omega) (by omega)
  simp (disch := omega) only [go_sem,reduceIte,nqD,nqL]
  refine CallO_spec (mulNat_spec (N := h20.next) (by rw [hsn]; omega) (by rw [hsn]; omega) (by rw [hst]; exact (hu19.pres pr20 nlr).wide n20) (by rw [hst]; exact hu20) (sm32 (by omega)) (sm64 (by omega))) (by omega) natV_wm fun u21 h21 pr21 hu21 => ?_
  have n21 := pr21.next
  have hdd : c / Nat.gcd t c * (o1 * o2) ≤ 4294967295 * (4294967295 * 4294967295) := Nat.mul_le_mul (by omega) hoo
  have prB : Pres h14.next h14 h21 := ((((pr16.trans (pr17.le (by omega))).trans (pr19.le (by omega))).trans (pr20.le (by omega))).trans (pr21.le (by omega)))
  simp (disch := omega) only [go_sem,reduceIte,nqD,nqL]
  refine CallO_spec (inLowest_spec (s := s && decide (t ≠ 0)) (N := h21.next) (by rw [hsn]; omega) (by rw [hsn]; omega) (by rw [hst]; exact (hwt.pres prB nlr).wide (by omega)) (by rw [hst]; exact hu21) (sm96 (by omega))) (by omega) (fun _ _ _ h => h) fun u22 h22 pr22 hu22 => ?_
  have n22 := pr22.next
  obtain ⟨wt2, wb2, rfl, hwt2, hwb2⟩ := hu22
  have z22 := z17.mono (B' := h22.blks) ((pr22.get _ (by omega)).trans ((pr21.get _ (by omega)).trans ((pr20.get _ (by omega)).trans (pr19.get _ (by omega)))))
  try simp (disch := omega) only [go_sem,reduceIte,nqD,nqL]
  refine At_storeV (inf := inf112) (v := .agg #[.bool (s && decide (t ≠ 0)), wt2, wb2]) i112 (by simp only [go_sem,reduceIte,nqD,nqL]) (by simp only [go_sem,reduceIte,nqD,nqL]) z22 (by rw [size112]; rfl) (by rw [size112]; rfl) (RatC.one hwt2 hwb2) (by show G ≤ h2.next; omega) fun h23 hs23 v23 => ?_
  have n23 := hs23.next
  have e23 := v23.ratE (G := G) rfl
  simp (disch := omega) only [go_sem,reduceIte,nqD,nqL, e23]
  refine hQ' _ _ ⟨((((pr17'.trans (pr19.le (by omega))).trans (pr20.le (by omega))).trans (pr21.le (by omega))).trans (pr22.le (by omega))).trans (hs23.pres (by omega)), fun e => ?_, fun m g d hm hm0 hg hd => ?_⟩
  ·exfalso
   rw [hc, ho1, ho2] at e
   exact h0 (hsg0.2 e)
  ·rw [hc, ho1, ho2] at *
   rw [habs] at hm
   subst hm
   subst hg
   subst hd
   rw [← hneg]
   exact ⟨wt2, wb2, rfl, (hwt2.sto hs23 z22 noI_z).wide (by omega), (hwb2.sto hs23 z22 noI_z).wide (by omega)⟩
end
end Go.Proofs.YthankillfhmfkaaGreatDoor.Ev
namespace Go.Proofs.YthankillfhmfkaaGreatDoor.Ev
open Go Go.Proofs Go.Lm
open Nat renaming reduceEqDiff → nqD, reduceLT → nqL
noncomputable section
theorem decDigits_dec : ∀ {n : Nat}, Lib.decDigits n = dec n := by
 intro n
 induction n using Nat.strongRecOn with
 | _ n ih =>
  rw [Lib.decDigits, dec]
  by_cases h : n < 10
  ·rw [dif_pos h, if_pos h]
   simp only [dg, Nat.mod_eq_of_lt h]
  ·rw [dif_neg h, if_neg h, ih _ (by omega)]; rfl
theorem orc124 {G : Nat} : (En G).orc.get 124 = some gItoa := by
 rw [En_orc]; unfold orcs; simp [Tr.get_put]
theorem orc125 {G : Nat} : (En G).orc.get 125 = some gRepeat := by
 rw [En_orc]; unfold orcs; simp [Tr.get_put]
theorem orc127 {G : Nat} : (En G).orc.get 127 = some gJoin := by
 rw [En_orc]; unfold orcs; simp [Tr.get_put]
theorem itoa_spec {G x : Nat} {h : H} (ht : TabsIn tabs h.blks) (hx : x < 1000000000) : Spec Tryz.prog (En G) 124 [.int .i64 (x : Int)] h fun v h' => v = strV (dec x) ∧ h' = h := by
 refine CallsE_orc (g := gItoa) (v := strV (dec x)) (En_kn (by decide)) orc124 ht ?_ ⟨Pres.refl _ _, rfl, rfl⟩
 unfold gItoa
 simp only
 rw [if_pos (by omega)]
 have : Lib.itoa (x : Int) = dec x := by
  unfold Lib.itoa
  rw [if_neg (by omega), Int.toNat_natCast, decDigits_dec]
 rw [this]; rfl
theorem repeat_spec {G k : Nat} {h : H} (ht : TabsIn tabs h.blks) (hk : k ≤ 9) : Spec Tryz.prog (En G) 125 [strV [48], .int .i64 (k : Int)] h fun v h' => v = strV (List.replicate k 48) ∧ h' = h := by
 refine CallsE_orc (g := gRepeat) (v := strV (List.replicate k 48)) (En_kn (by decide)) orc125 ht ?_ ⟨Pres.refl _ _, rfl, rfl⟩
 unfold gRepeat strV
 simp only
 have hs : (⟨#[48]⟩ : ByteArray).size = 1 := rfl
 rw [if_pos ⟨by omega, by omega, by rw [show (⟨([48] : List UInt8).toArray⟩ : ByteArray).size = 1 from rfl]; omega⟩]
 have : ∀ n, Lib.repeatL ([48] : List UInt8) n = List.replicate n 48 := by
  intro n
  induction n with
  | zero => rfl
  | succ n ih => rw [Lib.repeatL, ih, List.replicate_succ]; rfl
 rw [Int.toNat_natCast]
 exact congrArg (fun l : List UInt8 => some (Value.string ⟨l.toArray⟩)) (this k)
theorem join_flat : ∀ (l : List (List UInt8)), Lib.join l [] = l.flatten
 | [] => rfl
 | x :: r => by
  rw [Lib.join_cons, List.flatten_cons]
  simp [Lib.joinTail]
theorem strsOf_strs : ∀ (l : List (List UInt8)), strsOf (strs l) = some (l.map fun x => ⟨x.toArray⟩)
 | [] => rfl
 | x :: r => by
  show strsOf (Value.string ⟨x.toArray⟩ :: strs r) = _
  simp only [strsOf, strsOf_strs r, List.map_cons]
theorem join_spec {G n c lo hi : Nat} {A : Option Addr} {l : List (List UInt8)} {h : H} (ht : TabsIn tabs h.blks) (hs : SlV h.blks lo hi 1 n (strs l) (.slice A n c)) (h0 : 0 < n) (hn : n ≤ 140737488355328) (hl : l.flatten.length ≤ 140737488355328) :
  Spec Tryz.prog (En G) 127 [.slice A n c, strV []] h fun v h' => v = strV l.flatten ∧ h' = h := by
 refine CallsE_orc (g := gJoin) (v := strV l.flatten) (En_kn (by decide)) orc127 ht ?_ ⟨Pres.refl _ _, rfl, rfl⟩
 cases hs with
 | nil hn' _ => omega
 | emp hn' _ => omega
 | mk hb hlo hhi hsz hL hc =>
  rename_i b off size cells
  have hln : l.length = n := by rw [strs_len] at hL; omega
  have hrd : rd h b off n = some (strs l) := by
   simp only [rd, hb]
   rw [if_pos (by omega)]
   exact getCells_of _ _ _ _ (by rw [strs_len]; exact hln) fun j hj => hc j (by omega)
  have hj : Lib.join (((l.map fun x => (⟨x.toArray⟩ : ByteArray))).map (·.data.toList)) [] = l.flatten := by
   rw [List.map_map, show ((fun x : ByteArray => x.data.toList) ∘ fun x : List UInt8 => (⟨x.toArray⟩ : ByteArray)) = id from rfl, List.map_id, join_flat]
  show gJoin [.slice (some ⟨b, off, none⟩) n c, .string ⟨([] : List UInt8).toArray⟩] h = _
  unfold gJoin
  simp only [hrd, strsOf_strs]
  have hj2 : Lib.join (((l.map fun x => (⟨x.toArray⟩ : ByteArray))).map fun x => x.data.toList) ((⟨([] : List UInt8).toArray⟩ : ByteArray).data.toList) = l.flatten := hj
  rw [hj2, if_pos ⟨h0, by rw [List.length_map]; exact hln, hn, hl⟩]
  rfl
structure WrB (h h' : H) (b : Nat) : Prop where
 pres : Pres b h h'
 next : h'.next = h.next
theorem WrB.refl {h : H} {b : Nat} : WrB h h b := ⟨Pres.refl _ _, rfl⟩
theorem WrB.sto {h h' h2 : H} {b off : Nat} {vs : List Value} (a : WrB h h' b) (s : Sto h' h2 b off vs) : WrB h h2 b := ⟨a.pres.trans (s.pres nlr), s.next.trans a.next⟩
theorem strs_get {l : List (List UInt8)} {i : Nat} {x : List UInt8} (h : l[i]? = some x) : (strs l)[i]? = some (strV x) := by simp [strs, h]
theorem strs_set {l : List (List UInt8)} {j : Nat} {x : List UInt8} (hj : j < l.length) : (strs l).take j ++ [strV x] ++ (strs l).drop (j + 1) = strs (l.set j x) := by
 simp only [strs, ← List.map_take, ← List.map_drop, List.set_eq_take_append_cons_drop, if_pos hj, List.map_append, List.map_cons]
 simp
section
variable {P : Program} {n0 : Nat} {ops : List Oper} {r tl : List Oper} {k : List Frm} {α : Tr Value} {h : H} {R : Rt} {ty : TypeId} {pos : String} {af : Array Edge}
theorem At_str {G b off lo hi i n c : Nat} {L : List (List UInt8)} {x : List UInt8} {X Y : Operand} (hx : ev (En G) h α X = some (.pointer (some ⟨b, off + i, none⟩))) (hy : ev (En G) h α Y = some (strV x))
  (hs : SlV h.blks lo hi 1 n (strs L) (.slice (some ⟨b, off, none⟩) n c)) (hin : i < n) (hG : G ≤ b)
  (hk : ∀ h', Sto h h' b (off + i) [strV x] → SlV h'.blks lo hi 1 n (strs (L.set i x)) (.slice (some ⟨b, off, none⟩) n c) → At P (En G) n0 ops false r tl k α h' R) :
  At P (En G) n0 ops false (⟨none, .store 9 X Y, ty, pos, af, none⟩ :: r) tl k α h R := by
 have hlen : L.length = n := by have := hs.len; rw [strs_len] at this; omega
 have hs0 := hs
 cases hs with
 | mk gb glo ghi gsz gL gc =>
  refine At_store (inf := inf9) (v := strV x) i9 hx hy (by rw [size9]; rfl) rfl gb (by rw [size9]; omega) (by rw [En_G]; exact hG) fun h' hs' => ?_
  refine hk h' hs' ?_
  have e2 : (strV x).cells.toList = [strV x] := rfl
  have := Sto.slv (j := i) hs' hs0 (by rw [e2]; show i + 1 ≤ n * 1; omega)
  rw [e2] at this
  have e : [strV x].length = 1 := rfl
  rw [e, strs_set (by omega)] at this
  exact this
end
theorem str_at {B : Tr Blk} {lo hi n c b off i : Nat} {l : List (List UInt8)} {x : List UInt8} (hs : SlV B lo hi 1 n (strs l) (.slice (some ⟨b, off, none⟩) n c)) (hx : l[i]? = some x) : loadv B b (off + i) = some (strV x) := by
 have hlen : l.length = n := by have := hs.len; rw [strs_len] at this; omega
 have hi := (List.getElem?_eq_some_iff.1 hx).1
 obtain ⟨b', off', e, _, _, hld⟩ := hs.at_ (by omega)
 injection e with e
 injection e with q1 q2
 subst q1; subst q2
 rw [hld i (by omega), strs_get hx]
set_option maxHeartbeats 8000000 in
theorem reverse_spec {G n c b off : Nat} {l : List (List UInt8)} {h : H} (hv : SlV h.blks b (b + 1) 1 n (strs l) (.slice (some ⟨b, off, none⟩) n c)) (hG : G ≤ b) (hn : n ≤ 2147483648) :
  CallsE Tryz.prog (En G) 126 [.slice (some ⟨b, off, none⟩) n c] h fun _ h' => SlV h'.blks b (b + 1) 1 n (strs l.reverse) (.slice (some ⟨b, off, none⟩) n c) ∧ WrB h h' b := by
 have hl : l.length = n := by have := hv.len; rw [strs_len] at this; omega
 refine CallsE_enter (En_known (by decide)) (En_f.trans Tryz.func126) rfl ⟨Nat.le_of_ble_eq_true rfl, by decide⟩ fun Q' hQ' => ?_
 simp (disch := omega) only [Tryz.f126, go_sem,reduceIte,nqD,nqL, len28, wrap_i64]
 refine WK_loopN (fun j0 α h2 => ∃ (i : Nat) (M : List (List UInt8)), i + j0 = n + 1 ∧ M.length = n ∧ α.get 0 = some (.slice (some ⟨b, off, none⟩) n c) ∧ α.get 2 = some (.int .i64 i) ∧ α.get 3 = some (.int .i64 ((n : Int) - 1 - i)) ∧ (∀ k, k < n → M[k]? = if k < i ∨ n ≤ k + i then l[n - 1 - k]? else l[k]?) ∧
   SlV h2.blks b (b + 1) 1 n (strs M) (.slice (some ⟨b, off, none⟩) n c) ∧ WrB h h2 b) (n + 1)
  ⟨0, l, by omega, hl, by simp only [go_sem,reduceIte,nqD,nqL], by (simp only [go_sem,reduceIte,nqD,nqL]) <;> rfl, by simp only [go_sem,reduceIte,nqD,nqL, Int.sub_zero, Int.natCast_zero], fun k hk => by rw [if_neg (by omega)], hv, WrB.refl⟩ (by omega) ?_
 rintro J j0 α h2 ⟨i, M, hij, hM, e0, e2, e3, hm, hsv, hw⟩ hJ
 by_cases hlt : (i : Int) < (n : Int) - 1 - i
 ·obtain ⟨x, hx⟩ : ∃ x, M[i]? = some x := ⟨M[i]'(by omega), List.getElem?_eq_getElem (by omega)⟩
  obtain ⟨y, hy⟩ : ∃ y, M[n - 1 - i]? = some y := ⟨M[n - 1 - i]'(by omega), List.getElem?_eq_getElem (by omega)⟩
  have lx := str_at hsv hx
  have ly := str_at hsv hy
  have ej : (n : Int) - 1 - i = ((n - 1 - i : Nat) : Int) := by omega
  rw [ej] at e3 hlt
  simp (disch := omega) only [go_sem,reduceIte,nqD,nqL, e0, e2, e3, hlt]
  refine WK_regionT 12 ⟨by kernel_rfl, by kernel_rfl, by kernel_rfl⟩ ?_
  simp (disch := omega) only [go_sem,reduceIte,nqD,nqL, e0, e2, e3, idxA28, Int.toNat_natCast, Nat.mul_one, load9, lx, ly]
  refine At_str (b := b) (off := off) (i := i) (x := y) (by simp only [go_sem,reduceIte,nqD,nqL]) (by simp only [go_sem,reduceIte,nqD,nqL]) hsv (by omega) hG fun h3 hs3 hsv3 => ?_
  simp (disch := omega) only [go_sem,reduceIte,nqD,nqL, idxA28, Int.toNat_natCast, Nat.mul_one]
  refine At_str (b := b) (off := off) (i := n - 1 - i) (x := x) (by simp only [go_sem,reduceIte,nqD,nqL]) (by simp only [go_sem,reduceIte,nqD,nqL]) hsv3 (by omega) hG fun h4 hs4 hsv4 => ?_
  have w1 : IntKind.i64.wrap ((i : Int) + 1) = ((i + 1 : Nat) : Int) := wrap_nat (by omega) (by omega)
  have w2 : IntKind.i64.wrap (((n - 1 - i : Nat) : Int) - 1) = (n : Int) - 1 - ((i + 1 : Nat) : Int) := by rw [wrap_i64 (by omega) (by omega)]; omega
  simp (disch := omega) only [go_sem,reduceIte,nqD,nqL, e0, e2, e3, w1, w2]
  refine hJ (j0 - 1) _ _ (by omega) ⟨i + 1, (M.set i y).set (n - 1 - i) x, by omega, by rw [List.length_set, List.length_set]; exact hM, by simp only [go_sem,reduceIte,nqD,nqL, e0], by simp only [go_sem,reduceIte,nqD,nqL], by simp only [go_sem,reduceIte,nqD,nqL], fun k hk => ?_, hsv4, (hw.sto hs3).sto hs4⟩
  have mx := hm i (by omega)
  have my := hm (n - 1 - i) (by omega)
  rw [hx, if_neg (by omega)] at mx
  rw [hy, if_neg (by omega)] at my
  by_cases c1 : k = n - 1 - i
  ·subst c1
   rw [List.getElem?_set_self (by rw [List.length_set]; omega), if_pos (by omega), mx]
   congr 1; omega
  ·rw [List.getElem?_set_ne (Ne.symm c1)]
   by_cases c2 : k = i
   ·subst c2
    rw [List.getElem?_set_self (by omega), if_pos (by omega), my]
   ·rw [List.getElem?_set_ne (Ne.symm c2), hm k hk]
    by_cases c3 : k < i ∨ n ≤ k + i
    ·rw [if_pos c3, if_pos (by omega)]
    ·rw [if_neg c3, if_neg (by omega)]
 ·simp (disch := omega) only [go_sem,reduceIte,nqD,nqL, e0, e2, e3, hlt]
  refine hQ' _ _ ⟨?_, hw⟩
  have : M = l.reverse := by
   apply List.ext_getElem?
   intro k
   by_cases hk : k < n
   ·rw [hm k hk, List.getElem?_reverse (by omega), hl]
    by_cases c : k < i ∨ n ≤ k + i
    ·rw [if_pos c]
    ·rw [if_neg c]
     congr 1
     omega
   ·rw [List.getElem?_eq_none (by omega), List.getElem?_eq_none (by rw [List.length_reverse]; omega)]
  rw [← this]; exact hsv
end
end Go.Proofs.YthankillfhmfkaaGreatDoor.Ev
namespace Go.Proofs.YthankillfhmfkaaGreatDoor.Ev
open Go Go.Proofs Go.Lm
open Nat renaming reduceEqDiff → nqD, reduceLT → nqL
noncomputable section
def Dg (x : Nat) : Prop := ∃ k, k ≤ 1000000 ∧ x < 1000000000 ^ k
theorem Dg.sm {x : Nat} (h : Dg x) : Sm x := by
 obtain ⟨k, h1, h2⟩ := h
 exact ⟨k, by omega, Nat.lt_of_lt_of_le h2 (Nat.pow_le_pow_left (by omega) k)⟩
theorem Dg.len {x k : Nat} (h2 : x < 1000000000 ^ k) (h0 : 0 < k) : (dec x).length ≤ 9 * k := by
 have e : (1000000000 : Nat) ^ k = 10 ^ (9 * k) := by rw [Nat.pow_mul]
 rw [e] at h2
 obtain ⟨m, hm⟩ : ∃ m, 9 * k = m + 1 := ⟨9 * k - 1, by omega⟩
 rw [hm] at h2 ⊢
 exact dec_len h2
theorem c32_i {P : Program} {G : Nat} {B : Tr Blk} {x : Nat} (h : x < 4294967296) : convO P (En G) B 168 3 (some (.int .u32 (x : Int))) = some (.int .i64 (x : Int)) := by
 rw [convO_int u168 u3, wrap_i64 (by omega) (by omega)]
theorem NatV.push {h h' : H} {N x es : Nat} {v : Value} {ob : Option Nat} {cells : List Value} (hv : NatV h.blks N x v) (hN : N ≤ h.next) (hp : Push h h' ob cells es) (ho : ∀ b, ob = some b → ∃ cs : List (List UInt8), h.blks.get b = some (.mk (Tr.ofList (strs cs)) cs.length 1)) : NatV h'.blks N x v := by
 obtain ⟨l, A, c, rfl, h2, h3, h4, h5⟩ := hv
 refine ⟨l, A, c, rfl, ?_, h3, h4, h5⟩
 intro hne
 have hl0 : l.length ≠ 0 := fun e => hne (List.length_eq_zero_iff.1 e)
 have hget : ∀ i, i < l.length → ∃ a : Nat, (lims l)[i]? = some (.int .u32 (a : Int)) := fun i hi => by
  obtain ⟨a, ha⟩ := limb_at hi
  exact ⟨a, lims_get ha⟩
 replace h2 := h2 hne
 clear h3 h4 h5
 generalize lims l = M at *
 generalize l.length = n at *
 cases h2 with
 | nil hn hL => omega
 | emp hn hL => omega
 | mk hb hlo hhi hsz hLl hc =>
  rename_i b' off' size cells'
  refine .mk ?_ hlo hhi hsz hLl hc
  rw [hp.get b' (by omega)]
  split
  ·rename_i e
   exfalso
   obtain ⟨cs, hcs⟩ := ho b' e
   rw [hb] at hcs
   injection hcs with hcs
   injection hcs with q1 q2 q3
   subst q1
   obtain ⟨a, ha⟩ := hget 0 (by omega)
   have q := hc 0 (by omega)
   rw [ha, Tr.ofList_get] at q
   have := List.mem_of_getElem? q
   simp only [strs, List.mem_map] at this
   obtain ⟨y, _, hy⟩ := this
   cases hy
  ·exact hb
def chunkS (y : Nat) : List UInt8 := if y / 1000000000 = 0 then dec (y % 1000000000) else List.replicate (9 - (dec (y % 1000000000)).length) 48 ++ dec (y % 1000000000)
theorem chunk_dec {y : Nat} : dec y = (if y / 1000000000 = 0 then [] else dec (y / 1000000000)) ++ chunkS y := by
 unfold chunkS
 by_cases h : y / 1000000000 = 0
 ·rw [if_pos h, if_pos h, Nat.mod_eq_of_lt (by omega)]; rfl
 ·rw [if_neg h, if_neg h]
  exact dec_chunk (k := 8) (by show 10 ^ (8 + 1) ≤ y; omega)
set_option maxHeartbeats 16000000 in
theorem writeNat_spec {G N x : Nat} {v : Value} {h : H} (hG : G ≤ h.next) (hG4 : 4 ≤ G) (hN : N ≤ h.next) (ht : TabsIn tabs h.blks) (hv : NatV h.blks N x v) (hx : Dg x) :
  Spec Tryz.prog (En G) 95 [v] h fun w h' => w = strV (dec x) := by
 have hsx := hx.sm
 have htp : ∀ {h' : H}, Pres h.next h h' → TabsIn tabs h'.blks := fun hp => ht.pres hp fun x hx => by have := tabs_lt x hx; omega
 obtain ⟨A, n, c, rfl, hn, hz⟩ := natV_len hv hsx
 refine CallsE_enter (En_known (by decide)) (En_f.trans Tryz.func95) rfl ⟨Nat.le_of_ble_eq_true rfl, by decide⟩ fun Q' hQ' => ?_
 by_cases h0 : x = 0
 ·obtain rfl : n = 0 := hz.2 h0
  have d1 : decide (((0 : Nat) : Int) = 0) = true := rfl
  simp (disch := omega) only [Tryz.f95, go_sem,reduceIte,nqD,nqL, len110, d1]
  refine hQ' _ _ ⟨Pres.refl _ _, ?_⟩
  rw [h0, dec_small (by omega)]; rfl
 ·have hnp : n ≠ 0 := fun e => h0 (hz.1 e)
  have d1 : decide ((n : Int) = 0) = false := decide_eq_false (by omega)
  simp (disch := omega) only [Tryz.f95, go_sem,reduceIte,nqD,nqL, len110, d1]
  obtain ⟨k0, hk0, hk1⟩ := hx
  have hkp : 0 < k0 := by
   rcases Nat.eq_zero_or_pos k0 with e | e
   ·rw [e, Nat.pow_zero] at hk1; omega
   ·exact e
  have hdl := Dg.len hk1 hkp
  refine WK_loopN (fun j α h2 => ∃ (y n : Nat) (A : Option Addr) (c : Nat) (cs : List (List UInt8)) (A3 : Option Addr), y < 1000000000 ^ j ∧ cs.length + j = k0 ∧ α.get 0 = some (.slice A n c) ∧ n ≤ 60000000 ∧ (n = 0 ↔ y = 0) ∧ (y ≠ 0 → NatV h2.blks h2.next y (.slice A n c)) ∧
    α.get 3 = some (.slice A3 cs.length cs.length) ∧ (cs = [] ∧ A3 = none ∨ ∃ b0, A3 = some ⟨b0, 0, none⟩ ∧ h2.blks.get b0 = some (.mk (Tr.ofList (strs cs)) cs.length 1) ∧ h.next ≤ b0 ∧ b0 < h2.next) ∧ (y = 0 → cs ≠ []) ∧ dec x = (if y = 0 then [] else dec y) ++ cs.reverse.flatten ∧ Sm y ∧ Pres h.next h h2) k0
   ⟨x, n, A, c, [], none, hk1, by simp, by simp only [go_sem,reduceIte,nqD,nqL], hn, hz, fun _ => hv.wide hN, by (simp only [go_sem,reduceIte,nqD,nqL]) <;> rfl, .inl ⟨rfl, rfl⟩, fun e => absurd e h0, by rw [if_neg h0]; simp, hsx, Pres.refl _ _⟩ (by omega) ?_
  clear hnp d1
  rintro J j α h2 ⟨y, n, A, c, cs, A3, hyj, hcj, e0, hn, hz, hy, e3, hA3, hne, hdec, hsy, pr⟩ hJ
  have hnx := pr.next
  by_cases hy0 : y = 0
  ·obtain rfl : n = 0 := hz.2 hy0
   have d1 : decide ((0 : Int) < ((0 : Nat) : Int)) = false := rfl
   simp (disch := omega) only [go_sem,reduceIte,nqD,nqL, e0, e3, len110, d1]
   rcases hA3 with ⟨hc, _⟩ | ⟨b0, rfl, hb0, hlo, hhi⟩
   ·exact absurd hc (hne hy0)
   ·rw [if_pos hy0, List.nil_append] at hdec
    have hne := hne hy0
    have hsl : SlV h2.blks b0 (b0 + 1) 1 cs.length (strs cs) (.slice (some ⟨b0, 0, none⟩) cs.length cs.length) := .mk hb0 nlr (by omega) (by omega) (by rw [strs_len]; omega) fun i hi => by rw [Tr.ofList_get, Nat.zero_add]
    try simp (disch := omega) only [go_sem,reduceIte,nqD,nqL, e3]
    refine CallO_any (reverse_spec hsl (by omega) (by omega)) (by omega) fun w h3 hw => ?_
    obtain ⟨hsl3, hw3⟩ := hw
    have n3 := hw3.next
    have pr3 := pr.trans (hw3.pres.le (m' := h.next) hlo)
    have hcp : 0 < cs.length := by
     rcases Nat.eq_zero_or_pos cs.length with e | e
     ·exact absurd (List.length_eq_zero_iff.1 e) hne
     ·exact e
    simp (disch := omega) only [go_sem,reduceIte,nqD,nqL, e3]
    refine CallO_same (join_spec (htp pr3) hsl3 hcp (by omega) (by rw [← hdec]; omega)) (by omega) fun u hu => ?_
    subst hu
    simp (disch := omega) only [go_sem,reduceIte,nqD,nqL]
    exact hQ' _ _ ⟨pr3, by rw [hdec]⟩
  ·have hnp : n ≠ 0 := fun e => hy0 (hz.1 e)
   have d1 : decide ((0 : Int) < (n : Int)) = true := decide_eq_true (by omega)
   have hjp : 0 < j := by
    rcases Nat.eq_zero_or_pos j with e | e
    ·rw [e, Nat.pow_zero] at hyj; omega
    ·exact e
   obtain ⟨j', rfl⟩ : ∃ j', j = j' + 1 := ⟨j - 1, by omega⟩
   rw [Nat.pow_succ] at hyj
   have hq9 : y / 1000000000 < 1000000000 ^ j' := Nat.div_lt_of_lt_mul (by rw [Nat.mul_comm]; exact hyj)
   have hr9 : y % 1000000000 < 1000000000 := Nat.mod_lt _ (by omega)
   simp (disch := omega) only [go_sem,reduceIte,nqD,nqL, e0, e3, len110, d1]
   refine CallO_f (divSmall_spec (y := 1000000000) (by omega) nlr (hy hy0) hsy (by omega) (by omega)) (by omega) fun w h3 pr3 hw => ?_
   obtain ⟨qv, rfl, hq⟩ := hw
   have n3 := pr3.next
   have pr3' := pr.trans (pr3.le (m' := h.next) (by omega))
   have hsq : Sm (y / 1000000000) := hsy.le (Nat.div_le_self _ _)
   have hq0 := hq
   obtain ⟨Aq, nq, cq, rfl, hnq, hzq⟩ := natV_len hq hsq
   simp (disch := omega) only [go_sem,reduceIte,nqD,nqL, c32_i]
   refine CallO_same (itoa_spec (htp pr3') hr9) (by omega) fun u hu => ?_
   subst hu
   simp (disch := omega) only [go_sem,reduceIte,nqD,nqL, len110]
   refine CondO_cut (fun α' h' => h3 = h' ∧ α'.get 3 = some (.slice A3 cs.length cs.length) ∧ α'.get 4 = some (.slice Aq nq cq) ∧ α'.get 6 = some (strV (chunkS y))) ?_ ?_
   ·have hdl9 : (dec (y % 1000000000)).length ≤ 9 := dec_len (k := 8) hr9
    by_cases hq00 : y / 1000000000 = 0
    ·have d2 : decide ((0 : Int) < (nq : Int)) = false := decide_eq_false (by have := hzq.2 hq00; omega)
     simp (disch := omega) only [go_sem,reduceIte,nqD,nqL, d2]
     refine ⟨trivial, by simp only [go_sem,reduceIte,nqD,nqL, e3], by first | rfl | trivial, ?_⟩
     unfold chunkS; rw [if_pos hq00]
    ·have d2 : decide ((0 : Int) < (nq : Int)) = true := decide_eq_true (by
      rcases Nat.eq_zero_or_pos nq with e | e
      ·exact absurd (hzq.1 e) hq00
      ·omega)
     have w1 : IntKind.i64.wrap (9 - ((dec (y % 1000000000)).length : Int)) = ((9 - (dec (y % 1000000000)).length : Nat) : Int) := wrap_nat (by omega) (by omega)
     simp (disch := omega) only [go_sem,reduceIte,nqD,nqL, d2, w1]
     refine CallO_same (repeat_spec (htp pr3') (by omega)) (by omega) fun u hu => ?_
     subst hu
     have ha : ∀ {t : TypeId}, binO Tryz.prog (En G) .add t (some (strV (List.replicate (9 - (dec (y % 1000000000)).length) 48))) (some (strV (dec (y % 1000000000)))) = some (strV (List.replicate (9 - (dec (y % 1000000000)).length) 48 ++ dec (y % 1000000000))) := add_str (by rw [List.length_replicate]; omega)
     simp (disch := omega) only [go_sem,reduceIte,nqD,nqL, ha]
     refine ⟨trivial, by simp only [go_sem,reduceIte,nqD,nqL, e3], by first | rfl | trivial, ?_⟩
     unfold chunkS; rw [if_neg hq00]
   clear e0 e3
   rintro α h4 ⟨rfl, e3, e4, e6⟩
   simp (disch := omega) only [go_sem,reduceIte,nqD,nqL, e3, e4, e6]
   have hsl3 : ∃ lo hi, SlV h3.blks lo hi 1 cs.length (strs cs) (.slice A3 cs.length cs.length) ∧ hi ≤ h3.next ∧ h.next ≤ lo := by
    rcases hA3 with ⟨hc, rfl⟩ | ⟨b0, rfl, hb0, hlo, hhi⟩
    ·subst hc
     exact ⟨h.next, h.next, .nil rfl rfl, by omega, Nat.le_refl _⟩
    ·refine ⟨b0, b0 + 1, .mk ((pr3.get _ hhi).trans hb0) nlr (by omega) (by omega) (by rw [strs_len]; omega) fun i hi => ?_, by omega, hlo⟩
     rw [Tr.ofList_get, Nat.zero_add]
   obtain ⟨lo, hi, hsl, hhi3, hlo3⟩ := hsl3
   refine At_push (lo := lo) (hi := hi) (L := strs cs) (v := strV (chunkS y)) (vs := [strV (chunkS y)]) (A := A3) (sl := cs.length) (sc := cs.length) u28 i9 zero9 (by rw [size9, bytes9]; rfl) (by simp only [go_sem,reduceIte,nqD,nqL, e6]) (by rw [size9]; rfl) (by rw [size9]; rfl) rfl (by simp only [go_sem,reduceIte,nqD,nqL, e3]) (by rw [size9]; exact hsl) hhi3 nlr (by show G ≤ lo; omega) (by omega) (by decide) (by decide) (by decide) fun h5 hp5 => ?_
   rw [size9] at hp5
   have n5 := hp5.next
   have hcells : strs cs ++ [strV (chunkS y)] = strs (cs ++ [chunkS y]) := by simp [strs]
   have hl5 : cs.length + 1 = (cs ++ [chunkS y]).length := by simp
   rw [hcells] at hp5
   have hpr5 : Pres h.next h3 h5 := hp5.pres (by omega) fun b e => by have := hsl.blk b e; omega
   simp (disch := omega) only [go_sem,reduceIte,nqD,nqL, e4, hl5]
   refine hJ j' _ _ (by omega) ⟨y / 1000000000, nq, Aq, cq, cs ++ [chunkS y], some ⟨h3.next + 1, 0, none⟩, hq9, by simp; omega, by simp only [go_sem,reduceIte,nqD,nqL], hnq, hzq, fun hne' => ?_, by simp only [go_sem,reduceIte,nqD,nqL], .inr ⟨h3.next + 1, rfl, ?_, by omega, by omega⟩, fun _ => by simp, ?_, hsq, pr3'.trans hpr5⟩
   ·refine (hq0.push nlr hp5 fun b e => ?_).wide (by omega)
    rcases hA3 with ⟨hc, rfl⟩ | ⟨b0, rfl, hb0, hlo, hhi⟩
    ·cases e
    ·simp only [blkOf, Option.some.injEq] at e
     subst e
     exact ⟨cs, (pr3.get _ hhi).trans hb0⟩
   ·rw [hp5.new, strs_len]
   ·rw [if_neg hy0, chunk_dec (y := y)] at hdec
    rw [hdec, List.reverse_append, List.append_assoc]
    simp
def decZ (z : Int) : List UInt8 := if z < 0 then 45 :: dec z.natAbs else dec z.natAbs
set_option maxHeartbeats 8000000 in
theorem num_spec {G N : Nat} {z : Int} {v : Value} {h : H} (hG : G ≤ h.next) (hG4 : 4 ≤ G) (hN : N ≤ h.next) (ht : TabsIn tabs h.blks) (hv : RatC h.blks N (decide (z < 0)) z.natAbs 0 v) (hx : Dg z.natAbs) :
  Spec Tryz.prog (En G) 71 [v] h fun w h' => w = strV (decZ z) := by
 have hsx := hx.sm
 have hlen : (dec z.natAbs).length ≤ 9000000 := by
  obtain ⟨k, h1, h2⟩ := hx
  rcases Nat.eq_zero_or_pos k with e | e
  ·rw [e, Nat.pow_zero] at h2
   have e0 : z.natAbs = 0 := by omega
   rw [e0, dec_small (by omega)]; decide
  ·have := Dg.len h2 e; omega
 obtain ⟨tv, bv, rfl, htv, hb⟩ := hv
 have htv0 := htv
 obtain ⟨A', n', c', rfl, hn', hz'⟩ := natV_len hb (sm32 (by omega))
 obtain rfl : n' = 0 := hz'.2 rfl
 obtain ⟨A, n, c, rfl⟩ := natV_shape htv
 refine CallsE_enter (En_known (by decide)) (En_f.trans Tryz.func71) rfl ⟨Nat.le_of_ble_eq_true rfl, by decide⟩ fun Q' hQ' => ?_
 simp (disch := omega) only [Tryz.f71, go_sem,reduceIte,nqD,nqL]
 refine At_box (v := .agg #[.bool (decide (z < 0)), .slice A n c, .slice A' 0 c']) (by simp only [go_sem,reduceIte,nqD,nqL]) (by omega) fun h1 hn1 => ?_
 have n1 := hn1.next
 have pr1 : Pres h.next h h1 := hn1.pres nlr
 have v1 : Var h1.blks h.next [.bool (decide (z < 0)), .slice A n c, .slice A' 0 c'] := hn1.var
 have l1 : loadv h1.blks h.next 1 = some (.slice A n c) := by rw [v1.load (by simp)]; rfl
 simp (disch := omega) only [go_sem,reduceIte,nqD,nqL, fld112_1, load110, Nat.zero_add, l1]
 refine CallO_f (writeNat_spec (N := N) (by omega) hG4 (by omega) (ht.pres pr1 fun x hx => by have := tabs_lt x hx; omega) (htv0.pres pr1 hN) hx) (by omega) fun w h2 pr2 hw => ?_
 subst hw
 have n2 := pr2.next
 have v2 := v1.mono (B' := h2.blks) (pr2.get _ (by omega))
 have l0 : loadv h2.blks h.next 0 = some (.bool (decide (z < 0))) := by rw [v2.load (by simp)]; rfl
 have l2 : loadv h2.blks h.next 2 = some (.slice A' 0 c') := by rw [v2.load (by simp)]; rfl
 have d1 : decide ((0 : Int) < ((0 : Nat) : Int)) = false := rfl
 have pr2' := pr1.trans (pr2.le (m' := h.next) (by omega))
 unfold decZ at hQ'
 by_cases hz : z < 0
 ·have d0 : decide (z < 0) = true := decide_eq_true hz
  have ha : ∀ {t : TypeId}, binO Tryz.prog (En G) .add t (some (strV [45])) (some (strV (dec z.natAbs))) = some (strV ([45] ++ dec z.natAbs)) := add_str (by simp; omega)
  rw [d0] at l0
  simp (disch := omega) only [go_sem,reduceIte,nqD,nqL, fld112_0, fld112_2, load4, load110, Nat.zero_add, l0, l2, len110, d1, ha]
  exact hQ' _ _ ⟨pr2', by rw [if_pos hz]; rfl⟩
 ·have d0 : decide (z < 0) = false := decide_eq_false hz
  rw [d0] at l0
  simp (disch := omega) only [go_sem,reduceIte,nqD,nqL, fld112_0, fld112_2, load4, load110, Nat.zero_add, l0, l2, len110, d1]
  exact hQ' _ _ ⟨pr2', by rw [if_neg hz]⟩
end
end Go.Proofs.YthankillfhmfkaaGreatDoor.Ev
