/- Numbers in limbs of 32 bits, in memory; words of 32 and 64 bits. -/
import Derived.Test.YthankillfhmfkaaGreatDoorPmSS
import Derived.Test.YthankillfhmfkaaGreatDoorPmNN
import Derived.Test.YthankillfhmfkaaGreatDoorPmAA
set_option linter.unusedVariables false
set_option linter.unusedSimpArgs false
namespace Go.Proofs.YthankillfhmfkaaGreatDoor.Ev
open Go Go.Lm
open Nat renaming reduceEqDiff → nqD, reduceLT → nqL
variable {P : Program} {E : Env}
noncomputable section
theorem wrap_u64n {x : Nat} (h : x < 18446744073709551616) : IntKind.u64.wrap (x : Int) = x := by rw [IntKind.wrap_u64]; omega
theorem wrap_u32n {x : Nat} : IntKind.u32.wrap (x : Int) = ((x % 4294967296 : Nat) : Int) := by
 have : IntKind.u32.wrap (x : Int) = (x : Int) % 4294967296 := by simp [IntKind.wrap, IntKind.signed, IntKind.bits]
 rw [this]; rfl
theorem wrap_u64mul {x y : Nat} (h : x * y < 18446744073709551616) : IntKind.u64.wrap ((x : Int) * (y : Int)) = ((x * y : Nat) : Int) := by
 rw [← wrap_u64n h]; rfl
theorem wrap_u64sub {x y : Nat} (hy : y < 18446744073709551616) : IntKind.u64.wrap ((x : Int) - (y : Int)) = (((x + (18446744073709551616 - y)) % 18446744073709551616 : Nat) : Int) := by
 rw [IntKind.wrap_u64]; omega
theorem opShift {op : BinOp} {k1 k2 : IntKind} {t : TypeId} {a b : Int} {r : Value} (ho : op = .shl ∨ op = .shr) (hs : pureRun P (do eqGuard op t (.tmp 0) (.tmp 0) (.int k1 a) (.int k2 b); binOp op t (.int k1 a) (.int k2 b)) = some r) (hp : plain r = true) : binO P E op t (some (.int k1 a)) (some (.int k2 b)) = some r := by
 have h1 : (Ev.plainA (.int k1 a) && Ev.plainA (.int k2 b)) = true := rfl
 have hf : fastBin op (.int k1 a) (.int k2 b) = none := by
  show Bool.casesOn (motive := fun _ => Option Value) (Nat.beq (kNum k1) (kNum k2)) none (fastInt op k1 a b) = none
  rcases ho with rfl | rfl <;> cases Nat.beq (kNum k1) (kNum k2) <;> rfl
 simp only [binO, h1, if_true, hf, slowBin, hs, hp]
theorem shr_u64 {k2 : IntKind} {t : TypeId} {a b : Nat} (hb : b < 64) : binO P E .shr t (some (.int .u64 (a : Int))) (some (.int k2 (b : Int))) = some (.int .u64 ((a / 2 ^ b : Nat) : Int)) := by
 refine opShift (.inr rfl) ?_ rfl
 have hn : ¬ ((b : Int) < 0) := by omega
 have e : binOp .shr t (.int .u64 a) (.int k2 b) = pure (.int .u64 ((a : Int).fdiv (2 ^ min ((b : Int)).toNat (IntKind.u64.bits)))) := by
  show Op.shift .shr .u64 a k2 b = _
  unfold Op.shift
  rw [if_neg hn]
 have e2 : (a : Int).fdiv (2 ^ min ((b : Int)).toNat (IntKind.u64.bits)) = ((a / 2 ^ b : Nat) : Int) := by
  have h64 : IntKind.u64.bits = 64 := rfl
  rw [h64, Int.toNat_natCast, Nat.min_eq_left (by omega)]
  have : (2 : Int) ^ b = ((2 ^ b : Nat) : Int) := by simp
  rw [this, Int.fdiv_eq_ediv_of_nonneg _ (Int.natCast_nonneg _)]
  rfl
 show pureRun P (binOp .shr t (.int .u64 a) (.int k2 b)) = _
 rw [e, e2]; rfl
theorem shr32 {k2 : IntKind} {t : TypeId} {a : Nat} : binO P E .shr t (some (.int .u64 (a : Int))) (some (.int k2 32)) = some (.int .u64 ((a / 4294967296 : Nat) : Int)) := shr_u64 (b := 32) (by omega)
theorem shr63 {k2 : IntKind} {t : TypeId} {a : Nat} : binO P E .shr t (some (.int .u64 (a : Int))) (some (.int k2 63)) = some (.int .u64 ((a / 9223372036854775808 : Nat) : Int)) := shr_u64 (b := 63) (by omega)
theorem shl32 {k2 : IntKind} {t : TypeId} {a : Nat} (ha : a < 4294967296) : binO P E .shl t (some (.int .u64 (a : Int))) (some (.int k2 32)) = some (.int .u64 ((a * 4294967296 : Nat) : Int)) := by
 refine opShift (.inl rfl) ?_ rfl
 have hn : ¬ ((32 : Int) < 0) := by omega
 have e : binOp .shl t (.int .u64 a) (.int k2 32) = pure (.int .u64 (IntKind.u64.wrap (a * 2 ^ min ((32 : Int)).toNat IntKind.u64.bits))) := by
  show Op.shift .shl .u64 a k2 32 = _
  unfold Op.shift
  rw [if_neg hn]
 have e2 : IntKind.u64.wrap ((a : Int) * 2 ^ min ((32 : Int)).toNat IntKind.u64.bits) = ((a * 4294967296 : Nat) : Int) := by
  have : (a : Int) * 2 ^ min ((32 : Int)).toNat IntKind.u64.bits = ((a * 4294967296 : Nat) : Int) := rfl
  rw [this]
  exact wrap_u64n (by omega)
 show pureRun P (binOp .shl t (.int .u64 a) (.int k2 32)) = _
 rw [e, e2]; rfl
theorem or_u64 {t : TypeId} {a b : Nat} (ha : a < 4294967296) (hb : b < 4294967296) : binO P E .or t (some (.int .u64 ((a * 4294967296 : Nat) : Int))) (some (.int .u64 (b : Int))) = some (.int .u64 ((a * 4294967296 + b : Nat) : Int)) := by
 refine binO_slow rfl ?_ rfl
 have h : (BitVec.ofInt 64 ((a * 4294967296 : Nat) : Int) ||| BitVec.ofInt 64 (b : Int)).toNat = a * 4294967296 + b := by
  rw [BitVec.ofInt_natCast, BitVec.ofInt_natCast, BitVec.toNat_or, BitVec.toNat_ofNat, BitVec.toNat_ofNat, Nat.mod_eq_of_lt (by omega), Nat.mod_eq_of_lt (by omega)]
  have := Nat.two_pow_add_eq_or_of_lt (i := 32) (b := b) (by omega) a
  rw [Nat.mul_comm]
  exact this.symm
 show pureRun P (pure (Value.int .u64 (IntKind.u64.wrap ((BitVec.ofInt 64 ((a * 4294967296 : Nat) : Int) ||| BitVec.ofInt 64 (b : Int)).toNat : Int))) : Sem Value) = _
 rw [h, wrap_u64n (by omega)]; rfl
def lims (l : List Nat) : List Value := l.map fun (a : Nat) => Value.int .u32 (a : Int)
theorem lims_len {l : List Nat} : (lims l).length = l.length := by simp [lims]
theorem lims_get {l : List Nat} {i a : Nat} (h : l[i]? = some a) : (lims l)[i]? = some (.int .u32 (a : Int)) := by simp [lims, h]
theorem lims_take {l : List Nat} {n : Nat} : lims (l.take n) = (lims l).take n := by simp [lims, List.map_take]
theorem lims_zeros {n : Nat} : zeros [Value.int .u32 0] n = lims (List.replicate n 0) := by
 induction n with
 | zero => rfl
 | succ n ih => rw [List.replicate_succ]; show Value.int .u32 0 :: zeros [Value.int .u32 0] n = _; rw [ih]; rfl
theorem lims_set {l : List Nat} {j a : Nat} (hj : j < l.length) : (lims l).take j ++ [Value.int .u32 (a : Int)] ++ (lims l).drop (j + 1) = lims (l.set j a) := by
 simp only [lims, ← List.map_take, ← List.map_drop, List.set_eq_take_append_cons_drop, if_pos hj, List.map_append, List.map_cons]
 simp
def LimV (B : Tr Blk) (lo hi : Nat) (l : List Nat) (v : Value) : Prop := l ≠ [] → SlV B lo hi 1 l.length (lims l) v
theorem LimV.mono {B B' : Tr Blk} {lo hi : Nat} {l : List Nat} {v : Value} (a : LimV B lo hi l v) (hB : ∀ b, lo ≤ b → b < hi → B'.get b = B.get b) : LimV B' lo hi l v := fun h => SlV.mono (a h) hB
theorem LimV.wide {B : Tr Blk} {lo hi lo' hi' : Nat} {l : List Nat} {v : Value} (a : LimV B lo hi l v) (h1 : lo' ≤ lo) (h2 : hi ≤ hi') : LimV B lo' hi' l v := fun h => SlV.wide (a h) h1 h2
def NatV (B : Tr Blk) (N : Nat) (x : Nat) (v : Value) : Prop := ∃ l A c, v = .slice A l.length c ∧ LimV B 0 N l v ∧ Lim 4294967296 l ∧ Nrm l ∧ nv 4294967296 l = x
theorem NatV.mono {B B' : Tr Blk} {N x : Nat} {v : Value} (a : NatV B N x v) (hB : ∀ b, b < N → B'.get b = B.get b) : NatV B' N x v := by
 obtain ⟨l, A, c, h1, h2, h3, h4, h5⟩ := a
 exact ⟨l, A, c, h1, LimV.mono h2 fun b _ hb => hB b hb, h3, h4, h5⟩
theorem NatV.wide {B : Tr Blk} {N N' x : Nat} {v : Value} (a : NatV B N x v) (h : N ≤ N') : NatV B N' x v := by
 obtain ⟨l, A, c, h1, h2, h3, h4, h5⟩ := a
 exact ⟨l, A, c, h1, LimV.wide h2 nlr h, h3, h4, h5⟩
theorem NatV.nil {B : Tr Blk} {N : Nat} : NatV B N 0 (.slice none 0 0) := ⟨[], none, 0, rfl, fun h => absurd rfl h, Lim.nil, Nrm.nil, rfl⟩
theorem NatV.pres {h h' : H} {m N x : Nat} {v : Value} (a : NatV h.blks N x v) (p : Pres m h h') (hN : N ≤ m) : NatV h'.blks N x v := a.mono fun b hb => p.get b (by omega)
theorem nrm_len {l : List Nat} {k : Nat} (hn : Nrm l) (hx : nv 4294967296 l < 4294967296 ^ k) : l.length ≤ k := by
 by_cases h : l = []
 ·rw [h]; simp
 ·have h1 := nrm_pos (B := 4294967296) (by omega) hn h
  have h2 := Nat.pow_lt_pow_iff_right (a := 4294967296) (n := l.length - 1) (m := k) (by omega)
  have := h2.1 (Nat.lt_of_le_of_lt h1 hx)
  omega
def Sm (x : Nat) : Prop := ∃ k, k ≤ 60000000 ∧ x < 4294967296 ^ k
theorem Sm.le {x y : Nat} (h : Sm x) (hy : y ≤ x) : Sm y := by
 obtain ⟨k, h1, h2⟩ := h
 exact ⟨k, h1, Nat.lt_of_le_of_lt hy h2⟩
theorem Sm.len {l : List Nat} (h : Sm (nv 4294967296 l)) (hn : Nrm l) : l.length ≤ 60000000 := by
 obtain ⟨k, h1, h2⟩ := h
 exact Nat.le_trans (nrm_len hn h2) h1
def RatV (B : Tr Blk) (N : Nat) (n : Int) (d : Nat) (v : Value) : Prop := 0 < d ∧ ∃ tv bv, v = .agg #[.bool (decide (n < 0)), tv, bv] ∧ NatV B N (rt n d) tv ∧ NatV B N (if rb n d = 1 then 0 else rb n d) bv
theorem RatV.mono {B B' : Tr Blk} {N : Nat} {n : Int} {d : Nat} {v : Value} (a : RatV B N n d v) (hB : ∀ b, b < N → B'.get b = B.get b) : RatV B' N n d v := by
 obtain ⟨h0, tv, bv, h1, h2, h3⟩ := a
 exact ⟨h0, tv, bv, h1, h2.mono hB, h3.mono hB⟩
theorem RatV.wide {B : Tr Blk} {N N' : Nat} {n : Int} {d : Nat} {v : Value} (a : RatV B N n d v) (h : N ≤ N') : RatV B N' n d v := by
 obtain ⟨h0, tv, bv, h1, h2, h3⟩ := a
 exact ⟨h0, tv, bv, h1, h2.wide h, h3.wide h⟩
theorem RatV.pres {h h' : H} {m N : Nat} {n : Int} {d : Nat} {v : Value} (a : RatV h.blks N n d v) (p : Pres m h h') (hN : N ≤ m) : RatV h'.blks N n d v := a.mono fun b hb => p.get b (by omega)
theorem RatV.congr {B : Tr Blk} {N : Nat} {n n' : Int} {d d' : Nat} {v : Value} (a : RatV B N n d v) (hd : 0 < d') (h : n * d' = n' * d) : RatV B N n' d' v := by
 obtain ⟨h0, tv, bv, h1, h2, h3⟩ := a
 obtain ⟨e1, e2, e3⟩ := rt_eq h0 hd h
 refine ⟨hd, tv, bv, ?_, e1 ▸ h2, e2 ▸ h3⟩
 rw [h1]
 have : decide (n < 0) = decide (n' < 0) := decide_eq_decide.2 e3
 rw [this]
end
end Go.Proofs.YthankillfhmfkaaGreatDoor.Ev
namespace Go.Proofs.YthankillfhmfkaaGreatDoor.Ev
open Go Go.Proofs Go.Lm
open Nat renaming reduceEqDiff → nqD, reduceLT → nqL
noncomputable section
theorem c64_32 {P : Program} {G : Nat} {B : Tr Blk} {x : Nat} : convO P (En G) B 159 168 (some (.int .u64 (x : Int))) = some (.int .u32 ((x % 4294967296 : Nat) : Int)) := by
 rw [convO_int u159 u168, wrap_u32n]
theorem c32_64 {P : Program} {G : Nat} {B : Tr Blk} {x : Nat} (h : x < 4294967296) : convO P (En G) B 168 159 (some (.int .u32 (x : Int))) = some (.int .u64 (x : Int)) := by
 rw [convO_int u168 u159, wrap_u64n (by omega)]
theorem limb_at {l : List Nat} {i : Nat} (h : i < l.length) : ∃ a, l[i]? = some a := ⟨l[i], List.getElem?_eq_getElem h⟩
set_option maxHeartbeats 4000000 in
theorem trim_spec {G N c : Nat} {A : Option Addr} {l : List Nat} {h : H} (hl : Lim 4294967296 l) (hs : SlV h.blks 0 N 1 l.length (lims l) (.slice A l.length c)) (hn : l.length < 2147483648) :
  Spec Tryz.prog (En G) 142 [.slice A l.length c] h fun v h' => NatV h.blks N (nv 4294967296 l) v ∧ h' = h := by
 refine CallsE_enter (En_known (by decide)) (En_f.trans Tryz.func142) rfl ⟨Nat.le_of_ble_eq_true rfl, by decide⟩ fun Q' hQ' => ?_
 simp only [Tryz.f142, go_sem,reduceIte,nqD,nqL]
 refine WK_loopN (fun j α h2 => ∃ A' c', h = h2 ∧ j ≤ l.length ∧ α.get 0 = some (.slice A' j c') ∧ SlV h.blks 0 N 1 j (lims (l.take j)) (.slice A' j c') ∧ nv 4294967296 (l.take j) = nv 4294967296 l) l.length
  ⟨A, c, rfl, Nat.le_refl _, by simp only [go_sem,reduceIte,nqD,nqL], by rw [List.take_length]; exact hs, by rw [List.take_length]⟩ (by omega) ?_
 rintro J j α h2 ⟨A', c', rfl, hj, e0, hsv, hv⟩ hJ
 cases j with
 | zero =>
  have d0 : decide ((0 : Int) < ((0 : Nat) : Int)) = false := rfl
  simp (disch := omega) only [go_sem,reduceIte,nqD,nqL, e0, len110, d0]
  refine hQ' _ _ ⟨Pres.refl _ _, ⟨[], A', c', rfl, ?_, Lim.nil, Nrm.nil, ?_⟩, rfl⟩
  ·exact fun h => absurd rfl h
  ·rw [List.take_zero] at hv; exact hv
 | succ m =>
  obtain ⟨a, ha⟩ := limb_at (l := l) (i := m) (by omega)
  obtain ⟨A2, c2, hsl, hs2⟩ := sliceO_take (E := En G) (kd := .i64) u110 i168 size168 hsv (m := m) (by omega)
  have hh := hsv
  obtain ⟨b, off, rfl, _, _, hld⟩ := hsv.at_ (by omega)
  have la := hld m (by omega)
  rw [lims_get (a := a) (by rw [List.getElem?_take, if_pos (by omega)]; exact ha)] at la
  have j1 : ((m + 1 : Nat) : Int) - 1 = (m : Int) := by omega
  have d1 : decide ((0 : Int) < ((m + 1 : Nat) : Int)) = true := decide_eq_true (by omega)
  by_cases h0 : a = 0
  ·have d2 : decide ((a : Int) = 0) = true := decide_eq_true (by omega)
   simp (disch := omega) only [go_sem,reduceIte,nqD,nqL, e0, len110, d1, j1, wrap_i64, idxA110, Int.toNat_natCast, Nat.mul_one, load168, la, d2, hsl]
   refine hJ m _ _ (by omega) ⟨A2, c2, rfl, by omega, by simp only [go_sem,reduceIte,nqD,nqL], ?_, ?_⟩
   ·rw [Nat.mul_one, ← lims_take, List.take_take, Nat.min_eq_left (by omega)] at hs2; exact hs2
   ·rw [← trim_step (by rw [ha, h0])]; exact hv
  ·have d2 : decide ((a : Int) = 0) = false := decide_eq_false (by omega)
   simp (disch := omega) only [go_sem,reduceIte,nqD,nqL, e0, len110, d1, j1, wrap_i64, idxA110, Int.toNat_natCast, Nat.mul_one, load168, la, d2]
   have hlen : (l.take (m + 1)).length = m + 1 := by rw [List.length_take]; omega
   refine hQ' _ _ ⟨Pres.refl _ _, ⟨l.take (m + 1), some ⟨b, off, none⟩, c', by rw [hlen], ?_, hl.take, nrm_take ha h0, hv⟩, rfl⟩
   intro _
   show SlV h.blks 0 N 1 (l.take (m + 1)).length _ _
   rw [hlen]; exact hh
theorem isOne_spec {G N x : Nat} {v : Value} {h : H} (hv : NatV h.blks N x v) (hb : Sm x) : Spec Tryz.prog (En G) 143 [v] h fun u h' => u = .bool (decide (x = 1)) ∧ h' = h := by
 obtain ⟨l, A, c, rfl, hs, hl, hn, rfl⟩ := hv
 have hlen := hb.len hn
 refine CallsE_enter (En_known (by decide)) (En_f.trans Tryz.func143) rfl ⟨Nat.le_of_ble_eq_true rfl, by decide⟩ fun Q' hQ' => ?_
 by_cases h1 : l.length = 1
 ·obtain ⟨a, rfl⟩ := List.length_eq_one_iff.1 h1
  obtain ⟨b, off, rfl, _, _, hld⟩ := SlV.at_ (hs (by simp)) (by simp)
  have la := hld 0 (by simp)
  rw [lims_get (a := a) rfl, Nat.add_zero] at la
  have d1 : decide ((([a] : List Nat).length : Int) = 1) = true := rfl
  simp (disch := omega) only [Tryz.f143, go_sem,reduceIte,nqD,nqL, len110, d1]
  rw [idxA110 (by omega) (by simp)]
  simp (disch := omega) only [go_sem,reduceIte,nqD,nqL, Int.toNat_zero, Nat.zero_mul, Nat.add_zero, load168, la]
  refine hQ' _ _ ⟨Pres.refl _ _, ?_, rfl⟩
  rw [nv_one]
  congr 1
  rw [decide_eq_decide]; omega
 ·have d1 : decide ((l.length : Int) = 1) = false := decide_eq_false (by omega)
  simp (disch := omega) only [Tryz.f143, go_sem,reduceIte,nqD,nqL, len110, d1]
  refine hQ' _ _ ⟨Pres.refl _ _, ?_, rfl⟩
  congr 1
  rw [Eq.comm, decide_eq_false_iff_not]
  intro e
  apply h1
  have : l = [1] := nv_uniq (B := 4294967296) (by omega) hl (Lim.one (by omega)) hn (by simp [Nrm]) (by rw [nv_one]; exact e)
  rw [this]; rfl
end
end Go.Proofs.YthankillfhmfkaaGreatDoor.Ev
namespace Go.Proofs.YthankillfhmfkaaGreatDoor.Ev
open Go Go.Proofs Go.Lm
open Nat renaming reduceEqDiff → nqD, reduceLT → nqL
noncomputable section
section
variable {P : Program} {E : Env} {n : Nat} {a b c : Code} {k : List Frm} {α : Tr Value} {h : H} {R : Rt}
theorem WK_cut (J : Tr Value → H → Prop) (h1 : WK P E n c (.inv J :: k) α h R) (h2 : ∀ α' h', J α' h' → cont P E n k .normal α' h' R) : WK P E n c k α h R := by
 unfold WK at *
 refine W.mono h1 fun e α' h' he => ?_
 cases e with
 | normal => exact h2 _ _ he
 | exit id => exact he
 | ret => exact he
theorem CondO_cut (J : Tr Value → H → Prop) {v : Option Value} (h1 : CondO P E n a b (.inv J :: k) α h R v) (h2 : ∀ α' h', J α' h' → cont P E n k .normal α' h' R) : CondO P E n a b k α h R v := by
 unfold CondO at *
 split at h1
 ·exact WK_cut J h1 h2
 ·exact WK_cut J h1 h2
 ·exact h1.elim
end
section
variable {P : Program} {n0 : Nat} {ops : List Oper} {r tl : List Oper} {k : List Frm} {α : Tr Value} {h : H} {R : Rt} {ty : TypeId} {pos : String} {af : Array Edge}
theorem make_buf {h h1 : H} {n : Nat} (hn : New h h1 (zeros (Value.int .u32 0).cells.toList n) inf168.size) : SlV h1.blks h.next h1.next 1 n (lims (List.replicate n 0)) (.slice (some ⟨h.next, 0, none⟩) n n) := by
 rw [size168] at hn
 have e : zeros (Value.int .u32 0).cells.toList n = lims (List.replicate n 0) := lims_zeros
 rw [e] at hn
 exact hn.slv (by rw [lims_len]; simp)
theorem At_limb {G b off lo hi i x n c : Nat} {L : List Nat} {X Y : Operand} (hx : ev (En G) h α X = some (.pointer (some ⟨b, off + i, none⟩))) (hy : ev (En G) h α Y = some (.int .u32 (x : Int)))
  (hs : SlV h.blks lo hi 1 n (lims L) (.slice (some ⟨b, off, none⟩) n c)) (hin : i < n) (hG : G ≤ b)
  (hk : ∀ h', Sto h h' b (off + i) [.int .u32 (x : Int)] → SlV h'.blks lo hi 1 n (lims (L.set i x)) (.slice (some ⟨b, off, none⟩) n c) → At P (En G) n0 ops false r tl k α h' R) :
  At P (En G) n0 ops false (⟨none, .store 168 X Y, ty, pos, af, none⟩ :: r) tl k α h R := by
 have hlen : L.length = n := by have := hs.len; rw [lims_len] at this; omega
 have hs0 := hs
 cases hs with
 | mk gb glo ghi gsz gL gc =>
  refine At_store (inf := inf168) (v := .int .u32 (x : Int)) i168 hx hy (by rw [size168]; rfl) rfl gb (by rw [size168]; omega) (by rw [En_G]; exact hG) fun h' hs' => ?_
  refine hk h' hs' ?_
  have := Sto.slv (j := i) hs' hs0 (by show i + 1 ≤ n * 1; omega)
  have e : (Value.int .u32 (x : Int)).cells.toList.length = 1 := rfl
  rw [e] at this
  have e2 : (Value.int .u32 (x : Int)).cells.toList = [Value.int .u32 (x : Int)] := rfl
  rw [e2, lims_set (by omega)] at this
  exact this
end
theorem isNaN32_spec {G : Nat} {x : Int} {h : H} : Spec Tryz.prog (En G) 177 [.int .u32 x] h fun v h' => v = .bool false ∧ h' = h := by
 refine CallsE_enter (En_known (by decide)) (En_f.trans Tryz.func177) rfl ⟨Nat.le_of_ble_eq_true rfl, by decide⟩ fun Q' hQ' => ?_
 have d : decide (x ≠ x) = false := decide_eq_false fun h => h rfl
 simp only [Tryz.f177, go_sem,reduceIte,nqD,nqL, d]
 exact hQ' _ _ ⟨Pres.refl _ _, rfl, rfl⟩
theorem isNaN64_spec {G : Nat} {x : Int} {h : H} : Spec Tryz.prog (En G) 176 [.int .i64 x] h fun v h' => v = .bool false ∧ h' = h := by
 refine CallsE_enter (En_known (by decide)) (En_f.trans Tryz.func176) rfl ⟨Nat.le_of_ble_eq_true rfl, by decide⟩ fun Q' hQ' => ?_
 have d : decide (x ≠ x) = false := decide_eq_false fun h => h rfl
 simp only [Tryz.f176, go_sem,reduceIte,nqD,nqL, d]
 exact hQ' _ _ ⟨Pres.refl _ _, rfl, rfl⟩
def cmpI (x y : Int) : Int := if x < y then -1 else if y < x then 1 else 0
theorem cmp32_spec {G : Nat} {x y : Int} {h : H} : Spec Tryz.prog (En G) 166 [.int .u32 x, .int .u32 y] h fun v h' => v = .int .i64 (cmpI x y) ∧ h' = h := by
 refine CallsE_enter (En_known (by decide)) (En_f.trans Tryz.func166) rfl ⟨Nat.le_of_ble_eq_true rfl, by decide⟩ fun Q' hQ' => ?_
 simp only [Tryz.f166, go_sem,reduceIte,nqD,nqL]
 refine CallO_same isNaN32_spec (by omega) fun u hu => ?_
 subst hu
 simp only [go_sem,reduceIte,nqD,nqL]
 refine CallO_same isNaN32_spec (by omega) fun u hu => ?_
 subst hu
 unfold cmpI at hQ'
 by_cases h1 : x < y
 ·have d1 : decide (x < y) = true := decide_eq_true h1
  simp only [go_sem,reduceIte,nqD,nqL, d1]
  exact hQ' _ _ ⟨Pres.refl _ _, by rw [if_pos h1], rfl⟩
 ·have d1 : decide (x < y) = false := decide_eq_false h1
  by_cases h2 : y < x
  ·have d2 : decide (y < x) = true := decide_eq_true h2
   simp only [go_sem,reduceIte,nqD,nqL, d1, d2]
   exact hQ' _ _ ⟨Pres.refl _ _, by rw [if_neg h1, if_pos h2], rfl⟩
  ·have d2 : decide (y < x) = false := decide_eq_false h2
   simp only [go_sem,reduceIte,nqD,nqL, d1, d2]
   exact hQ' _ _ ⟨Pres.refl _ _, by rw [if_neg h1, if_neg h2], rfl⟩
theorem cmp64_spec {G : Nat} {x y : Int} {h : H} : Spec Tryz.prog (En G) 165 [.int .i64 x, .int .i64 y] h fun v h' => v = .int .i64 (cmpI x y) ∧ h' = h := by
 refine CallsE_enter (En_known (by decide)) (En_f.trans Tryz.func165) rfl ⟨Nat.le_of_ble_eq_true rfl, by decide⟩ fun Q' hQ' => ?_
 simp only [Tryz.f165, go_sem,reduceIte,nqD,nqL]
 refine CallO_same isNaN64_spec (by omega) fun u hu => ?_
 subst hu
 simp only [go_sem,reduceIte,nqD,nqL]
 refine CallO_same isNaN64_spec (by omega) fun u hu => ?_
 subst hu
 unfold cmpI at hQ'
 by_cases h1 : x < y
 ·have d1 : decide (x < y) = true := decide_eq_true h1
  simp only [go_sem,reduceIte,nqD,nqL, d1]
  exact hQ' _ _ ⟨Pres.refl _ _, by rw [if_pos h1], rfl⟩
 ·have d1 : decide (x < y) = false := decide_eq_false h1
  by_cases h2 : y < x
  ·have d2 : decide (y < x) = true := decide_eq_true h2
   simp only [go_sem,reduceIte,nqD,nqL, d1, d2]
   exact hQ' _ _ ⟨Pres.refl _ _, by rw [if_neg h1, if_pos h2], rfl⟩
  ·have d2 : decide (y < x) = false := decide_eq_false h2
   simp only [go_sem,reduceIte,nqD,nqL, d1, d2]
   exact hQ' _ _ ⟨Pres.refl _ _, by rw [if_neg h1, if_neg h2], rfl⟩
theorem lims_at {B : Tr Blk} {lo hi n c i a : Nat} {l : List Nat} {A : Option Addr} (hs : SlV B lo hi 1 n (lims l) (.slice A n c)) (ha : l[i]? = some a) : ∃ b off, A = some ⟨b, off, none⟩ ∧ lo ≤ b ∧ b < hi ∧ loadv B b (off + i) = some (.int .u32 (a : Int)) := by
 have hlen : l.length = n := by have := hs.len; rw [lims_len] at this; omega
 have hi := (List.getElem?_eq_some_iff.1 ha).1
 obtain ⟨b, off, e, h1, h2, hld⟩ := hs.at_ (by omega)
 exact ⟨b, off, e, h1, h2, by rw [hld i (by omega), lims_get ha]⟩
theorem lims_at' {B : Tr Blk} {lo hi c i a : Nat} {l : List Nat} {A : Option Addr} (hs : LimV B lo hi l (.slice A l.length c)) (ha : l[i]? = some a) : ∃ b off, A = some ⟨b, off, none⟩ ∧ lo ≤ b ∧ b < hi ∧ loadv B b (off + i) = some (.int .u32 (a : Int)) :=
 lims_at (hs (by rintro rfl; simp at ha)) ha
set_option maxHeartbeats 4000000 in
theorem compareNat_spec {G N x y : Nat} {v u : Value} {h : H} (hv : NatV h.blks N x v) (hu : NatV h.blks N y u) (hx : Sm x) (hy : Sm y) :
  Spec Tryz.prog (En G) 144 [v, u] h fun z h' => z = .int .i64 (cmpI x y) ∧ h' = h := by
 obtain ⟨l, A, c, rfl, hs, hl, hn, rfl⟩ := hv
 obtain ⟨m, A', c', rfl, hs', hl', hn', rfl⟩ := hu
 have hlen := hx.len hn
 have hlen' := hy.len hn'
 have key : ∀ {z : Int}, (nv 4294967296 l < nv 4294967296 m ∧ z = -1 ∨ nv 4294967296 l = nv 4294967296 m ∧ z = 0 ∨ nv 4294967296 m < nv 4294967296 l ∧ z = 1) → z = cmpI (nv 4294967296 l) (nv 4294967296 m) := fun {z} hz => by
  unfold cmpI
  rcases hz with ⟨h1, rfl⟩ | ⟨h1, rfl⟩ | ⟨h1, rfl⟩
  ·rw [if_pos (by omega)]
  ·rw [if_neg (by omega), if_neg (by omega)]
  ·rw [if_neg (by omega), if_pos (by omega)]
 refine CallsE_enter (En_known (by decide)) (En_f.trans Tryz.func144) rfl ⟨Nat.le_of_ble_eq_true rfl, by decide⟩ fun Q' hQ' => ?_
 by_cases he : l.length = m.length
 ·have d1 : decide ((l.length : Int) ≠ (m.length : Int)) = false := decide_eq_false (by omega)
  simp (disch := omega) only [Tryz.f144, go_sem,reduceIte,nqD,nqL, len110, d1, wrap_i64]
  refine WK_loopN (fun j α h2 => h = h2 ∧ j ≤ l.length ∧ α.get 0 = some (.slice A l.length c) ∧ α.get 1 = some (.slice A' m.length c') ∧ α.get 5 = some (.int .i64 ((j : Int) - 1)) ∧ l.drop j = m.drop j) l.length
   ⟨rfl, Nat.le_refl _, by simp only [go_sem,reduceIte,nqD,nqL], by simp only [go_sem,reduceIte,nqD,nqL], by simp only [go_sem,reduceIte,nqD,nqL], by rw [List.drop_length, he, List.drop_length]⟩ (by omega) ?_
  rintro J j α h2 ⟨rfl, hj, e0, e1, e5, hd⟩ hJ
  cases j with
  | zero =>
   have d0 : decide ((0 : Int) ≤ ((0 : Nat) : Int) - 1) = false := rfl
   simp (disch := omega) only [go_sem,reduceIte,nqD,nqL, e0, e1, e5, d0]
   refine hQ' _ _ ⟨Pres.refl _ _, congrArg _ (key (.inr (.inl ⟨?_, rfl⟩))), rfl⟩
   rw [list_eq_drop hd]
  | succ j =>
   obtain ⟨a, ha⟩ := limb_at (l := l) (i := j) (by omega)
   obtain ⟨a', ha'⟩ := limb_at (l := m) (i := j) (by omega)
   obtain ⟨b, off, rfl, _, _, la⟩ := lims_at' hs ha
   obtain ⟨b', off', rfl, _, _, la'⟩ := lims_at' hs' ha'
   have j1 : ((j + 1 : Nat) : Int) - 1 = (j : Int) := by omega
   have d0 : decide ((0 : Int) ≤ (j : Int)) = true := decide_eq_true (by omega)
   rw [j1] at e5
   simp (disch := omega) only [go_sem,reduceIte,nqD,nqL, e0, e1, e5, d0]
   refine WK_regionT 8 ⟨by kernel_rfl, by kernel_rfl, by kernel_rfl⟩ ?_
   by_cases hne : a = a'
   ·have d2 : decide ((a : Int) ≠ (a' : Int)) = false := decide_eq_false (by omega)
    simp (disch := omega) only [go_sem,reduceIte,nqD,nqL, e0, e1, e5, idxA110, Int.toNat_natCast, Nat.mul_one, load168, la, la', d2, wrap_i64]
    refine hJ j _ _ (by omega) ⟨rfl, by omega, by simp only [go_sem,reduceIte,nqD,nqL, e0], by simp only [go_sem,reduceIte,nqD,nqL, e1], by simp only [go_sem,reduceIte,nqD,nqL], ?_⟩
    rw [drop_get ha, drop_get ha', hd, hne]
   ·have d2 : decide ((a : Int) ≠ (a' : Int)) = true := decide_eq_true (by omega)
    simp (disch := omega) only [go_sem,reduceIte,nqD,nqL, e0, e1, e5, idxA110, Int.toNat_natCast, Nat.mul_one, load168, la, la', d2]
    refine WK_regionT 8 ⟨by kernel_rfl, by kernel_rfl, by kernel_rfl⟩ ?_
    simp (disch := omega) only [go_sem,reduceIte,nqD,nqL, e0, e1, e5, idxA110, Int.toNat_natCast, Nat.mul_one, load168, la, la', d2]
    refine CallO_same cmp32_spec (by omega) fun u hu => ?_
    subst hu
    simp only [go_sem,reduceIte,nqD,nqL]
    refine hQ' _ _ ⟨Pres.refl _ _, congrArg _ (key ?_), rfl⟩
    unfold cmpI
    rcases Nat.lt_or_gt_of_ne hne with h3 | h3
    ·exact .inl ⟨nv_top_lt hl ha ha' h3 hd, by rw [if_pos (by omega)]⟩
    ·exact .inr (.inr ⟨nv_top_lt hl' ha' ha h3 hd.symm, by rw [if_neg (by omega), if_pos (by omega)]⟩)
 ·have d1 : decide ((l.length : Int) ≠ (m.length : Int)) = true := decide_eq_true (by omega)
  simp (disch := omega) only [Tryz.f144, go_sem,reduceIte,nqD,nqL, len110, d1]
  refine CallO_same cmp64_spec (by omega) fun u hu => ?_
  subst hu
  simp only [go_sem,reduceIte,nqD,nqL]
  refine hQ' _ _ ⟨Pres.refl _ _, congrArg _ (key ?_), rfl⟩
  unfold cmpI
  rcases Nat.lt_or_gt_of_ne he with h3 | h3
  ·exact .inl ⟨nv_len_lt (by omega) hl hn' h3, by rw [if_pos (by omega)]⟩
  ·exact .inr (.inr ⟨nv_len_lt (by omega) hl' hn h3, by rw [if_neg (by omega), if_pos (by omega)]⟩)
end
end Go.Proofs.YthankillfhmfkaaGreatDoor.Ev
namespace Go.Proofs.YthankillfhmfkaaGreatDoor.Ev
open Go Go.Proofs Go.Lm
open Nat renaming reduceEqDiff → nqD, reduceLT → nqL
noncomputable section
theorem b32 : (0 : Nat) < 4294967296 := by omega
theorem wrap_nat {z : Int} {m : Nat} (h : z = m) (hm : m < 9223372036854775808) : IntKind.i64.wrap z = m := by rw [wrap_i64 (by omega) (by omega)]; exact h
theorem wrap_natu {z : Int} {m : Nat} (h : z = m) (hm : m < 18446744073709551616) : IntKind.u64.wrap z = m := by rw [h]; exact wrap_u64n hm
theorem natOf_spec {G x : Nat} {h : H} (hx : x < 18446744073709551616) : Spec Tryz.prog (En G) 114 [.int .u64 (x : Int)] h fun v h' => NatV h'.blks h'.next x v := by
 refine CallsE_enter (En_known (by decide)) (En_f.trans Tryz.func114) rfl ⟨Nat.le_of_ble_eq_true rfl, by decide⟩ fun Q' hQ' => ?_
 simp (disch := omega) only [Tryz.f114, go_sem,reduceIte,nqD,nqL, c64_32, shr32]
 refine At_lit (vs := [(0, .int .u32 ((x % 4294967296 : Nat) : Int)), (1, .int .u32 ((x / 4294967296 % 4294967296 : Nat) : Int))]) (cs := #[.int .u32 ((x % 4294967296 : Nat) : Int), .int .u32 ((x / 4294967296 % 4294967296 : Nat) : Int)]) u110 i168 zero168 (by rw [size168]; rfl) (by simp only [go_sem,reduceIte,nqD,nqL]) (by rw [size168]; rfl) (by omega) fun h1 hn1 => ?_
 have n1 := hn1.next
 have hl : Lim 4294967296 [x % 4294967296, x / 4294967296 % 4294967296] := Lim.cons (Nat.mod_lt _ b32) (Lim.one (Nat.mod_lt _ b32))
 have hs : SlV h1.blks 0 h1.next 1 [x % 4294967296, x / 4294967296 % 4294967296].length (lims [x % 4294967296, x / 4294967296 % 4294967296]) (.slice (some ⟨h.next, 0, none⟩) 2 2) := by
  rw [size168] at hn1
  exact (hn1.slv (n := 2) (c := 2) (by rfl)).wide (by omega) (by omega)
 simp only [go_sem,reduceIte,nqD,nqL]
 refine CallO_same (trim_spec hl hs (by simp)) (by omega) fun u hu => ?_
 simp only [go_sem,reduceIte,nqD,nqL]
 have e : nv 4294967296 [x % 4294967296, x / 4294967296 % 4294967296] = x := by
  simp only [nv_cons, nv_nil]; omega
 rw [e] at hu
 exact hQ' _ _ ⟨hn1.pres nlr, hu⟩
set_option maxHeartbeats 8000000 in
theorem addNat_spec {G N x y : Nat} {v u : Value} {h : H} (hG : G ≤ h.next) (hN : N ≤ h.next) (hv : NatV h.blks N x v) (hu : NatV h.blks N y u) (hx : Sm x) (hy : Sm y) :
  Spec Tryz.prog (En G) 149 [v, u] h fun w h' => NatV h'.blks h'.next (x + y) w := by
 obtain ⟨l, A, c, rfl, hs, hl, hn, rfl⟩ := hv
 obtain ⟨m, A', c', rfl, hs', hl', hn', rfl⟩ := hu
 have hlen := hx.len hn
 have hlen' := hy.len hn'
 refine CallsE_enter (En_known (by decide)) (En_f.trans Tryz.func149) rfl ⟨Nat.le_of_ble_eq_true rfl, by decide⟩ fun Q' hQ' => ?_
 simp (disch := omega) only [Tryz.f149, go_sem,reduceIte,nqD,nqL, len110]
 refine CondO_cut (fun α' h' => h = h' ∧ ∃ (l1 m1 : List Nat) (A1 A2 : Option Addr) (c1 c2 : Nat), α'.get 0 = some (.slice A1 l1.length c1) ∧ α'.get 1 = some (.slice A2 m1.length c2) ∧ LimV h.blks 0 N l1 (.slice A1 l1.length c1) ∧ LimV h.blks 0 N m1 (.slice A2 m1.length c2) ∧
   Lim 4294967296 l1 ∧ Lim 4294967296 m1 ∧ m1.length ≤ l1.length ∧ l1.length ≤ 60000000 ∧ nv 4294967296 l1 + nv 4294967296 m1 = nv 4294967296 l + nv 4294967296 m) ?_ ?_
 ·by_cases hlt : (l.length : Int) < m.length
  ·have d1 : decide ((l.length : Int) < (m.length : Int)) = true := decide_eq_true hlt
   simp only [go_sem,reduceIte,nqD,nqL, d1]
   exact ⟨trivial, m, l, A', A, c', c, by simp only [go_sem,reduceIte,nqD,nqL], by simp only [go_sem,reduceIte,nqD,nqL], hs', hs, hl', hl, by omega, hlen', Nat.add_comm _ _⟩
  ·have d1 : decide ((l.length : Int) < (m.length : Int)) = false := decide_eq_false hlt
   simp only [go_sem,reduceIte,nqD,nqL, d1]
   exact ⟨trivial, l, m, A, A', c, c', by simp only [go_sem,reduceIte,nqD,nqL], by simp only [go_sem,reduceIte,nqD,nqL], hs, hs', hl, hl', by omega, hlen, rfl⟩
 rintro α h2 ⟨rfl, l1, m1, A1, A2, c1, c2, e0, e1, hs1, hs2, hl1, hl2, hle, hlen1, hsum⟩
 have w1 : IntKind.i64.wrap ((l1.length : Int) + 1) = ((l1.length + 1 : Nat) : Int) := wrap_nat (by omega) (by omega)
 simp (disch := omega) only [go_sem,reduceIte,nqD,nqL, e0, e1, len110, w1]
 refine At_make (k1 := .i64) (k2 := .i64) (l := l1.length + 1) (c := l1.length + 1) u110 i168 zero168 (by rw [size168, bytes168]; rfl) (by simp only [go_sem,reduceIte,nqD,nqL]) (by simp only [go_sem,reduceIte,nqD,nqL]) nlr (by rw [size168]; omega) (by omega) (by omega) fun h3 hn3 => ?_
 have n3 := hn3.next
 have b3 := make_buf hn3
 simp (disch := omega) only [go_sem,reduceIte,nqD,nqL, e0, e1, len110]
 refine WK_loopN (fun j α h4 => ∃ (i carry : Nat) (L : List Nat), i + j = l1.length ∧ α.get 0 = some (.slice A1 l1.length c1) ∧ α.get 1 = some (.slice A2 m1.length c2) ∧ α.get 5 = some (.slice (some ⟨h.next, 0, none⟩) (l1.length + 1) (l1.length + 1)) ∧ α.get 6 = some (.int .u64 (carry : Int)) ∧
   α.get 20 = some (.slice A1 l1.length c1) ∧ α.get 21 = some (.int .i64 l1.length) ∧ α.get 22 = some (.int .i64 i) ∧ SlV h4.blks h.next h3.next 1 (l1.length + 1) (lims L) (.slice (some ⟨h.next, 0, none⟩) (l1.length + 1) (l1.length + 1)) ∧
   L.length = l1.length + 1 ∧ Lim 4294967296 L ∧ nv 4294967296 (L.take i) + 4294967296 ^ i * carry = nv 4294967296 (l1.take i) + nv 4294967296 (m1.take i) ∧ carry ≤ 1 ∧ Pres h.next h h4 ∧ h4.next = h3.next) l1.length
  ⟨0, 0, List.replicate (l1.length + 1) 0, by omega, by simp only [go_sem,reduceIte,nqD,nqL, e0], by simp only [go_sem,reduceIte,nqD,nqL, e1], by simp only [go_sem,reduceIte,nqD,nqL], by (simp only [go_sem,reduceIte,nqD,nqL]) <;> rfl, by simp only [go_sem,reduceIte,nqD,nqL], by simp only [go_sem,reduceIte,nqD,nqL], by (simp only [go_sem,reduceIte,nqD,nqL]) <;> rfl, b3, by simp, Lim.zeros b32, by simp [nv], by omega, hn3.pres nlr, rfl⟩ (by omega) ?_
 clear e0 e1 b3
 rintro J j α h4 ⟨i, carry, L, hij, e0, e1, e5, e6, e20, e21, e22, hb, hL, hlL, hinv, hc1, pr, hnx⟩ hJ
 by_cases hlt : (i : Int) < l1.length
 ·obtain ⟨a, ha⟩ := limb_at (l := l1) (i := i) (by omega)
  have hal := hl1.get ha
  have hs1' := LimV.mono (B' := h4.blks) hs1 fun b _ hb => pr.get b (by omega)
  have hs2' := LimV.mono (B' := h4.blks) hs2 fun b _ hb => pr.get b (by omega)
  obtain ⟨b, off, rfl, _, _, la⟩ := lims_at' hs1' ha
  have hbl := getD_lim (i := i) b32 hl2
  have w2 : IntKind.u64.wrap ((carry : Int) + (a : Int)) = ((carry + a : Nat) : Int) := wrap_natu (by omega) (by omega)
  simp (disch := omega) only [go_sem,reduceIte,nqD,nqL, e0, e1, e5, e6, e20, e21, e22, hlt, idxA110, Int.toNat_natCast, Nat.mul_one, load168, la, c32_64, w2, len110]
  refine CondO_cut (fun α' h' => h4 = h' ∧ α'.get 0 = some (.slice (some ⟨b, off, none⟩) l1.length c1) ∧ α'.get 1 = some (.slice A2 m1.length c2) ∧ α'.get 5 = some (.slice (some ⟨h.next, 0, none⟩) (l1.length + 1) (l1.length + 1)) ∧ α'.get 6 = some (.int .u64 ((carry + a + m1.getD i 0 : Nat) : Int)) ∧
   α'.get 20 = some (.slice (some ⟨b, off, none⟩) l1.length c1) ∧ α'.get 21 = some (.int .i64 l1.length) ∧ α'.get 22 = some (.int .i64 i) ∧ α'.get 7 = some (.int .i64 i)) ?_ ?_
  ·by_cases hlt2 : (i : Int) < m1.length
   ·obtain ⟨a2, ha2⟩ := limb_at (l := m1) (i := i) (by omega)
    obtain ⟨b2, off2, rfl, _, _, la2⟩ := lims_at' hs2' ha2
    have hal2 := hl2.get ha2
    have d2 : decide ((i : Int) < (m1.length : Int)) = true := decide_eq_true hlt2
    have w3 : IntKind.u64.wrap (((carry + a : Nat) : Int) + (a2 : Int)) = ((carry + a + a2 : Nat) : Int) := wrap_natu (by omega) (by omega)
    have eg : m1.getD i 0 = a2 := by rw [List.getD_eq_getElem?_getD, ha2]; rfl
    simp (disch := omega) only [go_sem,reduceIte,nqD,nqL, e1, d2, idxA110, Int.toNat_natCast, Nat.mul_one, load168, la2, c32_64, w3]
    exact ⟨trivial, by simp only [go_sem,reduceIte,nqD,nqL, e0], by simp only [go_sem,reduceIte,nqD,nqL, e1], by simp only [go_sem,reduceIte,nqD,nqL, e5], by simp only [go_sem,reduceIte,nqD,nqL, eg], by simp only [go_sem,reduceIte,nqD,nqL, e20], by simp only [go_sem,reduceIte,nqD,nqL, e21], by simp only [go_sem,reduceIte,nqD,nqL, e22], by simp only [go_sem,reduceIte,nqD,nqL]⟩
   ·have d2 : decide ((i : Int) < (m1.length : Int)) = false := decide_eq_false hlt2
    have eg : m1.getD i 0 = 0 := by rw [List.getD_eq_getElem?_getD, List.getElem?_eq_none (by omega)]; rfl
    simp (disch := omega) only [go_sem,reduceIte,nqD,nqL, d2]
    exact ⟨trivial, by simp only [go_sem,reduceIte,nqD,nqL, e0], by simp only [go_sem,reduceIte,nqD,nqL, e1], by simp only [go_sem,reduceIte,nqD,nqL, e5], by simp only [go_sem,reduceIte,nqD,nqL, eg, Nat.add_zero], by simp only [go_sem,reduceIte,nqD,nqL, e20], by simp only [go_sem,reduceIte,nqD,nqL, e21], by simp only [go_sem,reduceIte,nqD,nqL, e22], by simp only [go_sem,reduceIte,nqD,nqL]⟩
  clear e0 e1 e5 e6 e20 e21 e22 w2
  rintro α h5 ⟨rfl, e0, e1, e5, e6, e20, e21, e22, e7⟩
  generalize hb2 : m1.getD i 0 = b2 at *
  simp (disch := omega) only [go_sem,reduceIte,nqD,nqL, e0, e1, e5, e6, e20, e21, e22, e7, c64_32, idxA110, Int.toNat_natCast, Nat.mul_one]
  refine At_limb (b := h.next) (off := 0) (i := i) (x := (carry + a + b2) % 4294967296) (by simp only [go_sem,reduceIte,nqD,nqL]) (by simp only [go_sem,reduceIte,nqD,nqL]) hb (by omega) hG fun h6 hs6 hb6 => ?_
  have w4 : IntKind.i64.wrap ((i : Int) + 1) = ((i + 1 : Nat) : Int) := wrap_nat (by omega) (by omega)
  simp (disch := omega) only [go_sem,reduceIte,nqD,nqL, e6, shr32, e22, w4]
  refine hJ (j - 1) _ _ (by omega) ⟨i + 1, (carry + a + b2) / 4294967296, L.set i ((carry + a + b2) % 4294967296), by omega, by simp only [go_sem,reduceIte,nqD,nqL, e0], by simp only [go_sem,reduceIte,nqD,nqL, e1], by simp only [go_sem,reduceIte,nqD,nqL, e5], by simp only [go_sem,reduceIte,nqD,nqL], by simp only [go_sem,reduceIte,nqD,nqL, e20], by simp only [go_sem,reduceIte,nqD,nqL, e21], by simp only [go_sem,reduceIte,nqD,nqL], hb6, by rw [List.length_set]; exact hL,
   hlL.set (Nat.mod_lt _ b32), ?_, by omega, pr.trans (hs6.pres nlr), hs6.next.trans hnx⟩
  rw [nv_set_take (by omega), nv_take_succ ha, nv_take_getD (l := m1), hb2]
  exact add_step hinv
 ·obtain rfl : i = l1.length := by omega
  simp (disch := omega) only [go_sem,reduceIte,nqD,nqL, e0, e1, e5, e6, e20, e21, e22, hlt, len110, c64_32, idxA110, Int.toNat_natCast, Nat.mul_one]
  refine At_limb (b := h.next) (off := 0) (i := l1.length) (x := carry % 4294967296) (by simp only [go_sem,reduceIte,nqD,nqL]) (by simp only [go_sem,reduceIte,nqD,nqL]) hb (by omega) hG fun h6 hs6 hb6 => ?_
  have pr6 := pr.trans (hs6.pres nlr)
  have n6 := hs6.next
  simp only [go_sem,reduceIte,nqD,nqL, e5]
  have hlen6 : (L.set l1.length (carry % 4294967296)).length = l1.length + 1 := by rw [List.length_set]; exact hL
  refine CallO_same (trim_spec (N := h6.next) (l := L.set l1.length (carry % 4294967296)) (A := some ⟨h.next, 0, none⟩) (c := l1.length + 1) (hlL.set (Nat.mod_lt _ b32)) (by rw [hlen6]; exact hb6.wide (Nat.zero_le _) (by omega)) (by rw [hlen6]; omega) |> fun hh => by rw [hlen6] at hh; exact hh) (by omega) fun w hw => ?_
  simp only [go_sem,reduceIte,nqD,nqL]
  refine hQ' _ _ ⟨pr6, ?_⟩
  have e : nv 4294967296 (L.set l1.length (carry % 4294967296)) = nv 4294967296 l + nv 4294967296 m := by
   have h1 := nv_set_take (B := 4294967296) (l := L) (i := l1.length) (r := carry % 4294967296) (by omega)
   rw [List.take_of_length_le (by rw [hlen6]; omega)] at h1
   rw [List.take_of_length_le (l := l1) nlr, List.take_of_length_le (l := m1) hle, hsum] at hinv
   rw [h1, Nat.mod_eq_of_lt (by omega)]; exact hinv
  rw [e] at hw
  exact hw
end
end Go.Proofs.YthankillfhmfkaaGreatDoor.Ev
namespace Go.Proofs.YthankillfhmfkaaGreatDoor.Ev
open Go Go.Proofs Go.Lm
open Nat renaming reduceEqDiff → nqD, reduceLT → nqL
noncomputable section
set_option maxHeartbeats 8000000 in
theorem subNat_spec {G N x y : Nat} {v u : Value} {h : H} (hG : G ≤ h.next) (hN : N ≤ h.next) (hv : NatV h.blks N x v) (hu : NatV h.blks N y u) (hx : Sm x) (hyx : y ≤ x) :
  Spec Tryz.prog (En G) 150 [v, u] h fun w h' => NatV h'.blks h'.next (x - y) w := by
 have hy : Sm y := hx.le hyx
 obtain ⟨l, A, c, rfl, hs, hl, hn, rfl⟩ := hv
 obtain ⟨m, A', c', rfl, hs', hl', hn', rfl⟩ := hu
 have hlen := hx.len hn
 have hlen' := hy.len hn'
 have hle : m.length ≤ l.length := by
  rcases Nat.lt_or_ge l.length m.length with h1 | h1
  ·have := nv_len_lt b32 hl hn' h1; omega
  ·exact h1
 refine CallsE_enter (En_known (by decide)) (En_f.trans Tryz.func150) rfl ⟨Nat.le_of_ble_eq_true rfl, by decide⟩ fun Q' hQ' => ?_
 simp (disch := omega) only [Tryz.f150, go_sem,reduceIte,nqD,nqL, len110]
 refine At_make (k1 := .i64) (k2 := .i64) (l := l.length) (c := l.length) u110 i168 zero168 (by rw [size168, bytes168]; rfl) (by simp only [go_sem,reduceIte,nqD,nqL]) (by simp only [go_sem,reduceIte,nqD,nqL]) nlr (by rw [size168]; omega) (by omega) (by omega) fun h3 hn3 => ?_
 have n3 := hn3.next
 have b3 := make_buf hn3
 simp (disch := omega) only [go_sem,reduceIte,nqD,nqL, len110]
 refine WK_loopN (fun j α h4 => ∃ (i bo : Nat) (L : List Nat), i + j = l.length ∧ α.get 0 = some (.slice A l.length c) ∧ α.get 1 = some (.slice A' m.length c') ∧ α.get 5 = some (.slice (some ⟨h.next, 0, none⟩) l.length l.length) ∧ α.get 6 = some (.int .u64 (bo : Int)) ∧
   α.get 14 = some (.slice A l.length c) ∧ α.get 15 = some (.int .i64 l.length) ∧ α.get 16 = some (.int .i64 i) ∧ SlV h4.blks h.next h3.next 1 l.length (lims L) (.slice (some ⟨h.next, 0, none⟩) l.length l.length) ∧
   L.length = l.length ∧ Lim 4294967296 L ∧ nv 4294967296 (l.take i) + 4294967296 ^ i * bo = nv 4294967296 (L.take i) + nv 4294967296 (m.take i) ∧ bo ≤ 1 ∧ Pres h.next h h4 ∧ h4.next = h3.next) l.length
  ⟨0, 0, List.replicate l.length 0, by omega, by simp only [go_sem,reduceIte,nqD,nqL], by simp only [go_sem,reduceIte,nqD,nqL], by simp only [go_sem,reduceIte,nqD,nqL], by (simp only [go_sem,reduceIte,nqD,nqL]) <;> rfl, by simp only [go_sem,reduceIte,nqD,nqL], by simp only [go_sem,reduceIte,nqD,nqL], by (simp only [go_sem,reduceIte,nqD,nqL]) <;> rfl, b3, by simp, Lim.zeros b32, by simp [nv], by omega, hn3.pres nlr, rfl⟩ (by omega) ?_
 clear b3
 rintro J j α h4 ⟨i, bo, L, hij, e0, e1, e5, e6, e14, e15, e16, hb, hL, hlL, hinv, hb1, pr, hnx⟩ hJ
 by_cases hlt : (i : Int) < l.length
 ·obtain ⟨a, ha⟩ := limb_at (l := l) (i := i) (by omega)
  have hal := hl.get ha
  have hs1' := LimV.mono (B' := h4.blks) hs fun b _ hb => pr.get b (by omega)
  have hs2' := LimV.mono (B' := h4.blks) hs' fun b _ hb => pr.get b (by omega)
  obtain ⟨b, off, rfl, _, _, la⟩ := lims_at' hs1' ha
  have hbl := getD_lim (i := i) b32 hl'
  simp (disch := omega) only [go_sem,reduceIte,nqD,nqL, e0, e1, e5, e6, e14, e15, e16, hlt, idxA110, Int.toNat_natCast, Nat.mul_one, load168, la, len110]
  refine CondO_cut (fun α' h' => h4 = h' ∧ α'.get 0 = some (.slice (some ⟨b, off, none⟩) l.length c) ∧ α'.get 1 = some (.slice A' m.length c') ∧ α'.get 5 = some (.slice (some ⟨h.next, 0, none⟩) l.length l.length) ∧ α'.get 9 = some (.int .u64 ((bo + m.getD i 0 : Nat) : Int)) ∧
   α'.get 14 = some (.slice (some ⟨b, off, none⟩) l.length c) ∧ α'.get 15 = some (.int .i64 l.length) ∧ α'.get 16 = some (.int .i64 i) ∧ α'.get 7 = some (.int .i64 i) ∧ α'.get 8 = some (.int .u32 (a : Int))) ?_ ?_
  ·by_cases hlt2 : (i : Int) < m.length
   ·obtain ⟨a2, ha2⟩ := limb_at (l := m) (i := i) (by omega)
    obtain ⟨b2, off2, rfl, _, _, la2⟩ := lims_at' hs2' ha2
    have hal2 := hl'.get ha2
    have d2 : decide ((i : Int) < (m.length : Int)) = true := decide_eq_true hlt2
    have w3 : IntKind.u64.wrap ((bo : Int) + (a2 : Int)) = ((bo + a2 : Nat) : Int) := wrap_natu (by omega) (by omega)
    have eg : m.getD i 0 = a2 := by rw [List.getD_eq_getElem?_getD, ha2]; rfl
    simp (disch := omega) only [go_sem,reduceIte,nqD,nqL, e1, d2, idxA110, Int.toNat_natCast, Nat.mul_one, load168, la2, c32_64, w3]
    exact ⟨trivial, by simp only [go_sem,reduceIte,nqD,nqL, e0], by simp only [go_sem,reduceIte,nqD,nqL, e1], by simp only [go_sem,reduceIte,nqD,nqL, e5], by simp only [go_sem,reduceIte,nqD,nqL, eg], by simp only [go_sem,reduceIte,nqD,nqL, e14], by simp only [go_sem,reduceIte,nqD,nqL, e15], by simp only [go_sem,reduceIte,nqD,nqL, e16], by simp only [go_sem,reduceIte,nqD,nqL], by simp only [go_sem,reduceIte,nqD,nqL]⟩
   ·have d2 : decide ((i : Int) < (m.length : Int)) = false := decide_eq_false hlt2
    have eg : m.getD i 0 = 0 := by rw [List.getD_eq_getElem?_getD, List.getElem?_eq_none (by omega)]; rfl
    simp (disch := omega) only [go_sem,reduceIte,nqD,nqL, d2]
    exact ⟨trivial, by simp only [go_sem,reduceIte,nqD,nqL, e0], by simp only [go_sem,reduceIte,nqD,nqL, e1], by simp only [go_sem,reduceIte,nqD,nqL, e5], by simp only [go_sem,reduceIte,nqD,nqL, eg, Nat.add_zero], by simp only [go_sem,reduceIte,nqD,nqL, e14], by simp only [go_sem,reduceIte,nqD,nqL, e15], by simp only [go_sem,reduceIte,nqD,nqL, e16], by simp only [go_sem,reduceIte,nqD,nqL], by simp only [go_sem,reduceIte,nqD,nqL]⟩
  clear e0 e1 e5 e6 e14 e15 e16
  rintro α h5 ⟨rfl, e0, e1, e5, e9, e14, e15, e16, e7, e8⟩
  generalize hb2 : m.getD i 0 = b2 at *
  have w2 : IntKind.u64.wrap ((a : Int) - ((bo + b2 : Nat) : Int)) = (((a + (18446744073709551616 - (bo + b2))) % 18446744073709551616 : Nat) : Int) := wrap_u64sub (by omega)
  simp (disch := omega) only [go_sem,reduceIte,nqD,nqL, e0, e1, e5, e7, e8, e9, e14, e15, e16, c32_64, c64_32, w2, idxA110, Int.toNat_natCast, Nat.mul_one]
  have hr : a + 4294967296 * ((a + (18446744073709551616 - (bo + b2))) % 18446744073709551616 / 9223372036854775808) = (a + (18446744073709551616 - (bo + b2))) % 18446744073709551616 % 4294967296 + (bo + b2) := by omega
  have hbo' : (a + (18446744073709551616 - (bo + b2))) % 18446744073709551616 / 9223372036854775808 ≤ 1 := by omega
  generalize (a + (18446744073709551616 - (bo + b2))) % 18446744073709551616 = lf at *
  refine At_limb (b := h.next) (off := 0) (i := i) (x := lf % 4294967296) (by simp only [go_sem,reduceIte,nqD,nqL]) (by simp only [go_sem,reduceIte,nqD,nqL]) hb (by omega) hG fun h6 hs6 hb6 => ?_
  have w4 : IntKind.i64.wrap ((i : Int) + 1) = ((i + 1 : Nat) : Int) := wrap_nat (by omega) (by omega)
  simp (disch := omega) only [go_sem,reduceIte,nqD,nqL, shr63, e16, w4]
  refine hJ (j - 1) _ _ (by omega) ⟨i + 1, lf / 9223372036854775808, L.set i (lf % 4294967296), by omega, by simp only [go_sem,reduceIte,nqD,nqL, e0], by simp only [go_sem,reduceIte,nqD,nqL, e1], by simp only [go_sem,reduceIte,nqD,nqL, e5], by simp only [go_sem,reduceIte,nqD,nqL], by simp only [go_sem,reduceIte,nqD,nqL, e14], by simp only [go_sem,reduceIte,nqD,nqL, e15], by simp only [go_sem,reduceIte,nqD,nqL], hb6, by rw [List.length_set]; exact hL,
   hlL.set (Nat.mod_lt _ b32), ?_, hbo', pr.trans (hs6.pres nlr), hs6.next.trans hnx⟩
  rw [nv_set_take (by omega), nv_take_succ ha, nv_take_getD (l := m), hb2]
  exact sub_step hinv hr
 ·obtain rfl : i = l.length := by omega
  simp (disch := omega) only [go_sem,reduceIte,nqD,nqL, e0, e1, e5, e6, e14, e15, e16, hlt]
  have hb' : SlV h4.blks 0 h4.next 1 L.length (lims L) (.slice (some ⟨h.next, 0, none⟩) L.length l.length) := by rw [hL]; exact hb.wide (Nat.zero_le _) (by omega)
  have ht := trim_spec (G := G) hlL hb' (by omega)
  rw [hL] at ht
  refine CallO_same ht (by omega) fun w hw => ?_
  simp only [go_sem,reduceIte,nqD,nqL]
  refine hQ' _ _ ⟨pr, ?_⟩
  rw [List.take_of_length_le (l := l) nlr, List.take_of_length_le (l := m) hle, List.take_of_length_le (l := L) (by omega)] at hinv
  have h1 := nv_lt hlL
  rw [hL] at h1
  have h2 : bo = 0 := by
   rcases Nat.eq_zero_or_pos bo with h3 | h3
   ·exact h3
   ·have : bo = 1 := by omega
    rw [this, Nat.mul_one] at hinv
    omega
  rw [h2, Nat.mul_zero] at hinv
  have e : nv 4294967296 L = nv 4294967296 l - nv 4294967296 m := by omega
  rw [e] at hw
  exact hw
def DivO (B : Tr Blk) (N x y : Nat) (v : Value) : Prop := ∃ q, v = .tuple #[q, .int .u32 ((x % y : Nat) : Int)] ∧ NatV B N (x / y) q
set_option maxHeartbeats 8000000 in
theorem divSmall_spec {G N x y : Nat} {v : Value} {h : H} (hG : G ≤ h.next) (hN : N ≤ h.next) (hv : NatV h.blks N x v) (hx : Sm x) (hy : 0 < y) (hy2 : y < 4294967296) :
  Spec Tryz.prog (En G) 123 [v, .int .u32 (y : Int)] h fun w h' => DivO h'.blks h'.next x y w := by
 obtain ⟨l, A, c, rfl, hs, hl, hn, rfl⟩ := hv
 have hlen := hx.len hn
 refine CallsE_enter (En_known (by decide)) (En_f.trans Tryz.func123) rfl ⟨Nat.le_of_ble_eq_true rfl, by decide⟩ fun Q' hQ' => ?_
 simp (disch := omega) only [Tryz.f123, go_sem,reduceIte,nqD,nqL, len110]
 refine At_make (k1 := .i64) (k2 := .i64) (l := l.length) (c := l.length) u110 i168 zero168 (by rw [size168, bytes168]; rfl) (by simp only [go_sem,reduceIte,nqD,nqL]) (by simp only [go_sem,reduceIte,nqD,nqL]) nlr (by rw [size168]; omega) (by omega) (by omega) fun h3 hn3 => ?_
 have n3 := hn3.next
 have b3 := make_buf hn3
 simp (disch := omega) only [go_sem,reduceIte,nqD,nqL, len110, wrap_i64]
 refine WK_loopN (fun j α h4 => ∃ (rest : Nat) (L : List Nat), j ≤ l.length ∧ α.get 0 = some (.slice A l.length c) ∧ α.get 1 = some (.int .u32 (y : Int)) ∧ α.get 6 = some (.slice (some ⟨h.next, 0, none⟩) l.length l.length) ∧ α.get 7 = some (.int .u64 (rest : Int)) ∧
   α.get 8 = some (.int .i64 ((j : Int) - 1)) ∧ SlV h4.blks h.next h3.next 1 l.length (lims L) (.slice (some ⟨h.next, 0, none⟩) l.length l.length) ∧
   L.length = l.length ∧ Lim 4294967296 L ∧ nv 4294967296 (l.drop j) = y * nv 4294967296 (L.drop j) + rest ∧ rest < y ∧ Pres h.next h h4 ∧ h4.next = h3.next) l.length
  ⟨0, List.replicate l.length 0, Nat.le_refl _, by simp only [go_sem,reduceIte,nqD,nqL], by simp only [go_sem,reduceIte,nqD,nqL], by simp only [go_sem,reduceIte,nqD,nqL], by (simp only [go_sem,reduceIte,nqD,nqL]) <;> rfl, by simp only [go_sem,reduceIte,nqD,nqL], b3, by simp, Lim.zeros b32, by simp [nv], hy, hn3.pres nlr, rfl⟩ (by omega) ?_
 clear b3
 rintro J j α h4 ⟨rest, L, hj, e0, e1, e6, e7, e8, hb, hL, hlL, hinv, hr, pr, hnx⟩ hJ
 cases j with
 | zero =>
  have d0 : decide ((0 : Int) ≤ ((0 : Nat) : Int) - 1) = false := rfl
  simp (disch := omega) only [go_sem,reduceIte,nqD,nqL, e0, e1, e6, e7, e8, d0]
  have hb' : SlV h4.blks 0 h4.next 1 L.length (lims L) (.slice (some ⟨h.next, 0, none⟩) L.length l.length) := by rw [hL]; exact hb.wide (Nat.zero_le _) (by omega)
  have ht := trim_spec (G := G) hlL hb' (by omega)
  rw [hL] at ht
  refine CallO_same ht (by omega) fun w hw => ?_
  simp (disch := omega) only [go_sem,reduceIte,nqD,nqL, e7, c64_32]
  simp only [List.drop_zero] at hinv
  have e2 : nv 4294967296 l / y = nv 4294967296 L := by
   rw [hinv, Nat.mul_comm, Nat.add_comm, Nat.add_mul_div_right _ _ hy, Nat.div_eq_of_lt hr, Nat.zero_add]
  have e3 : nv 4294967296 l % y = rest := by
   rw [hinv, Nat.mul_comm, Nat.add_comm, Nat.add_mul_mod_self_right, Nat.mod_eq_of_lt hr]
  refine hQ' _ _ ⟨pr, w, ?_, ?_⟩
  ·rw [e3, Nat.mod_eq_of_lt (by omega)]
  ·rw [e2]; exact hw
 | succ i =>
  obtain ⟨a, ha⟩ := limb_at (l := l) (i := i) (by omega)
  have hal := hl.get ha
  have hs1' := LimV.mono (B' := h4.blks) hs fun b _ hb => pr.get b (by omega)
  obtain ⟨b, off, rfl, _, _, la⟩ := lims_at' hs1' ha
  have j1 : ((i + 1 : Nat) : Int) - 1 = (i : Int) := by omega
  have d0 : decide ((0 : Int) ≤ (i : Int)) = true := decide_eq_true (by omega)
  rw [j1] at e8
  have hq := div_carry (B := 4294967296) hr hal
  have hsz : rest * 4294967296 + a < 18446744073709551616 := by omega
  have hstep := div_step (B := 4294967296) (a := a) hinv
  have hrl : (rest * 4294967296 + a) % y < y := Nat.mod_lt _ hy
  have hdl : (rest * 4294967296 + a) / y ≤ rest * 4294967296 + a := Nat.div_le_self _ _
  have hq1 : IntKind.u64.wrap (((rest * 4294967296 + a : Nat) : Int).tdiv (y : Int)) = (((rest * 4294967296 + a) / y : Nat) : Int) := by
   rw [Int.tdiv_eq_ediv_of_nonneg (Int.natCast_nonneg _)]
   exact wrap_u64n (by omega)
  have hr1 : ((rest * 4294967296 + a : Nat) : Int).tmod (y : Int) = (((rest * 4294967296 + a) % y : Nat) : Int) := by
   rw [Int.tmod_eq_emod_of_nonneg (Int.natCast_nonneg _)]; rfl
  generalize (rest * 4294967296 + a) / y = q at *
  generalize (rest * 4294967296 + a) % y = r at *
  simp (disch := omega) only [go_sem,reduceIte,nqD,nqL, e0, e1, e6, e7, e8, d0, idxA110, Int.toNat_natCast, Nat.mul_one, load168, la, c32_64, c64_32, shl32, or_u64, hq1]
  refine At_limb (b := h.next) (off := 0) (i := i) (x := q % 4294967296) (by simp only [go_sem,reduceIte,nqD,nqL]) (by simp only [go_sem,reduceIte,nqD,nqL]) hb (by omega) hG fun h6 hs6 hb6 => ?_
  simp (disch := omega) only [go_sem,reduceIte,nqD,nqL, e1, e8, c32_64, hr1, wrap_i64]
  refine hJ i _ _ (by omega) ⟨r, L.set i (q % 4294967296), by omega, by simp only [go_sem,reduceIte,nqD,nqL, e0], by simp only [go_sem,reduceIte,nqD,nqL, e1], by simp only [go_sem,reduceIte,nqD,nqL, e6], by simp only [go_sem,reduceIte,nqD,nqL], by simp only [go_sem,reduceIte,nqD,nqL], hb6, by rw [List.length_set]; exact hL, hlL.set (Nat.mod_lt _ b32), ?_, hrl, pr.trans (hs6.pres nlr), hs6.next.trans hnx⟩
  rw [Nat.mod_eq_of_lt hq, nv_set_drop (by omega), nv_drop ha]
  exact hstep
end
end Go.Proofs.YthankillfhmfkaaGreatDoor.Ev
namespace Go.Proofs.YthankillfhmfkaaGreatDoor.Ev
open Go Go.Proofs Go.Lm
open Nat renaming reduceEqDiff → nqD, reduceLT → nqL
noncomputable section
set_option maxHeartbeats 8000000 in
theorem mulNat_spec {G N x y : Nat} {v u : Value} {h : H} (hG : G ≤ h.next) (hN : N ≤ h.next) (hv : NatV h.blks N x v) (hu : NatV h.blks N y u) (hx : Sm x) (hy : Sm y) :
  Spec Tryz.prog (En G) 116 [v, u] h fun w h' => NatV h'.blks h'.next (x * y) w := by
 obtain ⟨l, A, c, rfl, hs, hl, hn, rfl⟩ := hv
 obtain ⟨m, A', c', rfl, hs', hl', hn', rfl⟩ := hu
 have hlen := hx.len hn
 have hlen' := hy.len hn'
 refine CallsE_enter (En_known (by decide)) (En_f.trans Tryz.func116) rfl ⟨Nat.le_of_ble_eq_true rfl, by decide⟩ fun Q' hQ' => ?_
 have w0 : IntKind.i64.wrap ((l.length : Int) + (m.length : Int)) = ((l.length + m.length : Nat) : Int) := wrap_nat (by omega) (by omega)
 simp (disch := omega) only [Tryz.f116, go_sem,reduceIte,nqD,nqL, len110, w0]
 refine At_make (k1 := .i64) (k2 := .i64) (l := l.length + m.length) (c := l.length + m.length) u110 i168 zero168 (by rw [size168, bytes168]; rfl) (by simp only [go_sem,reduceIte,nqD,nqL]) (by simp only [go_sem,reduceIte,nqD,nqL]) nlr (by rw [size168]; omega) (by omega) (by omega) fun h3 hn3 => ?_
 have n3 := hn3.next
 have b3 := make_buf hn3
 simp (disch := omega) only [go_sem,reduceIte,nqD,nqL, len110]
 refine WK_loopN (fun j α h4 => ∃ (i : Nat) (L : List Nat), i + j = l.length ∧ α.get 0 = some (.slice A l.length c) ∧ α.get 1 = some (.slice A' m.length c') ∧ α.get 5 = some (.slice (some ⟨h.next, 0, none⟩) (l.length + m.length) (l.length + m.length)) ∧
   α.get 17 = some (.slice A l.length c) ∧ α.get 18 = some (.int .i64 l.length) ∧ α.get 19 = some (.int .i64 i) ∧ SlV h4.blks h.next h3.next 1 (l.length + m.length) (lims L) (.slice (some ⟨h.next, 0, none⟩) (l.length + m.length) (l.length + m.length)) ∧
   L.length = l.length + m.length ∧ Lim 4294967296 L ∧ nv 4294967296 L = nv 4294967296 (l.take i) * nv 4294967296 m ∧ (∀ k, i + m.length ≤ k → k < l.length + m.length → L[k]? = some 0) ∧ Pres h.next h h4 ∧ h4.next = h3.next) l.length
  ⟨0, List.replicate (l.length + m.length) 0, by omega, by simp only [go_sem,reduceIte,nqD,nqL], by simp only [go_sem,reduceIte,nqD,nqL], by simp only [go_sem,reduceIte,nqD,nqL], by simp only [go_sem,reduceIte,nqD,nqL], by simp only [go_sem,reduceIte,nqD,nqL], by (simp only [go_sem,reduceIte,nqD,nqL]) <;> rfl, b3, by simp, Lim.zeros b32, by rw [nv_zeros]; simp [nv], fun k _ hk => by rw [List.getElem?_replicate, if_pos hk], hn3.pres nlr, rfl⟩ (by omega) ?_
 clear b3
 rintro J j α h4 ⟨i, L, hij, e0, e1, e5, e17, e18, e19, hb, hL, hlL, hinv, hz, pr, hnx⟩ hJ
 by_cases hlt : (i : Int) < l.length
 ·obtain ⟨x, hx'⟩ := limb_at (l := l) (i := i) (by omega)
  have hxl := hl.get hx'
  have hs1' := LimV.mono (B' := h4.blks) hs fun b _ hb => pr.get b (by omega)
  obtain ⟨b, off, rfl, _, _, la⟩ := lims_at' hs1' hx'
  simp (disch := omega) only [go_sem,reduceIte,nqD,nqL, e0, e1, e5, e17, e18, e19, hlt, idxA110, Int.toNat_natCast, Nat.mul_one, load168, la, len110]
  refine WK_loopN (fun j2 β h5 => ∃ (k carry : Nat) (M : List Nat), k + j2 = m.length ∧ β.get 0 = some (.slice (some ⟨b, off, none⟩) l.length c) ∧ β.get 1 = some (.slice A' m.length c') ∧ β.get 5 = some (.slice (some ⟨h.next, 0, none⟩) (l.length + m.length) (l.length + m.length)) ∧
    β.get 17 = some (.slice (some ⟨b, off, none⟩) l.length c) ∧ β.get 18 = some (.int .i64 l.length) ∧ β.get 19 = some (.int .i64 i) ∧ β.get 6 = some (.int .i64 i) ∧ β.get 7 = some (.int .u32 (x : Int)) ∧ β.get 8 = some (.int .u64 (carry : Int)) ∧
    β.get 24 = some (.slice A' m.length c') ∧ β.get 25 = some (.int .i64 m.length) ∧ β.get 26 = some (.int .i64 k) ∧ SlV h5.blks h.next h3.next 1 (l.length + m.length) (lims M) (.slice (some ⟨h.next, 0, none⟩) (l.length + m.length) (l.length + m.length)) ∧
    M.length = l.length + m.length ∧ Lim 4294967296 M ∧ nv 4294967296 M + 4294967296 ^ (i + k) * carry = nv 4294967296 L + 4294967296 ^ i * (x * nv 4294967296 (m.take k)) ∧ carry < 4294967296 ∧ (∀ k, i + m.length ≤ k → k < l.length + m.length → M[k]? = some 0) ∧ Pres h.next h h5 ∧ h5.next = h3.next) m.length
   ⟨0, 0, L, by omega, by simp only [go_sem,reduceIte,nqD,nqL, e0], by simp only [go_sem,reduceIte,nqD,nqL, e1], by simp only [go_sem,reduceIte,nqD,nqL, e5], by simp only [go_sem,reduceIte,nqD,nqL, e17], by simp only [go_sem,reduceIte,nqD,nqL, e18], by simp only [go_sem,reduceIte,nqD,nqL, e19], by simp only [go_sem,reduceIte,nqD,nqL], by simp only [go_sem,reduceIte,nqD,nqL], by (simp only [go_sem,reduceIte,nqD,nqL]) <;> rfl, by simp only [go_sem,reduceIte,nqD,nqL], by simp only [go_sem,reduceIte,nqD,nqL], by (simp only [go_sem,reduceIte,nqD,nqL]) <;> rfl, hb, hL, hlL, by simp [nv], by omega, hz, pr, hnx⟩ (by omega) ?_
  clear e0 e1 e5 e17 e18 e19 hb la hs1' pr hnx hz
  rintro J2 j2 β h5 ⟨k, carry, M, hkj, e0, e1, e5, e17, e18, e19, e6, e7, e8, e24, e25, e26, hb, hM, hlM, hinv2, hcl, hz, pr, hnx⟩ hJ2
  have hlt' : i < l.length := by omega
  by_cases hlt2 : (k : Int) < m.length
  ·obtain ⟨y, hy'⟩ := limb_at (l := m) (i := k) (by omega)
   obtain ⟨p, hp'⟩ := limb_at (l := M) (i := i + k) (by omega)
   have hyl := hl'.get hy'
   have hpl := hlM.get hp'
   have hs2' := LimV.mono (B' := h5.blks) hs' fun b _ hb => pr.get b (by omega)
   obtain ⟨b2, off2, rfl, _, _, la2⟩ := lims_at' hs2' hy'
   obtain ⟨b4, off4, he4, _, _, lp⟩ := lims_at hb hp'
   obtain ⟨rfl, rfl⟩ : b4 = h.next ∧ off4 = 0 := by
    injection he4 with he4
    injection he4 with q1 q2 q3
    exact ⟨q1.symm, q2.symm⟩
   have hcar := mul_carry hxl hyl hcl hpl
   have w1 : IntKind.u64.wrap ((x : Int) * (y : Int)) = ((x * y : Nat) : Int) := wrap_u64mul (by omega)
   have w2 : IntKind.u64.wrap (((x * y : Nat) : Int) + (p : Int)) = ((x * y + p : Nat) : Int) := wrap_natu (by omega) (by omega)
   have w3 : IntKind.u64.wrap ((carry : Int) + ((x * y + p : Nat) : Int)) = ((carry + (x * y + p) : Nat) : Int) := wrap_natu (by omega) (by omega)
   have w4 : IntKind.i64.wrap ((i : Int) + (k : Int)) = ((i + k : Nat) : Int) := wrap_nat (by omega) (by omega)
   simp (disch := omega) only [go_sem,reduceIte,nqD,nqL, e0, e1, e5, e6, e7, e8, e24, e25, e26, hlt2, w4, idxA110, Int.toNat_natCast, Nat.mul_one, load168, la2, lp, c32_64, c64_32, w1, w2, w3]
   refine At_limb (b := h.next) (off := 0) (i := i + k) (x := (carry + (x * y + p)) % 4294967296) (by simp only [go_sem,reduceIte,nqD,nqL]) (by simp only [go_sem,reduceIte,nqD,nqL]) hb (by omega) hG fun h6 hs6 hb6 => ?_
   have w5 : IntKind.i64.wrap ((k : Int) + 1) = ((k + 1 : Nat) : Int) := wrap_nat (by omega) (by omega)
   simp (disch := omega) only [go_sem,reduceIte,nqD,nqL, shr32, e26, w5]
   refine hJ2 (j2 - 1) _ _ (by omega) ⟨k + 1, (carry + (x * y + p)) / 4294967296, M.set (i + k) ((carry + (x * y + p)) % 4294967296), by omega, by simp only [go_sem,reduceIte,nqD,nqL, e0], by simp only [go_sem,reduceIte,nqD,nqL, e1], by simp only [go_sem,reduceIte,nqD,nqL, e5], by simp only [go_sem,reduceIte,nqD,nqL, e17], by simp only [go_sem,reduceIte,nqD,nqL, e18], by simp only [go_sem,reduceIte,nqD,nqL, e19], by simp only [go_sem,reduceIte,nqD,nqL, e6], by simp only [go_sem,reduceIte,nqD,nqL, e7], by simp only [go_sem,reduceIte,nqD,nqL], by simp only [go_sem,reduceIte,nqD,nqL, e24], by simp only [go_sem,reduceIte,nqD,nqL, e25], by simp only [go_sem,reduceIte,nqD,nqL], hb6, by rw [List.length_set]; exact hM,
    hlM.set (Nat.mod_lt _ b32), ?_, by omega, fun k' h1 h2 => by rw [List.getElem?_set_ne (by omega)]; exact hz k' h1 h2, pr.trans (hs6.pres nlr), hs6.next.trans hnx⟩
   rw [nv_take_succ hy']
   exact mul_step hinv2 (nv_set hp')
  ·obtain rfl : k = m.length := by omega
   have hp' := hz (i + m.length) nlr (by omega)
   have w4 : IntKind.i64.wrap ((i : Int) + (m.length : Int)) = ((i + m.length : Nat) : Int) := wrap_nat (by omega) (by omega)
   simp (disch := omega) only [go_sem,reduceIte,nqD,nqL, e0, e1, e5, e6, e7, e8, e24, e25, e26, hlt2, len110, w4, c64_32, idxA110, Int.toNat_natCast, Nat.mul_one]
   refine At_limb (b := h.next) (off := 0) (i := i + m.length) (x := carry % 4294967296) (by simp only [go_sem,reduceIte,nqD,nqL]) (by simp only [go_sem,reduceIte,nqD,nqL]) hb (by omega) hG fun h6 hs6 hb6 => ?_
   have w5 : IntKind.i64.wrap ((i : Int) + 1) = ((i + 1 : Nat) : Int) := wrap_nat (by omega) (by omega)
   simp (disch := omega) only [go_sem,reduceIte,nqD,nqL, e19, w5]
   refine hJ (j - 1) _ _ (by omega) ⟨i + 1, M.set (i + m.length) (carry % 4294967296), by omega, by simp only [go_sem,reduceIte,nqD,nqL, e0], by simp only [go_sem,reduceIte,nqD,nqL, e1], by simp only [go_sem,reduceIte,nqD,nqL, e5], by simp only [go_sem,reduceIte,nqD,nqL, e17], by simp only [go_sem,reduceIte,nqD,nqL, e18], by simp only [go_sem,reduceIte,nqD,nqL], hb6, by rw [List.length_set]; exact hM,
    hlM.set (Nat.mod_lt _ b32), ?_, fun k' h1 h2 => by rw [List.getElem?_set_ne (by omega)]; exact hz k' (by omega) h2, pr.trans (hs6.pres nlr), hs6.next.trans hnx⟩
   rw [Nat.mod_eq_of_lt hcl, nv_take_succ hx']
   rw [List.take_of_length_le (l := m) nlr] at hinv2
   exact mul_end hinv2 (nv_set hp') hinv
 ·obtain rfl : i = l.length := by omega
  simp (disch := omega) only [go_sem,reduceIte,nqD,nqL, e0, e1, e5, e17, e18, e19, hlt]
  have hb' : SlV h4.blks 0 h4.next 1 L.length (lims L) (.slice (some ⟨h.next, 0, none⟩) L.length (l.length + m.length)) := by rw [hL]; exact hb.wide (Nat.zero_le _) (by omega)
  have ht := trim_spec (G := G) hlL hb' (by omega)
  rw [hL] at ht
  refine CallO_same ht (by omega) fun w hw => ?_
  simp only [go_sem,reduceIte,nqD,nqL]
  refine hQ' _ _ ⟨pr, ?_⟩
  rw [List.take_of_length_le (l := l) nlr] at hinv
  rw [hinv] at hw
  exact hw
def DivN (B : Tr Blk) (N x y : Nat) (v : Value) : Prop := ∃ q r, v = .tuple #[q, r] ∧ NatV B N (x / y) q ∧ NatV B N (x % y) r
set_option maxHeartbeats 4000000 in
theorem divNat_spec {G N x y : Nat} {v u : Value} {h : H} (hG : G ≤ h.next) (hN : N ≤ h.next) (hv : NatV h.blks N x v) (hu : NatV h.blks N y u) (hx : Sm x) (hy : 0 < y) (hy2 : y < 4294967296 ∨ x < y ∧ Sm y) :
  Spec Tryz.prog (En G) 119 [v, u] h fun w h' => DivN h'.blks h'.next x y w := by
 have hsy : Sm y := by
  rcases hy2 with h1 | h1
  ·exact ⟨1, by omega, by omega⟩
  ·exact h1.2
 refine CallsE_enter (En_known (by decide)) (En_f.trans Tryz.func119) rfl ⟨Nat.le_of_ble_eq_true rfl, by decide⟩ fun Q' hQ' => ?_
 simp (disch := omega) only [Tryz.f119, go_sem,reduceIte,nqD,nqL]
 refine CallO_same (compareNat_spec hv hu hx hsy) (by omega) fun z hz => ?_
 subst hz
 by_cases hlt : x < y
 ·have d1 : decide (cmpI x y < 0) = true := decide_eq_true (by unfold cmpI; rw [if_pos (by omega)]; omega)
  simp (disch := omega) only [go_sem,reduceIte,nqD,nqL, d1]
  refine hQ' _ _ ⟨Pres.refl _ _, _, _, rfl, ?_, ?_⟩
  ·rw [Nat.div_eq_of_lt hlt]; exact NatV.nil
  ·rw [Nat.mod_eq_of_lt hlt]; exact hv.wide hN
 ·have d1 : decide (cmpI x y < 0) = false := decide_eq_false (by unfold cmpI; rw [if_neg (by omega)]; split <;> omega)
  have hyB : y < 4294967296 := by omega
  have hu0 := hu
  obtain ⟨m, A', c', rfl, hs', hl', hn', he⟩ := hu
  have hm1 : m = [y] := nv_uniq b32 hl' (Lim.one hyB) hn' (by simp [Nrm]; omega) (by rw [he, nv_one])
  subst hm1
  obtain ⟨b, off, rfl, _, _, la⟩ := lims_at' (i := 0) (a := y) hs' rfl
  have d2 : decide ((([y] : List Nat).length : Int) = 1) = true := rfl
  simp (disch := omega) only [go_sem,reduceIte,nqD,nqL, d1, len110, d2]
  rw [idxA110 (by omega) (by simp)]
  simp (disch := omega) only [go_sem,reduceIte,nqD,nqL, Int.toNat_zero, Nat.zero_mul, load168, la]
  refine CallO_f (divSmall_spec hG hN hv hx hy hyB) (by omega) fun w h1 pr1 hw => ?_
  obtain ⟨q, rfl, hq⟩ := hw
  have hrl : x % y < y := Nat.mod_lt _ hy
  simp (disch := omega) only [go_sem,reduceIte,nqD,nqL, c32_64]
  refine CallO_f (natOf_spec (x := x % y) (by omega)) (by omega) fun w h2 pr2 hw => ?_
  have n1 := pr1.next
  have n2 := pr2.next
  simp (disch := omega) only [go_sem,reduceIte,nqD,nqL]
  exact hQ' _ _ ⟨pr1.trans (pr2.le (by omega)), q, w, rfl, (hq.pres pr2 nlr).wide n2, hw⟩
theorem natV_len {B : Tr Blk} {N x : Nat} {v : Value} (hv : NatV B N x v) (hx : Sm x) : ∃ A n c, v = .slice A n c ∧ n ≤ 60000000 ∧ (n = 0 ↔ x = 0) := by
 obtain ⟨l, A, c, rfl, hs, hl, hn, rfl⟩ := hv
 refine ⟨A, l.length, c, rfl, hx.len hn, ?_⟩
 rw [nrm_zero b32 hn, List.length_eq_zero_iff]
set_option maxHeartbeats 4000000 in
theorem gcdNat_spec {G N x y : Nat} {v u : Value} {h : H} (hG : G ≤ h.next) (hN : N ≤ h.next) (hv : NatV h.blks N x v) (hu : NatV h.blks N y u) (hx : Sm x) (hy : y < 4294967296) :
  Spec Tryz.prog (En G) 118 [v, u] h fun w h' => NatV h'.blks h'.next (Nat.gcd x y) w := by
 refine CallsE_enter (En_known (by decide)) (En_f.trans Tryz.func118) rfl ⟨Nat.le_of_ble_eq_true rfl, by decide⟩ fun Q' hQ' => ?_
 simp (disch := omega) only [Tryz.f118, go_sem,reduceIte,nqD,nqL]
 refine WK_loopN (fun j α h2 => ∃ (a b : Nat) (va vb : Value), b ≤ j ∧ b < 4294967296 ∧ Sm a ∧ Nat.gcd a b = Nat.gcd x y ∧ α.get 0 = some va ∧ α.get 1 = some vb ∧ NatV h2.blks h2.next a va ∧ NatV h2.blks h2.next b vb ∧ Pres h.next h h2) y
  ⟨x, y, v, u, Nat.le_refl _, hy, hx, rfl, by simp only [go_sem,reduceIte,nqD,nqL], by simp only [go_sem,reduceIte,nqD,nqL], hv.wide hN, hu.wide hN, Pres.refl _ _⟩ (by omega) ?_
 rintro J j α h2 ⟨a, b, va, vb, hbj, hbl, hsa, hg, e0, e1, ha, hb, pr⟩ hJ
 have hsb : Sm b := ⟨1, by omega, by omega⟩
 have hnx := pr.next
 obtain ⟨A, n, c, rfl, hn, hn0⟩ := natV_len hb hsb
 by_cases h0 : b = 0
 ·obtain rfl : n = 0 := hn0.2 h0
  have d1 : decide ((0 : Int) < ((0 : Nat) : Int)) = false := rfl
  simp (disch := omega) only [go_sem,reduceIte,nqD,nqL, e0, e1, len110, d1]
  subst h0
  rw [Nat.gcd_zero_right] at hg
  refine hQ' _ _ ⟨pr, ?_⟩
  rw [← hg]; exact ha
 ·have hnp : n ≠ 0 := fun e => h0 (hn0.1 e)
  have d1 : decide ((0 : Int) < (n : Int)) = true := decide_eq_true (by omega)
  simp (disch := omega) only [go_sem,reduceIte,nqD,nqL, e0, e1, len110, d1]
  refine CallO_f (divNat_spec (by omega) nlr ha hb hsa (by omega) (.inl hbl)) (by omega) fun w h3 pr3 hw => ?_
  obtain ⟨q, r, rfl, _, hr⟩ := hw
  have hm : a % b < b := Nat.mod_lt _ (by omega)
  have n3 := pr3.next
  simp (disch := omega) only [go_sem,reduceIte,nqD,nqL, e1]
  refine hJ (a % b) _ _ (by omega) ⟨b, a % b, _, r, Nat.le_refl _, by omega, hsb, ?_, by simp only [go_sem,reduceIte,nqD,nqL], by simp only [go_sem,reduceIte,nqD,nqL], (hb.pres pr3 nlr).wide n3, hr, pr.trans (pr3.le (by omega))⟩
  rw [← hg, Nat.gcd_comm, ← Nat.gcd_rec, Nat.gcd_comm]
end
end Go.Proofs.YthankillfhmfkaaGreatDoor.Ev
