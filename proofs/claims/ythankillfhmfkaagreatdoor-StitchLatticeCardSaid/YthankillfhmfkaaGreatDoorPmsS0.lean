/- Facts of strings and of variables, at this seat's types. -/
import Derived.Test.YthankillfhmfkaaGreatDoorPmsFacts
import Derived.Test.YthankillfhmfkaaGreatDoorPmStr
set_option linter.unusedSimpArgs false
namespace Go.Proofs.YthankillfhmfkaaGreatDoor.Ev
open Go Go.Proofs
noncomputable section

theorem str_mk {a : Array UInt8} : Value.string ⟨a⟩ = strV a.toList := rfl
theorem str_empty : Value.string .empty = strV [] := rfl
theorem ev_cstr {E : Env} {h : H} {α : Tr Value} {l : List UInt8} : ev E h α (.const (strV l)) = some (strV l) := rfl
theorem ev_nilf {E : Env} {h : H} {α : Tr Value} : ev E h α (.const .nilFunc) = some .nilFunc := rfl
theorem funcO_some {fn : Fn} {f c : List Value} : funcO fn (some f) (some c) = some (.func fn f.toArray c.toArray) := rfl
theorem len9 {G : Nat} {l : List UInt8} {B : Tr Blk} : lenO (En G) B 9 (some (strV l)) = some (.int .i64 l.length) := lenO_str u9
theorem idx9 {G : Nat} {l : List UInt8} {kd : IntKind} {z : Int} {c : UInt8} (h0 : 0 ≤ z) (hc : l[z.toNat]? = some c) : idxO (En G) 9 (some (strV l)) (some (.int kd z)) = some (.int .u8 c.toNat) := idxO_str u9 h0 hc
theorem slcHi9 {G : Nat} {B : Tr Blk} {l : List UInt8} {kd : IntKind} {z : Int} (h0 : 0 ≤ z) (h1 : z ≤ l.length) : sliceO (En G) 9 B (some (strV l)) (some []) (some [.int kd z]) = some (strV (l.take z.toNat)) := slice_hi u9 h0 h1
theorem slcLo9 {G : Nat} {B : Tr Blk} {l : List UInt8} {kd : IntKind} {z : Int} (h0 : 0 ≤ z) (h1 : z ≤ l.length) : sliceO (En G) 9 B (some (strV l)) (some [.int kd z]) (some []) = some (strV (l.drop z.toNat)) := slice_lo u9 h0 h1
theorem slcBoth9 {G : Nat} {B : Tr Blk} {l : List UInt8} {k1 k2 : IntKind} {y z : Int} (h0 : 0 ≤ y) (h2 : y ≤ z) (h1 : z ≤ l.length) : sliceO (En G) 9 B (some (strV l)) (some [.int k1 y]) (some [.int k2 z]) = some (strV ((l.take z.toNat).drop y.toNat)) := slice_both u9 h0 h2 h1
theorem conv5_3 {P : Program} {G : Nat} {B : Tr Blk} {c : UInt8} : convO P (En G) B 5 3 (some (.int .u8 (c.toNat : Int))) = some (.int .i64 c.toNat) := by
  have := UInt8.toNat_lt c
  rw [convO_int u5 u3, wrap_i64 (by omega) (by omega)]
theorem conv55_9 {P : Program} {G : Nat} {B : Tr Blk} {lo hi n : Nat} {l : List UInt8} {v : Value} (hv : SlV B lo hi 1 n (byts l) v) : convO P (En G) B 73 9 (some v) = some (strV l) := conv_bytes u73 u9 u5 hv

/-- a variable's cells -/
def Var (B : Tr Blk) (b : Nat) (L : List Value) : Prop := ∃ cells es, B.get b = some (.mk cells L.length es) ∧ ∀ i, i < L.length → cells.get i = L[i]?
theorem New.var {h h' : H} {cells : List Value} {es : Nat} (a : New h h' cells es) : Var h'.blks h.next cells :=
  ⟨Tr.ofList cells, es, by rw [a.get, if_pos rfl], fun i _ => Tr.ofList_get _ _⟩
theorem Var.mono {B B' : Tr Blk} {b : Nat} {L : List Value} (v : Var B b L) (hb : B'.get b = B.get b) : Var B' b L := by
  obtain ⟨c, e, h1, h2⟩ := v
  exact ⟨c, e, hb.trans h1, h2⟩
theorem Sto.var {h h' : H} {b : Nat} {vs L : List Value} (a : Sto h h' b 0 vs) (v : Var h.blks b L) (hl : vs.length = L.length) : Var h'.blks b vs := by
  obtain ⟨c, e, h1, h2⟩ := v
  refine ⟨_, e, by rw [a.at_ _ _ _ h1, hl], fun i hi => ?_⟩
  rw [setCells_get, if_pos (by omega), Nat.sub_zero]
/-- a part of a variable is written -/
theorem Sto.varAt {h h' : H} {b off : Nat} {vs L : List Value} (a : Sto h h' b off vs) (v : Var h.blks b L) (hl : off + vs.length ≤ L.length) : Var h'.blks b (L.take off ++ vs ++ L.drop (off + vs.length)) := by
  obtain ⟨c, e, h1, h2⟩ := v
  have hlen : (L.take off ++ vs ++ L.drop (off + vs.length)).length = L.length := by simp; omega
  refine ⟨_, e, by rw [a.at_ _ _ _ h1, hlen], fun i hi => ?_⟩
  rw [hlen] at hi
  rw [setCells_get]
  have hlt : (L.take off ++ vs).length = off + vs.length := by simp; omega
  by_cases h3 : off ≤ i ∧ i < off + vs.length
  · rw [if_pos h3, List.getElem?_append_left (by omega), List.getElem?_append_right (by simp; omega)]
    congr 1
    simp; omega
  · rw [if_neg h3, h2 i hi]
    by_cases h4 : i < off
    · rw [List.getElem?_append_left (by omega), List.getElem?_append_left (by simp; omega), List.getElem?_take, if_pos h4]
    · rw [List.getElem?_append_right (by omega), List.getElem?_drop, hlt]
      congr 1
      omega
theorem Var.load {B : Tr Blk} {b i : Nat} {L : List Value} (v : Var B b L) (hi : i < L.length) : loadv B b i = L[i]? := by
  obtain ⟨c, e, h1, h2⟩ := v
  simp only [loadv, h1]
  rw [if_pos (by omega)]
  exact h2 i hi
theorem loadO_agg {E : Env} {t : TypeId} {inf : TypeInfo} {B : Tr Blk} {b off : Nat} {L : List Value} {cells : Tr Value} {size es : Nat} (ht : E.agg t = some true) (hi : E.i t = some inf) (hb : B.get b = some (.mk cells size es)) (hle : off + inf.size ≤ size) (hl : L.length = inf.size)
    (hc : ∀ i, i < inf.size → cells.get (off + i) = L[i]?) : loadO E t B (some (.pointer (some ⟨b, off, none⟩))) = some (.agg L.toArray) := by
  simp only [loadO, evLoad, ht, hi, rd, hb]
  rw [if_pos hle, getCells_of _ _ _ L hl hc]
theorem Var.loadA {E : Env} {t : TypeId} {inf : TypeInfo} {B : Tr Blk} {b : Nat} {L : List Value} (v : Var B b L) (ht : E.agg t = some true) (hi : E.i t = some inf) (hl : L.length = inf.size) : loadO E t B (some (.pointer (some ⟨b, 0, none⟩))) = some (.agg L.toArray) := by
  obtain ⟨c, e, h1, h2⟩ := v
  exact loadO_agg ht hi h1 (by omega) hl fun i hi' => by rw [Nat.zero_add]; exact h2 i (by omega)
theorem evLoad_loadO {E : Env} {h : H} {t : TypeId} {v : Value} : evLoad E h t v = loadO E t h.blks (some v) := by simp only [loadO, evLoad, rd]
theorem Var.iter {B : Tr Blk} {b : Nat} {l : List UInt8} {n w : Nat} (v : Var B b [strV l]) : iterStr ⟨B, n, w⟩ [.pointer (some ⟨b, 0, none⟩)] = some ⟨l.toArray⟩ := by
  have h := v.load (i := 0) (by simp)
  simp only [iterStr, rd_one, h]
  rfl
theorem Var.iter' {h : H} {b : Nat} {l : List UInt8} (v : Var h.blks b [strV l]) : iterStr h [.pointer (some ⟨b, 0, none⟩)] = some ⟨l.toArray⟩ := v.iter (n := h.next) (w := h.wm)

section
variable {P : Program} {E : Env} {n : Nat} {ops : List Oper} {q : Bool} {r tl : List Oper} {k : List Frm} {α : Tr Value} {h : H} {R : Rt} {d : Nat} {ty : TypeId} {pos : String} {af : Array Edge}
/-- a call that leaves memory as it is -/
theorem CallO_same {g : FuncId} {vs : List Value} {Q : Value → Prop} (hs : Spec P E g vs (st q h) fun v h' => Q v ∧ h' = st q h) (hd : d < n) (hk : ∀ v, Q v → At P E n ops q r tl k (Tr.put α d v) h R) :
    CallO P E n ops q r tl k α h R (some d) (some (.func (.func g) #[] #[])) (some vs) := CallO_of hs hd fun v h' ⟨_, hq, e⟩ => by
  subst e
  rw [fin_st]
  exact ⟨fun hq => st_wm hq, hk v hq⟩
/-- a store into a variable -/
theorem At_storeV [NoFz E] {t : TypeId} {x y : Operand} {inf : TypeInfo} {b : Nat} {L : List Value} {v : Value} (hi : E.i t = some inf) (hx : ev E h α x = some (.pointer (some ⟨b, 0, none⟩))) (hy : ev E h α y = some v)
    (hv : Var h.blks b L) (hl : v.cells.size = inf.size) (hL : L.length = inf.size) (hone : v.cells.toList.all oneB = true) (hG : E.G ≤ b)
    (hk : ∀ h', Sto h h' b 0 v.cells.toList → Var h'.blks b v.cells.toList → At P E n ops false r tl k α h' R) : At P E n ops false (⟨none, .store t x y, ty, pos, af, none⟩ :: r) tl k α h R := by
  obtain ⟨c, e, h1, h2⟩ := id hv
  exact At_store hi hx hy hl hone h1 (by omega) hG fun h' hs => hk h' hs (hs.var hv (by simp; omega))
end
theorem ev_boxed {E : Env} {h : H} {t : TypeId} {b : Nat} {v : Value} (ht : E.agg t = some false) (hv : Var h.blks b [v]) : evLoad E h t (.pointer (some ⟨b, 0, none⟩)) = some v := by
  rw [evLoad_loadO, loadO_one ht, hv.load (by simp)]
  rfl

/-- the program's threads: how many letters; which commute -/
def thrV (k : Int) (m : List Bool) : Value := .agg (Value.int .i64 k :: m.map Value.bool).toArray
def thrL (k : Int) (m : List Bool) : List Value := Value.int .i64 k :: m.map Value.bool
theorem thrV_cells {k : Int} {m : List Bool} : (thrV k m).cells.toList = thrL k m := rfl
theorem thrL_len {k : Int} {m : List Bool} : (thrL k m).length = m.length + 1 := by simp [thrL]
theorem thr_count {B : Tr Blk} {b : Nat} {k : Int} {m : List Bool} (v : Var B b (thrL k m)) : loadv B b 0 = some (.int .i64 k) := by
  rw [v.load (by simp [thrL])]; rfl
def mcomm (m : List Bool) (a b : Nat) : Bool := m.getD (a * 6 + b) false
theorem thr_cell {B : Tr Blk} {b : Nat} {k : Int} {m : List Bool} (v : Var B b (thrL k m)) (hm : m.length = 36) {x y : Nat} (hx : x < 6) (hy : y < 6) : loadv B b (1 + x * 6 + y) = some (.bool (mcomm m x y)) := by
  rw [v.load (by simp [thrL]; omega), show 1 + x * 6 + y = (x * 6 + y) + 1 by omega]
  simp only [thrL, List.getElem?_cons_succ, List.getElem?_map, mcomm]
  rw [List.getElem?_eq_getElem (show x * 6 + y < m.length by omega)]
  simp [List.getD, show x * 6 + y < m.length by omega]

/-- letters yields the letters of its string -/
theorem letters_spec {G : Nat} {l : List UInt8} {h : H} : Spec Tryz.prog (En G) 86 [strV l] h fun v h' => v = .func (.func 111) #[] #[.pointer (some ⟨h.next, 0, none⟩)] ∧ h'.next = h.next + 1 ∧ Var h'.blks h.next [strV l] := by
  refine CallsE_enter (En_known (by decide)) (En_f.trans Tryz.func86) rfl ⟨Nat.le_of_ble_eq_true rfl, by decide⟩ fun Q' hQ' => ?_
  simp only [Tryz.f86, WK_seq, WK_block, WK_cond, WK_skip, WK_label, WK_exit, WK_ret, WK_regionF, cont_seq, cont_seqE, cont_seqR, cont_block, cont_blockE, cont_blockR, cont_inv, cont_invE, cont_invR, cont_nil, cont_nilR, At_nilF, At_nilT, At_move, At_assign, At_pick, At_load, At_nilCheck, At_bin, At_un1, At_conv, At_field, At_fieldAddr, At_idxAddr, At_idx, At_extract, At_build, At_func, At_slice, At_len, At_min, At_max, At_guard, At_call, PutO_some, PutO_none, ev_tmp, ev_int, ev_bool, ev_str, ev_nils, ev_func, evs_nil, evs_consO, consO_some, evParts_nil, evParts_consO, consP_some, Tr.get_put, Tr.ofList_get, binO_add, binO_sub, binO_mul, binO_eql, binO_neq, binO_lss, binO_gtr, binO_leq, binO_geq, binO_rem, binO_quo, unO_not, unO_neg, pickO_true, pickO_false, extrO_tuple, mm_min, mm_max, Cond_true, Cond_false, Guard_true, Guard_false, Guard_tf, Guard_ft, guardV, nth, List.getElem?_cons_zero, List.getElem?_cons_succ, List.getElem?_nil, Option.getD_some, Option.getD_none, Nat.reduceEqDiff, reduceIte, List.toList_toArray, if_true, if_false, resultsA, RetO, Nat.reduceLT, decide_true, decide_false, Bool.not_true, Bool.not_false, List.drop_succ_cons, List.drop_zero, List.take_succ_cons, List.take_zero, List.getElem?_toArray, cont_round, cont_roundE, cont_roundR, str_mk, str_empty, len9, slcHi9, slcLo9, slcBoth9, eql_str, neq_str, conv5_3, Option.toList_some, Option.toList_none, Int.ofNat_eq_natCast, ev_cstr, ev_nilf, funcO_some, Guard_tup, Guard_und]
  refine At_box (v := strV l) (by simp only [WK_seq, WK_block, WK_cond, WK_skip, WK_label, WK_exit, WK_ret, WK_regionF, cont_seq, cont_seqE, cont_seqR, cont_block, cont_blockE, cont_blockR, cont_inv, cont_invE, cont_invR, cont_nil, cont_nilR, At_nilF, At_nilT, At_move, At_assign, At_pick, At_load, At_nilCheck, At_bin, At_un1, At_conv, At_field, At_fieldAddr, At_idxAddr, At_idx, At_extract, At_build, At_func, At_slice, At_len, At_min, At_max, At_guard, At_call, PutO_some, PutO_none, ev_tmp, ev_int, ev_bool, ev_str, ev_nils, ev_func, evs_nil, evs_consO, consO_some, evParts_nil, evParts_consO, consP_some, Tr.get_put, Tr.ofList_get, binO_add, binO_sub, binO_mul, binO_eql, binO_neq, binO_lss, binO_gtr, binO_leq, binO_geq, binO_rem, binO_quo, unO_not, unO_neg, pickO_true, pickO_false, extrO_tuple, mm_min, mm_max, Cond_true, Cond_false, Guard_true, Guard_false, Guard_tf, Guard_ft, guardV, nth, List.getElem?_cons_zero, List.getElem?_cons_succ, List.getElem?_nil, Option.getD_some, Option.getD_none, Nat.reduceEqDiff, reduceIte, List.toList_toArray, if_true, if_false, resultsA, RetO, Nat.reduceLT, decide_true, decide_false, Bool.not_true, Bool.not_false, List.drop_succ_cons, List.drop_zero, List.take_succ_cons, List.take_zero, List.getElem?_toArray, cont_round, cont_roundE, cont_roundR, str_mk, str_empty, len9, slcHi9, slcLo9, slcBoth9, eql_str, neq_str, conv5_3, Option.toList_some, Option.toList_none, Int.ofNat_eq_natCast, ev_cstr, ev_nilf, funcO_some, Guard_tup, Guard_und]) (by omega) fun h1 hn => ?_
  simp only [WK_seq, WK_block, WK_cond, WK_skip, WK_label, WK_exit, WK_ret, WK_regionF, cont_seq, cont_seqE, cont_seqR, cont_block, cont_blockE, cont_blockR, cont_inv, cont_invE, cont_invR, cont_nil, cont_nilR, At_nilF, At_nilT, At_move, At_assign, At_pick, At_load, At_nilCheck, At_bin, At_un1, At_conv, At_field, At_fieldAddr, At_idxAddr, At_idx, At_extract, At_build, At_func, At_slice, At_len, At_min, At_max, At_guard, At_call, PutO_some, PutO_none, ev_tmp, ev_int, ev_bool, ev_str, ev_nils, ev_func, evs_nil, evs_consO, consO_some, evParts_nil, evParts_consO, consP_some, Tr.get_put, Tr.ofList_get, binO_add, binO_sub, binO_mul, binO_eql, binO_neq, binO_lss, binO_gtr, binO_leq, binO_geq, binO_rem, binO_quo, unO_not, unO_neg, pickO_true, pickO_false, extrO_tuple, mm_min, mm_max, Cond_true, Cond_false, Guard_true, Guard_false, Guard_tf, Guard_ft, guardV, nth, List.getElem?_cons_zero, List.getElem?_cons_succ, List.getElem?_nil, Option.getD_some, Option.getD_none, Nat.reduceEqDiff, reduceIte, List.toList_toArray, if_true, if_false, resultsA, RetO, Nat.reduceLT, decide_true, decide_false, Bool.not_true, Bool.not_false, List.drop_succ_cons, List.drop_zero, List.take_succ_cons, List.take_zero, List.getElem?_toArray, cont_round, cont_roundE, cont_roundR, str_mk, str_empty, len9, slcHi9, slcLo9, slcBoth9, eql_str, neq_str, conv5_3, Option.toList_some, Option.toList_none, Int.ofNat_eq_natCast, ev_cstr, ev_nilf, funcO_some, Guard_tup, Guard_und]
  exact hQ' _ _ ⟨hn.pres (Nat.le_refl _), rfl, hn.next, hn.var⟩

theorem without_spec {G : Nat} {l : List UInt8} {z : Nat} {h : H} (hz : z < l.length) (hl : l.length < 4611686018427387904) : Spec Tryz.prog (En G) 90 [strV l, .int .i64 z] h fun v h' => v = strV (l.take z ++ l.drop (z + 1)) ∧ h' = h := by
  refine CallsE_enter (En_known (by decide)) (En_f.trans Tryz.func90) rfl ⟨Nat.le_of_ble_eq_true rfl, by decide⟩ fun Q' hQ' => ?_
  simp only [Tryz.f90, WK_seq, WK_block, WK_cond, WK_skip, WK_label, WK_exit, WK_ret, WK_regionF, cont_seq, cont_seqE, cont_seqR, cont_block, cont_blockE, cont_blockR, cont_inv, cont_invE, cont_invR, cont_nil, cont_nilR, At_nilF, At_nilT, At_move, At_assign, At_pick, At_load, At_nilCheck, At_bin, At_un1, At_conv, At_field, At_fieldAddr, At_idxAddr, At_idx, At_extract, At_build, At_func, At_slice, At_len, At_min, At_max, At_guard, At_call, PutO_some, PutO_none, ev_tmp, ev_int, ev_bool, ev_str, ev_nils, ev_func, evs_nil, evs_consO, consO_some, evParts_nil, evParts_consO, consP_some, Tr.get_put, Tr.ofList_get, binO_add, binO_sub, binO_mul, binO_eql, binO_neq, binO_lss, binO_gtr, binO_leq, binO_geq, binO_rem, binO_quo, unO_not, unO_neg, pickO_true, pickO_false, extrO_tuple, mm_min, mm_max, Cond_true, Cond_false, Guard_true, Guard_false, Guard_tf, Guard_ft, guardV, nth, List.getElem?_cons_zero, List.getElem?_cons_succ, List.getElem?_nil, Option.getD_some, Option.getD_none, Nat.reduceEqDiff, reduceIte, List.toList_toArray, if_true, if_false, resultsA, RetO, Nat.reduceLT, decide_true, decide_false, Bool.not_true, Bool.not_false, List.drop_succ_cons, List.drop_zero, List.take_succ_cons, List.take_zero, List.getElem?_toArray, cont_round, cont_roundE, cont_roundR, str_mk, str_empty, len9, slcHi9, slcLo9, slcBoth9, eql_str, neq_str, conv5_3, Option.toList_some, Option.toList_none, Int.ofNat_eq_natCast, ev_cstr, ev_nilf, funcO_some, Guard_tup, Guard_und]
  refine WK_regionT 7 ⟨by kernel_rfl, by kernel_rfl, by kernel_rfl⟩ ?_
  have e1 : ((z : Int) + 1).toNat = z + 1 := by omega
  have ha : ∀ {t : TypeId}, binO Tryz.prog (En G) .add t (some (strV (l.take z))) (some (strV (l.drop (z + 1)))) = some (strV (l.take z ++ l.drop (z + 1))) := add_str (by simp; omega)
  simp (disch := omega) only [WK_seq, WK_block, WK_cond, WK_skip, WK_label, WK_exit, WK_ret, WK_regionF, cont_seq, cont_seqE, cont_seqR, cont_block, cont_blockE, cont_blockR, cont_inv, cont_invE, cont_invR, cont_nil, cont_nilR, At_nilF, At_nilT, At_move, At_assign, At_pick, At_load, At_nilCheck, At_bin, At_un1, At_conv, At_field, At_fieldAddr, At_idxAddr, At_idx, At_extract, At_build, At_func, At_slice, At_len, At_min, At_max, At_guard, At_call, PutO_some, PutO_none, ev_tmp, ev_int, ev_bool, ev_str, ev_nils, ev_func, evs_nil, evs_consO, consO_some, evParts_nil, evParts_consO, consP_some, Tr.get_put, Tr.ofList_get, binO_add, binO_sub, binO_mul, binO_eql, binO_neq, binO_lss, binO_gtr, binO_leq, binO_geq, binO_rem, binO_quo, unO_not, unO_neg, pickO_true, pickO_false, extrO_tuple, mm_min, mm_max, Cond_true, Cond_false, Guard_true, Guard_false, Guard_tf, Guard_ft, guardV, nth, List.getElem?_cons_zero, List.getElem?_cons_succ, List.getElem?_nil, Option.getD_some, Option.getD_none, Nat.reduceEqDiff, reduceIte, List.toList_toArray, if_true, if_false, resultsA, RetO, Nat.reduceLT, decide_true, decide_false, Bool.not_true, Bool.not_false, List.drop_succ_cons, List.drop_zero, List.take_succ_cons, List.take_zero, List.getElem?_toArray, cont_round, cont_roundE, cont_roundR, str_mk, str_empty, len9, slcHi9, slcLo9, slcBoth9, eql_str, neq_str, conv5_3, Option.toList_some, Option.toList_none, Int.ofNat_eq_natCast, ev_cstr, ev_nilf, funcO_some, Guard_tup, Guard_und, wrap_i64, Int.toNat_natCast, e1, ha]
  exact hQ' _ _ ⟨Pres.refl _ _, rfl, rfl⟩
end
end Go.Proofs.YthankillfhmfkaaGreatDoor.Ev


