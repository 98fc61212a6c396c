/- Facts of strings and of variables, at this seat's types. -/
import Derived.Test.YtnhbkoeomefkdaaDoorPmhFacts
import Derived.Test.YtnhbkoeomefkdaaDoorPmStr
set_option linter.unusedSimpArgs false
namespace Go.Proofs.YtnhbkoeomefkdaaDoor.Ev
open Go Go.Proofs
noncomputable section

theorem str_mk {a : Array UInt8} : Value.string ⟨a⟩ = strV a.toList := rfl
theorem str_empty : Value.string .empty = strV [] := rfl
theorem ev_cstr {E : Env} {h : H} {α : Tr Value} {l : List UInt8} : ev E h α (.const (strV l)) = some (strV l) := rfl
theorem ev_nilf {E : Env} {h : H} {α : Tr Value} : ev E h α (.const .nilFunc) = some .nilFunc := rfl
theorem funcO_some {fn : Fn} {f c : List Value} : funcO fn (some f) (some c) = some (.func fn f.toArray c.toArray) := rfl
theorem len9 {G : Nat} {l : List UInt8} {B : Tr Blk} : lenO (En G) B 9 (some (strV l)) = some (.int .i64 l.length) := lenO_str u9
theorem slcHi9 {G : Nat} {B : Tr Blk} {l : List UInt8} {kd : IntKind} {z : Int} (h0 : 0 ≤ z) (h1 : z ≤ l.length) : sliceO (En G) 9 B (some (strV l)) (some []) (some [.int kd z]) = some (strV (l.take z.toNat)) := slice_hi u9 h0 h1
theorem slcLo9 {G : Nat} {B : Tr Blk} {l : List UInt8} {kd : IntKind} {z : Int} (h0 : 0 ≤ z) (h1 : z ≤ l.length) : sliceO (En G) 9 B (some (strV l)) (some [.int kd z]) (some []) = some (strV (l.drop z.toNat)) := slice_lo u9 h0 h1
theorem slcBoth9 {G : Nat} {B : Tr Blk} {l : List UInt8} {k1 k2 : IntKind} {y z : Int} (h0 : 0 ≤ y) (h2 : y ≤ z) (h1 : z ≤ l.length) : sliceO (En G) 9 B (some (strV l)) (some [.int k1 y]) (some [.int k2 z]) = some (strV ((l.take z.toNat).drop y.toNat)) := slice_both u9 h0 h2 h1
theorem conv5_3 {P : Program} {G : Nat} {B : Tr Blk} {c : UInt8} : convO P (En G) B 5 3 (some (.int .u8 (c.toNat : Int))) = some (.int .i64 c.toNat) := by
  have := UInt8.toNat_lt c
  rw [convO_int u5 u3, wrap_i64 (by omega) (by omega)]

/-- a variable's cells -/
def Var (B : Tr Blk) (b : Nat) (L : List Value) : Prop := ∃ cells es, B.get b = some (.mk cells L.length es) ∧ ∀ i, i < L.length → cells.get i = L[i]?
theorem New.var {h h' : H} {cells : List Value} {es : Nat} (a : New h h' cells es) : Var h'.blks h.next cells :=
  ⟨Tr.ofList cells, es, by rw [a.get, if_pos rfl], fun i _ => Tr.ofList_get _ _⟩
theorem Var.mono {B B' : Tr Blk} {b : Nat} {L : List Value} (v : Var B b L) (hb : B'.get b = B.get b) : Var B' b L := by
  obtain ⟨c, e, h1, h2⟩ := v
  exact ⟨c, e, hb.trans h1, h2⟩
theorem Sto.var {h h' : H} {b : Nat} {vs L : List Value} (a : Sto h h' b 0 vs) (v : Var h.blks b L) (hl : vs.length = L.length) : Var h'.blks b vs := by
  obtain ⟨c, e, h1, h2⟩ := v
  refine ⟨_, e, by rw [a.at_ _ _ _ h1, hl], fun i hi => ?_⟩
  rw [setCells_get, if_pos (by omega), Nat.sub_zero]
/-- a part of a variable is written -/
theorem Sto.varAt {h h' : H} {b off : Nat} {vs L : List Value} (a : Sto h h' b off vs) (v : Var h.blks b L) (hl : off + vs.length ≤ L.length) : Var h'.blks b (L.take off ++ vs ++ L.drop (off + vs.length)) := by
  obtain ⟨c, e, h1, h2⟩ := v
  have hlen : (L.take off ++ vs ++ L.drop (off + vs.length)).length = L.length := by simp; omega
  refine ⟨_, e, by rw [a.at_ _ _ _ h1, hlen], fun i hi => ?_⟩
  rw [hlen] at hi
  rw [setCells_get]
  have hlt : (L.take off ++ vs).length = off + vs.length := by simp; omega
  by_cases h3 : off ≤ i ∧ i < off + vs.length
  · rw [if_pos h3, List.getElem?_append_left (by omega), List.getElem?_append_right (by simp; omega)]
    congr 1
    simp; omega
  · rw [if_neg h3, h2 i hi]
    by_cases h4 : i < off
    · rw [List.getElem?_append_left (by omega), List.getElem?_append_left (by simp; omega), List.getElem?_take, if_pos h4]
    · rw [List.getElem?_append_right (by omega), List.getElem?_drop, hlt]
      congr 1
      omega
theorem Var.load {B : Tr Blk} {b i : Nat} {L : List Value} (v : Var B b L) (hi : i < L.length) : loadv B b i = L[i]? := by
  obtain ⟨c, e, h1, h2⟩ := v
  simp only [loadv, h1]
  rw [if_pos (by omega)]
  exact h2 i hi
theorem loadO_agg {E : Env} {t : TypeId} {inf : TypeInfo} {B : Tr Blk} {b off : Nat} {L : List Value} {cells : Tr Value} {size es : Nat} (ht : E.agg t = some true) (hi : E.i t = some inf) (hb : B.get b = some (.mk cells size es)) (hle : off + inf.size ≤ size) (hl : L.length = inf.size)
    (hc : ∀ i, i < inf.size → cells.get (off + i) = L[i]?) : loadO E t B (some (.pointer (some ⟨b, off, none⟩))) = some (.agg L.toArray) := by
  simp only [loadO, evLoad, ht, hi, rd, hb]
  rw [if_pos hle, getCells_of _ _ _ L hl hc]
theorem Var.loadA {E : Env} {t : TypeId} {inf : TypeInfo} {B : Tr Blk} {b : Nat} {L : List Value} (v : Var B b L) (ht : E.agg t = some true) (hi : E.i t = some inf) (hl : L.length = inf.size) : loadO E t B (some (.pointer (some ⟨b, 0, none⟩))) = some (.agg L.toArray) := by
  obtain ⟨c, e, h1, h2⟩ := v
  exact loadO_agg ht hi h1 (by omega) hl fun i hi' => by rw [Nat.zero_add]; exact h2 i (by omega)
theorem evLoad_loadO {E : Env} {h : H} {t : TypeId} {v : Value} : evLoad E h t v = loadO E t h.blks (some v) := by simp only [loadO, evLoad, rd]
section
variable {P : Program} {E : Env} {n : Nat} {ops : List Oper} {q : Bool} {r tl : List Oper} {k : List Frm} {α : Tr Value} {h : H} {R : Rt} {d : Nat} {ty : TypeId} {pos : String} {af : Array Edge}
theorem CallO_any {g : FuncId} {vs : List Value} {Q : Value → H → Prop} (hs : CallsE P E g vs h Q) (hd : d < n) (hk : ∀ v h', Q v h' → At P E n ops false r tl k (Tr.put α d v) h' R) :
    CallO P E n ops false r tl k α h R (some d) (some (.func (.func g) #[] #[])) (some vs) := CallO_of hs hd fun v h' hq => ⟨fun e => (by cases e), hk v h' hq⟩
/-- a call that leaves memory as it is -/
theorem CallO_same {g : FuncId} {vs : List Value} {Q : Value → Prop} (hs : Spec P E g vs (st q h) fun v h' => Q v ∧ h' = st q h) (hd : d < n) (hk : ∀ v, Q v → At P E n ops q r tl k (Tr.put α d v) h R) :
    CallO P E n ops q r tl k α h R (some d) (some (.func (.func g) #[] #[])) (some vs) := CallO_of hs hd fun v h' ⟨_, hq, e⟩ => by
  subst e
  rw [fin_st]
  exact ⟨fun hq => st_wm hq, hk v hq⟩
/-- a store into a variable -/
theorem At_storeV [NoFz E] {t : TypeId} {x y : Operand} {inf : TypeInfo} {b : Nat} {L : List Value} {v : Value} (hi : E.i t = some inf) (hx : ev E h α x = some (.pointer (some ⟨b, 0, none⟩))) (hy : ev E h α y = some v)
    (hv : Var h.blks b L) (hl : v.cells.size = inf.size) (hL : L.length = inf.size) (hone : v.cells.toList.all oneB = true) (hG : E.G ≤ b)
    (hk : ∀ h', Sto h h' b 0 v.cells.toList → Var h'.blks b v.cells.toList → At P E n ops false r tl k α h' R) : At P E n ops false (⟨none, .store t x y, ty, pos, af, none⟩ :: r) tl k α h R := by
  obtain ⟨c, e, h1, h2⟩ := id hv
  exact At_store hi hx hy hl hone h1 (by omega) hG fun h' hs => hk h' hs (hs.var hv (by simp; omega))
end
end
end Go.Proofs.YtnhbkoeomefkdaaDoor.Ev

