/- Facts of strings and of variables, at this seat's types. -/
import Derived.Test.YtngpoamjhngcgaaGreatDoorPmeFacts
import Derived.Test.YtngpoamjhngcgaaGreatDoorPmStr
set_option linter.unusedSimpArgs false
namespace Go.Proofs.YtngpoamjhngcgaaGreatDoor.Ev
open Go Go.Proofs
noncomputable section

theorem str_mk {a : Array UInt8} : Value.string ⟨a⟩ = strV a.toList := rfl
theorem str_empty : Value.string .empty = strV [] := rfl
theorem ev_cstr {E : Env} {h : H} {α : Tr Value} {l : List UInt8} : ev E h α (.const (strV l)) = some (strV l) := rfl
theorem ev_nilf {E : Env} {h : H} {α : Tr Value} : ev E h α (.const .nilFunc) = some .nilFunc := rfl
theorem funcO_some {fn : Fn} {f c : List Value} : funcO fn (some f) (some c) = some (.func fn f.toArray c.toArray) := rfl
theorem len9 {G : Nat} {l : List UInt8} {B : Tr Blk} : lenO (En G) B 9 (some (strV l)) = some (.int .i64 l.length) := lenO_str u9
theorem slcHi9 {G : Nat} {B : Tr Blk} {l : List UInt8} {kd : IntKind} {z : Int} (h0 : 0 ≤ z) (h1 : z ≤ l.length) : sliceO (En G) 9 B (some (strV l)) (some []) (some [.int kd z]) = some (strV (l.take z.toNat)) := slice_hi u9 h0 h1
theorem slcLo9 {G : Nat} {B : Tr Blk} {l : List UInt8} {kd : IntKind} {z : Int} (h0 : 0 ≤ z) (h1 : z ≤ l.length) : sliceO (En G) 9 B (some (strV l)) (some [.int kd z]) (some []) = some (strV (l.drop z.toNat)) := slice_lo u9 h0 h1
theorem slcBoth9 {G : Nat} {B : Tr Blk} {l : List UInt8} {k1 k2 : IntKind} {y z : Int} (h0 : 0 ≤ y) (h2 : y ≤ z) (h1 : z ≤ l.length) : sliceO (En G) 9 B (some (strV l)) (some [.int k1 y]) (some [.int k2 z]) = some (strV ((l.take z.toNat).drop y.toNat)) := slice_both u9 h0 h2 h1
theorem conv5_3 {P : Program} {G : Nat} {B : Tr Blk} {c : UInt8} : convO P (En G) B 5 3 (some (.int .u8 (c.toNat : Int))) = some (.int .i64 c.toNat) := by
  have := UInt8.toNat_lt c
  rw [convO_int u5 u3, wrap_i64 (by omega) (by omega)]

/-- a variable's cells -/
def Var (B : Tr Blk) (b : Nat) (L : List Value) : Prop := ∃ cells es, B.get b = some (.mk cells L.length es) ∧ ∀ i, i < L.length → cells.get i = L[i]?
theorem New.var {h h' : H} {cells : List Value} {es : Nat} (a : New h h' cells es) : Var h'.blks h.next cells :=
  ⟨Tr.ofList cells, es, by rw [a.get, if_pos rfl], fun i _ => Tr.ofList_get _ _⟩
theorem Var.mono {B B' : Tr Blk} {b : Nat} {L : List Value} (v : Var B b L) (hb : B'.get b = B.get b) : Var B' b L := by
  obtain ⟨c, e, h1, h2⟩ := v
  exact ⟨c, e, hb.trans h1, h2⟩
theorem Sto.var {h h' : H} {b : Nat} {vs L : List Value} (a : Sto h h' b 0 vs) (v : Var h.blks b L) (hl : vs.length = L.length) : Var h'.blks b vs := by
  obtain ⟨c, e, h1, h2⟩ := v
  refine ⟨_, e, by rw [a.at_ _ _ _ h1, hl], fun i hi => ?_⟩
  rw [setCells_get, if_pos (by omega), Nat.sub_zero]
theorem Var.load {B : Tr Blk} {b i : Nat} {L : List Value} (v : Var B b L) (hi : i < L.length) : loadv B b i = L[i]? := by
  obtain ⟨c, e, h1, h2⟩ := v
  simp only [loadv, h1]
  rw [if_pos (by omega)]
  exact h2 i hi
section
variable {P : Program} {E : Env} {n : Nat} {ops : List Oper} {q : Bool} {r tl : List Oper} {k : List Frm} {α : Tr Value} {h : H} {R : Rt} {d : Nat} {ty : TypeId} {pos : String} {af : Array Edge}
theorem CallO_any {g : FuncId} {vs : List Value} {Q : Value → H → Prop} (hs : CallsE P E g vs h Q) (hd : d < n) (hk : ∀ v h', Q v h' → At P E n ops false r tl k (Tr.put α d v) h' R) :
    CallO P E n ops false r tl k α h R (some d) (some (.func (.func g) #[] #[])) (some vs) := CallO_of hs hd fun v h' hq => ⟨fun e => (by cases e), hk v h' hq⟩
/-- a call that leaves memory as it is -/
theorem CallO_same {g : FuncId} {vs : List Value} {Q : Value → Prop} (hs : Spec P E g vs (st q h) fun v h' => Q v ∧ h' = st q h) (hd : d < n) (hk : ∀ v, Q v → At P E n ops q r tl k (Tr.put α d v) h R) :
    CallO P E n ops q r tl k α h R (some d) (some (.func (.func g) #[] #[])) (some vs) := CallO_of hs hd fun v h' ⟨_, hq, e⟩ => by
  subst e
  rw [fin_st]
  exact ⟨fun hq => st_wm hq, hk v hq⟩
/-- a store into a variable -/
theorem At_storeV [NoFz E] {t : TypeId} {x y : Operand} {inf : TypeInfo} {b : Nat} {L : List Value} {v : Value} (hi : E.i t = some inf) (hx : ev E h α x = some (.pointer (some ⟨b, 0, none⟩))) (hy : ev E h α y = some v)
    (hv : Var h.blks b L) (hl : v.cells.size = inf.size) (hL : L.length = inf.size) (hone : v.cells.toList.all oneB = true) (hG : E.G ≤ b)
    (hk : ∀ h', Sto h h' b 0 v.cells.toList → Var h'.blks b v.cells.toList → At P E n ops false r tl k α h' R) : At P E n ops false (⟨none, .store t x y, ty, pos, af, none⟩ :: r) tl k α h R := by
  obtain ⟨c, e, h1, h2⟩ := id hv
  exact At_store hi hx hy hl hone h1 (by omega) hG fun h' hs => hk h' hs (hs.var hv (by simp; omega))
end
end
end Go.Proofs.YtngpoamjhngcgaaGreatDoor.Ev

