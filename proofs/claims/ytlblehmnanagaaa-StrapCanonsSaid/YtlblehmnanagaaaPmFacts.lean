/- Facts of the program's types, for symbolic runs. By program. -/
import Derived.Test.YtlblehmnanagaaaProg
import Derived.Test.YtlblehmnanagaaaPmSS
import Derived.Test.YtlblehmnanagaaaPmTabs
import Derived.Test.YtlblehmnanagaaaPmSo
import Derived.KernelRfl
set_option linter.unusedSimpArgs false
namespace Go.Proofs.Ytlblehmnanagaaa.Ev
open Go Go.Proofs
noncomputable section

/-- the program's types and functions; so many blocks are only read -/
noncomputable def orcs : Tr (List Value → H → Option Value) := Tr.put (Tr.e) 60 gSortI
noncomputable def En (G : Nat) : Env := withOrc (withKnown (envOf Try.prog 108 0 G) (Tr.put .e 13 (.bool true)) tabs) orcs
theorem En_u {G t : Nat} : (En G).u t = (envOf Try.prog 108 0 G).u t := withOrc_u.trans withKnown_u
theorem En_i {G t : Nat} : (En G).i t = (envOf Try.prog 108 0 G).i t := withOrc_i.trans withKnown_i
theorem En_G {G : Nat} : (En G).G = G := withOrc_G.trans withKnown_G
instance {G : Nat} : NoFz (En G) := ⟨withOrc_fzl.trans (withKnown_fzl.trans envOf_fzl)⟩
theorem En_kn {G f : Nat} (h : f ≠ 13) : (En G).known.get f = none := by
  have e : (En G).known = Tr.put Tr.e 13 (Value.bool true) := withOrc_known.trans withKnown_known
  rw [e, Tr.get_put, if_neg h]
  rfl
theorem En_orc {G : Nat} : (En G).orc = orcs := withOrc_orc
theorem En_known {G f : Nat} (h : f ≠ 13 ∧ f ≠ 60) : (En G).known.get f = none ∧ (En G).orc.get f = none := by
  refine ⟨En_kn h.1, ?_⟩
  rw [En_orc]
  unfold orcs
  try obtain ⟨_, h⟩ := h
  simp only [Tr.get_put, Tr.get_e, h, if_false]
theorem En_lives {G : Nat} : (En G).known.get 13 = some (.bool true) := by
  have e : (En G).known = Tr.put Tr.e 13 (Value.bool true) := withOrc_known.trans withKnown_known
  rw [e, Tr.get_put, if_pos rfl]


theorem mixed : Try.prog.follows .mixedOrders = true := by kernel_rfl
theorem En_f {G : Nat} {f : FuncId} : (En G).fns.get f = Try.prog.funcs[f]? := by
  have : (En G).fns = (envOf Try.prog 108 0 G).fns := withOrc_f.trans withKnown_f
  rw [this]; exact envOf_f

theorem u2 {G : Nat} : (En G).u 2 = some (.int .i64) := En_u.trans <| (envOf_u (by decide)).trans Try.underlying2
noncomputable def inf2 : TypeInfo := (Try.prog.info? 2).getD default
theorem i2 {G : Nat} : (En G).i 2 = some inf2 := En_i.trans <| (envOf_i (by decide)).trans (by kernel_rfl)
theorem u3 {G : Nat} : (En G).u 3 = some (.int .i64) := En_u.trans <| (envOf_u (by decide)).trans Try.underlying3
theorem agg3 {G : Nat} : (En G).agg 3 = some false := by unfold Env.agg; rw [u3]
theorem load3 {G : Nat} {B : Tr Blk} {b off : Nat} : loadO (En G) 3 B (some (.pointer (some ⟨b, off, none⟩))) = loadv B b off := loadO_one agg3
noncomputable def inf3 : TypeInfo := (Try.prog.info? 3).getD default
theorem i3 {G : Nat} : (En G).i 3 = some inf3 := En_i.trans <| (envOf_i (by decide)).trans (by kernel_rfl)
theorem size3 : inf3.size = 1 := by kernel_rfl
theorem bytes3 : inf3.bytes = 8 := by kernel_rfl
theorem zero3 : inf3.zero = some (.int .i64 0) := by kernel_rfl
theorem u4 {G : Nat} : (En G).u 4 = some (.bool) := En_u.trans <| (envOf_u (by decide)).trans Try.underlying4
theorem agg4 {G : Nat} : (En G).agg 4 = some false := by unfold Env.agg; rw [u4]
theorem load4 {G : Nat} {B : Tr Blk} {b off : Nat} : loadO (En G) 4 B (some (.pointer (some ⟨b, off, none⟩))) = loadv B b off := loadO_one agg4
noncomputable def inf4 : TypeInfo := (Try.prog.info? 4).getD default
theorem i4 {G : Nat} : (En G).i 4 = some inf4 := En_i.trans <| (envOf_i (by decide)).trans (by kernel_rfl)
theorem size4 : inf4.size = 1 := by kernel_rfl
theorem bytes4 : inf4.bytes = 1 := by kernel_rfl
theorem zero4 : inf4.zero = some (.bool false) := by kernel_rfl
theorem u5 {G : Nat} : (En G).u 5 = some (.int .u8) := En_u.trans <| (envOf_u (by decide)).trans Try.underlying5
theorem agg5 {G : Nat} : (En G).agg 5 = some false := by unfold Env.agg; rw [u5]
theorem load5 {G : Nat} {B : Tr Blk} {b off : Nat} : loadO (En G) 5 B (some (.pointer (some ⟨b, off, none⟩))) = loadv B b off := loadO_one agg5
noncomputable def inf5 : TypeInfo := (Try.prog.info? 5).getD default
theorem i5 {G : Nat} : (En G).i 5 = some inf5 := En_i.trans <| (envOf_i (by decide)).trans (by kernel_rfl)
theorem size5 : inf5.size = 1 := by kernel_rfl
noncomputable def inf8 : TypeInfo := (Try.prog.info? 8).getD default
theorem i8 {G : Nat} : (En G).i 8 = some inf8 := En_i.trans <| (envOf_i (by decide)).trans (by kernel_rfl)
theorem u9 {G : Nat} : (En G).u 9 = some (.string) := En_u.trans <| (envOf_u (by decide)).trans Try.underlying9
theorem u16 {G : Nat} : (En G).u 16 = some (.pointer 97) := En_u.trans <| (envOf_u (by decide)).trans Try.underlying16
noncomputable def inf16 : TypeInfo := (Try.prog.info? 16).getD default
theorem i16 {G : Nat} : (En G).i 16 = some inf16 := En_i.trans <| (envOf_i (by decide)).trans (by kernel_rfl)
theorem u23 {G : Nat} : (En G).u 23 = some (.slice 3) := En_u.trans <| (envOf_u (by decide)).trans Try.underlying23
theorem agg23 {G : Nat} : (En G).agg 23 = some false := by unfold Env.agg; rw [u23]
theorem load23 {G : Nat} {B : Tr Blk} {b off : Nat} : loadO (En G) 23 B (some (.pointer (some ⟨b, off, none⟩))) = loadv B b off := loadO_one agg23
noncomputable def inf23 : TypeInfo := (Try.prog.info? 23).getD default
theorem i23 {G : Nat} : (En G).i 23 = some inf23 := En_i.trans <| (envOf_i (by decide)).trans (by kernel_rfl)
theorem size23 : inf23.size = 1 := by kernel_rfl
theorem len23 {G n c : Nat} {A : Option Addr} {B : Tr Blk} : lenO (En G) B 23 (some (.slice A n c)) = some (.int .i64 n) := lenO_slice u23
noncomputable def inf52 : TypeInfo := (Try.prog.info? 52).getD default
theorem i52 {G : Nat} : (En G).i 52 = some inf52 := En_i.trans <| (envOf_i (by decide)).trans (by kernel_rfl)
theorem size52 : inf52.size = 2 := by kernel_rfl
theorem u58 {G : Nat} : (En G).u 58 = some (.slice 4) := En_u.trans <| (envOf_u (by decide)).trans Try.underlying58
theorem u43 {G : Nat} : (En G).u 43 = some (.array 2 5) := En_u.trans <| (envOf_u (by decide)).trans Try.underlying43
theorem us52 {G : Nat} : (En G).u 52 = Try.prog.underlying 52 := En_u.trans <| envOf_u (by decide)
theorem agg52 {G : Nat} : (En G).agg 52 = some true := by unfold Env.agg; rw [us52, Try.underlying52]
theorem idxA23 {G b off n c : Nat} {kd : IntKind} {z : Int} (h0 : 0 ≤ z) (h1 : z < n) : idxAddrO (En G) 23 (some (.slice (some ⟨b, off, none⟩) n c)) (some (.int kd z)) = some (.pointer (some ⟨b, off + z.toNat * 1, none⟩)) := by
  rw [idxAddrO_slice u23 i3 h0 h1, size3]
theorem idxA58 {G b off n c : Nat} {kd : IntKind} {z : Int} (h0 : 0 ≤ z) (h1 : z < n) : idxAddrO (En G) 58 (some (.slice (some ⟨b, off, none⟩) n c)) (some (.int kd z)) = some (.pointer (some ⟨b, off + z.toNat * 1, none⟩)) := by
  rw [idxAddrO_slice u58 i4 h0 h1, size4]
theorem idxP43 {G b off : Nat} {kd : IntKind} {z : Int} (h0 : 0 ≤ z) (h1 : z < 2) : idxAddrO (En G) 43 (some (.pointer (some ⟨b, off, none⟩))) (some (.int kd z)) = some (.pointer (some ⟨b, off + z.toNat * 1, none⟩)) := by
  simp only [idxAddrO, evIndexAddr, u43, idx_ok (n := 2) h0 (by omega), i5, forceN_eq, size5]
theorem fld52_0 {G b off : Nat} : fieldAddrO (En G) 52 0 (some (.pointer (some ⟨b, off, none⟩))) = some (.pointer (some ⟨b, off + 0, none⟩)) := by
  simp only [fieldAddrO, evFieldAddr, us52, Try.underlying52, List.getElem?_toArray, List.getElem?_cons_zero, List.getElem?_cons_succ, i3, size3, forceN_eq]
  rfl
theorem fld52_1 {G b off : Nat} : fieldAddrO (En G) 52 1 (some (.pointer (some ⟨b, off, none⟩))) = some (.pointer (some ⟨b, off + 1, none⟩)) := by
  simp only [fieldAddrO, evFieldAddr, us52, Try.underlying52, List.getElem?_toArray, List.getElem?_cons_zero, List.getElem?_cons_succ, i23, size23, forceN_eq]
  rfl
end
end Go.Proofs.Ytlblehmnanagaaa.Ev

