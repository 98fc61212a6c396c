/- Facts of the program's types, for symbolic runs. By program. -/
import Derived.Test.YtoeblkenmjbfiaaDoorProg
import Derived.Test.YtoeblkenmjbfiaaDoorPmSS
import Derived.Test.YtoeblkenmjbfiaaDoorPmoTabs
import Derived.Test.YtoeblkenmjbfiaaDoorPmSo
import Derived.KernelRfl
set_option linter.unusedSimpArgs false
namespace Go.Proofs.YtoeblkenmjbfiaaDoor.Ev
open Go Go.Proofs
noncomputable section

/-- the program's types and functions; so many blocks are only read -/
noncomputable def orcs : Tr (List Value → H → Option Value) := Tr.put (Tr.e) 42 gSortI
noncomputable def En (G : Nat) : Env := withOrc (withKnown (envOf Tryd.prog 106 1 G) (Tr.put .e 9 (.bool true)) tabs) orcs
theorem En_u {G t : Nat} : (En G).u t = (envOf Tryd.prog 106 1 G).u t := withOrc_u.trans withKnown_u
theorem En_i {G t : Nat} : (En G).i t = (envOf Tryd.prog 106 1 G).i t := withOrc_i.trans withKnown_i
theorem En_G {G : Nat} : (En G).G = G := withOrc_G.trans withKnown_G
instance {G : Nat} : NoFz (En G) := ⟨withOrc_fzl.trans (withKnown_fzl.trans envOf_fzl)⟩
theorem En_kn {G f : Nat} (h : f ≠ 9) : (En G).known.get f = none := by
  have e : (En G).known = Tr.put Tr.e 9 (Value.bool true) := withOrc_known.trans withKnown_known
  rw [e, Tr.get_put, if_neg h]
  rfl
theorem En_orc {G : Nat} : (En G).orc = orcs := withOrc_orc
theorem En_known {G f : Nat} (h : f ≠ 9 ∧ f ≠ 42) : (En G).known.get f = none ∧ (En G).orc.get f = none := by
  refine ⟨En_kn h.1, ?_⟩
  rw [En_orc]
  unfold orcs
  try obtain ⟨_, h⟩ := h
  simp only [Tr.get_put, Tr.get_e, h, if_false]
theorem En_lives {G : Nat} : (En G).known.get 9 = some (.bool true) := by
  have e : (En G).known = Tr.put Tr.e 9 (Value.bool true) := withOrc_known.trans withKnown_known
  rw [e, Tr.get_put, if_pos rfl]


theorem mixed : Tryd.prog.follows .mixedOrders = true := by kernel_rfl
theorem En_f {G : Nat} {f : FuncId} : (En G).fns.get f = Tryd.prog.funcs[f]? := by
  have : (En G).fns = (envOf Tryd.prog 106 1 G).fns := withOrc_f.trans withKnown_f
  rw [this]; exact envOf_f

theorem u2 {G : Nat} : (En G).u 2 = some (.int .i64) := En_u.trans <| (envOf_u (by decide)).trans Tryd.underlying2
noncomputable def inf2 : TypeInfo := (Tryd.prog.info? 2).getD default
theorem i2 {G : Nat} : (En G).i 2 = some inf2 := En_i.trans <| (envOf_i (by decide)).trans (by kernel_rfl)
theorem u3 {G : Nat} : (En G).u 3 = some (.int .i64) := En_u.trans <| (envOf_u (by decide)).trans Tryd.underlying3
theorem agg3 {G : Nat} : (En G).agg 3 = some false := by unfold Env.agg; rw [u3]
theorem load3 {G : Nat} {B : Tr Blk} {b off : Nat} : loadO (En G) 3 B (some (.pointer (some ⟨b, off, none⟩))) = loadv B b off := loadO_one agg3
noncomputable def inf3 : TypeInfo := (Tryd.prog.info? 3).getD default
theorem i3 {G : Nat} : (En G).i 3 = some inf3 := En_i.trans <| (envOf_i (by decide)).trans (by kernel_rfl)
theorem size3 : inf3.size = 1 := by kernel_rfl
theorem bytes3 : inf3.bytes = 8 := by kernel_rfl
theorem zero3 : inf3.zero = some (.int .i64 0) := by kernel_rfl
theorem u4 {G : Nat} : (En G).u 4 = some (.bool) := En_u.trans <| (envOf_u (by decide)).trans Tryd.underlying4
theorem agg4 {G : Nat} : (En G).agg 4 = some false := by unfold Env.agg; rw [u4]
theorem load4 {G : Nat} {B : Tr Blk} {b off : Nat} : loadO (En G) 4 B (some (.pointer (some ⟨b, off, none⟩))) = loadv B b off := loadO_one agg4
noncomputable def inf4 : TypeInfo := (Tryd.prog.info? 4).getD default
theorem i4 {G : Nat} : (En G).i 4 = some inf4 := En_i.trans <| (envOf_i (by decide)).trans (by kernel_rfl)
theorem size4 : inf4.size = 1 := by kernel_rfl
theorem bytes4 : inf4.bytes = 1 := by kernel_rfl
theorem zero4 : inf4.zero = some (.bool false) := by kernel_rfl
theorem u5 {G : Nat} : (En G).u 5 = some (.int .u8) := En_u.trans <| (envOf_u (by decide)).trans Tryd.underlying5
theorem agg5 {G : Nat} : (En G).agg 5 = some false := by unfold Env.agg; rw [u5]
theorem load5 {G : Nat} {B : Tr Blk} {b off : Nat} : loadO (En G) 5 B (some (.pointer (some ⟨b, off, none⟩))) = loadv B b off := loadO_one agg5
noncomputable def inf5 : TypeInfo := (Tryd.prog.info? 5).getD default
theorem i5 {G : Nat} : (En G).i 5 = some inf5 := En_i.trans <| (envOf_i (by decide)).trans (by kernel_rfl)
theorem size5 : inf5.size = 1 := by kernel_rfl
noncomputable def inf8 : TypeInfo := (Tryd.prog.info? 8).getD default
theorem i8 {G : Nat} : (En G).i 8 = some inf8 := En_i.trans <| (envOf_i (by decide)).trans (by kernel_rfl)
theorem u9 {G : Nat} : (En G).u 9 = some (.string) := En_u.trans <| (envOf_u (by decide)).trans Tryd.underlying9
theorem u16 {G : Nat} : (En G).u 16 = some (.pointer 95) := En_u.trans <| (envOf_u (by decide)).trans Tryd.underlying16
noncomputable def inf16 : TypeInfo := (Tryd.prog.info? 16).getD default
theorem i16 {G : Nat} : (En G).i 16 = some inf16 := En_i.trans <| (envOf_i (by decide)).trans (by kernel_rfl)
theorem u23 {G : Nat} : (En G).u 23 = some (.int .u32) := En_u.trans <| (envOf_u (by decide)).trans Tryd.underlying23
theorem u24 {G : Nat} : (En G).u 24 = some (.slice 3) := En_u.trans <| (envOf_u (by decide)).trans Tryd.underlying24
theorem agg24 {G : Nat} : (En G).agg 24 = some false := by unfold Env.agg; rw [u24]
theorem load24 {G : Nat} {B : Tr Blk} {b off : Nat} : loadO (En G) 24 B (some (.pointer (some ⟨b, off, none⟩))) = loadv B b off := loadO_one agg24
noncomputable def inf24 : TypeInfo := (Tryd.prog.info? 24).getD default
theorem i24 {G : Nat} : (En G).i 24 = some inf24 := En_i.trans <| (envOf_i (by decide)).trans (by kernel_rfl)
theorem size24 : inf24.size = 1 := by kernel_rfl
theorem len24 {G n c : Nat} {A : Option Addr} {B : Tr Blk} : lenO (En G) B 24 (some (.slice A n c)) = some (.int .i64 n) := lenO_slice u24
theorem u32 {G : Nat} : (En G).u 32 = some (.slice 4) := En_u.trans <| (envOf_u (by decide)).trans Tryd.underlying32
noncomputable def inf32 : TypeInfo := (Tryd.prog.info? 32).getD default
theorem i32 {G : Nat} : (En G).i 32 = some inf32 := En_i.trans <| (envOf_i (by decide)).trans (by kernel_rfl)
noncomputable def inf38 : TypeInfo := (Tryd.prog.info? 38).getD default
theorem i38 {G : Nat} : (En G).i 38 = some inf38 := En_i.trans <| (envOf_i (by decide)).trans (by kernel_rfl)
theorem size38 : inf38.size = 2 := by kernel_rfl
theorem u39 {G : Nat} : (En G).u 39 = some (.slice 38) := En_u.trans <| (envOf_u (by decide)).trans Tryd.underlying39
theorem agg39 {G : Nat} : (En G).agg 39 = some false := by unfold Env.agg; rw [u39]
theorem load39 {G : Nat} {B : Tr Blk} {b off : Nat} : loadO (En G) 39 B (some (.pointer (some ⟨b, off, none⟩))) = loadv B b off := loadO_one agg39
theorem len39 {G n c : Nat} {A : Option Addr} {B : Tr Blk} : lenO (En G) B 39 (some (.slice A n c)) = some (.int .i64 n) := lenO_slice u39
noncomputable def inf43 : TypeInfo := (Tryd.prog.info? 43).getD default
theorem i43 {G : Nat} : (En G).i 43 = some inf43 := En_i.trans <| (envOf_i (by decide)).trans (by kernel_rfl)
theorem size43 : inf43.size = 2 := by kernel_rfl
theorem u22 {G : Nat} : (En G).u 22 = some (.array 3 5) := En_u.trans <| (envOf_u (by decide)).trans Tryd.underlying22
theorem agg22 {G : Nat} : (En G).agg 22 = some true := by unfold Env.agg; rw [u22]
noncomputable def inf22 : TypeInfo := (Tryd.prog.info? 22).getD default
theorem i22 {G : Nat} : (En G).i 22 = some inf22 := En_i.trans <| (envOf_i (by decide)).trans (by kernel_rfl)
theorem size22 : inf22.size = 3 := by kernel_rfl
theorem us38 {G : Nat} : (En G).u 38 = Tryd.prog.underlying 38 := En_u.trans <| envOf_u (by decide)
theorem agg38 {G : Nat} : (En G).agg 38 = some true := by unfold Env.agg; rw [us38, Tryd.underlying38]
theorem us43 {G : Nat} : (En G).u 43 = Tryd.prog.underlying 43 := En_u.trans <| envOf_u (by decide)
theorem agg43 {G : Nat} : (En G).agg 43 = some true := by unfold Env.agg; rw [us43, Tryd.underlying43]
theorem idxA24 {G b off n c : Nat} {kd : IntKind} {z : Int} (h0 : 0 ≤ z) (h1 : z < n) : idxAddrO (En G) 24 (some (.slice (some ⟨b, off, none⟩) n c)) (some (.int kd z)) = some (.pointer (some ⟨b, off + z.toNat * 1, none⟩)) := by
  rw [idxAddrO_slice u24 i3 h0 h1, size3]
theorem idxA32 {G b off n c : Nat} {kd : IntKind} {z : Int} (h0 : 0 ≤ z) (h1 : z < n) : idxAddrO (En G) 32 (some (.slice (some ⟨b, off, none⟩) n c)) (some (.int kd z)) = some (.pointer (some ⟨b, off + z.toNat * 1, none⟩)) := by
  rw [idxAddrO_slice u32 i4 h0 h1, size4]
theorem idxA39 {G b off n c : Nat} {kd : IntKind} {z : Int} (h0 : 0 ≤ z) (h1 : z < n) : idxAddrO (En G) 39 (some (.slice (some ⟨b, off, none⟩) n c)) (some (.int kd z)) = some (.pointer (some ⟨b, off + z.toNat * 2, none⟩)) := by
  rw [idxAddrO_slice u39 i38 h0 h1, size38]
theorem idxP22 {G b off : Nat} {kd : IntKind} {z : Int} (h0 : 0 ≤ z) (h1 : z < 3) : idxAddrO (En G) 22 (some (.pointer (some ⟨b, off, none⟩))) (some (.int kd z)) = some (.pointer (some ⟨b, off + z.toNat * 1, none⟩)) := by
  simp only [idxAddrO, evIndexAddr, u22, idx_ok (n := 3) h0 (by omega), i5, forceN_eq, size5]
theorem fld38_0 {G b off : Nat} : fieldAddrO (En G) 38 0 (some (.pointer (some ⟨b, off, none⟩))) = some (.pointer (some ⟨b, off + 0, none⟩)) := by
  simp only [fieldAddrO, evFieldAddr, us38, Tryd.underlying38, List.getElem?_toArray, List.getElem?_cons_zero, List.getElem?_cons_succ, i3, size3, forceN_eq]
  rfl
theorem fld38_1 {G b off : Nat} : fieldAddrO (En G) 38 1 (some (.pointer (some ⟨b, off, none⟩))) = some (.pointer (some ⟨b, off + 1, none⟩)) := by
  simp only [fieldAddrO, evFieldAddr, us38, Tryd.underlying38, List.getElem?_toArray, List.getElem?_cons_zero, List.getElem?_cons_succ, i24, size24, forceN_eq]
  rfl
theorem fld43_0 {G b off : Nat} : fieldAddrO (En G) 43 0 (some (.pointer (some ⟨b, off, none⟩))) = some (.pointer (some ⟨b, off + 0, none⟩)) := by
  simp only [fieldAddrO, evFieldAddr, us43, Tryd.underlying43, List.getElem?_toArray, List.getElem?_cons_zero, List.getElem?_cons_succ, i3, size3, forceN_eq]
  rfl
theorem fld43_1 {G b off : Nat} : fieldAddrO (En G) 43 1 (some (.pointer (some ⟨b, off, none⟩))) = some (.pointer (some ⟨b, off + 1, none⟩)) := by
  simp only [fieldAddrO, evFieldAddr, us43, Tryd.underlying43, List.getElem?_toArray, List.getElem?_cons_zero, List.getElem?_cons_succ, i24, size24, forceN_eq]
  rfl
end
end Go.Proofs.YtoeblkenmjbfiaaDoor.Ev

