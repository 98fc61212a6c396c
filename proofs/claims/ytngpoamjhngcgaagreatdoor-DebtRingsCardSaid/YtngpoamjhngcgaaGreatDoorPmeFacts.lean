/- Facts of the program's types, for symbolic runs. By program. -/
import Derived.Test.YtngpoamjhngcgaaGreatDoorProg
import Derived.Test.YtngpoamjhngcgaaGreatDoorPmSS
import Derived.Test.YtngpoamjhngcgaaGreatDoorPmeTabs
import Derived.Test.YtngpoamjhngcgaaGreatDoorPmOr
import Derived.KernelRfl
set_option linter.unusedSimpArgs false
namespace Go.Proofs.YtngpoamjhngcgaaGreatDoor.Ev
open Go Go.Proofs
noncomputable section

/-- the program's types and functions; so many blocks are only read -/
noncomputable def orcs : Tr (List Value → H → Option Value) := Tr.e
noncomputable def En (G : Nat) : Env := withOrc (withKnown (envOf Tryz.prog 270 4 G) (Tr.put .e 22 (.bool true)) tabs) orcs
theorem En_u {G t : Nat} : (En G).u t = (envOf Tryz.prog 270 4 G).u t := withOrc_u.trans withKnown_u
theorem En_i {G t : Nat} : (En G).i t = (envOf Tryz.prog 270 4 G).i t := withOrc_i.trans withKnown_i
theorem En_G {G : Nat} : (En G).G = G := withOrc_G.trans withKnown_G
instance {G : Nat} : NoFz (En G) := ⟨withOrc_fzl.trans (withKnown_fzl.trans envOf_fzl)⟩
theorem En_kn {G f : Nat} (h : f ≠ 22) : (En G).known.get f = none := by
  have e : (En G).known = Tr.put Tr.e 22 (Value.bool true) := withOrc_known.trans withKnown_known
  rw [e, Tr.get_put, if_neg h]
  rfl
theorem En_orc {G : Nat} : (En G).orc = orcs := withOrc_orc
theorem En_known {G f : Nat} (h : f ≠ 22) : (En G).known.get f = none ∧ (En G).orc.get f = none := by
  refine ⟨En_kn h, ?_⟩
  rw [En_orc]
  unfold orcs
  try obtain ⟨_, h⟩ := h
  simp only [Tr.get_put, Tr.get_e, h, if_false]
theorem En_lives {G : Nat} : (En G).known.get 22 = some (.bool true) := by
  have e : (En G).known = Tr.put Tr.e 22 (Value.bool true) := withOrc_known.trans withKnown_known
  rw [e, Tr.get_put, if_pos rfl]


theorem mixed : Tryz.prog.follows .mixedOrders = true := by kernel_rfl
theorem En_f {G : Nat} {f : FuncId} : (En G).fns.get f = Tryz.prog.funcs[f]? := by
  have : (En G).fns = (envOf Tryz.prog 270 4 G).fns := withOrc_f.trans withKnown_f
  rw [this]; exact envOf_f

theorem u2 {G : Nat} : (En G).u 2 = some (.int .i64) := En_u.trans <| (envOf_u (by decide)).trans Tryz.underlying2
noncomputable def inf2 : TypeInfo := (Tryz.prog.info? 2).getD default
theorem i2 {G : Nat} : (En G).i 2 = some inf2 := En_i.trans <| (envOf_i (by decide)).trans (by kernel_rfl)
theorem u3 {G : Nat} : (En G).u 3 = some (.int .i64) := En_u.trans <| (envOf_u (by decide)).trans Tryz.underlying3
theorem agg3 {G : Nat} : (En G).agg 3 = some false := by unfold Env.agg; rw [u3]
theorem load3 {G : Nat} {B : Tr Blk} {b off : Nat} : loadO (En G) 3 B (some (.pointer (some ⟨b, off, none⟩))) = loadv B b off := loadO_one agg3
noncomputable def inf3 : TypeInfo := (Tryz.prog.info? 3).getD default
theorem i3 {G : Nat} : (En G).i 3 = some inf3 := En_i.trans <| (envOf_i (by decide)).trans (by kernel_rfl)
theorem size3 : inf3.size = 1 := by kernel_rfl
theorem bytes3 : inf3.bytes = 8 := by kernel_rfl
theorem zero3 : inf3.zero = some (.int .i64 0) := by kernel_rfl
theorem u4 {G : Nat} : (En G).u 4 = some (.bool) := En_u.trans <| (envOf_u (by decide)).trans Tryz.underlying4
theorem agg4 {G : Nat} : (En G).agg 4 = some false := by unfold Env.agg; rw [u4]
theorem load4 {G : Nat} {B : Tr Blk} {b off : Nat} : loadO (En G) 4 B (some (.pointer (some ⟨b, off, none⟩))) = loadv B b off := loadO_one agg4
noncomputable def inf4 : TypeInfo := (Tryz.prog.info? 4).getD default
theorem i4 {G : Nat} : (En G).i 4 = some inf4 := En_i.trans <| (envOf_i (by decide)).trans (by kernel_rfl)
theorem size4 : inf4.size = 1 := by kernel_rfl
theorem bytes4 : inf4.bytes = 1 := by kernel_rfl
theorem zero4 : inf4.zero = some (.bool false) := by kernel_rfl
theorem u5 {G : Nat} : (En G).u 5 = some (.int .u8) := En_u.trans <| (envOf_u (by decide)).trans Tryz.underlying5
theorem agg5 {G : Nat} : (En G).agg 5 = some false := by unfold Env.agg; rw [u5]
theorem load5 {G : Nat} {B : Tr Blk} {b off : Nat} : loadO (En G) 5 B (some (.pointer (some ⟨b, off, none⟩))) = loadv B b off := loadO_one agg5
noncomputable def inf5 : TypeInfo := (Tryz.prog.info? 5).getD default
theorem i5 {G : Nat} : (En G).i 5 = some inf5 := En_i.trans <| (envOf_i (by decide)).trans (by kernel_rfl)
theorem size5 : inf5.size = 1 := by kernel_rfl
noncomputable def inf8 : TypeInfo := (Tryz.prog.info? 8).getD default
theorem i8 {G : Nat} : (En G).i 8 = some inf8 := En_i.trans <| (envOf_i (by decide)).trans (by kernel_rfl)
theorem u9 {G : Nat} : (En G).u 9 = some (.string) := En_u.trans <| (envOf_u (by decide)).trans Tryz.underlying9
theorem u16 {G : Nat} : (En G).u 16 = some (.pointer 262) := En_u.trans <| (envOf_u (by decide)).trans Tryz.underlying16
noncomputable def inf16 : TypeInfo := (Tryz.prog.info? 16).getD default
theorem i16 {G : Nat} : (En G).i 16 = some inf16 := En_i.trans <| (envOf_i (by decide)).trans (by kernel_rfl)
theorem u22 {G : Nat} : (En G).u 22 = some (.slice 23) := En_u.trans <| (envOf_u (by decide)).trans Tryz.underlying22
theorem agg22 {G : Nat} : (En G).agg 22 = some false := by unfold Env.agg; rw [u22]
theorem load22 {G : Nat} {B : Tr Blk} {b off : Nat} : loadO (En G) 22 B (some (.pointer (some ⟨b, off, none⟩))) = loadv B b off := loadO_one agg22
theorem len22 {G n c : Nat} {A : Option Addr} {B : Tr Blk} : lenO (En G) B 22 (some (.slice A n c)) = some (.int .i64 n) := lenO_slice u22
theorem u23 {G : Nat} : (En G).u 23 = some (.slice 3) := En_u.trans <| (envOf_u (by decide)).trans Tryz.underlying23
theorem agg23 {G : Nat} : (En G).agg 23 = some false := by unfold Env.agg; rw [u23]
theorem load23 {G : Nat} {B : Tr Blk} {b off : Nat} : loadO (En G) 23 B (some (.pointer (some ⟨b, off, none⟩))) = loadv B b off := loadO_one agg23
noncomputable def inf23 : TypeInfo := (Tryz.prog.info? 23).getD default
theorem i23 {G : Nat} : (En G).i 23 = some inf23 := En_i.trans <| (envOf_i (by decide)).trans (by kernel_rfl)
theorem size23 : inf23.size = 1 := by kernel_rfl
theorem bytes23 : inf23.bytes = 24 := by kernel_rfl
theorem zero23 : inf23.zero = some (.slice none 0 0) := by kernel_rfl
theorem len23 {G n c : Nat} {A : Option Addr} {B : Tr Blk} : lenO (En G) B 23 (some (.slice A n c)) = some (.int .i64 n) := lenO_slice u23
theorem u39 {G : Nat} : (En G).u 39 = some (.slice 94) := En_u.trans <| (envOf_u (by decide)).trans Tryz.underlying39
theorem len39 {G n c : Nat} {A : Option Addr} {B : Tr Blk} : lenO (En G) B 39 (some (.slice A n c)) = some (.int .i64 n) := lenO_slice u39
theorem u42 {G : Nat} : (En G).u 42 = some (.slice 4) := En_u.trans <| (envOf_u (by decide)).trans Tryz.underlying42
theorem u44 {G : Nat} : (En G).u 44 = some (.slice 5) := En_u.trans <| (envOf_u (by decide)).trans Tryz.underlying44
theorem len44 {G n c : Nat} {A : Option Addr} {B : Tr Blk} : lenO (En G) B 44 (some (.slice A n c)) = some (.int .i64 n) := lenO_slice u44
theorem u94 {G : Nat} : (En G).u 94 = some (.int .u16) := En_u.trans <| (envOf_u (by decide)).trans Tryz.underlying94
theorem agg94 {G : Nat} : (En G).agg 94 = some false := by unfold Env.agg; rw [u94]
theorem load94 {G : Nat} {B : Tr Blk} {b off : Nat} : loadO (En G) 94 B (some (.pointer (some ⟨b, off, none⟩))) = loadv B b off := loadO_one agg94
noncomputable def inf94 : TypeInfo := (Tryz.prog.info? 94).getD default
theorem i94 {G : Nat} : (En G).i 94 = some inf94 := En_i.trans <| (envOf_i (by decide)).trans (by kernel_rfl)
theorem size94 : inf94.size = 1 := by kernel_rfl
theorem idxA22 {G b off n c : Nat} {kd : IntKind} {z : Int} (h0 : 0 ≤ z) (h1 : z < n) : idxAddrO (En G) 22 (some (.slice (some ⟨b, off, none⟩) n c)) (some (.int kd z)) = some (.pointer (some ⟨b, off + z.toNat * 1, none⟩)) := by
  rw [idxAddrO_slice u22 i23 h0 h1, size23]
theorem idxA23 {G b off n c : Nat} {kd : IntKind} {z : Int} (h0 : 0 ≤ z) (h1 : z < n) : idxAddrO (En G) 23 (some (.slice (some ⟨b, off, none⟩) n c)) (some (.int kd z)) = some (.pointer (some ⟨b, off + z.toNat * 1, none⟩)) := by
  rw [idxAddrO_slice u23 i3 h0 h1, size3]
theorem idxA39 {G b off n c : Nat} {kd : IntKind} {z : Int} (h0 : 0 ≤ z) (h1 : z < n) : idxAddrO (En G) 39 (some (.slice (some ⟨b, off, none⟩) n c)) (some (.int kd z)) = some (.pointer (some ⟨b, off + z.toNat * 1, none⟩)) := by
  rw [idxAddrO_slice u39 i94 h0 h1, size94]
theorem idxA42 {G b off n c : Nat} {kd : IntKind} {z : Int} (h0 : 0 ≤ z) (h1 : z < n) : idxAddrO (En G) 42 (some (.slice (some ⟨b, off, none⟩) n c)) (some (.int kd z)) = some (.pointer (some ⟨b, off + z.toNat * 1, none⟩)) := by
  rw [idxAddrO_slice u42 i4 h0 h1, size4]
theorem idxA44 {G b off n c : Nat} {kd : IntKind} {z : Int} (h0 : 0 ≤ z) (h1 : z < n) : idxAddrO (En G) 44 (some (.slice (some ⟨b, off, none⟩) n c)) (some (.int kd z)) = some (.pointer (some ⟨b, off + z.toNat * 1, none⟩)) := by
  rw [idxAddrO_slice u44 i5 h0 h1, size5]
end
end Go.Proofs.YtngpoamjhngcgaaGreatDoor.Ev

