/- Facts of the program's types, for symbolic runs. By program. -/
import Derived.Test.YtnjbcgiplfdgmaaGreatDoorProg
import Derived.Test.YtnjbcgiplfdgmaaGreatDoorPmSS
import Derived.Test.YtnjbcgiplfdgmaaGreatDoorPmTabs
import Derived.KernelRfl
namespace Go.Proofs.YtnjbcgiplfdgmaaGreatDoor.Ev
open Go Go.Proofs
noncomputable section

/-- the program's types and functions; so many blocks are only read -/
noncomputable def En (G : Nat) : Env := withKnown (envOf Tryz.prog 210 4 G) (Tr.put .e 19 (.bool true)) tabs (Tr.put .e 71 0)
theorem En_u {G t : Nat} : (En G).u t = (envOf Tryz.prog 210 4 G).u t := withKnown_u
theorem En_i {G t : Nat} : (En G).i t = (envOf Tryz.prog 210 4 G).i t := withKnown_i
theorem En_G {G : Nat} : (En G).G = G := withKnown_G
theorem En_iters {G : Nat} : (En G).iters = Tr.put Tr.e 71 0 := withKnown_iters
theorem En_known {G f : Nat} (h : f ≠ 19) : (En G).known.get f = none := by
  have e : (En G).known = Tr.put Tr.e 19 (Value.bool true) := withKnown_known
  rw [e, Tr.get_put, if_neg h]
  rfl
theorem En_lives {G : Nat} : (En G).known.get 19 = some (.bool true) := by
  have e : (En G).known = Tr.put Tr.e 19 (Value.bool true) := withKnown_known
  rw [e, Tr.get_put, if_pos rfl]


theorem mixed : Tryz.prog.follows .mixedOrders = true := by kernel_rfl
theorem En_f {G : Nat} {f : FuncId} : (En G).fns.get f = Tryz.prog.funcs[f]? := by
  have : (En G).fns = (envOf Tryz.prog 210 4 G).fns := withKnown_f
  rw [this]; exact envOf_f

theorem u2 {G : Nat} : (En G).u 2 = some (.int .i64) := En_u.trans <| (envOf_u (by decide)).trans Tryz.underlying2
theorem agg2 {G : Nat} : (En G).agg 2 = some false := by unfold Env.agg; rw [u2]
theorem load2 {G : Nat} {B : Tr Blk} {b off : Nat} : loadO (En G) 2 B (some (.pointer (some ⟨b, off, none⟩))) = loadv B b off := loadO_one agg2
noncomputable def inf2 : TypeInfo := (Tryz.prog.info? 2).getD default
theorem i2 {G : Nat} : (En G).i 2 = some inf2 := En_i.trans <| (envOf_i (by decide)).trans (by kernel_rfl)
theorem size2 : inf2.size = 1 := by kernel_rfl
theorem bytes2 : inf2.bytes = 8 := by kernel_rfl
theorem zero2 : inf2.zero = some (.int .i64 0) := by kernel_rfl
theorem u3 {G : Nat} : (En G).u 3 = some (.int .i64) := En_u.trans <| (envOf_u (by decide)).trans Tryz.underlying3
theorem agg3 {G : Nat} : (En G).agg 3 = some false := by unfold Env.agg; rw [u3]
theorem load3 {G : Nat} {B : Tr Blk} {b off : Nat} : loadO (En G) 3 B (some (.pointer (some ⟨b, off, none⟩))) = loadv B b off := loadO_one agg3
noncomputable def inf3 : TypeInfo := (Tryz.prog.info? 3).getD default
theorem i3 {G : Nat} : (En G).i 3 = some inf3 := En_i.trans <| (envOf_i (by decide)).trans (by kernel_rfl)
theorem size3 : inf3.size = 1 := by kernel_rfl
theorem bytes3 : inf3.bytes = 8 := by kernel_rfl
theorem zero3 : inf3.zero = some (.int .i64 0) := by kernel_rfl
theorem u4 {G : Nat} : (En G).u 4 = some (.bool) := En_u.trans <| (envOf_u (by decide)).trans Tryz.underlying4
theorem agg4 {G : Nat} : (En G).agg 4 = some false := by unfold Env.agg; rw [u4]
theorem load4 {G : Nat} {B : Tr Blk} {b off : Nat} : loadO (En G) 4 B (some (.pointer (some ⟨b, off, none⟩))) = loadv B b off := loadO_one agg4
noncomputable def inf4 : TypeInfo := (Tryz.prog.info? 4).getD default
theorem i4 {G : Nat} : (En G).i 4 = some inf4 := En_i.trans <| (envOf_i (by decide)).trans (by kernel_rfl)
theorem size4 : inf4.size = 1 := by kernel_rfl
theorem bytes4 : inf4.bytes = 1 := by kernel_rfl
theorem zero4 : inf4.zero = some (.bool false) := by kernel_rfl
theorem u5 {G : Nat} : (En G).u 5 = some (.int .u8) := En_u.trans <| (envOf_u (by decide)).trans Tryz.underlying5
theorem agg5 {G : Nat} : (En G).agg 5 = some false := by unfold Env.agg; rw [u5]
theorem load5 {G : Nat} {B : Tr Blk} {b off : Nat} : loadO (En G) 5 B (some (.pointer (some ⟨b, off, none⟩))) = loadv B b off := loadO_one agg5
noncomputable def inf5 : TypeInfo := (Tryz.prog.info? 5).getD default
theorem i5 {G : Nat} : (En G).i 5 = some inf5 := En_i.trans <| (envOf_i (by decide)).trans (by kernel_rfl)
theorem size5 : inf5.size = 1 := by kernel_rfl
theorem bytes5 : inf5.bytes = 1 := by kernel_rfl
theorem zero5 : inf5.zero = some (.int .u8 0) := by kernel_rfl
theorem u6 {G : Nat} : (En G).u 6 = some (.int .u8) := En_u.trans <| (envOf_u (by decide)).trans Tryz.underlying6
theorem agg6 {G : Nat} : (En G).agg 6 = some false := by unfold Env.agg; rw [u6]
theorem load6 {G : Nat} {B : Tr Blk} {b off : Nat} : loadO (En G) 6 B (some (.pointer (some ⟨b, off, none⟩))) = loadv B b off := loadO_one agg6
noncomputable def inf6 : TypeInfo := (Tryz.prog.info? 6).getD default
theorem i6 {G : Nat} : (En G).i 6 = some inf6 := En_i.trans <| (envOf_i (by decide)).trans (by kernel_rfl)
theorem size6 : inf6.size = 1 := by kernel_rfl
theorem bytes6 : inf6.bytes = 1 := by kernel_rfl
theorem zero6 : inf6.zero = some (.int .u8 0) := by kernel_rfl
noncomputable def inf7 : TypeInfo := (Tryz.prog.info? 7).getD default
theorem i7 {G : Nat} : (En G).i 7 = some inf7 := En_i.trans <| (envOf_i (by decide)).trans (by kernel_rfl)
theorem size7 : inf7.size = 4 := by kernel_rfl
theorem bytes7 : inf7.bytes = 24 := by kernel_rfl
noncomputable def inf8 : TypeInfo := (Tryz.prog.info? 8).getD default
theorem i8 {G : Nat} : (En G).i 8 = some inf8 := En_i.trans <| (envOf_i (by decide)).trans (by kernel_rfl)
theorem size8 : inf8.size = 4 := by kernel_rfl
theorem bytes8 : inf8.bytes = 24 := by kernel_rfl
theorem u9 {G : Nat} : (En G).u 9 = some (.string) := En_u.trans <| (envOf_u (by decide)).trans Tryz.underlying9
theorem agg9 {G : Nat} : (En G).agg 9 = some false := by unfold Env.agg; rw [u9]
theorem load9 {G : Nat} {B : Tr Blk} {b off : Nat} : loadO (En G) 9 B (some (.pointer (some ⟨b, off, none⟩))) = loadv B b off := loadO_one agg9
noncomputable def inf9 : TypeInfo := (Tryz.prog.info? 9).getD default
theorem i9 {G : Nat} : (En G).i 9 = some inf9 := En_i.trans <| (envOf_i (by decide)).trans (by kernel_rfl)
theorem size9 : inf9.size = 1 := by kernel_rfl
theorem bytes9 : inf9.bytes = 16 := by kernel_rfl
theorem zero9 : inf9.zero = some (.string .empty) := by kernel_rfl
theorem u10 {G : Nat} : (En G).u 10 = some (.string) := En_u.trans <| (envOf_u (by decide)).trans Tryz.underlying10
theorem agg10 {G : Nat} : (En G).agg 10 = some false := by unfold Env.agg; rw [u10]
theorem load10 {G : Nat} {B : Tr Blk} {b off : Nat} : loadO (En G) 10 B (some (.pointer (some ⟨b, off, none⟩))) = loadv B b off := loadO_one agg10
noncomputable def inf10 : TypeInfo := (Tryz.prog.info? 10).getD default
theorem i10 {G : Nat} : (En G).i 10 = some inf10 := En_i.trans <| (envOf_i (by decide)).trans (by kernel_rfl)
theorem size10 : inf10.size = 1 := by kernel_rfl
theorem bytes10 : inf10.bytes = 16 := by kernel_rfl
theorem zero10 : inf10.zero = some (.string .empty) := by kernel_rfl
theorem u11 {G : Nat} : (En G).u 11 = some (.string) := En_u.trans <| (envOf_u (by decide)).trans Tryz.underlying11
theorem agg11 {G : Nat} : (En G).agg 11 = some false := by unfold Env.agg; rw [u11]
theorem load11 {G : Nat} {B : Tr Blk} {b off : Nat} : loadO (En G) 11 B (some (.pointer (some ⟨b, off, none⟩))) = loadv B b off := loadO_one agg11
noncomputable def inf11 : TypeInfo := (Tryz.prog.info? 11).getD default
theorem i11 {G : Nat} : (En G).i 11 = some inf11 := En_i.trans <| (envOf_i (by decide)).trans (by kernel_rfl)
theorem size11 : inf11.size = 1 := by kernel_rfl
theorem bytes11 : inf11.bytes = 16 := by kernel_rfl
theorem zero11 : inf11.zero = some (.string .empty) := by kernel_rfl
theorem u12 {G : Nat} : (En G).u 12 = some (.int .u64) := En_u.trans <| (envOf_u (by decide)).trans Tryz.underlying12
theorem agg12 {G : Nat} : (En G).agg 12 = some false := by unfold Env.agg; rw [u12]
theorem load12 {G : Nat} {B : Tr Blk} {b off : Nat} : loadO (En G) 12 B (some (.pointer (some ⟨b, off, none⟩))) = loadv B b off := loadO_one agg12
noncomputable def inf12 : TypeInfo := (Tryz.prog.info? 12).getD default
theorem i12 {G : Nat} : (En G).i 12 = some inf12 := En_i.trans <| (envOf_i (by decide)).trans (by kernel_rfl)
theorem size12 : inf12.size = 1 := by kernel_rfl
theorem bytes12 : inf12.bytes = 8 := by kernel_rfl
theorem zero12 : inf12.zero = some (.int .u64 0) := by kernel_rfl
noncomputable def inf13 : TypeInfo := (Tryz.prog.info? 13).getD default
theorem i13 {G : Nat} : (En G).i 13 = some inf13 := En_i.trans <| (envOf_i (by decide)).trans (by kernel_rfl)
theorem size13 : inf13.size = 2 := by kernel_rfl
theorem bytes13 : inf13.bytes = 24 := by kernel_rfl
noncomputable def inf14 : TypeInfo := (Tryz.prog.info? 14).getD default
theorem i14 {G : Nat} : (En G).i 14 = some inf14 := En_i.trans <| (envOf_i (by decide)).trans (by kernel_rfl)
theorem size14 : inf14.size = 2 := by kernel_rfl
theorem bytes14 : inf14.bytes = 24 := by kernel_rfl
theorem u15 {G : Nat} : (En G).u 15 = some (.pointer 199) := En_u.trans <| (envOf_u (by decide)).trans Tryz.underlying15
theorem agg15 {G : Nat} : (En G).agg 15 = some false := by unfold Env.agg; rw [u15]
theorem load15 {G : Nat} {B : Tr Blk} {b off : Nat} : loadO (En G) 15 B (some (.pointer (some ⟨b, off, none⟩))) = loadv B b off := loadO_one agg15
noncomputable def inf15 : TypeInfo := (Tryz.prog.info? 15).getD default
theorem i15 {G : Nat} : (En G).i 15 = some inf15 := En_i.trans <| (envOf_i (by decide)).trans (by kernel_rfl)
theorem size15 : inf15.size = 1 := by kernel_rfl
theorem bytes15 : inf15.bytes = 8 := by kernel_rfl
theorem zero15 : inf15.zero = some (.pointer none) := by kernel_rfl
theorem u16 {G : Nat} : (En G).u 16 = some (.pointer 202) := En_u.trans <| (envOf_u (by decide)).trans Tryz.underlying16
theorem agg16 {G : Nat} : (En G).agg 16 = some false := by unfold Env.agg; rw [u16]
theorem load16 {G : Nat} {B : Tr Blk} {b off : Nat} : loadO (En G) 16 B (some (.pointer (some ⟨b, off, none⟩))) = loadv B b off := loadO_one agg16
noncomputable def inf16 : TypeInfo := (Tryz.prog.info? 16).getD default
theorem i16 {G : Nat} : (En G).i 16 = some inf16 := En_i.trans <| (envOf_i (by decide)).trans (by kernel_rfl)
theorem size16 : inf16.size = 1 := by kernel_rfl
theorem bytes16 : inf16.bytes = 8 := by kernel_rfl
theorem zero16 : inf16.zero = some (.pointer none) := by kernel_rfl
theorem u17 {G : Nat} : (En G).u 17 = some (.pointer 209) := En_u.trans <| (envOf_u (by decide)).trans Tryz.underlying17
theorem agg17 {G : Nat} : (En G).agg 17 = some false := by unfold Env.agg; rw [u17]
theorem load17 {G : Nat} {B : Tr Blk} {b off : Nat} : loadO (En G) 17 B (some (.pointer (some ⟨b, off, none⟩))) = loadv B b off := loadO_one agg17
noncomputable def inf17 : TypeInfo := (Tryz.prog.info? 17).getD default
theorem i17 {G : Nat} : (En G).i 17 = some inf17 := En_i.trans <| (envOf_i (by decide)).trans (by kernel_rfl)
theorem size17 : inf17.size = 1 := by kernel_rfl
theorem bytes17 : inf17.bytes = 8 := by kernel_rfl
theorem zero17 : inf17.zero = some (.pointer none) := by kernel_rfl
noncomputable def inf18 : TypeInfo := (Tryz.prog.info? 18).getD default
theorem i18 {G : Nat} : (En G).i 18 = some inf18 := En_i.trans <| (envOf_i (by decide)).trans (by kernel_rfl)
theorem size18 : inf18.size = 1 := by kernel_rfl
theorem bytes18 : inf18.bytes = 8 := by kernel_rfl
noncomputable def inf19 : TypeInfo := (Tryz.prog.info? 19).getD default
theorem i19 {G : Nat} : (En G).i 19 = some inf19 := En_i.trans <| (envOf_i (by decide)).trans (by kernel_rfl)
theorem size19 : inf19.size = 1 := by kernel_rfl
theorem bytes19 : inf19.bytes = 8 := by kernel_rfl
theorem u21 {G : Nat} : (En G).u 21 = some (.int .i32) := En_u.trans <| (envOf_u (by decide)).trans Tryz.underlying21
theorem agg21 {G : Nat} : (En G).agg 21 = some false := by unfold Env.agg; rw [u21]
theorem load21 {G : Nat} {B : Tr Blk} {b off : Nat} : loadO (En G) 21 B (some (.pointer (some ⟨b, off, none⟩))) = loadv B b off := loadO_one agg21
noncomputable def inf21 : TypeInfo := (Tryz.prog.info? 21).getD default
theorem i21 {G : Nat} : (En G).i 21 = some inf21 := En_i.trans <| (envOf_i (by decide)).trans (by kernel_rfl)
theorem size21 : inf21.size = 1 := by kernel_rfl
theorem bytes21 : inf21.bytes = 4 := by kernel_rfl
theorem zero21 : inf21.zero = some (.int .i32 0) := by kernel_rfl
theorem u22 {G : Nat} : (En G).u 22 = some (.slice 82) := En_u.trans <| (envOf_u (by decide)).trans Tryz.underlying22
theorem agg22 {G : Nat} : (En G).agg 22 = some false := by unfold Env.agg; rw [u22]
theorem load22 {G : Nat} {B : Tr Blk} {b off : Nat} : loadO (En G) 22 B (some (.pointer (some ⟨b, off, none⟩))) = loadv B b off := loadO_one agg22
noncomputable def inf22 : TypeInfo := (Tryz.prog.info? 22).getD default
theorem i22 {G : Nat} : (En G).i 22 = some inf22 := En_i.trans <| (envOf_i (by decide)).trans (by kernel_rfl)
theorem size22 : inf22.size = 1 := by kernel_rfl
theorem bytes22 : inf22.bytes = 24 := by kernel_rfl
theorem zero22 : inf22.zero = some (.slice none 0 0) := by kernel_rfl
theorem len22 {G n c : Nat} {A : Option Addr} : lenO (En G) 22 (some (.slice A n c)) = some (.int .i64 n) := lenO_slice u22
noncomputable def inf23 : TypeInfo := (Tryz.prog.info? 23).getD default
theorem i23 {G : Nat} : (En G).i 23 = some inf23 := En_i.trans <| (envOf_i (by decide)).trans (by kernel_rfl)
theorem size23 : inf23.size = 2 := by kernel_rfl
theorem bytes23 : inf23.bytes = 32 := by kernel_rfl
noncomputable def inf24 : TypeInfo := (Tryz.prog.info? 24).getD default
theorem i24 {G : Nat} : (En G).i 24 = some inf24 := En_i.trans <| (envOf_i (by decide)).trans (by kernel_rfl)
theorem size24 : inf24.size = 2 := by kernel_rfl
theorem bytes24 : inf24.bytes = 32 := by kernel_rfl
theorem u28 {G : Nat} : (En G).u 28 = some (.int .i64) := En_u.trans <| (envOf_u (by decide)).trans Tryz.underlying28
theorem agg28 {G : Nat} : (En G).agg 28 = some false := by unfold Env.agg; rw [u28]
theorem load28 {G : Nat} {B : Tr Blk} {b off : Nat} : loadO (En G) 28 B (some (.pointer (some ⟨b, off, none⟩))) = loadv B b off := loadO_one agg28
noncomputable def inf28 : TypeInfo := (Tryz.prog.info? 28).getD default
theorem i28 {G : Nat} : (En G).i 28 = some inf28 := En_i.trans <| (envOf_i (by decide)).trans (by kernel_rfl)
theorem size28 : inf28.size = 1 := by kernel_rfl
theorem bytes28 : inf28.bytes = 8 := by kernel_rfl
theorem zero28 : inf28.zero = some (.int .i64 0) := by kernel_rfl
theorem u40 {G : Nat} : (En G).u 40 = some (.slice 9) := En_u.trans <| (envOf_u (by decide)).trans Tryz.underlying40
theorem agg40 {G : Nat} : (En G).agg 40 = some false := by unfold Env.agg; rw [u40]
theorem load40 {G : Nat} {B : Tr Blk} {b off : Nat} : loadO (En G) 40 B (some (.pointer (some ⟨b, off, none⟩))) = loadv B b off := loadO_one agg40
noncomputable def inf40 : TypeInfo := (Tryz.prog.info? 40).getD default
theorem i40 {G : Nat} : (En G).i 40 = some inf40 := En_i.trans <| (envOf_i (by decide)).trans (by kernel_rfl)
theorem size40 : inf40.size = 1 := by kernel_rfl
theorem bytes40 : inf40.bytes = 24 := by kernel_rfl
theorem zero40 : inf40.zero = some (.slice none 0 0) := by kernel_rfl
theorem len40 {G n c : Nat} {A : Option Addr} : lenO (En G) 40 (some (.slice A n c)) = some (.int .i64 n) := lenO_slice u40
theorem u47 {G : Nat} : (En G).u 47 = some (.slice 3) := En_u.trans <| (envOf_u (by decide)).trans Tryz.underlying47
theorem agg47 {G : Nat} : (En G).agg 47 = some false := by unfold Env.agg; rw [u47]
theorem load47 {G : Nat} {B : Tr Blk} {b off : Nat} : loadO (En G) 47 B (some (.pointer (some ⟨b, off, none⟩))) = loadv B b off := loadO_one agg47
noncomputable def inf47 : TypeInfo := (Tryz.prog.info? 47).getD default
theorem i47 {G : Nat} : (En G).i 47 = some inf47 := En_i.trans <| (envOf_i (by decide)).trans (by kernel_rfl)
theorem size47 : inf47.size = 1 := by kernel_rfl
theorem bytes47 : inf47.bytes = 24 := by kernel_rfl
theorem zero47 : inf47.zero = some (.slice none 0 0) := by kernel_rfl
theorem len47 {G n c : Nat} {A : Option Addr} : lenO (En G) 47 (some (.slice A n c)) = some (.int .i64 n) := lenO_slice u47
theorem u52 {G : Nat} : (En G).u 52 = some (.int .u16) := En_u.trans <| (envOf_u (by decide)).trans Tryz.underlying52
theorem agg52 {G : Nat} : (En G).agg 52 = some false := by unfold Env.agg; rw [u52]
theorem load52 {G : Nat} {B : Tr Blk} {b off : Nat} : loadO (En G) 52 B (some (.pointer (some ⟨b, off, none⟩))) = loadv B b off := loadO_one agg52
noncomputable def inf52 : TypeInfo := (Tryz.prog.info? 52).getD default
theorem i52 {G : Nat} : (En G).i 52 = some inf52 := En_i.trans <| (envOf_i (by decide)).trans (by kernel_rfl)
theorem size52 : inf52.size = 1 := by kernel_rfl
theorem bytes52 : inf52.bytes = 2 := by kernel_rfl
theorem zero52 : inf52.zero = some (.int .u16 0) := by kernel_rfl
noncomputable def inf53 : TypeInfo := (Tryz.prog.info? 53).getD default
theorem i53 {G : Nat} : (En G).i 53 = some inf53 := En_i.trans <| (envOf_i (by decide)).trans (by kernel_rfl)
theorem size53 : inf53.size = 2 := by kernel_rfl
theorem bytes53 : inf53.bytes = 4 := by kernel_rfl
noncomputable def inf54 : TypeInfo := (Tryz.prog.info? 54).getD default
theorem i54 {G : Nat} : (En G).i 54 = some inf54 := En_i.trans <| (envOf_i (by decide)).trans (by kernel_rfl)
theorem size54 : inf54.size = 2 := by kernel_rfl
theorem bytes54 : inf54.bytes = 4 := by kernel_rfl
theorem u55 {G : Nat} : (En G).u 55 = some (.slice 5) := En_u.trans <| (envOf_u (by decide)).trans Tryz.underlying55
theorem agg55 {G : Nat} : (En G).agg 55 = some false := by unfold Env.agg; rw [u55]
theorem load55 {G : Nat} {B : Tr Blk} {b off : Nat} : loadO (En G) 55 B (some (.pointer (some ⟨b, off, none⟩))) = loadv B b off := loadO_one agg55
noncomputable def inf55 : TypeInfo := (Tryz.prog.info? 55).getD default
theorem i55 {G : Nat} : (En G).i 55 = some inf55 := En_i.trans <| (envOf_i (by decide)).trans (by kernel_rfl)
theorem size55 : inf55.size = 1 := by kernel_rfl
theorem bytes55 : inf55.bytes = 24 := by kernel_rfl
theorem zero55 : inf55.zero = some (.slice none 0 0) := by kernel_rfl
theorem len55 {G n c : Nat} {A : Option Addr} : lenO (En G) 55 (some (.slice A n c)) = some (.int .i64 n) := lenO_slice u55
noncomputable def inf73 : TypeInfo := (Tryz.prog.info? 73).getD default
theorem i73 {G : Nat} : (En G).i 73 = some inf73 := En_i.trans <| (envOf_i (by decide)).trans (by kernel_rfl)
theorem size73 : inf73.size = 37 := by kernel_rfl
theorem bytes73 : inf73.bytes = 48 := by kernel_rfl
noncomputable def inf74 : TypeInfo := (Tryz.prog.info? 74).getD default
theorem i74 {G : Nat} : (En G).i 74 = some inf74 := En_i.trans <| (envOf_i (by decide)).trans (by kernel_rfl)
theorem size74 : inf74.size = 37 := by kernel_rfl
theorem bytes74 : inf74.bytes = 48 := by kernel_rfl
theorem u79 {G : Nat} : (En G).u 79 = some (.slice 28) := En_u.trans <| (envOf_u (by decide)).trans Tryz.underlying79
theorem agg79 {G : Nat} : (En G).agg 79 = some false := by unfold Env.agg; rw [u79]
theorem load79 {G : Nat} {B : Tr Blk} {b off : Nat} : loadO (En G) 79 B (some (.pointer (some ⟨b, off, none⟩))) = loadv B b off := loadO_one agg79
noncomputable def inf79 : TypeInfo := (Tryz.prog.info? 79).getD default
theorem i79 {G : Nat} : (En G).i 79 = some inf79 := En_i.trans <| (envOf_i (by decide)).trans (by kernel_rfl)
theorem size79 : inf79.size = 1 := by kernel_rfl
theorem bytes79 : inf79.bytes = 24 := by kernel_rfl
theorem zero79 : inf79.zero = some (.slice none 0 0) := by kernel_rfl
theorem len79 {G n c : Nat} {A : Option Addr} : lenO (En G) 79 (some (.slice A n c)) = some (.int .i64 n) := lenO_slice u79
noncomputable def inf81 : TypeInfo := (Tryz.prog.info? 81).getD default
theorem i81 {G : Nat} : (En G).i 81 = some inf81 := En_i.trans <| (envOf_i (by decide)).trans (by kernel_rfl)
theorem size81 : inf81.size = 2 := by kernel_rfl
theorem bytes81 : inf81.bytes = 16 := by kernel_rfl
noncomputable def inf82 : TypeInfo := (Tryz.prog.info? 82).getD default
theorem i82 {G : Nat} : (En G).i 82 = some inf82 := En_i.trans <| (envOf_i (by decide)).trans (by kernel_rfl)
theorem size82 : inf82.size = 2 := by kernel_rfl
theorem bytes82 : inf82.bytes = 16 := by kernel_rfl
theorem u83 {G : Nat} : (En G).u 83 = some (.string) := En_u.trans <| (envOf_u (by decide)).trans Tryz.underlying83
theorem agg83 {G : Nat} : (En G).agg 83 = some false := by unfold Env.agg; rw [u83]
theorem load83 {G : Nat} {B : Tr Blk} {b off : Nat} : loadO (En G) 83 B (some (.pointer (some ⟨b, off, none⟩))) = loadv B b off := loadO_one agg83
noncomputable def inf83 : TypeInfo := (Tryz.prog.info? 83).getD default
theorem i83 {G : Nat} : (En G).i 83 = some inf83 := En_i.trans <| (envOf_i (by decide)).trans (by kernel_rfl)
theorem size83 : inf83.size = 1 := by kernel_rfl
theorem bytes83 : inf83.bytes = 16 := by kernel_rfl
theorem zero83 : inf83.zero = some (.string .empty) := by kernel_rfl
theorem u103 {G : Nat} : (En G).u 103 = some (.slice 130) := En_u.trans <| (envOf_u (by decide)).trans Tryz.underlying103
theorem agg103 {G : Nat} : (En G).agg 103 = some false := by unfold Env.agg; rw [u103]
theorem load103 {G : Nat} {B : Tr Blk} {b off : Nat} : loadO (En G) 103 B (some (.pointer (some ⟨b, off, none⟩))) = loadv B b off := loadO_one agg103
noncomputable def inf103 : TypeInfo := (Tryz.prog.info? 103).getD default
theorem i103 {G : Nat} : (En G).i 103 = some inf103 := En_i.trans <| (envOf_i (by decide)).trans (by kernel_rfl)
theorem size103 : inf103.size = 1 := by kernel_rfl
theorem bytes103 : inf103.bytes = 24 := by kernel_rfl
theorem zero103 : inf103.zero = some (.slice none 0 0) := by kernel_rfl
theorem len103 {G n c : Nat} {A : Option Addr} : lenO (En G) 103 (some (.slice A n c)) = some (.int .i64 n) := lenO_slice u103
theorem u104 {G : Nat} : (En G).u 104 = some (.slice 130) := En_u.trans <| (envOf_u (by decide)).trans Tryz.underlying104
theorem agg104 {G : Nat} : (En G).agg 104 = some false := by unfold Env.agg; rw [u104]
theorem load104 {G : Nat} {B : Tr Blk} {b off : Nat} : loadO (En G) 104 B (some (.pointer (some ⟨b, off, none⟩))) = loadv B b off := loadO_one agg104
noncomputable def inf104 : TypeInfo := (Tryz.prog.info? 104).getD default
theorem i104 {G : Nat} : (En G).i 104 = some inf104 := En_i.trans <| (envOf_i (by decide)).trans (by kernel_rfl)
theorem size104 : inf104.size = 1 := by kernel_rfl
theorem bytes104 : inf104.bytes = 24 := by kernel_rfl
theorem zero104 : inf104.zero = some (.slice none 0 0) := by kernel_rfl
theorem len104 {G n c : Nat} {A : Option Addr} : lenO (En G) 104 (some (.slice A n c)) = some (.int .i64 n) := lenO_slice u104
noncomputable def inf105 : TypeInfo := (Tryz.prog.info? 105).getD default
theorem i105 {G : Nat} : (En G).i 105 = some inf105 := En_i.trans <| (envOf_i (by decide)).trans (by kernel_rfl)
theorem size105 : inf105.size = 3 := by kernel_rfl
theorem bytes105 : inf105.bytes = 56 := by kernel_rfl
noncomputable def inf106 : TypeInfo := (Tryz.prog.info? 106).getD default
theorem i106 {G : Nat} : (En G).i 106 = some inf106 := En_i.trans <| (envOf_i (by decide)).trans (by kernel_rfl)
theorem size106 : inf106.size = 3 := by kernel_rfl
theorem bytes106 : inf106.bytes = 56 := by kernel_rfl
theorem u110 {G : Nat} : (En G).u 110 = some (.pointer 71) := En_u.trans <| (envOf_u (by decide)).trans Tryz.underlying110
theorem agg110 {G : Nat} : (En G).agg 110 = some false := by unfold Env.agg; rw [u110]
theorem load110 {G : Nat} {B : Tr Blk} {b off : Nat} : loadO (En G) 110 B (some (.pointer (some ⟨b, off, none⟩))) = loadv B b off := loadO_one agg110
noncomputable def inf110 : TypeInfo := (Tryz.prog.info? 110).getD default
theorem i110 {G : Nat} : (En G).i 110 = some inf110 := En_i.trans <| (envOf_i (by decide)).trans (by kernel_rfl)
theorem size110 : inf110.size = 1 := by kernel_rfl
theorem bytes110 : inf110.bytes = 8 := by kernel_rfl
theorem zero110 : inf110.zero = some (.pointer none) := by kernel_rfl
theorem u112 {G : Nat} : (En G).u 112 = some (.slice 55) := En_u.trans <| (envOf_u (by decide)).trans Tryz.underlying112
theorem agg112 {G : Nat} : (En G).agg 112 = some false := by unfold Env.agg; rw [u112]
theorem load112 {G : Nat} {B : Tr Blk} {b off : Nat} : loadO (En G) 112 B (some (.pointer (some ⟨b, off, none⟩))) = loadv B b off := loadO_one agg112
noncomputable def inf112 : TypeInfo := (Tryz.prog.info? 112).getD default
theorem i112 {G : Nat} : (En G).i 112 = some inf112 := En_i.trans <| (envOf_i (by decide)).trans (by kernel_rfl)
theorem size112 : inf112.size = 1 := by kernel_rfl
theorem bytes112 : inf112.bytes = 24 := by kernel_rfl
theorem zero112 : inf112.zero = some (.slice none 0 0) := by kernel_rfl
theorem len112 {G n c : Nat} {A : Option Addr} : lenO (En G) 112 (some (.slice A n c)) = some (.int .i64 n) := lenO_slice u112
theorem u117 {G : Nat} : (En G).u 117 = some (.slice 106) := En_u.trans <| (envOf_u (by decide)).trans Tryz.underlying117
theorem agg117 {G : Nat} : (En G).agg 117 = some false := by unfold Env.agg; rw [u117]
theorem load117 {G : Nat} {B : Tr Blk} {b off : Nat} : loadO (En G) 117 B (some (.pointer (some ⟨b, off, none⟩))) = loadv B b off := loadO_one agg117
noncomputable def inf117 : TypeInfo := (Tryz.prog.info? 117).getD default
theorem i117 {G : Nat} : (En G).i 117 = some inf117 := En_i.trans <| (envOf_i (by decide)).trans (by kernel_rfl)
theorem size117 : inf117.size = 1 := by kernel_rfl
theorem bytes117 : inf117.bytes = 24 := by kernel_rfl
theorem zero117 : inf117.zero = some (.slice none 0 0) := by kernel_rfl
theorem len117 {G n c : Nat} {A : Option Addr} : lenO (En G) 117 (some (.slice A n c)) = some (.int .i64 n) := lenO_slice u117
theorem u123 {G : Nat} : (En G).u 123 = some (.int .u64) := En_u.trans <| (envOf_u (by decide)).trans Tryz.underlying123
theorem agg123 {G : Nat} : (En G).agg 123 = some false := by unfold Env.agg; rw [u123]
theorem load123 {G : Nat} {B : Tr Blk} {b off : Nat} : loadO (En G) 123 B (some (.pointer (some ⟨b, off, none⟩))) = loadv B b off := loadO_one agg123
noncomputable def inf123 : TypeInfo := (Tryz.prog.info? 123).getD default
theorem i123 {G : Nat} : (En G).i 123 = some inf123 := En_i.trans <| (envOf_i (by decide)).trans (by kernel_rfl)
theorem size123 : inf123.size = 1 := by kernel_rfl
theorem bytes123 : inf123.bytes = 8 := by kernel_rfl
theorem zero123 : inf123.zero = some (.int .u64 0) := by kernel_rfl
theorem u125 {G : Nat} : (En G).u 125 = some (.int .u64) := En_u.trans <| (envOf_u (by decide)).trans Tryz.underlying125
theorem agg125 {G : Nat} : (En G).agg 125 = some false := by unfold Env.agg; rw [u125]
theorem load125 {G : Nat} {B : Tr Blk} {b off : Nat} : loadO (En G) 125 B (some (.pointer (some ⟨b, off, none⟩))) = loadv B b off := loadO_one agg125
noncomputable def inf125 : TypeInfo := (Tryz.prog.info? 125).getD default
theorem i125 {G : Nat} : (En G).i 125 = some inf125 := En_i.trans <| (envOf_i (by decide)).trans (by kernel_rfl)
theorem size125 : inf125.size = 1 := by kernel_rfl
theorem bytes125 : inf125.bytes = 8 := by kernel_rfl
theorem zero125 : inf125.zero = some (.int .u64 0) := by kernel_rfl
theorem u130 {G : Nat} : (En G).u 130 = some (.int .u32) := En_u.trans <| (envOf_u (by decide)).trans Tryz.underlying130
theorem agg130 {G : Nat} : (En G).agg 130 = some false := by unfold Env.agg; rw [u130]
theorem load130 {G : Nat} {B : Tr Blk} {b off : Nat} : loadO (En G) 130 B (some (.pointer (some ⟨b, off, none⟩))) = loadv B b off := loadO_one agg130
noncomputable def inf130 : TypeInfo := (Tryz.prog.info? 130).getD default
theorem i130 {G : Nat} : (En G).i 130 = some inf130 := En_i.trans <| (envOf_i (by decide)).trans (by kernel_rfl)
theorem size130 : inf130.size = 1 := by kernel_rfl
theorem bytes130 : inf130.bytes = 4 := by kernel_rfl
theorem zero130 : inf130.zero = some (.int .u32 0) := by kernel_rfl
theorem u137 {G : Nat} : (En G).u 137 = some (.int .i64) := En_u.trans <| (envOf_u (by decide)).trans Tryz.underlying137
theorem agg137 {G : Nat} : (En G).agg 137 = some false := by unfold Env.agg; rw [u137]
theorem load137 {G : Nat} {B : Tr Blk} {b off : Nat} : loadO (En G) 137 B (some (.pointer (some ⟨b, off, none⟩))) = loadv B b off := loadO_one agg137
noncomputable def inf137 : TypeInfo := (Tryz.prog.info? 137).getD default
theorem i137 {G : Nat} : (En G).i 137 = some inf137 := En_i.trans <| (envOf_i (by decide)).trans (by kernel_rfl)
theorem size137 : inf137.size = 1 := by kernel_rfl
theorem bytes137 : inf137.bytes = 8 := by kernel_rfl
theorem zero137 : inf137.zero = some (.int .i64 0) := by kernel_rfl
theorem u154 {G : Nat} : (En G).u 154 = some (.pointer 156) := En_u.trans <| (envOf_u (by decide)).trans Tryz.underlying154
theorem agg154 {G : Nat} : (En G).agg 154 = some false := by unfold Env.agg; rw [u154]
theorem load154 {G : Nat} {B : Tr Blk} {b off : Nat} : loadO (En G) 154 B (some (.pointer (some ⟨b, off, none⟩))) = loadv B b off := loadO_one agg154
noncomputable def inf154 : TypeInfo := (Tryz.prog.info? 154).getD default
theorem i154 {G : Nat} : (En G).i 154 = some inf154 := En_i.trans <| (envOf_i (by decide)).trans (by kernel_rfl)
theorem size154 : inf154.size = 1 := by kernel_rfl
theorem bytes154 : inf154.bytes = 8 := by kernel_rfl
theorem zero154 : inf154.zero = some (.pointer none) := by kernel_rfl
noncomputable def inf155 : TypeInfo := (Tryz.prog.info? 155).getD default
theorem i155 {G : Nat} : (En G).i 155 = some inf155 := En_i.trans <| (envOf_i (by decide)).trans (by kernel_rfl)
theorem size155 : inf155.size = 2 := by kernel_rfl
theorem bytes155 : inf155.bytes = 32 := by kernel_rfl
noncomputable def inf156 : TypeInfo := (Tryz.prog.info? 156).getD default
theorem i156 {G : Nat} : (En G).i 156 = some inf156 := En_i.trans <| (envOf_i (by decide)).trans (by kernel_rfl)
theorem size156 : inf156.size = 2 := by kernel_rfl
theorem bytes156 : inf156.bytes = 32 := by kernel_rfl
theorem u164 {G : Nat} : (En G).u 164 = some (.int .u64) := En_u.trans <| (envOf_u (by decide)).trans Tryz.underlying164
theorem agg164 {G : Nat} : (En G).agg 164 = some false := by unfold Env.agg; rw [u164]
theorem load164 {G : Nat} {B : Tr Blk} {b off : Nat} : loadO (En G) 164 B (some (.pointer (some ⟨b, off, none⟩))) = loadv B b off := loadO_one agg164
noncomputable def inf164 : TypeInfo := (Tryz.prog.info? 164).getD default
theorem i164 {G : Nat} : (En G).i 164 = some inf164 := En_i.trans <| (envOf_i (by decide)).trans (by kernel_rfl)
theorem size164 : inf164.size = 1 := by kernel_rfl
theorem bytes164 : inf164.bytes = 8 := by kernel_rfl
theorem zero164 : inf164.zero = some (.int .u64 0) := by kernel_rfl
theorem u168 {G : Nat} : (En G).u 168 = some (.pointer 3) := En_u.trans <| (envOf_u (by decide)).trans Tryz.underlying168
theorem agg168 {G : Nat} : (En G).agg 168 = some false := by unfold Env.agg; rw [u168]
theorem load168 {G : Nat} {B : Tr Blk} {b off : Nat} : loadO (En G) 168 B (some (.pointer (some ⟨b, off, none⟩))) = loadv B b off := loadO_one agg168
noncomputable def inf168 : TypeInfo := (Tryz.prog.info? 168).getD default
theorem i168 {G : Nat} : (En G).i 168 = some inf168 := En_i.trans <| (envOf_i (by decide)).trans (by kernel_rfl)
theorem size168 : inf168.size = 1 := by kernel_rfl
theorem bytes168 : inf168.bytes = 8 := by kernel_rfl
theorem zero168 : inf168.zero = some (.pointer none) := by kernel_rfl
theorem u179 {G : Nat} : (En G).u 179 = some (.pointer 5) := En_u.trans <| (envOf_u (by decide)).trans Tryz.underlying179
theorem agg179 {G : Nat} : (En G).agg 179 = some false := by unfold Env.agg; rw [u179]
theorem load179 {G : Nat} {B : Tr Blk} {b off : Nat} : loadO (En G) 179 B (some (.pointer (some ⟨b, off, none⟩))) = loadv B b off := loadO_one agg179
noncomputable def inf179 : TypeInfo := (Tryz.prog.info? 179).getD default
theorem i179 {G : Nat} : (En G).i 179 = some inf179 := En_i.trans <| (envOf_i (by decide)).trans (by kernel_rfl)
theorem size179 : inf179.size = 1 := by kernel_rfl
theorem bytes179 : inf179.bytes = 8 := by kernel_rfl
theorem zero179 : inf179.zero = some (.pointer none) := by kernel_rfl
theorem u180 {G : Nat} : (En G).u 180 = some (.pointer 164) := En_u.trans <| (envOf_u (by decide)).trans Tryz.underlying180
theorem agg180 {G : Nat} : (En G).agg 180 = some false := by unfold Env.agg; rw [u180]
theorem load180 {G : Nat} {B : Tr Blk} {b off : Nat} : loadO (En G) 180 B (some (.pointer (some ⟨b, off, none⟩))) = loadv B b off := loadO_one agg180
noncomputable def inf180 : TypeInfo := (Tryz.prog.info? 180).getD default
theorem i180 {G : Nat} : (En G).i 180 = some inf180 := En_i.trans <| (envOf_i (by decide)).trans (by kernel_rfl)
theorem size180 : inf180.size = 1 := by kernel_rfl
theorem bytes180 : inf180.bytes = 8 := by kernel_rfl
theorem zero180 : inf180.zero = some (.pointer none) := by kernel_rfl
noncomputable def inf198 : TypeInfo := (Tryz.prog.info? 198).getD default
theorem i198 {G : Nat} : (En G).i 198 = some inf198 := En_i.trans <| (envOf_i (by decide)).trans (by kernel_rfl)
theorem size198 : inf198.size = 4 := by kernel_rfl
theorem bytes198 : inf198.bytes = 40 := by kernel_rfl
noncomputable def inf199 : TypeInfo := (Tryz.prog.info? 199).getD default
theorem i199 {G : Nat} : (En G).i 199 = some inf199 := En_i.trans <| (envOf_i (by decide)).trans (by kernel_rfl)
theorem size199 : inf199.size = 4 := by kernel_rfl
theorem bytes199 : inf199.bytes = 40 := by kernel_rfl
noncomputable def inf201 : TypeInfo := (Tryz.prog.info? 201).getD default
theorem i201 {G : Nat} : (En G).i 201 = some inf201 := En_i.trans <| (envOf_i (by decide)).trans (by kernel_rfl)
theorem size201 : inf201.size = 0 := by kernel_rfl
theorem bytes201 : inf201.bytes = 0 := by kernel_rfl
noncomputable def inf202 : TypeInfo := (Tryz.prog.info? 202).getD default
theorem i202 {G : Nat} : (En G).i 202 = some inf202 := En_i.trans <| (envOf_i (by decide)).trans (by kernel_rfl)
theorem size202 : inf202.size = 0 := by kernel_rfl
theorem bytes202 : inf202.bytes = 0 := by kernel_rfl
theorem u203 {G : Nat} : (En G).u 203 = some (.int .u8) := En_u.trans <| (envOf_u (by decide)).trans Tryz.underlying203
theorem agg203 {G : Nat} : (En G).agg 203 = some false := by unfold Env.agg; rw [u203]
theorem load203 {G : Nat} {B : Tr Blk} {b off : Nat} : loadO (En G) 203 B (some (.pointer (some ⟨b, off, none⟩))) = loadv B b off := loadO_one agg203
noncomputable def inf203 : TypeInfo := (Tryz.prog.info? 203).getD default
theorem i203 {G : Nat} : (En G).i 203 = some inf203 := En_i.trans <| (envOf_i (by decide)).trans (by kernel_rfl)
theorem size203 : inf203.size = 1 := by kernel_rfl
theorem bytes203 : inf203.bytes = 1 := by kernel_rfl
theorem zero203 : inf203.zero = some (.int .u8 0) := by kernel_rfl
theorem u204 {G : Nat} : (En G).u 204 = some (.int .u8) := En_u.trans <| (envOf_u (by decide)).trans Tryz.underlying204
theorem agg204 {G : Nat} : (En G).agg 204 = some false := by unfold Env.agg; rw [u204]
theorem load204 {G : Nat} {B : Tr Blk} {b off : Nat} : loadO (En G) 204 B (some (.pointer (some ⟨b, off, none⟩))) = loadv B b off := loadO_one agg204
noncomputable def inf204 : TypeInfo := (Tryz.prog.info? 204).getD default
theorem i204 {G : Nat} : (En G).i 204 = some inf204 := En_i.trans <| (envOf_i (by decide)).trans (by kernel_rfl)
theorem size204 : inf204.size = 1 := by kernel_rfl
theorem bytes204 : inf204.bytes = 1 := by kernel_rfl
theorem zero204 : inf204.zero = some (.int .u8 0) := by kernel_rfl
theorem u206 {G : Nat} : (En G).u 206 = some (.int .i32) := En_u.trans <| (envOf_u (by decide)).trans Tryz.underlying206
theorem agg206 {G : Nat} : (En G).agg 206 = some false := by unfold Env.agg; rw [u206]
theorem load206 {G : Nat} {B : Tr Blk} {b off : Nat} : loadO (En G) 206 B (some (.pointer (some ⟨b, off, none⟩))) = loadv B b off := loadO_one agg206
noncomputable def inf206 : TypeInfo := (Tryz.prog.info? 206).getD default
theorem i206 {G : Nat} : (En G).i 206 = some inf206 := En_i.trans <| (envOf_i (by decide)).trans (by kernel_rfl)
theorem size206 : inf206.size = 1 := by kernel_rfl
theorem bytes206 : inf206.bytes = 4 := by kernel_rfl
theorem zero206 : inf206.zero = some (.int .i32 0) := by kernel_rfl
theorem u207 {G : Nat} : (En G).u 207 = some (.int .i32) := En_u.trans <| (envOf_u (by decide)).trans Tryz.underlying207
theorem agg207 {G : Nat} : (En G).agg 207 = some false := by unfold Env.agg; rw [u207]
theorem load207 {G : Nat} {B : Tr Blk} {b off : Nat} : loadO (En G) 207 B (some (.pointer (some ⟨b, off, none⟩))) = loadv B b off := loadO_one agg207
noncomputable def inf207 : TypeInfo := (Tryz.prog.info? 207).getD default
theorem i207 {G : Nat} : (En G).i 207 = some inf207 := En_i.trans <| (envOf_i (by decide)).trans (by kernel_rfl)
theorem size207 : inf207.size = 1 := by kernel_rfl
theorem bytes207 : inf207.bytes = 4 := by kernel_rfl
theorem zero207 : inf207.zero = some (.int .i32 0) := by kernel_rfl
noncomputable def inf208 : TypeInfo := (Tryz.prog.info? 208).getD default
theorem i208 {G : Nat} : (En G).i 208 = some inf208 := En_i.trans <| (envOf_i (by decide)).trans (by kernel_rfl)
theorem size208 : inf208.size = 11 := by kernel_rfl
theorem bytes208 : inf208.bytes = 48 := by kernel_rfl
noncomputable def inf209 : TypeInfo := (Tryz.prog.info? 209).getD default
theorem i209 {G : Nat} : (En G).i 209 = some inf209 := En_i.trans <| (envOf_i (by decide)).trans (by kernel_rfl)
theorem size209 : inf209.size = 11 := by kernel_rfl
theorem bytes209 : inf209.bytes = 48 := by kernel_rfl
theorem us7 {G : Nat} : (En G).u 7 = Tryz.prog.underlying 7 := En_u.trans <| envOf_u (by decide)
theorem agg7 {G : Nat} : (En G).agg 7 = some true := by unfold Env.agg; rw [us7, Tryz.underlying7]
theorem us8 {G : Nat} : (En G).u 8 = Tryz.prog.underlying 8 := En_u.trans <| envOf_u (by decide)
theorem agg8 {G : Nat} : (En G).agg 8 = some true := by unfold Env.agg; rw [us8, Tryz.underlying8]
theorem us13 {G : Nat} : (En G).u 13 = Tryz.prog.underlying 13 := En_u.trans <| envOf_u (by decide)
theorem agg13 {G : Nat} : (En G).agg 13 = some true := by unfold Env.agg; rw [us13, Tryz.underlying13]
theorem us14 {G : Nat} : (En G).u 14 = Tryz.prog.underlying 14 := En_u.trans <| envOf_u (by decide)
theorem agg14 {G : Nat} : (En G).agg 14 = some true := by unfold Env.agg; rw [us14, Tryz.underlying14]
theorem us18 {G : Nat} : (En G).u 18 = Tryz.prog.underlying 18 := En_u.trans <| envOf_u (by decide)
theorem agg18 {G : Nat} : (En G).agg 18 = some true := by unfold Env.agg; rw [us18, Tryz.underlying18]
theorem us19 {G : Nat} : (En G).u 19 = Tryz.prog.underlying 19 := En_u.trans <| envOf_u (by decide)
theorem agg19 {G : Nat} : (En G).agg 19 = some true := by unfold Env.agg; rw [us19, Tryz.underlying19]
theorem us23 {G : Nat} : (En G).u 23 = Tryz.prog.underlying 23 := En_u.trans <| envOf_u (by decide)
theorem agg23 {G : Nat} : (En G).agg 23 = some true := by unfold Env.agg; rw [us23, Tryz.underlying23]
theorem us24 {G : Nat} : (En G).u 24 = Tryz.prog.underlying 24 := En_u.trans <| envOf_u (by decide)
theorem agg24 {G : Nat} : (En G).agg 24 = some true := by unfold Env.agg; rw [us24, Tryz.underlying24]
theorem us53 {G : Nat} : (En G).u 53 = Tryz.prog.underlying 53 := En_u.trans <| envOf_u (by decide)
theorem agg53 {G : Nat} : (En G).agg 53 = some true := by unfold Env.agg; rw [us53, Tryz.underlying53]
theorem us54 {G : Nat} : (En G).u 54 = Tryz.prog.underlying 54 := En_u.trans <| envOf_u (by decide)
theorem agg54 {G : Nat} : (En G).agg 54 = some true := by unfold Env.agg; rw [us54, Tryz.underlying54]
theorem u61 {G : Nat} : (En G).u 61 = some (.array 2 55) := En_u.trans <| (envOf_u (by decide)).trans Tryz.underlying61
theorem agg61 {G : Nat} : (En G).agg 61 = some true := by unfold Env.agg; rw [u61]
noncomputable def inf61 : TypeInfo := (Tryz.prog.info? 61).getD default
theorem i61 {G : Nat} : (En G).i 61 = some inf61 := En_i.trans <| (envOf_i (by decide)).trans (by kernel_rfl)
theorem size61 : inf61.size = 2 := by kernel_rfl
theorem bytes61 : inf61.bytes = 48 := by kernel_rfl
theorem u62 {G : Nat} : (En G).u 62 = some (.array 2 5) := En_u.trans <| (envOf_u (by decide)).trans Tryz.underlying62
theorem agg62 {G : Nat} : (En G).agg 62 = some true := by unfold Env.agg; rw [u62]
noncomputable def inf62 : TypeInfo := (Tryz.prog.info? 62).getD default
theorem i62 {G : Nat} : (En G).i 62 = some inf62 := En_i.trans <| (envOf_i (by decide)).trans (by kernel_rfl)
theorem size62 : inf62.size = 2 := by kernel_rfl
theorem bytes62 : inf62.bytes = 2 := by kernel_rfl
theorem u71 {G : Nat} : (En G).u 71 = some (.array 6 4) := En_u.trans <| (envOf_u (by decide)).trans Tryz.underlying71
theorem agg71 {G : Nat} : (En G).agg 71 = some true := by unfold Env.agg; rw [u71]
noncomputable def inf71 : TypeInfo := (Tryz.prog.info? 71).getD default
theorem i71 {G : Nat} : (En G).i 71 = some inf71 := En_i.trans <| (envOf_i (by decide)).trans (by kernel_rfl)
theorem size71 : inf71.size = 6 := by kernel_rfl
theorem bytes71 : inf71.bytes = 6 := by kernel_rfl
theorem u72 {G : Nat} : (En G).u 72 = some (.array 6 71) := En_u.trans <| (envOf_u (by decide)).trans Tryz.underlying72
theorem agg72 {G : Nat} : (En G).agg 72 = some true := by unfold Env.agg; rw [u72]
noncomputable def inf72 : TypeInfo := (Tryz.prog.info? 72).getD default
theorem i72 {G : Nat} : (En G).i 72 = some inf72 := En_i.trans <| (envOf_i (by decide)).trans (by kernel_rfl)
theorem size72 : inf72.size = 36 := by kernel_rfl
theorem bytes72 : inf72.bytes = 36 := by kernel_rfl
theorem us73 {G : Nat} : (En G).u 73 = Tryz.prog.underlying 73 := En_u.trans <| envOf_u (by decide)
theorem agg73 {G : Nat} : (En G).agg 73 = some true := by unfold Env.agg; rw [us73, Tryz.underlying73]
theorem us74 {G : Nat} : (En G).u 74 = Tryz.prog.underlying 74 := En_u.trans <| envOf_u (by decide)
theorem agg74 {G : Nat} : (En G).agg 74 = some true := by unfold Env.agg; rw [us74, Tryz.underlying74]
theorem us81 {G : Nat} : (En G).u 81 = Tryz.prog.underlying 81 := En_u.trans <| envOf_u (by decide)
theorem agg81 {G : Nat} : (En G).agg 81 = some true := by unfold Env.agg; rw [us81, Tryz.underlying81]
theorem us82 {G : Nat} : (En G).u 82 = Tryz.prog.underlying 82 := En_u.trans <| envOf_u (by decide)
theorem agg82 {G : Nat} : (En G).agg 82 = some true := by unfold Env.agg; rw [us82, Tryz.underlying82]
theorem us105 {G : Nat} : (En G).u 105 = Tryz.prog.underlying 105 := En_u.trans <| envOf_u (by decide)
theorem agg105 {G : Nat} : (En G).agg 105 = some true := by unfold Env.agg; rw [us105, Tryz.underlying105]
theorem us106 {G : Nat} : (En G).u 106 = Tryz.prog.underlying 106 := En_u.trans <| envOf_u (by decide)
theorem agg106 {G : Nat} : (En G).agg 106 = some true := by unfold Env.agg; rw [us106, Tryz.underlying106]
theorem u114 {G : Nat} : (En G).u 114 = some (.array 6 3) := En_u.trans <| (envOf_u (by decide)).trans Tryz.underlying114
theorem agg114 {G : Nat} : (En G).agg 114 = some true := by unfold Env.agg; rw [u114]
noncomputable def inf114 : TypeInfo := (Tryz.prog.info? 114).getD default
theorem i114 {G : Nat} : (En G).i 114 = some inf114 := En_i.trans <| (envOf_i (by decide)).trans (by kernel_rfl)
theorem size114 : inf114.size = 6 := by kernel_rfl
theorem bytes114 : inf114.bytes = 48 := by kernel_rfl
theorem us155 {G : Nat} : (En G).u 155 = Tryz.prog.underlying 155 := En_u.trans <| envOf_u (by decide)
theorem agg155 {G : Nat} : (En G).agg 155 = some true := by unfold Env.agg; rw [us155, Tryz.underlying155]
theorem us156 {G : Nat} : (En G).u 156 = Tryz.prog.underlying 156 := En_u.trans <| envOf_u (by decide)
theorem agg156 {G : Nat} : (En G).agg 156 = some true := by unfold Env.agg; rw [us156, Tryz.underlying156]
theorem u185 {G : Nat} : (En G).u 185 = some (.array 24 5) := En_u.trans <| (envOf_u (by decide)).trans Tryz.underlying185
theorem agg185 {G : Nat} : (En G).agg 185 = some true := by unfold Env.agg; rw [u185]
noncomputable def inf185 : TypeInfo := (Tryz.prog.info? 185).getD default
theorem i185 {G : Nat} : (En G).i 185 = some inf185 := En_i.trans <| (envOf_i (by decide)).trans (by kernel_rfl)
theorem size185 : inf185.size = 24 := by kernel_rfl
theorem bytes185 : inf185.bytes = 24 := by kernel_rfl
theorem u194 {G : Nat} : (En G).u 194 = some (.array 20 125) := En_u.trans <| (envOf_u (by decide)).trans Tryz.underlying194
theorem agg194 {G : Nat} : (En G).agg 194 = some true := by unfold Env.agg; rw [u194]
noncomputable def inf194 : TypeInfo := (Tryz.prog.info? 194).getD default
theorem i194 {G : Nat} : (En G).i 194 = some inf194 := En_i.trans <| (envOf_i (by decide)).trans (by kernel_rfl)
theorem size194 : inf194.size = 20 := by kernel_rfl
theorem bytes194 : inf194.bytes = 160 := by kernel_rfl
theorem u195 {G : Nat} : (En G).u 195 = some (.array 65 5) := En_u.trans <| (envOf_u (by decide)).trans Tryz.underlying195
theorem agg195 {G : Nat} : (En G).agg 195 = some true := by unfold Env.agg; rw [u195]
noncomputable def inf195 : TypeInfo := (Tryz.prog.info? 195).getD default
theorem i195 {G : Nat} : (En G).i 195 = some inf195 := En_i.trans <| (envOf_i (by decide)).trans (by kernel_rfl)
theorem size195 : inf195.size = 65 := by kernel_rfl
theorem bytes195 : inf195.bytes = 65 := by kernel_rfl
theorem u196 {G : Nat} : (En G).u 196 = some (.array 32 5) := En_u.trans <| (envOf_u (by decide)).trans Tryz.underlying196
theorem agg196 {G : Nat} : (En G).agg 196 = some true := by unfold Env.agg; rw [u196]
noncomputable def inf196 : TypeInfo := (Tryz.prog.info? 196).getD default
theorem i196 {G : Nat} : (En G).i 196 = some inf196 := En_i.trans <| (envOf_i (by decide)).trans (by kernel_rfl)
theorem size196 : inf196.size = 32 := by kernel_rfl
theorem bytes196 : inf196.bytes = 32 := by kernel_rfl
theorem u197 {G : Nat} : (En G).u 197 = some (.array 64 5) := En_u.trans <| (envOf_u (by decide)).trans Tryz.underlying197
theorem agg197 {G : Nat} : (En G).agg 197 = some true := by unfold Env.agg; rw [u197]
noncomputable def inf197 : TypeInfo := (Tryz.prog.info? 197).getD default
theorem i197 {G : Nat} : (En G).i 197 = some inf197 := En_i.trans <| (envOf_i (by decide)).trans (by kernel_rfl)
theorem size197 : inf197.size = 64 := by kernel_rfl
theorem bytes197 : inf197.bytes = 64 := by kernel_rfl
theorem us198 {G : Nat} : (En G).u 198 = Tryz.prog.underlying 198 := En_u.trans <| envOf_u (by decide)
theorem agg198 {G : Nat} : (En G).agg 198 = some true := by unfold Env.agg; rw [us198, Tryz.underlying198]
theorem us199 {G : Nat} : (En G).u 199 = Tryz.prog.underlying 199 := En_u.trans <| envOf_u (by decide)
theorem agg199 {G : Nat} : (En G).agg 199 = some true := by unfold Env.agg; rw [us199, Tryz.underlying199]
theorem u200 {G : Nat} : (En G).u 200 = some (.array 0 16) := En_u.trans <| (envOf_u (by decide)).trans Tryz.underlying200
theorem agg200 {G : Nat} : (En G).agg 200 = some true := by unfold Env.agg; rw [u200]
noncomputable def inf200 : TypeInfo := (Tryz.prog.info? 200).getD default
theorem i200 {G : Nat} : (En G).i 200 = some inf200 := En_i.trans <| (envOf_i (by decide)).trans (by kernel_rfl)
theorem size200 : inf200.size = 0 := by kernel_rfl
theorem bytes200 : inf200.bytes = 0 := by kernel_rfl
theorem us201 {G : Nat} : (En G).u 201 = Tryz.prog.underlying 201 := En_u.trans <| envOf_u (by decide)
theorem agg201 {G : Nat} : (En G).agg 201 = some true := by unfold Env.agg; rw [us201, Tryz.underlying201]
theorem us202 {G : Nat} : (En G).u 202 = Tryz.prog.underlying 202 := En_u.trans <| envOf_u (by decide)
theorem agg202 {G : Nat} : (En G).agg 202 = some true := by unfold Env.agg; rw [us202, Tryz.underlying202]
theorem us208 {G : Nat} : (En G).u 208 = Tryz.prog.underlying 208 := En_u.trans <| envOf_u (by decide)
theorem agg208 {G : Nat} : (En G).agg 208 = some true := by unfold Env.agg; rw [us208, Tryz.underlying208]
theorem us209 {G : Nat} : (En G).u 209 = Tryz.prog.underlying 209 := En_u.trans <| envOf_u (by decide)
theorem agg209 {G : Nat} : (En G).agg 209 = some true := by unfold Env.agg; rw [us209, Tryz.underlying209]
theorem idxA22 {G b off n c : Nat} {kd : IntKind} {z : Int} (h0 : 0 ≤ z) (h1 : z < n) : idxAddrO (En G) 22 (some (.slice (some ⟨b, off, none⟩) n c)) (some (.int kd z)) = some (.pointer (some ⟨b, off + z.toNat * 2, none⟩)) := by
  rw [idxAddrO_slice u22 i82 h0 h1, size82]
theorem idxA40 {G b off n c : Nat} {kd : IntKind} {z : Int} (h0 : 0 ≤ z) (h1 : z < n) : idxAddrO (En G) 40 (some (.slice (some ⟨b, off, none⟩) n c)) (some (.int kd z)) = some (.pointer (some ⟨b, off + z.toNat * 1, none⟩)) := by
  rw [idxAddrO_slice u40 i9 h0 h1, size9]
theorem idxA47 {G b off n c : Nat} {kd : IntKind} {z : Int} (h0 : 0 ≤ z) (h1 : z < n) : idxAddrO (En G) 47 (some (.slice (some ⟨b, off, none⟩) n c)) (some (.int kd z)) = some (.pointer (some ⟨b, off + z.toNat * 1, none⟩)) := by
  rw [idxAddrO_slice u47 i3 h0 h1, size3]
theorem idxA55 {G b off n c : Nat} {kd : IntKind} {z : Int} (h0 : 0 ≤ z) (h1 : z < n) : idxAddrO (En G) 55 (some (.slice (some ⟨b, off, none⟩) n c)) (some (.int kd z)) = some (.pointer (some ⟨b, off + z.toNat * 1, none⟩)) := by
  rw [idxAddrO_slice u55 i5 h0 h1, size5]
theorem idxA79 {G b off n c : Nat} {kd : IntKind} {z : Int} (h0 : 0 ≤ z) (h1 : z < n) : idxAddrO (En G) 79 (some (.slice (some ⟨b, off, none⟩) n c)) (some (.int kd z)) = some (.pointer (some ⟨b, off + z.toNat * 1, none⟩)) := by
  rw [idxAddrO_slice u79 i28 h0 h1, size28]
theorem idxA103 {G b off n c : Nat} {kd : IntKind} {z : Int} (h0 : 0 ≤ z) (h1 : z < n) : idxAddrO (En G) 103 (some (.slice (some ⟨b, off, none⟩) n c)) (some (.int kd z)) = some (.pointer (some ⟨b, off + z.toNat * 1, none⟩)) := by
  rw [idxAddrO_slice u103 i130 h0 h1, size130]
theorem idxA104 {G b off n c : Nat} {kd : IntKind} {z : Int} (h0 : 0 ≤ z) (h1 : z < n) : idxAddrO (En G) 104 (some (.slice (some ⟨b, off, none⟩) n c)) (some (.int kd z)) = some (.pointer (some ⟨b, off + z.toNat * 1, none⟩)) := by
  rw [idxAddrO_slice u104 i130 h0 h1, size130]
theorem idxA112 {G b off n c : Nat} {kd : IntKind} {z : Int} (h0 : 0 ≤ z) (h1 : z < n) : idxAddrO (En G) 112 (some (.slice (some ⟨b, off, none⟩) n c)) (some (.int kd z)) = some (.pointer (some ⟨b, off + z.toNat * 1, none⟩)) := by
  rw [idxAddrO_slice u112 i55 h0 h1, size55]
theorem idxA117 {G b off n c : Nat} {kd : IntKind} {z : Int} (h0 : 0 ≤ z) (h1 : z < n) : idxAddrO (En G) 117 (some (.slice (some ⟨b, off, none⟩) n c)) (some (.int kd z)) = some (.pointer (some ⟨b, off + z.toNat * 3, none⟩)) := by
  rw [idxAddrO_slice u117 i106 h0 h1, size106]
theorem fld7_0 {G b off : Nat} : fieldAddrO (En G) 7 0 (some (.pointer (some ⟨b, off, none⟩))) = some (.pointer (some ⟨b, off + 0, none⟩)) := by
  simp only [fieldAddrO, evFieldAddr, us7, Tryz.underlying7, List.getElem?_toArray, List.getElem?_cons_zero, List.getElem?_cons_succ, i2, size2, forceN_eq]
  rfl
theorem fld7_1 {G b off : Nat} : fieldAddrO (En G) 7 1 (some (.pointer (some ⟨b, off, none⟩))) = some (.pointer (some ⟨b, off + 1, none⟩)) := by
  simp only [fieldAddrO, evFieldAddr, us7, Tryz.underlying7, List.getElem?_toArray, List.getElem?_cons_zero, List.getElem?_cons_succ, i3, size3, forceN_eq]
  rfl
theorem fld7_2 {G b off : Nat} : fieldAddrO (En G) 7 2 (some (.pointer (some ⟨b, off, none⟩))) = some (.pointer (some ⟨b, off + 2, none⟩)) := by
  simp only [fieldAddrO, evFieldAddr, us7, Tryz.underlying7, List.getElem?_toArray, List.getElem?_cons_zero, List.getElem?_cons_succ, i4, size4, forceN_eq]
  rfl
theorem fld7_3 {G b off : Nat} : fieldAddrO (En G) 7 3 (some (.pointer (some ⟨b, off, none⟩))) = some (.pointer (some ⟨b, off + 3, none⟩)) := by
  simp only [fieldAddrO, evFieldAddr, us7, Tryz.underlying7, List.getElem?_toArray, List.getElem?_cons_zero, List.getElem?_cons_succ, i6, size6, forceN_eq]
  rfl
theorem fld8_0 {G b off : Nat} : fieldAddrO (En G) 8 0 (some (.pointer (some ⟨b, off, none⟩))) = some (.pointer (some ⟨b, off + 0, none⟩)) := by
  simp only [fieldAddrO, evFieldAddr, us8, Tryz.underlying8, List.getElem?_toArray, List.getElem?_cons_zero, List.getElem?_cons_succ, i2, size2, forceN_eq]
  rfl
theorem fld8_1 {G b off : Nat} : fieldAddrO (En G) 8 1 (some (.pointer (some ⟨b, off, none⟩))) = some (.pointer (some ⟨b, off + 1, none⟩)) := by
  simp only [fieldAddrO, evFieldAddr, us8, Tryz.underlying8, List.getElem?_toArray, List.getElem?_cons_zero, List.getElem?_cons_succ, i3, size3, forceN_eq]
  rfl
theorem fld8_2 {G b off : Nat} : fieldAddrO (En G) 8 2 (some (.pointer (some ⟨b, off, none⟩))) = some (.pointer (some ⟨b, off + 2, none⟩)) := by
  simp only [fieldAddrO, evFieldAddr, us8, Tryz.underlying8, List.getElem?_toArray, List.getElem?_cons_zero, List.getElem?_cons_succ, i4, size4, forceN_eq]
  rfl
theorem fld8_3 {G b off : Nat} : fieldAddrO (En G) 8 3 (some (.pointer (some ⟨b, off, none⟩))) = some (.pointer (some ⟨b, off + 3, none⟩)) := by
  simp only [fieldAddrO, evFieldAddr, us8, Tryz.underlying8, List.getElem?_toArray, List.getElem?_cons_zero, List.getElem?_cons_succ, i6, size6, forceN_eq]
  rfl
theorem fld13_0 {G b off : Nat} : fieldAddrO (En G) 13 0 (some (.pointer (some ⟨b, off, none⟩))) = some (.pointer (some ⟨b, off + 0, none⟩)) := by
  simp only [fieldAddrO, evFieldAddr, us13, Tryz.underlying13, List.getElem?_toArray, List.getElem?_cons_zero, List.getElem?_cons_succ, i9, size9, forceN_eq]
  rfl
theorem fld13_1 {G b off : Nat} : fieldAddrO (En G) 13 1 (some (.pointer (some ⟨b, off, none⟩))) = some (.pointer (some ⟨b, off + 1, none⟩)) := by
  simp only [fieldAddrO, evFieldAddr, us13, Tryz.underlying13, List.getElem?_toArray, List.getElem?_cons_zero, List.getElem?_cons_succ, i12, size12, forceN_eq]
  rfl
theorem fld14_0 {G b off : Nat} : fieldAddrO (En G) 14 0 (some (.pointer (some ⟨b, off, none⟩))) = some (.pointer (some ⟨b, off + 0, none⟩)) := by
  simp only [fieldAddrO, evFieldAddr, us14, Tryz.underlying14, List.getElem?_toArray, List.getElem?_cons_zero, List.getElem?_cons_succ, i9, size9, forceN_eq]
  rfl
theorem fld14_1 {G b off : Nat} : fieldAddrO (En G) 14 1 (some (.pointer (some ⟨b, off, none⟩))) = some (.pointer (some ⟨b, off + 1, none⟩)) := by
  simp only [fieldAddrO, evFieldAddr, us14, Tryz.underlying14, List.getElem?_toArray, List.getElem?_cons_zero, List.getElem?_cons_succ, i12, size12, forceN_eq]
  rfl
theorem fld18_0 {G b off : Nat} : fieldAddrO (En G) 18 0 (some (.pointer (some ⟨b, off, none⟩))) = some (.pointer (some ⟨b, off + 0, none⟩)) := by
  simp only [fieldAddrO, evFieldAddr, us18, Tryz.underlying18, List.getElem?_toArray, List.getElem?_cons_zero, List.getElem?_cons_succ, i17, size17, forceN_eq]
  rfl
theorem fld19_0 {G b off : Nat} : fieldAddrO (En G) 19 0 (some (.pointer (some ⟨b, off, none⟩))) = some (.pointer (some ⟨b, off + 0, none⟩)) := by
  simp only [fieldAddrO, evFieldAddr, us19, Tryz.underlying19, List.getElem?_toArray, List.getElem?_cons_zero, List.getElem?_cons_succ, i17, size17, forceN_eq]
  rfl
theorem fld23_0 {G b off : Nat} : fieldAddrO (En G) 23 0 (some (.pointer (some ⟨b, off, none⟩))) = some (.pointer (some ⟨b, off + 0, none⟩)) := by
  simp only [fieldAddrO, evFieldAddr, us23, Tryz.underlying23, List.getElem?_toArray, List.getElem?_cons_zero, List.getElem?_cons_succ, i3, size3, forceN_eq]
  rfl
theorem fld23_1 {G b off : Nat} : fieldAddrO (En G) 23 1 (some (.pointer (some ⟨b, off, none⟩))) = some (.pointer (some ⟨b, off + 1, none⟩)) := by
  simp only [fieldAddrO, evFieldAddr, us23, Tryz.underlying23, List.getElem?_toArray, List.getElem?_cons_zero, List.getElem?_cons_succ, i22, size22, forceN_eq]
  rfl
theorem fld24_0 {G b off : Nat} : fieldAddrO (En G) 24 0 (some (.pointer (some ⟨b, off, none⟩))) = some (.pointer (some ⟨b, off + 0, none⟩)) := by
  simp only [fieldAddrO, evFieldAddr, us24, Tryz.underlying24, List.getElem?_toArray, List.getElem?_cons_zero, List.getElem?_cons_succ, i3, size3, forceN_eq]
  rfl
theorem fld24_1 {G b off : Nat} : fieldAddrO (En G) 24 1 (some (.pointer (some ⟨b, off, none⟩))) = some (.pointer (some ⟨b, off + 1, none⟩)) := by
  simp only [fieldAddrO, evFieldAddr, us24, Tryz.underlying24, List.getElem?_toArray, List.getElem?_cons_zero, List.getElem?_cons_succ, i22, size22, forceN_eq]
  rfl
theorem fld53_0 {G b off : Nat} : fieldAddrO (En G) 53 0 (some (.pointer (some ⟨b, off, none⟩))) = some (.pointer (some ⟨b, off + 0, none⟩)) := by
  simp only [fieldAddrO, evFieldAddr, us53, Tryz.underlying53, List.getElem?_toArray, List.getElem?_cons_zero, List.getElem?_cons_succ, i5, size5, forceN_eq]
  rfl
theorem fld53_1 {G b off : Nat} : fieldAddrO (En G) 53 1 (some (.pointer (some ⟨b, off, none⟩))) = some (.pointer (some ⟨b, off + 1, none⟩)) := by
  simp only [fieldAddrO, evFieldAddr, us53, Tryz.underlying53, List.getElem?_toArray, List.getElem?_cons_zero, List.getElem?_cons_succ, i52, size52, forceN_eq]
  rfl
theorem fld54_0 {G b off : Nat} : fieldAddrO (En G) 54 0 (some (.pointer (some ⟨b, off, none⟩))) = some (.pointer (some ⟨b, off + 0, none⟩)) := by
  simp only [fieldAddrO, evFieldAddr, us54, Tryz.underlying54, List.getElem?_toArray, List.getElem?_cons_zero, List.getElem?_cons_succ, i5, size5, forceN_eq]
  rfl
theorem fld54_1 {G b off : Nat} : fieldAddrO (En G) 54 1 (some (.pointer (some ⟨b, off, none⟩))) = some (.pointer (some ⟨b, off + 1, none⟩)) := by
  simp only [fieldAddrO, evFieldAddr, us54, Tryz.underlying54, List.getElem?_toArray, List.getElem?_cons_zero, List.getElem?_cons_succ, i52, size52, forceN_eq]
  rfl
theorem idxP61 {G b off : Nat} {kd : IntKind} {z : Int} (h0 : 0 ≤ z) (h1 : z < 2) : idxAddrO (En G) 61 (some (.pointer (some ⟨b, off, none⟩))) (some (.int kd z)) = some (.pointer (some ⟨b, off + z.toNat * 1, none⟩)) := by
  simp only [idxAddrO, evIndexAddr, u61, idx_ok (n := 2) h0 (by omega), i55, forceN_eq, size55]
theorem idxP62 {G b off : Nat} {kd : IntKind} {z : Int} (h0 : 0 ≤ z) (h1 : z < 2) : idxAddrO (En G) 62 (some (.pointer (some ⟨b, off, none⟩))) (some (.int kd z)) = some (.pointer (some ⟨b, off + z.toNat * 1, none⟩)) := by
  simp only [idxAddrO, evIndexAddr, u62, idx_ok (n := 2) h0 (by omega), i5, forceN_eq, size5]
theorem idxP71 {G b off : Nat} {kd : IntKind} {z : Int} (h0 : 0 ≤ z) (h1 : z < 6) : idxAddrO (En G) 71 (some (.pointer (some ⟨b, off, none⟩))) (some (.int kd z)) = some (.pointer (some ⟨b, off + z.toNat * 1, none⟩)) := by
  simp only [idxAddrO, evIndexAddr, u71, idx_ok (n := 6) h0 (by omega), i4, forceN_eq, size4]
theorem idxP72 {G b off : Nat} {kd : IntKind} {z : Int} (h0 : 0 ≤ z) (h1 : z < 6) : idxAddrO (En G) 72 (some (.pointer (some ⟨b, off, none⟩))) (some (.int kd z)) = some (.pointer (some ⟨b, off + z.toNat * 6, none⟩)) := by
  simp only [idxAddrO, evIndexAddr, u72, idx_ok (n := 6) h0 (by omega), i71, forceN_eq, size71]
theorem fld73_0 {G b off : Nat} : fieldAddrO (En G) 73 0 (some (.pointer (some ⟨b, off, none⟩))) = some (.pointer (some ⟨b, off + 0, none⟩)) := by
  simp only [fieldAddrO, evFieldAddr, us73, Tryz.underlying73, List.getElem?_toArray, List.getElem?_cons_zero, List.getElem?_cons_succ, i3, size3, forceN_eq]
  rfl
theorem fld73_1 {G b off : Nat} : fieldAddrO (En G) 73 1 (some (.pointer (some ⟨b, off, none⟩))) = some (.pointer (some ⟨b, off + 1, none⟩)) := by
  simp only [fieldAddrO, evFieldAddr, us73, Tryz.underlying73, List.getElem?_toArray, List.getElem?_cons_zero, List.getElem?_cons_succ, i72, size72, forceN_eq]
  rfl
theorem fld74_0 {G b off : Nat} : fieldAddrO (En G) 74 0 (some (.pointer (some ⟨b, off, none⟩))) = some (.pointer (some ⟨b, off + 0, none⟩)) := by
  simp only [fieldAddrO, evFieldAddr, us74, Tryz.underlying74, List.getElem?_toArray, List.getElem?_cons_zero, List.getElem?_cons_succ, i3, size3, forceN_eq]
  rfl
theorem fld74_1 {G b off : Nat} : fieldAddrO (En G) 74 1 (some (.pointer (some ⟨b, off, none⟩))) = some (.pointer (some ⟨b, off + 1, none⟩)) := by
  simp only [fieldAddrO, evFieldAddr, us74, Tryz.underlying74, List.getElem?_toArray, List.getElem?_cons_zero, List.getElem?_cons_succ, i72, size72, forceN_eq]
  rfl
theorem fld81_0 {G b off : Nat} : fieldAddrO (En G) 81 0 (some (.pointer (some ⟨b, off, none⟩))) = some (.pointer (some ⟨b, off + 0, none⟩)) := by
  simp only [fieldAddrO, evFieldAddr, us81, Tryz.underlying81, List.getElem?_toArray, List.getElem?_cons_zero, List.getElem?_cons_succ, i3, size3, forceN_eq]
  rfl
theorem fld81_1 {G b off : Nat} : fieldAddrO (En G) 81 1 (some (.pointer (some ⟨b, off, none⟩))) = some (.pointer (some ⟨b, off + 1, none⟩)) := by
  simp only [fieldAddrO, evFieldAddr, us81, Tryz.underlying81, List.getElem?_toArray, List.getElem?_cons_zero, List.getElem?_cons_succ, i3, size3, forceN_eq]
  rfl
theorem fld82_0 {G b off : Nat} : fieldAddrO (En G) 82 0 (some (.pointer (some ⟨b, off, none⟩))) = some (.pointer (some ⟨b, off + 0, none⟩)) := by
  simp only [fieldAddrO, evFieldAddr, us82, Tryz.underlying82, List.getElem?_toArray, List.getElem?_cons_zero, List.getElem?_cons_succ, i3, size3, forceN_eq]
  rfl
theorem fld82_1 {G b off : Nat} : fieldAddrO (En G) 82 1 (some (.pointer (some ⟨b, off, none⟩))) = some (.pointer (some ⟨b, off + 1, none⟩)) := by
  simp only [fieldAddrO, evFieldAddr, us82, Tryz.underlying82, List.getElem?_toArray, List.getElem?_cons_zero, List.getElem?_cons_succ, i3, size3, forceN_eq]
  rfl
theorem fld105_0 {G b off : Nat} : fieldAddrO (En G) 105 0 (some (.pointer (some ⟨b, off, none⟩))) = some (.pointer (some ⟨b, off + 0, none⟩)) := by
  simp only [fieldAddrO, evFieldAddr, us105, Tryz.underlying105, List.getElem?_toArray, List.getElem?_cons_zero, List.getElem?_cons_succ, i4, size4, forceN_eq]
  rfl
theorem fld105_1 {G b off : Nat} : fieldAddrO (En G) 105 1 (some (.pointer (some ⟨b, off, none⟩))) = some (.pointer (some ⟨b, off + 1, none⟩)) := by
  simp only [fieldAddrO, evFieldAddr, us105, Tryz.underlying105, List.getElem?_toArray, List.getElem?_cons_zero, List.getElem?_cons_succ, i104, size104, forceN_eq]
  rfl
theorem fld105_2 {G b off : Nat} : fieldAddrO (En G) 105 2 (some (.pointer (some ⟨b, off, none⟩))) = some (.pointer (some ⟨b, off + 2, none⟩)) := by
  simp only [fieldAddrO, evFieldAddr, us105, Tryz.underlying105, List.getElem?_toArray, List.getElem?_cons_zero, List.getElem?_cons_succ, i104, size104, forceN_eq]
  rfl
theorem fld106_0 {G b off : Nat} : fieldAddrO (En G) 106 0 (some (.pointer (some ⟨b, off, none⟩))) = some (.pointer (some ⟨b, off + 0, none⟩)) := by
  simp only [fieldAddrO, evFieldAddr, us106, Tryz.underlying106, List.getElem?_toArray, List.getElem?_cons_zero, List.getElem?_cons_succ, i4, size4, forceN_eq]
  rfl
theorem fld106_1 {G b off : Nat} : fieldAddrO (En G) 106 1 (some (.pointer (some ⟨b, off, none⟩))) = some (.pointer (some ⟨b, off + 1, none⟩)) := by
  simp only [fieldAddrO, evFieldAddr, us106, Tryz.underlying106, List.getElem?_toArray, List.getElem?_cons_zero, List.getElem?_cons_succ, i104, size104, forceN_eq]
  rfl
theorem fld106_2 {G b off : Nat} : fieldAddrO (En G) 106 2 (some (.pointer (some ⟨b, off, none⟩))) = some (.pointer (some ⟨b, off + 2, none⟩)) := by
  simp only [fieldAddrO, evFieldAddr, us106, Tryz.underlying106, List.getElem?_toArray, List.getElem?_cons_zero, List.getElem?_cons_succ, i104, size104, forceN_eq]
  rfl
theorem idxP114 {G b off : Nat} {kd : IntKind} {z : Int} (h0 : 0 ≤ z) (h1 : z < 6) : idxAddrO (En G) 114 (some (.pointer (some ⟨b, off, none⟩))) (some (.int kd z)) = some (.pointer (some ⟨b, off + z.toNat * 1, none⟩)) := by
  simp only [idxAddrO, evIndexAddr, u114, idx_ok (n := 6) h0 (by omega), i3, forceN_eq, size3]
theorem fld155_0 {G b off : Nat} : fieldAddrO (En G) 155 0 (some (.pointer (some ⟨b, off, none⟩))) = some (.pointer (some ⟨b, off + 0, none⟩)) := by
  simp only [fieldAddrO, evFieldAddr, us155, Tryz.underlying155, List.getElem?_toArray, List.getElem?_cons_zero, List.getElem?_cons_succ, i154, size154, forceN_eq]
  rfl
theorem fld155_1 {G b off : Nat} : fieldAddrO (En G) 155 1 (some (.pointer (some ⟨b, off, none⟩))) = some (.pointer (some ⟨b, off + 1, none⟩)) := by
  simp only [fieldAddrO, evFieldAddr, us155, Tryz.underlying155, List.getElem?_toArray, List.getElem?_cons_zero, List.getElem?_cons_succ, i55, size55, forceN_eq]
  rfl
theorem fld156_0 {G b off : Nat} : fieldAddrO (En G) 156 0 (some (.pointer (some ⟨b, off, none⟩))) = some (.pointer (some ⟨b, off + 0, none⟩)) := by
  simp only [fieldAddrO, evFieldAddr, us156, Tryz.underlying156, List.getElem?_toArray, List.getElem?_cons_zero, List.getElem?_cons_succ, i154, size154, forceN_eq]
  rfl
theorem fld156_1 {G b off : Nat} : fieldAddrO (En G) 156 1 (some (.pointer (some ⟨b, off, none⟩))) = some (.pointer (some ⟨b, off + 1, none⟩)) := by
  simp only [fieldAddrO, evFieldAddr, us156, Tryz.underlying156, List.getElem?_toArray, List.getElem?_cons_zero, List.getElem?_cons_succ, i55, size55, forceN_eq]
  rfl
theorem idxP185 {G b off : Nat} {kd : IntKind} {z : Int} (h0 : 0 ≤ z) (h1 : z < 24) : idxAddrO (En G) 185 (some (.pointer (some ⟨b, off, none⟩))) (some (.int kd z)) = some (.pointer (some ⟨b, off + z.toNat * 1, none⟩)) := by
  simp only [idxAddrO, evIndexAddr, u185, idx_ok (n := 24) h0 (by omega), i5, forceN_eq, size5]
theorem idxP194 {G b off : Nat} {kd : IntKind} {z : Int} (h0 : 0 ≤ z) (h1 : z < 20) : idxAddrO (En G) 194 (some (.pointer (some ⟨b, off, none⟩))) (some (.int kd z)) = some (.pointer (some ⟨b, off + z.toNat * 1, none⟩)) := by
  simp only [idxAddrO, evIndexAddr, u194, idx_ok (n := 20) h0 (by omega), i125, forceN_eq, size125]
theorem idxP195 {G b off : Nat} {kd : IntKind} {z : Int} (h0 : 0 ≤ z) (h1 : z < 65) : idxAddrO (En G) 195 (some (.pointer (some ⟨b, off, none⟩))) (some (.int kd z)) = some (.pointer (some ⟨b, off + z.toNat * 1, none⟩)) := by
  simp only [idxAddrO, evIndexAddr, u195, idx_ok (n := 65) h0 (by omega), i5, forceN_eq, size5]
theorem idxP196 {G b off : Nat} {kd : IntKind} {z : Int} (h0 : 0 ≤ z) (h1 : z < 32) : idxAddrO (En G) 196 (some (.pointer (some ⟨b, off, none⟩))) (some (.int kd z)) = some (.pointer (some ⟨b, off + z.toNat * 1, none⟩)) := by
  simp only [idxAddrO, evIndexAddr, u196, idx_ok (n := 32) h0 (by omega), i5, forceN_eq, size5]
theorem idxP197 {G b off : Nat} {kd : IntKind} {z : Int} (h0 : 0 ≤ z) (h1 : z < 64) : idxAddrO (En G) 197 (some (.pointer (some ⟨b, off, none⟩))) (some (.int kd z)) = some (.pointer (some ⟨b, off + z.toNat * 1, none⟩)) := by
  simp only [idxAddrO, evIndexAddr, u197, idx_ok (n := 64) h0 (by omega), i5, forceN_eq, size5]
theorem fld198_0 {G b off : Nat} : fieldAddrO (En G) 198 0 (some (.pointer (some ⟨b, off, none⟩))) = some (.pointer (some ⟨b, off + 0, none⟩)) := by
  simp only [fieldAddrO, evFieldAddr, us198, Tryz.underlying198, List.getElem?_toArray, List.getElem?_cons_zero, List.getElem?_cons_succ, i17, size17, forceN_eq]
  rfl
theorem fld198_1 {G b off : Nat} : fieldAddrO (En G) 198 1 (some (.pointer (some ⟨b, off, none⟩))) = some (.pointer (some ⟨b, off + 1, none⟩)) := by
  simp only [fieldAddrO, evFieldAddr, us198, Tryz.underlying198, List.getElem?_toArray, List.getElem?_cons_zero, List.getElem?_cons_succ, i17, size17, forceN_eq]
  rfl
theorem fld198_2 {G b off : Nat} : fieldAddrO (En G) 198 2 (some (.pointer (some ⟨b, off, none⟩))) = some (.pointer (some ⟨b, off + 2, none⟩)) := by
  simp only [fieldAddrO, evFieldAddr, us198, Tryz.underlying198, List.getElem?_toArray, List.getElem?_cons_zero, List.getElem?_cons_succ, i17, size17, forceN_eq]
  rfl
theorem fld198_3 {G b off : Nat} : fieldAddrO (En G) 198 3 (some (.pointer (some ⟨b, off, none⟩))) = some (.pointer (some ⟨b, off + 3, none⟩)) := by
  simp only [fieldAddrO, evFieldAddr, us198, Tryz.underlying198, List.getElem?_toArray, List.getElem?_cons_zero, List.getElem?_cons_succ, i9, size9, forceN_eq]
  rfl
theorem fld199_0 {G b off : Nat} : fieldAddrO (En G) 199 0 (some (.pointer (some ⟨b, off, none⟩))) = some (.pointer (some ⟨b, off + 0, none⟩)) := by
  simp only [fieldAddrO, evFieldAddr, us199, Tryz.underlying199, List.getElem?_toArray, List.getElem?_cons_zero, List.getElem?_cons_succ, i17, size17, forceN_eq]
  rfl
theorem fld199_1 {G b off : Nat} : fieldAddrO (En G) 199 1 (some (.pointer (some ⟨b, off, none⟩))) = some (.pointer (some ⟨b, off + 1, none⟩)) := by
  simp only [fieldAddrO, evFieldAddr, us199, Tryz.underlying199, List.getElem?_toArray, List.getElem?_cons_zero, List.getElem?_cons_succ, i17, size17, forceN_eq]
  rfl
theorem fld199_2 {G b off : Nat} : fieldAddrO (En G) 199 2 (some (.pointer (some ⟨b, off, none⟩))) = some (.pointer (some ⟨b, off + 2, none⟩)) := by
  simp only [fieldAddrO, evFieldAddr, us199, Tryz.underlying199, List.getElem?_toArray, List.getElem?_cons_zero, List.getElem?_cons_succ, i17, size17, forceN_eq]
  rfl
theorem fld199_3 {G b off : Nat} : fieldAddrO (En G) 199 3 (some (.pointer (some ⟨b, off, none⟩))) = some (.pointer (some ⟨b, off + 3, none⟩)) := by
  simp only [fieldAddrO, evFieldAddr, us199, Tryz.underlying199, List.getElem?_toArray, List.getElem?_cons_zero, List.getElem?_cons_succ, i9, size9, forceN_eq]
  rfl
theorem idxP200 {G b off : Nat} {kd : IntKind} {z : Int} (h0 : 0 ≤ z) (h1 : z < 0) : idxAddrO (En G) 200 (some (.pointer (some ⟨b, off, none⟩))) (some (.int kd z)) = some (.pointer (some ⟨b, off + z.toNat * 1, none⟩)) := by
  simp only [idxAddrO, evIndexAddr, u200, idx_ok (n := 0) h0 (by omega), i16, forceN_eq, size16]
theorem fld208_0 {G b off : Nat} : fieldAddrO (En G) 208 0 (some (.pointer (some ⟨b, off, none⟩))) = some (.pointer (some ⟨b, off + 0, none⟩)) := by
  simp only [fieldAddrO, evFieldAddr, us208, Tryz.underlying208, List.getElem?_toArray, List.getElem?_cons_zero, List.getElem?_cons_succ, i12, size12, forceN_eq]
  rfl
theorem fld208_1 {G b off : Nat} : fieldAddrO (En G) 208 1 (some (.pointer (some ⟨b, off, none⟩))) = some (.pointer (some ⟨b, off + 1, none⟩)) := by
  simp only [fieldAddrO, evFieldAddr, us208, Tryz.underlying208, List.getElem?_toArray, List.getElem?_cons_zero, List.getElem?_cons_succ, i12, size12, forceN_eq]
  rfl
theorem fld208_2 {G b off : Nat} : fieldAddrO (En G) 208 2 (some (.pointer (some ⟨b, off, none⟩))) = some (.pointer (some ⟨b, off + 2, none⟩)) := by
  simp only [fieldAddrO, evFieldAddr, us208, Tryz.underlying208, List.getElem?_toArray, List.getElem?_cons_zero, List.getElem?_cons_succ, i130, size130, forceN_eq]
  rfl
theorem fld208_3 {G b off : Nat} : fieldAddrO (En G) 208 3 (some (.pointer (some ⟨b, off, none⟩))) = some (.pointer (some ⟨b, off + 3, none⟩)) := by
  simp only [fieldAddrO, evFieldAddr, us208, Tryz.underlying208, List.getElem?_toArray, List.getElem?_cons_zero, List.getElem?_cons_succ, i203, size203, forceN_eq]
  rfl
theorem fld208_4 {G b off : Nat} : fieldAddrO (En G) 208 4 (some (.pointer (some ⟨b, off, none⟩))) = some (.pointer (some ⟨b, off + 4, none⟩)) := by
  simp only [fieldAddrO, evFieldAddr, us208, Tryz.underlying208, List.getElem?_toArray, List.getElem?_cons_zero, List.getElem?_cons_succ, i5, size5, forceN_eq]
  rfl
theorem fld208_5 {G b off : Nat} : fieldAddrO (En G) 208 5 (some (.pointer (some ⟨b, off, none⟩))) = some (.pointer (some ⟨b, off + 5, none⟩)) := by
  simp only [fieldAddrO, evFieldAddr, us208, Tryz.underlying208, List.getElem?_toArray, List.getElem?_cons_zero, List.getElem?_cons_succ, i5, size5, forceN_eq]
  rfl
theorem fld208_6 {G b off : Nat} : fieldAddrO (En G) 208 6 (some (.pointer (some ⟨b, off, none⟩))) = some (.pointer (some ⟨b, off + 6, none⟩)) := by
  simp only [fieldAddrO, evFieldAddr, us208, Tryz.underlying208, List.getElem?_toArray, List.getElem?_cons_zero, List.getElem?_cons_succ, i204, size204, forceN_eq]
  rfl
theorem fld208_8 {G b off : Nat} : fieldAddrO (En G) 208 8 (some (.pointer (some ⟨b, off, none⟩))) = some (.pointer (some ⟨b, off + 8, none⟩)) := by
  simp only [fieldAddrO, evFieldAddr, us208, Tryz.underlying208, List.getElem?_toArray, List.getElem?_cons_zero, List.getElem?_cons_succ, i179, size179, forceN_eq]
  rfl
theorem fld208_9 {G b off : Nat} : fieldAddrO (En G) 208 9 (some (.pointer (some ⟨b, off, none⟩))) = some (.pointer (some ⟨b, off + 9, none⟩)) := by
  simp only [fieldAddrO, evFieldAddr, us208, Tryz.underlying208, List.getElem?_toArray, List.getElem?_cons_zero, List.getElem?_cons_succ, i206, size206, forceN_eq]
  rfl
theorem fld208_10 {G b off : Nat} : fieldAddrO (En G) 208 10 (some (.pointer (some ⟨b, off, none⟩))) = some (.pointer (some ⟨b, off + 10, none⟩)) := by
  simp only [fieldAddrO, evFieldAddr, us208, Tryz.underlying208, List.getElem?_toArray, List.getElem?_cons_zero, List.getElem?_cons_succ, i207, size207, forceN_eq]
  rfl
theorem fld209_0 {G b off : Nat} : fieldAddrO (En G) 209 0 (some (.pointer (some ⟨b, off, none⟩))) = some (.pointer (some ⟨b, off + 0, none⟩)) := by
  simp only [fieldAddrO, evFieldAddr, us209, Tryz.underlying209, List.getElem?_toArray, List.getElem?_cons_zero, List.getElem?_cons_succ, i12, size12, forceN_eq]
  rfl
theorem fld209_1 {G b off : Nat} : fieldAddrO (En G) 209 1 (some (.pointer (some ⟨b, off, none⟩))) = some (.pointer (some ⟨b, off + 1, none⟩)) := by
  simp only [fieldAddrO, evFieldAddr, us209, Tryz.underlying209, List.getElem?_toArray, List.getElem?_cons_zero, List.getElem?_cons_succ, i12, size12, forceN_eq]
  rfl
theorem fld209_2 {G b off : Nat} : fieldAddrO (En G) 209 2 (some (.pointer (some ⟨b, off, none⟩))) = some (.pointer (some ⟨b, off + 2, none⟩)) := by
  simp only [fieldAddrO, evFieldAddr, us209, Tryz.underlying209, List.getElem?_toArray, List.getElem?_cons_zero, List.getElem?_cons_succ, i130, size130, forceN_eq]
  rfl
theorem fld209_3 {G b off : Nat} : fieldAddrO (En G) 209 3 (some (.pointer (some ⟨b, off, none⟩))) = some (.pointer (some ⟨b, off + 3, none⟩)) := by
  simp only [fieldAddrO, evFieldAddr, us209, Tryz.underlying209, List.getElem?_toArray, List.getElem?_cons_zero, List.getElem?_cons_succ, i203, size203, forceN_eq]
  rfl
theorem fld209_4 {G b off : Nat} : fieldAddrO (En G) 209 4 (some (.pointer (some ⟨b, off, none⟩))) = some (.pointer (some ⟨b, off + 4, none⟩)) := by
  simp only [fieldAddrO, evFieldAddr, us209, Tryz.underlying209, List.getElem?_toArray, List.getElem?_cons_zero, List.getElem?_cons_succ, i5, size5, forceN_eq]
  rfl
theorem fld209_5 {G b off : Nat} : fieldAddrO (En G) 209 5 (some (.pointer (some ⟨b, off, none⟩))) = some (.pointer (some ⟨b, off + 5, none⟩)) := by
  simp only [fieldAddrO, evFieldAddr, us209, Tryz.underlying209, List.getElem?_toArray, List.getElem?_cons_zero, List.getElem?_cons_succ, i5, size5, forceN_eq]
  rfl
theorem fld209_6 {G b off : Nat} : fieldAddrO (En G) 209 6 (some (.pointer (some ⟨b, off, none⟩))) = some (.pointer (some ⟨b, off + 6, none⟩)) := by
  simp only [fieldAddrO, evFieldAddr, us209, Tryz.underlying209, List.getElem?_toArray, List.getElem?_cons_zero, List.getElem?_cons_succ, i204, size204, forceN_eq]
  rfl
theorem fld209_8 {G b off : Nat} : fieldAddrO (En G) 209 8 (some (.pointer (some ⟨b, off, none⟩))) = some (.pointer (some ⟨b, off + 8, none⟩)) := by
  simp only [fieldAddrO, evFieldAddr, us209, Tryz.underlying209, List.getElem?_toArray, List.getElem?_cons_zero, List.getElem?_cons_succ, i179, size179, forceN_eq]
  rfl
theorem fld209_9 {G b off : Nat} : fieldAddrO (En G) 209 9 (some (.pointer (some ⟨b, off, none⟩))) = some (.pointer (some ⟨b, off + 9, none⟩)) := by
  simp only [fieldAddrO, evFieldAddr, us209, Tryz.underlying209, List.getElem?_toArray, List.getElem?_cons_zero, List.getElem?_cons_succ, i206, size206, forceN_eq]
  rfl
theorem fld209_10 {G b off : Nat} : fieldAddrO (En G) 209 10 (some (.pointer (some ⟨b, off, none⟩))) = some (.pointer (some ⟨b, off + 10, none⟩)) := by
  simp only [fieldAddrO, evFieldAddr, us209, Tryz.underlying209, List.getElem?_toArray, List.getElem?_cons_zero, List.getElem?_cons_succ, i207, size207, forceN_eq]
  rfl
end
end Go.Proofs.YtnjbcgiplfdgmaaGreatDoor.Ev
