/- Facts of the program's types, for symbolic runs. By program. -/
import Derived.Test.YtdgdemiifloliaaGreatDoorProg
import Derived.Test.YtdgdemiifloliaaGreatDoorPmSS
import Derived.Test.YtdgdemiifloliaaGreatDoorPmNTabs
import Derived.KernelRfl
set_option linter.unusedSimpArgs false
namespace Go.Proofs.YtdgdemiifloliaaGreatDoor.Ev
open Go Go.Proofs
noncomputable section

/-- the program's types and functions; so many blocks are only read -/
noncomputable def En (G : Nat) : Env := withKnown (envOf Tryz.prog 280 4 G) (Tr.put .e 18 (.bool true)) tabs
theorem En_u {G t : Nat} : (En G).u t = (envOf Tryz.prog 280 4 G).u t := withKnown_u
theorem En_i {G t : Nat} : (En G).i t = (envOf Tryz.prog 280 4 G).i t := withKnown_i
theorem En_G {G : Nat} : (En G).G = G := withKnown_G
theorem En_iters {G : Nat} : (En G).iters = Tr.e := withKnown_iters
instance {G : Nat} : NoFz (En G) := ⟨withKnown_fzl.trans envOf_fzl⟩
theorem En_known {G f : Nat} (h : f ≠ 18) : (En G).known.get f = none := by
  have e : (En G).known = Tr.put Tr.e 18 (Value.bool true) := withKnown_known
  rw [e, Tr.get_put, if_neg h]
  rfl
theorem En_lives {G : Nat} : (En G).known.get 18 = some (.bool true) := by
  have e : (En G).known = Tr.put Tr.e 18 (Value.bool true) := withKnown_known
  rw [e, Tr.get_put, if_pos rfl]


theorem mixed : Tryz.prog.follows .mixedOrders = true := by kernel_rfl
theorem En_f {G : Nat} {f : FuncId} : (En G).fns.get f = Tryz.prog.funcs[f]? := by
  have : (En G).fns = (envOf Tryz.prog 280 4 G).fns := withKnown_f
  rw [this]; exact envOf_f

theorem u2 {G : Nat} : (En G).u 2 = some (.int .i64) := En_u.trans <| (envOf_u (by decide)).trans Tryz.underlying2
theorem agg2 {G : Nat} : (En G).agg 2 = some false := by unfold Env.agg; rw [u2]
theorem load2 {G : Nat} {B : Tr Blk} {b off : Nat} : loadO (En G) 2 B (some (.pointer (some ⟨b, off, none⟩))) = loadv B b off := loadO_one agg2
noncomputable def inf2 : TypeInfo := (Tryz.prog.info? 2).getD default
theorem i2 {G : Nat} : (En G).i 2 = some inf2 := En_i.trans <| (envOf_i (by decide)).trans (by kernel_rfl)
theorem size2 : inf2.size = 1 := by kernel_rfl
theorem bytes2 : inf2.bytes = 8 := by kernel_rfl
theorem zero2 : inf2.zero = some (.int .i64 0) := by kernel_rfl
theorem u3 {G : Nat} : (En G).u 3 = some (.int .i64) := En_u.trans <| (envOf_u (by decide)).trans Tryz.underlying3
theorem agg3 {G : Nat} : (En G).agg 3 = some false := by unfold Env.agg; rw [u3]
theorem load3 {G : Nat} {B : Tr Blk} {b off : Nat} : loadO (En G) 3 B (some (.pointer (some ⟨b, off, none⟩))) = loadv B b off := loadO_one agg3
noncomputable def inf3 : TypeInfo := (Tryz.prog.info? 3).getD default
theorem i3 {G : Nat} : (En G).i 3 = some inf3 := En_i.trans <| (envOf_i (by decide)).trans (by kernel_rfl)
theorem size3 : inf3.size = 1 := by kernel_rfl
theorem bytes3 : inf3.bytes = 8 := by kernel_rfl
theorem zero3 : inf3.zero = some (.int .i64 0) := by kernel_rfl
theorem u4 {G : Nat} : (En G).u 4 = some (.bool) := En_u.trans <| (envOf_u (by decide)).trans Tryz.underlying4
theorem agg4 {G : Nat} : (En G).agg 4 = some false := by unfold Env.agg; rw [u4]
theorem load4 {G : Nat} {B : Tr Blk} {b off : Nat} : loadO (En G) 4 B (some (.pointer (some ⟨b, off, none⟩))) = loadv B b off := loadO_one agg4
noncomputable def inf4 : TypeInfo := (Tryz.prog.info? 4).getD default
theorem i4 {G : Nat} : (En G).i 4 = some inf4 := En_i.trans <| (envOf_i (by decide)).trans (by kernel_rfl)
theorem size4 : inf4.size = 1 := by kernel_rfl
theorem bytes4 : inf4.bytes = 1 := by kernel_rfl
theorem zero4 : inf4.zero = some (.bool false) := by kernel_rfl
theorem u5 {G : Nat} : (En G).u 5 = some (.int .u8) := En_u.trans <| (envOf_u (by decide)).trans Tryz.underlying5
theorem agg5 {G : Nat} : (En G).agg 5 = some false := by unfold Env.agg; rw [u5]
theorem load5 {G : Nat} {B : Tr Blk} {b off : Nat} : loadO (En G) 5 B (some (.pointer (some ⟨b, off, none⟩))) = loadv B b off := loadO_one agg5
noncomputable def inf5 : TypeInfo := (Tryz.prog.info? 5).getD default
theorem i5 {G : Nat} : (En G).i 5 = some inf5 := En_i.trans <| (envOf_i (by decide)).trans (by kernel_rfl)
theorem size5 : inf5.size = 1 := by kernel_rfl
theorem bytes5 : inf5.bytes = 1 := by kernel_rfl
theorem zero5 : inf5.zero = some (.int .u8 0) := by kernel_rfl
theorem u6 {G : Nat} : (En G).u 6 = some (.int .u8) := En_u.trans <| (envOf_u (by decide)).trans Tryz.underlying6
theorem agg6 {G : Nat} : (En G).agg 6 = some false := by unfold Env.agg; rw [u6]
theorem load6 {G : Nat} {B : Tr Blk} {b off : Nat} : loadO (En G) 6 B (some (.pointer (some ⟨b, off, none⟩))) = loadv B b off := loadO_one agg6
noncomputable def inf6 : TypeInfo := (Tryz.prog.info? 6).getD default
theorem i6 {G : Nat} : (En G).i 6 = some inf6 := En_i.trans <| (envOf_i (by decide)).trans (by kernel_rfl)
theorem size6 : inf6.size = 1 := by kernel_rfl
theorem bytes6 : inf6.bytes = 1 := by kernel_rfl
theorem zero6 : inf6.zero = some (.int .u8 0) := by kernel_rfl
noncomputable def inf7 : TypeInfo := (Tryz.prog.info? 7).getD default
theorem i7 {G : Nat} : (En G).i 7 = some inf7 := En_i.trans <| (envOf_i (by decide)).trans (by kernel_rfl)
theorem size7 : inf7.size = 4 := by kernel_rfl
theorem bytes7 : inf7.bytes = 24 := by kernel_rfl
noncomputable def inf8 : TypeInfo := (Tryz.prog.info? 8).getD default
theorem i8 {G : Nat} : (En G).i 8 = some inf8 := En_i.trans <| (envOf_i (by decide)).trans (by kernel_rfl)
theorem size8 : inf8.size = 4 := by kernel_rfl
theorem bytes8 : inf8.bytes = 24 := by kernel_rfl
theorem u9 {G : Nat} : (En G).u 9 = some (.string) := En_u.trans <| (envOf_u (by decide)).trans Tryz.underlying9
theorem agg9 {G : Nat} : (En G).agg 9 = some false := by unfold Env.agg; rw [u9]
theorem load9 {G : Nat} {B : Tr Blk} {b off : Nat} : loadO (En G) 9 B (some (.pointer (some ⟨b, off, none⟩))) = loadv B b off := loadO_one agg9
noncomputable def inf9 : TypeInfo := (Tryz.prog.info? 9).getD default
theorem i9 {G : Nat} : (En G).i 9 = some inf9 := En_i.trans <| (envOf_i (by decide)).trans (by kernel_rfl)
theorem size9 : inf9.size = 1 := by kernel_rfl
theorem bytes9 : inf9.bytes = 16 := by kernel_rfl
theorem zero9 : inf9.zero = some (.string .empty) := by kernel_rfl
theorem u10 {G : Nat} : (En G).u 10 = some (.string) := En_u.trans <| (envOf_u (by decide)).trans Tryz.underlying10
theorem agg10 {G : Nat} : (En G).agg 10 = some false := by unfold Env.agg; rw [u10]
theorem load10 {G : Nat} {B : Tr Blk} {b off : Nat} : loadO (En G) 10 B (some (.pointer (some ⟨b, off, none⟩))) = loadv B b off := loadO_one agg10
noncomputable def inf10 : TypeInfo := (Tryz.prog.info? 10).getD default
theorem i10 {G : Nat} : (En G).i 10 = some inf10 := En_i.trans <| (envOf_i (by decide)).trans (by kernel_rfl)
theorem size10 : inf10.size = 1 := by kernel_rfl
theorem bytes10 : inf10.bytes = 16 := by kernel_rfl
theorem zero10 : inf10.zero = some (.string .empty) := by kernel_rfl
theorem u11 {G : Nat} : (En G).u 11 = some (.string) := En_u.trans <| (envOf_u (by decide)).trans Tryz.underlying11
theorem agg11 {G : Nat} : (En G).agg 11 = some false := by unfold Env.agg; rw [u11]
theorem load11 {G : Nat} {B : Tr Blk} {b off : Nat} : loadO (En G) 11 B (some (.pointer (some ⟨b, off, none⟩))) = loadv B b off := loadO_one agg11
noncomputable def inf11 : TypeInfo := (Tryz.prog.info? 11).getD default
theorem i11 {G : Nat} : (En G).i 11 = some inf11 := En_i.trans <| (envOf_i (by decide)).trans (by kernel_rfl)
theorem size11 : inf11.size = 1 := by kernel_rfl
theorem bytes11 : inf11.bytes = 16 := by kernel_rfl
theorem zero11 : inf11.zero = some (.string .empty) := by kernel_rfl
theorem u12 {G : Nat} : (En G).u 12 = some (.int .u64) := En_u.trans <| (envOf_u (by decide)).trans Tryz.underlying12
theorem agg12 {G : Nat} : (En G).agg 12 = some false := by unfold Env.agg; rw [u12]
theorem load12 {G : Nat} {B : Tr Blk} {b off : Nat} : loadO (En G) 12 B (some (.pointer (some ⟨b, off, none⟩))) = loadv B b off := loadO_one agg12
noncomputable def inf12 : TypeInfo := (Tryz.prog.info? 12).getD default
theorem i12 {G : Nat} : (En G).i 12 = some inf12 := En_i.trans <| (envOf_i (by decide)).trans (by kernel_rfl)
theorem size12 : inf12.size = 1 := by kernel_rfl
theorem bytes12 : inf12.bytes = 8 := by kernel_rfl
theorem zero12 : inf12.zero = some (.int .u64 0) := by kernel_rfl
noncomputable def inf13 : TypeInfo := (Tryz.prog.info? 13).getD default
theorem i13 {G : Nat} : (En G).i 13 = some inf13 := En_i.trans <| (envOf_i (by decide)).trans (by kernel_rfl)
theorem size13 : inf13.size = 2 := by kernel_rfl
theorem bytes13 : inf13.bytes = 24 := by kernel_rfl
noncomputable def inf14 : TypeInfo := (Tryz.prog.info? 14).getD default
theorem i14 {G : Nat} : (En G).i 14 = some inf14 := En_i.trans <| (envOf_i (by decide)).trans (by kernel_rfl)
theorem size14 : inf14.size = 2 := by kernel_rfl
theorem bytes14 : inf14.bytes = 24 := by kernel_rfl
theorem u15 {G : Nat} : (En G).u 15 = some (.pointer 269) := En_u.trans <| (envOf_u (by decide)).trans Tryz.underlying15
theorem agg15 {G : Nat} : (En G).agg 15 = some false := by unfold Env.agg; rw [u15]
theorem load15 {G : Nat} {B : Tr Blk} {b off : Nat} : loadO (En G) 15 B (some (.pointer (some ⟨b, off, none⟩))) = loadv B b off := loadO_one agg15
noncomputable def inf15 : TypeInfo := (Tryz.prog.info? 15).getD default
theorem i15 {G : Nat} : (En G).i 15 = some inf15 := En_i.trans <| (envOf_i (by decide)).trans (by kernel_rfl)
theorem size15 : inf15.size = 1 := by kernel_rfl
theorem bytes15 : inf15.bytes = 8 := by kernel_rfl
theorem zero15 : inf15.zero = some (.pointer none) := by kernel_rfl
theorem u16 {G : Nat} : (En G).u 16 = some (.pointer 272) := En_u.trans <| (envOf_u (by decide)).trans Tryz.underlying16
theorem agg16 {G : Nat} : (En G).agg 16 = some false := by unfold Env.agg; rw [u16]
theorem load16 {G : Nat} {B : Tr Blk} {b off : Nat} : loadO (En G) 16 B (some (.pointer (some ⟨b, off, none⟩))) = loadv B b off := loadO_one agg16
noncomputable def inf16 : TypeInfo := (Tryz.prog.info? 16).getD default
theorem i16 {G : Nat} : (En G).i 16 = some inf16 := En_i.trans <| (envOf_i (by decide)).trans (by kernel_rfl)
theorem size16 : inf16.size = 1 := by kernel_rfl
theorem bytes16 : inf16.bytes = 8 := by kernel_rfl
theorem zero16 : inf16.zero = some (.pointer none) := by kernel_rfl
theorem u17 {G : Nat} : (En G).u 17 = some (.pointer 279) := En_u.trans <| (envOf_u (by decide)).trans Tryz.underlying17
theorem agg17 {G : Nat} : (En G).agg 17 = some false := by unfold Env.agg; rw [u17]
theorem load17 {G : Nat} {B : Tr Blk} {b off : Nat} : loadO (En G) 17 B (some (.pointer (some ⟨b, off, none⟩))) = loadv B b off := loadO_one agg17
noncomputable def inf17 : TypeInfo := (Tryz.prog.info? 17).getD default
theorem i17 {G : Nat} : (En G).i 17 = some inf17 := En_i.trans <| (envOf_i (by decide)).trans (by kernel_rfl)
theorem size17 : inf17.size = 1 := by kernel_rfl
theorem bytes17 : inf17.bytes = 8 := by kernel_rfl
theorem zero17 : inf17.zero = some (.pointer none) := by kernel_rfl
noncomputable def inf18 : TypeInfo := (Tryz.prog.info? 18).getD default
theorem i18 {G : Nat} : (En G).i 18 = some inf18 := En_i.trans <| (envOf_i (by decide)).trans (by kernel_rfl)
theorem size18 : inf18.size = 1 := by kernel_rfl
theorem bytes18 : inf18.bytes = 8 := by kernel_rfl
noncomputable def inf19 : TypeInfo := (Tryz.prog.info? 19).getD default
theorem i19 {G : Nat} : (En G).i 19 = some inf19 := En_i.trans <| (envOf_i (by decide)).trans (by kernel_rfl)
theorem size19 : inf19.size = 1 := by kernel_rfl
theorem bytes19 : inf19.bytes = 8 := by kernel_rfl
theorem u21 {G : Nat} : (En G).u 21 = some (.int .i32) := En_u.trans <| (envOf_u (by decide)).trans Tryz.underlying21
theorem agg21 {G : Nat} : (En G).agg 21 = some false := by unfold Env.agg; rw [u21]
theorem load21 {G : Nat} {B : Tr Blk} {b off : Nat} : loadO (En G) 21 B (some (.pointer (some ⟨b, off, none⟩))) = loadv B b off := loadO_one agg21
noncomputable def inf21 : TypeInfo := (Tryz.prog.info? 21).getD default
theorem i21 {G : Nat} : (En G).i 21 = some inf21 := En_i.trans <| (envOf_i (by decide)).trans (by kernel_rfl)
theorem size21 : inf21.size = 1 := by kernel_rfl
theorem bytes21 : inf21.bytes = 4 := by kernel_rfl
theorem zero21 : inf21.zero = some (.int .i32 0) := by kernel_rfl
theorem u22 {G : Nat} : (En G).u 22 = some (.slice 24) := En_u.trans <| (envOf_u (by decide)).trans Tryz.underlying22
theorem agg22 {G : Nat} : (En G).agg 22 = some false := by unfold Env.agg; rw [u22]
theorem load22 {G : Nat} {B : Tr Blk} {b off : Nat} : loadO (En G) 22 B (some (.pointer (some ⟨b, off, none⟩))) = loadv B b off := loadO_one agg22
noncomputable def inf22 : TypeInfo := (Tryz.prog.info? 22).getD default
theorem i22 {G : Nat} : (En G).i 22 = some inf22 := En_i.trans <| (envOf_i (by decide)).trans (by kernel_rfl)
theorem size22 : inf22.size = 1 := by kernel_rfl
theorem bytes22 : inf22.bytes = 24 := by kernel_rfl
theorem zero22 : inf22.zero = some (.slice none 0 0) := by kernel_rfl
theorem len22 {G n c : Nat} {A : Option Addr} : lenO (En G) 22 (some (.slice A n c)) = some (.int .i64 n) := lenO_slice u22
theorem u24 {G : Nat} : (En G).u 24 = some (.slice 3) := En_u.trans <| (envOf_u (by decide)).trans Tryz.underlying24
theorem agg24 {G : Nat} : (En G).agg 24 = some false := by unfold Env.agg; rw [u24]
theorem load24 {G : Nat} {B : Tr Blk} {b off : Nat} : loadO (En G) 24 B (some (.pointer (some ⟨b, off, none⟩))) = loadv B b off := loadO_one agg24
noncomputable def inf24 : TypeInfo := (Tryz.prog.info? 24).getD default
theorem i24 {G : Nat} : (En G).i 24 = some inf24 := En_i.trans <| (envOf_i (by decide)).trans (by kernel_rfl)
theorem size24 : inf24.size = 1 := by kernel_rfl
theorem bytes24 : inf24.bytes = 24 := by kernel_rfl
theorem zero24 : inf24.zero = some (.slice none 0 0) := by kernel_rfl
theorem len24 {G n c : Nat} {A : Option Addr} : lenO (En G) 24 (some (.slice A n c)) = some (.int .i64 n) := lenO_slice u24
theorem u25 {G : Nat} : (En G).u 25 = some (.int .i64) := En_u.trans <| (envOf_u (by decide)).trans Tryz.underlying25
theorem agg25 {G : Nat} : (En G).agg 25 = some false := by unfold Env.agg; rw [u25]
theorem load25 {G : Nat} {B : Tr Blk} {b off : Nat} : loadO (En G) 25 B (some (.pointer (some ⟨b, off, none⟩))) = loadv B b off := loadO_one agg25
noncomputable def inf25 : TypeInfo := (Tryz.prog.info? 25).getD default
theorem i25 {G : Nat} : (En G).i 25 = some inf25 := En_i.trans <| (envOf_i (by decide)).trans (by kernel_rfl)
theorem size25 : inf25.size = 1 := by kernel_rfl
theorem bytes25 : inf25.bytes = 8 := by kernel_rfl
theorem zero25 : inf25.zero = some (.int .i64 0) := by kernel_rfl
theorem u32 {G : Nat} : (En G).u 32 = some (.slice 72) := En_u.trans <| (envOf_u (by decide)).trans Tryz.underlying32
theorem agg32 {G : Nat} : (En G).agg 32 = some false := by unfold Env.agg; rw [u32]
theorem load32 {G : Nat} {B : Tr Blk} {b off : Nat} : loadO (En G) 32 B (some (.pointer (some ⟨b, off, none⟩))) = loadv B b off := loadO_one agg32
noncomputable def inf32 : TypeInfo := (Tryz.prog.info? 32).getD default
theorem i32 {G : Nat} : (En G).i 32 = some inf32 := En_i.trans <| (envOf_i (by decide)).trans (by kernel_rfl)
theorem size32 : inf32.size = 1 := by kernel_rfl
theorem bytes32 : inf32.bytes = 24 := by kernel_rfl
theorem zero32 : inf32.zero = some (.slice none 0 0) := by kernel_rfl
theorem len32 {G n c : Nat} {A : Option Addr} : lenO (En G) 32 (some (.slice A n c)) = some (.int .i64 n) := lenO_slice u32
theorem u42 {G : Nat} : (En G).u 42 = some (.slice 52) := En_u.trans <| (envOf_u (by decide)).trans Tryz.underlying42
theorem agg42 {G : Nat} : (En G).agg 42 = some false := by unfold Env.agg; rw [u42]
theorem load42 {G : Nat} {B : Tr Blk} {b off : Nat} : loadO (En G) 42 B (some (.pointer (some ⟨b, off, none⟩))) = loadv B b off := loadO_one agg42
noncomputable def inf42 : TypeInfo := (Tryz.prog.info? 42).getD default
theorem i42 {G : Nat} : (En G).i 42 = some inf42 := En_i.trans <| (envOf_i (by decide)).trans (by kernel_rfl)
theorem size42 : inf42.size = 1 := by kernel_rfl
theorem bytes42 : inf42.bytes = 24 := by kernel_rfl
theorem zero42 : inf42.zero = some (.slice none 0 0) := by kernel_rfl
theorem len42 {G n c : Nat} {A : Option Addr} : lenO (En G) 42 (some (.slice A n c)) = some (.int .i64 n) := lenO_slice u42
theorem u48 {G : Nat} : (En G).u 48 = some (.slice 53) := En_u.trans <| (envOf_u (by decide)).trans Tryz.underlying48
theorem agg48 {G : Nat} : (En G).agg 48 = some false := by unfold Env.agg; rw [u48]
theorem load48 {G : Nat} {B : Tr Blk} {b off : Nat} : loadO (En G) 48 B (some (.pointer (some ⟨b, off, none⟩))) = loadv B b off := loadO_one agg48
noncomputable def inf48 : TypeInfo := (Tryz.prog.info? 48).getD default
theorem i48 {G : Nat} : (En G).i 48 = some inf48 := En_i.trans <| (envOf_i (by decide)).trans (by kernel_rfl)
theorem size48 : inf48.size = 1 := by kernel_rfl
theorem bytes48 : inf48.bytes = 24 := by kernel_rfl
theorem zero48 : inf48.zero = some (.slice none 0 0) := by kernel_rfl
theorem len48 {G n c : Nat} {A : Option Addr} : lenO (En G) 48 (some (.slice A n c)) = some (.int .i64 n) := lenO_slice u48
theorem u52 {G : Nat} : (En G).u 52 = some (.slice 58) := En_u.trans <| (envOf_u (by decide)).trans Tryz.underlying52
theorem agg52 {G : Nat} : (En G).agg 52 = some false := by unfold Env.agg; rw [u52]
theorem load52 {G : Nat} {B : Tr Blk} {b off : Nat} : loadO (En G) 52 B (some (.pointer (some ⟨b, off, none⟩))) = loadv B b off := loadO_one agg52
noncomputable def inf52 : TypeInfo := (Tryz.prog.info? 52).getD default
theorem i52 {G : Nat} : (En G).i 52 = some inf52 := En_i.trans <| (envOf_i (by decide)).trans (by kernel_rfl)
theorem size52 : inf52.size = 1 := by kernel_rfl
theorem bytes52 : inf52.bytes = 24 := by kernel_rfl
theorem zero52 : inf52.zero = some (.slice none 0 0) := by kernel_rfl
theorem len52 {G n c : Nat} {A : Option Addr} : lenO (En G) 52 (some (.slice A n c)) = some (.int .i64 n) := lenO_slice u52
theorem u53 {G : Nat} : (En G).u 53 = some (.slice 62) := En_u.trans <| (envOf_u (by decide)).trans Tryz.underlying53
theorem agg53 {G : Nat} : (En G).agg 53 = some false := by unfold Env.agg; rw [u53]
theorem load53 {G : Nat} {B : Tr Blk} {b off : Nat} : loadO (En G) 53 B (some (.pointer (some ⟨b, off, none⟩))) = loadv B b off := loadO_one agg53
noncomputable def inf53 : TypeInfo := (Tryz.prog.info? 53).getD default
theorem i53 {G : Nat} : (En G).i 53 = some inf53 := En_i.trans <| (envOf_i (by decide)).trans (by kernel_rfl)
theorem size53 : inf53.size = 1 := by kernel_rfl
theorem bytes53 : inf53.bytes = 24 := by kernel_rfl
theorem zero53 : inf53.zero = some (.slice none 0 0) := by kernel_rfl
theorem len53 {G n c : Nat} {A : Option Addr} : lenO (En G) 53 (some (.slice A n c)) = some (.int .i64 n) := lenO_slice u53
theorem u54 {G : Nat} : (En G).u 54 = some (.slice 5) := En_u.trans <| (envOf_u (by decide)).trans Tryz.underlying54
theorem agg54 {G : Nat} : (En G).agg 54 = some false := by unfold Env.agg; rw [u54]
theorem load54 {G : Nat} {B : Tr Blk} {b off : Nat} : loadO (En G) 54 B (some (.pointer (some ⟨b, off, none⟩))) = loadv B b off := loadO_one agg54
noncomputable def inf54 : TypeInfo := (Tryz.prog.info? 54).getD default
theorem i54 {G : Nat} : (En G).i 54 = some inf54 := En_i.trans <| (envOf_i (by decide)).trans (by kernel_rfl)
theorem size54 : inf54.size = 1 := by kernel_rfl
theorem bytes54 : inf54.bytes = 24 := by kernel_rfl
theorem zero54 : inf54.zero = some (.slice none 0 0) := by kernel_rfl
theorem len54 {G n c : Nat} {A : Option Addr} : lenO (En G) 54 (some (.slice A n c)) = some (.int .i64 n) := lenO_slice u54
theorem u55 {G : Nat} : (En G).u 55 = some (.slice 105) := En_u.trans <| (envOf_u (by decide)).trans Tryz.underlying55
theorem agg55 {G : Nat} : (En G).agg 55 = some false := by unfold Env.agg; rw [u55]
theorem load55 {G : Nat} {B : Tr Blk} {b off : Nat} : loadO (En G) 55 B (some (.pointer (some ⟨b, off, none⟩))) = loadv B b off := loadO_one agg55
noncomputable def inf55 : TypeInfo := (Tryz.prog.info? 55).getD default
theorem i55 {G : Nat} : (En G).i 55 = some inf55 := En_i.trans <| (envOf_i (by decide)).trans (by kernel_rfl)
theorem size55 : inf55.size = 1 := by kernel_rfl
theorem bytes55 : inf55.bytes = 24 := by kernel_rfl
theorem zero55 : inf55.zero = some (.slice none 0 0) := by kernel_rfl
theorem len55 {G n c : Nat} {A : Option Addr} : lenO (En G) 55 (some (.slice A n c)) = some (.int .i64 n) := lenO_slice u55
theorem u58 {G : Nat} : (En G).u 58 = some (.string) := En_u.trans <| (envOf_u (by decide)).trans Tryz.underlying58
theorem agg58 {G : Nat} : (En G).agg 58 = some false := by unfold Env.agg; rw [u58]
theorem load58 {G : Nat} {B : Tr Blk} {b off : Nat} : loadO (En G) 58 B (some (.pointer (some ⟨b, off, none⟩))) = loadv B b off := loadO_one agg58
noncomputable def inf58 : TypeInfo := (Tryz.prog.info? 58).getD default
theorem i58 {G : Nat} : (En G).i 58 = some inf58 := En_i.trans <| (envOf_i (by decide)).trans (by kernel_rfl)
theorem size58 : inf58.size = 1 := by kernel_rfl
theorem bytes58 : inf58.bytes = 16 := by kernel_rfl
theorem zero58 : inf58.zero = some (.string .empty) := by kernel_rfl
noncomputable def inf59 : TypeInfo := (Tryz.prog.info? 59).getD default
theorem i59 {G : Nat} : (En G).i 59 = some inf59 := En_i.trans <| (envOf_i (by decide)).trans (by kernel_rfl)
theorem size59 : inf59.size = 2 := by kernel_rfl
theorem bytes59 : inf59.bytes = 32 := by kernel_rfl
noncomputable def inf60 : TypeInfo := (Tryz.prog.info? 60).getD default
theorem i60 {G : Nat} : (En G).i 60 = some inf60 := En_i.trans <| (envOf_i (by decide)).trans (by kernel_rfl)
theorem size60 : inf60.size = 2 := by kernel_rfl
theorem bytes60 : inf60.bytes = 32 := by kernel_rfl
noncomputable def inf61 : TypeInfo := (Tryz.prog.info? 61).getD default
theorem i61 {G : Nat} : (En G).i 61 = some inf61 := En_i.trans <| (envOf_i (by decide)).trans (by kernel_rfl)
theorem size61 : inf61.size = 4 := by kernel_rfl
theorem bytes61 : inf61.bytes = 64 := by kernel_rfl
noncomputable def inf62 : TypeInfo := (Tryz.prog.info? 62).getD default
theorem i62 {G : Nat} : (En G).i 62 = some inf62 := En_i.trans <| (envOf_i (by decide)).trans (by kernel_rfl)
theorem size62 : inf62.size = 4 := by kernel_rfl
theorem bytes62 : inf62.bytes = 64 := by kernel_rfl
noncomputable def inf71 : TypeInfo := (Tryz.prog.info? 71).getD default
theorem i71 {G : Nat} : (En G).i 71 = some inf71 := En_i.trans <| (envOf_i (by decide)).trans (by kernel_rfl)
theorem size71 : inf71.size = 2 := by kernel_rfl
theorem bytes71 : inf71.bytes = 40 := by kernel_rfl
noncomputable def inf72 : TypeInfo := (Tryz.prog.info? 72).getD default
theorem i72 {G : Nat} : (En G).i 72 = some inf72 := En_i.trans <| (envOf_i (by decide)).trans (by kernel_rfl)
theorem size72 : inf72.size = 2 := by kernel_rfl
theorem bytes72 : inf72.bytes = 40 := by kernel_rfl
theorem u83 {G : Nat} : (En G).u 83 = some (.slice 34) := En_u.trans <| (envOf_u (by decide)).trans Tryz.underlying83
theorem agg83 {G : Nat} : (En G).agg 83 = some false := by unfold Env.agg; rw [u83]
theorem load83 {G : Nat} {B : Tr Blk} {b off : Nat} : loadO (En G) 83 B (some (.pointer (some ⟨b, off, none⟩))) = loadv B b off := loadO_one agg83
noncomputable def inf83 : TypeInfo := (Tryz.prog.info? 83).getD default
theorem i83 {G : Nat} : (En G).i 83 = some inf83 := En_i.trans <| (envOf_i (by decide)).trans (by kernel_rfl)
theorem size83 : inf83.size = 1 := by kernel_rfl
theorem bytes83 : inf83.bytes = 24 := by kernel_rfl
theorem zero83 : inf83.zero = some (.slice none 0 0) := by kernel_rfl
theorem len83 {G n c : Nat} {A : Option Addr} : lenO (En G) 83 (some (.slice A n c)) = some (.int .i64 n) := lenO_slice u83
theorem u96 {G : Nat} : (En G).u 96 = some (.slice 150) := En_u.trans <| (envOf_u (by decide)).trans Tryz.underlying96
theorem agg96 {G : Nat} : (En G).agg 96 = some false := by unfold Env.agg; rw [u96]
theorem load96 {G : Nat} {B : Tr Blk} {b off : Nat} : loadO (En G) 96 B (some (.pointer (some ⟨b, off, none⟩))) = loadv B b off := loadO_one agg96
noncomputable def inf96 : TypeInfo := (Tryz.prog.info? 96).getD default
theorem i96 {G : Nat} : (En G).i 96 = some inf96 := En_i.trans <| (envOf_i (by decide)).trans (by kernel_rfl)
theorem size96 : inf96.size = 1 := by kernel_rfl
theorem bytes96 : inf96.bytes = 24 := by kernel_rfl
theorem zero96 : inf96.zero = some (.slice none 0 0) := by kernel_rfl
theorem len96 {G n c : Nat} {A : Option Addr} : lenO (En G) 96 (some (.slice A n c)) = some (.int .i64 n) := lenO_slice u96
theorem u105 {G : Nat} : (En G).u 105 = some (.int .u16) := En_u.trans <| (envOf_u (by decide)).trans Tryz.underlying105
theorem agg105 {G : Nat} : (En G).agg 105 = some false := by unfold Env.agg; rw [u105]
theorem load105 {G : Nat} {B : Tr Blk} {b off : Nat} : loadO (En G) 105 B (some (.pointer (some ⟨b, off, none⟩))) = loadv B b off := loadO_one agg105
noncomputable def inf105 : TypeInfo := (Tryz.prog.info? 105).getD default
theorem i105 {G : Nat} : (En G).i 105 = some inf105 := En_i.trans <| (envOf_i (by decide)).trans (by kernel_rfl)
theorem size105 : inf105.size = 1 := by kernel_rfl
theorem bytes105 : inf105.bytes = 2 := by kernel_rfl
theorem zero105 : inf105.zero = some (.int .u16 0) := by kernel_rfl
theorem u115 {G : Nat} : (En G).u 115 = some (.int .u64) := En_u.trans <| (envOf_u (by decide)).trans Tryz.underlying115
theorem agg115 {G : Nat} : (En G).agg 115 = some false := by unfold Env.agg; rw [u115]
theorem load115 {G : Nat} {B : Tr Blk} {b off : Nat} : loadO (En G) 115 B (some (.pointer (some ⟨b, off, none⟩))) = loadv B b off := loadO_one agg115
noncomputable def inf115 : TypeInfo := (Tryz.prog.info? 115).getD default
theorem i115 {G : Nat} : (En G).i 115 = some inf115 := En_i.trans <| (envOf_i (by decide)).trans (by kernel_rfl)
theorem size115 : inf115.size = 1 := by kernel_rfl
theorem bytes115 : inf115.bytes = 8 := by kernel_rfl
theorem zero115 : inf115.zero = some (.int .u64 0) := by kernel_rfl
theorem u116 {G : Nat} : (En G).u 116 = some (.int .u64) := En_u.trans <| (envOf_u (by decide)).trans Tryz.underlying116
theorem agg116 {G : Nat} : (En G).agg 116 = some false := by unfold Env.agg; rw [u116]
theorem load116 {G : Nat} {B : Tr Blk} {b off : Nat} : loadO (En G) 116 B (some (.pointer (some ⟨b, off, none⟩))) = loadv B b off := loadO_one agg116
noncomputable def inf116 : TypeInfo := (Tryz.prog.info? 116).getD default
theorem i116 {G : Nat} : (En G).i 116 = some inf116 := En_i.trans <| (envOf_i (by decide)).trans (by kernel_rfl)
theorem size116 : inf116.size = 1 := by kernel_rfl
theorem bytes116 : inf116.bytes = 8 := by kernel_rfl
theorem zero116 : inf116.zero = some (.int .u64 0) := by kernel_rfl
theorem u120 {G : Nat} : (En G).u 120 = some (.slice 184) := En_u.trans <| (envOf_u (by decide)).trans Tryz.underlying120
theorem agg120 {G : Nat} : (En G).agg 120 = some false := by unfold Env.agg; rw [u120]
theorem load120 {G : Nat} {B : Tr Blk} {b off : Nat} : loadO (En G) 120 B (some (.pointer (some ⟨b, off, none⟩))) = loadv B b off := loadO_one agg120
noncomputable def inf120 : TypeInfo := (Tryz.prog.info? 120).getD default
theorem i120 {G : Nat} : (En G).i 120 = some inf120 := En_i.trans <| (envOf_i (by decide)).trans (by kernel_rfl)
theorem size120 : inf120.size = 1 := by kernel_rfl
theorem bytes120 : inf120.bytes = 24 := by kernel_rfl
theorem zero120 : inf120.zero = some (.slice none 0 0) := by kernel_rfl
theorem len120 {G n c : Nat} {A : Option Addr} : lenO (En G) 120 (some (.slice A n c)) = some (.int .i64 n) := lenO_slice u120
theorem u121 {G : Nat} : (En G).u 121 = some (.slice 184) := En_u.trans <| (envOf_u (by decide)).trans Tryz.underlying121
theorem agg121 {G : Nat} : (En G).agg 121 = some false := by unfold Env.agg; rw [u121]
theorem load121 {G : Nat} {B : Tr Blk} {b off : Nat} : loadO (En G) 121 B (some (.pointer (some ⟨b, off, none⟩))) = loadv B b off := loadO_one agg121
noncomputable def inf121 : TypeInfo := (Tryz.prog.info? 121).getD default
theorem i121 {G : Nat} : (En G).i 121 = some inf121 := En_i.trans <| (envOf_i (by decide)).trans (by kernel_rfl)
theorem size121 : inf121.size = 1 := by kernel_rfl
theorem bytes121 : inf121.bytes = 24 := by kernel_rfl
theorem zero121 : inf121.zero = some (.slice none 0 0) := by kernel_rfl
theorem len121 {G n c : Nat} {A : Option Addr} : lenO (En G) 121 (some (.slice A n c)) = some (.int .i64 n) := lenO_slice u121
noncomputable def inf122 : TypeInfo := (Tryz.prog.info? 122).getD default
theorem i122 {G : Nat} : (En G).i 122 = some inf122 := En_i.trans <| (envOf_i (by decide)).trans (by kernel_rfl)
theorem size122 : inf122.size = 3 := by kernel_rfl
theorem bytes122 : inf122.bytes = 56 := by kernel_rfl
noncomputable def inf123 : TypeInfo := (Tryz.prog.info? 123).getD default
theorem i123 {G : Nat} : (En G).i 123 = some inf123 := En_i.trans <| (envOf_i (by decide)).trans (by kernel_rfl)
theorem size123 : inf123.size = 3 := by kernel_rfl
theorem bytes123 : inf123.bytes = 56 := by kernel_rfl
theorem u129 {G : Nat} : (En G).u 129 = some (.pointer 135) := En_u.trans <| (envOf_u (by decide)).trans Tryz.underlying129
theorem agg129 {G : Nat} : (En G).agg 129 = some false := by unfold Env.agg; rw [u129]
theorem load129 {G : Nat} {B : Tr Blk} {b off : Nat} : loadO (En G) 129 B (some (.pointer (some ⟨b, off, none⟩))) = loadv B b off := loadO_one agg129
noncomputable def inf129 : TypeInfo := (Tryz.prog.info? 129).getD default
theorem i129 {G : Nat} : (En G).i 129 = some inf129 := En_i.trans <| (envOf_i (by decide)).trans (by kernel_rfl)
theorem size129 : inf129.size = 1 := by kernel_rfl
theorem bytes129 : inf129.bytes = 8 := by kernel_rfl
theorem zero129 : inf129.zero = some (.pointer none) := by kernel_rfl
theorem u131 {G : Nat} : (En G).u 131 = some (.slice 116) := En_u.trans <| (envOf_u (by decide)).trans Tryz.underlying131
theorem agg131 {G : Nat} : (En G).agg 131 = some false := by unfold Env.agg; rw [u131]
theorem load131 {G : Nat} {B : Tr Blk} {b off : Nat} : loadO (En G) 131 B (some (.pointer (some ⟨b, off, none⟩))) = loadv B b off := loadO_one agg131
noncomputable def inf131 : TypeInfo := (Tryz.prog.info? 131).getD default
theorem i131 {G : Nat} : (En G).i 131 = some inf131 := En_i.trans <| (envOf_i (by decide)).trans (by kernel_rfl)
theorem size131 : inf131.size = 1 := by kernel_rfl
theorem bytes131 : inf131.bytes = 24 := by kernel_rfl
theorem zero131 : inf131.zero = some (.slice none 0 0) := by kernel_rfl
theorem len131 {G n c : Nat} {A : Option Addr} : lenO (En G) 131 (some (.slice A n c)) = some (.int .i64 n) := lenO_slice u131
theorem u132 {G : Nat} : (En G).u 132 = some (.slice 140) := En_u.trans <| (envOf_u (by decide)).trans Tryz.underlying132
theorem agg132 {G : Nat} : (En G).agg 132 = some false := by unfold Env.agg; rw [u132]
theorem load132 {G : Nat} {B : Tr Blk} {b off : Nat} : loadO (En G) 132 B (some (.pointer (some ⟨b, off, none⟩))) = loadv B b off := loadO_one agg132
noncomputable def inf132 : TypeInfo := (Tryz.prog.info? 132).getD default
theorem i132 {G : Nat} : (En G).i 132 = some inf132 := En_i.trans <| (envOf_i (by decide)).trans (by kernel_rfl)
theorem size132 : inf132.size = 1 := by kernel_rfl
theorem bytes132 : inf132.bytes = 24 := by kernel_rfl
theorem zero132 : inf132.zero = some (.slice none 0 0) := by kernel_rfl
theorem len132 {G n c : Nat} {A : Option Addr} : lenO (En G) 132 (some (.slice A n c)) = some (.int .i64 n) := lenO_slice u132
theorem u133 {G : Nat} : (En G).u 133 = some (.int .i64) := En_u.trans <| (envOf_u (by decide)).trans Tryz.underlying133
theorem agg133 {G : Nat} : (En G).agg 133 = some false := by unfold Env.agg; rw [u133]
theorem load133 {G : Nat} {B : Tr Blk} {b off : Nat} : loadO (En G) 133 B (some (.pointer (some ⟨b, off, none⟩))) = loadv B b off := loadO_one agg133
noncomputable def inf133 : TypeInfo := (Tryz.prog.info? 133).getD default
theorem i133 {G : Nat} : (En G).i 133 = some inf133 := En_i.trans <| (envOf_i (by decide)).trans (by kernel_rfl)
theorem size133 : inf133.size = 1 := by kernel_rfl
theorem bytes133 : inf133.bytes = 8 := by kernel_rfl
theorem zero133 : inf133.zero = some (.int .i64 0) := by kernel_rfl
noncomputable def inf134 : TypeInfo := (Tryz.prog.info? 134).getD default
theorem i134 {G : Nat} : (En G).i 134 = some inf134 := En_i.trans <| (envOf_i (by decide)).trans (by kernel_rfl)
theorem size134 : inf134.size = 5 := by kernel_rfl
theorem bytes134 : inf134.bytes = 88 := by kernel_rfl
noncomputable def inf135 : TypeInfo := (Tryz.prog.info? 135).getD default
theorem i135 {G : Nat} : (En G).i 135 = some inf135 := En_i.trans <| (envOf_i (by decide)).trans (by kernel_rfl)
theorem size135 : inf135.size = 5 := by kernel_rfl
theorem bytes135 : inf135.bytes = 88 := by kernel_rfl
theorem u140 {G : Nat} : (En G).u 140 = some (.slice 133) := En_u.trans <| (envOf_u (by decide)).trans Tryz.underlying140
theorem agg140 {G : Nat} : (En G).agg 140 = some false := by unfold Env.agg; rw [u140]
theorem load140 {G : Nat} {B : Tr Blk} {b off : Nat} : loadO (En G) 140 B (some (.pointer (some ⟨b, off, none⟩))) = loadv B b off := loadO_one agg140
noncomputable def inf140 : TypeInfo := (Tryz.prog.info? 140).getD default
theorem i140 {G : Nat} : (En G).i 140 = some inf140 := En_i.trans <| (envOf_i (by decide)).trans (by kernel_rfl)
theorem size140 : inf140.size = 1 := by kernel_rfl
theorem bytes140 : inf140.bytes = 24 := by kernel_rfl
theorem zero140 : inf140.zero = some (.slice none 0 0) := by kernel_rfl
theorem len140 {G n c : Nat} {A : Option Addr} : lenO (En G) 140 (some (.slice A n c)) = some (.int .i64 n) := lenO_slice u140
noncomputable def inf149 : TypeInfo := (Tryz.prog.info? 149).getD default
theorem i149 {G : Nat} : (En G).i 149 = some inf149 := En_i.trans <| (envOf_i (by decide)).trans (by kernel_rfl)
theorem size149 : inf149.size = 4 := by kernel_rfl
theorem bytes149 : inf149.bytes = 64 := by kernel_rfl
noncomputable def inf150 : TypeInfo := (Tryz.prog.info? 150).getD default
theorem i150 {G : Nat} : (En G).i 150 = some inf150 := En_i.trans <| (envOf_i (by decide)).trans (by kernel_rfl)
theorem size150 : inf150.size = 4 := by kernel_rfl
theorem bytes150 : inf150.bytes = 64 := by kernel_rfl
theorem u181 {G : Nat} : (En G).u 181 = some (.int .u64) := En_u.trans <| (envOf_u (by decide)).trans Tryz.underlying181
theorem agg181 {G : Nat} : (En G).agg 181 = some false := by unfold Env.agg; rw [u181]
theorem load181 {G : Nat} {B : Tr Blk} {b off : Nat} : loadO (En G) 181 B (some (.pointer (some ⟨b, off, none⟩))) = loadv B b off := loadO_one agg181
noncomputable def inf181 : TypeInfo := (Tryz.prog.info? 181).getD default
theorem i181 {G : Nat} : (En G).i 181 = some inf181 := En_i.trans <| (envOf_i (by decide)).trans (by kernel_rfl)
theorem size181 : inf181.size = 1 := by kernel_rfl
theorem bytes181 : inf181.bytes = 8 := by kernel_rfl
theorem zero181 : inf181.zero = some (.int .u64 0) := by kernel_rfl
theorem u183 {G : Nat} : (En G).u 183 = some (.slice 9) := En_u.trans <| (envOf_u (by decide)).trans Tryz.underlying183
theorem agg183 {G : Nat} : (En G).agg 183 = some false := by unfold Env.agg; rw [u183]
theorem load183 {G : Nat} {B : Tr Blk} {b off : Nat} : loadO (En G) 183 B (some (.pointer (some ⟨b, off, none⟩))) = loadv B b off := loadO_one agg183
noncomputable def inf183 : TypeInfo := (Tryz.prog.info? 183).getD default
theorem i183 {G : Nat} : (En G).i 183 = some inf183 := En_i.trans <| (envOf_i (by decide)).trans (by kernel_rfl)
theorem size183 : inf183.size = 1 := by kernel_rfl
theorem bytes183 : inf183.bytes = 24 := by kernel_rfl
theorem zero183 : inf183.zero = some (.slice none 0 0) := by kernel_rfl
theorem len183 {G n c : Nat} {A : Option Addr} : lenO (En G) 183 (some (.slice A n c)) = some (.int .i64 n) := lenO_slice u183
theorem u184 {G : Nat} : (En G).u 184 = some (.int .u32) := En_u.trans <| (envOf_u (by decide)).trans Tryz.underlying184
theorem agg184 {G : Nat} : (En G).agg 184 = some false := by unfold Env.agg; rw [u184]
theorem load184 {G : Nat} {B : Tr Blk} {b off : Nat} : loadO (En G) 184 B (some (.pointer (some ⟨b, off, none⟩))) = loadv B b off := loadO_one agg184
noncomputable def inf184 : TypeInfo := (Tryz.prog.info? 184).getD default
theorem i184 {G : Nat} : (En G).i 184 = some inf184 := En_i.trans <| (envOf_i (by decide)).trans (by kernel_rfl)
theorem size184 : inf184.size = 1 := by kernel_rfl
theorem bytes184 : inf184.bytes = 4 := by kernel_rfl
theorem zero184 : inf184.zero = some (.int .u32 0) := by kernel_rfl
theorem u201 {G : Nat} : (En G).u 201 = some (.int .i64) := En_u.trans <| (envOf_u (by decide)).trans Tryz.underlying201
theorem agg201 {G : Nat} : (En G).agg 201 = some false := by unfold Env.agg; rw [u201]
theorem load201 {G : Nat} {B : Tr Blk} {b off : Nat} : loadO (En G) 201 B (some (.pointer (some ⟨b, off, none⟩))) = loadv B b off := loadO_one agg201
noncomputable def inf201 : TypeInfo := (Tryz.prog.info? 201).getD default
theorem i201 {G : Nat} : (En G).i 201 = some inf201 := En_i.trans <| (envOf_i (by decide)).trans (by kernel_rfl)
theorem size201 : inf201.size = 1 := by kernel_rfl
theorem bytes201 : inf201.bytes = 8 := by kernel_rfl
theorem zero201 : inf201.zero = some (.int .i64 0) := by kernel_rfl
theorem u215 {G : Nat} : (En G).u 215 = some (.pointer 217) := En_u.trans <| (envOf_u (by decide)).trans Tryz.underlying215
theorem agg215 {G : Nat} : (En G).agg 215 = some false := by unfold Env.agg; rw [u215]
theorem load215 {G : Nat} {B : Tr Blk} {b off : Nat} : loadO (En G) 215 B (some (.pointer (some ⟨b, off, none⟩))) = loadv B b off := loadO_one agg215
noncomputable def inf215 : TypeInfo := (Tryz.prog.info? 215).getD default
theorem i215 {G : Nat} : (En G).i 215 = some inf215 := En_i.trans <| (envOf_i (by decide)).trans (by kernel_rfl)
theorem size215 : inf215.size = 1 := by kernel_rfl
theorem bytes215 : inf215.bytes = 8 := by kernel_rfl
theorem zero215 : inf215.zero = some (.pointer none) := by kernel_rfl
noncomputable def inf216 : TypeInfo := (Tryz.prog.info? 216).getD default
theorem i216 {G : Nat} : (En G).i 216 = some inf216 := En_i.trans <| (envOf_i (by decide)).trans (by kernel_rfl)
theorem size216 : inf216.size = 2 := by kernel_rfl
theorem bytes216 : inf216.bytes = 32 := by kernel_rfl
noncomputable def inf217 : TypeInfo := (Tryz.prog.info? 217).getD default
theorem i217 {G : Nat} : (En G).i 217 = some inf217 := En_i.trans <| (envOf_i (by decide)).trans (by kernel_rfl)
theorem size217 : inf217.size = 2 := by kernel_rfl
theorem bytes217 : inf217.bytes = 32 := by kernel_rfl
theorem u232 {G : Nat} : (En G).u 232 = some (.int .u64) := En_u.trans <| (envOf_u (by decide)).trans Tryz.underlying232
theorem agg232 {G : Nat} : (En G).agg 232 = some false := by unfold Env.agg; rw [u232]
theorem load232 {G : Nat} {B : Tr Blk} {b off : Nat} : loadO (En G) 232 B (some (.pointer (some ⟨b, off, none⟩))) = loadv B b off := loadO_one agg232
noncomputable def inf232 : TypeInfo := (Tryz.prog.info? 232).getD default
theorem i232 {G : Nat} : (En G).i 232 = some inf232 := En_i.trans <| (envOf_i (by decide)).trans (by kernel_rfl)
theorem size232 : inf232.size = 1 := by kernel_rfl
theorem bytes232 : inf232.bytes = 8 := by kernel_rfl
theorem zero232 : inf232.zero = some (.int .u64 0) := by kernel_rfl
theorem u236 {G : Nat} : (En G).u 236 = some (.pointer 3) := En_u.trans <| (envOf_u (by decide)).trans Tryz.underlying236
theorem agg236 {G : Nat} : (En G).agg 236 = some false := by unfold Env.agg; rw [u236]
theorem load236 {G : Nat} {B : Tr Blk} {b off : Nat} : loadO (En G) 236 B (some (.pointer (some ⟨b, off, none⟩))) = loadv B b off := loadO_one agg236
noncomputable def inf236 : TypeInfo := (Tryz.prog.info? 236).getD default
theorem i236 {G : Nat} : (En G).i 236 = some inf236 := En_i.trans <| (envOf_i (by decide)).trans (by kernel_rfl)
theorem size236 : inf236.size = 1 := by kernel_rfl
theorem bytes236 : inf236.bytes = 8 := by kernel_rfl
theorem zero236 : inf236.zero = some (.pointer none) := by kernel_rfl
theorem u243 {G : Nat} : (En G).u 243 = some (.pointer 5) := En_u.trans <| (envOf_u (by decide)).trans Tryz.underlying243
theorem agg243 {G : Nat} : (En G).agg 243 = some false := by unfold Env.agg; rw [u243]
theorem load243 {G : Nat} {B : Tr Blk} {b off : Nat} : loadO (En G) 243 B (some (.pointer (some ⟨b, off, none⟩))) = loadv B b off := loadO_one agg243
noncomputable def inf243 : TypeInfo := (Tryz.prog.info? 243).getD default
theorem i243 {G : Nat} : (En G).i 243 = some inf243 := En_i.trans <| (envOf_i (by decide)).trans (by kernel_rfl)
theorem size243 : inf243.size = 1 := by kernel_rfl
theorem bytes243 : inf243.bytes = 8 := by kernel_rfl
theorem zero243 : inf243.zero = some (.pointer none) := by kernel_rfl
theorem u251 {G : Nat} : (En G).u 251 = some (.pointer 232) := En_u.trans <| (envOf_u (by decide)).trans Tryz.underlying251
theorem agg251 {G : Nat} : (En G).agg 251 = some false := by unfold Env.agg; rw [u251]
theorem load251 {G : Nat} {B : Tr Blk} {b off : Nat} : loadO (En G) 251 B (some (.pointer (some ⟨b, off, none⟩))) = loadv B b off := loadO_one agg251
noncomputable def inf251 : TypeInfo := (Tryz.prog.info? 251).getD default
theorem i251 {G : Nat} : (En G).i 251 = some inf251 := En_i.trans <| (envOf_i (by decide)).trans (by kernel_rfl)
theorem size251 : inf251.size = 1 := by kernel_rfl
theorem bytes251 : inf251.bytes = 8 := by kernel_rfl
theorem zero251 : inf251.zero = some (.pointer none) := by kernel_rfl
noncomputable def inf268 : TypeInfo := (Tryz.prog.info? 268).getD default
theorem i268 {G : Nat} : (En G).i 268 = some inf268 := En_i.trans <| (envOf_i (by decide)).trans (by kernel_rfl)
theorem size268 : inf268.size = 4 := by kernel_rfl
theorem bytes268 : inf268.bytes = 40 := by kernel_rfl
noncomputable def inf269 : TypeInfo := (Tryz.prog.info? 269).getD default
theorem i269 {G : Nat} : (En G).i 269 = some inf269 := En_i.trans <| (envOf_i (by decide)).trans (by kernel_rfl)
theorem size269 : inf269.size = 4 := by kernel_rfl
theorem bytes269 : inf269.bytes = 40 := by kernel_rfl
noncomputable def inf271 : TypeInfo := (Tryz.prog.info? 271).getD default
theorem i271 {G : Nat} : (En G).i 271 = some inf271 := En_i.trans <| (envOf_i (by decide)).trans (by kernel_rfl)
theorem size271 : inf271.size = 0 := by kernel_rfl
theorem bytes271 : inf271.bytes = 0 := by kernel_rfl
noncomputable def inf272 : TypeInfo := (Tryz.prog.info? 272).getD default
theorem i272 {G : Nat} : (En G).i 272 = some inf272 := En_i.trans <| (envOf_i (by decide)).trans (by kernel_rfl)
theorem size272 : inf272.size = 0 := by kernel_rfl
theorem bytes272 : inf272.bytes = 0 := by kernel_rfl
theorem u273 {G : Nat} : (En G).u 273 = some (.int .u8) := En_u.trans <| (envOf_u (by decide)).trans Tryz.underlying273
theorem agg273 {G : Nat} : (En G).agg 273 = some false := by unfold Env.agg; rw [u273]
theorem load273 {G : Nat} {B : Tr Blk} {b off : Nat} : loadO (En G) 273 B (some (.pointer (some ⟨b, off, none⟩))) = loadv B b off := loadO_one agg273
noncomputable def inf273 : TypeInfo := (Tryz.prog.info? 273).getD default
theorem i273 {G : Nat} : (En G).i 273 = some inf273 := En_i.trans <| (envOf_i (by decide)).trans (by kernel_rfl)
theorem size273 : inf273.size = 1 := by kernel_rfl
theorem bytes273 : inf273.bytes = 1 := by kernel_rfl
theorem zero273 : inf273.zero = some (.int .u8 0) := by kernel_rfl
theorem u274 {G : Nat} : (En G).u 274 = some (.int .u8) := En_u.trans <| (envOf_u (by decide)).trans Tryz.underlying274
theorem agg274 {G : Nat} : (En G).agg 274 = some false := by unfold Env.agg; rw [u274]
theorem load274 {G : Nat} {B : Tr Blk} {b off : Nat} : loadO (En G) 274 B (some (.pointer (some ⟨b, off, none⟩))) = loadv B b off := loadO_one agg274
noncomputable def inf274 : TypeInfo := (Tryz.prog.info? 274).getD default
theorem i274 {G : Nat} : (En G).i 274 = some inf274 := En_i.trans <| (envOf_i (by decide)).trans (by kernel_rfl)
theorem size274 : inf274.size = 1 := by kernel_rfl
theorem bytes274 : inf274.bytes = 1 := by kernel_rfl
theorem zero274 : inf274.zero = some (.int .u8 0) := by kernel_rfl
theorem u276 {G : Nat} : (En G).u 276 = some (.int .i32) := En_u.trans <| (envOf_u (by decide)).trans Tryz.underlying276
theorem agg276 {G : Nat} : (En G).agg 276 = some false := by unfold Env.agg; rw [u276]
theorem load276 {G : Nat} {B : Tr Blk} {b off : Nat} : loadO (En G) 276 B (some (.pointer (some ⟨b, off, none⟩))) = loadv B b off := loadO_one agg276
noncomputable def inf276 : TypeInfo := (Tryz.prog.info? 276).getD default
theorem i276 {G : Nat} : (En G).i 276 = some inf276 := En_i.trans <| (envOf_i (by decide)).trans (by kernel_rfl)
theorem size276 : inf276.size = 1 := by kernel_rfl
theorem bytes276 : inf276.bytes = 4 := by kernel_rfl
theorem zero276 : inf276.zero = some (.int .i32 0) := by kernel_rfl
theorem u277 {G : Nat} : (En G).u 277 = some (.int .i32) := En_u.trans <| (envOf_u (by decide)).trans Tryz.underlying277
theorem agg277 {G : Nat} : (En G).agg 277 = some false := by unfold Env.agg; rw [u277]
theorem load277 {G : Nat} {B : Tr Blk} {b off : Nat} : loadO (En G) 277 B (some (.pointer (some ⟨b, off, none⟩))) = loadv B b off := loadO_one agg277
noncomputable def inf277 : TypeInfo := (Tryz.prog.info? 277).getD default
theorem i277 {G : Nat} : (En G).i 277 = some inf277 := En_i.trans <| (envOf_i (by decide)).trans (by kernel_rfl)
theorem size277 : inf277.size = 1 := by kernel_rfl
theorem bytes277 : inf277.bytes = 4 := by kernel_rfl
theorem zero277 : inf277.zero = some (.int .i32 0) := by kernel_rfl
noncomputable def inf278 : TypeInfo := (Tryz.prog.info? 278).getD default
theorem i278 {G : Nat} : (En G).i 278 = some inf278 := En_i.trans <| (envOf_i (by decide)).trans (by kernel_rfl)
theorem size278 : inf278.size = 11 := by kernel_rfl
theorem bytes278 : inf278.bytes = 48 := by kernel_rfl
noncomputable def inf279 : TypeInfo := (Tryz.prog.info? 279).getD default
theorem i279 {G : Nat} : (En G).i 279 = some inf279 := En_i.trans <| (envOf_i (by decide)).trans (by kernel_rfl)
theorem size279 : inf279.size = 11 := by kernel_rfl
theorem bytes279 : inf279.bytes = 48 := by kernel_rfl
theorem us7 {G : Nat} : (En G).u 7 = Tryz.prog.underlying 7 := En_u.trans <| envOf_u (by decide)
theorem agg7 {G : Nat} : (En G).agg 7 = some true := by unfold Env.agg; rw [us7, Tryz.underlying7]
theorem us8 {G : Nat} : (En G).u 8 = Tryz.prog.underlying 8 := En_u.trans <| envOf_u (by decide)
theorem agg8 {G : Nat} : (En G).agg 8 = some true := by unfold Env.agg; rw [us8, Tryz.underlying8]
theorem us13 {G : Nat} : (En G).u 13 = Tryz.prog.underlying 13 := En_u.trans <| envOf_u (by decide)
theorem agg13 {G : Nat} : (En G).agg 13 = some true := by unfold Env.agg; rw [us13, Tryz.underlying13]
theorem us14 {G : Nat} : (En G).u 14 = Tryz.prog.underlying 14 := En_u.trans <| envOf_u (by decide)
theorem agg14 {G : Nat} : (En G).agg 14 = some true := by unfold Env.agg; rw [us14, Tryz.underlying14]
theorem us18 {G : Nat} : (En G).u 18 = Tryz.prog.underlying 18 := En_u.trans <| envOf_u (by decide)
theorem agg18 {G : Nat} : (En G).agg 18 = some true := by unfold Env.agg; rw [us18, Tryz.underlying18]
theorem us19 {G : Nat} : (En G).u 19 = Tryz.prog.underlying 19 := En_u.trans <| envOf_u (by decide)
theorem agg19 {G : Nat} : (En G).agg 19 = some true := by unfold Env.agg; rw [us19, Tryz.underlying19]
theorem us59 {G : Nat} : (En G).u 59 = Tryz.prog.underlying 59 := En_u.trans <| envOf_u (by decide)
theorem agg59 {G : Nat} : (En G).agg 59 = some true := by unfold Env.agg; rw [us59, Tryz.underlying59]
theorem us60 {G : Nat} : (En G).u 60 = Tryz.prog.underlying 60 := En_u.trans <| envOf_u (by decide)
theorem agg60 {G : Nat} : (En G).agg 60 = some true := by unfold Env.agg; rw [us60, Tryz.underlying60]
theorem us61 {G : Nat} : (En G).u 61 = Tryz.prog.underlying 61 := En_u.trans <| envOf_u (by decide)
theorem agg61 {G : Nat} : (En G).agg 61 = some true := by unfold Env.agg; rw [us61, Tryz.underlying61]
theorem us62 {G : Nat} : (En G).u 62 = Tryz.prog.underlying 62 := En_u.trans <| envOf_u (by decide)
theorem agg62 {G : Nat} : (En G).agg 62 = some true := by unfold Env.agg; rw [us62, Tryz.underlying62]
theorem us71 {G : Nat} : (En G).u 71 = Tryz.prog.underlying 71 := En_u.trans <| envOf_u (by decide)
theorem agg71 {G : Nat} : (En G).agg 71 = some true := by unfold Env.agg; rw [us71, Tryz.underlying71]
theorem us72 {G : Nat} : (En G).u 72 = Tryz.prog.underlying 72 := En_u.trans <| envOf_u (by decide)
theorem agg72 {G : Nat} : (En G).agg 72 = some true := by unfold Env.agg; rw [us72, Tryz.underlying72]
theorem u76 {G : Nat} : (En G).u 76 = some (.array 3 5) := En_u.trans <| (envOf_u (by decide)).trans Tryz.underlying76
theorem agg76 {G : Nat} : (En G).agg 76 = some true := by unfold Env.agg; rw [u76]
noncomputable def inf76 : TypeInfo := (Tryz.prog.info? 76).getD default
theorem i76 {G : Nat} : (En G).i 76 = some inf76 := En_i.trans <| (envOf_i (by decide)).trans (by kernel_rfl)
theorem size76 : inf76.size = 3 := by kernel_rfl
theorem bytes76 : inf76.bytes = 3 := by kernel_rfl
theorem u78 {G : Nat} : (En G).u 78 = some (.array 2 5) := En_u.trans <| (envOf_u (by decide)).trans Tryz.underlying78
theorem agg78 {G : Nat} : (En G).agg 78 = some true := by unfold Env.agg; rw [u78]
noncomputable def inf78 : TypeInfo := (Tryz.prog.info? 78).getD default
theorem i78 {G : Nat} : (En G).i 78 = some inf78 := En_i.trans <| (envOf_i (by decide)).trans (by kernel_rfl)
theorem size78 : inf78.size = 2 := by kernel_rfl
theorem bytes78 : inf78.bytes = 2 := by kernel_rfl
theorem u103 {G : Nat} : (En G).u 103 = some (.array 4 3) := En_u.trans <| (envOf_u (by decide)).trans Tryz.underlying103
theorem agg103 {G : Nat} : (En G).agg 103 = some true := by unfold Env.agg; rw [u103]
noncomputable def inf103 : TypeInfo := (Tryz.prog.info? 103).getD default
theorem i103 {G : Nat} : (En G).i 103 = some inf103 := En_i.trans <| (envOf_i (by decide)).trans (by kernel_rfl)
theorem size103 : inf103.size = 4 := by kernel_rfl
theorem bytes103 : inf103.bytes = 32 := by kernel_rfl
theorem u113 {G : Nat} : (En G).u 113 = some (.array 3 3) := En_u.trans <| (envOf_u (by decide)).trans Tryz.underlying113
theorem agg113 {G : Nat} : (En G).agg 113 = some true := by unfold Env.agg; rw [u113]
noncomputable def inf113 : TypeInfo := (Tryz.prog.info? 113).getD default
theorem i113 {G : Nat} : (En G).i 113 = some inf113 := En_i.trans <| (envOf_i (by decide)).trans (by kernel_rfl)
theorem size113 : inf113.size = 3 := by kernel_rfl
theorem bytes113 : inf113.bytes = 24 := by kernel_rfl
theorem us122 {G : Nat} : (En G).u 122 = Tryz.prog.underlying 122 := En_u.trans <| envOf_u (by decide)
theorem agg122 {G : Nat} : (En G).agg 122 = some true := by unfold Env.agg; rw [us122, Tryz.underlying122]
theorem us123 {G : Nat} : (En G).u 123 = Tryz.prog.underlying 123 := En_u.trans <| envOf_u (by decide)
theorem agg123 {G : Nat} : (En G).agg 123 = some true := by unfold Env.agg; rw [us123, Tryz.underlying123]
theorem us134 {G : Nat} : (En G).u 134 = Tryz.prog.underlying 134 := En_u.trans <| envOf_u (by decide)
theorem agg134 {G : Nat} : (En G).agg 134 = some true := by unfold Env.agg; rw [us134, Tryz.underlying134]
theorem us135 {G : Nat} : (En G).u 135 = Tryz.prog.underlying 135 := En_u.trans <| envOf_u (by decide)
theorem agg135 {G : Nat} : (En G).agg 135 = some true := by unfold Env.agg; rw [us135, Tryz.underlying135]
theorem us149 {G : Nat} : (En G).u 149 = Tryz.prog.underlying 149 := En_u.trans <| envOf_u (by decide)
theorem agg149 {G : Nat} : (En G).agg 149 = some true := by unfold Env.agg; rw [us149, Tryz.underlying149]
theorem us150 {G : Nat} : (En G).u 150 = Tryz.prog.underlying 150 := En_u.trans <| envOf_u (by decide)
theorem agg150 {G : Nat} : (En G).agg 150 = some true := by unfold Env.agg; rw [us150, Tryz.underlying150]
theorem us216 {G : Nat} : (En G).u 216 = Tryz.prog.underlying 216 := En_u.trans <| envOf_u (by decide)
theorem agg216 {G : Nat} : (En G).agg 216 = some true := by unfold Env.agg; rw [us216, Tryz.underlying216]
theorem us217 {G : Nat} : (En G).u 217 = Tryz.prog.underlying 217 := En_u.trans <| envOf_u (by decide)
theorem agg217 {G : Nat} : (En G).agg 217 = some true := by unfold Env.agg; rw [us217, Tryz.underlying217]
theorem u253 {G : Nat} : (En G).u 253 = some (.array 24 5) := En_u.trans <| (envOf_u (by decide)).trans Tryz.underlying253
theorem agg253 {G : Nat} : (En G).agg 253 = some true := by unfold Env.agg; rw [u253]
noncomputable def inf253 : TypeInfo := (Tryz.prog.info? 253).getD default
theorem i253 {G : Nat} : (En G).i 253 = some inf253 := En_i.trans <| (envOf_i (by decide)).trans (by kernel_rfl)
theorem size253 : inf253.size = 24 := by kernel_rfl
theorem bytes253 : inf253.bytes = 24 := by kernel_rfl
theorem u264 {G : Nat} : (En G).u 264 = some (.array 20 181) := En_u.trans <| (envOf_u (by decide)).trans Tryz.underlying264
theorem agg264 {G : Nat} : (En G).agg 264 = some true := by unfold Env.agg; rw [u264]
noncomputable def inf264 : TypeInfo := (Tryz.prog.info? 264).getD default
theorem i264 {G : Nat} : (En G).i 264 = some inf264 := En_i.trans <| (envOf_i (by decide)).trans (by kernel_rfl)
theorem size264 : inf264.size = 20 := by kernel_rfl
theorem bytes264 : inf264.bytes = 160 := by kernel_rfl
theorem u265 {G : Nat} : (En G).u 265 = some (.array 65 5) := En_u.trans <| (envOf_u (by decide)).trans Tryz.underlying265
theorem agg265 {G : Nat} : (En G).agg 265 = some true := by unfold Env.agg; rw [u265]
noncomputable def inf265 : TypeInfo := (Tryz.prog.info? 265).getD default
theorem i265 {G : Nat} : (En G).i 265 = some inf265 := En_i.trans <| (envOf_i (by decide)).trans (by kernel_rfl)
theorem size265 : inf265.size = 65 := by kernel_rfl
theorem bytes265 : inf265.bytes = 65 := by kernel_rfl
theorem u266 {G : Nat} : (En G).u 266 = some (.array 32 5) := En_u.trans <| (envOf_u (by decide)).trans Tryz.underlying266
theorem agg266 {G : Nat} : (En G).agg 266 = some true := by unfold Env.agg; rw [u266]
noncomputable def inf266 : TypeInfo := (Tryz.prog.info? 266).getD default
theorem i266 {G : Nat} : (En G).i 266 = some inf266 := En_i.trans <| (envOf_i (by decide)).trans (by kernel_rfl)
theorem size266 : inf266.size = 32 := by kernel_rfl
theorem bytes266 : inf266.bytes = 32 := by kernel_rfl
theorem u267 {G : Nat} : (En G).u 267 = some (.array 64 5) := En_u.trans <| (envOf_u (by decide)).trans Tryz.underlying267
theorem agg267 {G : Nat} : (En G).agg 267 = some true := by unfold Env.agg; rw [u267]
noncomputable def inf267 : TypeInfo := (Tryz.prog.info? 267).getD default
theorem i267 {G : Nat} : (En G).i 267 = some inf267 := En_i.trans <| (envOf_i (by decide)).trans (by kernel_rfl)
theorem size267 : inf267.size = 64 := by kernel_rfl
theorem bytes267 : inf267.bytes = 64 := by kernel_rfl
theorem us268 {G : Nat} : (En G).u 268 = Tryz.prog.underlying 268 := En_u.trans <| envOf_u (by decide)
theorem agg268 {G : Nat} : (En G).agg 268 = some true := by unfold Env.agg; rw [us268, Tryz.underlying268]
theorem us269 {G : Nat} : (En G).u 269 = Tryz.prog.underlying 269 := En_u.trans <| envOf_u (by decide)
theorem agg269 {G : Nat} : (En G).agg 269 = some true := by unfold Env.agg; rw [us269, Tryz.underlying269]
theorem u270 {G : Nat} : (En G).u 270 = some (.array 0 16) := En_u.trans <| (envOf_u (by decide)).trans Tryz.underlying270
theorem agg270 {G : Nat} : (En G).agg 270 = some true := by unfold Env.agg; rw [u270]
noncomputable def inf270 : TypeInfo := (Tryz.prog.info? 270).getD default
theorem i270 {G : Nat} : (En G).i 270 = some inf270 := En_i.trans <| (envOf_i (by decide)).trans (by kernel_rfl)
theorem size270 : inf270.size = 0 := by kernel_rfl
theorem bytes270 : inf270.bytes = 0 := by kernel_rfl
theorem us271 {G : Nat} : (En G).u 271 = Tryz.prog.underlying 271 := En_u.trans <| envOf_u (by decide)
theorem agg271 {G : Nat} : (En G).agg 271 = some true := by unfold Env.agg; rw [us271, Tryz.underlying271]
theorem us272 {G : Nat} : (En G).u 272 = Tryz.prog.underlying 272 := En_u.trans <| envOf_u (by decide)
theorem agg272 {G : Nat} : (En G).agg 272 = some true := by unfold Env.agg; rw [us272, Tryz.underlying272]
theorem us278 {G : Nat} : (En G).u 278 = Tryz.prog.underlying 278 := En_u.trans <| envOf_u (by decide)
theorem agg278 {G : Nat} : (En G).agg 278 = some true := by unfold Env.agg; rw [us278, Tryz.underlying278]
theorem us279 {G : Nat} : (En G).u 279 = Tryz.prog.underlying 279 := En_u.trans <| envOf_u (by decide)
theorem agg279 {G : Nat} : (En G).agg 279 = some true := by unfold Env.agg; rw [us279, Tryz.underlying279]
theorem idxA22 {G b off n c : Nat} {kd : IntKind} {z : Int} (h0 : 0 ≤ z) (h1 : z < n) : idxAddrO (En G) 22 (some (.slice (some ⟨b, off, none⟩) n c)) (some (.int kd z)) = some (.pointer (some ⟨b, off + z.toNat * 1, none⟩)) := by
  rw [idxAddrO_slice u22 i24 h0 h1, size24]
theorem idxA24 {G b off n c : Nat} {kd : IntKind} {z : Int} (h0 : 0 ≤ z) (h1 : z < n) : idxAddrO (En G) 24 (some (.slice (some ⟨b, off, none⟩) n c)) (some (.int kd z)) = some (.pointer (some ⟨b, off + z.toNat * 1, none⟩)) := by
  rw [idxAddrO_slice u24 i3 h0 h1, size3]
theorem idxA32 {G b off n c : Nat} {kd : IntKind} {z : Int} (h0 : 0 ≤ z) (h1 : z < n) : idxAddrO (En G) 32 (some (.slice (some ⟨b, off, none⟩) n c)) (some (.int kd z)) = some (.pointer (some ⟨b, off + z.toNat * 2, none⟩)) := by
  rw [idxAddrO_slice u32 i72 h0 h1, size72]
theorem idxA42 {G b off n c : Nat} {kd : IntKind} {z : Int} (h0 : 0 ≤ z) (h1 : z < n) : idxAddrO (En G) 42 (some (.slice (some ⟨b, off, none⟩) n c)) (some (.int kd z)) = some (.pointer (some ⟨b, off + z.toNat * 1, none⟩)) := by
  rw [idxAddrO_slice u42 i52 h0 h1, size52]
theorem idxA48 {G b off n c : Nat} {kd : IntKind} {z : Int} (h0 : 0 ≤ z) (h1 : z < n) : idxAddrO (En G) 48 (some (.slice (some ⟨b, off, none⟩) n c)) (some (.int kd z)) = some (.pointer (some ⟨b, off + z.toNat * 1, none⟩)) := by
  rw [idxAddrO_slice u48 i53 h0 h1, size53]
theorem idxA52 {G b off n c : Nat} {kd : IntKind} {z : Int} (h0 : 0 ≤ z) (h1 : z < n) : idxAddrO (En G) 52 (some (.slice (some ⟨b, off, none⟩) n c)) (some (.int kd z)) = some (.pointer (some ⟨b, off + z.toNat * 1, none⟩)) := by
  rw [idxAddrO_slice u52 i58 h0 h1, size58]
theorem idxA53 {G b off n c : Nat} {kd : IntKind} {z : Int} (h0 : 0 ≤ z) (h1 : z < n) : idxAddrO (En G) 53 (some (.slice (some ⟨b, off, none⟩) n c)) (some (.int kd z)) = some (.pointer (some ⟨b, off + z.toNat * 4, none⟩)) := by
  rw [idxAddrO_slice u53 i62 h0 h1, size62]
theorem idxA54 {G b off n c : Nat} {kd : IntKind} {z : Int} (h0 : 0 ≤ z) (h1 : z < n) : idxAddrO (En G) 54 (some (.slice (some ⟨b, off, none⟩) n c)) (some (.int kd z)) = some (.pointer (some ⟨b, off + z.toNat * 1, none⟩)) := by
  rw [idxAddrO_slice u54 i5 h0 h1, size5]
theorem idxA55 {G b off n c : Nat} {kd : IntKind} {z : Int} (h0 : 0 ≤ z) (h1 : z < n) : idxAddrO (En G) 55 (some (.slice (some ⟨b, off, none⟩) n c)) (some (.int kd z)) = some (.pointer (some ⟨b, off + z.toNat * 1, none⟩)) := by
  rw [idxAddrO_slice u55 i105 h0 h1, size105]
theorem idxA96 {G b off n c : Nat} {kd : IntKind} {z : Int} (h0 : 0 ≤ z) (h1 : z < n) : idxAddrO (En G) 96 (some (.slice (some ⟨b, off, none⟩) n c)) (some (.int kd z)) = some (.pointer (some ⟨b, off + z.toNat * 4, none⟩)) := by
  rw [idxAddrO_slice u96 i150 h0 h1, size150]
theorem idxA120 {G b off n c : Nat} {kd : IntKind} {z : Int} (h0 : 0 ≤ z) (h1 : z < n) : idxAddrO (En G) 120 (some (.slice (some ⟨b, off, none⟩) n c)) (some (.int kd z)) = some (.pointer (some ⟨b, off + z.toNat * 1, none⟩)) := by
  rw [idxAddrO_slice u120 i184 h0 h1, size184]
theorem idxA121 {G b off n c : Nat} {kd : IntKind} {z : Int} (h0 : 0 ≤ z) (h1 : z < n) : idxAddrO (En G) 121 (some (.slice (some ⟨b, off, none⟩) n c)) (some (.int kd z)) = some (.pointer (some ⟨b, off + z.toNat * 1, none⟩)) := by
  rw [idxAddrO_slice u121 i184 h0 h1, size184]
theorem idxA131 {G b off n c : Nat} {kd : IntKind} {z : Int} (h0 : 0 ≤ z) (h1 : z < n) : idxAddrO (En G) 131 (some (.slice (some ⟨b, off, none⟩) n c)) (some (.int kd z)) = some (.pointer (some ⟨b, off + z.toNat * 1, none⟩)) := by
  rw [idxAddrO_slice u131 i116 h0 h1, size116]
theorem idxA132 {G b off n c : Nat} {kd : IntKind} {z : Int} (h0 : 0 ≤ z) (h1 : z < n) : idxAddrO (En G) 132 (some (.slice (some ⟨b, off, none⟩) n c)) (some (.int kd z)) = some (.pointer (some ⟨b, off + z.toNat * 1, none⟩)) := by
  rw [idxAddrO_slice u132 i140 h0 h1, size140]
theorem idxA140 {G b off n c : Nat} {kd : IntKind} {z : Int} (h0 : 0 ≤ z) (h1 : z < n) : idxAddrO (En G) 140 (some (.slice (some ⟨b, off, none⟩) n c)) (some (.int kd z)) = some (.pointer (some ⟨b, off + z.toNat * 1, none⟩)) := by
  rw [idxAddrO_slice u140 i133 h0 h1, size133]
theorem idxA183 {G b off n c : Nat} {kd : IntKind} {z : Int} (h0 : 0 ≤ z) (h1 : z < n) : idxAddrO (En G) 183 (some (.slice (some ⟨b, off, none⟩) n c)) (some (.int kd z)) = some (.pointer (some ⟨b, off + z.toNat * 1, none⟩)) := by
  rw [idxAddrO_slice u183 i9 h0 h1, size9]
theorem fld7_0 {G b off : Nat} : fieldAddrO (En G) 7 0 (some (.pointer (some ⟨b, off, none⟩))) = some (.pointer (some ⟨b, off + 0, none⟩)) := by
  simp only [fieldAddrO, evFieldAddr, us7, Tryz.underlying7, List.getElem?_toArray, List.getElem?_cons_zero, List.getElem?_cons_succ, i2, size2, forceN_eq]
  rfl
theorem fld7_1 {G b off : Nat} : fieldAddrO (En G) 7 1 (some (.pointer (some ⟨b, off, none⟩))) = some (.pointer (some ⟨b, off + 1, none⟩)) := by
  simp only [fieldAddrO, evFieldAddr, us7, Tryz.underlying7, List.getElem?_toArray, List.getElem?_cons_zero, List.getElem?_cons_succ, i3, size3, forceN_eq]
  rfl
theorem fld7_2 {G b off : Nat} : fieldAddrO (En G) 7 2 (some (.pointer (some ⟨b, off, none⟩))) = some (.pointer (some ⟨b, off + 2, none⟩)) := by
  simp only [fieldAddrO, evFieldAddr, us7, Tryz.underlying7, List.getElem?_toArray, List.getElem?_cons_zero, List.getElem?_cons_succ, i4, size4, forceN_eq]
  rfl
theorem fld7_3 {G b off : Nat} : fieldAddrO (En G) 7 3 (some (.pointer (some ⟨b, off, none⟩))) = some (.pointer (some ⟨b, off + 3, none⟩)) := by
  simp only [fieldAddrO, evFieldAddr, us7, Tryz.underlying7, List.getElem?_toArray, List.getElem?_cons_zero, List.getElem?_cons_succ, i6, size6, forceN_eq]
  rfl
theorem fld8_0 {G b off : Nat} : fieldAddrO (En G) 8 0 (some (.pointer (some ⟨b, off, none⟩))) = some (.pointer (some ⟨b, off + 0, none⟩)) := by
  simp only [fieldAddrO, evFieldAddr, us8, Tryz.underlying8, List.getElem?_toArray, List.getElem?_cons_zero, List.getElem?_cons_succ, i2, size2, forceN_eq]
  rfl
theorem fld8_1 {G b off : Nat} : fieldAddrO (En G) 8 1 (some (.pointer (some ⟨b, off, none⟩))) = some (.pointer (some ⟨b, off + 1, none⟩)) := by
  simp only [fieldAddrO, evFieldAddr, us8, Tryz.underlying8, List.getElem?_toArray, List.getElem?_cons_zero, List.getElem?_cons_succ, i3, size3, forceN_eq]
  rfl
theorem fld8_2 {G b off : Nat} : fieldAddrO (En G) 8 2 (some (.pointer (some ⟨b, off, none⟩))) = some (.pointer (some ⟨b, off + 2, none⟩)) := by
  simp only [fieldAddrO, evFieldAddr, us8, Tryz.underlying8, List.getElem?_toArray, List.getElem?_cons_zero, List.getElem?_cons_succ, i4, size4, forceN_eq]
  rfl
theorem fld8_3 {G b off : Nat} : fieldAddrO (En G) 8 3 (some (.pointer (some ⟨b, off, none⟩))) = some (.pointer (some ⟨b, off + 3, none⟩)) := by
  simp only [fieldAddrO, evFieldAddr, us8, Tryz.underlying8, List.getElem?_toArray, List.getElem?_cons_zero, List.getElem?_cons_succ, i6, size6, forceN_eq]
  rfl
theorem fld13_0 {G b off : Nat} : fieldAddrO (En G) 13 0 (some (.pointer (some ⟨b, off, none⟩))) = some (.pointer (some ⟨b, off + 0, none⟩)) := by
  simp only [fieldAddrO, evFieldAddr, us13, Tryz.underlying13, List.getElem?_toArray, List.getElem?_cons_zero, List.getElem?_cons_succ, i9, size9, forceN_eq]
  rfl
theorem fld13_1 {G b off : Nat} : fieldAddrO (En G) 13 1 (some (.pointer (some ⟨b, off, none⟩))) = some (.pointer (some ⟨b, off + 1, none⟩)) := by
  simp only [fieldAddrO, evFieldAddr, us13, Tryz.underlying13, List.getElem?_toArray, List.getElem?_cons_zero, List.getElem?_cons_succ, i12, size12, forceN_eq]
  rfl
theorem fld14_0 {G b off : Nat} : fieldAddrO (En G) 14 0 (some (.pointer (some ⟨b, off, none⟩))) = some (.pointer (some ⟨b, off + 0, none⟩)) := by
  simp only [fieldAddrO, evFieldAddr, us14, Tryz.underlying14, List.getElem?_toArray, List.getElem?_cons_zero, List.getElem?_cons_succ, i9, size9, forceN_eq]
  rfl
theorem fld14_1 {G b off : Nat} : fieldAddrO (En G) 14 1 (some (.pointer (some ⟨b, off, none⟩))) = some (.pointer (some ⟨b, off + 1, none⟩)) := by
  simp only [fieldAddrO, evFieldAddr, us14, Tryz.underlying14, List.getElem?_toArray, List.getElem?_cons_zero, List.getElem?_cons_succ, i12, size12, forceN_eq]
  rfl
theorem fld18_0 {G b off : Nat} : fieldAddrO (En G) 18 0 (some (.pointer (some ⟨b, off, none⟩))) = some (.pointer (some ⟨b, off + 0, none⟩)) := by
  simp only [fieldAddrO, evFieldAddr, us18, Tryz.underlying18, List.getElem?_toArray, List.getElem?_cons_zero, List.getElem?_cons_succ, i17, size17, forceN_eq]
  rfl
theorem fld19_0 {G b off : Nat} : fieldAddrO (En G) 19 0 (some (.pointer (some ⟨b, off, none⟩))) = some (.pointer (some ⟨b, off + 0, none⟩)) := by
  simp only [fieldAddrO, evFieldAddr, us19, Tryz.underlying19, List.getElem?_toArray, List.getElem?_cons_zero, List.getElem?_cons_succ, i17, size17, forceN_eq]
  rfl
theorem fld59_0 {G b off : Nat} : fieldAddrO (En G) 59 0 (some (.pointer (some ⟨b, off, none⟩))) = some (.pointer (some ⟨b, off + 0, none⟩)) := by
  simp only [fieldAddrO, evFieldAddr, us59, Tryz.underlying59, List.getElem?_toArray, List.getElem?_cons_zero, List.getElem?_cons_succ, i4, size4, forceN_eq]
  rfl
theorem fld59_1 {G b off : Nat} : fieldAddrO (En G) 59 1 (some (.pointer (some ⟨b, off, none⟩))) = some (.pointer (some ⟨b, off + 1, none⟩)) := by
  simp only [fieldAddrO, evFieldAddr, us59, Tryz.underlying59, List.getElem?_toArray, List.getElem?_cons_zero, List.getElem?_cons_succ, i24, size24, forceN_eq]
  rfl
theorem fld60_0 {G b off : Nat} : fieldAddrO (En G) 60 0 (some (.pointer (some ⟨b, off, none⟩))) = some (.pointer (some ⟨b, off + 0, none⟩)) := by
  simp only [fieldAddrO, evFieldAddr, us60, Tryz.underlying60, List.getElem?_toArray, List.getElem?_cons_zero, List.getElem?_cons_succ, i4, size4, forceN_eq]
  rfl
theorem fld60_1 {G b off : Nat} : fieldAddrO (En G) 60 1 (some (.pointer (some ⟨b, off, none⟩))) = some (.pointer (some ⟨b, off + 1, none⟩)) := by
  simp only [fieldAddrO, evFieldAddr, us60, Tryz.underlying60, List.getElem?_toArray, List.getElem?_cons_zero, List.getElem?_cons_succ, i24, size24, forceN_eq]
  rfl
theorem fld61_0 {G b off : Nat} : fieldAddrO (En G) 61 0 (some (.pointer (some ⟨b, off, none⟩))) = some (.pointer (some ⟨b, off + 0, none⟩)) := by
  simp only [fieldAddrO, evFieldAddr, us61, Tryz.underlying61, List.getElem?_toArray, List.getElem?_cons_zero, List.getElem?_cons_succ, i60, size60, forceN_eq]
  rfl
theorem fld61_1 {G b off : Nat} : fieldAddrO (En G) 61 1 (some (.pointer (some ⟨b, off, none⟩))) = some (.pointer (some ⟨b, off + 2, none⟩)) := by
  simp only [fieldAddrO, evFieldAddr, us61, Tryz.underlying61, List.getElem?_toArray, List.getElem?_cons_zero, List.getElem?_cons_succ, i60, size60, forceN_eq]
  rfl
theorem fld62_0 {G b off : Nat} : fieldAddrO (En G) 62 0 (some (.pointer (some ⟨b, off, none⟩))) = some (.pointer (some ⟨b, off + 0, none⟩)) := by
  simp only [fieldAddrO, evFieldAddr, us62, Tryz.underlying62, List.getElem?_toArray, List.getElem?_cons_zero, List.getElem?_cons_succ, i60, size60, forceN_eq]
  rfl
theorem fld62_1 {G b off : Nat} : fieldAddrO (En G) 62 1 (some (.pointer (some ⟨b, off, none⟩))) = some (.pointer (some ⟨b, off + 2, none⟩)) := by
  simp only [fieldAddrO, evFieldAddr, us62, Tryz.underlying62, List.getElem?_toArray, List.getElem?_cons_zero, List.getElem?_cons_succ, i60, size60, forceN_eq]
  rfl
theorem fld71_0 {G b off : Nat} : fieldAddrO (En G) 71 0 (some (.pointer (some ⟨b, off, none⟩))) = some (.pointer (some ⟨b, off + 0, none⟩)) := by
  simp only [fieldAddrO, evFieldAddr, us71, Tryz.underlying71, List.getElem?_toArray, List.getElem?_cons_zero, List.getElem?_cons_succ, i24, size24, forceN_eq]
  rfl
theorem fld71_1 {G b off : Nat} : fieldAddrO (En G) 71 1 (some (.pointer (some ⟨b, off, none⟩))) = some (.pointer (some ⟨b, off + 1, none⟩)) := by
  simp only [fieldAddrO, evFieldAddr, us71, Tryz.underlying71, List.getElem?_toArray, List.getElem?_cons_zero, List.getElem?_cons_succ, i58, size58, forceN_eq]
  rfl
theorem fld72_0 {G b off : Nat} : fieldAddrO (En G) 72 0 (some (.pointer (some ⟨b, off, none⟩))) = some (.pointer (some ⟨b, off + 0, none⟩)) := by
  simp only [fieldAddrO, evFieldAddr, us72, Tryz.underlying72, List.getElem?_toArray, List.getElem?_cons_zero, List.getElem?_cons_succ, i24, size24, forceN_eq]
  rfl
theorem fld72_1 {G b off : Nat} : fieldAddrO (En G) 72 1 (some (.pointer (some ⟨b, off, none⟩))) = some (.pointer (some ⟨b, off + 1, none⟩)) := by
  simp only [fieldAddrO, evFieldAddr, us72, Tryz.underlying72, List.getElem?_toArray, List.getElem?_cons_zero, List.getElem?_cons_succ, i58, size58, forceN_eq]
  rfl
theorem idxP76 {G b off : Nat} {kd : IntKind} {z : Int} (h0 : 0 ≤ z) (h1 : z < 3) : idxAddrO (En G) 76 (some (.pointer (some ⟨b, off, none⟩))) (some (.int kd z)) = some (.pointer (some ⟨b, off + z.toNat * 1, none⟩)) := by
  simp only [idxAddrO, evIndexAddr, u76, idx_ok (n := 3) h0 (by omega), i5, forceN_eq, size5]
theorem idxP78 {G b off : Nat} {kd : IntKind} {z : Int} (h0 : 0 ≤ z) (h1 : z < 2) : idxAddrO (En G) 78 (some (.pointer (some ⟨b, off, none⟩))) (some (.int kd z)) = some (.pointer (some ⟨b, off + z.toNat * 1, none⟩)) := by
  simp only [idxAddrO, evIndexAddr, u78, idx_ok (n := 2) h0 (by omega), i5, forceN_eq, size5]
theorem idxP103 {G b off : Nat} {kd : IntKind} {z : Int} (h0 : 0 ≤ z) (h1 : z < 4) : idxAddrO (En G) 103 (some (.pointer (some ⟨b, off, none⟩))) (some (.int kd z)) = some (.pointer (some ⟨b, off + z.toNat * 1, none⟩)) := by
  simp only [idxAddrO, evIndexAddr, u103, idx_ok (n := 4) h0 (by omega), i3, forceN_eq, size3]
theorem idxP113 {G b off : Nat} {kd : IntKind} {z : Int} (h0 : 0 ≤ z) (h1 : z < 3) : idxAddrO (En G) 113 (some (.pointer (some ⟨b, off, none⟩))) (some (.int kd z)) = some (.pointer (some ⟨b, off + z.toNat * 1, none⟩)) := by
  simp only [idxAddrO, evIndexAddr, u113, idx_ok (n := 3) h0 (by omega), i3, forceN_eq, size3]
theorem fld122_0 {G b off : Nat} : fieldAddrO (En G) 122 0 (some (.pointer (some ⟨b, off, none⟩))) = some (.pointer (some ⟨b, off + 0, none⟩)) := by
  simp only [fieldAddrO, evFieldAddr, us122, Tryz.underlying122, List.getElem?_toArray, List.getElem?_cons_zero, List.getElem?_cons_succ, i4, size4, forceN_eq]
  rfl
theorem fld122_1 {G b off : Nat} : fieldAddrO (En G) 122 1 (some (.pointer (some ⟨b, off, none⟩))) = some (.pointer (some ⟨b, off + 1, none⟩)) := by
  simp only [fieldAddrO, evFieldAddr, us122, Tryz.underlying122, List.getElem?_toArray, List.getElem?_cons_zero, List.getElem?_cons_succ, i121, size121, forceN_eq]
  rfl
theorem fld122_2 {G b off : Nat} : fieldAddrO (En G) 122 2 (some (.pointer (some ⟨b, off, none⟩))) = some (.pointer (some ⟨b, off + 2, none⟩)) := by
  simp only [fieldAddrO, evFieldAddr, us122, Tryz.underlying122, List.getElem?_toArray, List.getElem?_cons_zero, List.getElem?_cons_succ, i121, size121, forceN_eq]
  rfl
theorem fld123_0 {G b off : Nat} : fieldAddrO (En G) 123 0 (some (.pointer (some ⟨b, off, none⟩))) = some (.pointer (some ⟨b, off + 0, none⟩)) := by
  simp only [fieldAddrO, evFieldAddr, us123, Tryz.underlying123, List.getElem?_toArray, List.getElem?_cons_zero, List.getElem?_cons_succ, i4, size4, forceN_eq]
  rfl
theorem fld123_1 {G b off : Nat} : fieldAddrO (En G) 123 1 (some (.pointer (some ⟨b, off, none⟩))) = some (.pointer (some ⟨b, off + 1, none⟩)) := by
  simp only [fieldAddrO, evFieldAddr, us123, Tryz.underlying123, List.getElem?_toArray, List.getElem?_cons_zero, List.getElem?_cons_succ, i121, size121, forceN_eq]
  rfl
theorem fld123_2 {G b off : Nat} : fieldAddrO (En G) 123 2 (some (.pointer (some ⟨b, off, none⟩))) = some (.pointer (some ⟨b, off + 2, none⟩)) := by
  simp only [fieldAddrO, evFieldAddr, us123, Tryz.underlying123, List.getElem?_toArray, List.getElem?_cons_zero, List.getElem?_cons_succ, i121, size121, forceN_eq]
  rfl
theorem fld134_0 {G b off : Nat} : fieldAddrO (En G) 134 0 (some (.pointer (some ⟨b, off, none⟩))) = some (.pointer (some ⟨b, off + 0, none⟩)) := by
  simp only [fieldAddrO, evFieldAddr, us134, Tryz.underlying134, List.getElem?_toArray, List.getElem?_cons_zero, List.getElem?_cons_succ, i116, size116, forceN_eq]
  rfl
theorem fld134_1 {G b off : Nat} : fieldAddrO (En G) 134 1 (some (.pointer (some ⟨b, off, none⟩))) = some (.pointer (some ⟨b, off + 1, none⟩)) := by
  simp only [fieldAddrO, evFieldAddr, us134, Tryz.underlying134, List.getElem?_toArray, List.getElem?_cons_zero, List.getElem?_cons_succ, i131, size131, forceN_eq]
  rfl
theorem fld134_2 {G b off : Nat} : fieldAddrO (En G) 134 2 (some (.pointer (some ⟨b, off, none⟩))) = some (.pointer (some ⟨b, off + 2, none⟩)) := by
  simp only [fieldAddrO, evFieldAddr, us134, Tryz.underlying134, List.getElem?_toArray, List.getElem?_cons_zero, List.getElem?_cons_succ, i132, size132, forceN_eq]
  rfl
theorem fld134_3 {G b off : Nat} : fieldAddrO (En G) 134 3 (some (.pointer (some ⟨b, off, none⟩))) = some (.pointer (some ⟨b, off + 3, none⟩)) := by
  simp only [fieldAddrO, evFieldAddr, us134, Tryz.underlying134, List.getElem?_toArray, List.getElem?_cons_zero, List.getElem?_cons_succ, i133, size133, forceN_eq]
  rfl
theorem fld134_4 {G b off : Nat} : fieldAddrO (En G) 134 4 (some (.pointer (some ⟨b, off, none⟩))) = some (.pointer (some ⟨b, off + 4, none⟩)) := by
  simp only [fieldAddrO, evFieldAddr, us134, Tryz.underlying134, List.getElem?_toArray, List.getElem?_cons_zero, List.getElem?_cons_succ, i32, size32, forceN_eq]
  rfl
theorem fld135_0 {G b off : Nat} : fieldAddrO (En G) 135 0 (some (.pointer (some ⟨b, off, none⟩))) = some (.pointer (some ⟨b, off + 0, none⟩)) := by
  simp only [fieldAddrO, evFieldAddr, us135, Tryz.underlying135, List.getElem?_toArray, List.getElem?_cons_zero, List.getElem?_cons_succ, i116, size116, forceN_eq]
  rfl
theorem fld135_1 {G b off : Nat} : fieldAddrO (En G) 135 1 (some (.pointer (some ⟨b, off, none⟩))) = some (.pointer (some ⟨b, off + 1, none⟩)) := by
  simp only [fieldAddrO, evFieldAddr, us135, Tryz.underlying135, List.getElem?_toArray, List.getElem?_cons_zero, List.getElem?_cons_succ, i131, size131, forceN_eq]
  rfl
theorem fld135_2 {G b off : Nat} : fieldAddrO (En G) 135 2 (some (.pointer (some ⟨b, off, none⟩))) = some (.pointer (some ⟨b, off + 2, none⟩)) := by
  simp only [fieldAddrO, evFieldAddr, us135, Tryz.underlying135, List.getElem?_toArray, List.getElem?_cons_zero, List.getElem?_cons_succ, i132, size132, forceN_eq]
  rfl
theorem fld135_3 {G b off : Nat} : fieldAddrO (En G) 135 3 (some (.pointer (some ⟨b, off, none⟩))) = some (.pointer (some ⟨b, off + 3, none⟩)) := by
  simp only [fieldAddrO, evFieldAddr, us135, Tryz.underlying135, List.getElem?_toArray, List.getElem?_cons_zero, List.getElem?_cons_succ, i133, size133, forceN_eq]
  rfl
theorem fld135_4 {G b off : Nat} : fieldAddrO (En G) 135 4 (some (.pointer (some ⟨b, off, none⟩))) = some (.pointer (some ⟨b, off + 4, none⟩)) := by
  simp only [fieldAddrO, evFieldAddr, us135, Tryz.underlying135, List.getElem?_toArray, List.getElem?_cons_zero, List.getElem?_cons_succ, i32, size32, forceN_eq]
  rfl
theorem fld149_0 {G b off : Nat} : fieldAddrO (En G) 149 0 (some (.pointer (some ⟨b, off, none⟩))) = some (.pointer (some ⟨b, off + 0, none⟩)) := by
  simp only [fieldAddrO, evFieldAddr, us149, Tryz.underlying149, List.getElem?_toArray, List.getElem?_cons_zero, List.getElem?_cons_succ, i116, size116, forceN_eq]
  rfl
theorem fld149_1 {G b off : Nat} : fieldAddrO (En G) 149 1 (some (.pointer (some ⟨b, off, none⟩))) = some (.pointer (some ⟨b, off + 1, none⟩)) := by
  simp only [fieldAddrO, evFieldAddr, us149, Tryz.underlying149, List.getElem?_toArray, List.getElem?_cons_zero, List.getElem?_cons_succ, i123, size123, forceN_eq]
  rfl
theorem fld150_0 {G b off : Nat} : fieldAddrO (En G) 150 0 (some (.pointer (some ⟨b, off, none⟩))) = some (.pointer (some ⟨b, off + 0, none⟩)) := by
  simp only [fieldAddrO, evFieldAddr, us150, Tryz.underlying150, List.getElem?_toArray, List.getElem?_cons_zero, List.getElem?_cons_succ, i116, size116, forceN_eq]
  rfl
theorem fld150_1 {G b off : Nat} : fieldAddrO (En G) 150 1 (some (.pointer (some ⟨b, off, none⟩))) = some (.pointer (some ⟨b, off + 1, none⟩)) := by
  simp only [fieldAddrO, evFieldAddr, us150, Tryz.underlying150, List.getElem?_toArray, List.getElem?_cons_zero, List.getElem?_cons_succ, i123, size123, forceN_eq]
  rfl
theorem fld216_0 {G b off : Nat} : fieldAddrO (En G) 216 0 (some (.pointer (some ⟨b, off, none⟩))) = some (.pointer (some ⟨b, off + 0, none⟩)) := by
  simp only [fieldAddrO, evFieldAddr, us216, Tryz.underlying216, List.getElem?_toArray, List.getElem?_cons_zero, List.getElem?_cons_succ, i215, size215, forceN_eq]
  rfl
theorem fld216_1 {G b off : Nat} : fieldAddrO (En G) 216 1 (some (.pointer (some ⟨b, off, none⟩))) = some (.pointer (some ⟨b, off + 1, none⟩)) := by
  simp only [fieldAddrO, evFieldAddr, us216, Tryz.underlying216, List.getElem?_toArray, List.getElem?_cons_zero, List.getElem?_cons_succ, i54, size54, forceN_eq]
  rfl
theorem fld217_0 {G b off : Nat} : fieldAddrO (En G) 217 0 (some (.pointer (some ⟨b, off, none⟩))) = some (.pointer (some ⟨b, off + 0, none⟩)) := by
  simp only [fieldAddrO, evFieldAddr, us217, Tryz.underlying217, List.getElem?_toArray, List.getElem?_cons_zero, List.getElem?_cons_succ, i215, size215, forceN_eq]
  rfl
theorem fld217_1 {G b off : Nat} : fieldAddrO (En G) 217 1 (some (.pointer (some ⟨b, off, none⟩))) = some (.pointer (some ⟨b, off + 1, none⟩)) := by
  simp only [fieldAddrO, evFieldAddr, us217, Tryz.underlying217, List.getElem?_toArray, List.getElem?_cons_zero, List.getElem?_cons_succ, i54, size54, forceN_eq]
  rfl
theorem idxP253 {G b off : Nat} {kd : IntKind} {z : Int} (h0 : 0 ≤ z) (h1 : z < 24) : idxAddrO (En G) 253 (some (.pointer (some ⟨b, off, none⟩))) (some (.int kd z)) = some (.pointer (some ⟨b, off + z.toNat * 1, none⟩)) := by
  simp only [idxAddrO, evIndexAddr, u253, idx_ok (n := 24) h0 (by omega), i5, forceN_eq, size5]
theorem idxP264 {G b off : Nat} {kd : IntKind} {z : Int} (h0 : 0 ≤ z) (h1 : z < 20) : idxAddrO (En G) 264 (some (.pointer (some ⟨b, off, none⟩))) (some (.int kd z)) = some (.pointer (some ⟨b, off + z.toNat * 1, none⟩)) := by
  simp only [idxAddrO, evIndexAddr, u264, idx_ok (n := 20) h0 (by omega), i181, forceN_eq, size181]
theorem idxP265 {G b off : Nat} {kd : IntKind} {z : Int} (h0 : 0 ≤ z) (h1 : z < 65) : idxAddrO (En G) 265 (some (.pointer (some ⟨b, off, none⟩))) (some (.int kd z)) = some (.pointer (some ⟨b, off + z.toNat * 1, none⟩)) := by
  simp only [idxAddrO, evIndexAddr, u265, idx_ok (n := 65) h0 (by omega), i5, forceN_eq, size5]
theorem idxP266 {G b off : Nat} {kd : IntKind} {z : Int} (h0 : 0 ≤ z) (h1 : z < 32) : idxAddrO (En G) 266 (some (.pointer (some ⟨b, off, none⟩))) (some (.int kd z)) = some (.pointer (some ⟨b, off + z.toNat * 1, none⟩)) := by
  simp only [idxAddrO, evIndexAddr, u266, idx_ok (n := 32) h0 (by omega), i5, forceN_eq, size5]
theorem idxP267 {G b off : Nat} {kd : IntKind} {z : Int} (h0 : 0 ≤ z) (h1 : z < 64) : idxAddrO (En G) 267 (some (.pointer (some ⟨b, off, none⟩))) (some (.int kd z)) = some (.pointer (some ⟨b, off + z.toNat * 1, none⟩)) := by
  simp only [idxAddrO, evIndexAddr, u267, idx_ok (n := 64) h0 (by omega), i5, forceN_eq, size5]
theorem fld268_0 {G b off : Nat} : fieldAddrO (En G) 268 0 (some (.pointer (some ⟨b, off, none⟩))) = some (.pointer (some ⟨b, off + 0, none⟩)) := by
  simp only [fieldAddrO, evFieldAddr, us268, Tryz.underlying268, List.getElem?_toArray, List.getElem?_cons_zero, List.getElem?_cons_succ, i17, size17, forceN_eq]
  rfl
theorem fld268_1 {G b off : Nat} : fieldAddrO (En G) 268 1 (some (.pointer (some ⟨b, off, none⟩))) = some (.pointer (some ⟨b, off + 1, none⟩)) := by
  simp only [fieldAddrO, evFieldAddr, us268, Tryz.underlying268, List.getElem?_toArray, List.getElem?_cons_zero, List.getElem?_cons_succ, i17, size17, forceN_eq]
  rfl
theorem fld268_2 {G b off : Nat} : fieldAddrO (En G) 268 2 (some (.pointer (some ⟨b, off, none⟩))) = some (.pointer (some ⟨b, off + 2, none⟩)) := by
  simp only [fieldAddrO, evFieldAddr, us268, Tryz.underlying268, List.getElem?_toArray, List.getElem?_cons_zero, List.getElem?_cons_succ, i17, size17, forceN_eq]
  rfl
theorem fld268_3 {G b off : Nat} : fieldAddrO (En G) 268 3 (some (.pointer (some ⟨b, off, none⟩))) = some (.pointer (some ⟨b, off + 3, none⟩)) := by
  simp only [fieldAddrO, evFieldAddr, us268, Tryz.underlying268, List.getElem?_toArray, List.getElem?_cons_zero, List.getElem?_cons_succ, i9, size9, forceN_eq]
  rfl
theorem fld269_0 {G b off : Nat} : fieldAddrO (En G) 269 0 (some (.pointer (some ⟨b, off, none⟩))) = some (.pointer (some ⟨b, off + 0, none⟩)) := by
  simp only [fieldAddrO, evFieldAddr, us269, Tryz.underlying269, List.getElem?_toArray, List.getElem?_cons_zero, List.getElem?_cons_succ, i17, size17, forceN_eq]
  rfl
theorem fld269_1 {G b off : Nat} : fieldAddrO (En G) 269 1 (some (.pointer (some ⟨b, off, none⟩))) = some (.pointer (some ⟨b, off + 1, none⟩)) := by
  simp only [fieldAddrO, evFieldAddr, us269, Tryz.underlying269, List.getElem?_toArray, List.getElem?_cons_zero, List.getElem?_cons_succ, i17, size17, forceN_eq]
  rfl
theorem fld269_2 {G b off : Nat} : fieldAddrO (En G) 269 2 (some (.pointer (some ⟨b, off, none⟩))) = some (.pointer (some ⟨b, off + 2, none⟩)) := by
  simp only [fieldAddrO, evFieldAddr, us269, Tryz.underlying269, List.getElem?_toArray, List.getElem?_cons_zero, List.getElem?_cons_succ, i17, size17, forceN_eq]
  rfl
theorem fld269_3 {G b off : Nat} : fieldAddrO (En G) 269 3 (some (.pointer (some ⟨b, off, none⟩))) = some (.pointer (some ⟨b, off + 3, none⟩)) := by
  simp only [fieldAddrO, evFieldAddr, us269, Tryz.underlying269, List.getElem?_toArray, List.getElem?_cons_zero, List.getElem?_cons_succ, i9, size9, forceN_eq]
  rfl
theorem idxP270 {G b off : Nat} {kd : IntKind} {z : Int} (h0 : 0 ≤ z) (h1 : z < 0) : idxAddrO (En G) 270 (some (.pointer (some ⟨b, off, none⟩))) (some (.int kd z)) = some (.pointer (some ⟨b, off + z.toNat * 1, none⟩)) := by
  simp only [idxAddrO, evIndexAddr, u270, idx_ok (n := 0) h0 (by omega), i16, forceN_eq, size16]
theorem fld278_0 {G b off : Nat} : fieldAddrO (En G) 278 0 (some (.pointer (some ⟨b, off, none⟩))) = some (.pointer (some ⟨b, off + 0, none⟩)) := by
  simp only [fieldAddrO, evFieldAddr, us278, Tryz.underlying278, List.getElem?_toArray, List.getElem?_cons_zero, List.getElem?_cons_succ, i12, size12, forceN_eq]
  rfl
theorem fld278_1 {G b off : Nat} : fieldAddrO (En G) 278 1 (some (.pointer (some ⟨b, off, none⟩))) = some (.pointer (some ⟨b, off + 1, none⟩)) := by
  simp only [fieldAddrO, evFieldAddr, us278, Tryz.underlying278, List.getElem?_toArray, List.getElem?_cons_zero, List.getElem?_cons_succ, i12, size12, forceN_eq]
  rfl
theorem fld278_2 {G b off : Nat} : fieldAddrO (En G) 278 2 (some (.pointer (some ⟨b, off, none⟩))) = some (.pointer (some ⟨b, off + 2, none⟩)) := by
  simp only [fieldAddrO, evFieldAddr, us278, Tryz.underlying278, List.getElem?_toArray, List.getElem?_cons_zero, List.getElem?_cons_succ, i184, size184, forceN_eq]
  rfl
theorem fld278_3 {G b off : Nat} : fieldAddrO (En G) 278 3 (some (.pointer (some ⟨b, off, none⟩))) = some (.pointer (some ⟨b, off + 3, none⟩)) := by
  simp only [fieldAddrO, evFieldAddr, us278, Tryz.underlying278, List.getElem?_toArray, List.getElem?_cons_zero, List.getElem?_cons_succ, i273, size273, forceN_eq]
  rfl
theorem fld278_4 {G b off : Nat} : fieldAddrO (En G) 278 4 (some (.pointer (some ⟨b, off, none⟩))) = some (.pointer (some ⟨b, off + 4, none⟩)) := by
  simp only [fieldAddrO, evFieldAddr, us278, Tryz.underlying278, List.getElem?_toArray, List.getElem?_cons_zero, List.getElem?_cons_succ, i5, size5, forceN_eq]
  rfl
theorem fld278_5 {G b off : Nat} : fieldAddrO (En G) 278 5 (some (.pointer (some ⟨b, off, none⟩))) = some (.pointer (some ⟨b, off + 5, none⟩)) := by
  simp only [fieldAddrO, evFieldAddr, us278, Tryz.underlying278, List.getElem?_toArray, List.getElem?_cons_zero, List.getElem?_cons_succ, i5, size5, forceN_eq]
  rfl
theorem fld278_6 {G b off : Nat} : fieldAddrO (En G) 278 6 (some (.pointer (some ⟨b, off, none⟩))) = some (.pointer (some ⟨b, off + 6, none⟩)) := by
  simp only [fieldAddrO, evFieldAddr, us278, Tryz.underlying278, List.getElem?_toArray, List.getElem?_cons_zero, List.getElem?_cons_succ, i274, size274, forceN_eq]
  rfl
theorem fld278_8 {G b off : Nat} : fieldAddrO (En G) 278 8 (some (.pointer (some ⟨b, off, none⟩))) = some (.pointer (some ⟨b, off + 8, none⟩)) := by
  simp only [fieldAddrO, evFieldAddr, us278, Tryz.underlying278, List.getElem?_toArray, List.getElem?_cons_zero, List.getElem?_cons_succ, i243, size243, forceN_eq]
  rfl
theorem fld278_9 {G b off : Nat} : fieldAddrO (En G) 278 9 (some (.pointer (some ⟨b, off, none⟩))) = some (.pointer (some ⟨b, off + 9, none⟩)) := by
  simp only [fieldAddrO, evFieldAddr, us278, Tryz.underlying278, List.getElem?_toArray, List.getElem?_cons_zero, List.getElem?_cons_succ, i276, size276, forceN_eq]
  rfl
theorem fld278_10 {G b off : Nat} : fieldAddrO (En G) 278 10 (some (.pointer (some ⟨b, off, none⟩))) = some (.pointer (some ⟨b, off + 10, none⟩)) := by
  simp only [fieldAddrO, evFieldAddr, us278, Tryz.underlying278, List.getElem?_toArray, List.getElem?_cons_zero, List.getElem?_cons_succ, i277, size277, forceN_eq]
  rfl
theorem fld279_0 {G b off : Nat} : fieldAddrO (En G) 279 0 (some (.pointer (some ⟨b, off, none⟩))) = some (.pointer (some ⟨b, off + 0, none⟩)) := by
  simp only [fieldAddrO, evFieldAddr, us279, Tryz.underlying279, List.getElem?_toArray, List.getElem?_cons_zero, List.getElem?_cons_succ, i12, size12, forceN_eq]
  rfl
theorem fld279_1 {G b off : Nat} : fieldAddrO (En G) 279 1 (some (.pointer (some ⟨b, off, none⟩))) = some (.pointer (some ⟨b, off + 1, none⟩)) := by
  simp only [fieldAddrO, evFieldAddr, us279, Tryz.underlying279, List.getElem?_toArray, List.getElem?_cons_zero, List.getElem?_cons_succ, i12, size12, forceN_eq]
  rfl
theorem fld279_2 {G b off : Nat} : fieldAddrO (En G) 279 2 (some (.pointer (some ⟨b, off, none⟩))) = some (.pointer (some ⟨b, off + 2, none⟩)) := by
  simp only [fieldAddrO, evFieldAddr, us279, Tryz.underlying279, List.getElem?_toArray, List.getElem?_cons_zero, List.getElem?_cons_succ, i184, size184, forceN_eq]
  rfl
theorem fld279_3 {G b off : Nat} : fieldAddrO (En G) 279 3 (some (.pointer (some ⟨b, off, none⟩))) = some (.pointer (some ⟨b, off + 3, none⟩)) := by
  simp only [fieldAddrO, evFieldAddr, us279, Tryz.underlying279, List.getElem?_toArray, List.getElem?_cons_zero, List.getElem?_cons_succ, i273, size273, forceN_eq]
  rfl
theorem fld279_4 {G b off : Nat} : fieldAddrO (En G) 279 4 (some (.pointer (some ⟨b, off, none⟩))) = some (.pointer (some ⟨b, off + 4, none⟩)) := by
  simp only [fieldAddrO, evFieldAddr, us279, Tryz.underlying279, List.getElem?_toArray, List.getElem?_cons_zero, List.getElem?_cons_succ, i5, size5, forceN_eq]
  rfl
theorem fld279_5 {G b off : Nat} : fieldAddrO (En G) 279 5 (some (.pointer (some ⟨b, off, none⟩))) = some (.pointer (some ⟨b, off + 5, none⟩)) := by
  simp only [fieldAddrO, evFieldAddr, us279, Tryz.underlying279, List.getElem?_toArray, List.getElem?_cons_zero, List.getElem?_cons_succ, i5, size5, forceN_eq]
  rfl
theorem fld279_6 {G b off : Nat} : fieldAddrO (En G) 279 6 (some (.pointer (some ⟨b, off, none⟩))) = some (.pointer (some ⟨b, off + 6, none⟩)) := by
  simp only [fieldAddrO, evFieldAddr, us279, Tryz.underlying279, List.getElem?_toArray, List.getElem?_cons_zero, List.getElem?_cons_succ, i274, size274, forceN_eq]
  rfl
theorem fld279_8 {G b off : Nat} : fieldAddrO (En G) 279 8 (some (.pointer (some ⟨b, off, none⟩))) = some (.pointer (some ⟨b, off + 8, none⟩)) := by
  simp only [fieldAddrO, evFieldAddr, us279, Tryz.underlying279, List.getElem?_toArray, List.getElem?_cons_zero, List.getElem?_cons_succ, i243, size243, forceN_eq]
  rfl
theorem fld279_9 {G b off : Nat} : fieldAddrO (En G) 279 9 (some (.pointer (some ⟨b, off, none⟩))) = some (.pointer (some ⟨b, off + 9, none⟩)) := by
  simp only [fieldAddrO, evFieldAddr, us279, Tryz.underlying279, List.getElem?_toArray, List.getElem?_cons_zero, List.getElem?_cons_succ, i276, size276, forceN_eq]
  rfl
theorem fld279_10 {G b off : Nat} : fieldAddrO (En G) 279 10 (some (.pointer (some ⟨b, off, none⟩))) = some (.pointer (some ⟨b, off + 10, none⟩)) := by
  simp only [fieldAddrO, evFieldAddr, us279, Tryz.underlying279, List.getElem?_toArray, List.getElem?_cons_zero, List.getElem?_cons_succ, i277, size277, forceN_eq]
  rfl
end
end Go.Proofs.YtdgdemiifloliaaGreatDoor.Ev
