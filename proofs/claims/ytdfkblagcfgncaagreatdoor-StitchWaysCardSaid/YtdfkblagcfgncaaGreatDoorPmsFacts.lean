/- Facts of the program's types, for symbolic runs. By program. -/
import Derived.Test.YtdfkblagcfgncaaGreatDoorProg
import Derived.Test.YtdfkblagcfgncaaGreatDoorPmSS
import Derived.Test.YtdfkblagcfgncaaGreatDoorPmsTabs
import Derived.KernelRfl
set_option linter.unusedSimpArgs false
namespace Go.Proofs.YtdfkblagcfgncaaGreatDoor.Ev
open Go Go.Proofs
noncomputable section

/-- the program's types and functions; so many blocks are only read -/
noncomputable def En (G : Nat) : Env := withKnown (envOf Tryz.prog 249 4 G) (Tr.put .e 24 (.bool true)) tabs (Tr.put .e 111 0)
theorem En_u {G t : Nat} : (En G).u t = (envOf Tryz.prog 249 4 G).u t := withKnown_u
theorem En_i {G t : Nat} : (En G).i t = (envOf Tryz.prog 249 4 G).i t := withKnown_i
theorem En_G {G : Nat} : (En G).G = G := withKnown_G
theorem En_iters {G : Nat} : (En G).iters = Tr.put Tr.e 111 0 := withKnown_iters
instance {G : Nat} : NoFz (En G) := ⟨withKnown_fzl.trans envOf_fzl⟩
theorem En_known {G f : Nat} (h : f ≠ 24) : (En G).known.get f = none := by
  have e : (En G).known = Tr.put Tr.e 24 (Value.bool true) := withKnown_known
  rw [e, Tr.get_put, if_neg h]
  rfl
theorem En_lives {G : Nat} : (En G).known.get 24 = some (.bool true) := by
  have e : (En G).known = Tr.put Tr.e 24 (Value.bool true) := withKnown_known
  rw [e, Tr.get_put, if_pos rfl]


theorem mixed : Tryz.prog.follows .mixedOrders = true := by kernel_rfl
theorem En_f {G : Nat} {f : FuncId} : (En G).fns.get f = Tryz.prog.funcs[f]? := by
  have : (En G).fns = (envOf Tryz.prog 249 4 G).fns := withKnown_f
  rw [this]; exact envOf_f

theorem u2 {G : Nat} : (En G).u 2 = some (.int .i64) := En_u.trans <| (envOf_u (by decide)).trans Tryz.underlying2
theorem agg2 {G : Nat} : (En G).agg 2 = some false := by unfold Env.agg; rw [u2]
theorem load2 {G : Nat} {B : Tr Blk} {b off : Nat} : loadO (En G) 2 B (some (.pointer (some ⟨b, off, none⟩))) = loadv B b off := loadO_one agg2
noncomputable def inf2 : TypeInfo := (Tryz.prog.info? 2).getD default
theorem i2 {G : Nat} : (En G).i 2 = some inf2 := En_i.trans <| (envOf_i (by decide)).trans (by kernel_rfl)
theorem size2 : inf2.size = 1 := by kernel_rfl
theorem bytes2 : inf2.bytes = 8 := by kernel_rfl
theorem zero2 : inf2.zero = some (.int .i64 0) := by kernel_rfl
theorem u3 {G : Nat} : (En G).u 3 = some (.int .i64) := En_u.trans <| (envOf_u (by decide)).trans Tryz.underlying3
theorem agg3 {G : Nat} : (En G).agg 3 = some false := by unfold Env.agg; rw [u3]
theorem load3 {G : Nat} {B : Tr Blk} {b off : Nat} : loadO (En G) 3 B (some (.pointer (some ⟨b, off, none⟩))) = loadv B b off := loadO_one agg3
noncomputable def inf3 : TypeInfo := (Tryz.prog.info? 3).getD default
theorem i3 {G : Nat} : (En G).i 3 = some inf3 := En_i.trans <| (envOf_i (by decide)).trans (by kernel_rfl)
theorem size3 : inf3.size = 1 := by kernel_rfl
theorem bytes3 : inf3.bytes = 8 := by kernel_rfl
theorem zero3 : inf3.zero = some (.int .i64 0) := by kernel_rfl
theorem u4 {G : Nat} : (En G).u 4 = some (.bool) := En_u.trans <| (envOf_u (by decide)).trans Tryz.underlying4
theorem agg4 {G : Nat} : (En G).agg 4 = some false := by unfold Env.agg; rw [u4]
theorem load4 {G : Nat} {B : Tr Blk} {b off : Nat} : loadO (En G) 4 B (some (.pointer (some ⟨b, off, none⟩))) = loadv B b off := loadO_one agg4
noncomputable def inf4 : TypeInfo := (Tryz.prog.info? 4).getD default
theorem i4 {G : Nat} : (En G).i 4 = some inf4 := En_i.trans <| (envOf_i (by decide)).trans (by kernel_rfl)
theorem size4 : inf4.size = 1 := by kernel_rfl
theorem bytes4 : inf4.bytes = 1 := by kernel_rfl
theorem zero4 : inf4.zero = some (.bool false) := by kernel_rfl
theorem u5 {G : Nat} : (En G).u 5 = some (.int .u8) := En_u.trans <| (envOf_u (by decide)).trans Tryz.underlying5
theorem agg5 {G : Nat} : (En G).agg 5 = some false := by unfold Env.agg; rw [u5]
theorem load5 {G : Nat} {B : Tr Blk} {b off : Nat} : loadO (En G) 5 B (some (.pointer (some ⟨b, off, none⟩))) = loadv B b off := loadO_one agg5
noncomputable def inf5 : TypeInfo := (Tryz.prog.info? 5).getD default
theorem i5 {G : Nat} : (En G).i 5 = some inf5 := En_i.trans <| (envOf_i (by decide)).trans (by kernel_rfl)
theorem size5 : inf5.size = 1 := by kernel_rfl
theorem bytes5 : inf5.bytes = 1 := by kernel_rfl
theorem zero5 : inf5.zero = some (.int .u8 0) := by kernel_rfl
theorem u6 {G : Nat} : (En G).u 6 = some (.int .u8) := En_u.trans <| (envOf_u (by decide)).trans Tryz.underlying6
theorem agg6 {G : Nat} : (En G).agg 6 = some false := by unfold Env.agg; rw [u6]
theorem load6 {G : Nat} {B : Tr Blk} {b off : Nat} : loadO (En G) 6 B (some (.pointer (some ⟨b, off, none⟩))) = loadv B b off := loadO_one agg6
noncomputable def inf6 : TypeInfo := (Tryz.prog.info? 6).getD default
theorem i6 {G : Nat} : (En G).i 6 = some inf6 := En_i.trans <| (envOf_i (by decide)).trans (by kernel_rfl)
theorem size6 : inf6.size = 1 := by kernel_rfl
theorem bytes6 : inf6.bytes = 1 := by kernel_rfl
theorem zero6 : inf6.zero = some (.int .u8 0) := by kernel_rfl
noncomputable def inf7 : TypeInfo := (Tryz.prog.info? 7).getD default
theorem i7 {G : Nat} : (En G).i 7 = some inf7 := En_i.trans <| (envOf_i (by decide)).trans (by kernel_rfl)
theorem size7 : inf7.size = 4 := by kernel_rfl
theorem bytes7 : inf7.bytes = 24 := by kernel_rfl
noncomputable def inf8 : TypeInfo := (Tryz.prog.info? 8).getD default
theorem i8 {G : Nat} : (En G).i 8 = some inf8 := En_i.trans <| (envOf_i (by decide)).trans (by kernel_rfl)
theorem size8 : inf8.size = 4 := by kernel_rfl
theorem bytes8 : inf8.bytes = 24 := by kernel_rfl
theorem u9 {G : Nat} : (En G).u 9 = some (.string) := En_u.trans <| (envOf_u (by decide)).trans Tryz.underlying9
theorem agg9 {G : Nat} : (En G).agg 9 = some false := by unfold Env.agg; rw [u9]
theorem load9 {G : Nat} {B : Tr Blk} {b off : Nat} : loadO (En G) 9 B (some (.pointer (some ⟨b, off, none⟩))) = loadv B b off := loadO_one agg9
noncomputable def inf9 : TypeInfo := (Tryz.prog.info? 9).getD default
theorem i9 {G : Nat} : (En G).i 9 = some inf9 := En_i.trans <| (envOf_i (by decide)).trans (by kernel_rfl)
theorem size9 : inf9.size = 1 := by kernel_rfl
theorem bytes9 : inf9.bytes = 16 := by kernel_rfl
theorem zero9 : inf9.zero = some (.string .empty) := by kernel_rfl
theorem u10 {G : Nat} : (En G).u 10 = some (.string) := En_u.trans <| (envOf_u (by decide)).trans Tryz.underlying10
theorem agg10 {G : Nat} : (En G).agg 10 = some false := by unfold Env.agg; rw [u10]
theorem load10 {G : Nat} {B : Tr Blk} {b off : Nat} : loadO (En G) 10 B (some (.pointer (some ⟨b, off, none⟩))) = loadv B b off := loadO_one agg10
noncomputable def inf10 : TypeInfo := (Tryz.prog.info? 10).getD default
theorem i10 {G : Nat} : (En G).i 10 = some inf10 := En_i.trans <| (envOf_i (by decide)).trans (by kernel_rfl)
theorem size10 : inf10.size = 1 := by kernel_rfl
theorem bytes10 : inf10.bytes = 16 := by kernel_rfl
theorem zero10 : inf10.zero = some (.string .empty) := by kernel_rfl
theorem u11 {G : Nat} : (En G).u 11 = some (.string) := En_u.trans <| (envOf_u (by decide)).trans Tryz.underlying11
theorem agg11 {G : Nat} : (En G).agg 11 = some false := by unfold Env.agg; rw [u11]
theorem load11 {G : Nat} {B : Tr Blk} {b off : Nat} : loadO (En G) 11 B (some (.pointer (some ⟨b, off, none⟩))) = loadv B b off := loadO_one agg11
noncomputable def inf11 : TypeInfo := (Tryz.prog.info? 11).getD default
theorem i11 {G : Nat} : (En G).i 11 = some inf11 := En_i.trans <| (envOf_i (by decide)).trans (by kernel_rfl)
theorem size11 : inf11.size = 1 := by kernel_rfl
theorem bytes11 : inf11.bytes = 16 := by kernel_rfl
theorem zero11 : inf11.zero = some (.string .empty) := by kernel_rfl
theorem u12 {G : Nat} : (En G).u 12 = some (.int .u64) := En_u.trans <| (envOf_u (by decide)).trans Tryz.underlying12
theorem agg12 {G : Nat} : (En G).agg 12 = some false := by unfold Env.agg; rw [u12]
theorem load12 {G : Nat} {B : Tr Blk} {b off : Nat} : loadO (En G) 12 B (some (.pointer (some ⟨b, off, none⟩))) = loadv B b off := loadO_one agg12
noncomputable def inf12 : TypeInfo := (Tryz.prog.info? 12).getD default
theorem i12 {G : Nat} : (En G).i 12 = some inf12 := En_i.trans <| (envOf_i (by decide)).trans (by kernel_rfl)
theorem size12 : inf12.size = 1 := by kernel_rfl
theorem bytes12 : inf12.bytes = 8 := by kernel_rfl
theorem zero12 : inf12.zero = some (.int .u64 0) := by kernel_rfl
noncomputable def inf13 : TypeInfo := (Tryz.prog.info? 13).getD default
theorem i13 {G : Nat} : (En G).i 13 = some inf13 := En_i.trans <| (envOf_i (by decide)).trans (by kernel_rfl)
theorem size13 : inf13.size = 2 := by kernel_rfl
theorem bytes13 : inf13.bytes = 24 := by kernel_rfl
noncomputable def inf14 : TypeInfo := (Tryz.prog.info? 14).getD default
theorem i14 {G : Nat} : (En G).i 14 = some inf14 := En_i.trans <| (envOf_i (by decide)).trans (by kernel_rfl)
theorem size14 : inf14.size = 2 := by kernel_rfl
theorem bytes14 : inf14.bytes = 24 := by kernel_rfl
theorem u15 {G : Nat} : (En G).u 15 = some (.pointer 238) := En_u.trans <| (envOf_u (by decide)).trans Tryz.underlying15
theorem agg15 {G : Nat} : (En G).agg 15 = some false := by unfold Env.agg; rw [u15]
theorem load15 {G : Nat} {B : Tr Blk} {b off : Nat} : loadO (En G) 15 B (some (.pointer (some ⟨b, off, none⟩))) = loadv B b off := loadO_one agg15
noncomputable def inf15 : TypeInfo := (Tryz.prog.info? 15).getD default
theorem i15 {G : Nat} : (En G).i 15 = some inf15 := En_i.trans <| (envOf_i (by decide)).trans (by kernel_rfl)
theorem size15 : inf15.size = 1 := by kernel_rfl
theorem bytes15 : inf15.bytes = 8 := by kernel_rfl
theorem zero15 : inf15.zero = some (.pointer none) := by kernel_rfl
theorem u16 {G : Nat} : (En G).u 16 = some (.pointer 241) := En_u.trans <| (envOf_u (by decide)).trans Tryz.underlying16
theorem agg16 {G : Nat} : (En G).agg 16 = some false := by unfold Env.agg; rw [u16]
theorem load16 {G : Nat} {B : Tr Blk} {b off : Nat} : loadO (En G) 16 B (some (.pointer (some ⟨b, off, none⟩))) = loadv B b off := loadO_one agg16
noncomputable def inf16 : TypeInfo := (Tryz.prog.info? 16).getD default
theorem i16 {G : Nat} : (En G).i 16 = some inf16 := En_i.trans <| (envOf_i (by decide)).trans (by kernel_rfl)
theorem size16 : inf16.size = 1 := by kernel_rfl
theorem bytes16 : inf16.bytes = 8 := by kernel_rfl
theorem zero16 : inf16.zero = some (.pointer none) := by kernel_rfl
theorem u17 {G : Nat} : (En G).u 17 = some (.pointer 248) := En_u.trans <| (envOf_u (by decide)).trans Tryz.underlying17
theorem agg17 {G : Nat} : (En G).agg 17 = some false := by unfold Env.agg; rw [u17]
theorem load17 {G : Nat} {B : Tr Blk} {b off : Nat} : loadO (En G) 17 B (some (.pointer (some ⟨b, off, none⟩))) = loadv B b off := loadO_one agg17
noncomputable def inf17 : TypeInfo := (Tryz.prog.info? 17).getD default
theorem i17 {G : Nat} : (En G).i 17 = some inf17 := En_i.trans <| (envOf_i (by decide)).trans (by kernel_rfl)
theorem size17 : inf17.size = 1 := by kernel_rfl
theorem bytes17 : inf17.bytes = 8 := by kernel_rfl
theorem zero17 : inf17.zero = some (.pointer none) := by kernel_rfl
noncomputable def inf18 : TypeInfo := (Tryz.prog.info? 18).getD default
theorem i18 {G : Nat} : (En G).i 18 = some inf18 := En_i.trans <| (envOf_i (by decide)).trans (by kernel_rfl)
theorem size18 : inf18.size = 1 := by kernel_rfl
theorem bytes18 : inf18.bytes = 8 := by kernel_rfl
noncomputable def inf19 : TypeInfo := (Tryz.prog.info? 19).getD default
theorem i19 {G : Nat} : (En G).i 19 = some inf19 := En_i.trans <| (envOf_i (by decide)).trans (by kernel_rfl)
theorem size19 : inf19.size = 1 := by kernel_rfl
theorem bytes19 : inf19.bytes = 8 := by kernel_rfl
theorem u21 {G : Nat} : (En G).u 21 = some (.int .i32) := En_u.trans <| (envOf_u (by decide)).trans Tryz.underlying21
theorem agg21 {G : Nat} : (En G).agg 21 = some false := by unfold Env.agg; rw [u21]
theorem load21 {G : Nat} {B : Tr Blk} {b off : Nat} : loadO (En G) 21 B (some (.pointer (some ⟨b, off, none⟩))) = loadv B b off := loadO_one agg21
noncomputable def inf21 : TypeInfo := (Tryz.prog.info? 21).getD default
theorem i21 {G : Nat} : (En G).i 21 = some inf21 := En_i.trans <| (envOf_i (by decide)).trans (by kernel_rfl)
theorem size21 : inf21.size = 1 := by kernel_rfl
theorem bytes21 : inf21.bytes = 4 := by kernel_rfl
theorem zero21 : inf21.zero = some (.int .i32 0) := by kernel_rfl
theorem u22 {G : Nat} : (En G).u 22 = some (.slice 104) := En_u.trans <| (envOf_u (by decide)).trans Tryz.underlying22
theorem agg22 {G : Nat} : (En G).agg 22 = some false := by unfold Env.agg; rw [u22]
theorem load22 {G : Nat} {B : Tr Blk} {b off : Nat} : loadO (En G) 22 B (some (.pointer (some ⟨b, off, none⟩))) = loadv B b off := loadO_one agg22
noncomputable def inf22 : TypeInfo := (Tryz.prog.info? 22).getD default
theorem i22 {G : Nat} : (En G).i 22 = some inf22 := En_i.trans <| (envOf_i (by decide)).trans (by kernel_rfl)
theorem size22 : inf22.size = 1 := by kernel_rfl
theorem bytes22 : inf22.bytes = 24 := by kernel_rfl
theorem zero22 : inf22.zero = some (.slice none 0 0) := by kernel_rfl
theorem len22 {G n c : Nat} {A : Option Addr} {B : Tr Blk} : lenO (En G) B 22 (some (.slice A n c)) = some (.int .i64 n) := lenO_slice u22
noncomputable def inf23 : TypeInfo := (Tryz.prog.info? 23).getD default
theorem i23 {G : Nat} : (En G).i 23 = some inf23 := En_i.trans <| (envOf_i (by decide)).trans (by kernel_rfl)
theorem size23 : inf23.size = 2 := by kernel_rfl
theorem bytes23 : inf23.bytes = 32 := by kernel_rfl
noncomputable def inf24 : TypeInfo := (Tryz.prog.info? 24).getD default
theorem i24 {G : Nat} : (En G).i 24 = some inf24 := En_i.trans <| (envOf_i (by decide)).trans (by kernel_rfl)
theorem size24 : inf24.size = 2 := by kernel_rfl
theorem bytes24 : inf24.bytes = 32 := by kernel_rfl
theorem u28 {G : Nat} : (En G).u 28 = some (.slice 9) := En_u.trans <| (envOf_u (by decide)).trans Tryz.underlying28
theorem agg28 {G : Nat} : (En G).agg 28 = some false := by unfold Env.agg; rw [u28]
theorem load28 {G : Nat} {B : Tr Blk} {b off : Nat} : loadO (En G) 28 B (some (.pointer (some ⟨b, off, none⟩))) = loadv B b off := loadO_one agg28
noncomputable def inf28 : TypeInfo := (Tryz.prog.info? 28).getD default
theorem i28 {G : Nat} : (En G).i 28 = some inf28 := En_i.trans <| (envOf_i (by decide)).trans (by kernel_rfl)
theorem size28 : inf28.size = 1 := by kernel_rfl
theorem bytes28 : inf28.bytes = 24 := by kernel_rfl
theorem zero28 : inf28.zero = some (.slice none 0 0) := by kernel_rfl
theorem len28 {G n c : Nat} {A : Option Addr} {B : Tr Blk} : lenO (En G) B 28 (some (.slice A n c)) = some (.int .i64 n) := lenO_slice u28
theorem u29 {G : Nat} : (En G).u 29 = some (.int .i64) := En_u.trans <| (envOf_u (by decide)).trans Tryz.underlying29
theorem agg29 {G : Nat} : (En G).agg 29 = some false := by unfold Env.agg; rw [u29]
theorem load29 {G : Nat} {B : Tr Blk} {b off : Nat} : loadO (En G) 29 B (some (.pointer (some ⟨b, off, none⟩))) = loadv B b off := loadO_one agg29
noncomputable def inf29 : TypeInfo := (Tryz.prog.info? 29).getD default
theorem i29 {G : Nat} : (En G).i 29 = some inf29 := En_i.trans <| (envOf_i (by decide)).trans (by kernel_rfl)
theorem size29 : inf29.size = 1 := by kernel_rfl
theorem bytes29 : inf29.bytes = 8 := by kernel_rfl
theorem zero29 : inf29.zero = some (.int .i64 0) := by kernel_rfl
theorem u34 {G : Nat} : (En G).u 34 = some (.slice 3) := En_u.trans <| (envOf_u (by decide)).trans Tryz.underlying34
theorem agg34 {G : Nat} : (En G).agg 34 = some false := by unfold Env.agg; rw [u34]
theorem load34 {G : Nat} {B : Tr Blk} {b off : Nat} : loadO (En G) 34 B (some (.pointer (some ⟨b, off, none⟩))) = loadv B b off := loadO_one agg34
noncomputable def inf34 : TypeInfo := (Tryz.prog.info? 34).getD default
theorem i34 {G : Nat} : (En G).i 34 = some inf34 := En_i.trans <| (envOf_i (by decide)).trans (by kernel_rfl)
theorem size34 : inf34.size = 1 := by kernel_rfl
theorem bytes34 : inf34.bytes = 24 := by kernel_rfl
theorem zero34 : inf34.zero = some (.slice none 0 0) := by kernel_rfl
theorem len34 {G n c : Nat} {A : Option Addr} {B : Tr Blk} : lenO (En G) B 34 (some (.slice A n c)) = some (.int .i64 n) := lenO_slice u34
theorem u52 {G : Nat} : (En G).u 52 = some (.string) := En_u.trans <| (envOf_u (by decide)).trans Tryz.underlying52
theorem agg52 {G : Nat} : (En G).agg 52 = some false := by unfold Env.agg; rw [u52]
theorem load52 {G : Nat} {B : Tr Blk} {b off : Nat} : loadO (En G) 52 B (some (.pointer (some ⟨b, off, none⟩))) = loadv B b off := loadO_one agg52
noncomputable def inf52 : TypeInfo := (Tryz.prog.info? 52).getD default
theorem i52 {G : Nat} : (En G).i 52 = some inf52 := En_i.trans <| (envOf_i (by decide)).trans (by kernel_rfl)
theorem size52 : inf52.size = 1 := by kernel_rfl
theorem bytes52 : inf52.bytes = 16 := by kernel_rfl
theorem zero52 : inf52.zero = some (.string .empty) := by kernel_rfl
noncomputable def inf59 : TypeInfo := (Tryz.prog.info? 59).getD default
theorem i59 {G : Nat} : (En G).i 59 = some inf59 := En_i.trans <| (envOf_i (by decide)).trans (by kernel_rfl)
theorem size59 : inf59.size = 2 := by kernel_rfl
theorem bytes59 : inf59.bytes = 32 := by kernel_rfl
noncomputable def inf60 : TypeInfo := (Tryz.prog.info? 60).getD default
theorem i60 {G : Nat} : (En G).i 60 = some inf60 := En_i.trans <| (envOf_i (by decide)).trans (by kernel_rfl)
theorem size60 : inf60.size = 2 := by kernel_rfl
theorem bytes60 : inf60.bytes = 32 := by kernel_rfl
noncomputable def inf63 : TypeInfo := (Tryz.prog.info? 63).getD default
theorem i63 {G : Nat} : (En G).i 63 = some inf63 := En_i.trans <| (envOf_i (by decide)).trans (by kernel_rfl)
theorem size63 : inf63.size = 4 := by kernel_rfl
theorem bytes63 : inf63.bytes = 64 := by kernel_rfl
noncomputable def inf64 : TypeInfo := (Tryz.prog.info? 64).getD default
theorem i64 {G : Nat} : (En G).i 64 = some inf64 := En_i.trans <| (envOf_i (by decide)).trans (by kernel_rfl)
theorem size64 : inf64.size = 4 := by kernel_rfl
theorem bytes64 : inf64.bytes = 64 := by kernel_rfl
theorem u70 {G : Nat} : (En G).u 70 = some (.int .u16) := En_u.trans <| (envOf_u (by decide)).trans Tryz.underlying70
theorem agg70 {G : Nat} : (En G).agg 70 = some false := by unfold Env.agg; rw [u70]
theorem load70 {G : Nat} {B : Tr Blk} {b off : Nat} : loadO (En G) 70 B (some (.pointer (some ⟨b, off, none⟩))) = loadv B b off := loadO_one agg70
noncomputable def inf70 : TypeInfo := (Tryz.prog.info? 70).getD default
theorem i70 {G : Nat} : (En G).i 70 = some inf70 := En_i.trans <| (envOf_i (by decide)).trans (by kernel_rfl)
theorem size70 : inf70.size = 1 := by kernel_rfl
theorem bytes70 : inf70.bytes = 2 := by kernel_rfl
theorem zero70 : inf70.zero = some (.int .u16 0) := by kernel_rfl
noncomputable def inf71 : TypeInfo := (Tryz.prog.info? 71).getD default
theorem i71 {G : Nat} : (En G).i 71 = some inf71 := En_i.trans <| (envOf_i (by decide)).trans (by kernel_rfl)
theorem size71 : inf71.size = 2 := by kernel_rfl
theorem bytes71 : inf71.bytes = 4 := by kernel_rfl
noncomputable def inf72 : TypeInfo := (Tryz.prog.info? 72).getD default
theorem i72 {G : Nat} : (En G).i 72 = some inf72 := En_i.trans <| (envOf_i (by decide)).trans (by kernel_rfl)
theorem size72 : inf72.size = 2 := by kernel_rfl
theorem bytes72 : inf72.bytes = 4 := by kernel_rfl
theorem u73 {G : Nat} : (En G).u 73 = some (.slice 5) := En_u.trans <| (envOf_u (by decide)).trans Tryz.underlying73
theorem agg73 {G : Nat} : (En G).agg 73 = some false := by unfold Env.agg; rw [u73]
theorem load73 {G : Nat} {B : Tr Blk} {b off : Nat} : loadO (En G) 73 B (some (.pointer (some ⟨b, off, none⟩))) = loadv B b off := loadO_one agg73
noncomputable def inf73 : TypeInfo := (Tryz.prog.info? 73).getD default
theorem i73 {G : Nat} : (En G).i 73 = some inf73 := En_i.trans <| (envOf_i (by decide)).trans (by kernel_rfl)
theorem size73 : inf73.size = 1 := by kernel_rfl
theorem bytes73 : inf73.bytes = 24 := by kernel_rfl
theorem zero73 : inf73.zero = some (.slice none 0 0) := by kernel_rfl
theorem len73 {G n c : Nat} {A : Option Addr} {B : Tr Blk} : lenO (En G) B 73 (some (.slice A n c)) = some (.int .i64 n) := lenO_slice u73
noncomputable def inf94 : TypeInfo := (Tryz.prog.info? 94).getD default
theorem i94 {G : Nat} : (En G).i 94 = some inf94 := En_i.trans <| (envOf_i (by decide)).trans (by kernel_rfl)
theorem size94 : inf94.size = 37 := by kernel_rfl
theorem bytes94 : inf94.bytes = 48 := by kernel_rfl
noncomputable def inf95 : TypeInfo := (Tryz.prog.info? 95).getD default
theorem i95 {G : Nat} : (En G).i 95 = some inf95 := En_i.trans <| (envOf_i (by decide)).trans (by kernel_rfl)
theorem size95 : inf95.size = 37 := by kernel_rfl
theorem bytes95 : inf95.bytes = 48 := by kernel_rfl
theorem u101 {G : Nat} : (En G).u 101 = some (.slice 29) := En_u.trans <| (envOf_u (by decide)).trans Tryz.underlying101
theorem agg101 {G : Nat} : (En G).agg 101 = some false := by unfold Env.agg; rw [u101]
theorem load101 {G : Nat} {B : Tr Blk} {b off : Nat} : loadO (En G) 101 B (some (.pointer (some ⟨b, off, none⟩))) = loadv B b off := loadO_one agg101
noncomputable def inf101 : TypeInfo := (Tryz.prog.info? 101).getD default
theorem i101 {G : Nat} : (En G).i 101 = some inf101 := En_i.trans <| (envOf_i (by decide)).trans (by kernel_rfl)
theorem size101 : inf101.size = 1 := by kernel_rfl
theorem bytes101 : inf101.bytes = 24 := by kernel_rfl
theorem zero101 : inf101.zero = some (.slice none 0 0) := by kernel_rfl
theorem len101 {G n c : Nat} {A : Option Addr} {B : Tr Blk} : lenO (En G) B 101 (some (.slice A n c)) = some (.int .i64 n) := lenO_slice u101
noncomputable def inf103 : TypeInfo := (Tryz.prog.info? 103).getD default
theorem i103 {G : Nat} : (En G).i 103 = some inf103 := En_i.trans <| (envOf_i (by decide)).trans (by kernel_rfl)
theorem size103 : inf103.size = 2 := by kernel_rfl
theorem bytes103 : inf103.bytes = 16 := by kernel_rfl
noncomputable def inf104 : TypeInfo := (Tryz.prog.info? 104).getD default
theorem i104 {G : Nat} : (En G).i 104 = some inf104 := En_i.trans <| (envOf_i (by decide)).trans (by kernel_rfl)
theorem size104 : inf104.size = 2 := by kernel_rfl
theorem bytes104 : inf104.bytes = 16 := by kernel_rfl
theorem u109 {G : Nat} : (En G).u 109 = some (.slice 168) := En_u.trans <| (envOf_u (by decide)).trans Tryz.underlying109
theorem agg109 {G : Nat} : (En G).agg 109 = some false := by unfold Env.agg; rw [u109]
theorem load109 {G : Nat} {B : Tr Blk} {b off : Nat} : loadO (En G) 109 B (some (.pointer (some ⟨b, off, none⟩))) = loadv B b off := loadO_one agg109
noncomputable def inf109 : TypeInfo := (Tryz.prog.info? 109).getD default
theorem i109 {G : Nat} : (En G).i 109 = some inf109 := En_i.trans <| (envOf_i (by decide)).trans (by kernel_rfl)
theorem size109 : inf109.size = 1 := by kernel_rfl
theorem bytes109 : inf109.bytes = 24 := by kernel_rfl
theorem zero109 : inf109.zero = some (.slice none 0 0) := by kernel_rfl
theorem len109 {G n c : Nat} {A : Option Addr} {B : Tr Blk} : lenO (En G) B 109 (some (.slice A n c)) = some (.int .i64 n) := lenO_slice u109
theorem u110 {G : Nat} : (En G).u 110 = some (.slice 168) := En_u.trans <| (envOf_u (by decide)).trans Tryz.underlying110
theorem agg110 {G : Nat} : (En G).agg 110 = some false := by unfold Env.agg; rw [u110]
theorem load110 {G : Nat} {B : Tr Blk} {b off : Nat} : loadO (En G) 110 B (some (.pointer (some ⟨b, off, none⟩))) = loadv B b off := loadO_one agg110
noncomputable def inf110 : TypeInfo := (Tryz.prog.info? 110).getD default
theorem i110 {G : Nat} : (En G).i 110 = some inf110 := En_i.trans <| (envOf_i (by decide)).trans (by kernel_rfl)
theorem size110 : inf110.size = 1 := by kernel_rfl
theorem bytes110 : inf110.bytes = 24 := by kernel_rfl
theorem zero110 : inf110.zero = some (.slice none 0 0) := by kernel_rfl
theorem len110 {G n c : Nat} {A : Option Addr} {B : Tr Blk} : lenO (En G) B 110 (some (.slice A n c)) = some (.int .i64 n) := lenO_slice u110
noncomputable def inf111 : TypeInfo := (Tryz.prog.info? 111).getD default
theorem i111 {G : Nat} : (En G).i 111 = some inf111 := En_i.trans <| (envOf_i (by decide)).trans (by kernel_rfl)
theorem size111 : inf111.size = 3 := by kernel_rfl
theorem bytes111 : inf111.bytes = 56 := by kernel_rfl
noncomputable def inf112 : TypeInfo := (Tryz.prog.info? 112).getD default
theorem i112 {G : Nat} : (En G).i 112 = some inf112 := En_i.trans <| (envOf_i (by decide)).trans (by kernel_rfl)
theorem size112 : inf112.size = 3 := by kernel_rfl
theorem bytes112 : inf112.bytes = 56 := by kernel_rfl
theorem u120 {G : Nat} : (En G).u 120 = some (.slice 121) := En_u.trans <| (envOf_u (by decide)).trans Tryz.underlying120
theorem agg120 {G : Nat} : (En G).agg 120 = some false := by unfold Env.agg; rw [u120]
theorem load120 {G : Nat} {B : Tr Blk} {b off : Nat} : loadO (En G) 120 B (some (.pointer (some ⟨b, off, none⟩))) = loadv B b off := loadO_one agg120
noncomputable def inf120 : TypeInfo := (Tryz.prog.info? 120).getD default
theorem i120 {G : Nat} : (En G).i 120 = some inf120 := En_i.trans <| (envOf_i (by decide)).trans (by kernel_rfl)
theorem size120 : inf120.size = 1 := by kernel_rfl
theorem bytes120 : inf120.bytes = 24 := by kernel_rfl
theorem zero120 : inf120.zero = some (.slice none 0 0) := by kernel_rfl
theorem len120 {G n c : Nat} {A : Option Addr} {B : Tr Blk} : lenO (En G) B 120 (some (.slice A n c)) = some (.int .i64 n) := lenO_slice u120
theorem u121 {G : Nat} : (En G).u 121 = some (.slice 60) := En_u.trans <| (envOf_u (by decide)).trans Tryz.underlying121
theorem agg121 {G : Nat} : (En G).agg 121 = some false := by unfold Env.agg; rw [u121]
theorem load121 {G : Nat} {B : Tr Blk} {b off : Nat} : loadO (En G) 121 B (some (.pointer (some ⟨b, off, none⟩))) = loadv B b off := loadO_one agg121
noncomputable def inf121 : TypeInfo := (Tryz.prog.info? 121).getD default
theorem i121 {G : Nat} : (En G).i 121 = some inf121 := En_i.trans <| (envOf_i (by decide)).trans (by kernel_rfl)
theorem size121 : inf121.size = 1 := by kernel_rfl
theorem bytes121 : inf121.bytes = 24 := by kernel_rfl
theorem zero121 : inf121.zero = some (.slice none 0 0) := by kernel_rfl
theorem len121 {G n c : Nat} {A : Option Addr} {B : Tr Blk} : lenO (En G) B 121 (some (.slice A n c)) = some (.int .i64 n) := lenO_slice u121
theorem u136 {G : Nat} : (En G).u 136 = some (.slice 73) := En_u.trans <| (envOf_u (by decide)).trans Tryz.underlying136
theorem agg136 {G : Nat} : (En G).agg 136 = some false := by unfold Env.agg; rw [u136]
theorem load136 {G : Nat} {B : Tr Blk} {b off : Nat} : loadO (En G) 136 B (some (.pointer (some ⟨b, off, none⟩))) = loadv B b off := loadO_one agg136
noncomputable def inf136 : TypeInfo := (Tryz.prog.info? 136).getD default
theorem i136 {G : Nat} : (En G).i 136 = some inf136 := En_i.trans <| (envOf_i (by decide)).trans (by kernel_rfl)
theorem size136 : inf136.size = 1 := by kernel_rfl
theorem bytes136 : inf136.bytes = 24 := by kernel_rfl
theorem zero136 : inf136.zero = some (.slice none 0 0) := by kernel_rfl
theorem len136 {G n c : Nat} {A : Option Addr} {B : Tr Blk} : lenO (En G) B 136 (some (.slice A n c)) = some (.int .i64 n) := lenO_slice u136
theorem u140 {G : Nat} : (En G).u 140 = some (.slice 112) := En_u.trans <| (envOf_u (by decide)).trans Tryz.underlying140
theorem agg140 {G : Nat} : (En G).agg 140 = some false := by unfold Env.agg; rw [u140]
theorem load140 {G : Nat} {B : Tr Blk} {b off : Nat} : loadO (En G) 140 B (some (.pointer (some ⟨b, off, none⟩))) = loadv B b off := loadO_one agg140
noncomputable def inf140 : TypeInfo := (Tryz.prog.info? 140).getD default
theorem i140 {G : Nat} : (En G).i 140 = some inf140 := En_i.trans <| (envOf_i (by decide)).trans (by kernel_rfl)
theorem size140 : inf140.size = 1 := by kernel_rfl
theorem bytes140 : inf140.bytes = 24 := by kernel_rfl
theorem zero140 : inf140.zero = some (.slice none 0 0) := by kernel_rfl
theorem len140 {G n c : Nat} {A : Option Addr} {B : Tr Blk} : lenO (En G) B 140 (some (.slice A n c)) = some (.int .i64 n) := lenO_slice u140
theorem u145 {G : Nat} : (En G).u 145 = some (.int .u64) := En_u.trans <| (envOf_u (by decide)).trans Tryz.underlying145
theorem agg145 {G : Nat} : (En G).agg 145 = some false := by unfold Env.agg; rw [u145]
theorem load145 {G : Nat} {B : Tr Blk} {b off : Nat} : loadO (En G) 145 B (some (.pointer (some ⟨b, off, none⟩))) = loadv B b off := loadO_one agg145
noncomputable def inf145 : TypeInfo := (Tryz.prog.info? 145).getD default
theorem i145 {G : Nat} : (En G).i 145 = some inf145 := En_i.trans <| (envOf_i (by decide)).trans (by kernel_rfl)
theorem size145 : inf145.size = 1 := by kernel_rfl
theorem bytes145 : inf145.bytes = 8 := by kernel_rfl
theorem zero145 : inf145.zero = some (.int .u64 0) := by kernel_rfl
theorem u152 {G : Nat} : (En G).u 152 = some (.pointer 92) := En_u.trans <| (envOf_u (by decide)).trans Tryz.underlying152
theorem agg152 {G : Nat} : (En G).agg 152 = some false := by unfold Env.agg; rw [u152]
theorem load152 {G : Nat} {B : Tr Blk} {b off : Nat} : loadO (En G) 152 B (some (.pointer (some ⟨b, off, none⟩))) = loadv B b off := loadO_one agg152
noncomputable def inf152 : TypeInfo := (Tryz.prog.info? 152).getD default
theorem i152 {G : Nat} : (En G).i 152 = some inf152 := En_i.trans <| (envOf_i (by decide)).trans (by kernel_rfl)
theorem size152 : inf152.size = 1 := by kernel_rfl
theorem bytes152 : inf152.bytes = 8 := by kernel_rfl
theorem zero152 : inf152.zero = some (.pointer none) := by kernel_rfl
theorem u159 {G : Nat} : (En G).u 159 = some (.int .u64) := En_u.trans <| (envOf_u (by decide)).trans Tryz.underlying159
theorem agg159 {G : Nat} : (En G).agg 159 = some false := by unfold Env.agg; rw [u159]
theorem load159 {G : Nat} {B : Tr Blk} {b off : Nat} : loadO (En G) 159 B (some (.pointer (some ⟨b, off, none⟩))) = loadv B b off := loadO_one agg159
noncomputable def inf159 : TypeInfo := (Tryz.prog.info? 159).getD default
theorem i159 {G : Nat} : (En G).i 159 = some inf159 := En_i.trans <| (envOf_i (by decide)).trans (by kernel_rfl)
theorem size159 : inf159.size = 1 := by kernel_rfl
theorem bytes159 : inf159.bytes = 8 := by kernel_rfl
theorem zero159 : inf159.zero = some (.int .u64 0) := by kernel_rfl
theorem u168 {G : Nat} : (En G).u 168 = some (.int .u32) := En_u.trans <| (envOf_u (by decide)).trans Tryz.underlying168
theorem agg168 {G : Nat} : (En G).agg 168 = some false := by unfold Env.agg; rw [u168]
theorem load168 {G : Nat} {B : Tr Blk} {b off : Nat} : loadO (En G) 168 B (some (.pointer (some ⟨b, off, none⟩))) = loadv B b off := loadO_one agg168
noncomputable def inf168 : TypeInfo := (Tryz.prog.info? 168).getD default
theorem i168 {G : Nat} : (En G).i 168 = some inf168 := En_i.trans <| (envOf_i (by decide)).trans (by kernel_rfl)
theorem size168 : inf168.size = 1 := by kernel_rfl
theorem bytes168 : inf168.bytes = 4 := by kernel_rfl
theorem zero168 : inf168.zero = some (.int .u32 0) := by kernel_rfl
theorem u179 {G : Nat} : (En G).u 179 = some (.int .i64) := En_u.trans <| (envOf_u (by decide)).trans Tryz.underlying179
theorem agg179 {G : Nat} : (En G).agg 179 = some false := by unfold Env.agg; rw [u179]
theorem load179 {G : Nat} {B : Tr Blk} {b off : Nat} : loadO (En G) 179 B (some (.pointer (some ⟨b, off, none⟩))) = loadv B b off := loadO_one agg179
noncomputable def inf179 : TypeInfo := (Tryz.prog.info? 179).getD default
theorem i179 {G : Nat} : (En G).i 179 = some inf179 := En_i.trans <| (envOf_i (by decide)).trans (by kernel_rfl)
theorem size179 : inf179.size = 1 := by kernel_rfl
theorem bytes179 : inf179.bytes = 8 := by kernel_rfl
theorem zero179 : inf179.zero = some (.int .i64 0) := by kernel_rfl
theorem u193 {G : Nat} : (En G).u 193 = some (.pointer 195) := En_u.trans <| (envOf_u (by decide)).trans Tryz.underlying193
theorem agg193 {G : Nat} : (En G).agg 193 = some false := by unfold Env.agg; rw [u193]
theorem load193 {G : Nat} {B : Tr Blk} {b off : Nat} : loadO (En G) 193 B (some (.pointer (some ⟨b, off, none⟩))) = loadv B b off := loadO_one agg193
noncomputable def inf193 : TypeInfo := (Tryz.prog.info? 193).getD default
theorem i193 {G : Nat} : (En G).i 193 = some inf193 := En_i.trans <| (envOf_i (by decide)).trans (by kernel_rfl)
theorem size193 : inf193.size = 1 := by kernel_rfl
theorem bytes193 : inf193.bytes = 8 := by kernel_rfl
theorem zero193 : inf193.zero = some (.pointer none) := by kernel_rfl
noncomputable def inf194 : TypeInfo := (Tryz.prog.info? 194).getD default
theorem i194 {G : Nat} : (En G).i 194 = some inf194 := En_i.trans <| (envOf_i (by decide)).trans (by kernel_rfl)
theorem size194 : inf194.size = 2 := by kernel_rfl
theorem bytes194 : inf194.bytes = 32 := by kernel_rfl
noncomputable def inf195 : TypeInfo := (Tryz.prog.info? 195).getD default
theorem i195 {G : Nat} : (En G).i 195 = some inf195 := En_i.trans <| (envOf_i (by decide)).trans (by kernel_rfl)
theorem size195 : inf195.size = 2 := by kernel_rfl
theorem bytes195 : inf195.bytes = 32 := by kernel_rfl
theorem u203 {G : Nat} : (En G).u 203 = some (.int .u64) := En_u.trans <| (envOf_u (by decide)).trans Tryz.underlying203
theorem agg203 {G : Nat} : (En G).agg 203 = some false := by unfold Env.agg; rw [u203]
theorem load203 {G : Nat} {B : Tr Blk} {b off : Nat} : loadO (En G) 203 B (some (.pointer (some ⟨b, off, none⟩))) = loadv B b off := loadO_one agg203
noncomputable def inf203 : TypeInfo := (Tryz.prog.info? 203).getD default
theorem i203 {G : Nat} : (En G).i 203 = some inf203 := En_i.trans <| (envOf_i (by decide)).trans (by kernel_rfl)
theorem size203 : inf203.size = 1 := by kernel_rfl
theorem bytes203 : inf203.bytes = 8 := by kernel_rfl
theorem zero203 : inf203.zero = some (.int .u64 0) := by kernel_rfl
theorem u207 {G : Nat} : (En G).u 207 = some (.pointer 3) := En_u.trans <| (envOf_u (by decide)).trans Tryz.underlying207
theorem agg207 {G : Nat} : (En G).agg 207 = some false := by unfold Env.agg; rw [u207]
theorem load207 {G : Nat} {B : Tr Blk} {b off : Nat} : loadO (En G) 207 B (some (.pointer (some ⟨b, off, none⟩))) = loadv B b off := loadO_one agg207
noncomputable def inf207 : TypeInfo := (Tryz.prog.info? 207).getD default
theorem i207 {G : Nat} : (En G).i 207 = some inf207 := En_i.trans <| (envOf_i (by decide)).trans (by kernel_rfl)
theorem size207 : inf207.size = 1 := by kernel_rfl
theorem bytes207 : inf207.bytes = 8 := by kernel_rfl
theorem zero207 : inf207.zero = some (.pointer none) := by kernel_rfl
theorem u219 {G : Nat} : (En G).u 219 = some (.pointer 5) := En_u.trans <| (envOf_u (by decide)).trans Tryz.underlying219
theorem agg219 {G : Nat} : (En G).agg 219 = some false := by unfold Env.agg; rw [u219]
theorem load219 {G : Nat} {B : Tr Blk} {b off : Nat} : loadO (En G) 219 B (some (.pointer (some ⟨b, off, none⟩))) = loadv B b off := loadO_one agg219
noncomputable def inf219 : TypeInfo := (Tryz.prog.info? 219).getD default
theorem i219 {G : Nat} : (En G).i 219 = some inf219 := En_i.trans <| (envOf_i (by decide)).trans (by kernel_rfl)
theorem size219 : inf219.size = 1 := by kernel_rfl
theorem bytes219 : inf219.bytes = 8 := by kernel_rfl
theorem zero219 : inf219.zero = some (.pointer none) := by kernel_rfl
theorem u220 {G : Nat} : (En G).u 220 = some (.pointer 203) := En_u.trans <| (envOf_u (by decide)).trans Tryz.underlying220
theorem agg220 {G : Nat} : (En G).agg 220 = some false := by unfold Env.agg; rw [u220]
theorem load220 {G : Nat} {B : Tr Blk} {b off : Nat} : loadO (En G) 220 B (some (.pointer (some ⟨b, off, none⟩))) = loadv B b off := loadO_one agg220
noncomputable def inf220 : TypeInfo := (Tryz.prog.info? 220).getD default
theorem i220 {G : Nat} : (En G).i 220 = some inf220 := En_i.trans <| (envOf_i (by decide)).trans (by kernel_rfl)
theorem size220 : inf220.size = 1 := by kernel_rfl
theorem bytes220 : inf220.bytes = 8 := by kernel_rfl
theorem zero220 : inf220.zero = some (.pointer none) := by kernel_rfl
noncomputable def inf237 : TypeInfo := (Tryz.prog.info? 237).getD default
theorem i237 {G : Nat} : (En G).i 237 = some inf237 := En_i.trans <| (envOf_i (by decide)).trans (by kernel_rfl)
theorem size237 : inf237.size = 4 := by kernel_rfl
theorem bytes237 : inf237.bytes = 40 := by kernel_rfl
noncomputable def inf238 : TypeInfo := (Tryz.prog.info? 238).getD default
theorem i238 {G : Nat} : (En G).i 238 = some inf238 := En_i.trans <| (envOf_i (by decide)).trans (by kernel_rfl)
theorem size238 : inf238.size = 4 := by kernel_rfl
theorem bytes238 : inf238.bytes = 40 := by kernel_rfl
noncomputable def inf240 : TypeInfo := (Tryz.prog.info? 240).getD default
theorem i240 {G : Nat} : (En G).i 240 = some inf240 := En_i.trans <| (envOf_i (by decide)).trans (by kernel_rfl)
theorem size240 : inf240.size = 0 := by kernel_rfl
theorem bytes240 : inf240.bytes = 0 := by kernel_rfl
noncomputable def inf241 : TypeInfo := (Tryz.prog.info? 241).getD default
theorem i241 {G : Nat} : (En G).i 241 = some inf241 := En_i.trans <| (envOf_i (by decide)).trans (by kernel_rfl)
theorem size241 : inf241.size = 0 := by kernel_rfl
theorem bytes241 : inf241.bytes = 0 := by kernel_rfl
theorem u242 {G : Nat} : (En G).u 242 = some (.int .u8) := En_u.trans <| (envOf_u (by decide)).trans Tryz.underlying242
theorem agg242 {G : Nat} : (En G).agg 242 = some false := by unfold Env.agg; rw [u242]
theorem load242 {G : Nat} {B : Tr Blk} {b off : Nat} : loadO (En G) 242 B (some (.pointer (some ⟨b, off, none⟩))) = loadv B b off := loadO_one agg242
noncomputable def inf242 : TypeInfo := (Tryz.prog.info? 242).getD default
theorem i242 {G : Nat} : (En G).i 242 = some inf242 := En_i.trans <| (envOf_i (by decide)).trans (by kernel_rfl)
theorem size242 : inf242.size = 1 := by kernel_rfl
theorem bytes242 : inf242.bytes = 1 := by kernel_rfl
theorem zero242 : inf242.zero = some (.int .u8 0) := by kernel_rfl
theorem u243 {G : Nat} : (En G).u 243 = some (.int .u8) := En_u.trans <| (envOf_u (by decide)).trans Tryz.underlying243
theorem agg243 {G : Nat} : (En G).agg 243 = some false := by unfold Env.agg; rw [u243]
theorem load243 {G : Nat} {B : Tr Blk} {b off : Nat} : loadO (En G) 243 B (some (.pointer (some ⟨b, off, none⟩))) = loadv B b off := loadO_one agg243
noncomputable def inf243 : TypeInfo := (Tryz.prog.info? 243).getD default
theorem i243 {G : Nat} : (En G).i 243 = some inf243 := En_i.trans <| (envOf_i (by decide)).trans (by kernel_rfl)
theorem size243 : inf243.size = 1 := by kernel_rfl
theorem bytes243 : inf243.bytes = 1 := by kernel_rfl
theorem zero243 : inf243.zero = some (.int .u8 0) := by kernel_rfl
theorem u245 {G : Nat} : (En G).u 245 = some (.int .i32) := En_u.trans <| (envOf_u (by decide)).trans Tryz.underlying245
theorem agg245 {G : Nat} : (En G).agg 245 = some false := by unfold Env.agg; rw [u245]
theorem load245 {G : Nat} {B : Tr Blk} {b off : Nat} : loadO (En G) 245 B (some (.pointer (some ⟨b, off, none⟩))) = loadv B b off := loadO_one agg245
noncomputable def inf245 : TypeInfo := (Tryz.prog.info? 245).getD default
theorem i245 {G : Nat} : (En G).i 245 = some inf245 := En_i.trans <| (envOf_i (by decide)).trans (by kernel_rfl)
theorem size245 : inf245.size = 1 := by kernel_rfl
theorem bytes245 : inf245.bytes = 4 := by kernel_rfl
theorem zero245 : inf245.zero = some (.int .i32 0) := by kernel_rfl
theorem u246 {G : Nat} : (En G).u 246 = some (.int .i32) := En_u.trans <| (envOf_u (by decide)).trans Tryz.underlying246
theorem agg246 {G : Nat} : (En G).agg 246 = some false := by unfold Env.agg; rw [u246]
theorem load246 {G : Nat} {B : Tr Blk} {b off : Nat} : loadO (En G) 246 B (some (.pointer (some ⟨b, off, none⟩))) = loadv B b off := loadO_one agg246
noncomputable def inf246 : TypeInfo := (Tryz.prog.info? 246).getD default
theorem i246 {G : Nat} : (En G).i 246 = some inf246 := En_i.trans <| (envOf_i (by decide)).trans (by kernel_rfl)
theorem size246 : inf246.size = 1 := by kernel_rfl
theorem bytes246 : inf246.bytes = 4 := by kernel_rfl
theorem zero246 : inf246.zero = some (.int .i32 0) := by kernel_rfl
noncomputable def inf247 : TypeInfo := (Tryz.prog.info? 247).getD default
theorem i247 {G : Nat} : (En G).i 247 = some inf247 := En_i.trans <| (envOf_i (by decide)).trans (by kernel_rfl)
theorem size247 : inf247.size = 11 := by kernel_rfl
theorem bytes247 : inf247.bytes = 48 := by kernel_rfl
noncomputable def inf248 : TypeInfo := (Tryz.prog.info? 248).getD default
theorem i248 {G : Nat} : (En G).i 248 = some inf248 := En_i.trans <| (envOf_i (by decide)).trans (by kernel_rfl)
theorem size248 : inf248.size = 11 := by kernel_rfl
theorem bytes248 : inf248.bytes = 48 := by kernel_rfl
theorem us7 {G : Nat} : (En G).u 7 = Tryz.prog.underlying 7 := En_u.trans <| envOf_u (by decide)
theorem agg7 {G : Nat} : (En G).agg 7 = some true := by unfold Env.agg; rw [us7, Tryz.underlying7]
theorem us8 {G : Nat} : (En G).u 8 = Tryz.prog.underlying 8 := En_u.trans <| envOf_u (by decide)
theorem agg8 {G : Nat} : (En G).agg 8 = some true := by unfold Env.agg; rw [us8, Tryz.underlying8]
theorem us13 {G : Nat} : (En G).u 13 = Tryz.prog.underlying 13 := En_u.trans <| envOf_u (by decide)
theorem agg13 {G : Nat} : (En G).agg 13 = some true := by unfold Env.agg; rw [us13, Tryz.underlying13]
theorem us14 {G : Nat} : (En G).u 14 = Tryz.prog.underlying 14 := En_u.trans <| envOf_u (by decide)
theorem agg14 {G : Nat} : (En G).agg 14 = some true := by unfold Env.agg; rw [us14, Tryz.underlying14]
theorem us18 {G : Nat} : (En G).u 18 = Tryz.prog.underlying 18 := En_u.trans <| envOf_u (by decide)
theorem agg18 {G : Nat} : (En G).agg 18 = some true := by unfold Env.agg; rw [us18, Tryz.underlying18]
theorem us19 {G : Nat} : (En G).u 19 = Tryz.prog.underlying 19 := En_u.trans <| envOf_u (by decide)
theorem agg19 {G : Nat} : (En G).agg 19 = some true := by unfold Env.agg; rw [us19, Tryz.underlying19]
theorem us23 {G : Nat} : (En G).u 23 = Tryz.prog.underlying 23 := En_u.trans <| envOf_u (by decide)
theorem agg23 {G : Nat} : (En G).agg 23 = some true := by unfold Env.agg; rw [us23, Tryz.underlying23]
theorem us24 {G : Nat} : (En G).u 24 = Tryz.prog.underlying 24 := En_u.trans <| envOf_u (by decide)
theorem agg24 {G : Nat} : (En G).agg 24 = some true := by unfold Env.agg; rw [us24, Tryz.underlying24]
theorem us59 {G : Nat} : (En G).u 59 = Tryz.prog.underlying 59 := En_u.trans <| envOf_u (by decide)
theorem agg59 {G : Nat} : (En G).agg 59 = some true := by unfold Env.agg; rw [us59, Tryz.underlying59]
theorem us60 {G : Nat} : (En G).u 60 = Tryz.prog.underlying 60 := En_u.trans <| envOf_u (by decide)
theorem agg60 {G : Nat} : (En G).agg 60 = some true := by unfold Env.agg; rw [us60, Tryz.underlying60]
theorem us63 {G : Nat} : (En G).u 63 = Tryz.prog.underlying 63 := En_u.trans <| envOf_u (by decide)
theorem agg63 {G : Nat} : (En G).agg 63 = some true := by unfold Env.agg; rw [us63, Tryz.underlying63]
theorem us64 {G : Nat} : (En G).u 64 = Tryz.prog.underlying 64 := En_u.trans <| envOf_u (by decide)
theorem agg64 {G : Nat} : (En G).agg 64 = some true := by unfold Env.agg; rw [us64, Tryz.underlying64]
theorem us71 {G : Nat} : (En G).u 71 = Tryz.prog.underlying 71 := En_u.trans <| envOf_u (by decide)
theorem agg71 {G : Nat} : (En G).agg 71 = some true := by unfold Env.agg; rw [us71, Tryz.underlying71]
theorem us72 {G : Nat} : (En G).u 72 = Tryz.prog.underlying 72 := En_u.trans <| envOf_u (by decide)
theorem agg72 {G : Nat} : (En G).agg 72 = some true := by unfold Env.agg; rw [us72, Tryz.underlying72]
theorem u86 {G : Nat} : (En G).u 86 = some (.array 2 73) := En_u.trans <| (envOf_u (by decide)).trans Tryz.underlying86
theorem agg86 {G : Nat} : (En G).agg 86 = some true := by unfold Env.agg; rw [u86]
noncomputable def inf86 : TypeInfo := (Tryz.prog.info? 86).getD default
theorem i86 {G : Nat} : (En G).i 86 = some inf86 := En_i.trans <| (envOf_i (by decide)).trans (by kernel_rfl)
theorem size86 : inf86.size = 2 := by kernel_rfl
theorem bytes86 : inf86.bytes = 48 := by kernel_rfl
theorem u88 {G : Nat} : (En G).u 88 = some (.array 2 5) := En_u.trans <| (envOf_u (by decide)).trans Tryz.underlying88
theorem agg88 {G : Nat} : (En G).agg 88 = some true := by unfold Env.agg; rw [u88]
noncomputable def inf88 : TypeInfo := (Tryz.prog.info? 88).getD default
theorem i88 {G : Nat} : (En G).i 88 = some inf88 := En_i.trans <| (envOf_i (by decide)).trans (by kernel_rfl)
theorem size88 : inf88.size = 2 := by kernel_rfl
theorem bytes88 : inf88.bytes = 2 := by kernel_rfl
theorem u92 {G : Nat} : (En G).u 92 = some (.array 6 4) := En_u.trans <| (envOf_u (by decide)).trans Tryz.underlying92
theorem agg92 {G : Nat} : (En G).agg 92 = some true := by unfold Env.agg; rw [u92]
noncomputable def inf92 : TypeInfo := (Tryz.prog.info? 92).getD default
theorem i92 {G : Nat} : (En G).i 92 = some inf92 := En_i.trans <| (envOf_i (by decide)).trans (by kernel_rfl)
theorem size92 : inf92.size = 6 := by kernel_rfl
theorem bytes92 : inf92.bytes = 6 := by kernel_rfl
theorem u93 {G : Nat} : (En G).u 93 = some (.array 6 92) := En_u.trans <| (envOf_u (by decide)).trans Tryz.underlying93
theorem agg93 {G : Nat} : (En G).agg 93 = some true := by unfold Env.agg; rw [u93]
noncomputable def inf93 : TypeInfo := (Tryz.prog.info? 93).getD default
theorem i93 {G : Nat} : (En G).i 93 = some inf93 := En_i.trans <| (envOf_i (by decide)).trans (by kernel_rfl)
theorem size93 : inf93.size = 36 := by kernel_rfl
theorem bytes93 : inf93.bytes = 36 := by kernel_rfl
theorem us94 {G : Nat} : (En G).u 94 = Tryz.prog.underlying 94 := En_u.trans <| envOf_u (by decide)
theorem agg94 {G : Nat} : (En G).agg 94 = some true := by unfold Env.agg; rw [us94, Tryz.underlying94]
theorem us95 {G : Nat} : (En G).u 95 = Tryz.prog.underlying 95 := En_u.trans <| envOf_u (by decide)
theorem agg95 {G : Nat} : (En G).agg 95 = some true := by unfold Env.agg; rw [us95, Tryz.underlying95]
theorem us103 {G : Nat} : (En G).u 103 = Tryz.prog.underlying 103 := En_u.trans <| envOf_u (by decide)
theorem agg103 {G : Nat} : (En G).agg 103 = some true := by unfold Env.agg; rw [us103, Tryz.underlying103]
theorem us104 {G : Nat} : (En G).u 104 = Tryz.prog.underlying 104 := En_u.trans <| envOf_u (by decide)
theorem agg104 {G : Nat} : (En G).agg 104 = some true := by unfold Env.agg; rw [us104, Tryz.underlying104]
theorem us111 {G : Nat} : (En G).u 111 = Tryz.prog.underlying 111 := En_u.trans <| envOf_u (by decide)
theorem agg111 {G : Nat} : (En G).agg 111 = some true := by unfold Env.agg; rw [us111, Tryz.underlying111]
theorem us112 {G : Nat} : (En G).u 112 = Tryz.prog.underlying 112 := En_u.trans <| envOf_u (by decide)
theorem agg112 {G : Nat} : (En G).agg 112 = some true := by unfold Env.agg; rw [us112, Tryz.underlying112]
theorem u139 {G : Nat} : (En G).u 139 = some (.array 6 3) := En_u.trans <| (envOf_u (by decide)).trans Tryz.underlying139
theorem agg139 {G : Nat} : (En G).agg 139 = some true := by unfold Env.agg; rw [u139]
noncomputable def inf139 : TypeInfo := (Tryz.prog.info? 139).getD default
theorem i139 {G : Nat} : (En G).i 139 = some inf139 := En_i.trans <| (envOf_i (by decide)).trans (by kernel_rfl)
theorem size139 : inf139.size = 6 := by kernel_rfl
theorem bytes139 : inf139.bytes = 48 := by kernel_rfl
theorem us194 {G : Nat} : (En G).u 194 = Tryz.prog.underlying 194 := En_u.trans <| envOf_u (by decide)
theorem agg194 {G : Nat} : (En G).agg 194 = some true := by unfold Env.agg; rw [us194, Tryz.underlying194]
theorem us195 {G : Nat} : (En G).u 195 = Tryz.prog.underlying 195 := En_u.trans <| envOf_u (by decide)
theorem agg195 {G : Nat} : (En G).agg 195 = some true := by unfold Env.agg; rw [us195, Tryz.underlying195]
theorem u224 {G : Nat} : (En G).u 224 = some (.array 24 5) := En_u.trans <| (envOf_u (by decide)).trans Tryz.underlying224
theorem agg224 {G : Nat} : (En G).agg 224 = some true := by unfold Env.agg; rw [u224]
noncomputable def inf224 : TypeInfo := (Tryz.prog.info? 224).getD default
theorem i224 {G : Nat} : (En G).i 224 = some inf224 := En_i.trans <| (envOf_i (by decide)).trans (by kernel_rfl)
theorem size224 : inf224.size = 24 := by kernel_rfl
theorem bytes224 : inf224.bytes = 24 := by kernel_rfl
theorem u233 {G : Nat} : (En G).u 233 = some (.array 20 159) := En_u.trans <| (envOf_u (by decide)).trans Tryz.underlying233
theorem agg233 {G : Nat} : (En G).agg 233 = some true := by unfold Env.agg; rw [u233]
noncomputable def inf233 : TypeInfo := (Tryz.prog.info? 233).getD default
theorem i233 {G : Nat} : (En G).i 233 = some inf233 := En_i.trans <| (envOf_i (by decide)).trans (by kernel_rfl)
theorem size233 : inf233.size = 20 := by kernel_rfl
theorem bytes233 : inf233.bytes = 160 := by kernel_rfl
theorem u234 {G : Nat} : (En G).u 234 = some (.array 65 5) := En_u.trans <| (envOf_u (by decide)).trans Tryz.underlying234
theorem agg234 {G : Nat} : (En G).agg 234 = some true := by unfold Env.agg; rw [u234]
noncomputable def inf234 : TypeInfo := (Tryz.prog.info? 234).getD default
theorem i234 {G : Nat} : (En G).i 234 = some inf234 := En_i.trans <| (envOf_i (by decide)).trans (by kernel_rfl)
theorem size234 : inf234.size = 65 := by kernel_rfl
theorem bytes234 : inf234.bytes = 65 := by kernel_rfl
theorem u235 {G : Nat} : (En G).u 235 = some (.array 32 5) := En_u.trans <| (envOf_u (by decide)).trans Tryz.underlying235
theorem agg235 {G : Nat} : (En G).agg 235 = some true := by unfold Env.agg; rw [u235]
noncomputable def inf235 : TypeInfo := (Tryz.prog.info? 235).getD default
theorem i235 {G : Nat} : (En G).i 235 = some inf235 := En_i.trans <| (envOf_i (by decide)).trans (by kernel_rfl)
theorem size235 : inf235.size = 32 := by kernel_rfl
theorem bytes235 : inf235.bytes = 32 := by kernel_rfl
theorem u236 {G : Nat} : (En G).u 236 = some (.array 64 5) := En_u.trans <| (envOf_u (by decide)).trans Tryz.underlying236
theorem agg236 {G : Nat} : (En G).agg 236 = some true := by unfold Env.agg; rw [u236]
noncomputable def inf236 : TypeInfo := (Tryz.prog.info? 236).getD default
theorem i236 {G : Nat} : (En G).i 236 = some inf236 := En_i.trans <| (envOf_i (by decide)).trans (by kernel_rfl)
theorem size236 : inf236.size = 64 := by kernel_rfl
theorem bytes236 : inf236.bytes = 64 := by kernel_rfl
theorem us237 {G : Nat} : (En G).u 237 = Tryz.prog.underlying 237 := En_u.trans <| envOf_u (by decide)
theorem agg237 {G : Nat} : (En G).agg 237 = some true := by unfold Env.agg; rw [us237, Tryz.underlying237]
theorem us238 {G : Nat} : (En G).u 238 = Tryz.prog.underlying 238 := En_u.trans <| envOf_u (by decide)
theorem agg238 {G : Nat} : (En G).agg 238 = some true := by unfold Env.agg; rw [us238, Tryz.underlying238]
theorem u239 {G : Nat} : (En G).u 239 = some (.array 0 16) := En_u.trans <| (envOf_u (by decide)).trans Tryz.underlying239
theorem agg239 {G : Nat} : (En G).agg 239 = some true := by unfold Env.agg; rw [u239]
noncomputable def inf239 : TypeInfo := (Tryz.prog.info? 239).getD default
theorem i239 {G : Nat} : (En G).i 239 = some inf239 := En_i.trans <| (envOf_i (by decide)).trans (by kernel_rfl)
theorem size239 : inf239.size = 0 := by kernel_rfl
theorem bytes239 : inf239.bytes = 0 := by kernel_rfl
theorem us240 {G : Nat} : (En G).u 240 = Tryz.prog.underlying 240 := En_u.trans <| envOf_u (by decide)
theorem agg240 {G : Nat} : (En G).agg 240 = some true := by unfold Env.agg; rw [us240, Tryz.underlying240]
theorem us241 {G : Nat} : (En G).u 241 = Tryz.prog.underlying 241 := En_u.trans <| envOf_u (by decide)
theorem agg241 {G : Nat} : (En G).agg 241 = some true := by unfold Env.agg; rw [us241, Tryz.underlying241]
theorem us247 {G : Nat} : (En G).u 247 = Tryz.prog.underlying 247 := En_u.trans <| envOf_u (by decide)
theorem agg247 {G : Nat} : (En G).agg 247 = some true := by unfold Env.agg; rw [us247, Tryz.underlying247]
theorem us248 {G : Nat} : (En G).u 248 = Tryz.prog.underlying 248 := En_u.trans <| envOf_u (by decide)
theorem agg248 {G : Nat} : (En G).agg 248 = some true := by unfold Env.agg; rw [us248, Tryz.underlying248]
theorem idxA22 {G b off n c : Nat} {kd : IntKind} {z : Int} (h0 : 0 ≤ z) (h1 : z < n) : idxAddrO (En G) 22 (some (.slice (some ⟨b, off, none⟩) n c)) (some (.int kd z)) = some (.pointer (some ⟨b, off + z.toNat * 2, none⟩)) := by
  rw [idxAddrO_slice u22 i104 h0 h1, size104]
theorem idxA28 {G b off n c : Nat} {kd : IntKind} {z : Int} (h0 : 0 ≤ z) (h1 : z < n) : idxAddrO (En G) 28 (some (.slice (some ⟨b, off, none⟩) n c)) (some (.int kd z)) = some (.pointer (some ⟨b, off + z.toNat * 1, none⟩)) := by
  rw [idxAddrO_slice u28 i9 h0 h1, size9]
theorem idxA34 {G b off n c : Nat} {kd : IntKind} {z : Int} (h0 : 0 ≤ z) (h1 : z < n) : idxAddrO (En G) 34 (some (.slice (some ⟨b, off, none⟩) n c)) (some (.int kd z)) = some (.pointer (some ⟨b, off + z.toNat * 1, none⟩)) := by
  rw [idxAddrO_slice u34 i3 h0 h1, size3]
theorem idxA73 {G b off n c : Nat} {kd : IntKind} {z : Int} (h0 : 0 ≤ z) (h1 : z < n) : idxAddrO (En G) 73 (some (.slice (some ⟨b, off, none⟩) n c)) (some (.int kd z)) = some (.pointer (some ⟨b, off + z.toNat * 1, none⟩)) := by
  rw [idxAddrO_slice u73 i5 h0 h1, size5]
theorem idxA101 {G b off n c : Nat} {kd : IntKind} {z : Int} (h0 : 0 ≤ z) (h1 : z < n) : idxAddrO (En G) 101 (some (.slice (some ⟨b, off, none⟩) n c)) (some (.int kd z)) = some (.pointer (some ⟨b, off + z.toNat * 1, none⟩)) := by
  rw [idxAddrO_slice u101 i29 h0 h1, size29]
theorem idxA109 {G b off n c : Nat} {kd : IntKind} {z : Int} (h0 : 0 ≤ z) (h1 : z < n) : idxAddrO (En G) 109 (some (.slice (some ⟨b, off, none⟩) n c)) (some (.int kd z)) = some (.pointer (some ⟨b, off + z.toNat * 1, none⟩)) := by
  rw [idxAddrO_slice u109 i168 h0 h1, size168]
theorem idxA110 {G b off n c : Nat} {kd : IntKind} {z : Int} (h0 : 0 ≤ z) (h1 : z < n) : idxAddrO (En G) 110 (some (.slice (some ⟨b, off, none⟩) n c)) (some (.int kd z)) = some (.pointer (some ⟨b, off + z.toNat * 1, none⟩)) := by
  rw [idxAddrO_slice u110 i168 h0 h1, size168]
theorem idxA120 {G b off n c : Nat} {kd : IntKind} {z : Int} (h0 : 0 ≤ z) (h1 : z < n) : idxAddrO (En G) 120 (some (.slice (some ⟨b, off, none⟩) n c)) (some (.int kd z)) = some (.pointer (some ⟨b, off + z.toNat * 1, none⟩)) := by
  rw [idxAddrO_slice u120 i121 h0 h1, size121]
theorem idxA121 {G b off n c : Nat} {kd : IntKind} {z : Int} (h0 : 0 ≤ z) (h1 : z < n) : idxAddrO (En G) 121 (some (.slice (some ⟨b, off, none⟩) n c)) (some (.int kd z)) = some (.pointer (some ⟨b, off + z.toNat * 2, none⟩)) := by
  rw [idxAddrO_slice u121 i60 h0 h1, size60]
theorem idxA136 {G b off n c : Nat} {kd : IntKind} {z : Int} (h0 : 0 ≤ z) (h1 : z < n) : idxAddrO (En G) 136 (some (.slice (some ⟨b, off, none⟩) n c)) (some (.int kd z)) = some (.pointer (some ⟨b, off + z.toNat * 1, none⟩)) := by
  rw [idxAddrO_slice u136 i73 h0 h1, size73]
theorem idxA140 {G b off n c : Nat} {kd : IntKind} {z : Int} (h0 : 0 ≤ z) (h1 : z < n) : idxAddrO (En G) 140 (some (.slice (some ⟨b, off, none⟩) n c)) (some (.int kd z)) = some (.pointer (some ⟨b, off + z.toNat * 3, none⟩)) := by
  rw [idxAddrO_slice u140 i112 h0 h1, size112]
theorem fld7_0 {G b off : Nat} : fieldAddrO (En G) 7 0 (some (.pointer (some ⟨b, off, none⟩))) = some (.pointer (some ⟨b, off + 0, none⟩)) := by
  simp only [fieldAddrO, evFieldAddr, us7, Tryz.underlying7, List.getElem?_toArray, List.getElem?_cons_zero, List.getElem?_cons_succ, i2, size2, forceN_eq]
  rfl
theorem fld7_1 {G b off : Nat} : fieldAddrO (En G) 7 1 (some (.pointer (some ⟨b, off, none⟩))) = some (.pointer (some ⟨b, off + 1, none⟩)) := by
  simp only [fieldAddrO, evFieldAddr, us7, Tryz.underlying7, List.getElem?_toArray, List.getElem?_cons_zero, List.getElem?_cons_succ, i3, size3, forceN_eq]
  rfl
theorem fld7_2 {G b off : Nat} : fieldAddrO (En G) 7 2 (some (.pointer (some ⟨b, off, none⟩))) = some (.pointer (some ⟨b, off + 2, none⟩)) := by
  simp only [fieldAddrO, evFieldAddr, us7, Tryz.underlying7, List.getElem?_toArray, List.getElem?_cons_zero, List.getElem?_cons_succ, i4, size4, forceN_eq]
  rfl
theorem fld7_3 {G b off : Nat} : fieldAddrO (En G) 7 3 (some (.pointer (some ⟨b, off, none⟩))) = some (.pointer (some ⟨b, off + 3, none⟩)) := by
  simp only [fieldAddrO, evFieldAddr, us7, Tryz.underlying7, List.getElem?_toArray, List.getElem?_cons_zero, List.getElem?_cons_succ, i6, size6, forceN_eq]
  rfl
theorem fld8_0 {G b off : Nat} : fieldAddrO (En G) 8 0 (some (.pointer (some ⟨b, off, none⟩))) = some (.pointer (some ⟨b, off + 0, none⟩)) := by
  simp only [fieldAddrO, evFieldAddr, us8, Tryz.underlying8, List.getElem?_toArray, List.getElem?_cons_zero, List.getElem?_cons_succ, i2, size2, forceN_eq]
  rfl
theorem fld8_1 {G b off : Nat} : fieldAddrO (En G) 8 1 (some (.pointer (some ⟨b, off, none⟩))) = some (.pointer (some ⟨b, off + 1, none⟩)) := by
  simp only [fieldAddrO, evFieldAddr, us8, Tryz.underlying8, List.getElem?_toArray, List.getElem?_cons_zero, List.getElem?_cons_succ, i3, size3, forceN_eq]
  rfl
theorem fld8_2 {G b off : Nat} : fieldAddrO (En G) 8 2 (some (.pointer (some ⟨b, off, none⟩))) = some (.pointer (some ⟨b, off + 2, none⟩)) := by
  simp only [fieldAddrO, evFieldAddr, us8, Tryz.underlying8, List.getElem?_toArray, List.getElem?_cons_zero, List.getElem?_cons_succ, i4, size4, forceN_eq]
  rfl
theorem fld8_3 {G b off : Nat} : fieldAddrO (En G) 8 3 (some (.pointer (some ⟨b, off, none⟩))) = some (.pointer (some ⟨b, off + 3, none⟩)) := by
  simp only [fieldAddrO, evFieldAddr, us8, Tryz.underlying8, List.getElem?_toArray, List.getElem?_cons_zero, List.getElem?_cons_succ, i6, size6, forceN_eq]
  rfl
theorem fld13_0 {G b off : Nat} : fieldAddrO (En G) 13 0 (some (.pointer (some ⟨b, off, none⟩))) = some (.pointer (some ⟨b, off + 0, none⟩)) := by
  simp only [fieldAddrO, evFieldAddr, us13, Tryz.underlying13, List.getElem?_toArray, List.getElem?_cons_zero, List.getElem?_cons_succ, i9, size9, forceN_eq]
  rfl
theorem fld13_1 {G b off : Nat} : fieldAddrO (En G) 13 1 (some (.pointer (some ⟨b, off, none⟩))) = some (.pointer (some ⟨b, off + 1, none⟩)) := by
  simp only [fieldAddrO, evFieldAddr, us13, Tryz.underlying13, List.getElem?_toArray, List.getElem?_cons_zero, List.getElem?_cons_succ, i12, size12, forceN_eq]
  rfl
theorem fld14_0 {G b off : Nat} : fieldAddrO (En G) 14 0 (some (.pointer (some ⟨b, off, none⟩))) = some (.pointer (some ⟨b, off + 0, none⟩)) := by
  simp only [fieldAddrO, evFieldAddr, us14, Tryz.underlying14, List.getElem?_toArray, List.getElem?_cons_zero, List.getElem?_cons_succ, i9, size9, forceN_eq]
  rfl
theorem fld14_1 {G b off : Nat} : fieldAddrO (En G) 14 1 (some (.pointer (some ⟨b, off, none⟩))) = some (.pointer (some ⟨b, off + 1, none⟩)) := by
  simp only [fieldAddrO, evFieldAddr, us14, Tryz.underlying14, List.getElem?_toArray, List.getElem?_cons_zero, List.getElem?_cons_succ, i12, size12, forceN_eq]
  rfl
theorem fld18_0 {G b off : Nat} : fieldAddrO (En G) 18 0 (some (.pointer (some ⟨b, off, none⟩))) = some (.pointer (some ⟨b, off + 0, none⟩)) := by
  simp only [fieldAddrO, evFieldAddr, us18, Tryz.underlying18, List.getElem?_toArray, List.getElem?_cons_zero, List.getElem?_cons_succ, i17, size17, forceN_eq]
  rfl
theorem fld19_0 {G b off : Nat} : fieldAddrO (En G) 19 0 (some (.pointer (some ⟨b, off, none⟩))) = some (.pointer (some ⟨b, off + 0, none⟩)) := by
  simp only [fieldAddrO, evFieldAddr, us19, Tryz.underlying19, List.getElem?_toArray, List.getElem?_cons_zero, List.getElem?_cons_succ, i17, size17, forceN_eq]
  rfl
theorem fld23_0 {G b off : Nat} : fieldAddrO (En G) 23 0 (some (.pointer (some ⟨b, off, none⟩))) = some (.pointer (some ⟨b, off + 0, none⟩)) := by
  simp only [fieldAddrO, evFieldAddr, us23, Tryz.underlying23, List.getElem?_toArray, List.getElem?_cons_zero, List.getElem?_cons_succ, i3, size3, forceN_eq]
  rfl
theorem fld23_1 {G b off : Nat} : fieldAddrO (En G) 23 1 (some (.pointer (some ⟨b, off, none⟩))) = some (.pointer (some ⟨b, off + 1, none⟩)) := by
  simp only [fieldAddrO, evFieldAddr, us23, Tryz.underlying23, List.getElem?_toArray, List.getElem?_cons_zero, List.getElem?_cons_succ, i22, size22, forceN_eq]
  rfl
theorem fld24_0 {G b off : Nat} : fieldAddrO (En G) 24 0 (some (.pointer (some ⟨b, off, none⟩))) = some (.pointer (some ⟨b, off + 0, none⟩)) := by
  simp only [fieldAddrO, evFieldAddr, us24, Tryz.underlying24, List.getElem?_toArray, List.getElem?_cons_zero, List.getElem?_cons_succ, i3, size3, forceN_eq]
  rfl
theorem fld24_1 {G b off : Nat} : fieldAddrO (En G) 24 1 (some (.pointer (some ⟨b, off, none⟩))) = some (.pointer (some ⟨b, off + 1, none⟩)) := by
  simp only [fieldAddrO, evFieldAddr, us24, Tryz.underlying24, List.getElem?_toArray, List.getElem?_cons_zero, List.getElem?_cons_succ, i22, size22, forceN_eq]
  rfl
theorem fld59_0 {G b off : Nat} : fieldAddrO (En G) 59 0 (some (.pointer (some ⟨b, off, none⟩))) = some (.pointer (some ⟨b, off + 0, none⟩)) := by
  simp only [fieldAddrO, evFieldAddr, us59, Tryz.underlying59, List.getElem?_toArray, List.getElem?_cons_zero, List.getElem?_cons_succ, i4, size4, forceN_eq]
  rfl
theorem fld59_1 {G b off : Nat} : fieldAddrO (En G) 59 1 (some (.pointer (some ⟨b, off, none⟩))) = some (.pointer (some ⟨b, off + 1, none⟩)) := by
  simp only [fieldAddrO, evFieldAddr, us59, Tryz.underlying59, List.getElem?_toArray, List.getElem?_cons_zero, List.getElem?_cons_succ, i34, size34, forceN_eq]
  rfl
theorem fld60_0 {G b off : Nat} : fieldAddrO (En G) 60 0 (some (.pointer (some ⟨b, off, none⟩))) = some (.pointer (some ⟨b, off + 0, none⟩)) := by
  simp only [fieldAddrO, evFieldAddr, us60, Tryz.underlying60, List.getElem?_toArray, List.getElem?_cons_zero, List.getElem?_cons_succ, i4, size4, forceN_eq]
  rfl
theorem fld60_1 {G b off : Nat} : fieldAddrO (En G) 60 1 (some (.pointer (some ⟨b, off, none⟩))) = some (.pointer (some ⟨b, off + 1, none⟩)) := by
  simp only [fieldAddrO, evFieldAddr, us60, Tryz.underlying60, List.getElem?_toArray, List.getElem?_cons_zero, List.getElem?_cons_succ, i34, size34, forceN_eq]
  rfl
theorem fld63_0 {G b off : Nat} : fieldAddrO (En G) 63 0 (some (.pointer (some ⟨b, off, none⟩))) = some (.pointer (some ⟨b, off + 0, none⟩)) := by
  simp only [fieldAddrO, evFieldAddr, us63, Tryz.underlying63, List.getElem?_toArray, List.getElem?_cons_zero, List.getElem?_cons_succ, i60, size60, forceN_eq]
  rfl
theorem fld63_1 {G b off : Nat} : fieldAddrO (En G) 63 1 (some (.pointer (some ⟨b, off, none⟩))) = some (.pointer (some ⟨b, off + 2, none⟩)) := by
  simp only [fieldAddrO, evFieldAddr, us63, Tryz.underlying63, List.getElem?_toArray, List.getElem?_cons_zero, List.getElem?_cons_succ, i60, size60, forceN_eq]
  rfl
theorem fld64_0 {G b off : Nat} : fieldAddrO (En G) 64 0 (some (.pointer (some ⟨b, off, none⟩))) = some (.pointer (some ⟨b, off + 0, none⟩)) := by
  simp only [fieldAddrO, evFieldAddr, us64, Tryz.underlying64, List.getElem?_toArray, List.getElem?_cons_zero, List.getElem?_cons_succ, i60, size60, forceN_eq]
  rfl
theorem fld64_1 {G b off : Nat} : fieldAddrO (En G) 64 1 (some (.pointer (some ⟨b, off, none⟩))) = some (.pointer (some ⟨b, off + 2, none⟩)) := by
  simp only [fieldAddrO, evFieldAddr, us64, Tryz.underlying64, List.getElem?_toArray, List.getElem?_cons_zero, List.getElem?_cons_succ, i60, size60, forceN_eq]
  rfl
theorem fld71_0 {G b off : Nat} : fieldAddrO (En G) 71 0 (some (.pointer (some ⟨b, off, none⟩))) = some (.pointer (some ⟨b, off + 0, none⟩)) := by
  simp only [fieldAddrO, evFieldAddr, us71, Tryz.underlying71, List.getElem?_toArray, List.getElem?_cons_zero, List.getElem?_cons_succ, i5, size5, forceN_eq]
  rfl
theorem fld71_1 {G b off : Nat} : fieldAddrO (En G) 71 1 (some (.pointer (some ⟨b, off, none⟩))) = some (.pointer (some ⟨b, off + 1, none⟩)) := by
  simp only [fieldAddrO, evFieldAddr, us71, Tryz.underlying71, List.getElem?_toArray, List.getElem?_cons_zero, List.getElem?_cons_succ, i70, size70, forceN_eq]
  rfl
theorem fld72_0 {G b off : Nat} : fieldAddrO (En G) 72 0 (some (.pointer (some ⟨b, off, none⟩))) = some (.pointer (some ⟨b, off + 0, none⟩)) := by
  simp only [fieldAddrO, evFieldAddr, us72, Tryz.underlying72, List.getElem?_toArray, List.getElem?_cons_zero, List.getElem?_cons_succ, i5, size5, forceN_eq]
  rfl
theorem fld72_1 {G b off : Nat} : fieldAddrO (En G) 72 1 (some (.pointer (some ⟨b, off, none⟩))) = some (.pointer (some ⟨b, off + 1, none⟩)) := by
  simp only [fieldAddrO, evFieldAddr, us72, Tryz.underlying72, List.getElem?_toArray, List.getElem?_cons_zero, List.getElem?_cons_succ, i70, size70, forceN_eq]
  rfl
theorem idxP86 {G b off : Nat} {kd : IntKind} {z : Int} (h0 : 0 ≤ z) (h1 : z < 2) : idxAddrO (En G) 86 (some (.pointer (some ⟨b, off, none⟩))) (some (.int kd z)) = some (.pointer (some ⟨b, off + z.toNat * 1, none⟩)) := by
  simp only [idxAddrO, evIndexAddr, u86, idx_ok (n := 2) h0 (by omega), i73, forceN_eq, size73]
theorem idxP88 {G b off : Nat} {kd : IntKind} {z : Int} (h0 : 0 ≤ z) (h1 : z < 2) : idxAddrO (En G) 88 (some (.pointer (some ⟨b, off, none⟩))) (some (.int kd z)) = some (.pointer (some ⟨b, off + z.toNat * 1, none⟩)) := by
  simp only [idxAddrO, evIndexAddr, u88, idx_ok (n := 2) h0 (by omega), i5, forceN_eq, size5]
theorem idxP92 {G b off : Nat} {kd : IntKind} {z : Int} (h0 : 0 ≤ z) (h1 : z < 6) : idxAddrO (En G) 92 (some (.pointer (some ⟨b, off, none⟩))) (some (.int kd z)) = some (.pointer (some ⟨b, off + z.toNat * 1, none⟩)) := by
  simp only [idxAddrO, evIndexAddr, u92, idx_ok (n := 6) h0 (by omega), i4, forceN_eq, size4]
theorem idxP93 {G b off : Nat} {kd : IntKind} {z : Int} (h0 : 0 ≤ z) (h1 : z < 6) : idxAddrO (En G) 93 (some (.pointer (some ⟨b, off, none⟩))) (some (.int kd z)) = some (.pointer (some ⟨b, off + z.toNat * 6, none⟩)) := by
  simp only [idxAddrO, evIndexAddr, u93, idx_ok (n := 6) h0 (by omega), i92, forceN_eq, size92]
theorem fld94_0 {G b off : Nat} : fieldAddrO (En G) 94 0 (some (.pointer (some ⟨b, off, none⟩))) = some (.pointer (some ⟨b, off + 0, none⟩)) := by
  simp only [fieldAddrO, evFieldAddr, us94, Tryz.underlying94, List.getElem?_toArray, List.getElem?_cons_zero, List.getElem?_cons_succ, i3, size3, forceN_eq]
  rfl
theorem fld94_1 {G b off : Nat} : fieldAddrO (En G) 94 1 (some (.pointer (some ⟨b, off, none⟩))) = some (.pointer (some ⟨b, off + 1, none⟩)) := by
  simp only [fieldAddrO, evFieldAddr, us94, Tryz.underlying94, List.getElem?_toArray, List.getElem?_cons_zero, List.getElem?_cons_succ, i93, size93, forceN_eq]
  rfl
theorem fld95_0 {G b off : Nat} : fieldAddrO (En G) 95 0 (some (.pointer (some ⟨b, off, none⟩))) = some (.pointer (some ⟨b, off + 0, none⟩)) := by
  simp only [fieldAddrO, evFieldAddr, us95, Tryz.underlying95, List.getElem?_toArray, List.getElem?_cons_zero, List.getElem?_cons_succ, i3, size3, forceN_eq]
  rfl
theorem fld95_1 {G b off : Nat} : fieldAddrO (En G) 95 1 (some (.pointer (some ⟨b, off, none⟩))) = some (.pointer (some ⟨b, off + 1, none⟩)) := by
  simp only [fieldAddrO, evFieldAddr, us95, Tryz.underlying95, List.getElem?_toArray, List.getElem?_cons_zero, List.getElem?_cons_succ, i93, size93, forceN_eq]
  rfl
theorem fld103_0 {G b off : Nat} : fieldAddrO (En G) 103 0 (some (.pointer (some ⟨b, off, none⟩))) = some (.pointer (some ⟨b, off + 0, none⟩)) := by
  simp only [fieldAddrO, evFieldAddr, us103, Tryz.underlying103, List.getElem?_toArray, List.getElem?_cons_zero, List.getElem?_cons_succ, i3, size3, forceN_eq]
  rfl
theorem fld103_1 {G b off : Nat} : fieldAddrO (En G) 103 1 (some (.pointer (some ⟨b, off, none⟩))) = some (.pointer (some ⟨b, off + 1, none⟩)) := by
  simp only [fieldAddrO, evFieldAddr, us103, Tryz.underlying103, List.getElem?_toArray, List.getElem?_cons_zero, List.getElem?_cons_succ, i3, size3, forceN_eq]
  rfl
theorem fld104_0 {G b off : Nat} : fieldAddrO (En G) 104 0 (some (.pointer (some ⟨b, off, none⟩))) = some (.pointer (some ⟨b, off + 0, none⟩)) := by
  simp only [fieldAddrO, evFieldAddr, us104, Tryz.underlying104, List.getElem?_toArray, List.getElem?_cons_zero, List.getElem?_cons_succ, i3, size3, forceN_eq]
  rfl
theorem fld104_1 {G b off : Nat} : fieldAddrO (En G) 104 1 (some (.pointer (some ⟨b, off, none⟩))) = some (.pointer (some ⟨b, off + 1, none⟩)) := by
  simp only [fieldAddrO, evFieldAddr, us104, Tryz.underlying104, List.getElem?_toArray, List.getElem?_cons_zero, List.getElem?_cons_succ, i3, size3, forceN_eq]
  rfl
theorem fld111_0 {G b off : Nat} : fieldAddrO (En G) 111 0 (some (.pointer (some ⟨b, off, none⟩))) = some (.pointer (some ⟨b, off + 0, none⟩)) := by
  simp only [fieldAddrO, evFieldAddr, us111, Tryz.underlying111, List.getElem?_toArray, List.getElem?_cons_zero, List.getElem?_cons_succ, i4, size4, forceN_eq]
  rfl
theorem fld111_1 {G b off : Nat} : fieldAddrO (En G) 111 1 (some (.pointer (some ⟨b, off, none⟩))) = some (.pointer (some ⟨b, off + 1, none⟩)) := by
  simp only [fieldAddrO, evFieldAddr, us111, Tryz.underlying111, List.getElem?_toArray, List.getElem?_cons_zero, List.getElem?_cons_succ, i110, size110, forceN_eq]
  rfl
theorem fld111_2 {G b off : Nat} : fieldAddrO (En G) 111 2 (some (.pointer (some ⟨b, off, none⟩))) = some (.pointer (some ⟨b, off + 2, none⟩)) := by
  simp only [fieldAddrO, evFieldAddr, us111, Tryz.underlying111, List.getElem?_toArray, List.getElem?_cons_zero, List.getElem?_cons_succ, i110, size110, forceN_eq]
  rfl
theorem fld112_0 {G b off : Nat} : fieldAddrO (En G) 112 0 (some (.pointer (some ⟨b, off, none⟩))) = some (.pointer (some ⟨b, off + 0, none⟩)) := by
  simp only [fieldAddrO, evFieldAddr, us112, Tryz.underlying112, List.getElem?_toArray, List.getElem?_cons_zero, List.getElem?_cons_succ, i4, size4, forceN_eq]
  rfl
theorem fld112_1 {G b off : Nat} : fieldAddrO (En G) 112 1 (some (.pointer (some ⟨b, off, none⟩))) = some (.pointer (some ⟨b, off + 1, none⟩)) := by
  simp only [fieldAddrO, evFieldAddr, us112, Tryz.underlying112, List.getElem?_toArray, List.getElem?_cons_zero, List.getElem?_cons_succ, i110, size110, forceN_eq]
  rfl
theorem fld112_2 {G b off : Nat} : fieldAddrO (En G) 112 2 (some (.pointer (some ⟨b, off, none⟩))) = some (.pointer (some ⟨b, off + 2, none⟩)) := by
  simp only [fieldAddrO, evFieldAddr, us112, Tryz.underlying112, List.getElem?_toArray, List.getElem?_cons_zero, List.getElem?_cons_succ, i110, size110, forceN_eq]
  rfl
theorem idxP139 {G b off : Nat} {kd : IntKind} {z : Int} (h0 : 0 ≤ z) (h1 : z < 6) : idxAddrO (En G) 139 (some (.pointer (some ⟨b, off, none⟩))) (some (.int kd z)) = some (.pointer (some ⟨b, off + z.toNat * 1, none⟩)) := by
  simp only [idxAddrO, evIndexAddr, u139, idx_ok (n := 6) h0 (by omega), i3, forceN_eq, size3]
theorem fld194_0 {G b off : Nat} : fieldAddrO (En G) 194 0 (some (.pointer (some ⟨b, off, none⟩))) = some (.pointer (some ⟨b, off + 0, none⟩)) := by
  simp only [fieldAddrO, evFieldAddr, us194, Tryz.underlying194, List.getElem?_toArray, List.getElem?_cons_zero, List.getElem?_cons_succ, i193, size193, forceN_eq]
  rfl
theorem fld194_1 {G b off : Nat} : fieldAddrO (En G) 194 1 (some (.pointer (some ⟨b, off, none⟩))) = some (.pointer (some ⟨b, off + 1, none⟩)) := by
  simp only [fieldAddrO, evFieldAddr, us194, Tryz.underlying194, List.getElem?_toArray, List.getElem?_cons_zero, List.getElem?_cons_succ, i73, size73, forceN_eq]
  rfl
theorem fld195_0 {G b off : Nat} : fieldAddrO (En G) 195 0 (some (.pointer (some ⟨b, off, none⟩))) = some (.pointer (some ⟨b, off + 0, none⟩)) := by
  simp only [fieldAddrO, evFieldAddr, us195, Tryz.underlying195, List.getElem?_toArray, List.getElem?_cons_zero, List.getElem?_cons_succ, i193, size193, forceN_eq]
  rfl
theorem fld195_1 {G b off : Nat} : fieldAddrO (En G) 195 1 (some (.pointer (some ⟨b, off, none⟩))) = some (.pointer (some ⟨b, off + 1, none⟩)) := by
  simp only [fieldAddrO, evFieldAddr, us195, Tryz.underlying195, List.getElem?_toArray, List.getElem?_cons_zero, List.getElem?_cons_succ, i73, size73, forceN_eq]
  rfl
theorem idxP224 {G b off : Nat} {kd : IntKind} {z : Int} (h0 : 0 ≤ z) (h1 : z < 24) : idxAddrO (En G) 224 (some (.pointer (some ⟨b, off, none⟩))) (some (.int kd z)) = some (.pointer (some ⟨b, off + z.toNat * 1, none⟩)) := by
  simp only [idxAddrO, evIndexAddr, u224, idx_ok (n := 24) h0 (by omega), i5, forceN_eq, size5]
theorem idxP233 {G b off : Nat} {kd : IntKind} {z : Int} (h0 : 0 ≤ z) (h1 : z < 20) : idxAddrO (En G) 233 (some (.pointer (some ⟨b, off, none⟩))) (some (.int kd z)) = some (.pointer (some ⟨b, off + z.toNat * 1, none⟩)) := by
  simp only [idxAddrO, evIndexAddr, u233, idx_ok (n := 20) h0 (by omega), i159, forceN_eq, size159]
theorem idxP234 {G b off : Nat} {kd : IntKind} {z : Int} (h0 : 0 ≤ z) (h1 : z < 65) : idxAddrO (En G) 234 (some (.pointer (some ⟨b, off, none⟩))) (some (.int kd z)) = some (.pointer (some ⟨b, off + z.toNat * 1, none⟩)) := by
  simp only [idxAddrO, evIndexAddr, u234, idx_ok (n := 65) h0 (by omega), i5, forceN_eq, size5]
theorem idxP235 {G b off : Nat} {kd : IntKind} {z : Int} (h0 : 0 ≤ z) (h1 : z < 32) : idxAddrO (En G) 235 (some (.pointer (some ⟨b, off, none⟩))) (some (.int kd z)) = some (.pointer (some ⟨b, off + z.toNat * 1, none⟩)) := by
  simp only [idxAddrO, evIndexAddr, u235, idx_ok (n := 32) h0 (by omega), i5, forceN_eq, size5]
theorem idxP236 {G b off : Nat} {kd : IntKind} {z : Int} (h0 : 0 ≤ z) (h1 : z < 64) : idxAddrO (En G) 236 (some (.pointer (some ⟨b, off, none⟩))) (some (.int kd z)) = some (.pointer (some ⟨b, off + z.toNat * 1, none⟩)) := by
  simp only [idxAddrO, evIndexAddr, u236, idx_ok (n := 64) h0 (by omega), i5, forceN_eq, size5]
theorem fld237_0 {G b off : Nat} : fieldAddrO (En G) 237 0 (some (.pointer (some ⟨b, off, none⟩))) = some (.pointer (some ⟨b, off + 0, none⟩)) := by
  simp only [fieldAddrO, evFieldAddr, us237, Tryz.underlying237, List.getElem?_toArray, List.getElem?_cons_zero, List.getElem?_cons_succ, i17, size17, forceN_eq]
  rfl
theorem fld237_1 {G b off : Nat} : fieldAddrO (En G) 237 1 (some (.pointer (some ⟨b, off, none⟩))) = some (.pointer (some ⟨b, off + 1, none⟩)) := by
  simp only [fieldAddrO, evFieldAddr, us237, Tryz.underlying237, List.getElem?_toArray, List.getElem?_cons_zero, List.getElem?_cons_succ, i17, size17, forceN_eq]
  rfl
theorem fld237_2 {G b off : Nat} : fieldAddrO (En G) 237 2 (some (.pointer (some ⟨b, off, none⟩))) = some (.pointer (some ⟨b, off + 2, none⟩)) := by
  simp only [fieldAddrO, evFieldAddr, us237, Tryz.underlying237, List.getElem?_toArray, List.getElem?_cons_zero, List.getElem?_cons_succ, i17, size17, forceN_eq]
  rfl
theorem fld237_3 {G b off : Nat} : fieldAddrO (En G) 237 3 (some (.pointer (some ⟨b, off, none⟩))) = some (.pointer (some ⟨b, off + 3, none⟩)) := by
  simp only [fieldAddrO, evFieldAddr, us237, Tryz.underlying237, List.getElem?_toArray, List.getElem?_cons_zero, List.getElem?_cons_succ, i9, size9, forceN_eq]
  rfl
theorem fld238_0 {G b off : Nat} : fieldAddrO (En G) 238 0 (some (.pointer (some ⟨b, off, none⟩))) = some (.pointer (some ⟨b, off + 0, none⟩)) := by
  simp only [fieldAddrO, evFieldAddr, us238, Tryz.underlying238, List.getElem?_toArray, List.getElem?_cons_zero, List.getElem?_cons_succ, i17, size17, forceN_eq]
  rfl
theorem fld238_1 {G b off : Nat} : fieldAddrO (En G) 238 1 (some (.pointer (some ⟨b, off, none⟩))) = some (.pointer (some ⟨b, off + 1, none⟩)) := by
  simp only [fieldAddrO, evFieldAddr, us238, Tryz.underlying238, List.getElem?_toArray, List.getElem?_cons_zero, List.getElem?_cons_succ, i17, size17, forceN_eq]
  rfl
theorem fld238_2 {G b off : Nat} : fieldAddrO (En G) 238 2 (some (.pointer (some ⟨b, off, none⟩))) = some (.pointer (some ⟨b, off + 2, none⟩)) := by
  simp only [fieldAddrO, evFieldAddr, us238, Tryz.underlying238, List.getElem?_toArray, List.getElem?_cons_zero, List.getElem?_cons_succ, i17, size17, forceN_eq]
  rfl
theorem fld238_3 {G b off : Nat} : fieldAddrO (En G) 238 3 (some (.pointer (some ⟨b, off, none⟩))) = some (.pointer (some ⟨b, off + 3, none⟩)) := by
  simp only [fieldAddrO, evFieldAddr, us238, Tryz.underlying238, List.getElem?_toArray, List.getElem?_cons_zero, List.getElem?_cons_succ, i9, size9, forceN_eq]
  rfl
theorem idxP239 {G b off : Nat} {kd : IntKind} {z : Int} (h0 : 0 ≤ z) (h1 : z < 0) : idxAddrO (En G) 239 (some (.pointer (some ⟨b, off, none⟩))) (some (.int kd z)) = some (.pointer (some ⟨b, off + z.toNat * 1, none⟩)) := by
  simp only [idxAddrO, evIndexAddr, u239, idx_ok (n := 0) h0 (by omega), i16, forceN_eq, size16]
theorem fld247_0 {G b off : Nat} : fieldAddrO (En G) 247 0 (some (.pointer (some ⟨b, off, none⟩))) = some (.pointer (some ⟨b, off + 0, none⟩)) := by
  simp only [fieldAddrO, evFieldAddr, us247, Tryz.underlying247, List.getElem?_toArray, List.getElem?_cons_zero, List.getElem?_cons_succ, i12, size12, forceN_eq]
  rfl
theorem fld247_1 {G b off : Nat} : fieldAddrO (En G) 247 1 (some (.pointer (some ⟨b, off, none⟩))) = some (.pointer (some ⟨b, off + 1, none⟩)) := by
  simp only [fieldAddrO, evFieldAddr, us247, Tryz.underlying247, List.getElem?_toArray, List.getElem?_cons_zero, List.getElem?_cons_succ, i12, size12, forceN_eq]
  rfl
theorem fld247_2 {G b off : Nat} : fieldAddrO (En G) 247 2 (some (.pointer (some ⟨b, off, none⟩))) = some (.pointer (some ⟨b, off + 2, none⟩)) := by
  simp only [fieldAddrO, evFieldAddr, us247, Tryz.underlying247, List.getElem?_toArray, List.getElem?_cons_zero, List.getElem?_cons_succ, i168, size168, forceN_eq]
  rfl
theorem fld247_3 {G b off : Nat} : fieldAddrO (En G) 247 3 (some (.pointer (some ⟨b, off, none⟩))) = some (.pointer (some ⟨b, off + 3, none⟩)) := by
  simp only [fieldAddrO, evFieldAddr, us247, Tryz.underlying247, List.getElem?_toArray, List.getElem?_cons_zero, List.getElem?_cons_succ, i242, size242, forceN_eq]
  rfl
theorem fld247_4 {G b off : Nat} : fieldAddrO (En G) 247 4 (some (.pointer (some ⟨b, off, none⟩))) = some (.pointer (some ⟨b, off + 4, none⟩)) := by
  simp only [fieldAddrO, evFieldAddr, us247, Tryz.underlying247, List.getElem?_toArray, List.getElem?_cons_zero, List.getElem?_cons_succ, i5, size5, forceN_eq]
  rfl
theorem fld247_5 {G b off : Nat} : fieldAddrO (En G) 247 5 (some (.pointer (some ⟨b, off, none⟩))) = some (.pointer (some ⟨b, off + 5, none⟩)) := by
  simp only [fieldAddrO, evFieldAddr, us247, Tryz.underlying247, List.getElem?_toArray, List.getElem?_cons_zero, List.getElem?_cons_succ, i5, size5, forceN_eq]
  rfl
theorem fld247_6 {G b off : Nat} : fieldAddrO (En G) 247 6 (some (.pointer (some ⟨b, off, none⟩))) = some (.pointer (some ⟨b, off + 6, none⟩)) := by
  simp only [fieldAddrO, evFieldAddr, us247, Tryz.underlying247, List.getElem?_toArray, List.getElem?_cons_zero, List.getElem?_cons_succ, i243, size243, forceN_eq]
  rfl
theorem fld247_8 {G b off : Nat} : fieldAddrO (En G) 247 8 (some (.pointer (some ⟨b, off, none⟩))) = some (.pointer (some ⟨b, off + 8, none⟩)) := by
  simp only [fieldAddrO, evFieldAddr, us247, Tryz.underlying247, List.getElem?_toArray, List.getElem?_cons_zero, List.getElem?_cons_succ, i219, size219, forceN_eq]
  rfl
theorem fld247_9 {G b off : Nat} : fieldAddrO (En G) 247 9 (some (.pointer (some ⟨b, off, none⟩))) = some (.pointer (some ⟨b, off + 9, none⟩)) := by
  simp only [fieldAddrO, evFieldAddr, us247, Tryz.underlying247, List.getElem?_toArray, List.getElem?_cons_zero, List.getElem?_cons_succ, i245, size245, forceN_eq]
  rfl
theorem fld247_10 {G b off : Nat} : fieldAddrO (En G) 247 10 (some (.pointer (some ⟨b, off, none⟩))) = some (.pointer (some ⟨b, off + 10, none⟩)) := by
  simp only [fieldAddrO, evFieldAddr, us247, Tryz.underlying247, List.getElem?_toArray, List.getElem?_cons_zero, List.getElem?_cons_succ, i246, size246, forceN_eq]
  rfl
theorem fld248_0 {G b off : Nat} : fieldAddrO (En G) 248 0 (some (.pointer (some ⟨b, off, none⟩))) = some (.pointer (some ⟨b, off + 0, none⟩)) := by
  simp only [fieldAddrO, evFieldAddr, us248, Tryz.underlying248, List.getElem?_toArray, List.getElem?_cons_zero, List.getElem?_cons_succ, i12, size12, forceN_eq]
  rfl
theorem fld248_1 {G b off : Nat} : fieldAddrO (En G) 248 1 (some (.pointer (some ⟨b, off, none⟩))) = some (.pointer (some ⟨b, off + 1, none⟩)) := by
  simp only [fieldAddrO, evFieldAddr, us248, Tryz.underlying248, List.getElem?_toArray, List.getElem?_cons_zero, List.getElem?_cons_succ, i12, size12, forceN_eq]
  rfl
theorem fld248_2 {G b off : Nat} : fieldAddrO (En G) 248 2 (some (.pointer (some ⟨b, off, none⟩))) = some (.pointer (some ⟨b, off + 2, none⟩)) := by
  simp only [fieldAddrO, evFieldAddr, us248, Tryz.underlying248, List.getElem?_toArray, List.getElem?_cons_zero, List.getElem?_cons_succ, i168, size168, forceN_eq]
  rfl
theorem fld248_3 {G b off : Nat} : fieldAddrO (En G) 248 3 (some (.pointer (some ⟨b, off, none⟩))) = some (.pointer (some ⟨b, off + 3, none⟩)) := by
  simp only [fieldAddrO, evFieldAddr, us248, Tryz.underlying248, List.getElem?_toArray, List.getElem?_cons_zero, List.getElem?_cons_succ, i242, size242, forceN_eq]
  rfl
theorem fld248_4 {G b off : Nat} : fieldAddrO (En G) 248 4 (some (.pointer (some ⟨b, off, none⟩))) = some (.pointer (some ⟨b, off + 4, none⟩)) := by
  simp only [fieldAddrO, evFieldAddr, us248, Tryz.underlying248, List.getElem?_toArray, List.getElem?_cons_zero, List.getElem?_cons_succ, i5, size5, forceN_eq]
  rfl
theorem fld248_5 {G b off : Nat} : fieldAddrO (En G) 248 5 (some (.pointer (some ⟨b, off, none⟩))) = some (.pointer (some ⟨b, off + 5, none⟩)) := by
  simp only [fieldAddrO, evFieldAddr, us248, Tryz.underlying248, List.getElem?_toArray, List.getElem?_cons_zero, List.getElem?_cons_succ, i5, size5, forceN_eq]
  rfl
theorem fld248_6 {G b off : Nat} : fieldAddrO (En G) 248 6 (some (.pointer (some ⟨b, off, none⟩))) = some (.pointer (some ⟨b, off + 6, none⟩)) := by
  simp only [fieldAddrO, evFieldAddr, us248, Tryz.underlying248, List.getElem?_toArray, List.getElem?_cons_zero, List.getElem?_cons_succ, i243, size243, forceN_eq]
  rfl
theorem fld248_8 {G b off : Nat} : fieldAddrO (En G) 248 8 (some (.pointer (some ⟨b, off, none⟩))) = some (.pointer (some ⟨b, off + 8, none⟩)) := by
  simp only [fieldAddrO, evFieldAddr, us248, Tryz.underlying248, List.getElem?_toArray, List.getElem?_cons_zero, List.getElem?_cons_succ, i219, size219, forceN_eq]
  rfl
theorem fld248_9 {G b off : Nat} : fieldAddrO (En G) 248 9 (some (.pointer (some ⟨b, off, none⟩))) = some (.pointer (some ⟨b, off + 9, none⟩)) := by
  simp only [fieldAddrO, evFieldAddr, us248, Tryz.underlying248, List.getElem?_toArray, List.getElem?_cons_zero, List.getElem?_cons_succ, i245, size245, forceN_eq]
  rfl
theorem fld248_10 {G b off : Nat} : fieldAddrO (En G) 248 10 (some (.pointer (some ⟨b, off, none⟩))) = some (.pointer (some ⟨b, off + 10, none⟩)) := by
  simp only [fieldAddrO, evFieldAddr, us248, Tryz.underlying248, List.getElem?_toArray, List.getElem?_cons_zero, List.getElem?_cons_succ, i246, size246, forceN_eq]
  rfl
end
end Go.Proofs.YtdfkblagcfgncaaGreatDoor.Ev
