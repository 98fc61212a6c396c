/- Facts of the program's types, for symbolic runs. By program. -/
import Derived.Test.YtlajheeleneigaaDoorProg
import Derived.Test.YtlajheeleneigaaDoorPmSv
import Derived.Test.YtlajheeleneigaaDoorPmTabs
import Derived.KernelRfl
namespace Go.Proofs.YtlajheeleneigaaDoor.Ev
open Go Go.Proofs
noncomputable section

/-- the program's types and functions; so many blocks are only read -/
noncomputable def En (G : Nat) : Env := withKnown (envOf Tryd.prog 170 3 G) (Tr.put .e 11 (.bool true)) tabs
theorem En_u {G t : Nat} : (En G).u t = (envOf Tryd.prog 170 3 G).u t := withKnown_u
theorem En_i {G t : Nat} : (En G).i t = (envOf Tryd.prog 170 3 G).i t := withKnown_i
theorem En_G {G : Nat} : (En G).G = G := withKnown_G
theorem En_known {G f : Nat} (h : f ≠ 11) : (En G).known.get f = none := by
  have e : (En G).known = Tr.put Tr.e 11 (Value.bool true) := withKnown_known
  rw [e, Tr.get_put, if_neg h]
  rfl
theorem En_lives {G : Nat} : (En G).known.get 11 = some (.bool true) := by
  have e : (En G).known = Tr.put Tr.e 11 (Value.bool true) := withKnown_known
  rw [e, Tr.get_put, if_pos rfl]


theorem mixed : Tryd.prog.follows .mixedOrders = true := by kernel_rfl
theorem En_f {G : Nat} {f : FuncId} : (En G).fns.get f = Tryd.prog.funcs[f]? := by
  have : (En G).fns = (envOf Tryd.prog 170 3 G).fns := withKnown_f
  rw [this]; exact envOf_f

theorem u2 {G : Nat} : (En G).u 2 = some (.int .i64) := En_u.trans <| (envOf_u (by decide)).trans Tryd.underlying2
theorem agg2 {G : Nat} : (En G).agg 2 = some false := by unfold Env.agg; rw [u2]
theorem load2 {G : Nat} {B : Tr Blk} {b off : Nat} : loadO (En G) 2 B (some (.pointer (some ⟨b, off, none⟩))) = loadv B b off := loadO_one agg2
noncomputable def inf2 : TypeInfo := (Tryd.prog.info? 2).getD default
theorem i2 {G : Nat} : (En G).i 2 = some inf2 := En_i.trans <| (envOf_i (by decide)).trans (by kernel_rfl)
theorem size2 : inf2.size = 1 := by kernel_rfl
theorem bytes2 : inf2.bytes = 8 := by kernel_rfl
theorem zero2 : inf2.zero = some (.int .i64 0) := by kernel_rfl
theorem u3 {G : Nat} : (En G).u 3 = some (.int .i64) := En_u.trans <| (envOf_u (by decide)).trans Tryd.underlying3
theorem agg3 {G : Nat} : (En G).agg 3 = some false := by unfold Env.agg; rw [u3]
theorem load3 {G : Nat} {B : Tr Blk} {b off : Nat} : loadO (En G) 3 B (some (.pointer (some ⟨b, off, none⟩))) = loadv B b off := loadO_one agg3
noncomputable def inf3 : TypeInfo := (Tryd.prog.info? 3).getD default
theorem i3 {G : Nat} : (En G).i 3 = some inf3 := En_i.trans <| (envOf_i (by decide)).trans (by kernel_rfl)
theorem size3 : inf3.size = 1 := by kernel_rfl
theorem bytes3 : inf3.bytes = 8 := by kernel_rfl
theorem zero3 : inf3.zero = some (.int .i64 0) := by kernel_rfl
theorem u4 {G : Nat} : (En G).u 4 = some (.bool) := En_u.trans <| (envOf_u (by decide)).trans Tryd.underlying4
theorem agg4 {G : Nat} : (En G).agg 4 = some false := by unfold Env.agg; rw [u4]
theorem load4 {G : Nat} {B : Tr Blk} {b off : Nat} : loadO (En G) 4 B (some (.pointer (some ⟨b, off, none⟩))) = loadv B b off := loadO_one agg4
noncomputable def inf4 : TypeInfo := (Tryd.prog.info? 4).getD default
theorem i4 {G : Nat} : (En G).i 4 = some inf4 := En_i.trans <| (envOf_i (by decide)).trans (by kernel_rfl)
theorem size4 : inf4.size = 1 := by kernel_rfl
theorem bytes4 : inf4.bytes = 1 := by kernel_rfl
theorem zero4 : inf4.zero = some (.bool false) := by kernel_rfl
theorem u5 {G : Nat} : (En G).u 5 = some (.int .u8) := En_u.trans <| (envOf_u (by decide)).trans Tryd.underlying5
theorem agg5 {G : Nat} : (En G).agg 5 = some false := by unfold Env.agg; rw [u5]
theorem load5 {G : Nat} {B : Tr Blk} {b off : Nat} : loadO (En G) 5 B (some (.pointer (some ⟨b, off, none⟩))) = loadv B b off := loadO_one agg5
noncomputable def inf5 : TypeInfo := (Tryd.prog.info? 5).getD default
theorem i5 {G : Nat} : (En G).i 5 = some inf5 := En_i.trans <| (envOf_i (by decide)).trans (by kernel_rfl)
theorem size5 : inf5.size = 1 := by kernel_rfl
theorem bytes5 : inf5.bytes = 1 := by kernel_rfl
theorem zero5 : inf5.zero = some (.int .u8 0) := by kernel_rfl
theorem u6 {G : Nat} : (En G).u 6 = some (.int .u8) := En_u.trans <| (envOf_u (by decide)).trans Tryd.underlying6
theorem agg6 {G : Nat} : (En G).agg 6 = some false := by unfold Env.agg; rw [u6]
theorem load6 {G : Nat} {B : Tr Blk} {b off : Nat} : loadO (En G) 6 B (some (.pointer (some ⟨b, off, none⟩))) = loadv B b off := loadO_one agg6
noncomputable def inf6 : TypeInfo := (Tryd.prog.info? 6).getD default
theorem i6 {G : Nat} : (En G).i 6 = some inf6 := En_i.trans <| (envOf_i (by decide)).trans (by kernel_rfl)
theorem size6 : inf6.size = 1 := by kernel_rfl
theorem bytes6 : inf6.bytes = 1 := by kernel_rfl
theorem zero6 : inf6.zero = some (.int .u8 0) := by kernel_rfl
noncomputable def inf7 : TypeInfo := (Tryd.prog.info? 7).getD default
theorem i7 {G : Nat} : (En G).i 7 = some inf7 := En_i.trans <| (envOf_i (by decide)).trans (by kernel_rfl)
theorem size7 : inf7.size = 4 := by kernel_rfl
theorem bytes7 : inf7.bytes = 24 := by kernel_rfl
noncomputable def inf8 : TypeInfo := (Tryd.prog.info? 8).getD default
theorem i8 {G : Nat} : (En G).i 8 = some inf8 := En_i.trans <| (envOf_i (by decide)).trans (by kernel_rfl)
theorem size8 : inf8.size = 4 := by kernel_rfl
theorem bytes8 : inf8.bytes = 24 := by kernel_rfl
theorem u9 {G : Nat} : (En G).u 9 = some (.string) := En_u.trans <| (envOf_u (by decide)).trans Tryd.underlying9
theorem agg9 {G : Nat} : (En G).agg 9 = some false := by unfold Env.agg; rw [u9]
theorem load9 {G : Nat} {B : Tr Blk} {b off : Nat} : loadO (En G) 9 B (some (.pointer (some ⟨b, off, none⟩))) = loadv B b off := loadO_one agg9
noncomputable def inf9 : TypeInfo := (Tryd.prog.info? 9).getD default
theorem i9 {G : Nat} : (En G).i 9 = some inf9 := En_i.trans <| (envOf_i (by decide)).trans (by kernel_rfl)
theorem size9 : inf9.size = 1 := by kernel_rfl
theorem bytes9 : inf9.bytes = 16 := by kernel_rfl
theorem zero9 : inf9.zero = some (.string .empty) := by kernel_rfl
theorem u10 {G : Nat} : (En G).u 10 = some (.string) := En_u.trans <| (envOf_u (by decide)).trans Tryd.underlying10
theorem agg10 {G : Nat} : (En G).agg 10 = some false := by unfold Env.agg; rw [u10]
theorem load10 {G : Nat} {B : Tr Blk} {b off : Nat} : loadO (En G) 10 B (some (.pointer (some ⟨b, off, none⟩))) = loadv B b off := loadO_one agg10
noncomputable def inf10 : TypeInfo := (Tryd.prog.info? 10).getD default
theorem i10 {G : Nat} : (En G).i 10 = some inf10 := En_i.trans <| (envOf_i (by decide)).trans (by kernel_rfl)
theorem size10 : inf10.size = 1 := by kernel_rfl
theorem bytes10 : inf10.bytes = 16 := by kernel_rfl
theorem zero10 : inf10.zero = some (.string .empty) := by kernel_rfl
theorem u11 {G : Nat} : (En G).u 11 = some (.string) := En_u.trans <| (envOf_u (by decide)).trans Tryd.underlying11
theorem agg11 {G : Nat} : (En G).agg 11 = some false := by unfold Env.agg; rw [u11]
theorem load11 {G : Nat} {B : Tr Blk} {b off : Nat} : loadO (En G) 11 B (some (.pointer (some ⟨b, off, none⟩))) = loadv B b off := loadO_one agg11
noncomputable def inf11 : TypeInfo := (Tryd.prog.info? 11).getD default
theorem i11 {G : Nat} : (En G).i 11 = some inf11 := En_i.trans <| (envOf_i (by decide)).trans (by kernel_rfl)
theorem size11 : inf11.size = 1 := by kernel_rfl
theorem bytes11 : inf11.bytes = 16 := by kernel_rfl
theorem zero11 : inf11.zero = some (.string .empty) := by kernel_rfl
theorem u12 {G : Nat} : (En G).u 12 = some (.int .u64) := En_u.trans <| (envOf_u (by decide)).trans Tryd.underlying12
theorem agg12 {G : Nat} : (En G).agg 12 = some false := by unfold Env.agg; rw [u12]
theorem load12 {G : Nat} {B : Tr Blk} {b off : Nat} : loadO (En G) 12 B (some (.pointer (some ⟨b, off, none⟩))) = loadv B b off := loadO_one agg12
noncomputable def inf12 : TypeInfo := (Tryd.prog.info? 12).getD default
theorem i12 {G : Nat} : (En G).i 12 = some inf12 := En_i.trans <| (envOf_i (by decide)).trans (by kernel_rfl)
theorem size12 : inf12.size = 1 := by kernel_rfl
theorem bytes12 : inf12.bytes = 8 := by kernel_rfl
theorem zero12 : inf12.zero = some (.int .u64 0) := by kernel_rfl
noncomputable def inf13 : TypeInfo := (Tryd.prog.info? 13).getD default
theorem i13 {G : Nat} : (En G).i 13 = some inf13 := En_i.trans <| (envOf_i (by decide)).trans (by kernel_rfl)
theorem size13 : inf13.size = 2 := by kernel_rfl
theorem bytes13 : inf13.bytes = 24 := by kernel_rfl
noncomputable def inf14 : TypeInfo := (Tryd.prog.info? 14).getD default
theorem i14 {G : Nat} : (En G).i 14 = some inf14 := En_i.trans <| (envOf_i (by decide)).trans (by kernel_rfl)
theorem size14 : inf14.size = 2 := by kernel_rfl
theorem bytes14 : inf14.bytes = 24 := by kernel_rfl
theorem u15 {G : Nat} : (En G).u 15 = some (.pointer 155) := En_u.trans <| (envOf_u (by decide)).trans Tryd.underlying15
theorem agg15 {G : Nat} : (En G).agg 15 = some false := by unfold Env.agg; rw [u15]
theorem load15 {G : Nat} {B : Tr Blk} {b off : Nat} : loadO (En G) 15 B (some (.pointer (some ⟨b, off, none⟩))) = loadv B b off := loadO_one agg15
noncomputable def inf15 : TypeInfo := (Tryd.prog.info? 15).getD default
theorem i15 {G : Nat} : (En G).i 15 = some inf15 := En_i.trans <| (envOf_i (by decide)).trans (by kernel_rfl)
theorem size15 : inf15.size = 1 := by kernel_rfl
theorem bytes15 : inf15.bytes = 8 := by kernel_rfl
theorem zero15 : inf15.zero = some (.pointer none) := by kernel_rfl
theorem u16 {G : Nat} : (En G).u 16 = some (.pointer 158) := En_u.trans <| (envOf_u (by decide)).trans Tryd.underlying16
theorem agg16 {G : Nat} : (En G).agg 16 = some false := by unfold Env.agg; rw [u16]
theorem load16 {G : Nat} {B : Tr Blk} {b off : Nat} : loadO (En G) 16 B (some (.pointer (some ⟨b, off, none⟩))) = loadv B b off := loadO_one agg16
noncomputable def inf16 : TypeInfo := (Tryd.prog.info? 16).getD default
theorem i16 {G : Nat} : (En G).i 16 = some inf16 := En_i.trans <| (envOf_i (by decide)).trans (by kernel_rfl)
theorem size16 : inf16.size = 1 := by kernel_rfl
theorem bytes16 : inf16.bytes = 8 := by kernel_rfl
theorem zero16 : inf16.zero = some (.pointer none) := by kernel_rfl
theorem u17 {G : Nat} : (En G).u 17 = some (.pointer 167) := En_u.trans <| (envOf_u (by decide)).trans Tryd.underlying17
theorem agg17 {G : Nat} : (En G).agg 17 = some false := by unfold Env.agg; rw [u17]
theorem load17 {G : Nat} {B : Tr Blk} {b off : Nat} : loadO (En G) 17 B (some (.pointer (some ⟨b, off, none⟩))) = loadv B b off := loadO_one agg17
noncomputable def inf17 : TypeInfo := (Tryd.prog.info? 17).getD default
theorem i17 {G : Nat} : (En G).i 17 = some inf17 := En_i.trans <| (envOf_i (by decide)).trans (by kernel_rfl)
theorem size17 : inf17.size = 1 := by kernel_rfl
theorem bytes17 : inf17.bytes = 8 := by kernel_rfl
theorem zero17 : inf17.zero = some (.pointer none) := by kernel_rfl
noncomputable def inf18 : TypeInfo := (Tryd.prog.info? 18).getD default
theorem i18 {G : Nat} : (En G).i 18 = some inf18 := En_i.trans <| (envOf_i (by decide)).trans (by kernel_rfl)
theorem size18 : inf18.size = 1 := by kernel_rfl
theorem bytes18 : inf18.bytes = 8 := by kernel_rfl
noncomputable def inf19 : TypeInfo := (Tryd.prog.info? 19).getD default
theorem i19 {G : Nat} : (En G).i 19 = some inf19 := En_i.trans <| (envOf_i (by decide)).trans (by kernel_rfl)
theorem size19 : inf19.size = 1 := by kernel_rfl
theorem bytes19 : inf19.bytes = 8 := by kernel_rfl
theorem u21 {G : Nat} : (En G).u 21 = some (.int .i32) := En_u.trans <| (envOf_u (by decide)).trans Tryd.underlying21
theorem agg21 {G : Nat} : (En G).agg 21 = some false := by unfold Env.agg; rw [u21]
theorem load21 {G : Nat} {B : Tr Blk} {b off : Nat} : loadO (En G) 21 B (some (.pointer (some ⟨b, off, none⟩))) = loadv B b off := loadO_one agg21
noncomputable def inf21 : TypeInfo := (Tryd.prog.info? 21).getD default
theorem i21 {G : Nat} : (En G).i 21 = some inf21 := En_i.trans <| (envOf_i (by decide)).trans (by kernel_rfl)
theorem size21 : inf21.size = 1 := by kernel_rfl
theorem bytes21 : inf21.bytes = 4 := by kernel_rfl
theorem zero21 : inf21.zero = some (.int .i32 0) := by kernel_rfl
theorem u22 {G : Nat} : (En G).u 22 = some (.slice 3) := En_u.trans <| (envOf_u (by decide)).trans Tryd.underlying22
theorem agg22 {G : Nat} : (En G).agg 22 = some false := by unfold Env.agg; rw [u22]
theorem load22 {G : Nat} {B : Tr Blk} {b off : Nat} : loadO (En G) 22 B (some (.pointer (some ⟨b, off, none⟩))) = loadv B b off := loadO_one agg22
noncomputable def inf22 : TypeInfo := (Tryd.prog.info? 22).getD default
theorem i22 {G : Nat} : (En G).i 22 = some inf22 := En_i.trans <| (envOf_i (by decide)).trans (by kernel_rfl)
theorem size22 : inf22.size = 1 := by kernel_rfl
theorem bytes22 : inf22.bytes = 24 := by kernel_rfl
theorem zero22 : inf22.zero = some (.slice none 0 0) := by kernel_rfl
theorem len22 {G n c : Nat} {A : Option Addr} : lenO (En G) 22 (some (.slice A n c)) = some (.int .i64 n) := lenO_slice u22
theorem u23 {G : Nat} : (En G).u 23 = some (.int .i64) := En_u.trans <| (envOf_u (by decide)).trans Tryd.underlying23
theorem agg23 {G : Nat} : (En G).agg 23 = some false := by unfold Env.agg; rw [u23]
theorem load23 {G : Nat} {B : Tr Blk} {b off : Nat} : loadO (En G) 23 B (some (.pointer (some ⟨b, off, none⟩))) = loadv B b off := loadO_one agg23
noncomputable def inf23 : TypeInfo := (Tryd.prog.info? 23).getD default
theorem i23 {G : Nat} : (En G).i 23 = some inf23 := En_i.trans <| (envOf_i (by decide)).trans (by kernel_rfl)
theorem size23 : inf23.size = 1 := by kernel_rfl
theorem bytes23 : inf23.bytes = 8 := by kernel_rfl
theorem zero23 : inf23.zero = some (.int .i64 0) := by kernel_rfl
theorem u30 {G : Nat} : (En G).u 30 = some (.slice 55) := En_u.trans <| (envOf_u (by decide)).trans Tryd.underlying30
theorem agg30 {G : Nat} : (En G).agg 30 = some false := by unfold Env.agg; rw [u30]
theorem load30 {G : Nat} {B : Tr Blk} {b off : Nat} : loadO (En G) 30 B (some (.pointer (some ⟨b, off, none⟩))) = loadv B b off := loadO_one agg30
noncomputable def inf30 : TypeInfo := (Tryd.prog.info? 30).getD default
theorem i30 {G : Nat} : (En G).i 30 = some inf30 := En_i.trans <| (envOf_i (by decide)).trans (by kernel_rfl)
theorem size30 : inf30.size = 1 := by kernel_rfl
theorem bytes30 : inf30.bytes = 24 := by kernel_rfl
theorem zero30 : inf30.zero = some (.slice none 0 0) := by kernel_rfl
theorem len30 {G n c : Nat} {A : Option Addr} : lenO (En G) 30 (some (.slice A n c)) = some (.int .i64 n) := lenO_slice u30
theorem u40 {G : Nat} : (En G).u 40 = some (.slice 5) := En_u.trans <| (envOf_u (by decide)).trans Tryd.underlying40
theorem agg40 {G : Nat} : (En G).agg 40 = some false := by unfold Env.agg; rw [u40]
theorem load40 {G : Nat} {B : Tr Blk} {b off : Nat} : loadO (En G) 40 B (some (.pointer (some ⟨b, off, none⟩))) = loadv B b off := loadO_one agg40
noncomputable def inf40 : TypeInfo := (Tryd.prog.info? 40).getD default
theorem i40 {G : Nat} : (En G).i 40 = some inf40 := En_i.trans <| (envOf_i (by decide)).trans (by kernel_rfl)
theorem size40 : inf40.size = 1 := by kernel_rfl
theorem bytes40 : inf40.bytes = 24 := by kernel_rfl
theorem zero40 : inf40.zero = some (.slice none 0 0) := by kernel_rfl
theorem len40 {G n c : Nat} {A : Option Addr} : lenO (En G) 40 (some (.slice A n c)) = some (.int .i64 n) := lenO_slice u40
noncomputable def inf54 : TypeInfo := (Tryd.prog.info? 54).getD default
theorem i54 {G : Nat} : (En G).i 54 = some inf54 := En_i.trans <| (envOf_i (by decide)).trans (by kernel_rfl)
theorem size54 : inf54.size = 3 := by kernel_rfl
theorem bytes54 : inf54.bytes = 24 := by kernel_rfl
noncomputable def inf55 : TypeInfo := (Tryd.prog.info? 55).getD default
theorem i55 {G : Nat} : (En G).i 55 = some inf55 := En_i.trans <| (envOf_i (by decide)).trans (by kernel_rfl)
theorem size55 : inf55.size = 3 := by kernel_rfl
theorem bytes55 : inf55.bytes = 24 := by kernel_rfl
theorem u56 {G : Nat} : (En G).u 56 = some (.slice 63) := En_u.trans <| (envOf_u (by decide)).trans Tryd.underlying56
theorem agg56 {G : Nat} : (En G).agg 56 = some false := by unfold Env.agg; rw [u56]
theorem load56 {G : Nat} {B : Tr Blk} {b off : Nat} : loadO (En G) 56 B (some (.pointer (some ⟨b, off, none⟩))) = loadv B b off := loadO_one agg56
noncomputable def inf56 : TypeInfo := (Tryd.prog.info? 56).getD default
theorem i56 {G : Nat} : (En G).i 56 = some inf56 := En_i.trans <| (envOf_i (by decide)).trans (by kernel_rfl)
theorem size56 : inf56.size = 1 := by kernel_rfl
theorem bytes56 : inf56.bytes = 24 := by kernel_rfl
theorem zero56 : inf56.zero = some (.slice none 0 0) := by kernel_rfl
theorem len56 {G n c : Nat} {A : Option Addr} : lenO (En G) 56 (some (.slice A n c)) = some (.int .i64 n) := lenO_slice u56
theorem u59 {G : Nat} : (En G).u 59 = some (.slice 65) := En_u.trans <| (envOf_u (by decide)).trans Tryd.underlying59
theorem agg59 {G : Nat} : (En G).agg 59 = some false := by unfold Env.agg; rw [u59]
theorem load59 {G : Nat} {B : Tr Blk} {b off : Nat} : loadO (En G) 59 B (some (.pointer (some ⟨b, off, none⟩))) = loadv B b off := loadO_one agg59
noncomputable def inf59 : TypeInfo := (Tryd.prog.info? 59).getD default
theorem i59 {G : Nat} : (En G).i 59 = some inf59 := En_i.trans <| (envOf_i (by decide)).trans (by kernel_rfl)
theorem size59 : inf59.size = 1 := by kernel_rfl
theorem bytes59 : inf59.bytes = 24 := by kernel_rfl
theorem zero59 : inf59.zero = some (.slice none 0 0) := by kernel_rfl
theorem len59 {G n c : Nat} {A : Option Addr} : lenO (En G) 59 (some (.slice A n c)) = some (.int .i64 n) := lenO_slice u59
noncomputable def inf62 : TypeInfo := (Tryd.prog.info? 62).getD default
theorem i62 {G : Nat} : (En G).i 62 = some inf62 := En_i.trans <| (envOf_i (by decide)).trans (by kernel_rfl)
theorem size62 : inf62.size = 2 := by kernel_rfl
theorem bytes62 : inf62.bytes = 16 := by kernel_rfl
noncomputable def inf63 : TypeInfo := (Tryd.prog.info? 63).getD default
theorem i63 {G : Nat} : (En G).i 63 = some inf63 := En_i.trans <| (envOf_i (by decide)).trans (by kernel_rfl)
theorem size63 : inf63.size = 2 := by kernel_rfl
theorem bytes63 : inf63.bytes = 16 := by kernel_rfl
theorem u65 {G : Nat} : (En G).u 65 = some (.string) := En_u.trans <| (envOf_u (by decide)).trans Tryd.underlying65
theorem agg65 {G : Nat} : (En G).agg 65 = some false := by unfold Env.agg; rw [u65]
theorem load65 {G : Nat} {B : Tr Blk} {b off : Nat} : loadO (En G) 65 B (some (.pointer (some ⟨b, off, none⟩))) = loadv B b off := loadO_one agg65
noncomputable def inf65 : TypeInfo := (Tryd.prog.info? 65).getD default
theorem i65 {G : Nat} : (En G).i 65 = some inf65 := En_i.trans <| (envOf_i (by decide)).trans (by kernel_rfl)
theorem size65 : inf65.size = 1 := by kernel_rfl
theorem bytes65 : inf65.bytes = 16 := by kernel_rfl
theorem zero65 : inf65.zero = some (.string .empty) := by kernel_rfl
noncomputable def inf68 : TypeInfo := (Tryd.prog.info? 68).getD default
theorem i68 {G : Nat} : (En G).i 68 = some inf68 := En_i.trans <| (envOf_i (by decide)).trans (by kernel_rfl)
theorem size68 : inf68.size = 3 := by kernel_rfl
theorem bytes68 : inf68.bytes = 40 := by kernel_rfl
noncomputable def inf69 : TypeInfo := (Tryd.prog.info? 69).getD default
theorem i69 {G : Nat} : (En G).i 69 = some inf69 := En_i.trans <| (envOf_i (by decide)).trans (by kernel_rfl)
theorem size69 : inf69.size = 3 := by kernel_rfl
theorem bytes69 : inf69.bytes = 40 := by kernel_rfl
theorem u77 {G : Nat} : (En G).u 77 = some (.slice 93) := En_u.trans <| (envOf_u (by decide)).trans Tryd.underlying77
theorem agg77 {G : Nat} : (En G).agg 77 = some false := by unfold Env.agg; rw [u77]
theorem load77 {G : Nat} {B : Tr Blk} {b off : Nat} : loadO (En G) 77 B (some (.pointer (some ⟨b, off, none⟩))) = loadv B b off := loadO_one agg77
noncomputable def inf77 : TypeInfo := (Tryd.prog.info? 77).getD default
theorem i77 {G : Nat} : (En G).i 77 = some inf77 := En_i.trans <| (envOf_i (by decide)).trans (by kernel_rfl)
theorem size77 : inf77.size = 1 := by kernel_rfl
theorem bytes77 : inf77.bytes = 24 := by kernel_rfl
theorem zero77 : inf77.zero = some (.slice none 0 0) := by kernel_rfl
theorem len77 {G n c : Nat} {A : Option Addr} : lenO (En G) 77 (some (.slice A n c)) = some (.int .i64 n) := lenO_slice u77
theorem u86 {G : Nat} : (En G).u 86 = some (.slice 3) := En_u.trans <| (envOf_u (by decide)).trans Tryd.underlying86
theorem agg86 {G : Nat} : (En G).agg 86 = some false := by unfold Env.agg; rw [u86]
theorem load86 {G : Nat} {B : Tr Blk} {b off : Nat} : loadO (En G) 86 B (some (.pointer (some ⟨b, off, none⟩))) = loadv B b off := loadO_one agg86
noncomputable def inf86 : TypeInfo := (Tryd.prog.info? 86).getD default
theorem i86 {G : Nat} : (En G).i 86 = some inf86 := En_i.trans <| (envOf_i (by decide)).trans (by kernel_rfl)
theorem size86 : inf86.size = 1 := by kernel_rfl
theorem bytes86 : inf86.bytes = 24 := by kernel_rfl
theorem zero86 : inf86.zero = some (.slice none 0 0) := by kernel_rfl
theorem len86 {G n c : Nat} {A : Option Addr} : lenO (En G) 86 (some (.slice A n c)) = some (.int .i64 n) := lenO_slice u86
noncomputable def inf92 : TypeInfo := (Tryd.prog.info? 92).getD default
theorem i92 {G : Nat} : (En G).i 92 = some inf92 := En_i.trans <| (envOf_i (by decide)).trans (by kernel_rfl)
theorem size92 : inf92.size = 3 := by kernel_rfl
theorem bytes92 : inf92.bytes = 24 := by kernel_rfl
noncomputable def inf93 : TypeInfo := (Tryd.prog.info? 93).getD default
theorem i93 {G : Nat} : (En G).i 93 = some inf93 := En_i.trans <| (envOf_i (by decide)).trans (by kernel_rfl)
theorem size93 : inf93.size = 3 := by kernel_rfl
theorem bytes93 : inf93.bytes = 24 := by kernel_rfl
theorem u98 {G : Nat} : (En G).u 98 = some (.pointer 93) := En_u.trans <| (envOf_u (by decide)).trans Tryd.underlying98
theorem agg98 {G : Nat} : (En G).agg 98 = some false := by unfold Env.agg; rw [u98]
theorem load98 {G : Nat} {B : Tr Blk} {b off : Nat} : loadO (En G) 98 B (some (.pointer (some ⟨b, off, none⟩))) = loadv B b off := loadO_one agg98
noncomputable def inf98 : TypeInfo := (Tryd.prog.info? 98).getD default
theorem i98 {G : Nat} : (En G).i 98 = some inf98 := En_i.trans <| (envOf_i (by decide)).trans (by kernel_rfl)
theorem size98 : inf98.size = 1 := by kernel_rfl
theorem bytes98 : inf98.bytes = 8 := by kernel_rfl
theorem zero98 : inf98.zero = some (.pointer none) := by kernel_rfl
theorem u101 {G : Nat} : (En G).u 101 = some (.slice 104) := En_u.trans <| (envOf_u (by decide)).trans Tryd.underlying101
theorem agg101 {G : Nat} : (En G).agg 101 = some false := by unfold Env.agg; rw [u101]
theorem load101 {G : Nat} {B : Tr Blk} {b off : Nat} : loadO (En G) 101 B (some (.pointer (some ⟨b, off, none⟩))) = loadv B b off := loadO_one agg101
noncomputable def inf101 : TypeInfo := (Tryd.prog.info? 101).getD default
theorem i101 {G : Nat} : (En G).i 101 = some inf101 := En_i.trans <| (envOf_i (by decide)).trans (by kernel_rfl)
theorem size101 : inf101.size = 1 := by kernel_rfl
theorem bytes101 : inf101.bytes = 24 := by kernel_rfl
theorem zero101 : inf101.zero = some (.slice none 0 0) := by kernel_rfl
theorem len101 {G n c : Nat} {A : Option Addr} : lenO (En G) 101 (some (.slice A n c)) = some (.int .i64 n) := lenO_slice u101
theorem u104 {G : Nat} : (En G).u 104 = some (.slice 2) := En_u.trans <| (envOf_u (by decide)).trans Tryd.underlying104
theorem agg104 {G : Nat} : (En G).agg 104 = some false := by unfold Env.agg; rw [u104]
theorem load104 {G : Nat} {B : Tr Blk} {b off : Nat} : loadO (En G) 104 B (some (.pointer (some ⟨b, off, none⟩))) = loadv B b off := loadO_one agg104
noncomputable def inf104 : TypeInfo := (Tryd.prog.info? 104).getD default
theorem i104 {G : Nat} : (En G).i 104 = some inf104 := En_i.trans <| (envOf_i (by decide)).trans (by kernel_rfl)
theorem size104 : inf104.size = 1 := by kernel_rfl
theorem bytes104 : inf104.bytes = 24 := by kernel_rfl
theorem zero104 : inf104.zero = some (.slice none 0 0) := by kernel_rfl
theorem len104 {G n c : Nat} {A : Option Addr} : lenO (En G) 104 (some (.slice A n c)) = some (.int .i64 n) := lenO_slice u104
theorem u108 {G : Nat} : (En G).u 108 = some (.int .u64) := En_u.trans <| (envOf_u (by decide)).trans Tryd.underlying108
theorem agg108 {G : Nat} : (En G).agg 108 = some false := by unfold Env.agg; rw [u108]
theorem load108 {G : Nat} {B : Tr Blk} {b off : Nat} : loadO (En G) 108 B (some (.pointer (some ⟨b, off, none⟩))) = loadv B b off := loadO_one agg108
noncomputable def inf108 : TypeInfo := (Tryd.prog.info? 108).getD default
theorem i108 {G : Nat} : (En G).i 108 = some inf108 := En_i.trans <| (envOf_i (by decide)).trans (by kernel_rfl)
theorem size108 : inf108.size = 1 := by kernel_rfl
theorem bytes108 : inf108.bytes = 8 := by kernel_rfl
theorem zero108 : inf108.zero = some (.int .u64 0) := by kernel_rfl
theorem u113 {G : Nat} : (En G).u 113 = some (.slice 4) := En_u.trans <| (envOf_u (by decide)).trans Tryd.underlying113
theorem agg113 {G : Nat} : (En G).agg 113 = some false := by unfold Env.agg; rw [u113]
theorem load113 {G : Nat} {B : Tr Blk} {b off : Nat} : loadO (En G) 113 B (some (.pointer (some ⟨b, off, none⟩))) = loadv B b off := loadO_one agg113
noncomputable def inf113 : TypeInfo := (Tryd.prog.info? 113).getD default
theorem i113 {G : Nat} : (En G).i 113 = some inf113 := En_i.trans <| (envOf_i (by decide)).trans (by kernel_rfl)
theorem size113 : inf113.size = 1 := by kernel_rfl
theorem bytes113 : inf113.bytes = 24 := by kernel_rfl
theorem zero113 : inf113.zero = some (.slice none 0 0) := by kernel_rfl
theorem len113 {G n c : Nat} {A : Option Addr} : lenO (En G) 113 (some (.slice A n c)) = some (.int .i64 n) := lenO_slice u113
theorem u115 {G : Nat} : (En G).u 115 = some (.int .i64) := En_u.trans <| (envOf_u (by decide)).trans Tryd.underlying115
theorem agg115 {G : Nat} : (En G).agg 115 = some false := by unfold Env.agg; rw [u115]
theorem load115 {G : Nat} {B : Tr Blk} {b off : Nat} : loadO (En G) 115 B (some (.pointer (some ⟨b, off, none⟩))) = loadv B b off := loadO_one agg115
noncomputable def inf115 : TypeInfo := (Tryd.prog.info? 115).getD default
theorem i115 {G : Nat} : (En G).i 115 = some inf115 := En_i.trans <| (envOf_i (by decide)).trans (by kernel_rfl)
theorem size115 : inf115.size = 1 := by kernel_rfl
theorem bytes115 : inf115.bytes = 8 := by kernel_rfl
theorem zero115 : inf115.zero = some (.int .i64 0) := by kernel_rfl
theorem u123 {G : Nat} : (En G).u 123 = some (.int .u32) := En_u.trans <| (envOf_u (by decide)).trans Tryd.underlying123
theorem agg123 {G : Nat} : (En G).agg 123 = some false := by unfold Env.agg; rw [u123]
theorem load123 {G : Nat} {B : Tr Blk} {b off : Nat} : loadO (En G) 123 B (some (.pointer (some ⟨b, off, none⟩))) = loadv B b off := loadO_one agg123
noncomputable def inf123 : TypeInfo := (Tryd.prog.info? 123).getD default
theorem i123 {G : Nat} : (En G).i 123 = some inf123 := En_i.trans <| (envOf_i (by decide)).trans (by kernel_rfl)
theorem size123 : inf123.size = 1 := by kernel_rfl
theorem bytes123 : inf123.bytes = 4 := by kernel_rfl
theorem zero123 : inf123.zero = some (.int .u32 0) := by kernel_rfl
theorem u125 {G : Nat} : (En G).u 125 = some (.int .u64) := En_u.trans <| (envOf_u (by decide)).trans Tryd.underlying125
theorem agg125 {G : Nat} : (En G).agg 125 = some false := by unfold Env.agg; rw [u125]
theorem load125 {G : Nat} {B : Tr Blk} {b off : Nat} : loadO (En G) 125 B (some (.pointer (some ⟨b, off, none⟩))) = loadv B b off := loadO_one agg125
noncomputable def inf125 : TypeInfo := (Tryd.prog.info? 125).getD default
theorem i125 {G : Nat} : (En G).i 125 = some inf125 := En_i.trans <| (envOf_i (by decide)).trans (by kernel_rfl)
theorem size125 : inf125.size = 1 := by kernel_rfl
theorem bytes125 : inf125.bytes = 8 := by kernel_rfl
theorem zero125 : inf125.zero = some (.int .u64 0) := by kernel_rfl
theorem u132 {G : Nat} : (En G).u 132 = some (.int .u64) := En_u.trans <| (envOf_u (by decide)).trans Tryd.underlying132
theorem agg132 {G : Nat} : (En G).agg 132 = some false := by unfold Env.agg; rw [u132]
theorem load132 {G : Nat} {B : Tr Blk} {b off : Nat} : loadO (En G) 132 B (some (.pointer (some ⟨b, off, none⟩))) = loadv B b off := loadO_one agg132
noncomputable def inf132 : TypeInfo := (Tryd.prog.info? 132).getD default
theorem i132 {G : Nat} : (En G).i 132 = some inf132 := En_i.trans <| (envOf_i (by decide)).trans (by kernel_rfl)
theorem size132 : inf132.size = 1 := by kernel_rfl
theorem bytes132 : inf132.bytes = 8 := by kernel_rfl
theorem zero132 : inf132.zero = some (.int .u64 0) := by kernel_rfl
theorem u136 {G : Nat} : (En G).u 136 = some (.pointer 3) := En_u.trans <| (envOf_u (by decide)).trans Tryd.underlying136
theorem agg136 {G : Nat} : (En G).agg 136 = some false := by unfold Env.agg; rw [u136]
theorem load136 {G : Nat} {B : Tr Blk} {b off : Nat} : loadO (En G) 136 B (some (.pointer (some ⟨b, off, none⟩))) = loadv B b off := loadO_one agg136
noncomputable def inf136 : TypeInfo := (Tryd.prog.info? 136).getD default
theorem i136 {G : Nat} : (En G).i 136 = some inf136 := En_i.trans <| (envOf_i (by decide)).trans (by kernel_rfl)
theorem size136 : inf136.size = 1 := by kernel_rfl
theorem bytes136 : inf136.bytes = 8 := by kernel_rfl
theorem zero136 : inf136.zero = some (.pointer none) := by kernel_rfl
theorem u144 {G : Nat} : (En G).u 144 = some (.pointer 132) := En_u.trans <| (envOf_u (by decide)).trans Tryd.underlying144
theorem agg144 {G : Nat} : (En G).agg 144 = some false := by unfold Env.agg; rw [u144]
theorem load144 {G : Nat} {B : Tr Blk} {b off : Nat} : loadO (En G) 144 B (some (.pointer (some ⟨b, off, none⟩))) = loadv B b off := loadO_one agg144
noncomputable def inf144 : TypeInfo := (Tryd.prog.info? 144).getD default
theorem i144 {G : Nat} : (En G).i 144 = some inf144 := En_i.trans <| (envOf_i (by decide)).trans (by kernel_rfl)
theorem size144 : inf144.size = 1 := by kernel_rfl
theorem bytes144 : inf144.bytes = 8 := by kernel_rfl
theorem zero144 : inf144.zero = some (.pointer none) := by kernel_rfl
noncomputable def inf154 : TypeInfo := (Tryd.prog.info? 154).getD default
theorem i154 {G : Nat} : (En G).i 154 = some inf154 := En_i.trans <| (envOf_i (by decide)).trans (by kernel_rfl)
theorem size154 : inf154.size = 4 := by kernel_rfl
theorem bytes154 : inf154.bytes = 40 := by kernel_rfl
noncomputable def inf155 : TypeInfo := (Tryd.prog.info? 155).getD default
theorem i155 {G : Nat} : (En G).i 155 = some inf155 := En_i.trans <| (envOf_i (by decide)).trans (by kernel_rfl)
theorem size155 : inf155.size = 4 := by kernel_rfl
theorem bytes155 : inf155.bytes = 40 := by kernel_rfl
noncomputable def inf157 : TypeInfo := (Tryd.prog.info? 157).getD default
theorem i157 {G : Nat} : (En G).i 157 = some inf157 := En_i.trans <| (envOf_i (by decide)).trans (by kernel_rfl)
theorem size157 : inf157.size = 0 := by kernel_rfl
theorem bytes157 : inf157.bytes = 0 := by kernel_rfl
noncomputable def inf158 : TypeInfo := (Tryd.prog.info? 158).getD default
theorem i158 {G : Nat} : (En G).i 158 = some inf158 := En_i.trans <| (envOf_i (by decide)).trans (by kernel_rfl)
theorem size158 : inf158.size = 0 := by kernel_rfl
theorem bytes158 : inf158.bytes = 0 := by kernel_rfl
theorem u160 {G : Nat} : (En G).u 160 = some (.int .u8) := En_u.trans <| (envOf_u (by decide)).trans Tryd.underlying160
theorem agg160 {G : Nat} : (En G).agg 160 = some false := by unfold Env.agg; rw [u160]
theorem load160 {G : Nat} {B : Tr Blk} {b off : Nat} : loadO (En G) 160 B (some (.pointer (some ⟨b, off, none⟩))) = loadv B b off := loadO_one agg160
noncomputable def inf160 : TypeInfo := (Tryd.prog.info? 160).getD default
theorem i160 {G : Nat} : (En G).i 160 = some inf160 := En_i.trans <| (envOf_i (by decide)).trans (by kernel_rfl)
theorem size160 : inf160.size = 1 := by kernel_rfl
theorem bytes160 : inf160.bytes = 1 := by kernel_rfl
theorem zero160 : inf160.zero = some (.int .u8 0) := by kernel_rfl
theorem u161 {G : Nat} : (En G).u 161 = some (.int .u8) := En_u.trans <| (envOf_u (by decide)).trans Tryd.underlying161
theorem agg161 {G : Nat} : (En G).agg 161 = some false := by unfold Env.agg; rw [u161]
theorem load161 {G : Nat} {B : Tr Blk} {b off : Nat} : loadO (En G) 161 B (some (.pointer (some ⟨b, off, none⟩))) = loadv B b off := loadO_one agg161
noncomputable def inf161 : TypeInfo := (Tryd.prog.info? 161).getD default
theorem i161 {G : Nat} : (En G).i 161 = some inf161 := En_i.trans <| (envOf_i (by decide)).trans (by kernel_rfl)
theorem size161 : inf161.size = 1 := by kernel_rfl
theorem bytes161 : inf161.bytes = 1 := by kernel_rfl
theorem zero161 : inf161.zero = some (.int .u8 0) := by kernel_rfl
theorem u163 {G : Nat} : (En G).u 163 = some (.pointer 5) := En_u.trans <| (envOf_u (by decide)).trans Tryd.underlying163
theorem agg163 {G : Nat} : (En G).agg 163 = some false := by unfold Env.agg; rw [u163]
theorem load163 {G : Nat} {B : Tr Blk} {b off : Nat} : loadO (En G) 163 B (some (.pointer (some ⟨b, off, none⟩))) = loadv B b off := loadO_one agg163
noncomputable def inf163 : TypeInfo := (Tryd.prog.info? 163).getD default
theorem i163 {G : Nat} : (En G).i 163 = some inf163 := En_i.trans <| (envOf_i (by decide)).trans (by kernel_rfl)
theorem size163 : inf163.size = 1 := by kernel_rfl
theorem bytes163 : inf163.bytes = 8 := by kernel_rfl
theorem zero163 : inf163.zero = some (.pointer none) := by kernel_rfl
theorem u164 {G : Nat} : (En G).u 164 = some (.int .i32) := En_u.trans <| (envOf_u (by decide)).trans Tryd.underlying164
theorem agg164 {G : Nat} : (En G).agg 164 = some false := by unfold Env.agg; rw [u164]
theorem load164 {G : Nat} {B : Tr Blk} {b off : Nat} : loadO (En G) 164 B (some (.pointer (some ⟨b, off, none⟩))) = loadv B b off := loadO_one agg164
noncomputable def inf164 : TypeInfo := (Tryd.prog.info? 164).getD default
theorem i164 {G : Nat} : (En G).i 164 = some inf164 := En_i.trans <| (envOf_i (by decide)).trans (by kernel_rfl)
theorem size164 : inf164.size = 1 := by kernel_rfl
theorem bytes164 : inf164.bytes = 4 := by kernel_rfl
theorem zero164 : inf164.zero = some (.int .i32 0) := by kernel_rfl
theorem u165 {G : Nat} : (En G).u 165 = some (.int .i32) := En_u.trans <| (envOf_u (by decide)).trans Tryd.underlying165
theorem agg165 {G : Nat} : (En G).agg 165 = some false := by unfold Env.agg; rw [u165]
theorem load165 {G : Nat} {B : Tr Blk} {b off : Nat} : loadO (En G) 165 B (some (.pointer (some ⟨b, off, none⟩))) = loadv B b off := loadO_one agg165
noncomputable def inf165 : TypeInfo := (Tryd.prog.info? 165).getD default
theorem i165 {G : Nat} : (En G).i 165 = some inf165 := En_i.trans <| (envOf_i (by decide)).trans (by kernel_rfl)
theorem size165 : inf165.size = 1 := by kernel_rfl
theorem bytes165 : inf165.bytes = 4 := by kernel_rfl
theorem zero165 : inf165.zero = some (.int .i32 0) := by kernel_rfl
noncomputable def inf166 : TypeInfo := (Tryd.prog.info? 166).getD default
theorem i166 {G : Nat} : (En G).i 166 = some inf166 := En_i.trans <| (envOf_i (by decide)).trans (by kernel_rfl)
theorem size166 : inf166.size = 11 := by kernel_rfl
theorem bytes166 : inf166.bytes = 48 := by kernel_rfl
noncomputable def inf167 : TypeInfo := (Tryd.prog.info? 167).getD default
theorem i167 {G : Nat} : (En G).i 167 = some inf167 := En_i.trans <| (envOf_i (by decide)).trans (by kernel_rfl)
theorem size167 : inf167.size = 11 := by kernel_rfl
theorem bytes167 : inf167.bytes = 48 := by kernel_rfl
theorem idxA22 {G b off n c : Nat} {kd : IntKind} {z : Int} (h0 : 0 ≤ z) (h1 : z < n) : idxAddrO (En G) 22 (some (.slice (some ⟨b, off, none⟩) n c)) (some (.int kd z)) = some (.pointer (some ⟨b, off + z.toNat * 1, none⟩)) := by
  rw [idxAddrO_slice u22 i3 h0 h1, size3]
theorem idxA40 {G b off n c : Nat} {kd : IntKind} {z : Int} (h0 : 0 ≤ z) (h1 : z < n) : idxAddrO (En G) 40 (some (.slice (some ⟨b, off, none⟩) n c)) (some (.int kd z)) = some (.pointer (some ⟨b, off + z.toNat * 1, none⟩)) := by
  rw [idxAddrO_slice u40 i5 h0 h1, size5]
theorem idxA59 {G b off n c : Nat} {kd : IntKind} {z : Int} (h0 : 0 ≤ z) (h1 : z < n) : idxAddrO (En G) 59 (some (.slice (some ⟨b, off, none⟩) n c)) (some (.int kd z)) = some (.pointer (some ⟨b, off + z.toNat * 1, none⟩)) := by
  rw [idxAddrO_slice u59 i65 h0 h1, size65]
theorem idxA86 {G b off n c : Nat} {kd : IntKind} {z : Int} (h0 : 0 ≤ z) (h1 : z < n) : idxAddrO (En G) 86 (some (.slice (some ⟨b, off, none⟩) n c)) (some (.int kd z)) = some (.pointer (some ⟨b, off + z.toNat * 1, none⟩)) := by
  rw [idxAddrO_slice u86 i3 h0 h1, size3]
theorem idxA101 {G b off n c : Nat} {kd : IntKind} {z : Int} (h0 : 0 ≤ z) (h1 : z < n) : idxAddrO (En G) 101 (some (.slice (some ⟨b, off, none⟩) n c)) (some (.int kd z)) = some (.pointer (some ⟨b, off + z.toNat * 1, none⟩)) := by
  rw [idxAddrO_slice u101 i104 h0 h1, size104]
theorem idxA104 {G b off n c : Nat} {kd : IntKind} {z : Int} (h0 : 0 ≤ z) (h1 : z < n) : idxAddrO (En G) 104 (some (.slice (some ⟨b, off, none⟩) n c)) (some (.int kd z)) = some (.pointer (some ⟨b, off + z.toNat * 1, none⟩)) := by
  rw [idxAddrO_slice u104 i2 h0 h1, size2]
theorem idxA113 {G b off n c : Nat} {kd : IntKind} {z : Int} (h0 : 0 ≤ z) (h1 : z < n) : idxAddrO (En G) 113 (some (.slice (some ⟨b, off, none⟩) n c)) (some (.int kd z)) = some (.pointer (some ⟨b, off + z.toNat * 1, none⟩)) := by
  rw [idxAddrO_slice u113 i4 h0 h1, size4]
end
end Go.Proofs.YtlajheeleneigaaDoor.Ev
