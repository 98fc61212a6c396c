/- Facts of the program's types, for symbolic runs. By program. -/
import Derived.Test.YtihmbbgnielbnaaGreatDoorProg
import Derived.Test.YtihmbbgnielbnaaGreatDoorPmSS
import Derived.Test.YtihmbbgnielbnaaGreatDoorPmdTabs
import Derived.KernelRfl
set_option linter.unusedSimpArgs false
namespace Go.Proofs.YtihmbbgnielbnaaGreatDoor.Ev
open Go Go.Proofs
noncomputable section

/-- the program's types and functions; so many blocks are only read -/
noncomputable def En (G : Nat) : Env := withKnown (envOf Tryz.prog 161 4 G) (Tr.put .e 10 (.bool true)) tabs
theorem En_u {G t : Nat} : (En G).u t = (envOf Tryz.prog 161 4 G).u t := withKnown_u
theorem En_i {G t : Nat} : (En G).i t = (envOf Tryz.prog 161 4 G).i t := withKnown_i
theorem En_G {G : Nat} : (En G).G = G := withKnown_G
theorem En_iters {G : Nat} : (En G).iters = Tr.e := withKnown_iters
theorem En_known {G f : Nat} (h : f ≠ 10) : (En G).known.get f = none := by
  have e : (En G).known = Tr.put Tr.e 10 (Value.bool true) := withKnown_known
  rw [e, Tr.get_put, if_neg h]
  rfl
theorem En_lives {G : Nat} : (En G).known.get 10 = some (.bool true) := by
  have e : (En G).known = Tr.put Tr.e 10 (Value.bool true) := withKnown_known
  rw [e, Tr.get_put, if_pos rfl]


theorem mixed : Tryz.prog.follows .mixedOrders = true := by kernel_rfl
theorem En_f {G : Nat} {f : FuncId} : (En G).fns.get f = Tryz.prog.funcs[f]? := by
  have : (En G).fns = (envOf Tryz.prog 161 4 G).fns := withKnown_f
  rw [this]; exact envOf_f

theorem u2 {G : Nat} : (En G).u 2 = some (.int .i64) := En_u.trans <| (envOf_u (by decide)).trans Tryz.underlying2
theorem agg2 {G : Nat} : (En G).agg 2 = some false := by unfold Env.agg; rw [u2]
theorem load2 {G : Nat} {B : Tr Blk} {b off : Nat} : loadO (En G) 2 B (some (.pointer (some ⟨b, off, none⟩))) = loadv B b off := loadO_one agg2
noncomputable def inf2 : TypeInfo := (Tryz.prog.info? 2).getD default
theorem i2 {G : Nat} : (En G).i 2 = some inf2 := En_i.trans <| (envOf_i (by decide)).trans (by kernel_rfl)
theorem size2 : inf2.size = 1 := by kernel_rfl
theorem bytes2 : inf2.bytes = 8 := by kernel_rfl
theorem zero2 : inf2.zero = some (.int .i64 0) := by kernel_rfl
theorem u3 {G : Nat} : (En G).u 3 = some (.int .i64) := En_u.trans <| (envOf_u (by decide)).trans Tryz.underlying3
theorem agg3 {G : Nat} : (En G).agg 3 = some false := by unfold Env.agg; rw [u3]
theorem load3 {G : Nat} {B : Tr Blk} {b off : Nat} : loadO (En G) 3 B (some (.pointer (some ⟨b, off, none⟩))) = loadv B b off := loadO_one agg3
noncomputable def inf3 : TypeInfo := (Tryz.prog.info? 3).getD default
theorem i3 {G : Nat} : (En G).i 3 = some inf3 := En_i.trans <| (envOf_i (by decide)).trans (by kernel_rfl)
theorem size3 : inf3.size = 1 := by kernel_rfl
theorem bytes3 : inf3.bytes = 8 := by kernel_rfl
theorem zero3 : inf3.zero = some (.int .i64 0) := by kernel_rfl
theorem u4 {G : Nat} : (En G).u 4 = some (.bool) := En_u.trans <| (envOf_u (by decide)).trans Tryz.underlying4
theorem agg4 {G : Nat} : (En G).agg 4 = some false := by unfold Env.agg; rw [u4]
theorem load4 {G : Nat} {B : Tr Blk} {b off : Nat} : loadO (En G) 4 B (some (.pointer (some ⟨b, off, none⟩))) = loadv B b off := loadO_one agg4
noncomputable def inf4 : TypeInfo := (Tryz.prog.info? 4).getD default
theorem i4 {G : Nat} : (En G).i 4 = some inf4 := En_i.trans <| (envOf_i (by decide)).trans (by kernel_rfl)
theorem size4 : inf4.size = 1 := by kernel_rfl
theorem bytes4 : inf4.bytes = 1 := by kernel_rfl
theorem zero4 : inf4.zero = some (.bool false) := by kernel_rfl
theorem u5 {G : Nat} : (En G).u 5 = some (.int .u8) := En_u.trans <| (envOf_u (by decide)).trans Tryz.underlying5
theorem agg5 {G : Nat} : (En G).agg 5 = some false := by unfold Env.agg; rw [u5]
theorem load5 {G : Nat} {B : Tr Blk} {b off : Nat} : loadO (En G) 5 B (some (.pointer (some ⟨b, off, none⟩))) = loadv B b off := loadO_one agg5
noncomputable def inf5 : TypeInfo := (Tryz.prog.info? 5).getD default
theorem i5 {G : Nat} : (En G).i 5 = some inf5 := En_i.trans <| (envOf_i (by decide)).trans (by kernel_rfl)
theorem size5 : inf5.size = 1 := by kernel_rfl
theorem bytes5 : inf5.bytes = 1 := by kernel_rfl
theorem zero5 : inf5.zero = some (.int .u8 0) := by kernel_rfl
theorem u6 {G : Nat} : (En G).u 6 = some (.int .u8) := En_u.trans <| (envOf_u (by decide)).trans Tryz.underlying6
theorem agg6 {G : Nat} : (En G).agg 6 = some false := by unfold Env.agg; rw [u6]
theorem load6 {G : Nat} {B : Tr Blk} {b off : Nat} : loadO (En G) 6 B (some (.pointer (some ⟨b, off, none⟩))) = loadv B b off := loadO_one agg6
noncomputable def inf6 : TypeInfo := (Tryz.prog.info? 6).getD default
theorem i6 {G : Nat} : (En G).i 6 = some inf6 := En_i.trans <| (envOf_i (by decide)).trans (by kernel_rfl)
theorem size6 : inf6.size = 1 := by kernel_rfl
theorem bytes6 : inf6.bytes = 1 := by kernel_rfl
theorem zero6 : inf6.zero = some (.int .u8 0) := by kernel_rfl
noncomputable def inf7 : TypeInfo := (Tryz.prog.info? 7).getD default
theorem i7 {G : Nat} : (En G).i 7 = some inf7 := En_i.trans <| (envOf_i (by decide)).trans (by kernel_rfl)
theorem size7 : inf7.size = 4 := by kernel_rfl
theorem bytes7 : inf7.bytes = 24 := by kernel_rfl
noncomputable def inf8 : TypeInfo := (Tryz.prog.info? 8).getD default
theorem i8 {G : Nat} : (En G).i 8 = some inf8 := En_i.trans <| (envOf_i (by decide)).trans (by kernel_rfl)
theorem size8 : inf8.size = 4 := by kernel_rfl
theorem bytes8 : inf8.bytes = 24 := by kernel_rfl
theorem u9 {G : Nat} : (En G).u 9 = some (.string) := En_u.trans <| (envOf_u (by decide)).trans Tryz.underlying9
theorem agg9 {G : Nat} : (En G).agg 9 = some false := by unfold Env.agg; rw [u9]
theorem load9 {G : Nat} {B : Tr Blk} {b off : Nat} : loadO (En G) 9 B (some (.pointer (some ⟨b, off, none⟩))) = loadv B b off := loadO_one agg9
noncomputable def inf9 : TypeInfo := (Tryz.prog.info? 9).getD default
theorem i9 {G : Nat} : (En G).i 9 = some inf9 := En_i.trans <| (envOf_i (by decide)).trans (by kernel_rfl)
theorem size9 : inf9.size = 1 := by kernel_rfl
theorem bytes9 : inf9.bytes = 16 := by kernel_rfl
theorem zero9 : inf9.zero = some (.string .empty) := by kernel_rfl
theorem u10 {G : Nat} : (En G).u 10 = some (.string) := En_u.trans <| (envOf_u (by decide)).trans Tryz.underlying10
theorem agg10 {G : Nat} : (En G).agg 10 = some false := by unfold Env.agg; rw [u10]
theorem load10 {G : Nat} {B : Tr Blk} {b off : Nat} : loadO (En G) 10 B (some (.pointer (some ⟨b, off, none⟩))) = loadv B b off := loadO_one agg10
noncomputable def inf10 : TypeInfo := (Tryz.prog.info? 10).getD default
theorem i10 {G : Nat} : (En G).i 10 = some inf10 := En_i.trans <| (envOf_i (by decide)).trans (by kernel_rfl)
theorem size10 : inf10.size = 1 := by kernel_rfl
theorem bytes10 : inf10.bytes = 16 := by kernel_rfl
theorem zero10 : inf10.zero = some (.string .empty) := by kernel_rfl
theorem u11 {G : Nat} : (En G).u 11 = some (.string) := En_u.trans <| (envOf_u (by decide)).trans Tryz.underlying11
theorem agg11 {G : Nat} : (En G).agg 11 = some false := by unfold Env.agg; rw [u11]
theorem load11 {G : Nat} {B : Tr Blk} {b off : Nat} : loadO (En G) 11 B (some (.pointer (some ⟨b, off, none⟩))) = loadv B b off := loadO_one agg11
noncomputable def inf11 : TypeInfo := (Tryz.prog.info? 11).getD default
theorem i11 {G : Nat} : (En G).i 11 = some inf11 := En_i.trans <| (envOf_i (by decide)).trans (by kernel_rfl)
theorem size11 : inf11.size = 1 := by kernel_rfl
theorem bytes11 : inf11.bytes = 16 := by kernel_rfl
theorem zero11 : inf11.zero = some (.string .empty) := by kernel_rfl
theorem u12 {G : Nat} : (En G).u 12 = some (.int .u64) := En_u.trans <| (envOf_u (by decide)).trans Tryz.underlying12
theorem agg12 {G : Nat} : (En G).agg 12 = some false := by unfold Env.agg; rw [u12]
theorem load12 {G : Nat} {B : Tr Blk} {b off : Nat} : loadO (En G) 12 B (some (.pointer (some ⟨b, off, none⟩))) = loadv B b off := loadO_one agg12
noncomputable def inf12 : TypeInfo := (Tryz.prog.info? 12).getD default
theorem i12 {G : Nat} : (En G).i 12 = some inf12 := En_i.trans <| (envOf_i (by decide)).trans (by kernel_rfl)
theorem size12 : inf12.size = 1 := by kernel_rfl
theorem bytes12 : inf12.bytes = 8 := by kernel_rfl
theorem zero12 : inf12.zero = some (.int .u64 0) := by kernel_rfl
noncomputable def inf13 : TypeInfo := (Tryz.prog.info? 13).getD default
theorem i13 {G : Nat} : (En G).i 13 = some inf13 := En_i.trans <| (envOf_i (by decide)).trans (by kernel_rfl)
theorem size13 : inf13.size = 2 := by kernel_rfl
theorem bytes13 : inf13.bytes = 24 := by kernel_rfl
noncomputable def inf14 : TypeInfo := (Tryz.prog.info? 14).getD default
theorem i14 {G : Nat} : (En G).i 14 = some inf14 := En_i.trans <| (envOf_i (by decide)).trans (by kernel_rfl)
theorem size14 : inf14.size = 2 := by kernel_rfl
theorem bytes14 : inf14.bytes = 24 := by kernel_rfl
theorem u15 {G : Nat} : (En G).u 15 = some (.pointer 149) := En_u.trans <| (envOf_u (by decide)).trans Tryz.underlying15
theorem agg15 {G : Nat} : (En G).agg 15 = some false := by unfold Env.agg; rw [u15]
theorem load15 {G : Nat} {B : Tr Blk} {b off : Nat} : loadO (En G) 15 B (some (.pointer (some ⟨b, off, none⟩))) = loadv B b off := loadO_one agg15
noncomputable def inf15 : TypeInfo := (Tryz.prog.info? 15).getD default
theorem i15 {G : Nat} : (En G).i 15 = some inf15 := En_i.trans <| (envOf_i (by decide)).trans (by kernel_rfl)
theorem size15 : inf15.size = 1 := by kernel_rfl
theorem bytes15 : inf15.bytes = 8 := by kernel_rfl
theorem zero15 : inf15.zero = some (.pointer none) := by kernel_rfl
theorem u16 {G : Nat} : (En G).u 16 = some (.pointer 152) := En_u.trans <| (envOf_u (by decide)).trans Tryz.underlying16
theorem agg16 {G : Nat} : (En G).agg 16 = some false := by unfold Env.agg; rw [u16]
theorem load16 {G : Nat} {B : Tr Blk} {b off : Nat} : loadO (En G) 16 B (some (.pointer (some ⟨b, off, none⟩))) = loadv B b off := loadO_one agg16
noncomputable def inf16 : TypeInfo := (Tryz.prog.info? 16).getD default
theorem i16 {G : Nat} : (En G).i 16 = some inf16 := En_i.trans <| (envOf_i (by decide)).trans (by kernel_rfl)
theorem size16 : inf16.size = 1 := by kernel_rfl
theorem bytes16 : inf16.bytes = 8 := by kernel_rfl
theorem zero16 : inf16.zero = some (.pointer none) := by kernel_rfl
theorem u17 {G : Nat} : (En G).u 17 = some (.pointer 159) := En_u.trans <| (envOf_u (by decide)).trans Tryz.underlying17
theorem agg17 {G : Nat} : (En G).agg 17 = some false := by unfold Env.agg; rw [u17]
theorem load17 {G : Nat} {B : Tr Blk} {b off : Nat} : loadO (En G) 17 B (some (.pointer (some ⟨b, off, none⟩))) = loadv B b off := loadO_one agg17
noncomputable def inf17 : TypeInfo := (Tryz.prog.info? 17).getD default
theorem i17 {G : Nat} : (En G).i 17 = some inf17 := En_i.trans <| (envOf_i (by decide)).trans (by kernel_rfl)
theorem size17 : inf17.size = 1 := by kernel_rfl
theorem bytes17 : inf17.bytes = 8 := by kernel_rfl
theorem zero17 : inf17.zero = some (.pointer none) := by kernel_rfl
noncomputable def inf18 : TypeInfo := (Tryz.prog.info? 18).getD default
theorem i18 {G : Nat} : (En G).i 18 = some inf18 := En_i.trans <| (envOf_i (by decide)).trans (by kernel_rfl)
theorem size18 : inf18.size = 1 := by kernel_rfl
theorem bytes18 : inf18.bytes = 8 := by kernel_rfl
noncomputable def inf19 : TypeInfo := (Tryz.prog.info? 19).getD default
theorem i19 {G : Nat} : (En G).i 19 = some inf19 := En_i.trans <| (envOf_i (by decide)).trans (by kernel_rfl)
theorem size19 : inf19.size = 1 := by kernel_rfl
theorem bytes19 : inf19.bytes = 8 := by kernel_rfl
theorem u21 {G : Nat} : (En G).u 21 = some (.int .i32) := En_u.trans <| (envOf_u (by decide)).trans Tryz.underlying21
theorem agg21 {G : Nat} : (En G).agg 21 = some false := by unfold Env.agg; rw [u21]
theorem load21 {G : Nat} {B : Tr Blk} {b off : Nat} : loadO (En G) 21 B (some (.pointer (some ⟨b, off, none⟩))) = loadv B b off := loadO_one agg21
noncomputable def inf21 : TypeInfo := (Tryz.prog.info? 21).getD default
theorem i21 {G : Nat} : (En G).i 21 = some inf21 := En_i.trans <| (envOf_i (by decide)).trans (by kernel_rfl)
theorem size21 : inf21.size = 1 := by kernel_rfl
theorem bytes21 : inf21.bytes = 4 := by kernel_rfl
theorem zero21 : inf21.zero = some (.int .i32 0) := by kernel_rfl
theorem u22 {G : Nat} : (En G).u 22 = some (.slice 23) := En_u.trans <| (envOf_u (by decide)).trans Tryz.underlying22
theorem agg22 {G : Nat} : (En G).agg 22 = some false := by unfold Env.agg; rw [u22]
theorem load22 {G : Nat} {B : Tr Blk} {b off : Nat} : loadO (En G) 22 B (some (.pointer (some ⟨b, off, none⟩))) = loadv B b off := loadO_one agg22
noncomputable def inf22 : TypeInfo := (Tryz.prog.info? 22).getD default
theorem i22 {G : Nat} : (En G).i 22 = some inf22 := En_i.trans <| (envOf_i (by decide)).trans (by kernel_rfl)
theorem size22 : inf22.size = 1 := by kernel_rfl
theorem bytes22 : inf22.bytes = 24 := by kernel_rfl
theorem zero22 : inf22.zero = some (.slice none 0 0) := by kernel_rfl
theorem len22 {G n c : Nat} {A : Option Addr} : lenO (En G) 22 (some (.slice A n c)) = some (.int .i64 n) := lenO_slice u22
theorem u23 {G : Nat} : (En G).u 23 = some (.slice 3) := En_u.trans <| (envOf_u (by decide)).trans Tryz.underlying23
theorem agg23 {G : Nat} : (En G).agg 23 = some false := by unfold Env.agg; rw [u23]
theorem load23 {G : Nat} {B : Tr Blk} {b off : Nat} : loadO (En G) 23 B (some (.pointer (some ⟨b, off, none⟩))) = loadv B b off := loadO_one agg23
noncomputable def inf23 : TypeInfo := (Tryz.prog.info? 23).getD default
theorem i23 {G : Nat} : (En G).i 23 = some inf23 := En_i.trans <| (envOf_i (by decide)).trans (by kernel_rfl)
theorem size23 : inf23.size = 1 := by kernel_rfl
theorem bytes23 : inf23.bytes = 24 := by kernel_rfl
theorem zero23 : inf23.zero = some (.slice none 0 0) := by kernel_rfl
theorem len23 {G n c : Nat} {A : Option Addr} : lenO (En G) 23 (some (.slice A n c)) = some (.int .i64 n) := lenO_slice u23
theorem u26 {G : Nat} : (En G).u 26 = some (.int .i64) := En_u.trans <| (envOf_u (by decide)).trans Tryz.underlying26
theorem agg26 {G : Nat} : (En G).agg 26 = some false := by unfold Env.agg; rw [u26]
theorem load26 {G : Nat} {B : Tr Blk} {b off : Nat} : loadO (En G) 26 B (some (.pointer (some ⟨b, off, none⟩))) = loadv B b off := loadO_one agg26
noncomputable def inf26 : TypeInfo := (Tryz.prog.info? 26).getD default
theorem i26 {G : Nat} : (En G).i 26 = some inf26 := En_i.trans <| (envOf_i (by decide)).trans (by kernel_rfl)
theorem size26 : inf26.size = 1 := by kernel_rfl
theorem bytes26 : inf26.bytes = 8 := by kernel_rfl
theorem zero26 : inf26.zero = some (.int .i64 0) := by kernel_rfl
theorem u35 {G : Nat} : (En G).u 35 = some (.slice 44) := En_u.trans <| (envOf_u (by decide)).trans Tryz.underlying35
theorem agg35 {G : Nat} : (En G).agg 35 = some false := by unfold Env.agg; rw [u35]
theorem load35 {G : Nat} {B : Tr Blk} {b off : Nat} : loadO (En G) 35 B (some (.pointer (some ⟨b, off, none⟩))) = loadv B b off := loadO_one agg35
noncomputable def inf35 : TypeInfo := (Tryz.prog.info? 35).getD default
theorem i35 {G : Nat} : (En G).i 35 = some inf35 := En_i.trans <| (envOf_i (by decide)).trans (by kernel_rfl)
theorem size35 : inf35.size = 1 := by kernel_rfl
theorem bytes35 : inf35.bytes = 24 := by kernel_rfl
theorem zero35 : inf35.zero = some (.slice none 0 0) := by kernel_rfl
theorem len35 {G n c : Nat} {A : Option Addr} : lenO (En G) 35 (some (.slice A n c)) = some (.int .i64 n) := lenO_slice u35
theorem u44 {G : Nat} : (En G).u 44 = some (.string) := En_u.trans <| (envOf_u (by decide)).trans Tryz.underlying44
theorem agg44 {G : Nat} : (En G).agg 44 = some false := by unfold Env.agg; rw [u44]
theorem load44 {G : Nat} {B : Tr Blk} {b off : Nat} : loadO (En G) 44 B (some (.pointer (some ⟨b, off, none⟩))) = loadv B b off := loadO_one agg44
noncomputable def inf44 : TypeInfo := (Tryz.prog.info? 44).getD default
theorem i44 {G : Nat} : (En G).i 44 = some inf44 := En_i.trans <| (envOf_i (by decide)).trans (by kernel_rfl)
theorem size44 : inf44.size = 1 := by kernel_rfl
theorem bytes44 : inf44.bytes = 16 := by kernel_rfl
theorem zero44 : inf44.zero = some (.string .empty) := by kernel_rfl
noncomputable def inf46 : TypeInfo := (Tryz.prog.info? 46).getD default
theorem i46 {G : Nat} : (En G).i 46 = some inf46 := En_i.trans <| (envOf_i (by decide)).trans (by kernel_rfl)
theorem size46 : inf46.size = 3 := by kernel_rfl
theorem bytes46 : inf46.bytes = 72 := by kernel_rfl
noncomputable def inf47 : TypeInfo := (Tryz.prog.info? 47).getD default
theorem i47 {G : Nat} : (En G).i 47 = some inf47 := En_i.trans <| (envOf_i (by decide)).trans (by kernel_rfl)
theorem size47 : inf47.size = 3 := by kernel_rfl
theorem bytes47 : inf47.bytes = 72 := by kernel_rfl
theorem u50 {G : Nat} : (En G).u 50 = some (.slice 62) := En_u.trans <| (envOf_u (by decide)).trans Tryz.underlying50
theorem agg50 {G : Nat} : (En G).agg 50 = some false := by unfold Env.agg; rw [u50]
theorem load50 {G : Nat} {B : Tr Blk} {b off : Nat} : loadO (En G) 50 B (some (.pointer (some ⟨b, off, none⟩))) = loadv B b off := loadO_one agg50
noncomputable def inf50 : TypeInfo := (Tryz.prog.info? 50).getD default
theorem i50 {G : Nat} : (En G).i 50 = some inf50 := En_i.trans <| (envOf_i (by decide)).trans (by kernel_rfl)
theorem size50 : inf50.size = 1 := by kernel_rfl
theorem bytes50 : inf50.bytes = 24 := by kernel_rfl
theorem zero50 : inf50.zero = some (.slice none 0 0) := by kernel_rfl
theorem len50 {G n c : Nat} {A : Option Addr} : lenO (En G) 50 (some (.slice A n c)) = some (.int .i64 n) := lenO_slice u50
theorem u57 {G : Nat} : (En G).u 57 = some (.slice 4) := En_u.trans <| (envOf_u (by decide)).trans Tryz.underlying57
theorem agg57 {G : Nat} : (En G).agg 57 = some false := by unfold Env.agg; rw [u57]
theorem load57 {G : Nat} {B : Tr Blk} {b off : Nat} : loadO (En G) 57 B (some (.pointer (some ⟨b, off, none⟩))) = loadv B b off := loadO_one agg57
noncomputable def inf57 : TypeInfo := (Tryz.prog.info? 57).getD default
theorem i57 {G : Nat} : (En G).i 57 = some inf57 := En_i.trans <| (envOf_i (by decide)).trans (by kernel_rfl)
theorem size57 : inf57.size = 1 := by kernel_rfl
theorem bytes57 : inf57.bytes = 24 := by kernel_rfl
theorem zero57 : inf57.zero = some (.slice none 0 0) := by kernel_rfl
theorem len57 {G n c : Nat} {A : Option Addr} : lenO (En G) 57 (some (.slice A n c)) = some (.int .i64 n) := lenO_slice u57
theorem u59 {G : Nat} : (En G).u 59 = some (.slice 94) := En_u.trans <| (envOf_u (by decide)).trans Tryz.underlying59
theorem agg59 {G : Nat} : (En G).agg 59 = some false := by unfold Env.agg; rw [u59]
theorem load59 {G : Nat} {B : Tr Blk} {b off : Nat} : loadO (En G) 59 B (some (.pointer (some ⟨b, off, none⟩))) = loadv B b off := loadO_one agg59
noncomputable def inf59 : TypeInfo := (Tryz.prog.info? 59).getD default
theorem i59 {G : Nat} : (En G).i 59 = some inf59 := En_i.trans <| (envOf_i (by decide)).trans (by kernel_rfl)
theorem size59 : inf59.size = 1 := by kernel_rfl
theorem bytes59 : inf59.bytes = 24 := by kernel_rfl
theorem zero59 : inf59.zero = some (.slice none 0 0) := by kernel_rfl
theorem len59 {G n c : Nat} {A : Option Addr} : lenO (En G) 59 (some (.slice A n c)) = some (.int .i64 n) := lenO_slice u59
theorem u60 {G : Nat} : (En G).u 60 = some (.slice 94) := En_u.trans <| (envOf_u (by decide)).trans Tryz.underlying60
theorem agg60 {G : Nat} : (En G).agg 60 = some false := by unfold Env.agg; rw [u60]
theorem load60 {G : Nat} {B : Tr Blk} {b off : Nat} : loadO (En G) 60 B (some (.pointer (some ⟨b, off, none⟩))) = loadv B b off := loadO_one agg60
noncomputable def inf60 : TypeInfo := (Tryz.prog.info? 60).getD default
theorem i60 {G : Nat} : (En G).i 60 = some inf60 := En_i.trans <| (envOf_i (by decide)).trans (by kernel_rfl)
theorem size60 : inf60.size = 1 := by kernel_rfl
theorem bytes60 : inf60.bytes = 24 := by kernel_rfl
theorem zero60 : inf60.zero = some (.slice none 0 0) := by kernel_rfl
theorem len60 {G n c : Nat} {A : Option Addr} : lenO (En G) 60 (some (.slice A n c)) = some (.int .i64 n) := lenO_slice u60
noncomputable def inf61 : TypeInfo := (Tryz.prog.info? 61).getD default
theorem i61 {G : Nat} : (En G).i 61 = some inf61 := En_i.trans <| (envOf_i (by decide)).trans (by kernel_rfl)
theorem size61 : inf61.size = 3 := by kernel_rfl
theorem bytes61 : inf61.bytes = 56 := by kernel_rfl
noncomputable def inf62 : TypeInfo := (Tryz.prog.info? 62).getD default
theorem i62 {G : Nat} : (En G).i 62 = some inf62 := En_i.trans <| (envOf_i (by decide)).trans (by kernel_rfl)
theorem size62 : inf62.size = 3 := by kernel_rfl
theorem bytes62 : inf62.bytes = 56 := by kernel_rfl
theorem u75 {G : Nat} : (En G).u 75 = some (.slice 50) := En_u.trans <| (envOf_u (by decide)).trans Tryz.underlying75
theorem agg75 {G : Nat} : (En G).agg 75 = some false := by unfold Env.agg; rw [u75]
theorem load75 {G : Nat} {B : Tr Blk} {b off : Nat} : loadO (En G) 75 B (some (.pointer (some ⟨b, off, none⟩))) = loadv B b off := loadO_one agg75
noncomputable def inf75 : TypeInfo := (Tryz.prog.info? 75).getD default
theorem i75 {G : Nat} : (En G).i 75 = some inf75 := En_i.trans <| (envOf_i (by decide)).trans (by kernel_rfl)
theorem size75 : inf75.size = 1 := by kernel_rfl
theorem bytes75 : inf75.bytes = 24 := by kernel_rfl
theorem zero75 : inf75.zero = some (.slice none 0 0) := by kernel_rfl
theorem len75 {G n c : Nat} {A : Option Addr} : lenO (En G) 75 (some (.slice A n c)) = some (.int .i64 n) := lenO_slice u75
theorem u80 {G : Nat} : (En G).u 80 = some (.int .u64) := En_u.trans <| (envOf_u (by decide)).trans Tryz.underlying80
theorem agg80 {G : Nat} : (En G).agg 80 = some false := by unfold Env.agg; rw [u80]
theorem load80 {G : Nat} {B : Tr Blk} {b off : Nat} : loadO (En G) 80 B (some (.pointer (some ⟨b, off, none⟩))) = loadv B b off := loadO_one agg80
noncomputable def inf80 : TypeInfo := (Tryz.prog.info? 80).getD default
theorem i80 {G : Nat} : (En G).i 80 = some inf80 := En_i.trans <| (envOf_i (by decide)).trans (by kernel_rfl)
theorem size80 : inf80.size = 1 := by kernel_rfl
theorem bytes80 : inf80.bytes = 8 := by kernel_rfl
theorem zero80 : inf80.zero = some (.int .u64 0) := by kernel_rfl
theorem u85 {G : Nat} : (En G).u 85 = some (.int .u64) := En_u.trans <| (envOf_u (by decide)).trans Tryz.underlying85
theorem agg85 {G : Nat} : (En G).agg 85 = some false := by unfold Env.agg; rw [u85]
theorem load85 {G : Nat} {B : Tr Blk} {b off : Nat} : loadO (En G) 85 B (some (.pointer (some ⟨b, off, none⟩))) = loadv B b off := loadO_one agg85
noncomputable def inf85 : TypeInfo := (Tryz.prog.info? 85).getD default
theorem i85 {G : Nat} : (En G).i 85 = some inf85 := En_i.trans <| (envOf_i (by decide)).trans (by kernel_rfl)
theorem size85 : inf85.size = 1 := by kernel_rfl
theorem bytes85 : inf85.bytes = 8 := by kernel_rfl
theorem zero85 : inf85.zero = some (.int .u64 0) := by kernel_rfl
theorem u94 {G : Nat} : (En G).u 94 = some (.int .u32) := En_u.trans <| (envOf_u (by decide)).trans Tryz.underlying94
theorem agg94 {G : Nat} : (En G).agg 94 = some false := by unfold Env.agg; rw [u94]
theorem load94 {G : Nat} {B : Tr Blk} {b off : Nat} : loadO (En G) 94 B (some (.pointer (some ⟨b, off, none⟩))) = loadv B b off := loadO_one agg94
noncomputable def inf94 : TypeInfo := (Tryz.prog.info? 94).getD default
theorem i94 {G : Nat} : (En G).i 94 = some inf94 := En_i.trans <| (envOf_i (by decide)).trans (by kernel_rfl)
theorem size94 : inf94.size = 1 := by kernel_rfl
theorem bytes94 : inf94.bytes = 4 := by kernel_rfl
theorem zero94 : inf94.zero = some (.int .u32 0) := by kernel_rfl
theorem u95 {G : Nat} : (En G).u 95 = some (.slice 9) := En_u.trans <| (envOf_u (by decide)).trans Tryz.underlying95
theorem agg95 {G : Nat} : (En G).agg 95 = some false := by unfold Env.agg; rw [u95]
theorem load95 {G : Nat} {B : Tr Blk} {b off : Nat} : loadO (En G) 95 B (some (.pointer (some ⟨b, off, none⟩))) = loadv B b off := loadO_one agg95
noncomputable def inf95 : TypeInfo := (Tryz.prog.info? 95).getD default
theorem i95 {G : Nat} : (En G).i 95 = some inf95 := En_i.trans <| (envOf_i (by decide)).trans (by kernel_rfl)
theorem size95 : inf95.size = 1 := by kernel_rfl
theorem bytes95 : inf95.bytes = 24 := by kernel_rfl
theorem zero95 : inf95.zero = some (.slice none 0 0) := by kernel_rfl
theorem len95 {G n c : Nat} {A : Option Addr} : lenO (En G) 95 (some (.slice A n c)) = some (.int .i64 n) := lenO_slice u95
theorem u114 {G : Nat} : (En G).u 114 = some (.pointer 117) := En_u.trans <| (envOf_u (by decide)).trans Tryz.underlying114
theorem agg114 {G : Nat} : (En G).agg 114 = some false := by unfold Env.agg; rw [u114]
theorem load114 {G : Nat} {B : Tr Blk} {b off : Nat} : loadO (En G) 114 B (some (.pointer (some ⟨b, off, none⟩))) = loadv B b off := loadO_one agg114
noncomputable def inf114 : TypeInfo := (Tryz.prog.info? 114).getD default
theorem i114 {G : Nat} : (En G).i 114 = some inf114 := En_i.trans <| (envOf_i (by decide)).trans (by kernel_rfl)
theorem size114 : inf114.size = 1 := by kernel_rfl
theorem bytes114 : inf114.bytes = 8 := by kernel_rfl
theorem zero114 : inf114.zero = some (.pointer none) := by kernel_rfl
theorem u115 {G : Nat} : (En G).u 115 = some (.slice 5) := En_u.trans <| (envOf_u (by decide)).trans Tryz.underlying115
theorem agg115 {G : Nat} : (En G).agg 115 = some false := by unfold Env.agg; rw [u115]
theorem load115 {G : Nat} {B : Tr Blk} {b off : Nat} : loadO (En G) 115 B (some (.pointer (some ⟨b, off, none⟩))) = loadv B b off := loadO_one agg115
noncomputable def inf115 : TypeInfo := (Tryz.prog.info? 115).getD default
theorem i115 {G : Nat} : (En G).i 115 = some inf115 := En_i.trans <| (envOf_i (by decide)).trans (by kernel_rfl)
theorem size115 : inf115.size = 1 := by kernel_rfl
theorem bytes115 : inf115.bytes = 24 := by kernel_rfl
theorem zero115 : inf115.zero = some (.slice none 0 0) := by kernel_rfl
theorem len115 {G n c : Nat} {A : Option Addr} : lenO (En G) 115 (some (.slice A n c)) = some (.int .i64 n) := lenO_slice u115
noncomputable def inf116 : TypeInfo := (Tryz.prog.info? 116).getD default
theorem i116 {G : Nat} : (En G).i 116 = some inf116 := En_i.trans <| (envOf_i (by decide)).trans (by kernel_rfl)
theorem size116 : inf116.size = 2 := by kernel_rfl
theorem bytes116 : inf116.bytes = 32 := by kernel_rfl
noncomputable def inf117 : TypeInfo := (Tryz.prog.info? 117).getD default
theorem i117 {G : Nat} : (En G).i 117 = some inf117 := En_i.trans <| (envOf_i (by decide)).trans (by kernel_rfl)
theorem size117 : inf117.size = 2 := by kernel_rfl
theorem bytes117 : inf117.bytes = 32 := by kernel_rfl
theorem u134 {G : Nat} : (En G).u 134 = some (.pointer 5) := En_u.trans <| (envOf_u (by decide)).trans Tryz.underlying134
theorem agg134 {G : Nat} : (En G).agg 134 = some false := by unfold Env.agg; rw [u134]
theorem load134 {G : Nat} {B : Tr Blk} {b off : Nat} : loadO (En G) 134 B (some (.pointer (some ⟨b, off, none⟩))) = loadv B b off := loadO_one agg134
noncomputable def inf134 : TypeInfo := (Tryz.prog.info? 134).getD default
theorem i134 {G : Nat} : (En G).i 134 = some inf134 := En_i.trans <| (envOf_i (by decide)).trans (by kernel_rfl)
theorem size134 : inf134.size = 1 := by kernel_rfl
theorem bytes134 : inf134.bytes = 8 := by kernel_rfl
theorem zero134 : inf134.zero = some (.pointer none) := by kernel_rfl
noncomputable def inf148 : TypeInfo := (Tryz.prog.info? 148).getD default
theorem i148 {G : Nat} : (En G).i 148 = some inf148 := En_i.trans <| (envOf_i (by decide)).trans (by kernel_rfl)
theorem size148 : inf148.size = 4 := by kernel_rfl
theorem bytes148 : inf148.bytes = 40 := by kernel_rfl
noncomputable def inf149 : TypeInfo := (Tryz.prog.info? 149).getD default
theorem i149 {G : Nat} : (En G).i 149 = some inf149 := En_i.trans <| (envOf_i (by decide)).trans (by kernel_rfl)
theorem size149 : inf149.size = 4 := by kernel_rfl
theorem bytes149 : inf149.bytes = 40 := by kernel_rfl
noncomputable def inf151 : TypeInfo := (Tryz.prog.info? 151).getD default
theorem i151 {G : Nat} : (En G).i 151 = some inf151 := En_i.trans <| (envOf_i (by decide)).trans (by kernel_rfl)
theorem size151 : inf151.size = 0 := by kernel_rfl
theorem bytes151 : inf151.bytes = 0 := by kernel_rfl
noncomputable def inf152 : TypeInfo := (Tryz.prog.info? 152).getD default
theorem i152 {G : Nat} : (En G).i 152 = some inf152 := En_i.trans <| (envOf_i (by decide)).trans (by kernel_rfl)
theorem size152 : inf152.size = 0 := by kernel_rfl
theorem bytes152 : inf152.bytes = 0 := by kernel_rfl
theorem u153 {G : Nat} : (En G).u 153 = some (.int .u8) := En_u.trans <| (envOf_u (by decide)).trans Tryz.underlying153
theorem agg153 {G : Nat} : (En G).agg 153 = some false := by unfold Env.agg; rw [u153]
theorem load153 {G : Nat} {B : Tr Blk} {b off : Nat} : loadO (En G) 153 B (some (.pointer (some ⟨b, off, none⟩))) = loadv B b off := loadO_one agg153
noncomputable def inf153 : TypeInfo := (Tryz.prog.info? 153).getD default
theorem i153 {G : Nat} : (En G).i 153 = some inf153 := En_i.trans <| (envOf_i (by decide)).trans (by kernel_rfl)
theorem size153 : inf153.size = 1 := by kernel_rfl
theorem bytes153 : inf153.bytes = 1 := by kernel_rfl
theorem zero153 : inf153.zero = some (.int .u8 0) := by kernel_rfl
theorem u154 {G : Nat} : (En G).u 154 = some (.int .u8) := En_u.trans <| (envOf_u (by decide)).trans Tryz.underlying154
theorem agg154 {G : Nat} : (En G).agg 154 = some false := by unfold Env.agg; rw [u154]
theorem load154 {G : Nat} {B : Tr Blk} {b off : Nat} : loadO (En G) 154 B (some (.pointer (some ⟨b, off, none⟩))) = loadv B b off := loadO_one agg154
noncomputable def inf154 : TypeInfo := (Tryz.prog.info? 154).getD default
theorem i154 {G : Nat} : (En G).i 154 = some inf154 := En_i.trans <| (envOf_i (by decide)).trans (by kernel_rfl)
theorem size154 : inf154.size = 1 := by kernel_rfl
theorem bytes154 : inf154.bytes = 1 := by kernel_rfl
theorem zero154 : inf154.zero = some (.int .u8 0) := by kernel_rfl
theorem u156 {G : Nat} : (En G).u 156 = some (.int .i32) := En_u.trans <| (envOf_u (by decide)).trans Tryz.underlying156
theorem agg156 {G : Nat} : (En G).agg 156 = some false := by unfold Env.agg; rw [u156]
theorem load156 {G : Nat} {B : Tr Blk} {b off : Nat} : loadO (En G) 156 B (some (.pointer (some ⟨b, off, none⟩))) = loadv B b off := loadO_one agg156
noncomputable def inf156 : TypeInfo := (Tryz.prog.info? 156).getD default
theorem i156 {G : Nat} : (En G).i 156 = some inf156 := En_i.trans <| (envOf_i (by decide)).trans (by kernel_rfl)
theorem size156 : inf156.size = 1 := by kernel_rfl
theorem bytes156 : inf156.bytes = 4 := by kernel_rfl
theorem zero156 : inf156.zero = some (.int .i32 0) := by kernel_rfl
theorem u157 {G : Nat} : (En G).u 157 = some (.int .i32) := En_u.trans <| (envOf_u (by decide)).trans Tryz.underlying157
theorem agg157 {G : Nat} : (En G).agg 157 = some false := by unfold Env.agg; rw [u157]
theorem load157 {G : Nat} {B : Tr Blk} {b off : Nat} : loadO (En G) 157 B (some (.pointer (some ⟨b, off, none⟩))) = loadv B b off := loadO_one agg157
noncomputable def inf157 : TypeInfo := (Tryz.prog.info? 157).getD default
theorem i157 {G : Nat} : (En G).i 157 = some inf157 := En_i.trans <| (envOf_i (by decide)).trans (by kernel_rfl)
theorem size157 : inf157.size = 1 := by kernel_rfl
theorem bytes157 : inf157.bytes = 4 := by kernel_rfl
theorem zero157 : inf157.zero = some (.int .i32 0) := by kernel_rfl
noncomputable def inf158 : TypeInfo := (Tryz.prog.info? 158).getD default
theorem i158 {G : Nat} : (En G).i 158 = some inf158 := En_i.trans <| (envOf_i (by decide)).trans (by kernel_rfl)
theorem size158 : inf158.size = 11 := by kernel_rfl
theorem bytes158 : inf158.bytes = 48 := by kernel_rfl
noncomputable def inf159 : TypeInfo := (Tryz.prog.info? 159).getD default
theorem i159 {G : Nat} : (En G).i 159 = some inf159 := En_i.trans <| (envOf_i (by decide)).trans (by kernel_rfl)
theorem size159 : inf159.size = 11 := by kernel_rfl
theorem bytes159 : inf159.bytes = 48 := by kernel_rfl
theorem us7 {G : Nat} : (En G).u 7 = Tryz.prog.underlying 7 := En_u.trans <| envOf_u (by decide)
theorem agg7 {G : Nat} : (En G).agg 7 = some true := by unfold Env.agg; rw [us7, Tryz.underlying7]
theorem us8 {G : Nat} : (En G).u 8 = Tryz.prog.underlying 8 := En_u.trans <| envOf_u (by decide)
theorem agg8 {G : Nat} : (En G).agg 8 = some true := by unfold Env.agg; rw [us8, Tryz.underlying8]
theorem us13 {G : Nat} : (En G).u 13 = Tryz.prog.underlying 13 := En_u.trans <| envOf_u (by decide)
theorem agg13 {G : Nat} : (En G).agg 13 = some true := by unfold Env.agg; rw [us13, Tryz.underlying13]
theorem us14 {G : Nat} : (En G).u 14 = Tryz.prog.underlying 14 := En_u.trans <| envOf_u (by decide)
theorem agg14 {G : Nat} : (En G).agg 14 = some true := by unfold Env.agg; rw [us14, Tryz.underlying14]
theorem us18 {G : Nat} : (En G).u 18 = Tryz.prog.underlying 18 := En_u.trans <| envOf_u (by decide)
theorem agg18 {G : Nat} : (En G).agg 18 = some true := by unfold Env.agg; rw [us18, Tryz.underlying18]
theorem us19 {G : Nat} : (En G).u 19 = Tryz.prog.underlying 19 := En_u.trans <| envOf_u (by decide)
theorem agg19 {G : Nat} : (En G).agg 19 = some true := by unfold Env.agg; rw [us19, Tryz.underlying19]
theorem us46 {G : Nat} : (En G).u 46 = Tryz.prog.underlying 46 := En_u.trans <| envOf_u (by decide)
theorem agg46 {G : Nat} : (En G).agg 46 = some true := by unfold Env.agg; rw [us46, Tryz.underlying46]
theorem us47 {G : Nat} : (En G).u 47 = Tryz.prog.underlying 47 := En_u.trans <| envOf_u (by decide)
theorem agg47 {G : Nat} : (En G).agg 47 = some true := by unfold Env.agg; rw [us47, Tryz.underlying47]
theorem us61 {G : Nat} : (En G).u 61 = Tryz.prog.underlying 61 := En_u.trans <| envOf_u (by decide)
theorem agg61 {G : Nat} : (En G).agg 61 = some true := by unfold Env.agg; rw [us61, Tryz.underlying61]
theorem us62 {G : Nat} : (En G).u 62 = Tryz.prog.underlying 62 := En_u.trans <| envOf_u (by decide)
theorem agg62 {G : Nat} : (En G).agg 62 = some true := by unfold Env.agg; rw [us62, Tryz.underlying62]
theorem us116 {G : Nat} : (En G).u 116 = Tryz.prog.underlying 116 := En_u.trans <| envOf_u (by decide)
theorem agg116 {G : Nat} : (En G).agg 116 = some true := by unfold Env.agg; rw [us116, Tryz.underlying116]
theorem us117 {G : Nat} : (En G).u 117 = Tryz.prog.underlying 117 := En_u.trans <| envOf_u (by decide)
theorem agg117 {G : Nat} : (En G).agg 117 = some true := by unfold Env.agg; rw [us117, Tryz.underlying117]
theorem u124 {G : Nat} : (En G).u 124 = some (.array 32 5) := En_u.trans <| (envOf_u (by decide)).trans Tryz.underlying124
theorem agg124 {G : Nat} : (En G).agg 124 = some true := by unfold Env.agg; rw [u124]
noncomputable def inf124 : TypeInfo := (Tryz.prog.info? 124).getD default
theorem i124 {G : Nat} : (En G).i 124 = some inf124 := En_i.trans <| (envOf_i (by decide)).trans (by kernel_rfl)
theorem size124 : inf124.size = 32 := by kernel_rfl
theorem bytes124 : inf124.bytes = 32 := by kernel_rfl
theorem u125 {G : Nat} : (En G).u 125 = some (.array 64 5) := En_u.trans <| (envOf_u (by decide)).trans Tryz.underlying125
theorem agg125 {G : Nat} : (En G).agg 125 = some true := by unfold Env.agg; rw [u125]
noncomputable def inf125 : TypeInfo := (Tryz.prog.info? 125).getD default
theorem i125 {G : Nat} : (En G).i 125 = some inf125 := En_i.trans <| (envOf_i (by decide)).trans (by kernel_rfl)
theorem size125 : inf125.size = 64 := by kernel_rfl
theorem bytes125 : inf125.bytes = 64 := by kernel_rfl
theorem u137 {G : Nat} : (En G).u 137 = some (.array 24 5) := En_u.trans <| (envOf_u (by decide)).trans Tryz.underlying137
theorem agg137 {G : Nat} : (En G).agg 137 = some true := by unfold Env.agg; rw [u137]
noncomputable def inf137 : TypeInfo := (Tryz.prog.info? 137).getD default
theorem i137 {G : Nat} : (En G).i 137 = some inf137 := En_i.trans <| (envOf_i (by decide)).trans (by kernel_rfl)
theorem size137 : inf137.size = 24 := by kernel_rfl
theorem bytes137 : inf137.bytes = 24 := by kernel_rfl
theorem u146 {G : Nat} : (En G).u 146 = some (.array 20 80) := En_u.trans <| (envOf_u (by decide)).trans Tryz.underlying146
theorem agg146 {G : Nat} : (En G).agg 146 = some true := by unfold Env.agg; rw [u146]
noncomputable def inf146 : TypeInfo := (Tryz.prog.info? 146).getD default
theorem i146 {G : Nat} : (En G).i 146 = some inf146 := En_i.trans <| (envOf_i (by decide)).trans (by kernel_rfl)
theorem size146 : inf146.size = 20 := by kernel_rfl
theorem bytes146 : inf146.bytes = 160 := by kernel_rfl
theorem u147 {G : Nat} : (En G).u 147 = some (.array 65 5) := En_u.trans <| (envOf_u (by decide)).trans Tryz.underlying147
theorem agg147 {G : Nat} : (En G).agg 147 = some true := by unfold Env.agg; rw [u147]
noncomputable def inf147 : TypeInfo := (Tryz.prog.info? 147).getD default
theorem i147 {G : Nat} : (En G).i 147 = some inf147 := En_i.trans <| (envOf_i (by decide)).trans (by kernel_rfl)
theorem size147 : inf147.size = 65 := by kernel_rfl
theorem bytes147 : inf147.bytes = 65 := by kernel_rfl
theorem us148 {G : Nat} : (En G).u 148 = Tryz.prog.underlying 148 := En_u.trans <| envOf_u (by decide)
theorem agg148 {G : Nat} : (En G).agg 148 = some true := by unfold Env.agg; rw [us148, Tryz.underlying148]
theorem us149 {G : Nat} : (En G).u 149 = Tryz.prog.underlying 149 := En_u.trans <| envOf_u (by decide)
theorem agg149 {G : Nat} : (En G).agg 149 = some true := by unfold Env.agg; rw [us149, Tryz.underlying149]
theorem u150 {G : Nat} : (En G).u 150 = some (.array 0 16) := En_u.trans <| (envOf_u (by decide)).trans Tryz.underlying150
theorem agg150 {G : Nat} : (En G).agg 150 = some true := by unfold Env.agg; rw [u150]
noncomputable def inf150 : TypeInfo := (Tryz.prog.info? 150).getD default
theorem i150 {G : Nat} : (En G).i 150 = some inf150 := En_i.trans <| (envOf_i (by decide)).trans (by kernel_rfl)
theorem size150 : inf150.size = 0 := by kernel_rfl
theorem bytes150 : inf150.bytes = 0 := by kernel_rfl
theorem us151 {G : Nat} : (En G).u 151 = Tryz.prog.underlying 151 := En_u.trans <| envOf_u (by decide)
theorem agg151 {G : Nat} : (En G).agg 151 = some true := by unfold Env.agg; rw [us151, Tryz.underlying151]
theorem us152 {G : Nat} : (En G).u 152 = Tryz.prog.underlying 152 := En_u.trans <| envOf_u (by decide)
theorem agg152 {G : Nat} : (En G).agg 152 = some true := by unfold Env.agg; rw [us152, Tryz.underlying152]
theorem us158 {G : Nat} : (En G).u 158 = Tryz.prog.underlying 158 := En_u.trans <| envOf_u (by decide)
theorem agg158 {G : Nat} : (En G).agg 158 = some true := by unfold Env.agg; rw [us158, Tryz.underlying158]
theorem us159 {G : Nat} : (En G).u 159 = Tryz.prog.underlying 159 := En_u.trans <| envOf_u (by decide)
theorem agg159 {G : Nat} : (En G).agg 159 = some true := by unfold Env.agg; rw [us159, Tryz.underlying159]
theorem idxA22 {G b off n c : Nat} {kd : IntKind} {z : Int} (h0 : 0 ≤ z) (h1 : z < n) : idxAddrO (En G) 22 (some (.slice (some ⟨b, off, none⟩) n c)) (some (.int kd z)) = some (.pointer (some ⟨b, off + z.toNat * 1, none⟩)) := by
  rw [idxAddrO_slice u22 i23 h0 h1, size23]
theorem idxA23 {G b off n c : Nat} {kd : IntKind} {z : Int} (h0 : 0 ≤ z) (h1 : z < n) : idxAddrO (En G) 23 (some (.slice (some ⟨b, off, none⟩) n c)) (some (.int kd z)) = some (.pointer (some ⟨b, off + z.toNat * 1, none⟩)) := by
  rw [idxAddrO_slice u23 i3 h0 h1, size3]
theorem idxA35 {G b off n c : Nat} {kd : IntKind} {z : Int} (h0 : 0 ≤ z) (h1 : z < n) : idxAddrO (En G) 35 (some (.slice (some ⟨b, off, none⟩) n c)) (some (.int kd z)) = some (.pointer (some ⟨b, off + z.toNat * 1, none⟩)) := by
  rw [idxAddrO_slice u35 i44 h0 h1, size44]
theorem idxA50 {G b off n c : Nat} {kd : IntKind} {z : Int} (h0 : 0 ≤ z) (h1 : z < n) : idxAddrO (En G) 50 (some (.slice (some ⟨b, off, none⟩) n c)) (some (.int kd z)) = some (.pointer (some ⟨b, off + z.toNat * 3, none⟩)) := by
  rw [idxAddrO_slice u50 i62 h0 h1, size62]
theorem idxA57 {G b off n c : Nat} {kd : IntKind} {z : Int} (h0 : 0 ≤ z) (h1 : z < n) : idxAddrO (En G) 57 (some (.slice (some ⟨b, off, none⟩) n c)) (some (.int kd z)) = some (.pointer (some ⟨b, off + z.toNat * 1, none⟩)) := by
  rw [idxAddrO_slice u57 i4 h0 h1, size4]
theorem idxA59 {G b off n c : Nat} {kd : IntKind} {z : Int} (h0 : 0 ≤ z) (h1 : z < n) : idxAddrO (En G) 59 (some (.slice (some ⟨b, off, none⟩) n c)) (some (.int kd z)) = some (.pointer (some ⟨b, off + z.toNat * 1, none⟩)) := by
  rw [idxAddrO_slice u59 i94 h0 h1, size94]
theorem idxA60 {G b off n c : Nat} {kd : IntKind} {z : Int} (h0 : 0 ≤ z) (h1 : z < n) : idxAddrO (En G) 60 (some (.slice (some ⟨b, off, none⟩) n c)) (some (.int kd z)) = some (.pointer (some ⟨b, off + z.toNat * 1, none⟩)) := by
  rw [idxAddrO_slice u60 i94 h0 h1, size94]
theorem idxA75 {G b off n c : Nat} {kd : IntKind} {z : Int} (h0 : 0 ≤ z) (h1 : z < n) : idxAddrO (En G) 75 (some (.slice (some ⟨b, off, none⟩) n c)) (some (.int kd z)) = some (.pointer (some ⟨b, off + z.toNat * 1, none⟩)) := by
  rw [idxAddrO_slice u75 i50 h0 h1, size50]
theorem idxA95 {G b off n c : Nat} {kd : IntKind} {z : Int} (h0 : 0 ≤ z) (h1 : z < n) : idxAddrO (En G) 95 (some (.slice (some ⟨b, off, none⟩) n c)) (some (.int kd z)) = some (.pointer (some ⟨b, off + z.toNat * 1, none⟩)) := by
  rw [idxAddrO_slice u95 i9 h0 h1, size9]
theorem idxA115 {G b off n c : Nat} {kd : IntKind} {z : Int} (h0 : 0 ≤ z) (h1 : z < n) : idxAddrO (En G) 115 (some (.slice (some ⟨b, off, none⟩) n c)) (some (.int kd z)) = some (.pointer (some ⟨b, off + z.toNat * 1, none⟩)) := by
  rw [idxAddrO_slice u115 i5 h0 h1, size5]
theorem fld7_0 {G b off : Nat} : fieldAddrO (En G) 7 0 (some (.pointer (some ⟨b, off, none⟩))) = some (.pointer (some ⟨b, off + 0, none⟩)) := by
  simp only [fieldAddrO, evFieldAddr, us7, Tryz.underlying7, List.getElem?_toArray, List.getElem?_cons_zero, List.getElem?_cons_succ, i2, size2, forceN_eq]
  rfl
theorem fld7_1 {G b off : Nat} : fieldAddrO (En G) 7 1 (some (.pointer (some ⟨b, off, none⟩))) = some (.pointer (some ⟨b, off + 1, none⟩)) := by
  simp only [fieldAddrO, evFieldAddr, us7, Tryz.underlying7, List.getElem?_toArray, List.getElem?_cons_zero, List.getElem?_cons_succ, i3, size3, forceN_eq]
  rfl
theorem fld7_2 {G b off : Nat} : fieldAddrO (En G) 7 2 (some (.pointer (some ⟨b, off, none⟩))) = some (.pointer (some ⟨b, off + 2, none⟩)) := by
  simp only [fieldAddrO, evFieldAddr, us7, Tryz.underlying7, List.getElem?_toArray, List.getElem?_cons_zero, List.getElem?_cons_succ, i4, size4, forceN_eq]
  rfl
theorem fld7_3 {G b off : Nat} : fieldAddrO (En G) 7 3 (some (.pointer (some ⟨b, off, none⟩))) = some (.pointer (some ⟨b, off + 3, none⟩)) := by
  simp only [fieldAddrO, evFieldAddr, us7, Tryz.underlying7, List.getElem?_toArray, List.getElem?_cons_zero, List.getElem?_cons_succ, i6, size6, forceN_eq]
  rfl
theorem fld8_0 {G b off : Nat} : fieldAddrO (En G) 8 0 (some (.pointer (some ⟨b, off, none⟩))) = some (.pointer (some ⟨b, off + 0, none⟩)) := by
  simp only [fieldAddrO, evFieldAddr, us8, Tryz.underlying8, List.getElem?_toArray, List.getElem?_cons_zero, List.getElem?_cons_succ, i2, size2, forceN_eq]
  rfl
theorem fld8_1 {G b off : Nat} : fieldAddrO (En G) 8 1 (some (.pointer (some ⟨b, off, none⟩))) = some (.pointer (some ⟨b, off + 1, none⟩)) := by
  simp only [fieldAddrO, evFieldAddr, us8, Tryz.underlying8, List.getElem?_toArray, List.getElem?_cons_zero, List.getElem?_cons_succ, i3, size3, forceN_eq]
  rfl
theorem fld8_2 {G b off : Nat} : fieldAddrO (En G) 8 2 (some (.pointer (some ⟨b, off, none⟩))) = some (.pointer (some ⟨b, off + 2, none⟩)) := by
  simp only [fieldAddrO, evFieldAddr, us8, Tryz.underlying8, List.getElem?_toArray, List.getElem?_cons_zero, List.getElem?_cons_succ, i4, size4, forceN_eq]
  rfl
theorem fld8_3 {G b off : Nat} : fieldAddrO (En G) 8 3 (some (.pointer (some ⟨b, off, none⟩))) = some (.pointer (some ⟨b, off + 3, none⟩)) := by
  simp only [fieldAddrO, evFieldAddr, us8, Tryz.underlying8, List.getElem?_toArray, List.getElem?_cons_zero, List.getElem?_cons_succ, i6, size6, forceN_eq]
  rfl
theorem fld13_0 {G b off : Nat} : fieldAddrO (En G) 13 0 (some (.pointer (some ⟨b, off, none⟩))) = some (.pointer (some ⟨b, off + 0, none⟩)) := by
  simp only [fieldAddrO, evFieldAddr, us13, Tryz.underlying13, List.getElem?_toArray, List.getElem?_cons_zero, List.getElem?_cons_succ, i9, size9, forceN_eq]
  rfl
theorem fld13_1 {G b off : Nat} : fieldAddrO (En G) 13 1 (some (.pointer (some ⟨b, off, none⟩))) = some (.pointer (some ⟨b, off + 1, none⟩)) := by
  simp only [fieldAddrO, evFieldAddr, us13, Tryz.underlying13, List.getElem?_toArray, List.getElem?_cons_zero, List.getElem?_cons_succ, i12, size12, forceN_eq]
  rfl
theorem fld14_0 {G b off : Nat} : fieldAddrO (En G) 14 0 (some (.pointer (some ⟨b, off, none⟩))) = some (.pointer (some ⟨b, off + 0, none⟩)) := by
  simp only [fieldAddrO, evFieldAddr, us14, Tryz.underlying14, List.getElem?_toArray, List.getElem?_cons_zero, List.getElem?_cons_succ, i9, size9, forceN_eq]
  rfl
theorem fld14_1 {G b off : Nat} : fieldAddrO (En G) 14 1 (some (.pointer (some ⟨b, off, none⟩))) = some (.pointer (some ⟨b, off + 1, none⟩)) := by
  simp only [fieldAddrO, evFieldAddr, us14, Tryz.underlying14, List.getElem?_toArray, List.getElem?_cons_zero, List.getElem?_cons_succ, i12, size12, forceN_eq]
  rfl
theorem fld18_0 {G b off : Nat} : fieldAddrO (En G) 18 0 (some (.pointer (some ⟨b, off, none⟩))) = some (.pointer (some ⟨b, off + 0, none⟩)) := by
  simp only [fieldAddrO, evFieldAddr, us18, Tryz.underlying18, List.getElem?_toArray, List.getElem?_cons_zero, List.getElem?_cons_succ, i17, size17, forceN_eq]
  rfl
theorem fld19_0 {G b off : Nat} : fieldAddrO (En G) 19 0 (some (.pointer (some ⟨b, off, none⟩))) = some (.pointer (some ⟨b, off + 0, none⟩)) := by
  simp only [fieldAddrO, evFieldAddr, us19, Tryz.underlying19, List.getElem?_toArray, List.getElem?_cons_zero, List.getElem?_cons_succ, i17, size17, forceN_eq]
  rfl
theorem fld46_0 {G b off : Nat} : fieldAddrO (En G) 46 0 (some (.pointer (some ⟨b, off, none⟩))) = some (.pointer (some ⟨b, off + 0, none⟩)) := by
  simp only [fieldAddrO, evFieldAddr, us46, Tryz.underlying46, List.getElem?_toArray, List.getElem?_cons_zero, List.getElem?_cons_succ, i23, size23, forceN_eq]
  rfl
theorem fld46_1 {G b off : Nat} : fieldAddrO (En G) 46 1 (some (.pointer (some ⟨b, off, none⟩))) = some (.pointer (some ⟨b, off + 1, none⟩)) := by
  simp only [fieldAddrO, evFieldAddr, us46, Tryz.underlying46, List.getElem?_toArray, List.getElem?_cons_zero, List.getElem?_cons_succ, i22, size22, forceN_eq]
  rfl
theorem fld46_2 {G b off : Nat} : fieldAddrO (En G) 46 2 (some (.pointer (some ⟨b, off, none⟩))) = some (.pointer (some ⟨b, off + 2, none⟩)) := by
  simp only [fieldAddrO, evFieldAddr, us46, Tryz.underlying46, List.getElem?_toArray, List.getElem?_cons_zero, List.getElem?_cons_succ, i23, size23, forceN_eq]
  rfl
theorem fld47_0 {G b off : Nat} : fieldAddrO (En G) 47 0 (some (.pointer (some ⟨b, off, none⟩))) = some (.pointer (some ⟨b, off + 0, none⟩)) := by
  simp only [fieldAddrO, evFieldAddr, us47, Tryz.underlying47, List.getElem?_toArray, List.getElem?_cons_zero, List.getElem?_cons_succ, i23, size23, forceN_eq]
  rfl
theorem fld47_1 {G b off : Nat} : fieldAddrO (En G) 47 1 (some (.pointer (some ⟨b, off, none⟩))) = some (.pointer (some ⟨b, off + 1, none⟩)) := by
  simp only [fieldAddrO, evFieldAddr, us47, Tryz.underlying47, List.getElem?_toArray, List.getElem?_cons_zero, List.getElem?_cons_succ, i22, size22, forceN_eq]
  rfl
theorem fld47_2 {G b off : Nat} : fieldAddrO (En G) 47 2 (some (.pointer (some ⟨b, off, none⟩))) = some (.pointer (some ⟨b, off + 2, none⟩)) := by
  simp only [fieldAddrO, evFieldAddr, us47, Tryz.underlying47, List.getElem?_toArray, List.getElem?_cons_zero, List.getElem?_cons_succ, i23, size23, forceN_eq]
  rfl
theorem fld61_0 {G b off : Nat} : fieldAddrO (En G) 61 0 (some (.pointer (some ⟨b, off, none⟩))) = some (.pointer (some ⟨b, off + 0, none⟩)) := by
  simp only [fieldAddrO, evFieldAddr, us61, Tryz.underlying61, List.getElem?_toArray, List.getElem?_cons_zero, List.getElem?_cons_succ, i4, size4, forceN_eq]
  rfl
theorem fld61_1 {G b off : Nat} : fieldAddrO (En G) 61 1 (some (.pointer (some ⟨b, off, none⟩))) = some (.pointer (some ⟨b, off + 1, none⟩)) := by
  simp only [fieldAddrO, evFieldAddr, us61, Tryz.underlying61, List.getElem?_toArray, List.getElem?_cons_zero, List.getElem?_cons_succ, i60, size60, forceN_eq]
  rfl
theorem fld61_2 {G b off : Nat} : fieldAddrO (En G) 61 2 (some (.pointer (some ⟨b, off, none⟩))) = some (.pointer (some ⟨b, off + 2, none⟩)) := by
  simp only [fieldAddrO, evFieldAddr, us61, Tryz.underlying61, List.getElem?_toArray, List.getElem?_cons_zero, List.getElem?_cons_succ, i60, size60, forceN_eq]
  rfl
theorem fld62_0 {G b off : Nat} : fieldAddrO (En G) 62 0 (some (.pointer (some ⟨b, off, none⟩))) = some (.pointer (some ⟨b, off + 0, none⟩)) := by
  simp only [fieldAddrO, evFieldAddr, us62, Tryz.underlying62, List.getElem?_toArray, List.getElem?_cons_zero, List.getElem?_cons_succ, i4, size4, forceN_eq]
  rfl
theorem fld62_1 {G b off : Nat} : fieldAddrO (En G) 62 1 (some (.pointer (some ⟨b, off, none⟩))) = some (.pointer (some ⟨b, off + 1, none⟩)) := by
  simp only [fieldAddrO, evFieldAddr, us62, Tryz.underlying62, List.getElem?_toArray, List.getElem?_cons_zero, List.getElem?_cons_succ, i60, size60, forceN_eq]
  rfl
theorem fld62_2 {G b off : Nat} : fieldAddrO (En G) 62 2 (some (.pointer (some ⟨b, off, none⟩))) = some (.pointer (some ⟨b, off + 2, none⟩)) := by
  simp only [fieldAddrO, evFieldAddr, us62, Tryz.underlying62, List.getElem?_toArray, List.getElem?_cons_zero, List.getElem?_cons_succ, i60, size60, forceN_eq]
  rfl
theorem fld116_0 {G b off : Nat} : fieldAddrO (En G) 116 0 (some (.pointer (some ⟨b, off, none⟩))) = some (.pointer (some ⟨b, off + 0, none⟩)) := by
  simp only [fieldAddrO, evFieldAddr, us116, Tryz.underlying116, List.getElem?_toArray, List.getElem?_cons_zero, List.getElem?_cons_succ, i114, size114, forceN_eq]
  rfl
theorem fld116_1 {G b off : Nat} : fieldAddrO (En G) 116 1 (some (.pointer (some ⟨b, off, none⟩))) = some (.pointer (some ⟨b, off + 1, none⟩)) := by
  simp only [fieldAddrO, evFieldAddr, us116, Tryz.underlying116, List.getElem?_toArray, List.getElem?_cons_zero, List.getElem?_cons_succ, i115, size115, forceN_eq]
  rfl
theorem fld117_0 {G b off : Nat} : fieldAddrO (En G) 117 0 (some (.pointer (some ⟨b, off, none⟩))) = some (.pointer (some ⟨b, off + 0, none⟩)) := by
  simp only [fieldAddrO, evFieldAddr, us117, Tryz.underlying117, List.getElem?_toArray, List.getElem?_cons_zero, List.getElem?_cons_succ, i114, size114, forceN_eq]
  rfl
theorem fld117_1 {G b off : Nat} : fieldAddrO (En G) 117 1 (some (.pointer (some ⟨b, off, none⟩))) = some (.pointer (some ⟨b, off + 1, none⟩)) := by
  simp only [fieldAddrO, evFieldAddr, us117, Tryz.underlying117, List.getElem?_toArray, List.getElem?_cons_zero, List.getElem?_cons_succ, i115, size115, forceN_eq]
  rfl
theorem idxP124 {G b off : Nat} {kd : IntKind} {z : Int} (h0 : 0 ≤ z) (h1 : z < 32) : idxAddrO (En G) 124 (some (.pointer (some ⟨b, off, none⟩))) (some (.int kd z)) = some (.pointer (some ⟨b, off + z.toNat * 1, none⟩)) := by
  simp only [idxAddrO, evIndexAddr, u124, idx_ok (n := 32) h0 (by omega), i5, forceN_eq, size5]
theorem idxP125 {G b off : Nat} {kd : IntKind} {z : Int} (h0 : 0 ≤ z) (h1 : z < 64) : idxAddrO (En G) 125 (some (.pointer (some ⟨b, off, none⟩))) (some (.int kd z)) = some (.pointer (some ⟨b, off + z.toNat * 1, none⟩)) := by
  simp only [idxAddrO, evIndexAddr, u125, idx_ok (n := 64) h0 (by omega), i5, forceN_eq, size5]
theorem idxP137 {G b off : Nat} {kd : IntKind} {z : Int} (h0 : 0 ≤ z) (h1 : z < 24) : idxAddrO (En G) 137 (some (.pointer (some ⟨b, off, none⟩))) (some (.int kd z)) = some (.pointer (some ⟨b, off + z.toNat * 1, none⟩)) := by
  simp only [idxAddrO, evIndexAddr, u137, idx_ok (n := 24) h0 (by omega), i5, forceN_eq, size5]
theorem idxP146 {G b off : Nat} {kd : IntKind} {z : Int} (h0 : 0 ≤ z) (h1 : z < 20) : idxAddrO (En G) 146 (some (.pointer (some ⟨b, off, none⟩))) (some (.int kd z)) = some (.pointer (some ⟨b, off + z.toNat * 1, none⟩)) := by
  simp only [idxAddrO, evIndexAddr, u146, idx_ok (n := 20) h0 (by omega), i80, forceN_eq, size80]
theorem idxP147 {G b off : Nat} {kd : IntKind} {z : Int} (h0 : 0 ≤ z) (h1 : z < 65) : idxAddrO (En G) 147 (some (.pointer (some ⟨b, off, none⟩))) (some (.int kd z)) = some (.pointer (some ⟨b, off + z.toNat * 1, none⟩)) := by
  simp only [idxAddrO, evIndexAddr, u147, idx_ok (n := 65) h0 (by omega), i5, forceN_eq, size5]
theorem fld148_0 {G b off : Nat} : fieldAddrO (En G) 148 0 (some (.pointer (some ⟨b, off, none⟩))) = some (.pointer (some ⟨b, off + 0, none⟩)) := by
  simp only [fieldAddrO, evFieldAddr, us148, Tryz.underlying148, List.getElem?_toArray, List.getElem?_cons_zero, List.getElem?_cons_succ, i17, size17, forceN_eq]
  rfl
theorem fld148_1 {G b off : Nat} : fieldAddrO (En G) 148 1 (some (.pointer (some ⟨b, off, none⟩))) = some (.pointer (some ⟨b, off + 1, none⟩)) := by
  simp only [fieldAddrO, evFieldAddr, us148, Tryz.underlying148, List.getElem?_toArray, List.getElem?_cons_zero, List.getElem?_cons_succ, i17, size17, forceN_eq]
  rfl
theorem fld148_2 {G b off : Nat} : fieldAddrO (En G) 148 2 (some (.pointer (some ⟨b, off, none⟩))) = some (.pointer (some ⟨b, off + 2, none⟩)) := by
  simp only [fieldAddrO, evFieldAddr, us148, Tryz.underlying148, List.getElem?_toArray, List.getElem?_cons_zero, List.getElem?_cons_succ, i17, size17, forceN_eq]
  rfl
theorem fld148_3 {G b off : Nat} : fieldAddrO (En G) 148 3 (some (.pointer (some ⟨b, off, none⟩))) = some (.pointer (some ⟨b, off + 3, none⟩)) := by
  simp only [fieldAddrO, evFieldAddr, us148, Tryz.underlying148, List.getElem?_toArray, List.getElem?_cons_zero, List.getElem?_cons_succ, i9, size9, forceN_eq]
  rfl
theorem fld149_0 {G b off : Nat} : fieldAddrO (En G) 149 0 (some (.pointer (some ⟨b, off, none⟩))) = some (.pointer (some ⟨b, off + 0, none⟩)) := by
  simp only [fieldAddrO, evFieldAddr, us149, Tryz.underlying149, List.getElem?_toArray, List.getElem?_cons_zero, List.getElem?_cons_succ, i17, size17, forceN_eq]
  rfl
theorem fld149_1 {G b off : Nat} : fieldAddrO (En G) 149 1 (some (.pointer (some ⟨b, off, none⟩))) = some (.pointer (some ⟨b, off + 1, none⟩)) := by
  simp only [fieldAddrO, evFieldAddr, us149, Tryz.underlying149, List.getElem?_toArray, List.getElem?_cons_zero, List.getElem?_cons_succ, i17, size17, forceN_eq]
  rfl
theorem fld149_2 {G b off : Nat} : fieldAddrO (En G) 149 2 (some (.pointer (some ⟨b, off, none⟩))) = some (.pointer (some ⟨b, off + 2, none⟩)) := by
  simp only [fieldAddrO, evFieldAddr, us149, Tryz.underlying149, List.getElem?_toArray, List.getElem?_cons_zero, List.getElem?_cons_succ, i17, size17, forceN_eq]
  rfl
theorem fld149_3 {G b off : Nat} : fieldAddrO (En G) 149 3 (some (.pointer (some ⟨b, off, none⟩))) = some (.pointer (some ⟨b, off + 3, none⟩)) := by
  simp only [fieldAddrO, evFieldAddr, us149, Tryz.underlying149, List.getElem?_toArray, List.getElem?_cons_zero, List.getElem?_cons_succ, i9, size9, forceN_eq]
  rfl
theorem idxP150 {G b off : Nat} {kd : IntKind} {z : Int} (h0 : 0 ≤ z) (h1 : z < 0) : idxAddrO (En G) 150 (some (.pointer (some ⟨b, off, none⟩))) (some (.int kd z)) = some (.pointer (some ⟨b, off + z.toNat * 1, none⟩)) := by
  simp only [idxAddrO, evIndexAddr, u150, idx_ok (n := 0) h0 (by omega), i16, forceN_eq, size16]
theorem fld158_0 {G b off : Nat} : fieldAddrO (En G) 158 0 (some (.pointer (some ⟨b, off, none⟩))) = some (.pointer (some ⟨b, off + 0, none⟩)) := by
  simp only [fieldAddrO, evFieldAddr, us158, Tryz.underlying158, List.getElem?_toArray, List.getElem?_cons_zero, List.getElem?_cons_succ, i12, size12, forceN_eq]
  rfl
theorem fld158_1 {G b off : Nat} : fieldAddrO (En G) 158 1 (some (.pointer (some ⟨b, off, none⟩))) = some (.pointer (some ⟨b, off + 1, none⟩)) := by
  simp only [fieldAddrO, evFieldAddr, us158, Tryz.underlying158, List.getElem?_toArray, List.getElem?_cons_zero, List.getElem?_cons_succ, i12, size12, forceN_eq]
  rfl
theorem fld158_2 {G b off : Nat} : fieldAddrO (En G) 158 2 (some (.pointer (some ⟨b, off, none⟩))) = some (.pointer (some ⟨b, off + 2, none⟩)) := by
  simp only [fieldAddrO, evFieldAddr, us158, Tryz.underlying158, List.getElem?_toArray, List.getElem?_cons_zero, List.getElem?_cons_succ, i94, size94, forceN_eq]
  rfl
theorem fld158_3 {G b off : Nat} : fieldAddrO (En G) 158 3 (some (.pointer (some ⟨b, off, none⟩))) = some (.pointer (some ⟨b, off + 3, none⟩)) := by
  simp only [fieldAddrO, evFieldAddr, us158, Tryz.underlying158, List.getElem?_toArray, List.getElem?_cons_zero, List.getElem?_cons_succ, i153, size153, forceN_eq]
  rfl
theorem fld158_4 {G b off : Nat} : fieldAddrO (En G) 158 4 (some (.pointer (some ⟨b, off, none⟩))) = some (.pointer (some ⟨b, off + 4, none⟩)) := by
  simp only [fieldAddrO, evFieldAddr, us158, Tryz.underlying158, List.getElem?_toArray, List.getElem?_cons_zero, List.getElem?_cons_succ, i5, size5, forceN_eq]
  rfl
theorem fld158_5 {G b off : Nat} : fieldAddrO (En G) 158 5 (some (.pointer (some ⟨b, off, none⟩))) = some (.pointer (some ⟨b, off + 5, none⟩)) := by
  simp only [fieldAddrO, evFieldAddr, us158, Tryz.underlying158, List.getElem?_toArray, List.getElem?_cons_zero, List.getElem?_cons_succ, i5, size5, forceN_eq]
  rfl
theorem fld158_6 {G b off : Nat} : fieldAddrO (En G) 158 6 (some (.pointer (some ⟨b, off, none⟩))) = some (.pointer (some ⟨b, off + 6, none⟩)) := by
  simp only [fieldAddrO, evFieldAddr, us158, Tryz.underlying158, List.getElem?_toArray, List.getElem?_cons_zero, List.getElem?_cons_succ, i154, size154, forceN_eq]
  rfl
theorem fld158_8 {G b off : Nat} : fieldAddrO (En G) 158 8 (some (.pointer (some ⟨b, off, none⟩))) = some (.pointer (some ⟨b, off + 8, none⟩)) := by
  simp only [fieldAddrO, evFieldAddr, us158, Tryz.underlying158, List.getElem?_toArray, List.getElem?_cons_zero, List.getElem?_cons_succ, i134, size134, forceN_eq]
  rfl
theorem fld158_9 {G b off : Nat} : fieldAddrO (En G) 158 9 (some (.pointer (some ⟨b, off, none⟩))) = some (.pointer (some ⟨b, off + 9, none⟩)) := by
  simp only [fieldAddrO, evFieldAddr, us158, Tryz.underlying158, List.getElem?_toArray, List.getElem?_cons_zero, List.getElem?_cons_succ, i156, size156, forceN_eq]
  rfl
theorem fld158_10 {G b off : Nat} : fieldAddrO (En G) 158 10 (some (.pointer (some ⟨b, off, none⟩))) = some (.pointer (some ⟨b, off + 10, none⟩)) := by
  simp only [fieldAddrO, evFieldAddr, us158, Tryz.underlying158, List.getElem?_toArray, List.getElem?_cons_zero, List.getElem?_cons_succ, i157, size157, forceN_eq]
  rfl
theorem fld159_0 {G b off : Nat} : fieldAddrO (En G) 159 0 (some (.pointer (some ⟨b, off, none⟩))) = some (.pointer (some ⟨b, off + 0, none⟩)) := by
  simp only [fieldAddrO, evFieldAddr, us159, Tryz.underlying159, List.getElem?_toArray, List.getElem?_cons_zero, List.getElem?_cons_succ, i12, size12, forceN_eq]
  rfl
theorem fld159_1 {G b off : Nat} : fieldAddrO (En G) 159 1 (some (.pointer (some ⟨b, off, none⟩))) = some (.pointer (some ⟨b, off + 1, none⟩)) := by
  simp only [fieldAddrO, evFieldAddr, us159, Tryz.underlying159, List.getElem?_toArray, List.getElem?_cons_zero, List.getElem?_cons_succ, i12, size12, forceN_eq]
  rfl
theorem fld159_2 {G b off : Nat} : fieldAddrO (En G) 159 2 (some (.pointer (some ⟨b, off, none⟩))) = some (.pointer (some ⟨b, off + 2, none⟩)) := by
  simp only [fieldAddrO, evFieldAddr, us159, Tryz.underlying159, List.getElem?_toArray, List.getElem?_cons_zero, List.getElem?_cons_succ, i94, size94, forceN_eq]
  rfl
theorem fld159_3 {G b off : Nat} : fieldAddrO (En G) 159 3 (some (.pointer (some ⟨b, off, none⟩))) = some (.pointer (some ⟨b, off + 3, none⟩)) := by
  simp only [fieldAddrO, evFieldAddr, us159, Tryz.underlying159, List.getElem?_toArray, List.getElem?_cons_zero, List.getElem?_cons_succ, i153, size153, forceN_eq]
  rfl
theorem fld159_4 {G b off : Nat} : fieldAddrO (En G) 159 4 (some (.pointer (some ⟨b, off, none⟩))) = some (.pointer (some ⟨b, off + 4, none⟩)) := by
  simp only [fieldAddrO, evFieldAddr, us159, Tryz.underlying159, List.getElem?_toArray, List.getElem?_cons_zero, List.getElem?_cons_succ, i5, size5, forceN_eq]
  rfl
theorem fld159_5 {G b off : Nat} : fieldAddrO (En G) 159 5 (some (.pointer (some ⟨b, off, none⟩))) = some (.pointer (some ⟨b, off + 5, none⟩)) := by
  simp only [fieldAddrO, evFieldAddr, us159, Tryz.underlying159, List.getElem?_toArray, List.getElem?_cons_zero, List.getElem?_cons_succ, i5, size5, forceN_eq]
  rfl
theorem fld159_6 {G b off : Nat} : fieldAddrO (En G) 159 6 (some (.pointer (some ⟨b, off, none⟩))) = some (.pointer (some ⟨b, off + 6, none⟩)) := by
  simp only [fieldAddrO, evFieldAddr, us159, Tryz.underlying159, List.getElem?_toArray, List.getElem?_cons_zero, List.getElem?_cons_succ, i154, size154, forceN_eq]
  rfl
theorem fld159_8 {G b off : Nat} : fieldAddrO (En G) 159 8 (some (.pointer (some ⟨b, off, none⟩))) = some (.pointer (some ⟨b, off + 8, none⟩)) := by
  simp only [fieldAddrO, evFieldAddr, us159, Tryz.underlying159, List.getElem?_toArray, List.getElem?_cons_zero, List.getElem?_cons_succ, i134, size134, forceN_eq]
  rfl
theorem fld159_9 {G b off : Nat} : fieldAddrO (En G) 159 9 (some (.pointer (some ⟨b, off, none⟩))) = some (.pointer (some ⟨b, off + 9, none⟩)) := by
  simp only [fieldAddrO, evFieldAddr, us159, Tryz.underlying159, List.getElem?_toArray, List.getElem?_cons_zero, List.getElem?_cons_succ, i156, size156, forceN_eq]
  rfl
theorem fld159_10 {G b off : Nat} : fieldAddrO (En G) 159 10 (some (.pointer (some ⟨b, off, none⟩))) = some (.pointer (some ⟨b, off + 10, none⟩)) := by
  simp only [fieldAddrO, evFieldAddr, us159, Tryz.underlying159, List.getElem?_toArray, List.getElem?_cons_zero, List.getElem?_cons_succ, i157, size157, forceN_eq]
  rfl
end
end Go.Proofs.YtihmbbgnielbnaaGreatDoor.Ev
