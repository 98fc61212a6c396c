/- Facts of the program's types, for symbolic runs. By program. -/
import Derived.Test.YtlhpjnopkfndfaaProg
import Derived.Test.YtlhpjnopkfndfaaPmSS
import Derived.Test.YtlhpjnopkfndfaaPmTabs
import Derived.KernelRfl
set_option linter.unusedSimpArgs false
namespace Go.Proofs.Ytlhpjnopkfndfaa.Ev
open Go Go.Proofs
noncomputable section

/-- the program's types and functions; so many blocks are only read -/
noncomputable def En (G : Nat) : Env := withKnown (envOf Try.prog 108 0 G) (Tr.put .e 13 (.bool true)) tabs
theorem En_u {G t : Nat} : (En G).u t = (envOf Try.prog 108 0 G).u t := withKnown_u
theorem En_i {G t : Nat} : (En G).i t = (envOf Try.prog 108 0 G).i t := withKnown_i
theorem En_G {G : Nat} : (En G).G = G := withKnown_G
theorem En_iters {G : Nat} : (En G).iters = Tr.e := withKnown_iters
instance {G : Nat} : NoFz (En G) := ⟨withKnown_fzl.trans envOf_fzl⟩
theorem En_known {G f : Nat} (h : f ≠ 13) : (En G).known.get f = none := by
  have e : (En G).known = Tr.put Tr.e 13 (Value.bool true) := withKnown_known
  rw [e, Tr.get_put, if_neg h]
  rfl
theorem En_lives {G : Nat} : (En G).known.get 13 = some (.bool true) := by
  have e : (En G).known = Tr.put Tr.e 13 (Value.bool true) := withKnown_known
  rw [e, Tr.get_put, if_pos rfl]


theorem mixed : Try.prog.follows .mixedOrders = true := by kernel_rfl
theorem En_f {G : Nat} {f : FuncId} : (En G).fns.get f = Try.prog.funcs[f]? := by
  have : (En G).fns = (envOf Try.prog 108 0 G).fns := withKnown_f
  rw [this]; exact envOf_f

theorem u2 {G : Nat} : (En G).u 2 = some (.int .i64) := En_u.trans <| (envOf_u (by decide)).trans Try.underlying2
theorem agg2 {G : Nat} : (En G).agg 2 = some false := by unfold Env.agg; rw [u2]
theorem load2 {G : Nat} {B : Tr Blk} {b off : Nat} : loadO (En G) 2 B (some (.pointer (some ⟨b, off, none⟩))) = loadv B b off := loadO_one agg2
noncomputable def inf2 : TypeInfo := (Try.prog.info? 2).getD default
theorem i2 {G : Nat} : (En G).i 2 = some inf2 := En_i.trans <| (envOf_i (by decide)).trans (by kernel_rfl)
theorem size2 : inf2.size = 1 := by kernel_rfl
theorem bytes2 : inf2.bytes = 8 := by kernel_rfl
theorem zero2 : inf2.zero = some (.int .i64 0) := by kernel_rfl
theorem u3 {G : Nat} : (En G).u 3 = some (.int .i64) := En_u.trans <| (envOf_u (by decide)).trans Try.underlying3
theorem agg3 {G : Nat} : (En G).agg 3 = some false := by unfold Env.agg; rw [u3]
theorem load3 {G : Nat} {B : Tr Blk} {b off : Nat} : loadO (En G) 3 B (some (.pointer (some ⟨b, off, none⟩))) = loadv B b off := loadO_one agg3
noncomputable def inf3 : TypeInfo := (Try.prog.info? 3).getD default
theorem i3 {G : Nat} : (En G).i 3 = some inf3 := En_i.trans <| (envOf_i (by decide)).trans (by kernel_rfl)
theorem size3 : inf3.size = 1 := by kernel_rfl
theorem bytes3 : inf3.bytes = 8 := by kernel_rfl
theorem zero3 : inf3.zero = some (.int .i64 0) := by kernel_rfl
theorem u4 {G : Nat} : (En G).u 4 = some (.bool) := En_u.trans <| (envOf_u (by decide)).trans Try.underlying4
theorem agg4 {G : Nat} : (En G).agg 4 = some false := by unfold Env.agg; rw [u4]
theorem load4 {G : Nat} {B : Tr Blk} {b off : Nat} : loadO (En G) 4 B (some (.pointer (some ⟨b, off, none⟩))) = loadv B b off := loadO_one agg4
noncomputable def inf4 : TypeInfo := (Try.prog.info? 4).getD default
theorem i4 {G : Nat} : (En G).i 4 = some inf4 := En_i.trans <| (envOf_i (by decide)).trans (by kernel_rfl)
theorem size4 : inf4.size = 1 := by kernel_rfl
theorem bytes4 : inf4.bytes = 1 := by kernel_rfl
theorem zero4 : inf4.zero = some (.bool false) := by kernel_rfl
theorem u5 {G : Nat} : (En G).u 5 = some (.int .u8) := En_u.trans <| (envOf_u (by decide)).trans Try.underlying5
theorem agg5 {G : Nat} : (En G).agg 5 = some false := by unfold Env.agg; rw [u5]
theorem load5 {G : Nat} {B : Tr Blk} {b off : Nat} : loadO (En G) 5 B (some (.pointer (some ⟨b, off, none⟩))) = loadv B b off := loadO_one agg5
noncomputable def inf5 : TypeInfo := (Try.prog.info? 5).getD default
theorem i5 {G : Nat} : (En G).i 5 = some inf5 := En_i.trans <| (envOf_i (by decide)).trans (by kernel_rfl)
theorem size5 : inf5.size = 1 := by kernel_rfl
theorem bytes5 : inf5.bytes = 1 := by kernel_rfl
theorem zero5 : inf5.zero = some (.int .u8 0) := by kernel_rfl
theorem u6 {G : Nat} : (En G).u 6 = some (.int .u8) := En_u.trans <| (envOf_u (by decide)).trans Try.underlying6
theorem agg6 {G : Nat} : (En G).agg 6 = some false := by unfold Env.agg; rw [u6]
theorem load6 {G : Nat} {B : Tr Blk} {b off : Nat} : loadO (En G) 6 B (some (.pointer (some ⟨b, off, none⟩))) = loadv B b off := loadO_one agg6
noncomputable def inf6 : TypeInfo := (Try.prog.info? 6).getD default
theorem i6 {G : Nat} : (En G).i 6 = some inf6 := En_i.trans <| (envOf_i (by decide)).trans (by kernel_rfl)
theorem size6 : inf6.size = 1 := by kernel_rfl
theorem bytes6 : inf6.bytes = 1 := by kernel_rfl
theorem zero6 : inf6.zero = some (.int .u8 0) := by kernel_rfl
noncomputable def inf7 : TypeInfo := (Try.prog.info? 7).getD default
theorem i7 {G : Nat} : (En G).i 7 = some inf7 := En_i.trans <| (envOf_i (by decide)).trans (by kernel_rfl)
theorem size7 : inf7.size = 4 := by kernel_rfl
theorem bytes7 : inf7.bytes = 24 := by kernel_rfl
noncomputable def inf8 : TypeInfo := (Try.prog.info? 8).getD default
theorem i8 {G : Nat} : (En G).i 8 = some inf8 := En_i.trans <| (envOf_i (by decide)).trans (by kernel_rfl)
theorem size8 : inf8.size = 4 := by kernel_rfl
theorem bytes8 : inf8.bytes = 24 := by kernel_rfl
theorem u9 {G : Nat} : (En G).u 9 = some (.string) := En_u.trans <| (envOf_u (by decide)).trans Try.underlying9
theorem agg9 {G : Nat} : (En G).agg 9 = some false := by unfold Env.agg; rw [u9]
theorem load9 {G : Nat} {B : Tr Blk} {b off : Nat} : loadO (En G) 9 B (some (.pointer (some ⟨b, off, none⟩))) = loadv B b off := loadO_one agg9
noncomputable def inf9 : TypeInfo := (Try.prog.info? 9).getD default
theorem i9 {G : Nat} : (En G).i 9 = some inf9 := En_i.trans <| (envOf_i (by decide)).trans (by kernel_rfl)
theorem size9 : inf9.size = 1 := by kernel_rfl
theorem bytes9 : inf9.bytes = 16 := by kernel_rfl
theorem zero9 : inf9.zero = some (.string .empty) := by kernel_rfl
theorem u10 {G : Nat} : (En G).u 10 = some (.string) := En_u.trans <| (envOf_u (by decide)).trans Try.underlying10
theorem agg10 {G : Nat} : (En G).agg 10 = some false := by unfold Env.agg; rw [u10]
theorem load10 {G : Nat} {B : Tr Blk} {b off : Nat} : loadO (En G) 10 B (some (.pointer (some ⟨b, off, none⟩))) = loadv B b off := loadO_one agg10
noncomputable def inf10 : TypeInfo := (Try.prog.info? 10).getD default
theorem i10 {G : Nat} : (En G).i 10 = some inf10 := En_i.trans <| (envOf_i (by decide)).trans (by kernel_rfl)
theorem size10 : inf10.size = 1 := by kernel_rfl
theorem bytes10 : inf10.bytes = 16 := by kernel_rfl
theorem zero10 : inf10.zero = some (.string .empty) := by kernel_rfl
theorem u11 {G : Nat} : (En G).u 11 = some (.string) := En_u.trans <| (envOf_u (by decide)).trans Try.underlying11
theorem agg11 {G : Nat} : (En G).agg 11 = some false := by unfold Env.agg; rw [u11]
theorem load11 {G : Nat} {B : Tr Blk} {b off : Nat} : loadO (En G) 11 B (some (.pointer (some ⟨b, off, none⟩))) = loadv B b off := loadO_one agg11
noncomputable def inf11 : TypeInfo := (Try.prog.info? 11).getD default
theorem i11 {G : Nat} : (En G).i 11 = some inf11 := En_i.trans <| (envOf_i (by decide)).trans (by kernel_rfl)
theorem size11 : inf11.size = 1 := by kernel_rfl
theorem bytes11 : inf11.bytes = 16 := by kernel_rfl
theorem zero11 : inf11.zero = some (.string .empty) := by kernel_rfl
theorem u12 {G : Nat} : (En G).u 12 = some (.int .u64) := En_u.trans <| (envOf_u (by decide)).trans Try.underlying12
theorem agg12 {G : Nat} : (En G).agg 12 = some false := by unfold Env.agg; rw [u12]
theorem load12 {G : Nat} {B : Tr Blk} {b off : Nat} : loadO (En G) 12 B (some (.pointer (some ⟨b, off, none⟩))) = loadv B b off := loadO_one agg12
noncomputable def inf12 : TypeInfo := (Try.prog.info? 12).getD default
theorem i12 {G : Nat} : (En G).i 12 = some inf12 := En_i.trans <| (envOf_i (by decide)).trans (by kernel_rfl)
theorem size12 : inf12.size = 1 := by kernel_rfl
theorem bytes12 : inf12.bytes = 8 := by kernel_rfl
theorem zero12 : inf12.zero = some (.int .u64 0) := by kernel_rfl
noncomputable def inf13 : TypeInfo := (Try.prog.info? 13).getD default
theorem i13 {G : Nat} : (En G).i 13 = some inf13 := En_i.trans <| (envOf_i (by decide)).trans (by kernel_rfl)
theorem size13 : inf13.size = 2 := by kernel_rfl
theorem bytes13 : inf13.bytes = 24 := by kernel_rfl
noncomputable def inf14 : TypeInfo := (Try.prog.info? 14).getD default
theorem i14 {G : Nat} : (En G).i 14 = some inf14 := En_i.trans <| (envOf_i (by decide)).trans (by kernel_rfl)
theorem size14 : inf14.size = 2 := by kernel_rfl
theorem bytes14 : inf14.bytes = 24 := by kernel_rfl
theorem u15 {G : Nat} : (En G).u 15 = some (.pointer 94) := En_u.trans <| (envOf_u (by decide)).trans Try.underlying15
theorem agg15 {G : Nat} : (En G).agg 15 = some false := by unfold Env.agg; rw [u15]
theorem load15 {G : Nat} {B : Tr Blk} {b off : Nat} : loadO (En G) 15 B (some (.pointer (some ⟨b, off, none⟩))) = loadv B b off := loadO_one agg15
noncomputable def inf15 : TypeInfo := (Try.prog.info? 15).getD default
theorem i15 {G : Nat} : (En G).i 15 = some inf15 := En_i.trans <| (envOf_i (by decide)).trans (by kernel_rfl)
theorem size15 : inf15.size = 1 := by kernel_rfl
theorem bytes15 : inf15.bytes = 8 := by kernel_rfl
theorem zero15 : inf15.zero = some (.pointer none) := by kernel_rfl
theorem u16 {G : Nat} : (En G).u 16 = some (.pointer 97) := En_u.trans <| (envOf_u (by decide)).trans Try.underlying16
theorem agg16 {G : Nat} : (En G).agg 16 = some false := by unfold Env.agg; rw [u16]
theorem load16 {G : Nat} {B : Tr Blk} {b off : Nat} : loadO (En G) 16 B (some (.pointer (some ⟨b, off, none⟩))) = loadv B b off := loadO_one agg16
noncomputable def inf16 : TypeInfo := (Try.prog.info? 16).getD default
theorem i16 {G : Nat} : (En G).i 16 = some inf16 := En_i.trans <| (envOf_i (by decide)).trans (by kernel_rfl)
theorem size16 : inf16.size = 1 := by kernel_rfl
theorem bytes16 : inf16.bytes = 8 := by kernel_rfl
theorem zero16 : inf16.zero = some (.pointer none) := by kernel_rfl
theorem u17 {G : Nat} : (En G).u 17 = some (.pointer 106) := En_u.trans <| (envOf_u (by decide)).trans Try.underlying17
theorem agg17 {G : Nat} : (En G).agg 17 = some false := by unfold Env.agg; rw [u17]
theorem load17 {G : Nat} {B : Tr Blk} {b off : Nat} : loadO (En G) 17 B (some (.pointer (some ⟨b, off, none⟩))) = loadv B b off := loadO_one agg17
noncomputable def inf17 : TypeInfo := (Try.prog.info? 17).getD default
theorem i17 {G : Nat} : (En G).i 17 = some inf17 := En_i.trans <| (envOf_i (by decide)).trans (by kernel_rfl)
theorem size17 : inf17.size = 1 := by kernel_rfl
theorem bytes17 : inf17.bytes = 8 := by kernel_rfl
theorem zero17 : inf17.zero = some (.pointer none) := by kernel_rfl
noncomputable def inf18 : TypeInfo := (Try.prog.info? 18).getD default
theorem i18 {G : Nat} : (En G).i 18 = some inf18 := En_i.trans <| (envOf_i (by decide)).trans (by kernel_rfl)
theorem size18 : inf18.size = 1 := by kernel_rfl
theorem bytes18 : inf18.bytes = 8 := by kernel_rfl
noncomputable def inf19 : TypeInfo := (Try.prog.info? 19).getD default
theorem i19 {G : Nat} : (En G).i 19 = some inf19 := En_i.trans <| (envOf_i (by decide)).trans (by kernel_rfl)
theorem size19 : inf19.size = 1 := by kernel_rfl
theorem bytes19 : inf19.bytes = 8 := by kernel_rfl
theorem u21 {G : Nat} : (En G).u 21 = some (.int .i32) := En_u.trans <| (envOf_u (by decide)).trans Try.underlying21
theorem agg21 {G : Nat} : (En G).agg 21 = some false := by unfold Env.agg; rw [u21]
theorem load21 {G : Nat} {B : Tr Blk} {b off : Nat} : loadO (En G) 21 B (some (.pointer (some ⟨b, off, none⟩))) = loadv B b off := loadO_one agg21
noncomputable def inf21 : TypeInfo := (Try.prog.info? 21).getD default
theorem i21 {G : Nat} : (En G).i 21 = some inf21 := En_i.trans <| (envOf_i (by decide)).trans (by kernel_rfl)
theorem size21 : inf21.size = 1 := by kernel_rfl
theorem bytes21 : inf21.bytes = 4 := by kernel_rfl
theorem zero21 : inf21.zero = some (.int .i32 0) := by kernel_rfl
theorem u22 {G : Nat} : (En G).u 22 = some (.slice 5) := En_u.trans <| (envOf_u (by decide)).trans Try.underlying22
theorem agg22 {G : Nat} : (En G).agg 22 = some false := by unfold Env.agg; rw [u22]
theorem load22 {G : Nat} {B : Tr Blk} {b off : Nat} : loadO (En G) 22 B (some (.pointer (some ⟨b, off, none⟩))) = loadv B b off := loadO_one agg22
noncomputable def inf22 : TypeInfo := (Try.prog.info? 22).getD default
theorem i22 {G : Nat} : (En G).i 22 = some inf22 := En_i.trans <| (envOf_i (by decide)).trans (by kernel_rfl)
theorem size22 : inf22.size = 1 := by kernel_rfl
theorem bytes22 : inf22.bytes = 24 := by kernel_rfl
theorem zero22 : inf22.zero = some (.slice none 0 0) := by kernel_rfl
theorem len22 {G n c : Nat} {A : Option Addr} : lenO (En G) 22 (some (.slice A n c)) = some (.int .i64 n) := lenO_slice u22
theorem u23 {G : Nat} : (En G).u 23 = some (.slice 3) := En_u.trans <| (envOf_u (by decide)).trans Try.underlying23
theorem agg23 {G : Nat} : (En G).agg 23 = some false := by unfold Env.agg; rw [u23]
theorem load23 {G : Nat} {B : Tr Blk} {b off : Nat} : loadO (En G) 23 B (some (.pointer (some ⟨b, off, none⟩))) = loadv B b off := loadO_one agg23
noncomputable def inf23 : TypeInfo := (Try.prog.info? 23).getD default
theorem i23 {G : Nat} : (En G).i 23 = some inf23 := En_i.trans <| (envOf_i (by decide)).trans (by kernel_rfl)
theorem size23 : inf23.size = 1 := by kernel_rfl
theorem bytes23 : inf23.bytes = 24 := by kernel_rfl
theorem zero23 : inf23.zero = some (.slice none 0 0) := by kernel_rfl
theorem len23 {G n c : Nat} {A : Option Addr} : lenO (En G) 23 (some (.slice A n c)) = some (.int .i64 n) := lenO_slice u23
theorem u25 {G : Nat} : (En G).u 25 = some (.int .i64) := En_u.trans <| (envOf_u (by decide)).trans Try.underlying25
theorem agg25 {G : Nat} : (En G).agg 25 = some false := by unfold Env.agg; rw [u25]
theorem load25 {G : Nat} {B : Tr Blk} {b off : Nat} : loadO (En G) 25 B (some (.pointer (some ⟨b, off, none⟩))) = loadv B b off := loadO_one agg25
noncomputable def inf25 : TypeInfo := (Try.prog.info? 25).getD default
theorem i25 {G : Nat} : (En G).i 25 = some inf25 := En_i.trans <| (envOf_i (by decide)).trans (by kernel_rfl)
theorem size25 : inf25.size = 1 := by kernel_rfl
theorem bytes25 : inf25.bytes = 8 := by kernel_rfl
theorem zero25 : inf25.zero = some (.int .i64 0) := by kernel_rfl
theorem u42 {G : Nat} : (En G).u 42 = some (.int .u32) := En_u.trans <| (envOf_u (by decide)).trans Try.underlying42
theorem agg42 {G : Nat} : (En G).agg 42 = some false := by unfold Env.agg; rw [u42]
theorem load42 {G : Nat} {B : Tr Blk} {b off : Nat} : loadO (En G) 42 B (some (.pointer (some ⟨b, off, none⟩))) = loadv B b off := loadO_one agg42
noncomputable def inf42 : TypeInfo := (Try.prog.info? 42).getD default
theorem i42 {G : Nat} : (En G).i 42 = some inf42 := En_i.trans <| (envOf_i (by decide)).trans (by kernel_rfl)
theorem size42 : inf42.size = 1 := by kernel_rfl
theorem bytes42 : inf42.bytes = 4 := by kernel_rfl
theorem zero42 : inf42.zero = some (.int .u32 0) := by kernel_rfl
noncomputable def inf51 : TypeInfo := (Try.prog.info? 51).getD default
theorem i51 {G : Nat} : (En G).i 51 = some inf51 := En_i.trans <| (envOf_i (by decide)).trans (by kernel_rfl)
theorem size51 : inf51.size = 2 := by kernel_rfl
theorem bytes51 : inf51.bytes = 32 := by kernel_rfl
noncomputable def inf52 : TypeInfo := (Try.prog.info? 52).getD default
theorem i52 {G : Nat} : (En G).i 52 = some inf52 := En_i.trans <| (envOf_i (by decide)).trans (by kernel_rfl)
theorem size52 : inf52.size = 2 := by kernel_rfl
theorem bytes52 : inf52.bytes = 32 := by kernel_rfl
theorem u58 {G : Nat} : (En G).u 58 = some (.slice 4) := En_u.trans <| (envOf_u (by decide)).trans Try.underlying58
theorem agg58 {G : Nat} : (En G).agg 58 = some false := by unfold Env.agg; rw [u58]
theorem load58 {G : Nat} {B : Tr Blk} {b off : Nat} : loadO (En G) 58 B (some (.pointer (some ⟨b, off, none⟩))) = loadv B b off := loadO_one agg58
noncomputable def inf58 : TypeInfo := (Try.prog.info? 58).getD default
theorem i58 {G : Nat} : (En G).i 58 = some inf58 := En_i.trans <| (envOf_i (by decide)).trans (by kernel_rfl)
theorem size58 : inf58.size = 1 := by kernel_rfl
theorem bytes58 : inf58.bytes = 24 := by kernel_rfl
theorem zero58 : inf58.zero = some (.slice none 0 0) := by kernel_rfl
theorem len58 {G n c : Nat} {A : Option Addr} : lenO (En G) 58 (some (.slice A n c)) = some (.int .i64 n) := lenO_slice u58
noncomputable def inf65 : TypeInfo := (Try.prog.info? 65).getD default
theorem i65 {G : Nat} : (En G).i 65 = some inf65 := En_i.trans <| (envOf_i (by decide)).trans (by kernel_rfl)
theorem size65 : inf65.size = 3 := by kernel_rfl
theorem bytes65 : inf65.bytes = 24 := by kernel_rfl
noncomputable def inf66 : TypeInfo := (Try.prog.info? 66).getD default
theorem i66 {G : Nat} : (En G).i 66 = some inf66 := En_i.trans <| (envOf_i (by decide)).trans (by kernel_rfl)
theorem size66 : inf66.size = 3 := by kernel_rfl
theorem bytes66 : inf66.bytes = 24 := by kernel_rfl
theorem u71 {G : Nat} : (En G).u 71 = some (.int .u64) := En_u.trans <| (envOf_u (by decide)).trans Try.underlying71
theorem agg71 {G : Nat} : (En G).agg 71 = some false := by unfold Env.agg; rw [u71]
theorem load71 {G : Nat} {B : Tr Blk} {b off : Nat} : loadO (En G) 71 B (some (.pointer (some ⟨b, off, none⟩))) = loadv B b off := loadO_one agg71
noncomputable def inf71 : TypeInfo := (Try.prog.info? 71).getD default
theorem i71 {G : Nat} : (En G).i 71 = some inf71 := En_i.trans <| (envOf_i (by decide)).trans (by kernel_rfl)
theorem size71 : inf71.size = 1 := by kernel_rfl
theorem bytes71 : inf71.bytes = 8 := by kernel_rfl
theorem zero71 : inf71.zero = some (.int .u64 0) := by kernel_rfl
theorem u73 {G : Nat} : (En G).u 73 = some (.int .i64) := En_u.trans <| (envOf_u (by decide)).trans Try.underlying73
theorem agg73 {G : Nat} : (En G).agg 73 = some false := by unfold Env.agg; rw [u73]
theorem load73 {G : Nat} {B : Tr Blk} {b off : Nat} : loadO (En G) 73 B (some (.pointer (some ⟨b, off, none⟩))) = loadv B b off := loadO_one agg73
noncomputable def inf73 : TypeInfo := (Try.prog.info? 73).getD default
theorem i73 {G : Nat} : (En G).i 73 = some inf73 := En_i.trans <| (envOf_i (by decide)).trans (by kernel_rfl)
theorem size73 : inf73.size = 1 := by kernel_rfl
theorem bytes73 : inf73.bytes = 8 := by kernel_rfl
theorem zero73 : inf73.zero = some (.int .i64 0) := by kernel_rfl
theorem u82 {G : Nat} : (En G).u 82 = some (.int .u64) := En_u.trans <| (envOf_u (by decide)).trans Try.underlying82
theorem agg82 {G : Nat} : (En G).agg 82 = some false := by unfold Env.agg; rw [u82]
theorem load82 {G : Nat} {B : Tr Blk} {b off : Nat} : loadO (En G) 82 B (some (.pointer (some ⟨b, off, none⟩))) = loadv B b off := loadO_one agg82
noncomputable def inf82 : TypeInfo := (Try.prog.info? 82).getD default
theorem i82 {G : Nat} : (En G).i 82 = some inf82 := En_i.trans <| (envOf_i (by decide)).trans (by kernel_rfl)
theorem size82 : inf82.size = 1 := by kernel_rfl
theorem bytes82 : inf82.bytes = 8 := by kernel_rfl
theorem zero82 : inf82.zero = some (.int .u64 0) := by kernel_rfl
theorem u83 {G : Nat} : (En G).u 83 = some (.int .u64) := En_u.trans <| (envOf_u (by decide)).trans Try.underlying83
theorem agg83 {G : Nat} : (En G).agg 83 = some false := by unfold Env.agg; rw [u83]
theorem load83 {G : Nat} {B : Tr Blk} {b off : Nat} : loadO (En G) 83 B (some (.pointer (some ⟨b, off, none⟩))) = loadv B b off := loadO_one agg83
noncomputable def inf83 : TypeInfo := (Try.prog.info? 83).getD default
theorem i83 {G : Nat} : (En G).i 83 = some inf83 := En_i.trans <| (envOf_i (by decide)).trans (by kernel_rfl)
theorem size83 : inf83.size = 1 := by kernel_rfl
theorem bytes83 : inf83.bytes = 8 := by kernel_rfl
theorem zero83 : inf83.zero = some (.int .u64 0) := by kernel_rfl
theorem u87 {G : Nat} : (En G).u 87 = some (.pointer 3) := En_u.trans <| (envOf_u (by decide)).trans Try.underlying87
theorem agg87 {G : Nat} : (En G).agg 87 = some false := by unfold Env.agg; rw [u87]
theorem load87 {G : Nat} {B : Tr Blk} {b off : Nat} : loadO (En G) 87 B (some (.pointer (some ⟨b, off, none⟩))) = loadv B b off := loadO_one agg87
noncomputable def inf87 : TypeInfo := (Try.prog.info? 87).getD default
theorem i87 {G : Nat} : (En G).i 87 = some inf87 := En_i.trans <| (envOf_i (by decide)).trans (by kernel_rfl)
theorem size87 : inf87.size = 1 := by kernel_rfl
theorem bytes87 : inf87.bytes = 8 := by kernel_rfl
theorem zero87 : inf87.zero = some (.pointer none) := by kernel_rfl
theorem u89 {G : Nat} : (En G).u 89 = some (.pointer 83) := En_u.trans <| (envOf_u (by decide)).trans Try.underlying89
theorem agg89 {G : Nat} : (En G).agg 89 = some false := by unfold Env.agg; rw [u89]
theorem load89 {G : Nat} {B : Tr Blk} {b off : Nat} : loadO (En G) 89 B (some (.pointer (some ⟨b, off, none⟩))) = loadv B b off := loadO_one agg89
noncomputable def inf89 : TypeInfo := (Try.prog.info? 89).getD default
theorem i89 {G : Nat} : (En G).i 89 = some inf89 := En_i.trans <| (envOf_i (by decide)).trans (by kernel_rfl)
theorem size89 : inf89.size = 1 := by kernel_rfl
theorem bytes89 : inf89.bytes = 8 := by kernel_rfl
theorem zero89 : inf89.zero = some (.pointer none) := by kernel_rfl
noncomputable def inf93 : TypeInfo := (Try.prog.info? 93).getD default
theorem i93 {G : Nat} : (En G).i 93 = some inf93 := En_i.trans <| (envOf_i (by decide)).trans (by kernel_rfl)
theorem size93 : inf93.size = 4 := by kernel_rfl
theorem bytes93 : inf93.bytes = 40 := by kernel_rfl
noncomputable def inf94 : TypeInfo := (Try.prog.info? 94).getD default
theorem i94 {G : Nat} : (En G).i 94 = some inf94 := En_i.trans <| (envOf_i (by decide)).trans (by kernel_rfl)
theorem size94 : inf94.size = 4 := by kernel_rfl
theorem bytes94 : inf94.bytes = 40 := by kernel_rfl
noncomputable def inf96 : TypeInfo := (Try.prog.info? 96).getD default
theorem i96 {G : Nat} : (En G).i 96 = some inf96 := En_i.trans <| (envOf_i (by decide)).trans (by kernel_rfl)
theorem size96 : inf96.size = 0 := by kernel_rfl
theorem bytes96 : inf96.bytes = 0 := by kernel_rfl
noncomputable def inf97 : TypeInfo := (Try.prog.info? 97).getD default
theorem i97 {G : Nat} : (En G).i 97 = some inf97 := En_i.trans <| (envOf_i (by decide)).trans (by kernel_rfl)
theorem size97 : inf97.size = 0 := by kernel_rfl
theorem bytes97 : inf97.bytes = 0 := by kernel_rfl
theorem u99 {G : Nat} : (En G).u 99 = some (.int .u8) := En_u.trans <| (envOf_u (by decide)).trans Try.underlying99
theorem agg99 {G : Nat} : (En G).agg 99 = some false := by unfold Env.agg; rw [u99]
theorem load99 {G : Nat} {B : Tr Blk} {b off : Nat} : loadO (En G) 99 B (some (.pointer (some ⟨b, off, none⟩))) = loadv B b off := loadO_one agg99
noncomputable def inf99 : TypeInfo := (Try.prog.info? 99).getD default
theorem i99 {G : Nat} : (En G).i 99 = some inf99 := En_i.trans <| (envOf_i (by decide)).trans (by kernel_rfl)
theorem size99 : inf99.size = 1 := by kernel_rfl
theorem bytes99 : inf99.bytes = 1 := by kernel_rfl
theorem zero99 : inf99.zero = some (.int .u8 0) := by kernel_rfl
theorem u100 {G : Nat} : (En G).u 100 = some (.int .u8) := En_u.trans <| (envOf_u (by decide)).trans Try.underlying100
theorem agg100 {G : Nat} : (En G).agg 100 = some false := by unfold Env.agg; rw [u100]
theorem load100 {G : Nat} {B : Tr Blk} {b off : Nat} : loadO (En G) 100 B (some (.pointer (some ⟨b, off, none⟩))) = loadv B b off := loadO_one agg100
noncomputable def inf100 : TypeInfo := (Try.prog.info? 100).getD default
theorem i100 {G : Nat} : (En G).i 100 = some inf100 := En_i.trans <| (envOf_i (by decide)).trans (by kernel_rfl)
theorem size100 : inf100.size = 1 := by kernel_rfl
theorem bytes100 : inf100.bytes = 1 := by kernel_rfl
theorem zero100 : inf100.zero = some (.int .u8 0) := by kernel_rfl
theorem u102 {G : Nat} : (En G).u 102 = some (.pointer 5) := En_u.trans <| (envOf_u (by decide)).trans Try.underlying102
theorem agg102 {G : Nat} : (En G).agg 102 = some false := by unfold Env.agg; rw [u102]
theorem load102 {G : Nat} {B : Tr Blk} {b off : Nat} : loadO (En G) 102 B (some (.pointer (some ⟨b, off, none⟩))) = loadv B b off := loadO_one agg102
noncomputable def inf102 : TypeInfo := (Try.prog.info? 102).getD default
theorem i102 {G : Nat} : (En G).i 102 = some inf102 := En_i.trans <| (envOf_i (by decide)).trans (by kernel_rfl)
theorem size102 : inf102.size = 1 := by kernel_rfl
theorem bytes102 : inf102.bytes = 8 := by kernel_rfl
theorem zero102 : inf102.zero = some (.pointer none) := by kernel_rfl
theorem u103 {G : Nat} : (En G).u 103 = some (.int .i32) := En_u.trans <| (envOf_u (by decide)).trans Try.underlying103
theorem agg103 {G : Nat} : (En G).agg 103 = some false := by unfold Env.agg; rw [u103]
theorem load103 {G : Nat} {B : Tr Blk} {b off : Nat} : loadO (En G) 103 B (some (.pointer (some ⟨b, off, none⟩))) = loadv B b off := loadO_one agg103
noncomputable def inf103 : TypeInfo := (Try.prog.info? 103).getD default
theorem i103 {G : Nat} : (En G).i 103 = some inf103 := En_i.trans <| (envOf_i (by decide)).trans (by kernel_rfl)
theorem size103 : inf103.size = 1 := by kernel_rfl
theorem bytes103 : inf103.bytes = 4 := by kernel_rfl
theorem zero103 : inf103.zero = some (.int .i32 0) := by kernel_rfl
theorem u104 {G : Nat} : (En G).u 104 = some (.int .i32) := En_u.trans <| (envOf_u (by decide)).trans Try.underlying104
theorem agg104 {G : Nat} : (En G).agg 104 = some false := by unfold Env.agg; rw [u104]
theorem load104 {G : Nat} {B : Tr Blk} {b off : Nat} : loadO (En G) 104 B (some (.pointer (some ⟨b, off, none⟩))) = loadv B b off := loadO_one agg104
noncomputable def inf104 : TypeInfo := (Try.prog.info? 104).getD default
theorem i104 {G : Nat} : (En G).i 104 = some inf104 := En_i.trans <| (envOf_i (by decide)).trans (by kernel_rfl)
theorem size104 : inf104.size = 1 := by kernel_rfl
theorem bytes104 : inf104.bytes = 4 := by kernel_rfl
theorem zero104 : inf104.zero = some (.int .i32 0) := by kernel_rfl
noncomputable def inf105 : TypeInfo := (Try.prog.info? 105).getD default
theorem i105 {G : Nat} : (En G).i 105 = some inf105 := En_i.trans <| (envOf_i (by decide)).trans (by kernel_rfl)
theorem size105 : inf105.size = 11 := by kernel_rfl
theorem bytes105 : inf105.bytes = 48 := by kernel_rfl
noncomputable def inf106 : TypeInfo := (Try.prog.info? 106).getD default
theorem i106 {G : Nat} : (En G).i 106 = some inf106 := En_i.trans <| (envOf_i (by decide)).trans (by kernel_rfl)
theorem size106 : inf106.size = 11 := by kernel_rfl
theorem bytes106 : inf106.bytes = 48 := by kernel_rfl
theorem us7 {G : Nat} : (En G).u 7 = Try.prog.underlying 7 := En_u.trans <| envOf_u (by decide)
theorem agg7 {G : Nat} : (En G).agg 7 = some true := by unfold Env.agg; rw [us7, Try.underlying7]
theorem us8 {G : Nat} : (En G).u 8 = Try.prog.underlying 8 := En_u.trans <| envOf_u (by decide)
theorem agg8 {G : Nat} : (En G).agg 8 = some true := by unfold Env.agg; rw [us8, Try.underlying8]
theorem us13 {G : Nat} : (En G).u 13 = Try.prog.underlying 13 := En_u.trans <| envOf_u (by decide)
theorem agg13 {G : Nat} : (En G).agg 13 = some true := by unfold Env.agg; rw [us13, Try.underlying13]
theorem us14 {G : Nat} : (En G).u 14 = Try.prog.underlying 14 := En_u.trans <| envOf_u (by decide)
theorem agg14 {G : Nat} : (En G).agg 14 = some true := by unfold Env.agg; rw [us14, Try.underlying14]
theorem us18 {G : Nat} : (En G).u 18 = Try.prog.underlying 18 := En_u.trans <| envOf_u (by decide)
theorem agg18 {G : Nat} : (En G).agg 18 = some true := by unfold Env.agg; rw [us18, Try.underlying18]
theorem us19 {G : Nat} : (En G).u 19 = Try.prog.underlying 19 := En_u.trans <| envOf_u (by decide)
theorem agg19 {G : Nat} : (En G).agg 19 = some true := by unfold Env.agg; rw [us19, Try.underlying19]
theorem u43 {G : Nat} : (En G).u 43 = some (.array 2 5) := En_u.trans <| (envOf_u (by decide)).trans Try.underlying43
theorem agg43 {G : Nat} : (En G).agg 43 = some true := by unfold Env.agg; rw [u43]
noncomputable def inf43 : TypeInfo := (Try.prog.info? 43).getD default
theorem i43 {G : Nat} : (En G).i 43 = some inf43 := En_i.trans <| (envOf_i (by decide)).trans (by kernel_rfl)
theorem size43 : inf43.size = 2 := by kernel_rfl
theorem bytes43 : inf43.bytes = 2 := by kernel_rfl
theorem us51 {G : Nat} : (En G).u 51 = Try.prog.underlying 51 := En_u.trans <| envOf_u (by decide)
theorem agg51 {G : Nat} : (En G).agg 51 = some true := by unfold Env.agg; rw [us51, Try.underlying51]
theorem us52 {G : Nat} : (En G).u 52 = Try.prog.underlying 52 := En_u.trans <| envOf_u (by decide)
theorem agg52 {G : Nat} : (En G).agg 52 = some true := by unfold Env.agg; rw [us52, Try.underlying52]
theorem us65 {G : Nat} : (En G).u 65 = Try.prog.underlying 65 := En_u.trans <| envOf_u (by decide)
theorem agg65 {G : Nat} : (En G).agg 65 = some true := by unfold Env.agg; rw [us65, Try.underlying65]
theorem us66 {G : Nat} : (En G).u 66 = Try.prog.underlying 66 := En_u.trans <| envOf_u (by decide)
theorem agg66 {G : Nat} : (En G).agg 66 = some true := by unfold Env.agg; rw [us66, Try.underlying66]
theorem us93 {G : Nat} : (En G).u 93 = Try.prog.underlying 93 := En_u.trans <| envOf_u (by decide)
theorem agg93 {G : Nat} : (En G).agg 93 = some true := by unfold Env.agg; rw [us93, Try.underlying93]
theorem us94 {G : Nat} : (En G).u 94 = Try.prog.underlying 94 := En_u.trans <| envOf_u (by decide)
theorem agg94 {G : Nat} : (En G).agg 94 = some true := by unfold Env.agg; rw [us94, Try.underlying94]
theorem u95 {G : Nat} : (En G).u 95 = some (.array 0 16) := En_u.trans <| (envOf_u (by decide)).trans Try.underlying95
theorem agg95 {G : Nat} : (En G).agg 95 = some true := by unfold Env.agg; rw [u95]
noncomputable def inf95 : TypeInfo := (Try.prog.info? 95).getD default
theorem i95 {G : Nat} : (En G).i 95 = some inf95 := En_i.trans <| (envOf_i (by decide)).trans (by kernel_rfl)
theorem size95 : inf95.size = 0 := by kernel_rfl
theorem bytes95 : inf95.bytes = 0 := by kernel_rfl
theorem us96 {G : Nat} : (En G).u 96 = Try.prog.underlying 96 := En_u.trans <| envOf_u (by decide)
theorem agg96 {G : Nat} : (En G).agg 96 = some true := by unfold Env.agg; rw [us96, Try.underlying96]
theorem us97 {G : Nat} : (En G).u 97 = Try.prog.underlying 97 := En_u.trans <| envOf_u (by decide)
theorem agg97 {G : Nat} : (En G).agg 97 = some true := by unfold Env.agg; rw [us97, Try.underlying97]
theorem us105 {G : Nat} : (En G).u 105 = Try.prog.underlying 105 := En_u.trans <| envOf_u (by decide)
theorem agg105 {G : Nat} : (En G).agg 105 = some true := by unfold Env.agg; rw [us105, Try.underlying105]
theorem us106 {G : Nat} : (En G).u 106 = Try.prog.underlying 106 := En_u.trans <| envOf_u (by decide)
theorem agg106 {G : Nat} : (En G).agg 106 = some true := by unfold Env.agg; rw [us106, Try.underlying106]
theorem idxA22 {G b off n c : Nat} {kd : IntKind} {z : Int} (h0 : 0 ≤ z) (h1 : z < n) : idxAddrO (En G) 22 (some (.slice (some ⟨b, off, none⟩) n c)) (some (.int kd z)) = some (.pointer (some ⟨b, off + z.toNat * 1, none⟩)) := by
  rw [idxAddrO_slice u22 i5 h0 h1, size5]
theorem idxA23 {G b off n c : Nat} {kd : IntKind} {z : Int} (h0 : 0 ≤ z) (h1 : z < n) : idxAddrO (En G) 23 (some (.slice (some ⟨b, off, none⟩) n c)) (some (.int kd z)) = some (.pointer (some ⟨b, off + z.toNat * 1, none⟩)) := by
  rw [idxAddrO_slice u23 i3 h0 h1, size3]
theorem idxA58 {G b off n c : Nat} {kd : IntKind} {z : Int} (h0 : 0 ≤ z) (h1 : z < n) : idxAddrO (En G) 58 (some (.slice (some ⟨b, off, none⟩) n c)) (some (.int kd z)) = some (.pointer (some ⟨b, off + z.toNat * 1, none⟩)) := by
  rw [idxAddrO_slice u58 i4 h0 h1, size4]
theorem fld7_0 {G b off : Nat} : fieldAddrO (En G) 7 0 (some (.pointer (some ⟨b, off, none⟩))) = some (.pointer (some ⟨b, off + 0, none⟩)) := by
  simp only [fieldAddrO, evFieldAddr, us7, Try.underlying7, List.getElem?_toArray, List.getElem?_cons_zero, List.getElem?_cons_succ, i2, size2, forceN_eq]
  rfl
theorem fld7_1 {G b off : Nat} : fieldAddrO (En G) 7 1 (some (.pointer (some ⟨b, off, none⟩))) = some (.pointer (some ⟨b, off + 1, none⟩)) := by
  simp only [fieldAddrO, evFieldAddr, us7, Try.underlying7, List.getElem?_toArray, List.getElem?_cons_zero, List.getElem?_cons_succ, i3, size3, forceN_eq]
  rfl
theorem fld7_2 {G b off : Nat} : fieldAddrO (En G) 7 2 (some (.pointer (some ⟨b, off, none⟩))) = some (.pointer (some ⟨b, off + 2, none⟩)) := by
  simp only [fieldAddrO, evFieldAddr, us7, Try.underlying7, List.getElem?_toArray, List.getElem?_cons_zero, List.getElem?_cons_succ, i4, size4, forceN_eq]
  rfl
theorem fld7_3 {G b off : Nat} : fieldAddrO (En G) 7 3 (some (.pointer (some ⟨b, off, none⟩))) = some (.pointer (some ⟨b, off + 3, none⟩)) := by
  simp only [fieldAddrO, evFieldAddr, us7, Try.underlying7, List.getElem?_toArray, List.getElem?_cons_zero, List.getElem?_cons_succ, i6, size6, forceN_eq]
  rfl
theorem fld8_0 {G b off : Nat} : fieldAddrO (En G) 8 0 (some (.pointer (some ⟨b, off, none⟩))) = some (.pointer (some ⟨b, off + 0, none⟩)) := by
  simp only [fieldAddrO, evFieldAddr, us8, Try.underlying8, List.getElem?_toArray, List.getElem?_cons_zero, List.getElem?_cons_succ, i2, size2, forceN_eq]
  rfl
theorem fld8_1 {G b off : Nat} : fieldAddrO (En G) 8 1 (some (.pointer (some ⟨b, off, none⟩))) = some (.pointer (some ⟨b, off + 1, none⟩)) := by
  simp only [fieldAddrO, evFieldAddr, us8, Try.underlying8, List.getElem?_toArray, List.getElem?_cons_zero, List.getElem?_cons_succ, i3, size3, forceN_eq]
  rfl
theorem fld8_2 {G b off : Nat} : fieldAddrO (En G) 8 2 (some (.pointer (some ⟨b, off, none⟩))) = some (.pointer (some ⟨b, off + 2, none⟩)) := by
  simp only [fieldAddrO, evFieldAddr, us8, Try.underlying8, List.getElem?_toArray, List.getElem?_cons_zero, List.getElem?_cons_succ, i4, size4, forceN_eq]
  rfl
theorem fld8_3 {G b off : Nat} : fieldAddrO (En G) 8 3 (some (.pointer (some ⟨b, off, none⟩))) = some (.pointer (some ⟨b, off + 3, none⟩)) := by
  simp only [fieldAddrO, evFieldAddr, us8, Try.underlying8, List.getElem?_toArray, List.getElem?_cons_zero, List.getElem?_cons_succ, i6, size6, forceN_eq]
  rfl
theorem fld13_0 {G b off : Nat} : fieldAddrO (En G) 13 0 (some (.pointer (some ⟨b, off, none⟩))) = some (.pointer (some ⟨b, off + 0, none⟩)) := by
  simp only [fieldAddrO, evFieldAddr, us13, Try.underlying13, List.getElem?_toArray, List.getElem?_cons_zero, List.getElem?_cons_succ, i9, size9, forceN_eq]
  rfl
theorem fld13_1 {G b off : Nat} : fieldAddrO (En G) 13 1 (some (.pointer (some ⟨b, off, none⟩))) = some (.pointer (some ⟨b, off + 1, none⟩)) := by
  simp only [fieldAddrO, evFieldAddr, us13, Try.underlying13, List.getElem?_toArray, List.getElem?_cons_zero, List.getElem?_cons_succ, i12, size12, forceN_eq]
  rfl
theorem fld14_0 {G b off : Nat} : fieldAddrO (En G) 14 0 (some (.pointer (some ⟨b, off, none⟩))) = some (.pointer (some ⟨b, off + 0, none⟩)) := by
  simp only [fieldAddrO, evFieldAddr, us14, Try.underlying14, List.getElem?_toArray, List.getElem?_cons_zero, List.getElem?_cons_succ, i9, size9, forceN_eq]
  rfl
theorem fld14_1 {G b off : Nat} : fieldAddrO (En G) 14 1 (some (.pointer (some ⟨b, off, none⟩))) = some (.pointer (some ⟨b, off + 1, none⟩)) := by
  simp only [fieldAddrO, evFieldAddr, us14, Try.underlying14, List.getElem?_toArray, List.getElem?_cons_zero, List.getElem?_cons_succ, i12, size12, forceN_eq]
  rfl
theorem fld18_0 {G b off : Nat} : fieldAddrO (En G) 18 0 (some (.pointer (some ⟨b, off, none⟩))) = some (.pointer (some ⟨b, off + 0, none⟩)) := by
  simp only [fieldAddrO, evFieldAddr, us18, Try.underlying18, List.getElem?_toArray, List.getElem?_cons_zero, List.getElem?_cons_succ, i17, size17, forceN_eq]
  rfl
theorem fld19_0 {G b off : Nat} : fieldAddrO (En G) 19 0 (some (.pointer (some ⟨b, off, none⟩))) = some (.pointer (some ⟨b, off + 0, none⟩)) := by
  simp only [fieldAddrO, evFieldAddr, us19, Try.underlying19, List.getElem?_toArray, List.getElem?_cons_zero, List.getElem?_cons_succ, i17, size17, forceN_eq]
  rfl
theorem idxP43 {G b off : Nat} {kd : IntKind} {z : Int} (h0 : 0 ≤ z) (h1 : z < 2) : idxAddrO (En G) 43 (some (.pointer (some ⟨b, off, none⟩))) (some (.int kd z)) = some (.pointer (some ⟨b, off + z.toNat * 1, none⟩)) := by
  simp only [idxAddrO, evIndexAddr, u43, idx_ok (n := 2) h0 (by omega), i5, forceN_eq, size5]
theorem fld51_0 {G b off : Nat} : fieldAddrO (En G) 51 0 (some (.pointer (some ⟨b, off, none⟩))) = some (.pointer (some ⟨b, off + 0, none⟩)) := by
  simp only [fieldAddrO, evFieldAddr, us51, Try.underlying51, List.getElem?_toArray, List.getElem?_cons_zero, List.getElem?_cons_succ, i3, size3, forceN_eq]
  rfl
theorem fld51_1 {G b off : Nat} : fieldAddrO (En G) 51 1 (some (.pointer (some ⟨b, off, none⟩))) = some (.pointer (some ⟨b, off + 1, none⟩)) := by
  simp only [fieldAddrO, evFieldAddr, us51, Try.underlying51, List.getElem?_toArray, List.getElem?_cons_zero, List.getElem?_cons_succ, i23, size23, forceN_eq]
  rfl
theorem fld52_0 {G b off : Nat} : fieldAddrO (En G) 52 0 (some (.pointer (some ⟨b, off, none⟩))) = some (.pointer (some ⟨b, off + 0, none⟩)) := by
  simp only [fieldAddrO, evFieldAddr, us52, Try.underlying52, List.getElem?_toArray, List.getElem?_cons_zero, List.getElem?_cons_succ, i3, size3, forceN_eq]
  rfl
theorem fld52_1 {G b off : Nat} : fieldAddrO (En G) 52 1 (some (.pointer (some ⟨b, off, none⟩))) = some (.pointer (some ⟨b, off + 1, none⟩)) := by
  simp only [fieldAddrO, evFieldAddr, us52, Try.underlying52, List.getElem?_toArray, List.getElem?_cons_zero, List.getElem?_cons_succ, i23, size23, forceN_eq]
  rfl
theorem fld65_0 {G b off : Nat} : fieldAddrO (En G) 65 0 (some (.pointer (some ⟨b, off, none⟩))) = some (.pointer (some ⟨b, off + 0, none⟩)) := by
  simp only [fieldAddrO, evFieldAddr, us65, Try.underlying65, List.getElem?_toArray, List.getElem?_cons_zero, List.getElem?_cons_succ, i3, size3, forceN_eq]
  rfl
theorem fld65_1 {G b off : Nat} : fieldAddrO (En G) 65 1 (some (.pointer (some ⟨b, off, none⟩))) = some (.pointer (some ⟨b, off + 1, none⟩)) := by
  simp only [fieldAddrO, evFieldAddr, us65, Try.underlying65, List.getElem?_toArray, List.getElem?_cons_zero, List.getElem?_cons_succ, i3, size3, forceN_eq]
  rfl
theorem fld66_0 {G b off : Nat} : fieldAddrO (En G) 66 0 (some (.pointer (some ⟨b, off, none⟩))) = some (.pointer (some ⟨b, off + 0, none⟩)) := by
  simp only [fieldAddrO, evFieldAddr, us66, Try.underlying66, List.getElem?_toArray, List.getElem?_cons_zero, List.getElem?_cons_succ, i3, size3, forceN_eq]
  rfl
theorem fld66_1 {G b off : Nat} : fieldAddrO (En G) 66 1 (some (.pointer (some ⟨b, off, none⟩))) = some (.pointer (some ⟨b, off + 1, none⟩)) := by
  simp only [fieldAddrO, evFieldAddr, us66, Try.underlying66, List.getElem?_toArray, List.getElem?_cons_zero, List.getElem?_cons_succ, i3, size3, forceN_eq]
  rfl
theorem fld93_0 {G b off : Nat} : fieldAddrO (En G) 93 0 (some (.pointer (some ⟨b, off, none⟩))) = some (.pointer (some ⟨b, off + 0, none⟩)) := by
  simp only [fieldAddrO, evFieldAddr, us93, Try.underlying93, List.getElem?_toArray, List.getElem?_cons_zero, List.getElem?_cons_succ, i17, size17, forceN_eq]
  rfl
theorem fld93_1 {G b off : Nat} : fieldAddrO (En G) 93 1 (some (.pointer (some ⟨b, off, none⟩))) = some (.pointer (some ⟨b, off + 1, none⟩)) := by
  simp only [fieldAddrO, evFieldAddr, us93, Try.underlying93, List.getElem?_toArray, List.getElem?_cons_zero, List.getElem?_cons_succ, i17, size17, forceN_eq]
  rfl
theorem fld93_2 {G b off : Nat} : fieldAddrO (En G) 93 2 (some (.pointer (some ⟨b, off, none⟩))) = some (.pointer (some ⟨b, off + 2, none⟩)) := by
  simp only [fieldAddrO, evFieldAddr, us93, Try.underlying93, List.getElem?_toArray, List.getElem?_cons_zero, List.getElem?_cons_succ, i17, size17, forceN_eq]
  rfl
theorem fld93_3 {G b off : Nat} : fieldAddrO (En G) 93 3 (some (.pointer (some ⟨b, off, none⟩))) = some (.pointer (some ⟨b, off + 3, none⟩)) := by
  simp only [fieldAddrO, evFieldAddr, us93, Try.underlying93, List.getElem?_toArray, List.getElem?_cons_zero, List.getElem?_cons_succ, i9, size9, forceN_eq]
  rfl
theorem fld94_0 {G b off : Nat} : fieldAddrO (En G) 94 0 (some (.pointer (some ⟨b, off, none⟩))) = some (.pointer (some ⟨b, off + 0, none⟩)) := by
  simp only [fieldAddrO, evFieldAddr, us94, Try.underlying94, List.getElem?_toArray, List.getElem?_cons_zero, List.getElem?_cons_succ, i17, size17, forceN_eq]
  rfl
theorem fld94_1 {G b off : Nat} : fieldAddrO (En G) 94 1 (some (.pointer (some ⟨b, off, none⟩))) = some (.pointer (some ⟨b, off + 1, none⟩)) := by
  simp only [fieldAddrO, evFieldAddr, us94, Try.underlying94, List.getElem?_toArray, List.getElem?_cons_zero, List.getElem?_cons_succ, i17, size17, forceN_eq]
  rfl
theorem fld94_2 {G b off : Nat} : fieldAddrO (En G) 94 2 (some (.pointer (some ⟨b, off, none⟩))) = some (.pointer (some ⟨b, off + 2, none⟩)) := by
  simp only [fieldAddrO, evFieldAddr, us94, Try.underlying94, List.getElem?_toArray, List.getElem?_cons_zero, List.getElem?_cons_succ, i17, size17, forceN_eq]
  rfl
theorem fld94_3 {G b off : Nat} : fieldAddrO (En G) 94 3 (some (.pointer (some ⟨b, off, none⟩))) = some (.pointer (some ⟨b, off + 3, none⟩)) := by
  simp only [fieldAddrO, evFieldAddr, us94, Try.underlying94, List.getElem?_toArray, List.getElem?_cons_zero, List.getElem?_cons_succ, i9, size9, forceN_eq]
  rfl
theorem idxP95 {G b off : Nat} {kd : IntKind} {z : Int} (h0 : 0 ≤ z) (h1 : z < 0) : idxAddrO (En G) 95 (some (.pointer (some ⟨b, off, none⟩))) (some (.int kd z)) = some (.pointer (some ⟨b, off + z.toNat * 1, none⟩)) := by
  simp only [idxAddrO, evIndexAddr, u95, idx_ok (n := 0) h0 (by omega), i16, forceN_eq, size16]
theorem fld105_0 {G b off : Nat} : fieldAddrO (En G) 105 0 (some (.pointer (some ⟨b, off, none⟩))) = some (.pointer (some ⟨b, off + 0, none⟩)) := by
  simp only [fieldAddrO, evFieldAddr, us105, Try.underlying105, List.getElem?_toArray, List.getElem?_cons_zero, List.getElem?_cons_succ, i12, size12, forceN_eq]
  rfl
theorem fld105_1 {G b off : Nat} : fieldAddrO (En G) 105 1 (some (.pointer (some ⟨b, off, none⟩))) = some (.pointer (some ⟨b, off + 1, none⟩)) := by
  simp only [fieldAddrO, evFieldAddr, us105, Try.underlying105, List.getElem?_toArray, List.getElem?_cons_zero, List.getElem?_cons_succ, i12, size12, forceN_eq]
  rfl
theorem fld105_2 {G b off : Nat} : fieldAddrO (En G) 105 2 (some (.pointer (some ⟨b, off, none⟩))) = some (.pointer (some ⟨b, off + 2, none⟩)) := by
  simp only [fieldAddrO, evFieldAddr, us105, Try.underlying105, List.getElem?_toArray, List.getElem?_cons_zero, List.getElem?_cons_succ, i42, size42, forceN_eq]
  rfl
theorem fld105_3 {G b off : Nat} : fieldAddrO (En G) 105 3 (some (.pointer (some ⟨b, off, none⟩))) = some (.pointer (some ⟨b, off + 3, none⟩)) := by
  simp only [fieldAddrO, evFieldAddr, us105, Try.underlying105, List.getElem?_toArray, List.getElem?_cons_zero, List.getElem?_cons_succ, i99, size99, forceN_eq]
  rfl
theorem fld105_4 {G b off : Nat} : fieldAddrO (En G) 105 4 (some (.pointer (some ⟨b, off, none⟩))) = some (.pointer (some ⟨b, off + 4, none⟩)) := by
  simp only [fieldAddrO, evFieldAddr, us105, Try.underlying105, List.getElem?_toArray, List.getElem?_cons_zero, List.getElem?_cons_succ, i5, size5, forceN_eq]
  rfl
theorem fld105_5 {G b off : Nat} : fieldAddrO (En G) 105 5 (some (.pointer (some ⟨b, off, none⟩))) = some (.pointer (some ⟨b, off + 5, none⟩)) := by
  simp only [fieldAddrO, evFieldAddr, us105, Try.underlying105, List.getElem?_toArray, List.getElem?_cons_zero, List.getElem?_cons_succ, i5, size5, forceN_eq]
  rfl
theorem fld105_6 {G b off : Nat} : fieldAddrO (En G) 105 6 (some (.pointer (some ⟨b, off, none⟩))) = some (.pointer (some ⟨b, off + 6, none⟩)) := by
  simp only [fieldAddrO, evFieldAddr, us105, Try.underlying105, List.getElem?_toArray, List.getElem?_cons_zero, List.getElem?_cons_succ, i100, size100, forceN_eq]
  rfl
theorem fld105_8 {G b off : Nat} : fieldAddrO (En G) 105 8 (some (.pointer (some ⟨b, off, none⟩))) = some (.pointer (some ⟨b, off + 8, none⟩)) := by
  simp only [fieldAddrO, evFieldAddr, us105, Try.underlying105, List.getElem?_toArray, List.getElem?_cons_zero, List.getElem?_cons_succ, i102, size102, forceN_eq]
  rfl
theorem fld105_9 {G b off : Nat} : fieldAddrO (En G) 105 9 (some (.pointer (some ⟨b, off, none⟩))) = some (.pointer (some ⟨b, off + 9, none⟩)) := by
  simp only [fieldAddrO, evFieldAddr, us105, Try.underlying105, List.getElem?_toArray, List.getElem?_cons_zero, List.getElem?_cons_succ, i103, size103, forceN_eq]
  rfl
theorem fld105_10 {G b off : Nat} : fieldAddrO (En G) 105 10 (some (.pointer (some ⟨b, off, none⟩))) = some (.pointer (some ⟨b, off + 10, none⟩)) := by
  simp only [fieldAddrO, evFieldAddr, us105, Try.underlying105, List.getElem?_toArray, List.getElem?_cons_zero, List.getElem?_cons_succ, i104, size104, forceN_eq]
  rfl
theorem fld106_0 {G b off : Nat} : fieldAddrO (En G) 106 0 (some (.pointer (some ⟨b, off, none⟩))) = some (.pointer (some ⟨b, off + 0, none⟩)) := by
  simp only [fieldAddrO, evFieldAddr, us106, Try.underlying106, List.getElem?_toArray, List.getElem?_cons_zero, List.getElem?_cons_succ, i12, size12, forceN_eq]
  rfl
theorem fld106_1 {G b off : Nat} : fieldAddrO (En G) 106 1 (some (.pointer (some ⟨b, off, none⟩))) = some (.pointer (some ⟨b, off + 1, none⟩)) := by
  simp only [fieldAddrO, evFieldAddr, us106, Try.underlying106, List.getElem?_toArray, List.getElem?_cons_zero, List.getElem?_cons_succ, i12, size12, forceN_eq]
  rfl
theorem fld106_2 {G b off : Nat} : fieldAddrO (En G) 106 2 (some (.pointer (some ⟨b, off, none⟩))) = some (.pointer (some ⟨b, off + 2, none⟩)) := by
  simp only [fieldAddrO, evFieldAddr, us106, Try.underlying106, List.getElem?_toArray, List.getElem?_cons_zero, List.getElem?_cons_succ, i42, size42, forceN_eq]
  rfl
theorem fld106_3 {G b off : Nat} : fieldAddrO (En G) 106 3 (some (.pointer (some ⟨b, off, none⟩))) = some (.pointer (some ⟨b, off + 3, none⟩)) := by
  simp only [fieldAddrO, evFieldAddr, us106, Try.underlying106, List.getElem?_toArray, List.getElem?_cons_zero, List.getElem?_cons_succ, i99, size99, forceN_eq]
  rfl
theorem fld106_4 {G b off : Nat} : fieldAddrO (En G) 106 4 (some (.pointer (some ⟨b, off, none⟩))) = some (.pointer (some ⟨b, off + 4, none⟩)) := by
  simp only [fieldAddrO, evFieldAddr, us106, Try.underlying106, List.getElem?_toArray, List.getElem?_cons_zero, List.getElem?_cons_succ, i5, size5, forceN_eq]
  rfl
theorem fld106_5 {G b off : Nat} : fieldAddrO (En G) 106 5 (some (.pointer (some ⟨b, off, none⟩))) = some (.pointer (some ⟨b, off + 5, none⟩)) := by
  simp only [fieldAddrO, evFieldAddr, us106, Try.underlying106, List.getElem?_toArray, List.getElem?_cons_zero, List.getElem?_cons_succ, i5, size5, forceN_eq]
  rfl
theorem fld106_6 {G b off : Nat} : fieldAddrO (En G) 106 6 (some (.pointer (some ⟨b, off, none⟩))) = some (.pointer (some ⟨b, off + 6, none⟩)) := by
  simp only [fieldAddrO, evFieldAddr, us106, Try.underlying106, List.getElem?_toArray, List.getElem?_cons_zero, List.getElem?_cons_succ, i100, size100, forceN_eq]
  rfl
theorem fld106_8 {G b off : Nat} : fieldAddrO (En G) 106 8 (some (.pointer (some ⟨b, off, none⟩))) = some (.pointer (some ⟨b, off + 8, none⟩)) := by
  simp only [fieldAddrO, evFieldAddr, us106, Try.underlying106, List.getElem?_toArray, List.getElem?_cons_zero, List.getElem?_cons_succ, i102, size102, forceN_eq]
  rfl
theorem fld106_9 {G b off : Nat} : fieldAddrO (En G) 106 9 (some (.pointer (some ⟨b, off, none⟩))) = some (.pointer (some ⟨b, off + 9, none⟩)) := by
  simp only [fieldAddrO, evFieldAddr, us106, Try.underlying106, List.getElem?_toArray, List.getElem?_cons_zero, List.getElem?_cons_succ, i103, size103, forceN_eq]
  rfl
theorem fld106_10 {G b off : Nat} : fieldAddrO (En G) 106 10 (some (.pointer (some ⟨b, off, none⟩))) = some (.pointer (some ⟨b, off + 10, none⟩)) := by
  simp only [fieldAddrO, evFieldAddr, us106, Try.underlying106, List.getElem?_toArray, List.getElem?_cons_zero, List.getElem?_cons_succ, i104, size104, forceN_eq]
  rfl
end
end Go.Proofs.Ytlhpjnopkfndfaa.Ev
