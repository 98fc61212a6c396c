/- Facts of the program's types, for symbolic runs. By program. -/
import Derived.Test.YthankillfhmfkaaGreatDoorProg
import Derived.Test.YthankillfhmfkaaGreatDoorPmSS
import Derived.Test.YthankillfhmfkaaGreatDoorPmsTabs
import Derived.Test.YthankillfhmfkaaGreatDoorPmOr
import Derived.KernelRfl
set_option linter.unusedSimpArgs false
namespace Go.Proofs.YthankillfhmfkaaGreatDoor.Ev
open Go Go.Proofs
noncomputable section
noncomputable def orcs : Tr (List Value → H → Option Value) := Tr.put (Tr.put (Tr.put (Tr.e) 124 gItoa) 125 gRepeat) 127 gJoin
noncomputable def En (G : Nat) : Env := withOrc (withKnown (envOf Tryz.prog 249 4 G) (Tr.put .e 24 (.bool true)) tabs (Tr.put .e 111 0)) orcs
theorem En_u {G t : Nat} : (En G).u t = (envOf Tryz.prog 249 4 G).u t := withOrc_u.trans withKnown_u
theorem En_i {G t : Nat} : (En G).i t = (envOf Tryz.prog 249 4 G).i t := withOrc_i.trans withKnown_i
theorem En_G {G : Nat} : (En G).G = G := withOrc_G.trans withKnown_G
instance {G : Nat} : NoFz (En G) := ⟨withOrc_fzl.trans (withKnown_fzl.trans envOf_fzl)⟩
theorem En_kn {G f : Nat} (h : f ≠ 24) : (En G).known.get f = none := by
  have e : (En G).known = Tr.put Tr.e 24 (Value.bool true) := withOrc_known.trans withKnown_known
  rw [e, Tr.get_put, if_neg h]
  rfl
theorem En_orc {G : Nat} : (En G).orc = orcs := withOrc_orc
theorem En_known {G f : Nat} (h : f ≠ 24 ∧ f ≠ 124 ∧ f ≠ 125 ∧ f ≠ 127) : (En G).known.get f = none ∧ (En G).orc.get f = none := by
  refine ⟨En_kn h.1, ?_⟩
  rw [En_orc]
  unfold orcs
  try obtain ⟨_, h⟩ := h
  simp only [Tr.get_put, Tr.get_e, h, if_false]
theorem En_lives {G : Nat} : (En G).known.get 24 = some (.bool true) := by
  have e : (En G).known = Tr.put Tr.e 24 (Value.bool true) := withOrc_known.trans withKnown_known
  rw [e, Tr.get_put, if_pos rfl]
theorem mixed : Tryz.prog.follows .mixedOrders = true := by kernel_rfl
theorem En_f {G : Nat} {f : FuncId} : (En G).fns.get f = Tryz.prog.funcs[f]? := by
  have : (En G).fns = (envOf Tryz.prog 249 4 G).fns := withOrc_f.trans withKnown_f
  rw [this]; exact envOf_f
theorem u2 {G : Nat} : (En G).u 2 = some (.int .i64) := En_u.trans <| (envOf_u (by decide)).trans Tryz.underlying2
noncomputable def inf2 : TypeInfo := (Tryz.prog.info? 2).getD default
theorem i2 {G : Nat} : (En G).i 2 = some inf2 := En_i.trans <| (envOf_i (by decide)).trans (by kernel_rfl)
theorem u3 {G : Nat} : (En G).u 3 = some (.int .i64) := En_u.trans <| (envOf_u (by decide)).trans Tryz.underlying3
theorem agg3 {G : Nat} : (En G).agg 3 = some false := by unfold Env.agg; rw [u3]
theorem load3 {G : Nat} {B : Tr Blk} {b off : Nat} : loadO (En G) 3 B (some (.pointer (some ⟨b, off, none⟩))) = loadv B b off := loadO_one agg3
noncomputable def inf3 : TypeInfo := (Tryz.prog.info? 3).getD default
theorem i3 {G : Nat} : (En G).i 3 = some inf3 := En_i.trans <| (envOf_i (by decide)).trans (by kernel_rfl)
theorem size3 : inf3.size = 1 := by kernel_rfl
theorem bytes3 : inf3.bytes = 8 := by kernel_rfl
theorem zero3 : inf3.zero = some (.int .i64 0) := by kernel_rfl
theorem u4 {G : Nat} : (En G).u 4 = some (.bool) := En_u.trans <| (envOf_u (by decide)).trans Tryz.underlying4
theorem agg4 {G : Nat} : (En G).agg 4 = some false := by unfold Env.agg; rw [u4]
theorem load4 {G : Nat} {B : Tr Blk} {b off : Nat} : loadO (En G) 4 B (some (.pointer (some ⟨b, off, none⟩))) = loadv B b off := loadO_one agg4
noncomputable def inf4 : TypeInfo := (Tryz.prog.info? 4).getD default
theorem i4 {G : Nat} : (En G).i 4 = some inf4 := En_i.trans <| (envOf_i (by decide)).trans (by kernel_rfl)
theorem size4 : inf4.size = 1 := by kernel_rfl
theorem u5 {G : Nat} : (En G).u 5 = some (.int .u8) := En_u.trans <| (envOf_u (by decide)).trans Tryz.underlying5
noncomputable def inf5 : TypeInfo := (Tryz.prog.info? 5).getD default
theorem i5 {G : Nat} : (En G).i 5 = some inf5 := En_i.trans <| (envOf_i (by decide)).trans (by kernel_rfl)
theorem size5 : inf5.size = 1 := by kernel_rfl
theorem zero5 : inf5.zero = some (.int .u8 0) := by kernel_rfl
theorem u6 {G : Nat} : (En G).u 6 = some (.int .u8) := En_u.trans <| (envOf_u (by decide)).trans Tryz.underlying6
noncomputable def inf8 : TypeInfo := (Tryz.prog.info? 8).getD default
theorem i8 {G : Nat} : (En G).i 8 = some inf8 := En_i.trans <| (envOf_i (by decide)).trans (by kernel_rfl)
theorem u9 {G : Nat} : (En G).u 9 = some (.string) := En_u.trans <| (envOf_u (by decide)).trans Tryz.underlying9
theorem agg9 {G : Nat} : (En G).agg 9 = some false := by unfold Env.agg; rw [u9]
theorem load9 {G : Nat} {B : Tr Blk} {b off : Nat} : loadO (En G) 9 B (some (.pointer (some ⟨b, off, none⟩))) = loadv B b off := loadO_one agg9
noncomputable def inf9 : TypeInfo := (Tryz.prog.info? 9).getD default
theorem i9 {G : Nat} : (En G).i 9 = some inf9 := En_i.trans <| (envOf_i (by decide)).trans (by kernel_rfl)
theorem size9 : inf9.size = 1 := by kernel_rfl
theorem bytes9 : inf9.bytes = 16 := by kernel_rfl
theorem zero9 : inf9.zero = some (.string .empty) := by kernel_rfl
theorem u10 {G : Nat} : (En G).u 10 = some (.string) := En_u.trans <| (envOf_u (by decide)).trans Tryz.underlying10
theorem u16 {G : Nat} : (En G).u 16 = some (.pointer 241) := En_u.trans <| (envOf_u (by decide)).trans Tryz.underlying16
noncomputable def inf16 : TypeInfo := (Tryz.prog.info? 16).getD default
theorem i16 {G : Nat} : (En G).i 16 = some inf16 := En_i.trans <| (envOf_i (by decide)).trans (by kernel_rfl)
theorem u21 {G : Nat} : (En G).u 21 = some (.int .i32) := En_u.trans <| (envOf_u (by decide)).trans Tryz.underlying21
theorem u22 {G : Nat} : (En G).u 22 = some (.slice 104) := En_u.trans <| (envOf_u (by decide)).trans Tryz.underlying22
theorem agg22 {G : Nat} : (En G).agg 22 = some false := by unfold Env.agg; rw [u22]
theorem load22 {G : Nat} {B : Tr Blk} {b off : Nat} : loadO (En G) 22 B (some (.pointer (some ⟨b, off, none⟩))) = loadv B b off := loadO_one agg22
noncomputable def inf22 : TypeInfo := (Tryz.prog.info? 22).getD default
theorem i22 {G : Nat} : (En G).i 22 = some inf22 := En_i.trans <| (envOf_i (by decide)).trans (by kernel_rfl)
theorem size22 : inf22.size = 1 := by kernel_rfl
theorem len22 {G n c : Nat} {A : Option Addr} {B : Tr Blk} : lenO (En G) B 22 (some (.slice A n c)) = some (.int .i64 n) := lenO_slice u22
noncomputable def inf24 : TypeInfo := (Tryz.prog.info? 24).getD default
theorem i24 {G : Nat} : (En G).i 24 = some inf24 := En_i.trans <| (envOf_i (by decide)).trans (by kernel_rfl)
theorem size24 : inf24.size = 2 := by kernel_rfl
theorem u28 {G : Nat} : (En G).u 28 = some (.slice 9) := En_u.trans <| (envOf_u (by decide)).trans Tryz.underlying28
theorem len28 {G n c : Nat} {A : Option Addr} {B : Tr Blk} : lenO (En G) B 28 (some (.slice A n c)) = some (.int .i64 n) := lenO_slice u28
theorem u34 {G : Nat} : (En G).u 34 = some (.slice 3) := En_u.trans <| (envOf_u (by decide)).trans Tryz.underlying34
theorem agg34 {G : Nat} : (En G).agg 34 = some false := by unfold Env.agg; rw [u34]
theorem load34 {G : Nat} {B : Tr Blk} {b off : Nat} : loadO (En G) 34 B (some (.pointer (some ⟨b, off, none⟩))) = loadv B b off := loadO_one agg34
noncomputable def inf34 : TypeInfo := (Tryz.prog.info? 34).getD default
theorem i34 {G : Nat} : (En G).i 34 = some inf34 := En_i.trans <| (envOf_i (by decide)).trans (by kernel_rfl)
theorem size34 : inf34.size = 1 := by kernel_rfl
theorem len34 {G n c : Nat} {A : Option Addr} {B : Tr Blk} : lenO (En G) B 34 (some (.slice A n c)) = some (.int .i64 n) := lenO_slice u34
noncomputable def inf60 : TypeInfo := (Tryz.prog.info? 60).getD default
theorem i60 {G : Nat} : (En G).i 60 = some inf60 := En_i.trans <| (envOf_i (by decide)).trans (by kernel_rfl)
theorem size60 : inf60.size = 2 := by kernel_rfl
theorem bytes60 : inf60.bytes = 32 := by kernel_rfl
noncomputable def inf64 : TypeInfo := (Tryz.prog.info? 64).getD default
theorem i64 {G : Nat} : (En G).i 64 = some inf64 := En_i.trans <| (envOf_i (by decide)).trans (by kernel_rfl)
theorem size64 : inf64.size = 4 := by kernel_rfl
theorem u73 {G : Nat} : (En G).u 73 = some (.slice 5) := En_u.trans <| (envOf_u (by decide)).trans Tryz.underlying73
noncomputable def inf95 : TypeInfo := (Tryz.prog.info? 95).getD default
theorem i95 {G : Nat} : (En G).i 95 = some inf95 := En_i.trans <| (envOf_i (by decide)).trans (by kernel_rfl)
theorem size95 : inf95.size = 37 := by kernel_rfl
noncomputable def inf104 : TypeInfo := (Tryz.prog.info? 104).getD default
theorem i104 {G : Nat} : (En G).i 104 = some inf104 := En_i.trans <| (envOf_i (by decide)).trans (by kernel_rfl)
theorem size104 : inf104.size = 2 := by kernel_rfl
theorem bytes104 : inf104.bytes = 16 := by kernel_rfl
theorem u110 {G : Nat} : (En G).u 110 = some (.slice 168) := En_u.trans <| (envOf_u (by decide)).trans Tryz.underlying110
theorem agg110 {G : Nat} : (En G).agg 110 = some false := by unfold Env.agg; rw [u110]
theorem load110 {G : Nat} {B : Tr Blk} {b off : Nat} : loadO (En G) 110 B (some (.pointer (some ⟨b, off, none⟩))) = loadv B b off := loadO_one agg110
noncomputable def inf110 : TypeInfo := (Tryz.prog.info? 110).getD default
theorem i110 {G : Nat} : (En G).i 110 = some inf110 := En_i.trans <| (envOf_i (by decide)).trans (by kernel_rfl)
theorem size110 : inf110.size = 1 := by kernel_rfl
theorem len110 {G n c : Nat} {A : Option Addr} {B : Tr Blk} : lenO (En G) B 110 (some (.slice A n c)) = some (.int .i64 n) := lenO_slice u110
noncomputable def inf112 : TypeInfo := (Tryz.prog.info? 112).getD default
theorem i112 {G : Nat} : (En G).i 112 = some inf112 := En_i.trans <| (envOf_i (by decide)).trans (by kernel_rfl)
theorem size112 : inf112.size = 3 := by kernel_rfl
theorem bytes112 : inf112.bytes = 56 := by kernel_rfl
theorem u120 {G : Nat} : (En G).u 120 = some (.slice 121) := En_u.trans <| (envOf_u (by decide)).trans Tryz.underlying120
theorem u121 {G : Nat} : (En G).u 121 = some (.slice 60) := En_u.trans <| (envOf_u (by decide)).trans Tryz.underlying121
theorem agg121 {G : Nat} : (En G).agg 121 = some false := by unfold Env.agg; rw [u121]
theorem load121 {G : Nat} {B : Tr Blk} {b off : Nat} : loadO (En G) 121 B (some (.pointer (some ⟨b, off, none⟩))) = loadv B b off := loadO_one agg121
noncomputable def inf121 : TypeInfo := (Tryz.prog.info? 121).getD default
theorem i121 {G : Nat} : (En G).i 121 = some inf121 := En_i.trans <| (envOf_i (by decide)).trans (by kernel_rfl)
theorem size121 : inf121.size = 1 := by kernel_rfl
theorem bytes121 : inf121.bytes = 24 := by kernel_rfl
theorem zero121 : inf121.zero = some (.slice none 0 0) := by kernel_rfl
theorem u140 {G : Nat} : (En G).u 140 = some (.slice 112) := En_u.trans <| (envOf_u (by decide)).trans Tryz.underlying140
theorem u145 {G : Nat} : (En G).u 145 = some (.int .u64) := En_u.trans <| (envOf_u (by decide)).trans Tryz.underlying145
theorem u159 {G : Nat} : (En G).u 159 = some (.int .u64) := En_u.trans <| (envOf_u (by decide)).trans Tryz.underlying159
theorem u168 {G : Nat} : (En G).u 168 = some (.int .u32) := En_u.trans <| (envOf_u (by decide)).trans Tryz.underlying168
theorem agg168 {G : Nat} : (En G).agg 168 = some false := by unfold Env.agg; rw [u168]
theorem load168 {G : Nat} {B : Tr Blk} {b off : Nat} : loadO (En G) 168 B (some (.pointer (some ⟨b, off, none⟩))) = loadv B b off := loadO_one agg168
noncomputable def inf168 : TypeInfo := (Tryz.prog.info? 168).getD default
theorem i168 {G : Nat} : (En G).i 168 = some inf168 := En_i.trans <| (envOf_i (by decide)).trans (by kernel_rfl)
theorem size168 : inf168.size = 1 := by kernel_rfl
theorem bytes168 : inf168.bytes = 4 := by kernel_rfl
theorem zero168 : inf168.zero = some (.int .u32 0) := by kernel_rfl
theorem us24 {G : Nat} : (En G).u 24 = Tryz.prog.underlying 24 := En_u.trans <| envOf_u (by decide)
theorem agg24 {G : Nat} : (En G).agg 24 = some true := by unfold Env.agg; rw [us24, Tryz.underlying24]
theorem us60 {G : Nat} : (En G).u 60 = Tryz.prog.underlying 60 := En_u.trans <| envOf_u (by decide)
theorem agg60 {G : Nat} : (En G).agg 60 = some true := by unfold Env.agg; rw [us60, Tryz.underlying60]
theorem us64 {G : Nat} : (En G).u 64 = Tryz.prog.underlying 64 := En_u.trans <| envOf_u (by decide)
theorem agg64 {G : Nat} : (En G).agg 64 = some true := by unfold Env.agg; rw [us64, Tryz.underlying64]
theorem u92 {G : Nat} : (En G).u 92 = some (.array 6 4) := En_u.trans <| (envOf_u (by decide)).trans Tryz.underlying92
noncomputable def inf92 : TypeInfo := (Tryz.prog.info? 92).getD default
theorem i92 {G : Nat} : (En G).i 92 = some inf92 := En_i.trans <| (envOf_i (by decide)).trans (by kernel_rfl)
theorem size92 : inf92.size = 6 := by kernel_rfl
theorem u93 {G : Nat} : (En G).u 93 = some (.array 6 92) := En_u.trans <| (envOf_u (by decide)).trans Tryz.underlying93
noncomputable def inf93 : TypeInfo := (Tryz.prog.info? 93).getD default
theorem i93 {G : Nat} : (En G).i 93 = some inf93 := En_i.trans <| (envOf_i (by decide)).trans (by kernel_rfl)
theorem size93 : inf93.size = 36 := by kernel_rfl
theorem us95 {G : Nat} : (En G).u 95 = Tryz.prog.underlying 95 := En_u.trans <| envOf_u (by decide)
theorem agg95 {G : Nat} : (En G).agg 95 = some true := by unfold Env.agg; rw [us95, Tryz.underlying95]
theorem us104 {G : Nat} : (En G).u 104 = Tryz.prog.underlying 104 := En_u.trans <| envOf_u (by decide)
theorem agg104 {G : Nat} : (En G).agg 104 = some true := by unfold Env.agg; rw [us104, Tryz.underlying104]
theorem us112 {G : Nat} : (En G).u 112 = Tryz.prog.underlying 112 := En_u.trans <| envOf_u (by decide)
theorem agg112 {G : Nat} : (En G).agg 112 = some true := by unfold Env.agg; rw [us112, Tryz.underlying112]
noncomputable def inf233 : TypeInfo := (Tryz.prog.info? 233).getD default
theorem i233 {G : Nat} : (En G).i 233 = some inf233 := En_i.trans <| (envOf_i (by decide)).trans (by kernel_rfl)
theorem idxA22 {G b off n c : Nat} {kd : IntKind} {z : Int} (h0 : 0 ≤ z) (h1 : z < n) : idxAddrO (En G) 22 (some (.slice (some ⟨b, off, none⟩) n c)) (some (.int kd z)) = some (.pointer (some ⟨b, off + z.toNat * 2, none⟩)) := by
  rw [idxAddrO_slice u22 i104 h0 h1, size104]
theorem idxA28 {G b off n c : Nat} {kd : IntKind} {z : Int} (h0 : 0 ≤ z) (h1 : z < n) : idxAddrO (En G) 28 (some (.slice (some ⟨b, off, none⟩) n c)) (some (.int kd z)) = some (.pointer (some ⟨b, off + z.toNat * 1, none⟩)) := by
  rw [idxAddrO_slice u28 i9 h0 h1, size9]
theorem idxA34 {G b off n c : Nat} {kd : IntKind} {z : Int} (h0 : 0 ≤ z) (h1 : z < n) : idxAddrO (En G) 34 (some (.slice (some ⟨b, off, none⟩) n c)) (some (.int kd z)) = some (.pointer (some ⟨b, off + z.toNat * 1, none⟩)) := by
  rw [idxAddrO_slice u34 i3 h0 h1, size3]
theorem idxA110 {G b off n c : Nat} {kd : IntKind} {z : Int} (h0 : 0 ≤ z) (h1 : z < n) : idxAddrO (En G) 110 (some (.slice (some ⟨b, off, none⟩) n c)) (some (.int kd z)) = some (.pointer (some ⟨b, off + z.toNat * 1, none⟩)) := by
  rw [idxAddrO_slice u110 i168 h0 h1, size168]
theorem idxA120 {G b off n c : Nat} {kd : IntKind} {z : Int} (h0 : 0 ≤ z) (h1 : z < n) : idxAddrO (En G) 120 (some (.slice (some ⟨b, off, none⟩) n c)) (some (.int kd z)) = some (.pointer (some ⟨b, off + z.toNat * 1, none⟩)) := by
  rw [idxAddrO_slice u120 i121 h0 h1, size121]
theorem idxA121 {G b off n c : Nat} {kd : IntKind} {z : Int} (h0 : 0 ≤ z) (h1 : z < n) : idxAddrO (En G) 121 (some (.slice (some ⟨b, off, none⟩) n c)) (some (.int kd z)) = some (.pointer (some ⟨b, off + z.toNat * 2, none⟩)) := by
  rw [idxAddrO_slice u121 i60 h0 h1, size60]
theorem idxA140 {G b off n c : Nat} {kd : IntKind} {z : Int} (h0 : 0 ≤ z) (h1 : z < n) : idxAddrO (En G) 140 (some (.slice (some ⟨b, off, none⟩) n c)) (some (.int kd z)) = some (.pointer (some ⟨b, off + z.toNat * 3, none⟩)) := by
  rw [idxAddrO_slice u140 i112 h0 h1, size112]
theorem fld24_0 {G b off : Nat} : fieldAddrO (En G) 24 0 (some (.pointer (some ⟨b, off, none⟩))) = some (.pointer (some ⟨b, off + 0, none⟩)) := by
  simp only [fieldAddrO, evFieldAddr, us24, Tryz.underlying24, List.getElem?_toArray, List.getElem?_cons_zero, List.getElem?_cons_succ, i3, size3, forceN_eq]
  rfl
theorem fld24_1 {G b off : Nat} : fieldAddrO (En G) 24 1 (some (.pointer (some ⟨b, off, none⟩))) = some (.pointer (some ⟨b, off + 1, none⟩)) := by
  simp only [fieldAddrO, evFieldAddr, us24, Tryz.underlying24, List.getElem?_toArray, List.getElem?_cons_zero, List.getElem?_cons_succ, i22, size22, forceN_eq]
  rfl
theorem fld60_0 {G b off : Nat} : fieldAddrO (En G) 60 0 (some (.pointer (some ⟨b, off, none⟩))) = some (.pointer (some ⟨b, off + 0, none⟩)) := by
  simp only [fieldAddrO, evFieldAddr, us60, Tryz.underlying60, List.getElem?_toArray, List.getElem?_cons_zero, List.getElem?_cons_succ, i4, size4, forceN_eq]
  rfl
theorem fld60_1 {G b off : Nat} : fieldAddrO (En G) 60 1 (some (.pointer (some ⟨b, off, none⟩))) = some (.pointer (some ⟨b, off + 1, none⟩)) := by
  simp only [fieldAddrO, evFieldAddr, us60, Tryz.underlying60, List.getElem?_toArray, List.getElem?_cons_zero, List.getElem?_cons_succ, i34, size34, forceN_eq]
  rfl
theorem fld64_0 {G b off : Nat} : fieldAddrO (En G) 64 0 (some (.pointer (some ⟨b, off, none⟩))) = some (.pointer (some ⟨b, off + 0, none⟩)) := by
  simp only [fieldAddrO, evFieldAddr, us64, Tryz.underlying64, List.getElem?_toArray, List.getElem?_cons_zero, List.getElem?_cons_succ, i60, size60, forceN_eq]
  rfl
theorem fld64_1 {G b off : Nat} : fieldAddrO (En G) 64 1 (some (.pointer (some ⟨b, off, none⟩))) = some (.pointer (some ⟨b, off + 2, none⟩)) := by
  simp only [fieldAddrO, evFieldAddr, us64, Tryz.underlying64, List.getElem?_toArray, List.getElem?_cons_zero, List.getElem?_cons_succ, i60, size60, forceN_eq]
  rfl
theorem idxP92 {G b off : Nat} {kd : IntKind} {z : Int} (h0 : 0 ≤ z) (h1 : z < 6) : idxAddrO (En G) 92 (some (.pointer (some ⟨b, off, none⟩))) (some (.int kd z)) = some (.pointer (some ⟨b, off + z.toNat * 1, none⟩)) := by
  simp only [idxAddrO, evIndexAddr, u92, idx_ok (n := 6) h0 (by omega), i4, forceN_eq, size4]
theorem idxP93 {G b off : Nat} {kd : IntKind} {z : Int} (h0 : 0 ≤ z) (h1 : z < 6) : idxAddrO (En G) 93 (some (.pointer (some ⟨b, off, none⟩))) (some (.int kd z)) = some (.pointer (some ⟨b, off + z.toNat * 6, none⟩)) := by
  simp only [idxAddrO, evIndexAddr, u93, idx_ok (n := 6) h0 (by omega), i92, forceN_eq, size92]
theorem fld95_0 {G b off : Nat} : fieldAddrO (En G) 95 0 (some (.pointer (some ⟨b, off, none⟩))) = some (.pointer (some ⟨b, off + 0, none⟩)) := by
  simp only [fieldAddrO, evFieldAddr, us95, Tryz.underlying95, List.getElem?_toArray, List.getElem?_cons_zero, List.getElem?_cons_succ, i3, size3, forceN_eq]
  rfl
theorem fld95_1 {G b off : Nat} : fieldAddrO (En G) 95 1 (some (.pointer (some ⟨b, off, none⟩))) = some (.pointer (some ⟨b, off + 1, none⟩)) := by
  simp only [fieldAddrO, evFieldAddr, us95, Tryz.underlying95, List.getElem?_toArray, List.getElem?_cons_zero, List.getElem?_cons_succ, i93, size93, forceN_eq]
  rfl
theorem fld104_0 {G b off : Nat} : fieldAddrO (En G) 104 0 (some (.pointer (some ⟨b, off, none⟩))) = some (.pointer (some ⟨b, off + 0, none⟩)) := by
  simp only [fieldAddrO, evFieldAddr, us104, Tryz.underlying104, List.getElem?_toArray, List.getElem?_cons_zero, List.getElem?_cons_succ, i3, size3, forceN_eq]
  rfl
theorem fld104_1 {G b off : Nat} : fieldAddrO (En G) 104 1 (some (.pointer (some ⟨b, off, none⟩))) = some (.pointer (some ⟨b, off + 1, none⟩)) := by
  simp only [fieldAddrO, evFieldAddr, us104, Tryz.underlying104, List.getElem?_toArray, List.getElem?_cons_zero, List.getElem?_cons_succ, i3, size3, forceN_eq]
  rfl
theorem fld112_0 {G b off : Nat} : fieldAddrO (En G) 112 0 (some (.pointer (some ⟨b, off, none⟩))) = some (.pointer (some ⟨b, off + 0, none⟩)) := by
  simp only [fieldAddrO, evFieldAddr, us112, Tryz.underlying112, List.getElem?_toArray, List.getElem?_cons_zero, List.getElem?_cons_succ, i4, size4, forceN_eq]
  rfl
theorem fld112_1 {G b off : Nat} : fieldAddrO (En G) 112 1 (some (.pointer (some ⟨b, off, none⟩))) = some (.pointer (some ⟨b, off + 1, none⟩)) := by
  simp only [fieldAddrO, evFieldAddr, us112, Tryz.underlying112, List.getElem?_toArray, List.getElem?_cons_zero, List.getElem?_cons_succ, i110, size110, forceN_eq]
  rfl
theorem fld112_2 {G b off : Nat} : fieldAddrO (En G) 112 2 (some (.pointer (some ⟨b, off, none⟩))) = some (.pointer (some ⟨b, off + 2, none⟩)) := by
  simp only [fieldAddrO, evFieldAddr, us112, Tryz.underlying112, List.getElem?_toArray, List.getElem?_cons_zero, List.getElem?_cons_succ, i110, size110, forceN_eq]
  rfl
end
end Go.Proofs.YthankillfhmfkaaGreatDoor.Ev
