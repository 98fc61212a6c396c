/- Facts of the program's types, for symbolic runs. By program. -/
import Derived.Test.YthankillfhmfkaaGreatDoorProg
import Derived.Test.YthankillfhmfkaaGreatDoorPmSS
import Derived.Test.YthankillfhmfkaaGreatDoorPmsTabs
import Derived.Test.YthankillfhmfkaaGreatDoorPmOr
import Derived.KernelRfl
set_option linter.unusedSimpArgs false
namespace Go.Proofs.YthankillfhmfkaaGreatDoor.Ev
open Go Go.Proofs
noncomputable section

/-- the program's types and functions; so many blocks are only read -/
noncomputable def orcs : Tr (List Value → H → Option Value) := Tr.put (Tr.put (Tr.put (Tr.e) 124 gItoa) 125 gRepeat) 127 gJoin
noncomputable def En (G : Nat) : Env := withOrc (withKnown (envOf Tryz.prog 249 4 G) (Tr.put .e 24 (.bool true)) tabs (Tr.put .e 111 0)) orcs
theorem En_u {G t : Nat} : (En G).u t = (envOf Tryz.prog 249 4 G).u t := withOrc_u.trans withKnown_u
theorem En_i {G t : Nat} : (En G).i t = (envOf Tryz.prog 249 4 G).i t := withOrc_i.trans withKnown_i
theorem En_G {G : Nat} : (En G).G = G := withOrc_G.trans withKnown_G
theorem En_iters {G : Nat} : (En G).iters = Tr.put Tr.e 111 0 := withOrc_iters.trans withKnown_iters
instance {G : Nat} : NoFz (En G) := ⟨withOrc_fzl.trans (withKnown_fzl.trans envOf_fzl)⟩
theorem En_kn {G f : Nat} (h : f ≠ 24) : (En G).known.get f = none := by
  have e : (En G).known = Tr.put Tr.e 24 (Value.bool true) := withOrc_known.trans withKnown_known
  rw [e, Tr.get_put, if_neg h]
  rfl
theorem En_orc {G : Nat} : (En G).orc = orcs := withOrc_orc
theorem En_known {G f : Nat} (h : f ≠ 24 ∧ f ≠ 124 ∧ f ≠ 125 ∧ f ≠ 127) : (En G).known.get f = none ∧ (En G).orc.get f = none := by
  refine ⟨En_kn h.1, ?_⟩
  rw [En_orc]
  unfold orcs
  try obtain ⟨_, h⟩ := h
  simp only [Tr.get_put, Tr.get_e, h, if_false]
theorem En_lives {G : Nat} : (En G).known.get 24 = some (.bool true) := by
  have e : (En G).known = Tr.put Tr.e 24 (Value.bool true) := withOrc_known.trans withKnown_known
  rw [e, Tr.get_put, if_pos rfl]


theorem mixed : Tryz.prog.follows .mixedOrders = true := by kernel_rfl
theorem En_f {G : Nat} {f : FuncId} : (En G).fns.get f = Tryz.prog.funcs[f]? := by
  have : (En G).fns = (envOf Tryz.prog 249 4 G).fns := withOrc_f.trans withKnown_f
  rw [this]; exact envOf_f

theorem u2 {G : Nat} : (En G).u 2 = some (.int .i64) := En_u.trans <| (envOf_u (by decide)).trans Tryz.underlying2
noncomputable def inf2 : TypeInfo := (Tryz.prog.info? 2).getD default
theorem i2 {G : Nat} : (En G).i 2 = some inf2 := En_i.trans <| (envOf_i (by decide)).trans (by kernel_rfl)
theorem u3 {G : Nat} : (En G).u 3 = some (.int .i64) := En_u.trans <| (envOf_u (by decide)).trans Tryz.underlying3
theorem agg3 {G : Nat} : (En G).agg 3 = some false := by unfold Env.agg; rw [u3]
theorem load3 {G : Nat} {B : Tr Blk} {b off : Nat} : loadO (En G) 3 B (some (.pointer (some ⟨b, off, none⟩))) = loadv B b off := loadO_one agg3
noncomputable def inf3 : TypeInfo := (Tryz.prog.info? 3).getD default
theorem i3 {G : Nat} : (En G).i 3 = some inf3 := En_i.trans <| (envOf_i (by decide)).trans (by kernel_rfl)
theorem size3 : inf3.size = 1 := by kernel_rfl
theorem zero3 : inf3.zero = some (.int .i64 0) := by kernel_rfl
theorem u4 {G : Nat} : (En G).u 4 = some (.bool) := En_u.trans <| (envOf_u (by decide)).trans Tryz.underlying4
theorem agg4 {G : Nat} : (En G).agg 4 = some false := by unfold Env.agg; rw [u4]
theorem load4 {G : Nat} {B : Tr Blk} {b off : Nat} : loadO (En G) 4 B (some (.pointer (some ⟨b, off, none⟩))) = loadv B b off := loadO_one agg4
noncomputable def inf4 : TypeInfo := (Tryz.prog.info? 4).getD default
theorem i4 {G : Nat} : (En G).i 4 = some inf4 := En_i.trans <| (envOf_i (by decide)).trans (by kernel_rfl)
theorem size4 : inf4.size = 1 := by kernel_rfl
theorem zero4 : inf4.zero = some (.bool false) := by kernel_rfl
theorem u5 {G : Nat} : (En G).u 5 = some (.int .u8) := En_u.trans <| (envOf_u (by decide)).trans Tryz.underlying5
theorem agg5 {G : Nat} : (En G).agg 5 = some false := by unfold Env.agg; rw [u5]
theorem load5 {G : Nat} {B : Tr Blk} {b off : Nat} : loadO (En G) 5 B (some (.pointer (some ⟨b, off, none⟩))) = loadv B b off := loadO_one agg5
noncomputable def inf5 : TypeInfo := (Tryz.prog.info? 5).getD default
theorem i5 {G : Nat} : (En G).i 5 = some inf5 := En_i.trans <| (envOf_i (by decide)).trans (by kernel_rfl)
theorem size5 : inf5.size = 1 := by kernel_rfl
theorem bytes5 : inf5.bytes = 1 := by kernel_rfl
theorem zero5 : inf5.zero = some (.int .u8 0) := by kernel_rfl
noncomputable def inf8 : TypeInfo := (Tryz.prog.info? 8).getD default
theorem i8 {G : Nat} : (En G).i 8 = some inf8 := En_i.trans <| (envOf_i (by decide)).trans (by kernel_rfl)
theorem u9 {G : Nat} : (En G).u 9 = some (.string) := En_u.trans <| (envOf_u (by decide)).trans Tryz.underlying9
theorem agg9 {G : Nat} : (En G).agg 9 = some false := by unfold Env.agg; rw [u9]
theorem load9 {G : Nat} {B : Tr Blk} {b off : Nat} : loadO (En G) 9 B (some (.pointer (some ⟨b, off, none⟩))) = loadv B b off := loadO_one agg9
noncomputable def inf9 : TypeInfo := (Tryz.prog.info? 9).getD default
theorem i9 {G : Nat} : (En G).i 9 = some inf9 := En_i.trans <| (envOf_i (by decide)).trans (by kernel_rfl)
theorem size9 : inf9.size = 1 := by kernel_rfl
theorem zero9 : inf9.zero = some (.string .empty) := by kernel_rfl
theorem u16 {G : Nat} : (En G).u 16 = some (.pointer 241) := En_u.trans <| (envOf_u (by decide)).trans Tryz.underlying16
noncomputable def inf16 : TypeInfo := (Tryz.prog.info? 16).getD default
theorem i16 {G : Nat} : (En G).i 16 = some inf16 := En_i.trans <| (envOf_i (by decide)).trans (by kernel_rfl)
theorem u22 {G : Nat} : (En G).u 22 = some (.slice 104) := En_u.trans <| (envOf_u (by decide)).trans Tryz.underlying22
theorem len22 {G n c : Nat} {A : Option Addr} {B : Tr Blk} : lenO (En G) B 22 (some (.slice A n c)) = some (.int .i64 n) := lenO_slice u22
theorem u28 {G : Nat} : (En G).u 28 = some (.slice 9) := En_u.trans <| (envOf_u (by decide)).trans Tryz.underlying28
theorem len28 {G n c : Nat} {A : Option Addr} {B : Tr Blk} : lenO (En G) B 28 (some (.slice A n c)) = some (.int .i64 n) := lenO_slice u28
theorem u29 {G : Nat} : (En G).u 29 = some (.int .i64) := En_u.trans <| (envOf_u (by decide)).trans Tryz.underlying29
theorem agg29 {G : Nat} : (En G).agg 29 = some false := by unfold Env.agg; rw [u29]
noncomputable def inf29 : TypeInfo := (Tryz.prog.info? 29).getD default
theorem i29 {G : Nat} : (En G).i 29 = some inf29 := En_i.trans <| (envOf_i (by decide)).trans (by kernel_rfl)
theorem size29 : inf29.size = 1 := by kernel_rfl
theorem zero29 : inf29.zero = some (.int .i64 0) := by kernel_rfl
noncomputable def inf64 : TypeInfo := (Tryz.prog.info? 64).getD default
theorem i64 {G : Nat} : (En G).i 64 = some inf64 := En_i.trans <| (envOf_i (by decide)).trans (by kernel_rfl)
theorem u70 {G : Nat} : (En G).u 70 = some (.int .u16) := En_u.trans <| (envOf_u (by decide)).trans Tryz.underlying70
theorem agg70 {G : Nat} : (En G).agg 70 = some false := by unfold Env.agg; rw [u70]
theorem load70 {G : Nat} {B : Tr Blk} {b off : Nat} : loadO (En G) 70 B (some (.pointer (some ⟨b, off, none⟩))) = loadv B b off := loadO_one agg70
noncomputable def inf70 : TypeInfo := (Tryz.prog.info? 70).getD default
theorem i70 {G : Nat} : (En G).i 70 = some inf70 := En_i.trans <| (envOf_i (by decide)).trans (by kernel_rfl)
theorem size70 : inf70.size = 1 := by kernel_rfl
noncomputable def inf72 : TypeInfo := (Tryz.prog.info? 72).getD default
theorem i72 {G : Nat} : (En G).i 72 = some inf72 := En_i.trans <| (envOf_i (by decide)).trans (by kernel_rfl)
theorem size72 : inf72.size = 2 := by kernel_rfl
theorem u73 {G : Nat} : (En G).u 73 = some (.slice 5) := En_u.trans <| (envOf_u (by decide)).trans Tryz.underlying73
theorem agg73 {G : Nat} : (En G).agg 73 = some false := by unfold Env.agg; rw [u73]
theorem load73 {G : Nat} {B : Tr Blk} {b off : Nat} : loadO (En G) 73 B (some (.pointer (some ⟨b, off, none⟩))) = loadv B b off := loadO_one agg73
noncomputable def inf73 : TypeInfo := (Tryz.prog.info? 73).getD default
theorem i73 {G : Nat} : (En G).i 73 = some inf73 := En_i.trans <| (envOf_i (by decide)).trans (by kernel_rfl)
theorem size73 : inf73.size = 1 := by kernel_rfl
theorem len73 {G n c : Nat} {A : Option Addr} {B : Tr Blk} : lenO (En G) B 73 (some (.slice A n c)) = some (.int .i64 n) := lenO_slice u73
noncomputable def inf95 : TypeInfo := (Tryz.prog.info? 95).getD default
theorem i95 {G : Nat} : (En G).i 95 = some inf95 := En_i.trans <| (envOf_i (by decide)).trans (by kernel_rfl)
theorem size95 : inf95.size = 37 := by kernel_rfl
noncomputable def inf104 : TypeInfo := (Tryz.prog.info? 104).getD default
theorem i104 {G : Nat} : (En G).i 104 = some inf104 := En_i.trans <| (envOf_i (by decide)).trans (by kernel_rfl)
theorem size104 : inf104.size = 2 := by kernel_rfl
theorem bytes104 : inf104.bytes = 16 := by kernel_rfl
theorem us72 {G : Nat} : (En G).u 72 = Tryz.prog.underlying 72 := En_u.trans <| envOf_u (by decide)
theorem agg72 {G : Nat} : (En G).agg 72 = some true := by unfold Env.agg; rw [us72, Tryz.underlying72]
theorem u86 {G : Nat} : (En G).u 86 = some (.array 2 73) := En_u.trans <| (envOf_u (by decide)).trans Tryz.underlying86
theorem u92 {G : Nat} : (En G).u 92 = some (.array 6 4) := En_u.trans <| (envOf_u (by decide)).trans Tryz.underlying92
noncomputable def inf92 : TypeInfo := (Tryz.prog.info? 92).getD default
theorem i92 {G : Nat} : (En G).i 92 = some inf92 := En_i.trans <| (envOf_i (by decide)).trans (by kernel_rfl)
theorem size92 : inf92.size = 6 := by kernel_rfl
theorem u93 {G : Nat} : (En G).u 93 = some (.array 6 92) := En_u.trans <| (envOf_u (by decide)).trans Tryz.underlying93
noncomputable def inf93 : TypeInfo := (Tryz.prog.info? 93).getD default
theorem i93 {G : Nat} : (En G).i 93 = some inf93 := En_i.trans <| (envOf_i (by decide)).trans (by kernel_rfl)
theorem size93 : inf93.size = 36 := by kernel_rfl
theorem us95 {G : Nat} : (En G).u 95 = Tryz.prog.underlying 95 := En_u.trans <| envOf_u (by decide)
theorem agg95 {G : Nat} : (En G).agg 95 = some true := by unfold Env.agg; rw [us95, Tryz.underlying95]
theorem us104 {G : Nat} : (En G).u 104 = Tryz.prog.underlying 104 := En_u.trans <| envOf_u (by decide)
theorem agg104 {G : Nat} : (En G).agg 104 = some true := by unfold Env.agg; rw [us104, Tryz.underlying104]
noncomputable def inf233 : TypeInfo := (Tryz.prog.info? 233).getD default
theorem i233 {G : Nat} : (En G).i 233 = some inf233 := En_i.trans <| (envOf_i (by decide)).trans (by kernel_rfl)
theorem idxA22 {G b off n c : Nat} {kd : IntKind} {z : Int} (h0 : 0 ≤ z) (h1 : z < n) : idxAddrO (En G) 22 (some (.slice (some ⟨b, off, none⟩) n c)) (some (.int kd z)) = some (.pointer (some ⟨b, off + z.toNat * 2, none⟩)) := by
  rw [idxAddrO_slice u22 i104 h0 h1, size104]
theorem idxA28 {G b off n c : Nat} {kd : IntKind} {z : Int} (h0 : 0 ≤ z) (h1 : z < n) : idxAddrO (En G) 28 (some (.slice (some ⟨b, off, none⟩) n c)) (some (.int kd z)) = some (.pointer (some ⟨b, off + z.toNat * 1, none⟩)) := by
  rw [idxAddrO_slice u28 i9 h0 h1, size9]
theorem idxA73 {G b off n c : Nat} {kd : IntKind} {z : Int} (h0 : 0 ≤ z) (h1 : z < n) : idxAddrO (En G) 73 (some (.slice (some ⟨b, off, none⟩) n c)) (some (.int kd z)) = some (.pointer (some ⟨b, off + z.toNat * 1, none⟩)) := by
  rw [idxAddrO_slice u73 i5 h0 h1, size5]
theorem fld72_0 {G b off : Nat} : fieldAddrO (En G) 72 0 (some (.pointer (some ⟨b, off, none⟩))) = some (.pointer (some ⟨b, off + 0, none⟩)) := by
  simp only [fieldAddrO, evFieldAddr, us72, Tryz.underlying72, List.getElem?_toArray, List.getElem?_cons_zero, List.getElem?_cons_succ, i5, size5, forceN_eq]
  rfl
theorem fld72_1 {G b off : Nat} : fieldAddrO (En G) 72 1 (some (.pointer (some ⟨b, off, none⟩))) = some (.pointer (some ⟨b, off + 1, none⟩)) := by
  simp only [fieldAddrO, evFieldAddr, us72, Tryz.underlying72, List.getElem?_toArray, List.getElem?_cons_zero, List.getElem?_cons_succ, i70, size70, forceN_eq]
  rfl
theorem idxP86 {G b off : Nat} {kd : IntKind} {z : Int} (h0 : 0 ≤ z) (h1 : z < 2) : idxAddrO (En G) 86 (some (.pointer (some ⟨b, off, none⟩))) (some (.int kd z)) = some (.pointer (some ⟨b, off + z.toNat * 1, none⟩)) := by
  simp only [idxAddrO, evIndexAddr, u86, idx_ok (n := 2) h0 (by omega), i73, forceN_eq, size73]
theorem idxP92 {G b off : Nat} {kd : IntKind} {z : Int} (h0 : 0 ≤ z) (h1 : z < 6) : idxAddrO (En G) 92 (some (.pointer (some ⟨b, off, none⟩))) (some (.int kd z)) = some (.pointer (some ⟨b, off + z.toNat * 1, none⟩)) := by
  simp only [idxAddrO, evIndexAddr, u92, idx_ok (n := 6) h0 (by omega), i4, forceN_eq, size4]
theorem idxP93 {G b off : Nat} {kd : IntKind} {z : Int} (h0 : 0 ≤ z) (h1 : z < 6) : idxAddrO (En G) 93 (some (.pointer (some ⟨b, off, none⟩))) (some (.int kd z)) = some (.pointer (some ⟨b, off + z.toNat * 6, none⟩)) := by
  simp only [idxAddrO, evIndexAddr, u93, idx_ok (n := 6) h0 (by omega), i92, forceN_eq, size92]
theorem fld95_0 {G b off : Nat} : fieldAddrO (En G) 95 0 (some (.pointer (some ⟨b, off, none⟩))) = some (.pointer (some ⟨b, off + 0, none⟩)) := by
  simp only [fieldAddrO, evFieldAddr, us95, Tryz.underlying95, List.getElem?_toArray, List.getElem?_cons_zero, List.getElem?_cons_succ, i3, size3, forceN_eq]
  rfl
theorem fld95_1 {G b off : Nat} : fieldAddrO (En G) 95 1 (some (.pointer (some ⟨b, off, none⟩))) = some (.pointer (some ⟨b, off + 1, none⟩)) := by
  simp only [fieldAddrO, evFieldAddr, us95, Tryz.underlying95, List.getElem?_toArray, List.getElem?_cons_zero, List.getElem?_cons_succ, i93, size93, forceN_eq]
  rfl
theorem fld104_0 {G b off : Nat} : fieldAddrO (En G) 104 0 (some (.pointer (some ⟨b, off, none⟩))) = some (.pointer (some ⟨b, off + 0, none⟩)) := by
  simp only [fieldAddrO, evFieldAddr, us104, Tryz.underlying104, List.getElem?_toArray, List.getElem?_cons_zero, List.getElem?_cons_succ, i3, size3, forceN_eq]
  rfl
theorem fld104_1 {G b off : Nat} : fieldAddrO (En G) 104 1 (some (.pointer (some ⟨b, off, none⟩))) = some (.pointer (some ⟨b, off + 1, none⟩)) := by
  simp only [fieldAddrO, evFieldAddr, us104, Tryz.underlying104, List.getElem?_toArray, List.getElem?_cons_zero, List.getElem?_cons_succ, i3, size3, forceN_eq]
  rfl
end
end Go.Proofs.YthankillfhmfkaaGreatDoor.Ev

