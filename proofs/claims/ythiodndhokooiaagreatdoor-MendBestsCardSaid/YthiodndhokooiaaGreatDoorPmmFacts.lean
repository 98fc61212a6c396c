/- Facts of the program's types, for symbolic runs. By program. -/
import Derived.Test.YthiodndhokooiaaGreatDoorProg
import Derived.Test.YthiodndhokooiaaGreatDoorPmSS
import Derived.Test.YthiodndhokooiaaGreatDoorPmmTabs
import Derived.KernelRfl
set_option linter.unusedSimpArgs false
namespace Go.Proofs.YthiodndhokooiaaGreatDoor.Ev
open Go Go.Proofs
noncomputable section

/-- the program's types and functions; so many blocks are only read -/
noncomputable def En (G : Nat) : Env := withKnown (envOf Tryz.prog 222 4 G) (Tr.put .e 14 (.bool true)) tabs
theorem En_u {G t : Nat} : (En G).u t = (envOf Tryz.prog 222 4 G).u t := withKnown_u
theorem En_i {G t : Nat} : (En G).i t = (envOf Tryz.prog 222 4 G).i t := withKnown_i
theorem En_G {G : Nat} : (En G).G = G := withKnown_G
instance {G : Nat} : NoFz (En G) := ⟨withKnown_fzl.trans envOf_fzl⟩
theorem En_known {G f : Nat} (h : f ≠ 14) : (En G).known.get f = none := by
  have e : (En G).known = Tr.put Tr.e 14 (Value.bool true) := withKnown_known
  rw [e, Tr.get_put, if_neg h]
  rfl
theorem En_lives {G : Nat} : (En G).known.get 14 = some (.bool true) := by
  have e : (En G).known = Tr.put Tr.e 14 (Value.bool true) := withKnown_known
  rw [e, Tr.get_put, if_pos rfl]


theorem mixed : Tryz.prog.follows .mixedOrders = true := by kernel_rfl
theorem En_f {G : Nat} {f : FuncId} : (En G).fns.get f = Tryz.prog.funcs[f]? := by
  have : (En G).fns = (envOf Tryz.prog 222 4 G).fns := withKnown_f
  rw [this]; exact envOf_f

theorem u2 {G : Nat} : (En G).u 2 = some (.int .i64) := En_u.trans <| (envOf_u (by decide)).trans Tryz.underlying2
noncomputable def inf2 : TypeInfo := (Tryz.prog.info? 2).getD default
theorem i2 {G : Nat} : (En G).i 2 = some inf2 := En_i.trans <| (envOf_i (by decide)).trans (by kernel_rfl)
theorem u3 {G : Nat} : (En G).u 3 = some (.int .i64) := En_u.trans <| (envOf_u (by decide)).trans Tryz.underlying3
theorem agg3 {G : Nat} : (En G).agg 3 = some false := by unfold Env.agg; rw [u3]
theorem load3 {G : Nat} {B : Tr Blk} {b off : Nat} : loadO (En G) 3 B (some (.pointer (some ⟨b, off, none⟩))) = loadv B b off := loadO_one agg3
noncomputable def inf3 : TypeInfo := (Tryz.prog.info? 3).getD default
theorem i3 {G : Nat} : (En G).i 3 = some inf3 := En_i.trans <| (envOf_i (by decide)).trans (by kernel_rfl)
theorem size3 : inf3.size = 1 := by kernel_rfl
theorem bytes3 : inf3.bytes = 8 := by kernel_rfl
theorem zero3 : inf3.zero = some (.int .i64 0) := by kernel_rfl
theorem u5 {G : Nat} : (En G).u 5 = some (.int .u8) := En_u.trans <| (envOf_u (by decide)).trans Tryz.underlying5
theorem agg5 {G : Nat} : (En G).agg 5 = some false := by unfold Env.agg; rw [u5]
theorem load5 {G : Nat} {B : Tr Blk} {b off : Nat} : loadO (En G) 5 B (some (.pointer (some ⟨b, off, none⟩))) = loadv B b off := loadO_one agg5
noncomputable def inf5 : TypeInfo := (Tryz.prog.info? 5).getD default
theorem i5 {G : Nat} : (En G).i 5 = some inf5 := En_i.trans <| (envOf_i (by decide)).trans (by kernel_rfl)
theorem size5 : inf5.size = 1 := by kernel_rfl
noncomputable def inf8 : TypeInfo := (Tryz.prog.info? 8).getD default
theorem i8 {G : Nat} : (En G).i 8 = some inf8 := En_i.trans <| (envOf_i (by decide)).trans (by kernel_rfl)
theorem u9 {G : Nat} : (En G).u 9 = some (.string) := En_u.trans <| (envOf_u (by decide)).trans Tryz.underlying9
theorem u16 {G : Nat} : (En G).u 16 = some (.pointer 214) := En_u.trans <| (envOf_u (by decide)).trans Tryz.underlying16
noncomputable def inf16 : TypeInfo := (Tryz.prog.info? 16).getD default
theorem i16 {G : Nat} : (En G).i 16 = some inf16 := En_i.trans <| (envOf_i (by decide)).trans (by kernel_rfl)
theorem u22 {G : Nat} : (En G).u 22 = some (.slice 49) := En_u.trans <| (envOf_u (by decide)).trans Tryz.underlying22
theorem agg22 {G : Nat} : (En G).agg 22 = some false := by unfold Env.agg; rw [u22]
theorem load22 {G : Nat} {B : Tr Blk} {b off : Nat} : loadO (En G) 22 B (some (.pointer (some ⟨b, off, none⟩))) = loadv B b off := loadO_one agg22
noncomputable def inf22 : TypeInfo := (Tryz.prog.info? 22).getD default
theorem i22 {G : Nat} : (En G).i 22 = some inf22 := En_i.trans <| (envOf_i (by decide)).trans (by kernel_rfl)
theorem size22 : inf22.size = 1 := by kernel_rfl
theorem len22 {G n c : Nat} {A : Option Addr} {B : Tr Blk} : lenO (En G) B 22 (some (.slice A n c)) = some (.int .i64 n) := lenO_slice u22
theorem u23 {G : Nat} : (En G).u 23 = some (.slice 54) := En_u.trans <| (envOf_u (by decide)).trans Tryz.underlying23
theorem agg23 {G : Nat} : (En G).agg 23 = some false := by unfold Env.agg; rw [u23]
theorem load23 {G : Nat} {B : Tr Blk} {b off : Nat} : loadO (En G) 23 B (some (.pointer (some ⟨b, off, none⟩))) = loadv B b off := loadO_one agg23
noncomputable def inf23 : TypeInfo := (Tryz.prog.info? 23).getD default
theorem i23 {G : Nat} : (En G).i 23 = some inf23 := En_i.trans <| (envOf_i (by decide)).trans (by kernel_rfl)
theorem size23 : inf23.size = 1 := by kernel_rfl
theorem len23 {G n c : Nat} {A : Option Addr} {B : Tr Blk} : lenO (En G) B 23 (some (.slice A n c)) = some (.int .i64 n) := lenO_slice u23
noncomputable def inf25 : TypeInfo := (Tryz.prog.info? 25).getD default
theorem i25 {G : Nat} : (En G).i 25 = some inf25 := En_i.trans <| (envOf_i (by decide)).trans (by kernel_rfl)
theorem size25 : inf25.size = 2 := by kernel_rfl
theorem u26 {G : Nat} : (En G).u 26 = some (.slice 3) := En_u.trans <| (envOf_u (by decide)).trans Tryz.underlying26
theorem agg26 {G : Nat} : (En G).agg 26 = some false := by unfold Env.agg; rw [u26]
theorem load26 {G : Nat} {B : Tr Blk} {b off : Nat} : loadO (En G) 26 B (some (.pointer (some ⟨b, off, none⟩))) = loadv B b off := loadO_one agg26
noncomputable def inf26 : TypeInfo := (Tryz.prog.info? 26).getD default
theorem i26 {G : Nat} : (En G).i 26 = some inf26 := En_i.trans <| (envOf_i (by decide)).trans (by kernel_rfl)
theorem size26 : inf26.size = 1 := by kernel_rfl
theorem len26 {G n c : Nat} {A : Option Addr} {B : Tr Blk} : lenO (En G) B 26 (some (.slice A n c)) = some (.int .i64 n) := lenO_slice u26
theorem u46 {G : Nat} : (En G).u 46 = some (.slice 51) := En_u.trans <| (envOf_u (by decide)).trans Tryz.underlying46
theorem len46 {G n c : Nat} {A : Option Addr} {B : Tr Blk} : lenO (En G) B 46 (some (.slice A n c)) = some (.int .i64 n) := lenO_slice u46
noncomputable def inf49 : TypeInfo := (Tryz.prog.info? 49).getD default
theorem i49 {G : Nat} : (En G).i 49 = some inf49 := En_i.trans <| (envOf_i (by decide)).trans (by kernel_rfl)
theorem size49 : inf49.size = 2 := by kernel_rfl
theorem bytes49 : inf49.bytes = 16 := by kernel_rfl
noncomputable def inf54 : TypeInfo := (Tryz.prog.info? 54).getD default
theorem i54 {G : Nat} : (En G).i 54 = some inf54 := En_i.trans <| (envOf_i (by decide)).trans (by kernel_rfl)
theorem size54 : inf54.size = 2 := by kernel_rfl
theorem bytes54 : inf54.bytes = 16 := by kernel_rfl
theorem u57 {G : Nat} : (En G).u 57 = some (.slice 86) := En_u.trans <| (envOf_u (by decide)).trans Tryz.underlying57
theorem agg57 {G : Nat} : (En G).agg 57 = some false := by unfold Env.agg; rw [u57]
theorem load57 {G : Nat} {B : Tr Blk} {b off : Nat} : loadO (En G) 57 B (some (.pointer (some ⟨b, off, none⟩))) = loadv B b off := loadO_one agg57
noncomputable def inf57 : TypeInfo := (Tryz.prog.info? 57).getD default
theorem i57 {G : Nat} : (En G).i 57 = some inf57 := En_i.trans <| (envOf_i (by decide)).trans (by kernel_rfl)
theorem size57 : inf57.size = 1 := by kernel_rfl
theorem len57 {G n c : Nat} {A : Option Addr} {B : Tr Blk} : lenO (En G) B 57 (some (.slice A n c)) = some (.int .i64 n) := lenO_slice u57
noncomputable def inf59 : TypeInfo := (Tryz.prog.info? 59).getD default
theorem i59 {G : Nat} : (En G).i 59 = some inf59 := En_i.trans <| (envOf_i (by decide)).trans (by kernel_rfl)
theorem size59 : inf59.size = 2 := by kernel_rfl
noncomputable def inf80 : TypeInfo := (Tryz.prog.info? 80).getD default
theorem i80 {G : Nat} : (En G).i 80 = some inf80 := En_i.trans <| (envOf_i (by decide)).trans (by kernel_rfl)
theorem size80 : inf80.size = 3 := by kernel_rfl
theorem u86 {G : Nat} : (En G).u 86 = some (.int .u64) := En_u.trans <| (envOf_u (by decide)).trans Tryz.underlying86
theorem agg86 {G : Nat} : (En G).agg 86 = some false := by unfold Env.agg; rw [u86]
theorem load86 {G : Nat} {B : Tr Blk} {b off : Nat} : loadO (En G) 86 B (some (.pointer (some ⟨b, off, none⟩))) = loadv B b off := loadO_one agg86
noncomputable def inf86 : TypeInfo := (Tryz.prog.info? 86).getD default
theorem i86 {G : Nat} : (En G).i 86 = some inf86 := En_i.trans <| (envOf_i (by decide)).trans (by kernel_rfl)
theorem size86 : inf86.size = 1 := by kernel_rfl
theorem bytes86 : inf86.bytes = 8 := by kernel_rfl
theorem zero86 : inf86.zero = some (.int .u64 0) := by kernel_rfl
theorem us25 {G : Nat} : (En G).u 25 = Tryz.prog.underlying 25 := En_u.trans <| envOf_u (by decide)
theorem agg25 {G : Nat} : (En G).agg 25 = some true := by unfold Env.agg; rw [us25, Tryz.underlying25]
theorem us49 {G : Nat} : (En G).u 49 = Tryz.prog.underlying 49 := En_u.trans <| envOf_u (by decide)
theorem agg49 {G : Nat} : (En G).agg 49 = some true := by unfold Env.agg; rw [us49, Tryz.underlying49]
theorem u51 {G : Nat} : (En G).u 51 = some (.array 2 5) := En_u.trans <| (envOf_u (by decide)).trans Tryz.underlying51
theorem agg51 {G : Nat} : (En G).agg 51 = some true := by unfold Env.agg; rw [u51]
noncomputable def inf51 : TypeInfo := (Tryz.prog.info? 51).getD default
theorem i51 {G : Nat} : (En G).i 51 = some inf51 := En_i.trans <| (envOf_i (by decide)).trans (by kernel_rfl)
theorem size51 : inf51.size = 2 := by kernel_rfl
theorem bytes51 : inf51.bytes = 2 := by kernel_rfl
theorem us54 {G : Nat} : (En G).u 54 = Tryz.prog.underlying 54 := En_u.trans <| envOf_u (by decide)
theorem agg54 {G : Nat} : (En G).agg 54 = some true := by unfold Env.agg; rw [us54, Tryz.underlying54]
theorem us59 {G : Nat} : (En G).u 59 = Tryz.prog.underlying 59 := En_u.trans <| envOf_u (by decide)
theorem agg59 {G : Nat} : (En G).agg 59 = some true := by unfold Env.agg; rw [us59, Tryz.underlying59]
theorem us80 {G : Nat} : (En G).u 80 = Tryz.prog.underlying 80 := En_u.trans <| envOf_u (by decide)
theorem agg80 {G : Nat} : (En G).agg 80 = some true := by unfold Env.agg; rw [us80, Tryz.underlying80]
theorem idxA22 {G b off n c : Nat} {kd : IntKind} {z : Int} (h0 : 0 ≤ z) (h1 : z < n) : idxAddrO (En G) 22 (some (.slice (some ⟨b, off, none⟩) n c)) (some (.int kd z)) = some (.pointer (some ⟨b, off + z.toNat * 2, none⟩)) := by
  rw [idxAddrO_slice u22 i49 h0 h1, size49]
theorem idxA23 {G b off n c : Nat} {kd : IntKind} {z : Int} (h0 : 0 ≤ z) (h1 : z < n) : idxAddrO (En G) 23 (some (.slice (some ⟨b, off, none⟩) n c)) (some (.int kd z)) = some (.pointer (some ⟨b, off + z.toNat * 2, none⟩)) := by
  rw [idxAddrO_slice u23 i54 h0 h1, size54]
theorem idxA26 {G b off n c : Nat} {kd : IntKind} {z : Int} (h0 : 0 ≤ z) (h1 : z < n) : idxAddrO (En G) 26 (some (.slice (some ⟨b, off, none⟩) n c)) (some (.int kd z)) = some (.pointer (some ⟨b, off + z.toNat * 1, none⟩)) := by
  rw [idxAddrO_slice u26 i3 h0 h1, size3]
theorem idxA46 {G b off n c : Nat} {kd : IntKind} {z : Int} (h0 : 0 ≤ z) (h1 : z < n) : idxAddrO (En G) 46 (some (.slice (some ⟨b, off, none⟩) n c)) (some (.int kd z)) = some (.pointer (some ⟨b, off + z.toNat * 2, none⟩)) := by
  rw [idxAddrO_slice u46 i51 h0 h1, size51]
theorem idxA57 {G b off n c : Nat} {kd : IntKind} {z : Int} (h0 : 0 ≤ z) (h1 : z < n) : idxAddrO (En G) 57 (some (.slice (some ⟨b, off, none⟩) n c)) (some (.int kd z)) = some (.pointer (some ⟨b, off + z.toNat * 1, none⟩)) := by
  rw [idxAddrO_slice u57 i86 h0 h1, size86]
theorem fld25_0 {G b off : Nat} : fieldAddrO (En G) 25 0 (some (.pointer (some ⟨b, off, none⟩))) = some (.pointer (some ⟨b, off + 0, none⟩)) := by
  simp only [fieldAddrO, evFieldAddr, us25, Tryz.underlying25, List.getElem?_toArray, List.getElem?_cons_zero, List.getElem?_cons_succ, i22, size22, forceN_eq]
  rfl
theorem fld25_1 {G b off : Nat} : fieldAddrO (En G) 25 1 (some (.pointer (some ⟨b, off, none⟩))) = some (.pointer (some ⟨b, off + 1, none⟩)) := by
  simp only [fieldAddrO, evFieldAddr, us25, Tryz.underlying25, List.getElem?_toArray, List.getElem?_cons_zero, List.getElem?_cons_succ, i23, size23, forceN_eq]
  rfl
theorem fld49_0 {G b off : Nat} : fieldAddrO (En G) 49 0 (some (.pointer (some ⟨b, off, none⟩))) = some (.pointer (some ⟨b, off + 0, none⟩)) := by
  simp only [fieldAddrO, evFieldAddr, us49, Tryz.underlying49, List.getElem?_toArray, List.getElem?_cons_zero, List.getElem?_cons_succ, i3, size3, forceN_eq]
  rfl
theorem fld49_1 {G b off : Nat} : fieldAddrO (En G) 49 1 (some (.pointer (some ⟨b, off, none⟩))) = some (.pointer (some ⟨b, off + 1, none⟩)) := by
  simp only [fieldAddrO, evFieldAddr, us49, Tryz.underlying49, List.getElem?_toArray, List.getElem?_cons_zero, List.getElem?_cons_succ, i3, size3, forceN_eq]
  rfl
theorem idxP51 {G b off : Nat} {kd : IntKind} {z : Int} (h0 : 0 ≤ z) (h1 : z < 2) : idxAddrO (En G) 51 (some (.pointer (some ⟨b, off, none⟩))) (some (.int kd z)) = some (.pointer (some ⟨b, off + z.toNat * 1, none⟩)) := by
  simp only [idxAddrO, evIndexAddr, u51, idx_ok (n := 2) h0 (by omega), i5, forceN_eq, size5]
theorem fld54_0 {G b off : Nat} : fieldAddrO (En G) 54 0 (some (.pointer (some ⟨b, off, none⟩))) = some (.pointer (some ⟨b, off + 0, none⟩)) := by
  simp only [fieldAddrO, evFieldAddr, us54, Tryz.underlying54, List.getElem?_toArray, List.getElem?_cons_zero, List.getElem?_cons_succ, i3, size3, forceN_eq]
  rfl
theorem fld54_1 {G b off : Nat} : fieldAddrO (En G) 54 1 (some (.pointer (some ⟨b, off, none⟩))) = some (.pointer (some ⟨b, off + 1, none⟩)) := by
  simp only [fieldAddrO, evFieldAddr, us54, Tryz.underlying54, List.getElem?_toArray, List.getElem?_cons_zero, List.getElem?_cons_succ, i3, size3, forceN_eq]
  rfl
theorem fld59_0 {G b off : Nat} : fieldAddrO (En G) 59 0 (some (.pointer (some ⟨b, off, none⟩))) = some (.pointer (some ⟨b, off + 0, none⟩)) := by
  simp only [fieldAddrO, evFieldAddr, us59, Tryz.underlying59, List.getElem?_toArray, List.getElem?_cons_zero, List.getElem?_cons_succ, i22, size22, forceN_eq]
  rfl
theorem fld59_1 {G b off : Nat} : fieldAddrO (En G) 59 1 (some (.pointer (some ⟨b, off, none⟩))) = some (.pointer (some ⟨b, off + 1, none⟩)) := by
  simp only [fieldAddrO, evFieldAddr, us59, Tryz.underlying59, List.getElem?_toArray, List.getElem?_cons_zero, List.getElem?_cons_succ, i57, size57, forceN_eq]
  rfl
theorem fld80_0 {G b off : Nat} : fieldAddrO (En G) 80 0 (some (.pointer (some ⟨b, off, none⟩))) = some (.pointer (some ⟨b, off + 0, none⟩)) := by
  simp only [fieldAddrO, evFieldAddr, us80, Tryz.underlying80, List.getElem?_toArray, List.getElem?_cons_zero, List.getElem?_cons_succ, i26, size26, forceN_eq]
  rfl
theorem fld80_1 {G b off : Nat} : fieldAddrO (En G) 80 1 (some (.pointer (some ⟨b, off, none⟩))) = some (.pointer (some ⟨b, off + 1, none⟩)) := by
  simp only [fieldAddrO, evFieldAddr, us80, Tryz.underlying80, List.getElem?_toArray, List.getElem?_cons_zero, List.getElem?_cons_succ, i3, size3, forceN_eq]
  rfl
theorem fld80_2 {G b off : Nat} : fieldAddrO (En G) 80 2 (some (.pointer (some ⟨b, off, none⟩))) = some (.pointer (some ⟨b, off + 2, none⟩)) := by
  simp only [fieldAddrO, evFieldAddr, us80, Tryz.underlying80, List.getElem?_toArray, List.getElem?_cons_zero, List.getElem?_cons_succ, i3, size3, forceN_eq]
  rfl
end
end Go.Proofs.YthiodndhokooiaaGreatDoor.Ev

