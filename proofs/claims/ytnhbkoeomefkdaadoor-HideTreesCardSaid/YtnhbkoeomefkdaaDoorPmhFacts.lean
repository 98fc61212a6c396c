/- Facts of the program's types, for symbolic runs. By program. -/
import Derived.Test.YtnhbkoeomefkdaaDoorProg
import Derived.Test.YtnhbkoeomefkdaaDoorPmSS
import Derived.Test.YtnhbkoeomefkdaaDoorPmhTabs
import Derived.Test.YtnhbkoeomefkdaaDoorPmhO
import Derived.KernelRfl
set_option linter.unusedSimpArgs false
namespace Go.Proofs.YtnhbkoeomefkdaaDoor.Ev
open Go Go.Proofs
noncomputable section

/-- the program's types and functions; so many blocks are only read -/
noncomputable def orcs : Tr (List Value → H → Option Value) := Tr.put (Tr.put (Tr.e) 55 gSq) 65 gLn
noncomputable def En (G : Nat) : Env := withOrc (withKnown (envOf Tryd.prog 179 3 G) (Tr.put .e 18 (.bool true)) tabs) orcs
theorem En_u {G t : Nat} : (En G).u t = (envOf Tryd.prog 179 3 G).u t := withOrc_u.trans withKnown_u
theorem En_i {G t : Nat} : (En G).i t = (envOf Tryd.prog 179 3 G).i t := withOrc_i.trans withKnown_i
theorem En_G {G : Nat} : (En G).G = G := withOrc_G.trans withKnown_G
instance {G : Nat} : NoFz (En G) := ⟨withOrc_fzl.trans (withKnown_fzl.trans envOf_fzl)⟩
theorem En_kn {G f : Nat} (h : f ≠ 18) : (En G).known.get f = none := by
  have e : (En G).known = Tr.put Tr.e 18 (Value.bool true) := withOrc_known.trans withKnown_known
  rw [e, Tr.get_put, if_neg h]
  rfl
theorem En_orc {G : Nat} : (En G).orc = orcs := withOrc_orc
theorem En_known {G f : Nat} (h : f ≠ 18 ∧ f ≠ 55 ∧ f ≠ 65) : (En G).known.get f = none ∧ (En G).orc.get f = none := by
  refine ⟨En_kn h.1, ?_⟩
  rw [En_orc]
  unfold orcs
  try obtain ⟨_, h⟩ := h
  simp only [Tr.get_put, Tr.get_e, h, if_false]
theorem En_lives {G : Nat} : (En G).known.get 18 = some (.bool true) := by
  have e : (En G).known = Tr.put Tr.e 18 (Value.bool true) := withOrc_known.trans withKnown_known
  rw [e, Tr.get_put, if_pos rfl]


theorem mixed : Tryd.prog.follows .mixedOrders = true := by kernel_rfl
theorem En_f {G : Nat} {f : FuncId} : (En G).fns.get f = Tryd.prog.funcs[f]? := by
  have : (En G).fns = (envOf Tryd.prog 179 3 G).fns := withOrc_f.trans withKnown_f
  rw [this]; exact envOf_f

theorem u2 {G : Nat} : (En G).u 2 = some (.int .i64) := En_u.trans <| (envOf_u (by decide)).trans Tryd.underlying2
noncomputable def inf2 : TypeInfo := (Tryd.prog.info? 2).getD default
theorem i2 {G : Nat} : (En G).i 2 = some inf2 := En_i.trans <| (envOf_i (by decide)).trans (by kernel_rfl)
theorem u3 {G : Nat} : (En G).u 3 = some (.int .i64) := En_u.trans <| (envOf_u (by decide)).trans Tryd.underlying3
theorem agg3 {G : Nat} : (En G).agg 3 = some false := by unfold Env.agg; rw [u3]
theorem load3 {G : Nat} {B : Tr Blk} {b off : Nat} : loadO (En G) 3 B (some (.pointer (some ⟨b, off, none⟩))) = loadv B b off := loadO_one agg3
noncomputable def inf3 : TypeInfo := (Tryd.prog.info? 3).getD default
theorem i3 {G : Nat} : (En G).i 3 = some inf3 := En_i.trans <| (envOf_i (by decide)).trans (by kernel_rfl)
theorem size3 : inf3.size = 1 := by kernel_rfl
theorem bytes3 : inf3.bytes = 8 := by kernel_rfl
theorem zero3 : inf3.zero = some (.int .i64 0) := by kernel_rfl
noncomputable def inf4 : TypeInfo := (Tryd.prog.info? 4).getD default
theorem i4 {G : Nat} : (En G).i 4 = some inf4 := En_i.trans <| (envOf_i (by decide)).trans (by kernel_rfl)
theorem u5 {G : Nat} : (En G).u 5 = some (.int .u8) := En_u.trans <| (envOf_u (by decide)).trans Tryd.underlying5
theorem agg5 {G : Nat} : (En G).agg 5 = some false := by unfold Env.agg; rw [u5]
theorem load5 {G : Nat} {B : Tr Blk} {b off : Nat} : loadO (En G) 5 B (some (.pointer (some ⟨b, off, none⟩))) = loadv B b off := loadO_one agg5
noncomputable def inf5 : TypeInfo := (Tryd.prog.info? 5).getD default
theorem i5 {G : Nat} : (En G).i 5 = some inf5 := En_i.trans <| (envOf_i (by decide)).trans (by kernel_rfl)
theorem size5 : inf5.size = 1 := by kernel_rfl
noncomputable def inf6 : TypeInfo := (Tryd.prog.info? 6).getD default
theorem size6 : inf6.size = 1 := by kernel_rfl
noncomputable def inf8 : TypeInfo := (Tryd.prog.info? 8).getD default
theorem i8 {G : Nat} : (En G).i 8 = some inf8 := En_i.trans <| (envOf_i (by decide)).trans (by kernel_rfl)
theorem u9 {G : Nat} : (En G).u 9 = some (.string) := En_u.trans <| (envOf_u (by decide)).trans Tryd.underlying9
theorem u16 {G : Nat} : (En G).u 16 = some (.pointer 168) := En_u.trans <| (envOf_u (by decide)).trans Tryd.underlying16
noncomputable def inf16 : TypeInfo := (Tryd.prog.info? 16).getD default
theorem i16 {G : Nat} : (En G).i 16 = some inf16 := En_i.trans <| (envOf_i (by decide)).trans (by kernel_rfl)
theorem u22 {G : Nat} : (En G).u 22 = some (.slice 61) := En_u.trans <| (envOf_u (by decide)).trans Tryd.underlying22
theorem agg22 {G : Nat} : (En G).agg 22 = some false := by unfold Env.agg; rw [u22]
theorem load22 {G : Nat} {B : Tr Blk} {b off : Nat} : loadO (En G) 22 B (some (.pointer (some ⟨b, off, none⟩))) = loadv B b off := loadO_one agg22
noncomputable def inf22 : TypeInfo := (Tryd.prog.info? 22).getD default
theorem i22 {G : Nat} : (En G).i 22 = some inf22 := En_i.trans <| (envOf_i (by decide)).trans (by kernel_rfl)
theorem size22 : inf22.size = 1 := by kernel_rfl
theorem len22 {G n c : Nat} {A : Option Addr} {B : Tr Blk} : lenO (En G) B 22 (some (.slice A n c)) = some (.int .i64 n) := lenO_slice u22
theorem u27 {G : Nat} : (En G).u 27 = some (.slice 3) := En_u.trans <| (envOf_u (by decide)).trans Tryd.underlying27
theorem len27 {G n c : Nat} {A : Option Addr} {B : Tr Blk} : lenO (En G) B 27 (some (.slice A n c)) = some (.int .i64 n) := lenO_slice u27
theorem u45 {G : Nat} : (En G).u 45 = some (.slice 51) := En_u.trans <| (envOf_u (by decide)).trans Tryd.underlying45
theorem len45 {G n c : Nat} {A : Option Addr} {B : Tr Blk} : lenO (En G) B 45 (some (.slice A n c)) = some (.int .i64 n) := lenO_slice u45
noncomputable def inf51 : TypeInfo := (Tryd.prog.info? 51).getD default
theorem i51 {G : Nat} : (En G).i 51 = some inf51 := En_i.trans <| (envOf_i (by decide)).trans (by kernel_rfl)
theorem size51 : inf51.size = 2 := by kernel_rfl
theorem bytes51 : inf51.bytes = 16 := by kernel_rfl
theorem u55 {G : Nat} : (En G).u 55 = some (.slice 5) := En_u.trans <| (envOf_u (by decide)).trans Tryd.underlying55
theorem len55 {G n c : Nat} {A : Option Addr} {B : Tr Blk} : lenO (En G) B 55 (some (.slice A n c)) = some (.int .i64 n) := lenO_slice u55
noncomputable def inf61 : TypeInfo := (Tryd.prog.info? 61).getD default
theorem i61 {G : Nat} : (En G).i 61 = some inf61 := En_i.trans <| (envOf_i (by decide)).trans (by kernel_rfl)
theorem size61 : inf61.size = 3 := by kernel_rfl
theorem bytes61 : inf61.bytes = 24 := by kernel_rfl
noncomputable def inf64 : TypeInfo := (Tryd.prog.info? 64).getD default
theorem i64 {G : Nat} : (En G).i 64 = some inf64 := En_i.trans <| (envOf_i (by decide)).trans (by kernel_rfl)
theorem size64 : inf64.size = 3 := by kernel_rfl
theorem u77 {G : Nat} : (En G).u 77 = some (.slice 100) := En_u.trans <| (envOf_u (by decide)).trans Tryd.underlying77
theorem len77 {G n c : Nat} {A : Option Addr} {B : Tr Blk} : lenO (En G) B 77 (some (.slice A n c)) = some (.int .i64 n) := lenO_slice u77
noncomputable def inf100 : TypeInfo := (Tryd.prog.info? 100).getD default
theorem i100 {G : Nat} : (En G).i 100 = some inf100 := En_i.trans <| (envOf_i (by decide)).trans (by kernel_rfl)
theorem size100 : inf100.size = 3 := by kernel_rfl
theorem bytes100 : inf100.bytes = 24 := by kernel_rfl
theorem us51 {G : Nat} : (En G).u 51 = Tryd.prog.underlying 51 := En_u.trans <| envOf_u (by decide)
theorem us61 {G : Nat} : (En G).u 61 = Tryd.prog.underlying 61 := En_u.trans <| envOf_u (by decide)
theorem agg61 {G : Nat} : (En G).agg 61 = some true := by unfold Env.agg; rw [us61, Tryd.underlying61]
theorem us64 {G : Nat} : (En G).u 64 = Tryd.prog.underlying 64 := En_u.trans <| envOf_u (by decide)
theorem agg64 {G : Nat} : (En G).agg 64 = some true := by unfold Env.agg; rw [us64, Tryd.underlying64]
theorem us100 {G : Nat} : (En G).u 100 = Tryd.prog.underlying 100 := En_u.trans <| envOf_u (by decide)
theorem agg100 {G : Nat} : (En G).agg 100 = some true := by unfold Env.agg; rw [us100, Tryd.underlying100]
theorem idxA22 {G b off n c : Nat} {kd : IntKind} {z : Int} (h0 : 0 ≤ z) (h1 : z < n) : idxAddrO (En G) 22 (some (.slice (some ⟨b, off, none⟩) n c)) (some (.int kd z)) = some (.pointer (some ⟨b, off + z.toNat * 3, none⟩)) := by
  rw [idxAddrO_slice u22 i61 h0 h1, size61]
theorem idxA27 {G b off n c : Nat} {kd : IntKind} {z : Int} (h0 : 0 ≤ z) (h1 : z < n) : idxAddrO (En G) 27 (some (.slice (some ⟨b, off, none⟩) n c)) (some (.int kd z)) = some (.pointer (some ⟨b, off + z.toNat * 1, none⟩)) := by
  rw [idxAddrO_slice u27 i3 h0 h1, size3]
theorem idxA45 {G b off n c : Nat} {kd : IntKind} {z : Int} (h0 : 0 ≤ z) (h1 : z < n) : idxAddrO (En G) 45 (some (.slice (some ⟨b, off, none⟩) n c)) (some (.int kd z)) = some (.pointer (some ⟨b, off + z.toNat * 2, none⟩)) := by
  rw [idxAddrO_slice u45 i51 h0 h1, size51]
theorem idxA55 {G b off n c : Nat} {kd : IntKind} {z : Int} (h0 : 0 ≤ z) (h1 : z < n) : idxAddrO (En G) 55 (some (.slice (some ⟨b, off, none⟩) n c)) (some (.int kd z)) = some (.pointer (some ⟨b, off + z.toNat * 1, none⟩)) := by
  rw [idxAddrO_slice u55 i5 h0 h1, size5]
theorem idxA77 {G b off n c : Nat} {kd : IntKind} {z : Int} (h0 : 0 ≤ z) (h1 : z < n) : idxAddrO (En G) 77 (some (.slice (some ⟨b, off, none⟩) n c)) (some (.int kd z)) = some (.pointer (some ⟨b, off + z.toNat * 3, none⟩)) := by
  rw [idxAddrO_slice u77 i100 h0 h1, size100]
theorem fld51_0 {G b off : Nat} : fieldAddrO (En G) 51 0 (some (.pointer (some ⟨b, off, none⟩))) = some (.pointer (some ⟨b, off + 0, none⟩)) := by
  simp only [fieldAddrO, evFieldAddr, us51, Tryd.underlying51, List.getElem?_toArray, List.getElem?_cons_zero, List.getElem?_cons_succ, i3, size3, forceN_eq]
  rfl
theorem fld51_1 {G b off : Nat} : fieldAddrO (En G) 51 1 (some (.pointer (some ⟨b, off, none⟩))) = some (.pointer (some ⟨b, off + 1, none⟩)) := by
  simp only [fieldAddrO, evFieldAddr, us51, Tryd.underlying51, List.getElem?_toArray, List.getElem?_cons_zero, List.getElem?_cons_succ, i3, size3, forceN_eq]
  rfl
theorem fld61_0 {G b off : Nat} : fieldAddrO (En G) 61 0 (some (.pointer (some ⟨b, off, none⟩))) = some (.pointer (some ⟨b, off + 0, none⟩)) := by
  simp only [fieldAddrO, evFieldAddr, us61, Tryd.underlying61, List.getElem?_toArray, List.getElem?_cons_zero, List.getElem?_cons_succ, i3, size3, forceN_eq]
  rfl
theorem fld61_1 {G b off : Nat} : fieldAddrO (En G) 61 1 (some (.pointer (some ⟨b, off, none⟩))) = some (.pointer (some ⟨b, off + 1, none⟩)) := by
  simp only [fieldAddrO, evFieldAddr, us61, Tryd.underlying61, List.getElem?_toArray, List.getElem?_cons_zero, List.getElem?_cons_succ, i3, size3, forceN_eq]
  rfl
theorem fld61_2 {G b off : Nat} : fieldAddrO (En G) 61 2 (some (.pointer (some ⟨b, off, none⟩))) = some (.pointer (some ⟨b, off + 2, none⟩)) := by
  simp only [fieldAddrO, evFieldAddr, us61, Tryd.underlying61, List.getElem?_toArray, List.getElem?_cons_zero, List.getElem?_cons_succ, i3, size3, forceN_eq]
  rfl
theorem fld64_0 {G b off : Nat} : fieldAddrO (En G) 64 0 (some (.pointer (some ⟨b, off, none⟩))) = some (.pointer (some ⟨b, off + 0, none⟩)) := by
  simp only [fieldAddrO, evFieldAddr, us64, Tryd.underlying64, List.getElem?_toArray, List.getElem?_cons_zero, List.getElem?_cons_succ, i22, size22, forceN_eq]
  rfl
theorem fld64_1 {G b off : Nat} : fieldAddrO (En G) 64 1 (some (.pointer (some ⟨b, off, none⟩))) = some (.pointer (some ⟨b, off + 1, none⟩)) := by
  simp only [fieldAddrO, evFieldAddr, us64, Tryd.underlying64, List.getElem?_toArray, List.getElem?_cons_zero, List.getElem?_cons_succ, i3, size3, forceN_eq]
  rfl
theorem fld64_2 {G b off : Nat} : fieldAddrO (En G) 64 2 (some (.pointer (some ⟨b, off, none⟩))) = some (.pointer (some ⟨b, off + 2, none⟩)) := by
  simp only [fieldAddrO, evFieldAddr, us64, Tryd.underlying64, List.getElem?_toArray, List.getElem?_cons_zero, List.getElem?_cons_succ, i3, size3, forceN_eq]
  rfl
theorem fld100_0 {G b off : Nat} : fieldAddrO (En G) 100 0 (some (.pointer (some ⟨b, off, none⟩))) = some (.pointer (some ⟨b, off + 0, none⟩)) := by
  simp only [fieldAddrO, evFieldAddr, us100, Tryd.underlying100, List.getElem?_toArray, List.getElem?_cons_zero, List.getElem?_cons_succ, i3, size3, forceN_eq]
  rfl
theorem fld100_1 {G b off : Nat} : fieldAddrO (En G) 100 1 (some (.pointer (some ⟨b, off, none⟩))) = some (.pointer (some ⟨b, off + 1, none⟩)) := by
  simp only [fieldAddrO, evFieldAddr, us100, Tryd.underlying100, List.getElem?_toArray, List.getElem?_cons_zero, List.getElem?_cons_succ, i3, size3, forceN_eq]
  rfl
theorem fld100_2 {G b off : Nat} : fieldAddrO (En G) 100 2 (some (.pointer (some ⟨b, off, none⟩))) = some (.pointer (some ⟨b, off + 2, none⟩)) := by
  simp only [fieldAddrO, evFieldAddr, us100, Tryd.underlying100, List.getElem?_toArray, List.getElem?_cons_zero, List.getElem?_cons_succ, i3, size3, forceN_eq]
  rfl
end
end Go.Proofs.YtnhbkoeomefkdaaDoor.Ev

