/- Arguments: bytes. -/
import Derived.Test.YtnhbkoeomefkdaaDoorPmhCA
import Derived.Test.YtnhbkoeomefkdaaDoorPmhM1
set_option linter.unusedVariables false
set_option linter.unusedSimpArgs false
namespace Go.Proofs.YtnhbkoeomefkdaaDoor.PmC
open Go.ChangeShapes Go.WideShapes Go.ChangeAt Go.RowKit
open Go.Proofs Go.Proofs.YtnhbkoeomefkdaaDoor
open Go.Proofs.YtnhbkoeomefkdaaDoor.Ev (TabsW TabsIn tabs VR VRs Phi ArgB heapA phiA ArgsIn cells_world SlV Blk Tr)
theorem lits_len {H : Type} {k : IntKind} : ∀ zs : List Int, (lits (H := H) k zs).length = zs.length
  | [] => rfl
  | z :: zs => by
    have := lits_len (H := H) (k := k) zs
    show (lits (H := H) k zs).length + 1 = zs.length + 1
    omega
theorem wf_u8 {z : Int} (h : (Lit.int .u8 z).wf = true) : 0 ≤ z ∧ z ≤ 255 := by
  simp only [Lit.wf, Bool.and_eq_true, decide_eq_true_eq] at h
  simp [IntKind.min, IntKind.max, IntKind.signed, IntKind.bits] at h
  omega
theorem byts_of : ∀ zs : List Int, (∀ z ∈ zs, (Lit.int .u8 z).wf = true) → zs.map (Value.int .u8) = Ev.L.u8s (zs.map fun z => z.toNat)
  | [], _ => rfl
  | z :: zs, h => by
    have hz := wf_u8 (h z List.mem_cons_self)
    have hn : ((z.toNat : Nat) : Int) = z := by omega
    have := byts_of zs (fun z hz => h z (List.mem_cons_of_mem _ hz))
    simp only [List.map_cons, this, Ev.L.u8s, hn]
theorem nats_le {zs : List Int} (h : ∀ z ∈ zs, (Lit.int .u8 z).wf = true) : ∀ n ∈ zs.map fun z => z.toNat, n ≤ 255 := fun n hn => by
  obtain ⟨z, hz, rfl⟩ := List.mem_map.1 hn
  have := wf_u8 (h z hz)
  omega

/-- a slice of bytes that came in, no longer than it weighs -/
theorem arg_bytes {H : Type} {enc : TypeId × Value → H} {P : Program} {w : World} {t e : TypeId} {v : Value} {d : DataW H} {p : List MemPlace} {r : Reach} {b0 : Nat} (h0 : ∃ cs ty fr, w.heap[0]? = some (.cells cs ty fr))
    (ht : P.underlying t = some (.slice e)) (he : P.underlying e = some (.int .u8)) (hc : P.cellsOf e = 1) (hval : Value.okWide P w r b0 t v) (hd : DataW.Trod enc P w 0 (fun _ => true) true t v d p) :
    ∃ (B : ArgB) (l : List Nat) (V : Nat → Value), (∀ n ∈ l, n ≤ 255) ∧ Long d l.length ∧ B.L = Ev.L.u8s l ∧ B.es = 1 ∧ (∀ φ, ArgIn φ B w) ∧
      (∀ (T : Tr Blk) (b : Nat), T.get b = some (.mk (Tr.ofList B.L) B.L.length 1) → SlV T b (b + 1) 1 l.length (Ev.L.u8s l) (V b)) ∧
      ∀ (φ : Phi) (b : Nat), φ b = some (B.blk, B.off, B.es, B.top) → VR φ (V b) v := by
  obtain ⟨a0, len, cap, rfl⟩ := okWide_slice ht hval
  obtain ⟨fuel, hf⟩ := hd
  rcases open_ints ht he hc hf with ⟨hcs, hx⟩ | ⟨a, len', cap', zs, hcs, _, hl, hm, hz, hx, hcell, hwz⟩
  · simp [Value.cells] at hcs
    obtain ⟨rfl, rfl, rfl⟩ := hcs
    obtain ⟨cs, ty, fr, hh⟩ := h0
    refine ⟨⟨[], 0, 0, 1, 0⟩, [], fun _ => .slice none 0 0, (fun n hn => by cases hn), .inl rfl, rfl, rfl, fun φ => ⟨Nat.le_refl _, cs, ty, fr, hh, Nat.zero_le _, fun j v hv => by simp at hv⟩, fun T b _ => .nil rfl rfl, fun φ b _ => .nils⟩
  · simp [Value.cells] at hcs
    obtain ⟨rfl, rfl, rfl⟩ := hcs
    simp only [if_true] at hz
    simp only [Prod.mk.injEq] at hx
    obtain ⟨hxd, hxp⟩ := hx
    have hlt : (zs.take len).length = len := by simp; omega
    have hlong : Long d len := .inr ⟨_, _, hxd, by rw [lits_len]; exact hlt⟩
    have hwt : ∀ z ∈ zs.take len, (Lit.int .u8 z).wf = true := fun z hz => hwz z (List.mem_of_mem_take hz)
    have hby := byts_of _ hwt
    have hbl : ((zs.take len).map fun z => z.toNat).length = len := by simp; omega
    have slv : ∀ (T : Tr Blk) (b : Nat), T.get b = some (.mk (Tr.ofList ((zs.take len).map (Value.int .u8))) ((zs.take len).map (Value.int .u8)).length 1) → SlV T b (b + 1) 1 ((zs.take len).map fun z => z.toNat).length (Ev.L.u8s ((zs.take len).map fun z => z.toNat)) (.slice (some ⟨b, 0, none⟩) len len) := fun T b hT => by
      rw [hbl, ← hby]
      refine .mk hT (Nat.le_refl _) (Nat.lt_succ_self _) (by simp; omega) (by simp; omega) fun i hi => ?_
      rw [Tr.ofList_get, Nat.zero_add]
    by_cases hp : 0 < cap
    · obtain ⟨bl, off, rfl, hj⟩ := ints_at hcell (by omega)
      have hsp : (⟨bl, off, none⟩ : Addr).spot = none := rfl
      obtain ⟨cs, ty, fr, hh, hsz, hcs⟩ := cells_world (w := w) (a := ⟨bl, off, none⟩) (n := cap) hp (V := fun i => .int .u8 (zs.getD i 0)) rfl (fun i hi => hcell i (by omega))
      refine ⟨⟨(zs.take len).map (Value.int .u8), bl, off, 1, off + cap⟩, (zs.take len).map fun z => z.toNat, fun b => .slice (some ⟨b, 0, none⟩) len len, nats_le hwt, by rw [hbl]; exact hlong, hby, rfl, fun φ => ⟨by simp; omega, cs, ty, fr, hh, hsz, fun j v hv => ?_⟩, slv, fun φ b hb => ?_⟩
      · have hv' : ((zs.take len).map (Value.int .u8))[j]? = some v := hv
        have hjl : j < len := by
          have := (List.getElem?_eq_some_iff.1 hv').1
          simp at this; omega
        rw [List.getElem?_map, List.getElem?_take, if_pos hjl, List.getElem?_eq_getElem (by omega)] at hv'
        simp only [Option.map_some, Option.some.injEq] at hv'
        subst hv'
        refine ⟨_, hcs j (by omega), ?_⟩
        rw [show zs.getD j 0 = zs[j]'(by omega) by simp [List.getD, show j < zs.length by omega]]
        exact .int .u8 _
      · exact .slc hb hl hl (by show off + 0 + cap * 1 ≤ off + cap; omega) (.inl (by simp))
    · obtain rfl : cap = 0 := by omega
      obtain rfl : len = 0 := by omega
      obtain ⟨cs, ty, fr, hh⟩ := h0
      obtain rfl : zs = [] := List.length_eq_zero_iff.1 hz
      refine ⟨⟨[], 0, 0, 1, 0⟩, [], fun b => .slice (some ⟨b, 0, none⟩) 0 0, (fun n hn => by cases hn), .inl rfl, rfl, rfl, fun φ => ⟨Nat.le_refl _, cs, ty, fr, hh, Nat.zero_le _, fun j v hv => by simp at hv⟩, slv, fun φ b hb => ?_⟩
      exact .slc hb (Nat.le_refl _) (Nat.le_refl _) (by simp) (.inr rfl)


theorem Long.top5 {H : Type} {d : DataW H} {n : Nat} (h : Long d n) (hs : ∀ elems spare, d = .slice elems spare → (elems.length + spare.length) * Tryd.prog.bytesOf 5 ≤ reachBytes) : n < 4611686018427387904 := by
  rcases h with rfl | ⟨e, s, hd, rfl⟩
  · decide
  · have h1 := hs e s hd
    have hb : Tryd.prog.bytesOf 5 = 1 := by kernel_rfl
    rw [hb, Nat.mul_one] at h1
    have h2 := reachBytes_lt
    omega
end Go.Proofs.YtnhbkoeomefkdaaDoor.PmC

