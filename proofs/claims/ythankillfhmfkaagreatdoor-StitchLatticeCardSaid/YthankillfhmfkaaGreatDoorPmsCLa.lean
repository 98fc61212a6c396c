/- Proved: for every number of threads, every free word and any three slices, the law StitchLattice returns true, and its arguments read afterwards as before. Conditions: the three listed tables of the library hold what the program's text lays into them (the card ties that); nothing else. -/
import Derived.Test.YthankillfhmfkaaGreatDoorPmCC
import Derived.Test.YthankillfhmfkaaGreatDoorPmsD1
import Derived.OpenShut
import Derived.SizedLaws
import Derived.Test.YthankillfhmfkaaGreatDoorPmsP2
set_option linter.unusedSimpArgs false
namespace Go.Proofs.YthankillfhmfkaaGreatDoor.PmStitchLattice
open Go.ChangeShapes Go.WideShapes Go.ChangeAt Go.RowKit
open Go.Proofs Go.Proofs.YthankillfhmfkaaGreatDoor Go.Proofs.YthankillfhmfkaaGreatDoor.PmC
open Go.Proofs.YthankillfhmfkaaGreatDoor.Ev (tabs heapA phiA phiA_arg heapA_arg VR VRs SlV Tr ArgB Phi Blk cells_world)

theorem laidOut : laidOutB Tryz.prog = true := by kernel_rfl
theorem ce5 : Tryz.prog.cellsOf 5 = 1 := by kernel_rfl
theorem ce70 : Tryz.prog.cellsOf 70 = 1 := by kernel_rfl
theorem ce72 : Tryz.prog.cellsOf 72 = 2 := by kernel_rfl
theorem ce73 : Tryz.prog.cellsOf 73 = 1 := by kernel_rfl
theorem ce86 : Tryz.prog.cellsOf 86 = 2 := by kernel_rfl

theorem by5 : Tryz.prog.bytesOf 5 = 1 := by kernel_rfl
theorem lits_len {H : Type} {k : IntKind} : ∀ zs : List Int, (lits (H := H) k zs).length = zs.length
  | [] => rfl
  | z :: zs => by
    have := lits_len (H := H) (k := k) zs
    show (lits (H := H) k zs).length + 1 = zs.length + 1
    omega
theorem weightsAll_mem {H : Type} {P : Program} {e : TypeId} : ∀ {l : List (DataW H)} {d : DataW H}, d ∈ l → ∀ n ∈ d.weights P e, n ∈ DataW.weightsAll P e l
  | d' :: r, d, hd, n, hn => by
    simp only [DataW.weightsAll, List.mem_append]
    rcases List.mem_cons.1 hd with rfl | h
    · exact Or.inl hn
    · exact Or.inr (weightsAll_mem h n hn)
theorem sized_part {H : Type} {P : Program} {ts : List TypeId} {ds : List (DataW H)} (h : (DataW.weightsEach P ts ds).all (· ≤ reachBytes) = true) {j n : Nat} {t e q : TypeId} {parts e' sp' : List (DataW H)}
    (ht : ts[j]? = some t) (hd : ds[j]? = some (.agg parts)) (hu : P.underlying t = some (.array n e)) (hu2 : P.underlying e = some (.slice q)) (hx : DataW.slice e' sp' ∈ parts) : (e'.length + sp'.length) * P.bytesOf q ≤ reachBytes := by
  refine of_decide_eq_true (List.all_eq_true.1 h _ (DataW.weights_mem_each ht hd _ ?_))
  simp only [DataW.weights, hu]
  exact weightsAll_mem hx _ (by simp [DataW.weights, hu2])
/-- a slice that came in is what was read of it, so long -/
def Long {H : Type} (d : DataW H) (n : Nat) : Prop := n = 0 ∨ ∃ elems spare, d = .slice elems spare ∧ elems.length = n
theorem Long.top {H : Type} {d : DataW H} {n : Nat} (h : Long d n) (hs : ∀ elems spare, d = .slice elems spare → (elems.length + spare.length) * Tryz.prog.bytesOf 5 ≤ reachBytes) : n < 4611686018427387904 := by
  rcases h with rfl | ⟨e, s, hd, rfl⟩
  · decide
  · have h1 := hs e s hd
    rw [by5, Nat.mul_one] at h1
    have h2 := reachBytes_lt
    omega
theorem wf_u8 {z : Int} (h : (Lit.int .u8 z).wf = true) : 0 ≤ z ∧ z ≤ 255 := by
  simp only [Lit.wf, Bool.and_eq_true, decide_eq_true_eq] at h
  simp [IntKind.min, IntKind.max, IntKind.signed, IntKind.bits] at h
  omega
theorem byts_of : ∀ zs : List Int, (∀ z ∈ zs, (Lit.int .u8 z).wf = true) → zs.map (Value.int .u8) = Ev.byts (zs.map fun z => UInt8.ofNat z.toNat)
  | [], _ => rfl
  | z :: zs, h => by
    have hz := wf_u8 (h z List.mem_cons_self)
    have hn : ((UInt8.ofNat z.toNat).toNat : Int) = z := by rw [UInt8.toNat_ofNat']; have : z.toNat % 2 ^ 8 = z.toNat := Nat.mod_eq_of_lt (by omega); omega
    have := byts_of zs (fun z hz => h z (List.mem_cons_of_mem _ hz))
    simp only [List.map_cons, this, Ev.byts, hn]

/-- a slice of bytes that came in, no longer than it weighs -/
theorem arg_bytesC {H : Type} {enc : TypeId × Value → H} {P : Program} {w : World} {t e : TypeId} {v : Value} {d : DataW H} {p : List MemPlace} {fuel : Nat} (h0 : ∃ cs ty fr, w.heap[0]? = some (.cells cs ty fr))
    (ht : P.underlying t = some (.slice e)) (he : P.underlying e = some (.int .u8)) (hc : P.cellsOf e = 1) (hf : DataW.trod enc P w 0 (fun _ => true) true fuel t [v] = some (d, p)) :
    ∃ (B : ArgB) (l : List UInt8) (V : Nat → Value), Long d l.length ∧ B.L = Ev.byts l ∧ B.es = 1 ∧ (∀ φ, ArgIn φ B w) ∧
      (∀ (T : Tr Blk) (b : Nat), T.get b = some (.mk (Tr.ofList B.L) B.L.length 1) → SlV T b (b + 1) 1 l.length (Ev.byts l) (V b)) ∧
      ∀ (φ : Phi) (b : Nat), φ b = some (B.blk, B.off, B.es, B.top) → VR φ (V b) v := by
  rcases open_ints ht he hc hf with ⟨hcs, hx⟩ | ⟨a, len, cap, zs, hcs, _, hl, hm, hz, hx, hcell, hwz⟩
  · obtain rfl : v = .slice none 0 0 := by simpa using hcs
    obtain ⟨cs, ty, fr, hh⟩ := h0
    refine ⟨⟨[], 0, 0, 1, 0⟩, [], fun _ => .slice none 0 0, .inl rfl, rfl, rfl, fun φ => ⟨Nat.le_refl _, cs, ty, fr, hh, Nat.zero_le _, fun j v hv => by simp at hv⟩, fun T b _ => .nil rfl rfl, fun φ b _ => .nils⟩
  · obtain rfl : v = .slice (some a) len cap := by simpa using hcs
    simp only [if_true] at hz
    simp only [Prod.mk.injEq] at hx
    obtain ⟨hxd, hxp⟩ := hx
    have hlt : (zs.take len).length = len := by simp; omega
    have hlong : Long d len := .inr ⟨_, _, hxd, by rw [lits_len]; exact hlt⟩
    have hwt : ∀ z ∈ zs.take len, (Lit.int .u8 z).wf = true := fun z hz => hwz z (List.mem_of_mem_take hz)
    have hby := byts_of _ hwt
    have hbl : ((zs.take len).map fun z => UInt8.ofNat z.toNat).length = len := by simp; omega
    have slv : ∀ (T : Tr Blk) (b : Nat), T.get b = some (.mk (Tr.ofList ((zs.take len).map (Value.int .u8))) ((zs.take len).map (Value.int .u8)).length 1) → SlV T b (b + 1) 1 ((zs.take len).map fun z => UInt8.ofNat z.toNat).length (Ev.byts ((zs.take len).map fun z => UInt8.ofNat z.toNat)) (.slice (some ⟨b, 0, none⟩) len len) := fun T b hT => by
      rw [hbl, ← hby]
      refine .mk hT (Nat.le_refl _) (Nat.lt_succ_self _) (by simp; omega) (by simp; omega) fun i hi => ?_
      rw [Tr.ofList_get, Nat.zero_add]
    by_cases hp : 0 < cap
    · obtain ⟨bl, off, rfl, hj⟩ := ints_at hcell (by omega)
      have hsp : (⟨bl, off, none⟩ : Addr).spot = none := rfl
      obtain ⟨cs, ty, fr, hh, hsz, hcs⟩ := cells_world (w := w) (a := ⟨bl, off, none⟩) (n := cap) hp (V := fun i => .int .u8 (zs.getD i 0)) rfl (fun i hi => hcell i (by omega))
      refine ⟨⟨(zs.take len).map (Value.int .u8), bl, off, 1, off + cap⟩, (zs.take len).map fun z => UInt8.ofNat z.toNat, fun b => .slice (some ⟨b, 0, none⟩) len len, by rw [hbl]; exact hlong, hby, rfl, fun φ => ⟨by simp; omega, cs, ty, fr, hh, hsz, fun j v hv => ?_⟩, slv, fun φ b hb => ?_⟩
      · have hv' : ((zs.take len).map (Value.int .u8))[j]? = some v := hv
        have hjl : j < len := by
          have := (List.getElem?_eq_some_iff.1 hv').1
          simp at this; omega
        rw [List.getElem?_map, List.getElem?_take, if_pos hjl, List.getElem?_eq_getElem (by omega)] at hv'
        simp only [Option.map_some, Option.some.injEq] at hv'
        subst hv'
        refine ⟨_, hcs j (by omega), ?_⟩
        rw [show zs.getD j 0 = zs[j]'(by omega) by simp [List.getD, show j < zs.length by omega]]
        exact .int .u8 _
      · exact .slc hb hl hl (by show off + 0 + cap * 1 ≤ off + cap; omega) (.inl (by simp))
    · obtain rfl : cap = 0 := by omega
      obtain rfl : len = 0 := by omega
      obtain ⟨cs, ty, fr, hh⟩ := h0
      obtain rfl : zs = [] := List.length_eq_zero_iff.1 hz
      refine ⟨⟨[], 0, 0, 1, 0⟩, [], fun b => .slice (some ⟨b, 0, none⟩) 0 0, .inl rfl, rfl, rfl, fun φ => ⟨Nat.le_refl _, cs, ty, fr, hh, Nat.zero_le _, fun j v hv => by simp at hv⟩, slv, fun φ b hb => ?_⟩
      exact .slc hb (Nat.le_refl _) (Nat.le_refl _) (by simp) (.inr rfl)

theorem okWide_arr {P : Program} {w : World} {r : Reach} {base : Nat} {t e : TypeId} {n : Nat} {v : Value} (ht : P.underlying t = some (.array n e)) (h : Value.okWide P w r base t v) : ∃ cs, v = .agg cs ∧ cs.size = P.cellsOf t := by
  simp only [Value.okWide, ht] at h
  obtain ⟨cs, h1, h2, _⟩ := h
  exact ⟨cs, h1, h2⟩
theorem two {cs : Array Value} {n : Nat} (h : cs.size = n) (h2 : n = 2) : ∃ c0 c1, cs = #[c0, c1] := by
  subst h2
  exact ⟨cs[0], cs[1], by apply Array.ext (by simp [h]); intro i h3 h4; match i, h4 with
    | 0, _ => rfl
    | 1, _ => rfl⟩

set_option maxRecDepth 100000 in
theorem contract (H : Type) (enc : TypeId × Value → H) (W : World) (base : Nat) (args : Array Value) (ds gs : List (DataW H)) (before : List MemPlace)
    (hval : ∀ (j : Nat) t v, Tryz.f14.params[j]? = some t → args[j]? = some v → Value.okWide Tryz.prog W .any base t v)
    (hW : DataW.Whole enc Tryz.prog Tryz.f14.params.toList Rows.stitchLatticeSpec.vars false W args.toList ds gs before) (hsz : (DataW.weightsEach Tryz.prog (Tryz.f14.params.toList ++ (OpenSpec.ofChange Rows.stitchLatticeSpec).bare.plain.varTypes Tryz.prog) (ds ++ gs)).all (· ≤ reachBytes) = true) (hL : laidMetH Tryz.prog Rows.stitchLatticeRow.laid W) :
    Calls Tryz.prog 14 args W fun e W' => ∃ v, e = .returned v ∧ Rows.stitchLatticeSpec.post enc Tryz.prog Tryz.f14 false true false false W args v W' := by
  have hW' := hW
  obtain ⟨p, q, hA0, hV, rfl, hfz, hnd⟩ := hW
  have hA : DataW.TrodAll enc Tryz.prog W 0 (fun _ => true) true Tryz.f14.params.toList args.toList ds p := hA0
  rw [Tryz.params14] at hA hval hsz
  obtain ⟨v0, vs0, d0, ds0, p0, q0, hargs, rfl, rfl, h0, r0⟩ := trodAll_cons hA
  obtain ⟨v1, vs1, d1, ds1, p1, q1, hargs1, rfl, rfl, h1, r1⟩ := trodAll_cons r0
  obtain ⟨v2, vs2, d2, ds2, p2, q2, hargs2, rfl, rfl, h2, r2⟩ := trodAll_cons r1
  obtain ⟨rfl, rfl, rfl⟩ := trodAll_nil r2
  obtain rfl : args = #[v0, v1, v2] := by cases args; simp_all
  obtain ⟨rfl, rfl⟩ := trodVars_none hV
  obtain ⟨cs, rfl, hcs⟩ := okWide_struct Tryz.underlying72 (hval 0 72 v0 rfl rfl)
  clear hA0
  have hT := tables hL
  have take1 : ∀ {n : Nat} {a b : Value} {l : List Value}, n = 1 → List.take n (a :: l) = [b] → a = b := by rintro _ a b l rfl h; simpa using h
  have slot : ∀ {m : Nat} {c0 c1 : Value}, m = 1 → ((Value.agg #[c0, c1]).cells.toList.drop (0 * m)).take m = [c0] ∧ ((Value.agg #[c0, c1]).cells.toList.drop (1 * m)).take m = [c1] := by rintro _ c0 c1 rfl; exact ⟨rfl, rfl⟩
  obtain ⟨cs1, rfl, hcs1⟩ := okWide_arr Tryz.underlying86 (hval 1 86 v1 rfl rfl)
  obtain ⟨e0, e1, rfl⟩ := two hcs1 ce86
  obtain ⟨sa, sn, sc, rfl⟩ := okWide_slice Tryz.underlying73 (hval 2 73 v2 rfl rfl)
  obtain ⟨fuel1, hf1⟩ := id h1
  obtain ⟨xs1, m1, _, hxs1, _, hxl1, hfs1⟩ := DataW.trod_array Tryz.underlying86 hf1
  obtain ⟨fuel2, hf2⟩ := id h2
  match xs1, hxl1 with
  | [u0, u1], _ =>
  have a0 := hfs1 0 (by decide)
  have a1 := hfs1 1 (by decide)
  rw [(slot ce73).1] at a0
  rw [(slot ce73).2] at a1
  obtain ⟨ud0, up0⟩ := u0
  obtain ⟨ud1, up1⟩ := u1
  obtain ⟨B1, l1, V1, hb1, hL1, hE1, hin1, hs1, hv1⟩ := arg_bytesC (tab_there hT) Tryz.underlying73 Tryz.underlying5 ce5 a0
  obtain ⟨B2, l2, V2, hb2, hL2, hE2, hin2, hs2, hv2⟩ := arg_bytesC (tab_there hT) Tryz.underlying73 Tryz.underlying5 ce5 a1
  obtain ⟨B3, l3, V3, hb3, hL3, hE3, hin3, hs3, hv3⟩ := arg_bytesC (tab_there hT) Tryz.underlying73 Tryz.underlying5 ce5 hf2
  have hd1 : d1 = .agg [ud0, ud1] := (Prod.mk.inj hxs1).1
  rw [hd1] at hsz
  have hn1 := hb1.top fun e s hd => sized_part hsz (j := 1) (t := 86) (parts := [ud0, ud1]) rfl rfl Tryz.underlying86 Tryz.underlying73 (by rw [← hd]; simp)
  have hn2 := hb2.top fun e s hd => sized_part hsz (j := 1) (t := 86) (parts := [ud0, ud1]) rfl rfl Tryz.underlying86 Tryz.underlying73 (by rw [← hd]; simp)
  have hn3 := hb3.top fun e s hd => sized_slice hsz (j := 2) (t := 73) rfl (by rw [hd]; rfl) Tryz.underlying73
  obtain ⟨fuel, hf⟩ := id h0
  obtain ⟨xs, n, _, hxs, hlen, hxl, hfs⟩ := DataW.trod_struct Tryz.underlying72 hf
  obtain ⟨c0, c1, rfl⟩ : ∃ c0 c1, cs = #[c0, c1] := by
    rw [ce72] at hcs
    exact ⟨cs[0], cs[1], by apply Array.ext (by simp [hcs]); intro i h3 h4; match i, h4 with
      | 0, _ => rfl
      | 1, _ => rfl⟩
  have g0 := hfs 0 _ rfl
  have g1 := hfs 1 _ rfl
  simp only [Value.cells, ce5, ce70, List.drop_zero, List.drop_succ_cons, List.take_succ_cons, List.take_zero] at g0 g1
  match xs, hxl with
  | [y0, y1], _ =>
  obtain ⟨k, hk, hkw⟩ := DataW.trod_int Tryz.underlying5 g0
  obtain ⟨fr, hfr, _⟩ := DataW.trod_int Tryz.underlying70 g1
  obtain rfl : c0 = .int .u8 k := take1 ce5 hk
  obtain rfl : c1 = .int .u16 fr := take1 ce70 hfr
  have hkr : 0 ≤ k ∧ k ≤ 255 := by first | exact wf_u8 hkw | exact wf_u8 hkw.1 | exact wf_u8 hkw.2
  have hlt0 : ∀ x ∈ p0, x.block < W.heap.size := fun x hx => hW'.lt x (by simp [hx])
  have hlt1 : ∀ x ∈ p1, x.block < W.heap.size := fun x hx => hW'.lt x (by simp [hx])
  have hlt2 : ∀ x ∈ p2, x.block < W.heap.size := fun x hx => hW'.lt x (by simp [hx])
  have hphi3 : phiA 4 tabs [B1, B2, B3] 6 = some (B3.blk, B3.off, B3.es, B3.top) := phiA_arg (N := 4) (tabs := tabs) (args := [B1, B2, B3]) (i := 2) rfl
  have hphi1 : phiA 4 tabs [B1, B2, B3] 4 = some (B1.blk, B1.off, B1.es, B1.top) := phiA_arg (N := 4) (tabs := tabs) (args := [B1, B2, B3]) (i := 0) rfl
  have hphi2 : phiA 4 tabs [B1, B2, B3] 5 = some (B2.blk, B2.off, B2.es, B2.top) := phiA_arg (N := 4) (tabs := tabs) (args := [B1, B2, B3]) (i := 1) rfl
  have hsl1 := hs1 (heapA 4 tabs [B1, B2, B3]).blks 4 (by rw [heapA_arg (Nat.le_refl 4) fun x hx => (tabs_small x hx).1]; show some (Ev.Blk.mk (Ev.Tr.ofList B1.L) B1.L.length B1.es) = _; rw [hE1])
  have hsl2 := hs2 (heapA 4 tabs [B1, B2, B3]).blks 5 (by rw [heapA_arg (by decide) fun x hx => (tabs_small x hx).1]; show some (Ev.Blk.mk (Ev.Tr.ofList B2.L) B2.L.length B2.es) = _; rw [hE2])
  have hsl3 := hs3 (heapA 4 tabs [B1, B2, B3]).blks 6 (by rw [heapA_arg (by decide) fun x hx => (tabs_small x hx).1]; show some (Ev.Blk.mk (Ev.Tr.ofList B3.L) B3.L.length B3.es) = _; rw [hE3])
  obtain ⟨A3, k3, hV3⟩ := hsl3.shape
  rw [hV3] at hsl3
  have hvr3 := hv3 (phiA 4 tabs [B1, B2, B3]) 6 hphi3
  rw [hV3] at hvr3
  obtain ⟨A1, k1, hV1⟩ := hsl1.shape
  obtain ⟨A2, k2, hV2⟩ := hsl2.shape
  rw [hV1] at hsl1
  rw [hV2] at hsl2
  have hvr1 := hv1 (phiA 4 tabs [B1, B2, B3]) 4 hphi1
  have hvr2 := hv2 (phiA 4 tabs [B1, B2, B3]) 5 hphi2
  rw [hV1] at hvr1
  rw [hV2] at hvr2
  have hagg : VR (phiA 4 tabs [B1, B2, B3]) (.agg #[.int .u8 k, .int .u16 fr]) (.agg #[.int .u8 k, .int .u16 fr]) := .agg rfl fun i h3 h4 => match i, h3, h4 with
    | 0, _, _ => .int _ _
    | 1, _, _ => .int _ _
  have harr1 : VR (phiA 4 tabs [B1, B2, B3]) (.agg #[.slice A1 l1.length k1, .slice A2 l2.length k2]) (.agg #[e0, e1]) := .agg rfl fun i h3 h4 => match i, h3, h4 with
    | 0, _, _ => hvr1
    | 1, _, _ => hvr2
  have hrun := spec_run (Ev.law_StitchLattice (G := 4 + [B1, B2, B3].length) (h0 := heapA 4 tabs [B1, B2, B3]) (Nat.le_add_right 4 3) (Nat.le_refl _) (heapA_tabs [B1, B2, B3]) hkr.1 hkr.2 (Fr := fr) hsl1 (show 4 + 1 ≤ 4 + 3 by decide) hsl2 (show 5 + 1 ≤ 4 + 3 by decide) hsl3 (show 6 + 1 ≤ 4 + 3 by decide) hn1 hn2 hn3)
  refine (calls_args (f := 14) (bs := [B1, B2, B3]) (.cons hagg (.cons harr1 (.cons hvr3 .nil))) (argsIn_mk fun x hx => by
    rcases List.mem_cons.1 hx with rfl | hx
    · exact hin1 _
    · rcases List.mem_cons.1 hx with rfl | hx
      · exact hin2 _
      · rw [List.mem_singleton.1 hx]; exact hin3 _) hrun hT).mono fun e W' ⟨he, hb⟩ => ?_
  subst he
  exact ⟨_, rfl, post_below (pa := p0 ++ (p1 ++ (p2 ++ []))) (pv := []) hW' (fun _ _ _ => trodAll_cons_mk (shut_bool Tryz.underlying4 _) trodAll_mk0)
    (fun sp hsp => trodAll_cons_mk (WideElems.Trod_stays laidOut (by kernel_rfl) (of_decide_eq_true (by kernel_rfl)) h0 (fun x hx => hb.same (hlt0 x hx)) (fun x hx => hsp x (by simp [hx])))
      (trodAll_cons_mk (WideElems.Trod_stays laidOut (by kernel_rfl) (of_decide_eq_true (by kernel_rfl)) h1 (fun x hx => hb.same (hlt1 x hx)) (fun x hx => hsp x (by simp [hx])))
        (trodAll_cons_mk (WideElems.Trod_stays laidOut (by kernel_rfl) (of_decide_eq_true (by kernel_rfl)) h2 (fun x hx => hb.same (hlt2 x hx)) (fun x hx => hsp x (by simp [hx]))) trodAll_mk0))) (fun _ _ => rfl) (by simp)
    hb (ok_one (by kernel_rfl) rfl (okWide_bool_mk Tryz.underlying4 _))⟩

theorem laid_met (os : Os) : laidMet Tryz.prog Rows.stitchLatticeRow.laid ((laidWorld os).forCall (fun _ _ => 0) ⟨#[], #[.agg #[.int .u8 0, .int .u16 0], .agg #[.slice none 0 0, .slice none 0 0], .slice none 0 0], []⟩).memory :=
  laidMet_of_run' 8 (by kernel_rfl) (by kernel_rfl)
theorem reads (os : Os) {H : Type} (enc : TypeId × Value → H) : ∃ places, DataW.whole enc Tryz.prog ((laidWorld os).forCall (fun _ _ => 0) ⟨#[], #[.agg #[.int .u8 0, .int .u16 0], .agg #[.slice none 0 0, .slice none 0 0], .slice none 0 0], []⟩).memory Tryz.f14.params.toList Rows.stitchLatticeSpec.vars false #[Value.agg #[.int .u8 0, .int .u16 0], .agg #[.slice none 0 0, .slice none 0 0], .slice none 0 0].toList 8 = some ([.agg [.lit (.int .u8 0), .lit (.int .u16 0)], .agg [.nil, .nil], .nil], [], places) :=
  ⟨[], by kernel_rfl⟩

set_option maxRecDepth 100000 in
theorem lifted (os : Os) (started : os.Started) (H : Type) (enc : TypeId × Value → H) (F : Stop.Interp) :
    ReturnsInHanded {} Tryz.checked os 14 .any ((OpenSpec.ofChange Rows.stitchLatticeSpec).preRow enc Tryz.prog Tryz.f14 Rows.stitchLatticeRow.domain false Rows.stitchLatticeRow.laid) (((OpenSpec.ofChange Rows.stitchLatticeSpec).at F).post enc Tryz.prog Tryz.f14 false true false false) := by
  obtain ⟨places, hx⟩ := reads os enc
  refine returnsInHanded_of_row (C := Tryz.checked) (s := OpenSpec.ofChange Rows.stitchLatticeSpec) own started (by kernel_rfl) Tryz.func14
    (witness_row_at (enc := enc) (C := Tryz.checked) false (laidWorld os) #[.agg #[.int .u8 0, .int .u16 0], .agg #[.slice none 0 0, .slice none 0 0], .slice none 0 0] rfl (by kernel_rfl) (by kernel_rfl) (by kernel_rfl)
      (OpenSpec.preRow_of_cond 8 hx (by kernel_rfl) (fun k hk => by cases hk) (by kernel_rfl) (laid_met os))) ?_
  intro W base args ds gs before hval hW _ _ hsz hL _ _
  exact contract H enc W base args ds gs before hval hW hsz hL

theorem said : Rows.StitchLatticeSaid :=
  OpenClaim.holds_of_cond 14 Tryz.f14 rfl rfl rfl rfl rfl rfl rfl ⟨rfl, rfl, rfl, rfl, rfl⟩ rfl rfl rfl rfl rfl (by kernel_rfl) Tryz.func14 (by kernel_rfl)
    (of_decide_eq_true (by kernel_rfl)) (by unfold Func.isWrapper; first | (rw [if_pos (by decide +kernel)]; kernel_rfl) | (rw [if_neg (by decide +kernel)]; exact ⟨rfl, rfl⟩))
    (fun os started H enc _ F => by rw [OpenClaim.pre_eq_preRow]; exact lifted os started H enc F)

theorem plain (f : FuncId) (fn : Func) (hf : Tryz.pinned.checked.prog.funcNamed "pommel/pommellaw03.StitchLattice" = some f) (hfn : Tryz.pinned.checked.prog.funcs[f]? = some fn) :
    false = Tryz.pinned.checked.prog.looks [] ∧ ∀ (j : Nat) t, fn.params[j]? = some t → Tryz.pinned.checked.prog.wantsStandIn t = false := by
  obtain rfl : f = 14 := Option.some.inj ((show Tryz.prog.funcNamed "pommel/pommellaw03.StitchLattice" = some 14 by kernel_rfl).symm.trans hf) |>.symm
  obtain rfl : fn = Tryz.f14 := (Option.some.inj (Tryz.func14.symm.trans hfn)).symm
  refine ⟨by kernel_rfl, fun j t ht => ?_⟩
  rw [Tryz.params14] at ht
  have ht : t = 72 ∨ t = 86 ∨ t = 73 := by
    have := Array.mem_of_getElem? ht
    simp at this
    omega
  rcases ht with rfl | rfl | rfl
  · exact (show Tryz.prog.wantsStandIn 72 = false by kernel_rfl)
  · exact (show Tryz.prog.wantsStandIn 86 = false by kernel_rfl)
  · exact (show Tryz.prog.wantsStandIn 73 = false by kernel_rfl)

theorem card : Rows.StitchLatticeCardSaid :=
  Claim7.holds_tied_plain_at .later [] _ _ _ _ said (fun _ h => by cases h) (by kernel_rfl) (fun _ h => by cases h) stitchLattice_row_tie rfl ⟨rfl, rfl⟩ (by kernel_rfl) rfl plain (by kernel_rfl)
end Go.Proofs.YthankillfhmfkaaGreatDoor.PmStitchLattice

