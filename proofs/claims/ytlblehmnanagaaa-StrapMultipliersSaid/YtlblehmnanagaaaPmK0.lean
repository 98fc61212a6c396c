/- What each law of the seat needs beside its run: the row's last step, the law's call out of the evaluator's run, an argument that lies in memory. -/
import Derived.Test.YtlblehmnanagaaaRows
import Derived.Test.YtlblehmnanagaaaPmL4v
import Derived.Test.YtlblehmnanagaaaPmFacts
import Derived.Test.YtlblehmnanagaaaPmwShelf
import Derived.Test.YtlblehmnanagaaaPmArg
import Derived.Test.YtlblehmnanagaaaPmStr
import Derived.WalkKit
import Derived.ProofKit
import Derived.OpenShut
import Derived.Deep.DeepHandedRow
import Derived.Lib.LaidTab
import Derived.Stop.LaidErr
import Derived.Below
import Derived.ChangeSame
import Derived.Carry
import Derived.SizedLaws
set_option linter.unusedSimpArgs false
set_option linter.unusedVariables false
namespace Go.Proofs.Ytlblehmnanagaaa.PmC
open Go.ChangeShapes Go.WideShapes Go.ChangeAt Go.RowKit
open Go.Proofs Go.Proofs.Ytlblehmnanagaaa
open Go.Proofs.Ytlblehmnanagaaa.Ev (TabsW TabsIn tabs En H CallsE callRun Hok HR Tr VR VRs Phi ArgB heapA phiA ArgsIn heapA_rel heapA_ok heapA_low heapA_arg phiA_fresh phiA_arg cells_world SlV Blk withKnown_ok envOf_ok)

theorem own : ownKnob Try.prog.godebug = none := by kernel_rfl
theorem no_tabs (w : World) : TabsW tabs w := fun x hx => by cases hx
theorem Kn_ok {G : Nat} : Ev.EnvOK Try.prog (Ev.withKnown (Ev.envOf Try.prog 108 0 G) (Tr.put .e 13 (.bool true)) tabs) := by
  refine withKnown_ok (envOf_ok Ev.mixed) (fun f v h => ?_) (fun x hx => by cases hx) (fun g h => by rw [Tr.get_e] at h; cases h)
  rw [Tr.get_put] at h
  split at h
  · rename_i hf
    injection h with h
    subst hf; subst h
    exact ⟨rfl, ⟨Try.f13, Try.func13, rfl, by decide⟩, fun w hw => PmLives3.lives_true w hw⟩
  · rw [Tr.get_e] at h; cases h
theorem En_ok {G : Nat} : Ev.EnvOK Try.prog (En G) := by
  unfold En
  refine Ev.withOrc_ok Kn_ok fun f g hf => ?_
  unfold Ev.orcs at hf
  rw [Tr.get_put] at hf
  split at hf
  · rename_i hq
    injection hf with hf
    subst hq; subst hf
    refine Ev.orcSortI ⟨Try.f60, Try.func60, rfl, by decide⟩ (fun w => Calls.mono (Try.slices_Sort_int_none none 0 w) ?_) fun bk o c zs w h1 h2 h3 => Try.slices_Sort_int bk o c zs w h1 h2 h3
    rintro e w' ⟨he, rfl⟩
    exact ⟨he, Below.refl _ _⟩
  · rw [Tr.get_e] at hf; cases hf
theorem tabs_small : ∀ x ∈ tabs, x.1 < 0 ∧ x.2.all Ev.flat1 = true := fun x hx => by cases hx

/-- the row's last step, where what there was stays as it was -/
theorem post_below {H : Type} {enc : TypeId × Value → H} {P : Program} {f : Func} {s : ChangeSpec} {apart fresh handsOn again : Bool} {W W' : World} {args : Array Value} {v : Value} {ds gs : List (DataW H)} {before pa pv : List MemPlace}
    (hW : DataW.Whole enc P f.params.toList s.vars apart W args.toList ds gs before)
    (hres : ∀ (b : Nat) (sp : Nat → Bool) (hd : Bool), DataW.TrodAll enc P W' b sp hd f.resultTypes.toList (v.resultList f.resultTypes.size) (s.fn H (ds ++ gs)).results [])
    (hargs : ∀ sp : Nat → Bool, (∀ p ∈ before, sp p.block = true) → DataW.TrodAll enc P W' 0 sp true f.params.toList args.toList (s.fn H (ds ++ gs)).args pa)
    (hvars : ∀ sp : Nat → Bool, (∀ p ∈ before, sp p.block = true) → DataW.TrodVars enc P W' sp s.vars (s.fn H (ds ++ gs)).vars pv)
    (hps : before = pa ++ pv) (hb : Below W.heap.size W W')
    (hok : ∀ (j : Nat) (t : TypeId) (r : Value), f.resultTypes[j]? = some t → (v.resultList f.resultTypes.size)[j]? = some r → Value.okWide P W' .any 0 t r) :
    s.post enc P f apart fresh handsOn again W args v W' := by
  have lt : ∀ p ∈ before, p.block < W.heap.size := fun p hp => hW.lt p hp
  have old : ∀ p ∈ before, (fun b => decide (b < W.heap.size)) p.block = true := fun p hp => decide_eq_true (lt p hp)
  obtain ⟨_, _, _, _, _, hz, hn⟩ := id hW
  refine ⟨ds, gs, before, [], pa, pv, hW, hres _ _ _, hargs _ old, hvars _ old, World.keptBut_mono (fun p hp => ⟨hp, ?_⟩) (hb.frame (· ∈ before)), fun _ => ⟨hok, _, _, ([] ++ pa) ++ pv, ⟨[] ++ pa, pv, trodAll_append (hargs _ (fun _ _ => rfl)) (hres _ _ _), hvars _ (fun _ _ => rfl), rfl, fun b off hp => ?_, fun ha => ?_⟩, fun p hp _ => ?_⟩⟩
  · rw [hps, List.mem_append] at hp
    exact .inr hp
  · have hin : MemPlace.cell b off ∈ before := by rw [hps]; simpa using hp
    rw [hb.frozen (lt _ hin)]
    exact hz b off hin
  · have h1 := hn ha
    rw [hps] at h1
    simpa using h1
  · rw [hps]
    simpa using hp
theorem spec_run {P : Program} {E : Ev.Env} {g : FuncId} {vs : List Value} {h : H} {Q : Value → H → Prop} (hs : Ev.Spec P E g vs h Q) : CallsE P E g vs h Q := Ev.CallsE.mono hs fun _ _ x => x.2

/-- a world for the witnesses -/
noncomputable def laidWorld (os : Os) : World := World.holding Try.prog os ⟨#[], #[], []⟩

/-- one argument's cells in the model's memory -/
def ArgIn (φ : Phi) (a : ArgB) (w : World) : Prop := a.off + a.L.length ≤ a.top ∧
  ∃ cs ty fr, w.heap[a.blk]? = some (.cells cs ty fr) ∧ a.top ≤ cs.size ∧ ∀ (j : Nat) (v : Value), a.L[j]? = some v → ∃ v', cs[a.off + j]? = some v' ∧ VR φ v v'
theorem argsIn_mk {φ : Phi} {l : List ArgB} {w : World} (h : ∀ a ∈ l, ArgIn φ a w) : ArgsIn φ l w := fun _ a ha => h a (List.mem_of_getElem? ha)

/-- a law, its arguments read where they lie -/
theorem calls_args {f : FuncId} {args args' : List Value} {bs : List ArgB} {W : World} (hargs : VRs (phiA 0 tabs bs) args args') (hbs : ArgsIn (phiA 0 tabs bs) bs W)
    (hs : CallsE Try.prog (En (0 + bs.length)) f args (heapA 0 tabs bs) fun v _ => v = .bool true) (hb : ((Try.prog.funcs[f]?).map fun fn => fn.body.isSome) = some true := by kernel_rfl) :
    Calls Try.prog f args'.toArray W fun e w' => e = .returned (.bool true) ∧ Below W.heap.size W w' := by
  obtain ⟨F, v, h', hrun, rfl⟩ := hs
  have ht : ∀ x ∈ tabs, x.1 < 0 := fun x hx => (tabs_small x hx).1
  have hEG : (En (0 + bs.length)).G = 0 + bs.length := Ev.En_G
  exact callRun En_ok hrun rfl (heapA_ok ht) hEG (heapA_rel Try.prog hEG rfl tabs_small (no_tabs W) hbs) hargs (phiA_fresh) hb

theorem lits_len {H : Type} {k : IntKind} : ∀ zs : List Int, (lits (H := H) k zs).length = zs.length
  | [] => rfl
  | z :: zs => by
    have := lits_len (H := H) (k := k) zs
    show (lits (H := H) k zs).length + 1 = zs.length + 1
    omega
/-- a slice that came in is what was read of it, so long -/
def Long {H : Type} (d : DataW H) (n : Nat) : Prop := n = 0 ∨ ∃ elems spare, d = .slice elems spare ∧ elems.length = n
theorem Long.top {H : Type} {d : DataW H} {n B : Nat} (h : Long d n) (hB : 1 ≤ B) (hs : ∀ elems spare, d = .slice elems spare → (elems.length + spare.length) * B ≤ reachBytes) : n < 4611686018427387904 := by
  rcases h with rfl | ⟨e, s, hd, rfl⟩
  · decide
  · have h1 := hs e s hd
    have h3 : (e.length + s.length) * 1 ≤ (e.length + s.length) * B := Nat.mul_le_mul_left _ hB
    have h2 := reachBytes_lt
    omega
/-- the only slice that came in, of numbers -/
theorem arg_slice {H : Type} {enc : TypeId × Value → H} {P : Program} {w : World} {t e : TypeId} {k : IntKind} {v : Value} {d : DataW H} {p : List MemPlace} {r : Reach} {b0 : Nat}
    (ht : P.underlying t = some (.slice e)) (he : P.underlying e = some (.int k)) (hc : P.cellsOf e = 1) (hval : Value.okWide P w r b0 t v) (hd : DataW.Trod enc P w 0 (fun _ => true) true t v d p) :
    ∃ (bs : List ArgB) (zs : List Int) (A : Option Addr) (c : Nat), (∀ z ∈ zs, (Lit.int k z).wf = true) ∧ Long d zs.length ∧ (∀ φ, ∀ a ∈ bs, ArgIn φ a w) ∧
      SlV (heapA 0 tabs bs).blks 0 bs.length 1 zs.length (zs.map (Value.int k)) (.slice A zs.length c) ∧ VR (phiA 0 tabs bs) (.slice A zs.length c) v := by
  obtain ⟨a0, len, cap, rfl⟩ := okWide_slice ht hval
  obtain ⟨fuel, hf⟩ := hd
  rcases open_ints ht he hc hf with ⟨hcs, hx⟩ | ⟨a, len', cap', zs, hcs, _, hl, hm, hz, hx, hcell, hwz⟩
  · simp [Value.cells] at hcs
    obtain ⟨rfl, rfl, rfl⟩ := hcs
    exact ⟨[], [], none, 0, fun z hz => (by cases hz), .inl rfl, fun φ a ha => (by cases ha), .nil rfl rfl, .nils⟩
  · simp [Value.cells] at hcs
    obtain ⟨rfl, rfl, rfl⟩ := hcs
    simp only [if_true] at hz
    simp only [Prod.mk.injEq] at hx
    obtain ⟨hxd, hxp⟩ := hx
    by_cases hp : 0 < cap
    · have hlt : (zs.take len).length = len := by simp; omega
      have hwt : ∀ z ∈ zs.take len, (Lit.int k z).wf = true := fun z hz => hwz z (List.mem_of_mem_take hz)
      obtain ⟨bl, off, rfl, hj⟩ := ints_at hcell (by omega)
      obtain ⟨cs, ty, fr, hh, hsz, hcs⟩ := cells_world (w := w) (a := ⟨bl, off, none⟩) (n := cap) hp (V := fun i => .int k (zs.getD i 0)) rfl (fun i hi => hcell i (by omega))
      refine ⟨[⟨(zs.take len).map (Value.int k), bl, off, 1, off + cap⟩], zs.take len, some ⟨0, 0, none⟩, len, hwt, .inr ⟨_, _, hxd, by rw [lits_len]⟩, fun φ a ha => ?_, ?_, ?_⟩
      · rw [List.mem_singleton.1 ha]
        refine ⟨by simp; omega, cs, ty, fr, hh, hsz, fun j v hv => ?_⟩
        have hv' : ((zs.take len).map (Value.int k))[j]? = some v := hv
        have hjl : j < len := by
          have := (List.getElem?_eq_some_iff.1 hv').1
          simp at this; omega
        rw [List.getElem?_map, List.getElem?_take, if_pos hjl, List.getElem?_eq_getElem (by omega)] at hv'
        simp only [Option.map_some, Option.some.injEq] at hv'
        subst hv'
        refine ⟨_, hcs j (by omega), ?_⟩
        rw [show zs.getD j 0 = zs[j]'(by omega) by simp [List.getD, show j < zs.length by omega]]
        exact .int k _
      · rw [hlt]
        have hT := heapA_arg (N := 0) (tabs := tabs) (args := [⟨(zs.take len).map (Value.int k), bl, off, 1, off + cap⟩]) (b := 0) (Nat.le_refl 0) fun x hx => (tabs_small x hx).1
        refine .mk (cells := Tr.ofList ((zs.take len).map (Value.int k))) (size := ((zs.take len).map (Value.int k)).length) hT (Nat.le_refl _) (Nat.lt_succ_self _) (by simp; omega) (by simp; omega) fun i hi => ?_
        rw [Tr.ofList_get, Nat.zero_add]
      · rw [hlt]
        have hphi := phiA_arg (N := 0) (tabs := tabs) (args := [⟨(zs.take len).map (Value.int k), bl, off, 1, off + cap⟩]) (i := 0) rfl
        exact .slc hphi hl hl (by show off + 0 + cap * 1 ≤ off + cap; omega) (.inl (by simp))
    · obtain rfl : cap = 0 := by omega
      obtain rfl : len = 0 := by omega
      exact ⟨[], [], some ⟨0, 0, some 0⟩, 0, fun z hz => (by cases hz), .inl rfl, fun φ a ha => (by cases ha), .emp rfl rfl, .emp⟩
end Go.Proofs.Ytlblehmnanagaaa.PmC

