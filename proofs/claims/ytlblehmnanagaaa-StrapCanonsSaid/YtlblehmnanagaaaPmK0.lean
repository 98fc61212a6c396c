/- What each law of the seat needs beside its run: the row's last step, the law's call out of the evaluator's run, an argument that lies in memory. -/
import Derived.Test.YtlblehmnanagaaaRows
import Derived.Test.YtlblehmnanagaaaPmL4v
import Derived.Test.YtlblehmnanagaaaPmFacts
import Derived.Test.YtlblehmnanagaaaPmwShelf
import Derived.Test.YtlblehmnanagaaaPmArg
import Derived.Test.YtlblehmnanagaaaPmStr
import Derived.WalkKit
import Derived.ProofKit
import Derived.OpenShut
import Derived.Deep.DeepHandedRow
import Derived.Lib.LaidTab
import Derived.Stop.LaidErr
import Derived.Below
import Derived.ChangeSame
import Derived.Carry
import Derived.SizedLaws
set_option linter.unusedSimpArgs false
set_option linter.unusedVariables false
namespace Go.Proofs.Ytlblehmnanagaaa.PmC
open Go.ChangeShapes Go.WideShapes Go.ChangeAt Go.RowKit
open Go.Proofs Go.Proofs.Ytlblehmnanagaaa
open Go.Proofs.Ytlblehmnanagaaa.Ev (TabsW TabsIn tabs En H CallsE callRun Hok HR Tr VR VRs Phi ArgB heapA phiA ArgsIn heapA_rel heapA_ok heapA_low heapA_arg phiA_fresh phiA_arg cells_world SlV Blk withKnown_ok envOf_ok)

theorem own : ownKnob Try.prog.godebug = none := by kernel_rfl
theorem no_tabs (w : World) : TabsW tabs w := fun x hx => by cases hx
theorem Kn_ok {G : Nat} : Ev.EnvOK Try.prog (Ev.withKnown (Ev.envOf Try.prog 108 0 G) (Tr.put .e 13 (.bool true)) tabs) := by
  refine withKnown_ok (envOf_ok Ev.mixed) (fun f v h => ?_) (fun x hx => by cases hx) (fun g h => by rw [Tr.get_e] at h; cases h)
  rw [Tr.get_put] at h
  split at h
  · rename_i hf
    injection h with h
    subst hf; subst h
    exact ⟨rfl, ⟨Try.f13, Try.func13, rfl, by decide⟩, fun w hw => PmLives3.lives_true w hw⟩
  · rw [Tr.get_e] at h; cases h
theorem En_ok {G : Nat} : Ev.EnvOK Try.prog (En G) := by
  unfold En
  refine Ev.withOrc_ok Kn_ok fun f g hf => ?_
  unfold Ev.orcs at hf
  rw [Tr.get_put] at hf
  split at hf
  · rename_i hq
    injection hf with hf
    subst hq; subst hf
    refine Ev.orcSortI ⟨Try.f60, Try.func60, rfl, by decide⟩ (fun w => Calls.mono (Try.slices_Sort_int_none none 0 w) ?_) fun bk o c zs w h1 h2 h3 => Try.slices_Sort_int bk o c zs w h1 h2 h3
    rintro e w' ⟨he, rfl⟩
    exact ⟨he, Below.refl _ _⟩
  · rw [Tr.get_e] at hf; cases hf
theorem tabs_small : ∀ x ∈ tabs, x.1 < 0 ∧ x.2.all Ev.flat1 = true := fun x hx => by cases hx

/-- the row's last step, where what there was stays as it was -/
theorem post_below {H : Type} {enc : TypeId × Value → H} {P : Program} {f : Func} {s : ChangeSpec} {apart fresh handsOn again : Bool} {W W' : World} {args : Array Value} {v : Value} {ds gs : List (DataW H)} {before pa pv : List MemPlace}
    (hW : DataW.Whole enc P f.params.toList s.vars apart W args.toList ds gs before)
    (hres : ∀ (b : Nat) (sp : Nat → Bool) (hd : Bool), DataW.TrodAll enc P W' b sp hd f.resultTypes.toList (v.resultList f.resultTypes.size) (s.fn H (ds ++ gs)).results [])
    (hargs : ∀ sp : Nat → Bool, (∀ p ∈ before, sp p.block = true) → DataW.TrodAll enc P W' 0 sp true f.params.toList args.toList (s.fn H (ds ++ gs)).args pa)
    (hvars : ∀ sp : Nat → Bool, (∀ p ∈ before, sp p.block = true) → DataW.TrodVars enc P W' sp s.vars (s.fn H (ds ++ gs)).vars pv)
    (hps : before = pa ++ pv) (hb : Below W.heap.size W W')
    (hok : ∀ (j : Nat) (t : TypeId) (r : Value), f.resultTypes[j]? = some t → (v.resultList f.resultTypes.size)[j]? = some r → Value.okWide P W' .any 0 t r) :
    s.post enc P f apart fresh handsOn again W args v W' := by
  have lt : ∀ p ∈ before, p.block < W.heap.size := fun p hp => hW.lt p hp
  have old : ∀ p ∈ before, (fun b => decide (b < W.heap.size)) p.block = true := fun p hp => decide_eq_true (lt p hp)
  obtain ⟨_, _, _, _, _, hz, hn⟩ := id hW
  refine ⟨ds, gs, before, [], pa, pv, hW, hres _ _ _, hargs _ old, hvars _ old, World.keptBut_mono (fun p hp => ⟨hp, ?_⟩) (hb.frame (· ∈ before)), fun _ => ⟨hok, _, _, ([] ++ pa) ++ pv, ⟨[] ++ pa, pv, trodAll_append (hargs _ (fun _ _ => rfl)) (hres _ _ _), hvars _ (fun _ _ => rfl), rfl, fun b off hp => ?_, fun ha => ?_⟩, fun p hp _ => ?_⟩⟩
  · rw [hps, List.mem_append] at hp
    exact .inr hp
  · have hin : MemPlace.cell b off ∈ before := by rw [hps]; simpa using hp
    rw [hb.frozen (lt _ hin)]
    exact hz b off hin
  · have h1 := hn ha
    rw [hps] at h1
    simpa using h1
  · rw [hps]
    simpa using hp
theorem spec_run {P : Program} {E : Ev.Env} {g : FuncId} {vs : List Value} {h : H} {Q : Value → H → Prop} (hs : Ev.Spec P E g vs h Q) : CallsE P E g vs h Q := Ev.CallsE.mono hs fun _ _ x => x.2

/-- a world for the witnesses -/
noncomputable def laidWorld (os : Os) : World := World.holding Try.prog os ⟨#[], #[], []⟩

/-- one argument's cells in the model's memory -/
def ArgIn (φ : Phi) (a : ArgB) (w : World) : Prop := a.off + a.L.length ≤ a.top ∧
  ∃ cs ty fr, w.heap[a.blk]? = some (.cells cs ty fr) ∧ a.top ≤ cs.size ∧ ∀ (j : Nat) (v : Value), a.L[j]? = some v → ∃ v', cs[a.off + j]? = some v' ∧ VR φ v v'
theorem argsIn_mk {φ : Phi} {l : List ArgB} {w : World} (h : ∀ a ∈ l, ArgIn φ a w) : ArgsIn φ l w := fun _ a ha => h a (List.mem_of_getElem? ha)

/-- a law, its arguments read where they lie -/
theorem calls_args {f : FuncId} {args args' : List Value} {bs : List ArgB} {W : World} (hargs : VRs (phiA 0 tabs bs) args args') (hbs : ArgsIn (phiA 0 tabs bs) bs W)
    (hs : CallsE Try.prog (En (0 + bs.length)) f args (heapA 0 tabs bs) fun v _ => v = .bool true) (hb : ((Try.prog.funcs[f]?).map fun fn => fn.body.isSome) = some true := by kernel_rfl) :
    Calls Try.prog f args'.toArray W fun e w' => e = .returned (.bool true) ∧ Below W.heap.size W w' := by
  obtain ⟨F, v, h', hrun, rfl⟩ := hs
  have ht : ∀ x ∈ tabs, x.1 < 0 := fun x hx => (tabs_small x hx).1
  have hEG : (En (0 + bs.length)).G = 0 + bs.length := Ev.En_G
  exact callRun En_ok hrun rfl (heapA_ok ht) hEG (heapA_rel Try.prog hEG rfl tabs_small (no_tabs W) hbs) hargs (phiA_fresh) hb

/-- a slice that came in is what was read of it, so long -/
def Long {H : Type} (d : DataW H) (n : Nat) : Prop := n = 0 ∨ ∃ elems spare, d = .slice elems spare ∧ elems.length = n
theorem Long.top {H : Type} {d : DataW H} {n B : Nat} (h : Long d n) (hB : 1 ≤ B) (hs : ∀ elems spare, d = .slice elems spare → (elems.length + spare.length) * B ≤ reachBytes) : n < 4611686018427387904 := by
  rcases h with rfl | ⟨e, s, hd, rfl⟩
  · decide
  · have h1 := hs e s hd
    have h3 : (e.length + s.length) * 1 ≤ (e.length + s.length) * B := Nat.mul_le_mul_left _ hB
    have h2 := reachBytes_lt
    omega
theorem wf_u8 {z : Int} (h : (Lit.int .u8 z).wf = true) : 0 ≤ z ∧ z ≤ 255 := by
  simp only [Lit.wf, Bool.and_eq_true, decide_eq_true_eq] at h
  simp [IntKind.min, IntKind.max, IntKind.signed, IntKind.bits] at h
  omega
end Go.Proofs.Ytlblehmnanagaaa.PmC

