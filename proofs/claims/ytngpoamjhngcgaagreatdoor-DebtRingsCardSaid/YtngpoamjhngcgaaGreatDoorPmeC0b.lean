/- A law's call, out of the evaluator's run. -/
import Derived.Test.YtngpoamjhngcgaaGreatDoorPmeC0
import Derived.Test.YtngpoamjhngcgaaGreatDoorPmeLives
import Derived.Test.YtngpoamjhngcgaaGreatDoorPmeFacts
set_option linter.unusedVariables false
set_option linter.unusedSimpArgs false
namespace Go.Proofs.YtngpoamjhngcgaaGreatDoor.PmC
open Go.ChangeShapes Go.WideShapes Go.ChangeAt Go.RowKit
open Go.Proofs Go.Proofs.YtngpoamjhngcgaaGreatDoor
open Go.Proofs.YtngpoamjhngcgaaGreatDoor.Ev (TabsW TabsIn tabs vals0 vals1 vals3 En H CallsE callRun Hok HR tabPhi heapOf heapOf_rel heapOf_ok tabPhi_fresh withKnown_ok envOf_ok Tr)

theorem Kn_ok {G : Nat} (hG : 4 ≤ G) : Ev.EnvOK Tryz.prog (Ev.withKnown (Ev.envOf Tryz.prog 270 4 G) (Tr.put .e 22 (.bool true)) tabs) := by
  refine withKnown_ok (envOf_ok Ev.mixed) (fun f v h => ?_) (fun x hx => ?_)
  · rw [Tr.get_put] at h
    split at h
    · rename_i hf
      injection h with h
      subst hf; subst h
      exact ⟨rfl, ⟨Tryz.f22, Tryz.func22, rfl, by decide⟩, fun w hw => PmeLives.lives_true w hw⟩
    · rw [Tr.get_e] at h; cases h
  · simp only [tabs, List.mem_cons, List.not_mem_nil, or_false] at hx
    have e : ∀ N G : Nat, (Ev.envOf Tryz.prog 270 N G).N = N ∧ (Ev.envOf Tryz.prog 270 N G).G = G := fun _ _ => ⟨rfl, rfl⟩
    rw [(e 4 G).1, (e 4 G).2]
    rcases hx with rfl | rfl | rfl
    · exact ⟨by decide, by show 0 < G; omega, by decide⟩
    · exact ⟨by decide, by show 1 < G; omega, by decide⟩
    · exact ⟨by decide, by show 3 < G; omega, by decide⟩
theorem En_ok {G : Nat} (hG : 4 ≤ G) : Ev.EnvOK Tryz.prog (En G) := by
  unfold En
  refine Ev.withOrc_ok (Kn_ok hG) fun f g hf => ?_
  unfold Ev.orcs at hf
  rw [Tr.get_e] at hf
  cases hf

theorem tabs_small : ∀ x ∈ tabs, x.1 < 4 ∧ x.2.all Ev.flat1 = true := fun x hx => by
  simp only [tabs, List.mem_cons, List.not_mem_nil, or_false] at hx
  rcases hx with rfl | rfl | rfl <;> exact ⟨by decide, by decide⟩

theorem heap_tabs : TabsIn tabs (heapOf 4 tabs).blks := by
  have e : (heapOf 4 tabs).blks = (((Tr.e.put 0 (.mk (Tr.ofList vals0) vals0.length 1)).put 1 (.mk (Tr.ofList vals1) vals1.length 1)).put 3 (.mk (Tr.ofList vals3) vals3.length 1)) := rfl
  intro x hx
  rw [e]
  simp only [tabs, List.mem_cons, List.not_mem_nil, or_false] at hx
  rcases hx with rfl | rfl | rfl
  · exact ⟨Tr.ofList vals0, vals0.length, 1, by simp [Tr.get_put], by dsimp only, fun i v hv => by rw [Tr.ofList_get]; exact hv⟩
  · exact ⟨Tr.ofList vals1, vals1.length, 1, by simp [Tr.get_put], by dsimp only, fun i v hv => by rw [Tr.ofList_get]; exact hv⟩
  · exact ⟨Tr.ofList vals3, vals3.length, 1, by simp [Tr.get_put], by dsimp only, fun i v hv => by rw [Tr.ofList_get]; exact hv⟩

/-- the row's last step, where what there was stays as it was -/
theorem post_below {H : Type} {enc : TypeId × Value → H} {P : Program} {f : Func} {s : ChangeSpec} {apart fresh handsOn again : Bool} {W W' : World} {args : Array Value} {v : Value} {ds gs : List (DataW H)} {before pa pv : List MemPlace}
    (hW : DataW.Whole enc P f.params.toList s.vars apart W args.toList ds gs before)
    (hres : ∀ (b : Nat) (sp : Nat → Bool) (hd : Bool), DataW.TrodAll enc P W' b sp hd f.resultTypes.toList (v.resultList f.resultTypes.size) (s.fn H (ds ++ gs)).results [])
    (hargs : ∀ sp : Nat → Bool, (∀ p ∈ before, sp p.block = true) → DataW.TrodAll enc P W' 0 sp true f.params.toList args.toList (s.fn H (ds ++ gs)).args pa)
    (hvars : ∀ sp : Nat → Bool, (∀ p ∈ before, sp p.block = true) → DataW.TrodVars enc P W' sp s.vars (s.fn H (ds ++ gs)).vars pv)
    (hps : before = pa ++ pv) (hb : Below W.heap.size W W')
    (hok : ∀ (j : Nat) (t : TypeId) (r : Value), f.resultTypes[j]? = some t → (v.resultList f.resultTypes.size)[j]? = some r → Value.okWide P W' .any 0 t r) :
    s.post enc P f apart fresh handsOn again W args v W' := by
  have lt : ∀ p ∈ before, p.block < W.heap.size := fun p hp => hW.lt p hp
  have old : ∀ p ∈ before, (fun b => decide (b < W.heap.size)) p.block = true := fun p hp => decide_eq_true (lt p hp)
  obtain ⟨_, _, _, _, _, hz, hn⟩ := id hW
  refine ⟨ds, gs, before, [], pa, pv, hW, hres _ _ _, hargs _ old, hvars _ old, World.keptBut_mono (fun p hp => ⟨hp, ?_⟩) (hb.frame (· ∈ before)), fun _ => ⟨hok, _, _, ([] ++ pa) ++ pv, ⟨[] ++ pa, pv, trodAll_append (hargs _ (fun _ _ => rfl)) (hres _ _ _), hvars _ (fun _ _ => rfl), rfl, fun b off hp => ?_, fun ha => ?_⟩, fun p hp _ => ?_⟩⟩
  · rw [hps, List.mem_append] at hp
    exact .inr hp
  · have hin : MemPlace.cell b off ∈ before := by rw [hps]; simpa using hp
    rw [hb.frozen (lt _ hin)]
    exact hz b off hin
  · have h1 := hn ha
    rw [hps] at h1
    simpa using h1
  · rw [hps]
    simpa using hp
theorem spec_run {P : Program} {E : Ev.Env} {g : FuncId} {vs : List Value} {h : H} {Q : Value → H → Prop} (hs : Ev.Spec P E g vs h Q) : CallsE P E g vs h Q := Ev.CallsE.mono hs fun _ _ x => x.2
/-- a table laid into its variable -/
def lay (v : List Value) : Obj → Obj
  | .cells _ t fr => .cells v.toArray t fr
  | o => o
/-- a world for the witnesses -/
noncomputable def laidWorld (os : Os) : World :=
  { World.holding Tryz.prog os ⟨#[], #[], []⟩ with heap := (((World.holding Tryz.prog os ⟨#[], #[], []⟩).heap.modify 0 (lay vals0)).modify 1 (lay vals1)).modify 3 (lay vals3) }
end Go.Proofs.YtngpoamjhngcgaaGreatDoor.PmC


