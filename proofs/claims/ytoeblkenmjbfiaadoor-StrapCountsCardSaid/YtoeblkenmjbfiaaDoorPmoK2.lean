/- A law's call over the table, out of the evaluator's run. -/
import Derived.Test.YtoeblkenmjbfiaaDoorPmoK1
import Derived.Test.YtoeblkenmjbfiaaDoorPmoL4v
import Derived.Test.YtoeblkenmjbfiaaDoorPmoShelf
import Derived.Deep.DeepHandedRow
import Derived.Deep.DeepWitnessRowRef
import Derived.Deep.Slices
import Derived.Stop.LaidErr
import Derived.Below
import Derived.ChangeSame
import Derived.Carry
import Derived.SizedLaws
set_option linter.unusedSimpArgs false
set_option linter.unusedVariables false
namespace Go.Proofs.YtoeblkenmjbfiaaDoor.PmC
open Go.ChangeShapes Go.WideShapes Go.ChangeAt Go.RowKit
open Go.Proofs Go.Proofs.YtoeblkenmjbfiaaDoor
open Go.Proofs.YtoeblkenmjbfiaaDoor.Ev (TabsW TabsIn tabs En H CallsE callRun Hok HR Tr VR VRs Phi ArgB ArgsIn SlV Blk withKnown_ok envOf_ok heapG phiG heapG_rel heapG_ok heapG_arg heapG_zero phiG_arg phiG_fresh evT EvenT)

theorem own : ownKnob Tryd.prog.godebug = none := by kernel_rfl
theorem Kn_ok {G : Nat} : Ev.EnvOK Tryd.prog (Ev.withKnown (Ev.envOf Tryd.prog 106 1 G) (Tr.put .e 9 (.bool true)) tabs) := by
  refine withKnown_ok (envOf_ok Ev.mixed) (fun f v h => ?_) (fun x hx => by cases hx) (fun g h => by rw [Tr.get_e] at h; cases h)
  rw [Tr.get_put] at h
  split at h
  · rename_i hf
    injection h with h
    subst hf; subst h
    exact ⟨rfl, ⟨Tryd.f9, Tryd.func9, rfl, by decide⟩, fun w hw => PmoLives.lives_true w hw⟩
  · rw [Tr.get_e] at h; cases h
theorem En_ok {G : Nat} : Ev.EnvOK Tryd.prog (En G) := by
  unfold En
  refine Ev.withOrc_ok Kn_ok fun f g hf => ?_
  unfold Ev.orcs at hf
  rw [Tr.get_put] at hf
  split at hf
  · rename_i hq
    injection hf with hf
    subst hq; subst hf
    refine Ev.orcSortI ⟨Tryd.f42, Tryd.func42, rfl, by decide⟩ (fun w => Calls.mono (Tryd.slices_Sort_int_none none 0 w) ?_) fun bk o c zs w h1 h2 h3 => Tryd.slices_Sort_int bk o c zs w h1 h2 h3
    rintro e w' ⟨he, rfl⟩
    exact ⟨he, Below.refl _ _⟩
  · rw [Tr.get_e] at hf; cases hf

/-- the row's last step, where what there was stays as it was -/
theorem post_below {H : Type} {enc : TypeId × Value → H} {P : Program} {f : Func} {s : ChangeSpec} {apart fresh handsOn again : Bool} {W W' : World} {args : Array Value} {v : Value} {ds gs : List (DataW H)} {before pa pv : List MemPlace}
    (hW : DataW.Whole enc P f.params.toList s.vars apart W args.toList ds gs before)
    (hres : ∀ (b : Nat) (sp : Nat → Bool) (hd : Bool), DataW.TrodAll enc P W' b sp hd f.resultTypes.toList (v.resultList f.resultTypes.size) (s.fn H (ds ++ gs)).results [])
    (hargs : ∀ sp : Nat → Bool, (∀ p ∈ before, sp p.block = true) → DataW.TrodAll enc P W' 0 sp true f.params.toList args.toList (s.fn H (ds ++ gs)).args pa)
    (hvars : ∀ sp : Nat → Bool, (∀ p ∈ before, sp p.block = true) → DataW.TrodVars enc P W' sp s.vars (s.fn H (ds ++ gs)).vars pv)
    (hps : before = pa ++ pv) (hb : Below W.heap.size W W')
    (hok : ∀ (j : Nat) (t : TypeId) (r : Value), f.resultTypes[j]? = some t → (v.resultList f.resultTypes.size)[j]? = some r → Value.okWide P W' .any 0 t r) :
    s.post enc P f apart fresh handsOn again W args v W' := by
  have lt : ∀ p ∈ before, p.block < W.heap.size := fun p hp => hW.lt p hp
  have old : ∀ p ∈ before, (fun b => decide (b < W.heap.size)) p.block = true := fun p hp => decide_eq_true (lt p hp)
  obtain ⟨_, _, _, _, _, hz, hn⟩ := id hW
  refine ⟨ds, gs, before, [], pa, pv, hW, hres _ _ _, hargs _ old, hvars _ old, World.keptBut_mono (fun p hp => ⟨hp, ?_⟩) (hb.frame (· ∈ before)), fun _ => ⟨hok, _, _, ([] ++ pa) ++ pv, ⟨[] ++ pa, pv, trodAll_append (hargs _ (fun _ _ => rfl)) (hres _ _ _), hvars _ (fun _ _ => rfl), rfl, fun b off hp => ?_, fun ha => ?_⟩, fun p hp _ => ?_⟩⟩
  · rw [hps, List.mem_append] at hp
    exact .inr hp
  · have hin : MemPlace.cell b off ∈ before := by rw [hps]; simpa using hp
    rw [hb.frozen (lt _ hin)]
    exact hz b off hin
  · have h1 := hn ha
    rw [hps] at h1
    simpa using h1
  · rw [hps]
    simpa using hp
theorem spec_run {P : Program} {E : Ev.Env} {g : FuncId} {vs : List Value} {h : H} {Q : Value → H → Prop} (hs : Ev.Spec P E g vs h Q) : CallsE P E g vs h Q := Ev.CallsE.mono hs fun _ _ x => x.2

def sN (k : Nat) : List Int := (evT.getD k (0, [], 0)).2.1
def vN (k : Nat) : Nat := (evT.getD k (0, [], 0)).1
def outL : List Value := (List.range 10).flatMap fun k => [.int .i64 (vN k), .slice (some ⟨2 + k, 0, none⟩) (sN k).length (sN k).length]
def lay (vs : List Value) : Obj → Obj
  | .cells _ e fr => .cells vs.toArray e fr
  | o => o
def laidBlocks (b : Nat) : Array Obj := (Obj.cells ((List.range 10).flatMap fun k => [Value.int .i64 (vN k), .slice (some ⟨b + 1 + k, 0, none⟩) (sN k).length (sN k).length]).toArray 38 (0, 0) :: (List.range 10).map fun k => Obj.cells ((sN k).map (Value.int .i64)).toArray 3 (0, 0)).toArray
noncomputable def laidBase (os : Os) : Nat := (World.settled Tryd.prog os).heap.size
/-- a world for the witnesses: the table lies behind what there is -/
noncomputable def laidWorld (os : Os) : World :=
  { World.holding Tryd.prog os ⟨laidBlocks (laidBase os), #[], []⟩ with heap := (World.holding Tryd.prog os ⟨laidBlocks (laidBase os), #[], []⟩).heap.modify 0 (lay [.slice (some ⟨laidBase os, 0, none⟩) 10 10]) }
theorem outL_len : outL.length = 20 := rfl
theorem outL_at : ∀ k, k < 10 → outL[2 * k]? = some (.int .i64 (vN k)) ∧ outL[2 * k + 1]? = some (.slice (some ⟨2 + k, 0, none⟩) (sN k).length (sN k).length)
  | 0, _ => ⟨rfl, rfl⟩ | 1, _ => ⟨rfl, rfl⟩ | 2, _ => ⟨rfl, rfl⟩ | 3, _ => ⟨rfl, rfl⟩ | 4, _ => ⟨rfl, rfl⟩ | 5, _ => ⟨rfl, rfl⟩ | 6, _ => ⟨rfl, rfl⟩ | 7, _ => ⟨rfl, rfl⟩ | 8, _ => ⟨rfl, rfl⟩ | 9, _ => ⟨rfl, rfl⟩
  | _ + 10, h => absurd h (by omega)
theorem evT_get {k : Nat} {e : Nat × List Int × Nat} (h : evT[k]? = some e) : k < 10 ∧ e.1 = vN k ∧ e.2.1 = sN k := by
  have hk := (List.getElem?_eq_some_iff.1 h).1
  have hl : evT.length = 10 := rfl
  refine ⟨by omega, ?_, ?_⟩
  · unfold vN; simp only [List.getD, h, Option.getD_some]
  · unfold sN; simp only [List.getD, h, Option.getD_some]
def inB (q : Nat → Nat × Nat) (k : Nat) : ArgB := ⟨(sN k).map (Value.int .i64), (q k).1, (q k).2, 1, (q k).2 + (sN k).length⟩
def bsG (bl off : Nat) (q : Nat → Nat × Nat) : List ArgB := ⟨outL, bl, off, 2, off + 20⟩ :: (List.range 10).map (inB q)
def vsG : List Value := [.slice (some ⟨1, 0, none⟩) 10 10]
theorem bsG_len {bl off : Nat} {q : Nat → Nat × Nat} : (bsG bl off q).length = 11 := by simp [bsG]
theorem bsG_in {bl off k : Nat} {q : Nat → Nat × Nat} (hk : k < 10) : (bsG bl off q)[1 + k]? = some (inB q k) := by
  unfold bsG
  rw [show 1 + k = k + 1 by omega, List.getElem?_cons_succ, List.getElem?_map, List.getElem?_range hk]
  rfl
theorem evenT_G {bl off : Nat} {q : Nat → Nat × Nat} : EvenT (heapG vsG (bsG bl off q)).blks 12 := by
  refine ⟨by omega, ⟨_, _, _, heapG_zero⟩, 1, 10, by omega, ?_, Tr.ofList outL, 20, ?_, by omega, fun k e he => ?_⟩
  · simp only [Ev.loadv, heapG_zero]
    rw [if_pos (by decide), Tr.ofList_get]
    rfl
  · rw [heapG_arg (by decide)]
    rfl
  · obtain ⟨hk, h1, h2⟩ := evT_get he
    rw [h1, h2]
    obtain ⟨o1, o2⟩ := outL_at k hk
    refine ⟨_, _, by rw [Tr.ofList_get]; exact o1, by rw [Tr.ofList_get]; exact o2, ?_⟩
    have hb : (heapG vsG (bsG bl off q)).blks.get (2 + k) = some (.mk (Tr.ofList ((sN k).map (Value.int .i64))) ((sN k).map (Value.int .i64)).length 1) := by
      rw [heapG_arg (by omega), show 2 + k - 1 = 1 + k by omega, bsG_in hk]
      rfl
    refine .mk hb (by omega) (by omega) (by simp) (by simp [Ev.ints]) fun i hi => ?_
    rw [Tr.ofList_get, Nat.zero_add]
    rfl
theorem rel_G {W : World} (h : OuterAt W) : ∃ bl off q, HR (En 12) (phiG vsG (bsG bl off q)) (heapG vsG (bsG bl off q)).blks.get W := by
  obtain ⟨bl, off, ty0, fr0, hz, cs, ty, fr, hh, hsz, hall⟩ := h
  have each : ∀ k, k < 10 → ∃ q : Nat × Nat, cs[off + 2 * k]? = some (.int .i64 (vN k)) ∧ cs[off + 2 * k + 1]? = some (.slice (some ⟨q.1, q.2, none⟩) (sN k).length (sN k).length) ∧ ∃ cs ty fr, W.heap[q.1]? = some (.cells cs ty fr) ∧ q.2 + (sN k).length ≤ cs.size ∧ ∀ i, i < (sN k).length → cs[q.2 + i]? = some (.int .i64 ((sN k).getD i 0)) := fun k hk => by
    obtain ⟨V, S, o, he, _⟩ := Ev.evT_at hk
    obtain ⟨h1, v, h2, b, of, hv, h3⟩ := hall k _ he
    obtain ⟨_, e1, e2⟩ := evT_get he
    rw [e1] at h1
    rw [e2] at hv h3
    subst hv
    exact ⟨(b, of), h1, h2, h3⟩
  obtain ⟨q, hq⟩ := Go.Deep.choose_lt each
  refine ⟨bl, off, q, heapG_rel Tryd.prog (by rw [Ev.En_G, bsG_len]) rfl ⟨_, ty0, fr0, hz, rfl, fun i v hv => ?_⟩ fun i a ha => ?_⟩
  · match i, hv with
    | 0, hv =>
      have : v = .slice (some ⟨1, 0, none⟩) 10 10 := by simpa [vsG] using hv.symm
      subst this
      exact ⟨_, rfl, .slc (c := bl) (sh := off) (es := 2) (top := off + 20) rfl (Nat.le_refl _) (Nat.le_refl _) (by omega) (.inl (by simp))⟩
    | _ + 1, hv => simp [vsG] at hv
  · cases i with
    | zero =>
      have : a = ⟨outL, bl, off, 2, off + 20⟩ := by simpa [bsG] using ha.symm
      subst this
      refine ⟨by show off + outL.length ≤ off + 20; rw [outL_len]; omega, cs, ty, fr, hh, hsz, fun j v hv => ?_⟩
      have hj : j < 20 := (List.getElem?_eq_some_iff.1 hv).1
      obtain ⟨k, hk⟩ : ∃ k, j / 2 = k := ⟨_, rfl⟩
      obtain ⟨o1, o2⟩ := outL_at k (by omega)
      obtain ⟨c1, c2, _⟩ := hq k (by omega)
      have hv' : outL[j]? = some v := hv
      rcases Nat.mod_two_eq_zero_or_one j with hm | hm
      · obtain rfl : j = 2 * k := by omega
        rw [o1] at hv'
        injection hv' with hv'
        subst hv'
        exact ⟨_, c1, .int _ _⟩
      · obtain rfl : j = 2 * k + 1 := by omega
        rw [o2] at hv'
        injection hv' with hv'
        subst hv'
        refine ⟨_, c2, .slc (c := (q k).1) (sh := (q k).2) (es := 1) (top := (q k).2 + (sN k).length) ?_ (Nat.le_refl _) (Nat.le_refl _) (by omega) (.inl (by simp))⟩
        have := phiG_arg (vs := vsG) (bsG_in (bl := bl) (off := off) (q := q) (show k < 10 by omega))
        rw [show 1 + (1 + k) = 2 + k by omega] at this
        exact this
    | succ k =>
      have hk : k < 10 := by
        have := (List.getElem?_eq_some_iff.1 ha).1
        rw [bsG_len] at this
        omega
      have h1 := bsG_in (bl := bl) (off := off) (q := q) hk
      rw [show 1 + k = k + 1 by omega, ha] at h1
      injection h1 with h1
      subst h1
      obtain ⟨_, _, cs2, ty2, fr2, g1, g2, g3⟩ := hq k hk
      refine ⟨by simp [inB], cs2, ty2, fr2, g1, g2, fun j v hv => ?_⟩
      have hv' : ((sN k).map (Value.int .i64))[j]? = some v := hv
      have hj : j < (sN k).length := by
        have := (List.getElem?_eq_some_iff.1 hv').1
        simpa using this
      rw [List.getElem?_map, List.getElem?_eq_getElem hj] at hv'
      simp only [Option.map_some, Option.some.injEq] at hv'
      subst hv'
      refine ⟨_, g3 j hj, ?_⟩
      rw [show (sN k).getD j 0 = (sN k)[j] by simp [hj]]
      exact .int _ _
/-- a law over plain arguments and the table -/
theorem calls_G {f : FuncId} {args args' : List Value} {W : World} (hO : OuterAt W) (hargs : ∀ φ, VRs φ args args')
    (hs : ∀ h : H, 12 ≤ h.next → EvenT h.blks 12 → CallsE Tryd.prog (En 12) f args h fun v _ => v = .bool true) (hb : ((Tryd.prog.funcs[f]?).map fun fn => fn.body.isSome) = some true := by kernel_rfl) :
    Calls Tryd.prog f args'.toArray W fun e w' => e = .returned (.bool true) ∧ Below W.heap.size W w' := by
  obtain ⟨bl, off, q, hr⟩ := rel_G hO
  obtain ⟨F, v, h', hrun, rfl⟩ := hs (heapG vsG (bsG bl off q)) (by show 12 ≤ 1 + (bsG bl off q).length; rw [bsG_len]; omega) evenT_G
  exact callRun En_ok hrun rfl heapG_ok (by rw [Ev.En_G]; show 12 = 1 + (bsG bl off q).length; rw [bsG_len]) hr (hargs _) phiG_fresh hb
end Go.Proofs.YtoeblkenmjbfiaaDoor.PmC

