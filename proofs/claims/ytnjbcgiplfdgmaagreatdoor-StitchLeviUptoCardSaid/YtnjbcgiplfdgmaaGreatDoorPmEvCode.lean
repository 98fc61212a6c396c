/- Code and calls. -/
import Derived.Test.YtnjbcgiplfdgmaaGreatDoorPmEvReg
import Derived.LoopNIn
import Derived.RangeFuncIn
import Derived.RangeFuncRecord
import Derived.RangeFuncLeaves
namespace Go.Proofs.YtnjbcgiplfdgmaaGreatDoor.Ev
open Go
variable {P : Program} {E : Env}

def toExit : Ex → Exit
  | .normal => .normal
  | .exit id => .exit id
  | .ret => .ret

/-- the marks of ranges over functions: blocks for deferred calls, empty -/
def Marks (s : Nat) (M : List Deferred) (w : World) : Prop := (∀ d ∈ M, ∃ r, d = { target := .collected r, args := #[] } ∧ s ≤ r ∧ w.heap[r]? = some (.deferred (some []))) ∧ M.Pairwise (· ≠ ·)
/-- in a round: the loop's record is there -/
def RoOK (ro : Option Nat) (w : World) : Prop := ∀ l, ro = some l → ∃ rec, w.heap[l]? = some (.loop rec)
/-- what is told of the activation's marks -/
structure MOK (ro : Option Nat) (w : World) (M : List Deferred) (w' : World) : Prop where
  marks : Marks w.heap.size M w'
  none : ro.isSome = true → M = []

structure SelfOK (P : Program) (E : Env) (S : Self) : Prop where
  ae : ∀ n c α h e α' h', Hok h → E.G ≤ h.next → S n c α h = some (e, α', h') → AE E h h'
  run : ∀ n c α h e α' h', S n c α h = some (e, α', h') → ∀ ro M a φ w, Hok h → E.G ≤ h.next → HR E φ h.blks.get w → FR φ α a n → RoOK ro w → (∀ b, h.next ≤ b → b < h'.next → φ b = none) →
    ∀ Q : Exit → Act → World → Prop, (∀ a' w' M', Reach E φ h w α' h' n a' w' → MOK ro w M' w' → Q (toExit e) (withM (M' ++ M) a') w') → c.wpIn (Fr ro) 0 P Q (withM M a) w

/-- what is no cells stays as it is -/
theorem other_stays {φ φ' : Phi} {h h' : H} {w w' : World} (hr : HR E φ h.blks.get w) (x : Ext E φ h w φ' h' w') {k : Nat} {o : Obj} (hk : w.heap[k]? = some o) (ho : ∀ cs ty fr, o ≠ .cells cs ty fr) : w'.heap[k]? = some o := by
  have hlt : k < w.heap.size := (Array.getElem?_eq_some_iff.1 hk).1
  rw [x.frame k hlt fun b y hl hG hy he => ?_]
  · exact hk
  · unfold live at hl
    split at hl
    · rename_i cells size es hb
      obtain ⟨c, sh, es', top⟩ := y
      obtain ⟨_, cs, ty, fr, hh, _⟩ := hr.blk b cells size es hb _ hy
      simp only at he
      subst he
      rw [hk] at hh
      injection hh with hh
      exact ho _ _ _ hh
    · cases hl
theorem RoOK.after {ro : Option Nat} {φ φ' : Phi} {h h' : H} {w w' : World} (hR : RoOK ro w) (hr : HR E φ h.blks.get w) (x : Ext E φ h w φ' h' w') : RoOK ro w' := fun l hl => by
  obtain ⟨rec, hrec⟩ := hR l hl
  exact ⟨rec, other_stays hr x hrec fun _ _ _ e => by cases e⟩
theorem Marks.later {s : Nat} {M : List Deferred} {φ φ' : Phi} {h h' : H} {w w' : World} (hM : Marks s M w) (hr : HR E φ h.blks.get w) (x : Ext E φ h w φ' h' w') : Marks s M w' :=
  ⟨fun d hd => by
    obtain ⟨r, h1, h2, h3⟩ := hM.1 d hd
    exact ⟨r, h1, h2, other_stays hr x h3 fun _ _ _ e => by cases e⟩, hM.2⟩
theorem MOK.nil {ro : Option Nat} {w w' : World} : MOK ro w [] w' := ⟨⟨fun d h => (by cases h), .nil⟩, fun _ => rfl⟩
theorem MOK.after {ro : Option Nat} {φ1 φ2 : Phi} {h1 h2 : H} {w w1 w2 : World} {M1 M2 : List Deferred} (a : MOK ro w M1 w1) (hs : w.heap.size ≤ w1.heap.size) (hr : HR E φ1 h1.blks.get w1) (x : Ext E φ1 h1 w1 φ2 h2 w2) (b : MOK ro w1 M2 w2) : MOK ro w (M2 ++ M1) w2 := by
  have a' := a.marks.later hr x
  refine ⟨⟨fun d hd => ?_, List.pairwise_append.2 ⟨b.marks.2, a.marks.2, fun d hd e he hde => ?_⟩⟩, fun hro => by rw [a.none hro, b.none hro]; rfl⟩
  · rcases List.mem_append.1 hd with hd | hd
    · obtain ⟨r, g1, g2, g3⟩ := b.marks.1 d hd
      exact ⟨r, g1, by omega, g3⟩
    · exact a'.1 d hd
  · obtain ⟨r, g1, g2, g3⟩ := b.marks.1 d hd
    obtain ⟨r', k1, k2, k3⟩ := a.marks.1 e he
    have hlt : r' < w1.heap.size := (Array.getElem?_eq_some_iff.1 k3).1
    rw [g1, k1] at hde
    simp only [Deferred.mk.injEq, Target.collected.injEq, and_true] at hde
    omega

theorem asAddr_run {w : World} (A : Addr) : (asAddr (.pointer (some A))).run P w = .ok A w := rfl

theorem results_f (fn : Func) (tmps : Array Value) : ∃ f : ResultVar → Sem Value, (results fn tmps = do let vs ← fn.results.mapM f; pure (if h : vs.size = 1 then vs[0] else .tuple vs)) ∧
    (∀ t, f (.tmp t) = pure (tmps.getD t undef)) ∧ (∀ b t, f (.cell b t) = do loadVar t (← asAddr (tmps.getD b undef))) := ⟨_, rfl, fun _ => rfl, fun _ _ => rfl⟩

theorem resultsA_sound (hE : EnvOK P E) {h : H} {α : Tr Value} {a : Act} {n : Nat} {φ : Phi} {w : World} (hr : HR E φ h.blks.get w) (hF : FR φ α a n) {f : ResultVar → Sem Value} (hf1 : ∀ t, f (.tmp t) = pure (a.tmps.getD t undef))
    (hf2 : ∀ b t, f (.cell b t) = do loadVar t (← asAddr (a.tmps.getD b undef))) : ∀ {rs : List ResultVar} {vs : List Value}, resultsA E h α rs = some vs →
    ∃ vs', (rs.mapM f).run P w = .ok vs' w ∧ VRs φ vs vs'
  | [], vs, hs => by
    simp only [resultsA, Option.some.injEq] at hs; subst hs
    exact ⟨[], by simp, .nil⟩
  | .tmp t :: r, vs, hs => by
    simp only [resultsA] at hs
    split at hs
    · rename_i us hus
      simp only [Option.some.injEq] at hs; subst hs
      obtain ⟨vs', hrun, hv⟩ := resultsA_sound hE hr hF hf1 hf2 hus
      exact ⟨a.tmps.getD t undef :: vs', by simp only [List.mapM_cons, Sem.run_bind, hf1, Sem.run_pure, Result.andThen_ok, hrun], .cons (hF.vals t) hv⟩
    · cases hs
  | .cell b t :: r, vs, hs => by
    simp only [resultsA] at hs
    split at hs
    · rename_i v hv0
      split at hs
      · rename_i us hus
        simp only [Option.some.injEq] at hs; subst hs
        obtain ⟨vs', hrun, hv⟩ := resultsA_sound hE hr hF hf1 hf2 hus
        obtain ⟨v', hl, hvr⟩ := evLoad_sound (P := P) hE hr hv0 (hF.vals b)
        have hptr : ∃ A, a.tmps.getD b undef = .pointer (some A) := by
          have h1 := hF.vals b
          unfold evLoad at hv0
          split at hv0
          · rename_i heq
            rw [heq] at h1
            generalize a.tmps.getD b undef = z at h1
            cases h1 with
            | ptr hφ => exact ⟨_, rfl⟩
          · cases hv0
        obtain ⟨A, hA⟩ := hptr
        rw [hA] at hl
        have hl' : (loadVar t A).run P w = .ok v' w := by simpa [Instr.loadAt, Instr.sureAddr] using hl
        refine ⟨v' :: vs', ?_, .cons hvr hv⟩
        simp only [List.mapM_cons, Sem.run_bind, hf2, hA, asAddr_run, Sem.run_pure, Result.andThen_ok, hl', hrun]
      · cases hs
    · cases hs

theorem results_run {fn : Func} {tmps : Array Value} {w : World} {vs : List Value} {f : ResultVar → Sem Value} (hf : results fn tmps = do let vs ← fn.results.mapM f; pure (if h : vs.size = 1 then vs[0] else .tuple vs))
    (h : (fn.results.toList.mapM f).run P w = .ok vs w) : (results fn tmps).run P w = .ok (if h : vs.toArray.size = 1 then vs.toArray[0] else .tuple vs.toArray) w := by
  rw [hf, Array.mapM_eq_mapM_toList]
  simp only [Sem.run_bind, map_eq_pure_bind, h, Result.andThen_ok, Sem.run_pure]

theorem below_ext {φ : Phi} {h : H} {w w' : World} (hb : RowKit.Below w.heap.size w w') : Ext E φ h w φ h w' :=
  ⟨fun _ _ h => h, fun _ _ h => .inl h, fun _ _ h h' => (by rw [h'] at h; cases h), hb.os, hb.tape, hb.output, hb.size, fun c hc _ => hb.block c hc⟩
theorem HR.below {φ : Phi} {g : Nat → Option Blk} {w w' : World} (hr : HR E φ g w) (hb : RowKit.Below w.heap.size w w') : HR E φ g w' := by
  refine ⟨fun b cells size es hbl x hx => ?_, hr.inj, hr.glob⟩
  have hlt := hr.lt hbl hx
  obtain ⟨c, sh, es', top⟩ := x
  obtain ⟨h1, cs, ty, fr, h2, h3⟩ := hr.blk b cells size es hbl _ hx
  exact ⟨h1, cs, ty, fr, by rw [hb.block c hlt]; exact h2, h3⟩
theorem HR.tabs {φ : Phi} {B : Tr Blk} {w : World} (hr : HR E φ B.get w) {tabs : List (Nat × List Value)} (ht : TabsIn tabs B) (hok : ∀ x ∈ tabs, x.1 < E.N ∧ x.1 < E.G ∧ x.2.all plain = true) : TabsW tabs w := by
  intro x hx
  obtain ⟨cells, size, es, hb, hl, hc⟩ := ht x hx
  obtain ⟨hN, hG, hp⟩ := hok x hx
  obtain ⟨es', top, hφ⟩ := hr.glob x.1 cells size es hG hN hb
  obtain ⟨_, cs, ty, fr, hh, _, _, _, hcells⟩ := hr.blk x.1 cells size es hb _ hφ
  refine ⟨cs, ty, fr, hh, fun i v hv => ?_⟩
  have hi : i < x.2.length := (List.getElem?_eq_some_iff.1 hv).1
  obtain ⟨u, u', e1, e2, e3⟩ := hcells i (by omega)
  rw [hc i v hv] at e1
  injection e1 with e1
  subst e1
  have hpl : plain v = true := List.all_eq_true.1 hp _ (List.mem_of_getElem? hv)
  rw [e3.plain hpl] at e2
  simpa using e2

theorem HR.put_other {φ : Phi} {g : Nat → Option Blk} {w : World} (hr : HR E φ g w) {k : Nat} {o o' : Obj} (hk : w.heap[k]? = some o) (ho : ∀ cs ty fr, o ≠ .cells cs ty fr) : HR E φ g (w.putObj k o') := by
  refine ⟨fun b cells size es hb x hx => ?_, hr.inj, hr.glob⟩
  obtain ⟨c, sh, es', top⟩ := x
  obtain ⟨h1, cs, ty, fr, hh, h2⟩ := hr.blk b cells size es hb _ hx
  refine ⟨h1, cs, ty, fr, ?_, h2⟩
  have hne : c ≠ k := fun e => by
    subst e
    rw [hk] at hh
    injection hh with hh
    exact ho _ _ _ hh
  exact (World.putObj_heap_other hne).trans hh
theorem Ext.put_other {φ φ' : Phi} {h h' : H} {w w' : World} (x : Ext E φ h w φ' h' w') {k : Nat} {o' : Obj} (hk : w.heap.size ≤ k) : Ext E φ h w φ' h' (w'.putObj k o') :=
  ⟨x.le, x.dom, x.src, x.os, x.tape, x.output, by have := x.size; simpa using this, fun c hc hno => (World.putObj_heap_other (by omega)).trans (x.frame c hc hno)⟩

theorem callWith_ok (hE : EnvOK P E) {self : Self} (hself : SelfOK P E self) : CallOK P E (callWith E self) := by
  constructor
  · intro f args h v h' ok hG hs
    unfold callWith knownRun at hs
    repeat' split at hs
    all_goals first
      | (cases hs; done)
      | (cases hs; exact AE.refl ok)
      | (simp only [Option.some.injEq, Prod.mk.injEq] at hs
         obtain ⟨_, rfl⟩ := hs
         exact hself.ae _ _ _ _ _ _ _ ok hG (by assumption))
  · intro f args h v h' hs φ w args' ok hG hr hargs hf
    unfold callWith at hs
    split at hs
    · rename_i v0 hk
      unfold knownRun at hs
      split at hs
      · rename_i hcond
        obtain ⟨rfl, htabs⟩ := hcond
        cases hs
        obtain ⟨hp, hfn, hcall⟩ := hE.known f v hk
        refine ⟨hfn, ?_⟩
        cases hargs
        refine (hcall w (hr.tabs htabs hE.tabs)).mono fun e w' ⟨he, hb⟩ => ⟨v, he, φ, VR.of_plain hp, hr.below hb, below_ext hb⟩
      · cases hs
    split at hs
    · rename_i fn hfn
      split at hs
      · rename_i c hbody
        split at hs
        · rename_i hcond
          obtain ⟨hc2, hc3⟩ := hcond
          have key : ∀ e α' h1 vs, self fn.ntmps c (Tr.ofList args) h = some (e, α', h1) → (e = .ret ∨ e = .normal) → resultsA E h1 α' fn.results.toList = some vs → h1 = h' → v = (match vs with | [v] => v | vs => .tuple vs.toArray) →
              (∃ fn, P.funcs[f]? = some fn ∧ fn.body.isSome = true ∧ fn.name ≠ "runtime.NumGoroutine") ∧ Calls P f args'.toArray w fun e w' => ∃ v', e = .returned v' ∧ Good E φ h w v h' v' w' := by
            intro e α' h1 vs hself1 he hres hh hv
            subst hh
            refine ⟨⟨fn, hE.f _ _ hfn, by rw [hbody]; rfl, hc3⟩, (callsIn_wide (n := 0)).1 (callsIn_of_wp_marks (hE.f _ _ hfn) hbody trivial ?_ rfl)⟩
            have hlen : args.length = args'.length := hargs.length
            have hF0 : FR φ (Tr.ofList args) { tmps := args'.toArray ++ Array.replicate (fn.ntmps - args'.toArray.size) undef, defers := [] } fn.ntmps := by
              refine ⟨by simp; omega, fun t => ?_, rfl⟩
              rw [Tr.ofList_get]
              simp only [Array.getD_eq_getD_getElem?]
              cases ht : args[t]? with
              | some u =>
                obtain ⟨u', h1, h2⟩ := hargs.get t u ht
                have hlt : t < args'.length := (List.getElem?_eq_some_iff.1 h1).1
                rw [Array.getElem?_append_left (by simpa using hlt)]
                simpa [h1] using h2
              | none =>
                have hge : args.length ≤ t := List.getElem?_eq_none_iff.1 ht
                rw [Array.getElem?_append_right (by simp; omega)]
                have : (Array.replicate (fn.ntmps - args'.toArray.size) undef)[t - args'.toArray.size]?.getD undef = undef := by
                  rw [Array.getElem?_replicate]
                  split <;> rfl
                rw [this]
                exact VR.undef
            have hgo := hself.run _ _ _ _ _ _ _ hself1 none [] _ φ w ok hG hr hF0 (fun l hl => by cases hl) hf (bodyPostM (Fr none) 0 P fn fun e w' => ∃ v', e = .returned v' ∧ Good E φ h w v h1 v' w') ?_
            · exact hgo
            intro a' w' M' hreach hM
            rw [List.append_nil]
            have key2 : LeavesInM (Fr none) 0 P fn a'.tmps (fun e w' => ∃ v', e = .returned v' ∧ Good E φ h w v h1 v' w') M' .returning w' := by
              obtain ⟨φ', g1, g2, g3⟩ := hreach
              have hMk := hM.marks
              have hM2 := hMk.2
              have hM1 := hMk.1
              clear hMk hM
              induction M' generalizing w' with
              | nil =>
                obtain ⟨fr, hfr, hf1, hf2⟩ := results_f fn a'.tmps
                obtain ⟨vs', hrun, hvs⟩ := resultsA_sound (P := P) hE g2 g1 hf1 hf2 hres
                have hres' := results_run hfr hrun
                have hvr : VR φ' v (if h : vs'.toArray.size = 1 then vs'.toArray[0] else .tuple vs'.toArray) := by
                  subst hv
                  cases hvs with
                  | nil => exact .tuple rfl (fun i h => by simp at h)
                  | cons k1 k2 =>
                    cases k2 with
                    | nil => simpa using k1
                    | cons k2 k3 =>
                      rw [dif_neg (by simp)]
                      have := ((VRs.cons k1 (VRs.cons k2 k3))).arr
                      exact .tuple this.1 this.2
                exact ⟨_, hres', _, rfl, φ', hvr, g2, g3⟩
              | cons d M' ih =>
                obtain ⟨r, rfl, hr1, hr2⟩ := hM1 d List.mem_cons_self
                refine ⟨by simp, .inl ⟨r, _, rfl, run_takeDeferred hr2, ?_⟩⟩
                have hne : ∀ e ∈ M', ∃ r', e = { target := .collected r', args := #[] } ∧ w.heap.size ≤ r' ∧ w'.heap[r']? = some (.deferred (some [])) ∧ r' ≠ r := fun e he => by
                  obtain ⟨r', k1, k2, k3⟩ := hM1 e (List.mem_cons_of_mem _ he)
                  refine ⟨r', k1, k2, k3, fun hh => ?_⟩
                  have := (List.pairwise_cons.1 hM2).1 e he
                  rw [k1, hh] at this
                  exact this rfl
                refine ih _ (g2.put_other hr2 fun _ _ _ e => by cases e) (g3.put_other hr1) (List.pairwise_cons.1 hM2).2 fun e he => ?_
                obtain ⟨r', k1, k2, k3, k4⟩ := hne e he
                exact ⟨r', k1, k2, (World.putObj_heap_other k4).trans k3⟩
            rcases he with rfl | rfl
            · exact key2
            · exact key2
          split at hs
          · rename_i α' h1 hself1
            split at hs
            · rename_i u hres
              simp only [Option.some.injEq, Prod.mk.injEq] at hs
              obtain ⟨hv, hh⟩ := hs
              exact key _ _ _ _ hself1 (.inl rfl) hres hh hv.symm
            · rename_i vs hres hne
              simp only [Option.some.injEq, Prod.mk.injEq] at hs
              obtain ⟨hv, hh⟩ := hs
              refine key _ _ _ _ hself1 (.inl rfl) hne hh ?_
              rw [← hv]
              split
              · exact absurd rfl (hres _)
              · rfl
            · cases hs
          · rename_i α' h1 hself1
            split at hs
            · rename_i u hres
              simp only [Option.some.injEq, Prod.mk.injEq] at hs
              obtain ⟨hv, hh⟩ := hs
              exact key _ _ _ _ hself1 (.inr rfl) hres hh hv.symm
            · rename_i vs hres hne
              simp only [Option.some.injEq, Prod.mk.injEq] at hs
              obtain ⟨hv, hh⟩ := hs
              refine key _ _ _ _ hself1 (.inr rfl) hne hh ?_
              rw [← hv]
              split
              · exact absurd rfl (hres _)
              · rfl
            · cases hs
          · cases hs
        · cases hs
      · cases hs
    · cases hs

theorem evLoop_ae {self : Self} (hself : SelfOK P E self) {n : Nat} {b : Code} : ∀ (k : Nat) {α : Tr Value} {h : H} {e : Ex} {α' : Tr Value} {h' : H}, Hok h → E.G ≤ h.next → evLoop self n b k α h = some (e, α', h') → AE E h h'
  | 0, α, h, e, α', h', _, _, hs => by simp [evLoop] at hs
  | k + 1, α, h, e, α', h', ok, hG, hs => by
    simp only [evLoop] at hs
    split at hs
    · rename_i α1 h1 hb
      have a1 := hself.ae _ _ _ _ _ _ _ ok hG hb
      exact a1.trans (evLoop_ae hself k a1.ok (Nat.le_trans hG a1.next) hs)
    · exact hself.ae _ _ _ _ _ _ _ ok hG hs

theorem fresh_next {φ φ1 : Phi} {h h1 h2 : H} {w w1 : World} (x : Ext E φ h w φ1 h1 w1) (hn : h.next ≤ h1.next) (hf : ∀ b, h.next ≤ b → b < h2.next → φ b = none) : ∀ b, h1.next ≤ b → b < h2.next → φ1 b = none := fun b h3 h4 => by
  cases h5 : φ1 b with
  | none => rfl
  | some y =>
    rcases x.dom b y h5 with h6 | ⟨_, _, h7⟩
    · rw [hf b (Nat.le_trans hn h3) h4] at h6; cases h6
    · omega

theorem Reach.after {φ φ1 : Phi} {h h1 h2 : H} {w w1 : World} {α2 : Tr Value} {n : Nat} {a2 : Act} {w2 : World} (hf : ∀ b, h.next ≤ b → b < h1.next → φ b = none) (x : Ext E φ h w φ1 h1 w1) (a1 : AE E h h1) (a2' : AE E h1 h2) (r : Reach E φ1 h1 w1 α2 h2 n a2 w2) : Reach E φ h w α2 h2 n a2 w2 := by
  obtain ⟨φ2, g1, g2, g3⟩ := r
  exact ⟨φ2, g1, g2, Ext.trans hf x a1 g3 a2'⟩

theorem evLoop_sound {self : Self} (hself : SelfOK P E self) {n : Nat} {b : Code} {ro : Option Nat} {Q : Exit → Act → World → Prop} : ∀ (k : Nat) {α : Tr Value} {h : H} {e : Ex} {α' : Tr Value} {h' : H} {M : List Deferred} {a : Act} {φ : Phi} {w : World}, Hok h → E.G ≤ h.next → HR E φ h.blks.get w → FR φ α a n → RoOK ro w →
    evLoop self n b k α h = some (e, α', h') → (∀ b, h.next ≤ b → b < h'.next → φ b = none) → (∀ a' w' M', Reach E φ h w α' h' n a' w' → MOK ro w M' w' → Q (toExit e) (withM (M' ++ M) a') w') → Code.roundsIn (Fr ro) 0 P b Q k (withM M a) w
  | 0, α, h, e, α', h', M, a, φ, w, _, _, _, _, _, hs, _, _ => by simp [evLoop] at hs
  | k + 1, α, h, e, α', h', M, a, φ, w, ok, hG, hr, hF, hR, hs, hf, hQ => by
    simp only [evLoop] at hs
    rw [roundsIn_succ]
    split at hs
    · rename_i α1 h1 hb
      have a1 := hself.ae _ _ _ _ _ _ _ ok hG hb
      have hG1 := Nat.le_trans hG a1.next
      have a2 := evLoop_ae hself k a1.ok hG1 hs
      have hf1 : ∀ b, h.next ≤ b → b < h1.next → φ b = none := fun b h3 h4 => hf b h3 (Nat.lt_of_lt_of_le h4 a2.next)
      refine hself.run _ _ _ _ _ _ _ hb ro M a φ w ok hG hr hF hR hf1 _ fun a' w' M1 hreach hM1 => ?_
      obtain ⟨φ1, g1, g2, g3⟩ := hreach
      refine evLoop_sound hself k a1.ok hG1 g2 g1 (hR.after hr g3) hs (fresh_next g3 a1.next hf) fun a2' w2 M2 hr2 hM2 => ?_
      obtain ⟨φ2, k1, k2, k3⟩ := id hr2
      rw [← List.append_assoc]
      exact hQ _ _ _ (Reach.after hf1 g3 a1 a2 hr2) (hM1.after g3.size g2 k3 hM2)
    · rename_i hne
      refine hself.run _ _ _ _ _ _ _ hs ro M a φ w ok hG hr hF hR hf _ fun a' w' M' hreach hM => ?_
      have := hQ a' w' M' hreach hM
      cases e with
      | normal => exact (hne _ _ hs).elim
      | exit id => exact this
      | ret => exact this

/- ### a range over a function -/
theorem MOK.stays {ro : Option Nat} {φ φ' : Phi} {h h' : H} {w W W' : World} {M : List Deferred} (a : MOK ro w M W) (hr : HR E φ h.blks.get W) (x : Ext E φ h W φ' h' W') : MOK ro w M W' := ⟨a.marks.later hr x, a.none⟩
theorem MOK.put {ro : Option Nat} {w W : World} {M : List Deferred} (a : MOK ro w M W) {l : Nat} {rec : Loop} {o : Obj} (hl : W.heap[l]? = some (.loop rec)) : MOK ro w M (W.putObj l o) :=
  ⟨⟨fun d hd => (by
    obtain ⟨r, h1, h2, h3⟩ := a.marks.1 d hd
    refine ⟨r, h1, h2, (World.putObj_heap_other fun e => ?_).trans h3⟩
    subst e
    rw [hl] at h3; cases h3), a.marks.2⟩, a.none⟩
theorem MOK.below {ro : Option Nat} {w W W' : World} {M : List Deferred} (a : MOK ro w M W) (hb : RowKit.Below W.heap.size W W') : MOK ro w M W' :=
  ⟨⟨fun d hd => by
    obtain ⟨r, h1, h2, h3⟩ := a.marks.1 d hd
    exact ⟨r, h1, h2, (hb.block r (Array.getElem?_eq_some_iff.1 h3).1).trans h3⟩, a.marks.2⟩, a.none⟩
theorem Ext.below {φ φ' : Phi} {h h' : H} {w w1 w2 : World} (x : Ext E φ h w φ' h' w1) (hb : RowKit.Below w1.heap.size w1 w2) : Ext E φ h w φ' h' w2 :=
  ⟨x.le, x.dom, x.src, hb.os.trans x.os, hb.tape.trans x.tape, hb.output.trans x.output, Nat.le_trans x.size hb.size, fun c hc hno => (hb.block c (Nat.lt_of_lt_of_le hc x.size)).trans (x.frame c hc hno)⟩

theorem enter_run {ro : Option Nat} {w : World} (hR : RoOK ro w) (fn : FuncId) (tmps : Array Value) (ps : Array Tmp) (assign body : Code) : ∃ l D mark w1, (Instr.enterLoop fn tmps ps assign body ro).run P w = .ok (l, mark) w1 ∧
    w1.heap[l]? = some (.loop { state := .ready, pending := none, fn, tmps, params := ps, assign, body, defers := D }) ∧ w.heap.size ≤ l ∧ RowKit.Below w.heap.size w w1 ∧ MOK ro w mark w1 := by
  cases ro with
  | none =>
    refine ⟨w.heap.size + 1, w.heap.size, _, _, run_enterLoop_outer _ _ _ _ _, ?_, by omega, ((RowKit.Below.refl _ w).alloc (Nat.le_refl _) _).alloc (by simp) _, ⟨⟨fun d hd => ?_, by simp⟩, fun h => by cases h⟩⟩
    · have := World.alloc_heap_new (w.alloc (.deferred (some []))) (.loop { state := .ready, pending := none, fn, tmps, params := ps, assign, body, defers := w.heap.size }); rwa [World.size_alloc] at this
    · rw [List.mem_singleton] at hd
      subst hd
      exact ⟨w.heap.size, rfl, Nat.le_refl _, (RowKit.Below.heap_alloc _ _ _ (by simp)).trans (World.alloc_heap_new w _)⟩
  | some l0 =>
    obtain ⟨rec, hrec⟩ := hR l0 rfl
    refine ⟨w.heap.size, rec.defers, [], w.alloc (.loop { state := .ready, pending := none, fn, tmps, params := ps, assign, body, defers := rec.defers }), ?_, World.alloc_heap_new w _, Nat.le_refl _, (RowKit.Below.refl _ w).alloc (Nat.le_refl _) _, MOK.nil⟩
    unfold Instr.enterLoop
    simp only [Sem.run_bind, run_getLoop hrec, run_newObj_alloc, Result.andThen, Sem.run_pure]

theorem evRounds_ae {self : Self} (hself : SelfOK P E self) {n p0 p1 : Nat} {assign body : Code} {α : Tr Value} {cap : List Value} : ∀ (k i : Nat) {h h' : H} {e : Ex}, Hok h → E.G ≤ h.next → evRounds self n p0 p1 assign body α cap k i h = some (e, h') → AE E h h'
  | 0, i, h, h', e, ok, hG, hs => by
    simp only [evRounds, Option.some.injEq, Prod.mk.injEq] at hs
    obtain ⟨_, rfl⟩ := hs
    exact AE.refl ok
  | k + 1, i, h, h', e, ok, hG, hs => by
    simp only [evRounds, forceI_eq, Tr.force_eq, forceN_eq] at hs
    split at hs
    · split at hs
      · split at hs
        · rename_i h1 hA
          have a1 := hself.ae _ _ _ _ _ _ _ ok hG hA
          have hG1 := Nat.le_trans hG a1.next
          split at hs
          · rename_i h2 hB
            have a2 := hself.ae _ _ _ _ _ _ _ a1.ok hG1 hB
            exact (a1.trans a2).trans (evRounds_ae hself k (i + 1) a2.ok (Nat.le_trans hG1 a2.next) hs)
          · rename_i e1 _ h2 hne hB
            simp only [Option.some.injEq, Prod.mk.injEq] at hs
            obtain ⟨rfl, rfl⟩ := hs
            exact a1.trans (hself.ae _ _ _ _ _ _ _ a1.ok hG1 hB)
          · cases hs
        · cases hs
      · cases hs
    · cases hs

def exCode : Ex → Code
  | .normal => .skip
  | .exit id => .exit id
  | .ret => .ret

theorem iterStr_some {h : H} {cap : List Value} {s : ByteArray} (hs : iterStr h cap = some s) : ∃ b off, cap = [.pointer (some ⟨b, off, none⟩)] ∧ rd h b off 1 = some [.string s] := by
  unfold iterStr at hs
  split at hs
  · rename_i b off
    split at hs
    · rename_i s' hr
      simp only [Option.some.injEq] at hs
      subst hs
      exact ⟨b, off, rfl, hr⟩
    · cases hs
  · cases hs

theorem FR.setPs {φ : Phi} {α : Tr Value} {a : Act} {n p0 p1 : Nat} (hF : FR φ α a n) (h0 : p0 < n) (h1 : p1 < n) {v0 v1 : Value} (g0 : VR φ v0 v0) (g1 : VR φ v1 v1) :
    FR φ (Tr.put (Tr.put α p0 v0) p1 v1) { tmps := (#[p0, p1].zip #[v0, v1]).foldl (fun tmps (t, a) => tmps.setIfInBounds t a) a.tmps, defers := [] } n := by
  have e : ({ tmps := (#[p0, p1].zip #[v0, v1]).foldl (fun tmps (t, a) => tmps.setIfInBounds t a) a.tmps, defers := [] } : Act) = withM [] ((a.put (some p0) v0).put (some p1) v1) := by
    simp [withM, Act.put]
  rw [e]
  have hp : ∀ (β : Tr Value) (p : Nat) (v : Value), p < n → Ev.put n β (some p) v = some (Tr.put β p v) := fun β p v hp => by
    simp only [Ev.put, Nat.ble_eq_true_of_le (Nat.succ_le_of_lt hp), Tr.force_eq]
  have := (hF.put (hp α p0 v0 h0) g0).put (hp _ p1 v1 h1) g1
  exact ⟨this.size, this.vals, rfl⟩

theorem withM_nil {φ : Phi} {α : Tr Value} {a : Act} {n : Nat} (hF : FR φ α a n) : withM [] a = a := by
  have := hF.defers
  cases a
  simp only at this
  subst this
  rfl

set_option maxHeartbeats 1000000 in
theorem evRange_sound (hE : EnvOK P E) {self : Self} (hself : SelfOK P E self) {n : Nat} {f : Operand} {ps : Array Tmp} {assign body : Code} {α α' : Tr Value} {h h' : H} {e : Ex} (hs : evRange E self n (ev E h α f) ps.toList assign body α h = some (e, α', h'))
    {ro : Option Nat} {M : List Deferred} {a : Act} {φ : Phi} {w : World} (ok : Hok h) (hG : E.G ≤ h.next) (hr : HR E φ h.blks.get w) (hF : FR φ α a n) (hR : RoOK ro w) (hf : ∀ b, h.next ≤ b → b < h'.next → φ b = none)
    {Q : Exit → Act → World → Prop} (hQ : ∀ a' w' M', Reach E φ h w α' h' n a' w' → MOK ro w M' w' → Q (toExit e) (withM (M' ++ M) a') w') : (Code.rangeFunc f ps assign body).wpIn (Fr ro) 0 P Q (withM M a) w := by
  unfold evRange at hs
  split at hs
  · rename_i v g first cap p0 p1 hev hps
    split at hs
    · rename_i s hit hfirst hstr
      split at hs
      · rename_i hlt
        obtain ⟨hp0, hp1, hsz⟩ := hlt
        split at hs
        · rename_i e0 h0 hrounds
          simp only [Option.some.injEq, Prod.mk.injEq] at hs
          obtain ⟨rfl, rfl, rfl⟩ := hs
          obtain ⟨b, off, hcap, hrd⟩ := iterStr_some hstr
          have hps' : ps = #[p0, p1] := by rw [← Array.toList_inj]; exact hps
          subst hps'
          have hvr := ev_sound hr hF hev
          -- the closure's value in the model
          obtain ⟨A, c, sh, es, top, heval, hφ, hA⟩ : ∃ A c sh es top, a.eval f = .func (.func g) #[] #[.pointer (some A)] ∧ φ b = some (c, sh, es, top) ∧ A = ⟨c, sh + off, none⟩ := by
            generalize a.eval f = z at hvr
            cases hvr with
            | func _ k1 k2 k3 k4 =>
              rename_i first' cap'
              have hf0 : first'.size = 0 := by
                rw [← k1, ← Array.length_toList, hfirst]; rfl
              have hfe : first' = #[] := Array.eq_empty_of_size_eq_zero hf0
              have hc1 : cap.size = 1 := by rw [← Array.length_toList, hcap]; rfl
              have hce : cap[0]'(by omega) = .pointer (some ⟨b, off, none⟩) := by
                have : cap.toList[0]'(by simp; omega) = .pointer (some ⟨b, off, none⟩) := by simp [hcap]
                simpa using this
              have h5 := k4 0 (by omega) (by omega)
              rw [hce] at h5
              generalize hz : cap'[0]'(by omega) = z at h5
              cases h5 with
              | ptr hφ =>
                rename_i c sh es top
                refine ⟨_, c, sh, es, top, ?_, hφ, rfl⟩
                have hcs : cap' = #[.pointer (some ⟨c, sh + off, none⟩)] := by
                  apply Array.ext
                  · simp; omega
                  · intro i h6 h7
                    have : i = 0 := by simp at h7; omega
                    subst this
                    simpa using hz
                rw [hfe, hcs]
          refine wpIn_rangeFunc fun fn _ => ?_
          obtain ⟨l, D, mark, w1, hent, hl1, hle, hb1, hM1⟩ := enter_run (P := P) hR fn a.tmps #[p0, p1] assign body
          obtain ⟨rec, hrec⟩ : ∃ rec : LoopState → Option Code → Loop, rec = fun st pe => { state := st, pending := pe, fn, tmps := a.tmps, params := #[p0, p1], assign, body, defers := D } := ⟨_, rfl⟩
          have hl1' : w1.heap[l]? = some (.loop (rec .ready none)) := by rw [hrec]; exact hl1
          have hev' : (withM M a).eval f = .func (.func g) #[] #[.pointer (some A)] := by rw [withM_eval]; exact heval
          refine ⟨l, mark, w1, { target := .fn (.func g) #[.pointer (some A)], args := #[.func (.yield l) #[] #[]] }, w1, g, #[.func (.yield l) #[] #[], .pointer (some A)], w1, hent, ?_, fun _ _ => trivial, ?_, fun h => (by cases h), ?_⟩
          · simp only [resolve, hev']
            simp [go_sem]
          · simp [invoke, go_sem, (hE.iters g hit).enters]
          have hcellOf : ∀ {W : World} {φi : Phi} {hi : H} {s' : ByteArray}, HR E φi hi.blks.get W → (∀ b x, φ b = some x → φi b = some x) → iterStr hi cap.toList = some s' → W.cell? A = some (.string s') := fun {W φi hi s'} hri hle' hit' => by
            obtain ⟨b', off', hcap', hrd'⟩ := iterStr_some hit'
            rw [hcap] at hcap'
            simp only [List.cons.injEq, Value.pointer.injEq, Option.some.injEq, Addr.mk.injEq, and_true] at hcap'
            obtain ⟨rfl, rfl⟩ := hcap'
            obtain ⟨vs', _, hcell, hv⟩ := rd_sound hri hrd' (hle' _ _ hφ)
            cases hv with
            | cons g1 g2 =>
              cases g2
              cases g1
              have := hcell 0 _ rfl
              rw [hA]
              exact this
          have hae := evRounds_ae hself _ _ ok hG hrounds
          have key := (hE.iters g hit).run l s.size A
            (fun i W => ∃ hi φi, i ≤ s.size ∧ evRounds self n p0 p1 assign body α cap.toList (s.size - i) i hi = some (e0, h0) ∧ AE E h hi ∧ HR E φi hi.blks.get W ∧ Ext E φ h w φi hi W ∧ W.heap[l]? = some (.loop (rec .ready none)) ∧ MOK ro w mark W)
            (fun i W => ∃ φi, e0 ≠ .normal ∧ HR E φi h0.blks.get W ∧ Ext E φ h w φi h0 W ∧ W.heap[l]? = some (.loop (rec .done (some (exCode e0)))) ∧ MOK ro w mark W) w1
            (fun i A' B ⟨hi, φi, j0, j1, j2, j3, j4, j5, j6⟩ hb => ⟨hi, φi, j0, j1, j2, j3.below hb, j4.below hb, (hb.block l (Array.getElem?_eq_some_iff.1 j5).1).trans j5, j6.below hb⟩)
            (fun i A' B ⟨φi, j0, j3, j4, j5, j6⟩ hb => ⟨φi, j0, j3.below hb, j4.below hb, (hb.block l (Array.getElem?_eq_some_iff.1 j5).1).trans j5, j6.below hb⟩)
            ?round ⟨s, hcellOf (hr.below hb1) (fun _ _ x => x) hstr, rfl⟩ hsz ⟨h, φ, Nat.zero_le _, by rw [Nat.sub_zero]; exact hrounds, AE.refl ok, hr.below hb1, (Ext.refl E φ h w).below hb1, hl1', hM1⟩
          case round =>
            rintro i W1 ⟨hi, φi, j0, j1, j2, j3, j4, j5, j6⟩ hlt
            obtain ⟨k, hk⟩ : ∃ k, s.size - i = k + 1 := ⟨s.size - i - 1, by omega⟩
            rw [hk] at j1
            have hGi := Nat.le_trans hG j2.next
            have haei := evRounds_ae hself _ _ j2.ok hGi j1
            simp only [evRounds, forceI_eq, Tr.force_eq, forceN_eq] at j1
            split at j1
            · rename_i s' hs'
              split at j1
              · rename_i ch hch
                refine ⟨s', ch, hcellOf j3 j4.le hs', hch, ?_⟩
                split at j1
                · rename_i α3 h1 hA1
                  have a1 := hself.ae _ _ _ _ _ _ _ j2.ok hGi hA1
                  have hG1 := Nat.le_trans hGi a1.next
                  have hlW : w.heap.size ≤ l := hle
                  have hy := run_yield (P := P) (args := #[.int .i64 (Int.ofNat i), .int .i64 (Int.ofNat ch.toNat - 97)]) j5 (by rw [hrec]; rfl)
                  rw [hrec] at hy
                  refine ⟨fn, _, assign, body, hy, ?_⟩
                  refine roundIn_of_wpIn (F := Fence.wide) (n := 0) trivial ?_
                  have hFi := (hF.mono j4.le).setPs hp0 hp1 (.int .i64 (Int.ofNat i)) (.int .i64 (Int.ofNat ch.toNat - 97))
                  have hb2 : ∃ e2 α4 h2, self n body α3 h1 = some (e2, α4, h2) := by
                    split at j1
                    · exact ⟨_, _, _, by assumption⟩
                    · exact ⟨_, _, _, by assumption⟩
                    · cases j1
                  obtain ⟨e2, α4, h2, hB⟩ := hb2
                  rw [hB] at j1
                  have a2 := hself.ae _ _ _ _ _ _ _ a1.ok hG1 hB
                  have hG2 := Nat.le_trans hG1 a2.next
                  have n2 : h2.next ≤ h0.next := by
                    cases e2 with
                    | normal => exact (evRounds_ae hself _ _ a2.ok hG2 j1).next
                    | exit id => simp only [Option.some.injEq, Prod.mk.injEq] at j1; rw [← j1.2]; exact Nat.le_refl _
                    | ret => simp only [Option.some.injEq, Prod.mk.injEq] at j1; rw [← j1.2]; exact Nat.le_refl _
                  have hfi : ∀ b, h.next ≤ b → b < hi.next → φ b = none := fun b h3 h4 => hf b h3 (by have := a1.next; have := a2.next; omega)
                  have hf1 : ∀ b, hi.next ≤ b → b < h1.next → φi b = none := fresh_next j4 j2.next (fun b h3 h4 => hf b h3 (by have := a2.next; omega))
                  have hgoA := hself.run _ _ _ _ _ _ _ hA1 (some l) [] _ φi W1 j2.ok hGi j3 hFi (fun l' hl' => by cases hl'; exact ⟨_, j5⟩) hf1
                    (Exit.then (fun a₁ w₁ => ∃ w₂, (Instr.beginRound l).run P w₁ = .ok () w₂ ∧ body.wpIn (Fence.wide.inRound l) 0 P (roundPost P l fun e W' => (e = .returned (.bool true) ∧ ∃ hi φi, i + 1 ≤ s.size ∧ evRounds self n p0 p1 assign body α cap.toList (s.size - (i + 1)) (i + 1) hi = some (e0, h0) ∧ AE E h hi ∧ HR E φi hi.blks.get W' ∧ Ext E φ h w φi hi W' ∧ W'.heap[l]? = some (.loop (rec .ready none)) ∧ MOK ro w mark W') ∨
                      (e = .returned (.bool false) ∧ ∃ φi, e0 ≠ .normal ∧ HR E φi h0.blks.get W' ∧ Ext E φ h w φi h0 W' ∧ W'.heap[l]? = some (.loop (rec .done (some (exCode e0)))) ∧ MOK ro w mark W')) a₁ w₂) (fun _ _ _ => False)) ?_
                  · exact hgoA
                  rintro a' w' M' ⟨φ1, g1, g2, g3⟩ hM'
                  obtain rfl := hM'.none rfl
                  have hrd := other_stays j3 g3 j5 (fun _ _ _ e => by cases e)
                  have y1 := j6.stays j3 g3
                  have x1 : Ext E φ h w φ1 h1 w' := Ext.trans hfi j4 j2 g3 a1
                  refine ⟨_, run_beginRound hrd (by rw [hrec]), ?_⟩
                  have hll : l < w'.heap.size := (Array.getElem?_eq_some_iff.1 hrd).1
                  have g2' := g2.put_other (o' := .loop { rec .ready none with state := .busy }) hrd (fun _ _ _ e => by cases e)
                  have x1' : Ext E φ h w φ1 h1 (w'.putObj l (.loop { rec .ready none with state := .busy })) := x1.put_other hlW
                  have hbusy : (w'.putObj l (.loop { rec .ready none with state := .busy })).heap[l]? = some (.loop { rec .ready none with state := .busy }) := World.putObj_heap_same hll
                  have y1' := y1.put (o := .loop { rec .ready none with state := .busy }) hrd
                  have hgoB := hself.run _ _ _ _ _ _ _ hB (some l) [] _ φ1 _ a1.ok hG1 g2' g1 (fun l' hl' => by cases hl'; exact ⟨_, hbusy⟩)
                    (fresh_next g3 a1.next (fun b h3 h4 => fresh_next j4 j2.next hf b h3 (by omega))) (roundPost P l fun e W' => (e = .returned (.bool true) ∧ ∃ hi φi, i + 1 ≤ s.size ∧ evRounds self n p0 p1 assign body α cap.toList (s.size - (i + 1)) (i + 1) hi = some (e0, h0) ∧ AE E h hi ∧ HR E φi hi.blks.get W' ∧ Ext E φ h w φi hi W' ∧ W'.heap[l]? = some (.loop (rec .ready none)) ∧ MOK ro w mark W') ∨
                      (e = .returned (.bool false) ∧ ∃ φi, e0 ≠ .normal ∧ HR E φi h0.blks.get W' ∧ Ext E φ h w φi h0 W' ∧ W'.heap[l]? = some (.loop (rec .done (some (exCode e0)))) ∧ MOK ro w mark W')) ?_
                  · rw [List.append_nil]; exact hgoB
                  rintro a'' w'' M'' ⟨φ2, k1, k2, k3⟩ hM''
                  have hrd2 := other_stays g2' k3 hbusy (fun _ _ _ e => by cases e)
                  have hll2 : l < w''.heap.size := (Array.getElem?_eq_some_iff.1 hrd2).1
                  have y2 := y1'.stays g2' k3
                  have x2 : Ext E φ h w φ2 h2 w'' := Ext.trans (fun b h3 h4 => hf b h3 (by have := a2.next; omega)) x1' (j2.trans a1) k3 a2
                  cases e2 with
                  | normal =>
                    refine ⟨_, _, run_endRound none hrd2, .inl ⟨rfl, h2, φ2, hlt, ?_, (j2.trans a1).trans a2, k2.put_other hrd2 (fun _ _ _ e => by cases e), x2.put_other hlW, ?_, y2.put hrd2⟩⟩
                    · rw [show s.size - (i + 1) = k by omega]; exact j1
                    · rw [World.putObj_heap_same hll2, hrec]; rfl
                  | exit id =>
                    simp only [Option.some.injEq, Prod.mk.injEq] at j1
                    obtain ⟨rfl, rfl⟩ := j1
                    refine ⟨_, _, run_endRound (some (.exit id)) hrd2, .inr ⟨rfl, φ2, by simp, k2.put_other hrd2 (fun _ _ _ e => by cases e), x2.put_other hlW, ?_, y2.put hrd2⟩⟩
                    rw [World.putObj_heap_same hll2, hrec]; rfl
                  | ret =>
                    simp only [Option.some.injEq, Prod.mk.injEq] at j1
                    obtain ⟨rfl, rfl⟩ := j1
                    refine ⟨_, _, run_endRound (some .ret) hrd2, .inr ⟨rfl, φ2, by simp, k2.put_other hrd2 (fun _ _ _ e => by cases e), x2.put_other hlW, ?_, y2.put hrd2⟩⟩
                    rw [World.putObj_heap_same hll2, hrec]; rfl
                · cases j1
              · cases j1
            · cases j1
          refine CallsIn.mono (callsFr (ro := ro) (n := 0 - 1) ((callsIn_wide (n := 0)).1 key)) ?_
          rintro e1 W' ⟨⟨v, rfl⟩, ⟨hi, φi, j0, j1, j2, j3, j4, j5, j6⟩ | ⟨i, φi, j0, j3, j4, j5, j6⟩⟩
          · rw [Nat.sub_self] at j1
            simp only [evRounds, Option.some.injEq, Prod.mk.injEq] at j1
            obtain ⟨rfl, rfl⟩ := j1
            refine ⟨_, _, run_endLoop j5 (by rw [hrec]; simp), ?_⟩
            rw [hrec]
            exact hQ a _ mark ⟨φi, hF.mono j4.le, j3.put_other j5 (fun _ _ _ e => by cases e), j4.put_other hle⟩ (j6.put j5)
          · refine ⟨_, _, run_endLoop j5 (by rw [hrec]; simp), ?_⟩
            rw [hrec]
            have hq := hQ a (W'.putObj l (.loop { rec .done (some (exCode e0)) with state := .exhausted })) mark ⟨φi, hF.mono j4.le, j3.put_other j5 (fun _ _ _ e => by cases e), j4.put_other hle⟩ (j6.put j5)
            rw [hrec] at hq
            cases e0 with
            | normal => exact absurd rfl j0
            | exit id => exact wpIn_exit hq
            | ret => exact wpIn_ret hq
        · cases hs
      · cases hs
    · cases hs
  · cases hs

theorem evRange_ae {self : Self} (hself : SelfOK P E self) {n : Nat} {v : Option Value} {ps : List Tmp} {assign body : Code} {α α' : Tr Value} {h h' : H} {e : Ex} (ok : Hok h) (hG : E.G ≤ h.next) (hs : evRange E self n v ps assign body α h = some (e, α', h')) : AE E h h' := by
  unfold evRange at hs
  split at hs
  · split at hs
    · split at hs
      · split at hs
        · rename_i hrounds
          simp only [Option.some.injEq, Prod.mk.injEq] at hs
          obtain ⟨_, _, rfl⟩ := hs
          exact evRounds_ae hself _ _ ok hG hrounds
        · cases hs
      · cases hs
    · cases hs
  · cases hs

theorem evStep_ok (hE : EnvOK P E) {self : Self} (hself : SelfOK P E self) : SelfOK P E (evStep P E self) := by
  have hc := callWith_ok hE hself
  constructor
  · intro n c α h e α' h' ok hG hs
    unfold evStep at hs
    split at hs
    · simp only [Option.some.injEq, Prod.mk.injEq] at hs; obtain ⟨_, _, rfl⟩ := hs; exact AE.refl ok
    · simp only [Option.some.injEq, Prod.mk.injEq] at hs; obtain ⟨_, _, rfl⟩ := hs; exact AE.refl ok
    · split at hs
      · rename_i hr
        simp only [Option.some.injEq, Prod.mk.injEq] at hs; obtain ⟨_, _, rfl⟩ := hs
        exact evRegion_ae hc ok hG hr
      · cases hs
    · split at hs
      · rename_i h1
        have a1 := hself.ae _ _ _ _ _ _ _ ok hG h1
        exact a1.trans (hself.ae _ _ _ _ _ _ _ a1.ok (Nat.le_trans hG a1.next) hs)
      · exact hself.ae _ _ _ _ _ _ _ ok hG hs
    · split at hs
      · exact hself.ae _ _ _ _ _ _ _ ok hG hs
      · exact hself.ae _ _ _ _ _ _ _ ok hG hs
      · cases hs
    · split at hs
      · rename_i h1
        split at hs
        · simp only [Option.some.injEq, Prod.mk.injEq] at hs; obtain ⟨_, _, rfl⟩ := hs; exact hself.ae _ _ _ _ _ _ _ ok hG h1
        · simp only [Option.some.injEq, Prod.mk.injEq] at hs; obtain ⟨_, _, rfl⟩ := hs; exact hself.ae _ _ _ _ _ _ _ ok hG h1
      · exact hself.ae _ _ _ _ _ _ _ ok hG hs
    · exact evLoop_ae hself _ ok hG hs
    · simp only [Option.some.injEq, Prod.mk.injEq] at hs; obtain ⟨_, _, rfl⟩ := hs; exact AE.refl ok
    · simp only [Option.some.injEq, Prod.mk.injEq] at hs; obtain ⟨_, _, rfl⟩ := hs; exact AE.refl ok
    · exact evRange_ae hself ok hG hs
    · cases hs
  · intro n c α h e α' h' hs ro M a φ w ok hG hr hF hR hf Q hQ
    have here : ∀ {a' : Act}, FR φ α a' n → Reach E φ h w α h n a' w := fun hF' => ⟨φ, hF', hr, Ext.refl _ _ _ _⟩
    unfold evStep at hs
    split at hs
    · simp only [Option.some.injEq, Prod.mk.injEq] at hs; obtain ⟨rfl, rfl, rfl⟩ := hs; exact wpIn_skip (hQ _ _ [] (here hF) MOK.nil)
    · simp only [Option.some.injEq, Prod.mk.injEq] at hs; obtain ⟨rfl, rfl, rfl⟩ := hs; exact wpIn_label (hQ _ _ [] (here hF) MOK.nil)
    · split at hs
      · rename_i hreg
        simp only [Option.some.injEq, Prod.mk.injEq] at hs; obtain ⟨rfl, rfl, rfl⟩ := hs
        exact evRegion_sound hE hc ok hG hr hF hreg hf fun a' w' hreach => hQ a' w' [] hreach MOK.nil
      · cases hs
    · rename_i x y
      split at hs
      · rename_i α1 h1 h2
        have a1 := hself.ae _ _ _ _ _ _ _ ok hG h2
        have hG1 := Nat.le_trans hG a1.next
        have a2 := hself.ae _ _ _ _ _ _ _ a1.ok hG1 hs
        have hf1 : ∀ b, h.next ≤ b → b < h1.next → φ b = none := fun b h3 h4 => hf b h3 (Nat.lt_of_lt_of_le h4 a2.next)
        refine wpIn_seq (hself.run _ _ _ _ _ _ _ h2 ro M a φ w ok hG hr hF hR hf1 _ fun a' w' M1 hreach hM1 => ?_)
        obtain ⟨φ1, g1, g2, g3⟩ := hreach
        refine hself.run _ _ _ _ _ _ _ hs ro (M1 ++ M) a' φ1 w' a1.ok hG1 g2 g1 (hR.after hr g3) (fresh_next g3 a1.next hf) _ fun a2' w2 M2 hr2 hM2 => ?_
        obtain ⟨φ2, k1, k2, k3⟩ := id hr2
        rw [← List.append_assoc]
        exact hQ _ _ _ (Reach.after hf1 g3 a1 a2 hr2) (hM1.after g3.size g2 k3 hM2)
      · rename_i hne
        refine wpIn_seq (hself.run _ _ _ _ _ _ _ hs ro M a φ w ok hG hr hF hR hf _ fun a' w' M' hreach hM => ?_)
        have := hQ a' w' M' hreach hM
        cases e with
        | normal => exact (hne _ _ hs).elim
        | exit id => exact this
        | ret => exact this
    · rename_i c x y
      split at hs
      · rename_i hcv
        exact wpIn_cond_true (by rw [withM_eval]; exact (ev_sound hr hF hcv).plain rfl) (hself.run _ _ _ _ _ _ _ hs ro M a φ w ok hG hr hF hR hf _ hQ)
      · rename_i hcv
        exact wpIn_cond_false (by rw [withM_eval]; exact (ev_sound hr hF hcv).plain rfl) (hself.run _ _ _ _ _ _ _ hs ro M a φ w ok hG hr hF hR hf _ hQ)
      · cases hs
    · rename_i id b
      split at hs
      · rename_i id' α1 h1 h2
        split at hs
        · rename_i hid
          simp only [Option.some.injEq, Prod.mk.injEq] at hs; obtain ⟨rfl, rfl, rfl⟩ := hs
          refine wpIn_block (hself.run _ _ _ _ _ _ _ h2 ro M a φ w ok hG hr hF hR hf _ fun a' w' M' hreach hM => ?_)
          have := hQ a' w' M' hreach hM
          show Exit.inBlock id Q (.exit id') (withM (M' ++ M) a') w'
          simp only [Exit.inBlock, hid, if_true]
          exact this
        · rename_i hid
          simp only [Option.some.injEq, Prod.mk.injEq] at hs; obtain ⟨rfl, rfl, rfl⟩ := hs
          refine wpIn_block (hself.run _ _ _ _ _ _ _ h2 ro M a φ w ok hG hr hF hR hf _ fun a' w' M' hreach hM => ?_)
          have := hQ a' w' M' hreach hM
          show Exit.inBlock id Q (.exit id') (withM (M' ++ M) a') w'
          simp only [Exit.inBlock, hid, if_false]
          exact this
      · rename_i hne
        refine wpIn_block (hself.run _ _ _ _ _ _ _ hs ro M a φ w ok hG hr hF hR hf _ fun a' w' M' hreach hM => ?_)
        have := hQ a' w' M' hreach hM
        cases e with
        | normal => exact this
        | exit id' => exact (hne _ _ _ hs).elim
        | ret => exact this
    · exact wpIn_loop_rounds 4611686018427387904 (evLoop_sound hself _ ok hG hr hF hR hs hf hQ)
    · simp only [Option.some.injEq, Prod.mk.injEq] at hs; obtain ⟨rfl, rfl, rfl⟩ := hs; exact wpIn_exit (hQ _ _ [] (here hF) MOK.nil)
    · simp only [Option.some.injEq, Prod.mk.injEq] at hs; obtain ⟨rfl, rfl, rfl⟩ := hs; exact wpIn_ret (hQ _ _ [] (here hF) MOK.nil)
    · exact evRange_sound hE hself hs ok hG hr hF hR hf hQ
    · cases hs

theorem run_ok (hE : EnvOK P E) : ∀ f, SelfOK P E (run P E f) := by
  intro f
  induction f with
  | zero =>
    constructor
    · intro n c α h e α' h' _ _ hs; cases hs
    · intro n c α h e α' h' hs; cases hs
  | succ f ih => exact evStep_ok hE ih
end Go.Proofs.YtnjbcgiplfdgmaaGreatDoor.Ev
