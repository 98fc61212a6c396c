/- Code and calls. -/
import Derived.Test.YtlajheeleneigaaDoorPmEvReg
import Derived.LoopN
namespace Go.Proofs.YtlajheeleneigaaDoor.Ev
open Go
variable {P : Program} {E : Env}

def toExit : Ex → Exit
  | .normal => .normal
  | .exit id => .exit id
  | .ret => .ret

structure SelfOK (P : Program) (E : Env) (S : Self) : Prop where
  ae : ∀ n c α h e α' h', Hok h → E.G ≤ h.next → S n c α h = some (e, α', h') → AE E h h'
  run : ∀ n c α h e α' h', S n c α h = some (e, α', h') → ∀ a φ w, Hok h → E.G ≤ h.next → HR E φ h.blks.get w → FR φ α a n → (∀ b, h.next ≤ b → b < h'.next → φ b = none) →
    ∀ Q : Exit → Act → World → Prop, (∀ a' w', Reach E φ h w α' h' n a' w' → Q (toExit e) a' w') → c.wp P Q a w

theorem asAddr_run {w : World} (A : Addr) : (asAddr (.pointer (some A))).run P w = .ok A w := rfl

theorem results_f (fn : Func) (tmps : Array Value) : ∃ f : ResultVar → Sem Value, (results fn tmps = do let vs ← fn.results.mapM f; pure (if h : vs.size = 1 then vs[0] else .tuple vs)) ∧
    (∀ t, f (.tmp t) = pure (tmps.getD t undef)) ∧ (∀ b t, f (.cell b t) = do loadVar t (← asAddr (tmps.getD b undef))) := ⟨_, rfl, fun _ => rfl, fun _ _ => rfl⟩

theorem resultsA_sound (hE : EnvOK P E) {h : H} {α : Tr Value} {a : Act} {n : Nat} {φ : Phi} {w : World} (hr : HR E φ h.blks.get w) (hF : FR φ α a n) {f : ResultVar → Sem Value} (hf1 : ∀ t, f (.tmp t) = pure (a.tmps.getD t undef))
    (hf2 : ∀ b t, f (.cell b t) = do loadVar t (← asAddr (a.tmps.getD b undef))) : ∀ {rs : List ResultVar} {vs : List Value}, resultsA E h α rs = some vs →
    ∃ vs', (rs.mapM f).run P w = .ok vs' w ∧ VRs φ vs vs'
  | [], vs, hs => by
    simp only [resultsA, Option.some.injEq] at hs; subst hs
    exact ⟨[], by simp, .nil⟩
  | .tmp t :: r, vs, hs => by
    simp only [resultsA] at hs
    split at hs
    · rename_i us hus
      simp only [Option.some.injEq] at hs; subst hs
      obtain ⟨vs', hrun, hv⟩ := resultsA_sound hE hr hF hf1 hf2 hus
      exact ⟨a.tmps.getD t undef :: vs', by simp only [List.mapM_cons, Sem.run_bind, hf1, Sem.run_pure, Result.andThen_ok, hrun], .cons (hF.vals t) hv⟩
    · cases hs
  | .cell b t :: r, vs, hs => by
    simp only [resultsA] at hs
    split at hs
    · rename_i v hv0
      split at hs
      · rename_i us hus
        simp only [Option.some.injEq] at hs; subst hs
        obtain ⟨vs', hrun, hv⟩ := resultsA_sound hE hr hF hf1 hf2 hus
        obtain ⟨v', hl, hvr⟩ := evLoad_sound (P := P) hE hr hv0 (hF.vals b)
        have hptr : ∃ A, a.tmps.getD b undef = .pointer (some A) := by
          have h1 := hF.vals b
          unfold evLoad at hv0
          split at hv0
          · rename_i heq
            rw [heq] at h1
            generalize a.tmps.getD b undef = z at h1
            cases h1 with
            | ptr hφ => exact ⟨_, rfl⟩
          · cases hv0
        obtain ⟨A, hA⟩ := hptr
        rw [hA] at hl
        have hl' : (loadVar t A).run P w = .ok v' w := by simpa [Instr.loadAt, Instr.sureAddr] using hl
        refine ⟨v' :: vs', ?_, .cons hvr hv⟩
        simp only [List.mapM_cons, Sem.run_bind, hf2, hA, asAddr_run, Sem.run_pure, Result.andThen_ok, hl', hrun]
      · cases hs
    · cases hs

theorem results_run {fn : Func} {tmps : Array Value} {w : World} {vs : List Value} {f : ResultVar → Sem Value} (hf : results fn tmps = do let vs ← fn.results.mapM f; pure (if h : vs.size = 1 then vs[0] else .tuple vs))
    (h : (fn.results.toList.mapM f).run P w = .ok vs w) : (results fn tmps).run P w = .ok (if h : vs.toArray.size = 1 then vs.toArray[0] else .tuple vs.toArray) w := by
  rw [hf, Array.mapM_eq_mapM_toList]
  simp only [Sem.run_bind, map_eq_pure_bind, h, Result.andThen_ok, Sem.run_pure]

theorem below_ext {φ : Phi} {h : H} {w w' : World} (hb : RowKit.Below w.heap.size w w') : Ext E φ h w φ h w' :=
  ⟨fun _ _ h => h, fun _ _ h => .inl h, fun _ _ h h' => (by rw [h'] at h; cases h), hb.os, hb.tape, hb.output, hb.size, fun c hc _ => hb.block c hc⟩
theorem HR.below {φ : Phi} {g : Nat → Option Blk} {w w' : World} (hr : HR E φ g w) (hb : RowKit.Below w.heap.size w w') : HR E φ g w' := by
  refine ⟨fun b cells size es hbl x hx => ?_, hr.inj, hr.glob⟩
  have hlt := hr.lt hbl hx
  obtain ⟨c, sh, es', top⟩ := x
  obtain ⟨h1, cs, ty, fr, h2, h3⟩ := hr.blk b cells size es hbl _ hx
  exact ⟨h1, cs, ty, fr, by rw [hb.block c hlt]; exact h2, h3⟩
theorem HR.tabs {φ : Phi} {B : Tr Blk} {w : World} (hr : HR E φ B.get w) {tabs : List (Nat × List Value)} (ht : TabsIn tabs B) (hok : ∀ x ∈ tabs, x.1 < E.N ∧ x.1 < E.G ∧ x.2.all plain = true) : TabsW tabs w := by
  intro x hx
  obtain ⟨cells, size, es, hb, hl, hc⟩ := ht x hx
  obtain ⟨hN, hG, hp⟩ := hok x hx
  obtain ⟨es', top, hφ⟩ := hr.glob x.1 cells size es hG hN hb
  obtain ⟨_, cs, ty, fr, hh, _, _, _, hcells⟩ := hr.blk x.1 cells size es hb _ hφ
  refine ⟨cs, ty, fr, hh, fun i v hv => ?_⟩
  have hi : i < x.2.length := (List.getElem?_eq_some_iff.1 hv).1
  obtain ⟨u, u', e1, e2, e3⟩ := hcells i (by omega)
  rw [hc i v hv] at e1
  injection e1 with e1
  subst e1
  have hpl : plain v = true := List.all_eq_true.1 hp _ (List.mem_of_getElem? hv)
  rw [e3.plain hpl] at e2
  simpa using e2

theorem callWith_ok (hE : EnvOK P E) {self : Self} (hself : SelfOK P E self) : CallOK P E (callWith E self) := by
  constructor
  · intro f args h v h' ok hG hs
    unfold callWith knownRun at hs
    repeat' split at hs
    all_goals first
      | (cases hs; done)
      | (cases hs; exact AE.refl ok)
      | (simp only [Option.some.injEq, Prod.mk.injEq] at hs
         obtain ⟨_, rfl⟩ := hs
         exact hself.ae _ _ _ _ _ _ _ ok hG (by assumption))
  · intro f args h v h' hs φ w args' ok hG hr hargs hf
    unfold callWith at hs
    split at hs
    · rename_i v0 hk
      unfold knownRun at hs
      split at hs
      · rename_i hcond
        obtain ⟨rfl, htabs⟩ := hcond
        cases hs
        obtain ⟨hp, hfn, hcall⟩ := hE.known f v hk
        refine ⟨hfn, ?_⟩
        cases hargs
        refine (hcall w (hr.tabs htabs hE.tabs)).mono fun e w' ⟨he, hb⟩ => ⟨v, he, φ, VR.of_plain hp, hr.below hb, below_ext hb⟩
      · cases hs
    split at hs
    · rename_i fn hfn
      split at hs
      · rename_i c hbody
        split at hs
        · rename_i hcond
          obtain ⟨hc2, hc3⟩ := hcond
          have key : ∀ e α' h1 vs, self fn.ntmps c (Tr.ofList args) h = some (e, α', h1) → (e = .ret ∨ e = .normal) → resultsA E h1 α' fn.results.toList = some vs → h1 = h' → v = (match vs with | [v] => v | vs => .tuple vs.toArray) →
              (∃ fn, P.funcs[f]? = some fn ∧ fn.body.isSome = true ∧ fn.name ≠ "runtime.NumGoroutine") ∧ Calls P f args'.toArray w fun e w' => ∃ v', e = .returned v' ∧ Good E φ h w v h' v' w' := by
            intro e α' h1 vs hself1 he hres hh hv
            subst hh
            refine ⟨⟨fn, hE.f _ _ hfn, by rw [hbody]; rfl, hc3⟩, calls_of_wp (hE.f _ _ hfn) hbody ?_⟩
            have hlen : args.length = args'.length := hargs.length
            have hF0 : FR φ (Tr.ofList args) { tmps := args'.toArray ++ Array.replicate (fn.ntmps - args'.toArray.size) undef, defers := [] } fn.ntmps := by
              refine ⟨by simp; omega, fun t => ?_, rfl⟩
              rw [Tr.ofList_get]
              simp only [Array.getD_eq_getD_getElem?]
              cases ht : args[t]? with
              | some u =>
                obtain ⟨u', h1, h2⟩ := hargs.get t u ht
                have hlt : t < args'.length := (List.getElem?_eq_some_iff.1 h1).1
                rw [Array.getElem?_append_left (by simpa using hlt)]
                simpa [h1] using h2
              | none =>
                have hge : args.length ≤ t := List.getElem?_eq_none_iff.1 ht
                rw [Array.getElem?_append_right (by simp; omega)]
                have : (Array.replicate (fn.ntmps - args'.toArray.size) undef)[t - args'.toArray.size]?.getD undef = undef := by
                  rw [Array.getElem?_replicate]
                  split <;> rfl
                rw [this]
                exact VR.undef
            refine hself.run _ _ _ _ _ _ _ hself1 _ φ w ok hG hr hF0 hf _ fun a' w' hreach => ?_
            obtain ⟨φ', g1, g2, g3⟩ := hreach
            obtain ⟨fr, hfr, hf1, hf2⟩ := results_f fn a'.tmps
            obtain ⟨vs', hrun, hvs⟩ := resultsA_sound (P := P) hE g2 g1 hf1 hf2 hres
            have hres' := results_run hfr hrun
            have hvr : VR φ' v (if h : vs'.toArray.size = 1 then vs'.toArray[0] else .tuple vs'.toArray) := by
              subst hv
              cases hvs with
              | nil => exact .tuple rfl (fun i h => by simp at h)
              | cons k1 k2 =>
                cases k2 with
                | nil => simpa using k1
                | cons k2 k3 =>
                  rw [dif_neg (by simp)]
                  have := ((VRs.cons k1 (VRs.cons k2 k3))).arr
                  exact .tuple this.1 this.2
            have hbp : a'.defers = [] ∧ ∃ u, (results fn a'.tmps).run P w' = .ok u w' ∧ ∃ v', Ending.returned u = .returned v' ∧ Good E φ h w v h1 v' w' := ⟨g1.defers, _, hres', _, rfl, φ', hvr, g2, g3⟩
            rcases he with rfl | rfl
            · exact hbp
            · exact hbp
          split at hs
          · rename_i α' h1 hself1
            split at hs
            · rename_i u hres
              simp only [Option.some.injEq, Prod.mk.injEq] at hs
              obtain ⟨hv, hh⟩ := hs
              exact key _ _ _ _ hself1 (.inl rfl) hres hh hv.symm
            · rename_i vs hres hne
              simp only [Option.some.injEq, Prod.mk.injEq] at hs
              obtain ⟨hv, hh⟩ := hs
              refine key _ _ _ _ hself1 (.inl rfl) hne hh ?_
              rw [← hv]
              split
              · exact absurd rfl (hres _)
              · rfl
            · cases hs
          · rename_i α' h1 hself1
            split at hs
            · rename_i u hres
              simp only [Option.some.injEq, Prod.mk.injEq] at hs
              obtain ⟨hv, hh⟩ := hs
              exact key _ _ _ _ hself1 (.inr rfl) hres hh hv.symm
            · rename_i vs hres hne
              simp only [Option.some.injEq, Prod.mk.injEq] at hs
              obtain ⟨hv, hh⟩ := hs
              refine key _ _ _ _ hself1 (.inr rfl) hne hh ?_
              rw [← hv]
              split
              · exact absurd rfl (hres _)
              · rfl
            · cases hs
          · cases hs
        · cases hs
      · cases hs
    · cases hs

theorem evLoop_ae {self : Self} (hself : SelfOK P E self) {n : Nat} {b : Code} : ∀ (k : Nat) {α : Tr Value} {h : H} {e : Ex} {α' : Tr Value} {h' : H}, Hok h → E.G ≤ h.next → evLoop self n b k α h = some (e, α', h') → AE E h h'
  | 0, α, h, e, α', h', _, _, hs => by simp [evLoop] at hs
  | k + 1, α, h, e, α', h', ok, hG, hs => by
    simp only [evLoop] at hs
    split at hs
    · rename_i α1 h1 hb
      have a1 := hself.ae _ _ _ _ _ _ _ ok hG hb
      exact a1.trans (evLoop_ae hself k a1.ok (Nat.le_trans hG a1.next) hs)
    · exact hself.ae _ _ _ _ _ _ _ ok hG hs

theorem fresh_next {φ φ1 : Phi} {h h1 h2 : H} {w w1 : World} (x : Ext E φ h w φ1 h1 w1) (hn : h.next ≤ h1.next) (hf : ∀ b, h.next ≤ b → b < h2.next → φ b = none) : ∀ b, h1.next ≤ b → b < h2.next → φ1 b = none := fun b h3 h4 => by
  cases h5 : φ1 b with
  | none => rfl
  | some y =>
    rcases x.dom b y h5 with h6 | ⟨_, _, h7⟩
    · rw [hf b (Nat.le_trans hn h3) h4] at h6; cases h6
    · omega

theorem Reach.after {φ φ1 : Phi} {h h1 h2 : H} {w w1 : World} {α2 : Tr Value} {n : Nat} {a2 : Act} {w2 : World} (hf : ∀ b, h.next ≤ b → b < h1.next → φ b = none) (x : Ext E φ h w φ1 h1 w1) (a1 : AE E h h1) (a2' : AE E h1 h2) (r : Reach E φ1 h1 w1 α2 h2 n a2 w2) : Reach E φ h w α2 h2 n a2 w2 := by
  obtain ⟨φ2, g1, g2, g3⟩ := r
  exact ⟨φ2, g1, g2, Ext.trans hf x a1 g3 a2'⟩

theorem evLoop_sound {self : Self} (hself : SelfOK P E self) {n : Nat} {b : Code} {Q : Exit → Act → World → Prop} : ∀ (k : Nat) {α : Tr Value} {h : H} {e : Ex} {α' : Tr Value} {h' : H} {a : Act} {φ : Phi} {w : World}, Hok h → E.G ≤ h.next → HR E φ h.blks.get w → FR φ α a n →
    evLoop self n b k α h = some (e, α', h') → (∀ b, h.next ≤ b → b < h'.next → φ b = none) → (∀ a' w', Reach E φ h w α' h' n a' w' → Q (toExit e) a' w') → Code.rounds P b Q k a w
  | 0, α, h, e, α', h', a, φ, w, _, _, _, _, hs, _, _ => by simp [evLoop] at hs
  | k + 1, α, h, e, α', h', a, φ, w, ok, hG, hr, hF, hs, hf, hQ => by
    simp only [evLoop] at hs
    rw [rounds_succ]
    split at hs
    · rename_i α1 h1 hb
      have a1 := hself.ae _ _ _ _ _ _ _ ok hG hb
      have hG1 := Nat.le_trans hG a1.next
      have a2 := evLoop_ae hself k a1.ok hG1 hs
      have hf1 : ∀ b, h.next ≤ b → b < h1.next → φ b = none := fun b h3 h4 => hf b h3 (Nat.lt_of_lt_of_le h4 a2.next)
      refine hself.run _ _ _ _ _ _ _ hb a φ w ok hG hr hF hf1 _ fun a' w' hreach => ?_
      obtain ⟨φ1, g1, g2, g3⟩ := hreach
      exact evLoop_sound hself k a1.ok hG1 g2 g1 hs (fresh_next g3 a1.next hf) fun a2' w2 hr2 => hQ _ _ (Reach.after hf1 g3 a1 a2 hr2)
    · rename_i hne
      refine hself.run _ _ _ _ _ _ _ hs a φ w ok hG hr hF hf _ fun a' w' hreach => ?_
      have := hQ a' w' hreach
      cases e with
      | normal => exact (hne _ _ hs).elim
      | exit id => exact this
      | ret => exact this

theorem evStep_ok (hE : EnvOK P E) {self : Self} (hself : SelfOK P E self) : SelfOK P E (evStep P E self) := by
  have hc := callWith_ok hE hself
  constructor
  · intro n c α h e α' h' ok hG hs
    unfold evStep at hs
    split at hs
    · simp only [Option.some.injEq, Prod.mk.injEq] at hs; obtain ⟨_, _, rfl⟩ := hs; exact AE.refl ok
    · simp only [Option.some.injEq, Prod.mk.injEq] at hs; obtain ⟨_, _, rfl⟩ := hs; exact AE.refl ok
    · split at hs
      · rename_i hr
        simp only [Option.some.injEq, Prod.mk.injEq] at hs; obtain ⟨_, _, rfl⟩ := hs
        exact evRegion_ae hc ok hG hr
      · cases hs
    · split at hs
      · rename_i h1
        have a1 := hself.ae _ _ _ _ _ _ _ ok hG h1
        exact a1.trans (hself.ae _ _ _ _ _ _ _ a1.ok (Nat.le_trans hG a1.next) hs)
      · exact hself.ae _ _ _ _ _ _ _ ok hG hs
    · split at hs
      · exact hself.ae _ _ _ _ _ _ _ ok hG hs
      · exact hself.ae _ _ _ _ _ _ _ ok hG hs
      · cases hs
    · split at hs
      · rename_i h1
        split at hs
        · simp only [Option.some.injEq, Prod.mk.injEq] at hs; obtain ⟨_, _, rfl⟩ := hs; exact hself.ae _ _ _ _ _ _ _ ok hG h1
        · simp only [Option.some.injEq, Prod.mk.injEq] at hs; obtain ⟨_, _, rfl⟩ := hs; exact hself.ae _ _ _ _ _ _ _ ok hG h1
      · exact hself.ae _ _ _ _ _ _ _ ok hG hs
    · exact evLoop_ae hself _ ok hG hs
    · simp only [Option.some.injEq, Prod.mk.injEq] at hs; obtain ⟨_, _, rfl⟩ := hs; exact AE.refl ok
    · simp only [Option.some.injEq, Prod.mk.injEq] at hs; obtain ⟨_, _, rfl⟩ := hs; exact AE.refl ok
    · cases hs
  · intro n c α h e α' h' hs a φ w ok hG hr hF hf Q hQ
    have here : ∀ {a' : Act}, FR φ α a' n → Reach E φ h w α h n a' w := fun hF' => ⟨φ, hF', hr, Ext.refl _ _ _ _⟩
    unfold evStep at hs
    split at hs
    · simp only [Option.some.injEq, Prod.mk.injEq] at hs; obtain ⟨rfl, rfl, rfl⟩ := hs; exact wp_skip (hQ _ _ (here hF))
    · simp only [Option.some.injEq, Prod.mk.injEq] at hs; obtain ⟨rfl, rfl, rfl⟩ := hs; exact wp_label (hQ _ _ (here hF))
    · split at hs
      · rename_i hreg
        simp only [Option.some.injEq, Prod.mk.injEq] at hs; obtain ⟨rfl, rfl, rfl⟩ := hs
        exact evRegion_sound hE hc ok hG hr hF hreg hf hQ
      · cases hs
    · rename_i x y
      split at hs
      · rename_i α1 h1 h2
        have a1 := hself.ae _ _ _ _ _ _ _ ok hG h2
        have hG1 := Nat.le_trans hG a1.next
        have a2 := hself.ae _ _ _ _ _ _ _ a1.ok hG1 hs
        have hf1 : ∀ b, h.next ≤ b → b < h1.next → φ b = none := fun b h3 h4 => hf b h3 (Nat.lt_of_lt_of_le h4 a2.next)
        refine wp_seq (hself.run _ _ _ _ _ _ _ h2 a φ w ok hG hr hF hf1 _ fun a' w' hreach => ?_)
        obtain ⟨φ1, g1, g2, g3⟩ := hreach
        exact hself.run _ _ _ _ _ _ _ hs a' φ1 w' a1.ok hG1 g2 g1 (fresh_next g3 a1.next hf) _ fun a2' w2 hr2 => hQ _ _ (Reach.after hf1 g3 a1 a2 hr2)
      · rename_i hne
        refine wp_seq (hself.run _ _ _ _ _ _ _ hs a φ w ok hG hr hF hf _ fun a' w' hreach => ?_)
        have := hQ a' w' hreach
        cases e with
        | normal => exact (hne _ _ hs).elim
        | exit id => exact this
        | ret => exact this
    · rename_i c x y
      split at hs
      · rename_i hcv
        exact wp_cond_true ((ev_sound hr hF hcv).plain rfl) (hself.run _ _ _ _ _ _ _ hs a φ w ok hG hr hF hf _ hQ)
      · rename_i hcv
        exact wp_cond_false ((ev_sound hr hF hcv).plain rfl) (hself.run _ _ _ _ _ _ _ hs a φ w ok hG hr hF hf _ hQ)
      · cases hs
    · rename_i id b
      split at hs
      · rename_i id' α1 h1 h2
        split at hs
        · rename_i hid
          simp only [Option.some.injEq, Prod.mk.injEq] at hs; obtain ⟨rfl, rfl, rfl⟩ := hs
          refine wp_block (hself.run _ _ _ _ _ _ _ h2 a φ w ok hG hr hF hf _ fun a' w' hreach => ?_)
          have := hQ a' w' hreach
          show Exit.inBlock id Q (.exit id') a' w'
          simp only [Exit.inBlock, hid, if_true]
          exact this
        · rename_i hid
          simp only [Option.some.injEq, Prod.mk.injEq] at hs; obtain ⟨rfl, rfl, rfl⟩ := hs
          refine wp_block (hself.run _ _ _ _ _ _ _ h2 a φ w ok hG hr hF hf _ fun a' w' hreach => ?_)
          have := hQ a' w' hreach
          show Exit.inBlock id Q (.exit id') a' w'
          simp only [Exit.inBlock, hid, if_false]
          exact this
      · rename_i hne
        refine wp_block (hself.run _ _ _ _ _ _ _ hs a φ w ok hG hr hF hf _ fun a' w' hreach => ?_)
        have := hQ a' w' hreach
        cases e with
        | normal => exact this
        | exit id' => exact (hne _ _ _ hs).elim
        | ret => exact this
    · exact wp_loop_rounds 4611686018427387904 (evLoop_sound hself _ ok hG hr hF hs hf hQ)
    · simp only [Option.some.injEq, Prod.mk.injEq] at hs; obtain ⟨rfl, rfl, rfl⟩ := hs; exact wp_exit (hQ _ _ (here hF))
    · simp only [Option.some.injEq, Prod.mk.injEq] at hs; obtain ⟨rfl, rfl, rfl⟩ := hs; exact wp_ret (hQ _ _ (here hF))
    · cases hs

theorem run_ok (hE : EnvOK P E) : ∀ f, SelfOK P E (run P E f) := by
  intro f
  induction f with
  | zero =>
    constructor
    · intro n c α h e α' h' _ _ hs; cases hs
    · intro n c α h e α' h' hs; cases hs
  | succ f ih => exact evStep_ok hE ih
end Go.Proofs.YtlajheeleneigaaDoor.Ev
