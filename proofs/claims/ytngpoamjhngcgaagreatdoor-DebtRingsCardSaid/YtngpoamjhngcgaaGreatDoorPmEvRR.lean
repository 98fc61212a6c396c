/- One operation, whatever it is. -/
import Derived.Test.YtngpoamjhngcgaaGreatDoorPmEvO
import Derived.Laws.BitsAllLaws
import Derived.Laws.Bits64
namespace Go.Proofs.YtngpoamjhngcgaaGreatDoor.Ev
open Go
variable {P : Program} {E : Env} {φ : Phi} {w : World}

structure FR (φ : Phi) (α : Tr Value) (a : Act) (n : Nat) : Prop where
  size : a.tmps.size = n
  vals : ∀ t, VR φ ((α.get t).getD undef) (a.tmps.getD t undef)
  defers : a.defers = []

theorem FR.mono {φ' : Phi} (hl : ∀ b x, φ b = some x → φ' b = some x) {α : Tr Value} {a : Act} {n : Nat} (h : FR φ α a n) : FR φ' α a n := ⟨h.size, fun t => (h.vals t).mono hl, h.defers⟩

theorem put_spec {n : Nat} {α α' : Tr Value} {d : Tmp} {v : Value} (hp : put n α (some d) v = some α') : d < n ∧ α' = Tr.put α d v := by
  simp only [Ev.put] at hp
  cases h1 : Nat.ble (d + 1) n with
  | false => rw [h1] at hp; cases hp
  | true =>
    rw [h1] at hp
    simp only at hp
    simp only [Tr.force_eq, Option.some.injEq] at hp
    exact ⟨Nat.le_of_ble_eq_true h1, hp.symm⟩

theorem evTmp_eq (α : Tr Value) (t : Tmp) : evTmp α t = some ((α.get t).getD undef) := by
  unfold evTmp
  cases α.get t <;> rfl

theorem FR.put {α α' : Tr Value} {a : Act} {n : Nat} (hF : FR φ α a n) {dst : Option Tmp} {v v' : Value} (hp : put n α dst v = some α') (hv : VR φ v v') : FR φ α' (a.put dst v') n := by
  cases dst with
  | none => simp only [Ev.put, Option.some.injEq] at hp; subst hp; exact hF
  | some d =>
    obtain ⟨hc1, rfl⟩ := put_spec hp
    refine ⟨by simp [Act.put, hF.size], fun t => ?_, hF.defers⟩
    rw [Tr.get_put]
    by_cases ht : t = d
    · subst ht
      have hlt : t < a.tmps.size := by rw [hF.size]; exact hc1
      simpa [Act.put, hlt] using hv
    · have := hF.vals t
      rw [if_neg ht]
      have e : (a.put (some d) v').tmps.getD t undef = a.tmps.getD t undef := by
        simp only [Act.put, Array.getD_eq_getD_getElem?]
        rw [Array.getElem?_setIfInBounds_ne (Ne.symm ht)]
      rw [e]; exact this

theorem ev_sound {h : H} (hr : HR E φ h.blks.get w) {α : Tr Value} {a : Act} {n : Nat} (hF : FR φ α a n) {x : Operand} {v : Value} (hs : ev E h α x = some v) : VR φ v (a.eval x) := by
  unfold ev at hs
  split at hs
  · rw [evTmp_eq, Option.some.injEq] at hs; subst hs; exact hF.vals _
  · split at hs
    · rename_i hc; simp only [Option.some.injEq] at hs; subst hs; exact VR.const hc
    · cases hs
  · rename_i g
    split at hs
    · rename_i hc
      simp only [Option.some.injEq] at hs; subst hs
      simp only [Bool.and_eq_true, decide_eq_true_eq] at hc
      have hl := hc.1.1
      unfold liveC at hl
      split at hl
      · rename_i cells size es hb
        obtain ⟨es', top, h1⟩ := hr.glob g cells size es hc.1.2 hc.2 hb
        have := VR.ptr (φ := φ) (off := 0) h1
        simpa [Act.eval] using this
      · cases hl
    · cases hs
  · simp only [Option.some.injEq] at hs; subst hs
    exact .func _ rfl rfl (fun i h => by simp at h) (fun i h => by simp at h)

theorem evs_sound {h : H} (hr : HR E φ h.blks.get w) {α : Tr Value} {a : Act} {n : Nat} (hF : FR φ α a n) : ∀ {xs : List Operand} {vs : List Value}, evs E h α xs = some vs → VRs φ vs (xs.map a.eval)
  | [], vs, hs => by simp only [evs, Option.some.injEq] at hs; subst hs; exact .nil
  | x :: r, vs, hs => by
    simp only [evs] at hs
    split at hs
    · cases hs
    · rename_i v hv
      split at hs
      · cases hs
      · rename_i us hus
        simp only [Option.some.injEq] at hs; subst hs
        exact .cons (ev_sound hr hF hv) (evs_sound hr hF hus)

theorem evParts_sound {h : H} (hr : HR E φ h.blks.get w) {α : Tr Value} {a : Act} {n : Nat} (hF : FR φ α a n) : ∀ {xs : List (Nat × Operand)} {vs : List (Nat × Value)}, evParts E h α xs = some vs → PV φ vs (xs.map fun x => (x.1, a.eval x.2))
  | [], vs, hs => by simp only [evParts, Option.some.injEq] at hs; subst hs; exact .nil
  | (i, x) :: r, vs, hs => by
    simp only [evParts] at hs
    split at hs
    · cases hs
    · rename_i v hv
      split at hs
      · cases hs
      · rename_i us hus
        simp only [Option.some.injEq] at hs; subst hs
        exact .cons (ev_sound hr hF hv) (evParts_sound hr hF hus)

structure CallOK (P : Program) (E : Env) (call : Callf) : Prop where
  ae : ∀ f args h v h', Hok h → E.G ≤ h.next → call f args h = some (v, h') → AE E h h'
  run : ∀ f args h v h', call f args h = some (v, h') → ∀ φ w args', Hok h → E.G ≤ h.next → HR E φ h.blks.get w → VRs φ args args' → (∀ b, h.next ≤ b → b < h'.next → φ b = none) →
    ((∃ fn, P.funcs[f]? = some fn ∧ fn.body.isSome = true ∧ fn.name ≠ "runtime.NumGoroutine") ∧ Calls P f args'.toArray w fun e w' => ∃ v', e = .returned v' ∧ Good E φ h w v h' v' w') ∨
      ((∃ fn, P.funcs[f]? = some fn ∧ fn.body = none) ∧ ∃ v' w', (callFunc f args'.toArray).run P w = .ok (.value v') w' ∧ Good E φ h w v h' v' w')

theorem asV_some {h h' : H} {x : Option Value} {v : Value} (hs : asV h x = some (v, h')) : x = some v ∧ h' = h := by
  unfold asV at hs
  split at hs
  · simp only [Option.some.injEq, Prod.mk.injEq] at hs; exact ⟨by rw [hs.1], hs.2.symm⟩
  · cases hs

theorem newVal_ae {h h' : H} (ok : Hok h) (hG : E.G ≤ h.next) {cells : List Value} {es : Nat} {v : Value} (hs : newVal h cells es = some (v, h')) : AE E h h' ∧ h'.next = h.next + 1 := by
  unfold newVal at hs
  split at hs
  · rename_i b h1 hb
    simp only [Option.some.injEq, Prod.mk.injEq] at hs
    obtain ⟨_, rfl⟩ := hs
    exact ⟨aNew_ae ok hG hb, by rw [(aNew_some hb).2]⟩
  · cases hs

theorem valOp {o : Oper} {a : Act} {K : Act → World → Prop} {Q : Exit → Act → World → Prop} {v' : Value} {w' : World} (hrun : (execOp a.eval o).run P w = .ok (.value v') w') (hK : K (a.put o.dst v') w') : o.wp P a w K Q := by
  unfold Oper.wp; rw [hrun]; exact hK
theorem skipOp {o : Oper} {a : Act} {K : Act → World → Prop} {Q : Exit → Act → World → Prop} {w' : World} (hrun : (execOp a.eval o).run P w = .ok .skip w') (hK : K (a.put o.dst undef) w') : o.wp P a w K Q := by
  unfold Oper.wp; rw [hrun]; exact hK

theorem Good.same {h : H} (hr : HR E φ h.blks.get w) {v v' : Value} (hv : VR φ v v') : Good E φ h w v h v' w := ⟨φ, hv, hr, Ext.refl _ _ _ _⟩

theorem plainOp_some {ρ : Operand → Value} {o : Oper} {v : Value} (hs : plainOp P ρ o = some v) : plain v = true ∧ ∀ w : World, (execOp ρ o).run P w = .ok (.value v) w := by
  unfold plainOp at hs
  split at hs
  · rename_i u hu
    split at hs
    · rename_i hp
      rw [forceV_eq, Option.some.injEq] at hs
      subst hs
      exact ⟨hp, fun w => plainRun_sound _ _ hu⟩
    · cases hs
  · cases hs

theorem VR.of_plain {v : Value} (hp : Ev.plain v = true) : VR φ v v := by
  cases v <;> first | (simp [Ev.plain] at hp; done) | constructor

theorem wrap_i8 (n : Int) (h1 : -128 ≤ n) (h2 : n < 128) : IntKind.i8.wrap n = n := by
  simp [IntKind.wrap, IntKind.bits, IntKind.signed]; omega
theorem wrap_i16 (n : Int) (h1 : -32768 ≤ n) (h2 : n < 32768) : IntKind.i16.wrap n = n := by
  simp [IntKind.wrap, IntKind.bits, IntKind.signed]; omega
theorem inK_wrap (k : IntKind) (n : Int) (h : inK k n = true) : k.wrap n = n := by
  have hr : -(lowOf k : Int) ≤ n ∧ n < (topOf k : Int) := by
    cases n with
    | ofNat m =>
      have h1 := Nat.le_of_ble_eq_true h
      simp only [Int.ofNat_eq_natCast]
      constructor <;> omega
    | negSucc m =>
      have h1 := Nat.le_of_ble_eq_true h
      constructor <;> omega
  obtain ⟨h1, h2⟩ := hr
  cases k <;> simp only [lowOf, topOf] at h1 h2
  · exact wrap_i8 n (by omega) (by omega)
  · exact wrap_i16 n (by omega) (by omega)
  · rw [IntKind.wrap_i32]; omega
  · rw [IntKind.wrap_i64]; omega
  · rw [IntKind.wrap_u8]; omega
  · rw [IntKind.wrap_u16]; omega
  · rw [IntKind.wrap_u32]; omega
  · rw [IntKind.wrap_u64]; omega
theorem wrapF_eq (k : IntKind) (n : Int) : wrapF k n = k.wrap n := by
  unfold wrapF
  cases h : inK k n with
  | false => rfl
  | true => exact (inK_wrap k n h).symm

theorem ltF_eq (a b : Int) : ltF a b = decide (a < b) := by
  cases a with
  | ofNat m => cases b with
    | ofNat n =>
      simp only [ltF]; rw [Bool.eq_iff_iff]; simp only [Nat.ble_eq, decide_eq_true_eq, Int.ofNat_eq_natCast]; omega
    | negSucc n =>
      simp only [ltF]; symm; rw [decide_eq_false_iff_not]; simp only [Int.ofNat_eq_natCast]; omega
  | negSucc m => cases b with
    | ofNat n => simp only [ltF]; symm; rw [decide_eq_true_eq]; simp only [Int.ofNat_eq_natCast]; omega
    | negSucc n => simp only [ltF]; rw [Bool.eq_iff_iff]; simp only [Nat.ble_eq, decide_eq_true_eq]; omega
theorem eqF_eq (a b : Int) : eqF a b = (a == b) := by
  rw [Bool.eq_iff_iff, beq_iff_eq]
  cases a with
  | ofNat m => cases b with
    | ofNat n => simp only [eqF, Nat.beq_eq, Int.ofNat_eq_natCast]; omega
    | negSucc n => simp only [eqF, Int.ofNat_eq_natCast]; exact ⟨(fun h => by cases h), (fun h => by omega)⟩
  | negSucc m => cases b with
    | ofNat n => simp only [eqF, Int.ofNat_eq_natCast]; exact ⟨(fun h => by cases h), (fun h => by omega)⟩
    | negSucc n => simp only [eqF, Nat.beq_eq]; omega

theorem fastInt_run {op : BinOp} {k : IntKind} {a b : Int} {r : Value} (h : fastInt op k a b = some r) (t : TypeId) (ox oy : Operand) (w : World) :
    Ev.plain r = true ∧ ((do eqGuard op t ox oy (.int k a) (.int k b); binOp op t (.int k a) (.int k b)) : Sem Value).run P w = .ok r w := by
  unfold fastInt at h
  split at h <;> simp only [mkI, mkB, forceI_eq, forceB_eq, Option.some.injEq, reduceCtorEq] at h
  all_goals (subst h; refine ⟨rfl, ?_⟩)
  all_goals simp [eqGuard, binOp, Op.intArith, Op.intCmp, wrapF_eq, ltF_eq, eqF_eq]
  all_goals first
    | rfl
    | (by_cases hab : b < a <;> simp [hab] <;> omega)
    | (by_cases hab : a < b <;> simp [hab] <;> omega)

theorem fastBin_run {op : BinOp} {v u r : Value} (h : fastBin op v u = some r) (t : TypeId) (ox oy : Operand) (w : World) :
    Ev.plain r = true ∧ ((do eqGuard op t ox oy v u; binOp op t v u) : Sem Value).run P w = .ok r w := by
  unfold fastBin at h
  split at h
  · rename_i k a k' b
    cases hk : Nat.beq (kNum k) (kNum k') with
    | false => rw [hk] at h; cases h
    | true =>
      rw [hk] at h
      have : k = k' := by
        have h1 := Nat.eq_of_beq_eq_true hk
        cases k <;> cases k' <;> first | rfl | (simp [kNum] at h1)
      subst this
      exact fastInt_run h t ox oy w
  · cases h

theorem binPlain_some {op : BinOp} {v u r : Value} {ρ : Operand → Value} {o : Oper} {t yt : TypeId} {x y : Operand} (ho : o.op = .binOp op t x y yt) (hx : ρ x = v) (hy : ρ y = u) (hs : binPlain P op v u ρ o = some r) :
    Ev.plain r = true ∧ ∀ w : World, (execOp ρ o).run P w = .ok (.value r) w := by
  unfold binPlain at hs
  split at hs
  · rename_i r' hf
    injection hs with hs
    subst hs
    refine ⟨(fastBin_run (P := P) hf t x y default).1, fun w => ?_⟩
    have := (fastBin_run (P := P) hf t x y w).2
    simp only [execOp, ho, hx, hy]
    rw [Sem.run_bind, this]; rfl
  · exact plainOp_some hs

theorem convPlain_some (hE : EnvOK P E) {s d : TypeId} {v r : Value} {ρ : Operand → Value} {o : Oper} {x : Operand} (ho : o.op = .convert s d x) (hx : ρ x = v) (hs : convPlain P E s d v ρ o = some r) :
    Ev.plain r = true ∧ ∀ w : World, (execOp ρ o).run P w = .ok (.value r) w := by
  unfold convPlain at hs
  split at hs
  · rename_i r' hf
    injection hs with hs
    subst hs
    unfold fastConv at hf
    split at hf
    · rename_i k n
      split at hf
      · rename_i ds k' h1 h2
        simp only [mkI, forceI_eq, Option.some.injEq] at hf
        subst hf
        refine ⟨rfl, fun w => ?_⟩
        have : (convert s d (.int k n)).run P w = .ok (.int k' (wrapF k' n)) w := by
          simp only [convert, Sem.run_bind, und_run hE h1, und_run hE h2, Result.andThen_ok, Conv.intToInt, wrapF_eq]
          rfl
        simp only [execOp, ho, hx]
        rw [Sem.run_bind, this]; rfl
      · cases hf
    · cases hf
  · exact plainOp_some hs
end Go.Proofs.YtngpoamjhngcgaaGreatDoor.Ev

/- One operation: its effect on the evaluator's heap, and its soundness. -/
namespace Go.Proofs.YtngpoamjhngcgaaGreatDoor.Ev
open Go
variable {P : Program} {E : Env} {φ : Phi} {w : World}

theorem evMakeSlice_ae {h h' : H} (ok : Hok h) (hG : E.G ≤ h.next) {t : TypeId} {l c v : Value} (hs : evMakeSlice E h t l c = some (v, h')) : AE E h h' ∧ h'.next = h.next + 1 := by
  unfold evMakeSlice at hs
  repeat' split at hs
  all_goals first
    | (cases hs; done)
    | (rename_i b h1 hb
       simp only [Option.some.injEq, Prod.mk.injEq] at hs
       obtain ⟨_, rfl⟩ := hs
       exact ⟨aNew_ae ok hG hb, by rw [(aNew_some hb).2]⟩)

theorem evBuildSlice_ae {h h' : H} (ok : Hok h) (hG : E.G ≤ h.next) {t : TypeId} {n : Nat} {ps : List (Nat × Value)} {v : Value} (hs : evBuildSlice E h t n ps = some (v, h')) : AE E h h' := by
  unfold evBuildSlice at hs
  repeat' split at hs
  all_goals first
    | (cases hs; done)
    | (rename_i b h1 hb
       simp only [Option.some.injEq, Prod.mk.injEq] at hs
       obtain ⟨_, rfl⟩ := hs
       exact aNew_ae ok hG hb)
    | (simp only [Option.some.injEq, Prod.mk.injEq] at hs
       obtain ⟨_, rfl⟩ := hs
       exact AE.refl ok)

theorem evAppend_ae {h h' : H} (ok : Hok h) (hG : E.G ≤ h.next) {ts tx : TypeId} {s x v : Value} (hs : evAppend E h ts tx s x = some (v, h')) : AE E h h' := by
  unfold evAppend at hs
  simp only [forceN_eq] at hs
  repeat' split at hs
  all_goals first
    | (cases hs; done)
    | (simp only [Option.some.injEq, Prod.mk.injEq] at hs
       obtain ⟨_, rfl⟩ := hs
       first
         | exact AE.refl ok
         | exact aNew_ae ok hG (by assumption)
         | exact wr_ae ok (by assumption)
         | exact evGrow_ae ok hG (by assumption))

theorem evCopy_ae {h h' : H} (ok : Hok h) {t : TypeId} {d x v : Value} (hs : evCopy E h t d x = some (v, h')) : AE E h h' := by
  unfold evCopy at hs
  simp only [forceN_eq] at hs
  repeat' split at hs
  all_goals first
    | (cases hs; done)
    | (simp only [Option.some.injEq, Prod.mk.injEq] at hs
       obtain ⟨_, rfl⟩ := hs
       first
         | exact AE.refl ok
         | exact wr_ae ok (by assumption))

theorem evClear_ae {h h' : H} (ok : Hok h) {t : TypeId} {x v : Value} (hs : evClear E h t x = some (v, h')) : AE E h h' := by
  unfold evClear at hs
  repeat' split at hs
  all_goals first
    | (cases hs; done)
    | (simp only [Option.some.injEq, Prod.mk.injEq] at hs
       obtain ⟨_, rfl⟩ := hs
       first
         | exact AE.refl ok
         | exact wr_ae ok (by assumption))

theorem evStore_ae {h h' : H} (ok : Hok h) {t : TypeId} {x v : Value} (hs : evStore E h t x v = some h') : AE E h h' := by
  unfold evStore at hs
  repeat' split at hs
  all_goals first
    | (cases hs; done)
    | exact wr_ae ok hs

theorem evBuiltin_ae {h h' : H} (ok : Hok h) (hG : E.G ≤ h.next) {b : Builtin} {ts : Array TypeId} {vs : List Value} {v : Value} (hs : evBuiltin P E h b ts vs = some (v, h')) : AE E h h' := by
  unfold evBuiltin at hs
  split at hs
  · split at hs
    · simp only [Option.some.injEq, Prod.mk.injEq] at hs
      obtain ⟨_, rfl⟩ := hs
      exact AE.refl ok
    · split at hs
      · simp only [Option.some.injEq, Prod.mk.injEq] at hs
        obtain ⟨_, rfl⟩ := hs
        exact AE.refl ok
      · cases hs
  · exact evAppend_ae ok hG hs
  · exact evCopy_ae ok hs
  · exact evClear_ae ok hs
  · split at hs
    · rename_i h1 hd
      simp only [Option.some.injEq, Prod.mk.injEq] at hs
      obtain ⟨_, rfl⟩ := hs
      exact evDelete_ae ok hd
    · cases hs
  · cases hs

theorem evOp_ae {call : Callf} (hc : CallOK P E call) {h h' : H} (ok : Hok h) (hG : E.G ≤ h.next) {α : Tr Value} {o : Oper} {v : Value} (hs : evOp P E call h α o = some (v, h')) : AE E h h' := by
  have same : ∀ {x : Option Value}, asV h x = some (v, h') → AE E h h' := fun hx => by rw [(asV_some hx).2]; exact AE.refl ok
  rw [evOp_eq] at hs
  unfold evOpS at hs
  repeat' split at hs
  all_goals first
    | (cases hs; done)
    | exact same hs
    | exact (newVal_ae ok hG hs).1
    | exact evBuildSlice_ae ok hG hs
    | exact (mpNew_ae ok hG hs).1
    | exact (evStrBytes_ae ok hG hs).1
    | exact (evMakeSlice_ae ok hG hs).1
    | exact evBuiltin_ae ok hG hs
    | exact hc.ae _ _ _ _ _ ok hG hs
    | (simp only [Option.some.injEq, Prod.mk.injEq] at hs
       obtain ⟨_, rfl⟩ := hs
       first
         | exact AE.refl ok
         | exact evStore_ae ok (by assumption)
         | exact evMapSet_ae ok (by assumption))
end Go.Proofs.YtngpoamjhngcgaaGreatDoor.Ev

/- One operation: soundness. -/
namespace Go.Proofs.YtngpoamjhngcgaaGreatDoor.Ev
open Go
variable {P : Program} {E : Env} {φ : Phi} {w : World}

theorem callFunc_run {f : FuncId} {args : Array Value} {fn : Func} (hf : P.funcs[f]? = some fn) (hb : fn.body.isSome = true) (hn : fn.name ≠ "runtime.NumGoroutine") : (callFunc f args).run P w = .ok (.enter f args) w := by
  have h2 : fn.body ≠ none := by intro hx; rw [hx] at hb; cases hb
  simp [callFunc, program, Sem.run, hf, hn, h2]

theorem builtin_sound (hE : EnvOK P E) {h h' : H} (ok : Hok h) (hG : E.G ≤ h.next) (hr : HR E φ h.blks.get w) (hf0 : h.next < h'.next → φ h.next = none) {b : Builtin} {ts : Array TypeId} {vs vs' : List Value} {v : Value}
    (hs : evBuiltin P E h b ts vs = some (v, h')) (hv : VRs φ vs vs') (ty : TypeId) (consts : Array Bool) : ∃ v' w', (builtin b ts ty consts vs'.toArray).run P w = .ok (.value v') w' ∧ Good E φ h w v h' v' w' := by
  unfold evBuiltin at hs
  split at hs
  · rename_i t x hts
    have hts' : ts = #[t] := by rw [← Array.toList_inj]; simpa using hts
    subst hts'
    split at hs
    · rename_i u hu
      simp only [Option.some.injEq, Prod.mk.injEq] at hs
      obtain ⟨rfl, rfl⟩ := hs
      cases hv with
      | cons h1 h2 =>
        cases h2
        obtain ⟨hrun, hvr⟩ := evLen_sound (P := P) (w := w) hE hu h1 ty
        exact ⟨_, w, by simp [builtin, hrun], Good.same hr hvr⟩
    · split at hs
      · rename_i u hu
        simp only [Option.some.injEq, Prod.mk.injEq] at hs
        obtain ⟨rfl, rfl⟩ := hs
        cases hv with
        | cons h1 h2 =>
          cases h2
          obtain ⟨hrun, hvr⟩ := evLenM_sound (P := P) (w := w) hE hr hu h1 ty
          exact ⟨_, w, by simp [builtin, hrun], Good.same hr hvr⟩
      · cases hs
  · rename_i t u s x hts
    have hts' : ts = #[t, u] := by rw [← Array.toList_inj]; simpa using hts
    subst hts'
    cases hv with
    | cons h1 h2 =>
      cases h2 with
      | cons h2 h3 =>
        cases h3
        obtain ⟨v', w', hrun, hg⟩ := evAppend_sound (P := P) (ty := ty) hE ok hG hr hf0 hs h1 h2
        exact ⟨v', w', by simp [builtin, hrun], hg⟩
  · rename_i t u s x hts
    have hts' : ts = #[t, u] := by rw [← Array.toList_inj]; simpa using hts
    subst hts'
    cases hv with
    | cons h1 h2 =>
      cases h2 with
      | cons h2 h3 =>
        cases h3
        obtain ⟨v', w', hrun, hg⟩ := evCopy_sound (P := P) (ty := ty) (tx := u) hE hr hs h1 h2
        exact ⟨v', w', by simp [builtin, hrun], hg⟩
  · rename_i t x hts
    have hts' : ts = #[t] := by rw [← Array.toList_inj]; simpa using hts
    subst hts'
    cases hv with
    | cons h1 h2 =>
      cases h2
      obtain ⟨v', w', hrun, hg⟩ := evClear_sound (P := P) (ty := ty) hE hr hs h1
      exact ⟨v', w', by simp [builtin, hrun], hg⟩
  · rename_i t more m k hts
    have ht : ts[0]? = some t := by
      have : ts.toList[0]? = some t := by rw [hts]; rfl
      simpa using this
    split at hs
    · rename_i h1 hd
      simp only [Option.some.injEq, Prod.mk.injEq] at hs
      obtain ⟨rfl, rfl⟩ := hs
      cases hv with
      | cons h1 h2 =>
        cases h2 with
        | cons h2 h3 =>
          cases h3
          obtain ⟨w', hrun, g1, g2⟩ := evDelete_sound (P := P) hE hr ht ty hd h1 h2
          exact ⟨_, w', by simp [builtin, hrun], φ, VR.undef, g1, g2⟩
    · cases hs
  · cases hs

theorem binOp_nil (hE : EnvOK P E) {op : BinOp} {t : TypeId} {x y x' y' : Value} {ox oy : Operand} {b : Bool} (hb : evNil E t x y = some b) (hx : VR φ x x') (hy : VR φ y y') :
    (op = .eql → ((do eqGuard op t ox oy x' y'; binOp op t x' y') : Sem Value).run P w = .ok (.bool b) w) ∧ (op = .neq → ((do eqGuard op t ox oy x' y'; binOp op t x' y') : Sem Value).run P w = .ok (.bool !b) w) := by
  have he := evNil_sound (P := P) (w := w) hE hb hx hy
  unfold evNil at hb
  constructor
  · intro h; subst h
    split at hb <;> first
      | (cases hb; done)
      | (cases hx <;> cases hy <;> simp [eqGuard, binOp, he])
  · intro h; subst h
    split at hb <;> first
      | (cases hb; done)
      | (cases hx <;> cases hy <;> simp [eqGuard, binOp, he])

/-- plain operands are the same on both sides -/
theorem plain_eval {h : H} (hr : HR E φ h.blks.get w) {α : Tr Value} {a : Act} {n : Nat} (hF : FR φ α a n) {x : Operand} {v : Value} (hs : ev E h α x = some v) (hp : plain v = true) : (ev E h α x).getD undef = a.eval x := by
  rw [hs]; exact ((ev_sound hr hF hs).plain hp).symm
theorem plainA_eval {h : H} (hr : HR E φ h.blks.get w) {α : Tr Value} {a : Act} {n : Nat} (hF : FR φ α a n) {x : Operand} {v : Value} (hs : ev E h α x = some v) (hp : plainA v = true) : (ev E h α x).getD undef = a.eval x := by
  rw [hs]; exact ((ev_sound hr hF hs).plainA hp).symm

theorem plain_evs {h : H} (hr : HR E φ h.blks.get w) {α : Tr Value} {a : Act} {n : Nat} (hF : FR φ α a n) : ∀ {xs : List Operand} {vs : List Value}, evs E h α xs = some vs → vs.all plain = true → xs.map (fun z => (ev E h α z).getD undef) = xs.map a.eval
  | [], _, _, _ => rfl
  | x :: r, vs, hs, hp => by
    simp only [evs] at hs
    split at hs
    · cases hs
    · rename_i v hv
      split at hs
      · cases hs
      · rename_i us hus
        simp only [Option.some.injEq] at hs; subst hs
        simp only [List.all_cons, Bool.and_eq_true] at hp
        simp only [List.map_cons]
        rw [plain_eval hr hF hv hp.1, plain_evs hr hF hus hp.2]

theorem head_ov {h : H} (hr : HR E φ h.blks.get w) {α : Tr Value} {a : Act} {n : Nat} (hF : FR φ α a n) {x : Option Operand} {vs : List Value} (hs : evs E h α x.toList = some vs) : OV φ vs.head? (x.map a.eval) := by
  cases x with
  | none => simp only [Option.toList, evs, Option.some.injEq] at hs; subst hs; exact .none
  | some x =>
    have := evs_sound hr hF hs
    simp only [Option.toList] at this
    cases this with
    | cons h1 h2 => cases h2; exact .some h1

theorem evOp_sound (hE : EnvOK P E) {call : Callf} (hc : CallOK P E call) {h h' : H} (ok : Hok h) (hG : E.G ≤ h.next) (hr : HR E φ h.blks.get w) {α : Tr Value} {a : Act} {n : Nat} (hF : FR φ α a n) {o : Oper} {v : Value}
    (hs : evOp P E call h α o = some (v, h')) (hf : ∀ b, h.next ≤ b → b < h'.next → φ b = none) {K : Act → World → Prop} {Q : Exit → Act → World → Prop} (hK : ∀ v' w', Good E φ h w v h' v' w' → K (a.put o.dst v') w') : o.wp P a w K Q := by
  have hev := fun {x : Operand} {v : Value} (hx : ev E h α x = some v) => ev_sound hr hF hx
  have hf0 : h.next < h'.next → φ h.next = none := fun hlt => hf _ (Nat.le_refl _) hlt
  rw [evOp_eq] at hs
  unfold evOpS at hs
  split at hs
  case h_1 x ho =>
    obtain ⟨h1, rfl⟩ := asV_some hs
    exact valOp (by simp [execOp, ho]) (hK _ _ (Good.same hr (hev h1)))
  case h_2 x ho =>
    obtain ⟨h1, rfl⟩ := asV_some hs
    exact valOp (by simp [execOp, ho]) (hK _ _ (Good.same hr (hev h1)))
  case h_3 c x y ho =>
    split at hs
    · rename_i hcv
      obtain ⟨h1, rfl⟩ := asV_some hs
      have hb := (hev hcv).plain rfl
      exact valOp (by simp [execOp, ho, hb, asBool]) (hK _ _ (Good.same hr (hev h1)))
    · rename_i hcv
      obtain ⟨h1, rfl⟩ := asV_some hs
      have hb := (hev hcv).plain rfl
      exact valOp (by simp [execOp, ho, hb, asBool]) (hK _ _ (Good.same hr (hev h1)))
    · cases hs
  case h_4 t ho =>
    split at hs
    · rename_i inf hinf
      split at hs
      · rename_i z hz
        split at hs
        · rename_i hc1
          obtain ⟨_, hnx⟩ := newVal_ae ok hG hs
          obtain ⟨v', w', hrun, hg⟩ := evAlloc_sound (P := P) hE hG hr (hf0 (by omega)) hinf hz hc1 hs
          exact valOp (by simp [execOp, ho, hrun]) (hK _ _ hg)
        · cases hs
      · cases hs
    · cases hs
  case h_5 t x ho =>
    split at hs
    · rename_i u hu
      obtain ⟨_, hnx⟩ := newVal_ae ok hG hs
      obtain ⟨v', w', hrun, hg⟩ := evBox_sound (P := P) hG hr (hf0 (by omega)) t (hev hu) hs
      exact valOp (by simp [execOp, ho, hrun]) (hK _ _ hg)
    · cases hs
  case h_6 t parts ho =>
    split at hs
    · rename_i ps hps
      obtain ⟨h1, rfl⟩ := asV_some hs
      have hp := evParts_sound hr hF hps
      obtain ⟨v', hrun, hv⟩ := evBuild_sound (P := P) (w := w) hE h1 (ps' := parts.map fun x => (x.1, a.eval x.2)) (by simpa using hp)
      exact valOp (by simp [execOp, ho, hrun]) (hK _ _ (Good.same hr hv))
    · cases hs
  case h_7 t len parts ho =>
    split at hs
    · rename_i ps hps
      have hp := evParts_sound hr hF hps
      obtain ⟨v', w', hrun, hg⟩ := evBuildSlice_sound (P := P) hE hG hr hf0 (ps' := parts.map fun x => (x.1, a.eval x.2)) hs (by simpa using hp)
      exact valOp (by simp [execOp, ho, hrun]) (hK _ _ hg)
    · cases hs
  case h_8 t x ho =>
    split at hs
    · rename_i u hu
      obtain ⟨h1, rfl⟩ := asV_some hs
      obtain ⟨v', hrun, hv⟩ := evLoad_sound (P := P) hE hr h1 (hev hu)
      exact valOp (by simp [execOp, ho, hrun]) (hK _ _ (Good.same hr hv))
    · cases hs
  case h_9 t x y ho =>
    split at hs
    · rename_i u u2 hu hu2
      split at hs
      · rename_i h1 hst
        simp only [Option.some.injEq, Prod.mk.injEq] at hs
        obtain ⟨rfl, rfl⟩ := hs
        obtain ⟨w', hrun, g1, g2⟩ := evStore_sound (P := P) hE hr hst (hev hu) (hev hu2)
        exact skipOp (by simp [execOp, ho, hrun]) (hK _ _ ⟨φ, VR.undef, g1, g2⟩)
      · cases hs
    · cases hs
  case h_10 x ho =>
    split at hs
    · rename_i ad hu
      simp only [Option.some.injEq, Prod.mk.injEq] at hs
      obtain ⟨rfl, rfl⟩ := hs
      have h1 := hev hu
      generalize he : a.eval x = ex at h1
      cases h1 with
      | ptr hφ => exact valOp (by simp [execOp, ho, he]) (hK _ _ (Good.same hr (.ptr hφ)))
    · cases hs
  case h_11 op t x y yt ho =>
    split at hs
    · rename_i u u2 hu hu2
      split at hs
      · rename_i hp
        simp only [Bool.and_eq_true] at hp
        obtain ⟨h1, rfl⟩ := asV_some hs
        obtain ⟨hpl0, hrun0⟩ := binPlain_some ho (by simp only [hu]; rfl) (by simp only [hu2]; rfl) h1
        have hrun := hrun0 w
        have he : execOp (fun z => (ev E h' α z).getD undef) o = execOp a.eval o := by
          simp only [execOp, ho, plainA_eval hr hF hu hp.1, plainA_eval hr hF hu2 hp.2]
        rw [he] at hrun
        exact valOp hrun (hK _ _ (Good.same hr (VR.of_plain hpl0)))
      · split at hs
        · rename_i b hnil
          simp only [Option.some.injEq, Prod.mk.injEq] at hs
          obtain ⟨rfl, rfl⟩ := hs
          have hrun := (binOp_nil (P := P) (w := w) (op := .eql) (ox := x) (oy := y) hE hnil (hev hu) (hev hu2)).1 rfl
          exact valOp (by simp only [execOp, ho]; rw [Sem.run_bind, hrun]; rfl) (hK _ _ (Good.same hr (.bool _)))
        · rename_i b hnil
          simp only [Option.some.injEq, Prod.mk.injEq] at hs
          obtain ⟨rfl, rfl⟩ := hs
          have hrun := (binOp_nil (P := P) (w := w) (op := .neq) (ox := x) (oy := y) hE hnil (hev hu) (hev hu2)).2 rfl
          exact valOp (by simp only [execOp, ho]; rw [Sem.run_bind, hrun]; rfl) (hK _ _ (Good.same hr (.bool _)))
        · cases hs
    · cases hs
  case h_12 op t x ho =>
    split at hs
    · rename_i u hu
      split at hs
      · rename_i hp
        obtain ⟨h1, rfl⟩ := asV_some hs
        obtain ⟨hpl0, hrun0⟩ := plainOp_some h1
        have hrun := hrun0 w
        have he : execOp (fun z => (ev E h' α z).getD undef) o = execOp a.eval o := by
          simp only [execOp, ho, plain_eval hr hF hu hp]
        rw [he] at hrun
        exact valOp hrun (hK _ _ (Good.same hr (VR.of_plain hpl0)))
      · cases hs
    · cases hs
  case h_13 t t2 x ho =>
    split at hs
    · rename_i u hu
      split at hs
      · rename_i hp
        split at hs
        · rename_i r h1
          simp only [Option.some.injEq, Prod.mk.injEq] at hs
          obtain ⟨rfl, rfl⟩ := hs
          obtain ⟨hpl0, hrun0⟩ := convPlain_some hE ho (by simp only [hu]; rfl) h1
          have hrun := hrun0 w
          have he : execOp (fun z => (ev E h α z).getD undef) o = execOp a.eval o := by
            simp only [execOp, ho, plain_eval hr hF hu hp]
          rw [he] at hrun
          exact valOp hrun (hK _ _ (Good.same hr (VR.of_plain hpl0)))
        · split at hs
          · rename_i ht
            obtain ⟨_, hnx⟩ := evStrBytes_ae ok hG hs
            obtain ⟨v', w', hrun, hg⟩ := evStrBytes_sound (P := P) hE hG hr (hf0 (by omega)) ht hs
            have e := (hev hu).plain hp
            exact valOp (by simp [execOp, ho, e, hrun]) (hK _ _ hg)
          · cases hs
      · obtain ⟨h1, rfl⟩ := asV_some hs
        obtain ⟨hrun, hp⟩ := evBytes_sound (P := P) hE hr h1 (hev hu)
        exact valOp (by simp [execOp, ho, hrun]) (hK _ _ (Good.same hr (VR.of_plain hp)))
    · cases hs
  case h_14 fn first captured ho =>
    split at hs
    · rename_i f c hf1 hc1
      simp only [Option.some.injEq, Prod.mk.injEq] at hs
      obtain ⟨rfl, rfl⟩ := hs
      have g1 := (evs_sound hr hF hf1).arr
      have g2 := (evs_sound hr hF hc1).arr
      have hv : VR φ (.func fn f.toArray c.toArray) (.func fn ((first.toList.map a.eval).toArray) ((captured.toList.map a.eval).toArray)) := .func fn g1.1 g2.1 g1.2 g2.2
      exact valOp (v' := .func fn ((first.toList.map a.eval).toArray) ((captured.toList.map a.eval).toArray)) (by
      have e1 : first.map a.eval = (first.toList.map a.eval).toArray := by rw [← Array.toList_inj]; simp
      have e2 : captured.map a.eval = (captured.toList.map a.eval).toArray := by rw [← Array.toList_inj]; simp
      simp only [execOp, ho, Instr.makeFunc, e1, e2]; rfl) (hK _ _ (Good.same hr hv))
    · cases hs
  case h_15 t l c ho =>
    split at hs
    · rename_i l1 c1 hl1 hc1
      obtain ⟨_, hnx⟩ := evMakeSlice_ae ok hG hs
      obtain ⟨v', w', hrun, hg⟩ := evMakeSlice_sound (P := P) hE hG hr (hf0 (by omega)) hs (hev hl1) (hev hc1)
      exact valOp (by simp [execOp, ho, hrun]) (hK _ _ hg)
    · cases hs
  case h_16 t ho =>
    obtain ⟨_, hnx⟩ := mpNew_ae (E := E) ok hG hs
    obtain ⟨v', w', hrun, hg⟩ := mpNew_sound (P := P) hr (hf0 (by omega)) hG t hs
    exact valOp (by simp [execOp, ho, hrun]) (hK _ _ hg)
  case h_17 t m k okb ho =>
    split at hs
    · rename_i m1 k1 hm1 hk1
      obtain ⟨h1, rfl⟩ := asV_some hs
      obtain ⟨v', hrun, hv⟩ := evLookup_sound (P := P) hE hr h1 (hev hm1) (hev hk1)
      exact valOp (by simp [execOp, ho, hrun]) (hK _ _ (Good.same hr hv))
    · cases hs
  case h_18 t m k x ho =>
    split at hs
    · rename_i m1 k1 x1 hm1 hk1 hx1
      split at hs
      · rename_i h1 hst
        simp only [Option.some.injEq, Prod.mk.injEq] at hs
        obtain ⟨rfl, rfl⟩ := hs
        obtain ⟨w', hrun, g1, g2⟩ := evMapSet_sound (P := P) hE hr hst (hev hm1) (hev hk1) (hev hx1)
        exact skipOp (by simp [execOp, ho, hrun]) (hK _ _ ⟨φ, VR.undef, g1, g2⟩)
      · cases hs
    · cases hs
  case h_19 t m k x ho =>
    split at hs
    · rename_i m1 k1 x1 hm1 hk1 hx1
      split at hs
      · rename_i h1 hst
        simp only [Option.some.injEq, Prod.mk.injEq] at hs
        obtain ⟨rfl, rfl⟩ := hs
        obtain ⟨w', hrun, g1, g2⟩ := evMapSet_sound (P := P) hE hr hst (hev hm1) (hev hk1) (hev hx1)
        exact skipOp (by simp [execOp, ho, hrun]) (hK _ _ ⟨φ, VR.undef, g1, g2⟩)
      · cases hs
    · cases hs
  case h_20 t x lo hi ho =>
    split at hs
    · rename_i x1 lo1 hi1 hx1 hlo1 hhi1
      obtain ⟨h1, rfl⟩ := asV_some hs
      obtain ⟨v', hrun, hv⟩ := evSlice_sound (P := P) hE hr h1 (hev hx1) (head_ov hr hF hlo1) (head_ov hr hF hhi1)
      exact valOp (by simp [execOp, ho, hrun]) (hK _ _ (Good.same hr hv))
    · cases hs
  case h_21 t x f ho =>
    split at hs
    · rename_i u hu
      obtain ⟨h1, rfl⟩ := asV_some hs
      obtain ⟨v', hrun, hv⟩ := evFieldAddr_sound (P := P) (w := w) hE h1 (hev hu)
      exact valOp (by simp [execOp, ho, hrun]) (hK _ _ (Good.same hr hv))
    · cases hs
  case h_22 t x f ho =>
    split at hs
    · rename_i u hu
      obtain ⟨h1, rfl⟩ := asV_some hs
      obtain ⟨v', hrun, hv⟩ := evField_sound (P := P) (w := w) hE h1 (hev hu)
      exact valOp (by simp [execOp, ho, hrun]) (hK _ _ (Good.same hr hv))
    · cases hs
  case h_23 t x i ho =>
    split at hs
    · rename_i u u2 hu hu2
      obtain ⟨h1, rfl⟩ := asV_some hs
      obtain ⟨v', hrun, hv⟩ := evIndexAddr_sound (P := P) (w := w) hE h1 (hev hu) (hev hu2)
      exact valOp (by simp [execOp, ho, hrun]) (hK _ _ (Good.same hr hv))
    · cases hs
  case h_24 t x i ho =>
    split at hs
    · rename_i u u2 hu hu2
      obtain ⟨h1, rfl⟩ := asV_some hs
      obtain ⟨v', hrun, hv⟩ := evIndex_sound (P := P) (w := w) hE h1 (hev hu) (hev hu2)
      exact valOp (by simp [execOp, ho, hrun]) (hK _ _ (Good.same hr hv))
    · cases hs
  case h_25 x i ho =>
    split at hs
    · rename_i vs hu
      obtain ⟨h1, rfl⟩ := asV_some hs
      have h2 := hev hu
      generalize he : a.eval x = ex at h2
      cases h2 with
      | tuple g1 g2 =>
        rename_i vs'
        rw [Array.getElem?_eq_some_iff] at h1
        obtain ⟨hlt, rfl⟩ := h1
        have hlt' : i < vs'.size := by omega
        exact valOp (by simp [execOp, ho, he, Instr.extract, Array.getElem?_eq_getElem hlt']) (hK _ _ (Good.same hr (g2 i hlt hlt')))
    · cases hs
  case h_26 c ho =>
    split at hs
    · cases hs
    · rename_i vs hvs
      have hargs := evs_sound hr hF hvs
      split at hs
      · rename_i f hcal
        split at hs
        · rename_i g first captured hfv
          have hfn := hev hfv
          generalize he : a.eval f = ef at hfn
          cases hfn with
          | func _ e1 e2 e3 e4 =>
            rename_i first' captured'
            have hall : VRs φ (first.toList ++ vs ++ captured.toList) (first'.toList ++ c.args.toList.map a.eval ++ captured'.toList) := ((VRs.of_arr e1 e3).append hargs).append (VRs.of_arr e2 e4)
            have hcr := hc.run _ _ _ _ _ hs φ w _ ok hG hr hall hf
            have harr : (first'.toList ++ c.args.toList.map a.eval ++ captured'.toList).toArray = first' ++ c.args.map a.eval ++ captured' := by
              rw [← Array.toList_inj]; simp
            rw [harr] at hcr
            rcases hcr with ⟨⟨fn, hfn, hbody, hname⟩, hcall⟩ | ⟨_, v', w', hcall, hg⟩
            case inr =>
              refine valOp ?_ (hK _ _ hg)
              simp only [execOp, ho, resolve, hcal, he, Deferred.ofValue, Sem.run_bind, Sem.run_pure, Result.andThen_ok, invoke]
              exact hcall
            unfold Oper.wp
            have hrun : (execOp a.eval o).run P w = .ok (.enter g (first' ++ c.args.map a.eval ++ captured')) w := by
              have := callFunc_run (P := P) (w := w) (args := first' ++ c.args.map a.eval ++ captured') hfn hbody hname
              simp only [execOp, ho, resolve, hcal, he, Deferred.ofValue, Sem.run_bind, Sem.run_pure, Result.andThen_ok, invoke]
              exact this
            rw [hrun]
            refine hcall.mono fun e w' hh => ?_
            obtain ⟨v', rfl, hg⟩ := hh
            exact hK _ _ hg
        · cases hs
      · rename_i hcal
        split at hs
        · rename_i hp
          obtain ⟨h1, rfl⟩ := asV_some hs
          obtain ⟨hpl0, hrun0⟩ := plainOp_some h1
          have hrun := hrun0 w
          have he : execOp (fun z => (ev E h' α z).getD undef) o = execOp a.eval o := by
            have hm : c.args.map (fun z => (ev E h' α z).getD undef) = c.args.map a.eval := by
              rw [← Array.toList_inj]; simpa using plain_evs hr hF hvs hp
            simp only [execOp, ho, resolve, hcal, hm]
          rw [he] at hrun
          exact valOp hrun (hK _ _ (Good.same hr (VR.of_plain hpl0)))
        · cases hs
      · rename_i hcal
        split at hs
        · rename_i hp
          obtain ⟨h1, rfl⟩ := asV_some hs
          obtain ⟨hpl0, hrun0⟩ := plainOp_some h1
          have hrun := hrun0 w
          have he : execOp (fun z => (ev E h' α z).getD undef) o = execOp a.eval o := by
            have hm : c.args.map (fun z => (ev E h' α z).getD undef) = c.args.map a.eval := by
              rw [← Array.toList_inj]; simpa using plain_evs hr hF hvs hp
            simp only [execOp, ho, resolve, hcal, hm]
          rw [he] at hrun
          exact valOp hrun (hK _ _ (Good.same hr (VR.of_plain hpl0)))
        · cases hs
      · rename_i b _ _ hcal
        obtain ⟨v', w', hrun, hg⟩ := builtin_sound (P := P) hE ok hG hr hf0 hs hargs o.type (c.args.map fun | .const _ => true | _ => false)
        have harr : (c.args.toList.map a.eval).toArray = c.args.map a.eval := by
          rw [← Array.toList_inj]; simp
        rw [harr] at hrun
        exact valOp (by simp only [execOp, ho, resolve, hcal, Sem.run_bind, Sem.run_pure, Result.andThen_ok, invoke]; exact hrun) (hK _ _ hg)
      · cases hs
  case h_27 => cases hs
end Go.Proofs.YtngpoamjhngcgaaGreatDoor.Ev

/- Operations one after the other. -/
namespace Go.Proofs.YtngpoamjhngcgaaGreatDoor.Ev
open Go
variable {P : Program} {E : Env} {φ : Phi} {w : World}

theorem nth_eq : ∀ (l : List Oper) (k : Nat), nth l k = l[k]?
  | [], k => by simp [nth]
  | o :: r, 0 => rfl
  | o :: r, k + 1 => by simpa [nth] using nth_eq r k

theorem wantedA_sound {ops : Array Oper} {α : Tr Value} {a : Act} {n : Nat} (hF : FR φ α a n) {o : Oper} {b : Bool} (hw : wantedA ops.toList α o = some b) : Region.wanted o (yielded ops a.tmps) = b := by
  unfold wantedA at hw
  unfold Region.wanted
  split at hw
  · rename_i hg; simp only [Option.some.injEq] at hw; simp [hg, hw]
  · rename_i j want hg
    split at hw
    · rename_i oj hoj
      split at hw
      · rename_i d hd
        split at hw
        · rename_i c hc
          simp only [Option.some.injEq] at hw
          rw [nth_eq] at hoj
          have hoj' : ops[j]? = some oj := by simpa using hoj
          have hv := hF.vals d
          rw [hc] at hv
          simp only [Option.getD_some] at hv
          have he := hv.plain rfl
          have ht : a.tmps[d]? = some (.bool c) := by
            rw [Array.getD_eq_getD_getElem?] at he
            cases h1 : a.tmps[d]? with
            | none => rw [h1] at he; simp [undef] at he
            | some x => rw [h1] at he; simpa using he
          simp only [hg, yielded, hoj', Option.bind_some, hd, ht]
          rw [← hw]
          cases c <;> cases want <;> rfl
        · rename_i vs hc
          simp only [Option.some.injEq] at hw
          subst hw
          rw [nth_eq] at hoj
          have hoj' : ops[j]? = some oj := by simpa using hoj
          have hv := hF.vals d
          rw [hc] at hv
          simp only [Option.getD_some] at hv
          have hn : ∀ b, a.tmps[d]? ≠ some (.bool b) := fun b hb => by
            rw [Array.getD_eq_getD_getElem?, hb] at hv
            cases hv
          have hy : (match a.tmps[d]? with
            | some (.bool b) => some b
            | _ => none) = (none : Option Bool) := by
            split
            · rename_i hb; exact absurd hb (hn _)
            · rfl
          have hy2 : yielded ops a.tmps j = none := by
            unfold yielded
            simp only [hoj', Option.bind_some, hd]
            try exact hy
          simp only [hg, hy2]
          try (cases want <;> rfl)
        · cases hw
      · cases hw
    · cases hw

/-- a later state of both sides -/
def Reach (E : Env) (φ : Phi) (h : H) (w : World) (α' : Tr Value) (h' : H) (n : Nat) (a' : Act) (w' : World) : Prop :=
  ∃ φ', FR φ' α' a' n ∧ HR E φ' h'.blks.get w' ∧ Ext E φ h w φ' h' w'

theorem step1_ae {call : Callf} (hc : CallOK P E call) {h h' : H} (ok : Hok h) (hG : E.G ≤ h.next) {n : Nat} {ops : List Oper} {α α' : Tr Value} {o : Oper} (hs : step1 P E call n ops h α o = some (α', h')) : AE E h h' := by
  unfold step1 at hs
  split at hs
  · split at hs
    · rename_i v h1 hv
      split at hs
      · simp only [Option.some.injEq, Prod.mk.injEq] at hs
        obtain ⟨_, rfl⟩ := hs
        exact evOp_ae hc ok hG hv
      · cases hs
    · cases hs
  · split at hs
    · simp only [Option.some.injEq, Prod.mk.injEq] at hs
      obtain ⟨_, rfl⟩ := hs
      exact AE.refl ok
    · cases hs
  · cases hs

/-- what one operation puts -/
noncomputable def step1V (P : Program) (E : Env) (call : Callf) (ops : List Oper) (h : H) (α : Tr Value) (o : Oper) : Option (Value × H) :=
  match wantedA ops α o with
  | some true => evOp P E call h α o
  | some false => some (undef, h)
  | none => none

theorem step1_split {call : Callf} {h h' : H} {n : Nat} {ops : List Oper} {α α' : Tr Value} {o : Oper} (hs : step1 P E call n ops h α o = some (α', h')) :
    ∃ v, step1V P E call ops h α o = some (v, h') ∧ put n α o.dst v = some α' := by
  unfold step1 at hs
  unfold step1V
  split at hs
  · split at hs
    · rename_i hw _ v h1 hv
      split at hs
      · rename_i α1 hp
        simp only [Option.some.injEq, Prod.mk.injEq] at hs
        obtain ⟨rfl, rfl⟩ := hs
        exact ⟨v, by rw [hw]; exact hv, hp⟩
      · cases hs
    · cases hs
  · rename_i hw
    split at hs
    · rename_i α1 hp
      simp only [Option.some.injEq, Prod.mk.injEq] at hs
      obtain ⟨rfl, rfl⟩ := hs
      exact ⟨undef, by rw [hw], hp⟩
    · cases hs
  · cases hs

theorem step1V_sound (hE : EnvOK P E) {call : Callf} (hc : CallOK P E call) {h h' : H} (ok : Hok h) (hG : E.G ≤ h.next) (hr : HR E φ h.blks.get w) {ops : Array Oper} {α : Tr Value} {a : Act} {n : Nat} (hF : FR φ α a n) {o : Oper} {v : Value}
    (hs : step1V P E call ops.toList h α o = some (v, h')) (hf : ∀ b, h.next ≤ b → b < h'.next → φ b = none) {K : Act → World → Prop} {Q : Exit → Act → World → Prop} (hK : ∀ v' w', Good E φ h w v h' v' w' → K (a.put o.dst v') w') :
    if Region.wanted o (yielded ops a.tmps) then o.wp P a w K Q else K (a.put o.dst undef) w := by
  unfold step1V at hs
  split at hs
  · rename_i hw
    rw [wantedA_sound hF hw, if_pos rfl]
    exact evOp_sound hE hc ok hG hr hF hs hf hK
  · rename_i hw
    rw [wantedA_sound hF hw, if_neg (by simp)]
    simp only [Option.some.injEq, Prod.mk.injEq] at hs
    obtain ⟨rfl, rfl⟩ := hs
    exact hK _ _ (Good.same hr VR.undef)
  · cases hs

theorem evList_ae {call : Callf} (hc : CallOK P E call) {n : Nat} {ops : List Oper} : ∀ {l : List Oper} {h h' : H} {α α' : Tr Value}, Hok h → E.G ≤ h.next → evList P E call n ops l h α = some (α', h') → AE E h h'
  | [], h, h', α, α', ok, _, hs => by
    simp only [evList, Option.some.injEq, Prod.mk.injEq] at hs
    obtain ⟨_, rfl⟩ := hs
    exact AE.refl ok
  | o :: r, h, h', α, α', ok, hG, hs => by
    simp only [evList] at hs
    split at hs
    · rename_i α1 h1 h2
      have a1 := step1_ae hc ok hG h2
      exact a1.trans (evList_ae hc a1.ok (Nat.le_trans hG a1.next) hs)
    · cases hs

theorem evList_sound (hE : EnvOK P E) {call : Callf} (hc : CallOK P E call) {n : Nat} {ops : Array Oper} {Q : Exit → Act → World → Prop} : ∀ {l : List Oper} {h h' : H} {α α' : Tr Value} {a : Act} {φ : Phi} {w : World}, Hok h → E.G ≤ h.next → HR E φ h.blks.get w → FR φ α a n →
    evList P E call n ops.toList l h α = some (α', h') → (∀ b, h.next ≤ b → b < h'.next → φ b = none) → (∀ a' w', Reach E φ h w α' h' n a' w' → Q .normal a' w') → wpList P ops Q l a w
  | [], h, h', α, α', a, φ, w, _, _, hr, hF, hs, _, hQ => by
    simp only [evList, Option.some.injEq, Prod.mk.injEq] at hs
    obtain ⟨rfl, rfl⟩ := hs
    exact hQ _ _ ⟨φ, hF, hr, Ext.refl _ _ _ _⟩
  | o :: r, h, h', α, α', a, φ, w, ok, hG, hr, hF, hs, hf, hQ => by
    simp only [evList] at hs
    split at hs
    · rename_i α1 h1 h2
      have a1 := step1_ae hc ok hG h2
      have hG1 := Nat.le_trans hG a1.next
      have a2 := evList_ae hc a1.ok hG1 hs
      obtain ⟨v, hv, hp⟩ := step1_split h2
      refine wpList_step fun K hK => ?_
      refine step1V_sound hE hc ok hG hr hF hv (fun b h3 h4 => hf b h3 (Nat.lt_of_lt_of_le h4 a2.next)) fun v' w' hg => hK _ _ ?_
      obtain ⟨φ1, hvr, hr1, x1⟩ := hg
      refine evList_sound hE hc a1.ok hG1 hr1 ((hF.mono x1.le).put hp hvr) hs (fun b h3 h4 => ?_) fun a' w2 hreach => hQ _ _ ?_
      · cases h5 : φ1 b with
        | none => rfl
        | some x =>
          rcases x1.dom b x h5 with h6 | ⟨_, _, h7⟩
          · rw [hf b (Nat.le_trans a1.next h3) h4] at h6; cases h6
          · omega
      · obtain ⟨φ2, g1, g2, g3⟩ := hreach
        exact ⟨φ2, g1, g2, Ext.trans (fun b h3 h4 => hf b h3 (Nat.lt_of_lt_of_le h4 a2.next)) x1 a1 g3 a2⟩
    · cases hs
end Go.Proofs.YtngpoamjhngcgaaGreatDoor.Ev

/- An operation looks at its operands alone. -/
namespace Go.Proofs.YtngpoamjhngcgaaGreatDoor.Ev
open Go
variable {P : Program} {E : Env}

theorem evs_congr {h : H} {α β : Tr Value} : ∀ {l : List Operand}, (∀ x ∈ l, ev E h α x = ev E h β x) → evs E h α l = evs E h β l
  | [], _ => rfl
  | x :: r, hx => by
    simp only [evs]
    rw [hx x (by simp), evs_congr (fun y hy => hx y (by simp [hy]))]

theorem evParts_congr {h : H} {α β : Tr Value} : ∀ {l : List (Nat × Operand)}, (∀ x ∈ l, ev E h α x.2 = ev E h β x.2) → evParts E h α l = evParts E h β l
  | [], _ => rfl
  | x :: r, hx => by
    obtain ⟨i, x⟩ := x
    simp only [evParts]
    rw [hx (i, x) (by simp), evParts_congr (fun y hy => hx y (by simp [hy]))]

theorem map_congr {h : H} {α β : Tr Value} {l : Array Operand} (hx : ∀ x ∈ l.toList, ev E h α x = ev E h β x) : l.map (fun z => (ev E h α z).getD undef) = l.map (fun z => (ev E h β z).getD undef) := by
  rw [← Array.toList_inj]
  simp only [Array.toList_map]
  exact List.map_congr_left fun x hm => by rw [hx x hm]

theorem evOp_congr {call : Callf} {h : H} {α β : Tr Value} {o : Oper} (hx : ∀ x ∈ o.op.operands.toList, ev E h α x = ev E h β x) : evOp P E call h α o = evOp P E call h β o := by
  rw [evOp_eq, evOp_eq]
  unfold evOpS
  cases ho : o.op <;> simp only [ho, Op.operands] at hx <;> try rfl
  case move x => simp only [hx x (by simp)]
  case assign x => simp only [hx x (by simp)]
  case pick c a b => simp only [hx c (by simp), hx a (by simp), hx b (by simp)]
  case box t x => simp only [hx x (by simp)]
  case build t ps =>
    have : evParts E h α ps.toList = evParts E h β ps.toList := evParts_congr fun x hm => hx x.2 (by simpa using ⟨x.1, by simpa using hm⟩)
    simp only [this]
  case buildSlice t n ps =>
    have : evParts E h α ps.toList = evParts E h β ps.toList := evParts_congr fun x hm => hx x.2 (by simpa using ⟨x.1, by simpa using hm⟩)
    simp only [this]
  case load t x => simp only [hx x (by simp)]
  case store t x y => simp only [hx x (by simp), hx y (by simp)]
  case nilCheck x => simp only [hx x (by simp)]
  case binOp op t x y yt =>
    have e : execOp (fun z => (ev E h α z).getD undef) o = execOp (fun z => (ev E h β z).getD undef) o := by simp only [execOp, ho, hx x (by simp), hx y (by simp)]
    simp only [hx x (by simp), hx y (by simp), binPlain, plainOp, e]
  case unOp op t x =>
    have e : execOp (fun z => (ev E h α z).getD undef) o = execOp (fun z => (ev E h β z).getD undef) o := by simp only [execOp, ho, hx x (by simp)]
    simp only [hx x (by simp), plainOp, e]
  case convert s d x =>
    have e : execOp (fun z => (ev E h α z).getD undef) o = execOp (fun z => (ev E h β z).getD undef) o := by simp only [execOp, ho, hx x (by simp)]
    simp only [hx x (by simp), convPlain, plainOp, e]
  case makeFunc fn f c =>
    have e1 : evs E h α f.toList = evs E h β f.toList := evs_congr fun x hm => hx x (by simp at hm ⊢; exact .inl hm)
    have e2 : evs E h α c.toList = evs E h β c.toList := evs_congr fun x hm => hx x (by simp at hm ⊢; exact .inr hm)
    simp only [e1, e2]
  case makeSlice t l c => simp only [hx l (by simp), hx c (by simp)]
  case lookup t m k okb => simp only [hx m (by simp), hx k (by simp)]
  case mapUpdate t m k v => simp only [hx m (by simp), hx k (by simp), hx v (by simp)]
  case insert t m k v => simp only [hx m (by simp), hx k (by simp), hx v (by simp)]
  case makeMap t r => cases r <;> rfl
  case slice t x lo hi mx =>
    cases mx with
    | some m => rfl
    | none =>
      have e1 : evs E h α lo.toList = evs E h β lo.toList := evs_congr fun y hm => hx y (by cases lo <;> simp_all)
      have e2 : evs E h α hi.toList = evs E h β hi.toList := evs_congr fun y hm => hx y (by cases hi <;> simp_all)
      simp only [hx x (by simp), e1, e2]
  case fieldAddr t x f => simp only [hx x (by simp)]
  case field t x f => simp only [hx x (by simp)]
  case indexAddr t x i => simp only [hx x (by simp), hx i (by simp)]
  case index t x i => simp only [hx x (by simp), hx i (by simp)]
  case extract x i => simp only [hx x (by simp)]
  case call c =>
    have hargs : ∀ x ∈ c.args.toList, ev E h α x = ev E h β x := fun x hm => hx x (by simp only [Call.operands]; simp at hm ⊢; exact .inr hm)
    have e1 : evs E h α c.args.toList = evs E h β c.args.toList := evs_congr hargs
    have e2 : execOp (fun z => (ev E h α z).getD undef) o = execOp (fun z => (ev E h β z).getD undef) o ∨ ∃ f, c.callee = .value f ∨ ∃ r m, c.callee = .invoke r m := by
      cases hcal : c.callee with
      | builtin b => exact .inl (by simp only [execOp, ho, resolve, hcal, map_congr hargs])
      | value f => exact .inr ⟨f, .inl rfl⟩
      | invoke r m => exact .inr ⟨r, .inr ⟨r, m, rfl⟩⟩
    simp only [e1]
    cases hcal : c.callee with
    | value f => simp only [hx f (by simp [Call.operands, hcal])]
    | invoke r m => rfl
    | builtin b =>
      have e3 : execOp (fun z => (ev E h α z).getD undef) o = execOp (fun z => (ev E h β z).getD undef) o := by
        rcases e2 with e2 | ⟨f, h1 | ⟨r, m, h1⟩⟩
        · exact e2
        · rw [hcal] at h1; cases h1
        · rw [hcal] at h1; cases h1
      simp only [plainOp, e3]
      cases evs E h β c.args.toList with
      | none => rfl
      | some vs => cases b <;> rfl

theorem step1V_congr {call : Callf} {ops : Array Oper} {h : H} {α β : Tr Value} {o : Oper} (hx : ∀ t ∈ o.looksAt ops, α.get t = β.get t) : step1V P E call ops.toList h α o = step1V P E call ops.toList h β o := by
  have h1 : ∀ x ∈ o.op.operands.toList, ev E h α x = ev E h β x := fun x hm => by
    cases x with
    | tmp t =>
      have : t ∈ o.looksAt ops := by
        unfold Oper.looksAt
        rw [List.mem_append]
        exact .inl (List.mem_filterMap.2 ⟨.tmp t, hm, rfl⟩)
      simp only [ev, evTmp, hx t this]
    | _ => rfl
  have h2 : wantedA ops.toList α o = wantedA ops.toList β o := by
    unfold wantedA
    cases hg : o.guard with
    | none => rfl
    | some g =>
      obtain ⟨j, want⟩ := g
      simp only
      cases hj : nth ops.toList j with
      | none => rfl
      | some oj =>
        simp only
        cases hd : oj.dst with
        | none => rfl
        | some d =>
          have : d ∈ o.looksAt ops := by
            unfold Oper.looksAt
            rw [List.mem_append]
            right
            rw [nth_eq] at hj
            have hj' : ops[j]? = some oj := by simpa using hj
            simp [hg, hj', hd]
          simp only [hx d this]
  unfold step1V
  rw [h2, evOp_congr h1]
end Go.Proofs.YtngpoamjhngcgaaGreatDoor.Ev

/- A region that draws its order: its first operations in any order. -/
namespace Go.Proofs.YtngpoamjhngcgaaGreatDoor.Ev
open Go
variable {P : Program} {E : Env}

/-- the text's own order of the first operations, step by step -/
structure Trace (P : Program) (E : Env) (call : Callf) (n : Nat) (ops : List Oper) (l : List Oper) (h : H) (α : Tr Value) (h' : H) (α' : Tr Value) (hs : Nat → H) (αs : Nat → Tr Value) (vs : Nat → Value) : Prop where
  h0 : (hs 0).blks = h.blks ∧ (hs 0).next = h.next ∧ (hs 0).wm = h.wm
  a0 : αs 0 = α
  hm : (hs l.length).blks = h'.blks ∧ (hs l.length).next = h'.next ∧ (hs l.length).wm = h'.wm
  am : αs l.length = α'
  step : ∀ i o, l[i]? = some o → ∃ h1, step1V P E call ops { blks := (hs i).blks, next := (hs i).next, wm := (hs i).next } (αs i) o = some (vs i, h1) ∧ put n (αs i) o.dst (vs i) = some (αs (i + 1)) ∧
    (hs i).next ≤ h1.wm ∧ (hs (i + 1)).blks = h1.blks ∧ (hs (i + 1)).next = h1.next ∧ (hs (i + 1)).wm = (hs i).wm

theorem evQuiet_trace {call : Callf} {n : Nat} {ops : List Oper} : ∀ {l : List Oper} {h h' : H} {α α' : Tr Value}, evQuiet P E call n ops l h α = some (α', h') → ∃ hs αs vs, Trace P E call n ops l h α h' α' hs αs vs
  | [], h, h', α, α', hq => by
    simp only [evQuiet, Option.some.injEq, Prod.mk.injEq] at hq
    obtain ⟨rfl, rfl⟩ := hq
    exact ⟨fun _ => h, fun _ => α, fun _ => undef, ⟨rfl, rfl, rfl⟩, rfl, ⟨rfl, rfl, rfl⟩, rfl, fun i o hi => by simp at hi⟩
  | o :: r, h, h', α, α', hq => by
    simp only [evQuiet] at hq
    split at hq
    · rename_i α1 h1 h2
      split at hq
      · rename_i hle
        obtain ⟨v, hv, hp⟩ := step1_split h2
        obtain ⟨hs, αs, vs, tr⟩ := evQuiet_trace hq
        refine ⟨fun i => match i with | 0 => h | i + 1 => hs i, fun i => match i with | 0 => α | i + 1 => αs i, fun i => match i with | 0 => v | i + 1 => vs i, ⟨rfl, rfl, rfl⟩, rfl, tr.hm, tr.am, fun i o' hi => ?_⟩
        cases i with
        | zero =>
          simp only [List.getElem?_cons_zero, Option.some.injEq] at hi
          subst hi
          obtain ⟨e1, e2, e3⟩ := tr.h0
          exact ⟨h1, hv, by simp only [tr.a0]; exact hp, hle, e1, e2, e3⟩
        | succ i => exact tr.step i o' (by simpa using hi)
      · cases hq
    · cases hq

theorem evQuiet_marks {call : Callf} {n : Nat} {ops : List Oper} : ∀ {l : List Oper} {h h' : H} {α α' : Tr Value} (i0 : Nat), evQuiet P E call n ops l h α = some (α', h') → ∃ hs αs vs, Trace P E call n ops l h α h' α' hs αs vs ∧
    ∀ i k, i < l.length → E.frz k = true → (hs i).next ≤ k → k < (hs (i + 1)).next → i0 + i ∈ fzMarks P E call n ops l i0 h α
  | [], h, h', α, α', _, hq => by
    simp only [evQuiet, Option.some.injEq, Prod.mk.injEq] at hq
    obtain ⟨rfl, rfl⟩ := hq
    exact ⟨fun _ => h, fun _ => α, fun _ => undef, ⟨⟨rfl, rfl, rfl⟩, rfl, ⟨rfl, rfl, rfl⟩, rfl, fun i o hi => by simp at hi⟩, fun i k hi => by simp at hi⟩
  | o :: r, h, h', α, α', i0, hq => by
    simp only [evQuiet] at hq
    split at hq
    · rename_i α1 h1 h2
      split at hq
      · rename_i hle
        obtain ⟨v, hv, hp⟩ := step1_split h2
        obtain ⟨hs, αs, vs, tr, mk⟩ := evQuiet_marks (i0 + 1) hq
        obtain ⟨e1, e2, e3⟩ := tr.h0
        refine ⟨fun i => match i with | 0 => h | i + 1 => hs i, fun i => match i with | 0 => α | i + 1 => αs i, fun i => match i with | 0 => v | i + 1 => vs i, ⟨⟨rfl, rfl, rfl⟩, rfl, tr.hm, tr.am, fun i o' hi => ?_⟩, fun i k hi hk g1 g2 => ?_⟩
        · cases i with
          | zero =>
            simp only [List.getElem?_cons_zero, Option.some.injEq] at hi
            subst hi
            exact ⟨h1, hv, by simp only [tr.a0]; exact hp, hle, e1, e2, e3⟩
          | succ i => exact tr.step i o' (by simpa using hi)
        · simp only [fzMarks, h2]
          cases i with
          | zero =>
            simp only at g1 g2
            simp only [Env.frz, Bool.and_eq_true] at hk
            obtain ⟨y, hy, hyx⟩ := List.any_eq_true.1 hk.2
            have hyx' : y = k := Nat.eq_of_beq_eq_true hyx
            subst hyx'
            have : (E.fzl.any fun k => Nat.ble h.next k && Nat.ble (k + 1) h1.next) = true := List.any_eq_true.2 ⟨y, hy, by simp only [Bool.and_eq_true]; exact ⟨Nat.ble_eq_true_of_le g1, Nat.ble_eq_true_of_le (by rw [e2] at g2; exact g2)⟩⟩
            rw [this]
            exact List.mem_cons_self
          | succ i =>
            have := mk i k (by simpa using hi) hk g1 g2
            rw [show i0 + 1 + i = i0 + (i + 1) by omega] at this
            cases (E.fzl.any fun k => Nat.ble h.next k && Nat.ble (k + 1) h1.next) with
            | false => exact this
            | true => exact List.mem_cons_of_mem _ this
      · cases hq
    · cases hq

def bump (h : H) : H := { blks := h.blks, next := h.next, wm := h.next }

theorem step1V_ae {call : Callf} (hc : CallOK P E call) {h h' : H} (ok : Hok h) (hG : E.G ≤ h.next) {ops : List Oper} {α : Tr Value} {o : Oper} {v : Value} (hs : step1V P E call ops h α o = some (v, h')) : AE E h h' := by
  unfold step1V at hs
  split at hs
  · exact evOp_ae hc ok hG hs
  · simp only [Option.some.injEq, Prod.mk.injEq] at hs
    obtain ⟨_, rfl⟩ := hs
    exact AE.refl ok
  · cases hs

section
variable {call : Callf} {n : Nat} {ops : List Oper} {l : List Oper} {h h' : H} {α α' : Tr Value} {hs : Nat → H} {αs : Nat → Tr Value} {vs : Nat → Value}

theorem Trace.facts (hc : CallOK P E call) (ok : Hok h) (hG : E.G ≤ h.next) (tr : Trace P E call n ops l h α h' α' hs αs vs) : ∀ i, i ≤ l.length →
    Hok (hs i) ∧ E.G ≤ (hs i).next ∧ h.next ≤ (hs i).next ∧ (hs i).wm = h.wm := by
  intro i
  induction i with
  | zero =>
    intro _
    obtain ⟨e1, e2, e3⟩ := tr.h0
    exact ⟨fun b hb => by rw [e1]; exact ok b (by omega), by omega, by omega, e3⟩
  | succ i ih =>
    intro hi
    obtain ⟨k1, k2, k3, k4⟩ := ih (by omega)
    obtain ⟨h1, hv, hp, hle, e1, e2, e3⟩ := tr.step i _ (List.getElem?_eq_getElem (by omega))
    have ae := step1V_ae (h := bump (hs i)) hc k1 k2 hv
    have := ae.next
    simp only [bump] at this
    exact ⟨fun b hb => by rw [e1]; exact ae.ok b (by omega), by omega, by omega, by omega⟩

theorem Trace.pres1 (hc : CallOK P E call) (ok : Hok h) (hG : E.G ≤ h.next) (tr : Trace P E call n ops l h α h' α' hs αs vs) {i : Nat} (hi : i < l.length) : (hs i).next ≤ (hs (i + 1)).next ∧ ∀ b, b < (hs i).next → (hs (i + 1)).blks.get b = (hs i).blks.get b := by
  obtain ⟨k1, k2, k3, k4⟩ := tr.facts hc ok hG i (by omega)
  obtain ⟨h1, hv, hp, hle, e1, e2, e3⟩ := tr.step i _ (List.getElem?_eq_getElem hi)
  have ae := step1V_ae (h := bump (hs i)) hc k1 k2 hv
  have := ae.next
  simp only [bump] at this
  exact ⟨by omega, fun b hb => by rw [e1]; exact ae.pres b hb (by omega)⟩

theorem Trace.pres (hc : CallOK P E call) (ok : Hok h) (hG : E.G ≤ h.next) (tr : Trace P E call n ops l h α h' α' hs αs vs) : ∀ {i j : Nat}, i ≤ j → j ≤ l.length → (hs i).next ≤ (hs j).next ∧ ∀ b, b < (hs i).next → (hs j).blks.get b = (hs i).blks.get b := by
  intro i j hij
  induction hij with
  | refl => intro _; exact ⟨Nat.le_refl _, fun _ _ => rfl⟩
  | step hij ih =>
    rename_i j
    intro hj
    obtain ⟨k1, k2⟩ := ih (by omega)
    obtain ⟨k3, k4⟩ := tr.pres1 hc ok hG (i := j) (by omega)
    show (hs i).next ≤ (hs (j + 1)).next ∧ ∀ b, b < (hs i).next → (hs (j + 1)).blks.get b = (hs i).blks.get b
    exact ⟨by omega, fun b hb => by rw [k4 b (by omega), k2 b hb]⟩

theorem Trace.ae (hc : CallOK P E call) (ok : Hok h) (hG : E.G ≤ h.next) (tr : Trace P E call n ops l h α h' α' hs αs vs) : AE E h h' := by
  obtain ⟨k1, k2, k3, k4⟩ := tr.facts hc ok hG l.length (Nat.le_refl _)
  obtain ⟨k5, k6⟩ := tr.pres hc ok hG (i := 0) (j := l.length) (by omega) (Nat.le_refl _)
  obtain ⟨e1, e2, e3⟩ := tr.h0
  obtain ⟨f1, f2, f3⟩ := tr.hm
  have key : ∀ b, b < h.next → h'.blks.get b = h.blks.get b := fun b hb => by rw [← f1, ← e1]; exact k6 b (by omega)
  refine ⟨fun b hb => by rw [← f1]; exact k1 b (by omega), by omega, fun b hb hl => ?_, by omega, fun b hb _ => key b hb, fun b hb => key b (by omega)⟩
  unfold live at hl ⊢
  rw [key b hb] at hl
  exact hl
end

theorem quiet_ord {call : Callf} (hc : CallOK P E call) {n : Nat} {ops l : List Oper} {h h' : H} {α α' : Tr Value} (ok : Hok h) (hG : E.G ≤ h.next) (hq : evQuiet P E call n ops l h α = some (α', h')) (hz : fzOK P E call n ops l h α h' = true) :
    ∃ hs αs vs, Trace P E call n ops l h α h' α' hs αs vs ∧ ∀ i j k k', i < j → j < l.length → E.frz k = true → E.frz k' = true → (hs i).next ≤ k → k < (hs (i + 1)).next → (hs j).next ≤ k' → k' < (hs (j + 1)).next → ∃ oj, nth ops j = some oj ∧ waits oj i = true := by
  obtain ⟨hs, αs, vs, tr, mk⟩ := evQuiet_marks 0 hq
  refine ⟨hs, αs, vs, tr, fun i j k k' hij hj hk hk' g1 g2 g3 g4 => ?_⟩
  unfold fzOK at hz
  cases hone : fzOne E h.next h'.next with
  | true =>
    exfalso
    obtain ⟨a1, _⟩ := tr.pres hc ok hG (i := 0) (j := i) (by omega) (by omega)
    obtain ⟨a2, _⟩ := tr.pres hc ok hG (i := i + 1) (j := j) (by omega) (by omega)
    obtain ⟨a3, _⟩ := tr.pres hc ok hG (i := j + 1) (j := l.length) (by omega) (Nat.le_refl _)
    obtain ⟨_, e2, _⟩ := tr.h0
    obtain ⟨_, f2, _⟩ := tr.hm
    have := fzOne_spec hone hk hk' (by omega) (by omega) (by omega) (by omega)
    omega
  | false =>
    rw [hone] at hz
    have hz' : fzOrd ops (fzMarks P E call n ops l 0 h α) = true := hz
    have m1 := mk i k (by omega) hk g1 g2
    have m2 := mk j k' hj hk' g3 g4
    rw [Nat.zero_add] at m1 m2
    have h1 := List.all_eq_true.1 (List.all_eq_true.1 hz' i m1) j m2
    simp only [Bool.or_eq_true] at h1
    rcases h1 with h1 | h1
    · have := Nat.le_of_ble_eq_true h1; omega
    · split at h1
      · rename_i o ho; exact ⟨o, ho, h1⟩
      · cases h1

theorem HR.sub {φ : Phi} {w : World} {g g' : Nat → Option Blk} (hr : HR E φ g' w) (hsub : ∀ b B, B ≠ .dead → g b = some B → g' b = some B) : HR E φ g w :=
  have hs : ∀ {b : Nat} {cells : Tr Value} {size es : Nat}, g b = some (.mk cells size es) → g' b = some (.mk cells size es) := fun hb => hsub _ _ (by simp) hb
  ⟨fun b cells size es hb x hx => hr.blk b cells size es (hs hb) x hx, fun b b' x x' _ _ _ _ _ _ hG h1 h2 hx hx' he => hr.inj b b' x x' _ _ _ _ _ _ hG (hs h1) (hs h2) hx hx' he,
    fun b cells size es hlt hlN hb => hr.glob b cells size es hlt hlN (hs hb),
    fun b1 b2 x1 x2 _ _ _ _ _ _ hf1 hf2 hlt h1 h2 hx1 hx2 he => hr.mono b1 b2 x1 x2 _ _ _ _ _ _ hf1 hf2 hlt (hs h1) (hs h2) hx1 hx2 he,
    hr.mp.move (fun _ _ h => h) (fun b l hb => hsub _ _ (by simp) hb) (fun _ _ _ _ h => h) (fun _ _ _ h => h)⟩
end Go.Proofs.YtngpoamjhngcgaaGreatDoor.Ev

/- The first operations of a region that draws, in whatever order they come. -/
namespace Go.Proofs.YtngpoamjhngcgaaGreatDoor.Ev
open Go
variable {P : Program} {E : Env}

theorem put_some {n : Nat} {α α' : Tr Value} {dst : Option Tmp} {v : Value} (hp : put n α dst v = some α') (β : Tr Value) : ∃ β', put n β dst v = some β' := by
  cases dst with
  | none => exact ⟨β, rfl⟩
  | some d =>
    obtain ⟨hc, rfl⟩ := put_spec hp
    refine ⟨Tr.put β d v, ?_⟩
    simp only [put]
    have h1 : Nat.ble (d + 1) n = true := Nat.ble_eq_true_of_le hc
    rw [h1]
    simp only [Tr.force_eq]

theorem put_get {n : Nat} {α α' : Tr Value} {dst : Option Tmp} {v : Value} (hp : put n α dst v = some α') (t : Tmp) : α'.get t = if dst = some t then some v else α.get t := by
  cases dst with
  | none => simp only [put, Option.some.injEq] at hp; subst hp; simp
  | some d =>
    obtain ⟨hc, rfl⟩ := put_spec hp
    rw [Tr.get_put]
    by_cases htd : t = d
    · subst htd; simp
    · rw [if_neg htd, if_neg (fun e => htd (by injection e with e; exact e.symm))]

theorem apart_of {ops : Array Oper} {l : List Oper} (h : allApart ops l = true) {i j : Nat} {x y : Oper} (hij : i < j) (hx : l[i]? = some x) (hy : l[j]? = some y) : waits y i = true ∨ x.apart ops y = true := by
  have hj : j < l.length := (List.getElem?_eq_some_iff.1 hy).1
  have h1 := List.all_eq_true.1 h j (List.mem_range.2 hj)
  have h2 := List.all_eq_true.1 h1 i (List.mem_range.2 hij)
  rw [nth_eq, nth_eq, hx, hy] at h2
  simpa using h2

theorem dsts_of {l : List Oper} (h : dstsApart l = true) {i j : Nat} {x y : Oper} (hij : i < j) (hx : l[i]? = some x) (hy : l[j]? = some y) {t : Tmp} (h1 : x.dst = some t) : y.dst ≠ some t := by
  have hj : j < l.length := (List.getElem?_eq_some_iff.1 hy).1
  have h2 := List.all_eq_true.1 h j (List.mem_range.2 hj)
  have h3 := List.all_eq_true.1 h2 i (List.mem_range.2 hij)
  rw [nth_eq, nth_eq, hx, hy] at h3
  simp only [h1] at h3
  intro he
  simp [he] at h3

theorem dsts_ne {l : List Oper} (h : dstsApart l = true) {i j : Nat} {x y : Oper} (hij : i ≠ j) (hx : l[i]? = some x) (hy : l[j]? = some y) {t : Tmp} (h1 : x.dst = some t) : y.dst ≠ some t := by
  rcases Nat.lt_or_gt_of_ne hij with h2 | h2
  · exact dsts_of h h2 hx hy h1
  · exact fun he => dsts_of h h2 hy hx he h1

theorem waits_spec {o : Oper} {i : Nat} (h : waits o i = true) : ∃ e ∈ o.after, Region.binds .any e = true ∧ e.on = i := by
  unfold waits at h
  obtain ⟨e, he, hb⟩ := List.any_eq_true.1 h
  simp only [Bool.and_eq_true, beq_iff_eq] at hb
  exact ⟨e, by simpa using he, hb.1, hb.2⟩

section
variable {call : Callf} {n : Nat} {ops : List Oper} {l : List Oper} {h h' : H} {α α' : Tr Value} {hs : Nat → H} {αs : Nat → Tr Value} {vs : Nat → Value}

theorem Trace.star (hd : dstsApart l = true) (tr : Trace P E call n ops l h α h' α' hs αs vs) : ∀ k, k ≤ l.length →
    (∀ j o t, j < k → l[j]? = some o → o.dst = some t → (αs k).get t = some (vs j)) ∧ (∀ t, (∀ j o, j < k → l[j]? = some o → o.dst ≠ some t) → (αs k).get t = α.get t) := by
  intro k
  induction k with
  | zero => intro _; exact ⟨fun j o t hj => by omega, fun t _ => by rw [tr.a0]⟩
  | succ k ih =>
    intro hk
    obtain ⟨i1, i2⟩ := ih (by omega)
    have hok := List.getElem?_eq_getElem (l := l) (i := k) (by omega)
    obtain ⟨h1, hv, hp, _⟩ := tr.step k _ hok
    refine ⟨fun j o t hj ho hdst => ?_, fun t ht => ?_⟩
    · rw [put_get hp]
      by_cases hjk : j = k
      · subst hjk
        rw [hok] at ho
        injection ho with ho
        rw [if_pos (by rw [ho]; exact hdst)]
      · have hne := dsts_ne hd hjk ho hok hdst
        rw [if_neg hne]
        exact i1 j o t (by omega) ho hdst
    · rw [put_get hp, if_neg (ht k _ (by omega) hok)]
      exact i2 t fun j o hj ho => ht j o (by omega) ho
end

/-- where a run in any order stands -/
structure Inv (E : Env) (n m : Nat) (ops : Array Oper) (h : H) (α : Tr Value) (h' : H) (hs : Nat → H) (vs : Nat → Value) (φ : Phi) (w0 : World) (listed : Array Bool) (a : Act) (w : World) (φ1 : Phi) (αL : Tr Value) : Prop where
  head : HeadInv .any ops m listed
  fr : FR φ1 αL a n
  star1 : ∀ i o t, i < m → ops[i]? = some o → listed.getD i false = true → o.dst = some t → αL.get t = some (vs i)
  star0 : ∀ t, (∀ i o, i < m → ops[i]? = some o → listed.getD i false = true → o.dst ≠ some t) → αL.get t = α.get t
  hr : HR E φ1 h'.blks.get w
  ext : Ext E φ h w0 φ1 h' w
  dom : ∀ b x, φ1 b = some x → φ b = some x ∨ ∃ i, i < m ∧ listed.getD i false = true ∧ (hs i).next ≤ b ∧ b < (hs (i + 1)).next
  ord : ∀ i j k k', i < j → j < m → E.frz k = true → E.frz k' = true → (hs i).next ≤ k → k < (hs (i + 1)).next → (hs j).next ≤ k' → k' < (hs (j + 1)).next → ∃ oj, nth ops.toList j = some oj ∧ waits oj i = true

theorem take_get {ops : Array Oper} {m i : Nat} (hi : i < m) : (ops.toList.take m)[i]? = ops[i]? := by
  rw [List.getElem?_take_of_lt hi]; simp

theorem getD_false_of {listed : Array Bool} {i : Nat} (h : listed.getD i true = false) : listed.getD i false = false := getD_both h

/-- before an operation the temporaries that it looks at are as in the text's order -/
theorem agree_gen {call : Callf} {n m : Nat} {ops : Array Oper} {h h' : H} {α α' : Tr Value} {hs : Nat → H} {αs : Nat → Tr Value} {vs : Nat → Value} (hm : m ≤ ops.size)
    (hap : allApart ops (ops.toList.take m) = true) (hd : dstsApart (ops.toList.take m) = true) (tr : Trace P E call n ops.toList (ops.toList.take m) h α h' α' hs αs vs)
    {listed : Array Bool} {αL : Tr Value} (hclosed : ∀ j oj, ops[j]? = some oj → listed.getD j false = true → ∀ e ∈ oj.after, Region.binds .any e = true → listed.getD e.on false = true)
    (star1 : ∀ i o t, i < m → ops[i]? = some o → listed.getD i false = true → o.dst = some t → αL.get t = some (vs i))
    (star0 : ∀ t, (∀ i o, i < m → ops[i]? = some o → listed.getD i false = true → o.dst ≠ some t) → αL.get t = α.get t)
    {i : Nat} (hun' : listed.getD i false = false) (him : i < m) {o : Oper} (ho : ops[i]? = some o) (hall : ∀ e ∈ o.after, Region.binds .any e = true → listed.getD e.on false = true) :
    ∀ t ∈ o.looksAt ops, (αs i).get t = αL.get t := by
  have hlen : (ops.toList.take m).length = m := by simp; omega
  have hol : (ops.toList.take m)[i]? = some o := by rw [take_get him]; exact ho
  intro t ht
  obtain ⟨c1, c2⟩ := tr.star hd i (by omega)
  by_cases hex : ∃ j oj, j < m ∧ ops[j]? = some oj ∧ listed.getD j false = true ∧ oj.dst = some t
  · obtain ⟨j, oj, hjm, hoj, hlj, hdj⟩ := hex
    have hji : j ≠ i := fun e => by rw [e, hun'] at hlj; cases hlj
    have hlt : j < i := by
      rcases Nat.lt_or_gt_of_ne hji with h2 | h2
      · exact h2
      · exfalso
        rcases apart_of hap h2 hol (by rw [take_get hjm]; exact hoj) with h3 | h3
        · obtain ⟨e, he, hb, hon⟩ := waits_spec h3
          have := hclosed j oj hoj hlj e he hb
          rw [hon, hun'] at this; cases this
        · exact (Oper.apart_spec h3).2.2 t hdj ht
    rw [c1 j oj t hlt (by rw [take_get hjm]; exact hoj) hdj, star1 j oj t hjm hoj hlj hdj]
  · have h4 : ∀ j oj, j < m → ops[j]? = some oj → listed.getD j false = true → oj.dst ≠ some t := fun j oj g1 g2 g3 g4 => hex ⟨j, oj, g1, g2, g3, g4⟩
    rw [star0 t h4]
    refine c2 t fun j oj hji hoj hdj => ?_
    rcases apart_of hap hji hoj hol with h3 | h3
    · obtain ⟨e, he, hb, hon⟩ := waits_spec h3
      have := hall e he hb
      rw [hon] at this
      rw [take_get (by omega)] at hoj
      exact h4 j oj (by omega) hoj this hdj
    · exact (Oper.apart_spec h3).1 t hdj ht

theorem inv_agree {call : Callf} {n m : Nat} {ops : Array Oper} {h h' : H} {α α' : Tr Value} {hs : Nat → H} {αs : Nat → Tr Value} {vs : Nat → Value} {φ : Phi} {w0 : World} (hm : m ≤ ops.size)
    (hap : allApart ops (ops.toList.take m) = true) (hd : dstsApart (ops.toList.take m) = true) (tr : Trace P E call n ops.toList (ops.toList.take m) h α h' α' hs αs vs)
    {listed : Array Bool} {a : Act} {w : World} {φ1 : Phi} {αL : Tr Value} (inv : Inv E n m ops h α h' hs vs φ w0 listed a w φ1 αL) {i : Nat} (hi : i ∈ Region.ready .any ops listed) (him : i < m) {o : Oper} (ho : ops[i]? = some o) :
    ∀ t ∈ o.looksAt ops, (αs i).get t = αL.get t := by
  obtain ⟨hun, o', ho', hall⟩ := mem_ready.1 hi
  obtain rfl : o' = o := Option.some.inj (ho'.symm.trans ho)
  exact agree_gen hm hap hd tr inv.head.closed inv.star1 inv.star0 (getD_false_of hun) him ho hall

theorem inv_step (hE : EnvOK P E) {call : Callf} (hc : CallOK P E call) {n m : Nat} {ops : Array Oper} {h h' : H} {α α' : Tr Value} {hs : Nat → H} {αs : Nat → Tr Value} {vs : Nat → Value} {φ : Phi} {w0 : World} (ok : Hok h) (hG : E.G ≤ h.next) (hm : m ≤ ops.size)
    (hap : allApart ops (ops.toList.take m) = true) (hd : dstsApart (ops.toList.take m) = true) (tr : Trace P E call n ops.toList (ops.toList.take m) h α h' α' hs αs vs) (hf : ∀ b, h.next ≤ b → b < h'.next → φ b = none)
    {listed : Array Bool} {a : Act} {w : World} {φ1 : Phi} {αL : Tr Value} (inv : Inv E n m ops h α h' hs vs φ w0 listed a w φ1 αL) {i : Nat} (hi : i ∈ Region.ready .any ops listed) (him : i < m) {K : Act → World → Prop} {Q : Exit → Act → World → Prop}
    (hK : ∀ a' w' φ2 αL', Inv E n m ops h α h' hs vs φ w0 (listed.setIfInBounds i true) a' w' φ2 αL' → K a' w') : wpOp P ops Q i K a w := by
  have hlen : (ops.toList.take m).length = m := by simp; omega
  obtain ⟨hun, o, ho, hall⟩ := mem_ready.1 hi
  have hun' := getD_false_of hun
  have hol : (ops.toList.take m)[i]? = some o := by rw [take_get him]; exact ho
  obtain ⟨h1, hv, hp, hle, e1, e2, e3⟩ := tr.step i o hol
  obtain ⟨k1, k2, k3, k4⟩ := tr.facts hc ok hG i (by omega)
  obtain ⟨q1, q2⟩ := tr.pres hc ok hG (i := i) (j := m) (by omega) (by omega)
  obtain ⟨r1, r2⟩ := tr.pres hc ok hG (i := i + 1) (j := m) (by omega) (by omega)
  obtain ⟨s1, s2⟩ := tr.pres1 hc ok hG (i := i) (by omega)
  obtain ⟨z1, z2⟩ := tr.pres hc ok hG (i := 0) (j := i) (by omega) (by omega)
  obtain ⟨y1, y2, y3⟩ := tr.h0
  have hmm := tr.hm
  rw [hlen] at hmm
  obtain ⟨f1, f2, f3⟩ := hmm
  -- the heap as the text's order has it before this operation
  have hold : ∀ b, b < (hs i).next → h'.blks.get b = (hs i).blks.get b := fun b hb => by rw [← f1]; exact q2 b hb
  have hri : HR E φ1 (hs i).blks.get w := inv.hr.sub fun b B _ hb => by
    rw [hold b (get_lt k1 hb)]; exact hb
  have hagree := inv_agree hm hap hd tr inv hi him ho
  rw [step1V_congr hagree] at hv
  -- new numbers are free
  have hfresh : ∀ b, (bump (hs i)).next ≤ b → b < h1.next → φ1 b = none := fun b hb1 hb2 => by
    cases hx : φ1 b with
    | none => rfl
    | some x =>
      simp only [bump] at hb1
      rcases inv.dom b x hx with h3 | ⟨j, hjm, hlj, hj1, hj2⟩
      · rw [hf b (by omega) (by omega)] at h3; cases h3
      · have hji : j ≠ i := fun e => by rw [e, hun'] at hlj; cases hlj
        rcases Nat.lt_or_gt_of_ne hji with h2 | h2
        · have := (tr.pres hc ok hG (i := j + 1) (j := i) (by omega) (by omega)).1
          omega
        · have := (tr.pres hc ok hG (i := i + 1) (j := j) (by omega) (by omega)).1
          omega
  have hgo := step1V_sound hE hc (h := bump (hs i)) (h' := h1) (φ := φ1) (w := w) k1 k2 hri inv.fr hv hfresh (K := K) (Q := Q) (fun v' w' hg => ?_)
  · unfold wpOp
    rw [ho]
    simp only
    split
    · rename_i hw; rw [if_pos hw] at hgo; exact .inl hgo
    · rename_i hw; rw [if_neg hw] at hgo; exact hgo
  · obtain ⟨φ2, hvr, hr2, x2⟩ := hg
    obtain ⟨αL', hpL⟩ := put_some hp αL
    have hlivei : ∀ b, live (bump (hs i)) b = true → b < (hs i).next ∧ live h' b = true := fun b hl => by
      have hb := live_lt (h := bump (hs i)) k1 hl
      refine ⟨hb, ?_⟩
      unfold live at hl ⊢
      rw [hold b hb]; exact hl
    have hnew : ∀ b, b < (hs (i + 1)).next → h'.blks.get b = h1.blks.get b := fun b hb => by rw [← f1, ← e1]; exact r2 b hb
    have holdlive : ∀ b, b < h.next → live h' b = true → live h b = true := fun b hb hl => by
      unfold live at hl ⊢
      rw [hold b (by omega), z2 b (by omega), y1] at hl
      exact hl
    -- what is made behind this operation, and lies with what is frozen, waits for it
    have hordc : ∀ b k x, ¬ b < (hs (i + 1)).next → b < h'.next → E.frz b = true → E.frz k = true → (hs i).next ≤ k → k < (hs (i + 1)).next → φ1 b = some x → False := fun b k x hbn hbh hfb hfk g1 g2 hx => by
      rcases inv.dom b x hx with h3 | ⟨j, hjm, hlj, hj1, hj2⟩
      · rw [hf b (by omega) hbh] at h3; cases h3
      · have hji : j ≠ i := fun e => by rw [e, hun'] at hlj; cases hlj
        rcases Nat.lt_or_gt_of_ne hji with h2 | h2
        · have := (tr.pres hc ok hG (i := j + 1) (j := i) (by omega) (by omega)).1
          omega
        · obtain ⟨oj, hoj, hwj⟩ := inv.ord i j k b h2 hjm hfk hfb g1 g2 hj1 hj2
          rw [nth_eq] at hoj
          have hoj' : ops[j]? = some oj := by simpa using hoj
          obtain ⟨e, he, hb, hon⟩ := waits_spec hwj
          have := inv.head.closed j oj hoj' hlj e he hb
          rw [hon, hun'] at this; cases this
    refine hK _ _ φ2 αL' ⟨inv.head.set hi him, (inv.fr.mono x2.le).put hpL hvr, fun j oj t hjm hoj hlj hdj => ?_, fun t ht => ?_, ⟨fun b cells size es hb x hx => ?_, fun b1 b2 x1 x2' c1 s1 e1' c2 s2 e2' hG1 hb1 hb2 hx1 hx2 he => ?_, fun b cells size es hlt hlN hb => ?_, fun b1 b2 x1 x2' c1 s1 e1' c2 s2 e2' hf1 hf2 hb12 hb1 hb2 hx1 hx2 he => ?_, ⟨fun b l hb x hx => ?_, fun b1 b2 l1 l2 x1 x2' hb1 hb2 hx1 hx2 he => ?_⟩⟩,
      ⟨fun b x hx => x2.le _ _ (inv.ext.le b x hx), fun b x hx => ?_, fun b x hx h0 => ?_, x2.os.trans inv.ext.os, x2.tape.trans inv.ext.tape, x2.output.trans inv.ext.output, Nat.le_trans inv.ext.size x2.size, fun c hcl hno => ?_, fun hs => Nat.le_trans (inv.ext.drawn hs) (x2.drawn hs)⟩, fun b x hx => ?_, inv.ord⟩
    · -- star1
      rw [put_get hpL]
      by_cases hji : j = i
      · subst hji
        rw [ho] at hoj
        injection hoj with hoj
        rw [if_pos (by rw [hoj]; exact hdj)]
      · have hlj' : listed.getD j false = true := by rwa [getD_set_ne false (Ne.symm hji)] at hlj
        have hne := dsts_ne hd hji (by rw [take_get hjm]; exact hoj) hol hdj
        rw [if_neg hne]
        exact inv.star1 j oj t hjm hoj hlj' hdj
    · -- star0
      have hni : o.dst ≠ some t := ht i o him ho (by
        have : i < listed.size := by rw [inv.head.size]; exact (Array.getElem?_eq_some_iff.1 ho).1
        simp [this])
      rw [put_get hpL, if_neg hni]
      refine inv.star0 t fun j oj hjm hoj hlj => ht j oj hjm hoj (getD_set_true hlj)
    · -- blk
      by_cases hbn : b < (hs (i + 1)).next
      · exact hr2.blk b cells size es (by rw [← hnew b hbn]; exact hb) x hx
      · have hx1 : φ1 b = some x := by
          rcases x2.dom b x hx with h3 | ⟨_, _, h3⟩
          · exact h3
          · exfalso; omega
        obtain ⟨c, sh, es', top⟩ := x
        obtain ⟨g1, cs, ty, fr, g2, gfr, g3, g4, g5⟩ := inv.hr.blk b cells size es hb _ hx1
        refine ⟨g1, cs, ty, fr, ?_, gfr, g3, g4, fun j hj => ?_⟩
        · rw [x2.frame c (inv.hr.lt hb hx1) fun b0 x0 hl0 hG0 hx0 he0 => ?_]
          · exact g2
          · obtain ⟨hb0, hl0'⟩ := hlivei b0 hl0
            obtain ⟨_, _, _, hb0'⟩ := inv.hr.kindC hl0' hb hx0 hx1 he0
            rcases inv.hr.inj b0 b _ _ _ _ _ _ _ _ hG0 hb0' hb hx0 hx1 he0 with h3 | ⟨h3, h4⟩
            · exfalso; omega
            · refine ⟨h3, fun k hk g6 g7 => ?_⟩
              simp only [bump] at g6
              have hbh := get_lt (tr.ae hc ok hG).ok hb
              exact hordc b k _ hbn hbh h4 hk g6 (by rw [e2]; exact g7) hx1
        · obtain ⟨v, v'', w1, w2, w3⟩ := g5 j hj
          exact ⟨v, v'', w1, w2, w3.mono x2.le⟩
    · -- inj
      by_cases hn1 : b1 < (hs (i + 1)).next
      · by_cases hn2 : b2 < (hs (i + 1)).next
        · exact hr2.inj b1 b2 x1 x2' _ _ _ _ _ _ hG1 (by rw [← hnew b1 hn1]; exact hb1) (by rw [← hnew b2 hn2]; exact hb2) hx1 hx2 he
        · have hy2 : φ1 b2 = some x2' := by
            rcases x2.dom b2 x2' hx2 with h3 | ⟨_, _, h3⟩
            · exact h3
            · exfalso; omega
          cases hy1 : φ1 b1 with
          | some y =>
            have := x2.le _ _ hy1
            rw [hx1] at this
            injection this with this
            subst this
            exact inv.hr.inj b1 b2 _ _ _ _ _ _ _ _ hG1 hb1 hb2 hy1 hy2 he
          | none =>
            rcases x2.src b1 x1 hx1 hy1 with h3 | ⟨b0, x0, hl0, hG0, hx0, he0, hfz⟩
            · have := inv.hr.lt hb2 hy2
              exfalso; omega
            · obtain ⟨hb0, hl0'⟩ := hlivei b0 hl0
              obtain ⟨_, _, _, hb0'⟩ := inv.hr.kindC hl0' hb2 hx0 hy2 (he0.trans he)
              rcases inv.hr.inj b0 b2 _ _ _ _ _ _ _ _ hG0 hb0' hb2 hx0 hy2 (he0.trans he) with h4 | ⟨h4, h5⟩
              · exfalso; omega
              · exact .inr ⟨hfz h4, h5⟩
      · have hy1 : φ1 b1 = some x1 := by
          rcases x2.dom b1 x1 hx1 with h3 | ⟨_, _, h3⟩
          · exact h3
          · exfalso; omega
        by_cases hn2 : b2 < (hs (i + 1)).next
        · cases hy2 : φ1 b2 with
          | some y =>
            have := x2.le _ _ hy2
            rw [hx2] at this
            injection this with this
            subst this
            exact inv.hr.inj b1 b2 _ _ _ _ _ _ _ _ hG1 hb1 hb2 hy1 hy2 he
          | none =>
            rcases x2.src b2 x2' hx2 hy2 with h3 | ⟨b0, x0, hl0, hG0, hx0, he0, hfz⟩
            · have := inv.hr.lt hb1 hy1
              exfalso; omega
            · obtain ⟨hb0, hl0'⟩ := hlivei b0 hl0
              obtain ⟨_, _, _, hb0'⟩ := inv.hr.kindC hl0' hb1 hx0 hy1 (he0.trans he.symm)
              rcases inv.hr.inj b0 b1 _ _ _ _ _ _ _ _ hG0 hb0' hb1 hx0 hy1 (he0.trans he.symm) with h4 | ⟨h4, h5⟩
              · exfalso; omega
              · exact .inr ⟨h5, hfz h4⟩
        · have hy2 : φ1 b2 = some x2' := by
            rcases x2.dom b2 x2' hx2 with h3 | ⟨_, _, h3⟩
            · exact h3
            · exfalso; omega
          exact inv.hr.inj b1 b2 _ _ _ _ _ _ _ _ hG1 hb1 hb2 hy1 hy2 he
    · obtain ⟨es', top, h3⟩ := inv.hr.glob b cells size es hlt hlN hb
      exact ⟨es', top, x2.le _ _ h3⟩
    · -- mono
      have hbh := get_lt (tr.ae hc ok hG).ok hb2
      by_cases hn2 : b2 < (hs (i + 1)).next
      · exact hr2.mono b1 b2 x1 x2' _ _ _ _ _ _ hf1 hf2 hb12 (by rw [← hnew b1 (by omega)]; exact hb1) (by rw [← hnew b2 hn2]; exact hb2) hx1 hx2 he
      · have hy2 : φ1 b2 = some x2' := by
          rcases x2.dom b2 x2' hx2 with h3 | ⟨_, _, h3⟩
          · exact h3
          · exfalso; omega
        have hy1 : φ1 b1 = some x1 := by
          rcases x2.dom b1 x1 hx1 with h3 | ⟨_, h3, h4⟩
          · exact h3
          · exfalso
            simp only [bump] at h3
            exact hordc b2 b1 x2' hn2 hbh hf2 hf1 h3 (by rw [e2]; exact h4) hy2
        exact inv.hr.mono b1 b2 x1 x2' _ _ _ _ _ _ hf1 hf2 hb12 hb1 hb2 hy1 hy2 he
    · -- maps
      by_cases hbn : b < (hs (i + 1)).next
      · exact hr2.mp.blk b l (by rw [← hnew b hbn]; exact hb) x hx
      · have hx1 : φ1 b = some x := by
          rcases x2.dom b x hx with h3 | ⟨_, _, h3⟩
          · exact h3
          · exfalso; omega
        obtain ⟨es, clk, g1, g2⟩ := inv.hr.mp.blk b l hb x hx1
        refine ⟨es, clk, ?_, g2.mono x2.le⟩
        rw [x2.frame x.1 (inv.hr.mp.lt hb hx1) fun b0 x0 hl0 hG0 hx0 he0 => False.elim ?_]
        · exact g1
        · obtain ⟨hb0, hl0'⟩ := hlivei b0 hl0
          obtain ⟨l0, hb0'⟩ := inv.hr.kindM hl0' hb hx0 hx1 he0
          have := inv.hr.mp.inj b0 b _ _ _ _ hb0' hb hx0 hx1 he0
          omega
    · -- maps lie apart
      by_cases hn1 : b1 < (hs (i + 1)).next
      · by_cases hn2 : b2 < (hs (i + 1)).next
        · exact hr2.mp.inj b1 b2 _ _ x1 x2' (by rw [← hnew b1 hn1]; exact hb1) (by rw [← hnew b2 hn2]; exact hb2) hx1 hx2 he
        · have hy2 : φ1 b2 = some x2' := by
            rcases x2.dom b2 x2' hx2 with h3 | ⟨_, _, h3⟩
            · exact h3
            · exfalso; omega
          cases hy1 : φ1 b1 with
          | some y =>
            have := x2.le _ _ hy1
            rw [hx1] at this
            injection this with this
            subst this
            exact inv.hr.mp.inj b1 b2 _ _ _ _ hb1 hb2 hy1 hy2 he
          | none =>
            rcases x2.src b1 x1 hx1 hy1 with h3 | ⟨b0, x0, hl0, hG0, hx0, he0, hfz⟩
            · have := inv.hr.mp.lt hb2 hy2
              exfalso; omega
            · obtain ⟨hb0, hl0'⟩ := hlivei b0 hl0
              obtain ⟨_, hb0'⟩ := inv.hr.kindM hl0' hb2 hx0 hy2 (he0.trans he)
              have := inv.hr.mp.inj b0 b2 _ _ _ _ hb0' hb2 hx0 hy2 (he0.trans he)
              exfalso; omega
      · have hy1 : φ1 b1 = some x1 := by
          rcases x2.dom b1 x1 hx1 with h3 | ⟨_, _, h3⟩
          · exact h3
          · exfalso; omega
        by_cases hn2 : b2 < (hs (i + 1)).next
        · cases hy2 : φ1 b2 with
          | some y =>
            have := x2.le _ _ hy2
            rw [hx2] at this
            injection this with this
            subst this
            exact inv.hr.mp.inj b1 b2 _ _ _ _ hb1 hb2 hy1 hy2 he
          | none =>
            rcases x2.src b2 x2' hx2 hy2 with h3 | ⟨b0, x0, hl0, hG0, hx0, he0, hfz⟩
            · have := inv.hr.mp.lt hb1 hy1
              exfalso; omega
            · obtain ⟨hb0, hl0'⟩ := hlivei b0 hl0
              obtain ⟨_, hb0'⟩ := inv.hr.kindM hl0' hb1 hx0 hy1 (he0.trans he.symm)
              have := inv.hr.mp.inj b0 b1 _ _ _ _ hb0' hb1 hx0 hy1 (he0.trans he.symm)
              exfalso; omega
        · have hy2 : φ1 b2 = some x2' := by
            rcases x2.dom b2 x2' hx2 with h3 | ⟨_, _, h3⟩
            · exact h3
            · exfalso; omega
          exact inv.hr.mp.inj b1 b2 _ _ _ _ hb1 hb2 hy1 hy2 he
    · -- dom of Ext
      rcases x2.dom b x hx with h3 | ⟨h3, h4, h5⟩
      · exact inv.ext.dom b x h3
      · simp only [bump] at h4
        refine .inr ⟨?_, by omega, by omega⟩
        cases h6 : φ b with
        | none => rfl
        | some y => rw [inv.ext.le _ _ h6] at h3; cases h3
    · -- src
      cases h3 : φ1 b with
      | some y =>
        have := x2.le _ _ h3
        rw [hx] at this
        injection this with this
        subst this
        exact inv.ext.src b x h3 h0
      | none =>
        rcases x2.src b x hx h3 with h4 | ⟨b0, x0, hl0, hG0, hx0, he0, hfz⟩
        · exact .inl (Nat.le_trans inv.ext.size h4)
        · obtain ⟨hb0, hl0'⟩ := hlivei b0 hl0
          cases h5 : φ b0 with
          | some y =>
            have := inv.ext.le _ _ h5
            rw [hx0] at this
            injection this with this
            subst this
            have hb0h : b0 < h.next := by
              rcases Nat.lt_or_ge b0 h.next with h6 | h6
              · exact h6
              · rw [hf b0 h6 (by omega)] at h5; cases h5
            exact .inr ⟨b0, x0, holdlive b0 hb0h hl0', hG0, h5, he0, hfz⟩
          | none =>
            rcases inv.ext.src b0 x0 hx0 h5 with h6 | ⟨b1, x1, g1, g2, g3, g4, g5⟩
            · exact .inl (he0 ▸ h6)
            · exact .inr ⟨b1, x1, g1, g2, g3, g4.trans he0, fun hh => hfz (g5 hh)⟩
    · -- frame
      rw [x2.frame c (Nat.lt_of_lt_of_le hcl inv.ext.size) fun b0 x0 hl0 hG0 hx0 he0 => ?_]
      · exact inv.ext.frame c hcl hno
      · obtain ⟨hb0, hl0'⟩ := hlivei b0 hl0
        cases h5 : φ b0 with
        | some y =>
          have := inv.ext.le _ _ h5
          rw [hx0] at this
          injection this with this
          subst this
          have hb0h : b0 < h.next := by
            rcases Nat.lt_or_ge b0 h.next with h6 | h6
            · exact h6
            · rw [hf b0 h6 (by omega)] at h5; cases h5
          obtain ⟨g6, g7⟩ := hno b0 x0 (holdlive b0 hb0h hl0') hG0 h5 he0
          exact ⟨g6, fun k hk g8 g9 => g7 k hk (by simp only [bump] at g8; omega) (by omega)⟩
        | none =>
          rcases inv.ext.src b0 x0 hx0 h5 with h6 | ⟨b1, x1, g1, g2, g3, g4, g5⟩
          · omega
          · obtain ⟨g6, g7⟩ := hno b1 x1 g1 g2 g3 (g4.trans he0)
            exact ⟨g5 g6, fun k hk g8 g9 => g7 k hk (by simp only [bump] at g8; omega) (by omega)⟩
    · -- dom
      rcases x2.dom b x hx with h3 | ⟨h3, h4, h5⟩
      · rcases inv.dom b x h3 with h6 | ⟨j, g1, g2, g3, g4⟩
        · exact .inl h6
        · exact .inr ⟨j, g1, getD_set_true g2, g3, g4⟩
      · refine .inr ⟨i, him, ?_, h4, by omega⟩
        have : i < listed.size := by rw [inv.head.size]; exact (Array.getElem?_eq_some_iff.1 ho).1
        simp [this]
theorem countP_set {p q : Nat → Bool} {i : Nat} (hp : p i = true) (hq : q i = false) (hpq : ∀ j, j ≠ i → q j = p j) : ∀ {l : List Nat}, l.Nodup → i ∈ l → l.countP p = l.countP q + 1
  | [], _, h => by cases h
  | x :: l, hn, h => by
    rw [List.nodup_cons] at hn
    by_cases hx : x = i
    · subst hx
      have : l.countP p = l.countP q := by
        apply List.countP_congr
        intro y hy
        have : y ≠ x := fun e => hn.1 (e ▸ hy)
        rw [hpq y this]
      rw [List.countP_cons, List.countP_cons, this, hp, hq]; simp
    · have hi : i ∈ l := by
        rcases List.mem_cons.1 h with h1 | h1
        · exact absurd h1.symm hx
        · exact h1
      have ih := countP_set hp hq hpq hn.2 hi
      rw [List.countP_cons, List.countP_cons, ih, hpq x hx]
      omega

def todo (m : Nat) (listed : Array Bool) : Nat := (List.range m).countP fun i => !listed.getD i false

theorem edges_of {ops : Array Oper} (h : edgesBack ops = true) {j : Nat} {o : Oper} (ho : ops[j]? = some o) : ∀ e ∈ o.after, Region.binds .any e = true → e.on < j := by
  intro e he hb
  have hj : j < ops.size := (Array.getElem?_eq_some_iff.1 ho).1
  have h1 := List.all_eq_true.1 h j (List.mem_range.2 hj)
  rw [nth_eq] at h1
  have ho' : ops.toList[j]? = some o := by simpa using ho
  rw [ho'] at h1
  have h2 := List.all_eq_true.1 h1 e (by simpa using he)
  simpa [hb] using h2

theorem least_unlisted {listed : Array Bool} : ∀ {m : Nat}, 0 < todo m listed → ∃ i, i < m ∧ listed.getD i false = false ∧ ∀ j, j < i → listed.getD j false = true
  | 0, h => by simp [todo] at h
  | m + 1, h => by
    by_cases h0 : 0 < todo m listed
    · obtain ⟨i, h1, h2, h3⟩ := least_unlisted h0
      exact ⟨i, by omega, h2, h3⟩
    · have hz : todo m listed = 0 := by omega
      have hall : ∀ j, j < m → listed.getD j false = true := fun j hj => by
        unfold todo at hz
        rw [List.countP_eq_zero] at hz
        have := hz j (List.mem_range.2 hj)
        simpa using this
      refine ⟨m, by omega, ?_, hall⟩
      unfold todo at h hz
      rw [List.range_succ, List.countP_append, hz] at h
      cases hb : listed.getD m false with
      | false => rfl
      | true => exfalso; simp only [List.countP_cons, List.countP_nil, hb] at h; simp at h

end Go.Proofs.YtngpoamjhngcgaaGreatDoor.Ev

/- Operations that look at no memory, taken first in a region that draws. -/
namespace Go.Proofs.YtngpoamjhngcgaaGreatDoor.Ev
open Go
variable {P : Program} {E : Env}

theorem tail_waits' {ops : Array Oper} {F : List Nat} {n : Nat} {listed : Array Bool} (hs : sinkFB ops F n = true) (hF : ∀ i ∈ F, listed.getD i false = true) (hc : Region.chainB .any ops n = true) (hn : n < ops.size) (inv : HeadInv .any ops n listed) :
    ∀ (d i : Nat), n - i = d → i < n → listed.getD i true = false → ∀ t, n ≤ t → t ∉ Region.ready .any ops listed := by
  intro d
  induction d using Nat.strongRecOn with
  | _ d ih =>
    intro i hd hi hun t ht hr
    obtain ⟨_, ot, hot, hall⟩ := mem_ready.1 hr
    have htlt : t < ops.size := (Array.getElem?_eq_some_iff.1 hot).1
    by_cases htn : t = n
    · subst htn
      have h1 := List.all_eq_true.1 hs i (List.mem_range.2 hi)
      simp only [Bool.or_eq_true] at h1
      have hiF : ¬ F.contains i = true := fun h => by
        have := hF i (by simpa using h)
        rw [getD_both hun] at this; cases this
      obtain ⟨j, hj, hj2⟩ := List.any_eq_true.1 (h1.resolve_left hiF)
      simp only [Bool.and_eq_true, decide_eq_true_eq] at hj2
      obtain ⟨oj, hoj, e, he, hb, hon⟩ := Region.waitsFor_spec hj2.2
      have hjle : j ≤ t := by have := List.mem_range.1 hj; omega
      by_cases hjt : j = t
      · subst hjt
        have : oj = ot := Option.some.inj (hoj.symm.trans hot)
        subst this
        have h2 := hall e he hb
        rw [hon, getD_both hun] at h2
        cases h2
      · cases hl : listed.getD j false with
        | true =>
          have h2 := inv.closed j oj hoj hl e he hb
          rw [hon, getD_both hun] at h2
          cases h2
        | false =>
          have hjs : j < listed.size := by rw [inv.size]; omega
          exact ih (t - j) (by omega) j rfl (by omega) (getD_in hjs hl) t (Nat.le_refl _) hr
    · have h1 := List.all_eq_true.1 hc t (List.mem_range.2 htlt)
      simp only [Bool.or_eq_true, decide_eq_true_eq] at h1
      rcases h1 with h1 | h1
      · omega
      · obtain ⟨o', ho', e, he, hb, hon⟩ := Region.waitsFor_spec h1
        have : o' = ot := Option.some.inj (ho'.symm.trans hot)
        subst this
        have h2 := hall e he hb
        rw [hon, getD_both (inv.tail (t - 1) (by omega) (by omega))] at h2
        cases h2

/-- what such an operation gives, in whatever world -/
theorem free_yields (hE : EnvOK P E) {call : Callf} {φ : Phi} {w : World} {h : H} (hr : HR E φ h.blks.get w) {α : Tr Value} {a : Act} {n : Nat} (hF : FR φ α a n) {o : Oper} (ho : freeOp o.op = true) {v : Value} {h' : H} (hs : evOp P E call h α o = some (v, h')) :
    h' = h ∧ ∃ v', VR φ v v' ∧ ∀ w', (execOp a.eval o).run P w' = .ok (.value v') w' := by
  rw [evOp_eq] at hs
  unfold evOpS at hs
  cases hop : o.op <;> rw [hop] at ho <;> first | (simp [freeOp] at ho; done) | skip
  case move x =>
    simp only [hop] at hs
    obtain ⟨hv, rfl⟩ := asV_some hs
    exact ⟨rfl, a.eval x, ev_sound hr hF hv, fun w' => by simp only [execOp, hop, Sem.run_pure]⟩
  case assign x =>
    simp only [hop] at hs
    obtain ⟨hv, rfl⟩ := asV_some hs
    exact ⟨rfl, a.eval x, ev_sound hr hF hv, fun w' => by simp only [execOp, hop, Sem.run_pure]⟩
  case indexAddr t x i =>
    simp only [hop] at hs
    split at hs
    · rename_i u z hu hz
      obtain ⟨hv, rfl⟩ := asV_some hs
      obtain ⟨v', hrun, hvr⟩ := evIndexAddr_sound (P := P) (w := w) hE hv (ev_sound hr hF hu) (ev_sound hr hF hz)
      refine ⟨rfl, v', hvr, fun w' => ?_⟩
      obtain ⟨v'', hrun', hvr'⟩ := evIndexAddr_sound (P := P) (w := w') hE hv (ev_sound hr hF hu) (ev_sound hr hF hz)
      have hptr : ∃ b off, v = .pointer (some ⟨b, off, none⟩) := by
        unfold evIndexAddr at hv
        simp only [forceN_eq] at hv
        repeat' split at hv
        all_goals first
          | (cases hv; done)
          | (injection hv with hv; exact ⟨_, _, hv.symm⟩)
      obtain ⟨b, off, rfl⟩ := hptr
      have e : v'' = v' := by
        cases hvr with
        | ptr h1 => cases hvr' with
          | ptr h2 => rw [h1] at h2; injection h2 with h2; cases h2; rfl
      rw [e] at hrun'
      simp only [execOp, hop, Sem.run_bind, hrun', Result.andThen_ok, Sem.run_pure]
    · cases hs
  case fieldAddr t x f =>
    simp only [hop] at hs
    split at hs
    · rename_i u hu
      obtain ⟨hv, rfl⟩ := asV_some hs
      obtain ⟨v', hrun, hvr⟩ := evFieldAddr_sound (P := P) (w := w) hE hv (ev_sound hr hF hu)
      refine ⟨rfl, v', hvr, fun w' => ?_⟩
      obtain ⟨v'', hrun', hvr'⟩ := evFieldAddr_sound (P := P) (w := w') hE hv (ev_sound hr hF hu)
      have hptr : ∃ b off, v = .pointer (some ⟨b, off, none⟩) := by
        unfold evFieldAddr at hv
        simp only [forceN_eq] at hv
        repeat' split at hv
        all_goals first
          | (cases hv; done)
          | (injection hv with hv; exact ⟨_, _, hv.symm⟩)
      obtain ⟨b, off, rfl⟩ := hptr
      have e : v'' = v' := by
        cases hvr with
        | ptr h1 => cases hvr' with
          | ptr h2 => rw [h1] at h2; injection h2 with h2; cases h2; rfl
      rw [e] at hrun'
      simp only [execOp, hop, Sem.run_bind, hrun', Result.andThen_ok, Sem.run_pure]
    · cases hs
  case binOp op t x y t' =>
    simp only [hop] at hs
    split at hs
    · rename_i u z hu hz
      by_cases hp : (plainA u && plainA z) = true
      · rw [if_pos hp] at hs
        obtain ⟨hv, rfl⟩ := asV_some hs
        simp only [Bool.and_eq_true] at hp
        have eu := (ev_sound hr hF hu).plainA hp.1
        have ez := (ev_sound hr hF hz).plainA hp.2
        have hbin : binPlain P op u z a.eval o = some v := by
          unfold binPlain at hv ⊢
          cases hf : fastBin op u z with
          | some r => rw [hf] at hv; exact hv
          | none =>
            rw [hf] at hv
            simp only at hv ⊢
            have ee : execOp (fun z => (ev E h' α z).getD undef) o = execOp a.eval o := by
              simp only [execOp, hop, hu, hz, Option.getD_some, eu, ez]
            unfold plainOp at hv ⊢
            rw [ee] at hv
            exact hv
        obtain ⟨hpl, hrun⟩ := binPlain_some hop eu ez hbin
        exact ⟨rfl, v, VR.of_plain hpl, hrun⟩
      · rw [if_neg hp] at hs
        cases op <;> first | (simp [freeOp] at ho; done) | cases hs
    · cases hs

theorem freeFrom_mono {ops : List Oper} : ∀ (k i : Nat) (F : List Nat) (j : Nat), j ∈ F → j ∈ freeFrom ops k i F
  | 0, _, _, _, h => h
  | k + 1, i, F, j, h => by
    simp only [freeFrom]
    split
    · rw [forceN_eq]
      split
      · exact freeFrom_mono k _ _ j (List.mem_cons_of_mem _ h)
      · exact freeFrom_mono k _ _ j h
    · exact h

/-- taken first -/
theorem free_steps (hE : EnvOK P E) {call : Callf} (hc : CallOK P E call) {n m : Nat} {ops : Array Oper} {h h' : H} {α α' : Tr Value} {hs : Nat → H} {αs : Nat → Tr Value} {vs : Nat → Value} {φ : Phi} {w0 : World} (ok : Hok h) (hG : E.G ≤ h.next) (hm : m ≤ ops.size)
    (hap : allApart ops (ops.toList.take m) = true) (hd : dstsApart (ops.toList.take m) = true) (hsel : Region.noSelect ops = true) (tr : Trace P E call n ops.toList (ops.toList.take m) h α h' α' hs αs vs) (Q : Exit → Act → World → Prop)
    (hQp : ∀ c a w, ¬ Q (.panic c) a w) {w : World} : ∀ (k i : Nat) (F : List Nat) (listed : Array Bool) (a : Act) (φ1 : Phi) (αL : Tr Value), i + k = m → Inv E n m ops h α h' hs vs φ w0 listed a w φ1 αL →
      (∀ j, listed.getD j false = true ↔ j ∈ F) → (∀ j ∈ F, j < i) → freeOK ops (freeFrom ops.toList k i F) = true →
      (∀ (listed' : Array Bool) (a' : Act) (αL' : Tr Value), Inv E n m ops h α h' hs vs φ w0 listed' a' w φ1 αL' → (∀ j ∈ freeFrom ops.toList k i F, listed'.getD j false = true) → wpAny P .any ops Q (todo m listed' + (ops.size - m)) listed' a' w) →
      wpAny P .any ops Q (todo m listed + (ops.size - m)) listed a w
  | 0, i, F, listed, a, φ1, αL, _, inv, hl, _, _, hfin => hfin listed a αL inv fun j hj => (hl j).2 hj
  | k + 1, i, F, listed, a, φ1, αL, hik, inv, hl, hlt, hok, hfin => by
    have hlen : (ops.toList.take m).length = m := by simp; omega
    have him : i < m := by omega
    have hio : ops.toList[i]? = some (ops[i]'(by omega)) := by rw [List.getElem?_eq_getElem (by simpa using (by omega : i < ops.size))]; simp
    have hos : ops[i]? = some (ops[i]'(by omega)) := Array.getElem?_eq_getElem (by omega)
    generalize ops[i]'(by omega) = o at hio hos
    simp only [freeFrom, nth_eq, hio, forceN_eq] at hok hfin
    by_cases hb : freeB o F = true
    · rw [if_pos hb] at hok hfin
      have hb' := hb
      simp only [freeB, Bool.and_eq_true, Option.isNone_iff_eq_none, List.all_eq_true, Bool.or_eq_true, Bool.not_eq_true'] at hb'
      obtain ⟨⟨hfo, hg⟩, hedge⟩ := hb'
      have hun : listed.getD i false = false := by
        cases hx : listed.getD i false with
        | false => rfl
        | true => have := hlt i ((hl i).1 hx); omega
      have his : i < listed.size := by rw [inv.head.size]; exact (Array.getElem?_eq_some_iff.1 hos).1
      have hready : i ∈ Region.ready .any ops listed := by
        refine mem_ready.2 ⟨getD_in his hun, o, hos, fun e he hbd => ?_⟩
        rcases hedge e (by simpa using he) with h1 | h1
        · rw [hbd] at h1; cases h1
        · exact (hl e.on).2 (by simpa using h1)
      -- what it gives
      have hol : (ops.toList.take m)[i]? = some o := by rw [take_get him]; exact hos
      obtain ⟨h1, hv, hp, hle, e1, e2, e3⟩ := tr.step i o hol
      obtain ⟨k1, k2, k3, k4⟩ := tr.facts hc ok hG i (by omega)
      obtain ⟨q1, q2⟩ := tr.pres hc ok hG (i := i) (j := m) (by omega) (by omega)
      have hmm := tr.hm
      rw [hlen] at hmm
      obtain ⟨f1, f2, f3⟩ := hmm
      have hold : ∀ b, b < (hs i).next → h'.blks.get b = (hs i).blks.get b := fun b hb => by rw [← f1]; exact q2 b hb
      have hri : HR E φ1 (hs i).blks.get w := inv.hr.sub fun b B _ hb => by
        rw [hold b (get_lt k1 hb)]; exact hb
      have hagree := inv_agree hm hap hd tr inv hready him hos
      rw [step1V_congr hagree] at hv
      have hvop : evOp P E call (bump (hs i)) αL o = some (vs i, h1) := by
        unfold step1V wantedA at hv
        rw [hg] at hv
        exact hv
      obtain ⟨rfl, v', hvr, hrun⟩ := free_yields hE (h := bump (hs i)) (w := w) hri inv.fr hfo hvop
      obtain ⟨αL', hpL⟩ := put_some hp αL
      have hmem : i ∈ freeFrom ops.toList k (i + 1) (i :: F) := freeFrom_mono _ _ _ _ List.mem_cons_self
      have htodo : todo m listed = todo m (listed.setIfInBounds i true) + 1 := by
        unfold todo
        exact countP_set (p := fun j => !listed.getD j false) (q := fun j => !(listed.setIfInBounds i true).getD j false) (i := i) (by simp only [hun]; rfl) (by simp [his]) (fun j hj => by rw [getD_set_ne false (Ne.symm hj)]) (List.nodup_range (n := m)) (List.mem_range.2 him)
      rw [htodo, show todo m (listed.setIfInBounds i true) + 1 + (ops.size - m) = (todo m (listed.setIfInBounds i true) + (ops.size - m)) + 1 by omega]
      refine wpAny_first hos (Region.noSelect_spec hsel) (fun c a w hq => absurd hq (hQp _ _ _)) _ listed a w (fun j oj hj hji hunj hne => ?_) hready (.inl ⟨by unfold Region.wanted; rw [hg], hrun⟩) ?_
      · have hx := List.all_eq_true.1 hok i hmem
        have hjlt : j < ops.size := (Array.getElem?_eq_some_iff.1 hj).1
        have hy := List.all_eq_true.1 hx j (List.mem_range.2 hjlt)
        have hj' : ops.toList[j]? = some oj := by simpa using hj
        simp only [nth_eq, hio, hj', Bool.or_eq_true, beq_iff_eq] at hy
        rcases hy with hy | (hy | hy) | hy
        · exact absurd hy hji
        · obtain ⟨e, he, hbd, hon⟩ := waits_spec hy
          exact absurd hon (hne e he hbd)
        · obtain ⟨e, he, hbd, hon⟩ := waits_spec hy
          have := (mem_ready.1 hready).2
          obtain ⟨o2, ho2, hall2⟩ := this
          obtain rfl : o2 = o := Option.some.inj (ho2.symm.trans hos)
          have := hall2 e he hbd
          rw [hon, getD_both hunj] at this
          cases this
        · exact hy
      · refine free_steps hE hc ok hG hm hap hd hsel tr Q hQp k (i + 1) (i :: F) _ _ φ1 αL' (by omega) ?_ (fun j => ?_) (fun j hj => ?_) hok hfin
        · refine ⟨inv.head.set hready him, inv.fr.put hpL hvr, fun j oj t hjm hoj hlj hdj => ?_, fun t ht => ?_, inv.hr, inv.ext, fun b x hx => ?_, inv.ord⟩
          · rw [put_get hpL]
            by_cases hji : j = i
            · subst hji
              rw [hos] at hoj
              injection hoj with hoj
              rw [if_pos (by rw [hoj]; exact hdj)]
            · have hlj' : listed.getD j false = true := by rwa [getD_set_ne false (Ne.symm hji)] at hlj
              have hne := dsts_ne hd hji (by rw [take_get hjm]; exact hoj) hol hdj
              rw [if_neg hne]
              exact inv.star1 j oj t hjm hoj hlj' hdj
          · have hni : o.dst ≠ some t := ht i o him hos (by simp [his])
            rw [put_get hpL, if_neg hni]
            exact inv.star0 t fun j oj hjm hoj hlj => ht j oj hjm hoj (getD_set_true hlj)
          · rcases inv.dom b x hx with h3 | ⟨j, hjm, hlj, hj1, hj2⟩
            · exact .inl h3
            · exact .inr ⟨j, hjm, getD_set_true hlj, hj1, hj2⟩
        · by_cases hji : j = i
          · subst hji; simp [his]
          · rw [getD_set_ne false (Ne.symm hji), hl j]
            simp [hji]
        · rcases List.mem_cons.1 hj with rfl | hj
          · omega
          · have := hlt j hj; omega
    · rw [if_neg hb] at hok hfin
      exact free_steps hE hc ok hG hm hap hd hsel tr Q hQp k (i + 1) F listed a φ1 αL (by omega) inv hl (fun j hj => by have := hlt j hj; omega) hok hfin
end Go.Proofs.YtngpoamjhngcgaaGreatDoor.Ev

/- Operations in any order, of which one may change what lay there before. -/
namespace Go.Proofs.YtngpoamjhngcgaaGreatDoor.Ev
open Go
variable {P : Program} {E : Env}

theorem HR.kindCg {φ : Phi} {g : Nat → Option Blk} {w : World} (hr : HR E φ g w) {b b0 : Nat} {B : Blk} (hB : B ≠ .dead) (hb0 : g b0 = some B) {cells : Tr Value} {size es : Nat} (hb : g b = some (.mk cells size es)) {x0 x : Nat × Nat × Nat × Nat} (hx0 : φ b0 = some x0) (hx : φ b = some x) (he : x0.1 = x.1) :
    ∃ cells size es, g b0 = some (.mk cells size es) := by
  cases B with
  | dead => exact absurd rfl hB
  | mk c s e => exact ⟨c, s, e, hb0⟩
  | mp l => exact absurd he.symm (hr.kind hb hb0 hx hx0)
theorem HR.kindMg {φ : Phi} {g : Nat → Option Blk} {w : World} (hr : HR E φ g w) {b b0 : Nat} {B : Blk} (hB : B ≠ .dead) (hb0 : g b0 = some B) {l : List (Value × Value)} (hb : g b = some (.mp l)) {x0 x : Nat × Nat × Nat × Nat} (hx0 : φ b0 = some x0) (hx : φ b = some x) (he : x0.1 = x.1) :
    ∃ l0, g b0 = some (.mp l0) := by
  cases B with
  | dead => exact absurd rfl hB
  | mk c s e => exact absurd he (hr.kind hb0 hb hx0 hx)
  | mp l => exact ⟨l, hb0⟩

theorem live_ofg {h : H} {b : Nat} {B : Blk} (hB : B ≠ .dead) (hb : h.blks.get b = some B) : live h b = true := by
  unfold live
  rw [hb]
  cases B with
  | dead => exact absurd rfl hB
  | mk c s e => rfl
  | mp l => rfl

/-- where a run in any order stands: g is what lies there now -/
structure InvG (E : Env) (n m : Nat) (ops : Array Oper) (h : H) (α : Tr Value) (h' : H) (nx : Nat → Nat) (g : Nat → Option Blk) (vs : Nat → Value) (φ : Phi) (w0 : World) (listed : Array Bool) (a : Act) (w : World) (φ1 : Phi) (αL : Tr Value) : Prop where
  head : HeadInv .any ops m listed
  fr : FR φ1 αL a n
  star1 : ∀ i o t, i < m → ops[i]? = some o → listed.getD i false = true → o.dst = some t → αL.get t = some (vs i)
  star0 : ∀ t, (∀ i o, i < m → ops[i]? = some o → listed.getD i false = true → o.dst ≠ some t) → αL.get t = α.get t
  hr : HR E φ1 g w
  ext : Ext E φ h w0 φ1 h' w
  dom : ∀ b x, φ1 b = some x → φ b = some x ∨ ∃ i, i < m ∧ listed.getD i false = true ∧ nx i ≤ b ∧ b < nx (i + 1)
  ord : ∀ i j k k', i < j → j < m → E.frz k = true → E.frz k' = true → nx i ≤ k → k < nx (i + 1) → nx j ≤ k' → k' < nx (j + 1) → ∃ oj, nth ops.toList j = some oj ∧ waits oj i = true

theorem inv_stepG (hE : EnvOK P E) {call : Callf} (hc : CallOK P E call) {n m : Nat} {ops : Array Oper} {h h' : H} {α : Tr Value} {nx : Nat → Nat} {vs : Nat → Value} {φ : Phi} {w0 : World} (hd : dstsApart (ops.toList.take m) = true)
    (mono : ∀ i j, i ≤ j → j ≤ m → nx i ≤ nx j) (n0 : h.next = nx 0) (nm : nx m = h'.next) (hf : ∀ b, h.next ≤ b → b < h'.next → φ b = none)
    {g g' : Nat → Option Blk} {q q1 : H} {listed : Array Bool} {a : Act} {w : World} {φ1 : Phi} {αL : Tr Value} (inv : InvG E n m ops h α h' nx g vs φ w0 listed a w φ1 αL) {i : Nat} (hi : i ∈ Region.ready .any ops listed) (him : i < m) {o : Oper} (ho : ops[i]? = some o)
    (okq : Hok q) (hGq : E.G ≤ q.next) (hq : q.next = nx i) (hqg : ∀ b, b < q.next → g b = q.blks.get b) (hrun : step1V P E call ops.toList q αL o = some (vs i, q1)) {αL' : Tr Value} (hpL : put n αL o.dst (vs i) = some αL')
    (hq1 : q1.next = nx (i + 1)) (hqg1 : ∀ b, b < q1.next → g' b = q1.blks.get b) (hgg : ∀ b, q1.next ≤ b → g' b = g b)
    (hgl : ∀ b B, g b = some B → b < h'.next) (hlv : ∀ b B, b < h.next → B ≠ .dead → g b = some B → live h b = true)
    (hsame : g' = g ∨ ∀ b, q1.next ≤ b → b < h'.next → E.frz b = false) {K : Act → World → Prop} {Q : Exit → Act → World → Prop}
    (hK : ∀ a' w' φ2, InvG E n m ops h α h' nx g' vs φ w0 (listed.setIfInBounds i true) a' w' φ2 αL' → K a' w') : wpOp P ops Q i K a w := by
  obtain ⟨hun, o', ho', hall⟩ := mem_ready.1 hi
  obtain rfl : o' = o := Option.some.inj (ho'.symm.trans ho)
  clear ho'
  have hun' := getD_false_of hun
  have hol : (ops.toList.take m)[i]? = some o' := by rw [take_get him]; exact ho
  have ae := step1V_ae hc okq hGq hrun
  have z1 := mono 0 i (by omega) (by omega)
  have s1 := mono i (i + 1) (by omega) (by omega)
  have r1 := mono (i + 1) m (by omega) (by omega)
  have hri : HR E φ1 q.blks.get w := inv.hr.sub fun b B _ hb => by
    rw [hqg b (get_lt okq hb)]; exact hb
  -- new numbers are free
  have hfresh : ∀ b, q.next ≤ b → b < q1.next → φ1 b = none := fun b hb1 hb2 => by
    cases hx : φ1 b with
    | none => rfl
    | some x =>
      rcases inv.dom b x hx with h3 | ⟨j, hjm, hlj, hj1, hj2⟩
      · rw [hf b (by omega) (by omega)] at h3; cases h3
      · have hji : j ≠ i := fun e => by rw [e, hun'] at hlj; cases hlj
        rcases Nat.lt_or_gt_of_ne hji with h2 | h2
        · have := mono (j + 1) i (by omega) (by omega)
          omega
        · have := mono (i + 1) j (by omega) (by omega)
          omega
  have hgo := step1V_sound hE hc (h := q) (h' := q1) (φ := φ1) (w := w) okq hGq hri inv.fr hrun hfresh (K := K) (Q := Q) (fun v' w' hg => ?_)
  · unfold wpOp
    rw [ho]
    simp only
    split
    · rename_i hw; rw [if_pos hw] at hgo; exact .inl hgo
    · rename_i hw; rw [if_neg hw] at hgo; exact hgo
  · obtain ⟨φ2, hvr, hr2, x2⟩ := hg
    have hlivei : ∀ b, live q b = true → b < nx i ∧ ∃ B, B ≠ .dead ∧ g b = some B := fun b hl => by
      have hb := live_lt okq hl
      obtain ⟨B, hB, hbB⟩ := live_get hl
      exact ⟨by omega, B, hB, by rw [hqg b hb]; exact hbB⟩
    -- what is there now, and was there, was alive before
    have hback : ∀ b B y, B ≠ .dead → g' b = some B → φ1 b = some y → ∃ B', B' ≠ .dead ∧ g b = some B' := fun b B y hB hb hy => by
      rcases Nat.lt_or_ge b q1.next with h3 | h3
      · rw [hqg1 b h3] at hb
        rcases Nat.lt_or_ge b q.next with h4 | h4
        · exact (hlivei b (ae.nolive b h4 (live_ofg hB hb))).2
        · rw [hfresh b h4 h3] at hy; cases hy
      · exact ⟨B, hB, by rw [← hgg b h3]; exact hb⟩
    -- what is made behind this operation, and lies with what is frozen, waits for it
    have hordc : ∀ b k x, ¬ b < q1.next → b < h'.next → E.frz b = true → E.frz k = true → nx i ≤ k → k < nx (i + 1) → φ1 b = some x → False := fun b k x hbn hbh hfb hfk g1 g2 hx => by
      rcases inv.dom b x hx with h3 | ⟨j, hjm, hlj, hj1, hj2⟩
      · rw [hf b (by omega) hbh] at h3; cases h3
      · have hji : j ≠ i := fun e => by rw [e, hun'] at hlj; cases hlj
        rcases Nat.lt_or_gt_of_ne hji with h2 | h2
        · have := mono (j + 1) i (by omega) (by omega)
          omega
        · obtain ⟨oj, hoj, hwj⟩ := inv.ord i j k b h2 hjm hfk hfb g1 g2 hj1 hj2
          rw [nth_eq] at hoj
          have hoj' : ops[j]? = some oj := by simpa using hoj
          obtain ⟨e, he, hb, hon⟩ := waits_spec hwj
          have := inv.head.closed j oj hoj' hlj e he hb
          rw [hon, hun'] at this; cases this
    have hold2 : ∀ b x, ¬ b < q1.next → φ2 b = some x → φ1 b = some x := fun b x hbn hx => by
      rcases x2.dom b x hx with h3 | ⟨_, _, h3⟩
      · exact h3
      · exfalso; omega
    refine hK _ _ φ2 ⟨inv.head.set hi him, (inv.fr.mono x2.le).put hpL hvr, fun j oj t hjm hoj hlj hdj => ?_, fun t ht => ?_, ⟨fun b cells size es hb x hx => ?_, fun b1 b2 x1 x2' c1 s1 e1' c2 s2 e2' hG1 hb1 hb2 hx1 hx2 he => ?_, fun b cells size es hlt hlN hb => ?_, fun b1 b2 x1 x2' c1 s1 e1' c2 s2 e2' hf1 hf2 hb12 hb1 hb2 hx1 hx2 he => ?_, ⟨fun b l hb x hx => ?_, fun b1 b2 l1 l2 x1 x2' hb1 hb2 hx1 hx2 he => ?_⟩⟩,
      ⟨fun b x hx => x2.le _ _ (inv.ext.le b x hx), fun b x hx => ?_, fun b x hx h0 => ?_, x2.os.trans inv.ext.os, x2.tape.trans inv.ext.tape, x2.output.trans inv.ext.output, Nat.le_trans inv.ext.size x2.size, fun c hcl hno => ?_, fun hs => Nat.le_trans (inv.ext.drawn hs) (x2.drawn hs)⟩, fun b x hx => ?_, inv.ord⟩
    · -- star1
      rw [put_get hpL]
      by_cases hji : j = i
      · subst hji
        rw [ho] at hoj
        injection hoj with hoj
        rw [if_pos (by rw [hoj]; exact hdj)]
      · have hlj' : listed.getD j false = true := by rwa [getD_set_ne false (Ne.symm hji)] at hlj
        have hne := dsts_ne hd hji (by rw [take_get hjm]; exact hoj) hol hdj
        rw [if_neg hne]
        exact inv.star1 j oj t hjm hoj hlj' hdj
    · -- star0
      have hni : o'.dst ≠ some t := ht i o' him ho (by
        have : i < listed.size := by rw [inv.head.size]; exact (Array.getElem?_eq_some_iff.1 ho).1
        simp [this])
      rw [put_get hpL, if_neg hni]
      refine inv.star0 t fun j oj hjm hoj hlj => ht j oj hjm hoj (getD_set_true hlj)
    · -- blk
      by_cases hbn : b < q1.next
      · exact hr2.blk b cells size es (by rw [← hqg1 b hbn]; exact hb) x hx
      · have hx1 : φ1 b = some x := hold2 b x hbn hx
        rw [hgg b (by omega)] at hb
        obtain ⟨c, sh, es', top⟩ := x
        obtain ⟨g1, cs, ty, fr, g2, gfr, g3, g4, g5⟩ := inv.hr.blk b cells size es hb _ hx1
        refine ⟨g1, cs, ty, fr, ?_, gfr, g3, g4, fun j hj => ?_⟩
        · rw [x2.frame c (inv.hr.lt hb hx1) fun b0 x0 hl0 hG0 hx0 he0 => ?_]
          · exact g2
          · obtain ⟨hb0, B, hB, hl0'⟩ := hlivei b0 hl0
            obtain ⟨_, _, _, hb0'⟩ := inv.hr.kindCg hB hl0' hb hx0 hx1 he0
            rcases inv.hr.inj b0 b _ _ _ _ _ _ _ _ hG0 hb0' hb hx0 hx1 he0 with h3 | ⟨h3, h4⟩
            · exfalso; omega
            · refine ⟨h3, fun k hk g6 g7 => ?_⟩
              exact hordc b k _ hbn (hgl b _ hb) h4 hk (by omega) (by omega) hx1
        · obtain ⟨v, v'', w1, w2, w3⟩ := g5 j hj
          exact ⟨v, v'', w1, w2, w3.mono x2.le⟩
    · -- inj
      by_cases hn1 : b1 < q1.next
      · by_cases hn2 : b2 < q1.next
        · exact hr2.inj b1 b2 x1 x2' _ _ _ _ _ _ hG1 (by rw [← hqg1 b1 hn1]; exact hb1) (by rw [← hqg1 b2 hn2]; exact hb2) hx1 hx2 he
        · have hy2 := hold2 b2 x2' hn2 hx2
          rw [hgg b2 (by omega)] at hb2
          cases hy1 : φ1 b1 with
          | some y =>
            have := x2.le _ _ hy1
            rw [hx1] at this
            injection this with this
            subst this
            obtain ⟨B', hB', hbB'⟩ := hback b1 _ _ (by simp) hb1 hy1
            obtain ⟨_, _, _, hb1'⟩ := inv.hr.kindCg hB' hbB' hb2 hy1 hy2 he
            exact inv.hr.inj b1 b2 _ _ _ _ _ _ _ _ hG1 hb1' hb2 hy1 hy2 he
          | none =>
            rcases x2.src b1 x1 hx1 hy1 with h3 | ⟨b0, x0, hl0, hG0, hx0, he0, hfz⟩
            · have := inv.hr.lt hb2 hy2
              exfalso; omega
            · obtain ⟨hb0, B, hB, hl0'⟩ := hlivei b0 hl0
              obtain ⟨_, _, _, hb0'⟩ := inv.hr.kindCg hB hl0' hb2 hx0 hy2 (he0.trans he)
              rcases inv.hr.inj b0 b2 _ _ _ _ _ _ _ _ hG0 hb0' hb2 hx0 hy2 (he0.trans he) with h4 | ⟨h4, h5⟩
              · exfalso; omega
              · exact .inr ⟨hfz h4, h5⟩
      · have hy1 := hold2 b1 x1 hn1 hx1
        rw [hgg b1 (by omega)] at hb1
        by_cases hn2 : b2 < q1.next
        · cases hy2 : φ1 b2 with
          | some y =>
            have := x2.le _ _ hy2
            rw [hx2] at this
            injection this with this
            subst this
            obtain ⟨B', hB', hbB'⟩ := hback b2 _ _ (by simp) hb2 hy2
            obtain ⟨_, _, _, hb2'⟩ := inv.hr.kindCg hB' hbB' hb1 hy2 hy1 he.symm
            exact inv.hr.inj b1 b2 _ _ _ _ _ _ _ _ hG1 hb1 hb2' hy1 hy2 he
          | none =>
            rcases x2.src b2 x2' hx2 hy2 with h3 | ⟨b0, x0, hl0, hG0, hx0, he0, hfz⟩
            · have := inv.hr.lt hb1 hy1
              exfalso; omega
            · obtain ⟨hb0, B, hB, hl0'⟩ := hlivei b0 hl0
              obtain ⟨_, _, _, hb0'⟩ := inv.hr.kindCg hB hl0' hb1 hx0 hy1 (he0.trans he.symm)
              rcases inv.hr.inj b0 b1 _ _ _ _ _ _ _ _ hG0 hb0' hb1 hx0 hy1 (he0.trans he.symm) with h4 | ⟨h4, h5⟩
              · exfalso; omega
              · exact .inr ⟨h5, hfz h4⟩
        · have hy2 := hold2 b2 x2' hn2 hx2
          rw [hgg b2 (by omega)] at hb2
          exact inv.hr.inj b1 b2 _ _ _ _ _ _ _ _ hG1 hb1 hb2 hy1 hy2 he
    · have hbG : b < q1.next := by have := ae.next; omega
      obtain ⟨es', top, h3⟩ := hr2.glob b cells size es hlt hlN (by rw [← hqg1 b hbG]; exact hb)
      exact ⟨es', top, h3⟩
    · -- mono
      by_cases hn2 : b2 < q1.next
      · exact hr2.mono b1 b2 x1 x2' _ _ _ _ _ _ hf1 hf2 hb12 (by rw [← hqg1 b1 (by omega)]; exact hb1) (by rw [← hqg1 b2 hn2]; exact hb2) hx1 hx2 he
      · have hy2 := hold2 b2 x2' hn2 hx2
        rw [hgg b2 (by omega)] at hb2
        have hbh := hgl b2 _ hb2
        rcases hsame with hsame | hsame
        · rw [hsame] at hb1
          have hy1 : φ1 b1 = some x1 := by
            rcases x2.dom b1 x1 hx1 with h3 | ⟨_, h3, h4⟩
            · exact h3
            · exfalso
              exact hordc b2 b1 x2' hn2 hbh hf2 hf1 (by omega) (by omega) hy2
          exact inv.hr.mono b1 b2 x1 x2' _ _ _ _ _ _ hf1 hf2 hb12 hb1 hb2 hy1 hy2 he
        · exfalso
          rw [hsame b2 (by omega) hbh] at hf2
          cases hf2
    · -- maps
      by_cases hbn : b < q1.next
      · exact hr2.mp.blk b l (by rw [← hqg1 b hbn]; exact hb) x hx
      · have hx1 := hold2 b x hbn hx
        rw [hgg b (by omega)] at hb
        obtain ⟨es, clk, g1, g2⟩ := inv.hr.mp.blk b l hb x hx1
        refine ⟨es, clk, ?_, g2.mono x2.le⟩
        rw [x2.frame x.1 (inv.hr.mp.lt hb hx1) fun b0 x0 hl0 hG0 hx0 he0 => False.elim ?_]
        · exact g1
        · obtain ⟨hb0, B, hB, hl0'⟩ := hlivei b0 hl0
          obtain ⟨l0, hb0'⟩ := inv.hr.kindMg hB hl0' hb hx0 hx1 he0
          have := inv.hr.mp.inj b0 b _ _ _ _ hb0' hb hx0 hx1 he0
          omega
    · -- maps lie apart
      by_cases hn1 : b1 < q1.next
      · by_cases hn2 : b2 < q1.next
        · exact hr2.mp.inj b1 b2 _ _ x1 x2' (by rw [← hqg1 b1 hn1]; exact hb1) (by rw [← hqg1 b2 hn2]; exact hb2) hx1 hx2 he
        · have hy2 := hold2 b2 x2' hn2 hx2
          rw [hgg b2 (by omega)] at hb2
          cases hy1 : φ1 b1 with
          | some y =>
            have := x2.le _ _ hy1
            rw [hx1] at this
            injection this with this
            subst this
            obtain ⟨B', hB', hbB'⟩ := hback b1 _ _ (by simp) hb1 hy1
            obtain ⟨_, hb1'⟩ := inv.hr.kindMg hB' hbB' hb2 hy1 hy2 he
            exact inv.hr.mp.inj b1 b2 _ _ _ _ hb1' hb2 hy1 hy2 he
          | none =>
            rcases x2.src b1 x1 hx1 hy1 with h3 | ⟨b0, x0, hl0, hG0, hx0, he0, hfz⟩
            · have := inv.hr.mp.lt hb2 hy2
              exfalso; omega
            · obtain ⟨hb0, B, hB, hl0'⟩ := hlivei b0 hl0
              obtain ⟨_, hb0'⟩ := inv.hr.kindMg hB hl0' hb2 hx0 hy2 (he0.trans he)
              have := inv.hr.mp.inj b0 b2 _ _ _ _ hb0' hb2 hx0 hy2 (he0.trans he)
              exfalso; omega
      · have hy1 := hold2 b1 x1 hn1 hx1
        rw [hgg b1 (by omega)] at hb1
        by_cases hn2 : b2 < q1.next
        · cases hy2 : φ1 b2 with
          | some y =>
            have := x2.le _ _ hy2
            rw [hx2] at this
            injection this with this
            subst this
            obtain ⟨B', hB', hbB'⟩ := hback b2 _ _ (by simp) hb2 hy2
            obtain ⟨_, hb2'⟩ := inv.hr.kindMg hB' hbB' hb1 hy2 hy1 he.symm
            exact inv.hr.mp.inj b1 b2 _ _ _ _ hb1 hb2' hy1 hy2 he
          | none =>
            rcases x2.src b2 x2' hx2 hy2 with h3 | ⟨b0, x0, hl0, hG0, hx0, he0, hfz⟩
            · have := inv.hr.mp.lt hb1 hy1
              exfalso; omega
            · obtain ⟨hb0, B, hB, hl0'⟩ := hlivei b0 hl0
              obtain ⟨_, hb0'⟩ := inv.hr.kindMg hB hl0' hb1 hx0 hy1 (he0.trans he.symm)
              have := inv.hr.mp.inj b0 b1 _ _ _ _ hb0' hb1 hx0 hy1 (he0.trans he.symm)
              exfalso; omega
        · have hy2 := hold2 b2 x2' hn2 hx2
          rw [hgg b2 (by omega)] at hb2
          exact inv.hr.mp.inj b1 b2 _ _ _ _ hb1 hb2 hy1 hy2 he
    · -- dom of Ext
      rcases x2.dom b x hx with h3 | ⟨h3, h4, h5⟩
      · exact inv.ext.dom b x h3
      · refine .inr ⟨?_, by omega, by omega⟩
        cases h6 : φ b with
        | none => rfl
        | some y => rw [inv.ext.le _ _ h6] at h3; cases h3
    · -- src
      cases h3 : φ1 b with
      | some y =>
        have := x2.le _ _ h3
        rw [hx] at this
        injection this with this
        subst this
        exact inv.ext.src b x h3 h0
      | none =>
        rcases x2.src b x hx h3 with h4 | ⟨b0, x0, hl0, hG0, hx0, he0, hfz⟩
        · exact .inl (Nat.le_trans inv.ext.size h4)
        · obtain ⟨hb0, B, hB, hl0'⟩ := hlivei b0 hl0
          cases h5 : φ b0 with
          | some y =>
            have := inv.ext.le _ _ h5
            rw [hx0] at this
            injection this with this
            subst this
            have hb0h : b0 < h.next := by
              rcases Nat.lt_or_ge b0 h.next with h6 | h6
              · exact h6
              · rw [hf b0 h6 (by omega)] at h5; cases h5
            exact .inr ⟨b0, x0, hlv b0 B hb0h hB hl0', hG0, h5, he0, hfz⟩
          | none =>
            rcases inv.ext.src b0 x0 hx0 h5 with h6 | ⟨b1, x1, g1, g2, g3, g4, g5⟩
            · exact .inl (he0 ▸ h6)
            · exact .inr ⟨b1, x1, g1, g2, g3, g4.trans he0, fun hh => hfz (g5 hh)⟩
    · -- frame
      rw [x2.frame c (Nat.lt_of_lt_of_le hcl inv.ext.size) fun b0 x0 hl0 hG0 hx0 he0 => ?_]
      · exact inv.ext.frame c hcl hno
      · obtain ⟨hb0, B, hB, hl0'⟩ := hlivei b0 hl0
        cases h5 : φ b0 with
        | some y =>
          have := inv.ext.le _ _ h5
          rw [hx0] at this
          injection this with this
          subst this
          have hb0h : b0 < h.next := by
            rcases Nat.lt_or_ge b0 h.next with h6 | h6
            · exact h6
            · rw [hf b0 h6 (by omega)] at h5; cases h5
          obtain ⟨g6, g7⟩ := hno b0 x0 (hlv b0 B hb0h hB hl0') hG0 h5 he0
          exact ⟨g6, fun k hk g8 g9 => g7 k hk (by omega) (by omega)⟩
        | none =>
          rcases inv.ext.src b0 x0 hx0 h5 with h6 | ⟨b1, x1, g1, g2, g3, g4, g5⟩
          · omega
          · obtain ⟨g6, g7⟩ := hno b1 x1 g1 g2 g3 (g4.trans he0)
            exact ⟨g5 g6, fun k hk g8 g9 => g7 k hk (by omega) (by omega)⟩
    · -- dom
      rcases x2.dom b x hx with h3 | ⟨h3, h4, h5⟩
      · rcases inv.dom b x h3 with h6 | ⟨j, g1, g2, g3, g4⟩
        · exact .inl h6
        · exact .inr ⟨j, g1, getD_set_true g2, g3, g4⟩
      · refine .inr ⟨i, him, ?_, by omega, by omega⟩
        have : i < listed.size := by rw [inv.head.size]; exact (Array.getElem?_eq_some_iff.1 ho).1
        simp [this]
end Go.Proofs.YtngpoamjhngcgaaGreatDoor.Ev

/- The first operations of a region in any order, over a heap that one of them changes. -/
namespace Go.Proofs.YtngpoamjhngcgaaGreatDoor.Ev
open Go
variable {P : Program} {E : Env}

/-- what the text's order gives, and that each operation gives the same whenever it may come -/
structure RunG (P : Program) (E : Env) (call : Callf) (n m : Nat) (ops : Array Oper) (h : H) (α : Tr Value) (h' : H) (α' : Tr Value) (nx : Nat → Nat) (αs : Nat → Tr Value) (vs : Nat → Value) (gh : Array Bool → Nat → Option Blk) : Prop where
  star : ∀ k, k ≤ m → (∀ j o t, j < k → ops[j]? = some o → o.dst = some t → (αs k).get t = some (vs j)) ∧ (∀ t, (∀ j o, j < k → ops[j]? = some o → o.dst ≠ some t) → (αs k).get t = α.get t)
  am : αs m = α'
  mono : ∀ i j, i ≤ j → j ≤ m → nx i ≤ nx j
  n0 : h.next = nx 0
  nm : nx m = h'.next
  puts : ∀ i o, i < m → ops[i]? = some o → ∃ β, put n (αs i) o.dst (vs i) = some β
  run : ∀ i o listed αL, i < m → ops[i]? = some o → listed.size = ops.size → listed.getD i false = false → (∀ j oj, ops[j]? = some oj → listed.getD j false = true → ∀ e ∈ oj.after, Region.binds .any e = true → listed.getD e.on false = true) →
    (∀ e ∈ o.after, Region.binds .any e = true → listed.getD e.on false = true) → (∀ t ∈ o.looksAt ops, (αs i).get t = αL.get t) →
    ∃ q q1, Hok q ∧ E.G ≤ q.next ∧ q.next = nx i ∧ (∀ b, b < q.next → gh listed b = q.blks.get b) ∧ step1V P E call ops.toList q αL o = some (vs i, q1) ∧ q1.next = nx (i + 1) ∧
      (∀ b, b < q1.next → gh (listed.setIfInBounds i true) b = q1.blks.get b) ∧ (∀ b, q1.next ≤ b → gh (listed.setIfInBounds i true) b = gh listed b) ∧
      (gh (listed.setIfInBounds i true) = gh listed ∨ ∀ b, q1.next ≤ b → b < h'.next → E.frz b = false)
  gend : ∀ listed, (∀ j, j < m → listed.getD j false = true) → gh listed = h'.blks.get
  glt : ∀ listed b B, gh listed b = some B → b < h'.next
  glv : ∀ listed b B, b < h.next → B ≠ .dead → gh listed b = some B → live h b = true

section
variable {call : Callf} {n m : Nat} {ops : Array Oper} {h h' : H} {α α' : Tr Value} {nx : Nat → Nat} {αs : Nat → Tr Value} {vs : Nat → Value} {gh : Array Bool → Nat → Option Blk} {φ : Phi} {w0 : World}

theorem RunG.agree (R : RunG P E call n m ops h α h' α' nx αs vs gh) (hap : allApart ops (ops.toList.take m) = true)
    {listed : Array Bool} {αL : Tr Value} (hclosed : ∀ j oj, ops[j]? = some oj → listed.getD j false = true → ∀ e ∈ oj.after, Region.binds .any e = true → listed.getD e.on false = true)
    (star1 : ∀ i o t, i < m → ops[i]? = some o → listed.getD i false = true → o.dst = some t → αL.get t = some (vs i))
    (star0 : ∀ t, (∀ i o, i < m → ops[i]? = some o → listed.getD i false = true → o.dst ≠ some t) → αL.get t = α.get t)
    {i : Nat} (hun' : listed.getD i false = false) (him : i < m) {o : Oper} (ho : ops[i]? = some o) (hall : ∀ e ∈ o.after, Region.binds .any e = true → listed.getD e.on false = true) :
    ∀ t ∈ o.looksAt ops, (αs i).get t = αL.get t := by
  have hol : (ops.toList.take m)[i]? = some o := by rw [take_get him]; exact ho
  intro t ht
  obtain ⟨c1, c2⟩ := R.star i (by omega)
  by_cases hex : ∃ j oj, j < m ∧ ops[j]? = some oj ∧ listed.getD j false = true ∧ oj.dst = some t
  · obtain ⟨j, oj, hjm, hoj, hlj, hdj⟩ := hex
    have hji : j ≠ i := fun e => by rw [e, hun'] at hlj; cases hlj
    have hlt : j < i := by
      rcases Nat.lt_or_gt_of_ne hji with h2 | h2
      · exact h2
      · exfalso
        rcases apart_of hap h2 hol (by rw [take_get hjm]; exact hoj) with h3 | h3
        · obtain ⟨e, he, hb, hon⟩ := waits_spec h3
          have := hclosed j oj hoj hlj e he hb
          rw [hon, hun'] at this; cases this
        · exact (Oper.apart_spec h3).2.2 t hdj ht
    rw [c1 j oj t hlt hoj hdj, star1 j oj t hjm hoj hlj hdj]
  · have h4 : ∀ j oj, j < m → ops[j]? = some oj → listed.getD j false = true → oj.dst ≠ some t := fun j oj g1 g2 g3 g4 => hex ⟨j, oj, g1, g2, g3, g4⟩
    rw [star0 t h4]
    refine c2 t fun j oj hji hoj hdj => ?_
    rcases apart_of hap hji (by rw [take_get (by omega)]; exact hoj) hol with h3 | h3
    · obtain ⟨e, he, hb, hon⟩ := waits_spec h3
      have := hall e he hb
      rw [hon] at this
      exact h4 j oj (by omega) hoj this hdj
    · exact (Oper.apart_spec h3).1 t hdj ht

theorem free_stepsG (hE : EnvOK P E) (hm : m ≤ ops.size)
    (hap : allApart ops (ops.toList.take m) = true) (hd : dstsApart (ops.toList.take m) = true) (hsel : Region.noSelect ops = true) (R : RunG P E call n m ops h α h' α' nx αs vs gh) (Q : Exit → Act → World → Prop)
    (hQp : ∀ c a w, ¬ Q (.panic c) a w) {w : World} : ∀ (k i : Nat) (F : List Nat) (listed : Array Bool) (a : Act) (φ1 : Phi) (αL : Tr Value), i + k = m → InvG E n m ops h α h' nx (gh listed) vs φ w0 listed a w φ1 αL →
      (∀ j, listed.getD j false = true ↔ j ∈ F) → (∀ j ∈ F, j < i) → freeOK ops (freeFrom ops.toList k i F) = true →
      (∀ (listed' : Array Bool) (a' : Act) (αL' : Tr Value), InvG E n m ops h α h' nx (gh listed') vs φ w0 listed' a' w φ1 αL' → (∀ j ∈ freeFrom ops.toList k i F, listed'.getD j false = true) → wpAny P .any ops Q (todo m listed' + (ops.size - m)) listed' a' w) →
      wpAny P .any ops Q (todo m listed + (ops.size - m)) listed a w
  | 0, i, F, listed, a, φ1, αL, _, inv, hl, _, _, hfin => hfin listed a αL inv fun j hj => (hl j).2 hj
  | k + 1, i, F, listed, a, φ1, αL, hik, inv, hl, hlt, hok, hfin => by
    have him : i < m := by omega
    have hio : ops.toList[i]? = some (ops[i]'(by omega)) := by rw [List.getElem?_eq_getElem (by simpa using (by omega : i < ops.size))]; simp
    have hos : ops[i]? = some (ops[i]'(by omega)) := Array.getElem?_eq_getElem (by omega)
    generalize ops[i]'(by omega) = o at hio hos
    simp only [freeFrom, nth_eq, hio, forceN_eq] at hok hfin
    by_cases hb : freeB o F = true
    · rw [if_pos hb] at hok hfin
      have hb' := hb
      simp only [freeB, Bool.and_eq_true, Option.isNone_iff_eq_none, List.all_eq_true, Bool.or_eq_true, Bool.not_eq_true'] at hb'
      obtain ⟨⟨hfo, hg⟩, hedge⟩ := hb'
      have hun : listed.getD i false = false := by
        cases hx : listed.getD i false with
        | false => rfl
        | true => have := hlt i ((hl i).1 hx); omega
      have his : i < listed.size := by rw [inv.head.size]; exact (Array.getElem?_eq_some_iff.1 hos).1
      have hall : ∀ e ∈ o.after, Region.binds .any e = true → listed.getD e.on false = true := fun e he hbd => by
        rcases hedge e (by simpa using he) with h1 | h1
        · rw [hbd] at h1; cases h1
        · exact (hl e.on).2 (by simpa using h1)
      have hready : i ∈ Region.ready .any ops listed := mem_ready.2 ⟨getD_in his hun, o, hos, hall⟩
      have hol : (ops.toList.take m)[i]? = some o := by rw [take_get him]; exact hos
      have hagree := R.agree hap inv.head.closed inv.star1 inv.star0 hun him hos hall
      obtain ⟨q, q1, okq, hGq, hq, hqg, hv, hq1, hqg1, hgg, _⟩ := R.run i o listed αL him hos inv.head.size hun inv.head.closed hall hagree
      have hri : HR E φ1 q.blks.get w := inv.hr.sub fun b B _ hb => by
        rw [hqg b (get_lt okq hb)]; exact hb
      have hvop : evOp P E call q αL o = some (vs i, q1) := by
        unfold step1V wantedA at hv
        rw [hg] at hv
        exact hv
      obtain ⟨rfl, v', hvr, hrun⟩ := free_yields hE (h := q) (w := w) hri inv.fr hfo hvop
      have hsm : gh (listed.setIfInBounds i true) = gh listed := funext fun b => by
        rcases Nat.lt_or_ge b q1.next with h3 | h3
        · rw [hqg1 b h3, hqg b h3]
        · exact hgg b h3
      obtain ⟨β, hp⟩ := R.puts i o him hos
      obtain ⟨αL', hpL⟩ := put_some hp αL
      have hmem : i ∈ freeFrom ops.toList k (i + 1) (i :: F) := freeFrom_mono _ _ _ _ List.mem_cons_self
      have htodo : todo m listed = todo m (listed.setIfInBounds i true) + 1 := by
        unfold todo
        exact countP_set (p := fun j => !listed.getD j false) (q := fun j => !(listed.setIfInBounds i true).getD j false) (i := i) (by simp only [hun]; rfl) (by simp [his]) (fun j hj => by rw [getD_set_ne false (Ne.symm hj)]) (List.nodup_range (n := m)) (List.mem_range.2 him)
      rw [htodo, show todo m (listed.setIfInBounds i true) + 1 + (ops.size - m) = (todo m (listed.setIfInBounds i true) + (ops.size - m)) + 1 by omega]
      refine wpAny_first hos (Region.noSelect_spec hsel) (fun c a w hq => absurd hq (hQp _ _ _)) _ listed a w (fun j oj hj hji hunj hne => ?_) hready (.inl ⟨by unfold Region.wanted; rw [hg], hrun⟩) ?_
      · have hx := List.all_eq_true.1 hok i hmem
        have hjlt : j < ops.size := (Array.getElem?_eq_some_iff.1 hj).1
        have hy := List.all_eq_true.1 hx j (List.mem_range.2 hjlt)
        have hj' : ops.toList[j]? = some oj := by simpa using hj
        simp only [nth_eq, hio, hj', Bool.or_eq_true, beq_iff_eq] at hy
        rcases hy with hy | (hy | hy) | hy
        · exact absurd hy hji
        · obtain ⟨e, he, hbd, hon⟩ := waits_spec hy
          exact absurd hon (hne e he hbd)
        · obtain ⟨e, he, hbd, hon⟩ := waits_spec hy
          have := hall e he hbd
          rw [hon, getD_both hunj] at this
          cases this
        · exact hy
      · refine free_stepsG hE hm hap hd hsel R Q hQp k (i + 1) (i :: F) _ _ φ1 αL' (by omega) ?_ (fun j => ?_) (fun j hj => ?_) hok hfin
        · rw [hsm]
          refine ⟨inv.head.set hready him, inv.fr.put hpL hvr, fun j oj t hjm hoj hlj hdj => ?_, fun t ht => ?_, inv.hr, inv.ext, fun b x hx => ?_, inv.ord⟩
          · rw [put_get hpL]
            by_cases hji : j = i
            · subst hji
              rw [hos] at hoj
              injection hoj with hoj
              rw [if_pos (by rw [hoj]; exact hdj)]
            · have hlj' : listed.getD j false = true := by rwa [getD_set_ne false (Ne.symm hji)] at hlj
              have hne := dsts_ne hd hji (by rw [take_get hjm]; exact hoj) hol hdj
              rw [if_neg hne]
              exact inv.star1 j oj t hjm hoj hlj' hdj
          · have hni : o.dst ≠ some t := ht i o him hos (by simp [his])
            rw [put_get hpL, if_neg hni]
            exact inv.star0 t fun j oj hjm hoj hlj => ht j oj hjm hoj (getD_set_true hlj)
          · rcases inv.dom b x hx with h3 | ⟨j, hjm, hlj, hj1, hj2⟩
            · exact .inl h3
            · exact .inr ⟨j, hjm, getD_set_true hlj, hj1, hj2⟩
        · by_cases hji : j = i
          · subst hji; simp [his]
          · rw [getD_set_ne false (Ne.symm hji), hl j]
            simp [hji]
        · rcases List.mem_cons.1 hj with rfl | hj
          · omega
          · have := hlt j hj; omega
    · rw [if_neg hb] at hok hfin
      exact free_stepsG hE hm hap hd hsel R Q hQp k (i + 1) F listed a φ1 αL (by omega) inv hl (fun j hj => by have := hlt j hj; omega) hok hfin

theorem any_prefixG {h2 : H} {α2 : Tr Value} (hE : EnvOK P E) (hc : CallOK P E call) (hG : E.G ≤ h.next) (hreg : regOk ops m = true)
    (R : RunG P E call n m ops h α h' α' nx αs vs gh) (hae : AE E h h') (htail : evList P E call n ops.toList (ops.toList.drop m) h' α' = some (α2, h2)) (hf : ∀ b, h.next ≤ b → b < h2.next → φ b = none) {Q : Exit → Act → World → Prop}
    (hQ : ∀ a' w', Reach E φ h w0 α2 h2 n a' w' → Q .normal a' w') : ∀ (f : Nat) (listed : Array Bool) (a : Act) (w : World) (φ1 : Phi) (αL : Tr Value), InvG E n m ops h α h' nx (gh listed) vs φ w0 listed a w φ1 αL → (m < ops.size → ∀ j ∈ freeUpto ops m, listed.getD j false = true) → todo m listed = f → wpAny P .any ops Q (f + (ops.size - m)) listed a w := by
  simp only [regOk, Bool.and_eq_true, Bool.or_eq_true, decide_eq_true_eq] at hreg
  obtain ⟨⟨⟨⟨⟨hsel, hap⟩, hd⟩, hback⟩, hm⟩, hend⟩ := hreg
  have hG' : E.G ≤ h'.next := Nat.le_trans hG hae.next
  have hae2 := evList_ae hc hae.ok hG' htail
  have hfm : ∀ b, h.next ≤ b → b < h'.next → φ b = none := fun b h3 h4 => hf b h3 (Nat.lt_of_lt_of_le h4 hae2.next)
  intro f
  induction f with
  | zero =>
    intro listed a w φ1 αL inv hFl ht
    have hall : ∀ j, j < m → listed.getD j false = true := fun j hj => by
      unfold todo at ht
      rw [List.countP_eq_zero] at ht
      have := ht j (List.mem_range.2 hj)
      simpa using this
    -- the temporaries are the text's order's
    have hget : ∀ t, α'.get t = αL.get t := fun t => by
      obtain ⟨c1, c2⟩ := R.star m (Nat.le_refl _)
      rw [← R.am]
      by_cases hex : ∃ j oj, j < m ∧ ops[j]? = some oj ∧ oj.dst = some t
      · obtain ⟨j, oj, hjm, hoj, hdj⟩ := hex
        rw [c1 j oj t hjm hoj hdj, inv.star1 j oj t hjm hoj (hall j hjm) hdj]
      · rw [inv.star0 t fun j oj hjm hoj _ hdj => hex ⟨j, oj, hjm, hoj, hdj⟩]
        exact c2 t fun j oj hjm hoj hdj => hex ⟨j, oj, hjm, hoj, hdj⟩
    have hF : FR φ1 α' a n := ⟨inv.fr.size, fun t => by rw [hget]; exact inv.fr.vals t, inv.fr.defers⟩
    have hr := inv.hr
    rw [R.gend listed hall] at hr
    have hlist : wpList P ops Q (ops.toList.drop m) a w := by
      refine evList_sound hE hc hae.ok hG' hr hF htail (fun b h3 h4 => ?_) fun a' w' hreach => hQ _ _ ?_
      · cases hx : φ1 b with
        | none => rfl
        | some x =>
          rcases inv.ext.dom b x hx with h6 | ⟨_, _, h7⟩
          · rw [hf b (Nat.le_trans hae.next h3) h4] at h6; cases h6
          · omega
      · obtain ⟨φ2, g1, g2, g3⟩ := hreach
        exact ⟨φ2, g1, g2, Ext.trans hfm inv.ext hae g3 hae2⟩
    rcases hend with hme | ⟨⟨⟨hsink, hfok⟩, hchain⟩, hseq⟩
    · subst hme
      have hdrop : ops.toList.drop ops.size = [] := by simp
      rw [hdrop] at hlist
      simp only [Nat.zero_add, Nat.sub_self, wpAny]
      refine ⟨?_, hlist⟩
      rw [List.eq_nil_iff_forall_not_mem]
      intro i hi
      obtain ⟨hun, o, ho, _⟩ := mem_ready.1 hi
      have := hall i (Array.getElem?_eq_some_iff.1 ho).1
      rw [getD_both hun] at this; cases this
    · have hlisted : listed = firstTrue ops.size m := by
        apply Array.ext
        · rw [inv.head.size]; simp [firstTrue]
        · intro i h3 h4
          simp only [firstTrue, List.getElem_toArray, List.getElem_map, List.getElem_range]
          by_cases him : i < m
          · have := hall i him
            simp [h3] at this
            simp [this, him]
          · have := inv.head.tail i (by omega) (by rw [← inv.head.size]; exact h3)
            simp [h3] at this
            simp [this, him]
      rw [hlisted, Nat.zero_add, show ops.size - m = (ops.toList.drop m).length by simp]
      exact wpAny_of_seq (ops.toList.drop m) m _ a w (fun j => by simp [List.getElem?_drop]) (by simpa using hseq) hlist
  | succ f ih =>
    intro listed a w φ1 αL inv hFl ht
    obtain ⟨i0, hi0m, hi0, hleast⟩ := least_unlisted (m := m) (listed := listed) (by omega)
    have hi0s : i0 < listed.size := by rw [inv.head.size]; omega
    have hready : i0 ∈ Region.ready .any ops listed := by
      refine mem_ready.2 ⟨getD_in hi0s hi0, ops[i0]'(by omega), Array.getElem?_eq_getElem (by omega), fun e he hb => ?_⟩
      exact hleast _ (edges_of hback (Array.getElem?_eq_getElem (by omega)) e he hb)
    rw [show f + 1 + (ops.size - m) = (f + (ops.size - m)) + 1 by omega]
    refine ⟨fun h0 => (by rw [h0] at hready; cases hready), fun i hi => ?_⟩
    have him : i < m := by
      rcases hend with hme | ⟨⟨⟨hsink, hfok⟩, hchain⟩, _⟩
      · obtain ⟨_, o, ho, _⟩ := mem_ready.1 hi
        rw [hme]; exact (Array.getElem?_eq_some_iff.1 ho).1
      · rcases Nat.lt_or_ge i m with h3 | h3
        · exact h3
        · by_cases hms : m < ops.size
          · exact absurd hi (tail_waits' hsink (hFl hms) hchain hms inv.head _ i0 rfl hi0m (getD_in hi0s hi0) i h3)
          · obtain ⟨_, o, ho, _⟩ := mem_ready.1 hi
            have := (Array.getElem?_eq_some_iff.1 ho).1
            omega
    obtain ⟨hun, o, ho, hall⟩ := mem_ready.1 hi
    have hun' := getD_false_of hun
    have his : i < listed.size := by rw [inv.head.size]; exact (Array.getElem?_eq_some_iff.1 ho).1
    have hagree := R.agree hap inv.head.closed inv.star1 inv.star0 hun' him ho hall
    obtain ⟨q, q1, okq, hGq, hq, hqg, hv, hq1, hqg1, hgg, hsame⟩ := R.run i o listed αL him ho inv.head.size hun' inv.head.closed hall hagree
    obtain ⟨β, hp⟩ := R.puts i o him ho
    obtain ⟨αL', hpL⟩ := put_some hp αL
    refine inv_stepG hE hc hd R.mono R.n0 R.nm hfm inv hi him ho okq hGq hq hqg hv hpL hq1 hqg1 hgg (R.glt listed) (R.glv listed) hsame fun a' w' φ2 inv' => ih _ _ _ _ _ inv' (fun hms j hj => getD_set_true (hFl hms j hj)) ?_
    have := countP_set (p := fun j => !listed.getD j false) (q := fun j => !(listed.setIfInBounds i true).getD j false) (i := i) (by simp only [getD_both hun]; rfl) (by simp [his]) (fun j hj => by rw [getD_set_ne false (Ne.symm hj)]) (List.nodup_range (n := m)) (List.mem_range.2 him)
    unfold todo at ht ⊢
    omega
end
end Go.Proofs.YtngpoamjhngcgaaGreatDoor.Ev

