/- One operation, whatever it is. -/
import Derived.Test.YtnjbcgiplfdgmaaGreatDoorPmEvOps5
import Derived.Laws.BitsAllLaws
import Derived.Laws.Bits64
namespace Go.Proofs.YtnjbcgiplfdgmaaGreatDoor.Ev
open Go
variable {P : Program} {E : Env} {φ : Phi} {w : World}

structure FR (φ : Phi) (α : Tr Value) (a : Act) (n : Nat) : Prop where
  size : a.tmps.size = n
  vals : ∀ t, VR φ ((α.get t).getD undef) (a.tmps.getD t undef)
  defers : a.defers = []

theorem FR.mono {φ' : Phi} (hl : ∀ b x, φ b = some x → φ' b = some x) {α : Tr Value} {a : Act} {n : Nat} (h : FR φ α a n) : FR φ' α a n := ⟨h.size, fun t => (h.vals t).mono hl, h.defers⟩

theorem put_spec {n : Nat} {α α' : Tr Value} {d : Tmp} {v : Value} (hp : put n α (some d) v = some α') : d < n ∧ α' = Tr.put α d v := by
  simp only [Ev.put] at hp
  cases h1 : Nat.ble (d + 1) n with
  | false => rw [h1] at hp; cases hp
  | true =>
    rw [h1] at hp
    simp only at hp
    simp only [Tr.force_eq, Option.some.injEq] at hp
    exact ⟨Nat.le_of_ble_eq_true h1, hp.symm⟩

theorem evTmp_eq (α : Tr Value) (t : Tmp) : evTmp α t = some ((α.get t).getD undef) := by
  unfold evTmp
  cases α.get t <;> rfl

theorem FR.put {α α' : Tr Value} {a : Act} {n : Nat} (hF : FR φ α a n) {dst : Option Tmp} {v v' : Value} (hp : put n α dst v = some α') (hv : VR φ v v') : FR φ α' (a.put dst v') n := by
  cases dst with
  | none => simp only [Ev.put, Option.some.injEq] at hp; subst hp; exact hF
  | some d =>
    obtain ⟨hc1, rfl⟩ := put_spec hp
    refine ⟨by simp [Act.put, hF.size], fun t => ?_, hF.defers⟩
    rw [Tr.get_put]
    by_cases ht : t = d
    · subst ht
      have hlt : t < a.tmps.size := by rw [hF.size]; exact hc1
      simpa [Act.put, hlt] using hv
    · have := hF.vals t
      rw [if_neg ht]
      have e : (a.put (some d) v').tmps.getD t undef = a.tmps.getD t undef := by
        simp only [Act.put, Array.getD_eq_getD_getElem?]
        rw [Array.getElem?_setIfInBounds_ne (Ne.symm ht)]
      rw [e]; exact this

theorem ev_sound {h : H} (hr : HR E φ h.blks.get w) {α : Tr Value} {a : Act} {n : Nat} (hF : FR φ α a n) {x : Operand} {v : Value} (hs : ev E h α x = some v) : VR φ v (a.eval x) := by
  unfold ev at hs
  split at hs
  · rw [evTmp_eq, Option.some.injEq] at hs; subst hs; exact hF.vals _
  · split at hs
    · rename_i hc; simp only [Option.some.injEq] at hs; subst hs; exact VR.const hc
    · cases hs
  · rename_i g
    split at hs
    · rename_i hc
      simp only [Option.some.injEq] at hs; subst hs
      simp only [Bool.and_eq_true, decide_eq_true_eq] at hc
      have hl := hc.1.1
      unfold live at hl
      split at hl
      · rename_i cells size es hb
        obtain ⟨es', top, h1⟩ := hr.glob g cells size es hc.1.2 hc.2 hb
        have := VR.ptr (φ := φ) (off := 0) h1
        simpa [Act.eval] using this
      · cases hl
    · cases hs
  · simp only [Option.some.injEq] at hs; subst hs
    exact .func _ rfl rfl (fun i h => by simp at h) (fun i h => by simp at h)

theorem evs_sound {h : H} (hr : HR E φ h.blks.get w) {α : Tr Value} {a : Act} {n : Nat} (hF : FR φ α a n) : ∀ {xs : List Operand} {vs : List Value}, evs E h α xs = some vs → VRs φ vs (xs.map a.eval)
  | [], vs, hs => by simp only [evs, Option.some.injEq] at hs; subst hs; exact .nil
  | x :: r, vs, hs => by
    simp only [evs] at hs
    split at hs
    · cases hs
    · rename_i v hv
      split at hs
      · cases hs
      · rename_i us hus
        simp only [Option.some.injEq] at hs; subst hs
        exact .cons (ev_sound hr hF hv) (evs_sound hr hF hus)

theorem evParts_sound {h : H} (hr : HR E φ h.blks.get w) {α : Tr Value} {a : Act} {n : Nat} (hF : FR φ α a n) : ∀ {xs : List (Nat × Operand)} {vs : List (Nat × Value)}, evParts E h α xs = some vs → PV φ vs (xs.map fun x => (x.1, a.eval x.2))
  | [], vs, hs => by simp only [evParts, Option.some.injEq] at hs; subst hs; exact .nil
  | (i, x) :: r, vs, hs => by
    simp only [evParts] at hs
    split at hs
    · cases hs
    · rename_i v hv
      split at hs
      · cases hs
      · rename_i us hus
        simp only [Option.some.injEq] at hs; subst hs
        exact .cons (ev_sound hr hF hv) (evParts_sound hr hF hus)

structure CallOK (P : Program) (E : Env) (call : Callf) : Prop where
  ae : ∀ f args h v h', Hok h → E.G ≤ h.next → call f args h = some (v, h') → AE E h h'
  run : ∀ f args h v h', call f args h = some (v, h') → ∀ φ w args', Hok h → E.G ≤ h.next → HR E φ h.blks.get w → VRs φ args args' → (∀ b, h.next ≤ b → b < h'.next → φ b = none) →
    (∃ fn, P.funcs[f]? = some fn ∧ fn.body.isSome = true ∧ fn.name ≠ "runtime.NumGoroutine") ∧ Calls P f args'.toArray w fun e w' => ∃ v', e = .returned v' ∧ Good E φ h w v h' v' w'

theorem asV_some {h h' : H} {x : Option Value} {v : Value} (hs : asV h x = some (v, h')) : x = some v ∧ h' = h := by
  unfold asV at hs
  split at hs
  · simp only [Option.some.injEq, Prod.mk.injEq] at hs; exact ⟨by rw [hs.1], hs.2.symm⟩
  · cases hs

theorem newVal_ae {h h' : H} (ok : Hok h) (hG : E.G ≤ h.next) {cells : List Value} {es : Nat} {v : Value} (hs : newVal h cells es = some (v, h')) : AE E h h' ∧ h'.next = h.next + 1 := by
  unfold newVal at hs
  split at hs
  · rename_i b h1 hb
    simp only [Option.some.injEq, Prod.mk.injEq] at hs
    obtain ⟨_, rfl⟩ := hs
    exact ⟨aNew_ae ok hG hb, by rw [(aNew_some hb).2]⟩
  · cases hs

theorem valOp {o : Oper} {a : Act} {K : Act → World → Prop} {Q : Exit → Act → World → Prop} {v' : Value} {w' : World} (hrun : (execOp a.eval o).run P w = .ok (.value v') w') (hK : K (a.put o.dst v') w') : o.wp P a w K Q := by
  unfold Oper.wp; rw [hrun]; exact hK
theorem skipOp {o : Oper} {a : Act} {K : Act → World → Prop} {Q : Exit → Act → World → Prop} {w' : World} (hrun : (execOp a.eval o).run P w = .ok .skip w') (hK : K (a.put o.dst undef) w') : o.wp P a w K Q := by
  unfold Oper.wp; rw [hrun]; exact hK

theorem Good.same {h : H} (hr : HR E φ h.blks.get w) {v v' : Value} (hv : VR φ v v') : Good E φ h w v h v' w := ⟨φ, hv, hr, Ext.refl _ _ _ _⟩

theorem plainOp_some {ρ : Operand → Value} {o : Oper} {v : Value} (hs : plainOp P ρ o = some v) : plain v = true ∧ ∀ w : World, (execOp ρ o).run P w = .ok (.value v) w := by
  unfold plainOp at hs
  split at hs
  · rename_i u hu
    split at hs
    · rename_i hp
      rw [forceV_eq, Option.some.injEq] at hs
      subst hs
      exact ⟨hp, fun w => plainRun_sound _ _ hu⟩
    · cases hs
  · cases hs

theorem VR.of_plain {v : Value} (hp : Ev.plain v = true) : VR φ v v := by
  cases v <;> first | (simp [Ev.plain] at hp; done) | constructor

theorem wrap_i8 (n : Int) (h1 : -128 ≤ n) (h2 : n < 128) : IntKind.i8.wrap n = n := by
  simp [IntKind.wrap, IntKind.bits, IntKind.signed]; omega
theorem wrap_i16 (n : Int) (h1 : -32768 ≤ n) (h2 : n < 32768) : IntKind.i16.wrap n = n := by
  simp [IntKind.wrap, IntKind.bits, IntKind.signed]; omega
theorem inK_wrap (k : IntKind) (n : Int) (h : inK k n = true) : k.wrap n = n := by
  have hr : -(lowOf k : Int) ≤ n ∧ n < (topOf k : Int) := by
    cases n with
    | ofNat m =>
      have h1 := Nat.le_of_ble_eq_true h
      simp only [Int.ofNat_eq_natCast]
      constructor <;> omega
    | negSucc m =>
      have h1 := Nat.le_of_ble_eq_true h
      constructor <;> omega
  obtain ⟨h1, h2⟩ := hr
  cases k <;> simp only [lowOf, topOf] at h1 h2
  · exact wrap_i8 n (by omega) (by omega)
  · exact wrap_i16 n (by omega) (by omega)
  · rw [IntKind.wrap_i32]; omega
  · rw [IntKind.wrap_i64]; omega
  · rw [IntKind.wrap_u8]; omega
  · rw [IntKind.wrap_u16]; omega
  · rw [IntKind.wrap_u32]; omega
  · rw [IntKind.wrap_u64]; omega
theorem wrapF_eq (k : IntKind) (n : Int) : wrapF k n = k.wrap n := by
  unfold wrapF
  cases h : inK k n with
  | false => rfl
  | true => exact (inK_wrap k n h).symm

theorem ltF_eq (a b : Int) : ltF a b = decide (a < b) := by
  cases a with
  | ofNat m => cases b with
    | ofNat n =>
      simp only [ltF]; rw [Bool.eq_iff_iff]; simp only [Nat.ble_eq, decide_eq_true_eq, Int.ofNat_eq_natCast]; omega
    | negSucc n =>
      simp only [ltF]; symm; rw [decide_eq_false_iff_not]; simp only [Int.ofNat_eq_natCast]; omega
  | negSucc m => cases b with
    | ofNat n => simp only [ltF]; symm; rw [decide_eq_true_eq]; simp only [Int.ofNat_eq_natCast]; omega
    | negSucc n => simp only [ltF]; rw [Bool.eq_iff_iff]; simp only [Nat.ble_eq, decide_eq_true_eq]; omega
theorem eqF_eq (a b : Int) : eqF a b = (a == b) := by
  rw [Bool.eq_iff_iff, beq_iff_eq]
  cases a with
  | ofNat m => cases b with
    | ofNat n => simp only [eqF, Nat.beq_eq, Int.ofNat_eq_natCast]; omega
    | negSucc n => simp only [eqF, Int.ofNat_eq_natCast]; exact ⟨(fun h => by cases h), (fun h => by omega)⟩
  | negSucc m => cases b with
    | ofNat n => simp only [eqF, Int.ofNat_eq_natCast]; exact ⟨(fun h => by cases h), (fun h => by omega)⟩
    | negSucc n => simp only [eqF, Nat.beq_eq]; omega

theorem fastInt_run {op : BinOp} {k : IntKind} {a b : Int} {r : Value} (h : fastInt op k a b = some r) (t : TypeId) (ox oy : Operand) (w : World) :
    Ev.plain r = true ∧ ((do eqGuard op t ox oy (.int k a) (.int k b); binOp op t (.int k a) (.int k b)) : Sem Value).run P w = .ok r w := by
  unfold fastInt at h
  split at h <;> simp only [mkI, mkB, forceI_eq, forceB_eq, Option.some.injEq, reduceCtorEq] at h
  all_goals (subst h; refine ⟨rfl, ?_⟩)
  all_goals simp [eqGuard, binOp, Op.intArith, Op.intCmp, wrapF_eq, ltF_eq, eqF_eq]
  all_goals first
    | rfl
    | (by_cases hab : b < a <;> simp [hab] <;> omega)
    | (by_cases hab : a < b <;> simp [hab] <;> omega)

theorem fastBin_run {op : BinOp} {v u r : Value} (h : fastBin op v u = some r) (t : TypeId) (ox oy : Operand) (w : World) :
    Ev.plain r = true ∧ ((do eqGuard op t ox oy v u; binOp op t v u) : Sem Value).run P w = .ok r w := by
  unfold fastBin at h
  split at h
  · rename_i k a k' b
    cases hk : Nat.beq (kNum k) (kNum k') with
    | false => rw [hk] at h; cases h
    | true =>
      rw [hk] at h
      have : k = k' := by
        have h1 := Nat.eq_of_beq_eq_true hk
        cases k <;> cases k' <;> first | rfl | (simp [kNum] at h1)
      subst this
      exact fastInt_run h t ox oy w
  · cases h

theorem binPlain_some {op : BinOp} {v u r : Value} {ρ : Operand → Value} {o : Oper} {t yt : TypeId} {x y : Operand} (ho : o.op = .binOp op t x y yt) (hx : ρ x = v) (hy : ρ y = u) (hs : binPlain P op v u ρ o = some r) :
    Ev.plain r = true ∧ ∀ w : World, (execOp ρ o).run P w = .ok (.value r) w := by
  unfold binPlain at hs
  split at hs
  · rename_i r' hf
    injection hs with hs
    subst hs
    refine ⟨(fastBin_run (P := P) hf t x y default).1, fun w => ?_⟩
    have := (fastBin_run (P := P) hf t x y w).2
    simp only [execOp, ho, hx, hy]
    rw [Sem.run_bind, this]; rfl
  · exact plainOp_some hs

theorem convPlain_some (hE : EnvOK P E) {s d : TypeId} {v r : Value} {ρ : Operand → Value} {o : Oper} {x : Operand} (ho : o.op = .convert s d x) (hx : ρ x = v) (hs : convPlain P E s d v ρ o = some r) :
    Ev.plain r = true ∧ ∀ w : World, (execOp ρ o).run P w = .ok (.value r) w := by
  unfold convPlain at hs
  split at hs
  · rename_i r' hf
    injection hs with hs
    subst hs
    unfold fastConv at hf
    split at hf
    · rename_i k n
      split at hf
      · rename_i ds k' h1 h2
        simp only [mkI, forceI_eq, Option.some.injEq] at hf
        subst hf
        refine ⟨rfl, fun w => ?_⟩
        have : (convert s d (.int k n)).run P w = .ok (.int k' (wrapF k' n)) w := by
          simp only [convert, Sem.run_bind, und_run hE h1, und_run hE h2, Result.andThen_ok, Conv.intToInt, wrapF_eq]
          rfl
        simp only [execOp, ho, hx]
        rw [Sem.run_bind, this]; rfl
      · cases hf
    · cases hf
  · exact plainOp_some hs
end Go.Proofs.YtnjbcgiplfdgmaaGreatDoor.Ev
