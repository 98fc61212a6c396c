/- One operation: soundness. -/
import Derived.Test.YtnjbcgiplfdgmaaGreatDoorPmEvOp
namespace Go.Proofs.YtnjbcgiplfdgmaaGreatDoor.Ev
open Go
variable {P : Program} {E : Env} {φ : Phi} {w : World}

theorem callFunc_run {f : FuncId} {args : Array Value} {fn : Func} (hf : P.funcs[f]? = some fn) (hb : fn.body.isSome = true) (hn : fn.name ≠ "runtime.NumGoroutine") : (callFunc f args).run P w = .ok (.enter f args) w := by
  have h2 : fn.body ≠ none := by intro hx; rw [hx] at hb; cases hb
  simp [callFunc, program, Sem.run, hf, hn, h2]

theorem builtin_sound (hE : EnvOK P E) {h h' : H} (ok : Hok h) (hG : E.G ≤ h.next) (hr : HR E φ h.blks.get w) (hf0 : h.next < h'.next → φ h.next = none) {b : Builtin} {ts : Array TypeId} {vs vs' : List Value} {v : Value}
    (hs : evBuiltin E h b ts vs = some (v, h')) (hv : VRs φ vs vs') (ty : TypeId) (consts : Array Bool) : ∃ v' w', (builtin b ts ty consts vs'.toArray).run P w = .ok (.value v') w' ∧ Good E φ h w v h' v' w' := by
  unfold evBuiltin at hs
  split at hs
  · rename_i t x hts
    have hts' : ts = #[t] := by rw [← Array.toList_inj]; simpa using hts
    subst hts'
    split at hs
    · rename_i u hu
      simp only [Option.some.injEq, Prod.mk.injEq] at hs
      obtain ⟨rfl, rfl⟩ := hs
      cases hv with
      | cons h1 h2 =>
        cases h2
        obtain ⟨hrun, hvr⟩ := evLen_sound (P := P) (w := w) hE hu h1 ty
        exact ⟨_, w, by simp [builtin, hrun], Good.same hr hvr⟩
    · cases hs
  · rename_i t u s x hts
    have hts' : ts = #[t, u] := by rw [← Array.toList_inj]; simpa using hts
    subst hts'
    cases hv with
    | cons h1 h2 =>
      cases h2 with
      | cons h2 h3 =>
        cases h3
        obtain ⟨v', w', hrun, hg⟩ := evAppend_sound (P := P) (ty := ty) hE ok hG hr hf0 hs h1 h2
        exact ⟨v', w', by simp [builtin, hrun], hg⟩
  · rename_i t u s x hts
    have hts' : ts = #[t, u] := by rw [← Array.toList_inj]; simpa using hts
    subst hts'
    cases hv with
    | cons h1 h2 =>
      cases h2 with
      | cons h2 h3 =>
        cases h3
        obtain ⟨v', w', hrun, hg⟩ := evCopy_sound (P := P) (ty := ty) (tx := u) hE hr hs h1 h2
        exact ⟨v', w', by simp [builtin, hrun], hg⟩
  · rename_i t x hts
    have hts' : ts = #[t] := by rw [← Array.toList_inj]; simpa using hts
    subst hts'
    cases hv with
    | cons h1 h2 =>
      cases h2
      obtain ⟨v', w', hrun, hg⟩ := evClear_sound (P := P) (ty := ty) hE hr hs h1
      exact ⟨v', w', by simp [builtin, hrun], hg⟩
  · cases hs

theorem binOp_nil (hE : EnvOK P E) {op : BinOp} {t : TypeId} {x y x' y' : Value} {ox oy : Operand} {b : Bool} (hb : evNil E t x y = some b) (hx : VR φ x x') (hy : VR φ y y') :
    (op = .eql → ((do eqGuard op t ox oy x' y'; binOp op t x' y') : Sem Value).run P w = .ok (.bool b) w) ∧ (op = .neq → ((do eqGuard op t ox oy x' y'; binOp op t x' y') : Sem Value).run P w = .ok (.bool !b) w) := by
  have he := evNil_sound (P := P) (w := w) hE hb hx hy
  unfold evNil at hb
  constructor
  · intro h; subst h
    split at hb <;> first
      | (cases hb; done)
      | (cases hx <;> cases hy <;> simp [eqGuard, binOp, he])
  · intro h; subst h
    split at hb <;> first
      | (cases hb; done)
      | (cases hx <;> cases hy <;> simp [eqGuard, binOp, he])

/-- plain operands are the same on both sides -/
theorem plain_eval {h : H} (hr : HR E φ h.blks.get w) {α : Tr Value} {a : Act} {n : Nat} (hF : FR φ α a n) {x : Operand} {v : Value} (hs : ev E h α x = some v) (hp : plain v = true) : (ev E h α x).getD undef = a.eval x := by
  rw [hs]; exact ((ev_sound hr hF hs).plain hp).symm
theorem plainA_eval {h : H} (hr : HR E φ h.blks.get w) {α : Tr Value} {a : Act} {n : Nat} (hF : FR φ α a n) {x : Operand} {v : Value} (hs : ev E h α x = some v) (hp : plainA v = true) : (ev E h α x).getD undef = a.eval x := by
  rw [hs]; exact ((ev_sound hr hF hs).plainA hp).symm

theorem plain_evs {h : H} (hr : HR E φ h.blks.get w) {α : Tr Value} {a : Act} {n : Nat} (hF : FR φ α a n) : ∀ {xs : List Operand} {vs : List Value}, evs E h α xs = some vs → vs.all plain = true → xs.map (fun z => (ev E h α z).getD undef) = xs.map a.eval
  | [], _, _, _ => rfl
  | x :: r, vs, hs, hp => by
    simp only [evs] at hs
    split at hs
    · cases hs
    · rename_i v hv
      split at hs
      · cases hs
      · rename_i us hus
        simp only [Option.some.injEq] at hs; subst hs
        simp only [List.all_cons, Bool.and_eq_true] at hp
        simp only [List.map_cons]
        rw [plain_eval hr hF hv hp.1, plain_evs hr hF hus hp.2]

theorem head_ov {h : H} (hr : HR E φ h.blks.get w) {α : Tr Value} {a : Act} {n : Nat} (hF : FR φ α a n) {x : Option Operand} {vs : List Value} (hs : evs E h α x.toList = some vs) : OV φ vs.head? (x.map a.eval) := by
  cases x with
  | none => simp only [Option.toList, evs, Option.some.injEq] at hs; subst hs; exact .none
  | some x =>
    have := evs_sound hr hF hs
    simp only [Option.toList] at this
    cases this with
    | cons h1 h2 => cases h2; exact .some h1

theorem evOp_sound (hE : EnvOK P E) {call : Callf} (hc : CallOK P E call) {h h' : H} (ok : Hok h) (hG : E.G ≤ h.next) (hr : HR E φ h.blks.get w) {α : Tr Value} {a : Act} {n : Nat} (hF : FR φ α a n) {o : Oper} {v : Value}
    (hs : evOp P E call h α o = some (v, h')) (hf : ∀ b, h.next ≤ b → b < h'.next → φ b = none) {K : Act → World → Prop} {Q : Exit → Act → World → Prop} (hK : ∀ v' w', Good E φ h w v h' v' w' → K (a.put o.dst v') w') : o.wp P a w K Q := by
  have hev := fun {x : Operand} {v : Value} (hx : ev E h α x = some v) => ev_sound hr hF hx
  have hf0 : h.next < h'.next → φ h.next = none := fun hlt => hf _ (Nat.le_refl _) hlt
  rw [evOp_eq] at hs
  unfold evOpS at hs
  split at hs
  case h_1 x ho =>
    obtain ⟨h1, rfl⟩ := asV_some hs
    exact valOp (by simp [execOp, ho]) (hK _ _ (Good.same hr (hev h1)))
  case h_2 x ho =>
    obtain ⟨h1, rfl⟩ := asV_some hs
    exact valOp (by simp [execOp, ho]) (hK _ _ (Good.same hr (hev h1)))
  case h_3 c x y ho =>
    split at hs
    · rename_i hcv
      obtain ⟨h1, rfl⟩ := asV_some hs
      have hb := (hev hcv).plain rfl
      exact valOp (by simp [execOp, ho, hb, asBool]) (hK _ _ (Good.same hr (hev h1)))
    · rename_i hcv
      obtain ⟨h1, rfl⟩ := asV_some hs
      have hb := (hev hcv).plain rfl
      exact valOp (by simp [execOp, ho, hb, asBool]) (hK _ _ (Good.same hr (hev h1)))
    · cases hs
  case h_4 t ho =>
    split at hs
    · rename_i inf hinf
      split at hs
      · rename_i z hz
        split at hs
        · rename_i hc1
          obtain ⟨_, hnx⟩ := newVal_ae ok hG hs
          obtain ⟨v', w', hrun, hg⟩ := evAlloc_sound (P := P) hE hG hr (hf0 (by omega)) hinf hz hc1 hs
          exact valOp (by simp [execOp, ho, hrun]) (hK _ _ hg)
        · cases hs
      · cases hs
    · cases hs
  case h_5 t x ho =>
    split at hs
    · rename_i u hu
      obtain ⟨_, hnx⟩ := newVal_ae ok hG hs
      obtain ⟨v', w', hrun, hg⟩ := evBox_sound (P := P) hG hr (hf0 (by omega)) t (hev hu) hs
      exact valOp (by simp [execOp, ho, hrun]) (hK _ _ hg)
    · cases hs
  case h_6 t parts ho =>
    split at hs
    · rename_i ps hps
      obtain ⟨h1, rfl⟩ := asV_some hs
      have hp := evParts_sound hr hF hps
      obtain ⟨v', hrun, hv⟩ := evBuild_sound (P := P) (w := w) hE h1 (ps' := parts.map fun x => (x.1, a.eval x.2)) (by simpa using hp)
      exact valOp (by simp [execOp, ho, hrun]) (hK _ _ (Good.same hr hv))
    · cases hs
  case h_7 t len parts ho =>
    split at hs
    · rename_i ps hps
      have hp := evParts_sound hr hF hps
      obtain ⟨v', w', hrun, hg⟩ := evBuildSlice_sound (P := P) hE hG hr hf0 (ps' := parts.map fun x => (x.1, a.eval x.2)) hs (by simpa using hp)
      exact valOp (by simp [execOp, ho, hrun]) (hK _ _ hg)
    · cases hs
  case h_8 t x ho =>
    split at hs
    · rename_i u hu
      obtain ⟨h1, rfl⟩ := asV_some hs
      obtain ⟨v', hrun, hv⟩ := evLoad_sound (P := P) hE hr h1 (hev hu)
      exact valOp (by simp [execOp, ho, hrun]) (hK _ _ (Good.same hr hv))
    · cases hs
  case h_9 t x y ho =>
    split at hs
    · rename_i u u2 hu hu2
      split at hs
      · rename_i h1 hst
        simp only [Option.some.injEq, Prod.mk.injEq] at hs
        obtain ⟨rfl, rfl⟩ := hs
        obtain ⟨w', hrun, g1, g2⟩ := evStore_sound (P := P) hE hr hst (hev hu) (hev hu2)
        exact skipOp (by simp [execOp, ho, hrun]) (hK _ _ ⟨φ, VR.undef, g1, g2⟩)
      · cases hs
    · cases hs
  case h_10 x ho =>
    split at hs
    · rename_i ad hu
      simp only [Option.some.injEq, Prod.mk.injEq] at hs
      obtain ⟨rfl, rfl⟩ := hs
      have h1 := hev hu
      generalize he : a.eval x = ex at h1
      cases h1 with
      | ptr hφ => exact valOp (by simp [execOp, ho, he]) (hK _ _ (Good.same hr (.ptr hφ)))
    · cases hs
  case h_11 op t x y yt ho =>
    split at hs
    · rename_i u u2 hu hu2
      split at hs
      · rename_i hp
        simp only [Bool.and_eq_true] at hp
        obtain ⟨h1, rfl⟩ := asV_some hs
        obtain ⟨hpl0, hrun0⟩ := binPlain_some ho (by simp only [hu]; rfl) (by simp only [hu2]; rfl) h1
        have hrun := hrun0 w
        have he : execOp (fun z => (ev E h' α z).getD undef) o = execOp a.eval o := by
          simp only [execOp, ho, plainA_eval hr hF hu hp.1, plainA_eval hr hF hu2 hp.2]
        rw [he] at hrun
        exact valOp hrun (hK _ _ (Good.same hr (VR.of_plain hpl0)))
      · split at hs
        · rename_i b hnil
          simp only [Option.some.injEq, Prod.mk.injEq] at hs
          obtain ⟨rfl, rfl⟩ := hs
          have hrun := (binOp_nil (P := P) (w := w) (op := .eql) (ox := x) (oy := y) hE hnil (hev hu) (hev hu2)).1 rfl
          exact valOp (by simp only [execOp, ho]; rw [Sem.run_bind, hrun]; rfl) (hK _ _ (Good.same hr (.bool _)))
        · rename_i b hnil
          simp only [Option.some.injEq, Prod.mk.injEq] at hs
          obtain ⟨rfl, rfl⟩ := hs
          have hrun := (binOp_nil (P := P) (w := w) (op := .neq) (ox := x) (oy := y) hE hnil (hev hu) (hev hu2)).2 rfl
          exact valOp (by simp only [execOp, ho]; rw [Sem.run_bind, hrun]; rfl) (hK _ _ (Good.same hr (.bool _)))
        · cases hs
    · cases hs
  case h_12 op t x ho =>
    split at hs
    · rename_i u hu
      split at hs
      · rename_i hp
        obtain ⟨h1, rfl⟩ := asV_some hs
        obtain ⟨hpl0, hrun0⟩ := plainOp_some h1
        have hrun := hrun0 w
        have he : execOp (fun z => (ev E h' α z).getD undef) o = execOp a.eval o := by
          simp only [execOp, ho, plain_eval hr hF hu hp]
        rw [he] at hrun
        exact valOp hrun (hK _ _ (Good.same hr (VR.of_plain hpl0)))
      · cases hs
    · cases hs
  case h_13 t t2 x ho =>
    split at hs
    · rename_i u hu
      split at hs
      · rename_i hp
        obtain ⟨h1, rfl⟩ := asV_some hs
        obtain ⟨hpl0, hrun0⟩ := convPlain_some hE ho (by simp only [hu]; rfl) h1
        have hrun := hrun0 w
        have he : execOp (fun z => (ev E h' α z).getD undef) o = execOp a.eval o := by
          simp only [execOp, ho, plain_eval hr hF hu hp]
        rw [he] at hrun
        exact valOp hrun (hK _ _ (Good.same hr (VR.of_plain hpl0)))
      · obtain ⟨h1, rfl⟩ := asV_some hs
        obtain ⟨hrun, hp⟩ := evBytes_sound (P := P) hE hr h1 (hev hu)
        exact valOp (by simp [execOp, ho, hrun]) (hK _ _ (Good.same hr (VR.of_plain hp)))
    · cases hs
  case h_14 fn first captured ho =>
    split at hs
    · rename_i f c hf1 hc1
      simp only [Option.some.injEq, Prod.mk.injEq] at hs
      obtain ⟨rfl, rfl⟩ := hs
      have g1 := (evs_sound hr hF hf1).arr
      have g2 := (evs_sound hr hF hc1).arr
      have hv : VR φ (.func fn f.toArray c.toArray) (.func fn ((first.toList.map a.eval).toArray) ((captured.toList.map a.eval).toArray)) := .func fn g1.1 g2.1 g1.2 g2.2
      exact valOp (v' := .func fn ((first.toList.map a.eval).toArray) ((captured.toList.map a.eval).toArray)) (by
      have e1 : first.map a.eval = (first.toList.map a.eval).toArray := by rw [← Array.toList_inj]; simp
      have e2 : captured.map a.eval = (captured.toList.map a.eval).toArray := by rw [← Array.toList_inj]; simp
      simp only [execOp, ho, Instr.makeFunc, e1, e2]; rfl) (hK _ _ (Good.same hr hv))
    · cases hs
  case h_15 t l c ho =>
    split at hs
    · rename_i l1 c1 hl1 hc1
      obtain ⟨_, hnx⟩ := evMakeSlice_ae ok hG hs
      obtain ⟨v', w', hrun, hg⟩ := evMakeSlice_sound (P := P) hE hG hr (hf0 (by omega)) hs (hev hl1) (hev hc1)
      exact valOp (by simp [execOp, ho, hrun]) (hK _ _ hg)
    · cases hs
  case h_16 t x lo hi ho =>
    split at hs
    · rename_i x1 lo1 hi1 hx1 hlo1 hhi1
      obtain ⟨h1, rfl⟩ := asV_some hs
      obtain ⟨v', hrun, hv⟩ := evSlice_sound (P := P) hE hr h1 (hev hx1) (head_ov hr hF hlo1) (head_ov hr hF hhi1)
      exact valOp (by simp [execOp, ho, hrun]) (hK _ _ (Good.same hr hv))
    · cases hs
  case h_17 t x f ho =>
    split at hs
    · rename_i u hu
      obtain ⟨h1, rfl⟩ := asV_some hs
      obtain ⟨v', hrun, hv⟩ := evFieldAddr_sound (P := P) (w := w) hE h1 (hev hu)
      exact valOp (by simp [execOp, ho, hrun]) (hK _ _ (Good.same hr hv))
    · cases hs
  case h_18 t x f ho =>
    split at hs
    · rename_i u hu
      obtain ⟨h1, rfl⟩ := asV_some hs
      obtain ⟨v', hrun, hv⟩ := evField_sound (P := P) (w := w) hE h1 (hev hu)
      exact valOp (by simp [execOp, ho, hrun]) (hK _ _ (Good.same hr hv))
    · cases hs
  case h_19 t x i ho =>
    split at hs
    · rename_i u u2 hu hu2
      obtain ⟨h1, rfl⟩ := asV_some hs
      obtain ⟨v', hrun, hv⟩ := evIndexAddr_sound (P := P) (w := w) hE h1 (hev hu) (hev hu2)
      exact valOp (by simp [execOp, ho, hrun]) (hK _ _ (Good.same hr hv))
    · cases hs
  case h_20 t x i ho =>
    split at hs
    · rename_i u u2 hu hu2
      obtain ⟨h1, rfl⟩ := asV_some hs
      obtain ⟨v', hrun, hv⟩ := evIndex_sound (P := P) (w := w) hE h1 (hev hu) (hev hu2)
      exact valOp (by simp [execOp, ho, hrun]) (hK _ _ (Good.same hr hv))
    · cases hs
  case h_21 x i ho =>
    split at hs
    · rename_i vs hu
      obtain ⟨h1, rfl⟩ := asV_some hs
      have h2 := hev hu
      generalize he : a.eval x = ex at h2
      cases h2 with
      | tuple g1 g2 =>
        rename_i vs'
        rw [Array.getElem?_eq_some_iff] at h1
        obtain ⟨hlt, rfl⟩ := h1
        have hlt' : i < vs'.size := by omega
        exact valOp (by simp [execOp, ho, he, Instr.extract, Array.getElem?_eq_getElem hlt']) (hK _ _ (Good.same hr (g2 i hlt hlt')))
    · cases hs
  case h_22 c ho =>
    split at hs
    · cases hs
    · rename_i vs hvs
      have hargs := evs_sound hr hF hvs
      split at hs
      · rename_i f hcal
        split at hs
        · rename_i g first captured hfv
          have hfn := hev hfv
          generalize he : a.eval f = ef at hfn
          cases hfn with
          | func _ e1 e2 e3 e4 =>
            rename_i first' captured'
            have hall : VRs φ (first.toList ++ vs ++ captured.toList) (first'.toList ++ c.args.toList.map a.eval ++ captured'.toList) := ((VRs.of_arr e1 e3).append hargs).append (VRs.of_arr e2 e4)
            obtain ⟨⟨fn, hfn, hbody, hname⟩, hcall⟩ := hc.run _ _ _ _ _ hs φ w _ ok hG hr hall hf
            have harr : (first'.toList ++ c.args.toList.map a.eval ++ captured'.toList).toArray = first' ++ c.args.map a.eval ++ captured' := by
              rw [← Array.toList_inj]; simp
            rw [harr] at hcall
            unfold Oper.wp
            have hrun : (execOp a.eval o).run P w = .ok (.enter g (first' ++ c.args.map a.eval ++ captured')) w := by
              have := callFunc_run (P := P) (w := w) (args := first' ++ c.args.map a.eval ++ captured') hfn hbody hname
              simp only [execOp, ho, resolve, hcal, he, Deferred.ofValue, Sem.run_bind, Sem.run_pure, Result.andThen_ok, invoke]
              exact this
            rw [hrun]
            refine hcall.mono fun e w' hh => ?_
            obtain ⟨v', rfl, hg⟩ := hh
            exact hK _ _ hg
        · cases hs
      · rename_i hcal
        split at hs
        · rename_i hp
          obtain ⟨h1, rfl⟩ := asV_some hs
          obtain ⟨hpl0, hrun0⟩ := plainOp_some h1
          have hrun := hrun0 w
          have he : execOp (fun z => (ev E h' α z).getD undef) o = execOp a.eval o := by
            have hm : c.args.map (fun z => (ev E h' α z).getD undef) = c.args.map a.eval := by
              rw [← Array.toList_inj]; simpa using plain_evs hr hF hvs hp
            simp only [execOp, ho, resolve, hcal, hm]
          rw [he] at hrun
          exact valOp hrun (hK _ _ (Good.same hr (VR.of_plain hpl0)))
        · cases hs
      · rename_i hcal
        split at hs
        · rename_i hp
          obtain ⟨h1, rfl⟩ := asV_some hs
          obtain ⟨hpl0, hrun0⟩ := plainOp_some h1
          have hrun := hrun0 w
          have he : execOp (fun z => (ev E h' α z).getD undef) o = execOp a.eval o := by
            have hm : c.args.map (fun z => (ev E h' α z).getD undef) = c.args.map a.eval := by
              rw [← Array.toList_inj]; simpa using plain_evs hr hF hvs hp
            simp only [execOp, ho, resolve, hcal, hm]
          rw [he] at hrun
          exact valOp hrun (hK _ _ (Good.same hr (VR.of_plain hpl0)))
        · cases hs
      · rename_i b _ _ hcal
        obtain ⟨v', w', hrun, hg⟩ := builtin_sound (P := P) hE ok hG hr hf0 hs hargs o.type (c.args.map fun | .const _ => true | _ => false)
        have harr : (c.args.toList.map a.eval).toArray = c.args.map a.eval := by
          rw [← Array.toList_inj]; simp
        rw [harr] at hrun
        exact valOp (by simp only [execOp, ho, resolve, hcal, Sem.run_bind, Sem.run_pure, Result.andThen_ok, invoke]; exact hrun) (hK _ _ hg)
      · cases hs
  case h_23 => cases hs
end Go.Proofs.YtnjbcgiplfdgmaaGreatDoor.Ev
