/- An operation looks at its operands alone. -/
import Derived.Test.YtnjbcgiplfdgmaaGreatDoorPmEvList
namespace Go.Proofs.YtnjbcgiplfdgmaaGreatDoor.Ev
open Go
variable {P : Program} {E : Env}

theorem evs_congr {h : H} {α β : Tr Value} : ∀ {l : List Operand}, (∀ x ∈ l, ev E h α x = ev E h β x) → evs E h α l = evs E h β l
  | [], _ => rfl
  | x :: r, hx => by
    simp only [evs]
    rw [hx x (by simp), evs_congr (fun y hy => hx y (by simp [hy]))]

theorem evParts_congr {h : H} {α β : Tr Value} : ∀ {l : List (Nat × Operand)}, (∀ x ∈ l, ev E h α x.2 = ev E h β x.2) → evParts E h α l = evParts E h β l
  | [], _ => rfl
  | x :: r, hx => by
    obtain ⟨i, x⟩ := x
    simp only [evParts]
    rw [hx (i, x) (by simp), evParts_congr (fun y hy => hx y (by simp [hy]))]

theorem map_congr {h : H} {α β : Tr Value} {l : Array Operand} (hx : ∀ x ∈ l.toList, ev E h α x = ev E h β x) : l.map (fun z => (ev E h α z).getD undef) = l.map (fun z => (ev E h β z).getD undef) := by
  rw [← Array.toList_inj]
  simp only [Array.toList_map]
  exact List.map_congr_left fun x hm => by rw [hx x hm]

theorem evOp_congr {call : Callf} {h : H} {α β : Tr Value} {o : Oper} (hx : ∀ x ∈ o.op.operands.toList, ev E h α x = ev E h β x) : evOp P E call h α o = evOp P E call h β o := by
  rw [evOp_eq, evOp_eq]
  unfold evOpS
  cases ho : o.op <;> simp only [ho, Op.operands] at hx <;> try rfl
  case move x => simp only [hx x (by simp)]
  case assign x => simp only [hx x (by simp)]
  case pick c a b => simp only [hx c (by simp), hx a (by simp), hx b (by simp)]
  case box t x => simp only [hx x (by simp)]
  case build t ps =>
    have : evParts E h α ps.toList = evParts E h β ps.toList := evParts_congr fun x hm => hx x.2 (by simpa using ⟨x.1, by simpa using hm⟩)
    simp only [this]
  case buildSlice t n ps =>
    have : evParts E h α ps.toList = evParts E h β ps.toList := evParts_congr fun x hm => hx x.2 (by simpa using ⟨x.1, by simpa using hm⟩)
    simp only [this]
  case load t x => simp only [hx x (by simp)]
  case store t x y => simp only [hx x (by simp), hx y (by simp)]
  case nilCheck x => simp only [hx x (by simp)]
  case binOp op t x y yt =>
    have e : execOp (fun z => (ev E h α z).getD undef) o = execOp (fun z => (ev E h β z).getD undef) o := by simp only [execOp, ho, hx x (by simp), hx y (by simp)]
    simp only [hx x (by simp), hx y (by simp), binPlain, plainOp, e]
  case unOp op t x =>
    have e : execOp (fun z => (ev E h α z).getD undef) o = execOp (fun z => (ev E h β z).getD undef) o := by simp only [execOp, ho, hx x (by simp)]
    simp only [hx x (by simp), plainOp, e]
  case convert s d x =>
    have e : execOp (fun z => (ev E h α z).getD undef) o = execOp (fun z => (ev E h β z).getD undef) o := by simp only [execOp, ho, hx x (by simp)]
    simp only [hx x (by simp), convPlain, plainOp, e]
  case makeFunc fn f c =>
    have e1 : evs E h α f.toList = evs E h β f.toList := evs_congr fun x hm => hx x (by simp at hm ⊢; exact .inl hm)
    have e2 : evs E h α c.toList = evs E h β c.toList := evs_congr fun x hm => hx x (by simp at hm ⊢; exact .inr hm)
    simp only [e1, e2]
  case makeSlice t l c => simp only [hx l (by simp), hx c (by simp)]
  case slice t x lo hi mx =>
    cases mx with
    | some m => rfl
    | none =>
      have e1 : evs E h α lo.toList = evs E h β lo.toList := evs_congr fun y hm => hx y (by cases lo <;> simp_all)
      have e2 : evs E h α hi.toList = evs E h β hi.toList := evs_congr fun y hm => hx y (by cases hi <;> simp_all)
      simp only [hx x (by simp), e1, e2]
  case fieldAddr t x f => simp only [hx x (by simp)]
  case field t x f => simp only [hx x (by simp)]
  case indexAddr t x i => simp only [hx x (by simp), hx i (by simp)]
  case index t x i => simp only [hx x (by simp), hx i (by simp)]
  case extract x i => simp only [hx x (by simp)]
  case call c =>
    have hargs : ∀ x ∈ c.args.toList, ev E h α x = ev E h β x := fun x hm => hx x (by simp only [Call.operands]; simp at hm ⊢; exact .inr hm)
    have e1 : evs E h α c.args.toList = evs E h β c.args.toList := evs_congr hargs
    have e2 : execOp (fun z => (ev E h α z).getD undef) o = execOp (fun z => (ev E h β z).getD undef) o ∨ ∃ f, c.callee = .value f ∨ ∃ r m, c.callee = .invoke r m := by
      cases hcal : c.callee with
      | builtin b => exact .inl (by simp only [execOp, ho, resolve, hcal, map_congr hargs])
      | value f => exact .inr ⟨f, .inl rfl⟩
      | invoke r m => exact .inr ⟨r, .inr ⟨r, m, rfl⟩⟩
    simp only [e1]
    cases hcal : c.callee with
    | value f => simp only [hx f (by simp [Call.operands, hcal])]
    | invoke r m => rfl
    | builtin b =>
      have e3 : execOp (fun z => (ev E h α z).getD undef) o = execOp (fun z => (ev E h β z).getD undef) o := by
        rcases e2 with e2 | ⟨f, h1 | ⟨r, m, h1⟩⟩
        · exact e2
        · rw [hcal] at h1; cases h1
        · rw [hcal] at h1; cases h1
      simp only [plainOp, e3]
      cases evs E h β c.args.toList with
      | none => rfl
      | some vs => cases b <;> rfl

theorem step1V_congr {call : Callf} {ops : Array Oper} {h : H} {α β : Tr Value} {o : Oper} (hx : ∀ t ∈ o.looksAt ops, α.get t = β.get t) : step1V P E call ops.toList h α o = step1V P E call ops.toList h β o := by
  have h1 : ∀ x ∈ o.op.operands.toList, ev E h α x = ev E h β x := fun x hm => by
    cases x with
    | tmp t =>
      have : t ∈ o.looksAt ops := by
        unfold Oper.looksAt
        rw [List.mem_append]
        exact .inl (List.mem_filterMap.2 ⟨.tmp t, hm, rfl⟩)
      simp only [ev, evTmp, hx t this]
    | _ => rfl
  have h2 : wantedA ops.toList α o = wantedA ops.toList β o := by
    unfold wantedA
    cases hg : o.guard with
    | none => rfl
    | some g =>
      obtain ⟨j, want⟩ := g
      simp only
      cases hj : nth ops.toList j with
      | none => rfl
      | some oj =>
        simp only
        cases hd : oj.dst with
        | none => rfl
        | some d =>
          have : d ∈ o.looksAt ops := by
            unfold Oper.looksAt
            rw [List.mem_append]
            right
            rw [nth_eq] at hj
            have hj' : ops[j]? = some oj := by simpa using hj
            simp [hg, hj', hd]
          simp only [hx d this]
  unfold step1V
  rw [h2, evOp_congr h1]
end Go.Proofs.YtnjbcgiplfdgmaaGreatDoor.Ev
