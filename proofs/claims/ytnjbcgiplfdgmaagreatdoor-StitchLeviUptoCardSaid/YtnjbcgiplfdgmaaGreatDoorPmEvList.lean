/- Operations one after the other. -/
import Derived.Test.YtnjbcgiplfdgmaaGreatDoorPmEvOpSound
namespace Go.Proofs.YtnjbcgiplfdgmaaGreatDoor.Ev
open Go
variable {P : Program} {E : Env} {φ : Phi} {w : World}

theorem nth_eq : ∀ (l : List Oper) (k : Nat), nth l k = l[k]?
  | [], k => by simp [nth]
  | o :: r, 0 => rfl
  | o :: r, k + 1 => by simpa [nth] using nth_eq r k

theorem wantedA_sound {ops : Array Oper} {α : Tr Value} {a : Act} {n : Nat} (hF : FR φ α a n) {o : Oper} {b : Bool} (hw : wantedA ops.toList α o = some b) : Region.wanted o (yielded ops a.tmps) = b := by
  unfold wantedA at hw
  unfold Region.wanted
  split at hw
  · rename_i hg; simp only [Option.some.injEq] at hw; simp [hg, hw]
  · rename_i j want hg
    split at hw
    · rename_i oj hoj
      split at hw
      · rename_i d hd
        split at hw
        · rename_i c hc
          simp only [Option.some.injEq] at hw
          rw [nth_eq] at hoj
          have hoj' : ops[j]? = some oj := by simpa using hoj
          have hv := hF.vals d
          rw [hc] at hv
          simp only [Option.getD_some] at hv
          have he := hv.plain rfl
          have ht : a.tmps[d]? = some (.bool c) := by
            rw [Array.getD_eq_getD_getElem?] at he
            cases h1 : a.tmps[d]? with
            | none => rw [h1] at he; simp [undef] at he
            | some x => rw [h1] at he; simpa using he
          simp only [hg, yielded, hoj', Option.bind_some, hd, ht]
          rw [← hw]
          cases c <;> cases want <;> rfl
        · rename_i vs hc
          simp only [Option.some.injEq] at hw
          subst hw
          rw [nth_eq] at hoj
          have hoj' : ops[j]? = some oj := by simpa using hoj
          have hv := hF.vals d
          rw [hc] at hv
          simp only [Option.getD_some] at hv
          have hn : ∀ b, a.tmps[d]? ≠ some (.bool b) := fun b hb => by
            rw [Array.getD_eq_getD_getElem?, hb] at hv
            cases hv
          have hy : (match a.tmps[d]? with
            | some (.bool b) => some b
            | _ => none) = (none : Option Bool) := by
            split
            · rename_i hb; exact absurd hb (hn _)
            · rfl
          have hy2 : yielded ops a.tmps j = none := by
            unfold yielded
            simp only [hoj', Option.bind_some, hd]
            try exact hy
          simp only [hg, hy2]
          try (cases want <;> rfl)
        · cases hw
      · cases hw
    · cases hw

/-- a later state of both sides -/
def Reach (E : Env) (φ : Phi) (h : H) (w : World) (α' : Tr Value) (h' : H) (n : Nat) (a' : Act) (w' : World) : Prop :=
  ∃ φ', FR φ' α' a' n ∧ HR E φ' h'.blks.get w' ∧ Ext E φ h w φ' h' w'

theorem step1_ae {call : Callf} (hc : CallOK P E call) {h h' : H} (ok : Hok h) (hG : E.G ≤ h.next) {n : Nat} {ops : List Oper} {α α' : Tr Value} {o : Oper} (hs : step1 P E call n ops h α o = some (α', h')) : AE E h h' := by
  unfold step1 at hs
  split at hs
  · split at hs
    · rename_i v h1 hv
      split at hs
      · simp only [Option.some.injEq, Prod.mk.injEq] at hs
        obtain ⟨_, rfl⟩ := hs
        exact evOp_ae hc ok hG hv
      · cases hs
    · cases hs
  · split at hs
    · simp only [Option.some.injEq, Prod.mk.injEq] at hs
      obtain ⟨_, rfl⟩ := hs
      exact AE.refl ok
    · cases hs
  · cases hs

/-- what one operation puts -/
noncomputable def step1V (P : Program) (E : Env) (call : Callf) (ops : List Oper) (h : H) (α : Tr Value) (o : Oper) : Option (Value × H) :=
  match wantedA ops α o with
  | some true => evOp P E call h α o
  | some false => some (undef, h)
  | none => none

theorem step1_split {call : Callf} {h h' : H} {n : Nat} {ops : List Oper} {α α' : Tr Value} {o : Oper} (hs : step1 P E call n ops h α o = some (α', h')) :
    ∃ v, step1V P E call ops h α o = some (v, h') ∧ put n α o.dst v = some α' := by
  unfold step1 at hs
  unfold step1V
  split at hs
  · split at hs
    · rename_i hw _ v h1 hv
      split at hs
      · rename_i α1 hp
        simp only [Option.some.injEq, Prod.mk.injEq] at hs
        obtain ⟨rfl, rfl⟩ := hs
        exact ⟨v, by rw [hw]; exact hv, hp⟩
      · cases hs
    · cases hs
  · rename_i hw
    split at hs
    · rename_i α1 hp
      simp only [Option.some.injEq, Prod.mk.injEq] at hs
      obtain ⟨rfl, rfl⟩ := hs
      exact ⟨undef, by rw [hw], hp⟩
    · cases hs
  · cases hs

theorem step1V_sound (hE : EnvOK P E) {call : Callf} (hc : CallOK P E call) {h h' : H} (ok : Hok h) (hG : E.G ≤ h.next) (hr : HR E φ h.blks.get w) {ops : Array Oper} {α : Tr Value} {a : Act} {n : Nat} (hF : FR φ α a n) {o : Oper} {v : Value}
    (hs : step1V P E call ops.toList h α o = some (v, h')) (hf : ∀ b, h.next ≤ b → b < h'.next → φ b = none) {K : Act → World → Prop} {Q : Exit → Act → World → Prop} (hK : ∀ v' w', Good E φ h w v h' v' w' → K (a.put o.dst v') w') :
    if Region.wanted o (yielded ops a.tmps) then o.wp P a w K Q else K (a.put o.dst undef) w := by
  unfold step1V at hs
  split at hs
  · rename_i hw
    rw [wantedA_sound hF hw, if_pos rfl]
    exact evOp_sound hE hc ok hG hr hF hs hf hK
  · rename_i hw
    rw [wantedA_sound hF hw, if_neg (by simp)]
    simp only [Option.some.injEq, Prod.mk.injEq] at hs
    obtain ⟨rfl, rfl⟩ := hs
    exact hK _ _ (Good.same hr VR.undef)
  · cases hs

theorem evList_ae {call : Callf} (hc : CallOK P E call) {n : Nat} {ops : List Oper} : ∀ {l : List Oper} {h h' : H} {α α' : Tr Value}, Hok h → E.G ≤ h.next → evList P E call n ops l h α = some (α', h') → AE E h h'
  | [], h, h', α, α', ok, _, hs => by
    simp only [evList, Option.some.injEq, Prod.mk.injEq] at hs
    obtain ⟨_, rfl⟩ := hs
    exact AE.refl ok
  | o :: r, h, h', α, α', ok, hG, hs => by
    simp only [evList] at hs
    split at hs
    · rename_i α1 h1 h2
      have a1 := step1_ae hc ok hG h2
      exact a1.trans (evList_ae hc a1.ok (Nat.le_trans hG a1.next) hs)
    · cases hs

theorem evList_sound (hE : EnvOK P E) {call : Callf} (hc : CallOK P E call) {n : Nat} {ops : Array Oper} {Q : Exit → Act → World → Prop} : ∀ {l : List Oper} {h h' : H} {α α' : Tr Value} {a : Act} {φ : Phi} {w : World}, Hok h → E.G ≤ h.next → HR E φ h.blks.get w → FR φ α a n →
    evList P E call n ops.toList l h α = some (α', h') → (∀ b, h.next ≤ b → b < h'.next → φ b = none) → (∀ a' w', Reach E φ h w α' h' n a' w' → Q .normal a' w') → wpList P ops Q l a w
  | [], h, h', α, α', a, φ, w, _, _, hr, hF, hs, _, hQ => by
    simp only [evList, Option.some.injEq, Prod.mk.injEq] at hs
    obtain ⟨rfl, rfl⟩ := hs
    exact hQ _ _ ⟨φ, hF, hr, Ext.refl _ _ _ _⟩
  | o :: r, h, h', α, α', a, φ, w, ok, hG, hr, hF, hs, hf, hQ => by
    simp only [evList] at hs
    split at hs
    · rename_i α1 h1 h2
      have a1 := step1_ae hc ok hG h2
      have hG1 := Nat.le_trans hG a1.next
      have a2 := evList_ae hc a1.ok hG1 hs
      obtain ⟨v, hv, hp⟩ := step1_split h2
      refine wpList_step fun K hK => ?_
      refine step1V_sound hE hc ok hG hr hF hv (fun b h3 h4 => hf b h3 (Nat.lt_of_lt_of_le h4 a2.next)) fun v' w' hg => hK _ _ ?_
      obtain ⟨φ1, hvr, hr1, x1⟩ := hg
      refine evList_sound hE hc a1.ok hG1 hr1 ((hF.mono x1.le).put hp hvr) hs (fun b h3 h4 => ?_) fun a' w2 hreach => hQ _ _ ?_
      · cases h5 : φ1 b with
        | none => rfl
        | some x =>
          rcases x1.dom b x h5 with h6 | ⟨_, _, h7⟩
          · rw [hf b (Nat.le_trans a1.next h3) h4] at h6; cases h6
          · omega
      · obtain ⟨φ2, g1, g2, g3⟩ := hreach
        exact ⟨φ2, g1, g2, Ext.trans (fun b h3 h4 => hf b h3 (Nat.lt_of_lt_of_le h4 a2.next)) x1 a1 g3 a2⟩
    · cases hs
end Go.Proofs.YtnjbcgiplfdgmaaGreatDoor.Ev
