/- A region that draws its order: its first operations in any order. -/
import Derived.Test.YtnjbcgiplfdgmaaGreatDoorPmEvCongr
namespace Go.Proofs.YtnjbcgiplfdgmaaGreatDoor.Ev
open Go
variable {P : Program} {E : Env}

/-- the text's own order of the first operations, step by step -/
structure Trace (P : Program) (E : Env) (call : Callf) (n : Nat) (ops : List Oper) (l : List Oper) (h : H) (α : Tr Value) (h' : H) (α' : Tr Value) (hs : Nat → H) (αs : Nat → Tr Value) (vs : Nat → Value) : Prop where
  h0 : (hs 0).blks = h.blks ∧ (hs 0).next = h.next ∧ (hs 0).wm = h.wm
  a0 : αs 0 = α
  hm : (hs l.length).blks = h'.blks ∧ (hs l.length).next = h'.next ∧ (hs l.length).wm = h'.wm
  am : αs l.length = α'
  step : ∀ i o, l[i]? = some o → ∃ h1, step1V P E call ops { blks := (hs i).blks, next := (hs i).next, wm := (hs i).next } (αs i) o = some (vs i, h1) ∧ put n (αs i) o.dst (vs i) = some (αs (i + 1)) ∧
    (hs i).next ≤ h1.wm ∧ (hs (i + 1)).blks = h1.blks ∧ (hs (i + 1)).next = h1.next ∧ (hs (i + 1)).wm = (hs i).wm

theorem evQuiet_trace {call : Callf} {n : Nat} {ops : List Oper} : ∀ {l : List Oper} {h h' : H} {α α' : Tr Value}, evQuiet P E call n ops l h α = some (α', h') → ∃ hs αs vs, Trace P E call n ops l h α h' α' hs αs vs
  | [], h, h', α, α', hq => by
    simp only [evQuiet, Option.some.injEq, Prod.mk.injEq] at hq
    obtain ⟨rfl, rfl⟩ := hq
    exact ⟨fun _ => h, fun _ => α, fun _ => undef, ⟨rfl, rfl, rfl⟩, rfl, ⟨rfl, rfl, rfl⟩, rfl, fun i o hi => by simp at hi⟩
  | o :: r, h, h', α, α', hq => by
    simp only [evQuiet] at hq
    split at hq
    · rename_i α1 h1 h2
      split at hq
      · rename_i hle
        obtain ⟨v, hv, hp⟩ := step1_split h2
        obtain ⟨hs, αs, vs, tr⟩ := evQuiet_trace hq
        refine ⟨fun i => match i with | 0 => h | i + 1 => hs i, fun i => match i with | 0 => α | i + 1 => αs i, fun i => match i with | 0 => v | i + 1 => vs i, ⟨rfl, rfl, rfl⟩, rfl, tr.hm, tr.am, fun i o' hi => ?_⟩
        cases i with
        | zero =>
          simp only [List.getElem?_cons_zero, Option.some.injEq] at hi
          subst hi
          obtain ⟨e1, e2, e3⟩ := tr.h0
          exact ⟨h1, hv, by simp only [tr.a0]; exact hp, hle, e1, e2, e3⟩
        | succ i => exact tr.step i o' (by simpa using hi)
      · cases hq
    · cases hq

def bump (h : H) : H := { blks := h.blks, next := h.next, wm := h.next }

theorem step1V_ae {call : Callf} (hc : CallOK P E call) {h h' : H} (ok : Hok h) (hG : E.G ≤ h.next) {ops : List Oper} {α : Tr Value} {o : Oper} {v : Value} (hs : step1V P E call ops h α o = some (v, h')) : AE E h h' := by
  unfold step1V at hs
  split at hs
  · exact evOp_ae hc ok hG hs
  · simp only [Option.some.injEq, Prod.mk.injEq] at hs
    obtain ⟨_, rfl⟩ := hs
    exact AE.refl ok
  · cases hs

section
variable {call : Callf} {n : Nat} {ops : List Oper} {l : List Oper} {h h' : H} {α α' : Tr Value} {hs : Nat → H} {αs : Nat → Tr Value} {vs : Nat → Value}

theorem Trace.facts (hc : CallOK P E call) (ok : Hok h) (hG : E.G ≤ h.next) (tr : Trace P E call n ops l h α h' α' hs αs vs) : ∀ i, i ≤ l.length →
    Hok (hs i) ∧ E.G ≤ (hs i).next ∧ h.next ≤ (hs i).next ∧ (hs i).wm = h.wm := by
  intro i
  induction i with
  | zero =>
    intro _
    obtain ⟨e1, e2, e3⟩ := tr.h0
    exact ⟨fun b hb => by rw [e1]; exact ok b (by omega), by omega, by omega, e3⟩
  | succ i ih =>
    intro hi
    obtain ⟨k1, k2, k3, k4⟩ := ih (by omega)
    obtain ⟨h1, hv, hp, hle, e1, e2, e3⟩ := tr.step i _ (List.getElem?_eq_getElem (by omega))
    have ae := step1V_ae (h := bump (hs i)) hc k1 k2 hv
    have := ae.next
    simp only [bump] at this
    exact ⟨fun b hb => by rw [e1]; exact ae.ok b (by omega), by omega, by omega, by omega⟩

theorem Trace.pres1 (hc : CallOK P E call) (ok : Hok h) (hG : E.G ≤ h.next) (tr : Trace P E call n ops l h α h' α' hs αs vs) {i : Nat} (hi : i < l.length) : (hs i).next ≤ (hs (i + 1)).next ∧ ∀ b, b < (hs i).next → (hs (i + 1)).blks.get b = (hs i).blks.get b := by
  obtain ⟨k1, k2, k3, k4⟩ := tr.facts hc ok hG i (by omega)
  obtain ⟨h1, hv, hp, hle, e1, e2, e3⟩ := tr.step i _ (List.getElem?_eq_getElem hi)
  have ae := step1V_ae (h := bump (hs i)) hc k1 k2 hv
  have := ae.next
  simp only [bump] at this
  exact ⟨by omega, fun b hb => by rw [e1]; exact ae.pres b hb (by omega)⟩

theorem Trace.pres (hc : CallOK P E call) (ok : Hok h) (hG : E.G ≤ h.next) (tr : Trace P E call n ops l h α h' α' hs αs vs) : ∀ {i j : Nat}, i ≤ j → j ≤ l.length → (hs i).next ≤ (hs j).next ∧ ∀ b, b < (hs i).next → (hs j).blks.get b = (hs i).blks.get b := by
  intro i j hij
  induction hij with
  | refl => intro _; exact ⟨Nat.le_refl _, fun _ _ => rfl⟩
  | step hij ih =>
    rename_i j
    intro hj
    obtain ⟨k1, k2⟩ := ih (by omega)
    obtain ⟨k3, k4⟩ := tr.pres1 hc ok hG (i := j) (by omega)
    show (hs i).next ≤ (hs (j + 1)).next ∧ ∀ b, b < (hs i).next → (hs (j + 1)).blks.get b = (hs i).blks.get b
    exact ⟨by omega, fun b hb => by rw [k4 b (by omega), k2 b hb]⟩

theorem Trace.ae (hc : CallOK P E call) (ok : Hok h) (hG : E.G ≤ h.next) (tr : Trace P E call n ops l h α h' α' hs αs vs) : AE E h h' := by
  obtain ⟨k1, k2, k3, k4⟩ := tr.facts hc ok hG l.length (Nat.le_refl _)
  obtain ⟨k5, k6⟩ := tr.pres hc ok hG (i := 0) (j := l.length) (by omega) (Nat.le_refl _)
  obtain ⟨e1, e2, e3⟩ := tr.h0
  obtain ⟨f1, f2, f3⟩ := tr.hm
  have key : ∀ b, b < h.next → h'.blks.get b = h.blks.get b := fun b hb => by rw [← f1, ← e1]; exact k6 b (by omega)
  refine ⟨fun b hb => by rw [← f1]; exact k1 b (by omega), by omega, fun b hb hl => ?_, by omega, fun b hb _ => key b hb, fun b hb => key b (by omega)⟩
  unfold live at hl ⊢
  rw [key b hb] at hl
  exact hl
end

theorem HR.sub {φ : Phi} {w : World} {g g' : Nat → Option Blk} (hr : HR E φ g' w) (hsub : ∀ b cells size es, g b = some (.mk cells size es) → g' b = some (.mk cells size es)) : HR E φ g w :=
  ⟨fun b cells size es hb x hx => hr.blk b cells size es (hsub _ _ _ _ hb) x hx, fun b b' x x' _ _ _ _ _ _ hG h1 h2 hx hx' he => hr.inj b b' x x' _ _ _ _ _ _ hG (hsub _ _ _ _ h1) (hsub _ _ _ _ h2) hx hx' he,
    fun b cells size es hlt hlN hb => hr.glob b cells size es hlt hlN (hsub _ _ _ _ hb)⟩
end Go.Proofs.YtnjbcgiplfdgmaaGreatDoor.Ev
