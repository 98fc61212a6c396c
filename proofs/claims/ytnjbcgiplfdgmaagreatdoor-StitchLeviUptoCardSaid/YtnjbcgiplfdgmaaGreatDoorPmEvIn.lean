/- Regions inside a round, and in an activation that holds marks; the steps of a range over a function. -/
import Derived.Test.YtnjbcgiplfdgmaaGreatDoorPmEvLate
import Derived.OrdersIn
import Derived.TacticsIn
import Derived.LoopNIn
import Derived.RangeFuncLeaves
import Derived.RangeFuncCalls
import Derived.RangeFuncIn
import Derived.RangeFuncRecord
namespace Go.Proofs.YtnjbcgiplfdgmaaGreatDoor.Ev
open Go
variable {P : Program} {E : Env}

/-- the wide fence, in a round or in none -/
abbrev Fr (ro : Option Nat) : Fence := { fn := fun _ => True, depth := none, alive := false, round := ro }
def withM (M : List Deferred) (a : Act) : Act := { tmps := a.tmps, defers := M }
theorem withM_eval {M : List Deferred} {a : Act} : (withM M a).eval = a.eval := by
  funext x; cases x <;> rfl
theorem withM_put {M : List Deferred} {a : Act} {d : Option Tmp} {v : Value} : (withM M a).put d v = withM M (a.put d v) := by cases d <;> rfl
theorem put_defers {a : Act} {d : Option Tmp} {v : Value} : (a.put d v).defers = a.defers := by cases d <;> rfl

theorem callsFr {ro : Option Nat} {n : Nat} {f : FuncId} {args : Array Value} {w : World} {R : Ending → World → Prop} (h : Calls P f args w R) : CallsIn (Fr ro) n P f args w R :=
  (callsIn_wide (n := n)).2 h
theorem rowsFr {ro : Option Nat} {n : Nat} {row : String} {args : Array Value} {w : World} {R : Value → World → Prop} (h : Rows P row args w R) : RowsIn (Fr ro) n P row args w R := fun c cs _ => by
  obtain ⟨v, w', r, s⟩ := h c cs
  exact ⟨v, w', r, (stepsIn_wide (P := P)).2 s⟩

section
variable {ops : Array Oper} {Q Q' : Exit → Act → World → Prop} {M : List Deferred} {ro : Option Nat} {n : Nat}

/-- what is proved of regions in the evaluator: no panic, no deferred calls -/
structure Calm (Q : Exit → Act → World → Prop) : Prop where
  d : ∀ a w, Q .normal a w → a.defers = []
  p : ∀ c a w, ¬ Q (.panic c) a w
  o : ∀ a w, ¬ Q .outgrown a w

theorem wp_defers (hQ : Calm Q) {o : Oper} {a : Act} {w : World} {K : Act → World → Prop} (hK : ∀ a w, K a w → a.defers = []) (h : o.wp P a w K Q) : a.defers = [] := by
  unfold Oper.wp at h
  generalize (execOp a.eval o).run P w = r at h
  cases r with
  | ok x w' =>
    cases x with
    | value v => have := hK _ _ h; rwa [put_defers] at this
    | skip => have := hK _ _ h; rwa [put_defers] at this
    | defer d =>
      have := hK _ _ h
      rw [put_defers] at this
      cases this
    | enter f args =>
      obtain ⟨e, w'', fr, hR, _⟩ := h []
      cases e with
      | returned v => have := hK _ _ hR; rwa [put_defers] at this
      | panicked c => exact (hQ.p _ _ _ hR).elim
      | outgrown =>
        obtain ⟨a0, w0, hh⟩ := hR
        exact (hQ.o _ _ hh).elim
    | row rw args =>
      obtain ⟨v, w'', hR, _⟩ := h default []
      have := hK _ _ hR; rwa [put_defers] at this
    | _ => exact h.elim
  | halt x w' =>
    cases x with
    | panic v => exact (hQ.p _ _ _ h).elim
    | _ => exact h.elim

theorem wp_not_defer (hQ : Calm Q) {o : Oper} {a : Act} {w : World} {K : Act → World → Prop} (hK : ∀ a w, K a w → a.defers = []) (h : o.wp P a w K Q) : ∀ c, o.op ≠ .defer c := by
  intro c hc
  unfold Oper.wp at h
  have he : execOp a.eval o = (do pure (Next.defer (← resolve a.eval c o.type))) := by simp only [execOp, hc]
  rw [he, Sem.run_bind] at h
  generalize (resolve a.eval c o.type).run P w = r at h
  cases r with
  | ok d w' =>
    have := hK _ _ h
    rw [put_defers] at this
    cases this
  | halt x w' =>
    cases x with
    | panic v => exact (hQ.p _ _ _ h).elim
    | _ => exact h.elim

theorem wpIn_of_wp (hQ : Calm Q) {o : Oper} {a : Act} {w : World} {K K' : Act → World → Prop} (hKd : ∀ a w, K a w → a.defers = []) (hK : ∀ a w, K a w → K' (withM M a) w) (h : o.wp P a w K Q) :
    o.wpIn (Fr ro) n P (withM M a) w K' Q' := by
  refine ⟨fun _ _ => trivial, ?_⟩
  rw [Oper.semAt_eq _ _ _ (wp_not_defer hQ hKd h), withM_eval]
  unfold Oper.wp at h
  generalize (execOp a.eval o).run P w = r at h ⊢
  cases r with
  | ok x w' =>
    cases x with
    | value v => show K' ((withM M a).put o.dst v) w'; rw [withM_put]; exact hK _ _ h
    | skip => show K' ((withM M a).put o.dst undef) w'; rw [withM_put]; exact hK _ _ h
    | defer d =>
      have := hKd _ _ h
      rw [put_defers] at this
      cases this
    | enter f args =>
      refine ⟨fun h => (by cases h), ?_⟩
      refine (callsFr h).mono fun e w'' hR => ?_
      cases e with
      | returned v => show K' ((withM M a).put o.dst v) w''; rw [withM_put]; exact hK _ _ hR
      | panicked c => exact (hQ.p _ _ _ hR).elim
      | outgrown =>
        obtain ⟨a0, w0, hh⟩ := hR
        exact (hQ.o _ _ hh).elim
    | row rw args =>
      refine ⟨fun h => (by cases h), ?_⟩
      exact (rowsFr h).mono fun v w'' hR => by show K' ((withM M a).put o.dst v) w''; rw [withM_put]; exact hK _ _ hR
    | _ => exact h.elim
  | halt x w' =>
    cases x with
    | panic v => exact (hQ.p _ _ _ h).elim
    | _ => exact h.elim

theorem wpList_defers (hQ : Calm Q) : ∀ (l : List Oper) (a : Act) (w : World), wpList P ops Q l a w → a.defers = []
  | [], a, w, h => hQ.d _ _ h
  | o :: l, a, w, h => by
    unfold wpList at h
    split at h
    · rcases h with h | ⟨_, a0, w0, h⟩
      · exact wp_defers hQ (wpList_defers hQ l) h
      · exact (hQ.o _ _ h).elim
    · have := wpList_defers hQ l _ _ h
      rwa [put_defers] at this

theorem wpListIn_of (hQ : Calm Q) (hQQ : ∀ a w, Q .normal a w → Q' .normal (withM M a) w) : ∀ (l : List Oper) (a : Act) (w : World), wpList P ops Q l a w → wpListIn (Fr ro) n P ops Q' l (withM M a) w
  | [], a, w, h => hQQ _ _ h
  | o :: l, a, w, h => by
    unfold wpList at h
    show if Region.wanted o (yielded ops a.tmps) then _ else _
    split at h
    · rename_i hw
      rw [if_pos hw]
      rcases h with h | ⟨_, a0, w0, h⟩
      · exact wpIn_of_wp hQ (wpList_defers hQ l) (fun a w h => wpListIn_of hQ hQQ l a w h) h
      · exact (hQ.o _ _ h).elim
    · rename_i hw
      rw [if_neg hw, withM_put]
      exact ⟨fun _ _ => trivial, wpListIn_of hQ hQQ l _ w h⟩

theorem wpAny_defers (hQ : Calm Q) {md : Region.Mode} : ∀ (f : Nat) (listed : Array Bool) (a : Act) (w : World), wpAny P md ops Q f listed a w → a.defers = []
  | 0, listed, a, w, h => hQ.d _ _ h.2
  | f + 1, listed, a, w, h => by
    obtain ⟨h0, h1⟩ := h
    cases hr : Region.ready md ops listed with
    | nil => exact hQ.d _ _ (h0 hr)
    | cons i r =>
      have h2 := h1 i (by rw [hr]; exact List.mem_cons_self)
      unfold wpOp at h2
      split at h2
      · exact wpAny_defers hQ f _ _ _ h2
      · split at h2
        · rcases h2 with h2 | ⟨_, a0, w0, h2⟩
          · exact wp_defers hQ (wpAny_defers hQ f _) h2
          · exact (hQ.o _ _ h2).elim
        · have := wpAny_defers hQ f _ _ _ h2
          rwa [put_defers] at this

theorem wpAnyIn_of (hQ : Calm Q) (hQQ : ∀ a w, Q .normal a w → Q' .normal (withM M a) w) {md : Region.Mode} : ∀ (f : Nat) (listed : Array Bool) (a : Act) (w : World), wpAny P md ops Q f listed a w → wpAnyIn (Fr ro) n P md ops Q' f listed (withM M a) w
  | 0, listed, a, w, h => ⟨h.1, hQQ _ _ h.2⟩
  | f + 1, listed, a, w, h => by
    obtain ⟨h0, h1⟩ := h
    refine ⟨fun hr => hQQ _ _ (h0 hr), fun i hi => ?_⟩
    have h2 := h1 i hi
    unfold wpOp at h2
    unfold wpOpIn
    split at h2
    · rename_i hn
      simp only [hn]
      exact wpAnyIn_of hQ hQQ f _ _ _ h2
    · rename_i o ho
      simp only [ho]
      show if Region.wanted o (yielded ops a.tmps) then _ else _
      split at h2
      · rename_i hw
        rw [if_pos hw]
        rcases h2 with h2 | ⟨_, a0, w0, h2⟩
        · exact wpIn_of_wp hQ (wpAny_defers hQ f _) (fun a w h => wpAnyIn_of hQ hQQ f _ a w h) h2
        · exact (hQ.o _ _ h2).elim
      · rename_i hw
        rw [if_neg hw, withM_put]
        exact ⟨fun _ _ => trivial, wpAnyIn_of hQ hQQ f _ _ w h2⟩
end

end Go.Proofs.YtnjbcgiplfdgmaaGreatDoor.Ev
