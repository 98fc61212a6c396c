/- Operations that look at no memory, taken first in a region that draws. -/
import Derived.Test.YtnjbcgiplfdgmaaGreatDoorPmEvAny2
namespace Go.Proofs.YtnjbcgiplfdgmaaGreatDoor.Ev
open Go
variable {P : Program} {E : Env}

theorem tail_waits' {ops : Array Oper} {F : List Nat} {n : Nat} {listed : Array Bool} (hs : sinkFB ops F n = true) (hF : ∀ i ∈ F, listed.getD i false = true) (hc : Region.chainB .any ops n = true) (hn : n < ops.size) (inv : HeadInv .any ops n listed) :
    ∀ (d i : Nat), n - i = d → i < n → listed.getD i true = false → ∀ t, n ≤ t → t ∉ Region.ready .any ops listed := by
  intro d
  induction d using Nat.strongRecOn with
  | _ d ih =>
    intro i hd hi hun t ht hr
    obtain ⟨_, ot, hot, hall⟩ := mem_ready.1 hr
    have htlt : t < ops.size := (Array.getElem?_eq_some_iff.1 hot).1
    by_cases htn : t = n
    · subst htn
      have h1 := List.all_eq_true.1 hs i (List.mem_range.2 hi)
      simp only [Bool.or_eq_true] at h1
      have hiF : ¬ F.contains i = true := fun h => by
        have := hF i (by simpa using h)
        rw [getD_both hun] at this; cases this
      obtain ⟨j, hj, hj2⟩ := List.any_eq_true.1 (h1.resolve_left hiF)
      simp only [Bool.and_eq_true, decide_eq_true_eq] at hj2
      obtain ⟨oj, hoj, e, he, hb, hon⟩ := Region.waitsFor_spec hj2.2
      have hjle : j ≤ t := by have := List.mem_range.1 hj; omega
      by_cases hjt : j = t
      · subst hjt
        have : oj = ot := Option.some.inj (hoj.symm.trans hot)
        subst this
        have h2 := hall e he hb
        rw [hon, getD_both hun] at h2
        cases h2
      · cases hl : listed.getD j false with
        | true =>
          have h2 := inv.closed j oj hoj hl e he hb
          rw [hon, getD_both hun] at h2
          cases h2
        | false =>
          have hjs : j < listed.size := by rw [inv.size]; omega
          exact ih (t - j) (by omega) j rfl (by omega) (getD_in hjs hl) t (Nat.le_refl _) hr
    · have h1 := List.all_eq_true.1 hc t (List.mem_range.2 htlt)
      simp only [Bool.or_eq_true, decide_eq_true_eq] at h1
      rcases h1 with h1 | h1
      · omega
      · obtain ⟨o', ho', e, he, hb, hon⟩ := Region.waitsFor_spec h1
        have : o' = ot := Option.some.inj (ho'.symm.trans hot)
        subst this
        have h2 := hall e he hb
        rw [hon, getD_both (inv.tail (t - 1) (by omega) (by omega))] at h2
        cases h2

/-- what such an operation gives, in whatever world -/
theorem free_yields (hE : EnvOK P E) {call : Callf} {φ : Phi} {w : World} {h : H} (hr : HR E φ h.blks.get w) {α : Tr Value} {a : Act} {n : Nat} (hF : FR φ α a n) {o : Oper} (ho : freeOp o.op = true) {v : Value} {h' : H} (hs : evOp P E call h α o = some (v, h')) :
    h' = h ∧ ∃ v', VR φ v v' ∧ ∀ w', (execOp a.eval o).run P w' = .ok (.value v') w' := by
  rw [evOp_eq] at hs
  unfold evOpS at hs
  cases hop : o.op <;> rw [hop] at ho <;> first | (simp [freeOp] at ho; done) | skip
  case move x =>
    simp only [hop] at hs
    obtain ⟨hv, rfl⟩ := asV_some hs
    exact ⟨rfl, a.eval x, ev_sound hr hF hv, fun w' => by simp only [execOp, hop, Sem.run_pure]⟩
  case assign x =>
    simp only [hop] at hs
    obtain ⟨hv, rfl⟩ := asV_some hs
    exact ⟨rfl, a.eval x, ev_sound hr hF hv, fun w' => by simp only [execOp, hop, Sem.run_pure]⟩
  case indexAddr t x i =>
    simp only [hop] at hs
    split at hs
    · rename_i u z hu hz
      obtain ⟨hv, rfl⟩ := asV_some hs
      obtain ⟨v', hrun, hvr⟩ := evIndexAddr_sound (P := P) (w := w) hE hv (ev_sound hr hF hu) (ev_sound hr hF hz)
      refine ⟨rfl, v', hvr, fun w' => ?_⟩
      obtain ⟨v'', hrun', hvr'⟩ := evIndexAddr_sound (P := P) (w := w') hE hv (ev_sound hr hF hu) (ev_sound hr hF hz)
      have hptr : ∃ b off, v = .pointer (some ⟨b, off, none⟩) := by
        unfold evIndexAddr at hv
        simp only [forceN_eq] at hv
        repeat' split at hv
        all_goals first
          | (cases hv; done)
          | (injection hv with hv; exact ⟨_, _, hv.symm⟩)
      obtain ⟨b, off, rfl⟩ := hptr
      have e : v'' = v' := by
        cases hvr with
        | ptr h1 => cases hvr' with
          | ptr h2 => rw [h1] at h2; injection h2 with h2; cases h2; rfl
      rw [e] at hrun'
      simp only [execOp, hop, Sem.run_bind, hrun', Result.andThen_ok, Sem.run_pure]
    · cases hs
  case fieldAddr t x f =>
    simp only [hop] at hs
    split at hs
    · rename_i u hu
      obtain ⟨hv, rfl⟩ := asV_some hs
      obtain ⟨v', hrun, hvr⟩ := evFieldAddr_sound (P := P) (w := w) hE hv (ev_sound hr hF hu)
      refine ⟨rfl, v', hvr, fun w' => ?_⟩
      obtain ⟨v'', hrun', hvr'⟩ := evFieldAddr_sound (P := P) (w := w') hE hv (ev_sound hr hF hu)
      have hptr : ∃ b off, v = .pointer (some ⟨b, off, none⟩) := by
        unfold evFieldAddr at hv
        simp only [forceN_eq] at hv
        repeat' split at hv
        all_goals first
          | (cases hv; done)
          | (injection hv with hv; exact ⟨_, _, hv.symm⟩)
      obtain ⟨b, off, rfl⟩ := hptr
      have e : v'' = v' := by
        cases hvr with
        | ptr h1 => cases hvr' with
          | ptr h2 => rw [h1] at h2; injection h2 with h2; cases h2; rfl
      rw [e] at hrun'
      simp only [execOp, hop, Sem.run_bind, hrun', Result.andThen_ok, Sem.run_pure]
    · cases hs
  case binOp op t x y t' =>
    simp only [hop] at hs
    split at hs
    · rename_i u z hu hz
      by_cases hp : (plainA u && plainA z) = true
      · rw [if_pos hp] at hs
        obtain ⟨hv, rfl⟩ := asV_some hs
        simp only [Bool.and_eq_true] at hp
        have eu := (ev_sound hr hF hu).plainA hp.1
        have ez := (ev_sound hr hF hz).plainA hp.2
        have hbin : binPlain P op u z a.eval o = some v := by
          unfold binPlain at hv ⊢
          cases hf : fastBin op u z with
          | some r => rw [hf] at hv; exact hv
          | none =>
            rw [hf] at hv
            simp only at hv ⊢
            have ee : execOp (fun z => (ev E h' α z).getD undef) o = execOp a.eval o := by
              simp only [execOp, hop, hu, hz, Option.getD_some, eu, ez]
            unfold plainOp at hv ⊢
            rw [ee] at hv
            exact hv
        obtain ⟨hpl, hrun⟩ := binPlain_some hop eu ez hbin
        exact ⟨rfl, v, VR.of_plain hpl, hrun⟩
      · rw [if_neg hp] at hs
        cases op <;> first | (simp [freeOp] at ho; done) | cases hs
    · cases hs

theorem freeFrom_mono {ops : List Oper} : ∀ (k i : Nat) (F : List Nat) (j : Nat), j ∈ F → j ∈ freeFrom ops k i F
  | 0, _, _, _, h => h
  | k + 1, i, F, j, h => by
    simp only [freeFrom]
    split
    · rw [forceN_eq]
      split
      · exact freeFrom_mono k _ _ j (List.mem_cons_of_mem _ h)
      · exact freeFrom_mono k _ _ j h
    · exact h

/-- taken first -/
theorem free_steps (hE : EnvOK P E) {call : Callf} (hc : CallOK P E call) {n m : Nat} {ops : Array Oper} {h h' : H} {α α' : Tr Value} {hs : Nat → H} {αs : Nat → Tr Value} {vs : Nat → Value} {φ : Phi} {w0 : World} (ok : Hok h) (hG : E.G ≤ h.next) (hm : m ≤ ops.size)
    (hap : allApart ops (ops.toList.take m) = true) (hd : dstsApart (ops.toList.take m) = true) (hsel : Region.noSelect ops = true) (tr : Trace P E call n ops.toList (ops.toList.take m) h α h' α' hs αs vs) (Q : Exit → Act → World → Prop)
    (hQp : ∀ c a w, ¬ Q (.panic c) a w) {w : World} : ∀ (k i : Nat) (F : List Nat) (listed : Array Bool) (a : Act) (φ1 : Phi) (αL : Tr Value), i + k = m → Inv E n m ops h α h' hs vs φ w0 listed a w φ1 αL →
      (∀ j, listed.getD j false = true ↔ j ∈ F) → (∀ j ∈ F, j < i) → freeOK ops (freeFrom ops.toList k i F) = true →
      (∀ (listed' : Array Bool) (a' : Act) (αL' : Tr Value), Inv E n m ops h α h' hs vs φ w0 listed' a' w φ1 αL' → (∀ j ∈ freeFrom ops.toList k i F, listed'.getD j false = true) → wpAny P .any ops Q (todo m listed' + (ops.size - m)) listed' a' w) →
      wpAny P .any ops Q (todo m listed + (ops.size - m)) listed a w
  | 0, i, F, listed, a, φ1, αL, _, inv, hl, _, _, hfin => hfin listed a αL inv fun j hj => (hl j).2 hj
  | k + 1, i, F, listed, a, φ1, αL, hik, inv, hl, hlt, hok, hfin => by
    have hlen : (ops.toList.take m).length = m := by simp; omega
    have him : i < m := by omega
    have hio : ops.toList[i]? = some (ops[i]'(by omega)) := by rw [List.getElem?_eq_getElem (by simpa using (by omega : i < ops.size))]; simp
    have hos : ops[i]? = some (ops[i]'(by omega)) := Array.getElem?_eq_getElem (by omega)
    generalize ops[i]'(by omega) = o at hio hos
    simp only [freeFrom, nth_eq, hio, forceN_eq] at hok hfin
    by_cases hb : freeB o F = true
    · rw [if_pos hb] at hok hfin
      have hb' := hb
      simp only [freeB, Bool.and_eq_true, Option.isNone_iff_eq_none, List.all_eq_true, Bool.or_eq_true, Bool.not_eq_true'] at hb'
      obtain ⟨⟨hfo, hg⟩, hedge⟩ := hb'
      have hun : listed.getD i false = false := by
        cases hx : listed.getD i false with
        | false => rfl
        | true => have := hlt i ((hl i).1 hx); omega
      have his : i < listed.size := by rw [inv.head.size]; exact (Array.getElem?_eq_some_iff.1 hos).1
      have hready : i ∈ Region.ready .any ops listed := by
        refine mem_ready.2 ⟨getD_in his hun, o, hos, fun e he hbd => ?_⟩
        rcases hedge e (by simpa using he) with h1 | h1
        · rw [hbd] at h1; cases h1
        · exact (hl e.on).2 (by simpa using h1)
      -- what it gives
      have hol : (ops.toList.take m)[i]? = some o := by rw [take_get him]; exact hos
      obtain ⟨h1, hv, hp, hle, e1, e2, e3⟩ := tr.step i o hol
      obtain ⟨k1, k2, k3, k4⟩ := tr.facts hc ok hG i (by omega)
      obtain ⟨q1, q2⟩ := tr.pres hc ok hG (i := i) (j := m) (by omega) (by omega)
      have hmm := tr.hm
      rw [hlen] at hmm
      obtain ⟨f1, f2, f3⟩ := hmm
      have hold : ∀ b, b < (hs i).next → h'.blks.get b = (hs i).blks.get b := fun b hb => by rw [← f1]; exact q2 b hb
      have hri : HR E φ1 (hs i).blks.get w := inv.hr.sub fun b cells size es hb => by
        rw [hold b (get_lt k1 hb)]; exact hb
      have hagree := inv_agree hm hap hd tr inv hready him hos
      rw [step1V_congr hagree] at hv
      have hvop : evOp P E call (bump (hs i)) αL o = some (vs i, h1) := by
        unfold step1V wantedA at hv
        rw [hg] at hv
        exact hv
      obtain ⟨rfl, v', hvr, hrun⟩ := free_yields hE (h := bump (hs i)) (w := w) hri inv.fr hfo hvop
      obtain ⟨αL', hpL⟩ := put_some hp αL
      have hmem : i ∈ freeFrom ops.toList k (i + 1) (i :: F) := freeFrom_mono _ _ _ _ List.mem_cons_self
      have htodo : todo m listed = todo m (listed.setIfInBounds i true) + 1 := by
        unfold todo
        exact countP_set (p := fun j => !listed.getD j false) (q := fun j => !(listed.setIfInBounds i true).getD j false) (i := i) (by simp only [hun]; rfl) (by simp [his]) (fun j hj => by rw [getD_set_ne false (Ne.symm hj)]) (List.nodup_range (n := m)) (List.mem_range.2 him)
      rw [htodo, show todo m (listed.setIfInBounds i true) + 1 + (ops.size - m) = (todo m (listed.setIfInBounds i true) + (ops.size - m)) + 1 by omega]
      refine wpAny_first hos (Region.noSelect_spec hsel) (fun c a w hq => absurd hq (hQp _ _ _)) _ listed a w (fun j oj hj hji hunj hne => ?_) hready (.inl ⟨by unfold Region.wanted; rw [hg], hrun⟩) ?_
      · have hx := List.all_eq_true.1 hok i hmem
        have hjlt : j < ops.size := (Array.getElem?_eq_some_iff.1 hj).1
        have hy := List.all_eq_true.1 hx j (List.mem_range.2 hjlt)
        have hj' : ops.toList[j]? = some oj := by simpa using hj
        simp only [nth_eq, hio, hj', Bool.or_eq_true, beq_iff_eq] at hy
        rcases hy with hy | (hy | hy) | hy
        · exact absurd hy hji
        · obtain ⟨e, he, hbd, hon⟩ := waits_spec hy
          exact absurd hon (hne e he hbd)
        · obtain ⟨e, he, hbd, hon⟩ := waits_spec hy
          have := (mem_ready.1 hready).2
          obtain ⟨o2, ho2, hall2⟩ := this
          obtain rfl : o2 = o := Option.some.inj (ho2.symm.trans hos)
          have := hall2 e he hbd
          rw [hon, getD_both hunj] at this
          cases this
        · exact hy
      · refine free_steps hE hc ok hG hm hap hd hsel tr Q hQp k (i + 1) (i :: F) _ _ φ1 αL' (by omega) ?_ (fun j => ?_) (fun j hj => ?_) hok hfin
        · refine ⟨inv.head.set hready him, inv.fr.put hpL hvr, fun j oj t hjm hoj hlj hdj => ?_, fun t ht => ?_, inv.hr, inv.ext, fun b x hx => ?_⟩
          · rw [put_get hpL]
            by_cases hji : j = i
            · subst hji
              rw [hos] at hoj
              injection hoj with hoj
              rw [if_pos (by rw [hoj]; exact hdj)]
            · have hlj' : listed.getD j false = true := by rwa [getD_set_ne false (Ne.symm hji)] at hlj
              have hne := dsts_ne hd hji (by rw [take_get hjm]; exact hoj) hol hdj
              rw [if_neg hne]
              exact inv.star1 j oj t hjm hoj hlj' hdj
          · have hni : o.dst ≠ some t := ht i o him hos (by simp [his])
            rw [put_get hpL, if_neg hni]
            exact inv.star0 t fun j oj hjm hoj hlj => ht j oj hjm hoj (getD_set_true hlj)
          · rcases inv.dom b x hx with h3 | ⟨j, hjm, hlj, hj1, hj2⟩
            · exact .inl h3
            · exact .inr ⟨j, hjm, getD_set_true hlj, hj1, hj2⟩
        · by_cases hji : j = i
          · subst hji; simp [his]
          · rw [getD_set_ne false (Ne.symm hji), hl j]
            simp [hji]
        · rcases List.mem_cons.1 hj with rfl | hj
          · omega
          · have := hlt j hj; omega
    · rw [if_neg hb] at hok hfin
      exact free_steps hE hc ok hG hm hap hd hsel tr Q hQp k (i + 1) F listed a φ1 αL (by omega) inv hl (fun j hj => by have := hlt j hj; omega) hok hfin
end Go.Proofs.YtnjbcgiplfdgmaaGreatDoor.Ev
