/- Regions. -/
import Derived.Test.YtnjbcgiplfdgmaaGreatDoorPmEvIn
namespace Go.Proofs.YtnjbcgiplfdgmaaGreatDoor.Ev
open Go
variable {P : Program} {E : Env}

theorem FR.congr {φ : Phi} {α β : Tr Value} {a : Act} {n : Nat} (h : FR φ α a n) (hg : ∀ t, β.get t = α.get t) : FR φ β a n := ⟨h.size, fun t => by rw [hg]; exact h.vals t, h.defers⟩

theorem any_prefix (hE : EnvOK P E) {call : Callf} (hc : CallOK P E call) {n m : Nat} {ops : Array Oper} {h h' h2 : H} {α α' α2 : Tr Value} {hs : Nat → H} {αs : Nat → Tr Value} {vs : Nat → Value} {φ : Phi} {w0 : World} (ok : Hok h) (hG : E.G ≤ h.next) (hreg : regOk ops m = true)
    (tr : Trace P E call n ops.toList (ops.toList.take m) h α h' α' hs αs vs) (htail : evList P E call n ops.toList (ops.toList.drop m) h' α' = some (α2, h2)) (hf : ∀ b, h.next ≤ b → b < h2.next → φ b = none) {Q : Exit → Act → World → Prop}
    (hQ : ∀ a' w', Reach E φ h w0 α2 h2 n a' w' → Q .normal a' w') : ∀ (f : Nat) (listed : Array Bool) (a : Act) (w : World) (φ1 : Phi) (αL : Tr Value), Inv E n m ops h α h' hs vs φ w0 listed a w φ1 αL → (m < ops.size → ∀ j ∈ freeUpto ops m, listed.getD j false = true) → todo m listed = f → wpAny P .any ops Q (f + (ops.size - m)) listed a w := by
  simp only [regOk, Bool.and_eq_true, Bool.or_eq_true, decide_eq_true_eq] at hreg
  obtain ⟨⟨⟨⟨⟨hsel, hap⟩, hd⟩, hback⟩, hm⟩, hend⟩ := hreg
  have hae := tr.ae hc ok hG
  have hG' : E.G ≤ h'.next := Nat.le_trans hG hae.next
  have hae2 := evList_ae hc hae.ok hG' htail
  have hfm : ∀ b, h.next ≤ b → b < h'.next → φ b = none := fun b h3 h4 => hf b h3 (Nat.lt_of_lt_of_le h4 hae2.next)
  have hlen : (ops.toList.take m).length = m := by simp; omega
  intro f
  induction f with
  | zero =>
    intro listed a w φ1 αL inv hFl ht
    have hall : ∀ j, j < m → listed.getD j false = true := fun j hj => by
      unfold todo at ht
      rw [List.countP_eq_zero] at ht
      have := ht j (List.mem_range.2 hj)
      simpa using this
    -- the temporaries are the text's order's
    have hget : ∀ t, α'.get t = αL.get t := fun t => by
      obtain ⟨c1, c2⟩ := tr.star hd m (by omega)
      have ham := tr.am
      rw [hlen] at ham
      rw [← ham]
      by_cases hex : ∃ j oj, j < m ∧ ops[j]? = some oj ∧ oj.dst = some t
      · obtain ⟨j, oj, hjm, hoj, hdj⟩ := hex
        rw [c1 j oj t hjm (by rw [take_get hjm]; exact hoj) hdj, inv.star1 j oj t hjm hoj (hall j hjm) hdj]
      · rw [inv.star0 t fun j oj hjm hoj _ hdj => hex ⟨j, oj, hjm, hoj, hdj⟩]
        exact c2 t fun j oj hjm hoj hdj => hex ⟨j, oj, hjm, by rw [take_get hjm] at hoj; exact hoj, hdj⟩
    have hF : FR φ1 α' a n := inv.fr.congr hget
    have hlist : wpList P ops Q (ops.toList.drop m) a w := by
      refine evList_sound hE hc hae.ok hG' inv.hr hF htail (fun b h3 h4 => ?_) fun a' w' hreach => hQ _ _ ?_
      · cases hx : φ1 b with
        | none => rfl
        | some x =>
          rcases inv.ext.dom b x hx with h6 | ⟨_, _, h7⟩
          · rw [hf b (Nat.le_trans hae.next h3) h4] at h6; cases h6
          · omega
      · obtain ⟨φ2, g1, g2, g3⟩ := hreach
        exact ⟨φ2, g1, g2, Ext.trans hfm inv.ext hae g3 hae2⟩
    rcases hend with hme | ⟨⟨⟨hsink, hfok⟩, hchain⟩, hseq⟩
    · subst hme
      have hdrop : ops.toList.drop ops.size = [] := by simp
      rw [hdrop] at hlist
      simp only [Nat.zero_add, Nat.sub_self, wpAny]
      refine ⟨?_, hlist⟩
      rw [List.eq_nil_iff_forall_not_mem]
      intro i hi
      obtain ⟨hun, o, ho, _⟩ := mem_ready.1 hi
      have := hall i (Array.getElem?_eq_some_iff.1 ho).1
      rw [getD_both hun] at this; cases this
    · have hlisted : listed = firstTrue ops.size m := by
        apply Array.ext
        · rw [inv.head.size]; simp [firstTrue]
        · intro i h3 h4
          simp only [firstTrue, List.getElem_toArray, List.getElem_map, List.getElem_range]
          by_cases him : i < m
          · have := hall i him
            simp [h3] at this
            simp [this, him]
          · have := inv.head.tail i (by omega) (by rw [← inv.head.size]; exact h3)
            simp [h3] at this
            simp [this, him]
      rw [hlisted, Nat.zero_add, show ops.size - m = (ops.toList.drop m).length by simp]
      exact wpAny_of_seq (ops.toList.drop m) m _ a w (fun j => by simp [List.getElem?_drop]) (by simpa using hseq) hlist
  | succ f ih =>
    intro listed a w φ1 αL inv hFl ht
    obtain ⟨i0, hi0m, hi0, hleast⟩ := least_unlisted (m := m) (listed := listed) (by omega)
    have hi0s : i0 < listed.size := by rw [inv.head.size]; omega
    have hready : i0 ∈ Region.ready .any ops listed := by
      refine mem_ready.2 ⟨getD_in hi0s hi0, ops[i0]'(by omega), Array.getElem?_eq_getElem (by omega), fun e he hb => ?_⟩
      exact hleast _ (edges_of hback (Array.getElem?_eq_getElem (by omega)) e he hb)
    rw [show f + 1 + (ops.size - m) = (f + (ops.size - m)) + 1 by omega]
    refine ⟨fun h0 => (by rw [h0] at hready; cases hready), fun i hi => ?_⟩
    have him : i < m := by
      rcases hend with hme | ⟨⟨⟨hsink, hfok⟩, hchain⟩, _⟩
      · obtain ⟨_, o, ho, _⟩ := mem_ready.1 hi
        rw [hme]; exact (Array.getElem?_eq_some_iff.1 ho).1
      · rcases Nat.lt_or_ge i m with h3 | h3
        · exact h3
        · by_cases hms : m < ops.size
          · exact absurd hi (tail_waits' hsink (hFl hms) hchain hms inv.head _ i0 rfl hi0m (getD_in hi0s hi0) i h3)
          · obtain ⟨_, o, ho, _⟩ := mem_ready.1 hi
            have := (Array.getElem?_eq_some_iff.1 ho).1
            omega
    refine inv_step hE hc ok hG hm hap hd tr hfm inv hi him fun a' w' φ2 αL' inv' => ih _ _ _ _ _ inv' (fun hms j hj => getD_set_true (hFl hms j hj)) ?_
    obtain ⟨hun, o, ho, _⟩ := mem_ready.1 hi
    have his : i < listed.size := by rw [inv.head.size]; exact (Array.getElem?_eq_some_iff.1 ho).1
    have := countP_set (p := fun j => !listed.getD j false) (q := fun j => !(listed.setIfInBounds i true).getD j false) (i := i) (by simp only [getD_both hun]; rfl) (by simp [his]) (fun j hj => by rw [getD_set_ne false (Ne.symm hj)]) (List.nodup_range (n := m)) (List.mem_range.2 him)
    unfold todo at ht ⊢
    omega

theorem evRegion_ae {self : Self} (hc : CallOK P E (callWith E self)) {n : Nat} {ops : Array Oper} {draw : Bool} {h h' : H} {α α' : Tr Value} (ok : Hok h) (hG : E.G ≤ h.next) (hs : evRegion P E self n ops draw α h = some (α', h')) : AE E h h' := by
  unfold evRegion at hs
  split at hs
  · simp only [forceN_eq] at hs
    split at hs
    · split at hs
      · split at hs
        · rename_i α1 h1 hq
          split at hs
          · obtain ⟨hs', αs, vs, tr⟩ := evQuiet_trace hq
            have a1 := tr.ae hc ok hG
            exact a1.trans (evList_ae hc a1.ok (Nat.le_trans hG a1.next) hs)
          · cases hs
        · cases hs
      · cases hs
    split at hs
    · split at hs
      · rename_i α1 h1 hq
        obtain ⟨hs', αs, vs, tr⟩ := evQuiet_trace hq
        have a1 := tr.ae hc ok hG
        exact a1.trans (evList_ae hc a1.ok (Nat.le_trans hG a1.next) hs)
      · cases hs
    · cases hs
  · exact evList_ae hc ok hG hs

/-- where a region begins -/
theorem inv_start {call : Callf} (hc : CallOK P E call) {n m : Nat} {ops : Array Oper} {h h1 : H} {α α1 : Tr Value} {hs' : Nat → H} {αs : Nat → Tr Value} {vs : Nat → Value} {φ : Phi} {a : Act} {w : World} (ok : Hok h) (hG : E.G ≤ h.next) (hr : HR E φ h.blks.get w) (hF : FR φ α a n)
    (tr : Trace P E call n ops.toList (ops.toList.take m) h α h1 α1 hs' αs vs) (hf : ∀ b, h.next ≤ b → b < h1.next → φ b = none) :
    Inv E n m ops h α h1 hs' vs φ { w with drawn := w.drawn + 1 } (Array.replicate ops.size false) a { w with drawn := w.drawn + 1 } φ α := by
  have a1 := tr.ae hc ok hG
  refine ⟨⟨by simp, fun j oj _ hl => (by rw [getD_replicate_false] at hl; cases hl), fun t _ ht => getD_in (by simpa using ht) (getD_replicate_false _ _)⟩, hF, fun i o t _ _ hl => (by rw [getD_replicate_false] at hl; cases hl), fun t _ => rfl, ?_, ?_, fun b x hx => .inl hx⟩
  · have hold : ∀ b, b < h.next → h1.blks.get b = h.blks.get b := fun b hb => by
      obtain ⟨y1, y2, y3⟩ := tr.h0
      obtain ⟨f1, f2, f3⟩ := tr.hm
      rw [← f1, (tr.pres hc ok hG (i := 0) (by omega) (Nat.le_refl _)).2 b (by omega), y1]
    refine ⟨fun b cells size es hb x hx => ?_, fun b1 b2 x1 x2 _ _ _ _ _ _ hG1 hb1 hb2 hx1 hx2 he => ?_, fun b cells size es hlt hlN hb => ?_⟩
    · have hbn : b < h.next := by
        rcases Nat.lt_or_ge b h.next with h3 | h3
        · exact h3
        · rw [hf b h3 (get_lt a1.ok hb)] at hx; cases hx
      exact hr.blk b cells size es (by rw [← hold b hbn]; exact hb) x hx
    · have hbn1 : b1 < h.next := by
        rcases Nat.lt_or_ge b1 h.next with h3 | h3
        · exact h3
        · rw [hf b1 h3 (get_lt a1.ok hb1)] at hx1; cases hx1
      have hbn2 : b2 < h.next := by
        rcases Nat.lt_or_ge b2 h.next with h3 | h3
        · exact h3
        · rw [hf b2 h3 (get_lt a1.ok hb2)] at hx2; cases hx2
      exact hr.inj b1 b2 x1 x2 _ _ _ _ _ _ hG1 (by rw [← hold b1 hbn1]; exact hb1) (by rw [← hold b2 hbn2]; exact hb2) hx1 hx2 he
    · exact hr.glob b cells size es hlt hlN (by rw [← hold b (by omega)]; exact hb)
  · exact ⟨fun _ _ h => h, fun _ _ h => .inl h, fun _ _ h h' => (by rw [h'] at h; cases h), rfl, rfl, rfl, Nat.le_refl _, fun _ _ _ => rfl⟩

theorem evRegion_sound (hE : EnvOK P E) {self : Self} (hc : CallOK P E (callWith E self)) {n id : Nat} {ops : Array Oper} {draw : Bool} {h h' : H} {α α' : Tr Value} {a : Act} {φ : Phi} {w : World} (ok : Hok h) (hG : E.G ≤ h.next) (hr : HR E φ h.blks.get w) (hF : FR φ α a n)
    (hs : evRegion P E self n ops draw α h = some (α', h')) (hf : ∀ b, h.next ≤ b → b < h'.next → φ b = none) {ro : Option Nat} {M : List Deferred} {Q : Exit → Act → World → Prop} (hQ : ∀ a' w', Reach E φ h w α' h' n a' w' → Q .normal (withM M a') w') : (Code.region id ops draw).wpIn (Fr ro) 0 P Q (withM M a) w := by
  have calm : Calm (fun e a' w' => e = Exit.normal ∧ Reach E φ h w α' h' n a' w') := ⟨fun a w h => h.2.choose_spec.1.defers, fun c a w h => (by cases h.1), fun a w h => (by cases h.1)⟩
  have hQQ : ∀ a' w', (fun e a' w' => e = Exit.normal ∧ Reach E φ h w α' h' n a' w') .normal a' w' → Q .normal (withM M a') w' := fun a' w' h => hQ a' w' h.2
  unfold evRegion at hs
  split at hs
  · rename_i hd
    subst hd
    simp only [forceN_eq] at hs
    split at hs
    · rename_i hwat
      generalize sinkAt ops (ops.size - tailAt ops.toList) (tailAt ops.toList) = m at *
      split at hs
      · rename_i hreg
        split at hs
        · rename_i α1 h1 hq
          split at hs
          · rename_i hlate
            cases m with
            | zero => simp [wAt] at hwat
            | succ p =>
              simp only [Nat.add_sub_cancel] at hs hreg hq hlate
              have hreg' := hreg
              simp only [regOkW, Bool.and_eq_true, decide_eq_true_eq] at hreg'
              obtain ⟨⟨⟨⟨⟨⟨⟨⟨⟨⟨⟨hsel, hap1⟩, hap⟩, hd'⟩, hback⟩, hp⟩, hsink⟩, hfok⟩, hchain⟩, hseq0⟩, hseq⟩, hla⟩ := hreg'
              obtain ⟨hs', αs, vs, tr⟩ := evQuiet_trace hq
              have a1 := tr.ae hc ok hG
              have a2 := evList_ae hc a1.ok (Nat.le_trans hG a1.next) hs
              have hpl : p < ops.toList.length := by simpa using hp
              have hdrop : ops.toList.drop p = ops[p] :: ops.toList.drop (p + 1) := by
                rw [List.drop_eq_getElem_cons hpl]
                simp
              have hpo : ops[p]? = some ops[p] := Array.getElem?_eq_getElem hp
              simp only [wAt, nth_eq, List.getElem?_eq_getElem hpl] at hwat
              have hwo : (isStore ops[p].op && ops[p].guard.isNone && ops[p].dst.isNone) = true := by simpa using hwat
              generalize ops[p] = ow at hdrop hpo hwo
              simp only [Bool.and_eq_true, Option.isNone_iff_eq_none] at hwo
              obtain ⟨⟨how, hog⟩, hod⟩ := hwo
              rw [hdrop, evList] at hs
              split at hs
              · rename_i α1' gW hst
                have hw1 : ∃ vw, evOp P E (callWith E self) h1 α1 ow = some (vw, gW) ∧ α1' = α1 := by
                  unfold step1 wantedA at hst
                  rw [hog] at hst
                  simp only [hod, put] at hst
                  split at hst
                  · rename_i v g hv
                    simp only [Option.some.injEq, Prod.mk.injEq] at hst
                    obtain ⟨rfl, rfl⟩ := hst
                    exact ⟨v, hv, rfl⟩
                  · cases hst
                obtain ⟨vw, hWr, rfl⟩ := hw1
                have hinv := inv_start (w := w) hc ok hG hr hF tr (fun b h3 h4 => hf b h3 (Nat.lt_of_lt_of_le h4 a2.next))
                have htodo : todo p (Array.replicate ops.size false) + (ops.size - p) = ops.size := by
                  have : todo p (Array.replicate ops.size false) = p := by
                    unfold todo
                    rw [List.countP_eq_length.2 (fun j _ => by rw [getD_replicate_false]; rfl)]
                    simp
                  omega
                refine wpIn_region_any hE.mixed (wpAnyIn_of calm hQQ _ _ _ _ ?_)
                have key := late_prefix hE hc (φ := φ) (w0 := { w with drawn := w.drawn + 1 }) ok hG hreg tr hpo how hog hod hWr hlate hs hf (Q := fun e a' w' => e = Exit.normal ∧ Reach E φ h w α' h' n a' w') (fun a' w' hreach => by
                  obtain ⟨φ2, g1, g2, g3⟩ := hreach
                  exact ⟨rfl, φ2, g1, g2, ⟨g3.le, g3.dom, g3.src, g3.os, g3.tape, g3.output, g3.size, g3.frame⟩⟩)
                suffices hwp : wpAny P .any ops (fun e a' w' => e = Exit.normal ∧ Reach E φ h w α' h' n a' w') (todo p (Array.replicate ops.size false) + (ops.size - p)) (Array.replicate ops.size false) a { w with drawn := w.drawn + 1 } by
                  rw [htodo] at hwp; exact hwp
                refine free_steps hE hc ok hG (by omega) hap hd' hsel tr (fun e a' w' => e = Exit.normal ∧ Reach E φ h w α' h' n a' w') (fun c a w hq => nomatch hq.1) p 0 [] _ a φ α (by omega) hinv (fun j => ?_) (fun j hj => by cases hj) hfok fun listed' a' αL' inv' hl' => ?_
                · rw [getD_replicate_false]; simp
                · exact key _ listed' a' _ φ αL' inv' hl' rfl
              · cases hs
          · cases hs
        · cases hs
      · cases hs
    split at hs
    · rename_i hreg
      split at hs
      · rename_i α1 h1 hq
        obtain ⟨hs', αs, vs, tr⟩ := evQuiet_trace hq
        have a1 := tr.ae hc ok hG
        have a2 := evList_ae hc a1.ok (Nat.le_trans hG a1.next) hs
        generalize sinkAt ops (ops.size - tailAt ops.toList) (tailAt ops.toList) = m at *
        have hm : m ≤ ops.size := by
          simp only [regOk, Bool.and_eq_true, decide_eq_true_eq] at hreg
          exact hreg.1.2
        have hinv := inv_start (w := w) hc ok hG hr hF tr (fun b h3 h4 => hf b h3 (Nat.lt_of_lt_of_le h4 a2.next))
        have htodo : todo m (Array.replicate ops.size false) + (ops.size - m) = ops.size := by
          have : todo m (Array.replicate ops.size false) = m := by
            unfold todo
            rw [List.countP_eq_length.2 (fun j _ => by rw [getD_replicate_false]; rfl)]
            simp
          omega
        refine wpIn_region_any hE.mixed (wpAnyIn_of calm hQQ _ _ _ _ ?_)
        have key := any_prefix hE hc (φ := φ) (w0 := { w with drawn := w.drawn + 1 }) ok hG hreg tr hs hf (Q := fun e a' w' => e = Exit.normal ∧ Reach E φ h w α' h' n a' w') (fun a' w' hreach => by
          obtain ⟨φ2, g1, g2, g3⟩ := hreach
          exact ⟨rfl, φ2, g1, g2, ⟨g3.le, g3.dom, g3.src, g3.os, g3.tape, g3.output, g3.size, g3.frame⟩⟩)
        suffices hwp : wpAny P .any ops (fun e a' w' => e = Exit.normal ∧ Reach E φ h w α' h' n a' w') (todo m (Array.replicate ops.size false) + (ops.size - m)) (Array.replicate ops.size false) a { w with drawn := w.drawn + 1 } by
          rw [htodo] at hwp; exact hwp
        by_cases hms : m < ops.size
        · have hreg' := hreg
          simp only [regOk, Bool.and_eq_true, Bool.or_eq_true, decide_eq_true_eq] at hreg'
          obtain ⟨⟨⟨⟨⟨hsel, hap⟩, hd'⟩, hback⟩, _⟩, hend⟩ := hreg'
          have hfok : freeOK ops (freeUpto ops m) = true := by
            rcases hend with hme | ⟨⟨⟨_, hfok⟩, _⟩, _⟩
            · omega
            · exact hfok
          refine free_steps hE hc ok hG hm hap hd' hsel tr (fun e a' w' => e = Exit.normal ∧ Reach E φ h w α' h' n a' w') (fun c a w hq => nomatch hq.1) m 0 [] _ a φ α (by omega) hinv (fun j => ?_) (fun j hj => by cases hj) hfok fun listed' a' αL' inv' hl' => ?_
          · rw [getD_replicate_false]; simp
          · exact key _ listed' a' _ φ αL' inv' (fun _ => hl') rfl
        · exact key _ _ a _ φ α hinv (fun h => absurd h hms) rfl
      · cases hs
    · cases hs
  · rename_i hd
    have hd' : draw = false := by simpa using hd
    subst hd'
    exact wpIn_region_list (wpListIn_of calm hQQ _ _ _ (evList_sound hE hc ok hG hr hF hs hf fun a' w' hq => ⟨rfl, hq⟩))
end Go.Proofs.YtnjbcgiplfdgmaaGreatDoor.Ev
