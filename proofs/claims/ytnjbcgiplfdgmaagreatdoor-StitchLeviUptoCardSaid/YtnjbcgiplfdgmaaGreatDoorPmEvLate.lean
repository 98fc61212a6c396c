/- A region of which one store ahead of the tail may come before reads of other blocks. -/
import Derived.Test.YtnjbcgiplfdgmaaGreatDoorPmEvFree
namespace Go.Proofs.YtnjbcgiplfdgmaaGreatDoor.Ev
open Go
variable {P : Program} {E : Env}

theorem ev_glob {h1 h2 : H} {α : Tr Value} (hg : ∀ g, g < E.G → h2.blks.get g = h1.blks.get g) (x : Operand) : ev E h2 α x = ev E h1 α x := by
  cases x <;> first | rfl | skip
  rename_i g
  by_cases hlt : g < E.G
  · simp only [ev, live, hg g hlt]; rfl
  · simp [ev, hlt]

theorem evLoad_get {h1 h2 : H} {t : TypeId} {b off : Nat} (hb : h2.blks.get b = h1.blks.get b) : evLoad E h2 t (.pointer (some ⟨b, off, none⟩)) = evLoad E h1 t (.pointer (some ⟨b, off, none⟩)) := by
  simp only [evLoad, rd, hb]

/-- free operations and reads depend on little of the heap -/
theorem late_heap {call : Callf} {h1 h2 : H} {α : Tr Value} {o : Oper} (hev : ∀ x, ev E h2 α x = ev E h1 α x) (hk : freeOp o.op = true ∨ ∃ t y b off, o.op = .load t y ∧ ev E h1 α y = some (.pointer (some ⟨b, off, none⟩)) ∧ h2.blks.get b = h1.blks.get b)
    {v : Value} {h1' : H} (hs : evOp P E call h1 α o = some (v, h1')) : evOp P E call h2 α o = some (v, h2) := by
  rw [evOp_eq] at hs ⊢
  unfold evOpS at hs ⊢
  rcases hk with hk | ⟨t, y, b, off, hop, hy, hb⟩
  · cases hop : o.op <;> rw [hop] at hk <;> first | (simp [freeOp] at hk; done) | skip
    all_goals simp only [hop, hev] at hs ⊢
    case move x => obtain ⟨hv, _⟩ := asV_some hs; rw [hv]; rfl
    case assign x => obtain ⟨hv, _⟩ := asV_some hs; rw [hv]; rfl
    case fieldAddr t x f =>
      split at hs
      · obtain ⟨hv, _⟩ := asV_some hs; rw [hv]; rfl
      · cases hs
    case indexAddr t x y =>
      split at hs
      · obtain ⟨hv, _⟩ := asV_some hs; rw [hv]; rfl
      · cases hs
    case binOp op t x y t' =>
      split at hs
      · rename_i u z hu hz
        by_cases hp : (plainA u && plainA z) = true
        · rw [if_pos hp] at hs ⊢
          obtain ⟨hv, _⟩ := asV_some hs; rw [hv]; rfl
        · rw [if_neg hp] at hs
          cases op <;> first | (simp [freeOp] at hk; done) | cases hs
      · cases hs
  · simp only [hop, hev, hy] at hs ⊢
    obtain ⟨hv, _⟩ := asV_some hs
    rw [evLoad_get hb, hv]; rfl

theorem store_spec {call : Callf} {h1 hW : H} {α : Tr Value} {o : Oper} (ho : isStore o.op = true) {v : Value} (hs : evOp P E call h1 α o = some (v, hW)) :
    ∃ t x y b off, o.op = .store t x y ∧ ev E h1 α x = some (.pointer (some ⟨b, off, none⟩)) ∧ hW.next = h1.next ∧ ∀ b', b' ≠ b → hW.blks.get b' = h1.blks.get b' := by
  rw [evOp_eq] at hs
  unfold evOpS at hs
  cases hop : o.op <;> rw [hop] at ho <;> first | (simp [isStore] at ho; done) | skip
  rename_i t x y
  simp only [hop] at hs
  split at hs
  · rename_i u z hu hz
    split at hs
    · rename_i h' hst
      simp only [Option.some.injEq, Prod.mk.injEq] at hs
      obtain ⟨_, rfl⟩ := hs
      unfold evStore at hst
      split at hst
      · rename_i b off inf hi
        split at hst
        · obtain ⟨cells, size, es, hb, _, _, _, rfl⟩ := wr_some hst
          exact ⟨t, x, y, b, off, rfl, hu, rfl, fun b' hb' => by
            show (Tr.put h1.blks b _).get b' = _
            rw [Tr.get_put, if_neg hb']⟩
        · cases hst
      · cases hst
    · cases hs
  · cases hs

/-- where a run stands behind the store -/
structure InvW (E : Env) (n p : Nat) (ops : Array Oper) (h : H) (α : Tr Value) (hW : H) (vs : Nat → Value) (φ : Phi) (w0 : World) (listed : Array Bool) (a : Act) (w : World) (φ1 : Phi) (αL : Tr Value) : Prop where
  head : HeadInv .any ops (p + 1) listed
  done : listed.getD p false = true
  fr : FR φ1 αL a n
  star1 : ∀ i o t, i < p → ops[i]? = some o → listed.getD i false = true → o.dst = some t → αL.get t = some (vs i)
  star0 : ∀ t, (∀ i o, i < p → ops[i]? = some o → listed.getD i false = true → o.dst ≠ some t) → αL.get t = α.get t
  hr : HR E φ1 hW.blks.get w
  ext : Ext E φ h w0 φ1 hW w

/-- later operations leave what an operation looked at -/
theorem late_keeps {call : Callf} {n p : Nat} {ops : Array Oper} {h h1 : H} {α α1 : Tr Value} {hs : Nat → H} {αs : Nat → Tr Value} {vs : Nat → Value} (hp : p ≤ ops.size) (tr : Trace P E call n ops.toList (ops.toList.take p) h α h1 α1 hs αs vs)
    (hla : lateApart ops p = true) {i : Nat} (hi : i < p) {o : Oper} (ho : ops[i]? = some o) : ∀ t ∈ o.looksAt ops, α1.get t = (αs i).get t := by
  have hlen : (ops.toList.take p).length = p := by simp; omega
  have key : ∀ d, i + d ≤ p → ∀ t ∈ o.looksAt ops, (αs (i + d)).get t = (αs i).get t := by
    intro d
    induction d with
    | zero => intro _ t _; rfl
    | succ d ih =>
      intro hd t ht
      have hok := List.getElem?_eq_getElem (l := ops.toList.take p) (i := i + d) (by omega)
      obtain ⟨_, hv, hput, _⟩ := tr.step (i + d) _ hok
      have h1 := List.all_eq_true.1 hla i (List.mem_range.2 hi)
      have h2 := List.all_eq_true.1 h1 (i + d) (List.mem_range.2 (by omega))
      have hoi : ops.toList[i]? = some o := by simpa using ho
      have hoj : ops.toList[i + d]? = some ((ops.toList.take p)[i + d]'(by omega)) := by
        rw [← hok, List.getElem?_take_of_lt (by omega)]
      simp only [nth_eq, hoi, hoj, Bool.or_eq_true, decide_eq_true_eq] at h2
      have h3 := h2.resolve_left (by omega)
      show (αs (i + d + 1)).get t = _
      rw [put_get hput, if_neg ?_, ih (by omega) t ht]
      intro he
      rw [he] at h3
      simp only [Bool.not_eq_true', List.contains_eq_mem, decide_eq_false_iff_not] at h3
      exact h3 ht
  have am := tr.am
  rw [hlen] at am
  have := key (p - i) (by omega)
  rw [show i + (p - i) = p by omega, am] at this
  exact this

section
variable {call : Callf} {n p : Nat} {ops : Array Oper} {h h1 gW h2 : H} {α α1 α2 : Tr Value} {hs : Nat → H} {αs : Nat → Tr Value} {vs : Nat → Value} {φ : Phi} {w0 : World} {ow : Oper}

theorem late_run (hE : EnvOK P E) (hc : CallOK P E call) (ok : Hok h) (hG : E.G ≤ h.next) (hreg : regOkW ops p = true) (tr : Trace P E call n ops.toList (ops.toList.take p) h α h1 α1 hs αs vs) (hpo : ops[p]? = some ow) (how : isStore ow.op = true) {vw : Value} (hWr : evOp P E call h1 α1 ow = some (vw, gW))
    (hlate : lateB E h1 α1 ops p = true) (htail : evList P E call n ops.toList (ops.toList.drop (p + 1)) gW α1 = some (α2, h2)) (hf : ∀ b, h.next ≤ b → b < h2.next → φ b = none) {Q : Exit → Act → World → Prop}
    (hQ : ∀ a' w', Reach E φ h w0 α2 h2 n a' w' → Q .normal a' w') : ∀ (f : Nat) (listed : Array Bool) (a : Act) (w : World) (φ1 : Phi) (αL : Tr Value), InvW E n p ops h α gW vs φ w0 listed a w φ1 αL → (∀ j ∈ freeUpto ops p, listed.getD j false = true) → todo p listed = f →
      wpAny P .any ops Q (f + (ops.size - (p + 1))) listed a w := by
  have hreg' := hreg
  simp only [regOkW, Bool.and_eq_true, decide_eq_true_eq] at hreg'
  obtain ⟨⟨⟨⟨⟨⟨⟨⟨⟨⟨⟨hsel, hap1⟩, hap⟩, hd⟩, hback⟩, hp⟩, hsink⟩, hfok⟩, hchain⟩, hseq0⟩, hseq⟩, hla⟩ := hreg'
  have hae1 := tr.ae hc ok hG
  have hG1 : E.G ≤ h1.next := Nat.le_trans hG hae1.next
  have haeW := evOp_ae hc hae1.ok hG1 hWr
  have hGW : E.G ≤ gW.next := Nat.le_trans hG1 haeW.next
  have hae2 := evList_ae hc haeW.ok hGW htail
  have haehW : AE E h gW := hae1.trans haeW
  have hfW : ∀ b, h.next ≤ b → b < gW.next → φ b = none := fun b h3 h4 => hf b h3 (Nat.lt_of_lt_of_le h4 hae2.next)
  have hlen : (ops.toList.take p).length = p := by simp; omega
  obtain ⟨wt, wx, wy, bw, woff, hwop, hwx, hwn, hwo⟩ := store_spec how hWr
  intro f
  induction f with
  | zero =>
    intro listed a w φ1 αL inv hFl ht
    have hall : ∀ j, j < p → listed.getD j false = true := fun j hj => by
      unfold todo at ht
      rw [List.countP_eq_zero] at ht
      have := ht j (List.mem_range.2 hj)
      simpa using this
    have hget : ∀ t, α1.get t = αL.get t := fun t => by
      obtain ⟨c1, c2⟩ := tr.star hd p (by omega)
      have ham := tr.am
      rw [hlen] at ham
      rw [← ham]
      by_cases hex : ∃ j oj, j < p ∧ ops[j]? = some oj ∧ oj.dst = some t
      · obtain ⟨j, oj, hjm, hoj, hdj⟩ := hex
        rw [c1 j oj t hjm (by rw [take_get hjm]; exact hoj) hdj, inv.star1 j oj t hjm hoj (hall j hjm) hdj]
      · rw [inv.star0 t fun j oj hjm hoj _ hdj => hex ⟨j, oj, hjm, hoj, hdj⟩]
        exact c2 t fun j oj hjm hoj hdj => hex ⟨j, oj, hjm, by rw [take_get hjm] at hoj; exact hoj, hdj⟩
    have hF : FR φ1 α1 a n := ⟨inv.fr.size, fun t => by rw [hget]; exact inv.fr.vals t, inv.fr.defers⟩
    have hlist : wpList P ops Q (ops.toList.drop (p + 1)) a w := by
      refine evList_sound hE hc haeW.ok hGW inv.hr hF htail (fun b h3 h4 => ?_) fun a' w' hreach => hQ _ _ ?_
      · cases hx : φ1 b with
        | none => rfl
        | some x =>
          rcases inv.ext.dom b x hx with h6 | ⟨_, _, h7⟩
          · rw [hf b (Nat.le_trans haehW.next h3) h4] at h6; cases h6
          · omega
      · obtain ⟨φ2, g1, g2, g3⟩ := hreach
        exact ⟨φ2, g1, g2, Ext.trans hfW inv.ext haehW g3 hae2⟩
    have hlisted : listed = firstTrue ops.size (p + 1) := by
      apply Array.ext
      · rw [inv.head.size]; simp [firstTrue]
      · intro i h3 h4
        simp only [firstTrue, List.getElem_toArray, List.getElem_map, List.getElem_range]
        by_cases hip : i < p
        · have := hall i hip
          simp [h3] at this
          simp [this, Nat.lt_succ_of_lt hip]
        · by_cases hie : i = p
          · subst hie
            have := inv.done
            simp [h3] at this
            simp [this]
          · have := inv.head.tail i (by omega) (by rw [← inv.head.size]; exact h3)
            simp [h3] at this
            simp [this]; omega
    rw [hlisted, Nat.zero_add, show ops.size - (p + 1) = (ops.toList.drop (p + 1)).length by simp]
    exact wpAny_of_seq (ops.toList.drop (p + 1)) (p + 1) _ a w (fun j => by simp [List.getElem?_drop]) (by simpa using hseq) hlist
  | succ f ih =>
    intro listed a w φ1 αL inv hFl ht
    obtain ⟨i0, hi0m, hi0, hleast⟩ := least_unlisted (m := p) (listed := listed) (by omega)
    have hi0s : i0 < listed.size := by rw [inv.head.size]; omega
    have hready : i0 ∈ Region.ready .any ops listed := by
      refine mem_ready.2 ⟨getD_in hi0s hi0, ops[i0]'(by omega), Array.getElem?_eq_getElem (by omega), fun e he hb => ?_⟩
      exact hleast _ (edges_of hback (Array.getElem?_eq_getElem (by omega)) e he hb)
    rw [show f + 1 + (ops.size - (p + 1)) = (f + (ops.size - (p + 1))) + 1 by omega]
    refine ⟨fun h0 => (by rw [h0] at hready; cases hready), fun i hi => ?_⟩
    obtain ⟨hun, o, ho, hall⟩ := mem_ready.1 hi
    have hun' := getD_false_of hun
    have hos : i < ops.size := (Array.getElem?_eq_some_iff.1 ho).1
    have hip : i < p := by
      rcases Nat.lt_or_ge i p with h3 | h3
      · exact h3
      · exfalso
        by_cases hie : i = p
        · subst hie
          have := inv.done
          rw [hun'] at this; cases this
        · exact absurd hi (tail_waits' hsink hFl hchain (by omega) inv.head _ i0 rfl (by omega) (getD_in hi0s hi0) i (by omega))
    have his : i < listed.size := by rw [inv.head.size]; exact hos
    -- what it gives
    have hol : (ops.toList.take p)[i]? = some o := by rw [take_get hip]; exact ho
    obtain ⟨hi1, hv, hput, hle, e1, e2, e3⟩ := tr.step i o hol
    obtain ⟨k1, k2, k3, k4⟩ := tr.facts hc ok hG i (by omega)
    obtain ⟨q1, q2⟩ := tr.pres hc ok hG (i := i) (j := p) (by omega) (by omega)
    have hmm := tr.hm
    rw [hlen] at hmm
    obtain ⟨f1, f2, f3⟩ := hmm
    have hold : ∀ b, b < (hs i).next → h1.blks.get b = (hs i).blks.get b := fun b hb => by rw [← f1]; exact q2 b hb
    have hagree := agree_gen (by omega) hap hd tr inv.head.closed inv.star1 inv.star0 hun' hip ho hall
    have hkeep := late_keeps (by omega) tr hla hip ho
    have hlo : waits ow i = true ∨ (o.guard = none ∧ (freeOp o.op = true ∨ ∃ t y b off s, o.op = .load t y ∧ ev E h1 α1 y = some (.pointer (some ⟨b, off, s⟩)) ∧ b ≠ bw)) := by
      have hl := hlate
      unfold lateB at hl
      have hpo' : ops.toList[p]? = some ow := by simpa using hpo
      simp only [nth_eq, hpo', hwop, hwx] at hl
      have hl2 := List.all_eq_true.1 hl i (List.mem_range.2 hip)
      have ho' : ops.toList[i]? = some o := by simpa using ho
      simp only [ho', Bool.or_eq_true, Bool.and_eq_true, Option.isNone_iff_eq_none] at hl2
      rcases hl2 with hl2 | ⟨hg, hl2⟩
      · exact .inl hl2
      · refine .inr ⟨hg, ?_⟩
        split at hl2
        · rename_i t y hop
          split at hl2
          · rename_i b' off s hy
            refine .inr ⟨t, y, b', off, s, hop, hy, fun e => ?_⟩
            subst e
            have : Nat.beq b' b' = true := Nat.beq_refl _
            rw [this] at hl2
            cases hl2
          · cases hl2
        · exact .inl hl2
    have hlo2 := hlo.resolve_left fun hw => by
      obtain ⟨e, he, hbd, hon⟩ := waits_spec hw
      have := inv.head.closed p ow hpo inv.done e he hbd
      rw [hon, hun'] at this; cases this
    obtain ⟨hg, hkind⟩ := hlo2
    have hvL := hv
    rw [step1V_congr hagree] at hvL
    have hvop : evOp P E call (bump (hs i)) αL o = some (vs i, hi1) := by
      unfold step1V wantedA at hvL
      rw [hg] at hvL
      exact hvL
    have hglob : ∀ g, g < E.G → gW.blks.get g = (bump (hs i)).blks.get g := fun g hg => by
      rw [haeW.glob g hg]
      exact hold g (by omega)
    have hvW : evOp P E call gW αL o = some (vs i, gW) := by
      refine late_heap (ev_glob hglob) ?_ hvop
      rcases hkind with hk | ⟨t, y, b, off, s, hop, hy, hne⟩
      · exact .inl hk
      · refine .inr ?_
        have hyL : ev E (bump (hs i)) αL y = some (.pointer (some ⟨b, off, s⟩)) := by
          rw [← hy]
          cases y <;> first | rfl | skip
          · rename_i tt
            have htt : tt ∈ o.looksAt ops := by
              unfold Oper.looksAt
              rw [List.mem_append]
              exact .inl (List.mem_filterMap.2 ⟨.tmp tt, by rw [hop]; simp [Op.operands], rfl⟩)
            simp only [ev, evTmp, hkeep tt htt, hagree tt htt]
          · rename_i gg
            exact (ev_glob (E := E) (α := α1) (h1 := bump (hs i)) (h2 := h1) (fun g hg => (hold g (by omega))) (.global gg)).symm
        have hld := hvop
        rw [evOp_eq] at hld
        unfold evOpS at hld
        simp only [hop, hyL] at hld
        have hld1 := (asV_some hld).1
        clear hld
        have hs0 : s = none ∧ ∃ cells size es, (hs i).blks.get b = some (.mk cells size es) := by
          unfold evLoad at hld1
          split at hld1
          · rename_i b1 off1 heq
            injection heq with heq
            injection heq with heq
            cases heq
            refine ⟨rfl, ?_⟩
            have hrd : ∀ k, (rd (bump (hs i)) b off k).isSome = true → ∃ cells size es, (hs i).blks.get b = some (.mk cells size es) := fun k hk => by
              unfold rd at hk
              split at hk
              · rename_i cells size es hb; exact ⟨cells, size, es, hb⟩
              · cases hk
            split at hld1
            · split at hld1
              · rename_i inf _
                split at hld1
                · rename_i hx; exact hrd inf.size (by rw [hx]; rfl)
                · cases hld1
              · cases hld1
            · split at hld1
              · rename_i hx; exact hrd 1 (by rw [hx]; rfl)
              · cases hld1
            · cases hld1
          · cases hld1
        obtain ⟨rfl, cells, size, es, hlive⟩ := hs0
        refine ⟨t, y, b, off, hop, hyL, ?_⟩
        rw [hwo b hne]
        exact hold b (get_lt k1 hlive)
    have hvW' : step1V P E call ops.toList gW αL o = some (vs i, gW) := by
      unfold step1V wantedA
      rw [hg]
      exact hvW
    obtain ⟨αL', hpL⟩ := put_some hput αL
    have hgo := step1V_sound hE hc (h := gW) (h' := gW) (φ := φ1) (w := w) haeW.ok hGW inv.hr inv.fr hvW' (fun b h3 h4 => by omega) (K := wpAny P .any ops Q (f + (ops.size - (p + 1))) (listed.setIfInBounds i true)) (Q := Q) (fun v' w' hgd => ?_)
    · unfold wpOp
      rw [ho]
      simp only
      split
      · rename_i hw; rw [if_pos hw] at hgo; exact .inl hgo
      · rename_i hw; rw [if_neg hw] at hgo; exact hgo
    · obtain ⟨φ2, hvr, hr2, x2⟩ := hgd
      refine ih _ _ _ φ2 αL' ⟨inv.head.set hi (by omega), getD_set_true inv.done, (inv.fr.mono x2.le).put hpL hvr, fun j oj t hjm hoj hlj hdj => ?_, fun t ht => ?_, hr2, Ext.trans hfW inv.ext haehW x2 (AE.refl haeW.ok)⟩ (fun j hj => getD_set_true (hFl j hj)) ?_
      · rw [put_get hpL]
        by_cases hji : j = i
        · subst hji
          rw [ho] at hoj
          injection hoj with hoj
          rw [if_pos (by rw [hoj]; exact hdj)]
        · have hlj' : listed.getD j false = true := by rwa [getD_set_ne false (Ne.symm hji)] at hlj
          have hne := dsts_ne hd hji (by rw [take_get hjm]; exact hoj) hol hdj
          rw [if_neg hne]
          exact inv.star1 j oj t hjm hoj hlj' hdj
      · have hni : o.dst ≠ some t := ht i o hip ho (by simp [his])
        rw [put_get hpL, if_neg hni]
        exact inv.star0 t fun j oj hjm hoj hlj => ht j oj hjm hoj (getD_set_true hlj)
      · have := countP_set (p := fun j => !listed.getD j false) (q := fun j => !(listed.setIfInBounds i true).getD j false) (i := i) (by simp only [hun']; rfl) (by simp [his]) (fun j hj => by rw [getD_set_ne false (Ne.symm hj)]) (List.nodup_range (n := p)) (List.mem_range.2 hip)
        unfold todo at ht ⊢
        omega

theorem late_prefix (hE : EnvOK P E) (hc : CallOK P E call) (ok : Hok h) (hG : E.G ≤ h.next) (hreg : regOkW ops p = true) (tr : Trace P E call n ops.toList (ops.toList.take p) h α h1 α1 hs αs vs) (hpo : ops[p]? = some ow) (how : isStore ow.op = true) (hog : ow.guard = none) (hod : ow.dst = none) {vw : Value}
    (hWr : evOp P E call h1 α1 ow = some (vw, gW)) (hlate : lateB E h1 α1 ops p = true) (htail : evList P E call n ops.toList (ops.toList.drop (p + 1)) gW α1 = some (α2, h2)) (hf : ∀ b, h.next ≤ b → b < h2.next → φ b = none) {Q : Exit → Act → World → Prop}
    (hQ : ∀ a' w', Reach E φ h w0 α2 h2 n a' w' → Q .normal a' w') : ∀ (f : Nat) (listed : Array Bool) (a : Act) (w : World) (φ1 : Phi) (αL : Tr Value), Inv E n p ops h α h1 hs vs φ w0 listed a w φ1 αL → (∀ j ∈ freeUpto ops p, listed.getD j false = true) → todo p listed = f →
      wpAny P .any ops Q (f + (ops.size - p)) listed a w := by
  have hreg' := hreg
  simp only [regOkW, Bool.and_eq_true, decide_eq_true_eq] at hreg'
  obtain ⟨⟨⟨⟨⟨⟨⟨⟨⟨⟨⟨hsel, hap1⟩, hap⟩, hd⟩, hback⟩, hp⟩, hsink⟩, hfok⟩, hchain⟩, hseq0⟩, hseq⟩, hla⟩ := hreg'
  have hae1 := tr.ae hc ok hG
  have hG1 : E.G ≤ h1.next := Nat.le_trans hG hae1.next
  have haeW := evOp_ae hc hae1.ok hG1 hWr
  have hGW : E.G ≤ gW.next := Nat.le_trans hG1 haeW.next
  have hae2 := evList_ae hc haeW.ok hGW htail
  have hf1 : ∀ b, h.next ≤ b → b < h1.next → φ b = none := fun b h3 h4 => hf b h3 (Nat.lt_of_lt_of_le h4 (Nat.le_trans haeW.next hae2.next))
  have hlen : (ops.toList.take p).length = p := by simp; omega
  have hdrop : ops.toList.drop p = ow :: ops.toList.drop (p + 1) := by
    rw [List.drop_eq_getElem_cons (by simpa using hp)]
    congr 1
    have : ops.toList[p]? = some ow := by simpa using hpo
    rw [List.getElem?_eq_getElem (by simpa using hp)] at this
    injection this
  have hstepW : step1 P E call n ops.toList h1 α1 ow = some (α1, gW) := by
    unfold step1 wantedA
    rw [hog]
    simp only [hWr, hod, put]
  have htail0 : evList P E call n ops.toList (ops.toList.drop p) h1 α1 = some (α2, h2) := by
    rw [hdrop, evList, hstepW]
    exact htail
  have hae02 := evList_ae hc hae1.ok hG1 htail0
  intro f
  induction f with
  | zero =>
    intro listed a w φ1 αL inv hFl ht
    have hall : ∀ j, j < p → listed.getD j false = true := fun j hj => by
      unfold todo at ht
      rw [List.countP_eq_zero] at ht
      have := ht j (List.mem_range.2 hj)
      simpa using this
    have hget : ∀ t, α1.get t = αL.get t := fun t => by
      obtain ⟨c1, c2⟩ := tr.star hd p (by omega)
      have ham := tr.am
      rw [hlen] at ham
      rw [← ham]
      by_cases hex : ∃ j oj, j < p ∧ ops[j]? = some oj ∧ oj.dst = some t
      · obtain ⟨j, oj, hjm, hoj, hdj⟩ := hex
        rw [c1 j oj t hjm (by rw [take_get hjm]; exact hoj) hdj, inv.star1 j oj t hjm hoj (hall j hjm) hdj]
      · rw [inv.star0 t fun j oj hjm hoj _ hdj => hex ⟨j, oj, hjm, hoj, hdj⟩]
        exact c2 t fun j oj hjm hoj hdj => hex ⟨j, oj, hjm, by rw [take_get hjm] at hoj; exact hoj, hdj⟩
    have hF : FR φ1 α1 a n := ⟨inv.fr.size, fun t => by rw [hget]; exact inv.fr.vals t, inv.fr.defers⟩
    have hlist : wpList P ops Q (ops.toList.drop p) a w := by
      refine evList_sound hE hc hae1.ok hG1 inv.hr hF htail0 (fun b h3 h4 => ?_) fun a' w' hreach => hQ _ _ ?_
      · cases hx : φ1 b with
        | none => rfl
        | some x =>
          rcases inv.ext.dom b x hx with h6 | ⟨_, _, h7⟩
          · rw [hf b (Nat.le_trans hae1.next h3) h4] at h6; cases h6
          · omega
      · obtain ⟨φ2, g1, g2, g3⟩ := hreach
        exact ⟨φ2, g1, g2, Ext.trans hf1 inv.ext hae1 g3 hae02⟩
    have hlisted : listed = firstTrue ops.size p := by
      apply Array.ext
      · rw [inv.head.size]; simp [firstTrue]
      · intro i h3 h4
        simp only [firstTrue, List.getElem_toArray, List.getElem_map, List.getElem_range]
        by_cases hip : i < p
        · have := hall i hip
          simp [h3] at this
          simp [this, hip]
        · have := inv.head.tail i (by omega) (by rw [← inv.head.size]; exact h3)
          simp [h3] at this
          simp [this, hip]
    rw [hlisted, Nat.zero_add, show ops.size - p = (ops.toList.drop p).length by simp]
    exact wpAny_of_seq (ops.toList.drop p) p _ a w (fun j => by simp [List.getElem?_drop]) (by simpa using hseq0) hlist
  | succ f ih =>
    intro listed a w φ1 αL inv hFl ht
    obtain ⟨i0, hi0m, hi0, hleast⟩ := least_unlisted (m := p) (listed := listed) (by omega)
    have hi0s : i0 < listed.size := by rw [inv.head.size]; omega
    have hready : i0 ∈ Region.ready .any ops listed := by
      refine mem_ready.2 ⟨getD_in hi0s hi0, ops[i0]'(by omega), Array.getElem?_eq_getElem (by omega), fun e he hb => ?_⟩
      exact hleast _ (edges_of hback (Array.getElem?_eq_getElem (by omega)) e he hb)
    rw [show f + 1 + (ops.size - p) = (f + (ops.size - p)) + 1 by omega]
    refine ⟨fun h0 => (by rw [h0] at hready; cases hready), fun i hi => ?_⟩
    have hhead1 : HeadInv .any ops (p + 1) listed := ⟨inv.head.size, inv.head.closed, fun t g1 g2 => inv.head.tail t (by omega) g2⟩
    obtain ⟨hun, o, ho, hall⟩ := mem_ready.1 hi
    have hos : i < ops.size := (Array.getElem?_eq_some_iff.1 ho).1
    rcases Nat.lt_trichotomy i p with hip | hip | hip
    · refine inv_step hE hc ok hG (by omega) hap hd tr hf1 inv hi hip fun a' w' φ2 αL' inv' => ih _ _ _ _ _ inv' (fun j hj => getD_set_true (hFl j hj)) ?_
      have his : i < listed.size := by rw [inv.head.size]; exact hos
      have := countP_set (p := fun j => !listed.getD j false) (q := fun j => !(listed.setIfInBounds i true).getD j false) (i := i) (by simp only [getD_both hun]; rfl) (by simp [his]) (fun j hj => by rw [getD_set_ne false (Ne.symm hj)]) (List.nodup_range (n := p)) (List.mem_range.2 hip)
      unfold todo at ht ⊢
      omega
    · subst hip
      obtain rfl : o = ow := Option.some.inj (ho.symm.trans hpo)
      have his : i < listed.size := by rw [inv.head.size]; exact hos
      -- what the store looks at
      have hagree : ∀ t ∈ o.looksAt ops, α1.get t = αL.get t := fun t htl => by
        obtain ⟨c1, c2⟩ := tr.star hd i (by omega)
        have ham := tr.am
        rw [hlen] at ham
        rw [← ham]
        by_cases hex : ∃ j oj, j < i ∧ ops[j]? = some oj ∧ oj.dst = some t
        · obtain ⟨j, oj, hjm, hoj, hdj⟩ := hex
          have hlj : listed.getD j false = true := by
            rcases apart_of hap1 hjm (by rw [take_get (by omega)]; exact hoj) (by rw [take_get (by omega)]; exact ho) with h3 | h3
            · obtain ⟨e, he, hb, hon⟩ := waits_spec h3
              have := hall e he hb
              rw [hon] at this; exact this
            · exact absurd htl ((Oper.apart_spec h3).1 t hdj)
          rw [c1 j oj t hjm (by rw [take_get hjm]; exact hoj) hdj, inv.star1 j oj t hjm hoj hlj hdj]
        · rw [inv.star0 t fun j oj hjm hoj _ hdj => hex ⟨j, oj, hjm, hoj, hdj⟩]
          exact c2 t fun j oj hjm hoj hdj => hex ⟨j, oj, hjm, by rw [take_get hjm] at hoj; exact hoj, hdj⟩
      have hv1 : step1V P E call ops.toList h1 α1 o = some (vw, gW) := by
        unfold step1V wantedA
        rw [hog]
        exact hWr
      rw [step1V_congr hagree] at hv1
      have hgo := step1V_sound hE hc (h := h1) (h' := gW) (φ := φ1) (w := w) hae1.ok hG1 inv.hr inv.fr hv1 (fun b h3 h4 => ?_) (K := wpAny P .any ops Q (f + (ops.size - i)) (listed.setIfInBounds i true)) (Q := Q) (fun v' w' hgd => ?_)
      · unfold wpOp
        rw [ho]
        simp only
        split
        · rename_i hw; rw [if_pos hw] at hgo; exact .inl hgo
        · rename_i hw; rw [if_neg hw] at hgo; exact hgo
      · obtain ⟨_, _, _, _, _, _, _, hwn, _⟩ := store_spec how hWr
        omega
      · obtain ⟨φ2, hvr, hr2, x2⟩ := hgd
        have hput : a.put o.dst v' = a := by rw [hod]; rfl
        rw [hput]
        have hset : ∀ j, j < i → (listed.setIfInBounds i true).getD j false = listed.getD j false := fun j hj => getD_set_ne false (by omega)
        have htodo : todo i (listed.setIfInBounds i true) = f + 1 := by
          rw [← ht]
          unfold todo
          exact List.countP_congr fun j hj => by rw [hset j (List.mem_range.1 hj)]
        have key := late_run hE hc ok hG hreg tr hpo how hWr hlate htail hf hQ (f + 1) (listed.setIfInBounds i true) a w' φ2 αL ⟨hhead1.set hi (by omega), by simp [his], inv.fr.mono x2.le, fun j oj t hjm hoj hlj hdj => inv.star1 j oj t hjm hoj (by rw [← hset j hjm]; exact hlj) hdj, fun t htt => inv.star0 t fun j oj hjm hoj hlj => htt j oj hjm hoj (by rw [hset j hjm]; exact hlj), hr2, Ext.trans hf1 inv.ext hae1 x2 haeW⟩ (fun j hj => getD_set_true (hFl j hj)) htodo
        rw [show f + (ops.size - i) = f + 1 + (ops.size - (i + 1)) by omega]
        exact key
    · exact absurd hi (tail_waits' hsink hFl hchain (by omega) hhead1 _ i0 rfl (by omega) (getD_in hi0s hi0) i (by omega))
end
end Go.Proofs.YtnjbcgiplfdgmaaGreatDoor.Ev
