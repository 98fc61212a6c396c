/- The first operations of a region that draws, in whatever order they come. -/
import Derived.Test.YtnjbcgiplfdgmaaGreatDoorPmEvAny
namespace Go.Proofs.YtnjbcgiplfdgmaaGreatDoor.Ev
open Go
variable {P : Program} {E : Env}

theorem put_some {n : Nat} {α α' : Tr Value} {dst : Option Tmp} {v : Value} (hp : put n α dst v = some α') (β : Tr Value) : ∃ β', put n β dst v = some β' := by
  cases dst with
  | none => exact ⟨β, rfl⟩
  | some d =>
    obtain ⟨hc, rfl⟩ := put_spec hp
    refine ⟨Tr.put β d v, ?_⟩
    simp only [put]
    have h1 : Nat.ble (d + 1) n = true := Nat.ble_eq_true_of_le hc
    rw [h1]
    simp only [Tr.force_eq]

theorem put_get {n : Nat} {α α' : Tr Value} {dst : Option Tmp} {v : Value} (hp : put n α dst v = some α') (t : Tmp) : α'.get t = if dst = some t then some v else α.get t := by
  cases dst with
  | none => simp only [put, Option.some.injEq] at hp; subst hp; simp
  | some d =>
    obtain ⟨hc, rfl⟩ := put_spec hp
    rw [Tr.get_put]
    by_cases htd : t = d
    · subst htd; simp
    · rw [if_neg htd, if_neg (fun e => htd (by injection e with e; exact e.symm))]

theorem apart_of {ops : Array Oper} {l : List Oper} (h : allApart ops l = true) {i j : Nat} {x y : Oper} (hij : i < j) (hx : l[i]? = some x) (hy : l[j]? = some y) : waits y i = true ∨ x.apart ops y = true := by
  have hj : j < l.length := (List.getElem?_eq_some_iff.1 hy).1
  have h1 := List.all_eq_true.1 h j (List.mem_range.2 hj)
  have h2 := List.all_eq_true.1 h1 i (List.mem_range.2 hij)
  rw [nth_eq, nth_eq, hx, hy] at h2
  simpa using h2

theorem dsts_of {l : List Oper} (h : dstsApart l = true) {i j : Nat} {x y : Oper} (hij : i < j) (hx : l[i]? = some x) (hy : l[j]? = some y) {t : Tmp} (h1 : x.dst = some t) : y.dst ≠ some t := by
  have hj : j < l.length := (List.getElem?_eq_some_iff.1 hy).1
  have h2 := List.all_eq_true.1 h j (List.mem_range.2 hj)
  have h3 := List.all_eq_true.1 h2 i (List.mem_range.2 hij)
  rw [nth_eq, nth_eq, hx, hy] at h3
  simp only [h1] at h3
  intro he
  simp [he] at h3

theorem dsts_ne {l : List Oper} (h : dstsApart l = true) {i j : Nat} {x y : Oper} (hij : i ≠ j) (hx : l[i]? = some x) (hy : l[j]? = some y) {t : Tmp} (h1 : x.dst = some t) : y.dst ≠ some t := by
  rcases Nat.lt_or_gt_of_ne hij with h2 | h2
  · exact dsts_of h h2 hx hy h1
  · exact fun he => dsts_of h h2 hy hx he h1

theorem waits_spec {o : Oper} {i : Nat} (h : waits o i = true) : ∃ e ∈ o.after, Region.binds .any e = true ∧ e.on = i := by
  unfold waits at h
  obtain ⟨e, he, hb⟩ := List.any_eq_true.1 h
  simp only [Bool.and_eq_true, beq_iff_eq] at hb
  exact ⟨e, by simpa using he, hb.1, hb.2⟩

section
variable {call : Callf} {n : Nat} {ops : List Oper} {l : List Oper} {h h' : H} {α α' : Tr Value} {hs : Nat → H} {αs : Nat → Tr Value} {vs : Nat → Value}

theorem Trace.star (hd : dstsApart l = true) (tr : Trace P E call n ops l h α h' α' hs αs vs) : ∀ k, k ≤ l.length →
    (∀ j o t, j < k → l[j]? = some o → o.dst = some t → (αs k).get t = some (vs j)) ∧ (∀ t, (∀ j o, j < k → l[j]? = some o → o.dst ≠ some t) → (αs k).get t = α.get t) := by
  intro k
  induction k with
  | zero => intro _; exact ⟨fun j o t hj => by omega, fun t _ => by rw [tr.a0]⟩
  | succ k ih =>
    intro hk
    obtain ⟨i1, i2⟩ := ih (by omega)
    have hok := List.getElem?_eq_getElem (l := l) (i := k) (by omega)
    obtain ⟨h1, hv, hp, _⟩ := tr.step k _ hok
    refine ⟨fun j o t hj ho hdst => ?_, fun t ht => ?_⟩
    · rw [put_get hp]
      by_cases hjk : j = k
      · subst hjk
        rw [hok] at ho
        injection ho with ho
        rw [if_pos (by rw [ho]; exact hdst)]
      · have hne := dsts_ne hd hjk ho hok hdst
        rw [if_neg hne]
        exact i1 j o t (by omega) ho hdst
    · rw [put_get hp, if_neg (ht k _ (by omega) hok)]
      exact i2 t fun j o hj ho => ht j o (by omega) ho
end

/-- where a run in any order stands -/
structure Inv (E : Env) (n m : Nat) (ops : Array Oper) (h : H) (α : Tr Value) (h' : H) (hs : Nat → H) (vs : Nat → Value) (φ : Phi) (w0 : World) (listed : Array Bool) (a : Act) (w : World) (φ1 : Phi) (αL : Tr Value) : Prop where
  head : HeadInv .any ops m listed
  fr : FR φ1 αL a n
  star1 : ∀ i o t, i < m → ops[i]? = some o → listed.getD i false = true → o.dst = some t → αL.get t = some (vs i)
  star0 : ∀ t, (∀ i o, i < m → ops[i]? = some o → listed.getD i false = true → o.dst ≠ some t) → αL.get t = α.get t
  hr : HR E φ1 h'.blks.get w
  ext : Ext E φ h w0 φ1 h' w
  dom : ∀ b x, φ1 b = some x → φ b = some x ∨ ∃ i, i < m ∧ listed.getD i false = true ∧ (hs i).next ≤ b ∧ b < (hs (i + 1)).next

theorem take_get {ops : Array Oper} {m i : Nat} (hi : i < m) : (ops.toList.take m)[i]? = ops[i]? := by
  rw [List.getElem?_take_of_lt hi]; simp

theorem getD_false_of {listed : Array Bool} {i : Nat} (h : listed.getD i true = false) : listed.getD i false = false := getD_both h

/-- before an operation the temporaries that it looks at are as in the text's order -/
theorem agree_gen {call : Callf} {n m : Nat} {ops : Array Oper} {h h' : H} {α α' : Tr Value} {hs : Nat → H} {αs : Nat → Tr Value} {vs : Nat → Value} (hm : m ≤ ops.size)
    (hap : allApart ops (ops.toList.take m) = true) (hd : dstsApart (ops.toList.take m) = true) (tr : Trace P E call n ops.toList (ops.toList.take m) h α h' α' hs αs vs)
    {listed : Array Bool} {αL : Tr Value} (hclosed : ∀ j oj, ops[j]? = some oj → listed.getD j false = true → ∀ e ∈ oj.after, Region.binds .any e = true → listed.getD e.on false = true)
    (star1 : ∀ i o t, i < m → ops[i]? = some o → listed.getD i false = true → o.dst = some t → αL.get t = some (vs i))
    (star0 : ∀ t, (∀ i o, i < m → ops[i]? = some o → listed.getD i false = true → o.dst ≠ some t) → αL.get t = α.get t)
    {i : Nat} (hun' : listed.getD i false = false) (him : i < m) {o : Oper} (ho : ops[i]? = some o) (hall : ∀ e ∈ o.after, Region.binds .any e = true → listed.getD e.on false = true) :
    ∀ t ∈ o.looksAt ops, (αs i).get t = αL.get t := by
  have hlen : (ops.toList.take m).length = m := by simp; omega
  have hol : (ops.toList.take m)[i]? = some o := by rw [take_get him]; exact ho
  intro t ht
  obtain ⟨c1, c2⟩ := tr.star hd i (by omega)
  by_cases hex : ∃ j oj, j < m ∧ ops[j]? = some oj ∧ listed.getD j false = true ∧ oj.dst = some t
  · obtain ⟨j, oj, hjm, hoj, hlj, hdj⟩ := hex
    have hji : j ≠ i := fun e => by rw [e, hun'] at hlj; cases hlj
    have hlt : j < i := by
      rcases Nat.lt_or_gt_of_ne hji with h2 | h2
      · exact h2
      · exfalso
        rcases apart_of hap h2 hol (by rw [take_get hjm]; exact hoj) with h3 | h3
        · obtain ⟨e, he, hb, hon⟩ := waits_spec h3
          have := hclosed j oj hoj hlj e he hb
          rw [hon, hun'] at this; cases this
        · exact (Oper.apart_spec h3).2.2 t hdj ht
    rw [c1 j oj t hlt (by rw [take_get hjm]; exact hoj) hdj, star1 j oj t hjm hoj hlj hdj]
  · have h4 : ∀ j oj, j < m → ops[j]? = some oj → listed.getD j false = true → oj.dst ≠ some t := fun j oj g1 g2 g3 g4 => hex ⟨j, oj, g1, g2, g3, g4⟩
    rw [star0 t h4]
    refine c2 t fun j oj hji hoj hdj => ?_
    rcases apart_of hap hji hoj hol with h3 | h3
    · obtain ⟨e, he, hb, hon⟩ := waits_spec h3
      have := hall e he hb
      rw [hon] at this
      rw [take_get (by omega)] at hoj
      exact h4 j oj (by omega) hoj this hdj
    · exact (Oper.apart_spec h3).1 t hdj ht

theorem inv_agree {call : Callf} {n m : Nat} {ops : Array Oper} {h h' : H} {α α' : Tr Value} {hs : Nat → H} {αs : Nat → Tr Value} {vs : Nat → Value} {φ : Phi} {w0 : World} (hm : m ≤ ops.size)
    (hap : allApart ops (ops.toList.take m) = true) (hd : dstsApart (ops.toList.take m) = true) (tr : Trace P E call n ops.toList (ops.toList.take m) h α h' α' hs αs vs)
    {listed : Array Bool} {a : Act} {w : World} {φ1 : Phi} {αL : Tr Value} (inv : Inv E n m ops h α h' hs vs φ w0 listed a w φ1 αL) {i : Nat} (hi : i ∈ Region.ready .any ops listed) (him : i < m) {o : Oper} (ho : ops[i]? = some o) :
    ∀ t ∈ o.looksAt ops, (αs i).get t = αL.get t := by
  obtain ⟨hun, o', ho', hall⟩ := mem_ready.1 hi
  obtain rfl : o' = o := Option.some.inj (ho'.symm.trans ho)
  exact agree_gen hm hap hd tr inv.head.closed inv.star1 inv.star0 (getD_false_of hun) him ho hall

theorem inv_step (hE : EnvOK P E) {call : Callf} (hc : CallOK P E call) {n m : Nat} {ops : Array Oper} {h h' : H} {α α' : Tr Value} {hs : Nat → H} {αs : Nat → Tr Value} {vs : Nat → Value} {φ : Phi} {w0 : World} (ok : Hok h) (hG : E.G ≤ h.next) (hm : m ≤ ops.size)
    (hap : allApart ops (ops.toList.take m) = true) (hd : dstsApart (ops.toList.take m) = true) (tr : Trace P E call n ops.toList (ops.toList.take m) h α h' α' hs αs vs) (hf : ∀ b, h.next ≤ b → b < h'.next → φ b = none)
    {listed : Array Bool} {a : Act} {w : World} {φ1 : Phi} {αL : Tr Value} (inv : Inv E n m ops h α h' hs vs φ w0 listed a w φ1 αL) {i : Nat} (hi : i ∈ Region.ready .any ops listed) (him : i < m) {K : Act → World → Prop} {Q : Exit → Act → World → Prop}
    (hK : ∀ a' w' φ2 αL', Inv E n m ops h α h' hs vs φ w0 (listed.setIfInBounds i true) a' w' φ2 αL' → K a' w') : wpOp P ops Q i K a w := by
  have hlen : (ops.toList.take m).length = m := by simp; omega
  obtain ⟨hun, o, ho, hall⟩ := mem_ready.1 hi
  have hun' := getD_false_of hun
  have hol : (ops.toList.take m)[i]? = some o := by rw [take_get him]; exact ho
  obtain ⟨h1, hv, hp, hle, e1, e2, e3⟩ := tr.step i o hol
  obtain ⟨k1, k2, k3, k4⟩ := tr.facts hc ok hG i (by omega)
  obtain ⟨q1, q2⟩ := tr.pres hc ok hG (i := i) (j := m) (by omega) (by omega)
  obtain ⟨r1, r2⟩ := tr.pres hc ok hG (i := i + 1) (j := m) (by omega) (by omega)
  obtain ⟨s1, s2⟩ := tr.pres1 hc ok hG (i := i) (by omega)
  obtain ⟨z1, z2⟩ := tr.pres hc ok hG (i := 0) (j := i) (by omega) (by omega)
  obtain ⟨y1, y2, y3⟩ := tr.h0
  have hmm := tr.hm
  rw [hlen] at hmm
  obtain ⟨f1, f2, f3⟩ := hmm
  -- the heap as the text's order has it before this operation
  have hold : ∀ b, b < (hs i).next → h'.blks.get b = (hs i).blks.get b := fun b hb => by rw [← f1]; exact q2 b hb
  have hri : HR E φ1 (hs i).blks.get w := inv.hr.sub fun b cells size es hb => by
    rw [hold b (get_lt k1 hb)]; exact hb
  have hagree := inv_agree hm hap hd tr inv hi him ho
  rw [step1V_congr hagree] at hv
  -- new numbers are free
  have hfresh : ∀ b, (bump (hs i)).next ≤ b → b < h1.next → φ1 b = none := fun b hb1 hb2 => by
    cases hx : φ1 b with
    | none => rfl
    | some x =>
      simp only [bump] at hb1
      rcases inv.dom b x hx with h3 | ⟨j, hjm, hlj, hj1, hj2⟩
      · rw [hf b (by omega) (by omega)] at h3; cases h3
      · have hji : j ≠ i := fun e => by rw [e, hun'] at hlj; cases hlj
        rcases Nat.lt_or_gt_of_ne hji with h2 | h2
        · have := (tr.pres hc ok hG (i := j + 1) (j := i) (by omega) (by omega)).1
          omega
        · have := (tr.pres hc ok hG (i := i + 1) (j := j) (by omega) (by omega)).1
          omega
  have hgo := step1V_sound hE hc (h := bump (hs i)) (h' := h1) (φ := φ1) (w := w) k1 k2 hri inv.fr hv hfresh (K := K) (Q := Q) (fun v' w' hg => ?_)
  · unfold wpOp
    rw [ho]
    simp only
    split
    · rename_i hw; rw [if_pos hw] at hgo; exact .inl hgo
    · rename_i hw; rw [if_neg hw] at hgo; exact hgo
  · obtain ⟨φ2, hvr, hr2, x2⟩ := hg
    obtain ⟨αL', hpL⟩ := put_some hp αL
    have hlivei : ∀ b, live (bump (hs i)) b = true → b < (hs i).next ∧ live h' b = true := fun b hl => by
      have hb := live_lt (h := bump (hs i)) k1 hl
      refine ⟨hb, ?_⟩
      unfold live at hl ⊢
      rw [hold b hb]; exact hl
    have liveblk : ∀ {b : Nat} {g : H}, live g b = true → ∃ cells size es, g.blks.get b = some (.mk cells size es) := fun {b g} hl => by
      unfold live at hl
      split at hl
      · exact ⟨_, _, _, by assumption⟩
      · cases hl
    have hnew : ∀ b, b < (hs (i + 1)).next → h'.blks.get b = h1.blks.get b := fun b hb => by rw [← f1, ← e1]; exact r2 b hb
    have holdlive : ∀ b, b < h.next → live h' b = true → live h b = true := fun b hb hl => by
      unfold live at hl ⊢
      rw [hold b (by omega), z2 b (by omega), y1] at hl
      exact hl
    refine hK _ _ φ2 αL' ⟨inv.head.set hi him, (inv.fr.mono x2.le).put hpL hvr, fun j oj t hjm hoj hlj hdj => ?_, fun t ht => ?_, ⟨fun b cells size es hb x hx => ?_, fun b1 b2 x1 x2' c1 s1 e1' c2 s2 e2' hG1 hb1 hb2 hx1 hx2 he => ?_, fun b cells size es hlt hlN hb => ?_⟩,
      ⟨fun b x hx => x2.le _ _ (inv.ext.le b x hx), fun b x hx => ?_, fun b x hx h0 => ?_, x2.os.trans inv.ext.os, x2.tape.trans inv.ext.tape, x2.output.trans inv.ext.output, Nat.le_trans inv.ext.size x2.size, fun c hcl hno => ?_⟩, fun b x hx => ?_⟩
    · -- star1
      rw [put_get hpL]
      by_cases hji : j = i
      · subst hji
        rw [ho] at hoj
        injection hoj with hoj
        rw [if_pos (by rw [hoj]; exact hdj)]
      · have hlj' : listed.getD j false = true := by rwa [getD_set_ne false (Ne.symm hji)] at hlj
        have hne := dsts_ne hd hji (by rw [take_get hjm]; exact hoj) hol hdj
        rw [if_neg hne]
        exact inv.star1 j oj t hjm hoj hlj' hdj
    · -- star0
      have hni : o.dst ≠ some t := ht i o him ho (by
        have : i < listed.size := by rw [inv.head.size]; exact (Array.getElem?_eq_some_iff.1 ho).1
        simp [this])
      rw [put_get hpL, if_neg hni]
      refine inv.star0 t fun j oj hjm hoj hlj => ht j oj hjm hoj (getD_set_true hlj)
    · -- blk
      by_cases hbn : b < (hs (i + 1)).next
      · exact hr2.blk b cells size es (by rw [← hnew b hbn]; exact hb) x hx
      · have hx1 : φ1 b = some x := by
          rcases x2.dom b x hx with h3 | ⟨_, _, h3⟩
          · exact h3
          · exfalso; omega
        obtain ⟨c, sh, es', top⟩ := x
        obtain ⟨g1, cs, ty, fr, g2, gfr, g3, g4, g5⟩ := inv.hr.blk b cells size es hb _ hx1
        refine ⟨g1, cs, ty, fr, ?_, gfr, g3, g4, fun j hj => ?_⟩
        · rw [x2.frame c (inv.hr.lt hb hx1) fun b0 x0 hl0 hG0 hx0 he0 => ?_]
          · exact g2
          · obtain ⟨hb0, hl0'⟩ := hlivei b0 hl0
            obtain ⟨_, _, _, hb0'⟩ := liveblk hl0'
            have := inv.hr.inj b0 b _ _ _ _ _ _ _ _ hG0 hb0' hb hx0 hx1 he0
            omega
        · obtain ⟨v, v'', w1, w2, w3⟩ := g5 j hj
          exact ⟨v, v'', w1, w2, w3.mono x2.le⟩
    · -- inj
      by_cases hn1 : b1 < (hs (i + 1)).next
      · by_cases hn2 : b2 < (hs (i + 1)).next
        · exact hr2.inj b1 b2 x1 x2' _ _ _ _ _ _ hG1 (by rw [← hnew b1 hn1]; exact hb1) (by rw [← hnew b2 hn2]; exact hb2) hx1 hx2 he
        · exfalso
          have hy2 : φ1 b2 = some x2' := by
            rcases x2.dom b2 x2' hx2 with h3 | ⟨_, _, h3⟩
            · exact h3
            · exfalso; omega
          cases hy1 : φ1 b1 with
          | some y =>
            have := x2.le _ _ hy1
            rw [hx1] at this
            injection this with this
            subst this
            have := inv.hr.inj b1 b2 _ _ _ _ _ _ _ _ hG1 hb1 hb2 hy1 hy2 he
            omega
          | none =>
            rcases x2.src b1 x1 hx1 hy1 with h3 | ⟨b0, x0, hl0, hG0, hx0, he0⟩
            · have := inv.hr.lt hb2 hy2
              omega
            · obtain ⟨hb0, hl0'⟩ := hlivei b0 hl0
              obtain ⟨_, _, _, hb0'⟩ := liveblk hl0'
              have := inv.hr.inj b0 b2 _ _ _ _ _ _ _ _ hG0 hb0' hb2 hx0 hy2 (he0.trans he)
              omega
      · have hy1 : φ1 b1 = some x1 := by
          rcases x2.dom b1 x1 hx1 with h3 | ⟨_, _, h3⟩
          · exact h3
          · exfalso; omega
        by_cases hn2 : b2 < (hs (i + 1)).next
        · exfalso
          cases hy2 : φ1 b2 with
          | some y =>
            have := x2.le _ _ hy2
            rw [hx2] at this
            injection this with this
            subst this
            have := inv.hr.inj b1 b2 _ _ _ _ _ _ _ _ hG1 hb1 hb2 hy1 hy2 he
            omega
          | none =>
            rcases x2.src b2 x2' hx2 hy2 with h3 | ⟨b0, x0, hl0, hG0, hx0, he0⟩
            · have := inv.hr.lt hb1 hy1
              omega
            · obtain ⟨hb0, hl0'⟩ := hlivei b0 hl0
              obtain ⟨_, _, _, hb0'⟩ := liveblk hl0'
              have := inv.hr.inj b0 b1 _ _ _ _ _ _ _ _ hG0 hb0' hb1 hx0 hy1 (he0.trans he.symm)
              omega
        · have hy2 : φ1 b2 = some x2' := by
            rcases x2.dom b2 x2' hx2 with h3 | ⟨_, _, h3⟩
            · exact h3
            · exfalso; omega
          exact inv.hr.inj b1 b2 _ _ _ _ _ _ _ _ hG1 hb1 hb2 hy1 hy2 he
    · obtain ⟨es', top, h3⟩ := inv.hr.glob b cells size es hlt hlN hb
      exact ⟨es', top, x2.le _ _ h3⟩
    · -- dom of Ext
      rcases x2.dom b x hx with h3 | ⟨h3, h4, h5⟩
      · exact inv.ext.dom b x h3
      · simp only [bump] at h4
        refine .inr ⟨?_, by omega, by omega⟩
        cases h6 : φ b with
        | none => rfl
        | some y => rw [inv.ext.le _ _ h6] at h3; cases h3
    · -- src
      cases h3 : φ1 b with
      | some y =>
        have := x2.le _ _ h3
        rw [hx] at this
        injection this with this
        subst this
        exact inv.ext.src b x h3 h0
      | none =>
        rcases x2.src b x hx h3 with h4 | ⟨b0, x0, hl0, hG0, hx0, he0⟩
        · exact .inl (Nat.le_trans inv.ext.size h4)
        · obtain ⟨hb0, hl0'⟩ := hlivei b0 hl0
          cases h5 : φ b0 with
          | some y =>
            have := inv.ext.le _ _ h5
            rw [hx0] at this
            injection this with this
            subst this
            have hb0h : b0 < h.next := by
              rcases Nat.lt_or_ge b0 h.next with h6 | h6
              · exact h6
              · rw [hf b0 h6 (by omega)] at h5; cases h5
            exact .inr ⟨b0, x0, holdlive b0 hb0h hl0', hG0, h5, he0⟩
          | none =>
            rcases inv.ext.src b0 x0 hx0 h5 with h6 | ⟨b1, x1, g1, g2, g3, g4⟩
            · exact .inl (he0 ▸ h6)
            · exact .inr ⟨b1, x1, g1, g2, g3, g4.trans he0⟩
    · -- frame
      rw [x2.frame c (Nat.lt_of_lt_of_le hcl inv.ext.size) fun b0 x0 hl0 hG0 hx0 he0 => ?_]
      · exact inv.ext.frame c hcl hno
      · obtain ⟨hb0, hl0'⟩ := hlivei b0 hl0
        cases h5 : φ b0 with
        | some y =>
          have := inv.ext.le _ _ h5
          rw [hx0] at this
          injection this with this
          subst this
          have hb0h : b0 < h.next := by
            rcases Nat.lt_or_ge b0 h.next with h6 | h6
            · exact h6
            · rw [hf b0 h6 (by omega)] at h5; cases h5
          exact hno b0 x0 (holdlive b0 hb0h hl0') hG0 h5 he0
        | none =>
          rcases inv.ext.src b0 x0 hx0 h5 with h6 | ⟨b1, x1, g1, g2, g3, g4⟩
          · omega
          · exact hno b1 x1 g1 g2 g3 (g4.trans he0)
    · -- dom
      rcases x2.dom b x hx with h3 | ⟨h3, h4, h5⟩
      · rcases inv.dom b x h3 with h6 | ⟨j, g1, g2, g3, g4⟩
        · exact .inl h6
        · exact .inr ⟨j, g1, getD_set_true g2, g3, g4⟩
      · refine .inr ⟨i, him, ?_, h4, by omega⟩
        have : i < listed.size := by rw [inv.head.size]; exact (Array.getElem?_eq_some_iff.1 ho).1
        simp [this]
theorem countP_set {p q : Nat → Bool} {i : Nat} (hp : p i = true) (hq : q i = false) (hpq : ∀ j, j ≠ i → q j = p j) : ∀ {l : List Nat}, l.Nodup → i ∈ l → l.countP p = l.countP q + 1
  | [], _, h => by cases h
  | x :: l, hn, h => by
    rw [List.nodup_cons] at hn
    by_cases hx : x = i
    · subst hx
      have : l.countP p = l.countP q := by
        apply List.countP_congr
        intro y hy
        have : y ≠ x := fun e => hn.1 (e ▸ hy)
        rw [hpq y this]
      rw [List.countP_cons, List.countP_cons, this, hp, hq]; simp
    · have hi : i ∈ l := by
        rcases List.mem_cons.1 h with h1 | h1
        · exact absurd h1.symm hx
        · exact h1
      have ih := countP_set hp hq hpq hn.2 hi
      rw [List.countP_cons, List.countP_cons, ih, hpq x hx]
      omega

def todo (m : Nat) (listed : Array Bool) : Nat := (List.range m).countP fun i => !listed.getD i false

theorem edges_of {ops : Array Oper} (h : edgesBack ops = true) {j : Nat} {o : Oper} (ho : ops[j]? = some o) : ∀ e ∈ o.after, Region.binds .any e = true → e.on < j := by
  intro e he hb
  have hj : j < ops.size := (Array.getElem?_eq_some_iff.1 ho).1
  have h1 := List.all_eq_true.1 h j (List.mem_range.2 hj)
  rw [nth_eq] at h1
  have ho' : ops.toList[j]? = some o := by simpa using ho
  rw [ho'] at h1
  have h2 := List.all_eq_true.1 h1 e (by simpa using he)
  simpa [hb] using h2

theorem least_unlisted {listed : Array Bool} : ∀ {m : Nat}, 0 < todo m listed → ∃ i, i < m ∧ listed.getD i false = false ∧ ∀ j, j < i → listed.getD j false = true
  | 0, h => by simp [todo] at h
  | m + 1, h => by
    by_cases h0 : 0 < todo m listed
    · obtain ⟨i, h1, h2, h3⟩ := least_unlisted h0
      exact ⟨i, by omega, h2, h3⟩
    · have hz : todo m listed = 0 := by omega
      have hall : ∀ j, j < m → listed.getD j false = true := fun j hj => by
        unfold todo at hz
        rw [List.countP_eq_zero] at hz
        have := hz j (List.mem_range.2 hj)
        simpa using this
      refine ⟨m, by omega, ?_, hall⟩
      unfold todo at h hz
      rw [List.range_succ, List.countP_append, hz] at h
      cases hb : listed.getD m false with
      | false => rfl
      | true => exfalso; simp only [List.countP_cons, List.countP_nil, hb] at h; simp at h

end Go.Proofs.YtnjbcgiplfdgmaaGreatDoor.Ev
