/- One round of a search. -/
import Derived.Test.YtngpoamjhngcgaaGreatDoorPmeD1
set_option linter.unusedVariables false
set_option linter.unusedSimpArgs false
namespace Go.Proofs.YtngpoamjhngcgaaGreatDoor.Ev
open Go Go.Proofs
noncomputable section

section
variable {P : Program} {E : Env} {n : Nat} {ops : List Oper} {q : Bool} {r tl : List Oper} {k : List Frm} {α : Tr Value} {h : H} {R : Rt} {d : Nat}
/-- a call of a function with what it has captured; it may write -/
theorem CallO_capE {g : FuncId} {fs cs : Array Value} {vs : List Value} {Q : Value → H → Prop} (hs : CallsE P E g (fs.toList ++ vs ++ cs.toList) h Q) (hd : d < n) (hk : ∀ v h', Q v h' → At P E n ops false r tl k (Tr.put α d v) h' R) :
    CallO P E n ops false r tl k α h R (some d) (some (.func (.func g) fs cs)) (some vs) := by
  unfold CallO
  refine CallsE.mono hs fun v h' hq => ?_
  rw [HeapO_some hd]
  exact ⟨fun e => (by cases e), hk v h' hq⟩
theorem WK_regionV3 {P : Program} {E : Env} [NoFz E] {n : Nat} {k : List Frm} {α : Tr Value} {h : H} {R : Rt} {id : Nat} {ops : Array Oper} (p : Nat) (hm : cutAt ops = p + 1 ∧ wAt ops (p + 1) = true ∧ regOkW ops p = true)
    (hk : At P E n ops.toList true (ops.toList.take p) [] (.inv (fun α1 h1 => lateB E h1 α1 ops p = true ∧ At P E n ops.toList false (ops.toList.drop p) [] k α1 h1 R) :: []) α h R) : WK P E n (.region id ops true) k α h R := by
  obtain ⟨F, α1, h1, hq, hk⟩ := hk
  have hk := WL_nil.1 hk
  exact WK_regionW p hm ⟨F, α1, h1, hq, hk⟩
end
theorem rl_none {d r : Nat → Nat → Int} {i j : Nat} {x : St} (h : stp d r i j = none) : rl d r i j x = { x with t := x.t + 1 } := by unfold rl; rw [h]
theorem rl_stay {d r : Nat → Nat → Int} {i j : Nat} {x : St} {s : Int} (hs : stp d r i j = some s) (h : ¬ (x.c i < 1000 ∧ x.c i + s < x.c j)) : rl d r i j x = { x with t := x.t + 1 } := by
  unfold rl; rw [hs]; exact if_neg h
theorem rl_go {d r : Nat → Nat → Int} {i j : Nat} {x : St} {s : Int} (hs : stp d r i j = some s) (h : x.c i < 1000 ∧ x.c i + s < x.c j) : rl d r i j x = ⟨upf x.c j (x.c i + s), upf x.b j (i : Int), true, upf x.T j (x.t + 1), x.t + 1⟩ := by
  unfold rl; rw [hs]; exact if_pos h

/-- what a search has in memory -/
structure SMem (B : Tr Blk) (pc pd pr pb bc bb n : Nat) (v1 v2 : Value) (c b : Nat → Int) : Prop where
  vc : loadv B pc 0 = some (.slice (some ⟨bc, 0, none⟩) n n)
  vd : loadv B pd 0 = some v1
  vr : loadv B pr 0 = some v2
  vb : loadv B pb 0 = some (.slice (some ⟨bb, 0, none⟩) n n)
  sc : SlV B bc (bc + 1) 1 n (intsL n c) (.slice (some ⟨bc, 0, none⟩) n n)
  sb : SlV B bb (bb + 1) 1 n (intsL n b) (.slice (some ⟨bb, 0, none⟩) n n)
structure Away (G pc pd pr pb bc bb : Nat) : Prop where
  cb : bc ≠ bb
  c1 : bc ≠ pc
  c2 : bc ≠ pd
  c3 : bc ≠ pr
  c4 : bc ≠ pb
  b1 : bb ≠ pc
  b2 : bb ≠ pd
  b3 : bb ≠ pr
  b4 : bb ≠ pb
  gc : G ≤ bc
  gb : G ≤ bb
/-- only two blocks are written -/
structure WrC (bc bb : Nat) (h h' : H) : Prop where
  next : h'.next = h.next
  wm : min h.wm (min bc bb) ≤ h'.wm
  get : ∀ b, b ≠ bc → b ≠ bb → h'.blks.get b = h.blks.get b
theorem WrC.refl {bc bb : Nat} {h : H} : WrC bc bb h h := ⟨rfl, Nat.min_le_left _ _, fun _ _ _ => rfl⟩
theorem WrC.trans {bc bb : Nat} {h h1 h2 : H} (a : WrC bc bb h h1) (b : WrC bc bb h1 h2) : WrC bc bb h h2 := ⟨b.next.trans a.next, by have := a.wm; have := b.wm; omega, fun x h1 h2 => (b.get x h1 h2).trans (a.get x h1 h2)⟩
theorem WrC.pres {bc bb m : Nat} {h h' : H} (a : WrC bc bb h h') (h1 : m ≤ bc) (h2 : m ≤ bb) : Pres m h h' := ⟨by rw [a.next]; exact Nat.le_refl _, by have := a.wm; omega, fun b hb => a.get b (by omega) (by omega)⟩
theorem SMem.keep {B B' : Tr Blk} {G pc pd pr pb bc bb n : Nat} {v1 v2 : Value} {c b c' b' : Nat → Int} (s : SMem B pc pd pr pb bc bb n v1 v2 c b) (aw : Away G pc pd pr pb bc bb) (hB : ∀ x, x ≠ bc → x ≠ bb → B'.get x = B.get x)
    (sc : SlV B' bc (bc + 1) 1 n (intsL n c') (.slice (some ⟨bc, 0, none⟩) n n)) (sb : SlV B' bb (bb + 1) 1 n (intsL n b') (.slice (some ⟨bb, 0, none⟩) n n)) : SMem B' pc pd pr pb bc bb n v1 v2 c' b' := by
  have key : ∀ p v, p ≠ bc → p ≠ bb → loadv B p 0 = some v → loadv B' p 0 = some v := fun p v h1 h2 h3 => by
    unfold loadv at h3 ⊢
    rw [hB p h1 h2]
    exact h3
  exact ⟨key _ _ aw.c1.symm aw.b1.symm s.vc, key _ _ aw.c2.symm aw.b2.symm s.vd, key _ _ aw.c3.symm aw.b3.symm s.vr, key _ _ aw.c4.symm aw.b4.symm s.vb, sc, sb⟩

set_option maxRecDepth 100000 in
set_option maxHeartbeats 64000000 in
theorem search_spec {G lo hi lo2 hi2 n c0 c02 pc pd pr pb bc bb : Nat} {g g2 : Nat → Nat} {d r : Nat → Nat → Int} {RA RA2 : Nat → Option Addr} {rc rc2 : Nat → Nat} {A A2 : Option Addr} {h : H} {st : Nat → Int} {x : St}
    (hS : SMem h.blks pc pd pr pb bc bb n (.slice A n c0) (.slice A2 n c02) x.c x.b) (aw : Away G pc pd pr pb bc bb)
    (hm : MatV h.blks lo hi n g d RA rc (.slice A n c0)) (hg : ∀ i, i < n → g i = n) (hm2 : MatV h.blks lo2 hi2 n g2 r RA2 rc2 (.slice A2 n c02)) (hg2 : ∀ i, i < n → g2 i = n)
    (q1 : hi ≤ bc) (q2 : hi ≤ bb) (q3 : hi2 ≤ bc) (q4 : hi2 ≤ bb) (hn : n ≤ 8) (h0 : 0 < n) (hbf : BF d r n st x) (hself : ∀ v, v < n → stp d r v v = none) (ht : x.t + n * n < 998) :
    CallsE Tryz.prog (En G) 104 [.pointer (some ⟨pc, 0, none⟩), .pointer (some ⟨pd, 0, none⟩), .pointer (some ⟨pr, 0, none⟩), .pointer (some ⟨pb, 0, none⟩)] h fun v h' => v = .bool (pas d r n { x with f := false } n).f ∧
      SMem h'.blks pc pd pr pb bc bb n (.slice A n c0) (.slice A2 n c02) (pas d r n { x with f := false } n).c (pas d r n { x with f := false } n).b ∧ WrC bc bb h h' := by
  refine CallsE_enter (En_known (by decide)) (En_f.trans Tryz.func104) rfl ⟨Nat.le_of_ble_eq_true rfl, by decide⟩ fun Q' hQ' => ?_
  obtain ⟨x0, hx0⟩ : ∃ x0 : St, x0 = { x with f := false } := ⟨_, rfl⟩
  have hx0c : x0.c = x.c := by rw [hx0]
  have hx0b : x0.b = x.b := by rw [hx0]
  have hx0t : x0.t = x.t := by rw [hx0]
  have hx0f : x0.f = false := by rw [hx0]
  have hbf0 : BF d r n st x0 := by rw [hx0]; exact hbf.f false
  rw [← hx0] at hQ' 
  rw [← hx0c, ← hx0b] at hS
  simp (disch := omega) only [Tryz.f104, go_sem,reduceIte,Nat.reduceEqDiff,Nat.reduceLT, load22, load23, hS.vc, len23]
  refine WK_loopN (fun j α h2 => ∃ I : Nat, I + j = n ∧ BF d r n st (pas d r n x0 I) ∧ (pas d r n x0 I).t = x.t + I * n ∧ WrC bc bb h h2 ∧ SMem h2.blks pc pd pr pb bc bb n (.slice A n c0) (.slice A2 n c02) (pas d r n x0 I).c (pas d r n x0 I).b ∧
      α.get 0 = some (.pointer (some ⟨pc, 0, none⟩)) ∧ α.get 1 = some (.pointer (some ⟨pd, 0, none⟩)) ∧ α.get 2 = some (.pointer (some ⟨pr, 0, none⟩)) ∧ α.get 3 = some (.pointer (some ⟨pb, 0, none⟩)) ∧ α.get 5 = some (.bool (pas d r n x0 I).f) ∧ α.get 11 = some (.int .i64 (n : Int)) ∧ α.get 12 = some (.int .i64 (I : Int))) n
    ⟨0, by omega, hbf0, by rw [show pas d r n x0 0 = x0 from rfl]; omega, WrC.refl, hS, by simp only [go_sem,reduceIte,Nat.reduceEqDiff,Nat.reduceLT], by simp only [go_sem,reduceIte,Nat.reduceEqDiff,Nat.reduceLT], by simp only [go_sem,reduceIte,Nat.reduceEqDiff,Nat.reduceLT], by simp only [go_sem,reduceIte,Nat.reduceEqDiff,Nat.reduceLT], by simp only [go_sem,reduceIte,Nat.reduceEqDiff,Nat.reduceLT, show pas d r n x0 0 = x0 from rfl, hx0f], by (simp only [go_sem,reduceIte,Nat.reduceEqDiff,Nat.reduceLT]) <;> rfl, by (simp only [go_sem,reduceIte,Nat.reduceEqDiff,Nat.reduceLT]) <;> rfl⟩ (by omega) ?_
  rintro J0 j α h2 ⟨I, hIj, hbI, htI, wr, hSI, e0, e1, e2, e3, e5, e11, e12⟩ hJ
  by_cases hlt : (I : Int) < (n : Int)
  · obtain ⟨y, hy⟩ : ∃ y, y = pas d r n x0 I := ⟨_, rfl⟩
    have hnext : pas d r n x0 (I + 1) = rowr d r y I n := by rw [hy]; rfl
    rw [← hy] at hbI htI hSI e5
    simp (disch := omega) only [go_sem,reduceIte,Nat.reduceEqDiff,Nat.reduceLT, e0, e1, e2, e3, e5, e11, e12, hlt, load22, load23, hSI.vc, len23]
    refine WK_loopN (fun j α h3 => ∃ J : Nat, J + j = n ∧ BF d r n st (rowr d r y I J) ∧ (rowr d r y I J).t = x.t + I * n + J ∧ WrC bc bb h h3 ∧ SMem h3.blks pc pd pr pb bc bb n (.slice A n c0) (.slice A2 n c02) (rowr d r y I J).c (rowr d r y I J).b ∧
        α.get 0 = some (.pointer (some ⟨pc, 0, none⟩)) ∧ α.get 1 = some (.pointer (some ⟨pd, 0, none⟩)) ∧ α.get 2 = some (.pointer (some ⟨pr, 0, none⟩)) ∧ α.get 3 = some (.pointer (some ⟨pb, 0, none⟩)) ∧ α.get 5 = some (.bool (rowr d r y I J).f) ∧ α.get 6 = some (.int .i64 (I : Int)) ∧ α.get 11 = some (.int .i64 (n : Int)) ∧ α.get 12 = some (.int .i64 (I : Int)) ∧ α.get 16 = some (.int .i64 (n : Int)) ∧ α.get 17 = some (.int .i64 (J : Int))) n
      ⟨0, by omega, hbI, by rw [show rowr d r y I 0 = y from rfl]; omega, wr, hSI, by simp only [go_sem,reduceIte,Nat.reduceEqDiff,Nat.reduceLT, e0], by simp only [go_sem,reduceIte,Nat.reduceEqDiff,Nat.reduceLT, e1], by simp only [go_sem,reduceIte,Nat.reduceEqDiff,Nat.reduceLT, e2], by simp only [go_sem,reduceIte,Nat.reduceEqDiff,Nat.reduceLT, e3], by simp only [go_sem,reduceIte,Nat.reduceEqDiff,Nat.reduceLT, e5, show rowr d r y I 0 = y from rfl], by (simp only [go_sem,reduceIte,Nat.reduceEqDiff,Nat.reduceLT]) <;> rfl, by simp only [go_sem,reduceIte,Nat.reduceEqDiff,Nat.reduceLT, e11], by simp only [go_sem,reduceIte,Nat.reduceEqDiff,Nat.reduceLT, e12], by (simp only [go_sem,reduceIte,Nat.reduceEqDiff,Nat.reduceLT]) <;> rfl, by (simp only [go_sem,reduceIte,Nat.reduceEqDiff,Nat.reduceLT]) <;> rfl⟩ (by omega) ?_
    clear e0 e1 e2 e3 e5 e11 e12 hSI wr
    rintro J1 j1 α h3 ⟨J, hJj, hbJ, htJ, wr, hSJ, e0, e1, e2, e3, e5, e6, e11, e12, e16, e17⟩ hJ1
    obtain ⟨z, hz⟩ : ∃ z, z = rowr d r y I J := ⟨_, rfl⟩
    have hzn : rowr d r y I (J + 1) = rl d r I J z := by rw [hz]; rfl
    rw [← hz] at hbJ htJ hSJ e5
    by_cases hltJ : (J : Int) < (n : Int)
    · have hIn : I < n := by omega
      have hJn : J < n := by omega
      have hmn := mul_next hIn hJn
      have bI := hbJ.bd I hIn
      have bJ := hbJ.bd J hJn
      have lI := hSJ.sc.ints_at' hIn
      have lJ := hSJ.sc.ints_at' hJn
      have hbn : BF d r n st (rl d r I J z) := hbJ.rl hself hIn hJn (by omega)
      have htn : (rl d r I J z).t = x.t + I * n + (J + 1) := by rw [rl_t]; omega
      have hm3 := hm.mono (B' := h3.blks) fun b h1 h2 => wr.get b (by omega) (by omega)
      have hm23 := hm2.mono (B' := h3.blks) fun b h1 h2 => wr.get b (by omega) (by omega)
      simp (disch := omega) only [go_sem,reduceIte,Nat.reduceEqDiff,Nat.reduceLT, e0, e1, e2, e3, e5, e6, e11, e12, e16, e17, hltJ, load22, load23, hSJ.vd, hSJ.vr]
      refine CallO_same (Q := fun v => v = costV d r I J) (cost_spec hm3 hg hm23 hg2 hn hIn hJn) (by omega) fun v hv => ?_
      subst hv
      have stay : rl d r I J z = { z with t := z.t + 1 } → ∀ α' : Tr Value, α'.get 0 = some (.pointer (some ⟨pc, 0, none⟩)) → α'.get 1 = some (.pointer (some ⟨pd, 0, none⟩)) → α'.get 2 = some (.pointer (some ⟨pr, 0, none⟩)) → α'.get 3 = some (.pointer (some ⟨pb, 0, none⟩)) → α'.get 5 = some (.bool z.f) → α'.get 6 = some (.int .i64 (I : Int)) → α'.get 11 = some (.int .i64 (n : Int)) → α'.get 12 = some (.int .i64 (I : Int)) → α'.get 16 = some (.int .i64 (n : Int)) → α'.get 17 = some (.int .i64 ((J + 1 : Nat) : Int)) → J1 α' h3 := fun er α' a0 a1 a2 a3 a5 a6 a11 a12 a16 a17 =>
        hJ1 (j1 - 1) _ _ (by omega) ⟨J + 1, by omega, by rw [hzn]; exact hbn, by rw [hzn]; exact htn, wr, by rw [hzn, er]; exact hSJ, a0, a1, a2, a3, by rw [hzn, er]; exact a5, a6, a11, a12, a16, a17⟩
      cases hs : stp d r I J with
      | none =>
        rw [costV_none hs]
        simp (disch := omega) only [go_sem,reduceIte,Nat.reduceEqDiff,Nat.reduceLT, e0, e1, e2, e3, e5, e6, e11, e12, e16, e17]
        refine WK_regionT 19 ⟨by kernel_rfl, by kernel_rfl, by kernel_rfl⟩ ?_
        simp (maxSteps := 3000000) (disch := omega) only [go_sem,reduceIte,Nat.reduceEqDiff,Nat.reduceLT, e0, e1, e2, e3, e5, e6, e11, e12, e16, e17, wrap_i64]
        exact stay (rl_none hs) _ (by simp only [go_sem,reduceIte,Nat.reduceEqDiff,Nat.reduceLT, e0]) (by simp only [go_sem,reduceIte,Nat.reduceEqDiff,Nat.reduceLT, e1]) (by simp only [go_sem,reduceIte,Nat.reduceEqDiff,Nat.reduceLT, e2]) (by simp only [go_sem,reduceIte,Nat.reduceEqDiff,Nat.reduceLT, e3]) (by simp only [go_sem,reduceIte,Nat.reduceEqDiff,Nat.reduceLT, e5]) (by simp only [go_sem,reduceIte,Nat.reduceEqDiff,Nat.reduceLT, e6]) (by simp only [go_sem,reduceIte,Nat.reduceEqDiff,Nat.reduceLT, e11]) (by simp only [go_sem,reduceIte,Nat.reduceEqDiff,Nat.reduceLT, e12]) (by simp only [go_sem,reduceIte,Nat.reduceEqDiff,Nat.reduceLT, e16]) (by (simp only [go_sem,reduceIte,Nat.reduceEqDiff,Nat.reduceLT]) <;> rfl)
      | some s =>
        have hsv := stp_val hs
        rw [costV_some hs]
        simp (disch := omega) only [go_sem,reduceIte,Nat.reduceEqDiff,Nat.reduceLT, e0, e1, e2, e3, e5, e6, e11, e12, e16, e17]
        refine WK_regionT 19 ⟨by kernel_rfl, by kernel_rfl, by kernel_rfl⟩ ?_
        by_cases c1 : z.c I < 1000
        · by_cases c2 : z.c I + s < z.c J
          · have er := rl_go hs ⟨c1, c2⟩
            simp (maxSteps := 3000000) (disch := omega) only [go_sem,reduceIte,Nat.reduceEqDiff,Nat.reduceLT, e0, e1, e2, e3, e5, e6, e11, e12, e16, e17, load23, load3, hSJ.vc, hSJ.vb, idxA23, Int.toNat_natCast, Nat.mul_one, lI, lJ, c1, c2, wrap_i64]
            refine WK_regionV3 12 ⟨by kernel_rfl, by kernel_rfl, by kernel_rfl⟩ ?_
            simp (maxSteps := 3000000) (disch := omega) only [go_sem,reduceIte,Nat.reduceEqDiff,Nat.reduceLT, e0, e1, e2, e3, e5, e6, e11, e12, e16, e17, load23, load3, hSJ.vc, hSJ.vb, idxA23, Int.toNat_natCast, Nat.mul_one, lI, lJ, wrap_i64]
            refine ⟨?_, ?_⟩
            · have b1 : Nat.beq pb bc = false := by
                cases hb : Nat.beq pb bc with
                | true => exact absurd (Nat.eq_of_beq_eq_true hb) aw.c4.symm
                | false => rfl
              have b2 : Nat.beq pc bc = false := by
                cases hb : Nat.beq pc bc with
                | true => exact absurd (Nat.eq_of_beq_eq_true hb) aw.c1.symm
                | false => rfl
              unfold lateB
              simp (maxSteps := 3000000) only [go_sem,reduceIte,Nat.reduceEqDiff,Nat.reduceLT, e0, e1, e2, e3, nth, List.range, List.range.loop, List.all_cons, List.all_nil, waits]
              simp [Region.binds, b1, b2, freeOp, lateOp, e0, e1, e2, e3]
            · refine At_setInt (i := J) (z := z.c I + s) (by simp only [go_sem,reduceIte,Nat.reduceEqDiff,Nat.reduceLT]) (by simp only [go_sem,reduceIte,Nat.reduceEqDiff,Nat.reduceLT]) hSJ.sc hJn aw.gc fun h4 hs4 hf4 => ?_
              have n4 := hs4.next
              simp (maxSteps := 3000000) (disch := omega) only [go_sem,reduceIte,Nat.reduceEqDiff,Nat.reduceLT, e0, e1, e2, e3, e5, e6, e11, e12, e16, e17, idxA23, Int.toNat_natCast, Nat.mul_one]
              have sb4 := hSJ.sb.mono (B' := h4.blks) fun b h1 h2 => hs4.get b (by have := aw.cb; omega)
              refine At_setInt (i := J) (z := (I : Int)) (by simp only [go_sem,reduceIte,Nat.reduceEqDiff,Nat.reduceLT]) (by simp only [go_sem,reduceIte,Nat.reduceEqDiff,Nat.reduceLT]) sb4 hJn aw.gb fun h5 hs5 hf5 => ?_
              have sc5 := hf4.mono (B' := h5.blks) fun b h1 h2 => hs5.get b (by have := aw.cb; omega)
              have w5 : WrC bc bb h3 h5 := ⟨hs5.next.trans n4, by have := hs4.wm; have := hs5.wm; omega, fun b h1 h2 => (hs5.get b h2).trans (hs4.get b h1)⟩
              have hS5 : SMem h5.blks pc pd pr pb bc bb n (.slice A n c0) (.slice A2 n c02) (upf z.c J (z.c I + s)) (upf z.b J (I : Int)) := hSJ.keep aw (fun b h1 h2 => w5.get b h1 h2) sc5 hf5
              simp (maxSteps := 3000000) (disch := omega) only [go_sem,reduceIte,Nat.reduceEqDiff,Nat.reduceLT, e0, e1, e2, e3, e5, e6, e11, e12, e16, e17, wrap_i64]
              refine hJ1 (j1 - 1) _ _ (by omega) ⟨J + 1, by omega, by rw [hzn]; exact hbn, by rw [hzn]; exact htn, wr.trans w5, by rw [hzn, er]; exact hS5, by simp only [go_sem,reduceIte,Nat.reduceEqDiff,Nat.reduceLT, e0], by simp only [go_sem,reduceIte,Nat.reduceEqDiff,Nat.reduceLT, e1], by simp only [go_sem,reduceIte,Nat.reduceEqDiff,Nat.reduceLT, e2], by simp only [go_sem,reduceIte,Nat.reduceEqDiff,Nat.reduceLT, e3], by rw [hzn, er]; simp only [go_sem,reduceIte,Nat.reduceEqDiff,Nat.reduceLT], by simp only [go_sem,reduceIte,Nat.reduceEqDiff,Nat.reduceLT, e6], by simp only [go_sem,reduceIte,Nat.reduceEqDiff,Nat.reduceLT, e11], by simp only [go_sem,reduceIte,Nat.reduceEqDiff,Nat.reduceLT, e12], by simp only [go_sem,reduceIte,Nat.reduceEqDiff,Nat.reduceLT, e16], by (simp only [go_sem,reduceIte,Nat.reduceEqDiff,Nat.reduceLT]) <;> rfl⟩
          · have er := rl_stay hs (x := z) fun g => c2 g.2
            simp (maxSteps := 3000000) (disch := omega) only [go_sem,reduceIte,Nat.reduceEqDiff,Nat.reduceLT, e0, e1, e2, e3, e5, e6, e11, e12, e16, e17, load23, load3, hSJ.vc, hSJ.vb, idxA23, Int.toNat_natCast, Nat.mul_one, lI, lJ, c1, c2, wrap_i64]
            exact stay er _ (by simp only [go_sem,reduceIte,Nat.reduceEqDiff,Nat.reduceLT, e0]) (by simp only [go_sem,reduceIte,Nat.reduceEqDiff,Nat.reduceLT, e1]) (by simp only [go_sem,reduceIte,Nat.reduceEqDiff,Nat.reduceLT, e2]) (by simp only [go_sem,reduceIte,Nat.reduceEqDiff,Nat.reduceLT, e3]) (by simp only [go_sem,reduceIte,Nat.reduceEqDiff,Nat.reduceLT, e5]) (by simp only [go_sem,reduceIte,Nat.reduceEqDiff,Nat.reduceLT, e6]) (by simp only [go_sem,reduceIte,Nat.reduceEqDiff,Nat.reduceLT, e11]) (by simp only [go_sem,reduceIte,Nat.reduceEqDiff,Nat.reduceLT, e12]) (by simp only [go_sem,reduceIte,Nat.reduceEqDiff,Nat.reduceLT, e16]) (by (simp only [go_sem,reduceIte,Nat.reduceEqDiff,Nat.reduceLT]) <;> rfl)
        · have er := rl_stay hs (x := z) fun g => c1 g.1
          simp (maxSteps := 3000000) (disch := omega) only [go_sem,reduceIte,Nat.reduceEqDiff,Nat.reduceLT, e0, e1, e2, e3, e5, e6, e11, e12, e16, e17, load23, load3, hSJ.vc, hSJ.vb, idxA23, Int.toNat_natCast, Nat.mul_one, lI, lJ, c1, wrap_i64]
          exact stay er _ (by simp only [go_sem,reduceIte,Nat.reduceEqDiff,Nat.reduceLT, e0]) (by simp only [go_sem,reduceIte,Nat.reduceEqDiff,Nat.reduceLT, e1]) (by simp only [go_sem,reduceIte,Nat.reduceEqDiff,Nat.reduceLT, e2]) (by simp only [go_sem,reduceIte,Nat.reduceEqDiff,Nat.reduceLT, e3]) (by simp only [go_sem,reduceIte,Nat.reduceEqDiff,Nat.reduceLT, e5]) (by simp only [go_sem,reduceIte,Nat.reduceEqDiff,Nat.reduceLT, e6]) (by simp only [go_sem,reduceIte,Nat.reduceEqDiff,Nat.reduceLT, e11]) (by simp only [go_sem,reduceIte,Nat.reduceEqDiff,Nat.reduceLT, e12]) (by simp only [go_sem,reduceIte,Nat.reduceEqDiff,Nat.reduceLT, e16]) (by (simp only [go_sem,reduceIte,Nat.reduceEqDiff,Nat.reduceLT]) <;> rfl)
    · obtain rfl : J = n := by omega
      simp (disch := omega) only [go_sem,reduceIte,Nat.reduceEqDiff,Nat.reduceLT, e0, e1, e2, e3, e5, e6, e11, e12, e16, e17, hltJ, wrap_i64]
      exact hJ (j - 1) _ _ (by omega) ⟨I + 1, by omega, by rw [hnext, ← hz]; exact hbJ, by rw [hnext, ← hz, htJ, Nat.succ_mul]; omega, wr, by rw [hnext, ← hz]; exact hSJ, by simp only [go_sem,reduceIte,Nat.reduceEqDiff,Nat.reduceLT, e0], by simp only [go_sem,reduceIte,Nat.reduceEqDiff,Nat.reduceLT, e1], by simp only [go_sem,reduceIte,Nat.reduceEqDiff,Nat.reduceLT, e2], by simp only [go_sem,reduceIte,Nat.reduceEqDiff,Nat.reduceLT, e3], by rw [hnext, ← hz]; simp only [go_sem,reduceIte,Nat.reduceEqDiff,Nat.reduceLT, e5], by simp only [go_sem,reduceIte,Nat.reduceEqDiff,Nat.reduceLT, e11], by (simp only [go_sem,reduceIte,Nat.reduceEqDiff,Nat.reduceLT]) <;> rfl⟩
  · obtain rfl : I = n := by omega
    simp (disch := omega) only [go_sem,reduceIte,Nat.reduceEqDiff,Nat.reduceLT, e0, e1, e2, e3, e5, e11, e12, hlt]
    exact hQ' _ _ ⟨rfl, hSI, wr⟩
end
end Go.Proofs.YtngpoamjhngcgaaGreatDoor.Ev

