/- Symbolic runs: a region that draws, of which one operation ahead of the tail changes what lay there before. -/
import Derived.Test.YtnhbkoeomefkdaaDoorPmSS
namespace Go.Proofs.YtnhbkoeomefkdaaDoor.Ev
open Go
variable {P : Program} {E : Env}

theorem evPre_app {call : Callf} {n : Nat} {ops r : List Oper} : ∀ {A : List Oper} {i : Nat} {h h' : H} {α α' : Tr Value} {d : Option (Nat × H × Oper)}, evQuiet P E call n ops A h α = some (α', h') → evPre P E call n ops (A ++ r) i h α d = evPre P E call n ops r (i + A.length) h' α' d
  | [], i, h, h', α, α', d, hs => by
    simp only [evQuiet, Option.some.injEq, Prod.mk.injEq] at hs
    obtain ⟨rfl, rfl⟩ := hs
    rfl
  | o :: A, i, h, h', α, α', d, hs => by
    simp only [evQuiet] at hs
    simp only [List.cons_append, evPre, forceN_eq]
    split at hs
    · rename_i α1 h1 h2
      split at hs
      · rename_i hle
        simp only [if_pos hle]
        rw [evPre_app hs]
        congr 1
        simp only [List.length_cons]; omega
      · cases hs
    · cases hs

/-- what is told by the code alone: operations that are free, or waited for, or to be looked at -/
def insensF (late : Bool) (o : Oper) : Bool := o.guard.isNone && (match o.op with
  | .load _ _ => false
  | .alloc _ => late
  | .buildSlice _ _ _ => late
  | op => pureOp op)
def dirtyC (ops : List Oper) (m p : Nat) (ow : Oper) (Ls : List Nat) : Bool :=
  (List.range m).all fun i => Nat.beq i p || Ls.contains i || match nth ops i with
    | some o => bif Nat.ble (i + 1) p then waits ow i || insensF false o || waitsT ops 6 ow i else waits o p || insensF true o || waitsT ops 6 o p
    | none => false
theorem insensF_of {hp h' : H} {α' : Tr Value} {late : Bool} {o : Oper} (h : insensF late o = true) : insens E hp h' α' late o = true := by
  unfold insensF at h
  unfold insens
  simp only [Bool.and_eq_true] at h ⊢
  refine ⟨h.1, ?_⟩
  have h2 := h.2
  revert h2
  cases o.op <;> intro h2 <;> first | exact h2 | (cases h2; done) | (rename_i m; cases m <;> cases h2)
/-- a load that gives the same on either side -/
def LoadSame (E : Env) (ops : List Oper) (hp h' : H) (α' : Tr Value) (i : Nat) : Prop := ∃ o t y b off v, nth ops i = some o ∧ o.guard = none ∧ o.op = .load t y ∧ ev E h' α' y = some (.pointer (some ⟨b, off, none⟩)) ∧ loadO E t hp.blks (some (.pointer (some ⟨b, off, none⟩))) = some v ∧ loadO E t h'.blks (some (.pointer (some ⟨b, off, none⟩))) = some v ∧ sameO (some v) (some v) = true
/-- a slicing that gives the same on either side -/
def SliceSame (E : Env) (ops : List Oper) (hp h' : H) (α' : Tr Value) (i : Nat) : Prop := ∃ o t x lo hi A n c, nth ops i = some o ∧ o.guard = none ∧ o.op = .slice t x lo hi none ∧ ev E h' α' x = some (.slice A n c) ∧ ((∀ b off, A ≠ some ⟨b, off, none⟩) ∨ ∃ b off, A = some ⟨b, off, none⟩ ∧ sameE hp h' b = true)
theorem SliceSame.of_slv {E : Env} {ops : List Oper} {hp h' : H} {α' : Tr Value} {i lo hi sz n c : Nat} {L : List Value} {A : Option Addr} {o : Oper} {t : TypeId} {x : Operand} {l r : Option Operand} (h1 : nth ops i = some o) (h2 : o.guard = none) (h3 : o.op = .slice t x l r none) (h4 : ev E h' α' x = some (.slice A n c))
    (s : SlV hp.blks lo hi sz n L (.slice A n c)) (hb : ∀ b, lo ≤ b → b < hi → h'.blks.get b = hp.blks.get b) : SliceSame E ops hp h' α' i := by
  refine ⟨o, t, x, l, r, A, n, c, h1, h2, h3, h4, ?_⟩
  cases s with
  | nil _ _ => exact .inl fun b off e => by cases e
  | emp _ _ => exact .inl fun b off e => by cases e
  | mk hbk hlo hhi _ _ _ =>
    refine .inr ⟨_, _, rfl, ?_⟩
    unfold sameE
    rw [hb _ hlo hhi, hbk]
    exact Nat.beq_refl _
theorem dirtyOK_of2 {ops : List Oper} {m p : Nat} {ow : Oper} {hp h' : H} {α' : Tr Value} {Ls : List Nat} (hc : dirtyC ops m p ow Ls = true) (hl : ∀ i ∈ Ls, LoadSame E ops hp h' α' i ∨ SliceSame E ops hp h' α' i) : dirtyOK E ops m p ow hp h' α' = true := by
  unfold dirtyC at hc
  unfold dirtyOK
  rw [List.all_eq_true] at hc ⊢
  intro i hi
  have h1 := hc i hi
  simp only [Bool.or_eq_true] at h1 ⊢
  rcases h1 with (h1 | h1) | h1
  · exact .inl h1
  · right
    have key : ∃ o, nth ops i = some o ∧ ∀ late, insens E hp h' α' late o = true := by
      rcases hl i (by simpa using h1) with ⟨o, t, y, b, off, v, e1, e2, e3, e4, e5, e6, e7⟩ | ⟨o, t, x, lo, hi, A, n, c, e1, e2, e3, e4, e5⟩
      · refine ⟨o, e1, fun late => ?_⟩
        have l1 : evLoad E hp t (.pointer (some ⟨b, off, none⟩)) = some v := by
          rw [← e5]; simp only [loadO, evLoad, rd]
        have l2 : evLoad E h' t (.pointer (some ⟨b, off, none⟩)) = some v := by
          rw [← e6]; simp only [loadO, evLoad, rd]
        unfold insens
        rw [e2, e3]
        simp only [e4, l1, l2, e7, Bool.or_true, Option.isNone_none, Bool.and_self]
      · refine ⟨o, e1, fun late => ?_⟩
        unfold insens
        rw [e2, e3]
        simp only [e4, Option.isNone_none, Bool.true_and]
        rcases e5 with e5 | ⟨b, off, e5, e6⟩
        · split
          · rename_i b off _ _ e
            injection e with e
            injection e with e _ _
            exact absurd e (e5 b off)
          · rfl
          · rename_i hno
            exact absurd rfl (hno A n c)
        · subst e5
          simp only [e6, Bool.or_true]
    obtain ⟨o, e1, hin⟩ := key
    rw [e1]
    simp only [hin, Bool.or_true, Bool.true_or]
    cases Nat.ble (i + 1) p <;> rfl
  · right
    split at h1
    · rename_i o e
      rw [e]
      simp only
      cases hb : Nat.ble (i + 1) p <;> rw [hb] at h1 <;> simp only [cond_true, cond_false, Bool.or_eq_true] at h1 ⊢
      · exact h1.imp (fun h => h.imp id insensF_of) id
      · exact h1.imp (fun h => h.imp id insensF_of) id
    · cases h1
theorem WK_regionD [NoFz E] {n : Nat} {k : List Frm} {α : Tr Value} {h : H} {R : Rt} {id : Nat} {ops : Array Oper} (m p : Nat) {ow : Oper} (hm : cutAt ops = m ∧ wAt ops m = false ∧ regOk ops m = true ∧ lateApart ops m = true) (hsp : ops.toList.take m = ops.toList.take p ++ ow :: (ops.toList.take m).drop (p + 1)) (hlen : (ops.toList.take p).length = p)
    (hk : At P E n ops.toList true (ops.toList.take p) [] (.inv (fun α1 h1 => At P E n ops.toList false [ow] [] (.inv (fun α2 h2 => ∀ wm, min h1.wm h2.wm ≤ wm →
      At P E n ops.toList true ((ops.toList.take m).drop (p + 1)) [] (.inv (fun α3 h3 => dirtyOK E ops.toList m p ow h1 h3 α3 = true ∧ At P E n ops.toList false (ops.toList.drop m) [] k α3 h3 R) :: []) α2 ⟨h2.blks, h2.next, wm⟩ R) :: []) α1 (st true h1) R) :: []) α h R) : WK P E n (.region id ops true) k α h R := by
  obtain ⟨F, α1, h1, hq, hk⟩ := hk
  have hk := WL_nil.1 hk
  obtain ⟨F2, α2, h2, hl, hk⟩ := hk
  have hk := hk
  have hstep : step1 P E (callWith E (run P E F2)) n ops.toList (st true h1) α1 ow = some (α2, h2) := by
    rw [evList] at hl
    split at hl
    · rename_i a b c
      simp only [evList, Option.some.injEq, Prod.mk.injEq] at hl
      obtain ⟨rfl, rfl⟩ := hl
      exact c
    · cases hl
  let wm := bif Nat.ble h1.next h2.wm then h1.wm else bif Nat.ble h1.wm h2.wm then h1.wm else h2.wm
  have hwm : min h1.wm h2.wm ≤ wm := by
    show _ ≤ (bif Nat.ble h1.next h2.wm then h1.wm else bif Nat.ble h1.wm h2.wm then h1.wm else h2.wm)
    cases Nat.ble h1.next h2.wm <;> cases Nat.ble h1.wm h2.wm <;> simp <;> omega
  obtain ⟨F3, α3, h3, hq3, hk3⟩ := hk wm hwm
  obtain ⟨hd, F4, α4, h4, hl4, hc⟩ := WL_nil.1 hk3
  let G := max (max F F2) (max F3 F4)
  have hF : F ≤ G := Nat.le_trans (Nat.le_max_left F F2) (Nat.le_max_left _ _)
  have hF2 : F2 ≤ G := Nat.le_trans (Nat.le_max_right F F2) (Nat.le_max_left _ _)
  have hF3 : F3 ≤ G := Nat.le_trans (Nat.le_max_left F3 F4) (Nat.le_max_right _ _)
  have hF4 : F4 ≤ G := Nat.le_trans (Nat.le_max_right F3 F4) (Nat.le_max_right _ _)
  refine ⟨G + 1, .normal, α4, h4, ?_, hc⟩
  have hst := step1_mono (CLe_run hF2) hstep
  simp only [st] at hst
  have hpre : ∃ d, evPre P E (callWith E (run P E G)) n ops.toList (ops.toList.take m) 0 h α none = some (α3, h3, d) ∧ (d = none ∨ d = some (p, h1, ow)) := by
    rw [hsp, evPre_app (evQuiet_mono (CLe_run hF) hq), hlen, Nat.zero_add]
    simp only [evPre, forceN_eq, hst]
    by_cases hle : h1.next ≤ h2.wm
    · have e : wm = h1.wm := by
        show (bif Nat.ble h1.next h2.wm then h1.wm else _) = _
        rw [Nat.ble_eq_true_of_le hle]; rfl
      rw [e] at hq3
      rw [if_pos hle]
      have := evPre_app (r := []) (i := p + 1) (d := none) (evQuiet_mono (CLe_run hF3) hq3)
      rw [List.append_nil] at this
      rw [this]
      exact ⟨none, rfl, .inl rfl⟩
    · have e : wm = bif Nat.ble h1.wm h2.wm then h1.wm else h2.wm := by
        show (bif Nat.ble h1.next h2.wm then h1.wm else _) = _
        have : Nat.ble h1.next h2.wm = false := by
          cases hb : Nat.ble h1.next h2.wm with
          | false => rfl
          | true => exact absurd (Nat.le_of_ble_eq_true hb) hle
        rw [this]; rfl
      rw [e] at hq3
      rw [if_neg hle]
      have := evPre_app (r := []) (i := p + 1) (d := some (p, h1, ow)) (evQuiet_mono (CLe_run hF3) hq3)
      rw [List.append_nil] at this
      rw [this]
      exact ⟨_, rfl, .inr rfl⟩
  obtain ⟨d, hpre, hdd⟩ := hpre
  have hreg : evRegion P E (run P E G) n ops true α h = some (α4, h4) := by
    show evRegion0 P E (run P E G) n ops true α (fzCut E h α ops.toList) = _
    unfold evRegion0
    simp only [forceN_eq, if_true, NoFz.cut]
    have e : sinkAt ops (ops.size - tailAt ops.toList) (tailAt ops.toList) = m := hm.1
    rw [e, if_neg (by rw [hm.2.1]; exact Bool.false_ne_true), if_pos hm.2.2.1, hpre]
    have hok : preOK P E (callWith E (run P E G)) n ops m h α α3 h3 d = true := by
      rcases hdd with rfl | rfl
      · simp only [preOK, NoFz.ok]
      · simp only [preOK, hd, hm.2.2.2, Bool.and_true, Bool.true_and]
        have := NoFz.nil (E := E)
        simp only [noFz, this, List.all_nil]
    simp only [hok, if_true]
    exact evList_mono (CLe_run hF4) hl4
  show (match evRegion P E (run P E G) n ops true α h with
    | some (α', h') => some (Ex.normal, α', h')
    | none => none) = _
  rw [hreg]
end Go.Proofs.YtnhbkoeomefkdaaDoor.Ev

