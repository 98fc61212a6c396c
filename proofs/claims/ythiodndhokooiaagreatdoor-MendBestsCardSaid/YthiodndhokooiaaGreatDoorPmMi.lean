/- Symbolic runs: maps whose keys are whole numbers of 64 bits. -/
import Derived.Test.YthiodndhokooiaaGreatDoorPmMp
import Derived.Test.YthiodndhokooiaaGreatDoorPmmQ1
namespace Go.Proofs.YthiodndhokooiaaGreatDoor.Ev
open Go
variable {P : Program} {E : Env}
noncomputable section

section
variable {n : Nat} {ops : List Oper} {q : Bool} {r tl : List Oper} {k : List Frm} {α : Tr Value} {h : H} {R : Rt} {ty : TypeId} {pos : String} {af : Array Edge}
theorem At_mapIns [NoFz E] {t : TypeId} {m x y : Operand} {b : Nat} {l0 l : List (Value × Value)} {kv v : Value} (hm : ev E h α m = some (.map (some b))) (hx : ev E h α x = some kv) (hy : ev E h α y = some v)
    (hb : h.blks.get b = some (.mp l0)) (hG : E.G ≤ b) (hs : evMapSet P E h t (.map (some b)) kv v = mpPut E h b l)
    (hk : ∀ h', StoM h h' b l → At P E n ops false r tl k α h' R) : At P E n ops false (⟨none, .insert t m x y, ty, pos, af, none⟩ :: r) tl k α h R := by
  rw [At_heap rfl rfl]
  obtain ⟨h', h1, h2⟩ := mpPut_sto (l := l) hb hG
  have e : evOp P E nocall (st false h) α ⟨none, .insert t m x y, ty, pos, af, none⟩ = some (undef, h') := by
    rw [evOp_eq]
    simp only [evOpS, st, hm, hx, hy, hs, h1]
  rw [e, HeapO_none]
  exact ⟨fun e => (by cases e), hk _ h2⟩
theorem At_mapDel [NoFz E] {t kt : TypeId} {m x : Operand} {b : Nat} {l0 l : List (Value × Value)} {kv : Value} (hm : ev E h α m = some (.map (some b))) (hx : ev E h α x = some kv)
    (hb : h.blks.get b = some (.mp l0)) (hG : E.G ≤ b) (hs : evDelete P E h t (.map (some b)) kv = mpPut E h b l)
    (hk : ∀ h', StoM h h' b l → At P E n ops false r tl k α h' R) : At P E n ops false (⟨none, .call ⟨.builtin .delete, #[m, x], #[t, kt]⟩, ty, pos, af, none⟩ :: r) tl k α h R := by
  rw [At_heap rfl rfl]
  obtain ⟨h', h1, h2⟩ := mpPut_sto (l := l) hb hG
  have e : evOp P E nocall (st false h) α ⟨none, .call ⟨.builtin .delete, #[m, x], #[t, kt]⟩, ty, pos, af, none⟩ = some (undef, h') := by
    rw [evOp_eq]
    simp only [evOpS, evs, st, hm, hx]
    show evBuiltin P E h .delete #[t, kt] [.map (some b), kv] = _
    simp only [evBuiltin, hs, h1]
  rw [e, HeapO_none]
  exact ⟨fun e => (by cases e), hk _ h2⟩
end

/-- what a map with such keys holds -/
structure IntK (l : List (Value × Value)) (f : Nat → Option Value) : Prop where
  key : ∀ x ∈ l, ∃ k : Nat, x.1 = .int .u64 k
  nodup : (l.map (·.1)).Nodup
  mem : ∀ (k : Nat) (v : Value), f k = some v ↔ (Value.int .u64 (k : Int), v) ∈ l
theorem IntK.nil : IntK [] fun _ => none := ⟨fun _ h => (by cases h), List.nodup_nil, fun k v => by simp⟩
theorem key_inj {a b : Nat} : Value.int .u64 (a : Int) = .int .u64 (b : Int) ↔ a = b := by
  constructor
  · intro h; injection h with _ h; omega
  · rintro rfl; rfl
theorem findNow_int {k : Nat} : ∀ {l : List (Value × Value)} (i : Nat), (∀ x ∈ l, ∃ k : Nat, x.1 = .int .u64 k) → (evFindNow (.int .u64) (.int .u64 k) l i = some none ∧ ∀ x ∈ l, x.1 ≠ .int .u64 k) ∨ ∃ j v, evFindNow (.int .u64) (.int .u64 k) l i = some (some (i + j, v)) ∧ l[j]? = some (.int .u64 k, v)
  | [], i, _ => .inl ⟨rfl, fun _ h => by cases h⟩
  | (x, v) :: r, i, hk => by
    obtain ⟨u, hu⟩ := hk (x, v) List.mem_cons_self
    simp only at hu
    subst hu
    have hs : Instr.sameNow (.int .u64) (.int .u64 k) (.int .u64 u) = some (decide (k = u)) := by
      show (if IntKind.u64 = IntKind.u64 then some ((k : Int) == (u : Int)) else none) = _
      rw [if_pos rfl]
      congr 1
      by_cases e : k = u
      · subst e; simp
      · have : ¬ (k : Int) = u := by omega
        simp [e, this]
    by_cases h : k = u
    · subst h
      exact .inr ⟨0, v, by simp only [evFindNow, hs, decide_true, Nat.add_zero], rfl⟩
    · rcases findNow_int (k := k) (i + 1) (fun x hx => hk x (List.mem_cons_of_mem _ hx)) with ⟨h1, h2⟩ | ⟨j, w, h1, h2⟩
      · refine .inl ⟨?_, fun x hx => ?_⟩
        · simp only [evFindNow, hs, h, decide_false]; exact h1
        · rcases List.mem_cons.1 hx with rfl | hx
          · intro e; exact h (key_inj.1 e).symm
          · exact h2 x hx
      · refine .inr ⟨j + 1, w, ?_, by simpa using h2⟩
        simp only [evFindNow, hs, h, decide_false]
        rw [h1]
        congr 3
        omega
theorem nodup_at {l : List (Value × Value)} (hn : (l.map (·.1)).Nodup) {i j : Nat} {x : Value} {v w : Value} (hi : l[i]? = some (x, v)) (hj : l[j]? = some (x, w)) : i = j := by
  obtain ⟨hi1, hi2⟩ := List.getElem?_eq_some_iff.1 hi
  obtain ⟨hj1, hj2⟩ := List.getElem?_eq_some_iff.1 hj
  have e : (l.map (·.1))[i]'(by simpa using hi1) = (l.map (·.1))[j]'(by simpa using hj1) := by simp [hi2, hj2]
  have hp := List.pairwise_iff_getElem.1 hn
  rcases Nat.lt_trichotomy i j with h | h | h
  · exact absurd e (hp i j _ _ h)
  · exact h
  · exact absurd e.symm (hp j i _ _ h)

section
variable {t kt et : TypeId} {h : H} {b : Nat} {l : List (Value × Value)} {k : Nat} {f : Nat → Option Value}
theorem keys_int (hk : E.u kt = some (.int .u64)) {em : Bool} : keysOK P E kt (.int .u64 (k : Int)) em = true := by
  unfold keysOK
  simp only [hk]
  rfl
theorem evFind_int (hk : E.u kt = some (.int .u64)) (hl : IntK l f) : (f k = none ∧ evFind P E kt (.int .u64 (k : Int)) l = some none ∧ ∀ x ∈ l, x.1 ≠ .int .u64 k) ∨ ∃ j v, f k = some v ∧ evFind P E kt (.int .u64 (k : Int)) l = some (some (j, v)) ∧ l[j]? = some (.int .u64 k, v) := by
  rcases findNow_int (k := k) 0 hl.key with ⟨h1, h2⟩ | ⟨j, v, h1, h2⟩
  · refine .inl ⟨?_, by simp only [evFind, hk, h1], h2⟩
    cases e : f k with
    | none => rfl
    | some v => exact absurd rfl (h2 _ ((hl.mem k v).1 e))
  · exact .inr ⟨0 + j, v, (hl.mem k v).2 (List.mem_of_getElem? h2), by simp only [evFind, hk, h1], by simpa using h2⟩
theorem look_int {inf : TypeInfo} {z : Value} (hu : E.u t = some (.map kt et)) (hk : E.u kt = some (.int .u64)) (hi : E.i et = some inf) (hz : inf.zero = some z) (hc : okConst z = true) {B : Tr Blk} (hb : B.get b = some (.mp l)) (hl : IntK l f) (ok : Bool) :
    lookO P E t B ok (some (.map (some b))) (some (.int .u64 (k : Int))) = some (match f k with
      | some v => commaOk ok v true
      | none => commaOk ok z false) := by
  rcases evFind_int (P := P) (k := k) hk hl with ⟨h0, h1, h2⟩ | ⟨j, v, h0, h1, h2⟩
  · rw [h0]
    simp only [lookO, evLookup, hu, mpGet, hb, keys_int hk, if_true, h1, hi, hz, hc]
  · rw [h0]
    simp only [lookO, evLookup, hu, mpGet, hb, keys_int hk, if_true, h1]
theorem set_int {v : Value} (hu : E.u t = some (.map kt et)) (hk : E.u kt = some (.int .u64)) (hb : h.blks.get b = some (.mp l)) (hl : IntK l f) :
    ∃ l', evMapSet P E h t (.map (some b)) (.int .u64 (k : Int)) v = mpPut E h b l' ∧ IntK l' (gup f k (some v)) := by
  rcases evFind_int (P := P) (k := k) hk hl with ⟨h0, h1, h2⟩ | ⟨j, u, h0, h1, h2⟩
  · refine ⟨l ++ [(.int .u64 (k : Int), v)], by simp only [evMapSet, hu, mpGet, hb, keys_int hk, if_true, h1], fun x hx => ?_, ?_, fun k' v' => ?_⟩
    · rcases List.mem_append.1 hx with hx | hx
      · exact hl.key x hx
      · rw [List.mem_singleton.1 hx]; exact ⟨k, rfl⟩
    · rw [List.map_append, List.nodup_append]
      refine ⟨hl.nodup, by simp, fun a ha c hc => ?_⟩
      simp at hc
      subst hc
      obtain ⟨x, hx, rfl⟩ := List.mem_map.1 ha
      exact h2 x hx
    · rw [List.mem_append, List.mem_singleton]
      by_cases e : k' = k
      · subst e
        rw [gup_same]
        constructor
        · intro e; cases e; exact .inr rfl
        · rintro (h | h)
          · exact absurd rfl (h2 _ h)
          · injection h with _ h; rw [h]
      · rw [gup_ne e, hl.mem]
        constructor
        · exact .inl
        · rintro (h | h)
          · exact h
          · injection h with h _; exact absurd (key_inj.1 h) e
  · have hsame : sameAt l j (.int .u64 (k : Int)) = true := by
      simp only [sameAt, h2]
      show ((IntKind.u64 == IntKind.u64) && ((k : Int) == (k : Int))) = true
      simp
    have hj := (List.getElem?_eq_some_iff.1 h2).1
    refine ⟨l.set j (.int .u64 (k : Int), v), by simp only [evMapSet, hu, mpGet, hb, keys_int hk, if_true, h1, hsame], fun x hx => ?_, ?_, fun k' v' => ?_⟩
    · rcases List.mem_or_eq_of_mem_set hx with hx | rfl
      · exact hl.key x hx
      · exact ⟨k, rfl⟩
    · have e : (l.set j (.int .u64 (k : Int), v)).map (·.1) = l.map (·.1) := by
        rw [List.map_set]
        apply List.ext_getElem?
        intro i
        rw [List.getElem?_set]
        by_cases e : j = i
        · subst e
          rw [if_pos rfl, if_pos (by simpa using hj), List.getElem?_map, h2]; rfl
        · rw [if_neg e]
      rw [e]; exact hl.nodup
    · rw [List.mem_iff_getElem?]
      by_cases e : k' = k
      · subst e
        rw [gup_same]
        constructor
        · intro e
          cases e
          exact ⟨j, by rw [List.getElem?_set, if_pos rfl, if_pos hj]⟩
        · rintro ⟨i, hi⟩
          rw [List.getElem?_set] at hi
          by_cases e2 : j = i
          · subst e2
            rw [if_pos rfl, if_pos hj] at hi
            injection hi with hi; injection hi with _ hi; rw [hi]
          · rw [if_neg e2] at hi
            exact absurd (nodup_at hl.nodup h2 hi) e2
      · rw [gup_ne e, hl.mem, List.mem_iff_getElem?]
        constructor
        · rintro ⟨i, hi⟩
          refine ⟨i, ?_⟩
          rw [List.getElem?_set, if_neg, hi]
          rintro rfl
          rw [h2] at hi
          injection hi with hi; injection hi with hi _
          exact e (key_inj.1 hi).symm
        · rintro ⟨i, hi⟩
          rw [List.getElem?_set] at hi
          by_cases e2 : j = i
          · subst e2
            rw [if_pos rfl, if_pos hj] at hi
            injection hi with hi; injection hi with hi _
            exact absurd (key_inj.1 hi).symm e
          · rw [if_neg e2] at hi
            exact ⟨i, hi⟩
theorem del_int (hu : E.u t = some (.map kt et)) (hk : E.u kt = some (.int .u64)) (hb : h.blks.get b = some (.mp l)) (hl : IntK l f) :
    ∃ l', evDelete P E h t (.map (some b)) (.int .u64 (k : Int)) = mpPut E h b l' ∧ IntK l' (gup f k none) := by
  rcases evFind_int (P := P) (k := k) hk hl with ⟨h0, h1, h2⟩ | ⟨j, u, h0, h1, h2⟩
  · refine ⟨l, by simp only [evDelete, hu, mpGet, hb, keys_int hk, if_true, h1], hl.key, hl.nodup, fun k' v' => ?_⟩
    by_cases e : k' = k
    · subst e
      rw [gup_same]
      exact ⟨fun h => (by cases h), fun h => absurd rfl (h2 _ h)⟩
    · rw [gup_ne e]; exact hl.mem k' v'
  · have hsub : (l.eraseIdx j).Sublist l := List.eraseIdx_sublist l j
    refine ⟨l.eraseIdx j, by simp only [evDelete, hu, mpGet, hb, keys_int hk, if_true, h1], fun x hx => hl.key x (hsub.subset hx), (hsub.map (·.1)).nodup hl.nodup, fun k' v' => ?_⟩
    rw [List.mem_eraseIdx_iff_getElem?]
    by_cases e : k' = k
    · subst e
      rw [gup_same]
      refine ⟨fun h => (by cases h), ?_⟩
      rintro ⟨i, hi, hg⟩
      exact absurd (nodup_at hl.nodup hg h2) hi
    · rw [gup_ne e, hl.mem, List.mem_iff_getElem?]
      constructor
      · rintro ⟨i, hi⟩
        refine ⟨i, ?_, hi⟩
        rintro rfl
        rw [h2] at hi
        injection hi with hi; injection hi with hi _
        exact e (key_inj.1 hi).symm
      · rintro ⟨i, _, hg⟩
        exact ⟨i, hg⟩
end
end
end Go.Proofs.YthiodndhokooiaaGreatDoor.Ev

