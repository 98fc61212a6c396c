/- The parts of a seam: letters that chains connect. Mathematics alone. -/
import Derived.Test.YtdfkblagcfgncaaGreatDoorPmT1
namespace Go.Proofs.YtdfkblagcfgncaaGreatDoor.Ev

/-- letters that chains of open letters, none of which commutes with the next one, connect with x -/
inductive Rch (cm : Nat → Nat → Bool) (op : Nat → Bool) (x : Nat) : Nat → Prop
  | refl : Rch cm op x x
  | step {y z : Nat} : Rch cm op x y → op z = true → cm y z = false → Rch cm op x z
variable {cm : Nat → Nat → Bool}
theorem Rch.mono {op op' : Nat → Bool} {x y : Nat} (h : Rch cm op x y) (hs : ∀ z, op z = true → op' z = true) : Rch cm op' x y := by
  induction h with
  | refl => exact .refl
  | step _ h1 h2 ih => exact .step ih (hs _ h1) h2
theorem Rch.trans {op : Nat → Bool} {x y z : Nat} (h : Rch cm op x y) (h' : Rch cm op y z) : Rch cm op x z := by
  induction h' with
  | refl => exact h
  | step _ h1 h2 ih => exact .step ih h1 h2
theorem Rch.opn {op : Nat → Bool} {x y : Nat} (h : Rch cm op x y) (hx : op x = true) : op y = true := by
  cases h with
  | refl => exact hx
  | step _ h1 _ => exact h1
theorem Rch.symm {op : Nat → Bool} (hsym : ∀ a b, cm a b = cm b a) {x y : Nat} (h : Rch cm op x y) (hx : op x = true) : Rch cm op y x := by
  induction h with
  | refl => exact .refl
  | step h0 h1 h2 ih => exact Rch.trans (.step .refl (h0.opn hx) (by rw [hsym]; exact h2)) ih

/-- what taking a part does to the open letters -/
structure Tk (cm : Nat → Nat → Bool) (k : Nat) (op : Nat → Bool) (x : Nat) (op' : Nat → Bool) : Prop where
  sub : ∀ z, op' z = true → op z = true
  self : op' x = false
  rch : ∀ z, op z = true → op' z = false → Rch cm op x z
  cls : ∀ y z, (y = x ∨ (op y = true ∧ op' y = false)) → z < k → cm y z = false → op' z = false
theorem Tk.iff {k : Nat} {op op' : Nat → Bool} {x : Nat} (h : Tk cm k op x op') (hk : ∀ z, op z = true → z < k) (z : Nat) : op' z = true ↔ op z = true ∧ ¬ Rch cm op x z := by
  have key : ∀ z, Rch cm op x z → op' z = false := fun z hz => by
    induction hz with
    | refl => exact h.self
    | step h0 h1 h2 ih =>
      rename_i y z
      refine h.cls y z ?_ (hk z h1) h2
      cases h0 with
      | refl => exact .inl rfl
      | step _ h3 _ => exact .inr ⟨h3, ih⟩
  constructor
  · intro hz
    exact ⟨h.sub z hz, fun hr => by rw [key z hr] at hz; cases hz⟩
  · rintro ⟨h1, h2⟩
    cases e : op' z with
    | true => rfl
    | false => exact absurd (h.rch z h1 e) h2

/-- the state of taking a part before the letter o is looked at -/
structure TkI (cm : Nat → Nat → Bool) (k : Nat) (op : Nat → Bool) (x o : Nat) (cur : Nat → Bool) : Prop where
  sub : ∀ z, cur z = true → op z = true
  self : cur x = false
  rch : ∀ z, op z = true → cur z = false → Rch cm op x z
  cls : ∀ y z, y ≠ x → op y = true → cur y = false → z < k → cm y z = false → cur z = false
  dn : ∀ z, z < o → cm x z = false → cur z = false
theorem TkI.start {k : Nat} {op : Nat → Bool} {x : Nat} : TkI cm k op x 0 (fun z => if z = x then false else op z) := by
  refine ⟨fun z hz => ?_, if_pos rfl, fun z h1 h2 => ?_, fun y z h1 h2 h3 => ?_, fun z hz => absurd hz (Nat.not_lt_zero z)⟩
  · by_cases h : z = x
    · simp only [if_pos h] at hz; cases hz
    · simp only [if_neg h] at hz; exact hz
  · by_cases h : z = x
    · rw [h]; exact .refl
    · simp only [if_neg h] at h2; rw [h1] at h2; cases h2
  · simp only [if_neg h1] at h3; rw [h2] at h3; cases h3
theorem TkI.skip {k : Nat} {op cur : Nat → Bool} {x o : Nat} (h : TkI cm k op x o cur) (hs : cur o = false ∨ cm x o = true) : TkI cm k op x (o + 1) cur :=
  ⟨h.sub, h.self, h.rch, h.cls, fun z hz hc => by
    by_cases e : z = o
    · subst e
      rcases hs with hs | hs
      · exact hs
      · rw [hs] at hc; cases hc
    · exact h.dn z (by omega) hc⟩
theorem TkI.next {k : Nat} {op cur cur' : Nat → Bool} {x o : Nat} (h : TkI cm k op x o cur) (ho : cur o = true) (hc : cm x o = false) (ht : Tk cm k cur o cur') : TkI cm k op x (o + 1) cur' := by
  have down : ∀ z, cur z = false → cur' z = false := fun z hz => by
    cases e : cur' z with
    | false => rfl
    | true => rw [ht.sub z e] at hz; cases hz
  refine ⟨fun z hz => h.sub z (ht.sub z hz), down x h.self, fun z h1 h2 => ?_, fun y z h1 h2 h3 h4 h5 => ?_, fun z hz hcz => ?_⟩
  · cases e : cur z with
    | false => exact h.rch z h1 e
    | true =>
      have h3 := (ht.rch z e h2).mono h.sub
      exact Rch.trans (.step .refl (h.sub o ho) hc) h3
  · cases e : cur y with
    | false => exact down z (h.cls y z h1 h2 e h4 h5)
    | true => exact ht.cls y z (.inr ⟨e, h3⟩) h4 h5
  · by_cases e : z = o
    · rw [e]; exact ht.self
    · exact down z (h.dn z (by omega) hcz)
theorem TkI.fin {k : Nat} {op cur : Nat → Bool} {x : Nat} (h : TkI cm k op x k cur) : Tk cm k op x cur := by
  refine ⟨h.sub, h.self, h.rch, fun y z hy hz hc => ?_⟩
  by_cases e : y = x
  · subst e; exact h.dn z hz hc
  · rcases hy with hy | hy
    · exact absurd hy e
    · exact h.cls y z e hy.1 hy.2 hz hc
/-- how many are open -/
def cnt (op : Nat → Bool) : Nat := (List.range 6).countP op
theorem cnt_lt {op op' : Nat → Bool} {x : Nat} (hx : x < 6) (h1 : op x = true) (h2 : op' x = false) (hs : ∀ z, op' z = true → op z = true) : cnt op' < cnt op := by
  have key : ∀ l : List Nat, (x ∈ l → l.countP op' < l.countP op) ∧ l.countP op' ≤ l.countP op := fun l => by
    induction l with
    | nil => exact ⟨fun h => (by cases h), Nat.le_refl _⟩
    | cons a l ih =>
      have hle : (if op' a = true then 1 else 0) ≤ (if op a = true then 1 else 0) := by
        by_cases e : op' a = true
        · rw [if_pos e, if_pos (hs a e)]; exact Nat.le_refl _
        · rw [if_neg e]; exact Nat.zero_le _
      rw [List.countP_cons, List.countP_cons]
      refine ⟨fun hm => ?_, by omega⟩
      rcases List.mem_cons.1 hm with rfl | hm
      · rw [if_neg (by rw [h2]; decide), if_pos h1]; omega
      · have := ih.1 hm; omega
  exact (key (List.range 6)).1 (List.mem_range.2 hx)

/- ### the parts one after the other -/
open Classical in
/-- which letters a seam has -/
noncomputable def ltr (l : List UInt8) (z : Nat) : Bool := decide (∃ c ∈ l, lt c = z)
theorem ltr_iff {l : List UInt8} {z : Nat} : ltr l z = true ↔ ∃ c ∈ l, lt c = z := by unfold ltr; exact decide_eq_true_iff
open Classical in
/-- the part of a letter -/
noncomputable def prt (cm : Nat → Nat → Bool) (l : List UInt8) (x : Nat) : List UInt8 := l.filter fun c => decide (Rch cm (ltr l) x (lt c))
/-- what has been taken before x -/
def Dn (cm : Nat → Nat → Bool) (l : List UInt8) (x z : Nat) : Prop := ∃ y, y < x ∧ ltr l y = true ∧ Rch cm (ltr l) y z
open Classical in
/-- the parts before x -/
noncomputable def prts (cm : Nat → Nat → Bool) (l : List UInt8) : Nat → List (List UInt8)
  | 0 => []
  | x + 1 => if ltr l x = true ∧ ¬ Dn cm l x x then prts cm l x ++ [prt cm l x] else prts cm l x
theorem prts_new {l : List UInt8} {x : Nat} (h : ltr l x = true ∧ ¬ Dn cm l x x) : prts cm l (x + 1) = prts cm l x ++ [prt cm l x] := by
  unfold prts; rw [if_pos h]; cases x <;> rfl
theorem prts_old {l : List UInt8} {x : Nat} (h : ¬ (ltr l x = true ∧ ¬ Dn cm l x x)) : prts cm l (x + 1) = prts cm l x := by
  conv => lhs; unfold prts
  rw [if_neg h]
theorem prts_len {l : List UInt8} : ∀ x, (prts cm l x).length ≤ x
  | 0 => Nat.le_refl _
  | x + 1 => by
    have := prts_len (l := l) x
    by_cases h : ltr l x = true ∧ ¬ Dn cm l x x
    · rw [prts_new h]; simp; omega
    · rw [prts_old h]; omega
theorem prts_stop {l : List UInt8} {k : Nat} (hk : ∀ z, ltr l z = true → z < k) : ∀ n, prts cm l (k + n) = prts cm l k
  | 0 => rfl
  | n + 1 => by
    have : ¬ (ltr l (k + n) = true ∧ ¬ Dn cm l (k + n) (k + n)) := fun h => by have := hk _ h.1; omega
    rw [show k + (n + 1) = (k + n) + 1 by omega, prts_old this, prts_stop hk n]
theorem dn_step {l : List UInt8} {x z : Nat} : Dn cm l (x + 1) z ↔ Dn cm l x z ∨ (ltr l x = true ∧ Rch cm (ltr l) x z) := by
  constructor
  · rintro ⟨y, h1, h2, h3⟩
    by_cases e : y = x
    · subst e; exact .inr ⟨h2, h3⟩
    · exact .inl ⟨y, by omega, h2, h3⟩
  · rintro (⟨y, h1, h2, h3⟩ | ⟨h2, h3⟩)
    · exact ⟨y, by omega, h2, h3⟩
    · exact ⟨x, by omega, h2, h3⟩
theorem dn_old {l : List UInt8} {x z : Nat} (h : Dn cm l x x) (hz : Rch cm (ltr l) x z) : Dn cm l x z := by
  obtain ⟨y, h1, h2, h3⟩ := h
  exact ⟨y, h1, h2, h3.trans hz⟩
theorem dn_skip {l : List UInt8} {x z : Nat} (h : ¬ (ltr l x = true ∧ ¬ Dn cm l x x)) : Dn cm l (x + 1) z ↔ Dn cm l x z := by
  rw [dn_step]
  constructor
  · rintro (h1 | ⟨h1, h2⟩)
    · exact h1
    · exact dn_old (Classical.byContradiction fun h3 => h ⟨h1, h3⟩) h2
  · exact .inl
/-- the program's open letters -/
def Opn (cm : Nat → Nat → Bool) (l : List UInt8) (x : Nat) (cur : Nat → Bool) : Prop := ∀ z, cur z = true ↔ ltr l z = true ∧ ¬ Dn cm l x z
theorem Opn.rch {l : List UInt8} (hsym : ∀ a b, cm a b = cm b a) {x : Nat} {cur : Nat → Bool} (h : Opn cm l x cur) (hx : cur x = true) (z : Nat) : Rch cm cur x z ↔ Rch cm (ltr l) x z := by
  constructor
  · exact fun hr => hr.mono fun z hz => ((h z).1 hz).1
  · intro hr
    induction hr with
    | refl => exact .refl
    | step h0 h1 h2 ih =>
      rename_i y z
      have hy : cur y = true := ih.opn hx
      refine .step ih ((h z).2 ⟨h1, fun hd => ?_⟩) h2
      obtain ⟨q, q1, q2, q3⟩ := hd
      exact ((h y).1 hy).2 ⟨q, q1, q2, .step q3 ((h y).1 hy).1 (by rw [hsym]; exact h2)⟩
theorem Opn.skip {l : List UInt8} {x : Nat} {cur : Nat → Bool} (h : Opn cm l x cur) (hx : cur x = false) : Opn cm l (x + 1) cur ∧ prts cm l (x + 1) = prts cm l x := by
  have hn : ¬ (ltr l x = true ∧ ¬ Dn cm l x x) := fun e => by rw [(h x).2 e] at hx; cases hx
  exact ⟨fun z => by rw [h z, dn_skip hn], prts_old hn⟩
open Classical in
theorem Opn.next {l : List UInt8} (hsym : ∀ a b, cm a b = cm b a) {k x : Nat} {cur cur' : Nat → Bool} (h : Opn cm l x cur) (hx : cur x = true) (hk : ∀ z, ltr l z = true → z < k) (ht : Tk cm k cur x cur') :
    Opn cm l (x + 1) cur' ∧ prts cm l (x + 1) = prts cm l x ++ [prt cm l x] ∧ (l.filter fun c => cur (lt c) && !cur' (lt c)) = prt cm l x := by
  have hi := ht.iff (fun z hz => hk z ((h z).1 hz).1)
  have h0 := (h x).1 hx
  refine ⟨fun z => ?_, prts_new h0, ?_⟩
  · rw [hi z, h z, h.rch hsym hx, dn_step]
    constructor
    · rintro ⟨⟨h1, h2⟩, h3⟩
      exact ⟨h1, fun e => e.elim h2 fun e => h3 e.2⟩
    · rintro ⟨h1, h2⟩
      exact ⟨⟨h1, fun e => h2 (.inl e)⟩, fun e => h2 (.inr ⟨h0.1, e⟩)⟩
  · unfold prt
    refine List.filter_congr fun c hc => ?_
    rw [Bool.eq_iff_iff, Bool.and_eq_true, Bool.not_eq_true', decide_eq_true_eq, ← h.rch hsym hx]
    constructor
    · rintro ⟨h1, h2⟩
      exact ht.rch _ h1 h2
    · intro hr
      have h1 : cur (lt c) = true := hr.opn hx
      refine ⟨h1, ?_⟩
      cases e : cur' (lt c) with
      | false => rfl
      | true => exact absurd hr ((hi _).1 e).2
theorem opn_zero {l : List UInt8} : Opn cm l 0 (ltr l) := fun z => ⟨fun h => ⟨h, fun ⟨y, hy, _⟩ => absurd hy (Nat.not_lt_zero y)⟩, fun h => h.1⟩

/- ### the reference: letters are added to a part -/
/-- the state of a part of which the letters before i have been looked at -/
structure Bf (cm : Nat → Nat → Bool) (l : List UInt8) (x i : Nat) (p : List UInt8) : Prop where
  ok : OkL 6 p
  rch : ∀ c ∈ p, Rch cm (ltr l) x (lt c)
  opn : ∀ c ∈ p, ltr l (lt c) = true
  one : ltr p x = true
  len : p.length = cnt (ltr p)
  ile : i ≤ p.length
  cls : ∀ j c z, j < i → p[j]? = some c → ltr l z = true → cm (lt c) z = false → ltr p z = true
theorem cnt_le {op : Nat → Bool} : cnt op ≤ 6 := List.countP_le_length
theorem Bf.full {l : List UInt8} {x : Nat} {p : List UInt8} (h : Bf cm l x p.length p) (z : Nat) : ltr p z = true ↔ Rch cm (ltr l) x z := by
  constructor
  · intro hz
    obtain ⟨c, hc, rfl⟩ := ltr_iff.1 hz
    exact h.rch c hc
  · intro hr
    induction hr with
    | refl => exact h.one
    | step h0 h1 h2 ih =>
      obtain ⟨c, hc, e⟩ := ltr_iff.1 ih
      obtain ⟨j, hj, ej⟩ := List.getElem_of_mem hc
      exact h.cls j c _ hj (by rw [List.getElem?_eq_getElem hj, ej]) h1 (by rw [e]; exact h2)
theorem ltr_append {p q : List UInt8} {z : Nat} : ltr (p ++ q) z = true ↔ ltr p z = true ∨ ltr q z = true := by
  rw [ltr_iff, ltr_iff, ltr_iff]
  simp only [List.mem_append]
  constructor
  · rintro ⟨c, h | h, e⟩
    · exact .inl ⟨c, h, e⟩
    · exact .inr ⟨c, h, e⟩
  · rintro (⟨c, h, e⟩ | ⟨c, h, e⟩)
    · exact ⟨c, .inl h, e⟩
    · exact ⟨c, .inr h, e⟩
theorem ltr_one {c : UInt8} {z : Nat} : ltr [c] z = true ↔ lt c = z := by
  rw [ltr_iff]; simp
theorem cnt_add {op op' : Nat → Bool} {x : Nat} (hx : x < 6) (h1 : op x = false) (h2 : ∀ z, op' z = true ↔ op z = true ∨ z = x) : cnt op' = cnt op + 1 := by
  have key : ∀ n, (List.range n).countP op' = (List.range n).countP op + (if x < n then 1 else 0) := fun n => by
    induction n with
    | zero => rfl
    | succ n ih =>
      rw [List.range_succ, List.countP_append, List.countP_append, ih]
      simp only [List.countP_cons, List.countP_nil]
      by_cases e : n = x
      · subst e
        rw [if_neg (Nat.lt_irrefl n), if_pos ((h2 n).2 (.inr rfl)), if_neg (by rw [h1]; decide), if_pos (by omega)]
      · have e2 : op' n = op n := by
          rw [Bool.eq_iff_iff, h2]
          exact ⟨fun h => h.elim id fun h => absurd h e, .inl⟩
        rw [e2]
        by_cases e3 : x < n
        · simp only [if_pos e3, if_pos (show x < n + 1 by omega)]; omega
        · simp only [if_neg e3, if_neg (show ¬ x < n + 1 by omega)]; omega
  have := key 6
  rw [if_pos hx] at this
  exact this
theorem cnt_one {c : UInt8} (hc : lt c < 6) : cnt (ltr [c]) = 1 := by
  have := cnt_add (op := fun _ => false) (op' := ltr [c]) hc rfl fun z => by rw [ltr_one]; exact ⟨fun h => .inr h.symm, fun h => h.elim (fun h => (by cases h)) Eq.symm⟩
  rw [this]
  have h0 : cnt (fun _ => false) = 0 := by decide
  rw [h0]
theorem Bf.start {l : List UInt8} {c : UInt8} (h97 : 97 ≤ c.toNat) (hc : lt c < 6) (hl : ltr l (lt c) = true) : Bf cm l (lt c) 0 [c] := by
  refine ⟨fun d hd => ?_, fun d hd => ?_, fun d hd => ?_, ltr_one.2 rfl, (cnt_one hc).symm, Nat.zero_le _, fun j _ _ hj => absurd hj (Nat.not_lt_zero j)⟩
  · rw [List.mem_singleton.1 hd]; unfold lt at hc; omega
  · rw [List.mem_singleton.1 hd]; exact .refl
  · rw [List.mem_singleton.1 hd]; exact hl
theorem Bf.add {l : List UInt8} {x i : Nat} {p : List UInt8} {c d : UInt8} (h : Bf cm l x i p) (hi : p[i]? = some c) (h97 : 97 ≤ d.toNat) (hd : lt d < 6) (hl : ltr l (lt d) = true) (hp : ltr p (lt d) = false) (hc : cm (lt c) (lt d) = false) : Bf cm l x i (p ++ [d]) := by
  have hlt : i < p.length := (List.getElem?_eq_some_iff.1 hi).1
  have hcp := List.mem_of_getElem? hi
  refine ⟨fun e he => ?_, fun e he => ?_, fun e he => ?_, ltr_append.2 (.inl h.one), ?_, by simp; omega, fun j e z hj he hz hcz => ?_⟩
  · rcases List.mem_append.1 he with he | he
    · exact h.ok e he
    · rw [List.mem_singleton.1 he]; unfold lt at hd; omega
  · rcases List.mem_append.1 he with he | he
    · exact h.rch e he
    · rw [List.mem_singleton.1 he]; exact .step (h.rch c hcp) hl hc
  · rcases List.mem_append.1 he with he | he
    · exact h.opn e he
    · rw [List.mem_singleton.1 he]; exact hl
  · have h1 := h.len
    rw [List.length_append, h1, cnt_add (op := ltr p) (op' := ltr (p ++ [d])) hd hp fun z => by rw [ltr_append, ltr_one]; exact ⟨fun h => h.imp id Eq.symm, fun h => h.imp id Eq.symm⟩]
    rfl
  · rw [List.getElem?_append_left (by omega)] at he
    exact ltr_append.2 (.inl (h.cls j e z hj he hz hcz))
theorem Bf.next {l : List UInt8} {x i : Nat} {p : List UInt8} {c : UInt8} (h : Bf cm l x i p) (hi : p[i]? = some c) (hc : ∀ z, z < 6 → ltr l z = true → cm (lt c) z = false → ltr p z = true) (hl : ∀ z, ltr l z = true → z < 6) : Bf cm l x (i + 1) p := by
  have hlt : i < p.length := (List.getElem?_eq_some_iff.1 hi).1
  refine ⟨h.ok, h.rch, h.opn, h.one, h.len, hlt, fun j e z hj he hz hcz => ?_⟩
  by_cases hji : j = i
  · subst hji
    rw [hi] at he
    injection he with he
    subst he
    exact hc z (hl z hz) hz hcz
  · exact h.cls j e z (by omega) he hz hcz
open Classical in
theorem prt_full {l p : List UInt8} {x : Nat} (hl : OkL 6 l) (h : Bf cm l x p.length p) : (l.filter fun c => decide (c ∈ p)) = prt cm l x := by
  unfold prt
  refine List.filter_congr fun c hc => ?_
  rw [Bool.eq_iff_iff, decide_eq_true_eq, decide_eq_true_eq, ← h.full]
  rw [ltr_iff]
  constructor
  · exact fun hm => ⟨c, hm, rfl⟩
  · rintro ⟨d, hd, e⟩
    have h1 := hl c hc
    have h2 := h.ok d hd
    have : d = c := UInt8.toNat_inj.1 (by unfold lt at e; omega)
    rw [← this]; exact hd
end Go.Proofs.YtdfkblagcfgncaaGreatDoor.Ev

