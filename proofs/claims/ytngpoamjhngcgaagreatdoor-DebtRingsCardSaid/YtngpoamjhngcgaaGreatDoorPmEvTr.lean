/- Facts about the map of the evaluator, the relation between its values and the model's. -/
import Derived.Test.YtngpoamjhngcgaaGreatDoorPmEvDefs
namespace Go.Proofs.YtngpoamjhngcgaaGreatDoor.Ev
open Go
namespace Tr
variable {α : Type}

theorem force_eq {β : Type} (t : Tr α) (k : Tr α → β) : t.force k = k t := by cases t <;> rfl

theorem get_e (k : Nat) : (Tr.e : Tr α).get k = none := rfl

theorem get_n0 (l r : Tr α) (v : Option α) : (Tr.n l v r).get 0 = v := rfl
theorem get_nS (l r : Tr α) (v : Option α) (k : Nat) : (Tr.n l v r).get (k + 1) = if k % 2 = 0 then l.get (k / 2) else r.get (k / 2) := by
  have h : (Tr.n l v r).get (k + 1) = Bool.casesOn (motive := fun _ => Option α) (Nat.beq (k % 2) 0) (r.get (k / 2)) (l.get (k / 2)) := rfl
  rw [h]
  by_cases hk : k % 2 = 0
  · have : Nat.beq (k % 2) 0 = true := by rw [hk]; rfl
    rw [this, if_pos hk]
  · have : Nat.beq (k % 2) 0 = false := by
      have h1 : k % 2 = 1 := by omega
      rw [h1]; rfl
    rw [this, if_neg hk]

theorem set_zero (f : Nat) (t : Tr α) (a : α) : set (f + 1) t 0 a = .n (t.parts.1) (some a) (t.parts.2.2) := by cases t <;> rfl
theorem set_succ (f : Nat) (t : Tr α) (k : Nat) (a : α) : set (f + 1) t (k + 1) a =
    if k % 2 = 0 then .n (set f t.parts.1 (k / 2) a) t.parts.2.1 t.parts.2.2 else .n t.parts.1 t.parts.2.1 (set f t.parts.2.2 (k / 2) a) := by
  by_cases hk : k % 2 = 0
  · have hb : Nat.beq (k % 2) 0 = true := by rw [hk]; rfl
    rw [if_pos hk]
    cases t with
    | e =>
      show Bool.casesOn (motive := fun _ => Tr α) (Nat.beq (k % 2) 0) _ ((set f .e (k / 2) a).force fun l' => .n l' none .e) = _
      rw [hb]; exact force_eq _ _
    | n l v r =>
      show Bool.casesOn (motive := fun _ => Tr α) (Nat.beq (k % 2) 0) _ ((set f l (k / 2) a).force fun l' => .n l' v r) = _
      rw [hb]; exact force_eq _ _
  · have hb : Nat.beq (k % 2) 0 = false := by
      have h1 : k % 2 = 1 := by omega
      rw [h1]; rfl
    rw [if_neg hk]
    cases t with
    | e =>
      show Bool.casesOn (motive := fun _ => Tr α) (Nat.beq (k % 2) 0) ((set f .e (k / 2) a).force fun r' => .n .e none r') _ = _
      rw [hb]; exact force_eq _ _
    | n l v r =>
      show Bool.casesOn (motive := fun _ => Tr α) (Nat.beq (k % 2) 0) ((set f r (k / 2) a).force fun r' => .n l v r') _ = _
      rw [hb]; exact force_eq _ _

theorem get_parts (t : Tr α) (k : Nat) : t.get k = match k with
    | 0 => t.parts.2.1
    | k' + 1 => if k' % 2 = 0 then t.parts.1.get (k' / 2) else t.parts.2.2.get (k' / 2) := by
  cases t with
  | e => cases k <;> simp [parts, get_e]
  | n l v r =>
    cases k with
    | zero => rfl
    | succ k => rw [get_nS]; rfl

theorem get_set (f : Nat) : ∀ (t : Tr α) (k k' : Nat) (a : α), k + 1 < 2 ^ f → (set f t k a).get k' = if k' = k then some a else t.get k' := by
  induction f with
  | zero => intro t k k' a h; omega
  | succ f ih =>
    intro t k k' a h
    cases k with
    | zero =>
      rw [set_zero, get_parts t k']
      cases k' with
      | zero => simp [get_n0]
      | succ k' => simp [get_nS]
    | succ k =>
      have hk : k / 2 + 1 < 2 ^ f := by have : 2 ^ (f + 1) = 2 * 2 ^ f := by rw [Nat.pow_succ]; omega
                                        omega
      rw [set_succ, get_parts t k']
      by_cases h2 : k % 2 = 0
      · rw [if_pos h2]
        cases k' with
        | zero => simp [get_n0]
        | succ k' =>
          rw [get_nS]
          by_cases h3 : k' % 2 = 0
          · simp only [h3, if_true]
            rw [ih _ _ _ _ hk]
            by_cases h4 : k' = k
            · subst h4; simp
            · have h5 : k' / 2 ≠ k / 2 := by omega
              rw [if_neg h5, if_neg (by omega)]
          · have h4 : ¬ k' + 1 = k + 1 := by omega
            rw [if_neg h3, if_neg h4]
            simp only [h3, if_false]
      · rw [if_neg h2]
        cases k' with
        | zero => simp [get_n0]
        | succ k' =>
          rw [get_nS]
          by_cases h3 : k' % 2 = 0
          · have h4 : ¬ k' + 1 = k + 1 := by omega
            rw [if_pos h3, if_neg h4]
            simp only [h3, if_true]
          · rw [if_neg h3, ih _ _ _ _ hk]
            simp only [h3, if_false]
            by_cases h4 : k' = k
            · subst h4; simp
            · have h5 : k' / 2 ≠ k / 2 := by omega
              rw [if_neg h5, if_neg (by omega)]

theorem get_put (t : Tr α) (k k' : Nat) (a : α) : (put t k a).get k' = if k' = k then some a else t.get k' := get_set _ _ _ _ _ Nat.lt_two_pow_self

theorem ofListFrom_get : ∀ (l : List α) (i : Nat) (t : Tr α) (k : Nat), (ofListFrom l i t).get k = if i ≤ k ∧ k < i + l.length then l[k - i]? else t.get k := by
  intro l
  induction l with
  | nil => intro i t k; simp [ofListFrom]; omega
  | cons a r ih =>
    intro i t k
    simp only [ofListFrom, force_eq]
    rw [ih, get_put]
    simp only [List.length_cons]
    by_cases h1 : k = i
    · subst h1
      rw [if_neg (by omega), if_pos rfl, if_pos (by omega)]
      simp
    · by_cases h2 : i + 1 ≤ k ∧ k < i + 1 + r.length
      · rw [if_pos h2, if_pos (by omega)]
        have : k - i = (k - (i + 1)) + 1 := by omega
        rw [this, List.getElem?_cons_succ]
      · rw [if_neg h2, if_neg h1, if_neg (by omega)]

theorem ofList_get (l : List α) (k : Nat) : (ofList l).get k = l[k]? := by
  unfold ofList
  rw [ofListFrom_get]
  by_cases h1 : k < l.length
  · rw [if_pos (by omega)]; rfl
  · rw [if_neg (by omega), get_e, List.getElem?_eq_none (by omega)]
end Tr

theorem forceN_eq {β : Type} (n : Nat) (k : Nat → β) : forceN n k = k n := by cases n <;> rfl
theorem forceI_eq {β : Type} (n : Int) (k : Int → β) : forceI n k = k n := by cases n <;> simp [forceI, forceN_eq]
theorem forceB_eq {β : Type} (n : Bool) (k : Bool → β) : forceB n k = k n := by cases n <;> rfl
theorem forceV_eq {β : Type} (v : Value) (k : Value → β) : forceV v k = k v := by
  unfold forceV
  split <;> simp [forceN_eq, forceI_eq, forceB_eq]

abbrev Phi := Nat → Option (Nat × Nat × Nat × Nat)

inductive VR (φ : Phi) : Value → Value → Prop
  | bool (b : Bool) : VR φ (.bool b) (.bool b)
  | int (k : IntKind) (n : Int) : VR φ (.int k n) (.int k n)
  | float (k : FloatKind) (n : Nat) : VR φ (.float k n) (.float k n)
  | complex (k : FloatKind) (x y : Nat) : VR φ (.complex k x y) (.complex k x y)
  | string (s : ByteArray) : VR φ (.string s) (.string s)
  | nilp : VR φ (.pointer none) (.pointer none)
  | ptr {b off c sh es top : Nat} (h : φ b = some (c, sh, es, top)) : VR φ (.pointer (some ⟨b, off, none⟩)) (.pointer (some ⟨c, sh + off, none⟩))
  | nils : VR φ (.slice none 0 0) (.slice none 0 0)
  | emp {b off s : Nat} {A : Addr} : VR φ (.slice (some ⟨b, off, some s⟩) 0 0) (.slice (some A) 0 0)
  | slc {b off n m c sh es top m' : Nat} {A : Addr} (h : φ b = some (c, sh, es, top)) (hn : n ≤ m') (hm : m ≤ m') (ht : sh + off + m' * es ≤ top) (hA : A = ⟨c, sh + off, none⟩ ∨ m' = 0) :
      VR φ (.slice (some ⟨b, off, none⟩) n m) (.slice (some A) n m')
  | map : VR φ (.map none) (.map none)
  | mapr {b c sh es top : Nat} (h : φ b = some (c, sh, es, top)) : VR φ (.map (some b)) (.map (some c))
  | chan : VR φ (.chan none) (.chan none)
  | nilFunc : VR φ .nilFunc .nilFunc
  | nilIface : VR φ .nilIface .nilIface
  | func (fn : Fn) {f f' c c' : Array Value} (h1 : f.size = f'.size) (h2 : c.size = c'.size) (h3 : ∀ (i : Nat) (h : i < f.size) (h' : i < f'.size), VR φ f[i] f'[i])
      (h4 : ∀ (i : Nat) (h : i < c.size) (h' : i < c'.size), VR φ c[i] c'[i]) : VR φ (.func fn f c) (.func fn f' c')
  | iface (t : TypeId) {v v' : Value} (h : VR φ v v') : VR φ (.iface t v) (.iface t v')
  | agg {c c' : Array Value} (h2 : c.size = c'.size) (h4 : ∀ (i : Nat) (h : i < c.size) (h' : i < c'.size), VR φ c[i] c'[i]) : VR φ (.agg c) (.agg c')
  | tuple {c c' : Array Value} (h2 : c.size = c'.size) (h4 : ∀ (i : Nat) (h : i < c.size) (h' : i < c'.size), VR φ c[i] c'[i]) : VR φ (.tuple c) (.tuple c')

theorem VR.mono {φ φ' : Phi} (hl : ∀ b x, φ b = some x → φ' b = some x) {v v' : Value} (h : VR φ v v') : VR φ' v v' := by
  induction h with
  | ptr h => exact .ptr (hl _ _ h)
  | mapr h => exact .mapr (hl _ _ h)
  | slc h hn hm ht hA => exact .slc (hl _ _ h) hn hm ht hA
  | func fn h1 h2 _ _ ih1 ih2 => exact .func fn h1 h2 ih1 ih2
  | iface t _ ih => exact .iface t ih
  | agg h2 _ ih => exact .agg h2 ih
  | tuple h2 _ ih => exact .tuple h2 ih
  | _ => constructor

theorem VR.undef {φ : Phi} : VR φ undef undef := .tuple rfl (fun i h => by simp at h)
theorem VR.plain {φ : Phi} {v v' : Value} (h : VR φ v v') (hp : plain v = true) : v' = v := by cases h <;> first | rfl | simp [Ev.plain] at hp

theorem VR.plainA {φ : Phi} {v v' : Value} (h : VR φ v v') (hp : Ev.plainA v = true) : v' = v := by
  cases h with
  | agg h2 h4 =>
    rename_i c c'
    simp only [Ev.plainA] at hp
    congr 1
    apply Array.ext
    · exact h2.symm
    · intro i h1 h3
      exact (h4 i h3 h1).plain (List.all_eq_true.1 hp _ (Array.getElem_mem_toList h3))
  | bool b => rfl
  | int k n => rfl
  | float k n => rfl
  | string s => rfl
  | _ => simp [Ev.plainA, Ev.plain] at hp

theorem VR.flat1 {φ : Phi} {v : Value} (h : flat1 v = true) : VR φ v v := by
  cases v with
  | pointer a => cases a <;> first | exact .nilp | simp [Ev.flat1] at h
  | slice a n c =>
    cases a with
    | none =>
      cases n <;> cases c <;> first | exact .nils | simp [Ev.flat1] at h
    | some _ => simp [Ev.flat1] at h
  | map r => cases r <;> first | exact .map | simp [Ev.flat1] at h
  | chan r => cases r <;> first | exact .chan | simp [Ev.flat1] at h
  | bool b => exact .bool b
  | int k n => exact .int k n
  | float k n => exact .float k n
  | complex k x y => exact .complex k x y
  | string s => exact .string s
  | nilFunc => exact .nilFunc
  | nilIface => exact .nilIface
  | _ => simp [Ev.flat1] at h

theorem VR.const {φ : Phi} {v : Value} (h : okConst v = true) : VR φ v v := by
  cases v with
  | agg cs =>
    simp only [okConst] at h
    refine .agg rfl (fun i h1 h2 => VR.flat1 ?_)
    exact (List.all_eq_true.1 h) _ (Array.getElem_mem_toList h1)
  | _ => exact VR.flat1 h

/-- lists, place by place -/
inductive VRs (φ : Phi) : List Value → List Value → Prop
  | nil : VRs φ [] []
  | cons {v v' : Value} {l l' : List Value} (h : VR φ v v') (t : VRs φ l l') : VRs φ (v :: l) (v' :: l')

theorem VRs.mono {φ φ' : Phi} (hl : ∀ b x, φ b = some x → φ' b = some x) {v v' : List Value} (h : VRs φ v v') : VRs φ' v v' := by
  induction h with
  | nil => exact .nil
  | cons h _ ih => exact .cons (h.mono hl) ih
theorem VRs.length {φ : Phi} {l l' : List Value} (h : VRs φ l l') : l.length = l'.length := by
  induction h with
  | nil => rfl
  | cons _ _ ih => simp [ih]
theorem VRs.append {φ : Phi} {l l' m m' : List Value} (h : VRs φ l l') (k : VRs φ m m') : VRs φ (l ++ m) (l' ++ m') := by
  induction h with
  | nil => exact k
  | cons h _ ih => exact .cons h ih
theorem VRs.get {φ : Phi} {l l' : List Value} (h : VRs φ l l') : ∀ (i : Nat) (v : Value), l[i]? = some v → ∃ v', l'[i]? = some v' ∧ VR φ v v' := by
  induction h with
  | nil => intro i v h; simp at h
  | cons h _ ih =>
    intro i v hv
    cases i with
    | zero => simp at hv; subst hv; exact ⟨_, by simp, h⟩
    | succ i => simp at hv; simpa using ih i v hv
theorem VRs.of_get {φ : Phi} : ∀ {l l' : List Value}, l.length = l'.length → (∀ (i : Nat) (h : i < l.length) (h' : i < l'.length), VR φ l[i] l'[i]) → VRs φ l l'
  | [], [], _, _ => .nil
  | [], _ :: _, h, _ => by simp at h
  | _ :: _, [], h, _ => by simp at h
  | v :: l, v' :: l', h, k => .cons (k 0 (by simp) (by simp)) (VRs.of_get (by simpa using h) fun i h1 h2 => by
      have := k (i + 1) (by simpa using h1) (by simpa using h2)
      simpa using this)
theorem VRs.at_ {φ : Phi} {l l' : List Value} (h : VRs φ l l') (i : Nat) (h1 : i < l.length) (h2 : i < l'.length) : VR φ l[i] l'[i] := by
  obtain ⟨v', hv, hr⟩ := h.get i _ (List.getElem?_eq_getElem h1)
  rw [List.getElem?_eq_getElem h2] at hv
  injection hv with hv
  subst hv
  exact hr
theorem VRs.arr {φ : Phi} {l l' : List Value} (h : VRs φ l l') : (l.toArray.size = l'.toArray.size) ∧ ∀ (i : Nat) (h : i < l.toArray.size) (h' : i < l'.toArray.size), VR φ l.toArray[i] l'.toArray[i] :=
  ⟨by simpa using h.length, fun i h1 h2 => by simpa using h.at_ i (by simpa using h1) (by simpa using h2)⟩
theorem VRs.of_arr {φ : Phi} {c c' : Array Value} (h2 : c.size = c'.size) (h4 : ∀ (i : Nat) (h : i < c.size) (h' : i < c'.size), VR φ c[i] c'[i]) : VRs φ c.toList c'.toList :=
  VRs.of_get (by simpa using h2) fun i h1 h2 => by simpa using h4 i (by simpa using h1) (by simpa using h2)

theorem VR.cells {φ : Phi} {v v' : Value} (h : VR φ v v') : VRs φ v.cells.toList v'.cells.toList := by
  have one : ∀ {x y : Value}, VR φ x y → VRs φ [x] [y] := fun h => .cons h .nil
  cases h with
  | agg h2 h4 => exact VRs.of_arr h2 h4
  | bool b => exact one (.bool b)
  | int k n => exact one (.int k n)
  | float k n => exact one (.float k n)
  | complex k x y => exact one (.complex k x y)
  | string s => exact one (.string s)
  | nilp => exact one .nilp
  | ptr h => exact one (.ptr h)
  | nils => exact one .nils
  | emp => exact one .emp
  | slc h hn hm ht hA => exact one (.slc h hn hm ht hA)
  | map => exact one .map
  | mapr h => exact one (.mapr h)
  | chan => exact one .chan
  | nilFunc => exact one .nilFunc
  | nilIface => exact one .nilIface
  | func fn h1 h2 h3 h4 => exact one (.func fn h1 h2 h3 h4)
  | iface t h => exact one (.iface t h)
  | tuple h2 h4 => exact one (.tuple h2 h4)

theorem VRs.flat {φ : Phi} : ∀ {l : List Value}, l.all Ev.flat1 = true → VRs φ l l
  | [], _ => .nil
  | v :: l, h => by
    simp only [List.all_cons, Bool.and_eq_true] at h
    exact .cons (VR.flat1 h.1) (VRs.flat h.2)
end Go.Proofs.YtngpoamjhngcgaaGreatDoor.Ev

