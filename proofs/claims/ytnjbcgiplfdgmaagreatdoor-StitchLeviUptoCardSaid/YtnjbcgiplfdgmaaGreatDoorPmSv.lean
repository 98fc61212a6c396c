/- Symbolic runs: slices, append, store. -/
import Derived.Test.YtnjbcgiplfdgmaaGreatDoorPmSw
namespace Go.Proofs.YtnjbcgiplfdgmaaGreatDoor.Ev
open Go
variable {P : Program} {E : Env}
noncomputable section

def blkOf : Value → Option Nat
  | .slice (some ⟨b, _, none⟩) _ _ => some b
  | _ => none
/-- a slice without elements that is not nil -/
def empV : Value := .slice (some ⟨0, 0, some 0⟩) 0 0

/-- a slice: n elements of sz cells each, the cells are L; its block lies from lo on, below hi -/
inductive SlV (B : Tr Blk) (lo hi sz n : Nat) (L : List Value) : Value → Prop
  | nil (hn : n = 0) (hL : L = []) : SlV B lo hi sz n L (.slice none 0 0)
  | emp (hn : n = 0) (hL : L = []) : SlV B lo hi sz n L (.slice (some ⟨0, 0, some 0⟩) 0 0)
  | mk {b off c size : Nat} {cells : Tr Value} (hb : B.get b = some (.mk cells size sz)) (hlo : lo ≤ b) (hhi : b < hi) (hsz : off + n * sz ≤ size) (hL : L.length = n * sz) (hc : ∀ i, i < n * sz → cells.get (off + i) = L[i]?) :
      SlV B lo hi sz n L (.slice (some ⟨b, off, none⟩) n c)

section
variable {B B' : Tr Blk} {lo hi sz n : Nat} {L : List Value} {v : Value}
theorem SlV.len (s : SlV B lo hi sz n L v) : L.length = n * sz := by
  cases s with
  | nil hn hL => subst hn; subst hL; simp
  | emp hn hL => subst hn; subst hL; simp
  | mk _ _ _ _ hL _ => exact hL
theorem SlV.shape (s : SlV B lo hi sz n L v) : ∃ A c, v = .slice A n c := by
  cases s with
  | nil hn hL => subst hn; exact ⟨none, 0, rfl⟩
  | emp hn hL => subst hn; exact ⟨some ⟨0, 0, some 0⟩, 0, rfl⟩
  | mk _ _ _ _ hL _ => exact ⟨_, _, rfl⟩
theorem SlV.mono (s : SlV B lo hi sz n L v) (hB : ∀ b, lo ≤ b → b < hi → B'.get b = B.get b) : SlV B' lo hi sz n L v := by
  cases s with
  | nil hn hL => exact .nil hn hL
  | emp hn hL => exact .emp hn hL
  | mk hb hlo hhi hsz hL hc => exact .mk ((hB _ hlo hhi).trans hb) hlo hhi hsz hL hc
theorem SlV.wide (s : SlV B lo hi sz n L v) {lo' hi' : Nat} (h1 : lo' ≤ lo) (h2 : hi ≤ hi') : SlV B lo' hi' sz n L v := by
  cases s with
  | nil hn hL => exact .nil hn hL
  | emp hn hL => exact .emp hn hL
  | mk hb hlo hhi hsz hL hc => exact .mk hb (Nat.le_trans h1 hlo) (Nat.lt_of_lt_of_le hhi h2) hsz hL hc
theorem SlV.at_ {A : Option Addr} {c : Nat} (s : SlV B lo hi sz n L (.slice A n c)) (h0 : 0 < n) : ∃ b off, A = some ⟨b, off, none⟩ ∧ lo ≤ b ∧ b < hi ∧ ∀ i, i < n * sz → loadv B b (off + i) = L[i]? := by
  cases s with
  | nil hn hL => omega
  | emp hn hL => omega
  | mk hb hlo hhi hsz hL hc =>
    refine ⟨_, _, rfl, hlo, hhi, fun i hi => ?_⟩
    simp only [loadv, hb]
    rw [if_pos (by omega)]
    exact hc i hi
end

theorem getCells_of : ∀ (n i : Nat) (t : Tr Value) (L : List Value), L.length = n → (∀ j, j < n → t.get (i + j) = L[j]?) → getCells t i n = some L
  | 0, i, t, L, hl, _ => by
    have : L = [] := List.eq_nil_of_length_eq_zero hl
    subst this; rfl
  | n + 1, i, t, [], hl, _ => by simp at hl
  | n + 1, i, t, v :: L, hl, hc => by
    have h0 := hc 0 (by omega)
    have ih := getCells_of n (i + 1) t L (by simpa using hl) (fun j hj => by
      have := hc (j + 1) (by omega)
      rw [show i + 1 + j = i + (j + 1) by omega, this]; simp)
    simp only [Nat.add_zero, List.getElem?_cons_zero] at h0
    simp only [getCells, h0, ih]

theorem setCells_get : ∀ (vs : List Value) (t : Tr Value) (i k : Nat), (setCells t i vs).get k = if i ≤ k ∧ k < i + vs.length then vs[k - i]? else t.get k
  | [], t, i, k => by simp [setCells]; omega
  | v :: vs, t, i, k => by
    simp only [setCells, Tr.force_eq]
    rw [setCells_get, Tr.get_put]
    simp only [List.length_cons]
    by_cases h1 : k = i
    · subst h1
      rw [if_neg (by omega), if_pos rfl, if_pos (by omega)]
      simp
    · by_cases h2 : i + 1 ≤ k ∧ k < i + 1 + vs.length
      · rw [if_pos h2, if_pos (by omega)]
        have : k - i = (k - (i + 1)) + 1 := by omega
        rw [this, List.getElem?_cons_succ]
      · rw [if_neg h2, if_neg h1, if_neg (by omega)]

/-- what append does -/
structure App (h h' : H) (ob : Option Nat) (cells : List Value) (es : Nat) : Prop where
  next : h'.next = h.next + 1
  wm : ∀ m, (∀ b, ob = some b → m ≤ b) → min h.wm m ≤ h'.wm
  get : ∀ b, h'.blks.get b = if b = h.next then some (.mk (Tr.ofList cells) cells.length es) else if ob = some b then some .dead else h.blks.get b
theorem App.pres {h h' : H} {ob : Option Nat} {cells : List Value} {es m : Nat} (a : App h h' ob cells es) (hm : m ≤ h.next) (hb : ∀ b, ob = some b → m ≤ b) : Pres m h h' :=
  ⟨by have := a.next; omega, a.wm m hb, fun x hx => by
    rw [a.get, if_neg (by omega)]
    split
    · rename_i hob
      have := hb x hob
      omega
    · rfl⟩
theorem App.slv {h h' : H} {ob : Option Nat} {cells : List Value} {es n c : Nat} (a : App h h' ob cells es) (hl : cells.length = n * es) : SlV h'.blks h.next h'.next es n cells (.slice (some ⟨h.next, 0, none⟩) n c) := by
  refine .mk (by rw [a.get, if_pos rfl]) (Nat.le_refl _) (by have := a.next; omega) (by omega) hl fun i hi => ?_
  rw [Tr.ofList_get, Nat.zero_add]
theorem New.slv {h h' : H} {cells : List Value} {es n c : Nat} (a : New h h' cells es) (hl : cells.length = n * es) : SlV h'.blks h.next h'.next es n cells (.slice (some ⟨h.next, 0, none⟩) n c) := by
  refine .mk (by rw [a.get, if_pos rfl]) (Nat.le_refl _) (by have := a.next; omega) (by omega) hl fun i hi => ?_
  rw [Tr.ofList_get, Nat.zero_add]

/-- what a write does -/
structure Sto (h h' : H) (b off : Nat) (vs : List Value) : Prop where
  next : h'.next = h.next
  wm : min h.wm b ≤ h'.wm
  get : ∀ b', b' ≠ b → h'.blks.get b' = h.blks.get b'
  at_ : ∀ cells size es, h.blks.get b = some (.mk cells size es) → h'.blks.get b = some (.mk (setCells cells off vs) size es)
theorem Sto.pres {h h' : H} {b off m : Nat} {vs : List Value} (a : Sto h h' b off vs) (hm : m ≤ b) : Pres m h h' :=
  ⟨by rw [a.next]; exact Nat.le_refl _, by have := a.wm; omega, fun x hx => a.get x (by omega)⟩
/-- the slice that was written to -/
theorem Sto.slv {h h' : H} {b off j sz n lo hi c : Nat} {vs L : List Value} (a : Sto h h' b (off + j) vs) (s : SlV h.blks lo hi sz n L (.slice (some ⟨b, off, none⟩) n c)) (hj : j + vs.length ≤ n * sz) :
    SlV h'.blks lo hi sz n (L.take j ++ vs ++ L.drop (j + vs.length)) (.slice (some ⟨b, off, none⟩) n c) := by
  cases s with
  | mk hb hlo hhi hsz hL hc =>
    refine .mk (a.at_ _ _ _ hb) hlo hhi hsz (by simp; omega) fun i hi => ?_
    rw [setCells_get]
    have hlt : (L.take j ++ vs).length = j + vs.length := by simp; omega
    by_cases h1 : off + j ≤ off + i ∧ off + i < off + j + vs.length
    · rw [if_pos h1, List.getElem?_append_left (by omega), List.getElem?_append_right (by simp; omega)]
      congr 1
      simp; omega
    · rw [if_neg h1, hc i hi]
      by_cases h2 : i < j
      · rw [List.getElem?_append_left (by omega), List.getElem?_append_left (by simp; omega), List.getElem?_take, if_pos h2]
      · rw [List.getElem?_append_right (by omega), List.getElem?_drop, hlt]
        congr 1
        omega

/-- a loop: j rounds at most are still to come -/
theorem WK_loopN {n : Nat} {b : Code} {k : List Frm} {R : Rt} (I : Nat → Tr Value → H → Prop) (N : Nat) {α : Tr Value} {h : H} (h0 : I N α h) (hN : N < 4611686018427387904)
    (step : ∀ (J : Tr Value → H → Prop) j α1 h1, I j α1 h1 → (∀ j' α2 h2, j' < j → I j' α2 h2 → J α2 h2) → WK P E n b (.inv J :: k) α1 h1 R) : WK P E n (.loop b) k α h R := by
  have key : ∀ j α h, I j α h → ∃ F e α' h', evLoop (run P E F) n b (j + 1) α h = some (e, α', h') ∧ cont P E n k e α' h' R := by
    intro j
    induction j using Nat.strongRecOn with
    | _ j ih =>
      intro α h hI
      obtain ⟨F, e, α', h', h1, h2⟩ := step (fun α2 h2 => ∃ j', j' < j ∧ I j' α2 h2) j α h hI fun j' α2 h2 hlt hI' => ⟨j', hlt, hI'⟩
      cases e with
      | normal =>
        obtain ⟨j', hlt, hI'⟩ := h2
        obtain ⟨F2, e2, α2, h2', h3, h4⟩ := ih j' hlt α' h' hI'
        refine ⟨max F F2, e2, α2, h2', ?_, h4⟩
        rw [evLoop, run_mono (Nat.le_max_left F F2) _ _ _ _ _ h1]
        exact evLoop_le (by omega) (evLoop_mono (run_mono (Nat.le_max_right F F2)) h3)
      | exit id => exact ⟨F, _, _, _, by rw [evLoop, h1], h2⟩
      | ret => exact ⟨F, _, _, _, by rw [evLoop, h1], h2⟩
  obtain ⟨F, e, α', h', h1, h2⟩ := key N α h h0
  exact ⟨F + 1, e, α', h', evLoop_le (by omega) h1, h2⟩

section
variable {n : Nat} {ops : List Oper} {q : Bool} {r tl : List Oper} {k : List Frm} {α : Tr Value} {h : H} {R : Rt} {d : Nat} {ty : TypeId} {pos : String} {af : Array Edge}

theorem Guard_dec {o : Oper} {p : Prop} [Decidable p] {want : Bool} (h1 : p → GuardO P E n ops q o r tl k α h R want (some (.bool true))) (h2 : ¬ p → GuardO P E n ops q o r tl k α h R want (some (.bool false))) : GuardO P E n ops q o r tl k α h R want (some (.bool (decide p))) := by
  by_cases hp : p
  · rw [decide_yes hp]; exact h1 hp
  · rw [decide_no hp]; exact h2 hp
theorem Guard_bool {o : Oper} {p : Bool} {want : Bool} (h1 : p = true → GuardO P E n ops q o r tl k α h R want (some (.bool true))) (h2 : p = false → GuardO P E n ops q o r tl k α h R want (some (.bool false))) : GuardO P E n ops q o r tl k α h R want (some (.bool p)) := by
  cases p
  · exact h2 rfl
  · exact h1 rfl

theorem srcCells_of {lo hi sz m : Nat} {M : List Value} {v : Value} (s : SlV h.blks lo hi sz m M v) (hm : 0 < m) : srcLen v = some m ∧ srcCells h sz m v = some M := by
  cases s with
  | nil hn hL => omega
  | emp hn hL => omega
  | mk hb hlo hhi hsz hL hc =>
    refine ⟨rfl, ?_⟩
    simp only [srcCells, rd, hb]
    rw [if_pos hsz]
    exact getCells_of _ _ _ _ hL hc

theorem notInt_slice {e : TypeId} : notInt (.slice e) = true := rfl

theorem At_append {x y : Operand} {ts tx elem elem' : TypeId} {inf : TypeInfo} {z : Value} {lo hi lo2 hi2 sl m sc : Nat} {L M : List Value} {A : Option Addr} {v : Value} (hu : E.u ts = some (.slice elem)) (hux : E.u tx = some (.slice elem')) (hi' : E.i elem = some inf) (hz : inf.zero = some z)
    (hc : (okConst z && decide (z.cells.size = inf.size) && decide (0 < inf.size) && decide (inf.bytes < 65536)) = true) (hx : ev E h α x = some (.slice A sl sc)) (hs : SlV h.blks lo hi inf.size sl L (.slice A sl sc)) (hcap : sc < sl + m) (hG : E.G ≤ lo) (hy : ev E h α y = some v) (hv : SlV h.blks lo2 hi2 inf.size m M v)
    (hm : 0 < m) (hsm : sl + m < 2147483648) (hone : M.all oneB = true) (hd : d < n)
    (hk : ∀ h', App h h' (blkOf (.slice A sl sc)) (L ++ M) inf.size → At P E n ops false r tl k (Tr.put α d (.slice (some ⟨h.next, 0, none⟩) (sl + m) (sl + m))) h' R) :
    At P E n ops false (⟨some d, .call ⟨.builtin .append, #[x, y], #[ts, tx]⟩, ty, pos, af, none⟩ :: r) tl k α h R := by
  rw [At_heap rfl rfl]
  obtain ⟨e1, e2⟩ := srcCells_of hv hm
  simp only [Bool.and_eq_true, decide_eq_true_eq] at hc
  obtain ⟨⟨⟨c1, c2⟩, c3⟩, c4⟩ := hc
  have hcond : (okConst z && decide (z.cells.size = inf.size) && decide (0 < inf.size) && decide (inf.bytes < 65536) && decide (sl + m < 2147483648) && M.all oneB && decide (M.length = m * inf.size)) = true := by
    simp only [Bool.and_eq_true, decide_eq_true_eq]
    exact ⟨⟨⟨⟨⟨⟨c1, c2⟩, c3⟩, c4⟩, hsm⟩, hone⟩, hv.len⟩
  have hm0 : ¬ m = 0 := by omega
  have key : ∃ h', evAppend E h ts tx (.slice A sl sc) v = some (.slice (some ⟨h.next, 0, none⟩) (sl + m) (sl + m), h') ∧ App h h' (blkOf (.slice A sl sc)) (L ++ M) inf.size := by
    cases hs with
    | nil hn hL =>
      subst hL
      obtain ⟨h', h1, h2⟩ := aNew_mk h M inf.size
      refine ⟨h', ?_, ?_⟩
      · simp only [evAppend, hu, hux, e1, notInt_slice, hi', hm0, hz, e2, h1, forceN_eq]
        rw [if_pos hcond]
        simp
      · exact ⟨h2.next, fun mm _ => by have := h2.wm; omega, fun b => by
          rw [h2.get]
          simp [blkOf]⟩
    | emp hn hL =>
      subst hL
      obtain ⟨h', h1, h2⟩ := aNew_mk h M inf.size
      refine ⟨h', ?_, ?_⟩
      · simp only [evAppend, hu, hux, e1, notInt_slice, hi', hm0, hz, e2, h1, forceN_eq]
        rw [if_pos hcond]
        simp
      · exact ⟨h2.next, fun mm _ => by have := h2.wm; omega, fun b => by
          rw [h2.get]
          simp [blkOf]⟩
    | mk hb hlo hhi hsz hL hcl =>
      rename_i b off size cells
      have hroom : ¬ sl + m ≤ sc := by omega
      have hrd : rd h b off (sl * inf.size) = some L := by
        simp only [rd, hb]
        rw [if_pos hsz]
        exact getCells_of _ _ _ _ hL hcl
      have hkill : kill E h b = some { blks := Tr.put h.blks b .dead, next := h.next, wm := min h.wm b } := by
        simp only [kill, hb, Tr.force_eq, forceN_eq]
        rw [if_pos (by omega)]
      obtain ⟨h', h1, h2⟩ := aNew_mk { blks := Tr.put h.blks b .dead, next := h.next, wm := min h.wm b } (L ++ M) inf.size
      refine ⟨h', ?_, ?_⟩
      · simp only [evAppend, hu, hux, e1, notInt_slice, hi', hm0, hz, e2, hb, if_true, hroom, if_false, hrd, hkill, h1, forceN_eq]
        rw [if_pos hcond]
        simp
      · refine ⟨h2.next, fun mm hmm => ?_, fun b' => ?_⟩
        · have h3 := hmm b rfl
          have h4 := h2.wm
          simp only at h4
          omega
        · rw [h2.get]
          simp only [Tr.get_put, blkOf]
          by_cases hb' : b' = b
          · subst hb'; simp
          · rw [if_neg hb']
            simp [Ne.symm hb']
  obtain ⟨h', h1, h2⟩ := key
  have e : evOp P E nocall (st false h) α ⟨some d, .call ⟨.builtin .append, #[x, y], #[ts, tx]⟩, ty, pos, af, none⟩ = some (.slice (some ⟨h.next, 0, none⟩) (sl + m) (sl + m), h') := by
    rw [evOp_eq]
    simp only [evOpS, evs, st, hx, hy]
    exact h1
  rw [e, HeapO_some hd]
  exact ⟨fun e => (by cases e), hk h' h2⟩

/-- an empty literal -/
theorem At_lit0 {t elem : TypeId} {inf : TypeInfo} {z : Value} {d : Nat} (hu : E.u t = some (.slice elem)) (hi : E.i elem = some inf) (hz : inf.zero = some z)
    (hc : (okConst z && decide (0 * inf.size < 16777216) && decide (z.cells.size = inf.size) && decide (0 < inf.size)) = true) (hd : d < n) (hk : At P E n ops q r tl k (Tr.put α d empV) h R) :
    At P E n ops q (⟨some d, .buildSlice t 0 #[], ty, pos, af, none⟩ :: r) tl k α h R := by
  rw [At_pure (v := some empV) rfl rfl fun h1 hb => ?_]
  · exact (PutO_some hd).2 hk
  · rw [evOp_eq]
    simp only [evOpS, evParts, evBuildSlice, hu, hi, hz]
    rw [if_pos hc]
    rfl
/-- append of nothing -/
theorem At_append0 {x y : Operand} {ts tx elem elem' : TypeId} {inf : TypeInfo} {sl sc d : Nat} {A : Option Addr} {v : Value} (hu : E.u ts = some (.slice elem)) (hux : E.u tx = some (.slice elem')) (hi' : E.i elem = some inf)
    (hx : ev E h α x = some (.slice A sl sc)) (hy : ev E h α y = some v) (hv : srcLen v = some 0) (hd : d < n) (hk : At P E n ops q r tl k (Tr.put α d (.slice A sl sc)) h R) :
    At P E n ops q (⟨some d, .call ⟨.builtin .append, #[x, y], #[ts, tx]⟩, ty, pos, af, none⟩ :: r) tl k α h R := by
  rw [At_pure (v := some (.slice A sl sc)) rfl rfl fun h1 hb => ?_]
  · exact (PutO_some hd).2 hk
  · rw [evOp_eq]
    have hx1 := (ev_blks hb x).trans hx
    have hy1 := (ev_blks hb y).trans hy
    simp only [evOpS, evs, hx1, hy1]
    show evAppend E h1 ts tx (.slice A sl sc) v = _
    simp only [evAppend, hu, hux, hv, notInt_slice, hi']
    simp [asV]
/-- append to an empty literal: a new slice -/
theorem At_appendE {x y : Operand} {ts tx elem elem' : TypeId} {inf : TypeInfo} {z : Value} {lo2 hi2 m d : Nat} {M : List Value} {v : Value} (hu : E.u ts = some (.slice elem)) (hux : E.u tx = some (.slice elem')) (hi' : E.i elem = some inf) (hz : inf.zero = some z)
    (hc : (okConst z && decide (z.cells.size = inf.size) && decide (0 < inf.size) && decide (inf.bytes < 65536)) = true) (hx : ev E h α x = some empV) (hy : ev E h α y = some v) (hv : SlV h.blks lo2 hi2 inf.size m M v)
    (hsm : m < 2147483648) (hone : M.all oneB = true) (hd : d < n)
    (hk : ∀ A' c' h', Pres h.next h h' → SlV h'.blks h.next h'.next inf.size m M (.slice A' m c') → At P E n ops q r tl k (Tr.put α d (.slice A' m c')) h' R) :
    At P E n ops q (⟨some d, .call ⟨.builtin .append, #[x, y], #[ts, tx]⟩, ty, pos, af, none⟩ :: r) tl k α h R := by
  by_cases hm : m = 0
  · subst hm
    have hM : M = [] := List.length_eq_zero_iff.1 (by rw [hv.len]; simp)
    subst hM
    have hs : srcLen v = some 0 := by cases hv <;> first | (rename_i hn hL; rfl) | rfl
    exact At_append0 hu hux hi' hx hy hs hd (hk _ _ h (Pres.refl _ _) (.emp rfl rfl))
  · rw [At_heap rfl rfl]
    have hst : (st q h).blks = h.blks := by cases q <;> rfl
    have hv' : SlV (st q h).blks lo2 hi2 inf.size m M v := by rw [hst]; exact hv
    obtain ⟨e1, e2⟩ := srcCells_of hv' (by omega)
    simp only [Bool.and_eq_true, decide_eq_true_eq] at hc
    obtain ⟨⟨⟨c1, c2⟩, c3⟩, c4⟩ := hc
    have hcond : (okConst z && decide (z.cells.size = inf.size) && decide (0 < inf.size) && decide (inf.bytes < 65536) && decide (0 + m < 2147483648) && M.all oneB && decide (M.length = m * inf.size)) = true := by
      simp only [Bool.and_eq_true, decide_eq_true_eq]
      exact ⟨⟨⟨⟨⟨⟨c1, c2⟩, c3⟩, c4⟩, by omega⟩, hone⟩, hv.len⟩
    refine HeapO_new (cells := M) (es := inf.size) (fun b => .slice (some ⟨b, 0, none⟩) m m) hd ?_ fun h' hn => hk (some ⟨h.next, 0, none⟩) m h' (hn.pres (Nat.le_refl _)) (hn.slv hv.len)
    rw [evOp_eq]
    have hx1 := (ev_blks hst x).trans hx
    have hy1 := (ev_blks hst y).trans hy
    simp only [evOpS, evs, hx1, hy1]
    show evAppend E (st q h) ts tx empV v = _
    simp only [evAppend, empV, hu, hux, e1, notInt_slice, hi', hm, hz, e2]
    rw [if_pos hcond]
    cases aNew (st q h) M inf.size with
    | none => rfl
    | some x => simp [forceN_eq]

theorem At_store {t : TypeId} {x y : Operand} {inf : TypeInfo} {b off size es : Nat} {cells : Tr Value} {v : Value} (hi : E.i t = some inf) (hx : ev E h α x = some (.pointer (some ⟨b, off, none⟩))) (hy : ev E h α y = some v)
    (hl : v.cells.size = inf.size) (hone : v.cells.toList.all oneB = true) (hb : h.blks.get b = some (.mk cells size es)) (hle : off + inf.size ≤ size) (hG : E.G ≤ b)
    (hk : ∀ h', Sto h h' b off v.cells.toList → At P E n ops false r tl k α h' R) : At P E n ops false (⟨none, .store t x y, ty, pos, af, none⟩ :: r) tl k α h R := by
  rw [At_heap rfl rfl]
  have hlen : v.cells.toList.length = inf.size := by simpa using hl
  have e : evOp P E nocall (st false h) α ⟨none, .store t x y, ty, pos, af, none⟩ = some (undef, { blks := Tr.put h.blks b (.mk (setCells cells off v.cells.toList) size es), next := h.next, wm := min h.wm b }) := by
    rw [evOp_eq]
    simp only [evOpS, st, hx, hy, evStore, hi, hl, if_true, wr, hb, Tr.force_eq, forceN_eq]
    rw [if_pos ⟨by omega, hG, hone⟩]
  rw [e, HeapO_none]
  refine ⟨fun e => (by cases e), hk _ ⟨rfl, Nat.le_refl _, fun b' hb' => ?_, fun c2 s2 e2 h2 => ?_⟩⟩
  · show (Tr.put h.blks b _).get b' = _
    rw [Tr.get_put, if_neg hb']
  · show (Tr.put h.blks b _).get b = _
    rw [Tr.get_put, if_pos rfl]
    rw [hb] at h2
    injection h2 with h2
    injection h2 with f1 f2 f3
    subst f1; subst f2; subst f3
    rfl

/-- s = append(s, v) -/
structure Push (h h' : H) (ob : Option Nat) (cells : List Value) (es : Nat) : Prop where
  next : h'.next = h.next + 2
  wm : ∀ m, (∀ b, ob = some b → m ≤ b) → min h.wm m ≤ h'.wm
  get : ∀ b, b < h.next → h'.blks.get b = if ob = some b then some .dead else h.blks.get b
  new : h'.blks.get (h.next + 1) = some (.mk (Tr.ofList cells) cells.length es)
theorem Push.pres {h h' : H} {ob : Option Nat} {cells : List Value} {es m : Nat} (a : Push h h' ob cells es) (hm : m ≤ h.next) (hb : ∀ b, ob = some b → m ≤ b) : Pres m h h' :=
  ⟨by have := a.next; omega, a.wm m hb, fun x hx => by
    rw [a.get x (by omega)]
    split
    · rename_i hob
      have := hb x hob
      omega
    · rfl⟩
theorem Push.slv {h h' : H} {ob : Option Nat} {cells : List Value} {es n c : Nat} (a : Push h h' ob cells es) (hl : cells.length = n * es) : SlV h'.blks (h.next + 1) h'.next es n cells (.slice (some ⟨h.next + 1, 0, none⟩) n c) := by
  refine .mk a.new (Nat.le_refl _) (by have := a.next; omega) (by omega) hl fun i hi => ?_
  rw [Tr.ofList_get, Nat.zero_add]
/-- another slice -/
theorem Push.other {h h' : H} {ob : Option Nat} {cells : List Value} {es lo hi sz n : Nat} {L : List Value} {v : Value} (a : Push h h' ob cells es) (s : SlV h.blks lo hi sz n L v) (hhi : hi ≤ h.next) (hne : ∀ b, ob = some b → b < lo ∨ hi ≤ b) : SlV h'.blks lo hi sz n L v :=
  s.mono fun b h1 h2 => by
    rw [a.get b (by omega)]
    split
    · rename_i hob
      have := hne b hob
      omega
    · rfl

theorem At_push {s d1 : Nat} {x : Operand} {t elem : TypeId} {inf : TypeInfo} {z v : Value} {lo hi sl sc : Nat} {L vs : List Value} {A : Option Addr} {ty' : TypeId} {pos' : String} {af' : Array Edge} (hu : E.u t = some (.slice elem)) (hi' : E.i elem = some inf) (hz : inf.zero = some z)
    (hc : (okConst z && decide (z.cells.size = inf.size) && decide (0 < inf.size) && decide (inf.bytes < 65536) && decide (inf.size < 16777216)) = true) (hx : ev E h α x = some v)
    (hf : Instr.fill (fun i => some (i * inf.size, inf.size)) (zeros z.cells.toList 1).toArray [(0, v)] = some vs.toArray) (hl : vs.length = inf.size) (hone : vs.all oneB = true)
    (hs : α.get s = some (.slice A sl sc)) (hsl : SlV h.blks lo hi inf.size sl L (.slice A sl sc)) (hhi : hi ≤ h.next) (hcap : sc ≤ sl) (hG : E.G ≤ lo) (hsm : sl < 2147483640) (hsd : s ≠ d1) (hd1 : d1 < n) (hd : d < n)
    (hk : ∀ h', Push h h' (blkOf (.slice A sl sc)) (L ++ vs) inf.size → At P E n ops false r tl k (Tr.put (Tr.put α d1 (.slice (some ⟨h.next, 0, none⟩) 1 1)) d (.slice (some ⟨h.next + 1, 0, none⟩) (sl + 1) (sl + 1))) h' R) :
    At P E n ops false (⟨some d1, .buildSlice t 1 #[(0, x)], ty, pos, af, none⟩ :: ⟨some d, .call ⟨.builtin .append, #[.tmp s, .tmp d1], #[t, t]⟩, ty', pos', af', none⟩ :: r) tl k α h R := by
  have hc' := hc
  simp only [Bool.and_eq_true, decide_eq_true_eq] at hc'
  obtain ⟨⟨⟨⟨c1, c2⟩, c3⟩, c4⟩, c5⟩ := hc'
  refine At_lit (vs := [(0, v)]) (cs := vs.toArray) hu hi' hz (by simp only [Bool.and_eq_true, decide_eq_true_eq]; exact ⟨⟨⟨c1, by omega⟩, c2⟩, c3⟩) (by simp only [evParts, hx]) hf hd1 fun h1 hn => ?_
  have hl1 : vs.length = 1 * inf.size := by omega
  have hsl1 : SlV h1.blks lo hi inf.size sl L (.slice A sl sc) := hsl.mono fun b g1 g2 => by rw [hn.get, if_neg (by omega)]
  refine At_append (m := 1) (L := L) (M := vs) hu hu hi' hz (by simp only [Bool.and_eq_true, decide_eq_true_eq]; exact ⟨⟨⟨c1, c2⟩, c3⟩, c4⟩) (by rw [ev_tmp, Tr.get_put, if_neg hsd, hs]; rfl) hsl1 (by omega) hG (by rw [ev_tmp, Tr.get_put, if_pos rfl]; rfl) (hn.slv (by simpa using hl1)) (by omega) (by omega) hone hd fun h2 ha => ?_
  have e := hn.next
  rw [e]
  refine hk h2 ⟨by rw [ha.next, e], fun m hm => by have := ha.wm m hm; rw [hn.wm] at this; exact this, fun b hb => ?_, ?_⟩
  · rw [ha.get, if_neg (by omega)]
    split
    · rfl
    · rw [hn.get, if_neg (by omega)]
  · have := ha.get (h.next + 1)
    rw [if_pos (by omega)] at this
    exact this
end
end
end Go.Proofs.YtnjbcgiplfdgmaaGreatDoor.Ev
