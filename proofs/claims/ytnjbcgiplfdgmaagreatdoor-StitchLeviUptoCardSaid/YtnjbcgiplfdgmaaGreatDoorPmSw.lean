/- Symbolic runs: values, memory, slices. -/
import Derived.Test.YtnjbcgiplfdgmaaGreatDoorPmSz
namespace Go.Proofs.YtnjbcgiplfdgmaaGreatDoor.Ev
open Go
variable {P : Program} {E : Env}
noncomputable section

/- ### put -/
section
variable {n : Nat} {ops : List Oper} {q : Bool} {r tl : List Oper} {k : List Frm} {α : Tr Value} {h : H} {R : Rt} {d : Nat} {ty : TypeId} {pos : String} {af : Array Edge}

theorem put_lt {v : Value} (hd : d < n) : put n α (some d) v = some (Tr.put α d v) := by
  simp only [put, Nat.ble_eq_true_of_le (Nat.succ_le_of_lt hd), Tr.force_eq]
theorem PutO_some {v : Value} (hd : d < n) : PutO P E n ops q r tl k α h R (some d) (some v) ↔ At P E n ops q r tl k (Tr.put α d v) h R := by
  show (match put n α (some d) v with
    | some α' => At P E n ops q r tl k α' h R
    | none => False) ↔ _
  rw [put_lt hd]
theorem PutO_none {v : Value} : PutO P E n ops q r tl k α h R none (some v) ↔ At P E n ops q r tl k α h R := Iff.rfl
theorem HeapO_some {v : Value} {h' : H} (hd : d < n) : HeapO P E n ops q r tl k α h R (some d) (some (v, h')) ↔ (q = true → h.next ≤ h'.wm) ∧ At P E n ops q r tl k (Tr.put α d v) (fin q h h') R := by
  show ((q = true → h.next ≤ h'.wm) ∧ PutO P E n ops q r tl k α (fin q h h') R (some d) (some v)) ↔ _
  rw [PutO_some hd]
theorem HeapO_none {v : Value} {h' : H} : HeapO P E n ops q r tl k α h R none (some (v, h')) ↔ (q = true → h.next ≤ h'.wm) ∧ At P E n ops q r tl k α (fin q h h') R := Iff.rfl

theorem ev_tmp {t : Tmp} : ev E h α (.tmp t) = some ((α.get t).getD undef) := evTmp_eq α t
theorem ev_int {kd : IntKind} {z : Int} : ev E h α (.const (.int kd z)) = some (.int kd z) := rfl
theorem ev_bool {b : Bool} : ev E h α (.const (.bool b)) = some (.bool b) := rfl
theorem ev_str {s : ByteArray} : ev E h α (.const (.string s)) = some (.string s) := rfl
theorem ev_nils : ev E h α (.const (.slice none 0 0)) = some (.slice none 0 0) := rfl
theorem ev_func {f : FuncId} : ev E h α (.func f) = some (.func (.func f) #[] #[]) := rfl
theorem evs_nil : evs E h α [] = some [] := rfl
theorem evs_cons {x : Operand} {l : List Operand} {v : Value} {vs : List Value} (hx : ev E h α x = some v) (hl : evs E h α l = some vs) : evs E h α (x :: l) = some (v :: vs) := by
  simp only [evs, hx, hl]
def consO (v : Option Value) (l : Option (List Value)) : Option (List Value) := match v, l with
  | some v, some l => some (v :: l)
  | _, _ => none
theorem evs_consO {x : Operand} {l : List Operand} : evs E h α (x :: l) = consO (ev E h α x) (evs E h α l) := by
  simp only [evs, consO]
  cases ev E h α x <;> cases evs E h α l <;> rfl
theorem consO_some {v : Value} {l : List Value} : consO (some v) (some l) = some (v :: l) := rfl
def consP (i : Nat) (v : Option Value) (l : Option (List (Nat × Value))) : Option (List (Nat × Value)) := match v, l with
  | some v, some l => some ((i, v) :: l)
  | _, _ => none
theorem evParts_nil : evParts E h α [] = some [] := rfl
theorem evParts_consO {i : Nat} {x : Operand} {l : List (Nat × Operand)} : evParts E h α ((i, x) :: l) = consP i (ev E h α x) (evParts E h α l) := by
  simp only [evParts, consP]
  cases ev E h α x <;> cases evParts E h α l <;> rfl
theorem consP_some {i : Nat} {v : Value} {l : List (Nat × Value)} : consP i (some v) (some l) = some ((i, v) :: l) := rfl

theorem At_min {x y : Operand} {ats : Array TypeId} : At P E n ops q (⟨some d, .call ⟨.builtin .min, #[x, y], ats⟩, ty, pos, af, none⟩ :: r) tl k α h R ↔ PutO P E n ops q r tl k α h R (some d) (mmO P Builtin.min2 (consO (ev E h α x) (consO (ev E h α y) (some [])))) :=
  At_pure rfl rfl fun h1 hb => by
    rw [evOp_eq]
    simp only [evOpS, evs, ev_blks hb]
    cases hx : ev E h α x with
    | none => rfl
    | some v =>
      cases hy : ev E h α y with
      | none => rfl
      | some u =>
        simp only [consO, mmO]
        by_cases hp : (plain v && plain u) = true
        · have hp' : ([v, u].all plain) = true := by simpa using hp
          rw [if_pos hp', if_pos hp]
          congr 1
          have e : execOp (fun z => (ev E h α z).getD undef) ⟨some d, .call ⟨.builtin .min, #[x, y], ats⟩, ty, pos, af, none⟩ = (do pure (Next.value (← Builtin.min_ ats ty #[v, u]))) := by
            simp only [execOp, resolve, List.map_toArray, List.map, hx, hy, Option.getD_some]
            rfl
          unfold plainOp
          rw [e]
          refine (pure_next _).trans ?_
          have e2 : pureRun P (Builtin.min_ ats ty #[v, u]) = pureRun P (Builtin.min2 v u) := by
            show pureRun P (Builtin.min2 v u >>= fun s => pure s) = _
            rw [pureRun_bind]
            cases pureRun P (Builtin.min2 v u) <;> rfl
          rw [e2]
        · have hp' : ¬ ([v, u].all plain) = true := by simpa using hp
          rw [if_neg hp', if_neg hp]
          rfl
theorem At_max {x y : Operand} {ats : Array TypeId} : At P E n ops q (⟨some d, .call ⟨.builtin .max, #[x, y], ats⟩, ty, pos, af, none⟩ :: r) tl k α h R ↔ PutO P E n ops q r tl k α h R (some d) (mmO P Builtin.max2 (consO (ev E h α x) (consO (ev E h α y) (some [])))) :=
  At_pure rfl rfl fun h1 hb => by
    rw [evOp_eq]
    simp only [evOpS, evs, ev_blks hb]
    cases hx : ev E h α x with
    | none => rfl
    | some v =>
      cases hy : ev E h α y with
      | none => rfl
      | some u =>
        simp only [consO, mmO]
        by_cases hp : (plain v && plain u) = true
        · have hp' : ([v, u].all plain) = true := by simpa using hp
          rw [if_pos hp', if_pos hp]
          congr 1
          have e : execOp (fun z => (ev E h α z).getD undef) ⟨some d, .call ⟨.builtin .max, #[x, y], ats⟩, ty, pos, af, none⟩ = (do pure (Next.value (← Builtin.max_ ats ty #[v, u]))) := by
            simp only [execOp, resolve, List.map_toArray, List.map, hx, hy, Option.getD_some]
            rfl
          unfold plainOp
          rw [e]
          refine (pure_next _).trans ?_
          have e2 : pureRun P (Builtin.max_ ats ty #[v, u]) = pureRun P (Builtin.max2 v u) := by
            show pureRun P (Builtin.max2 v u >>= fun s => pure s) = _
            rw [pureRun_bind]
            cases pureRun P (Builtin.max2 v u) <;> rfl
          rw [e2]
        · have hp' : ¬ ([v, u].all plain) = true := by simpa using hp
          rw [if_neg hp', if_neg hp]
          rfl
theorem mm_min {kd : IntKind} {a b : Int} : mmO P Builtin.min2 (some [.int kd a, .int kd b]) = some (.int kd (min a b)) := by
  have : Builtin.min2 (.int kd a) (.int kd b) = pure (.int kd (if b < a then b else a)) := rfl
  have e : (if b < a then b else a) = min a b := by split <;> omega
  simp only [mmO, plain, this, e]
  rfl
theorem mm_max {kd : IntKind} {a b : Int} : mmO P Builtin.max2 (some [.int kd a, .int kd b]) = some (.int kd (max a b)) := by
  have e : (if a < b then b else a) = max a b := by split <;> omega
  have : Builtin.max2 (.int kd a) (.int kd b) = pure (.int kd (max a b)) := by
    rw [← e]; rfl
  simp only [mmO, plain, this]
  rfl
end

/- ### arithmetic -/
section
variable {t : TypeId} {kd : IntKind} {a b : Int}
theorem fastBin_int {op : BinOp} : fastBin op (.int kd a) (.int kd b) = fastInt op kd a b := by
  show Bool.casesOn (motive := fun _ => Option Value) (Nat.beq (kNum kd) (kNum kd)) none (fastInt op kd a b) = _
  have : Nat.beq (kNum kd) (kNum kd) = true := Nat.beq_refl _
  rw [this]
theorem binO_int {op : BinOp} {r : Value} (hr : fastInt op kd a b = some r) : binO P E op t (some (.int kd a)) (some (.int kd b)) = some r := by
  have h1 : (Ev.plainA (.int kd a) && Ev.plainA (.int kd b)) = true := rfl
  simp only [binO, h1, if_true, fastBin_int, hr]
theorem binO_add : binO P E .add t (some (.int kd a)) (some (.int kd b)) = some (.int kd (kd.wrap (a + b))) := binO_int (by simp only [fastInt, mkI, forceI_eq, wrapF_eq])
theorem binO_sub : binO P E .sub t (some (.int kd a)) (some (.int kd b)) = some (.int kd (kd.wrap (a - b))) := binO_int (by simp only [fastInt, mkI, forceI_eq, wrapF_eq])
theorem binO_mul : binO P E .mul t (some (.int kd a)) (some (.int kd b)) = some (.int kd (kd.wrap (a * b))) := binO_int (by simp only [fastInt, mkI, forceI_eq, wrapF_eq])
theorem binO_eql : binO P E .eql t (some (.int kd a)) (some (.int kd b)) = some (.bool (decide (a = b))) := binO_int (by
  simp only [fastInt, mkB, forceB_eq, eqF_eq]; congr 2)
theorem binO_neq : binO P E .neq t (some (.int kd a)) (some (.int kd b)) = some (.bool (decide (a ≠ b))) := binO_int (by
  simp only [fastInt, mkB, forceB_eq, eqF_eq]; congr 2; by_cases h : a = b <;> simp [h])
theorem binO_lss : binO P E .lss t (some (.int kd a)) (some (.int kd b)) = some (.bool (decide (a < b))) := binO_int (by simp only [fastInt, mkB, forceB_eq, ltF_eq])
theorem binO_gtr : binO P E .gtr t (some (.int kd a)) (some (.int kd b)) = some (.bool (decide (b < a))) := binO_int (by simp only [fastInt, mkB, forceB_eq, ltF_eq])
theorem binO_leq : binO P E .leq t (some (.int kd a)) (some (.int kd b)) = some (.bool (decide (a ≤ b))) := binO_int (by
  simp only [fastInt, mkB, forceB_eq, ltF_eq]; congr 2; by_cases h : a ≤ b <;> simp [h] <;> omega)
theorem binO_geq : binO P E .geq t (some (.int kd a)) (some (.int kd b)) = some (.bool (decide (b ≤ a))) := binO_int (by
  simp only [fastInt, mkB, forceB_eq, ltF_eq]; congr 2; by_cases h : b ≤ a <;> simp [h] <;> omega)
theorem binO_slow {op : BinOp} {r : Value} (hf : fastInt op kd a b = none) (hs : pureRun P (do eqGuard op t (.tmp 0) (.tmp 0) (.int kd a) (.int kd b); binOp op t (.int kd a) (.int kd b)) = some r) (hp : plain r = true) : binO P E op t (some (.int kd a)) (some (.int kd b)) = some r := by
  have h1 : (Ev.plainA (.int kd a) && Ev.plainA (.int kd b)) = true := rfl
  simp only [binO, h1, if_true, fastBin_int, hf, slowBin, hs, hp]
theorem binO_rem (hb : b ≠ 0) : binO P E .rem t (some (.int kd a)) (some (.int kd b)) = some (.int kd (a.tmod b)) :=
  binO_slow rfl (by simp [binOp, Op.intDiv, hb]; rfl) rfl
theorem binO_quo (hb : b ≠ 0) : binO P E .quo t (some (.int kd a)) (some (.int kd b)) = some (.int kd (kd.wrap (a.tdiv b))) :=
  binO_slow rfl (by simp [binOp, Op.intDiv, hb]; rfl) rfl
theorem unO_not {b : Bool} : unO P .not (some (.bool b)) = some (.bool (!b)) := rfl
theorem unO_neg : unO P .neg (some (.int kd a)) = some (.int kd (kd.wrap (0 - a))) := rfl
theorem pickO_true {x y : Option Value} : pickO (some (.bool true)) x y = x := rfl
theorem pickO_false {x y : Option Value} : pickO (some (.bool false)) x y = y := rfl
theorem extrO_tuple {vs : Array Value} {i : Nat} : extrO i (some (.tuple vs)) = vs[i]? := rfl
theorem convO_int {B : Tr Blk} {s d : TypeId} {k' : IntKind} {ds : TypeDesc} (h1 : E.u s = some ds) (h2 : E.u d = some (.int k')) : convO P E B s d (some (.int kd a)) = some (.int k' (k'.wrap a)) := by
  simp only [convO, plain, if_true, fastConv, h1, h2, mkI, forceI_eq, wrapF_eq]
theorem lenO_slice {elem : TypeId} (hu : E.u t = some (.slice elem)) {A : Option Addr} {n c : Nat} : lenO E t (some (.slice A n c)) = some (.int .i64 n) := by
  simp only [lenO, evLen, hu]
theorem wrap_i64 {x : Int} (h1 : -9223372036854775808 ≤ x) (h2 : x ≤ 9223372036854775807) : IntKind.i64.wrap x = x := by rw [IntKind.wrap_i64]; omega
theorem wrap_u8' {x : Int} (h1 : 0 ≤ x) (h2 : x ≤ 255) : IntKind.u8.wrap x = x := by rw [IntKind.wrap_u8]; omega

theorem Guard_true {n : Nat} {ops : List Oper} {q : Bool} {r tl : List Oper} {k : List Frm} {α : Tr Value} {h : H} {R : Rt} {o : Oper} : GuardO P E n ops q o r tl k α h R true (some (.bool true)) ↔ At P E n ops q ({ o with guard := none } :: r) tl k α h R := by
  simp [GuardO]
theorem Guard_false {n : Nat} {ops : List Oper} {q : Bool} {r tl : List Oper} {k : List Frm} {α : Tr Value} {h : H} {R : Rt} {o : Oper} : GuardO P E n ops q o r tl k α h R false (some (.bool false)) ↔ At P E n ops q ({ o with guard := none } :: r) tl k α h R := by
  simp [GuardO]
theorem Guard_tf {n : Nat} {ops : List Oper} {q : Bool} {r tl : List Oper} {k : List Frm} {α : Tr Value} {h : H} {R : Rt} {o : Oper} : GuardO P E n ops q o r tl k α h R true (some (.bool false)) ↔ PutO P E n ops q r tl k α h R o.dst (some undef) := by
  simp [GuardO]
theorem Guard_ft {n : Nat} {ops : List Oper} {q : Bool} {r tl : List Oper} {k : List Frm} {α : Tr Value} {h : H} {R : Rt} {o : Oper} : GuardO P E n ops q o r tl k α h R false (some (.bool true)) ↔ PutO P E n ops q r tl k α h R o.dst (some undef) := by
  simp [GuardO]
theorem Guard_tup {n : Nat} {ops : List Oper} {q : Bool} {r tl : List Oper} {k : List Frm} {α : Tr Value} {h : H} {R : Rt} {o : Oper} {want : Bool} {vs : Array Value} : GuardO P E n ops q o r tl k α h R want (some (.tuple vs)) ↔ PutO P E n ops q r tl k α h R o.dst (some undef) := Iff.rfl
theorem Guard_und {n : Nat} {ops : List Oper} {q : Bool} {r tl : List Oper} {k : List Frm} {α : Tr Value} {h : H} {R : Rt} {o : Oper} {want : Bool} : GuardO P E n ops q o r tl k α h R want (some undef) ↔ PutO P E n ops q r tl k α h R o.dst (some undef) := Iff.rfl
theorem decide_yes {p : Prop} [Decidable p] (hp : p) : decide p = true := decide_eq_true hp
theorem decide_no {p : Prop} [Decidable p] (hp : ¬ p) : decide p = false := decide_eq_false hp
end

/- ### memory -/
/-- one cell -/
def loadv (B : Tr Blk) (b off : Nat) : Option Value := match B.get b with
  | some (.mk cells size _) => if off < size then cells.get off else none
  | _ => none
theorem rd_one {B : Tr Blk} {b off n w : Nat} : rd ⟨B, n, w⟩ b off 1 = (loadv B b off).map fun v => [v] := by
  simp only [rd, loadv]
  cases B.get b with
  | none => rfl
  | some x =>
    cases x with
    | dead => rfl
    | mk cells size es =>
      simp only
      by_cases hlt : off < size
      · rw [if_pos hlt, if_pos (by omega)]
        simp only [getCells]
        cases cells.get off <;> rfl
      · rw [if_neg hlt, if_neg (by omega)]; rfl
theorem loadO_one {t : TypeId} (ht : E.agg t = some false) {B : Tr Blk} {b off : Nat} : loadO E t B (some (.pointer (some ⟨b, off, none⟩))) = loadv B b off := by
  simp only [loadO, evLoad, ht, rd_one]
  cases loadv B b off <;> rfl
theorem idx_ok {kd : IntKind} {z : Int} {n : Nat} (h0 : 0 ≤ z) (h1 : z < n) : idx (.int kd z) n = some z.toNat := by
  obtain ⟨m, rfl⟩ := Int.eq_ofNat_of_zero_le h0
  show (if m < n then some m else none) = _
  rw [if_pos (by omega)]
  simp
theorem idxAddrO_slice {t elem : TypeId} {inf : TypeInfo} (hu : E.u t = some (.slice elem)) (hi : E.i elem = some inf) {b off n c : Nat} {kd : IntKind} {z : Int} (h0 : 0 ≤ z) (h1 : z < n) :
    idxAddrO E t (some (.slice (some ⟨b, off, none⟩) n c)) (some (.int kd z)) = some (.pointer (some ⟨b, off + z.toNat * inf.size, none⟩)) := by
  simp only [idxAddrO, evIndexAddr, hu, idx_ok h0 h1, hi, forceN_eq]

/-- a new block -/
structure New (h h' : H) (cells : List Value) (es : Nat) : Prop where
  next : h'.next = h.next + 1
  wm : h'.wm = h.wm
  get : ∀ b, h'.blks.get b = if b = h.next then some (.mk (Tr.ofList cells) cells.length es) else h.blks.get b

/-- what lies below m is as it was -/
structure Pres (m : Nat) (h h' : H) : Prop where
  next : h.next ≤ h'.next
  wm : min h.wm m ≤ h'.wm
  get : ∀ b, b < m → h'.blks.get b = h.blks.get b

theorem Pres.refl (m : Nat) (h : H) : Pres m h h := ⟨Nat.le_refl _, Nat.min_le_left _ _, fun _ _ => rfl⟩
theorem Pres.trans {m : Nat} {h h1 h2 : H} (a : Pres m h h1) (b : Pres m h1 h2) : Pres m h h2 :=
  ⟨Nat.le_trans a.next b.next, by have := a.wm; have := b.wm; omega, fun x hx => (b.get x hx).trans (a.get x hx)⟩
theorem Pres.le {m m' : Nat} {h h' : H} (a : Pres m h h') (hm : m' ≤ m) : Pres m' h h' :=
  ⟨a.next, by have := a.wm; omega, fun x hx => a.get x (by omega)⟩
theorem New.pres {h h' : H} {cells : List Value} {es m : Nat} (a : New h h' cells es) (hm : m ≤ h.next) : Pres m h h' :=
  ⟨by have := a.next; omega, by have := a.wm; omega, fun x hx => by rw [a.get, if_neg (by omega)]⟩
theorem loadv_eq {B B' : Tr Blk} {b : Nat} (hb : B'.get b = B.get b) (off : Nat) : loadv B' b off = loadv B b off := by simp only [loadv, hb]

theorem aNew_new {h h' : H} {cells : List Value} {es b : Nat} (hn : aNew h cells es = some (b, h')) : b = h.next ∧ New h h' cells es := by
  obtain ⟨rfl, rfl⟩ := aNew_some hn
  exact ⟨rfl, rfl, rfl, fun b => Tr.get_put _ _ _ _⟩
theorem aNew_mk (h : H) (cells : List Value) (es : Nat) : ∃ h', aNew h cells es = some (h.next, h') ∧ New h h' cells es := by
  exact ⟨{ blks := h.blks.put h.next (.mk (Tr.ofList cells) cells.length es), next := h.next + 1, wm := h.wm }, by simp only [aNew, forceN_eq, Tr.force_eq], rfl, rfl, fun b => Tr.get_put _ _ _ _⟩

section
variable {n : Nat} {ops : List Oper} {q : Bool} {r tl : List Oper} {k : List Frm} {α : Tr Value} {h : H} {R : Rt} {d : Nat} {ty : TypeId} {pos : String} {af : Array Edge}

theorem New.st {h h' : H} {cells : List Value} {es : Nat} (a : New (st q h) h' cells es) : New h (fin q h h') cells es := by
  cases q with
  | false => exact a
  | true => exact ⟨a.next, rfl, a.get⟩

theorem HeapO_new {v : Option (Value × H)} {cells : List Value} {es : Nat} (f : Nat → Value) (hd : d < n) (hv : v = (aNew (st q h) cells es).map fun x => (f x.1, x.2))
    (hk : ∀ h', New h h' cells es → At P E n ops q r tl k (Tr.put α d (f h.next)) h' R) : HeapO P E n ops q r tl k α h R (some d) v := by
  obtain ⟨h', h1, h2⟩ := aNew_mk (st q h) cells es
  rw [hv, h1]
  simp only [Option.map_some]
  rw [HeapO_some hd]
  have e : (st q h).next = h.next := by cases q <;> rfl
  rw [e]
  refine ⟨fun hq => ?_, hk _ h2.st⟩
  rw [h2.wm]
  exact st_wm hq

/-- a variable that lies in memory -/
theorem At_alloc {t : TypeId} {inf : TypeInfo} {z : Value} (hi : E.i t = some inf) (hz : inf.zero = some z) (hc : okConst z = true) (hd : d < n)
    (hk : ∀ h', New h h' z.cells.toList 0 → At P E n ops q r tl k (Tr.put α d (.pointer (some ⟨h.next, 0, none⟩))) h' R) : At P E n ops q (⟨some d, .alloc t, ty, pos, af, none⟩ :: r) tl k α h R := by
  rw [At_heap rfl rfl]
  refine HeapO_new (fun b => .pointer (some ⟨b, 0, none⟩)) hd ?_ hk
  rw [evOp_eq]
  simp only [evOpS, hi, hz, hc, if_true, newVal]
  cases aNew (st q h) z.cells.toList 0 <;> rfl
theorem At_box {t : TypeId} {x : Operand} {v : Value} (hx : ev E h α x = some v) (hd : d < n)
    (hk : ∀ h', New h h' v.cells.toList 0 → At P E n ops q r tl k (Tr.put α d (.pointer (some ⟨h.next, 0, none⟩))) h' R) : At P E n ops q (⟨some d, .box t x, ty, pos, af, none⟩ :: r) tl k α h R := by
  rw [At_heap rfl rfl]
  refine HeapO_new (fun b => .pointer (some ⟨b, 0, none⟩)) hd ?_ hk
  rw [evOp_eq]
  have hx' : ev E (st q h) α x = some v := by rw [ev_blks (h := h) (by cases q <;> rfl)]; exact hx
  simp only [evOpS, hx', newVal]
  cases aNew (st q h) v.cells.toList 0 <;> rfl

/-- a literal of a slice -/
theorem At_lit {t elem : TypeId} {inf : TypeInfo} {z : Value} {len : Nat} {ps : Array (Nat × Operand)} {vs : List (Nat × Value)} {cs : Array Value} (hu : E.u t = some (.slice elem)) (hi : E.i elem = some inf) (hz : inf.zero = some z)
    (hc : (okConst z && decide (len * inf.size < 16777216) && decide (z.cells.size = inf.size) && decide (0 < inf.size)) = true) (hp : evParts E h α ps.toList = some vs)
    (hf : Instr.fill (fun i => some (i * inf.size, inf.size)) (zeros z.cells.toList len).toArray vs = some cs) (hd : d < n)
    (hk : ∀ h', New h h' cs.toList inf.size → At P E n ops q r tl k (Tr.put α d (.slice (some ⟨h.next, 0, none⟩) len len)) h' R) (hlen0 : len ≠ 0 := by decide) : At P E n ops q (⟨some d, .buildSlice t len ps, ty, pos, af, none⟩ :: r) tl k α h R := by
  rw [At_heap rfl rfl]
  refine HeapO_new (fun b => .slice (some ⟨b, 0, none⟩) len len) hd ?_ hk
  rw [evOp_eq]
  have hp' : evParts E (st q h) α ps.toList = some vs := by rw [evParts_blks (h := h) (by cases q <;> rfl)]; exact hp
  simp only [evOpS, hp', evBuildSlice, hu, hi, hz]
  rw [if_pos hc]
  simp only [hf]
  rw [if_neg hlen0]
  cases aNew (st q h) cs.toList inf.size <;> rfl

/-- make -/
theorem At_make {t elem : TypeId} {inf : TypeInfo} {z : Value} {x y : Operand} {k1 k2 : IntKind} {l c : Nat} (hu : E.u t = some (.slice elem)) (hi : E.i elem = some inf) (hz : inf.zero = some z)
    (hc : (okConst z && decide (inf.bytes < 65536) && decide (z.cells.size = inf.size) && decide (0 < inf.size)) = true) (hx : ev E h α x = some (.int k1 l)) (hy : ev E h α y = some (.int k2 c)) (hl : l ≤ c) (hs : c * inf.size < 2147483648) (hs2 : c < 2147483648) (hd : d < n)
    (hk : ∀ h', New h h' (zeros z.cells.toList c) inf.size → At P E n ops q r tl k (Tr.put α d (.slice (some ⟨h.next, 0, none⟩) l c)) h' R) : At P E n ops q (⟨some d, .makeSlice t x y, ty, pos, af, none⟩ :: r) tl k α h R := by
  rw [At_heap rfl rfl]
  refine HeapO_new (fun b => .slice (some ⟨b, 0, none⟩) l c) hd ?_ hk
  rw [evOp_eq]
  have hst : (st q h).blks = h.blks := by cases q <;> rfl
  have hx' : ev E (st q h) α x = some (.int k1 (Int.ofNat l)) := by rw [ev_blks hst]; exact hx
  have hy' : ev E (st q h) α y = some (.int k2 (Int.ofNat c)) := by rw [ev_blks hst]; exact hy
  simp only [Bool.and_eq_true, decide_eq_true_eq] at hc
  obtain ⟨⟨⟨c1, c2⟩, c3⟩, c4⟩ := hc
  simp only [evOpS, hx', hy', evMakeSlice, hu, hi, hz]
  rw [if_pos (by simp only [Bool.and_eq_true, decide_eq_true_eq]; exact ⟨⟨⟨⟨⟨⟨c1, hs⟩, hs2⟩, hl⟩, c2⟩, c3⟩, c4⟩)]
  cases aNew (st q h) (zeros z.cells.toList c) inf.size <;> rfl

/-- a call, by what is known of it -/
theorem CallO_of {g : FuncId} {vs : List Value} {Q : Value → H → Prop} (hs : CallsE P E g vs (st q h) Q) (hd : d < n) (hk : ∀ v h', Q v h' → (q = true → h.next ≤ h'.wm) ∧ At P E n ops q r tl k (Tr.put α d v) (fin q h h') R) :
    CallO P E n ops q r tl k α h R (some d) (some (.func (.func g) #[] #[])) (some vs) := by
  unfold CallO
  have e : (#[] : Array Value).toList ++ vs ++ (#[] : Array Value).toList = vs := by simp
  simp only
  rw [e]
  refine hs.mono fun v h' hq => ?_
  rw [HeapO_some hd]
  exact hk v h' hq

/-- what a function that leaves all that was returns -/
def Spec (P : Program) (E : Env) (g : FuncId) (vs : List Value) (h : H) (Q : Value → H → Prop) : Prop := CallsE P E g vs h fun v h' => Pres h.next h h' ∧ Q v h'

theorem Spec.mono {g : FuncId} {vs : List Value} {Q Q' : Value → H → Prop} (hs : Spec P E g vs h Q) (hq : ∀ v h', Pres h.next h h' → Q v h' → Q' v h') : Spec P E g vs h Q' :=
  CallsE.mono hs fun v h' ⟨a, b⟩ => ⟨a, hq v h' a b⟩

theorem CallO_spec {g : FuncId} {vs : List Value} {Q : Value → H → Prop} (hs : Spec P E g vs (st q h) Q) (hd : d < n) (hq : ∀ v h' wm, Q v h' → Q v { h' with wm := wm }) (hk : ∀ v h', Pres h.next h h' → Q v h' → At P E n ops q r tl k (Tr.put α d v) h' R) :
    CallO P E n ops q r tl k α h R (some d) (some (.func (.func g) #[] #[])) (some vs) := by
  refine CallO_of hs hd fun v h' ⟨a, b⟩ => ?_
  cases q with
  | false => exact ⟨fun e => (by cases e), hk v h' a b⟩
  | true =>
    have hw := a.wm
    have hw' : min h.next h.next ≤ h'.wm := hw
    refine ⟨fun _ => by omega, hk v { h' with wm := h.wm } ⟨a.next, Nat.min_le_left _ _, a.get⟩ (hq _ _ _ b)⟩
/-- the same, where the text's order holds -/
theorem CallO_f {g : FuncId} {vs : List Value} {Q : Value → H → Prop} (hs : Spec P E g vs h Q) (hd : d < n) (hk : ∀ v h', Pres h.next h h' → Q v h' → At P E n ops false r tl k (Tr.put α d v) h' R) :
    CallO P E n ops false r tl k α h R (some d) (some (.func (.func g) #[] #[])) (some vs) :=
  CallO_of hs hd fun v h' ⟨a, b⟩ => ⟨fun e => (by cases e), hk v h' a b⟩
end
end
end Go.Proofs.YtnjbcgiplfdgmaaGreatDoor.Ev
