/- Functions of Go's library, by what the library's contracts say of them. -/
import Derived.Test.YthankillfhmfkaaGreatDoorPmEvL
import Derived.Lib.Join
import Derived.Lib.Repeat
import Derived.Lib.ItoaNum
import Derived.Lib.LaidTab
set_option linter.unusedVariables false
namespace Go.Proofs.YthankillfhmfkaaGreatDoor.Ev
open Go Go.RowKit
variable {P : Program} {E : Env}
noncomputable section
def strsOf : List Value → Option (List ByteArray)
  | [] => some []
  | .string s :: r => match strsOf r with
    | some l => some (s :: l)
    | none => none
  | _ => none
theorem strsOf_some : ∀ {L : List Value} {l : List ByteArray}, strsOf L = some l → L = l.map Value.string
  | [], l, h => by cases h; rfl
  | v :: r, l, h => by
    unfold strsOf at h
    split at h
    · cases h; rename_i he; cases he
    · rename_i s r' he
      injection he with he1 he2
      subst he1; subst he2
      split at h
      · rename_i l' hl
        cases h
        rw [List.map_cons, strsOf_some hl]
      · cases h
    · cases h
/-- strings.Repeat -/
def gRepeat : List Value → H → Option Value
  | [.string s, .int .i64 c], _ => if 0 ≤ c ∧ c ≤ 9223372036854775807 ∧ s.size * c.toNat ≤ 140737488355328 then some (.string ⟨(Lib.repeatL s.data.toList c.toNat).toArray⟩) else none
  | _, _ => none
/-- strings.Join -/
def gJoin : List Value → H → Option Value
  | [.slice (some ⟨b, off, none⟩) n _, .string sep], h => match rd h b off n with
    | some cells => match strsOf cells with
      | some xs => if 0 < n ∧ xs.length = n ∧ n ≤ 140737488355328 ∧ (Lib.join (xs.map (·.data.toList)) sep.data.toList).length ≤ 140737488355328 then some (.string ⟨(Lib.join (xs.map (·.data.toList)) sep.data.toList).toArray⟩) else none
      | none => none
    | none => none
  | _, _ => none
/-- strconv.Itoa -/
def gItoa : List Value → H → Option Value
  | [.int .i64 n], _ => if -9223372036854775808 ≤ n ∧ n ≤ 9223372036854775807 then some (.string ⟨(Lib.itoa n).toArray⟩) else none
  | _, _ => none
/-- with some functions by their contracts -/
def withOrc (E : Env) (orc : Tr (List Value → H → Option Value)) : Env := { E with orc := orc }
theorem withOrc_u {o : Tr (List Value → H → Option Value)} {t : TypeId} : (withOrc E o).u t = E.u t := rfl
theorem withOrc_i {o : Tr (List Value → H → Option Value)} {t : TypeId} : (withOrc E o).i t = E.i t := rfl
theorem withOrc_f {o : Tr (List Value → H → Option Value)} : (withOrc E o).fns = E.fns := rfl
theorem withOrc_G {o : Tr (List Value → H → Option Value)} : (withOrc E o).G = E.G := rfl
theorem withOrc_fzl {o : Tr (List Value → H → Option Value)} : (withOrc E o).fzl = E.fzl := rfl
theorem withOrc_iters {o : Tr (List Value → H → Option Value)} : (withOrc E o).iters = E.iters := rfl
theorem withOrc_known {o : Tr (List Value → H → Option Value)} : (withOrc E o).known = E.known := rfl
theorem withOrc_orc {o : Tr (List Value → H → Option Value)} : (withOrc E o).orc = o := rfl
theorem HR.orc {o : Tr (List Value → H → Option Value)} {φ : Phi} {g : Nat → Option Blk} {w : World} : HR (withOrc E o) φ g w ↔ HR E φ g w := ⟨fun h => ⟨h.blk, h.inj, h.glob, h.mono, ⟨h.mp.blk, h.mp.inj⟩⟩, fun h => ⟨h.blk, h.inj, h.glob, h.mono, ⟨h.mp.blk, h.mp.inj⟩⟩⟩
/-- what is asked of a contract -/
def OrcOK (P : Program) (E : Env) (f : FuncId) (g : List Value → H → Option Value) : Prop :=
  (∃ fn, P.funcs[f]? = some fn ∧ fn.body.isSome = true ∧ fn.name ≠ "runtime.NumGoroutine") ∧ ∀ args h v, g args h = some v → plain v = true ∧ ∀ φ w args', HR E φ h.blks.get w → TabsW E.tabs w → VRs φ args args' →
    Calls P f args'.toArray w fun e w' => e = .returned v ∧ Below w.heap.size w w'
theorem withOrc_ok {o : Tr (List Value → H → Option Value)} (hE : EnvOK P E) (ho : ∀ f g, o.get f = some g → OrcOK P E f g) : EnvOK P (withOrc E o) :=
  ⟨hE.u, hE.i, hE.f, hE.mixed, hE.known, hE.tabs, hE.iters, fun f g h => ⟨(ho f g h).1, fun args h v hv => ⟨((ho f g ‹_›).2 args h v hv).1, fun φ w args' hr ht ha => ((ho f g ‹_›).2 args h v hv).2 φ w args' (HR.orc.1 hr) ht ha⟩⟩⟩
theorem orcRepeat {f : FuncId} (hfn : ∃ fn, P.funcs[f]? = some fn ∧ fn.body.isSome = true ∧ fn.name ≠ "runtime.NumGoroutine")
    (hc : ∀ (s : ByteArray) (c : Nat) (w : World), c ≤ 9223372036854775807 → s.size * c ≤ 140737488355328 → Calls P f #[.string s, .int .i64 c] w fun e w' => e = .returned (.string ⟨(Lib.repeatL s.data.toList c).toArray⟩) ∧ Below w.heap.size w w') : OrcOK P E f gRepeat := by
  refine ⟨hfn, fun args h v hv => ?_⟩
  unfold gRepeat at hv
  split at hv
  · rename_i s c
    split at hv
    · rename_i hb
      injection hv with hv
      subst hv
      refine ⟨rfl, fun φ w args' hr ht ha => ?_⟩
      cases ha with
      | cons a1 a2 =>
        cases a2 with
        | cons a2 a3 =>
          cases a3
          obtain rfl := a1.plain rfl
          obtain rfl := a2.plain rfl
          have := hc s c.toNat w (by omega) hb.2.2
          rw [Int.toNat_of_nonneg hb.1] at this
          exact this
    · cases hv
  · cases hv
theorem orcJoin {f : FuncId} (hfn : ∃ fn, P.funcs[f]? = some fn ∧ fn.body.isSome = true ∧ fn.name ≠ "runtime.NumGoroutine")
    (hc : ∀ (bk o c : Nat) (xs : List ByteArray) (sep : ByteArray) (w : World), (∀ (j : Nat) x, xs[j]? = some x → w.cell? ⟨bk, o + j, none⟩ = some (.string x)) → bk < w.heap.size → xs.length ≤ 140737488355328 → xs.length ≤ c →
      (Lib.join (xs.map (·.data.toList)) sep.data.toList).length ≤ 140737488355328 →
      Calls P f #[.slice (some ⟨bk, o, none⟩) xs.length c, .string sep] w fun e w' => e = .returned (.string ⟨(Lib.join (xs.map (·.data.toList)) sep.data.toList).toArray⟩) ∧ Below w.heap.size w w') : OrcOK P E f gJoin := by
  refine ⟨hfn, fun args h v hv => ?_⟩
  unfold gJoin at hv
  split at hv
  · rename_i b off n m sep
    split at hv
    · rename_i cells hrd
      split at hv
      · rename_i xs hxs
        split at hv
        · rename_i hb
          obtain ⟨h0, hlen, hbn, hbl⟩ := hb
          injection hv with hv
          subst hv
          refine ⟨rfl, fun φ w args' hr ht ha => ?_⟩
          cases ha with
          | cons a1 a2 =>
            cases a2 with
            | cons a2 a3 =>
              cases a3
              obtain rfl := a2.plain rfl
              cases a1 with
              | slc hφ hn hm htop hA =>
                rename_i c sh es top m' A
                have hA : A = ⟨c, sh + off, none⟩ := by
                  rcases hA with h1 | h1
                  · exact h1
                  · omega
                subst hA
                have hcell := strsOf_some hxs
                unfold rd at hrd
                split at hrd
                · rename_i cs0 size es0 hb0
                  split at hrd
                  · rename_i hsz
                    have hlt := hr.lt hb0 hφ
                    obtain ⟨_, cs, ty, fr, hh, _, h3, h4, h5⟩ := hr.blk b _ _ _ hb0 _ hφ
                    have hget : ∀ j, j < n → cs0.get (off + j) = cells[j]? := fun j hj => (getCells_some _ _ _ _ hrd).2 j hj
                    have := hc c (sh + off) m' xs sep w (fun j x hx => by
                      have hj : j < n := by rw [← hlen]; exact (List.getElem?_eq_some_iff.1 hx).1
                      obtain ⟨v, v', q1, q2, q3⟩ := h5 (off + j) (by omega)
                      rw [hget j hj, hcell, List.getElem?_map, hx] at q1
                      simp only [Option.map_some, Option.some.injEq] at q1
                      subst q1
                      obtain rfl := q3.plain rfl
                      simp only [World.cell?, hh]
                      rw [show sh + off + j = sh + (off + j) by omega]
                      exact q2) hlt (by omega) (by omega) hbl
                    rw [hlen] at this
                    exact this
                  · cases hrd
                · cases hrd
        · cases hv
      · cases hv
    · cases hv
  · cases hv
theorem tabIs {tabs : List (Nat × List Value)} {w : World} (hw : TabsW tabs w) {name : String} {g : Nat} {k : IntKind} {zs : List Int} (hg : P.globalNamed name = some g) (hm : (g, zs.map fun z => Value.int k z) ∈ tabs) : Lib.TabIs P w name k zs := by
  obtain ⟨cs, ty, fr, hh, h1, h2⟩ := hw _ hm
  unfold Lib.TabIs World.var?
  rw [hg]
  simp only [Option.bind_some]
  simp only at hh
  rw [hh]
  simp only [Option.some.injEq]
  apply Array.ext'
  apply List.ext_getElem?
  intro i
  simp only at h1 h2
  by_cases hi : i < (zs.map fun z => Value.int k z).length
  · have := h1 i _ (List.getElem?_eq_getElem hi)
    rw [Array.getElem?_toList, this, List.toList_toArray, List.getElem?_eq_getElem hi]
  · rw [List.getElem?_eq_none (by rw [Array.length_toList]; omega), List.getElem?_eq_none (by rw [List.toList_toArray]; omega)]
theorem orcItoa {f : FuncId} {g : Nat} (hfn : ∃ fn, P.funcs[f]? = some fn ∧ fn.body.isSome = true ∧ fn.name ≠ "runtime.NumGoroutine") (hg : P.globalNamed "internal/strconv.uint64pow10" = some g) (hm : (g, Lib.pow10Tab.map fun z => Value.int .u64 z) ∈ E.tabs)
    (hc : ∀ (n : Int), -9223372036854775808 ≤ n → n ≤ 9223372036854775807 → ∀ (w : World), Lib.TabIs P w "internal/strconv.uint64pow10" .u64 Lib.pow10Tab → Calls P f #[.int .i64 n] w fun e w' => e = .returned (.string ⟨(Lib.itoa n).toArray⟩) ∧ Below w.heap.size w w') : OrcOK P E f gItoa := by
  refine ⟨hfn, fun args h v hv => ?_⟩
  unfold gItoa at hv
  split at hv
  · rename_i n
    split at hv
    · rename_i hb
      injection hv with hv
      subst hv
      refine ⟨rfl, fun φ w args' hr ht ha => ?_⟩
      cases ha with
      | cons a1 a2 =>
        cases a2
        obtain rfl := a1.plain rfl
        exact hc n hb.1 hb.2 w (tabIs ht hg hm)
    · cases hv
  · cases hv
end
end Go.Proofs.YthankillfhmfkaaGreatDoor.Ev

