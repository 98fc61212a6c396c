/- What the row's laid variable says of memory. -/
import Derived.Test.YtoeblkenmjbfiaaDoorCards
import Derived.Test.YtoeblkenmjbfiaaDoorTie
import Derived.Test.YtoeblkenmjbfiaaDoorPmoJ3
import Derived.Test.YtoeblkenmjbfiaaDoorPmArg
import Derived.Test.YtoeblkenmjbfiaaDoorPmArgG
import Derived.WalkKit
import Derived.ProofKit
import Derived.OpenShut
import Derived.Lib.LaidTab
set_option linter.unusedSimpArgs false
set_option linter.unusedVariables false
namespace Go.Proofs.YtoeblkenmjbfiaaDoor.PmC
open Go.ChangeShapes Go.WideShapes Go.ChangeAt Go.RowKit
open Go.Proofs Go.Proofs.YtoeblkenmjbfiaaDoor
open Go.Proofs.YtoeblkenmjbfiaaDoor.Ev (evT)

theorem ce3 : Tryd.prog.cellsOf 3 = 1 := by kernel_rfl
theorem ce24 : Tryd.prog.cellsOf 24 = 1 := by kernel_rfl
theorem ce38 : Tryd.prog.cellsOf 38 = 2 := by kernel_rfl
theorem gEven : Tryd.prog.globalNamed "pommel/pommellaw04.even" = some 0 := by kernel_rfl
theorem tEven : (Tryd.prog.globals[0]?).map (·.type) = some 39 := by kernel_rfl
def dOf (e : Nat × List Int × Nat) : DataW Unit := .agg [.lit (.int .i64 e.1), .slice (lits .i64 e.2.1) []]
theorem laid_eq : (Rows.laid_pommel_pommellaw04_even : DataW Unit) = .slice (evT.map dOf) [] := by kernel_rfl
theorem lits_inj {k : IntKind} : ∀ {a b : List Int}, lits (H := Unit) k a = lits k b → a = b
  | [], [], _ => rfl
  | [], _ :: _, h => by cases h
  | _ :: _, [], h => by cases h
  | x :: a, y :: b, h => by
    have h' : (DataW.lit (.int k x) : DataW Unit) :: lits k a = .lit (.int k y) :: lits k b := h
    injection h' with h1 h2
    injection h1 with h1
    injection h1 with h1 h3
    rw [h3, lits_inj h2]
theorem lits_nil {k : IntKind} : ∀ {a : List Int}, lits (H := Unit) k a = [] → a = []
  | [], _ => rfl
  | _ :: _, h => by cases h

/-- a slice of these numbers lies in memory -/
def InnerAt (W : World) (S : List Int) (v : Value) : Prop := ∃ bl off, v = .slice (some ⟨bl, off, none⟩) S.length S.length ∧ ∃ cs ty fr, W.heap[bl]? = some (.cells cs ty fr) ∧ off + S.length ≤ cs.size ∧ ∀ i, i < S.length → cs[off + i]? = some (.int .i64 (S.getD i 0))
theorem inner_of {W : World} {S : List Int} {v : Value} {fuel : Nat} {p : List MemPlace} {z : DataW Unit × List MemPlace} (h0 : 0 < S.length) (hz : z.1 = .slice (lits .i64 S) [])
    (h : DataW.trod (fun _ => ()) Tryd.prog W 0 (fun _ => true) false fuel 24 [v] = some z) : InnerAt W S v := by
  rcases open_ints Tryd.underlying24 Tryd.underlying3 ce3 h with ⟨_, hx⟩ | ⟨a, len, cap, zs, hv, _, hl, _, hzl, hx, hcell, _⟩
  · rw [hx] at hz; cases hz
  · simp only [if_true] at hzl
    rw [hx] at hz
    injection hz with e1 e2
    have e2 := lits_nil e2
    have hlen : cap ≤ len := by
      have := congrArg List.length e2
      simp at this
      omega
    obtain rfl : cap = len := by omega
    have e1 := lits_inj e1
    rw [List.take_of_length_le (by omega)] at e1
    subst e1
    obtain rfl : v = .slice (some a) cap cap := by simpa using hv
    obtain ⟨bl, off, rfl, hj⟩ := ints_at hcell (by omega)
    obtain ⟨cs, ty, fr, hh, hsz, hcs⟩ := Ev.cells_world (w := W) (a := ⟨bl, off, none⟩) (n := cap) (by omega) (V := fun i => .int .i64 (zs.getD i 0)) rfl (fun i hi => hcell i (by omega))
    refine ⟨bl, off, by rw [hzl], cs, ty, fr, hh, by rw [hzl]; exact hsz, fun i hi => hcs i (by omega)⟩

def OuterAt (W : World) : Prop := ∃ bl off ty0 fr0, W.heap[0]? = some (.cells #[.slice (some ⟨bl, off, none⟩) 10 10] ty0 fr0) ∧ ∃ cs ty fr, W.heap[bl]? = some (.cells cs ty fr) ∧ off + 20 ≤ cs.size ∧
  ∀ k (e : Nat × List Int × Nat), evT[k]? = some e → cs[off + 2 * k]? = some (.int .i64 e.1) ∧ ∃ v, cs[off + 2 * k + 1]? = some v ∧ InnerAt W e.2.1 v
theorem take1 {n : Nat} {a b : Value} {l : List Value} (h : n = 1) (h2 : List.take n (a :: l) = [b]) : a = b := by
  subst h; simpa using h2
theorem even_world {W : World} {rest : List (String × DataW Unit)} (h : laidMet Tryd.prog (("pommel/pommellaw04.even", Rows.laid_pommel_pommellaw04_even) :: rest) W) : OuterAt W := by
  obtain ⟨ps, ⟨g, t, cs0, fuel, p, q, hg, ht, hvar, hd, _, _⟩, _⟩ := h
  obtain rfl := Option.some.inj (gEven.symm.trans hg)
  obtain rfl := Option.some.inj (tEven.symm.trans ht)
  rw [laid_eq] at hd
  unfold World.var? at hvar
  rw [gEven] at hvar
  simp only [Option.bind_some] at hvar
  have hlen10 : evT.length = 10 := rfl
  rcases DataW.trod_slice Tryd.underlying39 hd with ⟨_, hx⟩ | ⟨a, len, cap, elems, rst, n, _, hcs, hx, _, hl, _, hlen, hel, hsp, _⟩
  · have := congrArg Prod.fst hx
    cases this
  have hx1 : DataW.slice (evT.map dOf) [] = DataW.slice (elems.map (·.1)) (rst.map (·.1)) := congrArg Prod.fst hx
  injection hx1 with e1 e2
  have hrst : rst = [] := by
    cases rst with
    | nil => rfl
    | cons => cases e2
  have hl10 : len = 10 := by
    have := congrArg List.length e1
    simp only [List.length_map, hlen10] at this
    omega
  have hcap : cap = 10 := by
    have := (hsp rfl).1
    rw [hrst] at this
    simp at this
    omega
  subst hl10; subst hcap
  have each : ∀ k (e : Nat × List Int × Nat), evT[k]? = some e → W.cell? (a.add (2 * k)) = some (.int .i64 e.1) ∧ ∃ v, W.cell? (a.add (2 * k + 1)) = some v ∧ InnerAt W e.2.1 v := by
    intro k e he
    have hk : k < 10 := by
      have := (List.getElem?_eq_some_iff.1 he).1
      omega
    obtain ⟨V', S', o', he', _, _, hS0, _⟩ := Ev.evT_at hk
    rw [he] at he'
    have hS : 0 < e.2.1.length := by
      simp only [Option.some.injEq] at he'
      subst he'
      exact hS0
    have h1 := hel k (by omega)
    have hek : k < elems.length := by omega
    rw [List.getElem?_eq_getElem hek] at h1
    have hy1 : elems[k].1 = dOf e := by
      have := congrArg (fun l => l[k]?) e1
      simp only [List.getElem?_map, he, Option.map_some, List.getElem?_eq_getElem hek, Option.some.injEq] at this
      exact this.symm
    generalize elems[k] = y at h1 hy1
    rw [ce38] at h1
    cases hc2 : W.cells? 0 (a.add (k * 2)) 2 with
    | none => rw [hc2] at h1; cases h1
    | some l2 =>
      rw [hc2] at h1
      simp only [Option.bind_some] at h1
      have hcells := World.cells?_some hc2
      obtain ⟨xs, n2, _, hyx, hl2, hxl, hfs⟩ := DataW.trod_struct Tryd.underlying38 h1
      rw [ce38] at hl2
      match l2, hl2 with
      | [c0, c1], _ =>
      have k0 := hcells.2.2 0 (by omega)
      have k1 := hcells.2.2 1 (by omega)
      rw [hyx] at hy1
      have hy2 : DataW.agg (xs.map (·.1)) = dOf e := hy1
      unfold dOf at hy2
      injection hy2 with hy2
      match xs, hxl with
      | [z0, z1], _ =>
      simp only [List.map_cons, List.map_nil, List.cons.injEq, and_true] at hy2
      have g0 := hfs 0 _ rfl
      have g1 := hfs 1 _ rfl
      obtain ⟨m, hm, hz0, _⟩ := DataW.trod_int Tryd.underlying3 g0
      have hm' : c0 = .int .i64 m := take1 ce3 hm
      have hz0' : z0.1 = .lit (.int .i64 m) := by rw [hz0]
      rw [hz0'] at hy2
      have hmv : m = e.1 := by
        have := hy2.1
        injection this with this
        injection this
      subst hm'
      subst hmv
      have g1' : DataW.trod (fun _ => ()) Tryd.prog W 0 (fun _ => true) false n2 24 [c1] = some z1 := by
        have e5 : List.take (Tryd.prog.cellsOf 24) (List.drop 1 [Value.int .i64 (e.1 : Int), c1]) = [c1] := by rw [ce24]; rfl
        rw [← e5]
        exact g1
      have add_add : ∀ i, (a.add (k * 2)).add i = a.add (2 * k + i) := fun i => by
        unfold Addr.add
        by_cases h1 : k = 0
        · subst h1; simp
        · have h2 : k * 2 ≠ 0 := by omega
          have h3 : 2 * k + i ≠ 0 := by omega
          rw [if_neg h2, if_neg h3]
          by_cases h4 : i = 0
          · subst h4
            rw [if_pos rfl]
            congr 1
            omega
          · rw [if_neg h4]
            congr 1
            simp only
            omega
      rw [add_add] at k0 k1
      refine ⟨by simpa using k0, c1, by simpa using k1, inner_of (p := []) hS hy2.2 g1'⟩
  have hsp0 : a.spot = none := by
    obtain ⟨V', S', o', he', _⟩ := Ev.evT_at (k := 0) (by omega)
    have := (each 0 _ he').1
    unfold World.cell? at this
    cases ha : a.spot with
    | none => rfl
    | some s =>
      simp [Addr.add, ha] at this
      exfalso
      split at this <;> cases this
  obtain ⟨bl, off, sp⟩ := a
  simp only at hsp0
  subst hsp0
  have ad : ∀ i, (⟨bl, off, none⟩ : Addr).add i = ⟨bl, off + i, none⟩ := fun i => Ev.add_mk _ _ _
  obtain ⟨cs, ty, fr, hh⟩ : ∃ cs ty fr, W.heap[bl]? = some (.cells cs ty fr) := by
    have h1 := (each 0 _ rfl).1
    rw [ad] at h1
    unfold World.cell? at h1
    split at h1
    · rename_i cs ty fr hh; exact ⟨cs, ty, fr, hh⟩
    · cases h1
  have cell : ∀ j v, W.cell? ((⟨bl, off, none⟩ : Addr).add j) = some v → cs[off + j]? = some v := fun j v hv => by
    rw [ad] at hv
    simp only [World.cell?, hh] at hv
    exact hv
  have hz : ∃ ty0 fr0, W.heap[0]? = some (.cells #[.slice (some ⟨bl, off, none⟩) 10 10] ty0 fr0) := by
    split at hvar
    · rename_i cs1 ty1 fr1 hh1
      simp only [Option.some.injEq] at hvar
      subst hvar
      refine ⟨ty1, fr1, ?_⟩
      rw [hh1]
      have : cs1 = #[.slice (some ⟨bl, off, none⟩) 10 10] := by
        apply Array.ext'
        rw [hcs]
      rw [this]
    · cases hvar
  obtain ⟨ty0, fr0, hz⟩ := hz
  refine ⟨bl, off, ty0, fr0, hz, cs, ty, fr, hh, ?_, fun k e he => ?_⟩
  · obtain ⟨v, hv, _⟩ := (each 9 _ rfl).2
    have := (Array.getElem?_eq_some_iff.1 (cell _ _ hv)).1
    omega
  · obtain ⟨h1, v, h2, h3⟩ := each k e he
    exact ⟨cell _ _ h1, v, cell _ _ h2, h3⟩
end Go.Proofs.YtoeblkenmjbfiaaDoor.PmC

