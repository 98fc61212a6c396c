/- How often a difference comes: of a multiplied and moved set, of what is not in it; the ten sets. Mathematics alone. -/
import Derived.Test.YtoeblkenmjbfiaaDoorPmQ5
import Derived.Test.YtoeblkenmjbfiaaDoorPmQ2
set_option linter.unusedVariables false
set_option linter.unusedSimpArgs false
namespace Go.Proofs.YtoeblkenmjbfiaaDoor.Ev

/-- all ordered pairs with a difference modulo V -/
def Dc (V : Nat) (l : List Int) (d : Int) : Nat := (l.map fun a => l.countP fun b => decide ((a - b) % V = d)).sum
theorem Dc_perm {V : Nat} {l m : List Int} {d : Int} (h : l.Perm m) : Dc V l d = Dc V m d := by
  unfold Dc
  have e : (fun a => l.countP fun b => decide ((a - b) % (V : Int) = d)) = fun a => m.countP fun b => decide ((a - b) % (V : Int) = d) := funext fun a => h.countP_eq _
  rw [e]
  exact (h.map _).sum_nat
theorem mod_iff {V t : Nat} {a b s d : Int} (hV : 0 < V) (hg : Nat.gcd t V = 1) (hd : 0 ≤ d ∧ d < V) : ((a * t + s) % V - (b * t + s) % V) % V = (d * t) % V ↔ (a - b) % V = d := by
  have e1 : ((a * t + s) % (V : Int) - (b * t + s) % V) % V = ((a - b) * t) % V := by
    rw [← Int.sub_emod, show a * (t : Int) + s - (b * t + s) = (a - b) * t by grind]
  rw [e1]
  constructor
  · intro h
    have h1 : ((a - b) % V * t + 0) % (V : Int) = (d * t + 0) % V := by
      rw [mod_in, Int.add_zero, Int.add_zero]; exact h
    exact tn_inj hg ⟨Int.emod_nonneg _ (by omega), Int.emod_lt_of_pos _ (by omega)⟩ hd h1
  · intro h
    subst h
    have := mod_in (V := (V : Int)) (a := a - b) (t := t) (s := 0)
    rw [Int.add_zero, Int.add_zero] at this
    exact this.symm
theorem Dc_tn {V t : Nat} {s d : Int} {l : List Int} (hV : 0 < V) (hg : Nat.gcd t V = 1) (hd : 0 ≤ d ∧ d < V) : Dc V (tn V t s l) ((d * t) % V) = Dc V l d := by
  unfold Dc tn
  rw [List.map_map]
  congr 1
  refine List.map_congr_left fun a _ => ?_
  simp only [Function.comp]
  rw [List.countP_map]
  congr 1
  funext b
  simp only [Function.comp]
  exact decide_eq_decide.2 (mod_iff hV hg hd)
theorem Dc_cg {V t : Nat} {s d : Int} {l : List Int} (hV : 0 < V) (hg : Nat.gcd t V = 1) (hd : 0 ≤ d ∧ d < V) : Dc V (cg V t s l) ((d * t) % V) = Dc V l d := by
  rw [cg, Dc_perm (srt_perm _), Dc_tn hV hg hd]
theorem sum_map_add {α : Type} {f g : α → Nat} : ∀ l : List α, (l.map fun a => f a + g a).sum = (l.map f).sum + (l.map g).sum
  | [] => rfl
  | a :: l => by
    simp only [List.map_cons, List.sum_cons, sum_map_add l]
    omega
theorem sum_map_ite {α : Type} {p : α → Bool} : ∀ l : List α, (l.map fun a => if p a = true then 1 else 0).sum = l.countP p
  | [] => rfl
  | a :: l => by
    simp only [List.map_cons, List.sum_cons, sum_map_ite l, List.countP_cons]
    omega
def cdn (a d : Int) (l : List Int) : Nat := l.countP fun b => decide (b - a = d)
theorem cdn_congr {p q : Int → Bool} {l : List Int} (h : ∀ x ∈ l, p x = q x) : l.countP p = l.countP q := List.countP_congr fun x hx => by rw [h x hx]
theorem dpc_cdn {a d : Int} {l : List Int} : dpc d (a :: l) = cdn a d l + dpc d l := rfl
theorem Dc_rdc {V : Nat} {d : Int} (hd : 1 ≤ d ∧ d < V) : ∀ {l : List Int}, InV V l → l.Pairwise (· < ·) → Dc V l d = rdc V l d
  | [], _, _ => rfl
  | a :: l, hin, hlt => by
    have hp := List.pairwise_cons.1 hlt
    have ih := Dc_rdc hd (fun x hx => hin x (List.mem_cons_of_mem _ hx)) hp.2
    have ha := hin a List.mem_cons_self
    unfold Dc
    have e1 : ((a :: l).map fun x => (a :: l).countP fun b => decide ((x - b) % (V : Int) = d)).sum = (a :: l).countP (fun b => decide ((a - b) % (V : Int) = d)) + (l.map fun x => (if decide ((x - a) % (V : Int) = d) = true then 1 else 0) + l.countP fun b => decide ((x - b) % (V : Int) = d)).sum := by
      rw [List.map_cons, List.sum_cons]
      congr 2
      refine List.map_congr_left fun x _ => ?_
      rw [List.countP_cons]
      omega
    rw [e1, sum_map_add, sum_map_ite]
    have e2 : (a :: l).countP (fun b => decide ((a - b) % (V : Int) = d)) = cdn a (V - d) l := by
      rw [List.countP_cons]
      have h0 : ((a - a) % (V : Int) = d) ↔ False := by
        rw [show a - a = 0 by omega, Int.zero_emod]
        constructor
        · intro h; omega
        · exact False.elim
      simp only [h0, decide_false, Bool.false_eq_true, if_false, Nat.add_zero]
      show _ = List.countP _ _
      refine cdn_congr fun b hb => ?_
      have h1 := hp.1 b hb
      have h2 := hin b (List.mem_cons_of_mem _ hb)
      refine decide_eq_decide.2 ?_
      have e : (a - b) % (V : Int) = a - b + V := by
        rw [← Int.add_emod_right, Int.emod_eq_of_lt (by omega) (by omega)]
      rw [e]
      omega
    have e3 : l.countP (fun x => decide ((x - a) % (V : Int) = d)) = cdn a d l := by
      show _ = List.countP _ _
      refine cdn_congr fun b hb => ?_
      have h1 := hp.1 b hb
      have h2 := hin b (List.mem_cons_of_mem _ hb)
      refine decide_eq_decide.2 ?_
      rw [Int.emod_eq_of_lt (by omega) (by omega)]
    rw [e2, e3]
    have ih' : (l.map fun x => l.countP fun b => decide ((x - b) % (V : Int) = d)).sum = rdc V l d := ih
    rw [ih']
    unfold rdc
    rw [dpc_cdn, dpc_cdn]
    omega
/-- each difference comes as often -/
def Ev (V : Nat) (l : List Int) (o : Nat) : Prop := ∀ d : Int, 1 ≤ d → d < V → rdc V l d = o
theorem Ev.cg {V t o : Nat} {s : Int} {l : List Int} (h : Ev V l o) (hV : 2 ≤ V) (hV2 : V ≤ 31) (ht : t < V) (hg : Nat.gcd t V = 1) (hin : InV V l) (hlt : l.Pairwise (· < ·)) : Ev V (cg V t s l) o := by
  intro d h1 h2
  obtain ⟨r, r1, r2, r3⟩ := inv_ex hV hV2 ht hg
  obtain ⟨x, hx, he⟩ := tn_surj (s := 0) (y := d) hV r3 ⟨by omega, h2⟩
  rw [Int.add_zero] at he
  have hx0 : x ≠ 0 := by
    rintro rfl
    rw [Int.zero_mul, Int.zero_emod] at he
    omega
  rw [← Dc_rdc ⟨h1, h2⟩ (cg_in (by omega)) (cg_lt' (by omega) hin hlt hg), ← he, Dc_cg (by omega) hg hx, Dc_rdc ⟨by omega, hx.2⟩ hin hlt]
  exact h x (by omega) hx.2
/-- the ten sets -/
def evT : List (Nat × List Int × Nat) := [(7, [0, 1, 3], 1), (11, [1, 3, 4, 5, 9], 2), (13, [0, 1, 3, 9], 1), (15, [0, 1, 2, 4, 5, 8, 10], 3), (21, [3, 6, 7, 12, 14], 1), (31, [1, 5, 11, 24, 25, 27], 1), (19, [1, 4, 5, 6, 7, 9, 11, 16, 17], 4), (4, [0, 1, 2], 2), (6, [2], 0), (23, [1, 2, 3, 4, 6, 8, 9, 12, 13, 16, 18], 5)]
def evB (V : Nat) (l : List Int) (o : Nat) : Bool := (List.range (V - 1)).all fun d => rdc V l ((d : Int) + 1) == o
theorem evB_iff {V o : Nat} {l : List Int} (h : evB V l o = true) : Ev V l o := fun d h1 h2 => by
  have := List.all_eq_true.1 h (d - 1).toNat (List.mem_range.2 (by omega))
  rw [beq_iff_eq, Int.toNat_of_nonneg (by omega), show d - 1 + 1 = d by omega] at this
  exact this
def goodB (e : Nat × List Int × Nat) : Bool :=
  decide (2 ≤ e.1) && decide (e.1 ≤ 31) && decide (0 < e.2.1.length) && e.2.1.all (fun x => decide (0 ≤ x) && decide (x < e.1)) && decide (e.2.1.Pairwise (· < ·)) && evB e.1 e.2.1 e.2.2 && evB e.1 (rs e.1 e.2.1) (e.1 + e.2.2 - 2 * e.2.1.length) && decide (2 * e.2.1.length ≤ e.1 + e.2.2) &&
    decide (0 < (rs e.1 e.2.1).length) && decide (e.2.1.length * (e.2.1.length - 1) = e.2.2 * (e.1 - 1))
theorem evT_good : evT.all goodB = true := by decide +kernel
end Go.Proofs.YtoeblkenmjbfiaaDoor.Ev

