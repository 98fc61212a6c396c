/- New plans. -/
import Derived.Test.YthiodndhokooiaaGreatDoorPmmA2
set_option linter.unusedSimpArgs false
namespace Go.Proofs.YthiodndhokooiaaGreatDoor.Ev
open Go Go.Proofs
noncomputable section

/-- what must be done before a job -/
def bfP (ps : List (Int × Int)) (j : Nat) : Nat := ps.foldl (fun s p => if p.2 = (j : Int) then s ||| 2 ^ p.1.toNat else s) 0
def okP (n : Nat) (ps : List (Int × Int)) : Bool := ps.all fun p => decide (0 ≤ p.1 ∧ p.1 < n ∧ 0 ≤ p.2 ∧ p.2 < n)
theorem bfP_take {ps : List (Int × Int)} {i j : Nat} {p : Int × Int} (h : ps[i]? = some p) : bfP (ps.take (i + 1)) j = if p.2 = (j : Int) then bfP (ps.take i) j ||| 2 ^ p.1.toNat else bfP (ps.take i) j := by
  obtain ⟨g, rfl⟩ := List.getElem?_eq_some_iff.1 h
  unfold bfP
  rw [List.take_succ_eq_append_getElem g, List.foldl_append]
  rfl
theorem bfP_lt {n : Nat} : ∀ {ps : List (Int × Int)}, okP n ps = true → ∀ j, bfP ps j < 2 ^ n := by
  intro ps h j
  have key : ∀ (ps : List (Int × Int)) (s : Nat), okP n ps = true → s < 2 ^ n → ps.foldl (fun s p => if p.2 = (j : Int) then s ||| 2 ^ p.1.toNat else s) s < 2 ^ n := by
    intro ps
    induction ps with
    | nil => intro s _ hs; exact hs
    | cons p ps ih =>
      intro s hp hs
      unfold okP at hp
      rw [List.all_cons, Bool.and_eq_true, decide_eq_true_eq] at hp
      rw [List.foldl_cons]
      refine ih _ hp.2 ?_
      split
      · exact or_lt hs (by omega)
      · exact hs
  exact key ps 0 h (Nat.two_pow_pos n)
theorem okP_take {n i : Nat} {ps : List (Int × Int)} (h : okP n ps = true) : okP n (ps.take i) = true := by
  unfold okP at h ⊢
  rw [List.all_eq_true] at h ⊢
  exact fun x hx => h x (List.mem_of_mem_take hx)

def u64L (n : Nat) (f : Nat → Nat) : List Value := (List.range n).map fun j => .int .u64 (f j : Nat)
theorem u64L_s {n : Nat} {f : Nat → Nat} : u64L n f = u64s ((List.range n).map f) := by simp [u64L, u64s, List.map_map, Function.comp_def]
theorem u64L_len {n : Nat} {f : Nat → Nat} : (u64L n f).length = n := by simp [u64L]
theorem u64L_get {n j : Nat} {f : Nat → Nat} (h : j < n) : (u64L n f)[j]? = some (.int .u64 (f j : Nat)) := by simp [u64L, h]
theorem u64L_congr {n : Nat} {f f' : Nat → Nat} (h : ∀ k, k < n → f k = f' k) : u64L n f = u64L n f' :=
  List.map_congr_left fun k hk => by rw [h k (List.mem_range.1 hk)]
theorem u64L_set {n R : Nat} {f : Nat → Nat} {z : Nat} (h : R < n) : (u64L n f).take R ++ [.int .u64 (z : Nat)] ++ (u64L n f).drop (R + 1) = u64L n fun r => if r = R then z else f r := by
  have e : (u64L n f).take R ++ [.int .u64 (z : Nat)] ++ (u64L n f).drop (R + 1) = (u64L n f).set R (.int .u64 (z : Nat)) := by
    rw [List.set_eq_take_append_cons_drop, if_pos (by rw [u64L_len]; exact h)]
    simp
  rw [e]
  apply List.ext_getElem?
  intro j
  rw [List.getElem?_set]
  by_cases hj : j < n
  · rw [u64L_get hj, u64L_len]
    by_cases e2 : R = j
    · subst e2
      rw [if_pos rfl, if_pos h, u64L_get h, if_pos rfl]
    · simp [e2, u64L_get hj, Ne.symm e2]
  · by_cases e2 : R = j
    · omega
    · simp only [e2, if_false]
      rw [List.getElem?_eq_none (by rw [u64L_len]; omega), List.getElem?_eq_none (by rw [u64L_len]; omega)]
theorem zeros_u64 : ∀ n, zeros [.int .u64 0] n = u64L n fun _ => 0 := fun n => by
  apply List.ext_getElem?
  intro i
  by_cases h : i < n
  · rw [u64L_get h, zeros_get _ (by decide) n i (by simpa using h)]
    simp [Nat.mod_one]
  · rw [List.getElem?_eq_none (by rw [zeros_length]; simp; omega), List.getElem?_eq_none (by rw [u64L_len]; omega)]
theorem SlV.u64L_at {B : Tr Blk} {lo hi n c b off j : Nat} {f : Nat → Nat} (s : SlV B lo hi 1 n (u64L n f) (.slice (some ⟨b, off, none⟩) n c)) (hj : j < n) : loadv B b (off + j) = some (.int .u64 (f j : Nat)) := by
  obtain ⟨b', off', e, _, _, hld⟩ := s.at_ (by omega)
  injection e with e
  injection e with e1 e2
  subst e1; subst e2
  rw [hld _ (by omega), u64L_get hj]
section
variable {P : Program} {n : Nat} {ops : List Oper} {r tl : List Oper} {k : List Frm} {α : Tr Value} {h : H} {R : Rt} {ty : TypeId} {pos : String} {af : Array Edge}
theorem At_setU {G : Nat} {x y : Operand} {lo hi N b c i : Nat} {f : Nat → Nat} {z : Nat} (hx : ev (En G) h α x = some (.pointer (some ⟨b, 0 + i, none⟩))) (hy : ev (En G) h α y = some (.int .u64 (z : Nat))) (hs : SlV h.blks lo hi 1 N (u64L N f) (.slice (some ⟨b, 0, none⟩) N c)) (hi' : i < N) (hG : G ≤ b)
    (hk : ∀ h', Sto h h' b (0 + i) [.int .u64 (z : Nat)] → SlV h'.blks lo hi 1 N (u64L N fun r => if r = i then z else f r) (.slice (some ⟨b, 0, none⟩) N c) → At P (En G) n ops false r tl k α h' R) :
    At P (En G) n ops false (⟨none, .store 86 x y, ty, pos, af, none⟩ :: r) tl k α h R := by
  cases hs with
  | mk gb glo ghi gsz gL gc =>
    refine At_store (inf := inf86) (b := b) (off := 0 + i) (v := .int .u64 (z : Nat)) i86 hx hy (by rw [size86]; rfl) rfl gb (by rw [size86]; omega) (by rw [En_G]; exact hG) fun h4 hs4 => ?_
    have e := hs4.slv (c := c) (.mk gb glo ghi gsz gL gc) (by show i + 1 ≤ N * 1; omega)
    have e2 : (Value.int .u64 (z : Nat)).cells.toList = [.int .u64 (z : Nat)] := rfl
    rw [e2, List.length_singleton, u64L_set hi'] at e
    exact hk h4 hs4 e
end
theorem build59 {G : Nat} {a b : Option Addr} {n c n' c' : Nat} : buildO (En G) 59 (some [(0, .slice a n c), (1, .slice b n' c')]) = some (.agg #[.slice a n c, .slice b n' c']) := by
  have hu : (En G).u 59 = some (.struct #[_, _]) := us59.trans Tryz.underlying59
  have hz : okConst (.agg #[.slice none 0 0, .slice none 0 0]) = true := rfl
  simp only [buildO, evBuild, i59, hu, zero59, places, i22, size22, i57, size57, hz, if_true]
  rfl
theorem build59z {G : Nat} : buildO (En G) 59 (some []) = some (.agg #[.slice none 0 0, .slice none 0 0]) := by
  have hu : (En G).u 59 = some (.struct #[_, _]) := us59.trans Tryz.underlying59
  have hz : okConst (.agg #[.slice none 0 0, .slice none 0 0]) = true := rfl
  simp only [buildO, evBuild, i59, hu, zero59, places, i22, size22, i57, size57, hz, if_true]
  rfl

/-- jobs and pairs of which a plan is made -/
structure PlanOk (js ps : List (Int × Int)) : Prop where
  pos : 1 ≤ js.length
  le : js.length ≤ 10
  pairs : ps.length ≤ 40
  jobs : inJ js = true
  ok : okP js.length ps = true
  ord : HasO (bfP ps) js.length (2 ^ js.length - 1)

theorem rnd_congr {bf bf' : Nat → Nat} {n : Nat} (h : ∀ j, j < n → bf j = bf' j) : ∀ k, rnd bf n k = rnd bf' n k
  | 0 => rfl
  | k + 1 => by
    have e : ∀ S, rdy bf n S = rdy bf' n S := fun S => by
      unfold rdy
      refine List.filter_congr fun j hj => ?_
      rw [h j (List.mem_range.1 hj)]
    unfold rnd
    rw [rnd_congr h k, e]
theorem bfn_map {n : Nat} {f : Nat → Nat} {j : Nat} (h : j < n) : bfn ((List.range n).map f) j = f j := by
  simp [bfn, List.getD, h]
end
end Go.Proofs.YthiodndhokooiaaGreatDoor.Ev

