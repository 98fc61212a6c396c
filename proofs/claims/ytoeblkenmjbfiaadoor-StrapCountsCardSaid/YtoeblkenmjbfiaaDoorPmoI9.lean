/- Round straps: bits, lists, what a multiplied set keeps. -/
import Derived.Test.YtoeblkenmjbfiaaDoorPmoI7
import Derived.Test.YtoeblkenmjbfiaaDoorPmQ4
set_option linter.unusedSimpArgs false
set_option linter.unusedVariables false
namespace Go.Proofs.YtoeblkenmjbfiaaDoor.Ev
open Go Go.Proofs
noncomputable section

theorem shr32 {P : Program} {E : Env} {t : TypeId} {k2 : IntKind} {a b : Nat} (hb : b < 32) : binO P E .shr t (some (.int .u32 a)) (some (.int k2 b)) = some (.int .u32 ((a >>> b : Nat) : Int)) := by
  have h1 : (Ev.plainA (.int .u32 a) && Ev.plainA (.int k2 b)) = true := rfl
  have hfast : fastBin .shr (.int .u32 (a : Int)) (.int k2 (b : Int)) = none := by
    show Bool.casesOn (motive := fun _ => Option Value) (Nat.beq (kNum .u32) (kNum k2)) none (fastInt .shr .u32 a b) = none
    cases Nat.beq (kNum .u32) (kNum k2) <;> rfl
  have hn : ¬ ((b : Int) < 0) := by omega
  have e : binOp .shr t (.int .u32 a) (.int k2 b) = pure (.int .u32 ((a : Int).fdiv (2 ^ min ((b : Int)).toNat IntKind.u32.bits))) := by
    show Op.shift .shr .u32 a k2 b = _
    unfold Op.shift
    rw [if_neg hn]
  have e2 : (a : Int).fdiv (2 ^ min ((b : Int)).toNat IntKind.u32.bits) = ((a >>> b : Nat) : Int) := by
    have hb32 : IntKind.u32.bits = 32 := rfl
    rw [hb32, Int.toNat_natCast, Nat.min_eq_left (by omega), Nat.shiftRight_eq_div_pow]
    have : (2 : Int) ^ b = ((2 ^ b : Nat) : Int) := by simp
    rw [this, Int.fdiv_eq_ediv_of_nonneg _ (Int.natCast_nonneg _)]
    rfl
  have hs : pureRun P (do eqGuard .shr t (.tmp 0) (.tmp 0) (.int .u32 a) (.int k2 b); binOp .shr t (.int .u32 a) (.int k2 b)) = some (.int .u32 ((a >>> b : Nat) : Int)) := by
    show pureRun P (binOp .shr t (.int .u32 a) (.int k2 b)) = _
    rw [e, e2]; rfl
  simp only [binO, h1, if_true, hfast, slowBin, hs]
  rfl
theorem and32 {P : Program} {E : Env} {t : TypeId} {a : Nat} (ha : a < 4294967296) : binO P E .and t (some (.int .u32 a)) (some (.int .u32 1)) = some (.int .u32 ((a % 2 : Nat) : Int)) := by
  refine binO_slow rfl ?_ rfl
  have hb : (BitVec.ofInt 32 (a : Int) &&& BitVec.ofInt 32 (1 : Int)).toNat = a % 2 := by
    have e1 : BitVec.ofInt 32 (1 : Int) = BitVec.ofNat 32 1 := rfl
    rw [e1, BitVec.ofInt_natCast, BitVec.toNat_and, BitVec.toNat_ofNat, BitVec.toNat_ofNat, Nat.mod_eq_of_lt (by omega)]
    show a &&& 1 = a % 2
    exact Nat.and_one_is_mod a
  have hw : IntKind.u32.wrap ((a % 2 : Nat) : Int) = ((a % 2 : Nat) : Int) := by rw [IntKind.wrap_u32]; omega
  show pureRun P (pure (Value.int .u32 (IntKind.u32.wrap ((BitVec.ofInt 32 (a : Int) &&& BitVec.ofInt 32 (1 : Int)).toNat : Int))) : Sem Value) = _
  rw [hb, hw]; rfl

/-- the places of the bits -/
def bl (p : Nat → Bool) (n : Nat) : List Int := ((List.range n).filter p).map fun q : Nat => (q : Int)
theorem bl_succ {p : Nat → Bool} {n : Nat} : bl p (n + 1) = if p n = true then bl p n ++ [(n : Int)] else bl p n := by
  unfold bl
  rw [List.range_succ, List.filter_append]
  by_cases h : p n = true
  · simp [h]
  · simp [h]
theorem bl_len {p : Nat → Bool} {n : Nat} : (bl p n).length ≤ n := by
  have := List.length_filter_le p (List.range n)
  simpa [bl] using this
theorem bl_lt {p : Nat → Bool} {n : Nat} : (bl p n).Pairwise (· < ·) := by
  unfold bl
  rw [List.pairwise_map]
  refine List.Pairwise.imp (R := fun a b : Nat => a < b) (fun h => by omega) ?_
  exact List.Pairwise.filter _ List.pairwise_lt_range
theorem bl_in {p : Nat → Bool} {n : Nat} : InV n (bl p n) := fun x hx => by
  obtain ⟨q, hq, rfl⟩ := List.mem_map.1 hx
  have := List.mem_range.1 (List.mem_filter.1 hq).1
  omega

theorem rise_of {V : Nat} {l : List Int} (hin : InV V l) (hlt : l.Pairwise (· < ·)) (h0 : 0 < l.length) : RiseP l.length ((V : Int) - 1) fun i => l.getD i 0 := by
  refine ⟨fun i hi => ?_, h0⟩
  have g : ∀ k, (hk : k < l.length) → l.getD k 0 = l[k] := fun k hk => by simp [hk]
  have h1 := hin l[i] (List.getElem_mem hi)
  refine ⟨show 0 ≤ l.getD i 0 by rw [g i hi]; omega, show l.getD i 0 ≤ (V : Int) - 1 by rw [g i hi]; omega, fun hp => ?_⟩
  show l.getD (i - 1) 0 < l.getD i 0
  rw [g i hi, g (i - 1) (by omega)]
  exact List.pairwise_iff_getElem.1 hlt (i - 1) i (by omega) hi (by omega)
theorem ilst_getD {l : List Int} : ilst l.length (fun i => l.getD i 0) = l := by
  unfold ilst
  refine List.ext_getElem (by simp) fun i h1 h2 => ?_
  simp [h2]
theorem round_ok {V : Nat} {l : List Int} (hV : 2 ≤ V) (hV2 : V ≤ 31) (hl : l.length ≤ 31) (hin : InV V l) (hlt : l.Pairwise (· < ·)) (h0 : 0 < l.length) : roundE V l.length (fun i => l.getD i 0) 0 :=
  .inr (.inr (.inr ⟨hl, by omega, rise_of hin hlt h0, rfl⟩))
theorem Multipliers_l {G V lo hi c : Nat} {l : List Int} {A : Option Addr} {h : H} (hG : G ≤ h.next) (hhi : hi ≤ h.next) (hv : SlV h.blks lo hi 1 l.length (ints l) (.slice A l.length c)) (hl : l.length ≤ 31) (h0 : 0 < l.length) (hV : 2 ≤ V) (hV2 : V ≤ 31) (hin : InV V l) (hlt : l.Pairwise (· < ·)) :
    Spec Tryd.prog (En G) 10 [.int .i64 V, .slice A l.length c] h fun w h' => ∃ A', w = .tuple #[.slice A' (mlP V l (uL V V)).length (mlP V l (uL V V)).length, .int .i64 0] ∧ SlV h'.blks h.next h'.next 1 (mlP V l (uL V V)).length (ints (mlP V l (uL V V))) (.slice A' (mlP V l (uL V V)).length (mlP V l (uL V V)).length) := by
  have hr := round_ok hV hV2 hl hin hlt h0
  rw [ints_intsL] at hv
  refine Spec.mono (Multipliers_spec hG hhi hv (by omega)) fun w h' _ hw => ?_
  rcases hw with ⟨e, he, hre, _⟩ | ⟨_, V', A', hV', hw, hs⟩
  · exact absurd (roundE_one hre hr) he
  · obtain rfl : V' = V := by omega
    rw [ilst_getD] at hs hw
    exact ⟨A', hw, hs⟩
theorem last_gcd {N : Nat} (hN : 2 ≤ N) : Nat.gcd (N - 1) N = 1 := by
  have h := Nat.dvd_sub (Nat.gcd_dvd_right (N - 1) N) (Nat.gcd_dvd_left (N - 1) N)
  rw [show N - (N - 1) = 1 by omega] at h
  exact Nat.dvd_one.1 h
end
end Go.Proofs.YtoeblkenmjbfiaaDoor.Ev


