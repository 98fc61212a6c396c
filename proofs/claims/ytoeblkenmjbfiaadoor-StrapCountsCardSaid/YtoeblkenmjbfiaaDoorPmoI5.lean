/- Round straps: the reference's turned sets; equal lists; the program's two functions. -/
import Derived.Test.YtoeblkenmjbfiaaDoorPmoI4
import Derived.Test.YtoeblkenmjbfiaaDoorPmoG9
set_option linter.unusedSimpArgs false
set_option linter.unusedVariables false
namespace Go.Proofs.YtoeblkenmjbfiaaDoor.Ev
open Go Go.Proofs
noncomputable section

def boolsL (n : Nat) (p : Nat → Bool) : List Value := (List.range n).map fun j => .bool (p j)
theorem boolsL_len {n : Nat} {f : Nat → Bool} : (boolsL n f).length = n := by simp [boolsL]
theorem boolsL_get {n j : Nat} {f : Nat → Bool} (h : j < n) : (boolsL n f)[j]? = some (.bool (f j)) := by simp [boolsL, h]
theorem SlV.bools_at' {B : Tr Blk} {lo hi n c b off j : Nat} {f : Nat → Bool} (s : SlV B lo hi 1 n (boolsL n f) (.slice (some ⟨b, off, none⟩) n c)) (hj : j < n) : loadv B b (off + j) = some (.bool (f j)) := by
  obtain ⟨b', off', e, _, _, hld⟩ := s.at_ (by omega)
  injection e with e
  injection e with e1 e2
  subst e1; subst e2
  rw [hld j (by omega), boolsL_get hj]
theorem boolsL_set {n R : Nat} {f : Nat → Bool} {z : Bool} (h : R < n) : (boolsL n f).take R ++ [.bool z] ++ (boolsL n f).drop (R + 1) = boolsL n fun r => if r = R then z else f r := by
  have e : (boolsL n f).take R ++ [.bool z] ++ (boolsL n f).drop (R + 1) = (boolsL n f).set R (.bool z) := by
    rw [List.set_eq_take_append_cons_drop, if_pos (by rw [boolsL_len]; exact h)]
    simp
  rw [e]
  apply List.ext_getElem?
  intro j
  rw [List.getElem?_set]
  by_cases hj : j < n
  · rw [boolsL_get hj, boolsL_len]
    by_cases e2 : R = j
    · subst e2
      simp [h, boolsL_get h]
    · simp [e2, boolsL_get hj, Ne.symm e2]
  · by_cases e2 : R = j
    · omega
    · simp only [e2, if_false]
      rw [List.getElem?_eq_none (by rw [boolsL_len]; omega), List.getElem?_eq_none (by rw [boolsL_len]; omega)]
theorem boolsL_congr {n : Nat} {f f' : Nat → Bool} (h : ∀ k, k < n → f k = f' k) : boolsL n f = boolsL n f' :=
  List.map_congr_left fun k hk => by rw [h k (List.mem_range.1 hk)]
theorem zeros_bools : ∀ n, zeros [.bool false] n = boolsL n fun _ => false := fun n => by
  apply List.ext_getElem?
  intro i
  by_cases h : i < n
  · rw [boolsL_get h, zeros_get _ (by decide) n i (by simpa using h)]
    simp [Nat.mod_one]
  · rw [List.getElem?_eq_none (by rw [zeros_length]; simp; omega), List.getElem?_eq_none (by rw [boolsL_len]; omega)]
section
variable {P : Program} {n : Nat} {ops : List Oper} {r tl : List Oper} {k : List Frm} {α : Tr Value} {h : H} {R : Rt} {ty : TypeId} {pos : String} {af : Array Edge}
theorem At_setBool {G : Nat} {x y : Operand} {lo hi N b c i : Nat} {f : Nat → Bool} {z : Bool} (hx : ev (En G) h α x = some (.pointer (some ⟨b, 0 + i, none⟩))) (hy : ev (En G) h α y = some (.bool z)) (hs : SlV h.blks lo hi 1 N (boolsL N f) (.slice (some ⟨b, 0, none⟩) N c)) (hi' : i < N) (hG : G ≤ b)
    (hk : ∀ h', Sto h h' b (0 + i) [.bool z] → SlV h'.blks lo hi 1 N (boolsL N fun r => if r = i then z else f r) (.slice (some ⟨b, 0, none⟩) N c) → At P (En G) n ops false r tl k α h' R) :
    At P (En G) n ops false (⟨none, .store 4 x y, ty, pos, af, none⟩ :: r) tl k α h R := by
  cases hs with
  | mk gb glo ghi gsz gL gc =>
    refine At_store (inf := inf4) (b := b) (off := 0 + i) (v := .bool z) i4 hx hy (by rw [size4]; rfl) rfl gb (by rw [size4]; omega) (by rw [En_G]; exact hG) fun h4 hs4 => ?_
    have e := hs4.slv (c := c) (.mk gb glo ghi gsz gL gc) (by show i + 1 ≤ N * 1; omega)
    have e2 : (Value.bool z).cells.toList = [.bool z] := rfl
    rw [e2, List.length_singleton, boolsL_set hi'] at e
    exact hk h4 hs4 e
end

/-- the places of a list, one after the other -/
def pls (T : List Int) (n : Nat) : List Int := ((List.range n).filter fun q : Nat => decide ((q : Int) ∈ T)).map fun q : Nat => (q : Int)
theorem pls_succ {T : List Int} {n : Nat} : pls T (n + 1) = if (n : Int) ∈ T then pls T n ++ [(n : Int)] else pls T n := by
  unfold pls
  rw [List.range_succ, List.filter_append]
  by_cases h : (n : Int) ∈ T
  · simp [h]
  · simp [h]
theorem pls_len {T : List Int} {n : Nat} : (pls T n).length ≤ n := by
  have := List.length_filter_le (fun q : Nat => decide ((q : Int) ∈ T)) (List.range n)
  simpa [pls] using this
theorem pls_lt {T : List Int} {n : Nat} : (pls T n).Pairwise (· < ·) := by
  unfold pls
  rw [List.pairwise_map]
  refine List.Pairwise.imp (R := fun a b : Nat => a < b) (fun h => by omega) ?_
  exact List.Pairwise.filter _ List.pairwise_lt_range
theorem pls_srt {V : Nat} {T : List Int} (hin : InV V T) (hd : T.Nodup) : pls T V = srt T := by
  refine le_unique ?_ (pls_lt.imp fun h => by omega) (srt_le _)
  refine List.Perm.trans ?_ (srt_perm T).symm
  have hd2 : (pls T V).Nodup := pls_lt.imp fun h => by omega
  rw [List.perm_ext_iff_of_nodup hd2 hd]
  intro x
  constructor
  · intro hx
    obtain ⟨q, hq, rfl⟩ := List.mem_map.1 hx
    simpa using (List.mem_filter.1 hq).2
  · intro hx
    have := hin x hx
    refine List.mem_map.2 ⟨x.toNat, List.mem_filter.2 ⟨by simp; omega, ?_⟩, by omega⟩
    rw [Int.toNat_of_nonneg this.1]
    simpa using hx
theorem tn_nodup {V t : Nat} {s : Int} {l : List Int} (hin : InV V l) (hd : l.Nodup) (hg : Nat.gcd t V = 1) : (tn V t s l).Nodup := by
  have hinj : ∀ x y, x ∈ l → y ∈ l → (x * t + s) % V = (y * t + s) % V → x = y := fun x y hx hy he => by
    have h1 := hin x hx
    have h2 := hin y hy
    have h3 : (V : Int) ∣ (x - y) * t := by
      have := Int.emod_emod_of_dvd
      have h4 := Int.emod_eq_emod_iff_emod_sub_eq_zero.1 he
      have h5 := Int.dvd_of_emod_eq_zero h4
      have e : x * t + s - (y * t + s) = (x - y) * t := by grind
      rwa [e] at h5
    have h4 : V ∣ (x - y).natAbs * t := by
      have := Int.natAbs_dvd_natAbs.2 h3
      rwa [Int.natAbs_mul, Int.natAbs_natCast, Int.natAbs_natCast] at this
    have h5 : V ∣ (x - y).natAbs := Nat.Coprime.dvd_of_dvd_mul_right (by rw [Nat.coprime_iff_gcd_eq_one, Nat.gcd_comm]; exact hg) h4
    have h6 : (x - y).natAbs < V := by omega
    have h7 := Nat.eq_zero_of_dvd_of_lt h5 h6
    omega
  unfold tn
  rw [List.nodup_iff_pairwise_ne, List.pairwise_map]
  refine List.Pairwise.imp_of_mem (fun {x y} hx hy (hne : x ≠ y) he => hne (hinj x y hx hy he)) (List.nodup_iff_pairwise_ne.1 hd)

set_option maxHeartbeats 8000000 in
theorem Turned_spec {G V lo hi t s c : Nat} {l : List Int} {A : Option Addr} {h : H} (hG : G ≤ h.next) (hhi : hi ≤ h.next) (hv : SlV h.blks lo hi 1 l.length (ints l) (.slice A l.length c)) (hl : l.length ≤ 31) (hV : 2 ≤ V) (hV2 : V ≤ 31) (ht : t ≤ 31) (hs : s ≤ 31) (hin : InV V l) :
    Spec Tryd.prog (En G) 13 [.int .i64 V, .slice A l.length c, .int .i64 t, .int .i64 s] h fun v h' => ∃ A', v = .slice A' (pls (tn V t s l) V).length (pls (tn V t s l) V).length ∧ SlV h'.blks h.next h'.next 1 (pls (tn V t s l) V).length (ints (pls (tn V t s l) V)) v := by
  refine CallsE_enter (En_known (by decide)) (En_f.trans Tryd.func13) rfl ⟨Nat.le_of_ble_eq_true rfl, by decide⟩ fun Q' hQ' => ?_
  simp only [Tryd.f13, go_sem,reduceIte,Nat.reduceEqDiff,Nat.reduceLT]
  refine At_make (k1 := .i64) (k2 := .i64) (l := V) (c := V) u32 i4 zero4 (by rw [size4, bytes4]; rfl) (by simp only [go_sem,reduceIte,Nat.reduceEqDiff,Nat.reduceLT]) (by simp only [go_sem,reduceIte,Nat.reduceEqDiff,Nat.reduceLT]) (Nat.le_refl _) (by rw [size4]; omega) (by omega) (by omega) fun h1 hn1 => ?_
  rw [size4] at hn1
  have n1 := hn1.next
  have hz := hn1.slv (n := V) (c := V) (by rw [zeros_length]; rfl)
  have hzz : zeros (Value.bool false).cells.toList V = boolsL V fun p => decide ((p : Int) ∈ tn V t s (l.take 0)) := (zeros_bools V).trans (boolsL_congr fun k _ => rfl)
  rw [hzz] at hz
  have pr1 : Pres h.next h h1 := hn1.pres (Nat.le_refl _)
  obtain ⟨f, hfe, hf, _⟩ := fnOf l
  try simp only [go_sem,reduceIte,Nat.reduceEqDiff,Nat.reduceLT]
  refine At_lit0 u24 i3 zero3 (by rw [size3]; rfl) (by omega) ?_
  simp only [go_sem,reduceIte,Nat.reduceEqDiff,Nat.reduceLT]
  refine WK_loopN (fun j α h2 => ∃ i : Nat, i + j = l.length ∧ α.get 0 = some (.int .i64 V) ∧ α.get 1 = some (.slice A l.length c) ∧ α.get 2 = some (.int .i64 t) ∧ α.get 3 = some (.int .i64 s) ∧ α.get 9 = some (.slice (some ⟨h.next, 0, none⟩) V V) ∧ α.get 10 = some (.slice (some ⟨0, 0, some 0⟩) 0 0) ∧ α.get 11 = some (.int .i64 i) ∧
      SlV h2.blks h.next h1.next 1 V (boolsL V fun p => decide ((p : Int) ∈ tn V t s (l.take i))) (.slice (some ⟨h.next, 0, none⟩) V V) ∧ Pres h.next h h2 ∧ h2.next = h1.next) l.length
    ⟨0, by omega, by simp only [go_sem,reduceIte,Nat.reduceEqDiff,Nat.reduceLT], by simp only [go_sem,reduceIte,Nat.reduceEqDiff,Nat.reduceLT], by simp only [go_sem,reduceIte,Nat.reduceEqDiff,Nat.reduceLT], by simp only [go_sem,reduceIte,Nat.reduceEqDiff,Nat.reduceLT], by simp only [go_sem,reduceIte,Nat.reduceEqDiff,Nat.reduceLT], by (simp only [go_sem,reduceIte,Nat.reduceEqDiff,Nat.reduceLT]) <;> rfl, by (simp only [go_sem,reduceIte,Nat.reduceEqDiff,Nat.reduceLT]) <;> rfl, hz, pr1, rfl⟩ (by omega) ?_
  rintro J j α h2 ⟨i, hij, e0, e1, e2, e3, e9, e10, e11, hsv, pr, hnx⟩ hJ
  by_cases hlt : (i : Int) < (l.length : Int)
  · have hil : i < l.length := by omega
    have hv2 : SlV h2.blks lo hi 1 l.length (intsL l.length f) (.slice A l.length c) := by
      rw [← hfe]
      exact hv.mono fun b _ hb => pr.get b (by omega)
    obtain ⟨b, off, rfl, hld⟩ := hv2.ints_at (by omega)
    have l1 := hld i hil
    have hfi := hin (l[i]) (List.getElem_mem hil)
    rw [← hf i hil] at hfi
    have hm1 : 0 ≤ f i * (t : Int) := Int.mul_nonneg hfi.1 (by omega)
    have hm2 : f i * (t : Int) ≤ 31 * 31 := Int.mul_le_mul (by omega) (by omega) (by omega) (by omega)
    have hy0 := Int.emod_nonneg (f i * (t : Int) + s) (show (V : Int) ≠ 0 by omega)
    have hy1 := Int.emod_lt_of_pos (f i * (t : Int) + s) (show (0 : Int) < V by omega)
    obtain ⟨y, hy⟩ : ∃ y : Nat, (f i * (t : Int) + s) % V = (y : Int) := ⟨((f i * (t : Int) + s) % V).toNat, by omega⟩
    have hmod : (f i * (t : Int) + (s : Int)).tmod (V : Int) = (y : Int) := (Int.tmod_eq_emod_of_nonneg (by omega)).trans hy
    simp (disch := omega) only [go_sem,reduceIte,Nat.reduceEqDiff,Nat.reduceLT, e0, e1, e2, e3, e9, e10, e11, hlt, len24, idxA24, idxA32, load3, Int.toNat_natCast, Nat.mul_one, l1, wrap_i64, hmod]
    refine At_setBool (i := y) (z := true) (by (simp only [go_sem,reduceIte,Nat.reduceEqDiff,Nat.reduceLT]) <;> rfl) (by (simp only [go_sem,reduceIte,Nat.reduceEqDiff,Nat.reduceLT]) <;> rfl) hsv (by omega) (by omega) fun h3 hs3 hsv3 => ?_
    have e : (boolsL V fun r => if r = y then true else decide ((r : Int) ∈ tn V t s (l.take i))) = boolsL V fun p => decide ((p : Int) ∈ tn V t s (l.take (i + 1))) := boolsL_congr fun k _ => by
      rw [tn_take hil, ← hf i hil, hy]
      by_cases hk : k = y
      · subst hk; simp
      · have : ¬ ((k : Int) = (y : Int)) := by omega
        simp [hk, this]
    rw [e] at hsv3
    simp (disch := omega) only [go_sem,reduceIte,Nat.reduceEqDiff,Nat.reduceLT, e11, wrap_i64]
    refine hJ (l.length - (i + 1)) _ _ (by omega) ⟨i + 1, by omega, by simp only [go_sem,reduceIte,Nat.reduceEqDiff,Nat.reduceLT, e0], by simp only [go_sem,reduceIte,Nat.reduceEqDiff,Nat.reduceLT, e1], by simp only [go_sem,reduceIte,Nat.reduceEqDiff,Nat.reduceLT, e2], by simp only [go_sem,reduceIte,Nat.reduceEqDiff,Nat.reduceLT, e3], by simp only [go_sem,reduceIte,Nat.reduceEqDiff,Nat.reduceLT, e9], by simp only [go_sem,reduceIte,Nat.reduceEqDiff,Nat.reduceLT, e10], by (simp only [go_sem,reduceIte,Nat.reduceEqDiff,Nat.reduceLT]) <;> rfl, hsv3, pr.trans (hs3.pres (Nat.le_refl _)), hs3.next.trans hnx⟩
  · obtain rfl : i = l.length := by omega
    rw [List.take_length] at hsv
    simp (disch := omega) only [go_sem,reduceIte,Nat.reduceEqDiff,Nat.reduceLT, e0, e1, e2, e3, e9, e10, e11, hlt, len24]
    generalize tn V t s l = T at hsv hQ' ⊢
    refine WK_loopN (fun j α h3 => ∃ (p : Nat) (A' : Option Addr), p + j = V ∧ α.get 0 = some (.int .i64 V) ∧ α.get 9 = some (.slice (some ⟨h.next, 0, none⟩) V V) ∧ α.get 10 = some (.slice A' (pls T p).length (pls T p).length) ∧ α.get 12 = some (.int .i64 p) ∧
        SlV h3.blks h1.next h3.next 1 (pls T p).length (ints (pls T p)) (.slice A' (pls T p).length (pls T p).length) ∧ Pres h1.next h2 h3 ∧ h2.next ≤ h3.next) V
      ⟨0, some ⟨0, 0, some 0⟩, by omega, by simp only [go_sem,reduceIte,Nat.reduceEqDiff,Nat.reduceLT, e0], by simp only [go_sem,reduceIte,Nat.reduceEqDiff,Nat.reduceLT, e9], by (simp only [go_sem,reduceIte,Nat.reduceEqDiff,Nat.reduceLT, e10]) <;> rfl, by (simp only [go_sem,reduceIte,Nat.reduceEqDiff,Nat.reduceLT]) <;> rfl, .emp rfl rfl, Pres.refl _ _, Nat.le_refl _⟩ (by omega) ?_
    rintro J2 j2 α2 h3 ⟨p, A', hpj, g0, g9, g10, g12, hpv, pr3, nx3⟩ hJ2
    by_cases hlt2 : (p : Int) < (V : Int)
    · have hsv3 := hsv.mono (B' := h3.blks) fun b _ hb => pr3.get b (by omega)
      have l2 := hsv3.bools_at' (j := p) (by omega)
      have hpl := pls_len (T := T) (n := p)
      by_cases c1 : (p : Int) ∈ T
      · have d1 : decide ((p : Int) ∈ T) = true := decide_eq_true c1
        rw [d1] at l2
        simp (disch := omega) only [go_sem,reduceIte,Nat.reduceEqDiff,Nat.reduceLT, g0, g9, g10, g12, hlt2, idxA32, load4, Int.toNat_natCast, Nat.mul_one, l2]
        refine At_pushI (lo := h1.next) (hi := h3.next) (l := pls T p) (z := p) (by (simp only [go_sem,reduceIte,Nat.reduceEqDiff,Nat.reduceLT]) <;> rfl) (by simp only [go_sem,reduceIte,Nat.reduceEqDiff,Nat.reduceLT, g10]) hpv (by omega) (by omega) (by omega) (by omega) (by decide) (by decide) (by decide) fun A3 h4 pr4 hs4 nx4 => ?_
        have e : pls T p ++ [(p : Int)] = pls T (p + 1) := by rw [pls_succ, if_pos c1]
        rw [e] at hs4 ⊢
        simp (disch := omega) only [go_sem,reduceIte,Nat.reduceEqDiff,Nat.reduceLT, g12, wrap_i64]
        refine hJ2 (V - (p + 1)) _ _ (by omega) ⟨p + 1, A3, by omega, by simp only [go_sem,reduceIte,Nat.reduceEqDiff,Nat.reduceLT, g0], by simp only [go_sem,reduceIte,Nat.reduceEqDiff,Nat.reduceLT, g9], by simp only [go_sem,reduceIte,Nat.reduceEqDiff,Nat.reduceLT], by (simp only [go_sem,reduceIte,Nat.reduceEqDiff,Nat.reduceLT]) <;> rfl, hs4, pr3.trans pr4, by omega⟩
      · have d1 : decide ((p : Int) ∈ T) = false := decide_eq_false c1
        rw [d1] at l2
        have e : pls T (p + 1) = pls T p := by rw [pls_succ, if_neg c1]
        simp (disch := omega) only [go_sem,reduceIte,Nat.reduceEqDiff,Nat.reduceLT, g0, g9, g10, g12, hlt2, idxA32, load4, Int.toNat_natCast, Nat.mul_one, l2, wrap_i64]
        refine hJ2 (V - (p + 1)) _ _ (by omega) ⟨p + 1, A', by omega, by simp only [go_sem,reduceIte,Nat.reduceEqDiff,Nat.reduceLT, g0], by simp only [go_sem,reduceIte,Nat.reduceEqDiff,Nat.reduceLT, g9], by rw [e]; simp only [go_sem,reduceIte,Nat.reduceEqDiff,Nat.reduceLT, g10], by (simp only [go_sem,reduceIte,Nat.reduceEqDiff,Nat.reduceLT]) <;> rfl, by rw [e]; exact hpv, pr3, nx3⟩
    · obtain rfl : p = V := by omega
      simp (disch := omega) only [go_sem,reduceIte,Nat.reduceEqDiff,Nat.reduceLT, g0, g9, g10, g12, hlt2]
      exact hQ' _ _ ⟨pr.trans (pr3.le (by omega)), A', rfl, hpv.wide (by omega) (Nat.le_refl _)⟩

theorem bef_none {n m : Nat} {f g : Nat → Int} (h1 : BefR n m f g false) (h2 : BefR m n g f false) : n = m ∧ ∀ k, k < n → f k = g k := by
  rcases h1 with ⟨i, i1, i2, i3, i4, i5⟩ | ⟨a1, a2⟩
  · rcases h2 with ⟨i', j1, j2, j3, j4, j5⟩ | ⟨b1, b2⟩
    · exfalso
      have p1 := of_decide_eq_false i5.symm
      have p2 := of_decide_eq_false j5.symm
      rcases Nat.lt_trichotomy i i' with e | e | e
      · exact i4 (j3 i e).symm
      · subst e; omega
      · exact j4 (i3 i' e).symm
    · exact absurd (b1 i i2 i1).symm i4
  · rcases h2 with ⟨i', j1, j2, j3, j4, j5⟩ | ⟨b1, b2⟩
    · exact absurd (a1 i' j2 j1).symm j4
    · have p1 := of_decide_eq_false a2.symm
      have p2 := of_decide_eq_false b2.symm
      have : n = m := by omega
      exact ⟨this, fun k hk => a1 k hk (by omega)⟩
theorem bef_self {n : Nat} {f : Nat → Int} {b : Bool} (h : BefR n n f f b) : b = false := by
  rcases h with ⟨i, _, _, _, h4, _⟩ | ⟨_, h2⟩
  · exact absurd rfl h4
  · rw [h2]; simp
theorem Same_l {G lo hi lo2 hi2 c c2 : Nat} {A A2 : Option Addr} {l m : List Int} {h : H} (hv : SlV h.blks lo hi 1 l.length (ints l) (.slice A l.length c)) (hw : SlV h.blks lo2 hi2 1 m.length (ints m) (.slice A2 m.length c2)) (hn : l.length < 2147483648) (hm : m.length < 2147483648) :
    Spec Tryd.prog (En G) 11 [.slice A l.length c, .slice A2 m.length c2] h fun v h' => (∃ b, v = .bool b ∧ (b = true ↔ l = m)) ∧ h' = h := by
  refine CallsE_enter (En_known (by decide)) (En_f.trans Tryd.func11) rfl ⟨Nat.le_of_ble_eq_true rfl, by decide⟩ fun Q' hQ' => ?_
  rw [ints_intsL] at hv hw
  simp only [Tryd.f11, go_sem,reduceIte,Nat.reduceEqDiff,Nat.reduceLT]
  refine CallO_same (Before_spec hv hw hn) (by omega) fun u ⟨b, hu, hb⟩ => ?_
  subst hu
  cases b with
  | true =>
    simp only [go_sem,reduceIte,Nat.reduceEqDiff,Nat.reduceLT]
    refine hQ' _ _ ⟨Pres.refl _ _, ⟨_, rfl, ?_⟩, rfl⟩
    simp only [Bool.false_eq_true, false_iff]
    rintro rfl
    have := bef_self hb
    cases this
  | false =>
    simp only [go_sem,reduceIte,Nat.reduceEqDiff,Nat.reduceLT]
    refine CallO_same (Before_spec hw hv hm) (by omega) fun u ⟨b2, hu, hb2⟩ => ?_
    subst hu
    cases b2 with
    | true =>
      simp only [go_sem,reduceIte,Nat.reduceEqDiff,Nat.reduceLT]
      refine hQ' _ _ ⟨Pres.refl _ _, ⟨_, rfl, ?_⟩, rfl⟩
      simp only [Bool.false_eq_true, false_iff]
      rintro rfl
      have := bef_self hb2
      cases this
    | false =>
      simp only [go_sem,reduceIte,Nat.reduceEqDiff,Nat.reduceLT]
      refine hQ' _ _ ⟨Pres.refl _ _, ⟨_, rfl, ?_⟩, rfl⟩
      obtain ⟨e1, e2⟩ := bef_none hb hb2
      simp only [true_iff]
      exact (list_eq e1).1 e2
end
end Go.Proofs.YtoeblkenmjbfiaaDoor.Ev


