/- Round straps: units, changed sets, the least one. -/
import Derived.Test.YtoeblkenmjbfiaaDoorPmoI1
set_option linter.unusedSimpArgs false
set_option linter.unusedVariables false
namespace Go.Proofs.YtoeblkenmjbfiaaDoor.Ev
open Go Go.Proofs
noncomputable section

theorem wr_of {E : Env} [NoFz E] {h : H} {b off size es : Nat} {cells : Tr Value} {vs : List Value} (hb : h.blks.get b = some (.mk cells size es)) (hle : off + vs.length ≤ size) (hG : E.G ≤ b) (hone : vs.all oneB = true) : ∃ h', wr E h b off vs = some h' ∧ Sto h h' b off vs := by
  refine ⟨{ blks := Tr.put h.blks b (.mk (setCells cells off vs) size es), next := h.next, wm := min h.wm b }, ?_, rfl, Nat.le_refl _, fun b' hb' => ?_, fun c2 s2 e2 h2 => ?_⟩
  · simp only [wr, hb, Tr.force_eq, forceN_eq]
    rw [if_pos ⟨hle, hG, hone, NoFz.frz _⟩]
  · show (Tr.put h.blks b _).get b' = _
    rw [Tr.get_put, if_neg hb']
  · show (Tr.put h.blks b _).get b = _
    rw [Tr.get_put, if_pos rfl]
    rw [hb] at h2
    injection h2 with h2
    injection h2 with f1 f2 f3
    subst f1; subst f2; subst f3
    rfl
theorem orc60 {G : Nat} : (En G).orc.get 42 = some gSortI := by
  rw [En_orc]; unfold orcs; simp [Tr.get_put]
theorem ints_one {l : List Int} : (ints l).all oneB = true := by
  rw [List.all_eq_true]
  intro v hv
  obtain ⟨z, _, rfl⟩ := List.mem_map.1 hv
  rfl
/-- slices.Sort -/
theorem sort_calls {G lo hi n c : Nat} {L : List Int} {A : Option Addr} {h : H} (hn : n = L.length) (hv : SlV h.blks lo hi 1 n (ints L) (.slice A n c)) (hA : A = none ∨ 0 < n) (hG : G ≤ lo) (hs : n < 2147483648) :
    CallsE Tryd.prog (En G) 42 [.slice A n c] h fun v h' => v = .tuple #[] ∧ Pres lo h h' ∧ h'.next = h.next ∧ SlV h'.blks lo hi 1 n (ints (srt L)) (.slice A n c) := by
  have ht : TabsIn (En G).tabs h.blks := by rw [En_tabs]; exact fun x hx => by cases hx
  cases hv with
  | nil h1 h2 =>
    have : L = [] := List.eq_nil_of_length_eq_zero (by omega)
    subst this
    exact CallsE_orc (g := gSortI) (v := .tuple #[]) (En_kn (by decide)) orc60 ht rfl ⟨rfl, Pres.refl _ _, rfl, .nil h1 rfl⟩
  | emp h1 h2 =>
    exfalso
    rcases hA with e | e
    · cases e
    · omega
  | mk hb hlo hhi hsz hL hc =>
    rename_i b off size cells
    rcases Nat.eq_zero_or_pos n with e | hpos
    · exfalso
      rcases hA with e2 | e2
      · cases e2
      · omega
    have hls : (ints (srt L)).length = n := by rw [ints_len, srt_len, hn]
    obtain ⟨h', hw, hst⟩ := wr_of (E := En G) (off := off) (vs := ints (srt L)) hb (by rw [hls]; omega) (by rw [En_G]; omega) ints_one
    refine CallsE_orw (g := gSortI) (b := b) (off := off) (vs := ints (srt L)) (En_kn (by decide)) orc60 ht ?_ hw ⟨rfl, hst.pres hlo, hst.next, ?_⟩
    · have hrd : rd h b off n = some (ints L) := by
        simp only [rd, hb]
        rw [if_pos (by omega)]
        exact getCells_of _ _ _ _ (by rw [ints_len, hn]) fun j hj => hc j (by omega)
      simp only [gSortI, hrd]
      have hio : intsOf (ints L) = some L := intsOf_map
      simp only [hio]
      rw [if_pos ⟨hpos, hn.symm, by omega⟩]
      rfl
    · have := Sto.slv (j := 0) (n := n) (sz := 1) (lo := lo) (hi := hi) (c := c) (L := ints L) hst (.mk hb hlo hhi hsz hL hc) (by rw [hls]; omega)
      simp only [List.take_zero, List.nil_append, Nat.zero_add, hls] at this
      rw [List.drop_eq_nil_of_le (by rw [ints_len]; omega), List.append_nil] at this
      exact this

def ul (V n : Nat) : List Int := (uL V n).map fun t : Nat => (t : Int)
theorem ul_len {V n : Nat} : (ul V n).length = (uL V n).length := by simp [ul]
theorem ul_succ {V n : Nat} : ul V (n + 1) = if Nat.gcd n V = 1 then ul V n ++ [(n : Int)] else ul V n := by
  unfold ul
  rw [uL_succ]
  split
  · rw [List.map_append]; rfl
  · rfl
set_option maxHeartbeats 4000000 in
theorem units_spec {G V n c : Nat} {A : Option Addr} {h : H} (hG : G ≤ h.next) (hV : 2 ≤ V) (hV2 : V ≤ 31) :
    Spec Tryd.prog (En G) 29 [.agg #[.int .i64 V, .slice A n c]] h fun v h' => ∃ A', v = .slice A' (ul V V).length (ul V V).length ∧ SlV h'.blks h.next h'.next 1 (ul V V).length (ints (ul V V)) v := by
  refine CallsE_enter (En_known (by decide)) (En_f.trans Tryd.func29) rfl ⟨Nat.le_of_ble_eq_true rfl, by decide⟩ fun Q' hQ' => ?_
  simp only [Tryd.f29, go_sem,reduceIte,Nat.reduceEqDiff,Nat.reduceLT]
  refine At_box (v := .agg #[.int .i64 V, .slice A n c]) (by (simp only [go_sem,reduceIte,Nat.reduceEqDiff,Nat.reduceLT]) <;> rfl) (by omega) fun h0 hn0 => ?_
  have lz : (Value.agg #[Value.int IntKind.i64 V, Value.slice A n c]).cells.toList = [.int .i64 (V : Int), .slice A n c] := rfl
  have hvar := hn0.var
  rw [lz] at hvar
  have n0 := hn0.next
  have pr0 : Pres h.next h h0 := hn0.pres (Nat.le_refl _)
  have la2 : loadv h0.blks h.next 0 = some (.int .i64 (V : Int)) := hvar.load (i := 0) (Nat.zero_lt_succ 1)
  simp only [go_sem,reduceIte,Nat.reduceEqDiff,Nat.reduceLT, fld43_0, load3, Nat.add_zero, Nat.zero_add, la2]
  refine WK_loopN (fun j α h2 => ∃ (i : Nat) (A' : Option Addr), i + j = V ∧ α.get 1 = some (.pointer (some ⟨h.next, 0, none⟩)) ∧ α.get 3 = some (.slice A' (ul V i).length (ul V i).length) ∧ α.get 6 = some (.int .i64 V) ∧ α.get 7 = some (.int .i64 i) ∧
      SlV h2.blks h0.next h2.next 1 (ul V i).length (ints (ul V i)) (.slice A' (ul V i).length (ul V i).length) ∧ Pres h0.next h0 h2) V
    ⟨0, none, by omega, by simp only [go_sem,reduceIte,Nat.reduceEqDiff,Nat.reduceLT], by (simp only [go_sem,reduceIte,Nat.reduceEqDiff,Nat.reduceLT]) <;> rfl, by simp only [go_sem,reduceIte,Nat.reduceEqDiff,Nat.reduceLT], by (simp only [go_sem,reduceIte,Nat.reduceEqDiff,Nat.reduceLT]) <;> rfl, .nil rfl rfl, Pres.refl _ _⟩ (by omega) ?_
  rintro J j α h2 ⟨i, A', hij, e1, e3, e6, e7, hsv, pr⟩ hJ
  have nx2 := pr.next
  by_cases hlt : (i : Int) < V
  · have hvar2 := hvar.mono (B' := h2.blks) (pr.get _ (by omega))
    have lb : loadv h2.blks h.next 0 = some (.int .i64 (V : Int)) := hvar2.load (i := 0) (Nat.zero_lt_succ 1)
    have hle : (ul V i).length ≤ i := by rw [ul_len]; exact uL_len
    simp (disch := omega) only [go_sem,reduceIte,Nat.reduceEqDiff,Nat.reduceLT, e1, e3, e6, e7, hlt, fld43_0, load3, Nat.add_zero, Nat.zero_add, lb]
    refine CallO_same (divisor_spec (a := i) (b := V) (by omega)) (by omega) fun u hu => ?_
    subst hu
    by_cases c1 : Nat.gcd i V = 1
    · have d1 : decide (((Nat.gcd i V : Nat) : Int) = 1) = true := decide_eq_true (by omega)
      simp (disch := omega) only [go_sem,reduceIte,Nat.reduceEqDiff,Nat.reduceLT, e3, e7, d1]
      refine At_pushI (lo := h0.next) (hi := h2.next) (l := ul V i) (z := i) (by (simp only [go_sem,reduceIte,Nat.reduceEqDiff,Nat.reduceLT]) <;> rfl) (by simp only [go_sem,reduceIte,Nat.reduceEqDiff,Nat.reduceLT, e3]) hsv (Nat.le_refl _) (by omega) (by omega) (by omega) (by decide) (by decide) (by decide) fun A3 h3 pr3 hs3 nx3 => ?_
      have e : ul V i ++ [(i : Int)] = ul V (i + 1) := by rw [ul_succ, if_pos c1]
      rw [e] at hs3 ⊢
      simp (disch := omega) only [go_sem,reduceIte,Nat.reduceEqDiff,Nat.reduceLT, e7, wrap_i64]
      refine hJ (V - (i + 1)) _ _ (by omega) ⟨i + 1, A3, by omega, by simp only [go_sem,reduceIte,Nat.reduceEqDiff,Nat.reduceLT, e1], by simp only [go_sem,reduceIte,Nat.reduceEqDiff,Nat.reduceLT], by simp only [go_sem,reduceIte,Nat.reduceEqDiff,Nat.reduceLT, e6], by (simp only [go_sem,reduceIte,Nat.reduceEqDiff,Nat.reduceLT]) <;> rfl, hs3, pr.trans pr3⟩
    · have d1 : decide (((Nat.gcd i V : Nat) : Int) = 1) = false := decide_eq_false (by omega)
      simp (disch := omega) only [go_sem,reduceIte,Nat.reduceEqDiff,Nat.reduceLT, e3, e7, d1, wrap_i64]
      have e : ul V (i + 1) = ul V i := by rw [ul_succ, if_neg c1]
      refine hJ (V - (i + 1)) _ _ (by omega) ⟨i + 1, A', by omega, by simp only [go_sem,reduceIte,Nat.reduceEqDiff,Nat.reduceLT, e1], by rw [e]; simp only [go_sem,reduceIte,Nat.reduceEqDiff,Nat.reduceLT, e3], by simp only [go_sem,reduceIte,Nat.reduceEqDiff,Nat.reduceLT, e6], by (simp only [go_sem,reduceIte,Nat.reduceEqDiff,Nat.reduceLT]) <;> rfl, by rw [e]; exact hsv, pr⟩
  · obtain rfl : i = V := by omega
    simp (disch := omega) only [go_sem,reduceIte,Nat.reduceEqDiff,Nat.reduceLT, e1, e3, e6, e7, hlt]
    exact hQ' _ _ ⟨pr0.trans (pr.le (by omega)), A', rfl, hsv.wide (by omega) (Nat.le_refl _)⟩
end
end Go.Proofs.YtoeblkenmjbfiaaDoor.Ev


