/- A cut out of squares. -/
import Derived.Test.YtnhbkoeomefkdaaDoorPmhA2
set_option linter.unusedSimpArgs false
set_option linter.unusedVariables false
namespace Go.Proofs.YtnhbkoeomefkdaaDoor.Ev
open Go Go.Proofs
noncomputable section

section
variable {P : Program} {E : Env} {n : Nat} {ops : List Oper} {q : Bool} {r tl : List Oper} {k : List Frm} {α : Tr Value} {h : H} {R : Rt} {ty : TypeId} {pos : String} {af : Array Edge}
/-- append to an empty literal: a new slice, and a full one -/
theorem At_appendF [NoFz E] {x y : Operand} {ts tx elem elem' : TypeId} {inf : TypeInfo} {z : Value} {lo2 hi2 m d : Nat} {M : List Value} {v : Value} (hu : E.u ts = some (.slice elem)) (hux : E.u tx = some (.slice elem')) (hi' : E.i elem = some inf) (hz : inf.zero = some z)
    (hc : (okConst z && decide (z.cells.size = inf.size) && decide (0 < inf.size) && decide (inf.bytes < 65536)) = true) (hx : ev E h α x = some empV) (hy : ev E h α y = some v) (hv : SlV h.blks lo2 hi2 inf.size m M v)
    (hsm : m < 2147483648) (hone : M.all oneB = true) (hd : d < n)
    (hk : ∀ A' h', Pres h.next h h' → SlV h'.blks h.next h'.next inf.size m M (.slice A' m m) → At P E n ops q r tl k (Tr.put α d (.slice A' m m)) h' R) :
    At P E n ops q (⟨some d, .call ⟨.builtin .append, #[x, y], #[ts, tx]⟩, ty, pos, af, none⟩ :: r) tl k α h R := by
  by_cases hm : m = 0
  · subst hm
    have hM : M = [] := List.length_eq_zero_iff.1 (by rw [hv.len]; simp)
    subst hM
    have hs : srcLen v = some 0 := by cases hv <;> first | (rename_i hn hL; rfl) | rfl
    exact At_append0 hu hux hi' hx hy hs hd (hk _ h (Pres.refl _ _) (.emp rfl rfl))
  · rw [At_heap rfl rfl]
    have hst : (st q h).blks = h.blks := by cases q <;> rfl
    have hv' : SlV (st q h).blks lo2 hi2 inf.size m M v := by rw [hst]; exact hv
    obtain ⟨e1, e2⟩ := srcCells_of hv' (by omega)
    simp only [Bool.and_eq_true, decide_eq_true_eq] at hc
    obtain ⟨⟨⟨c1, c2⟩, c3⟩, c4⟩ := hc
    have hcond : (okConst z && decide (z.cells.size = inf.size) && decide (0 < inf.size) && decide (inf.bytes < 65536) && decide (0 + m < 2147483648) && M.all oneB && decide (M.length = m * inf.size)) = true := by
      simp only [Bool.and_eq_true, decide_eq_true_eq]
      exact ⟨⟨⟨⟨⟨⟨c1, c2⟩, c3⟩, c4⟩, by omega⟩, hone⟩, hv.len⟩
    refine HeapO_new (cells := M) (es := inf.size) (fun b => .slice (some ⟨b, 0, none⟩) m m) hd ?_ fun h' hn => hk (some ⟨h.next, 0, none⟩) h' (hn.pres (Nat.le_refl _)) (hn.slv hv.len)
    rw [evOp_eq]
    have hx1 := (ev_blks hst x).trans hx
    have hy1 := (ev_blks hst y).trans hy
    simp only [evOpS, evs, hx1, hy1]
    show evAppend E (st q h) ts tx empV v = _
    simp only [evAppend, empV, hu, hux, e1, notInt_slice, hi', hm, hz, e2]
    rw [if_pos hcond]
    cases aNew (st q h) M inf.size with
    | none => rfl
    | some x => simp [forceN_eq]
/-- append to a full slice of one's own -/
theorem At_append2 [NoFz E] {x y : Operand} {ts tx elem elem' : TypeId} {inf : TypeInfo} {z : Value} {lo hi lo2 hi2 sl m d : Nat} {L M : List Value} {A : Option Addr} {v : Value} (hu : E.u ts = some (.slice elem)) (hux : E.u tx = some (.slice elem')) (hi' : E.i elem = some inf) (hz : inf.zero = some z)
    (hc : (okConst z && decide (z.cells.size = inf.size) && decide (0 < inf.size) && decide (inf.bytes < 65536)) = true) (hx : ev E h α x = some (.slice A sl sl)) (hs : SlV h.blks lo hi inf.size sl L (.slice A sl sl)) (hhi : hi ≤ h.next) (hG : E.G ≤ lo) (hlo : lo ≤ h.next) (hy : ev E h α y = some v) (hv : SlV h.blks lo2 hi2 inf.size m M v)
    (hsm : sl + m < 2147483648) (hone : M.all oneB = true) (hd : d < n)
    (hk : ∀ A' h', Pres lo h h' → SlV h'.blks lo h'.next inf.size (sl + m) (L ++ M) (.slice A' (sl + m) (sl + m)) → At P E n ops false r tl k (Tr.put α d (.slice A' (sl + m) (sl + m))) h' R) :
    At P E n ops false (⟨some d, .call ⟨.builtin .append, #[x, y], #[ts, tx]⟩, ty, pos, af, none⟩ :: r) tl k α h R := by
  by_cases hm : m = 0
  · subst hm
    have hM : M = [] := List.length_eq_zero_iff.1 (by rw [hv.len]; simp)
    subst hM
    have hs0 : srcLen v = some 0 := by cases hv <;> first | (rename_i hn hL; rfl) | rfl
    refine At_append0 hu hux hi' hx hy hs0 hd ?_
    have := hk A h (Pres.refl _ _) (by rw [List.append_nil]; exact hs.wide (Nat.le_refl _) hhi)
    simpa using this
  · refine At_append hu hux hi' hz hc hx hs (by omega) hG hy hv (by omega) hsm hone hd fun h' ha => hk _ h' (ha.pres hlo fun b hb => hs.blk b hb) ?_
    refine (ha.slv ?_).wide hlo (Nat.le_refl _)
    rw [List.length_append, hs.len, hv.len, Nat.add_mul]
end
theorem wr_of {E : Env} [NoFz E] {h : H} {b off size es : Nat} {cells : Tr Value} {vs : List Value} (hb : h.blks.get b = some (.mk cells size es)) (hle : off + vs.length ≤ size) (hG : E.G ≤ b) (hone : vs.all oneB = true) : ∃ h', wr E h b off vs = some h' ∧ Sto h h' b off vs := by
  refine ⟨{ blks := Tr.put h.blks b (.mk (setCells cells off vs) size es), next := h.next, wm := min h.wm b }, ?_, rfl, Nat.le_refl _, fun b' hb' => ?_, fun c2 s2 e2 h2 => ?_⟩
  · simp only [wr, hb, Tr.force_eq, forceN_eq]
    rw [if_pos ⟨hle, hG, hone, NoFz.frz _⟩]
  · show (Tr.put h.blks b _).get b' = _
    rw [Tr.get_put, if_neg hb']
  · show (Tr.put h.blks b _).get b = _
    rw [Tr.get_put, if_pos rfl]
    rw [hb] at h2
    injection h2 with h2
    injection h2 with f1 f2 f3
    subst f1; subst f2; subst f3
    rfl

theorem En_tabs {G : Nat} : (En G).tabs = tabs := rfl
section
variable {n : Nat} {ops : List Oper} {r tl : List Oper} {k : List Frm} {α : Tr Value} {h : H} {R : Rt} {d G : Nat}
theorem Call_lives (ht : TabsIn tabs h.blks) (hd : d < n) (hk : At Tryd.prog (En G) n ops false r tl k (Tr.put α d (.bool true)) h R) : CallO Tryd.prog (En G) n ops false r tl k α h R (some d) (some (.func (.func 18) #[] #[])) (some []) := by
  refine CallO_of (Q := fun v h' => v = .bool true ∧ h' = h) (CallsE_known En_lives (by rw [En_tabs]; exact ht) ⟨rfl, rfl⟩) hd fun v h' ⟨e1, e2⟩ => ?_
  subst e1; subst e2
  exact ⟨fun e => (by cases e), hk⟩
end
theorem TabsIn.pres {tbs : List (Nat × List Value)} {m : Nat} {h h' : H} (ht : TabsIn tbs h.blks) (hp : Pres m h h') (hm : ∀ x ∈ tbs, x.1 < m) : TabsIn tbs h'.blks := fun x hx => by
  obtain ⟨c, s, e, h1, h2⟩ := ht x hx
  exact ⟨c, s, e, by rw [hp.get _ (hm x hx)]; exact h1, h2⟩
theorem tabs_lt : ∀ x ∈ tabs, x.1 < 3 := fun x hx => by
  simp only [tabs, List.mem_cons, List.not_mem_nil, or_false] at hx
  rcases hx with rfl | rfl | rfl <;> decide
theorem TabsIn.le {m : Nat} {h h' : H} (ht : TabsIn tabs h.blks) (hp : Pres m h h') (hm : 3 ≤ m) : TabsIn tabs h'.blks := ht.pres hp fun x hx => by have := tabs_lt x hx; omega
theorem eqlNil22 {P : Program} {G n c : Nat} {A : Option Addr} : binO P (En G) .eql 22 (some (.slice A n c)) (some (.slice none 0 0)) = some (.bool A.isNone) := by
  have h : evNil (En G) 22 (.slice A n c) (.slice none 0 0) = some A.isNone := by
    simp only [evNil, u22]
    cases A <;> rfl
  have hp : (plainA (.slice A n c) && plainA (.slice none 0 0)) = false := rfl
  simp only [binO, hp, h]
  rfl
theorem orc55 {G : Nat} : (En G).orc.get 55 = some gSq := by rw [En_orc]; rfl
set_option maxHeartbeats 4000000 in
theorem clone_spec {G lo hi c : Nat} {L : List Sq} {A : Option Addr} {h : H} (hv : SlV h.blks lo hi 3 L.length (sqc L) (.slice A L.length c)) (h0 : 0 < L.length) (hn : L.length < 1000000) :
    Spec Tryd.prog (En G) 54 [.slice A L.length c] h fun v h' => ∃ A', v = .slice A' L.length L.length ∧ SlV h'.blks h.next h'.next 3 L.length (sqc L) (.slice A' L.length L.length) := by
  refine CallsE_enter (En_known (by decide)) (En_f.trans Tryd.func54) rfl ⟨Nat.le_of_ble_eq_true rfl, by decide⟩ fun Q' hQ' => ?_
  obtain ⟨b, off, rfl, _, _, _⟩ := hv.at_ h0
  simp only [Tryd.f54, go_sem,reduceIte,Nat.reduceEqDiff,Nat.reduceLT, eqlNil22, Option.isNone_some]
  refine At_lit0 u22 i61 zero61 (by rw [size61]; rfl) (by omega) ?_
  simp only [go_sem,reduceIte,Nat.reduceEqDiff,Nat.reduceLT]
  refine At_appendF (M := sqc L) (m := L.length) (v := .slice (some ⟨b, off, none⟩) L.length c) u22 u22 i61 zero61 (by rw [size61, bytes61]; rfl) (by simp only [go_sem,reduceIte,Nat.reduceEqDiff,Nat.reduceLT]) (by simp only [go_sem,reduceIte,Nat.reduceEqDiff,Nat.reduceLT]) (by rw [size61]; exact hv) (by omega) sqc_one (by omega) fun A' h' hp hs' => ?_
  rw [size61] at hs'
  simp only [go_sem,reduceIte,Nat.reduceEqDiff,Nat.reduceLT]
  exact hQ' _ _ ⟨hp, A', rfl, hs'⟩
theorem sort_calls {G lo hi n c : Nat} {L : List Sq} {A : Option Addr} {h : H} (ht : TabsIn tabs h.blks) (hnl : n = L.length) (hv : SlV h.blks lo hi 3 n (sqc L) (.slice A n c)) (h0 : 0 < L.length) (hn : L.length < 1000000) (hG : G ≤ lo) (hok : ∀ q ∈ L, okSq q) (hd : dis L) :
    CallsE Tryd.prog (En G) 55 [.slice A n c, .func (.func 56) #[] #[]] h fun v h' => v = .tuple #[] ∧ Pres lo h h' ∧ h'.next = h.next ∧ SlV h'.blks lo hi 3 n (sqc (ordSq L)) (.slice A n c) := by
  have hol : (ordSq L).length = L.length := ordSq_perm.length_eq
  cases hv with
  | nil h1 h2 => omega
  | emp h1 h2 => omega
  | mk hb hlo hhi hsz hL hc =>
    rename_i b off size cells
    subst hnl
    have hls : (sqc (ordSq L)).length = L.length * 3 := by rw [sqc_len, hol]
    obtain ⟨h', hw, hst⟩ := wr_of (E := En G) (off := off) (vs := sqc (ordSq L)) hb (by rw [hls]; omega) (by rw [En_G]; omega) sqc_one
    refine CallsE_orw (g := gSq) (b := b) (off := off) (vs := sqc (ordSq L)) (En_kn (by decide)) orc55 (by rw [En_tabs]; exact ht) ?_ hw ⟨rfl, hst.pres hlo, hst.next, ?_⟩
    · have hrd : rd h b off (L.length * 3) = some (sqc L) := by
        simp only [rd, hb]
        rw [if_pos (by omega)]
        exact getCells_of _ _ _ _ sqc_len fun j hj => hc j (by omega)
      have hmem : ∀ x ∈ chunks 3 L.length (sqc L), ∃ q ∈ L, x = tri q.1 q.2.1 q.2.2 := fun x hx => by
        rw [sqc_chunks] at hx
        obtain ⟨q, hq, rfl⟩ := List.mem_map.1 hx
        exact ⟨q, hq, rfl⟩
      simp only [gSq, gSortF, hrd]
      rw [if_pos ⟨rfl, rfl, rfl, h0, by decide, sqc_len, by omega, fun x hx => by
        obtain ⟨q, _, rfl⟩ := hmem x hx
        exact ⟨_, _, _, rfl⟩, fun x hx y hy h1 h2 => by
        obtain ⟨q, hq, rfl⟩ := hmem x hx
        obtain ⟨q', hq', rfl⟩ := hmem y hy
        rw [cfSq_tri, lex2_neg] at h1 h2
        have := cov_one hok hd q hq q' hq' (decide_eq_false h1) (decide_eq_false h2)
        rw [this], sqc_one⟩, sqc_srt]
    · have := Sto.slv (j := 0) (n := L.length) (sz := 3) (lo := lo) (hi := hi) (c := c) (L := sqc L) hst (.mk hb hlo hhi hsz hL hc) (by rw [hls]; omega)
      simp only [List.take_zero, List.nil_append, Nat.zero_add, hls] at this
      rw [List.drop_eq_nil_of_le (by rw [sqc_len]; omega), List.append_nil] at this
      exact this
abbrev cutV (A : Option Addr) (n : Nat) (w h : Int) : Value := .agg #[.slice A n n, .int .i64 w, .int .i64 h]
abbrev cutL (A : Option Addr) (n : Nat) (w h : Int) : List Value := [.slice A n n, .int .i64 w, .int .i64 h]
theorem cutV_cells {A : Option Addr} {n : Nat} {w h : Int} : (cutV A n w h).cells.toList = cutL A n w h := rfl
theorem zero64 : inf64.zero = some (cutV none 0 0 0) := by kernel_rfl
theorem build64 {G : Nat} : buildO (En G) 64 (some []) = some (cutV none 0 0 0) := by
  have hu : (En G).u 64 = _ := us64.trans Tryd.underlying64
  simp only [buildO, evBuild, i64, hu, zero64, places, i3, size3, i22, size22]
  rfl
end
end Go.Proofs.YtnhbkoeomefkdaaDoor.Ev

