/- meet and allCommute. -/
import Derived.Test.YthankillfhmfkaaGreatDoorPmsT2
set_option linter.unusedSimpArgs false
set_option linter.unusedVariables false
namespace Go.Proofs.YthankillfhmfkaaGreatDoor.Ev
open Go Go.Proofs
noncomputable section

/-- what meet answers -/
def meetV (r : List UInt8 × List UInt8 × List UInt8) : Value := .tuple #[strV r.1, strV r.2.1, strV r.2.2]

set_option maxHeartbeats 16000000 in
theorem meet_spec {G k : Nat} {m : List Bool} {a0 b0 : List UInt8} {h : H} (hG : G ≤ h.next) (hm : m.length = 36) (hk : k ≤ 6) (ha0 : OkL 6 a0) (hb0 : OkL 6 b0) (hal : a0.length < 1000000) (hbl : b0.length < 1000000) :
    Spec Tryz.prog (En G) 79 [thrV k m, strV a0, strV b0] h fun v _ => v = meetV (mt (mcomm m) k a0 b0) := by
  refine CallsE_enter (En_known (by decide)) (En_f.trans Tryz.func79) rfl ⟨Nat.le_of_ble_eq_true rfl, by decide⟩ fun Q' hQ' => ?_
  simp only [Tryz.f79, go_sem,reduceIte,Nat.reduceEqDiff,Nat.reduceLT]
  refine At_box (v := thrV k m) (by simp only [go_sem,reduceIte,Nat.reduceEqDiff,Nat.reduceLT]) (by omega) fun h1 hn1 => ?_
  have n1 := hn1.next
  have v2 : Var h1.blks h.next (thrL k m) := hn1.var
  have pr1 : Pres h.next h h1 := hn1.pres (Nat.le_refl _)
  simp only [go_sem,reduceIte,Nat.reduceEqDiff,Nat.reduceLT]
  refine WK_loopN (fun j α h2 => ∃ (y : Nat) (a b o : List UInt8) (A : Option Addr), y ≤ k ∧ j = a.length * 8 + (k - y) ∧ OkL 6 a ∧ OkL 6 b ∧ a.length ≤ a0.length ∧ b.length ≤ b0.length ∧ o.length + a.length ≤ a0.length ∧
      o ++ (mt (mcomm m) k a b).1 = (mt (mcomm m) k a0 b0).1 ∧ (mt (mcomm m) k a b).2 = (mt (mcomm m) k a0 b0).2 ∧ (∀ z, z < y → ¬ (0 ≤ fg (mcomm m) z a 0 ∧ 0 ≤ fg (mcomm m) z b 0)) ∧
      α.get 1 = some (strV a) ∧ α.get 2 = some (strV b) ∧ α.get 3 = some (.pointer (some ⟨h.next, 0, none⟩)) ∧ α.get 9 = some (.slice A o.length o.length) ∧ α.get 10 = some (.int .i64 y) ∧ SlV h2.blks (h.next + 1) h2.next 1 o.length (byts o) (.slice A o.length o.length) ∧ Var h2.blks h.next (thrL k m) ∧ Pres h.next h h2 ∧ h.next + 1 ≤ h2.next) (a0.length * 8 + (k - 0))
    ⟨0, a0, b0, [], none, Nat.zero_le _, rfl, ha0, hb0, Nat.le_refl _, Nat.le_refl _, by simp, by simp, rfl, fun z hz => (by omega), by simp only [go_sem,reduceIte,Nat.reduceEqDiff,Nat.reduceLT], by simp only [go_sem,reduceIte,Nat.reduceEqDiff,Nat.reduceLT], by simp only [go_sem,reduceIte,Nat.reduceEqDiff,Nat.reduceLT], by simp only [go_sem,reduceIte,Nat.reduceEqDiff,Nat.reduceLT]; rfl, by simp only [go_sem,reduceIte,Nat.reduceEqDiff,Nat.reduceLT]; rfl, .nil rfl rfl, v2, pr1, by omega⟩ (by omega) ?_
  clear pr1 v2 hn1 n1 h1
  rintro J j α h2 ⟨y, a, b, o, A, hy, rfl, ha, hb, hla, hlb, hol, hm1, hm2, hnone, e1, e2, e3, e9, e10, hsv, v2, pr, hnx⟩ hJ
  have lk := thr_count v2
  by_cases hlt : (y : Int) < k
  · have la := thr_loadA (G := G) v2 hm
    simp (disch := omega) only [go_sem,reduceIte,Nat.reduceEqDiff,Nat.reduceLT, e1, e2, e3, e9, e10, load3, lk, fld95_0, Nat.add_zero, hlt]
    refine WK_regionT 7 ⟨by kernel_rfl, by kernel_rfl, by kernel_rfl⟩ ?_
    simp only [go_sem,reduceIte,Nat.reduceEqDiff,Nat.reduceLT, e1, e2, e3, e9, e10, la]
    refine CallO_spec (Q := fun v _ => v = .int .i64 (fg (mcomm m) y a 0)) (front_spec (k := k) (x := y) (by have : (st true h2).next = h2.next := rfl; omega) hm (by omega) ha (by omega)) (by omega) (fun v h' wm hq => hq) fun u h3 hp3 hu => ?_
    subst hu
    have n3 := hp3.next
    have v3 := v2.mono (B' := h3.blks) (hp3.get _ (by omega))
    have la3 := thr_loadA (G := G) v3 hm
    simp only [go_sem,reduceIte,Nat.reduceEqDiff,Nat.reduceLT, e1, e2, e3, e9, e10, la3]
    refine CallO_f (front_spec (k := k) (x := y) (by omega) hm (by omega) hb (by omega)) (by omega) fun u h4 hp4 hu => ?_
    subst hu
    have n4 := hp4.next
    have v4 := v3.mono (B' := h4.blks) (hp4.get _ (by omega))
    have pr4 := pr.trans ((hp3.le (by omega)).trans (hp4.le (by omega)))
    have hsv4 : SlV h4.blks (h.next + 1) h2.next 1 o.length (byts o) (.slice A o.length o.length) := (hsv.mono fun b _ hb => hp3.get b hb).mono fun b _ hb => hp4.get b (by omega)
    have hneg : decide ((-1 : Int) < 0) = true := rfl
    by_cases hfa : 0 ≤ fg (mcomm m) y a 0
    · obtain ⟨ha1, ha2, c, ha3, ha4⟩ := at0_lt hfa
      rw [ha2]
      have hgea : decide (((at0 (mcomm m) y a : Nat) : Int) < 0) = false := decide_eq_false (by omega)
      by_cases hfb : 0 ≤ fg (mcomm m) y b 0
      · obtain ⟨hb1, hb2, cb, hb3, hb4⟩ := at0_lt hfb
        rw [hb2]
        have hgeb : decide (((at0 (mcomm m) y b : Nat) : Int) < 0) = false := decide_eq_false (by omega)
        have hnx' : nx2 (mcomm m) k a b = some y := nx2_some.2 ⟨by omega, ⟨hfa, hfb⟩, hnone⟩
        have hcl := ha c (List.mem_of_getElem? ha3)
        have hstep := mt_step hnx'
        rw [byte_of hcl.1 ha4] at hstep
        rw [hstep] at hm1 hm2
        have hwa := wo_len ha1
        have hwb := wo_len hb1
        have hix : ∀ {G : Nat}, idxO (En G) 9 (some (strV a)) (some (.int .i64 ((at0 (mcomm m) y a : Nat) : Int))) = some (.int .u8 c.toNat) := idx9 (by omega) (by simpa using ha3)
        simp only [go_sem,reduceIte,Nat.reduceEqDiff,Nat.reduceLT, hgea, hgeb, e1, e2, e9, hix]
        refine At_push (lo := h.next + 1) (hi := h2.next) (L := byts o) (vs := [.int .u8 c.toNat]) u73 i5 zero5 (by rw [size5, bytes5]; rfl) (by simp only [go_sem,reduceIte,Nat.reduceEqDiff,Nat.reduceLT]; rfl) (by rw [size5]; rfl) (by rw [size5]; rfl) rfl (by simp only [go_sem,reduceIte,Nat.reduceEqDiff,Nat.reduceLT, e9]; rfl) (by rw [size5]; exact hsv4) (by omega) (Nat.le_refl _) (by show G ≤ h.next + 1; omega) (by omega) (by decide) (by decide) (by decide) fun h5 hp5 => ?_
        rw [size5] at hp5
        have n5 := hp5.next
        have hcells : byts o ++ [Value.int .u8 c.toNat] = byts (o ++ [c]) := by rw [byts_append]; rfl
        rw [hcells] at hp5
        have hsv5 := hp5.slv (n := (o ++ [c]).length) (c := (o ++ [c]).length) (by rw [byts_len]; simp)
        have v5 : Var h5.blks h.next (thrL k m) := v4.mono (by
          rw [hp5.get _ (by omega)]
          rw [if_neg fun e => by have := hsv.blk _ e; omega])
        simp only [go_sem,reduceIte,Nat.reduceEqDiff,Nat.reduceLT, e1, e2]
        refine CallO_same (without_spec ha1 (by omega)) (by omega) fun u hu => ?_
        subst hu
        simp only [go_sem,reduceIte,Nat.reduceEqDiff,Nat.reduceLT, e2]
        refine CallO_same (without_spec hb1 (by omega)) (by omega) fun u hu => ?_
        subst hu
        simp only [go_sem,reduceIte,Nat.reduceEqDiff,Nat.reduceLT]
        refine hJ _ _ _ ?_ ⟨0, wo a (at0 (mcomm m) y a), wo b (at0 (mcomm m) y b), o ++ [c], some ⟨h4.next + 1, 0, none⟩, Nat.zero_le _, rfl, ha.wo, hb.wo, by omega, by omega, by simp; omega, by rw [← hm1]; simp, hm2, fun z hz => (by omega), by simp only [go_sem,reduceIte,Nat.reduceEqDiff,Nat.reduceLT]; rfl, by simp only [go_sem,reduceIte,Nat.reduceEqDiff,Nat.reduceLT]; rfl, by simp only [go_sem,reduceIte,Nat.reduceEqDiff,Nat.reduceLT, e3], by simp only [go_sem,reduceIte,Nat.reduceEqDiff,Nat.reduceLT, List.length_append, List.length_singleton], by simp only [go_sem,reduceIte,Nat.reduceEqDiff,Nat.reduceLT]; rfl, hsv5.wide (by omega) (Nat.le_refl _), v5, pr4.trans (hp5.pres (by omega) fun b hb => by have := hsv.blk b hb; omega), by omega⟩
        omega
      · rw [fg_neg hfb]
        simp (disch := omega) only [go_sem,reduceIte,Nat.reduceEqDiff,Nat.reduceLT, hgea, hneg, e10, wrap_i64]
        refine hJ _ _ _ ?_ ⟨y + 1, a, b, o, A, by omega, rfl, ha, hb, hla, hlb, hol, hm1, hm2, fun z hz => ?_, by simp only [go_sem,reduceIte,Nat.reduceEqDiff,Nat.reduceLT, e1], by simp only [go_sem,reduceIte,Nat.reduceEqDiff,Nat.reduceLT, e2], by simp only [go_sem,reduceIte,Nat.reduceEqDiff,Nat.reduceLT, e3], by simp only [go_sem,reduceIte,Nat.reduceEqDiff,Nat.reduceLT, e9], by simp only [go_sem,reduceIte,Nat.reduceEqDiff,Nat.reduceLT]; rfl, hsv4.wide (Nat.le_refl _) (by omega), v4, pr4, by omega⟩
        · omega
        · by_cases hzy : z = y
          · subst hzy; exact fun h => hfb h.2
          · exact hnone z (by omega)
    · rw [fg_neg hfa]
      simp (disch := omega) only [go_sem,reduceIte,Nat.reduceEqDiff,Nat.reduceLT, hneg, e10, wrap_i64]
      refine hJ _ _ _ ?_ ⟨y + 1, a, b, o, A, by omega, rfl, ha, hb, hla, hlb, hol, hm1, hm2, fun z hz => ?_, by simp only [go_sem,reduceIte,Nat.reduceEqDiff,Nat.reduceLT, e1], by simp only [go_sem,reduceIte,Nat.reduceEqDiff,Nat.reduceLT, e2], by simp only [go_sem,reduceIte,Nat.reduceEqDiff,Nat.reduceLT, e3], by simp only [go_sem,reduceIte,Nat.reduceEqDiff,Nat.reduceLT, e9], by simp only [go_sem,reduceIte,Nat.reduceEqDiff,Nat.reduceLT]; rfl, hsv4.wide (Nat.le_refl _) (by omega), v4, pr4, by omega⟩
      · omega
      · by_cases hzy : z = y
        · subst hzy; exact fun h => hfa h.1
        · exact hnone z (by omega)
  · have hyk : y = k := by omega
    subst hyk
    rw [mt_stop (nx2_none.2 hnone)] at hm1 hm2
    simp only [List.append_nil] at hm1
    subst hm1
    simp (disch := omega) only [go_sem,reduceIte,Nat.reduceEqDiff,Nat.reduceLT, e1, e2, e3, e9, e10, load3, lk, fld95_0, Nat.add_zero, hlt, conv55_9 hsv]
    exact hQ' _ _ ⟨pr, by unfold meetV; rw [← hm2]⟩

theorem all_step {α : Type} {f : α → Bool} {l : List α} {i : Nat} {c : α} (hc : l[i]? = some c) : (l.drop i).all f = (f c && (l.drop (i + 1)).all f) := by
  obtain ⟨g, rfl⟩ := List.getElem?_eq_some_iff.1 hc
  rw [List.drop_eq_getElem_cons g, List.all_cons]

set_option maxHeartbeats 16000000 in
theorem allCommute_spec {G k : Nat} {m : List Bool} {a b : List UInt8} {h : H} (hG : G ≤ h.next) (hm : m.length = 36) (ha : OkL 6 a) (hb : OkL 6 b) (hal : a.length < 1000000) (hbl : b.length < 1000000) :
    Spec Tryz.prog (En G) 80 [thrV k m, strV a, strV b] h fun v _ => v = .bool (allC (mcomm m) a b) := by
  refine CallsE_enter (En_known (by decide)) (En_f.trans Tryz.func80) rfl ⟨Nat.le_of_ble_eq_true rfl, by decide⟩ fun Q' hQ' => ?_
  simp only [Tryz.f80, go_sem,reduceIte,Nat.reduceEqDiff,Nat.reduceLT]
  refine At_box (v := thrV k m) (by simp only [go_sem,reduceIte,Nat.reduceEqDiff,Nat.reduceLT]) (by omega) fun h1 hn1 => ?_
  have n1 := hn1.next
  have v3 : Var h1.blks h.next (thrL k m) := hn1.var
  try simp only [go_sem,reduceIte,Nat.reduceEqDiff,Nat.reduceLT]
  refine At_box (v := strV b) (by simp only [go_sem,reduceIte,Nat.reduceEqDiff,Nat.reduceLT]) (by omega) fun h2 hn2 => ?_
  have n2 := hn2.next
  have v5 : Var h2.blks h1.next [strV b] := hn2.var
  replace v3 := v3.mono (B' := h2.blks) (by rw [hn2.get, if_neg (by omega)])
  try simp only [go_sem,reduceIte,Nat.reduceEqDiff,Nat.reduceLT]
  refine At_alloc i4 zero4 rfl (by omega) fun h3 hn3 => ?_
  have n3 := hn3.next
  have v6 : Var h3.blks h2.next [.bool false] := hn3.var
  replace v3 := v3.mono (B' := h3.blks) (by rw [hn3.get, if_neg (by omega)])
  replace v5 := v5.mono (B' := h3.blks) (by rw [hn3.get, if_neg (by omega)])
  have pr3 : Pres h.next h h3 := (hn1.pres (Nat.le_refl _)).trans ((hn2.pres (by omega)).trans (hn3.pres (by omega)))
  simp only [go_sem,reduceIte,Nat.reduceEqDiff,Nat.reduceLT]
  refine CallO_f letters_spec (by omega) fun v h4 hp4 hv => ?_
  obtain ⟨rfl, n4, vs⟩ := hv
  replace v3 := v3.mono (B' := h4.blks) (hp4.get _ (by omega))
  replace v5 := v5.mono (B' := h4.blks) (hp4.get _ (by omega))
  replace v6 := v6.mono (B' := h4.blks) (hp4.get _ (by omega))
  have pr4 : Pres h.next h h4 := pr3.trans (hp4.le (by omega))
  simp only [go_sem,reduceIte,Nat.reduceEqDiff,Nat.reduceLT]
  refine WK_range (g := 111) (p0 := 13) (p1 := 14) (s := ⟨a.toArray⟩) (b := h3.next) (off := 0) (by simp only [go_sem,reduceIte,Nat.reduceEqDiff,Nat.reduceLT]) (by rw [En_iters]; rfl) rfl (by omega) (by omega) (by show a.length < _; omega) rfl
    (fun i h6 => allC (mcomm m) a b = (a.drop i).all (fun x => b.all fun y => mcomm m (lt x) (lt y)) ∧ Var h6.blks h.next (thrL k m) ∧ Var h6.blks h1.next [strV b] ∧ Var h6.blks h2.next [.bool false] ∧ Var h6.blks h3.next [strV a] ∧ Pres h.next h h6 ∧ h4.next ≤ h6.next)
    ⟨rfl, v3, v5, v6, vs, pr4, Nat.le_refl _⟩ (fun i h6 _ ⟨_, _, _, _, vs, _⟩ => vs.iter') ?_ ?_
  · clear v3 v5 v6 vs pr4
    rintro J i h6 c ⟨hf, v3, v5, v6, vs, pr, hnx⟩ hc hJ
    rw [ba_get] at hc
    have hcl := ha c (List.mem_of_getElem? hc)
    have hlt : lt c < 6 := by unfold lt; omega
    rw [all_step hc] at hf
    simp only [go_sem,reduceIte,Nat.reduceEqDiff,Nat.reduceLT]
    rw [lt_int hcl.1]
    refine At_alloc i3 zero3 rfl (by omega) fun h7 hn7 => ?_
    have n7 := hn7.next
    replace v3 := v3.mono (B' := h7.blks) (by rw [hn7.get, if_neg (by omega)])
    replace v5 := v5.mono (B' := h7.blks) (by rw [hn7.get, if_neg (by omega)])
    replace v6 := v6.mono (B' := h7.blks) (by rw [hn7.get, if_neg (by omega)])
    replace vs := vs.mono (B' := h7.blks) (by rw [hn7.get, if_neg (by omega)])
    try simp only [go_sem,reduceIte,Nat.reduceEqDiff,Nat.reduceLT]
    refine At_storeV (inf := inf3) (v := .int .i64 (lt c : Nat)) i3 (by simp only [go_sem,reduceIte,Nat.reduceEqDiff,Nat.reduceLT]) (by simp only [go_sem,reduceIte,Nat.reduceEqDiff,Nat.reduceLT]) hn7.var (by rw [size3]; rfl) (by rw [size3]; rfl) rfl (by show G ≤ h6.next; omega) fun h8 hs8 v8' => ?_
    have n8 := hs8.next
    have v8 : Var h8.blks h6.next [.int .i64 (lt c : Nat)] := v8'
    clear v8'
    replace v3 := v3.mono (B' := h8.blks) (hs8.get _ (by omega))
    replace v5 := v5.mono (B' := h8.blks) (hs8.get _ (by omega))
    replace v6 := v6.mono (B' := h8.blks) (hs8.get _ (by omega))
    replace vs := vs.mono (B' := h8.blks) (hs8.get _ (by omega))
    replace pr := pr.trans ((hn7.pres (by omega)).trans (hs8.pres (by omega)))
    have l5 := v5.load (i := 0) (by simp)
    simp only [List.getElem?_cons_zero] at l5
    simp only [go_sem,reduceIte,Nat.reduceEqDiff,Nat.reduceLT, load9, l5]
    refine CallO_f letters_spec (by omega) fun v h9 hp9 hv => ?_
    obtain ⟨rfl, n9, vb⟩ := hv
    replace v3 := v3.mono (B' := h9.blks) (hp9.get _ (by omega))
    replace v5 := v5.mono (B' := h9.blks) (hp9.get _ (by omega))
    replace v6 := v6.mono (B' := h9.blks) (hp9.get _ (by omega))
    replace v8 := v8.mono (B' := h9.blks) (hp9.get _ (by omega))
    replace vs := vs.mono (B' := h9.blks) (hp9.get _ (by omega))
    replace pr := pr.trans (hp9.le (by omega))
    simp only [go_sem,reduceIte,Nat.reduceEqDiff,Nat.reduceLT]
    refine WK_range (g := 111) (p0 := 17) (p1 := 18) (s := ⟨b.toArray⟩) (b := h8.next) (off := 0) (by simp only [go_sem,reduceIte,Nat.reduceEqDiff,Nat.reduceLT]) (by rw [En_iters]; rfl) rfl (by omega) (by omega) (by show b.length < _; omega) rfl
      (fun j h10 => allC (mcomm m) a b = (((b.drop j).all fun y => mcomm m (lt c) (lt y)) && (a.drop (i + 1)).all (fun x => b.all fun y => mcomm m (lt x) (lt y))) ∧ Var h10.blks h.next (thrL k m) ∧ Var h10.blks h1.next [strV b] ∧ Var h10.blks h2.next [.bool false] ∧ Var h10.blks h3.next [strV a] ∧ Var h10.blks h6.next [.int .i64 (lt c : Nat)] ∧ Var h10.blks h8.next [strV b] ∧ Pres h.next h h10 ∧ h9.next ≤ h10.next)
      ⟨hf, v3, v5, v6, vs, v8, vb, pr, Nat.le_refl _⟩ (fun i h6 _ ⟨_, _, _, _, _, _, vb, _⟩ => vb.iter') ?_ ?_
    · clear v3 v5 v6 v8 vs vb pr hf l5
      rintro J2 j h10 d ⟨hf, v3, v5, v6, vs, v8, vb, pr, hnx2⟩ hd hJ2
      rw [ba_get] at hd
      have hdl := hb d (List.mem_of_getElem? hd)
      have hdt : lt d < 6 := by unfold lt; omega
      rw [all_step hd] at hf
      have l8 := v8.load (i := 0) (by simp)
      simp only [List.getElem?_cons_zero] at l8
      have lc := thr_cell v3 hm hlt hdt
      simp only [go_sem,reduceIte,Nat.reduceEqDiff,Nat.reduceLT]
      rw [lt_int hdl.1]
      simp (disch := omega) only [go_sem,reduceIte,Nat.reduceEqDiff,Nat.reduceLT, load3, load4, l8, fld95_1, idxP93, idxP92, Int.toNat_natCast, Nat.zero_add, Nat.mul_one, lc]
      cases hcm : mcomm m (lt c) (lt d)
      · simp only [go_sem,reduceIte,Nat.reduceEqDiff,Nat.reduceLT]
        refine At_storeV (inf := inf4) (v := .bool false) i4 (by simp only [go_sem,reduceIte,Nat.reduceEqDiff,Nat.reduceLT]) (by simp only [go_sem,reduceIte,Nat.reduceEqDiff,Nat.reduceLT]) v6 (by rw [size4]; rfl) (by rw [size4]; rfl) rfl (by show G ≤ h2.next; omega) fun h11 hs11 v6' => ?_
        have e6 : evLoad (En G) h11 4 (.pointer (some ⟨h2.next, 0, none⟩)) = some (.bool false) := ev_boxed agg4 v6'
        simp only [go_sem,reduceIte,Nat.reduceEqDiff,Nat.reduceLT, e6]
        exact hQ' _ _ ⟨pr.trans (hs11.pres (by omega)), by rw [hf, hcm]; rfl⟩
      · simp only [go_sem,reduceIte,Nat.reduceEqDiff,Nat.reduceLT]
        exact hJ2 _ ⟨by rw [hf, hcm, Bool.true_and], v3, v5, v6, vs, v8, vb, pr, hnx2⟩
    · clear v3 v5 v6 v8 vs vb pr hf l5
      rintro h10 ⟨hf, v3, v5, v6, vs, v8, vb, pr, hnx2⟩
      have hdr : b.drop (⟨b.toArray⟩ : ByteArray).size = [] := List.drop_of_length_le (Nat.le_refl _)
      rw [hdr, List.all_nil, Bool.true_and] at hf
      simp only [go_sem,reduceIte,Nat.reduceEqDiff,Nat.reduceLT]
      exact hJ _ ⟨hf, v3, v5, v6, vs, pr, by omega⟩
  · clear v3 v5 v6 vs pr4
    rintro h6 ⟨hf, v3, v5, v6, vs, pr, hnx⟩
    have hdr : a.drop (⟨a.toArray⟩ : ByteArray).size = [] := List.drop_of_length_le (Nat.le_refl _)
    rw [hdr, List.all_nil] at hf
    simp only [go_sem,reduceIte,Nat.reduceEqDiff,Nat.reduceLT]
    refine At_storeV (inf := inf4) (v := .bool true) i4 (by simp only [go_sem,reduceIte,Nat.reduceEqDiff,Nat.reduceLT]) (by simp only [go_sem,reduceIte,Nat.reduceEqDiff,Nat.reduceLT]) v6 (by rw [size4]; rfl) (by rw [size4]; rfl) rfl (by show G ≤ h2.next; omega) fun h11 hs11 v6' => ?_
    have e6 : evLoad (En G) h11 4 (.pointer (some ⟨h2.next, 0, none⟩)) = some (.bool true) := ev_boxed agg4 v6'
    simp only [go_sem,reduceIte,Nat.reduceEqDiff,Nat.reduceLT, e6]
    exact hQ' _ _ ⟨pr.trans (hs11.pres (by omega)), by rw [hf]⟩
end
end Go.Proofs.YthankillfhmfkaaGreatDoor.Ev


