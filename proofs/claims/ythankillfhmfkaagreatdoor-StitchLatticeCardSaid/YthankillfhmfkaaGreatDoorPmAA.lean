/- front; the reference's Free and First. -/
import Derived.Test.YthankillfhmfkaaGreatDoorPmsS1
import Derived.Test.YthankillfhmfkaaGreatDoorPmT1
set_option linter.unusedSimpArgs false
set_option linter.unusedVariables false
namespace Go.Proofs.YthankillfhmfkaaGreatDoor.Ev
open Go Go.Proofs
noncomputable section

theorem lt_int {c : UInt8} (h : 97 ≤ c.toNat) : (c.toNat : Int) - 97 = (lt c : Nat) := by unfold lt; omega
theorem fg_step {cm : Nat → Nat → Bool} {x i : Nat} {l : List UInt8} {c : UInt8} (hc : l[i]? = some c) : fg cm x (l.drop i) i = if lt c = x then (i : Int) else if cm (lt c) x then fg cm x (l.drop (i + 1)) (i + 1) else -1 := by
  obtain ⟨g, rfl⟩ := List.getElem?_eq_some_iff.1 hc
  rw [List.drop_eq_getElem_cons g, fg]

set_option maxHeartbeats 4000000 in
theorem front_spec {G k x : Nat} {m : List Bool} {l : List UInt8} {h : H} (hG : G ≤ h.next) (hm : m.length = 36) (hx : x < 6) (hl : OkL 6 l) (hlen : l.length < 1000000) :
    Spec Tryz.prog (En G) 89 [thrV k m, strV l, .int .i64 x] h fun v _ => v = .int .i64 (fg (mcomm m) x l 0) := by
  refine CallsE_enter (En_known (by decide)) (En_f.trans Tryz.func89) rfl ⟨Nat.le_of_ble_eq_true rfl, by decide⟩ fun Q' hQ' => ?_
  simp only [Tryz.f89, go_sem,reduceIte,Nat.reduceEqDiff,Nat.reduceLT]
  refine At_box (v := thrV k m) (by simp only [go_sem,reduceIte,Nat.reduceEqDiff,Nat.reduceLT]) (by omega) fun h1 hn1 => ?_
  have n1 := hn1.next
  have v3 : Var h1.blks h.next (thrL k m) := hn1.var
  try simp only [go_sem,reduceIte,Nat.reduceEqDiff,Nat.reduceLT]
  refine At_box (v := .int .i64 x) (by simp only [go_sem,reduceIte,Nat.reduceEqDiff,Nat.reduceLT]) (by omega) fun h2 hn2 => ?_
  have n2 := hn2.next
  have v5 : Var h2.blks h1.next [.int .i64 x] := hn2.var
  replace v3 := v3.mono (B' := h2.blks) (by rw [hn2.get, if_neg (by omega)])
  try simp only [go_sem,reduceIte,Nat.reduceEqDiff,Nat.reduceLT]
  refine At_alloc i3 zero3 rfl (by omega) fun h3 hn3 => ?_
  have n3 := hn3.next
  have v6 : Var h3.blks h2.next [.int .i64 0] := hn3.var
  replace v3 := v3.mono (B' := h3.blks) (by rw [hn3.get, if_neg (by omega)])
  replace v5 := v5.mono (B' := h3.blks) (by rw [hn3.get, if_neg (by omega)])
  have pr3 : Pres h.next h h3 := (hn1.pres (Nat.le_refl _)).trans ((hn2.pres (by omega)).trans (hn3.pres (by omega)))
  simp only [go_sem,reduceIte,Nat.reduceEqDiff,Nat.reduceLT]
  refine CallO_f letters_spec (by omega) fun v h4 hp4 hv => ?_
  obtain ⟨rfl, n4, vs⟩ := hv
  replace v3 := v3.mono (B' := h4.blks) (hp4.get _ (by omega))
  replace v5 := v5.mono (B' := h4.blks) (hp4.get _ (by omega))
  replace v6 := v6.mono (B' := h4.blks) (hp4.get _ (by omega))
  have pr4 : Pres h.next h h4 := pr3.trans (hp4.le (by omega))
  have l5 := v5.load (i := 0) (by simp)
  simp only [List.getElem?_cons_zero] at l5
  have hend : ∀ z : Int, ∀ h5, Sto h4 h5 h2.next 0 [.int .i64 z] → evLoad (En G) h5 3 (.pointer (some ⟨h2.next, 0, none⟩)) = some (.int .i64 z) := fun z h5 hs => ev_boxed agg3 (hs.var v6 rfl)
  simp only [go_sem,reduceIte,Nat.reduceEqDiff,Nat.reduceLT]
  refine WK_range (g := 111) (p0 := 11) (p1 := 12) (s := ⟨l.toArray⟩) (b := h3.next) (off := 0) (by simp only [go_sem,reduceIte,Nat.reduceEqDiff,Nat.reduceLT]) (by rw [En_iters]; rfl) rfl (by omega) (by omega) (by show l.length < _; omega) rfl
    (fun i h5 => h5 = h4 ∧ fg (mcomm m) x l 0 = fg (mcomm m) x (l.drop i) i) ⟨rfl, rfl⟩ (fun i h5 _ ⟨e, _⟩ => by subst e; exact vs.iter') ?_ ?_
  · rintro J i h5 c ⟨rfl, hf⟩ hc hJ
    rw [ba_get] at hc
    have hcl := hl c (List.mem_of_getElem? hc)
    rw [fg_step hc] at hf
    simp only [go_sem,reduceIte,Nat.reduceEqDiff,Nat.reduceLT, load3, l5]
    rw [lt_int hcl.1]
    have hlt : lt c < 6 := by unfold lt; omega
    by_cases hx1 : lt c = x
    · subst hx1
      rw [if_pos rfl] at hf
      have d : decide (((lt c : Nat) : Int) = ((lt c : Nat) : Int)) = true := decide_eq_true rfl
      simp only [go_sem,reduceIte,Nat.reduceEqDiff,Nat.reduceLT, d]
      refine At_storeV (inf := inf3) (v := .int .i64 i) i3 (by simp only [go_sem,reduceIte,Nat.reduceEqDiff,Nat.reduceLT]) (by simp only [go_sem,reduceIte,Nat.reduceEqDiff,Nat.reduceLT]) v6 (by rw [size3]; rfl) (by rw [size3]; rfl) rfl (by show G ≤ h2.next; omega) fun h6 hs6 v6' => ?_
      have he := hend _ _ hs6
      simp only [go_sem,reduceIte,Nat.reduceEqDiff,Nat.reduceLT, he]
      exact hQ' _ _ ⟨pr4.trans (hs6.pres (by omega)), by rw [hf]⟩
    · rw [if_neg hx1] at hf
      have d : decide (((lt c : Nat) : Int) = ((x : Nat) : Int)) = false := decide_eq_false (by omega)
      simp only [go_sem,reduceIte,Nat.reduceEqDiff,Nat.reduceLT, d]
      refine WK_regionT 4 ⟨by kernel_rfl, by kernel_rfl, by kernel_rfl⟩ ?_
      have lc := thr_cell v3 hm hlt hx
      simp (disch := omega) only [go_sem,reduceIte,Nat.reduceEqDiff,Nat.reduceLT, load3, load4, l5, fld95_1, idxP93, idxP92, Int.toNat_natCast, Nat.zero_add, Nat.mul_one, lc]
      cases hcm : mcomm m (lt c) x
      · simp only [go_sem,reduceIte,Nat.reduceEqDiff,Nat.reduceLT]
        refine At_storeV (inf := inf3) (v := .int .i64 (-1)) i3 (by simp only [go_sem,reduceIte,Nat.reduceEqDiff,Nat.reduceLT]) (by simp only [go_sem,reduceIte,Nat.reduceEqDiff,Nat.reduceLT]) v6 (by rw [size3]; rfl) (by rw [size3]; rfl) rfl (by show G ≤ h2.next; omega) fun h6 hs6 v6' => ?_
        have he := hend _ _ hs6
        simp only [go_sem,reduceIte,Nat.reduceEqDiff,Nat.reduceLT, he]
        exact hQ' _ _ ⟨pr4.trans (hs6.pres (by omega)), by rw [hf, hcm]; rfl⟩
      · simp only [go_sem,reduceIte,Nat.reduceEqDiff,Nat.reduceLT]
        exact hJ _ ⟨rfl, by rw [hf, hcm]; rfl⟩
  · rintro h5 ⟨rfl, hf⟩
    have hdr : l.drop (⟨l.toArray⟩ : ByteArray).size = [] := List.drop_of_length_le (Nat.le_refl _)
    rw [hdr] at hf
    simp only [go_sem,reduceIte,Nat.reduceEqDiff,Nat.reduceLT]
    refine At_storeV (inf := inf3) (v := .int .i64 (-1)) i3 (by simp only [go_sem,reduceIte,Nat.reduceEqDiff,Nat.reduceLT]) (by simp only [go_sem,reduceIte,Nat.reduceEqDiff,Nat.reduceLT]) v6 (by rw [size3]; rfl) (by rw [size3]; rfl) rfl (by show G ≤ h2.next; omega) fun h6 hs6 v6' => ?_
    have he := hend _ _ hs6
    simp only [go_sem,reduceIte,Nat.reduceEqDiff,Nat.reduceLT, he]
    exact hQ' _ _ ⟨pr4.trans (hs6.pres (by omega)), by rw [hf]; rfl⟩

/-- pairs of letters in memory -/
def prs (ps : List (Int × Int)) : List Value := ps.flatMap fun p => [.int .i64 p.1, .int .i64 p.2]
theorem prs_len {ps : List (Int × Int)} : (prs ps).length = ps.length * 2 := by
  induction ps with
  | nil => rfl
  | cons p ps ih => simp only [prs, List.flatMap_cons, List.length_append, List.length_cons, List.length_nil] at ih ⊢; omega
theorem prs_get : ∀ {ps : List (Int × Int)} {i : Nat} {p : Int × Int}, ps[i]? = some p → (prs ps)[i * 2]? = some (.int .i64 p.1) ∧ (prs ps)[i * 2 + 1]? = some (.int .i64 p.2)
  | q :: ps, 0, p, h => by simp at h; subst h; simp [prs]
  | q :: ps, i + 1, p, h => by
    have h' : ps[i]? = some p := by simpa using h
    have := prs_get h'
    rw [show (i + 1) * 2 = i * 2 + 1 + 1 by omega]
    simpa [prs] using this
/-- which letters commute -/
def pc (ps : List (Int × Int)) (a b : Nat) : Bool := ps.any fun p => decide (p.1 = a ∧ p.2 = b ∨ p.1 = b ∧ p.2 = a)
theorem pc_cons {p : Int × Int} {ps : List (Int × Int)} {a b : Nat} : pc (p :: ps) a b = (decide (p.1 = a ∧ p.2 = b ∨ p.1 = b ∧ p.2 = a) || pc ps a b) := by simp only [pc, List.any_cons]
def OkP (k : Nat) (ps : List (Int × Int)) : Prop := ∀ p ∈ ps, 0 ≤ p.1 ∧ p.1 < k ∧ 0 ≤ p.2 ∧ p.2 < k ∧ p.1 ≠ p.2
theorem conv3_5 {P : Program} {G : Nat} {B : Tr Blk} {z : Int} (h0 : 0 ≤ z) (h1 : z ≤ 255) : convO P (En G) B 3 5 (some (.int .i64 z)) = some (.int .u8 z) := by
  rw [convO_int u3 u5, wrap_u8' h0 h1]

set_option maxHeartbeats 4000000 in
theorem free_spec {G lo hi n c k : Nat} {A : Option Addr} {ps : List (Int × Int)} {x y : UInt8} {h : H} (hv : SlV h.blks lo hi 2 n (prs ps) (.slice A n c)) (hn : n < 2147483648) (hk : k ≤ 6) (hps : OkP k ps) (hx : 97 ≤ x.toNat) (hy : 97 ≤ y.toNat) :
    Spec Tryz.prog (En G) 52 [.slice A n c, .int .u8 x.toNat, .int .u8 y.toNat] h fun v h' => v = .bool (pc ps (lt x) (lt y)) ∧ h' = h := by
  have hl : ps.length = n := by have := hv.len; rw [prs_len] at this; omega
  refine CallsE_enter (En_known (by decide)) (En_f.trans Tryz.func52) rfl ⟨Nat.le_of_ble_eq_true rfl, by decide⟩ fun Q' hQ' => ?_
  simp only [Tryz.f52, go_sem,reduceIte,Nat.reduceEqDiff,Nat.reduceLT]
  refine WK_loopN (fun j α h1 => ∃ i : Nat, i + j = n ∧ h1 = h ∧ pc ps (lt x) (lt y) = pc (ps.drop i) (lt x) (lt y) ∧ α.get 0 = some (.slice A n c) ∧ α.get 1 = some (.int .u8 x.toNat) ∧ α.get 2 = some (.int .u8 y.toNat) ∧ α.get 7 = some (.int .i64 i)) n
    ⟨0, by omega, rfl, rfl, by simp only [go_sem,reduceIte,Nat.reduceEqDiff,Nat.reduceLT], by simp only [go_sem,reduceIte,Nat.reduceEqDiff,Nat.reduceLT], by simp only [go_sem,reduceIte,Nat.reduceEqDiff,Nat.reduceLT], by simp only [go_sem,reduceIte,Nat.reduceEqDiff,Nat.reduceLT]; rfl⟩ (by omega) ?_
  rintro J j α h1 ⟨i, hij, rfl, hp, e0, e1, e2, e7⟩ hJ
  by_cases hlt : (i : Int) < n
  · obtain ⟨p, hpi⟩ : ∃ p, ps[i]? = some p := ⟨ps[i]'(by omega), List.getElem?_eq_getElem (by omega)⟩
    have hpb := hps p (List.mem_of_getElem? hpi)
    obtain ⟨b, off, rfl, _, _, hld⟩ := hv.at_ (by omega)
    obtain ⟨g1, g2⟩ := prs_get hpi
    have l1 := hld (i * 2) (by omega)
    have l2 := hld (i * 2 + 1) (by omega)
    rw [g1] at l1
    rw [g2, ← Nat.add_assoc] at l2
    obtain ⟨gi, hpe⟩ := List.getElem?_eq_some_iff.1 hpi
    rw [List.drop_eq_getElem_cons gi, hpe, pc_cons] at hp
    simp (disch := omega) only [go_sem,reduceIte,Nat.reduceEqDiff,Nat.reduceLT, e0, e1, e2, e7, len22, hlt]
    refine WK_regionT 15 ⟨by kernel_rfl, by kernel_rfl, by kernel_rfl⟩ ?_
    simp (disch := omega) only [go_sem,reduceIte,Nat.reduceEqDiff,Nat.reduceLT, e0, e1, e2, e7, idxA22, load3, fld104_0, fld104_1, Int.toNat_natCast, Nat.add_zero, l1, l2, wrap_i64, conv3_5]
    have q1 : (p.1 = (lt x : Nat)) ↔ 97 + p.1 = (x.toNat : Int) := by unfold lt; omega
    have q2 : (p.2 = (lt y : Nat)) ↔ 97 + p.2 = (y.toNat : Int) := by unfold lt; omega
    have q3 : (p.1 = (lt y : Nat)) ↔ 97 + p.1 = (y.toNat : Int) := by unfold lt; omega
    have q4 : (p.2 = (lt x : Nat)) ↔ 97 + p.2 = (x.toNat : Int) := by unfold lt; omega
    simp only [q1, q2, q3, q4] at hp
    have hgo : decide (97 + p.1 = (x.toNat : Int) ∧ 97 + p.2 = (y.toNat : Int) ∨ 97 + p.1 = (y.toNat : Int) ∧ 97 + p.2 = (x.toNat : Int)) = (decide (97 + p.1 = (x.toNat : Int)) && decide (97 + p.2 = (y.toNat : Int)) || decide (97 + p.1 = (y.toNat : Int)) && decide (97 + p.2 = (x.toNat : Int))) := by simp
    rw [hgo] at hp
    cases d1 : decide (97 + p.1 = (x.toNat : Int)) <;> cases d2 : decide (97 + p.2 = (y.toNat : Int)) <;> cases d3 : decide (97 + p.1 = (y.toNat : Int)) <;> cases d4 : decide (97 + p.2 = (x.toNat : Int)) <;>
      simp only [d1, d2, d3, d4, Bool.and_true, Bool.and_false, Bool.true_and, Bool.false_and, Bool.or_false, Bool.or_true, Bool.false_or, Bool.true_or] at hp <;> simp (maxSteps := 2000000) (disch := omega) only [go_sem,reduceIte,Nat.reduceEqDiff,Nat.reduceLT, d1, d2, d3, d4, e0, e1, e2, e7, wrap_i64]
    all_goals first
      | exact hQ' _ _ ⟨Pres.refl _ _, by rw [hp], rfl⟩
      | exact hJ (j - 1) _ _ (by omega) ⟨i + 1, by omega, rfl, hp, by simp only [go_sem,reduceIte,Nat.reduceEqDiff,Nat.reduceLT, e0], by simp only [go_sem,reduceIte,Nat.reduceEqDiff,Nat.reduceLT, e1], by simp only [go_sem,reduceIte,Nat.reduceEqDiff,Nat.reduceLT, e2], by simp only [go_sem,reduceIte,Nat.reduceEqDiff,Nat.reduceLT]; rfl⟩
  · have hin : i = n := by omega
    have hdr : ps.drop i = [] := List.drop_of_length_le (by omega)
    rw [hdr] at hp
    simp (disch := omega) only [go_sem,reduceIte,Nat.reduceEqDiff,Nat.reduceLT, e0, e1, e2, e7, len22, hlt]
    exact hQ' _ _ ⟨Pres.refl _ _, by rw [hp]; rfl, rfl⟩

end
end Go.Proofs.YthankillfhmfkaaGreatDoor.Ev


/- The least equal seam, by the program and by the reference. -/
set_option linter.unusedSimpArgs false
set_option linter.unusedVariables false
namespace Go.Proofs.YthankillfhmfkaaGreatDoor.Ev
open Go Go.Proofs
noncomputable section

theorem SlV.blk {B : Tr Blk} {lo hi sz n : Nat} {L : List Value} {v : Value} (s : SlV B lo hi sz n L v) (b : Nat) (hb : blkOf v = some b) : lo ≤ b := by
  cases s with
  | nil _ _ => cases hb
  | emp _ _ => cases hb
  | mk _ hlo _ _ _ _ => simp only [blkOf, Option.some.injEq] at hb; omega

theorem thr_loadA {G b : Nat} {k : Int} {m : List Bool} {B : Tr Blk} (v : Var B b (thrL k m)) (hm : m.length = 36) : loadO (En G) 95 B (some (.pointer (some ⟨b, 0, none⟩))) = some (thrV k m) :=
  v.loadA agg95 i95 (by rw [thrL_len, hm, size95])

set_option maxHeartbeats 8000000 in
theorem least_spec {G k : Nat} {m : List Bool} {l : List UInt8} {h : H} (hG : G ≤ h.next) (hm : m.length = 36) (hk : k ≤ 6) (hl : OkL 6 l) (hlen : l.length < 1000000) :
    Spec Tryz.prog (En G) 62 [thrV k m, strV l] h fun v _ => v = strV (lst (mcomm m) k l) := by
  refine CallsE_enter (En_known (by decide)) (En_f.trans Tryz.func62) rfl ⟨Nat.le_of_ble_eq_true rfl, by decide⟩ fun Q' hQ' => ?_
  simp only [Tryz.f62, go_sem,reduceIte,Nat.reduceEqDiff,Nat.reduceLT]
  refine At_box (v := thrV k m) (by simp only [go_sem,reduceIte,Nat.reduceEqDiff,Nat.reduceLT]) (by omega) fun h1 hn1 => ?_
  have n1 := hn1.next
  have v2 : Var h1.blks h.next (thrL k m) := hn1.var
  have pr1 : Pres h.next h h1 := hn1.pres (Nat.le_refl _)
  simp only [go_sem,reduceIte,Nat.reduceEqDiff,Nat.reduceLT]
  refine WK_loopN (fun j α h2 => ∃ (y : Nat) (s o : List UInt8) (A : Option Addr), y ≤ k ∧ j = s.length * 8 + (k - y) ∧ OkL 6 s ∧ s.length ≤ l.length ∧ o.length + s.length ≤ l.length ∧ o ++ lst (mcomm m) k s = lst (mcomm m) k l ∧ (∀ z, z < y → ¬ 0 ≤ fg (mcomm m) z s 0) ∧
      α.get 1 = some (strV s) ∧ α.get 2 = some (.pointer (some ⟨h.next, 0, none⟩)) ∧ α.get 5 = some (.slice A o.length o.length) ∧ α.get 6 = some (.int .i64 y) ∧ SlV h2.blks (h.next + 1) h2.next 1 o.length (byts o) (.slice A o.length o.length) ∧ Var h2.blks h.next (thrL k m) ∧ Pres h.next h h2 ∧ h.next + 1 ≤ h2.next) (l.length * 8 + (k - 0))
    ⟨0, l, [], none, Nat.zero_le _, rfl, hl, Nat.le_refl _, by simp, by simp, fun z hz => (by omega), by simp only [go_sem,reduceIte,Nat.reduceEqDiff,Nat.reduceLT], by simp only [go_sem,reduceIte,Nat.reduceEqDiff,Nat.reduceLT], by simp only [go_sem,reduceIte,Nat.reduceEqDiff,Nat.reduceLT]; rfl, by simp only [go_sem,reduceIte,Nat.reduceEqDiff,Nat.reduceLT]; rfl, .nil rfl rfl, v2, pr1, by omega⟩ (by omega) ?_
  clear pr1 v2 hn1 n1 h1
  rintro J j α h2 ⟨y, s, o, A, hy, rfl, hs, hsl, hol, hlst, hnone, e1, e2, e5, e6, hsv, v2, pr, hnx⟩ hJ
  have lk := thr_count v2
  by_cases hlt : (y : Int) < k
  · have la := thr_loadA (G := G) v2 hm
    simp (disch := omega) only [go_sem,reduceIte,Nat.reduceEqDiff,Nat.reduceLT, e1, e2, e5, e6, load3, lk, fld95_0, Nat.add_zero, hlt, la]
    refine CallO_f (front_spec (k := k) (x := y) (by omega) hm (by omega) hs (by omega)) (by omega) fun u h3 hp3 hu => ?_
    subst hu
    have v2' := v2.mono (B' := h3.blks) (hp3.get _ (by omega))
    have n3 := hp3.next
    by_cases hf : 0 ≤ fg (mcomm m) y s 0
    · have hnx' : nx (mcomm m) k s = some y := nx_some.2 ⟨by omega, hf, hnone⟩
      obtain ⟨ha1, ha2, c, ha3, ha4⟩ := at0_lt hf
      have hcl := hs c (List.mem_of_getElem? ha3)
      have hstep := lst_step hnx'
      rw [byte_of hcl.1 ha4] at hstep
      have hwl := wo_len ha1
      rw [ha2]
      have hge : decide (((at0 (mcomm m) y s : Nat) : Int) < 0) = false := decide_eq_false (by omega)
      have hix : ∀ {G : Nat}, idxO (En G) 9 (some (strV s)) (some (.int .i64 ((at0 (mcomm m) y s : Nat) : Int))) = some (.int .u8 c.toNat) := idx9 (by omega) (by simpa using ha3)
      simp only [go_sem,reduceIte,Nat.reduceEqDiff,Nat.reduceLT, hge, e1, e5, hix]
      refine At_push (lo := h.next + 1) (hi := h2.next) (L := byts o) (vs := [.int .u8 c.toNat]) u73 i5 zero5 (by rw [size5, bytes5]; rfl) (by simp only [go_sem,reduceIte,Nat.reduceEqDiff,Nat.reduceLT]; rfl) (by rw [size5]; rfl) (by rw [size5]; rfl) rfl (by simp only [go_sem,reduceIte,Nat.reduceEqDiff,Nat.reduceLT, e5]; rfl) (by rw [size5]; exact hsv.mono fun b _ hb => hp3.get b hb) n3 (Nat.le_refl _) (by show G ≤ h.next + 1; omega) (by omega) (by decide) (by decide) (by decide) fun h4 hp4 => ?_
      rw [size5] at hp4
      have n4 := hp4.next
      have hcells : byts o ++ [Value.int .u8 c.toNat] = byts (o ++ [c]) := by rw [byts_append]; rfl
      rw [hcells] at hp4
      have hsv4 := hp4.slv (n := (o ++ [c]).length) (c := (o ++ [c]).length) (by rw [byts_len]; simp)
      have v2'' : Var h4.blks h.next (thrL k m) := v2'.mono (by
        rw [hp4.get _ (by omega)]
        rw [if_neg fun e => by have := hsv.blk _ e; omega])
      simp only [go_sem,reduceIte,Nat.reduceEqDiff,Nat.reduceLT, e1]
      refine CallO_f (without_spec ha1 (by omega)) (by omega) fun u h5 hp5 hu => ?_
      obtain ⟨rfl, rfl⟩ := hu
      simp only [go_sem,reduceIte,Nat.reduceEqDiff,Nat.reduceLT]
      refine hJ _ _ _ ?_ ⟨0, wo s (at0 (mcomm m) y s), o ++ [c], some ⟨h3.next + 1, 0, none⟩, Nat.zero_le _, rfl, hs.wo, by omega, by simp; omega, ?_, fun z hz => (by omega), by simp only [go_sem,reduceIte,Nat.reduceEqDiff,Nat.reduceLT]; rfl, by simp only [go_sem,reduceIte,Nat.reduceEqDiff,Nat.reduceLT, e2], by simp only [go_sem,reduceIte,Nat.reduceEqDiff,Nat.reduceLT, List.length_append, List.length_singleton], by simp only [go_sem,reduceIte,Nat.reduceEqDiff,Nat.reduceLT]; rfl, hsv4.wide (by omega) (Nat.le_refl _), v2'', pr.trans ((hp3.le (by omega)).trans (hp4.pres (by omega) fun b hb => by have := hsv.blk b hb; omega)), by omega⟩
      · omega
      · rw [← hlst, hstep]; simp
    · rw [fg_neg hf]
      have hneg : decide ((-1 : Int) < 0) = true := rfl
      simp (disch := omega) only [go_sem,reduceIte,Nat.reduceEqDiff,Nat.reduceLT, hneg, e6, wrap_i64]
      refine hJ _ _ _ ?_ ⟨y + 1, s, o, A, by omega, rfl, hs, hsl, hol, hlst, fun z hz => ?_, by simp only [go_sem,reduceIte,Nat.reduceEqDiff,Nat.reduceLT, e1], by simp only [go_sem,reduceIte,Nat.reduceEqDiff,Nat.reduceLT, e2], by simp only [go_sem,reduceIte,Nat.reduceEqDiff,Nat.reduceLT, e5], by simp only [go_sem,reduceIte,Nat.reduceEqDiff,Nat.reduceLT]; rfl, (hsv.mono fun b _ hb => hp3.get b hb).wide (Nat.le_refl _) n3, v2', pr.trans (hp3.le (by omega)), by omega⟩
      · omega
      · by_cases hzy : z = y
        · subst hzy; exact hf
        · exact hnone z (by omega)
  · have hyk : y = k := by omega
    subst hyk
    rw [lst_stop (nx_none.2 hnone), List.append_nil] at hlst
    subst hlst
    simp (disch := omega) only [go_sem,reduceIte,Nat.reduceEqDiff,Nat.reduceLT, e1, e2, e5, e6, load3, lk, fld95_0, Nat.add_zero, hlt, conv55_9 hsv]
    exact hQ' _ _ ⟨pr, rfl⟩

end
end Go.Proofs.YthankillfhmfkaaGreatDoor.Ev


/- Which threads and seams are valid, by the program and by the reference. -/
set_option linter.unusedSimpArgs false
set_option linter.unusedVariables false
namespace Go.Proofs.YthankillfhmfkaaGreatDoor.Ev
open Go Go.Proofs
noncomputable section

def okPair (k : Int) (p : Int × Int) : Bool := decide (0 ≤ p.1 ∧ p.1 < k ∧ 0 ≤ p.2 ∧ p.2 < k ∧ p.1 ≠ p.2)
/-- valid threads -/
def okT (k : Int) (ps : List (Int × Int)) : Bool := decide (1 ≤ k ∧ k ≤ 6 ∧ ps.length ≤ 30) && ps.all (okPair k)
def nilM : List Bool := List.replicate 36 false
theorem okT_iff {k : Int} {ps : List (Int × Int)} : okT k ps = true ↔ (1 ≤ k ∧ k ≤ 6 ∧ ps.length ≤ 30) ∧ ∀ p ∈ ps, okPair k p = true := by
  simp [okT]
theorem okT_okP {k : Int} {ps : List (Int × Int)} (h : okT k ps = true) : 1 ≤ k ∧ k ≤ 6 ∧ ps.length ≤ 30 ∧ OkP k.toNat ps := by
  obtain ⟨⟨h1, h2, h3⟩, h4⟩ := okT_iff.1 h
  refine ⟨h1, h2, h3, fun p hp => ?_⟩
  have := h4 p hp
  simp only [okPair, decide_eq_true_eq] at this
  omega

theorem zero74 : inf95.zero = some (thrV 0 nilM) := by kernel_rfl
theorem build74 {G : Nat} : buildO (En G) 95 (some []) = some (thrV 0 nilM) := by
  simp only [buildO, evBuild, i95, us95, Tryz.underlying95, zero74, places, i3, size3, i93, size93]
  rfl
theorem build74k {G : Nat} {k : Int} : buildO (En G) 95 (some [(0, .int .i64 k)]) = some (thrV k nilM) := by
  simp only [buildO, evBuild, i95, us95, Tryz.underlying95, zero74, places, i3, size3, i93, size93]
  rfl
theorem nilM_len : nilM.length = 36 := rfl

theorem has_spec {G : Nat} {k z : Int} {m : List Bool} {h : H} : Spec Tryz.prog (En G) 87 [thrV k m, .int .i64 z] h fun v _ => v = .bool (decide (0 ≤ z ∧ z < k)) := by
  refine CallsE_enter (En_known (by decide)) (En_f.trans Tryz.func87) rfl ⟨Nat.le_of_ble_eq_true rfl, by decide⟩ fun Q' hQ' => ?_
  simp only [Tryz.f87, go_sem,reduceIte,Nat.reduceEqDiff,Nat.reduceLT]
  refine At_box (v := thrV k m) (by simp only [go_sem,reduceIte,Nat.reduceEqDiff,Nat.reduceLT]) (by omega) fun h1 hn1 => ?_
  have v2 : Var h1.blks h.next (thrL k m) := hn1.var
  have lk := thr_count v2
  by_cases h0 : 0 ≤ z
  · simp only [go_sem,reduceIte,Nat.reduceEqDiff,Nat.reduceLT, load3, lk, fld95_0, Nat.add_zero, h0]
    exact hQ' _ _ ⟨hn1.pres (Nat.le_refl _), by simp [h0]⟩
  · simp only [go_sem,reduceIte,Nat.reduceEqDiff,Nat.reduceLT, load3, lk, fld95_0, Nat.add_zero, h0]
    exact hQ' _ _ ⟨hn1.pres (Nat.le_refl _), by simp [h0]⟩

theorem thrL_set {k : Int} {m : List Bool} {j : Nat} (hj : j < m.length) : (thrL k m).take (1 + j) ++ [Value.bool true] ++ (thrL k m).drop (1 + j + 1) = thrL k (m.set j true) := by
  simp only [thrL, show 1 + j = j + 1 by omega, show j + 1 + 1 = (j + 1) + 1 from rfl, List.take_succ_cons, List.drop_succ_cons, ← List.map_take, ← List.map_drop, List.set_eq_take_append_cons_drop, if_pos hj]
  simp
theorem mcomm_set {m : List Bool} {x y a b : Nat} (hm : m.length = 36) (hx : x < 6) (hy : y < 6) (ha : a < 6) (hb : b < 6) : mcomm (m.set (x * 6 + y) true) a b = (decide (a = x ∧ b = y) || mcomm m a b) := by
  unfold mcomm
  by_cases h : a = x ∧ b = y
  · obtain ⟨rfl, rfl⟩ := h
    simp [List.getD, List.getElem?_set, show a * 6 + b < m.length by omega]
  · have : ¬ x * 6 + y = a * 6 + b := by omega
    simp [List.getD, List.getElem?_set, this, h]

set_option maxHeartbeats 8000000 in
theorem newThreads_spec {G lo hi n c : Nat} {k : Int} {A : Option Addr} {ps : List (Int × Int)} {h : H} (hG : G ≤ h.next) (hv : SlV h.blks lo hi 2 n (prs ps) (.slice A n c)) (hhi : hi ≤ h.next) (hn : n < 1000000) :
    Spec Tryz.prog (En G) 69 [.int .i64 k, .slice A n c] h fun v _ => (okT k ps = false ∧ v = .tuple #[thrV 0 nilM, .int .i64 1]) ∨
      (okT k ps = true ∧ ∃ m, m.length = 36 ∧ (∀ a b, a < 6 → b < 6 → mcomm m a b = pc ps a b) ∧ v = .tuple #[thrV k m, .int .i64 0]) := by
  have hl : ps.length = n := by have := hv.len; rw [prs_len] at this; omega
  refine CallsE_enter (En_known (by decide)) (En_f.trans Tryz.func69) rfl ⟨Nat.le_of_ble_eq_true rfl, by decide⟩ fun Q' hQ' => ?_
  simp only [Tryz.f69, go_sem,reduceIte,Nat.reduceEqDiff,Nat.reduceLT]
  refine At_alloc i95 zero74 rfl (by omega) fun h1 hn1 => ?_
  have n1 := hn1.next
  have v4 : Var h1.blks h.next (thrL 0 nilM) := hn1.var
  have pr1 : Pres h.next h h1 := hn1.pres (Nat.le_refl _)
  have hbad : ∀ {α : Tr Value} {n : Nat} {ops : List Oper} {hh : H} {L : List Value}, True := fun {_ _ _ _ _} => trivial
  have hres : ∀ {h5 : H} {k' : Int} {m' : List Bool}, m'.length = 36 → Var h5.blks h.next (thrL k' m') → evLoad (En G) h5 95 (.pointer (some ⟨h.next, 0, none⟩)) = some (thrV k' m') := fun hm hv => by
    rw [evLoad_loadO]; exact thr_loadA hv hm
  by_cases hk : (1 ≤ k ∧ k ≤ 6) ∧ n ≤ 30
  · obtain ⟨⟨hk1, hk6⟩, hn30⟩ := hk
    have d1 : decide (k < 1) = false := decide_eq_false (by omega)
    have d2 : decide (6 < k) = false := decide_eq_false (by omega)
    have d3 : decide (30 < (n : Int)) = false := decide_eq_false (by omega)
    simp only [go_sem,reduceIte,Nat.reduceEqDiff,Nat.reduceLT, len22, d1, d2, d3, build74k]
    refine At_alloc i95 zero74 rfl (by omega) fun h2 hn2 => ?_
    have n2 := hn2.next
    have v6 : Var h2.blks h1.next (thrL 0 nilM) := hn2.var
    replace v4 := v4.mono (B' := h2.blks) (by rw [hn2.get, if_neg (by omega)])
    try simp only [go_sem,reduceIte,Nat.reduceEqDiff,Nat.reduceLT]
    refine At_storeV (inf := inf95) (v := thrV k nilM) i95 (by simp only [go_sem,reduceIte,Nat.reduceEqDiff,Nat.reduceLT]) (by simp only [go_sem,reduceIte,Nat.reduceEqDiff,Nat.reduceLT]) v6 (by rw [size95]; rfl) (by rw [size95]; rfl) rfl (by show G ≤ h1.next; omega) fun h3 hs3 v6 => ?_
    replace v4 := v4.mono (B' := h3.blks) (hs3.get _ (by omega))
    have n3 := hs3.next
    have pr3 : Pres h.next h h3 := pr1.trans ((hn2.pres (by omega)).trans (hs3.pres (by omega)))
    simp only [go_sem,reduceIte,Nat.reduceEqDiff,Nat.reduceLT, len22]
    refine WK_loopN (fun j α h4 => ∃ (i : Nat) (m : List Bool), i + j = n ∧ m.length = 36 ∧ (∀ a b, a < 6 → b < 6 → mcomm m a b = pc (ps.take i) a b) ∧ (∀ p ∈ ps.take i, okPair k p = true) ∧ α.get 4 = some (.pointer (some ⟨h.next, 0, none⟩)) ∧ α.get 6 = some (.pointer (some ⟨h1.next, 0, none⟩)) ∧
        α.get 23 = some (.slice A n c) ∧ α.get 24 = some (.int .i64 n) ∧ α.get 25 = some (.int .i64 i) ∧ Var h4.blks h.next (thrL 0 nilM) ∧ Var h4.blks h1.next (thrL k m) ∧ Pres h.next h h4 ∧ h1.next < h4.next) n
      ⟨0, nilM, by omega, rfl, fun a b ha hb => ?_, fun p hp => (by simp at hp), by simp only [go_sem,reduceIte,Nat.reduceEqDiff,Nat.reduceLT], by simp only [go_sem,reduceIte,Nat.reduceEqDiff,Nat.reduceLT], by simp only [go_sem,reduceIte,Nat.reduceEqDiff,Nat.reduceLT], by simp only [go_sem,reduceIte,Nat.reduceEqDiff,Nat.reduceLT], by simp only [go_sem,reduceIte,Nat.reduceEqDiff,Nat.reduceLT]; rfl, v4, v6, pr3, by omega⟩ (by omega) ?_
    · simp only [List.take_zero, pc, List.any_nil, mcomm, nilM, List.getD, List.getElem?_replicate]
      split <;> rfl
    rintro J j α h4 ⟨i, m, hij, hm, hmc, hall, e4, e6, e23, e24, e25, v4, v6, pr, hnx⟩ hJ
    by_cases hlt : (i : Int) < n
    · obtain ⟨p, hpi⟩ : ∃ p, ps[i]? = some p := ⟨ps[i]'(by omega), List.getElem?_eq_getElem (by omega)⟩
      have hv4 : SlV h4.blks lo hi 2 n (prs ps) (.slice A n c) := hv.mono fun b _ hb => pr.get b (by omega)
      obtain ⟨b, off, rfl, _, _, hld⟩ := hv4.at_ (by omega)
      obtain ⟨g1, g2⟩ := prs_get hpi
      have lp : loadO (En G) 104 h4.blks (some (.pointer (some ⟨b, off + i * 2, none⟩))) = some (.agg #[.int .i64 p.1, .int .i64 p.2]) := by
        cases hv4 with
        | mk hb hlo hhi2 hsz hL hc =>
          refine loadO_agg (L := [.int .i64 p.1, .int .i64 p.2]) agg104 i104 hb (by rw [size104]; omega) (by rw [size104]; rfl) fun q hq => ?_
          rw [size104] at hq
          rw [Nat.add_assoc, hc _ (by omega)]
          match q, hq with
          | 0, _ => exact g1
          | 1, _ => exact g2
      have htk : ps.take (i + 1) = ps.take i ++ [p] := by
        obtain ⟨g, ge⟩ := List.getElem?_eq_some_iff.1 hpi
        rw [List.take_add_one, hpi]; rfl
      simp (disch := omega) only [go_sem,reduceIte,Nat.reduceEqDiff,Nat.reduceLT, e4, e6, e23, e24, e25, hlt, idxA22, Int.toNat_natCast, lp]
      refine At_alloc i104 (by kernel_rfl : inf104.zero = some (.agg #[.int .i64 0, .int .i64 0])) rfl (by omega) fun h5 hn5 => ?_
      have n5 := hn5.next
      have v8 : Var h5.blks h4.next [.int .i64 0, .int .i64 0] := hn5.var
      replace v4 := v4.mono (B' := h5.blks) (by rw [hn5.get, if_neg (by have := pr.next; omega)])
      replace v6 := v6.mono (B' := h5.blks) (by rw [hn5.get, if_neg (by omega)])
      try simp only [go_sem,reduceIte,Nat.reduceEqDiff,Nat.reduceLT]
      have p0 := pr.next
      refine At_storeV (inf := inf104) (v := .agg #[.int .i64 p.1, .int .i64 p.2]) i104 (by simp only [go_sem,reduceIte,Nat.reduceEqDiff,Nat.reduceLT]) (by simp only [go_sem,reduceIte,Nat.reduceEqDiff,Nat.reduceLT]) v8 (by rw [size104]; rfl) (by rw [size104]; rfl) rfl (by show G ≤ h4.next; omega) fun h6 hs6 v8 => ?_
      replace v4 := v4.mono (B' := h6.blks) (hs6.get _ (by omega))
      replace v6 := v6.mono (B' := h6.blks) (hs6.get _ (by omega))
      have n6 := hs6.next
      have pr6 : Pres h.next h h6 := pr.trans ((hn5.pres (by omega)).trans (hs6.pres (by omega)))
      have l80 : loadv h6.blks h4.next 0 = some (.int .i64 p.1) := by rw [v8.load (show 0 < 2 by omega)]; rfl
      have l81 : loadv h6.blks h4.next 1 = some (.int .i64 p.2) := by rw [v8.load (show 1 < 2 by omega)]; rfl
      have la := thr_loadA (G := G) v6 hm
      have hno : okPair k p = false → okT k ps = false := fun e => by
        rw [Bool.eq_false_iff]
        intro ht
        have := (okT_iff.1 ht).2 p (List.mem_of_getElem? hpi)
        rw [e] at this; cases this
      simp (disch := omega) only [go_sem,reduceIte,Nat.reduceEqDiff,Nat.reduceLT, e6, la, fld104_0, load3, l80, Nat.add_zero]
      refine CallO_f has_spec (by omega) fun u h7 hp7 hu => ?_
      subst hu
      have n7 := hp7.next
      have pr7 : Pres h.next h h7 := pr6.trans (hp7.le (by omega))
      have v47 := v4.mono (B' := h7.blks) (hp7.get _ (by omega))
      have v67 := v6.mono (B' := h7.blks) (hp7.get _ (by omega))
      have v87 := v8.mono (B' := h7.blks) (hp7.get _ (by omega))
      have l80' : loadv h7.blks h4.next 0 = some (.int .i64 p.1) := by rw [v87.load (show 0 < 2 by omega)]; rfl
      have l81' : loadv h7.blks h4.next 1 = some (.int .i64 p.2) := by rw [v87.load (show 1 < 2 by omega)]; rfl
      have la7 := thr_loadA (G := G) v67 hm
      by_cases hA : 0 ≤ p.1 ∧ p.1 < k
      · have dA : decide (0 ≤ p.1 ∧ p.1 < k) = true := decide_eq_true hA
        simp (disch := omega) only [go_sem,reduceIte,Nat.reduceEqDiff,Nat.reduceLT, dA, e6, la7, fld104_1, load3, l81', Nat.add_zero]
        refine CallO_f has_spec (by omega) fun u h8 hp8 hu => ?_
        subst hu
        have n8 := hp8.next
        have pr8 : Pres h.next h h8 := pr7.trans (hp8.le (by omega))
        have v48 := v47.mono (B' := h8.blks) (hp8.get _ (by omega))
        have v68 := v67.mono (B' := h8.blks) (hp8.get _ (by omega))
        have v88 := v87.mono (B' := h8.blks) (hp8.get _ (by omega))
        have l80'' : loadv h8.blks h4.next 0 = some (.int .i64 p.1) := by rw [v88.load (show 0 < 2 by omega)]; rfl
        have l81'' : loadv h8.blks h4.next 1 = some (.int .i64 p.2) := by rw [v88.load (show 1 < 2 by omega)]; rfl
        by_cases hB : (0 ≤ p.2 ∧ p.2 < k) ∧ p.1 ≠ p.2
        · obtain ⟨hB, hne⟩ := hB
          have dB : decide (0 ≤ p.2 ∧ p.2 < k) = true := decide_eq_true hB
          have dn : decide (p.1 = p.2) = false := decide_eq_false hne
          obtain ⟨x, hx⟩ := Int.eq_ofNat_of_zero_le hA.1
          obtain ⟨y, hy⟩ := Int.eq_ofNat_of_zero_le hB.1
          have hx6 : x < 6 := by omega
          have hy6 : y < 6 := by omega
          simp (disch := omega) only [go_sem,reduceIte,Nat.reduceEqDiff,Nat.reduceLT, dB, dn, fld104_0, fld104_1, load3, l80'', l81'', Nat.add_zero]
          refine WK_regionT 6 ⟨by kernel_rfl, by kernel_rfl, by kernel_rfl⟩ ?_
          rw [hx] at l80''
          rw [hy] at l81''
          simp (disch := omega) only [go_sem,reduceIte,Nat.reduceEqDiff,Nat.reduceLT, e6, fld104_0, fld104_1, fld95_1, load3, l80'', l81'', Nat.add_zero, Nat.zero_add, idxP93, idxP92, Int.toNat_natCast, Nat.mul_one]
          obtain ⟨cc, es, q1, q2⟩ := id v68
          refine At_store (inf := inf4) (b := h1.next) (off := 1 + x * 6 + y) (v := .bool true) i4 (by simp only [go_sem,reduceIte,Nat.reduceEqDiff,Nat.reduceLT]) (by simp only [go_sem,reduceIte,Nat.reduceEqDiff,Nat.reduceLT]) (by rw [size4]; rfl) rfl q1 (by rw [size4, thrL_len]; omega) (by show G ≤ h1.next; omega) fun h9 hs9 => ?_
          have n9 := hs9.next
          have v69 := hs9.varAt v68 (by rw [thrL_len]; show 1 + x * 6 + y + 1 ≤ _; omega)
          have e69 : (thrL k m).take (1 + x * 6 + y) ++ (Value.bool true).cells.toList ++ (thrL k m).drop (1 + x * 6 + y + (Value.bool true).cells.toList.length) = thrL k (m.set (x * 6 + y) true) := by
            rw [← thrL_set (by omega), show 1 + (x * 6 + y) = 1 + x * 6 + y by omega]; rfl
          rw [e69] at v69
          have v49 := v48.mono (B' := h9.blks) (hs9.get _ (by omega))
          have v89 := v88.mono (B' := h9.blks) (hs9.get _ (by omega))
          have l80c : loadv h9.blks h4.next 0 = some (.int .i64 x) := by rw [v89.load (show 0 < 2 by omega)]; rw [← hx]; rfl
          have l81c : loadv h9.blks h4.next 1 = some (.int .i64 y) := by rw [v89.load (show 1 < 2 by omega)]; rw [← hy]; rfl
          have pr9 : Pres h.next h h9 := pr8.trans (hs9.pres (by omega))
          try simp only [go_sem,reduceIte,Nat.reduceEqDiff,Nat.reduceLT]
          refine WK_regionT 6 ⟨by kernel_rfl, by kernel_rfl, by kernel_rfl⟩ ?_
          simp (disch := omega) only [go_sem,reduceIte,Nat.reduceEqDiff,Nat.reduceLT, e6, fld104_0, fld104_1, fld95_1, load3, l80c, l81c, Nat.add_zero, Nat.zero_add, idxP93, idxP92, Int.toNat_natCast, Nat.mul_one]
          have hml : (m.set (x * 6 + y) true).length = 36 := by simp [hm]
          obtain ⟨cc2, es2, q3, q4⟩ := id v69
          refine At_store (inf := inf4) (b := h1.next) (off := 1 + y * 6 + x) (v := .bool true) i4 (by simp only [go_sem,reduceIte,Nat.reduceEqDiff,Nat.reduceLT]) (by simp only [go_sem,reduceIte,Nat.reduceEqDiff,Nat.reduceLT]) (by rw [size4]; rfl) rfl q3 (by rw [size4, thrL_len]; omega) (by show G ≤ h1.next; omega) fun h10 hs10 => ?_
          have n10 := hs10.next
          have v610 := hs10.varAt v69 (by rw [thrL_len]; show 1 + y * 6 + x + 1 ≤ _; omega)
          have e610 : (thrL k (m.set (x * 6 + y) true)).take (1 + y * 6 + x) ++ (Value.bool true).cells.toList ++ (thrL k (m.set (x * 6 + y) true)).drop (1 + y * 6 + x + (Value.bool true).cells.toList.length) = thrL k ((m.set (x * 6 + y) true).set (y * 6 + x) true) := by
            rw [← thrL_set (k := k) (m := m.set (x * 6 + y) true) (j := y * 6 + x) (by omega), show 1 + (y * 6 + x) = 1 + y * 6 + x by omega]; rfl
          rw [e610] at v610
          have v410 := v49.mono (B' := h10.blks) (hs10.get _ (by omega))
          simp (disch := omega) only [go_sem,reduceIte,Nat.reduceEqDiff,Nat.reduceLT, e25, wrap_i64]
          refine hJ (j - 1) _ _ (by omega) ⟨i + 1, (m.set (x * 6 + y) true).set (y * 6 + x) true, by omega, by simp [hm], fun a b' ha hb' => ?_, fun q hq => ?_, by simp only [go_sem,reduceIte,Nat.reduceEqDiff,Nat.reduceLT, e4], by simp only [go_sem,reduceIte,Nat.reduceEqDiff,Nat.reduceLT, e6], by simp only [go_sem,reduceIte,Nat.reduceEqDiff,Nat.reduceLT, e23], by simp only [go_sem,reduceIte,Nat.reduceEqDiff,Nat.reduceLT, e24], by simp only [go_sem,reduceIte,Nat.reduceEqDiff,Nat.reduceLT]; rfl, v410, v610, pr9.trans (hs10.pres (by omega)), by omega⟩
          · rw [mcomm_set hml hy6 hx6 ha hb', mcomm_set hm hx6 hy6 ha hb', hmc a b' ha hb', htk]
            simp only [pc, List.any_append, List.any_cons, List.any_nil, Bool.or_false, hx, hy]
            rw [Bool.eq_iff_iff]
            simp only [Bool.or_eq_true, decide_eq_true_eq]
            constructor
            · rintro (h | h | h)
              · right; omega
              · right; omega
              · left; exact h
            · rintro (h | h)
              · right; right; exact h
              · omega
          · rw [htk] at hq
            rcases List.mem_append.1 hq with hq | hq
            · exact hall q hq
            · rw [List.mem_singleton.1 hq]
              simp only [okPair, decide_eq_true_eq]
              omega
        · have hbad2 : okPair k p = false := by
            simp only [okPair, decide_eq_false_iff_not]
            omega
          by_cases hB2 : 0 ≤ p.2 ∧ p.2 < k
          · have dB : decide (0 ≤ p.2 ∧ p.2 < k) = true := decide_eq_true hB2
            have dn : decide (p.1 = p.2) = true := decide_eq_true (by omega)
            simp (disch := omega) only [go_sem,reduceIte,Nat.reduceEqDiff,Nat.reduceLT, dB, dn, fld104_0, fld104_1, load3, l80'', l81'', Nat.add_zero, build74, e4]
            refine At_storeV (inf := inf95) (v := thrV 0 nilM) i95 (by simp only [go_sem,reduceIte,Nat.reduceEqDiff,Nat.reduceLT, e4]) (by simp only [go_sem,reduceIte,Nat.reduceEqDiff,Nat.reduceLT]) v48 (by rw [size95]; rfl) (by rw [size95]; rfl) rfl (by show G ≤ h.next; omega) fun h9 hs9 v49 => ?_
            simp only [go_sem,reduceIte,Nat.reduceEqDiff,Nat.reduceLT, e4, hres rfl v49]
            exact hQ' _ _ ⟨pr8.trans (hs9.pres (by omega)), .inl ⟨hno hbad2, rfl⟩⟩
          · have dB : decide (0 ≤ p.2 ∧ p.2 < k) = false := decide_eq_false hB2
            simp (disch := omega) only [go_sem,reduceIte,Nat.reduceEqDiff,Nat.reduceLT, dB, build74, e4]
            refine At_storeV (inf := inf95) (v := thrV 0 nilM) i95 (by simp only [go_sem,reduceIte,Nat.reduceEqDiff,Nat.reduceLT, e4]) (by simp only [go_sem,reduceIte,Nat.reduceEqDiff,Nat.reduceLT]) v48 (by rw [size95]; rfl) (by rw [size95]; rfl) rfl (by show G ≤ h.next; omega) fun h9 hs9 v49 => ?_
            simp only [go_sem,reduceIte,Nat.reduceEqDiff,Nat.reduceLT, e4, hres rfl v49]
            exact hQ' _ _ ⟨pr8.trans (hs9.pres (by omega)), .inl ⟨hno hbad2, rfl⟩⟩
      · have hbad2 : okPair k p = false := by
          simp only [okPair, decide_eq_false_iff_not]
          omega
        have dA : decide (0 ≤ p.1 ∧ p.1 < k) = false := decide_eq_false hA
        simp (disch := omega) only [go_sem,reduceIte,Nat.reduceEqDiff,Nat.reduceLT, dA, build74, e4]
        refine At_storeV (inf := inf95) (v := thrV 0 nilM) i95 (by simp only [go_sem,reduceIte,Nat.reduceEqDiff,Nat.reduceLT, e4]) (by simp only [go_sem,reduceIte,Nat.reduceEqDiff,Nat.reduceLT]) v47 (by rw [size95]; rfl) (by rw [size95]; rfl) rfl (by show G ≤ h.next; omega) fun h9 hs9 v49 => ?_
        simp only [go_sem,reduceIte,Nat.reduceEqDiff,Nat.reduceLT, e4, hres rfl v49]
        exact hQ' _ _ ⟨pr7.trans (hs9.pres (by omega)), .inl ⟨hno hbad2, rfl⟩⟩
    · have hin : i = n := by omega
      subst hin
      have htk : ps.take i = ps := List.take_of_length_le (by omega)
      rw [htk] at hmc hall
      have la := thr_loadA (G := G) v6 hm
      simp (disch := omega) only [go_sem,reduceIte,Nat.reduceEqDiff,Nat.reduceLT, e4, e6, e24, e25, hlt, la]
      refine At_storeV (inf := inf95) (v := thrV k m) i95 (by simp only [go_sem,reduceIte,Nat.reduceEqDiff,Nat.reduceLT, e4]) (by simp only [go_sem,reduceIte,Nat.reduceEqDiff,Nat.reduceLT]) v4 (by rw [size95, ← Array.length_toList, thrV_cells, thrL_len, hm]) (by rw [size95]; rfl) ?_ (by show G ≤ h.next; omega) fun h9 hs9 v49 => ?_
      · rw [thrV_cells]; simp [thrL, oneB]
      simp only [go_sem,reduceIte,Nat.reduceEqDiff,Nat.reduceLT, e4, hres hm v49]
      exact hQ' _ _ ⟨pr.trans (hs9.pres (by omega)), .inr ⟨okT_iff.2 ⟨⟨hk1, hk6, by omega⟩, hall⟩, m, hm, hmc, rfl⟩⟩
  · have hno : okT k ps = false := by
      rw [Bool.eq_false_iff]
      intro ht
      have := (okT_iff.1 ht).1
      apply hk
      omega
    have fin : ∀ {h5 : H}, Sto h1 h5 h.next 0 (thrV 0 nilM).cells.toList → Var h5.blks h.next (thrL 0 nilM) → Pres h.next h h5 := fun hs _ => pr1.trans (hs.pres (by omega))
    by_cases d1 : k < 1
    · simp only [go_sem,reduceIte,Nat.reduceEqDiff,Nat.reduceLT, len22, d1, build74]
      refine At_storeV (inf := inf95) (v := thrV 0 nilM) i95 (by simp only [go_sem,reduceIte,Nat.reduceEqDiff,Nat.reduceLT]) (by simp only [go_sem,reduceIte,Nat.reduceEqDiff,Nat.reduceLT]) v4 (by rw [size95]; rfl) (by rw [size95]; rfl) rfl (by show G ≤ h.next; omega) fun h9 hs9 v49 => ?_
      simp only [go_sem,reduceIte,Nat.reduceEqDiff,Nat.reduceLT, hres rfl v49]
      exact hQ' _ _ ⟨fin hs9 v49, .inl ⟨hno, rfl⟩⟩
    · by_cases d2 : 6 < k
      · simp only [go_sem,reduceIte,Nat.reduceEqDiff,Nat.reduceLT, len22, d1, d2, build74]
        refine At_storeV (inf := inf95) (v := thrV 0 nilM) i95 (by simp only [go_sem,reduceIte,Nat.reduceEqDiff,Nat.reduceLT]) (by simp only [go_sem,reduceIte,Nat.reduceEqDiff,Nat.reduceLT]) v4 (by rw [size95]; rfl) (by rw [size95]; rfl) rfl (by show G ≤ h.next; omega) fun h9 hs9 v49 => ?_
        simp only [go_sem,reduceIte,Nat.reduceEqDiff,Nat.reduceLT, hres rfl v49]
        exact hQ' _ _ ⟨fin hs9 v49, .inl ⟨hno, rfl⟩⟩
      · have d3 : (30 : Int) < n := by omega
        simp only [go_sem,reduceIte,Nat.reduceEqDiff,Nat.reduceLT, len22, d1, d2, d3, build74]
        refine At_storeV (inf := inf95) (v := thrV 0 nilM) i95 (by simp only [go_sem,reduceIte,Nat.reduceEqDiff,Nat.reduceLT]) (by simp only [go_sem,reduceIte,Nat.reduceEqDiff,Nat.reduceLT]) v4 (by rw [size95]; rfl) (by rw [size95]; rfl) rfl (by show G ≤ h.next; omega) fun h9 hs9 v49 => ?_
        simp only [go_sem,reduceIte,Nat.reduceEqDiff,Nat.reduceLT, hres rfl v49]
        exact hQ' _ _ ⟨fin hs9 v49, .inl ⟨hno, rfl⟩⟩
end
end Go.Proofs.YthankillfhmfkaaGreatDoor.Ev


/- Seams that are valid; the laws' arguments. -/
set_option linter.unusedSimpArgs false
set_option linter.unusedVariables false
namespace Go.Proofs.YthankillfhmfkaaGreatDoor.Ev
open Go Go.Proofs
noncomputable section

/-- a letter of k -/
def okc (k : Int) (c : UInt8) : Bool := decide (97 ≤ c.toNat ∧ (c.toNat : Int) - 97 < k)
theorem conv53z {P : Program} {G : Nat} {B : Tr Blk} {z : Int} (h0 : 0 ≤ z) (h1 : z ≤ 255) : convO P (En G) B 5 3 (some (.int .u8 z)) = some (.int .i64 z) := by
  rw [convO_int u5 u3, wrap_i64 (by omega) (by omega)]
theorem all_take {α : Type} {f : α → Bool} {l : List α} {i : Nat} {a : α} (h : (l.take i).all f = true) (ha : l[i]? = some a) (hf : f a = true) : (l.take (i + 1)).all f = true := by
  rw [List.take_add_one, ha, List.all_append, h]
  simp [hf]

/-- why threads and seams are refused -/
def chkE (k : Int) (ps : List (Int × Int)) (most : Int) (ls : List (List UInt8)) : Int :=
  if okT k ps = true then (if ls.any (fun s => decide (most < s.length)) = true then 3 else if ls.all (fun s => s.all (okc k)) = true then 0 else 2) else 1
def strs (ls : List (List UInt8)) : List Value := ls.map strV
theorem strs_len {ls : List (List UInt8)} : (strs ls).length = ls.length := by simp [strs]

set_option maxHeartbeats 16000000 in
theorem checked_spec {G lo hi n c lo2 hi2 n2 c2 : Nat} {k most : Int} {A A2 : Option Addr} {ps : List (Int × Int)} {ls : List (List UInt8)} {h : H} (hG : G ≤ h.next) (hv : SlV h.blks lo hi 2 n (prs ps) (.slice A n c)) (hhi : hi ≤ h.next) (hn : n < 1000000)
    (hv2 : SlV h.blks lo2 hi2 1 n2 (strs ls) (.slice A2 n2 c2)) (hhi2 : hi2 ≤ h.next) (hn2 : n2 < 1000000) (hls : ∀ s ∈ ls, s.length < 1000000) :
    Spec Tryz.prog (En G) 60 [.int .i64 k, .slice A n c, .int .i64 most, .slice A2 n2 c2] h fun v _ => (chkE k ps most ls ≠ 0 ∧ v = .tuple #[thrV 0 nilM, .int .i64 (chkE k ps most ls)]) ∨
      (chkE k ps most ls = 0 ∧ ∃ m, m.length = 36 ∧ (∀ a b, a < 6 → b < 6 → mcomm m a b = pc ps a b) ∧ v = .tuple #[thrV k m, .int .i64 0]) := by
  have hl2 : ls.length = n2 := by have := hv2.len; rw [strs_len] at this; omega
  refine CallsE_enter (En_known (by decide)) (En_f.trans Tryz.func60) rfl ⟨Nat.le_of_ble_eq_true rfl, by decide⟩ fun Q' hQ' => ?_
  simp only [Tryz.f60, go_sem,reduceIte,Nat.reduceEqDiff,Nat.reduceLT]
  refine At_alloc i95 zero74 rfl (by omega) fun h1 hn1 => ?_
  have n1 := hn1.next
  have v8 : Var h1.blks h.next (thrL 0 nilM) := hn1.var
  try simp only [go_sem,reduceIte,Nat.reduceEqDiff,Nat.reduceLT]
  refine At_alloc i29 zero29 rfl (by omega) fun h2 hn2' => ?_
  have n2' := hn2'.next
  have v9 : Var h2.blks h1.next [.int .i64 0] := hn2'.var
  replace v8 := v8.mono (B' := h2.blks) (by rw [hn2'.get, if_neg (by omega)])
  have pr2 : Pres h.next h h2 := (hn1.pres (Nat.le_refl _)).trans (hn2'.pres (by omega))
  try simp only [go_sem,reduceIte,Nat.reduceEqDiff,Nat.reduceLT]
  refine CallO_f (newThreads_spec (k := k) (by omega) (hv.mono fun b _ hb => pr2.get b (by omega)) (by omega) hn) (by omega) fun u h3 hp3 hu => ?_
  have n3 := hp3.next
  replace v8 := v8.mono (B' := h3.blks) (hp3.get _ (by omega))
  replace v9 := v9.mono (B' := h3.blks) (hp3.get _ (by omega))
  have pr3 : Pres h.next h h3 := pr2.trans (hp3.le (by omega))
  -- the end: both results are stored
  have hend : ∀ {h5 h6 : H} {k' : Int} {m' : List Bool} {z : Int}, m'.length = 36 → Var h5.blks h.next (thrL k' m') → Sto h5 h6 h1.next 0 [.int .i64 z] → Var h6.blks h1.next [.int .i64 z] →
      evLoad (En G) h6 95 (.pointer (some ⟨h.next, 0, none⟩)) = some (thrV k' m') ∧ evLoad (En G) h6 29 (.pointer (some ⟨h1.next, 0, none⟩)) = some (.int .i64 z) := fun hm hv hs hv2 =>
    ⟨by rw [evLoad_loadO]; exact thr_loadA (hv.mono (hs.get _ (by omega))) hm, ev_boxed agg29 hv2⟩
  rcases hu with ⟨hno, rfl⟩ | ⟨hyes, m, hm, hmc, rfl⟩
  · have hE : chkE k ps most ls = 1 := by rw [chkE, if_neg (by rw [hno]; exact Bool.false_ne_true)]
    have d1 : decide ((1 : Int) ≠ 0) = true := rfl
    try simp only [go_sem,reduceIte,Nat.reduceEqDiff,Nat.reduceLT]
    refine At_alloc i95 zero74 rfl (by omega) fun h4 hn4 => ?_
    have n4 := hn4.next
    have v10 : Var h4.blks h3.next (thrL 0 nilM) := hn4.var
    replace v8 := v8.mono (B' := h4.blks) (by rw [hn4.get, if_neg (by omega)])
    replace v9 := v9.mono (B' := h4.blks) (by rw [hn4.get, if_neg (by omega)])
    try simp only [go_sem,reduceIte,Nat.reduceEqDiff,Nat.reduceLT]
    refine At_storeV (inf := inf95) (v := thrV 0 nilM) i95 (by simp only [go_sem,reduceIte,Nat.reduceEqDiff,Nat.reduceLT]) (by simp only [go_sem,reduceIte,Nat.reduceEqDiff,Nat.reduceLT]) v10 (by rw [size95]; rfl) (by rw [size95]; rfl) rfl (by show G ≤ h3.next; omega) fun h5 hs5 v10 => ?_
    replace v8 := v8.mono (B' := h5.blks) (hs5.get _ (by omega))
    replace v9 := v9.mono (B' := h5.blks) (hs5.get _ (by omega))
    have n5 := hs5.next
    try simp only [go_sem,reduceIte,Nat.reduceEqDiff,Nat.reduceLT, d1, build74]
    refine At_storeV (inf := inf95) (v := thrV 0 nilM) i95 (by simp only [go_sem,reduceIte,Nat.reduceEqDiff,Nat.reduceLT]) (by simp only [go_sem,reduceIte,Nat.reduceEqDiff,Nat.reduceLT]) v8 (by rw [size95]; rfl) (by rw [size95]; rfl) rfl (by show G ≤ h.next; omega) fun h6 hs6 v8 => ?_
    replace v9 := v9.mono (B' := h6.blks) (hs6.get _ (by omega))
    try simp only [go_sem,reduceIte,Nat.reduceEqDiff,Nat.reduceLT]
    refine At_storeV (inf := inf29) (v := .int .i64 1) i29 (by simp only [go_sem,reduceIte,Nat.reduceEqDiff,Nat.reduceLT]) (by simp only [go_sem,reduceIte,Nat.reduceEqDiff,Nat.reduceLT]) v9 (by rw [size29]; rfl) (by rw [size29]; rfl) rfl (by show G ≤ h1.next; omega) fun h7 hs7 v9 => ?_
    obtain ⟨r1, r2⟩ := hend nilM_len v8 hs7 v9
    simp only [go_sem,reduceIte,Nat.reduceEqDiff,Nat.reduceLT, r1, r2]
    exact hQ' _ _ ⟨pr3.trans ((hn4.pres (by omega)).trans ((hs5.pres (by omega)).trans ((hs6.pres (by omega)).trans (hs7.pres (by omega))))), .inl ⟨by rw [hE]; decide, by rw [hE]⟩⟩
  · obtain ⟨k1, k6, _, _⟩ := okT_okP hyes
    have d1 : decide ((0 : Int) ≠ 0) = false := rfl
    try simp only [go_sem,reduceIte,Nat.reduceEqDiff,Nat.reduceLT]
    refine At_alloc i95 zero74 rfl (by omega) fun h4 hn4 => ?_
    have n4 := hn4.next
    have v10 : Var h4.blks h3.next (thrL 0 nilM) := hn4.var
    replace v8 := v8.mono (B' := h4.blks) (by rw [hn4.get, if_neg (by omega)])
    replace v9 := v9.mono (B' := h4.blks) (by rw [hn4.get, if_neg (by omega)])
    try simp only [go_sem,reduceIte,Nat.reduceEqDiff,Nat.reduceLT]
    refine At_storeV (inf := inf95) (v := thrV k m) i95 (by simp only [go_sem,reduceIte,Nat.reduceEqDiff,Nat.reduceLT]) (by simp only [go_sem,reduceIte,Nat.reduceEqDiff,Nat.reduceLT]) v10 (by rw [size95, ← Array.length_toList, thrV_cells, thrL_len, hm]) (by rw [size95]; rfl) (by rw [thrV_cells]; simp [thrL, oneB]) (by show G ≤ h3.next; omega) fun h5 hs5 v10 => ?_
    rw [thrV_cells] at v10
    replace v8 := v8.mono (B' := h5.blks) (hs5.get _ (by omega))
    replace v9 := v9.mono (B' := h5.blks) (hs5.get _ (by omega))
    have n5 := hs5.next
    have pr5 : Pres h.next h h5 := pr3.trans ((hn4.pres (by omega)).trans (hs5.pres (by omega)))
    simp only [go_sem,reduceIte,Nat.reduceEqDiff,Nat.reduceLT, d1, len28]
    refine WK_loopN (fun j α h6 => ∃ i : Nat, i + j = n2 ∧ h6 = h5 ∧ (ls.take i).all (fun s => !decide (most < s.length)) = true ∧ α.get 2 = some (.int .i64 most) ∧ α.get 3 = some (.slice A2 n2 c2) ∧ α.get 8 = some (.pointer (some ⟨h.next, 0, none⟩)) ∧ α.get 9 = some (.pointer (some ⟨h1.next, 0, none⟩)) ∧ α.get 10 = some (.pointer (some ⟨h3.next, 0, none⟩)) ∧
        α.get 28 = some (.slice A2 n2 c2) ∧ α.get 29 = some (.int .i64 n2) ∧ α.get 30 = some (.int .i64 i)) n2
      ⟨0, by omega, rfl, by simp, by simp only [go_sem,reduceIte,Nat.reduceEqDiff,Nat.reduceLT], by simp only [go_sem,reduceIte,Nat.reduceEqDiff,Nat.reduceLT], by simp only [go_sem,reduceIte,Nat.reduceEqDiff,Nat.reduceLT], by simp only [go_sem,reduceIte,Nat.reduceEqDiff,Nat.reduceLT], by simp only [go_sem,reduceIte,Nat.reduceEqDiff,Nat.reduceLT], by simp only [go_sem,reduceIte,Nat.reduceEqDiff,Nat.reduceLT], by simp only [go_sem,reduceIte,Nat.reduceEqDiff,Nat.reduceLT], by simp only [go_sem,reduceIte,Nat.reduceEqDiff,Nat.reduceLT]; rfl⟩ (by omega) ?_
    rintro J j α h6 ⟨i, hij, rfl, hall, e2, e3, e8, e9, e10, e28, e29, e30⟩ hJ
    have hv5 : SlV h6.blks lo2 hi2 1 n2 (strs ls) (.slice A2 n2 c2) := hv2.mono fun b _ hb => pr5.get b (by omega)
    by_cases hlt : (i : Int) < n2
    · obtain ⟨s, hs⟩ : ∃ s, ls[i]? = some s := ⟨ls[i]'(by omega), List.getElem?_eq_getElem (by omega)⟩
      obtain ⟨b, off, rfl, _, _, hld⟩ := hv5.at_ (by omega)
      have ld := hld i (by omega)
      rw [show (strs ls)[i]? = some (strV s) by simp [strs, hs]] at ld
      by_cases hm1 : most < s.length
      · have hE : chkE k ps most ls = 3 := by
          rw [chkE, if_pos hyes, if_pos (List.any_eq_true.2 ⟨s, List.mem_of_getElem? hs, decide_eq_true hm1⟩)]
        simp (disch := omega) only [go_sem,reduceIte,Nat.reduceEqDiff,Nat.reduceLT, e2, e3, e8, e9, e10, e28, e29, e30, hlt, idxA28, load9, Int.toNat_natCast, Nat.mul_one, ld, hm1, build74]
        refine At_storeV (inf := inf95) (v := thrV 0 nilM) i95 (by simp only [go_sem,reduceIte,Nat.reduceEqDiff,Nat.reduceLT, e8]) (by simp only [go_sem,reduceIte,Nat.reduceEqDiff,Nat.reduceLT]) v8 (by rw [size95]; rfl) (by rw [size95]; rfl) rfl (by show G ≤ h.next; omega) fun h7 hs7 v8 => ?_
        replace v9 := v9.mono (B' := h7.blks) (hs7.get _ (by omega))
        try simp only [go_sem,reduceIte,Nat.reduceEqDiff,Nat.reduceLT, e9]
        refine At_storeV (inf := inf29) (v := .int .i64 3) i29 (by simp only [go_sem,reduceIte,Nat.reduceEqDiff,Nat.reduceLT, e9]) (by simp only [go_sem,reduceIte,Nat.reduceEqDiff,Nat.reduceLT]) v9 (by rw [size29]; rfl) (by rw [size29]; rfl) rfl (by show G ≤ h1.next; omega) fun h8 hs8 v9 => ?_
        obtain ⟨r1, r2⟩ := hend nilM_len v8 hs8 v9
        simp only [go_sem,reduceIte,Nat.reduceEqDiff,Nat.reduceLT, e8, e9, r1, r2]
        exact hQ' _ _ ⟨pr5.trans ((hs7.pres (by omega)).trans (hs8.pres (by omega))), .inl ⟨by rw [hE]; decide, by rw [hE]⟩⟩
      · simp (disch := omega) only [go_sem,reduceIte,Nat.reduceEqDiff,Nat.reduceLT, e2, e3, e8, e9, e10, e28, e29, e30, hlt, idxA28, load9, Int.toNat_natCast, Nat.mul_one, ld, hm1, wrap_i64]
        exact hJ (j - 1) _ _ (by omega) ⟨i + 1, by omega, rfl, all_take hall hs (by simp [hm1]), by simp only [go_sem,reduceIte,Nat.reduceEqDiff,Nat.reduceLT, e2], by simp only [go_sem,reduceIte,Nat.reduceEqDiff,Nat.reduceLT, e3], by simp only [go_sem,reduceIte,Nat.reduceEqDiff,Nat.reduceLT, e8], by simp only [go_sem,reduceIte,Nat.reduceEqDiff,Nat.reduceLT, e9], by simp only [go_sem,reduceIte,Nat.reduceEqDiff,Nat.reduceLT, e10], by simp only [go_sem,reduceIte,Nat.reduceEqDiff,Nat.reduceLT, e28], by simp only [go_sem,reduceIte,Nat.reduceEqDiff,Nat.reduceLT, e29], by simp only [go_sem,reduceIte,Nat.reduceEqDiff,Nat.reduceLT]; rfl⟩
    · have htk : ls.take i = ls := List.take_of_length_le (by omega)
      rw [htk] at hall
      have hany : ¬ ls.any (fun s => decide (most < s.length)) = true := fun ha => by
        obtain ⟨s, hs, hd⟩ := List.any_eq_true.1 ha
        have := List.all_eq_true.1 hall s hs
        rw [hd] at this; cases this
      simp (disch := omega) only [go_sem,reduceIte,Nat.reduceEqDiff,Nat.reduceLT, e2, e3, e8, e9, e10, e28, e29, e30, hlt, len28]
      refine WK_loopN (fun j β h7 => ∃ i : Nat, i + j = n2 ∧ (ls.take i).all (fun s => s.all (okc k)) = true ∧ β.get 8 = some (.pointer (some ⟨h.next, 0, none⟩)) ∧ β.get 9 = some (.pointer (some ⟨h1.next, 0, none⟩)) ∧ β.get 10 = some (.pointer (some ⟨h3.next, 0, none⟩)) ∧
          β.get 40 = some (.slice A2 n2 c2) ∧ β.get 41 = some (.int .i64 n2) ∧ β.get 42 = some (.int .i64 i) ∧ Pres h6.next h6 h7) n2
        ⟨0, by omega, by simp, by simp only [go_sem,reduceIte,Nat.reduceEqDiff,Nat.reduceLT, e8], by simp only [go_sem,reduceIte,Nat.reduceEqDiff,Nat.reduceLT, e9], by simp only [go_sem,reduceIte,Nat.reduceEqDiff,Nat.reduceLT, e10], by simp only [go_sem,reduceIte,Nat.reduceEqDiff,Nat.reduceLT], by simp only [go_sem,reduceIte,Nat.reduceEqDiff,Nat.reduceLT], by simp only [go_sem,reduceIte,Nat.reduceEqDiff,Nat.reduceLT]; rfl, Pres.refl _ _⟩ (by omega) ?_
      rintro J2 j2 β h7 ⟨i2, hij2, hall2, f8, f9, f10, f40, f41, f42, pr7⟩ hJ2
      have w8 := v8.mono (B' := h7.blks) (pr7.get _ (by omega))
      have w9 := v9.mono (B' := h7.blks) (pr7.get _ (by omega))
      have w10 := v10.mono (B' := h7.blks) (pr7.get _ (by omega))
      have p7 := pr7.next
      have pr7' : Pres h.next h h7 := pr5.trans (pr7.le (by omega))
      have la := thr_loadA (G := G) w10 hm
      by_cases hlt2 : (i2 : Int) < n2
      · obtain ⟨s, hs⟩ : ∃ s, ls[i2]? = some s := ⟨ls[i2]'(by omega), List.getElem?_eq_getElem (by omega)⟩
        have hv7 : SlV h7.blks lo2 hi2 1 n2 (strs ls) (.slice A2 n2 c2) := hv2.mono fun b _ hb => pr7'.get b (by omega)
        obtain ⟨b, off, rfl, _, _, hld⟩ := hv7.at_ (by omega)
        have ld := hld i2 (by omega)
        rw [show (strs ls)[i2]? = some (strV s) by simp [strs, hs]] at ld
        have hsl := hls s (List.mem_of_getElem? hs)
        simp (disch := omega) only [go_sem,reduceIte,Nat.reduceEqDiff,Nat.reduceLT, f8, f9, f10, f40, f41, f42, hlt2, idxA28, load9, Int.toNat_natCast, Nat.mul_one, ld]
        refine CallO_f letters_spec (by omega) fun v h8 hp8 hv => ?_
        obtain ⟨rfl, n8, vs⟩ := hv
        simp only [go_sem,reduceIte,Nat.reduceEqDiff,Nat.reduceLT]
        refine WK_range (g := 111) (p0 := 48) (p1 := 49) (s := ⟨s.toArray⟩) (b := h7.next) (off := 0) (by simp only [go_sem,reduceIte,Nat.reduceEqDiff,Nat.reduceLT]) (by rw [En_iters]; rfl) rfl (by omega) (by omega) (by show s.length < _; omega) rfl
          (fun i h9 => Pres h8.next h8 h9 ∧ (s.take i).all (okc k) = true) ⟨Pres.refl _ _, by simp⟩ (fun i h9 _ ⟨e, _⟩ => (vs.mono (e.get _ (by omega))).iter') ?_ ?_
        · rintro J3 i3' h9 ch ⟨pr9, hall3⟩ hc hJ3
          rw [ba_get] at hc
          have p9 := pr9.next
          have x8 := (w8.mono (hp8.get _ (by omega))).mono (B' := h9.blks) (pr9.get _ (by omega))
          have x9 := (w9.mono (hp8.get _ (by omega))).mono (B' := h9.blks) (pr9.get _ (by omega))
          have x10 := (w10.mono (hp8.get _ (by omega))).mono (B' := h9.blks) (pr9.get _ (by omega))
          have la9 := thr_loadA (G := G) x10 hm
          simp (disch := omega) only [go_sem,reduceIte,Nat.reduceEqDiff,Nat.reduceLT, f8, f9, f10, la9]
          refine CallO_f has_spec (by omega) fun u h10 hp10 hu => ?_
          subst hu
          have n10 := hp10.next
          by_cases hok : 0 ≤ (ch.toNat : Int) - 97 ∧ (ch.toNat : Int) - 97 < k
          · have d : decide (0 ≤ (ch.toNat : Int) - 97 ∧ (ch.toNat : Int) - 97 < k) = true := decide_eq_true hok
            simp only [go_sem,reduceIte,Nat.reduceEqDiff,Nat.reduceLT, d]
            exact hJ3 _ ⟨pr9.trans (hp10.le (by omega)), all_take hall3 hc (by simp only [okc, decide_eq_true_eq]; omega)⟩
          · have d : decide (0 ≤ (ch.toNat : Int) - 97 ∧ (ch.toNat : Int) - 97 < k) = false := decide_eq_false hok
            have hE : chkE k ps most ls = 2 := by
              rw [chkE, if_pos hyes, if_neg hany, if_neg fun ha => ?_]
              have h1 := List.all_eq_true.1 ha s (List.mem_of_getElem? hs)
              have h2 := List.all_eq_true.1 h1 ch (List.mem_of_getElem? hc)
              simp only [okc, decide_eq_true_eq] at h2
              omega
            simp (disch := omega) only [go_sem,reduceIte,Nat.reduceEqDiff,Nat.reduceLT, d, build74, f8, f9]
            refine At_storeV (inf := inf95) (v := thrV 0 nilM) i95 (by simp only [go_sem,reduceIte,Nat.reduceEqDiff,Nat.reduceLT, f8]) (by simp only [go_sem,reduceIte,Nat.reduceEqDiff,Nat.reduceLT]) (x8.mono (hp10.get _ (by omega))) (by rw [size95]; rfl) (by rw [size95]; rfl) rfl (by show G ≤ h.next; omega) fun h11 hs11 v8 => ?_
            have y9 := (x9.mono (hp10.get _ (by omega))).mono (B' := h11.blks) (hs11.get _ (by omega))
            try simp only [go_sem,reduceIte,Nat.reduceEqDiff,Nat.reduceLT, f9]
            refine At_storeV (inf := inf29) (v := .int .i64 2) i29 (by simp only [go_sem,reduceIte,Nat.reduceEqDiff,Nat.reduceLT, f9]) (by simp only [go_sem,reduceIte,Nat.reduceEqDiff,Nat.reduceLT]) y9 (by rw [size29]; rfl) (by rw [size29]; rfl) rfl (by show G ≤ h1.next; omega) fun h12 hs12 v9 => ?_
            obtain ⟨r1, r2⟩ := hend nilM_len v8 hs12 v9
            simp only [go_sem,reduceIte,Nat.reduceEqDiff,Nat.reduceLT, f8, f9, r1, r2]
            exact hQ' _ _ ⟨pr7'.trans ((hp8.le (by omega)).trans ((pr9.le (by omega)).trans ((hp10.le (by omega)).trans ((hs11.pres (by omega)).trans (hs12.pres (by omega)))))), .inl ⟨by rw [hE]; decide, by rw [hE]⟩⟩
        · rintro h9 ⟨pr9, hall3⟩
          have htk : s.take (⟨s.toArray⟩ : ByteArray).size = s := List.take_of_length_le (Nat.le_refl _)
          rw [htk] at hall3
          simp (disch := omega) only [go_sem,reduceIte,Nat.reduceEqDiff,Nat.reduceLT, f42, wrap_i64]
          exact hJ2 (j2 - 1) _ _ (by omega) ⟨i2 + 1, by omega, all_take hall2 hs hall3, by simp only [go_sem,reduceIte,Nat.reduceEqDiff,Nat.reduceLT, f8], by simp only [go_sem,reduceIte,Nat.reduceEqDiff,Nat.reduceLT, f9], by simp only [go_sem,reduceIte,Nat.reduceEqDiff,Nat.reduceLT, f10], by simp only [go_sem,reduceIte,Nat.reduceEqDiff,Nat.reduceLT, f40], by simp only [go_sem,reduceIte,Nat.reduceEqDiff,Nat.reduceLT, f41], by simp only [go_sem,reduceIte,Nat.reduceEqDiff,Nat.reduceLT]; rfl, pr7.trans ((hp8.le (by omega)).trans (pr9.le (by omega)))⟩
      · have htk2 : ls.take i2 = ls := List.take_of_length_le (by omega)
        rw [htk2] at hall2
        have hE : chkE k ps most ls = 0 := by rw [chkE, if_pos hyes, if_neg hany, if_pos hall2]
        simp (disch := omega) only [go_sem,reduceIte,Nat.reduceEqDiff,Nat.reduceLT, f8, f9, f10, f40, f41, f42, hlt2, la]
        refine At_storeV (inf := inf95) (v := thrV k m) i95 (by simp only [go_sem,reduceIte,Nat.reduceEqDiff,Nat.reduceLT, f8]) (by simp only [go_sem,reduceIte,Nat.reduceEqDiff,Nat.reduceLT]) w8 (by rw [size95, ← Array.length_toList, thrV_cells, thrL_len, hm]) (by rw [size95]; rfl) (by rw [thrV_cells]; simp [thrL, oneB]) (by show G ≤ h.next; omega) fun h8 hs8 v8 => ?_
        rw [thrV_cells] at v8
        have y9 := w9.mono (B' := h8.blks) (hs8.get _ (by omega))
        try simp only [go_sem,reduceIte,Nat.reduceEqDiff,Nat.reduceLT, f9]
        refine At_storeV (inf := inf29) (v := .int .i64 0) i29 (by simp only [go_sem,reduceIte,Nat.reduceEqDiff,Nat.reduceLT, f9]) (by simp only [go_sem,reduceIte,Nat.reduceEqDiff,Nat.reduceLT]) y9 (by rw [size29]; rfl) (by rw [size29]; rfl) rfl (by show G ≤ h1.next; omega) fun h9 hs9 v9 => ?_
        obtain ⟨r1, r2⟩ := hend hm v8 hs9 v9
        simp only [go_sem,reduceIte,Nat.reduceEqDiff,Nat.reduceLT, f8, f9, r1, r2]
        exact hQ' _ _ ⟨pr7'.trans ((hs8.pres (by omega)).trans (hs9.pres (by omega))), .inr ⟨hE, m, hm, hmc, rfl⟩⟩
end
end Go.Proofs.YthankillfhmfkaaGreatDoor.Ev


/- why; the laws' arguments; Equal. -/
set_option linter.unusedSimpArgs false
set_option linter.unusedVariables false
namespace Go.Proofs.YthankillfhmfkaaGreatDoor.Ev
open Go Go.Proofs
noncomputable section

theorem En_tabs {G : Nat} : (En G).tabs = tabs := rfl
section
variable {G n : Nat} {ops : List Oper} {r tl : List Oper} {k : List Frm} {α : Tr Value} {h : H} {R : Rt} {d : Nat}
theorem Call_lives (ht : TabsIn tabs h.blks) (hd : d < n) (hk : At Tryz.prog (En G) n ops false r tl k (Tr.put α d (.bool true)) h R) : CallO Tryz.prog (En G) n ops false r tl k α h R (some d) (some (.func (.func 24) #[] #[])) (some []) := by
  refine CallO_of (Q := fun v h' => v = .bool true ∧ h' = h) (CallsE_known En_lives (by rw [En_tabs]; exact ht) ⟨rfl, rfl⟩) hd fun v h' ⟨e1, e2⟩ => ?_
  subst e1; subst e2
  exact ⟨fun e => (by cases e), hk⟩
end
theorem TabsIn.pres {tbs : List (Nat × List Value)} {m : Nat} {h h' : H} (ht : TabsIn tbs h.blks) (hp : Pres m h h') (hm : ∀ x ∈ tbs, x.1 < m) : TabsIn tbs h'.blks := fun x hx => by
  obtain ⟨c, s, e, h1, h2⟩ := ht x hx
  exact ⟨c, s, e, by rw [hp.get _ (hm x hx)]; exact h1, h2⟩
theorem tabs_lt : ∀ x ∈ tabs, x.1 < 4 := fun x hx => by
  simp only [tabs, List.mem_cons, List.not_mem_nil, or_false] at hx
  rcases hx with rfl | rfl | rfl <;> decide

theorem zero82 : inf104.zero = some (.agg #[.int .i64 0, .int .i64 0]) := by kernel_rfl
theorem chk_ok {k most : Int} {ps : List (Int × Int)} {ls : List (List UInt8)} (h : chkE k ps most ls = 0) : okT k ps = true ∧ ∀ s ∈ ls, ¬ most < s.length ∧ s.all (okc k) = true := by
  unfold chkE at h
  split at h
  · rename_i ht
    split at h
    · cases h
    · rename_i hany
      split at h
      · rename_i hall
        exact ⟨ht, fun s hs => ⟨fun hl => hany (List.any_eq_true.2 ⟨s, hs, decide_eq_true hl⟩), List.all_eq_true.1 hall s hs⟩⟩
      · cases h
  · cases h
theorem okc_okL {k : Int} {s : List UInt8} (h0 : 0 ≤ k) (h : s.all (okc k) = true) : OkL k.toNat s := fun c hc => by
  have := List.all_eq_true.1 h c hc
  simp only [okc, decide_eq_true_eq] at this
  omega

end
end Go.Proofs.YthankillfhmfkaaGreatDoor.Ev


