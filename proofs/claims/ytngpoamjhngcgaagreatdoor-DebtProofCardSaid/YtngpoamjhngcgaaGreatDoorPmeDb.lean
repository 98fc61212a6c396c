/- The law DebtProof. -/
import Derived.Test.YtngpoamjhngcgaaGreatDoorPmeDa
set_option linter.unusedSimpArgs false
set_option linter.unusedVariables false
namespace Go.Proofs.YtngpoamjhngcgaaGreatDoor.Ev
open Go Go.Proofs
noncomputable section

theorem SlV.get_blk {B : Tr Blk} {lo hi sz n b off c : Nat} {L : List Value} (s : SlV B lo hi sz n L (.slice (some ⟨b, off, none⟩) n c)) : ∃ cells size, B.get b = some (.mk cells size sz) ∧ off + n * sz ≤ size := by
  cases s with
  | mk hb hlo hhi hsz hL hc => exact ⟨_, _, hb, hsz⟩
/-- one more row -/
theorem MatW.push {h2 h3 : H} {lo hi s i m c cc b off : Nat} {f : Nat → Nat → Int} {R O rc : Nat → Nat} {A : Option Addr} (w : MatW h2.blks lo hi i m f R O rc (.slice A i cc)) (hhi : hi ≤ s) (hlo : lo ≤ s)
    (hv : SlV h2.blks s h2.next 1 m (intsL m (f i)) (.slice (some ⟨b, off, none⟩) m c)) (p : Push h2 h3 (blkOf (.slice A i cc)) (rowsL i (fun _ => m) (cR R O) rc ++ [.slice (some ⟨b, off, none⟩) m c]) 1) :
    MatW h3.blks lo h3.next (i + 1) m f (fun k => if k = i then b else R k) (fun k => if k = i then off else O k) (fun k => if k = i then c else rc k) (.slice (some ⟨h2.next + 1, 0, none⟩) (i + 1) (i + 1)) := by
  have n3 := p.next
  have hb := hv.blk b rfl
  have e := rowsL_snoc (i := i) (g := fun _ => m) (RA := cR R O) (rc := rc) (A := some ⟨b, off, none⟩) (c := c)
  rw [e] at p
  refine ⟨?_, fun k hk => ?_, fun x y hx hy e => ?_, fun k b' hk hb' => ?_⟩
  · have t := p.slv (n := i + 1) (c := i + 1) (by rw [rowsL_len, Nat.mul_one])
    have e2 := rowsL_congr (n := i + 1) (g := fun _ => m) (g' := fun _ => m) (RA := fun k => if k = i then some ⟨b, off, none⟩ else cR R O k) (RA' := cR (fun k => if k = i then b else R k) (fun k => if k = i then off else O k))
      (rc := fun k => if k = i then c else rc k) (rc' := fun k => if k = i then c else rc k) (fun k _ => by
        by_cases e : k = i
        · subst e; simp [cR]
        · simp [cR, e])
    rw [e2] at t
    exact t.wide (by omega) (Nat.le_refl _)
  · by_cases e1 : k = i
    · subst e1
      simp only [if_true]
      obtain ⟨cells, size, hb1, hsz⟩ := hv.get_blk
      have hc : ∀ j, j < m → cells.get (off + j) = some (.int .i64 (f k j)) := fun j hj => by
        cases hv with
        | mk hb2 _ _ _ _ hc =>
          rw [hb1] at hb2
          injection hb2 with hb2
          injection hb2 with x1 x2 x3
          subst x1
          rw [hc j (by omega), intsL_get hj]
      refine ⟨by omega, by omega, cells, size, ?_, by omega, hc⟩
      rw [p.get b hb.2, if_neg fun hob => ?_]
      · exact hb1
      · have := (w.top.blk b hob)
        omega
    · obtain ⟨h1, h2', cells, size, h4, h5, h6⟩ := w.row k (by omega)
      simp only [e1, if_false]
      refine ⟨h1, by omega, cells, size, ?_, h5, h6⟩
      rw [p.get _ (by omega), if_neg fun hob => w.ne k _ (by omega) hob rfl]
      exact h4
  · by_cases e1 : x = i
    · by_cases e2 : y = i
      · omega
      · have := (w.row y (by omega)).2.1
        simp only [e1, e2, if_true, if_false] at e
        omega
    · by_cases e2 : y = i
      · have := (w.row x (by omega)).2.1
        simp only [e1, e2, if_true, if_false] at e
        omega
      · simp only [e1, e2, if_false] at e
        exact w.inj x y (by omega) (by omega) e
  · simp only [blkOf, Option.some.injEq] at hb'
    subst hb'
    by_cases e1 : k = i
    · simp only [e1, if_true]
      omega
    · have := (w.row k (by omega)).2.1
      simp only [e1, if_false]
      omega
theorem MatW.nil {B : Tr Blk} {lo hi m : Nat} {f : Nat → Nat → Int} {R O rc : Nat → Nat} : MatW B lo hi 0 m f R O rc (.slice (some ⟨0, 0, some 0⟩) 0 0) :=
  ⟨.emp rfl rfl, fun i hi => absurd hi (Nat.not_lt_zero i), fun i _ hi => absurd hi (Nat.not_lt_zero i), fun i _ hi => absurd hi (Nat.not_lt_zero i)⟩


def u8s (zs : List Nat) : List Value := zs.map fun (z : Nat) => Value.int .u8 (z : Int)
theorem u8s_get {zs : List Nat} {i : Nat} (h : i < zs.length) : (u8s zs)[i]? = some (.int .u8 ((zs.getD i 0 : Nat) : Int)) := by
  unfold u8s
  rw [List.getElem?_map, List.getD, List.getElem?_eq_getElem h]
  rfl
theorem u8_at {B : Tr Blk} {lo hi c : Nat} {zs : List Nat} {A : Option Addr} (s : SlV B lo hi 1 zs.length (u8s zs) (.slice A zs.length c)) (h : 0 < zs.length) : ∃ b off, A = some ⟨b, off, none⟩ ∧ ∀ i, i < zs.length → loadv B b (off + i) = some (.int .u8 ((zs.getD i 0 : Nat) : Int)) := by
  obtain ⟨b, off, hA, _, _, hld⟩ := s.at_ (by omega)
  exact ⟨b, off, hA, fun i hi => by rw [hld i (by omega), u8s_get hi]⟩
theorem tm_nat {a b : Nat} : (a : Int).tmod (b : Int) = ((a % b : Nat) : Int) := rfl
theorem td16 {z : Nat} : (z : Int).tdiv 16 = ((z / 16 : Nat) : Int) := rfl
theorem neqB {a b : Bool} : pureRun Tryz.prog (do eqGuard .neq 4 (.tmp 0) (.tmp 0) (.bool a) (.bool b); binOp .neq 4 (.bool a) (.bool b)) = some (.bool (a != b)) := by
  cases a <;> cases b <;> kernel_rfl
theorem neq_bool {G : Nat} {a b : Bool} : binO Tryz.prog (En G) .neq 4 (some (.bool a)) (some (.bool b)) = some (.bool (a != b)) := by
  have h1 : (plainA (.bool a) && plainA (.bool b)) = true := rfl
  have h2 : fastBin .neq (.bool a) (.bool b) = none := rfl
  simp only [binO, h1, if_true, h2, slowBin, neqB]
  rfl
section
variable {P : Program} {n : Nat} {ops : List Oper} {r tl : List Oper} {k : List Frm} {α : Tr Value} {h : H} {R : Rt} {ty : TypeId} {pos : String} {af : Array Edge}
/-- a number is stored in a slice of numbers -/
theorem At_setIntO {G : Nat} {x y : Operand} {lo hi N b off c i : Nat} {f : Nat → Int} {z : Int} (hx : ev (En G) h α x = some (.pointer (some ⟨b, off + i, none⟩))) (hy : ev (En G) h α y = some (.int .i64 z)) (hs : SlV h.blks lo hi 1 N (intsL N f) (.slice (some ⟨b, off, none⟩) N c)) (hi' : i < N) (hG : G ≤ b)
    (hk : ∀ h', Sto h h' b (off + i) [.int .i64 z] → SlV h'.blks lo hi 1 N (intsL N fun r => if r = i then z else f r) (.slice (some ⟨b, off, none⟩) N c) → At P (En G) n ops false r tl k α h' R) :
    At P (En G) n ops false (⟨none, .store 3 x y, ty, pos, af, none⟩ :: r) tl k α h R := by
  cases hs with
  | mk gb glo ghi gsz gL gc =>
    refine At_store (inf := inf3) (b := b) (off := off + i) (v := .int .i64 z) i3 hx hy (by rw [size3]; rfl) rfl gb (by rw [size3]; omega) (by rw [En_G]; exact hG) fun h4 hs4 => ?_
    have e := hs4.slv (c := c) (.mk gb glo ghi gsz gL gc) (by show i + 1 ≤ N * 1; omega)
    have e2 : (Value.int .i64 z).cells.toList = [.int .i64 z] := rfl
    rw [e2, List.length_singleton, intsL_set hi'] at e
    exact hk h4 hs4 e
end
/-- what prices prove has the least sum -/
theorem Can.sum_eq {n : Nat} {d r o : Nat → Nat → Int} {p : Nat → Int} (hd : DOk n d) (h : Can d r n) (hbl : ∀ k, k < n → bl n d k = bl n r k) (ho : (BdOk n d o ∧ BlOk n d o) ∧ Pz n d o p) : tot n o = tot n r := by
  obtain ⟨q, hq⟩ := h.pot
  have h1 := hq.pri.least h.bd ho.1.1 hd.2 fun k hk => (ho.1.2 k hk).symm.trans (hbl k hk)
  have h2 := ho.2.pri.least ho.1.1 h.bd hd.2 fun k hk => (hbl k hk).symm.trans (ho.1.2 k hk)
  omega

set_option maxRecDepth 100000 in
set_option maxHeartbeats 128000000 in
theorem law_DebtProof {G lo hi lo2 hi2 cy cz N8 : Nat} {ys zs : List Nat} {Ay Az : Option Addr} {h0 : H} (h4 : 4 ≤ h0.next) (hG : G ≤ h0.next) (ht : TabsIn tabs h0.blks) (hN : N8 ≤ 255) (hy : SlV h0.blks lo hi 1 ys.length (u16s ys) (.slice Ay ys.length cy)) (hy6 : ∀ z ∈ ys, z ≤ 65535) (hhi : hi ≤ h0.next)
    (hz : SlV h0.blks lo2 hi2 1 zs.length (u8s zs) (.slice Az zs.length cz)) (hz6 : ∀ z ∈ zs, z ≤ 255) (hhi2 : hi2 ≤ h0.next) (hzl : zs.length < 9223372036854775808) :
    Spec Tryz.prog (En G) 6 [.int .u8 (N8 : Int), .slice Ay ys.length cy, .slice Az zs.length cz] h0 fun v _ => v = .bool true := by
  have d00 : decide ((0 : Int) ≠ 0) = false := rfl
  have q00 : decide ((0 : Int) = 0) = true := rfl
  have hzg : ∀ i, zs.getD i 0 ≤ 255 := fun i => getD_le hz6
  have n3 : ¬ ((3 : Int) = 0) := by decide
  have n16 : ¬ ((16 : Int) = 0) := by decide
  refine CallsE_enter (En_known (by decide)) (En_f.trans Tryz.func6) rfl ⟨Nat.le_of_ble_eq_true rfl, by decide⟩ fun Q' hQ' => ?_
  simp only [Tryz.f6, go_sem,reduceIte,Nat.reduceEqDiff,Nat.reduceLT]
  refine CallO_f (made_spec (xs := []) (Ax := none) (cx := 0) (lo := 0) (hi := 0) hG hN (.nil rfl rfl) hy (fun z hz => (by cases hz)) hy6 (Nat.zero_le _) hhi) (by omega) fun u h1 p1 ⟨n, cf, d, A1, A2, RA, rc, hk, hu, hsc, hcb, hmd, hdok⟩ => ?_
  subst hu
  have n1 := p1.next
  have hn8 : n ≤ 8 := by omega
  have hn0 : 0 < n := by omega
  have nn0 : ¬ ((n : Int) = 0) := by omega
  have hD := hdok.isD hn0 hn8
  simp (maxSteps := 20000000) only [go_sem,reduceIte,Nat.reduceEqDiff,Nat.reduceLT]
  refine CallO_f (Cancel_spec (by omega) hmd (Nat.le_refl _) (by omega)) (by omega) fun u h2 p2 hc => ?_
  rcases hc with ⟨hD', _⟩ | ⟨_, r, B, R, O, rc', hu, hM, hcan, hbl⟩
  · exact absurd hD hD'
  subst hu
  have n2 := p2.next
  have hmd2 := hmd.mono (B' := h2.blks) fun b _ hb => p2.get b hb
  simp (maxSteps := 20000000) only [go_sem,reduceIte,Nat.reduceEqDiff,Nat.reduceLT]
  refine CallO_f (Prices_spec (by omega) hmd2 (by omega) (by omega)) (by omega) fun u h3 p3 hp => ?_
  rcases hp with ⟨hD', _⟩ | ⟨_, r2, p, Bp, hu, hsp, hcan2, hbl2, hpot, hpok⟩
  · exact absurd hD hD'
  subst hu
  have n3' := p3.next
  have pr3 : Pres h0.next h0 h3 := p1.trans ((p2.le (by omega)).trans (p3.le (by omega)))
  have ht3 := TabsIn.pres ht pr3 fun x hx => Nat.lt_of_lt_of_le (tabs_lt x hx) h4
  have M1 : MatV h3.blks h0.next h3.next n (fun _ => n) d RA rc (.slice A2 n n) := ⟨(hmd2.top.mono fun b _ hb => p3.get b (by omega)).wide (Nat.le_refl _) (by omega), fun i hi => ((hmd2.row i hi).mono fun b _ hb => p3.get b (by omega)).wide (Nat.le_refl _) (by omega)⟩
  have M2 := ((hM.mono (B' := h3.blks) fun b _ hb => p3.get b (by omega)).wide (lo' := h0.next) (hi' := h3.next) (by omega) (by omega)).mat
  have M3 : SlV h3.blks h0.next h3.next 1 n (intsL n p) (.slice (some ⟨Bp, 0, none⟩) n n) := hsp.wide (by omega) (Nat.le_refl _)
  have hpri : Pri d r n p := hcan2.pri hcan hpot hdok.2 fun k hk => (hbl k hk).symm.trans (hbl2 k hk)
  have hrok := hcan.bd.ok hdok
  have dnn : decide ((n : Int) ≠ (n : Int)) = false := decide_eq_false fun g => g rfl
  simp (maxSteps := 20000000) (disch := omega) only [go_sem,reduceIte,Nat.reduceEqDiff,Nat.reduceLT, d00]
  refine CallO_same (refShape_spec (n := n) (c := n) (A := A2) M2 (by omega)) (by omega) fun u hu => ?_
  obtain ⟨y, rfl, hyy⟩ := hu
  obtain rfl : y = true := hyy.2 ⟨rfl, fun _ _ => rfl⟩
  simp (maxSteps := 20000000) (disch := omega) only [go_sem,reduceIte,Nat.reduceEqDiff,Nat.reduceLT, len22, len23, dnn]
  refine Call_lives ht3 (by omega) ?_
  simp (maxSteps := 20000000) (disch := omega) only [go_sem,reduceIte,Nat.reduceEqDiff,Nat.reduceLT]
  refine CallO_f (proves_spec (by omega) (Nat.le_refl _) M1 M2 M3 (by omega) (by omega) (by omega)) (by omega) fun u h5 p5 hu => ?_
  obtain ⟨bv, be, rfl, hbe⟩ := hu
  have hsh : ShOk n n n (fun _ => n) (fun _ => n) p := ⟨⟨rfl, fun _ _ => rfl⟩, rfl, hpok⟩
  obtain ⟨rfl, rfl⟩ : bv = true ∧ be = 0 := by
    rcases hbe with ⟨a, _⟩ | ⟨_, a, _⟩ | ⟨_, _, a, b⟩
    · exact absurd hD a
    · exact absurd hsh a
    · exact ⟨b.2 ⟨⟨hcan.bd, hbl⟩, hpri.pz⟩, a⟩
  have n5 := p5.next
  have pr5 : Pres h0.next h0 h5 := pr3.trans (p5.le (by omega))
  have M15 := M1.mono fun b _ hb => p5.get b hb
  have M25 := M2.mono fun b _ hb => p5.get b hb
  have M35 := M3.mono fun b _ hb => p5.get b hb
  simp (maxSteps := 20000000) (disch := omega) only [go_sem,reduceIte,Nat.reduceEqDiff,Nat.reduceLT, d00]
  refine At_lit0 u22 i23 zero23 (by rw [size23]; rfl) (by omega) ?_
  simp (maxSteps := 20000000) (disch := omega) only [go_sem,reduceIte,Nat.reduceEqDiff,Nat.reduceLT]
  -- a copy
  refine WK_loopN (fun j α h6 => ∃ (i : Nat) (Ao : Option Addr) (R2 O2 rc2 : Nat → Nat), i + j = n ∧ Pres h5.next h5 h6 ∧ MatW h6.blks h5.next h6.next i n r R2 O2 rc2 (.slice Ao i i) ∧ α.get 2 = some (.slice Az zs.length cz) ∧ α.get 8 = some (.slice A2 n n) ∧ α.get 9 = some (.slice (some ⟨B, 0, none⟩) n n) ∧ α.get 12 = some (.slice (some ⟨Bp, 0, none⟩) n n) ∧ α.get 16 = some (.slice Ao i i) ∧ α.get 17 = some (.int .i64 0) ∧ α.get 18 = some (.int .i64 (i : Int))) n
    ⟨0, some ⟨0, 0, some 0⟩, fun _ => 0, fun _ => 0, fun _ => 0, by omega, Pres.refl _ _, MatW.nil, by simp only [go_sem,reduceIte,Nat.reduceEqDiff,Nat.reduceLT], by simp only [go_sem,reduceIte,Nat.reduceEqDiff,Nat.reduceLT], by simp only [go_sem,reduceIte,Nat.reduceEqDiff,Nat.reduceLT], by simp only [go_sem,reduceIte,Nat.reduceEqDiff,Nat.reduceLT], by (simp only [go_sem,reduceIte,Nat.reduceEqDiff,Nat.reduceLT]) <;> rfl, by (simp only [go_sem,reduceIte,Nat.reduceEqDiff,Nat.reduceLT]) <;> rfl, by (simp only [go_sem,reduceIte,Nat.reduceEqDiff,Nat.reduceLT]) <;> rfl⟩ (by omega) ?_
  rintro J j α h6 ⟨i, Ao, R2, O2, rc2, hij, pr6, hW, e2, e8, e9, e12, e16, e17, e18⟩ hJ
  have n6 := pr6.next
  by_cases hlt : (i : Int) < (n : Int)
  · have hin : i < n := by omega
    have M26 := M25.mono (B' := h6.blks) fun b _ hb => pr6.get b (by omega)
    obtain ⟨br, orr, he, l1, hr1⟩ := M26.rowS (fun _ _ => rfl) hin
    injection he with he
    injection he with x1 x2
    subst x1; subst x2
    simp (maxSteps := 20000000) (disch := omega) only [go_sem,reduceIte,Nat.reduceEqDiff,Nat.reduceLT, e2, e8, e9, e12, e16, e17, e18, hlt, len22]
    refine At_lit0 u23 i3 zero3 (by rw [size3]; rfl) (by omega) ?_
    simp (maxSteps := 20000000) (disch := omega) only [go_sem,reduceIte,Nat.reduceEqDiff,Nat.reduceLT, e2, e8, e9, e12, e16, e17, e18, idxA22, Int.toNat_natCast, Nat.mul_one, load23, l1]
    refine At_appendE (M := intsL n (r i)) (m := n) u23 u23 i3 zero3 (by rw [size3, bytes3]; rfl) (by (simp only [go_sem,reduceIte,Nat.reduceEqDiff,Nat.reduceLT]) <;> rfl) (by (simp only [go_sem,reduceIte,Nat.reduceEqDiff,Nat.reduceLT]) <;> rfl) (by rw [size3]; exact hr1) (by omega) intsL_one (by omega) fun A7 c7 h7 pr7 hrow => ?_
    rw [size3] at hrow
    have n7 := pr7.next
    obtain ⟨b7, o7, rfl, _⟩ := hrow.ints_at hn0
    have hW7 := hW.mono (B' := h7.blks) fun b _ hb => pr7.get b hb
    try simp only [go_sem,reduceIte,Nat.reduceEqDiff,Nat.reduceLT]
    refine At_push (v := .slice (some ⟨b7, o7, none⟩) n c7) (A := Ao) (sl := i) (sc := i) (lo := h5.next) (hi := h6.next) (L := rowsL i (fun _ => n) (cR R2 O2) rc2) (vs := [.slice (some ⟨b7, o7, none⟩) n c7]) u22 i23 zero23 (by rw [size23, bytes23]; rfl) (by (simp only [go_sem,reduceIte,Nat.reduceEqDiff,Nat.reduceLT]) <;> rfl) (by rw [size23]; rfl) (by rw [size23]; rfl) rfl (by (simp only [go_sem,reduceIte,Nat.reduceEqDiff,Nat.reduceLT, e16]) <;> rfl) (by rw [size23]; exact hW7.top) (by omega) (Nat.le_refl _) (by rw [En_G]; omega) (by omega) (by decide) (by decide) (by decide) fun h8 hp8 => ?_
    rw [size23] at hp8
    have n8 := hp8.next
    have hW8 := hW7.push (s := h6.next) (Nat.le_refl _) (by omega) hrow hp8
    have pr8 : Pres h5.next h5 h8 := pr6.trans ((pr7.le (by omega)).trans (hp8.pres (by omega) fun x hx => (hW7.top.blk x hx).1))
    simp (maxSteps := 20000000) (disch := omega) only [go_sem,reduceIte,Nat.reduceEqDiff,Nat.reduceLT, e18, wrap_i64]
    exact hJ (j - 1) _ _ (by omega) ⟨i + 1, _, _, _, _, by omega, pr8, hW8, by simp only [go_sem,reduceIte,Nat.reduceEqDiff,Nat.reduceLT, e2], by simp only [go_sem,reduceIte,Nat.reduceEqDiff,Nat.reduceLT, e8], by simp only [go_sem,reduceIte,Nat.reduceEqDiff,Nat.reduceLT, e9], by simp only [go_sem,reduceIte,Nat.reduceEqDiff,Nat.reduceLT, e12], by (simp only [go_sem,reduceIte,Nat.reduceEqDiff,Nat.reduceLT]) <;> rfl, by simp only [go_sem,reduceIte,Nat.reduceEqDiff,Nat.reduceLT, e17], by (simp only [go_sem,reduceIte,Nat.reduceEqDiff,Nat.reduceLT]) <;> rfl⟩
  · obtain rfl : i = n := by omega
    clear hJ
    obtain ⟨N6, hN6⟩ : ∃ N6, N6 = h6.next := ⟨_, rfl⟩
    rw [← hN6] at hW
    simp (maxSteps := 20000000) (disch := omega) only [go_sem,reduceIte,Nat.reduceEqDiff,Nat.reduceLT, e2, e8, e9, e12, e16, e17, e18, hlt, len22]
    -- changes along the way
    refine WK_loopN (fun j α h7 => ∃ (m k : Nat) (o : Nat → Nat → Int), m + j = 6 ∧ k ≤ m ∧ Wri h5.next N6 h6 h7 ∧ MatW h7.blks h5.next N6 i i o R2 O2 rc2 (.slice Ao i i) ∧ (∀ a b, a < i → b < i → -(2 * m : Int) ≤ o a b ∧ o a b ≤ 1000 + 2 * m) ∧ α.get 2 = some (.slice Az zs.length cz) ∧ α.get 8 = some (.slice A2 i i) ∧ α.get 9 = some (.slice (some ⟨B, 0, none⟩) i i) ∧ α.get 12 = some (.slice (some ⟨Bp, 0, none⟩) i i) ∧ α.get 16 = some (.slice Ao i i) ∧ α.get 17 = some (.int .i64 (k : Int)) ∧ α.get 19 = some (.int .i64 ((2 * m : Nat) : Int))) 6
      ⟨0, 0, r, by omega, Nat.le_refl _, Wri.refl, hW, fun a b ha hb => by have := hrok a b ha hb; omega, by simp only [go_sem,reduceIte,Nat.reduceEqDiff,Nat.reduceLT, e2], by simp only [go_sem,reduceIte,Nat.reduceEqDiff,Nat.reduceLT, e8], by simp only [go_sem,reduceIte,Nat.reduceEqDiff,Nat.reduceLT, e9], by simp only [go_sem,reduceIte,Nat.reduceEqDiff,Nat.reduceLT, e12], by simp only [go_sem,reduceIte,Nat.reduceEqDiff,Nat.reduceLT, e16], by (simp only [go_sem,reduceIte,Nat.reduceEqDiff,Nat.reduceLT, e17]) <;> rfl, by (simp only [go_sem,reduceIte,Nat.reduceEqDiff,Nat.reduceLT]) <;> rfl⟩ (by omega) ?_
    clear e2 e8 e9 e12 e16 e17 e18 hW
    rintro J j α h7 ⟨m, k, o, hmj, hkm, wr, hW, hob, e2, e8, e9, e12, e16, e17, e19⟩ hJ
    have hz7 : SlV h7.blks lo2 hi2 1 zs.length (u8s zs) (.slice Az zs.length cz) := hz.mono fun b _ hb => (wr.get b (.inl (by omega))).trans ((pr6.get b (by omega)).trans (pr5.get b (by omega)))
    by_cases c1 : ((2 * m : Nat) : Int) + 1 < (zs.length : Int)
    · by_cases c2 : ((2 * m : Nat) : Int) < 12
      · obtain ⟨bz, oz, rfl, lz⟩ := u8_at hz7 (by omega)
        have lz0 := lz (2 * m) (by omega)
        have lz1 := lz (2 * m + 1) (by omega)
        have i1 : (((2 * m : Nat) : Int) + 1).toNat = 2 * m + 1 := by omega
        have g0 := hzg (2 * m)
        have g1 := hzg (2 * m + 1)
        obtain ⟨a, ha⟩ : ∃ a, a = zs.getD (2 * m) 0 % i := ⟨_, rfl⟩
        obtain ⟨b, hb⟩ : ∃ b, b = zs.getD (2 * m + 1) 0 % i := ⟨_, rfl⟩
        have hai : a < i := by rw [ha]; exact Nat.mod_lt _ hn0
        have hbi : b < i := by rw [hb]; exact Nat.mod_lt _ hn0
        simp (maxSteps := 20000000) (disch := omega) only [go_sem,reduceIte,Nat.reduceEqDiff,Nat.reduceLT, e2, e8, e9, e12, e16, e17, e19, wrap_i64, len44, c1, c2]
        refine WK_regionT 18 ⟨by kernel_rfl, by kernel_rfl, by kernel_rfl⟩ ?_
        simp (maxSteps := 20000000) (disch := omega) only [go_sem,reduceIte,Nat.reduceEqDiff,Nat.reduceLT, e2, e8, e9, e12, e16, e17, e19, wrap_i64, len22, idxA44, Int.toNat_natCast, Nat.mul_one, load5, lz0, lz1, i1, conv53n, binO_rem nn0, tm_nat, ← ha, ← hb]
        by_cases c3 : a = b
        · have d3 : decide ((a : Int) = (b : Int)) = true := decide_eq_true (by omega)
          simp (maxSteps := 20000000) (disch := omega) only [go_sem,reduceIte,Nat.reduceEqDiff,Nat.reduceLT, d3, e19, wrap_i64]
          exact hJ (j - 1) _ _ (by omega) ⟨m + 1, k, o, by omega, by omega, wr, hW, fun x y hx hy => by have := hob x y hx hy; omega, by simp only [go_sem,reduceIte,Nat.reduceEqDiff,Nat.reduceLT, e2], by simp only [go_sem,reduceIte,Nat.reduceEqDiff,Nat.reduceLT, e8], by simp only [go_sem,reduceIte,Nat.reduceEqDiff,Nat.reduceLT, e9], by simp only [go_sem,reduceIte,Nat.reduceEqDiff,Nat.reduceLT, e12], by simp only [go_sem,reduceIte,Nat.reduceEqDiff,Nat.reduceLT, e16], by simp only [go_sem,reduceIte,Nat.reduceEqDiff,Nat.reduceLT, e17], by (simp only [go_sem,reduceIte,Nat.reduceEqDiff,Nat.reduceLT]) <;> (first | rfl | (congr 2 <;> omega))⟩
        · have d3 : decide ((a : Int) = (b : Int)) = false := decide_eq_false (by omega)
          obtain ⟨by_, hby⟩ : ∃ by_ : Int, by_ = ((zs.getD (2 * m) 0 / 16 % 3 : Nat) : Int) - 1 := ⟨_, rfl⟩
          have hbyb : -1 ≤ by_ ∧ by_ ≤ 1 := by omega
          obtain ⟨bo, oo, rfl, hld⟩ := hW.at_ hn0
          have la := hld a hai
          have lb := hld b hbi
          have lab := hW.cell hai hbi
          obtain ⟨w1, w2, ci, si, w3, w4, _⟩ := hW.row a hai
          have oab := hob a b hai hbi
          simp (maxSteps := 20000000) (disch := omega) only [go_sem,reduceIte,Nat.reduceEqDiff,Nat.reduceLT, d3, e2, e8, e9, e12, e16, e17, e19, wrap_i64, idxA44, idxA22, idxA23, Int.toNat_natCast, Nat.mul_one, load5, load23, load3, lz0, conv53n, binO_quo n16, td16, binO_rem n3, tm3, ← hby, la, lab]
          refine At_store (inf := inf3) (b := R2 a) (off := O2 a + b) (v := .int .i64 (o a b + by_)) i3 (by simp only [go_sem,reduceIte,Nat.reduceEqDiff,Nat.reduceLT]) (by simp only [go_sem,reduceIte,Nat.reduceEqDiff,Nat.reduceLT]) (by rw [size3]; rfl) rfl w3 (by rw [size3]; omega) (by rw [En_G]; omega) fun h8 hs8 => ?_
          have hW8 := hW.sto hai hs8
          obtain ⟨o1, ho1⟩ : ∃ o1 : Nat → Nat → Int, o1 = fun x y => if x = a ∧ y = b then o a b + by_ else o x y := ⟨_, rfl⟩
          rw [← ho1] at hW8
          have ob1 : ∀ x y, x < i → y < i → -(2 * m : Int) - 1 ≤ o1 x y ∧ o1 x y ≤ 1000 + 2 * m + 1 := fun x y hx hy => by
            have := hob x y hx hy
            rw [ho1]
            simp only
            split <;> omega
          obtain ⟨e, he⟩ : ∃ e, e = (b + 1 + k) % i := ⟨_, rfl⟩
          have hei : e < i := by rw [he]; exact Nat.mod_lt _ hn0
          have hbk : (b : Int) + 1 + (k : Int) = ((b + 1 + k : Nat) : Int) := by omega
          obtain ⟨bo8, oo8, he8, hld8⟩ := hW8.at_ hn0
          injection he8 with he8
          injection he8 with x1 x2
          subst x1; subst x2
          have lb8 := hld8 b hbi
          have lbe := hW8.cell hbi hei
          obtain ⟨v1, v2, cj, sj, v3, v4, _⟩ := hW8.row b hbi
          have obe := ob1 b e hbi hei
          simp (maxSteps := 20000000) (disch := omega) only [go_sem,reduceIte,Nat.reduceEqDiff,Nat.reduceLT, e2, e8, e9, e12, e16, e17, e19]
          refine WK_regionT 14 ⟨by kernel_rfl, by kernel_rfl, by kernel_rfl⟩ ?_
          simp (maxSteps := 20000000) (disch := omega) only [go_sem,reduceIte,Nat.reduceEqDiff,Nat.reduceLT, e2, e8, e9, e12, e16, e17, e19, wrap_i64, len22, idxA22, idxA23, Int.toNat_natCast, Nat.mul_one, load23, load3, lb8, hbk, binO_rem nn0, tm_nat, ← he, lbe]
          refine At_store (inf := inf3) (b := R2 b) (off := O2 b + e) (v := .int .i64 (o1 b e + by_)) i3 (by simp only [go_sem,reduceIte,Nat.reduceEqDiff,Nat.reduceLT]) (by simp only [go_sem,reduceIte,Nat.reduceEqDiff,Nat.reduceLT]) (by rw [size3]; rfl) rfl v3 (by rw [size3]; omega) (by rw [En_G]; omega) fun h9 hs9 => ?_
          have hW9 := hW8.sto hbi hs9
          simp (maxSteps := 20000000) (disch := omega) only [go_sem,reduceIte,Nat.reduceEqDiff,Nat.reduceLT, e17, e19, wrap_i64]
          refine hJ (j - 1) _ _ (by omega) ⟨m + 1, k + 1, _, by omega, by omega, wr.trans ((hs8.wri w1 w2).trans (hs9.wri v1 v2)), hW9, fun x y hx hy => ?_, by simp only [go_sem,reduceIte,Nat.reduceEqDiff,Nat.reduceLT, e2], by simp only [go_sem,reduceIte,Nat.reduceEqDiff,Nat.reduceLT, e8], by simp only [go_sem,reduceIte,Nat.reduceEqDiff,Nat.reduceLT, e9], by simp only [go_sem,reduceIte,Nat.reduceEqDiff,Nat.reduceLT, e12], by simp only [go_sem,reduceIte,Nat.reduceEqDiff,Nat.reduceLT, e16], by (simp only [go_sem,reduceIte,Nat.reduceEqDiff,Nat.reduceLT]) <;> rfl, by (simp only [go_sem,reduceIte,Nat.reduceEqDiff,Nat.reduceLT]) <;> (first | rfl | (congr 2 <;> omega))⟩
          have := ob1 x y hx hy
          split <;> omega
      · clear hJ
        simp (maxSteps := 20000000) (disch := omega) only [go_sem,reduceIte,Nat.reduceEqDiff,Nat.reduceLT, e2, e8, e9, e12, e16, e17, e19, wrap_i64, len44, c1, c2]
        refine At_lit0 u23 i3 zero3 (by rw [size3]; rfl) (by omega) ?_
        simp (maxSteps := 20000000) (disch := omega) only [go_sem,reduceIte,Nat.reduceEqDiff,Nat.reduceLT, e2, e8, e9, e12, e16]
        have n7 := wr.next
        have pr7 : Pres h5.next h5 h7 := pr6.trans (wr.pres (Nat.le_refl _))
        have sp7 := M35.mono (B' := h7.blks) fun b _ hb => pr7.get b (by omega)
        refine At_appendE (M := intsL i p) (m := i) u23 u23 i3 zero3 (by rw [size3, bytes3]; rfl) (by (simp only [go_sem,reduceIte,Nat.reduceEqDiff,Nat.reduceLT]) <;> rfl) (by (simp only [go_sem,reduceIte,Nat.reduceEqDiff,Nat.reduceLT, e12]) <;> rfl) (by rw [size3]; exact sp7) (by omega) intsL_one (by omega) fun A8 c8 h8 pr8 hmv => ?_
        rw [size3] at hmv
        have n8 := pr8.next
        obtain ⟨b8, o8, rfl, hld8⟩ := hmv.ints_at hn0
        have hz8 : SlV h8.blks lo2 hi2 1 zs.length (u8s zs) (.slice Az zs.length cz) := hz7.mono fun b _ hb => pr8.get b (by omega)
        have g8 : h7.next ≤ b8 := (hmv.blk b8 rfl).1
        simp (maxSteps := 20000000) (disch := omega) only [go_sem,reduceIte,Nat.reduceEqDiff,Nat.reduceLT, e2, e8, e9, e12, e16, len44]
        refine CondO_cut (fun α' h9 => ∃ mf : Nat → Int, Pres h7.next h7 h9 ∧ SlV h9.blks h7.next h9.next 1 i (intsL i mf) (.slice (some ⟨b8, o8, none⟩) i c8) ∧ α'.get 8 = some (.slice A2 i i) ∧ α'.get 9 = some (.slice (some ⟨B, 0, none⟩) i i) ∧ α'.get 12 = some (.slice (some ⟨Bp, 0, none⟩) i i) ∧ α'.get 16 = some (.slice Ao i i) ∧ α'.get 23 = some (.slice (some ⟨b8, o8, none⟩) i c8)) ?_ ?_
        · by_cases cz0 : (0 : Int) < (zs.length : Int)
          · obtain ⟨bz, oz, hAz, lz⟩ := u8_at hz8 (by omega)
            subst hAz
            have lz0 := lz 0 (by omega)
            have lzl := lz (zs.length - 1) (by omega)
            have il : ((zs.length : Int) - 1).toNat = zs.length - 1 := by omega
            have g0 := hzg 0
            have g1 := hzg (zs.length - 1)
            obtain ⟨e, he⟩ : ∃ e, e = zs.getD 0 0 % i := ⟨_, rfl⟩
            have hei : e < i := by rw [he]; exact Nat.mod_lt _ hn0
            have lpe := hld8 e hei
            have ppe := hpok e hei
            rw [Nat.add_zero] at lz0
            simp (maxSteps := 20000000) (disch := omega) only [go_sem,reduceIte,Nat.reduceEqDiff,Nat.reduceLT, e2, e8, e9, e12, e16, cz0]
            refine WK_regionT 19 ⟨by kernel_rfl, by kernel_rfl, by kernel_rfl⟩ ?_
            simp (maxSteps := 20000000) (disch := omega) only [go_sem,reduceIte,Nat.reduceEqDiff,Nat.reduceLT, e2, e8, e9, e12, e16, len44, len23, idxA44, idxA23, Int.toNat_natCast, Int.toNat_zero, Nat.zero_mul, Nat.add_zero, Nat.mul_one, load5, load3, lz0, lzl, il, conv53n, binO_rem nn0, tm_nat, ← he, lpe, binO_rem n3, tm3, wrap_i64]
            refine At_setIntO (i := e) (z := p e + (((zs.getD (zs.length - 1) 0 % 3 : Nat) : Int) - 1)) (by simp only [go_sem,reduceIte,Nat.reduceEqDiff,Nat.reduceLT]) (by simp only [go_sem,reduceIte,Nat.reduceEqDiff,Nat.reduceLT]) hmv hei (by omega) fun h9 hs9 hf9 => ?_
            have n9 := hs9.next
            simp (maxSteps := 20000000) (disch := omega) only [go_sem,reduceIte,Nat.reduceEqDiff,Nat.reduceLT]
            exact ⟨_, pr8.trans (hs9.pres (by omega)), hf9.wide (Nat.le_refl _) (by omega), by simp only [go_sem,reduceIte,Nat.reduceEqDiff,Nat.reduceLT, e8], by simp only [go_sem,reduceIte,Nat.reduceEqDiff,Nat.reduceLT, e9], by simp only [go_sem,reduceIte,Nat.reduceEqDiff,Nat.reduceLT, e12], by simp only [go_sem,reduceIte,Nat.reduceEqDiff,Nat.reduceLT, e16], by simp only [go_sem,reduceIte,Nat.reduceEqDiff,Nat.reduceLT]⟩
          · simp (maxSteps := 20000000) (disch := omega) only [go_sem,reduceIte,Nat.reduceEqDiff,Nat.reduceLT, e2, e8, e9, e12, e16, cz0]
            exact ⟨p, pr8, hmv, by simp only [go_sem,reduceIte,Nat.reduceEqDiff,Nat.reduceLT, e8], by simp only [go_sem,reduceIte,Nat.reduceEqDiff,Nat.reduceLT, e9], by simp only [go_sem,reduceIte,Nat.reduceEqDiff,Nat.reduceLT, e12], by simp only [go_sem,reduceIte,Nat.reduceEqDiff,Nat.reduceLT, e16], by simp only [go_sem,reduceIte,Nat.reduceEqDiff,Nat.reduceLT]⟩
        clear e2 e8 e9 e12 e16 e17 e19
        rintro α h9 ⟨mf, pr9, hsm, e8, e9, e12, e16, e23⟩
        have n9 := pr9.next
        simp (maxSteps := 20000000) (disch := omega) only [go_sem,reduceIte,Nat.reduceEqDiff,Nat.reduceLT, e8, e9, e12, e16, e23]
        refine At_lit (vs := [(0, .slice (some ⟨Bp, 0, none⟩) i i), (1, .slice (some ⟨b8, o8, none⟩) i c8)]) (cs := #[.slice (some ⟨Bp, 0, none⟩) i i, .slice (some ⟨b8, o8, none⟩) i c8]) u22 i23 zero23 (by rw [size23]; rfl) (by simp only [go_sem,reduceIte,Nat.reduceEqDiff,Nat.reduceLT, e12, e23]) (by rw [size23]; rfl) (by omega) fun ha hna => ?_
        rw [size23] at hna
        have na := hna.next
        have hsl : SlV ha.blks h9.next ha.next 1 2 [.slice (some ⟨Bp, 0, none⟩) i i, .slice (some ⟨b8, o8, none⟩) i c8] (.slice (some ⟨h9.next, 0, none⟩) 2 2) := hna.slv rfl
        have pra : Pres h7.next h7 ha := pr9.trans (hna.pres (by omega))
        have pr7a : Pres h5.next h5 ha := pr7.trans (pra.le (by omega))
        have pr0a : Pres h0.next h0 ha := pr5.trans (pr7a.le (by omega))
        -- all that is read from now on
        have D1 : MatV ha.blks h0.next ha.next i (fun _ => i) d RA rc (.slice A2 i i) := ⟨(M15.top.mono fun b _ hb => pr7a.get b (by omega)).wide (Nat.le_refl _) (by omega), fun x hx => ((M15.row x hx).mono fun b _ hb => pr7a.get b (by omega)).wide (Nat.le_refl _) (by omega)⟩
        have D2 : MatV ha.blks h0.next ha.next i (fun _ => i) r (cR R O) rc' (.slice (some ⟨B, 0, none⟩) i i) := ⟨(M25.top.mono fun b _ hb => pr7a.get b (by omega)).wide (Nat.le_refl _) (by omega), fun x hx => ((M25.row x hx).mono fun b _ hb => pr7a.get b (by omega)).wide (Nat.le_refl _) (by omega)⟩
        have DO := ((hW.mono (B' := ha.blks) fun b _ hb => pra.get b (by omega)).wide (lo' := h0.next) (hi' := ha.next) (by omega) (by omega)).mat
        have SP : SlV ha.blks h0.next ha.next 1 i (intsL i p) (.slice (some ⟨Bp, 0, none⟩) i i) := (M35.mono fun b _ hb => pr7a.get b (by omega)).wide (Nat.le_refl _) (by omega)
        have SM : SlV ha.blks h0.next ha.next 1 i (intsL i mf) (.slice (some ⟨b8, o8, none⟩) i c8) := (hsm.mono fun b _ hb => by rw [hna.get, if_neg (by omega)]).wide (by omega) (by omega)
        have each : ∀ x, x < 2 → ∃ (P : Nat → Int) (Bx ox cx : Nat), SlV ha.blks h0.next ha.next 1 i (intsL i P) (.slice (some ⟨Bx, ox, none⟩) i cx) ∧ loadv ha.blks h9.next (0 + x) = some (.slice (some ⟨Bx, ox, none⟩) i cx) := fun x hx => by
          obtain ⟨b', off', he, _, _, hld⟩ := hsl.at_ (by omega)
          injection he with he
          injection he with x1 x2
          subst x1; subst x2
          by_cases hx0 : x = 0
          · subst hx0
            exact ⟨p, Bp, 0, i, SP, by rw [hld 0 (by omega)]; rfl⟩
          · obtain rfl : x = 1 := by omega
            exact ⟨mf, b8, o8, c8, SM, by rw [hld 1 (by omega)]; rfl⟩
        have obd : ∀ a b, a < i → b < i → -100000 ≤ o a b ∧ o a b ≤ 100000 := fun a b ha hb => by
          have := hob a b ha hb
          omega
        simp (maxSteps := 20000000) (disch := omega) only [go_sem,reduceIte,Nat.reduceEqDiff,Nat.reduceLT, len22]
        refine WK_loopN (fun j α hb => ∃ x : Nat, x + j = 2 ∧ Pres ha.next ha hb ∧ α.get 8 = some (.slice A2 i i) ∧ α.get 9 = some (.slice (some ⟨B, 0, none⟩) i i) ∧ α.get 16 = some (.slice Ao i i) ∧ α.get 193 = some (.slice (some ⟨h9.next, 0, none⟩) 2 2) ∧ α.get 194 = some (.int .i64 2) ∧ α.get 195 = some (.int .i64 (x : Int))) 2
          ⟨0, by omega, Pres.refl _ _, by simp only [go_sem,reduceIte,Nat.reduceEqDiff,Nat.reduceLT, e8], by simp only [go_sem,reduceIte,Nat.reduceEqDiff,Nat.reduceLT, e9], by simp only [go_sem,reduceIte,Nat.reduceEqDiff,Nat.reduceLT, e16], by (simp only [go_sem,reduceIte,Nat.reduceEqDiff,Nat.reduceLT]) <;> rfl, by (simp only [go_sem,reduceIte,Nat.reduceEqDiff,Nat.reduceLT]) <;> rfl, by (simp only [go_sem,reduceIte,Nat.reduceEqDiff,Nat.reduceLT]) <;> rfl⟩ (by omega) ?_
        clear e8 e9 e12 e16 e23
        rintro J4 j4 α hb ⟨x, hxj, prb, e8, e9, e16, e193, e194, e195⟩ hJ4
        have nb := prb.next
        by_cases hlx : (x : Int) < 2
        · obtain ⟨P, Bx, ox, cx, hsP, hlP⟩ := each x (by omega)
          have hlPb : loadv hb.blks h9.next (0 + x) = some (.slice (some ⟨Bx, ox, none⟩) i cx) := by rw [← hlP]; exact loadv_eq (prb.get _ (by omega)) _
          have V1 : MatV hb.blks h0.next ha.next i (fun _ => i) d RA rc (.slice A2 i i) := D1.mono fun b _ hb => prb.get b hb
          have V2 := D2.mono (B' := hb.blks) fun b _ hb => prb.get b hb
          have VO := DO.mono (B' := hb.blks) fun b _ hb => prb.get b hb
          have VP := hsP.mono (B' := hb.blks) fun b _ hb => prb.get b hb
          simp (maxSteps := 20000000) (disch := omega) only [go_sem,reduceIte,Nat.reduceEqDiff,Nat.reduceLT, e8, e9, e16, e193, e194, e195, hlx, idxA22, Int.toNat_natCast, Nat.mul_one, load23, hlPb]
          refine CallO_f (proves_spec (by omega) (by omega) V1 VO VP (by omega) (by omega) (by omega)) (by omega) fun u hc pc hu => ?_
          obtain ⟨bv, be, rfl, hbe⟩ := hu
          have nc := pc.next
          have prc : Pres ha.next ha hc := prb.trans (pc.le (by omega))
          have U1 := V1.mono (B' := hc.blks) fun b _ hb => pc.get b (by omega)
          have U2 := V2.mono (B' := hc.blks) fun b _ hb => pc.get b (by omega)
          have UO := VO.mono (B' := hc.blks) fun b _ hb => pc.get b (by omega)
          have UP := VP.mono (B' := hc.blks) fun b _ hb => pc.get b (by omega)
          have d20 : decide ((2 : Int) ≠ 0) = true := rfl
          have d22 : decide ((2 : Int) ≠ 2) = false := rfl
          have q20 : decide ((2 : Int) = 0) = false := rfl
          rcases hbe with ⟨a, _⟩ | ⟨_, _, rfl, rfl⟩ | ⟨_, hsh, rfl, hb⟩
          · exact absurd hD a
          · simp (maxSteps := 20000000) (disch := omega) only [go_sem,reduceIte,Nat.reduceEqDiff,Nat.reduceLT, e8, e9, e16, e193, e194, e195, d20, d22, q20, neq_bool, bne_self_eq_false, wrap_i64]
            exact hJ4 (j4 - 1) _ _ (by omega) ⟨x + 1, by omega, prc, by simp only [go_sem,reduceIte,Nat.reduceEqDiff,Nat.reduceLT, e8], by simp only [go_sem,reduceIte,Nat.reduceEqDiff,Nat.reduceLT, e9], by simp only [go_sem,reduceIte,Nat.reduceEqDiff,Nat.reduceLT, e16], by simp only [go_sem,reduceIte,Nat.reduceEqDiff,Nat.reduceLT, e193], by simp only [go_sem,reduceIte,Nat.reduceEqDiff,Nat.reduceLT, e194], by (simp only [go_sem,reduceIte,Nat.reduceEqDiff,Nat.reduceLT]) <;> rfl⟩
          · have hPok : PrOk i P := hsh.2.2
            cases bv with
            | false =>
              simp (maxSteps := 20000000) (disch := omega) only [go_sem,reduceIte,Nat.reduceEqDiff,Nat.reduceLT, e8, e9, e16, e193, e194, e195, d00, q00]
              refine CallO_same (refProves_spec U1 UO UP hn8 (fun _ _ => rfl) (fun _ _ => rfl) hPok hdok.1) (by omega) fun u hu => ?_
              obtain ⟨w, rfl, hw⟩ := hu
              obtain rfl : w = false := by
                cases w with
                | false => rfl
                | true => exact absurd (hb.2 (hw.1 rfl)) (by simp)
              simp (maxSteps := 20000000) (disch := omega) only [go_sem,reduceIte,Nat.reduceEqDiff,Nat.reduceLT, e8, e9, e16, e193, e194, e195, neq_bool, bne_self_eq_false, wrap_i64]
              exact hJ4 (j4 - 1) _ _ (by omega) ⟨x + 1, by omega, prc, by simp only [go_sem,reduceIte,Nat.reduceEqDiff,Nat.reduceLT, e8], by simp only [go_sem,reduceIte,Nat.reduceEqDiff,Nat.reduceLT, e9], by simp only [go_sem,reduceIte,Nat.reduceEqDiff,Nat.reduceLT, e16], by simp only [go_sem,reduceIte,Nat.reduceEqDiff,Nat.reduceLT, e193], by simp only [go_sem,reduceIte,Nat.reduceEqDiff,Nat.reduceLT, e194], by (simp only [go_sem,reduceIte,Nat.reduceEqDiff,Nat.reduceLT]) <;> rfl⟩
            | true =>
              have hpv := hb.1 rfl
              have hsum := Can.sum_eq hdok hcan hbl hpv
              have ds : decide (tot i o ≠ tot i r) = false := decide_eq_false fun g => g hsum
              simp (maxSteps := 20000000) (disch := omega) only [go_sem,reduceIte,Nat.reduceEqDiff,Nat.reduceLT, e8, e9, e16, e193, e194, e195, d00, q00]
              refine CallO_same (Q := fun v => v = .int .i64 (tot i o)) (refSum_spec UO (fun _ _ => rfl) hn8 obd) (by omega) fun v hv => ?_
              subst hv
              simp (maxSteps := 20000000) (disch := omega) only [go_sem,reduceIte,Nat.reduceEqDiff,Nat.reduceLT, e8, e9, e16, e193, e194, e195]
              refine CallO_same (Q := fun v => v = .int .i64 (tot i r)) (refSum_spec U2 (fun _ _ => rfl) hn8 fun a b ha hb => by have := hrok a b ha hb; omega) (by omega) fun v hv => ?_
              subst hv
              simp (maxSteps := 20000000) (disch := omega) only [go_sem,reduceIte,Nat.reduceEqDiff,Nat.reduceLT, e8, e9, e16, e193, e194, e195, ds, d00, q00]
              refine CallO_same (refProves_spec U1 UO UP hn8 (fun _ _ => rfl) (fun _ _ => rfl) hPok hdok.1) (by omega) fun u hu => ?_
              obtain ⟨w, rfl, hw⟩ := hu
              obtain rfl : w = true := hw.2 hpv
              simp (maxSteps := 20000000) (disch := omega) only [go_sem,reduceIte,Nat.reduceEqDiff,Nat.reduceLT, e8, e9, e16, e193, e194, e195, neq_bool, bne_self_eq_false, wrap_i64]
              exact hJ4 (j4 - 1) _ _ (by omega) ⟨x + 1, by omega, prc, by simp only [go_sem,reduceIte,Nat.reduceEqDiff,Nat.reduceLT, e8], by simp only [go_sem,reduceIte,Nat.reduceEqDiff,Nat.reduceLT, e9], by simp only [go_sem,reduceIte,Nat.reduceEqDiff,Nat.reduceLT, e16], by simp only [go_sem,reduceIte,Nat.reduceEqDiff,Nat.reduceLT, e193], by simp only [go_sem,reduceIte,Nat.reduceEqDiff,Nat.reduceLT, e194], by (simp only [go_sem,reduceIte,Nat.reduceEqDiff,Nat.reduceLT]) <;> rfl⟩
        · simp (maxSteps := 20000000) (disch := omega) only [go_sem,reduceIte,Nat.reduceEqDiff,Nat.reduceLT, e8, e9, e16, e193, e194, e195, hlx]
          exact hQ' _ _ ⟨pr0a.trans (prb.le (by omega)), rfl⟩
    · clear hJ
      simp (maxSteps := 20000000) (disch := omega) only [go_sem,reduceIte,Nat.reduceEqDiff,Nat.reduceLT, e2, e8, e9, e12, e16, e17, e19, wrap_i64, len44, c1]
      refine At_lit0 u23 i3 zero3 (by rw [size3]; rfl) (by omega) ?_
      simp (maxSteps := 20000000) (disch := omega) only [go_sem,reduceIte,Nat.reduceEqDiff,Nat.reduceLT, e2, e8, e9, e12, e16]
      have n7 := wr.next
      have pr7 : Pres h5.next h5 h7 := pr6.trans (wr.pres (Nat.le_refl _))
      have sp7 := M35.mono (B' := h7.blks) fun b _ hb => pr7.get b (by omega)
      refine At_appendE (M := intsL i p) (m := i) u23 u23 i3 zero3 (by rw [size3, bytes3]; rfl) (by (simp only [go_sem,reduceIte,Nat.reduceEqDiff,Nat.reduceLT]) <;> rfl) (by (simp only [go_sem,reduceIte,Nat.reduceEqDiff,Nat.reduceLT, e12]) <;> rfl) (by rw [size3]; exact sp7) (by omega) intsL_one (by omega) fun A8 c8 h8 pr8 hmv => ?_
      rw [size3] at hmv
      have n8 := pr8.next
      obtain ⟨b8, o8, rfl, hld8⟩ := hmv.ints_at hn0
      have hz8 : SlV h8.blks lo2 hi2 1 zs.length (u8s zs) (.slice Az zs.length cz) := hz7.mono fun b _ hb => pr8.get b (by omega)
      have g8 : h7.next ≤ b8 := (hmv.blk b8 rfl).1
      simp (maxSteps := 20000000) (disch := omega) only [go_sem,reduceIte,Nat.reduceEqDiff,Nat.reduceLT, e2, e8, e9, e12, e16, len44]
      refine CondO_cut (fun α' h9 => ∃ mf : Nat → Int, Pres h7.next h7 h9 ∧ SlV h9.blks h7.next h9.next 1 i (intsL i mf) (.slice (some ⟨b8, o8, none⟩) i c8) ∧ α'.get 8 = some (.slice A2 i i) ∧ α'.get 9 = some (.slice (some ⟨B, 0, none⟩) i i) ∧ α'.get 12 = some (.slice (some ⟨Bp, 0, none⟩) i i) ∧ α'.get 16 = some (.slice Ao i i) ∧ α'.get 23 = some (.slice (some ⟨b8, o8, none⟩) i c8)) ?_ ?_
      · by_cases cz0 : (0 : Int) < (zs.length : Int)
        · obtain ⟨bz, oz, hAz, lz⟩ := u8_at hz8 (by omega)
          subst hAz
          have lz0 := lz 0 (by omega)
          have lzl := lz (zs.length - 1) (by omega)
          have il : ((zs.length : Int) - 1).toNat = zs.length - 1 := by omega
          have g0 := hzg 0
          have g1 := hzg (zs.length - 1)
          obtain ⟨e, he⟩ : ∃ e, e = zs.getD 0 0 % i := ⟨_, rfl⟩
          have hei : e < i := by rw [he]; exact Nat.mod_lt _ hn0
          have lpe := hld8 e hei
          have ppe := hpok e hei
          rw [Nat.add_zero] at lz0
          simp (maxSteps := 20000000) (disch := omega) only [go_sem,reduceIte,Nat.reduceEqDiff,Nat.reduceLT, e2, e8, e9, e12, e16, cz0]
          refine WK_regionT 19 ⟨by kernel_rfl, by kernel_rfl, by kernel_rfl⟩ ?_
          simp (maxSteps := 20000000) (disch := omega) only [go_sem,reduceIte,Nat.reduceEqDiff,Nat.reduceLT, e2, e8, e9, e12, e16, len44, len23, idxA44, idxA23, Int.toNat_natCast, Int.toNat_zero, Nat.zero_mul, Nat.add_zero, Nat.mul_one, load5, load3, lz0, lzl, il, conv53n, binO_rem nn0, tm_nat, ← he, lpe, binO_rem n3, tm3, wrap_i64]
          refine At_setIntO (i := e) (z := p e + (((zs.getD (zs.length - 1) 0 % 3 : Nat) : Int) - 1)) (by simp only [go_sem,reduceIte,Nat.reduceEqDiff,Nat.reduceLT]) (by simp only [go_sem,reduceIte,Nat.reduceEqDiff,Nat.reduceLT]) hmv hei (by omega) fun h9 hs9 hf9 => ?_
          have n9 := hs9.next
          simp (maxSteps := 20000000) (disch := omega) only [go_sem,reduceIte,Nat.reduceEqDiff,Nat.reduceLT]
          exact ⟨_, pr8.trans (hs9.pres (by omega)), hf9.wide (Nat.le_refl _) (by omega), by simp only [go_sem,reduceIte,Nat.reduceEqDiff,Nat.reduceLT, e8], by simp only [go_sem,reduceIte,Nat.reduceEqDiff,Nat.reduceLT, e9], by simp only [go_sem,reduceIte,Nat.reduceEqDiff,Nat.reduceLT, e12], by simp only [go_sem,reduceIte,Nat.reduceEqDiff,Nat.reduceLT, e16], by simp only [go_sem,reduceIte,Nat.reduceEqDiff,Nat.reduceLT]⟩
        · simp (maxSteps := 20000000) (disch := omega) only [go_sem,reduceIte,Nat.reduceEqDiff,Nat.reduceLT, e2, e8, e9, e12, e16, cz0]
          exact ⟨p, pr8, hmv, by simp only [go_sem,reduceIte,Nat.reduceEqDiff,Nat.reduceLT, e8], by simp only [go_sem,reduceIte,Nat.reduceEqDiff,Nat.reduceLT, e9], by simp only [go_sem,reduceIte,Nat.reduceEqDiff,Nat.reduceLT, e12], by simp only [go_sem,reduceIte,Nat.reduceEqDiff,Nat.reduceLT, e16], by simp only [go_sem,reduceIte,Nat.reduceEqDiff,Nat.reduceLT]⟩
      clear e2 e8 e9 e12 e16 e17 e19
      rintro α h9 ⟨mf, pr9, hsm, e8, e9, e12, e16, e23⟩
      have n9 := pr9.next
      simp (maxSteps := 20000000) (disch := omega) only [go_sem,reduceIte,Nat.reduceEqDiff,Nat.reduceLT, e8, e9, e12, e16, e23]
      refine At_lit (vs := [(0, .slice (some ⟨Bp, 0, none⟩) i i), (1, .slice (some ⟨b8, o8, none⟩) i c8)]) (cs := #[.slice (some ⟨Bp, 0, none⟩) i i, .slice (some ⟨b8, o8, none⟩) i c8]) u22 i23 zero23 (by rw [size23]; rfl) (by simp only [go_sem,reduceIte,Nat.reduceEqDiff,Nat.reduceLT, e12, e23]) (by rw [size23]; rfl) (by omega) fun ha hna => ?_
      rw [size23] at hna
      have na := hna.next
      have hsl : SlV ha.blks h9.next ha.next 1 2 [.slice (some ⟨Bp, 0, none⟩) i i, .slice (some ⟨b8, o8, none⟩) i c8] (.slice (some ⟨h9.next, 0, none⟩) 2 2) := hna.slv rfl
      have pra : Pres h7.next h7 ha := pr9.trans (hna.pres (by omega))
      have pr7a : Pres h5.next h5 ha := pr7.trans (pra.le (by omega))
      have pr0a : Pres h0.next h0 ha := pr5.trans (pr7a.le (by omega))
      -- all that is read from now on
      have D1 : MatV ha.blks h0.next ha.next i (fun _ => i) d RA rc (.slice A2 i i) := ⟨(M15.top.mono fun b _ hb => pr7a.get b (by omega)).wide (Nat.le_refl _) (by omega), fun x hx => ((M15.row x hx).mono fun b _ hb => pr7a.get b (by omega)).wide (Nat.le_refl _) (by omega)⟩
      have D2 : MatV ha.blks h0.next ha.next i (fun _ => i) r (cR R O) rc' (.slice (some ⟨B, 0, none⟩) i i) := ⟨(M25.top.mono fun b _ hb => pr7a.get b (by omega)).wide (Nat.le_refl _) (by omega), fun x hx => ((M25.row x hx).mono fun b _ hb => pr7a.get b (by omega)).wide (Nat.le_refl _) (by omega)⟩
      have DO := ((hW.mono (B' := ha.blks) fun b _ hb => pra.get b (by omega)).wide (lo' := h0.next) (hi' := ha.next) (by omega) (by omega)).mat
      have SP : SlV ha.blks h0.next ha.next 1 i (intsL i p) (.slice (some ⟨Bp, 0, none⟩) i i) := (M35.mono fun b _ hb => pr7a.get b (by omega)).wide (Nat.le_refl _) (by omega)
      have SM : SlV ha.blks h0.next ha.next 1 i (intsL i mf) (.slice (some ⟨b8, o8, none⟩) i c8) := (hsm.mono fun b _ hb => by rw [hna.get, if_neg (by omega)]).wide (by omega) (by omega)
      have each : ∀ x, x < 2 → ∃ (P : Nat → Int) (Bx ox cx : Nat), SlV ha.blks h0.next ha.next 1 i (intsL i P) (.slice (some ⟨Bx, ox, none⟩) i cx) ∧ loadv ha.blks h9.next (0 + x) = some (.slice (some ⟨Bx, ox, none⟩) i cx) := fun x hx => by
        obtain ⟨b', off', he, _, _, hld⟩ := hsl.at_ (by omega)
        injection he with he
        injection he with x1 x2
        subst x1; subst x2
        by_cases hx0 : x = 0
        · subst hx0
          exact ⟨p, Bp, 0, i, SP, by rw [hld 0 (by omega)]; rfl⟩
        · obtain rfl : x = 1 := by omega
          exact ⟨mf, b8, o8, c8, SM, by rw [hld 1 (by omega)]; rfl⟩
      have obd : ∀ a b, a < i → b < i → -100000 ≤ o a b ∧ o a b ≤ 100000 := fun a b ha hb => by
        have := hob a b ha hb
        omega
      simp (maxSteps := 20000000) (disch := omega) only [go_sem,reduceIte,Nat.reduceEqDiff,Nat.reduceLT, len22]
      refine WK_loopN (fun j α hb => ∃ x : Nat, x + j = 2 ∧ Pres ha.next ha hb ∧ α.get 8 = some (.slice A2 i i) ∧ α.get 9 = some (.slice (some ⟨B, 0, none⟩) i i) ∧ α.get 16 = some (.slice Ao i i) ∧ α.get 193 = some (.slice (some ⟨h9.next, 0, none⟩) 2 2) ∧ α.get 194 = some (.int .i64 2) ∧ α.get 195 = some (.int .i64 (x : Int))) 2
        ⟨0, by omega, Pres.refl _ _, by simp only [go_sem,reduceIte,Nat.reduceEqDiff,Nat.reduceLT, e8], by simp only [go_sem,reduceIte,Nat.reduceEqDiff,Nat.reduceLT, e9], by simp only [go_sem,reduceIte,Nat.reduceEqDiff,Nat.reduceLT, e16], by (simp only [go_sem,reduceIte,Nat.reduceEqDiff,Nat.reduceLT]) <;> rfl, by (simp only [go_sem,reduceIte,Nat.reduceEqDiff,Nat.reduceLT]) <;> rfl, by (simp only [go_sem,reduceIte,Nat.reduceEqDiff,Nat.reduceLT]) <;> rfl⟩ (by omega) ?_
      clear e8 e9 e12 e16 e23
      rintro J4 j4 α hb ⟨x, hxj, prb, e8, e9, e16, e193, e194, e195⟩ hJ4
      have nb := prb.next
      by_cases hlx : (x : Int) < 2
      · obtain ⟨P, Bx, ox, cx, hsP, hlP⟩ := each x (by omega)
        have hlPb : loadv hb.blks h9.next (0 + x) = some (.slice (some ⟨Bx, ox, none⟩) i cx) := by rw [← hlP]; exact loadv_eq (prb.get _ (by omega)) _
        have V1 : MatV hb.blks h0.next ha.next i (fun _ => i) d RA rc (.slice A2 i i) := D1.mono fun b _ hb => prb.get b hb
        have V2 := D2.mono (B' := hb.blks) fun b _ hb => prb.get b hb
        have VO := DO.mono (B' := hb.blks) fun b _ hb => prb.get b hb
        have VP := hsP.mono (B' := hb.blks) fun b _ hb => prb.get b hb
        simp (maxSteps := 20000000) (disch := omega) only [go_sem,reduceIte,Nat.reduceEqDiff,Nat.reduceLT, e8, e9, e16, e193, e194, e195, hlx, idxA22, Int.toNat_natCast, Nat.mul_one, load23, hlPb]
        refine CallO_f (proves_spec (by omega) (by omega) V1 VO VP (by omega) (by omega) (by omega)) (by omega) fun u hc pc hu => ?_
        obtain ⟨bv, be, rfl, hbe⟩ := hu
        have nc := pc.next
        have prc : Pres ha.next ha hc := prb.trans (pc.le (by omega))
        have U1 := V1.mono (B' := hc.blks) fun b _ hb => pc.get b (by omega)
        have U2 := V2.mono (B' := hc.blks) fun b _ hb => pc.get b (by omega)
        have UO := VO.mono (B' := hc.blks) fun b _ hb => pc.get b (by omega)
        have UP := VP.mono (B' := hc.blks) fun b _ hb => pc.get b (by omega)
        have d20 : decide ((2 : Int) ≠ 0) = true := rfl
        have d22 : decide ((2 : Int) ≠ 2) = false := rfl
        have q20 : decide ((2 : Int) = 0) = false := rfl
        rcases hbe with ⟨a, _⟩ | ⟨_, _, rfl, rfl⟩ | ⟨_, hsh, rfl, hb⟩
        · exact absurd hD a
        · simp (maxSteps := 20000000) (disch := omega) only [go_sem,reduceIte,Nat.reduceEqDiff,Nat.reduceLT, e8, e9, e16, e193, e194, e195, d20, d22, q20, neq_bool, bne_self_eq_false, wrap_i64]
          exact hJ4 (j4 - 1) _ _ (by omega) ⟨x + 1, by omega, prc, by simp only [go_sem,reduceIte,Nat.reduceEqDiff,Nat.reduceLT, e8], by simp only [go_sem,reduceIte,Nat.reduceEqDiff,Nat.reduceLT, e9], by simp only [go_sem,reduceIte,Nat.reduceEqDiff,Nat.reduceLT, e16], by simp only [go_sem,reduceIte,Nat.reduceEqDiff,Nat.reduceLT, e193], by simp only [go_sem,reduceIte,Nat.reduceEqDiff,Nat.reduceLT, e194], by (simp only [go_sem,reduceIte,Nat.reduceEqDiff,Nat.reduceLT]) <;> rfl⟩
        · have hPok : PrOk i P := hsh.2.2
          cases bv with
          | false =>
            simp (maxSteps := 20000000) (disch := omega) only [go_sem,reduceIte,Nat.reduceEqDiff,Nat.reduceLT, e8, e9, e16, e193, e194, e195, d00, q00]
            refine CallO_same (refProves_spec U1 UO UP hn8 (fun _ _ => rfl) (fun _ _ => rfl) hPok hdok.1) (by omega) fun u hu => ?_
            obtain ⟨w, rfl, hw⟩ := hu
            obtain rfl : w = false := by
              cases w with
              | false => rfl
              | true => exact absurd (hb.2 (hw.1 rfl)) (by simp)
            simp (maxSteps := 20000000) (disch := omega) only [go_sem,reduceIte,Nat.reduceEqDiff,Nat.reduceLT, e8, e9, e16, e193, e194, e195, neq_bool, bne_self_eq_false, wrap_i64]
            exact hJ4 (j4 - 1) _ _ (by omega) ⟨x + 1, by omega, prc, by simp only [go_sem,reduceIte,Nat.reduceEqDiff,Nat.reduceLT, e8], by simp only [go_sem,reduceIte,Nat.reduceEqDiff,Nat.reduceLT, e9], by simp only [go_sem,reduceIte,Nat.reduceEqDiff,Nat.reduceLT, e16], by simp only [go_sem,reduceIte,Nat.reduceEqDiff,Nat.reduceLT, e193], by simp only [go_sem,reduceIte,Nat.reduceEqDiff,Nat.reduceLT, e194], by (simp only [go_sem,reduceIte,Nat.reduceEqDiff,Nat.reduceLT]) <;> rfl⟩
          | true =>
            have hpv := hb.1 rfl
            have hsum := Can.sum_eq hdok hcan hbl hpv
            have ds : decide (tot i o ≠ tot i r) = false := decide_eq_false fun g => g hsum
            simp (maxSteps := 20000000) (disch := omega) only [go_sem,reduceIte,Nat.reduceEqDiff,Nat.reduceLT, e8, e9, e16, e193, e194, e195, d00, q00]
            refine CallO_same (Q := fun v => v = .int .i64 (tot i o)) (refSum_spec UO (fun _ _ => rfl) hn8 obd) (by omega) fun v hv => ?_
            subst hv
            simp (maxSteps := 20000000) (disch := omega) only [go_sem,reduceIte,Nat.reduceEqDiff,Nat.reduceLT, e8, e9, e16, e193, e194, e195]
            refine CallO_same (Q := fun v => v = .int .i64 (tot i r)) (refSum_spec U2 (fun _ _ => rfl) hn8 fun a b ha hb => by have := hrok a b ha hb; omega) (by omega) fun v hv => ?_
            subst hv
            simp (maxSteps := 20000000) (disch := omega) only [go_sem,reduceIte,Nat.reduceEqDiff,Nat.reduceLT, e8, e9, e16, e193, e194, e195, ds, d00, q00]
            refine CallO_same (refProves_spec U1 UO UP hn8 (fun _ _ => rfl) (fun _ _ => rfl) hPok hdok.1) (by omega) fun u hu => ?_
            obtain ⟨w, rfl, hw⟩ := hu
            obtain rfl : w = true := hw.2 hpv
            simp (maxSteps := 20000000) (disch := omega) only [go_sem,reduceIte,Nat.reduceEqDiff,Nat.reduceLT, e8, e9, e16, e193, e194, e195, neq_bool, bne_self_eq_false, wrap_i64]
            exact hJ4 (j4 - 1) _ _ (by omega) ⟨x + 1, by omega, prc, by simp only [go_sem,reduceIte,Nat.reduceEqDiff,Nat.reduceLT, e8], by simp only [go_sem,reduceIte,Nat.reduceEqDiff,Nat.reduceLT, e9], by simp only [go_sem,reduceIte,Nat.reduceEqDiff,Nat.reduceLT, e16], by simp only [go_sem,reduceIte,Nat.reduceEqDiff,Nat.reduceLT, e193], by simp only [go_sem,reduceIte,Nat.reduceEqDiff,Nat.reduceLT, e194], by (simp only [go_sem,reduceIte,Nat.reduceEqDiff,Nat.reduceLT]) <;> rfl⟩
      · simp (maxSteps := 20000000) (disch := omega) only [go_sem,reduceIte,Nat.reduceEqDiff,Nat.reduceLT, e8, e9, e16, e193, e194, e195, hlx]
        exact hQ' _ _ ⟨pr0a.trans (prb.le (by omega)), rfl⟩
end
end Go.Proofs.YtngpoamjhngcgaaGreatDoor.Ev

