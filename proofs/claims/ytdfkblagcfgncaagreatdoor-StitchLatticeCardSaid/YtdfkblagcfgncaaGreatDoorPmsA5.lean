/- why; the laws' arguments; Equal. -/
import Derived.Test.YtdfkblagcfgncaaGreatDoorPmsA4
set_option linter.unusedSimpArgs false
namespace Go.Proofs.YtdfkblagcfgncaaGreatDoor.Ev
open Go Go.Proofs
noncomputable section

theorem En_tabs {G : Nat} : (En G).tabs = tabs := rfl
section
variable {G n : Nat} {ops : List Oper} {r tl : List Oper} {k : List Frm} {α : Tr Value} {h : H} {R : Rt} {d : Nat}
theorem Call_lives (ht : TabsIn tabs h.blks) (hd : d < n) (hk : At Tryz.prog (En G) n ops false r tl k (Tr.put α d (.bool true)) h R) : CallO Tryz.prog (En G) n ops false r tl k α h R (some d) (some (.func (.func 24) #[] #[])) (some []) := by
  refine CallO_of (Q := fun v h' => v = .bool true ∧ h' = h) (CallsE_known En_lives (by rw [En_tabs]; exact ht) ⟨rfl, rfl⟩) hd fun v h' ⟨e1, e2⟩ => ?_
  subst e1; subst e2
  exact ⟨fun e => (by cases e), hk⟩
end
theorem TabsIn.pres {tbs : List (Nat × List Value)} {m : Nat} {h h' : H} (ht : TabsIn tbs h.blks) (hp : Pres m h h') (hm : ∀ x ∈ tbs, x.1 < m) : TabsIn tbs h'.blks := fun x hx => by
  obtain ⟨c, s, e, h1, h2⟩ := ht x hx
  exact ⟨c, s, e, by rw [hp.get _ (hm x hx)]; exact h1, h2⟩
theorem tabs_lt : ∀ x ∈ tabs, x.1 < 4 := fun x hx => by
  simp only [tabs, List.mem_cons, List.not_mem_nil, or_false] at hx
  rcases hx with rfl | rfl | rfl <;> decide

theorem eqB {a b : Bool} : pureRun Tryz.prog (do eqGuard .eql 4 (.tmp 0) (.tmp 0) (.bool a) (.bool b); binOp .eql 4 (.bool a) (.bool b)) = some (.bool (a == b)) := by
  cases a <;> cases b <;> kernel_rfl
theorem eql_bool {G : Nat} {a b : Bool} : binO Tryz.prog (En G) .eql 4 (some (.bool a)) (some (.bool b)) = some (.bool (a == b)) := by
  have h1 : (plainA (.bool a) && plainA (.bool b)) = true := rfl
  have h2 : fastBin .eql (.bool a) (.bool b) = none := rfl
  simp only [binO, h1, if_true, h2, slowBin, eqB]
  rfl

theorem cut_spec {G n : Nat} {l : List UInt8} {h : H} : Spec Tryz.prog (En G) 19 [strV l, .int .i64 n] h fun v h' => v = strV (l.take n) ∧ h' = h := by
  refine CallsE_enter (En_known (by decide)) (En_f.trans Tryz.func19) rfl ⟨Nat.le_of_ble_eq_true rfl, by decide⟩ fun Q' hQ' => ?_
  have e : (min (l.length : Int) (n : Int)).toNat = min l.length n := by omega
  simp (disch := omega) only [Tryz.f19, zaa,zab,zac,zad,zae,zaf,zag,zah,zai,zaj,zak,zal,zam,zan,zao,zap,zaq,zar,zas,zat,zau,zav,zaw,zax,zay,zaz,zba,zbb,zbc,zbd,zbe,zbf,zbg,zbh,zbi,zbj,zbk,zbl,zbm,zbn,zbo,zbp,zbq,zbr,zbs,zbt,zbu,zbv,zbw,zbx,zby,zbz,zca,zcb,zcc,zcd,zce,zcf,zcg,zch,zci,zcj,zck,zcl,zcm,zcn,zco,zcp,zcq,zcr,zcs,zct,zcu,zcv,zcw,zcx,zcy,zcz,zda,zdb,zdc,zdd,guardV,nth,zde,zdf,zdg,zdh,zdi,Nat.reduceEqDiff,reduceIte,zdj,zdk,zdl,resultsA,RetO,Nat.reduceLT,zdm,zdn,zdo,zdp,zdq,zdr,zds,zdt,zdu,zdv,zdw,zdx,zdy,zdz,zea,zeb,zec,zed,zee,zef,zeg,zeh,zei,zej,zek,zel,zem,zen,zeo, e]
  refine hQ' _ _ ⟨Pres.refl _ _, ?_, rfl⟩
  rcases Nat.le_total l.length n with h1 | h1
  · rw [Nat.min_eq_left h1, List.take_of_length_le (Nat.le_refl _), List.take_of_length_le h1]
  · rw [Nat.min_eq_right h1]

theorem prs_take {ps : List (Int × Int)} {m : Nat} : (prs ps).take (m * 2) = prs (ps.take m) := by
  induction ps generalizing m with
  | nil => simp [prs]
  | cons p ps ih =>
    cases m with
    | zero => simp [prs]
    | succ m =>
      have := ih (m := m)
      simp only [prs, List.flatMap_cons, List.take_succ_cons] at this ⊢
      rw [← this, show (m + 1) * 2 = m * 2 + 1 + 1 by omega]
      rfl
theorem sliceO_take {E : Env} {B : Tr Blk} {lo hi sz n c m : Nat} {kd : IntKind} {t elem : TypeId} {inf : TypeInfo} {A : Option Addr} {L : List Value} (hu : E.u t = some (.slice elem)) (hi' : E.i elem = some inf) (hsz : inf.size = sz) (s : SlV B lo hi sz n L (.slice A n c)) (hm : m ≤ n) :
    ∃ A' c', sliceO E t B (some (.slice A n c)) (some []) (some [.int kd m]) = some (.slice A' m c') ∧ SlV B lo hi sz m (L.take (m * sz)) (.slice A' m c') := by
  cases s with
  | nil hn hL =>
    subst hL
    obtain rfl : m = 0 := by omega
    refine ⟨none, 0, ?_, .nil rfl (by simp)⟩
    show evSlice E ⟨B, 0, 0⟩ t (.slice none 0 0) none (some (.int kd (Int.ofNat 0))) = _
    simp [evSlice, hu, hi', bound]
  | emp hn hL =>
    subst hL
    obtain rfl : m = 0 := by omega
    refine ⟨some ⟨0, 0, some 0⟩, 0, ?_, .emp rfl (by simp)⟩
    show evSlice E ⟨B, 0, 0⟩ t (.slice (some ⟨0, 0, some 0⟩) 0 0) none (some (.int kd (Int.ofNat 0))) = _
    simp [evSlice, hu, hi', bound]
  | mk hb hlo hhi hs hL hc =>
    rename_i b off size cells
    have hmul : m * sz ≤ n * sz := Nat.mul_le_mul_right _ hm
    refine ⟨some ⟨b, off, none⟩, c, ?_, .mk hb hlo hhi (by omega) (by simp; omega) fun i hi => ?_⟩
    · show evSlice E ⟨B, 0, 0⟩ t (.slice (some ⟨b, off, none⟩) n c) none (some (.int kd (Int.ofNat m))) = _
      simp [evSlice, hu, hi', bound, hm, hb, hsz, forceN_eq]
    · rw [hc i (by omega), List.getElem?_take, if_pos hi]

theorem zero82 : inf104.zero = some (.agg #[.int .i64 0, .int .i64 0]) := by kernel_rfl
theorem prs_one {ps : List (Int × Int)} : (prs ps).all oneB = true := by
  rw [List.all_eq_true]
  intro v hv
  simp only [prs, List.mem_flatMap] at hv
  obtain ⟨p, _, hp⟩ := hv
  rcases List.mem_cons.1 hp with rfl | hp
  · rfl
  · rw [List.mem_singleton.1 hp]; rfl

set_option maxHeartbeats 4000000 in
theorem few_spec {G lo hi n c : Nat} {k : Int} {A : Option Addr} {ps : List (Int × Int)} {h : H} (hG : G ≤ h.next) (hv : SlV h.blks lo hi 2 n (prs ps) (.slice A n c)) (hhi : hi ≤ h.next) :
    Spec Tryz.prog (En G) 18 [.agg #[.int .i64 k, .slice A n c]] h fun v h' => ∃ A' c', v = .tuple #[.int .i64 k, .slice A' (ps.take 31).length c'] ∧ SlV h'.blks h.next h'.next 2 (ps.take 31).length (prs (ps.take 31)) (.slice A' (ps.take 31).length c') := by
  have hl : ps.length = n := by have := hv.len; rw [prs_len] at this; omega
  have hm : (ps.take 31).length = min n 31 := by simp; omega
  have hmin : min (n : Int) 31 = (((ps.take 31).length : Nat) : Int) := by omega
  refine CallsE_enter (En_known (by decide)) (En_f.trans Tryz.func18) rfl ⟨Nat.le_of_ble_eq_true rfl, by decide⟩ fun Q' hQ' => ?_
  simp only [Tryz.f18, zaa,zab,zac,zad,zae,zaf,zag,zah,zai,zaj,zak,zal,zam,zan,zao,zap,zaq,zar,zas,zat,zau,zav,zaw,zax,zay,zaz,zba,zbb,zbc,zbd,zbe,zbf,zbg,zbh,zbi,zbj,zbk,zbl,zbm,zbn,zbo,zbp,zbq,zbr,zbs,zbt,zbu,zbv,zbw,zbx,zby,zbz,zca,zcb,zcc,zcd,zce,zcf,zcg,zch,zci,zcj,zck,zcl,zcm,zcn,zco,zcp,zcq,zcr,zcs,zct,zcu,zcv,zcw,zcx,zcy,zcz,zda,zdb,zdc,zdd,guardV,nth,zde,zdf,zdg,zdh,zdi,Nat.reduceEqDiff,reduceIte,zdj,zdk,zdl,resultsA,RetO,Nat.reduceLT,zdm,zdn,zdo,zdp,zdq,zdr,zds,zdt,zdu,zdv,zdw,zdx,zdy,zdz,zea,zeb,zec,zed,zee,zef,zeg,zeh,zei,zej,zek,zel,zem,zen,zeo]
  refine At_box (v := .agg #[.int .i64 k, .slice A n c]) (by simp only [zaa,zab,zac,zad,zae,zaf,zag,zah,zai,zaj,zak,zal,zam,zan,zao,zap,zaq,zar,zas,zat,zau,zav,zaw,zax,zay,zaz,zba,zbb,zbc,zbd,zbe,zbf,zbg,zbh,zbi,zbj,zbk,zbl,zbm,zbn,zbo,zbp,zbq,zbr,zbs,zbt,zbu,zbv,zbw,zbx,zby,zbz,zca,zcb,zcc,zcd,zce,zcf,zcg,zch,zci,zcj,zck,zcl,zcm,zcn,zco,zcp,zcq,zcr,zcs,zct,zcu,zcv,zcw,zcx,zcy,zcz,zda,zdb,zdc,zdd,guardV,nth,zde,zdf,zdg,zdh,zdi,Nat.reduceEqDiff,reduceIte,zdj,zdk,zdl,resultsA,RetO,Nat.reduceLT,zdm,zdn,zdo,zdp,zdq,zdr,zds,zdt,zdu,zdv,zdw,zdx,zdy,zdz,zea,zeb,zec,zed,zee,zef,zeg,zeh,zei,zej,zek,zel,zem,zen,zeo]) (by omega) fun h1 hn1 => ?_
  have n1 := hn1.next
  have v1 : Var h1.blks h.next [.int .i64 k, .slice A n c] := hn1.var
  have l0 : loadv h1.blks h.next 0 = some (.int .i64 k) := by rw [v1.load (by simp)]; rfl
  have l1 : loadv h1.blks h.next 1 = some (.slice A n c) := by rw [v1.load (by simp)]; rfl
  have hv1 : SlV h1.blks lo hi 2 n (prs ps) (.slice A n c) := hv.mono fun b _ hb => by rw [hn1.get, if_neg (by omega)]
  obtain ⟨A', c', hsl, hv1'⟩ := sliceO_take (E := En G) (kd := .i64) (m := (ps.take 31).length) u22 i104 size104 hv1 (by omega)
  rw [prs_take] at hv1'
  have htt : ps.take (ps.take 31).length = ps.take 31 := by
    rw [hm]
    rcases Nat.le_total n 31 with h2 | h2
    · rw [Nat.min_eq_left h2, List.take_of_length_le (by omega), List.take_of_length_le (by omega)]
    · rw [Nat.min_eq_right h2]
  rw [htt] at hv1'
  try simp only [zaa,zab,zac,zad,zae,zaf,zag,zah,zai,zaj,zak,zal,zam,zan,zao,zap,zaq,zar,zas,zat,zau,zav,zaw,zax,zay,zaz,zba,zbb,zbc,zbd,zbe,zbf,zbg,zbh,zbi,zbj,zbk,zbl,zbm,zbn,zbo,zbp,zbq,zbr,zbs,zbt,zbu,zbv,zbw,zbx,zby,zbz,zca,zcb,zcc,zcd,zce,zcf,zcg,zch,zci,zcj,zck,zcl,zcm,zcn,zco,zcp,zcq,zcr,zcs,zct,zcu,zcv,zcw,zcx,zcy,zcz,zda,zdb,zdc,zdd,guardV,nth,zde,zdf,zdg,zdh,zdi,Nat.reduceEqDiff,reduceIte,zdj,zdk,zdl,resultsA,RetO,Nat.reduceLT,zdm,zdn,zdo,zdp,zdq,zdr,zds,zdt,zdu,zdv,zdw,zdx,zdy,zdz,zea,zeb,zec,zed,zee,zef,zeg,zeh,zei,zej,zek,zel,zem,zen,zeo]
  refine WK_regionT 11 ⟨by kernel_rfl, by kernel_rfl, by kernel_rfl⟩ ?_
  try simp only [zaa,zab,zac,zad,zae,zaf,zag,zah,zai,zaj,zak,zal,zam,zan,zao,zap,zaq,zar,zas,zat,zau,zav,zaw,zax,zay,zaz,zba,zbb,zbc,zbd,zbe,zbf,zbg,zbh,zbi,zbj,zbk,zbl,zbm,zbn,zbo,zbp,zbq,zbr,zbs,zbt,zbu,zbv,zbw,zbx,zby,zbz,zca,zcb,zcc,zcd,zce,zcf,zcg,zch,zci,zcj,zck,zcl,zcm,zcn,zco,zcp,zcq,zcr,zcs,zct,zcu,zcv,zcw,zcx,zcy,zcz,zda,zdb,zdc,zdd,guardV,nth,zde,zdf,zdg,zdh,zdi,Nat.reduceEqDiff,reduceIte,zdj,zdk,zdl,resultsA,RetO,Nat.reduceLT,zdm,zdn,zdo,zdp,zdq,zdr,zds,zdt,zdu,zdv,zdw,zdx,zdy,zdz,zea,zeb,zec,zed,zee,zef,zeg,zeh,zei,zej,zek,zel,zem,zen,zeo, fld24_0, fld24_1, load3, load22, Nat.add_zero, l0, l1]
  refine At_lit0 u22 i104 zero82 (by rw [size104]; rfl) (by omega) ?_
  simp only [zaa,zab,zac,zad,zae,zaf,zag,zah,zai,zaj,zak,zal,zam,zan,zao,zap,zaq,zar,zas,zat,zau,zav,zaw,zax,zay,zaz,zba,zbb,zbc,zbd,zbe,zbf,zbg,zbh,zbi,zbj,zbk,zbl,zbm,zbn,zbo,zbp,zbq,zbr,zbs,zbt,zbu,zbv,zbw,zbx,zby,zbz,zca,zcb,zcc,zcd,zce,zcf,zcg,zch,zci,zcj,zck,zcl,zcm,zcn,zco,zcp,zcq,zcr,zcs,zct,zcu,zcv,zcw,zcx,zcy,zcz,zda,zdb,zdc,zdd,guardV,nth,zde,zdf,zdg,zdh,zdi,Nat.reduceEqDiff,reduceIte,zdj,zdk,zdl,resultsA,RetO,Nat.reduceLT,zdm,zdn,zdo,zdp,zdq,zdr,zds,zdt,zdu,zdv,zdw,zdx,zdy,zdz,zea,zeb,zec,zed,zee,zef,zeg,zeh,zei,zej,zek,zel,zem,zen,zeo, fld24_0, fld24_1, load3, load22, Nat.zero_add, l0, l1, len22, hmin, hsl]
  refine At_appendE (M := prs (ps.take 31)) (m := (ps.take 31).length) u22 u22 i104 zero82 (by rw [size104, bytes104]; rfl) (by simp only [zaa,zab,zac,zad,zae,zaf,zag,zah,zai,zaj,zak,zal,zam,zan,zao,zap,zaq,zar,zas,zat,zau,zav,zaw,zax,zay,zaz,zba,zbb,zbc,zbd,zbe,zbf,zbg,zbh,zbi,zbj,zbk,zbl,zbm,zbn,zbo,zbp,zbq,zbr,zbs,zbt,zbu,zbv,zbw,zbx,zby,zbz,zca,zcb,zcc,zcd,zce,zcf,zcg,zch,zci,zcj,zck,zcl,zcm,zcn,zco,zcp,zcq,zcr,zcs,zct,zcu,zcv,zcw,zcx,zcy,zcz,zda,zdb,zdc,zdd,guardV,nth,zde,zdf,zdg,zdh,zdi,Nat.reduceEqDiff,reduceIte,zdj,zdk,zdl,resultsA,RetO,Nat.reduceLT,zdm,zdn,zdo,zdp,zdq,zdr,zds,zdt,zdu,zdv,zdw,zdx,zdy,zdz,zea,zeb,zec,zed,zee,zef,zeg,zeh,zei,zej,zek,zel,zem,zen,zeo]) (by simp only [zaa,zab,zac,zad,zae,zaf,zag,zah,zai,zaj,zak,zal,zam,zan,zao,zap,zaq,zar,zas,zat,zau,zav,zaw,zax,zay,zaz,zba,zbb,zbc,zbd,zbe,zbf,zbg,zbh,zbi,zbj,zbk,zbl,zbm,zbn,zbo,zbp,zbq,zbr,zbs,zbt,zbu,zbv,zbw,zbx,zby,zbz,zca,zcb,zcc,zcd,zce,zcf,zcg,zch,zci,zcj,zck,zcl,zcm,zcn,zco,zcp,zcq,zcr,zcs,zct,zcu,zcv,zcw,zcx,zcy,zcz,zda,zdb,zdc,zdd,guardV,nth,zde,zdf,zdg,zdh,zdi,Nat.reduceEqDiff,reduceIte,zdj,zdk,zdl,resultsA,RetO,Nat.reduceLT,zdm,zdn,zdo,zdp,zdq,zdr,zds,zdt,zdu,zdv,zdw,zdx,zdy,zdz,zea,zeb,zec,zed,zee,zef,zeg,zeh,zei,zej,zek,zel,zem,zen,zeo]; rfl) (by rw [size104]; exact hv1') (by omega) prs_one (by omega) fun A2 c2 h2 pr2 hs2 => ?_
  rw [size104] at hs2
  simp only [zaa,zab,zac,zad,zae,zaf,zag,zah,zai,zaj,zak,zal,zam,zan,zao,zap,zaq,zar,zas,zat,zau,zav,zaw,zax,zay,zaz,zba,zbb,zbc,zbd,zbe,zbf,zbg,zbh,zbi,zbj,zbk,zbl,zbm,zbn,zbo,zbp,zbq,zbr,zbs,zbt,zbu,zbv,zbw,zbx,zby,zbz,zca,zcb,zcc,zcd,zce,zcf,zcg,zch,zci,zcj,zck,zcl,zcm,zcn,zco,zcp,zcq,zcr,zcs,zct,zcu,zcv,zcw,zcx,zcy,zcz,zda,zdb,zdc,zdd,guardV,nth,zde,zdf,zdg,zdh,zdi,Nat.reduceEqDiff,reduceIte,zdj,zdk,zdl,resultsA,RetO,Nat.reduceLT,zdm,zdn,zdo,zdp,zdq,zdr,zds,zdt,zdu,zdv,zdw,zdx,zdy,zdz,zea,zeb,zec,zed,zee,zef,zeg,zeh,zei,zej,zek,zel,zem,zen,zeo]
  exact hQ' _ _ ⟨(hn1.pres (Nat.le_refl _)).trans (pr2.le (by omega)), A2, c2, rfl, hs2.wide (by omega) (Nat.le_refl _)⟩

theorem seamE_cases {k most : Int} {s : List UInt8} : seamE k most s = 0 ∨ seamE k most s = 2 ∨ seamE k most s = 3 := by
  unfold seamE
  split
  · exact .inr (.inr rfl)
  · split
    · exact .inl rfl
    · exact .inr (.inl rfl)
theorem seamE3 {k most : Int} {s : List UInt8} : seamE k most s = 3 ↔ most < s.length := by
  unfold seamE
  constructor
  · intro h
    split at h
    · assumption
    · split at h <;> omega
  · intro h; rw [if_pos h]
theorem seamE0 {k most : Int} {s : List UInt8} : seamE k most s = 0 ↔ ¬ most < s.length ∧ s.all (okc k) = true := by
  unfold seamE
  by_cases h : most < s.length
  · simp [h]
  · by_cases h2 : s.all (okc k) = true
    · simp [h, h2]
    · simp [h, h2]
theorem chk_3 {k most : Int} {ps : List (Int × Int)} {ls : List (List UInt8)} {s : List UInt8} (ht : okT k ps = true) (hs : s ∈ ls) (h : seamE k most s = 3) : chkE k ps most ls = 3 := by
  rw [chkE, if_pos ht, if_pos (List.any_eq_true.2 ⟨s, hs, decide_eq_true (seamE3.1 h)⟩)]
theorem chk_2 {k most : Int} {ps : List (Int × Int)} {ls : List (List UInt8)} {s : List UInt8} (ht : okT k ps = true) (hn : ∀ s ∈ ls, seamE k most s ≠ 3) (hs : s ∈ ls) (h : seamE k most s = 2) : chkE k ps most ls = 2 := by
  rw [chkE, if_pos ht, if_neg fun ha => ?_, if_neg fun ha => ?_]
  · have := List.all_eq_true.1 ha s hs
    have h3 : ¬ most < s.length := fun h3 => hn s hs (seamE3.2 h3)
    rw [seamE, if_neg h3, if_pos this] at h
    cases h
  · obtain ⟨s', h1, h2⟩ := List.any_eq_true.1 ha
    exact hn s' h1 (seamE3.2 (of_decide_eq_true h2))
theorem chk_0 {k most : Int} {ps : List (Int × Int)} {ls : List (List UInt8)} (ht : okT k ps = true) (hn : ∀ s ∈ ls, seamE k most s = 0) : chkE k ps most ls = 0 := by
  rw [chkE, if_pos ht, if_neg fun ha => ?_, if_pos (List.all_eq_true.2 fun s hs => (seamE0.1 (hn s hs)).2)]
  obtain ⟨s', h1, h2⟩ := List.any_eq_true.1 ha
  exact (seamE0.1 (hn s' h1)).1 (of_decide_eq_true h2)
theorem chk_ok {k most : Int} {ps : List (Int × Int)} {ls : List (List UInt8)} (h : chkE k ps most ls = 0) : okT k ps = true ∧ ∀ s ∈ ls, ¬ most < s.length ∧ s.all (okc k) = true := by
  unfold chkE at h
  split at h
  · rename_i ht
    split at h
    · cases h
    · rename_i hany
      split at h
      · rename_i hall
        exact ⟨ht, fun s hs => ⟨fun hl => hany (List.any_eq_true.2 ⟨s, hs, decide_eq_true hl⟩), List.all_eq_true.1 hall s hs⟩⟩
      · cases h
  · cases h
theorem okc_okL {k : Int} {s : List UInt8} (h0 : 0 ≤ k) (h : s.all (okc k) = true) : OkL k.toNat s := fun c hc => by
  have := List.all_eq_true.1 h c hc
  simp only [okc, decide_eq_true_eq] at this
  omega

set_option maxHeartbeats 8000000 in
theorem why_spec {G lo hi n c lo2 hi2 n2 c2 : Nat} {k most : Int} {A A2 : Option Addr} {ps : List (Int × Int)} {ls : List (List UInt8)} {h : H} (hv : SlV h.blks lo hi 2 n (prs ps) (.slice A n c)) (hhi : hi ≤ h.next) (hn : n < 1000000)
    (hv2 : SlV h.blks lo2 hi2 1 n2 (strs ls) (.slice A2 n2 c2)) (hhi2 : hi2 ≤ h.next) (hn2 : n2 < 1000000) (hls : ∀ s ∈ ls, s.length < 1000000) :
    Spec Tryz.prog (En G) 23 [.int .i64 k, .slice A n c, .int .i64 most, .slice A2 n2 c2] h fun v _ => v = .int .i64 (chkE k ps most ls) := by
  have hl2 : ls.length = n2 := by have := hv2.len; rw [strs_len] at this; omega
  refine CallsE_enter (En_known (by decide)) (En_f.trans Tryz.func23) rfl ⟨Nat.le_of_ble_eq_true rfl, by decide⟩ fun Q' hQ' => ?_
  simp only [Tryz.f23, zaa,zab,zac,zad,zae,zaf,zag,zah,zai,zaj,zak,zal,zam,zan,zao,zap,zaq,zar,zas,zat,zau,zav,zaw,zax,zay,zaz,zba,zbb,zbc,zbd,zbe,zbf,zbg,zbh,zbi,zbj,zbk,zbl,zbm,zbn,zbo,zbp,zbq,zbr,zbs,zbt,zbu,zbv,zbw,zbx,zby,zbz,zca,zcb,zcc,zcd,zce,zcf,zcg,zch,zci,zcj,zck,zcl,zcm,zcn,zco,zcp,zcq,zcr,zcs,zct,zcu,zcv,zcw,zcx,zcy,zcz,zda,zdb,zdc,zdd,guardV,nth,zde,zdf,zdg,zdh,zdi,Nat.reduceEqDiff,reduceIte,zdj,zdk,zdl,resultsA,RetO,Nat.reduceLT,zdm,zdn,zdo,zdp,zdq,zdr,zds,zdt,zdu,zdv,zdw,zdx,zdy,zdz,zea,zeb,zec,zed,zee,zef,zeg,zeh,zei,zej,zek,zel,zem,zen,zeo]
  refine CallO_same (refThreads_spec (k := k) hv hn) (by omega) fun u hu => ?_
  subst hu
  cases ht : okT k ps
  · simp only [zaa,zab,zac,zad,zae,zaf,zag,zah,zai,zaj,zak,zal,zam,zan,zao,zap,zaq,zar,zas,zat,zau,zav,zaw,zax,zay,zaz,zba,zbb,zbc,zbd,zbe,zbf,zbg,zbh,zbi,zbj,zbk,zbl,zbm,zbn,zbo,zbp,zbq,zbr,zbs,zbt,zbu,zbv,zbw,zbx,zby,zbz,zca,zcb,zcc,zcd,zce,zcf,zcg,zch,zci,zcj,zck,zcl,zcm,zcn,zco,zcp,zcq,zcr,zcs,zct,zcu,zcv,zcw,zcx,zcy,zcz,zda,zdb,zdc,zdd,guardV,nth,zde,zdf,zdg,zdh,zdi,Nat.reduceEqDiff,reduceIte,zdj,zdk,zdl,resultsA,RetO,Nat.reduceLT,zdm,zdn,zdo,zdp,zdq,zdr,zds,zdt,zdu,zdv,zdw,zdx,zdy,zdz,zea,zeb,zec,zed,zee,zef,zeg,zeh,zei,zej,zek,zel,zem,zen,zeo]
    exact hQ' _ _ ⟨Pres.refl _ _, by rw [chkE, if_neg (by rw [ht]; exact Bool.false_ne_true)]⟩
  · simp only [zaa,zab,zac,zad,zae,zaf,zag,zah,zai,zaj,zak,zal,zam,zan,zao,zap,zaq,zar,zas,zat,zau,zav,zaw,zax,zay,zaz,zba,zbb,zbc,zbd,zbe,zbf,zbg,zbh,zbi,zbj,zbk,zbl,zbm,zbn,zbo,zbp,zbq,zbr,zbs,zbt,zbu,zbv,zbw,zbx,zby,zbz,zca,zcb,zcc,zcd,zce,zcf,zcg,zch,zci,zcj,zck,zcl,zcm,zcn,zco,zcp,zcq,zcr,zcs,zct,zcu,zcv,zcw,zcx,zcy,zcz,zda,zdb,zdc,zdd,guardV,nth,zde,zdf,zdg,zdh,zdi,Nat.reduceEqDiff,reduceIte,zdj,zdk,zdl,resultsA,RetO,Nat.reduceLT,zdm,zdn,zdo,zdp,zdq,zdr,zds,zdt,zdu,zdv,zdw,zdx,zdy,zdz,zea,zeb,zec,zed,zee,zef,zeg,zeh,zei,zej,zek,zel,zem,zen,zeo]
    refine At_lit (vs := [(0, .int .i64 3), (1, .int .i64 2)]) (cs := #[.int .i64 3, .int .i64 2]) u101 i29 zero29 (by rw [size29]; rfl) (by simp only [zaa,zab,zac,zad,zae,zaf,zag,zah,zai,zaj,zak,zal,zam,zan,zao,zap,zaq,zar,zas,zat,zau,zav,zaw,zax,zay,zaz,zba,zbb,zbc,zbd,zbe,zbf,zbg,zbh,zbi,zbj,zbk,zbl,zbm,zbn,zbo,zbp,zbq,zbr,zbs,zbt,zbu,zbv,zbw,zbx,zby,zbz,zca,zcb,zcc,zcd,zce,zcf,zcg,zch,zci,zcj,zck,zcl,zcm,zcn,zco,zcp,zcq,zcr,zcs,zct,zcu,zcv,zcw,zcx,zcy,zcz,zda,zdb,zdc,zdd,guardV,nth,zde,zdf,zdg,zdh,zdi,Nat.reduceEqDiff,reduceIte,zdj,zdk,zdl,resultsA,RetO,Nat.reduceLT,zdm,zdn,zdo,zdp,zdq,zdr,zds,zdt,zdu,zdv,zdw,zdx,zdy,zdz,zea,zeb,zec,zed,zee,zef,zeg,zeh,zei,zej,zek,zel,zem,zen,zeo]) (by rw [size29]; rfl) (by omega) fun h1 hn1 => ?_
    rw [size29] at hn1
    have n1 := hn1.next
    have hb := hn1.slv (n := 2) (c := 2) rfl
    have pr1 : Pres h.next h h1 := hn1.pres (Nat.le_refl _)
    have hv21 : SlV h1.blks lo2 hi2 1 n2 (strs ls) (.slice A2 n2 c2) := hv2.mono fun b _ hb => pr1.get b (by omega)
    obtain ⟨b0, o0, hbe, _, _, hbl⟩ := hb.at_ (by omega)
    injection hbe with hbe
    injection hbe with q1 q2
    subst q1; subst q2
    have lb0 := hbl 0 (by omega)
    have lb1 := hbl 1 (by omega)
    simp only [List.getElem?_toArray, List.getElem?_cons_zero, List.getElem?_cons_succ, Nat.zero_add, Array.toList] at lb0 lb1
    simp only [zaa,zab,zac,zad,zae,zaf,zag,zah,zai,zaj,zak,zal,zam,zan,zao,zap,zaq,zar,zas,zat,zau,zav,zaw,zax,zay,zaz,zba,zbb,zbc,zbd,zbe,zbf,zbg,zbh,zbi,zbj,zbk,zbl,zbm,zbn,zbo,zbp,zbq,zbr,zbs,zbt,zbu,zbv,zbw,zbx,zby,zbz,zca,zcb,zcc,zcd,zce,zcf,zcg,zch,zci,zcj,zck,zcl,zcm,zcn,zco,zcp,zcq,zcr,zcs,zct,zcu,zcv,zcw,zcx,zcy,zcz,zda,zdb,zdc,zdd,guardV,nth,zde,zdf,zdg,zdh,zdi,Nat.reduceEqDiff,reduceIte,zdj,zdk,zdl,resultsA,RetO,Nat.reduceLT,zdm,zdn,zdo,zdp,zdq,zdr,zds,zdt,zdu,zdv,zdw,zdx,zdy,zdz,zea,zeb,zec,zed,zee,zef,zeg,zeh,zei,zej,zek,zel,zem,zen,zeo, len101]
    refine WK_loopN (fun j α h2 => ∃ i : Nat, i + j = 2 ∧ h2 = h1 ∧ (1 ≤ i → ∀ s ∈ ls, seamE k most s ≠ 3) ∧ (2 ≤ i → ∀ s ∈ ls, seamE k most s = 0) ∧ α.get 0 = some (.int .i64 k) ∧ α.get 2 = some (.int .i64 most) ∧ α.get 3 = some (.slice A2 n2 c2) ∧
        α.get 17 = some (.slice (some ⟨h.next, 0, none⟩) 2 2) ∧ α.get 18 = some (.int .i64 2) ∧ α.get 19 = some (.int .i64 i)) 2
      ⟨0, rfl, rfl, fun h => (by omega), fun h => (by omega), by simp only [zaa,zab,zac,zad,zae,zaf,zag,zah,zai,zaj,zak,zal,zam,zan,zao,zap,zaq,zar,zas,zat,zau,zav,zaw,zax,zay,zaz,zba,zbb,zbc,zbd,zbe,zbf,zbg,zbh,zbi,zbj,zbk,zbl,zbm,zbn,zbo,zbp,zbq,zbr,zbs,zbt,zbu,zbv,zbw,zbx,zby,zbz,zca,zcb,zcc,zcd,zce,zcf,zcg,zch,zci,zcj,zck,zcl,zcm,zcn,zco,zcp,zcq,zcr,zcs,zct,zcu,zcv,zcw,zcx,zcy,zcz,zda,zdb,zdc,zdd,guardV,nth,zde,zdf,zdg,zdh,zdi,Nat.reduceEqDiff,reduceIte,zdj,zdk,zdl,resultsA,RetO,Nat.reduceLT,zdm,zdn,zdo,zdp,zdq,zdr,zds,zdt,zdu,zdv,zdw,zdx,zdy,zdz,zea,zeb,zec,zed,zee,zef,zeg,zeh,zei,zej,zek,zel,zem,zen,zeo], by simp only [zaa,zab,zac,zad,zae,zaf,zag,zah,zai,zaj,zak,zal,zam,zan,zao,zap,zaq,zar,zas,zat,zau,zav,zaw,zax,zay,zaz,zba,zbb,zbc,zbd,zbe,zbf,zbg,zbh,zbi,zbj,zbk,zbl,zbm,zbn,zbo,zbp,zbq,zbr,zbs,zbt,zbu,zbv,zbw,zbx,zby,zbz,zca,zcb,zcc,zcd,zce,zcf,zcg,zch,zci,zcj,zck,zcl,zcm,zcn,zco,zcp,zcq,zcr,zcs,zct,zcu,zcv,zcw,zcx,zcy,zcz,zda,zdb,zdc,zdd,guardV,nth,zde,zdf,zdg,zdh,zdi,Nat.reduceEqDiff,reduceIte,zdj,zdk,zdl,resultsA,RetO,Nat.reduceLT,zdm,zdn,zdo,zdp,zdq,zdr,zds,zdt,zdu,zdv,zdw,zdx,zdy,zdz,zea,zeb,zec,zed,zee,zef,zeg,zeh,zei,zej,zek,zel,zem,zen,zeo], by simp only [zaa,zab,zac,zad,zae,zaf,zag,zah,zai,zaj,zak,zal,zam,zan,zao,zap,zaq,zar,zas,zat,zau,zav,zaw,zax,zay,zaz,zba,zbb,zbc,zbd,zbe,zbf,zbg,zbh,zbi,zbj,zbk,zbl,zbm,zbn,zbo,zbp,zbq,zbr,zbs,zbt,zbu,zbv,zbw,zbx,zby,zbz,zca,zcb,zcc,zcd,zce,zcf,zcg,zch,zci,zcj,zck,zcl,zcm,zcn,zco,zcp,zcq,zcr,zcs,zct,zcu,zcv,zcw,zcx,zcy,zcz,zda,zdb,zdc,zdd,guardV,nth,zde,zdf,zdg,zdh,zdi,Nat.reduceEqDiff,reduceIte,zdj,zdk,zdl,resultsA,RetO,Nat.reduceLT,zdm,zdn,zdo,zdp,zdq,zdr,zds,zdt,zdu,zdv,zdw,zdx,zdy,zdz,zea,zeb,zec,zed,zee,zef,zeg,zeh,zei,zej,zek,zel,zem,zen,zeo], by simp only [zaa,zab,zac,zad,zae,zaf,zag,zah,zai,zaj,zak,zal,zam,zan,zao,zap,zaq,zar,zas,zat,zau,zav,zaw,zax,zay,zaz,zba,zbb,zbc,zbd,zbe,zbf,zbg,zbh,zbi,zbj,zbk,zbl,zbm,zbn,zbo,zbp,zbq,zbr,zbs,zbt,zbu,zbv,zbw,zbx,zby,zbz,zca,zcb,zcc,zcd,zce,zcf,zcg,zch,zci,zcj,zck,zcl,zcm,zcn,zco,zcp,zcq,zcr,zcs,zct,zcu,zcv,zcw,zcx,zcy,zcz,zda,zdb,zdc,zdd,guardV,nth,zde,zdf,zdg,zdh,zdi,Nat.reduceEqDiff,reduceIte,zdj,zdk,zdl,resultsA,RetO,Nat.reduceLT,zdm,zdn,zdo,zdp,zdq,zdr,zds,zdt,zdu,zdv,zdw,zdx,zdy,zdz,zea,zeb,zec,zed,zee,zef,zeg,zeh,zei,zej,zek,zel,zem,zen,zeo], by simp only [zaa,zab,zac,zad,zae,zaf,zag,zah,zai,zaj,zak,zal,zam,zan,zao,zap,zaq,zar,zas,zat,zau,zav,zaw,zax,zay,zaz,zba,zbb,zbc,zbd,zbe,zbf,zbg,zbh,zbi,zbj,zbk,zbl,zbm,zbn,zbo,zbp,zbq,zbr,zbs,zbt,zbu,zbv,zbw,zbx,zby,zbz,zca,zcb,zcc,zcd,zce,zcf,zcg,zch,zci,zcj,zck,zcl,zcm,zcn,zco,zcp,zcq,zcr,zcs,zct,zcu,zcv,zcw,zcx,zcy,zcz,zda,zdb,zdc,zdd,guardV,nth,zde,zdf,zdg,zdh,zdi,Nat.reduceEqDiff,reduceIte,zdj,zdk,zdl,resultsA,RetO,Nat.reduceLT,zdm,zdn,zdo,zdp,zdq,zdr,zds,zdt,zdu,zdv,zdw,zdx,zdy,zdz,zea,zeb,zec,zed,zee,zef,zeg,zeh,zei,zej,zek,zel,zem,zen,zeo]; rfl, by simp only [zaa,zab,zac,zad,zae,zaf,zag,zah,zai,zaj,zak,zal,zam,zan,zao,zap,zaq,zar,zas,zat,zau,zav,zaw,zax,zay,zaz,zba,zbb,zbc,zbd,zbe,zbf,zbg,zbh,zbi,zbj,zbk,zbl,zbm,zbn,zbo,zbp,zbq,zbr,zbs,zbt,zbu,zbv,zbw,zbx,zby,zbz,zca,zcb,zcc,zcd,zce,zcf,zcg,zch,zci,zcj,zck,zcl,zcm,zcn,zco,zcp,zcq,zcr,zcs,zct,zcu,zcv,zcw,zcx,zcy,zcz,zda,zdb,zdc,zdd,guardV,nth,zde,zdf,zdg,zdh,zdi,Nat.reduceEqDiff,reduceIte,zdj,zdk,zdl,resultsA,RetO,Nat.reduceLT,zdm,zdn,zdo,zdp,zdq,zdr,zds,zdt,zdu,zdv,zdw,zdx,zdy,zdz,zea,zeb,zec,zed,zee,zef,zeg,zeh,zei,zej,zek,zel,zem,zen,zeo]; rfl⟩ (by omega) ?_
    rintro J j α h2 ⟨i, hij, rfl, hA, hB, e0, e2, e3, e17, e18, e19⟩ hJ
    by_cases hi2' : i < 2
    · obtain ⟨bad, hbad, hbv⟩ : ∃ bad : Int, loadv h2.blks h.next (0 + i) = some (.int .i64 bad) ∧ (i = 0 ∧ bad = 3 ∨ i = 1 ∧ bad = 2) := by
        match i, hi2' with
        | 0, _ => exact ⟨3, lb0, .inl ⟨rfl, rfl⟩⟩
        | 1, _ => exact ⟨2, by rw [Nat.zero_add]; exact lb1, .inr ⟨rfl, rfl⟩⟩
      have dlt : decide ((i : Int) < 2) = true := decide_eq_true (by omega)
      simp (disch := omega) only [zaa,zab,zac,zad,zae,zaf,zag,zah,zai,zaj,zak,zal,zam,zan,zao,zap,zaq,zar,zas,zat,zau,zav,zaw,zax,zay,zaz,zba,zbb,zbc,zbd,zbe,zbf,zbg,zbh,zbi,zbj,zbk,zbl,zbm,zbn,zbo,zbp,zbq,zbr,zbs,zbt,zbu,zbv,zbw,zbx,zby,zbz,zca,zcb,zcc,zcd,zce,zcf,zcg,zch,zci,zcj,zck,zcl,zcm,zcn,zco,zcp,zcq,zcr,zcs,zct,zcu,zcv,zcw,zcx,zcy,zcz,zda,zdb,zdc,zdd,guardV,nth,zde,zdf,zdg,zdh,zdi,Nat.reduceEqDiff,reduceIte,zdj,zdk,zdl,resultsA,RetO,Nat.reduceLT,zdm,zdn,zdo,zdp,zdq,zdr,zds,zdt,zdu,zdv,zdw,zdx,zdy,zdz,zea,zeb,zec,zed,zee,zef,zeg,zeh,zei,zej,zek,zel,zem,zen,zeo, e0, e2, e3, e17, e18, e19, dlt, idxA101, load29, Int.toNat_natCast, Nat.mul_one, hbad]
      refine WK_loopN (fun j2 β h3 => ∃ i2 : Nat, i2 + j2 = n2 ∧ h3 = h2 ∧ (∀ s ∈ ls.take i2, seamE k most s ≠ bad) ∧ β.get 0 = some (.int .i64 k) ∧ β.get 2 = some (.int .i64 most) ∧ β.get 3 = some (.slice A2 n2 c2) ∧ β.get 10 = some (.int .i64 bad) ∧ β.get 11 = some (.int .i64 i2) ∧
          β.get 17 = some (.slice (some ⟨h.next, 0, none⟩) 2 2) ∧ β.get 18 = some (.int .i64 2) ∧ β.get 19 = some (.int .i64 i)) n2
        ⟨0, by omega, rfl, fun s hs => (by simp at hs), by simp only [zaa,zab,zac,zad,zae,zaf,zag,zah,zai,zaj,zak,zal,zam,zan,zao,zap,zaq,zar,zas,zat,zau,zav,zaw,zax,zay,zaz,zba,zbb,zbc,zbd,zbe,zbf,zbg,zbh,zbi,zbj,zbk,zbl,zbm,zbn,zbo,zbp,zbq,zbr,zbs,zbt,zbu,zbv,zbw,zbx,zby,zbz,zca,zcb,zcc,zcd,zce,zcf,zcg,zch,zci,zcj,zck,zcl,zcm,zcn,zco,zcp,zcq,zcr,zcs,zct,zcu,zcv,zcw,zcx,zcy,zcz,zda,zdb,zdc,zdd,guardV,nth,zde,zdf,zdg,zdh,zdi,Nat.reduceEqDiff,reduceIte,zdj,zdk,zdl,resultsA,RetO,Nat.reduceLT,zdm,zdn,zdo,zdp,zdq,zdr,zds,zdt,zdu,zdv,zdw,zdx,zdy,zdz,zea,zeb,zec,zed,zee,zef,zeg,zeh,zei,zej,zek,zel,zem,zen,zeo, e0], by simp only [zaa,zab,zac,zad,zae,zaf,zag,zah,zai,zaj,zak,zal,zam,zan,zao,zap,zaq,zar,zas,zat,zau,zav,zaw,zax,zay,zaz,zba,zbb,zbc,zbd,zbe,zbf,zbg,zbh,zbi,zbj,zbk,zbl,zbm,zbn,zbo,zbp,zbq,zbr,zbs,zbt,zbu,zbv,zbw,zbx,zby,zbz,zca,zcb,zcc,zcd,zce,zcf,zcg,zch,zci,zcj,zck,zcl,zcm,zcn,zco,zcp,zcq,zcr,zcs,zct,zcu,zcv,zcw,zcx,zcy,zcz,zda,zdb,zdc,zdd,guardV,nth,zde,zdf,zdg,zdh,zdi,Nat.reduceEqDiff,reduceIte,zdj,zdk,zdl,resultsA,RetO,Nat.reduceLT,zdm,zdn,zdo,zdp,zdq,zdr,zds,zdt,zdu,zdv,zdw,zdx,zdy,zdz,zea,zeb,zec,zed,zee,zef,zeg,zeh,zei,zej,zek,zel,zem,zen,zeo, e2], by simp only [zaa,zab,zac,zad,zae,zaf,zag,zah,zai,zaj,zak,zal,zam,zan,zao,zap,zaq,zar,zas,zat,zau,zav,zaw,zax,zay,zaz,zba,zbb,zbc,zbd,zbe,zbf,zbg,zbh,zbi,zbj,zbk,zbl,zbm,zbn,zbo,zbp,zbq,zbr,zbs,zbt,zbu,zbv,zbw,zbx,zby,zbz,zca,zcb,zcc,zcd,zce,zcf,zcg,zch,zci,zcj,zck,zcl,zcm,zcn,zco,zcp,zcq,zcr,zcs,zct,zcu,zcv,zcw,zcx,zcy,zcz,zda,zdb,zdc,zdd,guardV,nth,zde,zdf,zdg,zdh,zdi,Nat.reduceEqDiff,reduceIte,zdj,zdk,zdl,resultsA,RetO,Nat.reduceLT,zdm,zdn,zdo,zdp,zdq,zdr,zds,zdt,zdu,zdv,zdw,zdx,zdy,zdz,zea,zeb,zec,zed,zee,zef,zeg,zeh,zei,zej,zek,zel,zem,zen,zeo, e3], by simp only [zaa,zab,zac,zad,zae,zaf,zag,zah,zai,zaj,zak,zal,zam,zan,zao,zap,zaq,zar,zas,zat,zau,zav,zaw,zax,zay,zaz,zba,zbb,zbc,zbd,zbe,zbf,zbg,zbh,zbi,zbj,zbk,zbl,zbm,zbn,zbo,zbp,zbq,zbr,zbs,zbt,zbu,zbv,zbw,zbx,zby,zbz,zca,zcb,zcc,zcd,zce,zcf,zcg,zch,zci,zcj,zck,zcl,zcm,zcn,zco,zcp,zcq,zcr,zcs,zct,zcu,zcv,zcw,zcx,zcy,zcz,zda,zdb,zdc,zdd,guardV,nth,zde,zdf,zdg,zdh,zdi,Nat.reduceEqDiff,reduceIte,zdj,zdk,zdl,resultsA,RetO,Nat.reduceLT,zdm,zdn,zdo,zdp,zdq,zdr,zds,zdt,zdu,zdv,zdw,zdx,zdy,zdz,zea,zeb,zec,zed,zee,zef,zeg,zeh,zei,zej,zek,zel,zem,zen,zeo], by simp only [zaa,zab,zac,zad,zae,zaf,zag,zah,zai,zaj,zak,zal,zam,zan,zao,zap,zaq,zar,zas,zat,zau,zav,zaw,zax,zay,zaz,zba,zbb,zbc,zbd,zbe,zbf,zbg,zbh,zbi,zbj,zbk,zbl,zbm,zbn,zbo,zbp,zbq,zbr,zbs,zbt,zbu,zbv,zbw,zbx,zby,zbz,zca,zcb,zcc,zcd,zce,zcf,zcg,zch,zci,zcj,zck,zcl,zcm,zcn,zco,zcp,zcq,zcr,zcs,zct,zcu,zcv,zcw,zcx,zcy,zcz,zda,zdb,zdc,zdd,guardV,nth,zde,zdf,zdg,zdh,zdi,Nat.reduceEqDiff,reduceIte,zdj,zdk,zdl,resultsA,RetO,Nat.reduceLT,zdm,zdn,zdo,zdp,zdq,zdr,zds,zdt,zdu,zdv,zdw,zdx,zdy,zdz,zea,zeb,zec,zed,zee,zef,zeg,zeh,zei,zej,zek,zel,zem,zen,zeo]; rfl, by simp only [zaa,zab,zac,zad,zae,zaf,zag,zah,zai,zaj,zak,zal,zam,zan,zao,zap,zaq,zar,zas,zat,zau,zav,zaw,zax,zay,zaz,zba,zbb,zbc,zbd,zbe,zbf,zbg,zbh,zbi,zbj,zbk,zbl,zbm,zbn,zbo,zbp,zbq,zbr,zbs,zbt,zbu,zbv,zbw,zbx,zby,zbz,zca,zcb,zcc,zcd,zce,zcf,zcg,zch,zci,zcj,zck,zcl,zcm,zcn,zco,zcp,zcq,zcr,zcs,zct,zcu,zcv,zcw,zcx,zcy,zcz,zda,zdb,zdc,zdd,guardV,nth,zde,zdf,zdg,zdh,zdi,Nat.reduceEqDiff,reduceIte,zdj,zdk,zdl,resultsA,RetO,Nat.reduceLT,zdm,zdn,zdo,zdp,zdq,zdr,zds,zdt,zdu,zdv,zdw,zdx,zdy,zdz,zea,zeb,zec,zed,zee,zef,zeg,zeh,zei,zej,zek,zel,zem,zen,zeo, e17], by simp only [zaa,zab,zac,zad,zae,zaf,zag,zah,zai,zaj,zak,zal,zam,zan,zao,zap,zaq,zar,zas,zat,zau,zav,zaw,zax,zay,zaz,zba,zbb,zbc,zbd,zbe,zbf,zbg,zbh,zbi,zbj,zbk,zbl,zbm,zbn,zbo,zbp,zbq,zbr,zbs,zbt,zbu,zbv,zbw,zbx,zby,zbz,zca,zcb,zcc,zcd,zce,zcf,zcg,zch,zci,zcj,zck,zcl,zcm,zcn,zco,zcp,zcq,zcr,zcs,zct,zcu,zcv,zcw,zcx,zcy,zcz,zda,zdb,zdc,zdd,guardV,nth,zde,zdf,zdg,zdh,zdi,Nat.reduceEqDiff,reduceIte,zdj,zdk,zdl,resultsA,RetO,Nat.reduceLT,zdm,zdn,zdo,zdp,zdq,zdr,zds,zdt,zdu,zdv,zdw,zdx,zdy,zdz,zea,zeb,zec,zed,zee,zef,zeg,zeh,zei,zej,zek,zel,zem,zen,zeo, e18], by simp only [zaa,zab,zac,zad,zae,zaf,zag,zah,zai,zaj,zak,zal,zam,zan,zao,zap,zaq,zar,zas,zat,zau,zav,zaw,zax,zay,zaz,zba,zbb,zbc,zbd,zbe,zbf,zbg,zbh,zbi,zbj,zbk,zbl,zbm,zbn,zbo,zbp,zbq,zbr,zbs,zbt,zbu,zbv,zbw,zbx,zby,zbz,zca,zcb,zcc,zcd,zce,zcf,zcg,zch,zci,zcj,zck,zcl,zcm,zcn,zco,zcp,zcq,zcr,zcs,zct,zcu,zcv,zcw,zcx,zcy,zcz,zda,zdb,zdc,zdd,guardV,nth,zde,zdf,zdg,zdh,zdi,Nat.reduceEqDiff,reduceIte,zdj,zdk,zdl,resultsA,RetO,Nat.reduceLT,zdm,zdn,zdo,zdp,zdq,zdr,zds,zdt,zdu,zdv,zdw,zdx,zdy,zdz,zea,zeb,zec,zed,zee,zef,zeg,zeh,zei,zej,zek,zel,zem,zen,zeo, e19]⟩ (by omega) ?_
      rintro J2 j2 β h3 ⟨i2, hij2, rfl, hC, f0, f2, f3, f10, f11, f17, f18, f19⟩ hJ2
      by_cases hlt : (i2 : Int) < n2
      · obtain ⟨s, hs⟩ : ∃ s, ls[i2]? = some s := ⟨ls[i2]'(by omega), List.getElem?_eq_getElem (by omega)⟩
        have hsm := List.mem_of_getElem? hs
        obtain ⟨b, off, rfl, _, _, hld⟩ := hv21.at_ (by omega)
        have ld := hld i2 (by omega)
        rw [show (strs ls)[i2]? = some (strV s) by simp [strs, hs]] at ld
        simp (disch := omega) only [zaa,zab,zac,zad,zae,zaf,zag,zah,zai,zaj,zak,zal,zam,zan,zao,zap,zaq,zar,zas,zat,zau,zav,zaw,zax,zay,zaz,zba,zbb,zbc,zbd,zbe,zbf,zbg,zbh,zbi,zbj,zbk,zbl,zbm,zbn,zbo,zbp,zbq,zbr,zbs,zbt,zbu,zbv,zbw,zbx,zby,zbz,zca,zcb,zcc,zcd,zce,zcf,zcg,zch,zci,zcj,zck,zcl,zcm,zcn,zco,zcp,zcq,zcr,zcs,zct,zcu,zcv,zcw,zcx,zcy,zcz,zda,zdb,zdc,zdd,guardV,nth,zde,zdf,zdg,zdh,zdi,Nat.reduceEqDiff,reduceIte,zdj,zdk,zdl,resultsA,RetO,Nat.reduceLT,zdm,zdn,zdo,zdp,zdq,zdr,zds,zdt,zdu,zdv,zdw,zdx,zdy,zdz,zea,zeb,zec,zed,zee,zef,zeg,zeh,zei,zej,zek,zel,zem,zen,zeo, f0, f2, f3, f10, f11, f17, f18, f19, len28, hlt, idxA28, load9, Int.toNat_natCast, Nat.mul_one, ld]
        refine CallO_same (seam_spec (k := k) (most := most) (hls s hsm)) (by omega) fun u hu => ?_
        subst hu
        by_cases heq : seamE k most s = bad
        · have d1 : decide (seamE k most s = bad) = true := decide_eq_true heq
          simp only [zaa,zab,zac,zad,zae,zaf,zag,zah,zai,zaj,zak,zal,zam,zan,zao,zap,zaq,zar,zas,zat,zau,zav,zaw,zax,zay,zaz,zba,zbb,zbc,zbd,zbe,zbf,zbg,zbh,zbi,zbj,zbk,zbl,zbm,zbn,zbo,zbp,zbq,zbr,zbs,zbt,zbu,zbv,zbw,zbx,zby,zbz,zca,zcb,zcc,zcd,zce,zcf,zcg,zch,zci,zcj,zck,zcl,zcm,zcn,zco,zcp,zcq,zcr,zcs,zct,zcu,zcv,zcw,zcx,zcy,zcz,zda,zdb,zdc,zdd,guardV,nth,zde,zdf,zdg,zdh,zdi,Nat.reduceEqDiff,reduceIte,zdj,zdk,zdl,resultsA,RetO,Nat.reduceLT,zdm,zdn,zdo,zdp,zdq,zdr,zds,zdt,zdu,zdv,zdw,zdx,zdy,zdz,zea,zeb,zec,zed,zee,zef,zeg,zeh,zei,zej,zek,zel,zem,zen,zeo, d1, f10]
          refine hQ' _ _ ⟨pr1, ?_⟩
          rcases hbv with ⟨rfl, rfl⟩ | ⟨rfl, rfl⟩
          · rw [heq, chk_3 ht hsm heq]
          · rw [heq, chk_2 ht (hA (Nat.le_refl _)) hsm heq]
        · have d1 : decide (seamE k most s = bad) = false := decide_eq_false heq
          have hnext : ∀ s' ∈ ls.take (i2 + 1), seamE k most s' ≠ bad := fun s' hs' => by
            rw [List.take_add_one, hs] at hs'
            rcases List.mem_append.1 hs' with h5 | h5
            · exact hC s' h5
            · simp at h5
              subst h5; exact heq
          rcases hbv with ⟨rfl, rfl⟩ | ⟨rfl, rfl⟩
          · have d2 : decide ((3 : Int) = 2) = false := rfl
            simp (disch := omega) only [zaa,zab,zac,zad,zae,zaf,zag,zah,zai,zaj,zak,zal,zam,zan,zao,zap,zaq,zar,zas,zat,zau,zav,zaw,zax,zay,zaz,zba,zbb,zbc,zbd,zbe,zbf,zbg,zbh,zbi,zbj,zbk,zbl,zbm,zbn,zbo,zbp,zbq,zbr,zbs,zbt,zbu,zbv,zbw,zbx,zby,zbz,zca,zcb,zcc,zcd,zce,zcf,zcg,zch,zci,zcj,zck,zcl,zcm,zcn,zco,zcp,zcq,zcr,zcs,zct,zcu,zcv,zcw,zcx,zcy,zcz,zda,zdb,zdc,zdd,guardV,nth,zde,zdf,zdg,zdh,zdi,Nat.reduceEqDiff,reduceIte,zdj,zdk,zdl,resultsA,RetO,Nat.reduceLT,zdm,zdn,zdo,zdp,zdq,zdr,zds,zdt,zdu,zdv,zdw,zdx,zdy,zdz,zea,zeb,zec,zed,zee,zef,zeg,zeh,zei,zej,zek,zel,zem,zen,zeo, d1, f10, f11, d2, wrap_i64]
            exact hJ2 (j2 - 1) _ _ (by omega) ⟨i2 + 1, by omega, rfl, hnext, by simp only [zaa,zab,zac,zad,zae,zaf,zag,zah,zai,zaj,zak,zal,zam,zan,zao,zap,zaq,zar,zas,zat,zau,zav,zaw,zax,zay,zaz,zba,zbb,zbc,zbd,zbe,zbf,zbg,zbh,zbi,zbj,zbk,zbl,zbm,zbn,zbo,zbp,zbq,zbr,zbs,zbt,zbu,zbv,zbw,zbx,zby,zbz,zca,zcb,zcc,zcd,zce,zcf,zcg,zch,zci,zcj,zck,zcl,zcm,zcn,zco,zcp,zcq,zcr,zcs,zct,zcu,zcv,zcw,zcx,zcy,zcz,zda,zdb,zdc,zdd,guardV,nth,zde,zdf,zdg,zdh,zdi,Nat.reduceEqDiff,reduceIte,zdj,zdk,zdl,resultsA,RetO,Nat.reduceLT,zdm,zdn,zdo,zdp,zdq,zdr,zds,zdt,zdu,zdv,zdw,zdx,zdy,zdz,zea,zeb,zec,zed,zee,zef,zeg,zeh,zei,zej,zek,zel,zem,zen,zeo, f0], by simp only [zaa,zab,zac,zad,zae,zaf,zag,zah,zai,zaj,zak,zal,zam,zan,zao,zap,zaq,zar,zas,zat,zau,zav,zaw,zax,zay,zaz,zba,zbb,zbc,zbd,zbe,zbf,zbg,zbh,zbi,zbj,zbk,zbl,zbm,zbn,zbo,zbp,zbq,zbr,zbs,zbt,zbu,zbv,zbw,zbx,zby,zbz,zca,zcb,zcc,zcd,zce,zcf,zcg,zch,zci,zcj,zck,zcl,zcm,zcn,zco,zcp,zcq,zcr,zcs,zct,zcu,zcv,zcw,zcx,zcy,zcz,zda,zdb,zdc,zdd,guardV,nth,zde,zdf,zdg,zdh,zdi,Nat.reduceEqDiff,reduceIte,zdj,zdk,zdl,resultsA,RetO,Nat.reduceLT,zdm,zdn,zdo,zdp,zdq,zdr,zds,zdt,zdu,zdv,zdw,zdx,zdy,zdz,zea,zeb,zec,zed,zee,zef,zeg,zeh,zei,zej,zek,zel,zem,zen,zeo, f2], by simp only [zaa,zab,zac,zad,zae,zaf,zag,zah,zai,zaj,zak,zal,zam,zan,zao,zap,zaq,zar,zas,zat,zau,zav,zaw,zax,zay,zaz,zba,zbb,zbc,zbd,zbe,zbf,zbg,zbh,zbi,zbj,zbk,zbl,zbm,zbn,zbo,zbp,zbq,zbr,zbs,zbt,zbu,zbv,zbw,zbx,zby,zbz,zca,zcb,zcc,zcd,zce,zcf,zcg,zch,zci,zcj,zck,zcl,zcm,zcn,zco,zcp,zcq,zcr,zcs,zct,zcu,zcv,zcw,zcx,zcy,zcz,zda,zdb,zdc,zdd,guardV,nth,zde,zdf,zdg,zdh,zdi,Nat.reduceEqDiff,reduceIte,zdj,zdk,zdl,resultsA,RetO,Nat.reduceLT,zdm,zdn,zdo,zdp,zdq,zdr,zds,zdt,zdu,zdv,zdw,zdx,zdy,zdz,zea,zeb,zec,zed,zee,zef,zeg,zeh,zei,zej,zek,zel,zem,zen,zeo, f3], by simp only [zaa,zab,zac,zad,zae,zaf,zag,zah,zai,zaj,zak,zal,zam,zan,zao,zap,zaq,zar,zas,zat,zau,zav,zaw,zax,zay,zaz,zba,zbb,zbc,zbd,zbe,zbf,zbg,zbh,zbi,zbj,zbk,zbl,zbm,zbn,zbo,zbp,zbq,zbr,zbs,zbt,zbu,zbv,zbw,zbx,zby,zbz,zca,zcb,zcc,zcd,zce,zcf,zcg,zch,zci,zcj,zck,zcl,zcm,zcn,zco,zcp,zcq,zcr,zcs,zct,zcu,zcv,zcw,zcx,zcy,zcz,zda,zdb,zdc,zdd,guardV,nth,zde,zdf,zdg,zdh,zdi,Nat.reduceEqDiff,reduceIte,zdj,zdk,zdl,resultsA,RetO,Nat.reduceLT,zdm,zdn,zdo,zdp,zdq,zdr,zds,zdt,zdu,zdv,zdw,zdx,zdy,zdz,zea,zeb,zec,zed,zee,zef,zeg,zeh,zei,zej,zek,zel,zem,zen,zeo, f10], by simp only [zaa,zab,zac,zad,zae,zaf,zag,zah,zai,zaj,zak,zal,zam,zan,zao,zap,zaq,zar,zas,zat,zau,zav,zaw,zax,zay,zaz,zba,zbb,zbc,zbd,zbe,zbf,zbg,zbh,zbi,zbj,zbk,zbl,zbm,zbn,zbo,zbp,zbq,zbr,zbs,zbt,zbu,zbv,zbw,zbx,zby,zbz,zca,zcb,zcc,zcd,zce,zcf,zcg,zch,zci,zcj,zck,zcl,zcm,zcn,zco,zcp,zcq,zcr,zcs,zct,zcu,zcv,zcw,zcx,zcy,zcz,zda,zdb,zdc,zdd,guardV,nth,zde,zdf,zdg,zdh,zdi,Nat.reduceEqDiff,reduceIte,zdj,zdk,zdl,resultsA,RetO,Nat.reduceLT,zdm,zdn,zdo,zdp,zdq,zdr,zds,zdt,zdu,zdv,zdw,zdx,zdy,zdz,zea,zeb,zec,zed,zee,zef,zeg,zeh,zei,zej,zek,zel,zem,zen,zeo]; rfl, by simp only [zaa,zab,zac,zad,zae,zaf,zag,zah,zai,zaj,zak,zal,zam,zan,zao,zap,zaq,zar,zas,zat,zau,zav,zaw,zax,zay,zaz,zba,zbb,zbc,zbd,zbe,zbf,zbg,zbh,zbi,zbj,zbk,zbl,zbm,zbn,zbo,zbp,zbq,zbr,zbs,zbt,zbu,zbv,zbw,zbx,zby,zbz,zca,zcb,zcc,zcd,zce,zcf,zcg,zch,zci,zcj,zck,zcl,zcm,zcn,zco,zcp,zcq,zcr,zcs,zct,zcu,zcv,zcw,zcx,zcy,zcz,zda,zdb,zdc,zdd,guardV,nth,zde,zdf,zdg,zdh,zdi,Nat.reduceEqDiff,reduceIte,zdj,zdk,zdl,resultsA,RetO,Nat.reduceLT,zdm,zdn,zdo,zdp,zdq,zdr,zds,zdt,zdu,zdv,zdw,zdx,zdy,zdz,zea,zeb,zec,zed,zee,zef,zeg,zeh,zei,zej,zek,zel,zem,zen,zeo, f17], by simp only [zaa,zab,zac,zad,zae,zaf,zag,zah,zai,zaj,zak,zal,zam,zan,zao,zap,zaq,zar,zas,zat,zau,zav,zaw,zax,zay,zaz,zba,zbb,zbc,zbd,zbe,zbf,zbg,zbh,zbi,zbj,zbk,zbl,zbm,zbn,zbo,zbp,zbq,zbr,zbs,zbt,zbu,zbv,zbw,zbx,zby,zbz,zca,zcb,zcc,zcd,zce,zcf,zcg,zch,zci,zcj,zck,zcl,zcm,zcn,zco,zcp,zcq,zcr,zcs,zct,zcu,zcv,zcw,zcx,zcy,zcz,zda,zdb,zdc,zdd,guardV,nth,zde,zdf,zdg,zdh,zdi,Nat.reduceEqDiff,reduceIte,zdj,zdk,zdl,resultsA,RetO,Nat.reduceLT,zdm,zdn,zdo,zdp,zdq,zdr,zds,zdt,zdu,zdv,zdw,zdx,zdy,zdz,zea,zeb,zec,zed,zee,zef,zeg,zeh,zei,zej,zek,zel,zem,zen,zeo, f18], by simp only [zaa,zab,zac,zad,zae,zaf,zag,zah,zai,zaj,zak,zal,zam,zan,zao,zap,zaq,zar,zas,zat,zau,zav,zaw,zax,zay,zaz,zba,zbb,zbc,zbd,zbe,zbf,zbg,zbh,zbi,zbj,zbk,zbl,zbm,zbn,zbo,zbp,zbq,zbr,zbs,zbt,zbu,zbv,zbw,zbx,zby,zbz,zca,zcb,zcc,zcd,zce,zcf,zcg,zch,zci,zcj,zck,zcl,zcm,zcn,zco,zcp,zcq,zcr,zcs,zct,zcu,zcv,zcw,zcx,zcy,zcz,zda,zdb,zdc,zdd,guardV,nth,zde,zdf,zdg,zdh,zdi,Nat.reduceEqDiff,reduceIte,zdj,zdk,zdl,resultsA,RetO,Nat.reduceLT,zdm,zdn,zdo,zdp,zdq,zdr,zds,zdt,zdu,zdv,zdw,zdx,zdy,zdz,zea,zeb,zec,zed,zee,zef,zeg,zeh,zei,zej,zek,zel,zem,zen,zeo, f19]⟩
          · have d2 : decide ((2 : Int) = 2) = true := rfl
            have d3 : decide (seamE k most s = 3) = false := decide_eq_false (hA (Nat.le_refl _) s hsm)
            simp (disch := omega) only [zaa,zab,zac,zad,zae,zaf,zag,zah,zai,zaj,zak,zal,zam,zan,zao,zap,zaq,zar,zas,zat,zau,zav,zaw,zax,zay,zaz,zba,zbb,zbc,zbd,zbe,zbf,zbg,zbh,zbi,zbj,zbk,zbl,zbm,zbn,zbo,zbp,zbq,zbr,zbs,zbt,zbu,zbv,zbw,zbx,zby,zbz,zca,zcb,zcc,zcd,zce,zcf,zcg,zch,zci,zcj,zck,zcl,zcm,zcn,zco,zcp,zcq,zcr,zcs,zct,zcu,zcv,zcw,zcx,zcy,zcz,zda,zdb,zdc,zdd,guardV,nth,zde,zdf,zdg,zdh,zdi,Nat.reduceEqDiff,reduceIte,zdj,zdk,zdl,resultsA,RetO,Nat.reduceLT,zdm,zdn,zdo,zdp,zdq,zdr,zds,zdt,zdu,zdv,zdw,zdx,zdy,zdz,zea,zeb,zec,zed,zee,zef,zeg,zeh,zei,zej,zek,zel,zem,zen,zeo, d1, f10, f11, d2, d3, wrap_i64]
            exact hJ2 (j2 - 1) _ _ (by omega) ⟨i2 + 1, by omega, rfl, hnext, by simp only [zaa,zab,zac,zad,zae,zaf,zag,zah,zai,zaj,zak,zal,zam,zan,zao,zap,zaq,zar,zas,zat,zau,zav,zaw,zax,zay,zaz,zba,zbb,zbc,zbd,zbe,zbf,zbg,zbh,zbi,zbj,zbk,zbl,zbm,zbn,zbo,zbp,zbq,zbr,zbs,zbt,zbu,zbv,zbw,zbx,zby,zbz,zca,zcb,zcc,zcd,zce,zcf,zcg,zch,zci,zcj,zck,zcl,zcm,zcn,zco,zcp,zcq,zcr,zcs,zct,zcu,zcv,zcw,zcx,zcy,zcz,zda,zdb,zdc,zdd,guardV,nth,zde,zdf,zdg,zdh,zdi,Nat.reduceEqDiff,reduceIte,zdj,zdk,zdl,resultsA,RetO,Nat.reduceLT,zdm,zdn,zdo,zdp,zdq,zdr,zds,zdt,zdu,zdv,zdw,zdx,zdy,zdz,zea,zeb,zec,zed,zee,zef,zeg,zeh,zei,zej,zek,zel,zem,zen,zeo, f0], by simp only [zaa,zab,zac,zad,zae,zaf,zag,zah,zai,zaj,zak,zal,zam,zan,zao,zap,zaq,zar,zas,zat,zau,zav,zaw,zax,zay,zaz,zba,zbb,zbc,zbd,zbe,zbf,zbg,zbh,zbi,zbj,zbk,zbl,zbm,zbn,zbo,zbp,zbq,zbr,zbs,zbt,zbu,zbv,zbw,zbx,zby,zbz,zca,zcb,zcc,zcd,zce,zcf,zcg,zch,zci,zcj,zck,zcl,zcm,zcn,zco,zcp,zcq,zcr,zcs,zct,zcu,zcv,zcw,zcx,zcy,zcz,zda,zdb,zdc,zdd,guardV,nth,zde,zdf,zdg,zdh,zdi,Nat.reduceEqDiff,reduceIte,zdj,zdk,zdl,resultsA,RetO,Nat.reduceLT,zdm,zdn,zdo,zdp,zdq,zdr,zds,zdt,zdu,zdv,zdw,zdx,zdy,zdz,zea,zeb,zec,zed,zee,zef,zeg,zeh,zei,zej,zek,zel,zem,zen,zeo, f2], by simp only [zaa,zab,zac,zad,zae,zaf,zag,zah,zai,zaj,zak,zal,zam,zan,zao,zap,zaq,zar,zas,zat,zau,zav,zaw,zax,zay,zaz,zba,zbb,zbc,zbd,zbe,zbf,zbg,zbh,zbi,zbj,zbk,zbl,zbm,zbn,zbo,zbp,zbq,zbr,zbs,zbt,zbu,zbv,zbw,zbx,zby,zbz,zca,zcb,zcc,zcd,zce,zcf,zcg,zch,zci,zcj,zck,zcl,zcm,zcn,zco,zcp,zcq,zcr,zcs,zct,zcu,zcv,zcw,zcx,zcy,zcz,zda,zdb,zdc,zdd,guardV,nth,zde,zdf,zdg,zdh,zdi,Nat.reduceEqDiff,reduceIte,zdj,zdk,zdl,resultsA,RetO,Nat.reduceLT,zdm,zdn,zdo,zdp,zdq,zdr,zds,zdt,zdu,zdv,zdw,zdx,zdy,zdz,zea,zeb,zec,zed,zee,zef,zeg,zeh,zei,zej,zek,zel,zem,zen,zeo, f3], by simp only [zaa,zab,zac,zad,zae,zaf,zag,zah,zai,zaj,zak,zal,zam,zan,zao,zap,zaq,zar,zas,zat,zau,zav,zaw,zax,zay,zaz,zba,zbb,zbc,zbd,zbe,zbf,zbg,zbh,zbi,zbj,zbk,zbl,zbm,zbn,zbo,zbp,zbq,zbr,zbs,zbt,zbu,zbv,zbw,zbx,zby,zbz,zca,zcb,zcc,zcd,zce,zcf,zcg,zch,zci,zcj,zck,zcl,zcm,zcn,zco,zcp,zcq,zcr,zcs,zct,zcu,zcv,zcw,zcx,zcy,zcz,zda,zdb,zdc,zdd,guardV,nth,zde,zdf,zdg,zdh,zdi,Nat.reduceEqDiff,reduceIte,zdj,zdk,zdl,resultsA,RetO,Nat.reduceLT,zdm,zdn,zdo,zdp,zdq,zdr,zds,zdt,zdu,zdv,zdw,zdx,zdy,zdz,zea,zeb,zec,zed,zee,zef,zeg,zeh,zei,zej,zek,zel,zem,zen,zeo, f10], by simp only [zaa,zab,zac,zad,zae,zaf,zag,zah,zai,zaj,zak,zal,zam,zan,zao,zap,zaq,zar,zas,zat,zau,zav,zaw,zax,zay,zaz,zba,zbb,zbc,zbd,zbe,zbf,zbg,zbh,zbi,zbj,zbk,zbl,zbm,zbn,zbo,zbp,zbq,zbr,zbs,zbt,zbu,zbv,zbw,zbx,zby,zbz,zca,zcb,zcc,zcd,zce,zcf,zcg,zch,zci,zcj,zck,zcl,zcm,zcn,zco,zcp,zcq,zcr,zcs,zct,zcu,zcv,zcw,zcx,zcy,zcz,zda,zdb,zdc,zdd,guardV,nth,zde,zdf,zdg,zdh,zdi,Nat.reduceEqDiff,reduceIte,zdj,zdk,zdl,resultsA,RetO,Nat.reduceLT,zdm,zdn,zdo,zdp,zdq,zdr,zds,zdt,zdu,zdv,zdw,zdx,zdy,zdz,zea,zeb,zec,zed,zee,zef,zeg,zeh,zei,zej,zek,zel,zem,zen,zeo]; rfl, by simp only [zaa,zab,zac,zad,zae,zaf,zag,zah,zai,zaj,zak,zal,zam,zan,zao,zap,zaq,zar,zas,zat,zau,zav,zaw,zax,zay,zaz,zba,zbb,zbc,zbd,zbe,zbf,zbg,zbh,zbi,zbj,zbk,zbl,zbm,zbn,zbo,zbp,zbq,zbr,zbs,zbt,zbu,zbv,zbw,zbx,zby,zbz,zca,zcb,zcc,zcd,zce,zcf,zcg,zch,zci,zcj,zck,zcl,zcm,zcn,zco,zcp,zcq,zcr,zcs,zct,zcu,zcv,zcw,zcx,zcy,zcz,zda,zdb,zdc,zdd,guardV,nth,zde,zdf,zdg,zdh,zdi,Nat.reduceEqDiff,reduceIte,zdj,zdk,zdl,resultsA,RetO,Nat.reduceLT,zdm,zdn,zdo,zdp,zdq,zdr,zds,zdt,zdu,zdv,zdw,zdx,zdy,zdz,zea,zeb,zec,zed,zee,zef,zeg,zeh,zei,zej,zek,zel,zem,zen,zeo, f17], by simp only [zaa,zab,zac,zad,zae,zaf,zag,zah,zai,zaj,zak,zal,zam,zan,zao,zap,zaq,zar,zas,zat,zau,zav,zaw,zax,zay,zaz,zba,zbb,zbc,zbd,zbe,zbf,zbg,zbh,zbi,zbj,zbk,zbl,zbm,zbn,zbo,zbp,zbq,zbr,zbs,zbt,zbu,zbv,zbw,zbx,zby,zbz,zca,zcb,zcc,zcd,zce,zcf,zcg,zch,zci,zcj,zck,zcl,zcm,zcn,zco,zcp,zcq,zcr,zcs,zct,zcu,zcv,zcw,zcx,zcy,zcz,zda,zdb,zdc,zdd,guardV,nth,zde,zdf,zdg,zdh,zdi,Nat.reduceEqDiff,reduceIte,zdj,zdk,zdl,resultsA,RetO,Nat.reduceLT,zdm,zdn,zdo,zdp,zdq,zdr,zds,zdt,zdu,zdv,zdw,zdx,zdy,zdz,zea,zeb,zec,zed,zee,zef,zeg,zeh,zei,zej,zek,zel,zem,zen,zeo, f18], by simp only [zaa,zab,zac,zad,zae,zaf,zag,zah,zai,zaj,zak,zal,zam,zan,zao,zap,zaq,zar,zas,zat,zau,zav,zaw,zax,zay,zaz,zba,zbb,zbc,zbd,zbe,zbf,zbg,zbh,zbi,zbj,zbk,zbl,zbm,zbn,zbo,zbp,zbq,zbr,zbs,zbt,zbu,zbv,zbw,zbx,zby,zbz,zca,zcb,zcc,zcd,zce,zcf,zcg,zch,zci,zcj,zck,zcl,zcm,zcn,zco,zcp,zcq,zcr,zcs,zct,zcu,zcv,zcw,zcx,zcy,zcz,zda,zdb,zdc,zdd,guardV,nth,zde,zdf,zdg,zdh,zdi,Nat.reduceEqDiff,reduceIte,zdj,zdk,zdl,resultsA,RetO,Nat.reduceLT,zdm,zdn,zdo,zdp,zdq,zdr,zds,zdt,zdu,zdv,zdw,zdx,zdy,zdz,zea,zeb,zec,zed,zee,zef,zeg,zeh,zei,zej,zek,zel,zem,zen,zeo, f19]⟩
      · have htk : ls.take i2 = ls := List.take_of_length_le (by omega)
        rw [htk] at hC
        simp (disch := omega) only [zaa,zab,zac,zad,zae,zaf,zag,zah,zai,zaj,zak,zal,zam,zan,zao,zap,zaq,zar,zas,zat,zau,zav,zaw,zax,zay,zaz,zba,zbb,zbc,zbd,zbe,zbf,zbg,zbh,zbi,zbj,zbk,zbl,zbm,zbn,zbo,zbp,zbq,zbr,zbs,zbt,zbu,zbv,zbw,zbx,zby,zbz,zca,zcb,zcc,zcd,zce,zcf,zcg,zch,zci,zcj,zck,zcl,zcm,zcn,zco,zcp,zcq,zcr,zcs,zct,zcu,zcv,zcw,zcx,zcy,zcz,zda,zdb,zdc,zdd,guardV,nth,zde,zdf,zdg,zdh,zdi,Nat.reduceEqDiff,reduceIte,zdj,zdk,zdl,resultsA,RetO,Nat.reduceLT,zdm,zdn,zdo,zdp,zdq,zdr,zds,zdt,zdu,zdv,zdw,zdx,zdy,zdz,zea,zeb,zec,zed,zee,zef,zeg,zeh,zei,zej,zek,zel,zem,zen,zeo, f0, f2, f3, f10, f11, f17, f18, f19, len28, hlt, wrap_i64]
        refine hJ (j - 1) _ _ (by omega) ⟨i + 1, by omega, rfl, fun _ => ?_, fun h2i => ?_, by simp only [zaa,zab,zac,zad,zae,zaf,zag,zah,zai,zaj,zak,zal,zam,zan,zao,zap,zaq,zar,zas,zat,zau,zav,zaw,zax,zay,zaz,zba,zbb,zbc,zbd,zbe,zbf,zbg,zbh,zbi,zbj,zbk,zbl,zbm,zbn,zbo,zbp,zbq,zbr,zbs,zbt,zbu,zbv,zbw,zbx,zby,zbz,zca,zcb,zcc,zcd,zce,zcf,zcg,zch,zci,zcj,zck,zcl,zcm,zcn,zco,zcp,zcq,zcr,zcs,zct,zcu,zcv,zcw,zcx,zcy,zcz,zda,zdb,zdc,zdd,guardV,nth,zde,zdf,zdg,zdh,zdi,Nat.reduceEqDiff,reduceIte,zdj,zdk,zdl,resultsA,RetO,Nat.reduceLT,zdm,zdn,zdo,zdp,zdq,zdr,zds,zdt,zdu,zdv,zdw,zdx,zdy,zdz,zea,zeb,zec,zed,zee,zef,zeg,zeh,zei,zej,zek,zel,zem,zen,zeo, f0], by simp only [zaa,zab,zac,zad,zae,zaf,zag,zah,zai,zaj,zak,zal,zam,zan,zao,zap,zaq,zar,zas,zat,zau,zav,zaw,zax,zay,zaz,zba,zbb,zbc,zbd,zbe,zbf,zbg,zbh,zbi,zbj,zbk,zbl,zbm,zbn,zbo,zbp,zbq,zbr,zbs,zbt,zbu,zbv,zbw,zbx,zby,zbz,zca,zcb,zcc,zcd,zce,zcf,zcg,zch,zci,zcj,zck,zcl,zcm,zcn,zco,zcp,zcq,zcr,zcs,zct,zcu,zcv,zcw,zcx,zcy,zcz,zda,zdb,zdc,zdd,guardV,nth,zde,zdf,zdg,zdh,zdi,Nat.reduceEqDiff,reduceIte,zdj,zdk,zdl,resultsA,RetO,Nat.reduceLT,zdm,zdn,zdo,zdp,zdq,zdr,zds,zdt,zdu,zdv,zdw,zdx,zdy,zdz,zea,zeb,zec,zed,zee,zef,zeg,zeh,zei,zej,zek,zel,zem,zen,zeo, f2], by simp only [zaa,zab,zac,zad,zae,zaf,zag,zah,zai,zaj,zak,zal,zam,zan,zao,zap,zaq,zar,zas,zat,zau,zav,zaw,zax,zay,zaz,zba,zbb,zbc,zbd,zbe,zbf,zbg,zbh,zbi,zbj,zbk,zbl,zbm,zbn,zbo,zbp,zbq,zbr,zbs,zbt,zbu,zbv,zbw,zbx,zby,zbz,zca,zcb,zcc,zcd,zce,zcf,zcg,zch,zci,zcj,zck,zcl,zcm,zcn,zco,zcp,zcq,zcr,zcs,zct,zcu,zcv,zcw,zcx,zcy,zcz,zda,zdb,zdc,zdd,guardV,nth,zde,zdf,zdg,zdh,zdi,Nat.reduceEqDiff,reduceIte,zdj,zdk,zdl,resultsA,RetO,Nat.reduceLT,zdm,zdn,zdo,zdp,zdq,zdr,zds,zdt,zdu,zdv,zdw,zdx,zdy,zdz,zea,zeb,zec,zed,zee,zef,zeg,zeh,zei,zej,zek,zel,zem,zen,zeo, f3], by simp only [zaa,zab,zac,zad,zae,zaf,zag,zah,zai,zaj,zak,zal,zam,zan,zao,zap,zaq,zar,zas,zat,zau,zav,zaw,zax,zay,zaz,zba,zbb,zbc,zbd,zbe,zbf,zbg,zbh,zbi,zbj,zbk,zbl,zbm,zbn,zbo,zbp,zbq,zbr,zbs,zbt,zbu,zbv,zbw,zbx,zby,zbz,zca,zcb,zcc,zcd,zce,zcf,zcg,zch,zci,zcj,zck,zcl,zcm,zcn,zco,zcp,zcq,zcr,zcs,zct,zcu,zcv,zcw,zcx,zcy,zcz,zda,zdb,zdc,zdd,guardV,nth,zde,zdf,zdg,zdh,zdi,Nat.reduceEqDiff,reduceIte,zdj,zdk,zdl,resultsA,RetO,Nat.reduceLT,zdm,zdn,zdo,zdp,zdq,zdr,zds,zdt,zdu,zdv,zdw,zdx,zdy,zdz,zea,zeb,zec,zed,zee,zef,zeg,zeh,zei,zej,zek,zel,zem,zen,zeo, f17], by simp only [zaa,zab,zac,zad,zae,zaf,zag,zah,zai,zaj,zak,zal,zam,zan,zao,zap,zaq,zar,zas,zat,zau,zav,zaw,zax,zay,zaz,zba,zbb,zbc,zbd,zbe,zbf,zbg,zbh,zbi,zbj,zbk,zbl,zbm,zbn,zbo,zbp,zbq,zbr,zbs,zbt,zbu,zbv,zbw,zbx,zby,zbz,zca,zcb,zcc,zcd,zce,zcf,zcg,zch,zci,zcj,zck,zcl,zcm,zcn,zco,zcp,zcq,zcr,zcs,zct,zcu,zcv,zcw,zcx,zcy,zcz,zda,zdb,zdc,zdd,guardV,nth,zde,zdf,zdg,zdh,zdi,Nat.reduceEqDiff,reduceIte,zdj,zdk,zdl,resultsA,RetO,Nat.reduceLT,zdm,zdn,zdo,zdp,zdq,zdr,zds,zdt,zdu,zdv,zdw,zdx,zdy,zdz,zea,zeb,zec,zed,zee,zef,zeg,zeh,zei,zej,zek,zel,zem,zen,zeo, f18], by simp only [zaa,zab,zac,zad,zae,zaf,zag,zah,zai,zaj,zak,zal,zam,zan,zao,zap,zaq,zar,zas,zat,zau,zav,zaw,zax,zay,zaz,zba,zbb,zbc,zbd,zbe,zbf,zbg,zbh,zbi,zbj,zbk,zbl,zbm,zbn,zbo,zbp,zbq,zbr,zbs,zbt,zbu,zbv,zbw,zbx,zby,zbz,zca,zcb,zcc,zcd,zce,zcf,zcg,zch,zci,zcj,zck,zcl,zcm,zcn,zco,zcp,zcq,zcr,zcs,zct,zcu,zcv,zcw,zcx,zcy,zcz,zda,zdb,zdc,zdd,guardV,nth,zde,zdf,zdg,zdh,zdi,Nat.reduceEqDiff,reduceIte,zdj,zdk,zdl,resultsA,RetO,Nat.reduceLT,zdm,zdn,zdo,zdp,zdq,zdr,zds,zdt,zdu,zdv,zdw,zdx,zdy,zdz,zea,zeb,zec,zed,zee,zef,zeg,zeh,zei,zej,zek,zel,zem,zen,zeo]; rfl⟩
        · rcases hbv with ⟨rfl, rfl⟩ | ⟨rfl, rfl⟩
          · exact hC
          · exact hA (Nat.le_refl _)
        · rcases hbv with ⟨rfl, rfl⟩ | ⟨rfl, rfl⟩
          · omega
          · intro s hs
            rcases seamE_cases (k := k) (most := most) (s := s) with h5 | h5 | h5
            · exact h5
            · exact absurd h5 (hC s hs)
            · exact absurd h5 (hA (Nat.le_refl _) s hs)
    · have dlt : decide ((i : Int) < 2) = false := decide_eq_false (by omega)
      simp only [zaa,zab,zac,zad,zae,zaf,zag,zah,zai,zaj,zak,zal,zam,zan,zao,zap,zaq,zar,zas,zat,zau,zav,zaw,zax,zay,zaz,zba,zbb,zbc,zbd,zbe,zbf,zbg,zbh,zbi,zbj,zbk,zbl,zbm,zbn,zbo,zbp,zbq,zbr,zbs,zbt,zbu,zbv,zbw,zbx,zby,zbz,zca,zcb,zcc,zcd,zce,zcf,zcg,zch,zci,zcj,zck,zcl,zcm,zcn,zco,zcp,zcq,zcr,zcs,zct,zcu,zcv,zcw,zcx,zcy,zcz,zda,zdb,zdc,zdd,guardV,nth,zde,zdf,zdg,zdh,zdi,Nat.reduceEqDiff,reduceIte,zdj,zdk,zdl,resultsA,RetO,Nat.reduceLT,zdm,zdn,zdo,zdp,zdq,zdr,zds,zdt,zdu,zdv,zdw,zdx,zdy,zdz,zea,zeb,zec,zed,zee,zef,zeg,zeh,zei,zej,zek,zel,zem,zen,zeo, e18, e19, dlt]
      exact hQ' _ _ ⟨pr1, by rw [chk_0 ht (hB (by omega))]⟩

set_option maxHeartbeats 8000000 in
/-- two seams, equal or not -/
theorem equal_spec {G lo hi n c : Nat} {k : Int} {A : Option Addr} {ps : List (Int × Int)} {s t : List UInt8} {h : H} (hG : G ≤ h.next) (hv : SlV h.blks lo hi 2 n (prs ps) (.slice A n c)) (hhi : hi ≤ h.next) (hn : n < 1000000) (hs : s.length < 1000000) (ht : t.length < 1000000) :
    Spec Tryz.prog (En G) 30 [.int .i64 k, .slice A n c, strV s, strV t] h fun v _ => (chkE k ps 40 [s, t] ≠ 0 ∧ v = .tuple #[.bool false, .int .i64 (chkE k ps 40 [s, t])]) ∨
      (chkE k ps 40 [s, t] = 0 ∧ v = .tuple #[.bool (decide (lst (pc ps) k.toNat s = lst (pc ps) k.toNat t)), .int .i64 0]) := by
  refine CallsE_enter (En_known (by decide)) (En_f.trans Tryz.func30) rfl ⟨Nat.le_of_ble_eq_true rfl, by decide⟩ fun Q' hQ' => ?_
  simp only [Tryz.f30, zaa,zab,zac,zad,zae,zaf,zag,zah,zai,zaj,zak,zal,zam,zan,zao,zap,zaq,zar,zas,zat,zau,zav,zaw,zax,zay,zaz,zba,zbb,zbc,zbd,zbe,zbf,zbg,zbh,zbi,zbj,zbk,zbl,zbm,zbn,zbo,zbp,zbq,zbr,zbs,zbt,zbu,zbv,zbw,zbx,zby,zbz,zca,zcb,zcc,zcd,zce,zcf,zcg,zch,zci,zcj,zck,zcl,zcm,zcn,zco,zcp,zcq,zcr,zcs,zct,zcu,zcv,zcw,zcx,zcy,zcz,zda,zdb,zdc,zdd,guardV,nth,zde,zdf,zdg,zdh,zdi,Nat.reduceEqDiff,reduceIte,zdj,zdk,zdl,resultsA,RetO,Nat.reduceLT,zdm,zdn,zdo,zdp,zdq,zdr,zds,zdt,zdu,zdv,zdw,zdx,zdy,zdz,zea,zeb,zec,zed,zee,zef,zeg,zeh,zei,zej,zek,zel,zem,zen,zeo]
  refine At_lit (vs := [(0, strV s), (1, strV t)]) (cs := #[strV s, strV t]) u28 i9 zero9 (by rw [size9]; rfl) (by simp only [zaa,zab,zac,zad,zae,zaf,zag,zah,zai,zaj,zak,zal,zam,zan,zao,zap,zaq,zar,zas,zat,zau,zav,zaw,zax,zay,zaz,zba,zbb,zbc,zbd,zbe,zbf,zbg,zbh,zbi,zbj,zbk,zbl,zbm,zbn,zbo,zbp,zbq,zbr,zbs,zbt,zbu,zbv,zbw,zbx,zby,zbz,zca,zcb,zcc,zcd,zce,zcf,zcg,zch,zci,zcj,zck,zcl,zcm,zcn,zco,zcp,zcq,zcr,zcs,zct,zcu,zcv,zcw,zcx,zcy,zcz,zda,zdb,zdc,zdd,guardV,nth,zde,zdf,zdg,zdh,zdi,Nat.reduceEqDiff,reduceIte,zdj,zdk,zdl,resultsA,RetO,Nat.reduceLT,zdm,zdn,zdo,zdp,zdq,zdr,zds,zdt,zdu,zdv,zdw,zdx,zdy,zdz,zea,zeb,zec,zed,zee,zef,zeg,zeh,zei,zej,zek,zel,zem,zen,zeo]) (by rw [size9]; rfl) (by omega) fun h1 hn1 => ?_
  rw [size9] at hn1
  have n1 := hn1.next
  have hls := hn1.slv (n := 2) (c := 2) rfl
  have pr1 : Pres h.next h h1 := hn1.pres (Nat.le_refl _)
  simp only [zaa,zab,zac,zad,zae,zaf,zag,zah,zai,zaj,zak,zal,zam,zan,zao,zap,zaq,zar,zas,zat,zau,zav,zaw,zax,zay,zaz,zba,zbb,zbc,zbd,zbe,zbf,zbg,zbh,zbi,zbj,zbk,zbl,zbm,zbn,zbo,zbp,zbq,zbr,zbs,zbt,zbu,zbv,zbw,zbx,zby,zbz,zca,zcb,zcc,zcd,zce,zcf,zcg,zch,zci,zcj,zck,zcl,zcm,zcn,zco,zcp,zcq,zcr,zcs,zct,zcu,zcv,zcw,zcx,zcy,zcz,zda,zdb,zdc,zdd,guardV,nth,zde,zdf,zdg,zdh,zdi,Nat.reduceEqDiff,reduceIte,zdj,zdk,zdl,resultsA,RetO,Nat.reduceLT,zdm,zdn,zdo,zdp,zdq,zdr,zds,zdt,zdu,zdv,zdw,zdx,zdy,zdz,zea,zeb,zec,zed,zee,zef,zeg,zeh,zei,zej,zek,zel,zem,zen,zeo]
  refine CallO_f (checked_spec (k := k) (most := 40) (ls := [s, t]) (by omega) (hv.mono fun b _ hb => pr1.get b (by omega)) (by omega) hn hls (Nat.le_refl _) (by omega) (fun x hx => by
    rcases List.mem_cons.1 hx with rfl | hx
    · exact hs
    · rw [List.mem_singleton.1 hx]; exact ht)) (by omega) fun u h2 hp2 hu => ?_
  have n2 := hp2.next
  have pr2 : Pres h.next h h2 := pr1.trans (hp2.le (by omega))
  rcases hu with ⟨hE, rfl⟩ | ⟨hE, m, hm, hmc, rfl⟩
  · have d : decide (chkE k ps 40 [s, t] ≠ 0) = true := decide_eq_true hE
    try simp only [zaa,zab,zac,zad,zae,zaf,zag,zah,zai,zaj,zak,zal,zam,zan,zao,zap,zaq,zar,zas,zat,zau,zav,zaw,zax,zay,zaz,zba,zbb,zbc,zbd,zbe,zbf,zbg,zbh,zbi,zbj,zbk,zbl,zbm,zbn,zbo,zbp,zbq,zbr,zbs,zbt,zbu,zbv,zbw,zbx,zby,zbz,zca,zcb,zcc,zcd,zce,zcf,zcg,zch,zci,zcj,zck,zcl,zcm,zcn,zco,zcp,zcq,zcr,zcs,zct,zcu,zcv,zcw,zcx,zcy,zcz,zda,zdb,zdc,zdd,guardV,nth,zde,zdf,zdg,zdh,zdi,Nat.reduceEqDiff,reduceIte,zdj,zdk,zdl,resultsA,RetO,Nat.reduceLT,zdm,zdn,zdo,zdp,zdq,zdr,zds,zdt,zdu,zdv,zdw,zdx,zdy,zdz,zea,zeb,zec,zed,zee,zef,zeg,zeh,zei,zej,zek,zel,zem,zen,zeo]
    refine At_alloc i95 zero74 rfl (by omega) fun h3 hn3 => ?_
    have n3 := hn3.next
    try simp only [zaa,zab,zac,zad,zae,zaf,zag,zah,zai,zaj,zak,zal,zam,zan,zao,zap,zaq,zar,zas,zat,zau,zav,zaw,zax,zay,zaz,zba,zbb,zbc,zbd,zbe,zbf,zbg,zbh,zbi,zbj,zbk,zbl,zbm,zbn,zbo,zbp,zbq,zbr,zbs,zbt,zbu,zbv,zbw,zbx,zby,zbz,zca,zcb,zcc,zcd,zce,zcf,zcg,zch,zci,zcj,zck,zcl,zcm,zcn,zco,zcp,zcq,zcr,zcs,zct,zcu,zcv,zcw,zcx,zcy,zcz,zda,zdb,zdc,zdd,guardV,nth,zde,zdf,zdg,zdh,zdi,Nat.reduceEqDiff,reduceIte,zdj,zdk,zdl,resultsA,RetO,Nat.reduceLT,zdm,zdn,zdo,zdp,zdq,zdr,zds,zdt,zdu,zdv,zdw,zdx,zdy,zdz,zea,zeb,zec,zed,zee,zef,zeg,zeh,zei,zej,zek,zel,zem,zen,zeo]
    refine At_storeV (inf := inf95) (v := thrV 0 nilM) i95 (by simp only [zaa,zab,zac,zad,zae,zaf,zag,zah,zai,zaj,zak,zal,zam,zan,zao,zap,zaq,zar,zas,zat,zau,zav,zaw,zax,zay,zaz,zba,zbb,zbc,zbd,zbe,zbf,zbg,zbh,zbi,zbj,zbk,zbl,zbm,zbn,zbo,zbp,zbq,zbr,zbs,zbt,zbu,zbv,zbw,zbx,zby,zbz,zca,zcb,zcc,zcd,zce,zcf,zcg,zch,zci,zcj,zck,zcl,zcm,zcn,zco,zcp,zcq,zcr,zcs,zct,zcu,zcv,zcw,zcx,zcy,zcz,zda,zdb,zdc,zdd,guardV,nth,zde,zdf,zdg,zdh,zdi,Nat.reduceEqDiff,reduceIte,zdj,zdk,zdl,resultsA,RetO,Nat.reduceLT,zdm,zdn,zdo,zdp,zdq,zdr,zds,zdt,zdu,zdv,zdw,zdx,zdy,zdz,zea,zeb,zec,zed,zee,zef,zeg,zeh,zei,zej,zek,zel,zem,zen,zeo]) (by simp only [zaa,zab,zac,zad,zae,zaf,zag,zah,zai,zaj,zak,zal,zam,zan,zao,zap,zaq,zar,zas,zat,zau,zav,zaw,zax,zay,zaz,zba,zbb,zbc,zbd,zbe,zbf,zbg,zbh,zbi,zbj,zbk,zbl,zbm,zbn,zbo,zbp,zbq,zbr,zbs,zbt,zbu,zbv,zbw,zbx,zby,zbz,zca,zcb,zcc,zcd,zce,zcf,zcg,zch,zci,zcj,zck,zcl,zcm,zcn,zco,zcp,zcq,zcr,zcs,zct,zcu,zcv,zcw,zcx,zcy,zcz,zda,zdb,zdc,zdd,guardV,nth,zde,zdf,zdg,zdh,zdi,Nat.reduceEqDiff,reduceIte,zdj,zdk,zdl,resultsA,RetO,Nat.reduceLT,zdm,zdn,zdo,zdp,zdq,zdr,zds,zdt,zdu,zdv,zdw,zdx,zdy,zdz,zea,zeb,zec,zed,zee,zef,zeg,zeh,zei,zej,zek,zel,zem,zen,zeo]) hn3.var (by rw [size95]; rfl) (by rw [size95]; rfl) rfl (by show G ≤ h2.next; omega) fun h4 hs4 _ => ?_
    simp only [zaa,zab,zac,zad,zae,zaf,zag,zah,zai,zaj,zak,zal,zam,zan,zao,zap,zaq,zar,zas,zat,zau,zav,zaw,zax,zay,zaz,zba,zbb,zbc,zbd,zbe,zbf,zbg,zbh,zbi,zbj,zbk,zbl,zbm,zbn,zbo,zbp,zbq,zbr,zbs,zbt,zbu,zbv,zbw,zbx,zby,zbz,zca,zcb,zcc,zcd,zce,zcf,zcg,zch,zci,zcj,zck,zcl,zcm,zcn,zco,zcp,zcq,zcr,zcs,zct,zcu,zcv,zcw,zcx,zcy,zcz,zda,zdb,zdc,zdd,guardV,nth,zde,zdf,zdg,zdh,zdi,Nat.reduceEqDiff,reduceIte,zdj,zdk,zdl,resultsA,RetO,Nat.reduceLT,zdm,zdn,zdo,zdp,zdq,zdr,zds,zdt,zdu,zdv,zdw,zdx,zdy,zdz,zea,zeb,zec,zed,zee,zef,zeg,zeh,zei,zej,zek,zel,zem,zen,zeo, d]
    exact hQ' _ _ ⟨pr2.trans ((hn3.pres (by omega)).trans (hs4.pres (by omega))), .inl ⟨hE, rfl⟩⟩
  · obtain ⟨hT, hall⟩ := chk_ok hE
    obtain ⟨k1, k6, _, hps⟩ := okT_okP hT
    have os := okc_okL (by omega) (hall s (by simp)).2
    have ot := okc_okL (by omega) (hall t (by simp)).2
    obtain ⟨k', rfl⟩ := Int.eq_ofNat_of_zero_le (a := k) (by omega)
    rw [Int.toNat_natCast] at os ot
    have d : decide ((0 : Int) ≠ 0) = false := rfl
    try simp only [zaa,zab,zac,zad,zae,zaf,zag,zah,zai,zaj,zak,zal,zam,zan,zao,zap,zaq,zar,zas,zat,zau,zav,zaw,zax,zay,zaz,zba,zbb,zbc,zbd,zbe,zbf,zbg,zbh,zbi,zbj,zbk,zbl,zbm,zbn,zbo,zbp,zbq,zbr,zbs,zbt,zbu,zbv,zbw,zbx,zby,zbz,zca,zcb,zcc,zcd,zce,zcf,zcg,zch,zci,zcj,zck,zcl,zcm,zcn,zco,zcp,zcq,zcr,zcs,zct,zcu,zcv,zcw,zcx,zcy,zcz,zda,zdb,zdc,zdd,guardV,nth,zde,zdf,zdg,zdh,zdi,Nat.reduceEqDiff,reduceIte,zdj,zdk,zdl,resultsA,RetO,Nat.reduceLT,zdm,zdn,zdo,zdp,zdq,zdr,zds,zdt,zdu,zdv,zdw,zdx,zdy,zdz,zea,zeb,zec,zed,zee,zef,zeg,zeh,zei,zej,zek,zel,zem,zen,zeo]
    refine At_alloc i95 zero74 rfl (by omega) fun h3 hn3 => ?_
    have n3 := hn3.next
    try simp only [zaa,zab,zac,zad,zae,zaf,zag,zah,zai,zaj,zak,zal,zam,zan,zao,zap,zaq,zar,zas,zat,zau,zav,zaw,zax,zay,zaz,zba,zbb,zbc,zbd,zbe,zbf,zbg,zbh,zbi,zbj,zbk,zbl,zbm,zbn,zbo,zbp,zbq,zbr,zbs,zbt,zbu,zbv,zbw,zbx,zby,zbz,zca,zcb,zcc,zcd,zce,zcf,zcg,zch,zci,zcj,zck,zcl,zcm,zcn,zco,zcp,zcq,zcr,zcs,zct,zcu,zcv,zcw,zcx,zcy,zcz,zda,zdb,zdc,zdd,guardV,nth,zde,zdf,zdg,zdh,zdi,Nat.reduceEqDiff,reduceIte,zdj,zdk,zdl,resultsA,RetO,Nat.reduceLT,zdm,zdn,zdo,zdp,zdq,zdr,zds,zdt,zdu,zdv,zdw,zdx,zdy,zdz,zea,zeb,zec,zed,zee,zef,zeg,zeh,zei,zej,zek,zel,zem,zen,zeo]
    refine At_storeV (inf := inf95) (v := thrV k' m) i95 (by simp only [zaa,zab,zac,zad,zae,zaf,zag,zah,zai,zaj,zak,zal,zam,zan,zao,zap,zaq,zar,zas,zat,zau,zav,zaw,zax,zay,zaz,zba,zbb,zbc,zbd,zbe,zbf,zbg,zbh,zbi,zbj,zbk,zbl,zbm,zbn,zbo,zbp,zbq,zbr,zbs,zbt,zbu,zbv,zbw,zbx,zby,zbz,zca,zcb,zcc,zcd,zce,zcf,zcg,zch,zci,zcj,zck,zcl,zcm,zcn,zco,zcp,zcq,zcr,zcs,zct,zcu,zcv,zcw,zcx,zcy,zcz,zda,zdb,zdc,zdd,guardV,nth,zde,zdf,zdg,zdh,zdi,Nat.reduceEqDiff,reduceIte,zdj,zdk,zdl,resultsA,RetO,Nat.reduceLT,zdm,zdn,zdo,zdp,zdq,zdr,zds,zdt,zdu,zdv,zdw,zdx,zdy,zdz,zea,zeb,zec,zed,zee,zef,zeg,zeh,zei,zej,zek,zel,zem,zen,zeo]) (by simp only [zaa,zab,zac,zad,zae,zaf,zag,zah,zai,zaj,zak,zal,zam,zan,zao,zap,zaq,zar,zas,zat,zau,zav,zaw,zax,zay,zaz,zba,zbb,zbc,zbd,zbe,zbf,zbg,zbh,zbi,zbj,zbk,zbl,zbm,zbn,zbo,zbp,zbq,zbr,zbs,zbt,zbu,zbv,zbw,zbx,zby,zbz,zca,zcb,zcc,zcd,zce,zcf,zcg,zch,zci,zcj,zck,zcl,zcm,zcn,zco,zcp,zcq,zcr,zcs,zct,zcu,zcv,zcw,zcx,zcy,zcz,zda,zdb,zdc,zdd,guardV,nth,zde,zdf,zdg,zdh,zdi,Nat.reduceEqDiff,reduceIte,zdj,zdk,zdl,resultsA,RetO,Nat.reduceLT,zdm,zdn,zdo,zdp,zdq,zdr,zds,zdt,zdu,zdv,zdw,zdx,zdy,zdz,zea,zeb,zec,zed,zee,zef,zeg,zeh,zei,zej,zek,zel,zem,zen,zeo]) hn3.var (by rw [size95, ← Array.length_toList, thrV_cells, thrL_len, hm]) (by rw [size95]; rfl) (by rw [thrV_cells]; simp [thrL, oneB]) (by show G ≤ h2.next; omega) fun h4 hs4 v10 => ?_
    rw [thrV_cells] at v10
    have n4 := hs4.next
    have la := thr_loadA (G := G) v10 hm
    simp only [zaa,zab,zac,zad,zae,zaf,zag,zah,zai,zaj,zak,zal,zam,zan,zao,zap,zaq,zar,zas,zat,zau,zav,zaw,zax,zay,zaz,zba,zbb,zbc,zbd,zbe,zbf,zbg,zbh,zbi,zbj,zbk,zbl,zbm,zbn,zbo,zbp,zbq,zbr,zbs,zbt,zbu,zbv,zbw,zbx,zby,zbz,zca,zcb,zcc,zcd,zce,zcf,zcg,zch,zci,zcj,zck,zcl,zcm,zcn,zco,zcp,zcq,zcr,zcs,zct,zcu,zcv,zcw,zcx,zcy,zcz,zda,zdb,zdc,zdd,guardV,nth,zde,zdf,zdg,zdh,zdi,Nat.reduceEqDiff,reduceIte,zdj,zdk,zdl,resultsA,RetO,Nat.reduceLT,zdm,zdn,zdo,zdp,zdq,zdr,zds,zdt,zdu,zdv,zdw,zdx,zdy,zdz,zea,zeb,zec,zed,zee,zef,zeg,zeh,zei,zej,zek,zel,zem,zen,zeo, d]
    refine WK_regionT 5 ⟨by kernel_rfl, by kernel_rfl, by kernel_rfl⟩ ?_
    simp only [zaa,zab,zac,zad,zae,zaf,zag,zah,zai,zaj,zak,zal,zam,zan,zao,zap,zaq,zar,zas,zat,zau,zav,zaw,zax,zay,zaz,zba,zbb,zbc,zbd,zbe,zbf,zbg,zbh,zbi,zbj,zbk,zbl,zbm,zbn,zbo,zbp,zbq,zbr,zbs,zbt,zbu,zbv,zbw,zbx,zby,zbz,zca,zcb,zcc,zcd,zce,zcf,zcg,zch,zci,zcj,zck,zcl,zcm,zcn,zco,zcp,zcq,zcr,zcs,zct,zcu,zcv,zcw,zcx,zcy,zcz,zda,zdb,zdc,zdd,guardV,nth,zde,zdf,zdg,zdh,zdi,Nat.reduceEqDiff,reduceIte,zdj,zdk,zdl,resultsA,RetO,Nat.reduceLT,zdm,zdn,zdo,zdp,zdq,zdr,zds,zdt,zdu,zdv,zdw,zdx,zdy,zdz,zea,zeb,zec,zed,zee,zef,zeg,zeh,zei,zej,zek,zel,zem,zen,zeo, la]
    refine CallO_spec (Q := fun v _ => v = strV (lst (mcomm m) k' s)) (least_spec (k := k') (by have : (st true h4).next = h4.next := rfl; omega) hm (by omega) (os.mono (by omega)) hs) (by omega) (fun v h' wm hq => hq) fun u h5 hp5 hu => ?_
    subst hu
    have n5 := hp5.next
    have la5 := thr_loadA (G := G) (v10.mono (B' := h5.blks) (hp5.get _ (by omega))) hm
    simp only [zaa,zab,zac,zad,zae,zaf,zag,zah,zai,zaj,zak,zal,zam,zan,zao,zap,zaq,zar,zas,zat,zau,zav,zaw,zax,zay,zaz,zba,zbb,zbc,zbd,zbe,zbf,zbg,zbh,zbi,zbj,zbk,zbl,zbm,zbn,zbo,zbp,zbq,zbr,zbs,zbt,zbu,zbv,zbw,zbx,zby,zbz,zca,zcb,zcc,zcd,zce,zcf,zcg,zch,zci,zcj,zck,zcl,zcm,zcn,zco,zcp,zcq,zcr,zcs,zct,zcu,zcv,zcw,zcx,zcy,zcz,zda,zdb,zdc,zdd,guardV,nth,zde,zdf,zdg,zdh,zdi,Nat.reduceEqDiff,reduceIte,zdj,zdk,zdl,resultsA,RetO,Nat.reduceLT,zdm,zdn,zdo,zdp,zdq,zdr,zds,zdt,zdu,zdv,zdw,zdx,zdy,zdz,zea,zeb,zec,zed,zee,zef,zeg,zeh,zei,zej,zek,zel,zem,zen,zeo, la5]
    refine CallO_f (least_spec (k := k') (by omega) hm (by omega) (ot.mono (by omega)) ht) (by omega) fun u h6 hp6 hu => ?_
    subst hu
    simp only [zaa,zab,zac,zad,zae,zaf,zag,zah,zai,zaj,zak,zal,zam,zan,zao,zap,zaq,zar,zas,zat,zau,zav,zaw,zax,zay,zaz,zba,zbb,zbc,zbd,zbe,zbf,zbg,zbh,zbi,zbj,zbk,zbl,zbm,zbn,zbo,zbp,zbq,zbr,zbs,zbt,zbu,zbv,zbw,zbx,zby,zbz,zca,zcb,zcc,zcd,zce,zcf,zcg,zch,zci,zcj,zck,zcl,zcm,zcn,zco,zcp,zcq,zcr,zcs,zct,zcu,zcv,zcw,zcx,zcy,zcz,zda,zdb,zdc,zdd,guardV,nth,zde,zdf,zdg,zdh,zdi,Nat.reduceEqDiff,reduceIte,zdj,zdk,zdl,resultsA,RetO,Nat.reduceLT,zdm,zdn,zdo,zdp,zdq,zdr,zds,zdt,zdu,zdv,zdw,zdx,zdy,zdz,zea,zeb,zec,zed,zee,zef,zeg,zeh,zei,zej,zek,zel,zem,zen,zeo]
    refine hQ' _ _ ⟨pr2.trans ((hn3.pres (by omega)).trans ((hs4.pres (by omega)).trans ((hp5.le (by omega)).trans (hp6.le (by omega))))), .inr ⟨hE, ?_⟩⟩
    rw [Int.toNat_natCast, lst_congr (cm' := pc ps) (K := 6) hmc (by omega) (os.mono (by omega)), lst_congr (cm' := pc ps) (K := 6) hmc (by omega) (ot.mono (by omega))]
end
end Go.Proofs.YtdfkblagcfgncaaGreatDoor.Ev


