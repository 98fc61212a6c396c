/- Clone, with, cost. -/
import Derived.Test.YthiodndhokooiaaGreatDoorPmmA4
import Derived.Test.YthiodndhokooiaaGreatDoorPmDr
set_option linter.unusedSimpArgs false
namespace Go.Proofs.YthiodndhokooiaaGreatDoor.Ev
open Go Go.Proofs
noncomputable section

section
variable {P : Program} {E : Env} {n : Nat} {ops : List Oper} {q : Bool} {r tl : List Oper} {k : List Frm} {α : Tr Value} {h : H} {R : Rt} {ty : TypeId} {pos : String} {af : Array Edge}
/-- append to an empty literal: a new slice, and a full one -/
theorem At_appendF [NoFz E] {x y : Operand} {ts tx elem elem' : TypeId} {inf : TypeInfo} {z : Value} {lo2 hi2 m d : Nat} {M : List Value} {v : Value} (hu : E.u ts = some (.slice elem)) (hux : E.u tx = some (.slice elem')) (hi' : E.i elem = some inf) (hz : inf.zero = some z)
    (hc : (okConst z && decide (z.cells.size = inf.size) && decide (0 < inf.size) && decide (inf.bytes < 65536)) = true) (hx : ev E h α x = some empV) (hy : ev E h α y = some v) (hv : SlV h.blks lo2 hi2 inf.size m M v)
    (hsm : m < 2147483648) (hone : M.all oneB = true) (hd : d < n)
    (hk : ∀ A' h', Pres h.next h h' → SlV h'.blks h.next h'.next inf.size m M (.slice A' m m) → At P E n ops q r tl k (Tr.put α d (.slice A' m m)) h' R) :
    At P E n ops q (⟨some d, .call ⟨.builtin .append, #[x, y], #[ts, tx]⟩, ty, pos, af, none⟩ :: r) tl k α h R := by
  by_cases hm : m = 0
  · subst hm
    have hM : M = [] := List.length_eq_zero_iff.1 (by rw [hv.len]; simp)
    subst hM
    have hs : srcLen v = some 0 := by cases hv <;> first | (rename_i hn hL; rfl) | rfl
    exact At_append0 hu hux hi' hx hy hs hd (hk _ h (Pres.refl _ _) (.emp rfl rfl))
  · rw [At_heap rfl rfl]
    have hst : (st q h).blks = h.blks := by cases q <;> rfl
    have hv' : SlV (st q h).blks lo2 hi2 inf.size m M v := by rw [hst]; exact hv
    obtain ⟨e1, e2⟩ := srcCells_of hv' (by omega)
    simp only [Bool.and_eq_true, decide_eq_true_eq] at hc
    obtain ⟨⟨⟨c1, c2⟩, c3⟩, c4⟩ := hc
    have hcond : (okConst z && decide (z.cells.size = inf.size) && decide (0 < inf.size) && decide (inf.bytes < 65536) && decide (0 + m < 2147483648) && M.all oneB && decide (M.length = m * inf.size)) = true := by
      simp only [Bool.and_eq_true, decide_eq_true_eq]
      exact ⟨⟨⟨⟨⟨⟨c1, c2⟩, c3⟩, c4⟩, by omega⟩, hone⟩, hv.len⟩
    refine HeapO_new (cells := M) (es := inf.size) (fun b => .slice (some ⟨b, 0, none⟩) m m) hd ?_ fun h' hn => hk (some ⟨h.next, 0, none⟩) h' (hn.pres (Nat.le_refl _)) (hn.slv hv.len)
    rw [evOp_eq]
    have hx1 := (ev_blks hst x).trans hx
    have hy1 := (ev_blks hst y).trans hy
    simp only [evOpS, evs, hx1, hy1]
    show evAppend E (st q h) ts tx empV v = _
    simp only [evAppend, empV, hu, hux, e1, notInt_slice, hi', hm, hz, e2]
    rw [if_pos hcond]
    cases aNew (st q h) M inf.size with
    | none => rfl
    | some x => simp [forceN_eq]
end


theorem eqlNil {P : Program} {G n c : Nat} {A : Option Addr} : binO P (En G) .eql 26 (some (.slice A n c)) (some (.slice none 0 0)) = some (.bool A.isNone) := by
  have h : evNil (En G) 26 (.slice A n c) (.slice none 0 0) = some A.isNone := by
    simp only [evNil, u26]
    cases A <;> rfl
  have hp : (plainA (.slice A n c) && plainA (.slice none 0 0)) = false := rfl
  simp only [binO, hp, h]
  rfl

theorem ints_one {l : List Int} : (ints l).all oneB = true := by
  rw [List.all_eq_true]
  intro x hx
  obtain ⟨z, _, rfl⟩ := List.mem_map.1 hx
  rfl
theorem SlV.spot {B : Tr Blk} {lo hi sz n n' c : Nat} {L : List Value} {v : Value} {a : Addr} (s : SlV B lo hi sz n L v) (hv : v = .slice (some a) n' c) (hA : some a ≠ some ⟨0, 0, some 0⟩) : ∃ b off, a = ⟨b, off, none⟩ := by
  cases s with
  | nil _ _ => injection hv with h; cases h
  | emp _ _ => injection hv with h _ _; exact absurd h.symm hA
  | mk _ _ _ _ _ _ => injection hv with h _ _; injection h with h; exact ⟨_, _, h.symm⟩
theorem SlV.none_len {B : Tr Blk} {lo hi sz n n' c : Nat} {L : List Value} {v : Value} (s : SlV B lo hi sz n L v) (hv : v = .slice none n' c) : n' = 0 := by
  cases s with
  | nil _ _ => injection hv with _ h _; exact h.symm
  | emp _ _ => injection hv with h; cases h
  | mk _ _ _ _ _ _ => injection hv with h; cases h
set_option maxHeartbeats 1000000 in
theorem clone_spec {G lo hi n c : Nat} {A : Option Addr} {l : List Int} {h : H} (hn : n = l.length) (hn2 : n < 1000000) (hs : SlV h.blks lo hi 1 n (ints l) (.slice A n c)) :
    Spec Tryz.prog (En G) 56 [.slice A n c] h fun v h' => ∃ A', v = .slice A' n n ∧ SlV h'.blks h.next h'.next 1 n (ints l) (.slice A' n n) := by
  subst hn
  refine CallsE_enter (En_known (by decide)) (En_f.trans Tryz.func56) rfl ⟨Nat.le_of_ble_eq_true rfl, by decide⟩ fun Q' hQ' => ?_
  simp only [Tryz.f56, zaa,zab,zac,zad,zae,zaf,zag,zah,zai,zaj,zak,zal,zam,zan,zao,zap,zaq,zar,zas,zat,zau,zav,zaw,zax,zay,zaz,zba,zbb,zbc,zbd,zbe,zbf,zbg,zbh,zbi,zbj,zbk,zbl,zbm,zbn,zbo,zbp,zbq,zbr,zbs,zbt,zbu,zbv,zbw,zbx,zby,zbz,zca,zcb,zcc,zcd,zce,zcf,zcg,zch,zci,zcj,zck,zcl,zcm,zcn,zco,zcp,zcq,zcr,zcs,zct,zcu,zcv,zcw,zcx,zcy,zcz,zda,zdb,zdc,zdd,guardV,nth,zde,zdf,zdg,zdh,zdi,Nat.reduceEqDiff,reduceIte,zdj,zdk,zdl,resultsA,RetO,Nat.reduceLT,zdm,zdn,zdo,zdp,zdq,zdr,zds,zdt,zdu,zdv,zdw,zdx,zdy,zdz,zea,zeb,zec,zed,zee,zef,zeg,zeh,zei,zej,zek,zel,zem,zen,zeo,zep,zeq, eqlNil]
  cases A with
  | none =>
    simp only [zaa,zab,zac,zad,zae,zaf,zag,zah,zai,zaj,zak,zal,zam,zan,zao,zap,zaq,zar,zas,zat,zau,zav,zaw,zax,zay,zaz,zba,zbb,zbc,zbd,zbe,zbf,zbg,zbh,zbi,zbj,zbk,zbl,zbm,zbn,zbo,zbp,zbq,zbr,zbs,zbt,zbu,zbv,zbw,zbx,zby,zbz,zca,zcb,zcc,zcd,zce,zcf,zcg,zch,zci,zcj,zck,zcl,zcm,zcn,zco,zcp,zcq,zcr,zcs,zct,zcu,zcv,zcw,zcx,zcy,zcz,zda,zdb,zdc,zdd,guardV,nth,zde,zdf,zdg,zdh,zdi,Nat.reduceEqDiff,reduceIte,zdj,zdk,zdl,resultsA,RetO,Nat.reduceLT,zdm,zdn,zdo,zdp,zdq,zdr,zds,zdt,zdu,zdv,zdw,zdx,zdy,zdz,zea,zeb,zec,zed,zee,zef,zeg,zeh,zei,zej,zek,zel,zem,zen,zeo,zep,zeq, Option.isNone_none]
    have hl : l.length = 0 := hs.none_len rfl
    have hl2 : l = [] := List.length_eq_zero_iff.1 hl
    subst hl2
    exact hQ' _ _ ⟨Pres.refl _ _, none, rfl, .nil rfl rfl⟩
  | some a =>
    simp only [zaa,zab,zac,zad,zae,zaf,zag,zah,zai,zaj,zak,zal,zam,zan,zao,zap,zaq,zar,zas,zat,zau,zav,zaw,zax,zay,zaz,zba,zbb,zbc,zbd,zbe,zbf,zbg,zbh,zbi,zbj,zbk,zbl,zbm,zbn,zbo,zbp,zbq,zbr,zbs,zbt,zbu,zbv,zbw,zbx,zby,zbz,zca,zcb,zcc,zcd,zce,zcf,zcg,zch,zci,zcj,zck,zcl,zcm,zcn,zco,zcp,zcq,zcr,zcs,zct,zcu,zcv,zcw,zcx,zcy,zcz,zda,zdb,zdc,zdd,guardV,nth,zde,zdf,zdg,zdh,zdi,Nat.reduceEqDiff,reduceIte,zdj,zdk,zdl,resultsA,RetO,Nat.reduceLT,zdm,zdn,zdo,zdp,zdq,zdr,zds,zdt,zdu,zdv,zdw,zdx,zdy,zdz,zea,zeb,zec,zed,zee,zef,zeg,zeh,zei,zej,zek,zel,zem,zen,zeo,zep,zeq, Option.isNone_some]
    refine At_lit0 u26 i3 zero3 (by rw [size3]; rfl) (by omega) ?_
    simp only [zaa,zab,zac,zad,zae,zaf,zag,zah,zai,zaj,zak,zal,zam,zan,zao,zap,zaq,zar,zas,zat,zau,zav,zaw,zax,zay,zaz,zba,zbb,zbc,zbd,zbe,zbf,zbg,zbh,zbi,zbj,zbk,zbl,zbm,zbn,zbo,zbp,zbq,zbr,zbs,zbt,zbu,zbv,zbw,zbx,zby,zbz,zca,zcb,zcc,zcd,zce,zcf,zcg,zch,zci,zcj,zck,zcl,zcm,zcn,zco,zcp,zcq,zcr,zcs,zct,zcu,zcv,zcw,zcx,zcy,zcz,zda,zdb,zdc,zdd,guardV,nth,zde,zdf,zdg,zdh,zdi,Nat.reduceEqDiff,reduceIte,zdj,zdk,zdl,resultsA,RetO,Nat.reduceLT,zdm,zdn,zdo,zdp,zdq,zdr,zds,zdt,zdu,zdv,zdw,zdx,zdy,zdz,zea,zeb,zec,zed,zee,zef,zeg,zeh,zei,zej,zek,zel,zem,zen,zeo,zep,zeq]
    refine At_appendF (M := ints l) (m := l.length) (v := .slice (some a) l.length c) u26 u26 i3 zero3 (by rw [size3, bytes3]; rfl) (by simp only [zaa,zab,zac,zad,zae,zaf,zag,zah,zai,zaj,zak,zal,zam,zan,zao,zap,zaq,zar,zas,zat,zau,zav,zaw,zax,zay,zaz,zba,zbb,zbc,zbd,zbe,zbf,zbg,zbh,zbi,zbj,zbk,zbl,zbm,zbn,zbo,zbp,zbq,zbr,zbs,zbt,zbu,zbv,zbw,zbx,zby,zbz,zca,zcb,zcc,zcd,zce,zcf,zcg,zch,zci,zcj,zck,zcl,zcm,zcn,zco,zcp,zcq,zcr,zcs,zct,zcu,zcv,zcw,zcx,zcy,zcz,zda,zdb,zdc,zdd,guardV,nth,zde,zdf,zdg,zdh,zdi,Nat.reduceEqDiff,reduceIte,zdj,zdk,zdl,resultsA,RetO,Nat.reduceLT,zdm,zdn,zdo,zdp,zdq,zdr,zds,zdt,zdu,zdv,zdw,zdx,zdy,zdz,zea,zeb,zec,zed,zee,zef,zeg,zeh,zei,zej,zek,zel,zem,zen,zeo,zep,zeq]) (by simp only [zaa,zab,zac,zad,zae,zaf,zag,zah,zai,zaj,zak,zal,zam,zan,zao,zap,zaq,zar,zas,zat,zau,zav,zaw,zax,zay,zaz,zba,zbb,zbc,zbd,zbe,zbf,zbg,zbh,zbi,zbj,zbk,zbl,zbm,zbn,zbo,zbp,zbq,zbr,zbs,zbt,zbu,zbv,zbw,zbx,zby,zbz,zca,zcb,zcc,zcd,zce,zcf,zcg,zch,zci,zcj,zck,zcl,zcm,zcn,zco,zcp,zcq,zcr,zcs,zct,zcu,zcv,zcw,zcx,zcy,zcz,zda,zdb,zdc,zdd,guardV,nth,zde,zdf,zdg,zdh,zdi,Nat.reduceEqDiff,reduceIte,zdj,zdk,zdl,resultsA,RetO,Nat.reduceLT,zdm,zdn,zdo,zdp,zdq,zdr,zds,zdt,zdu,zdv,zdw,zdx,zdy,zdz,zea,zeb,zec,zed,zee,zef,zeg,zeh,zei,zej,zek,zel,zem,zen,zeo,zep,zeq]) (by rw [size3]; exact hs) (by omega) ints_one (by omega) fun A' h' hp hs' => ?_
    rw [size3] at hs'
    simp only [zaa,zab,zac,zad,zae,zaf,zag,zah,zai,zaj,zak,zal,zam,zan,zao,zap,zaq,zar,zas,zat,zau,zav,zaw,zax,zay,zaz,zba,zbb,zbc,zbd,zbe,zbf,zbg,zbh,zbi,zbj,zbk,zbl,zbm,zbn,zbo,zbp,zbq,zbr,zbs,zbt,zbu,zbv,zbw,zbx,zby,zbz,zca,zcb,zcc,zcd,zce,zcf,zcg,zch,zci,zcj,zck,zcl,zcm,zcn,zco,zcp,zcq,zcr,zcs,zct,zcu,zcv,zcw,zcx,zcy,zcz,zda,zdb,zdc,zdd,guardV,nth,zde,zdf,zdg,zdh,zdi,Nat.reduceEqDiff,reduceIte,zdj,zdk,zdl,resultsA,RetO,Nat.reduceLT,zdm,zdn,zdo,zdp,zdq,zdr,zds,zdt,zdu,zdv,zdw,zdx,zdy,zdz,zea,zeb,zec,zed,zee,zef,zeg,zeh,zei,zej,zek,zel,zem,zen,zeo,zep,zeq]
    exact hQ' _ _ ⟨hp, A', rfl, hs'⟩

theorem SlV.same {B : Tr Blk} {lo hi sz n c : Nat} {L : List Value} {A : Option Addr} (s : SlV B lo hi sz n L (.slice A n c)) (hA : A ≠ some ⟨0, 0, some 0⟩) : sameO (some (.slice A n c)) (some (.slice A n c)) = true := by
  cases A with
  | none => simp [sameO, sameA]
  | some a =>
    have : ∃ b off, a = ⟨b, off, none⟩ := s.spot rfl hA
    obtain ⟨b, off, rfl⟩ := this
    simp [sameO, sameA]
theorem build80 {G : Nat} {a : Option Addr} {n c : Nat} {e k : Int} : buildO (En G) 80 (some [(0, .slice a n c), (1, .int .i64 e), (2, .int .i64 k)]) = some (.agg #[.slice a n c, .int .i64 e, .int .i64 k]) := by
  have hu : (En G).u 80 = some (.struct #[_, _, _]) := us80.trans Tryz.underlying80
  have hz : okConst (.agg #[.slice none 0 0, .int .i64 0, .int .i64 0]) = true := rfl
  simp only [buildO, evBuild, i80, hu, zero80, places, i26, size26, i3, size3, hz, if_true]
  rfl

set_option maxHeartbeats 4000000 in
set_option maxRecDepth 100000 in
theorem with_spec {G N N2 n c m k x e t q : Nat} {A A2 : Option Addr} {bv : Value} {js : List (Int × Int)} {l : List Int} {p : Int × Int} {h : H} (hG : G ≤ h.next) (hn : n = js.length) (hm : m = l.length) (hm2 : m < 1000000) (hs : SlV h.blks 0 N 2 n (prs js) (.slice A n c)) (hs' : SlV h.blks 0 N2 1 m (ints l) (.slice A2 m k)) (hN : N ≤ h.next) (hN2 : N2 ≤ h.next)
    (hx : js[x]? = some ((q : Int), (p.2 : Int))) (hw : p.2 = (t : Int)) (he : e < 1000000) (hq : q < 1000000) (ht : t < 1000000) (hne : A2 ≠ some ⟨0, 0, some 0⟩) {u : Nat} (hu : u < 1000000000000000) :
    Spec Tryz.prog (En G) 40 [.agg #[.slice A n c, bv], .agg #[.slice A2 m k, .int .i64 e, .int .i64 u], .int .i64 x] h fun v h' => ∃ A', v = .agg #[.slice A' (m + 1) (m + 1), .int .i64 ((e + q : Nat) : Int), .int .i64 ((u + t * (e + q) : Nat) : Int)] ∧ SlV h'.blks h.next h'.next 1 (m + 1) (ints (l ++ [(x : Int)])) (.slice A' (m + 1) (m + 1)) ∧ A' ≠ some ⟨0, 0, some 0⟩ := by
  subst hn; subst hm
  refine CallsE_enter (En_known (by decide)) (En_f.trans Tryz.func40) rfl ⟨Nat.le_of_ble_eq_true rfl, by decide⟩ fun Q' hQ' => ?_
  simp only [Tryz.f40, zaa,zab,zac,zad,zae,zaf,zag,zah,zai,zaj,zak,zal,zam,zan,zao,zap,zaq,zar,zas,zat,zau,zav,zaw,zax,zay,zaz,zba,zbb,zbc,zbd,zbe,zbf,zbg,zbh,zbi,zbj,zbk,zbl,zbm,zbn,zbo,zbp,zbq,zbr,zbs,zbt,zbu,zbv,zbw,zbx,zby,zbz,zca,zcb,zcc,zcd,zce,zcf,zcg,zch,zci,zcj,zck,zcl,zcm,zcn,zco,zcp,zcq,zcr,zcs,zct,zcu,zcv,zcw,zcx,zcy,zcz,zda,zdb,zdc,zdd,guardV,nth,zde,zdf,zdg,zdh,zdi,Nat.reduceEqDiff,reduceIte,zdj,zdk,zdl,resultsA,RetO,Nat.reduceLT,zdm,zdn,zdo,zdp,zdq,zdr,zds,zdt,zdu,zdv,zdw,zdx,zdy,zdz,zea,zeb,zec,zed,zee,zef,zeg,zeh,zei,zej,zek,zel,zem,zen,zeo,zep,zeq]
  refine At_box (v := .agg #[.slice A js.length c, bv]) (by simp only [zaa,zab,zac,zad,zae,zaf,zag,zah,zai,zaj,zak,zal,zam,zan,zao,zap,zaq,zar,zas,zat,zau,zav,zaw,zax,zay,zaz,zba,zbb,zbc,zbd,zbe,zbf,zbg,zbh,zbi,zbj,zbk,zbl,zbm,zbn,zbo,zbp,zbq,zbr,zbs,zbt,zbu,zbv,zbw,zbx,zby,zbz,zca,zcb,zcc,zcd,zce,zcf,zcg,zch,zci,zcj,zck,zcl,zcm,zcn,zco,zcp,zcq,zcr,zcs,zct,zcu,zcv,zcw,zcx,zcy,zcz,zda,zdb,zdc,zdd,guardV,nth,zde,zdf,zdg,zdh,zdi,Nat.reduceEqDiff,reduceIte,zdj,zdk,zdl,resultsA,RetO,Nat.reduceLT,zdm,zdn,zdo,zdp,zdq,zdr,zds,zdt,zdu,zdv,zdw,zdx,zdy,zdz,zea,zeb,zec,zed,zee,zef,zeg,zeh,zei,zej,zek,zel,zem,zen,zeo,zep,zeq]) (by omega) fun h1 hn1 => ?_
  have n1 := hn1.next
  have v3 : Var h1.blks h.next [.slice A js.length c, bv] := hn1.var
  have pr1 : Pres h.next h h1 := hn1.pres (Nat.le_refl _)
  try simp only [zaa,zab,zac,zad,zae,zaf,zag,zah,zai,zaj,zak,zal,zam,zan,zao,zap,zaq,zar,zas,zat,zau,zav,zaw,zax,zay,zaz,zba,zbb,zbc,zbd,zbe,zbf,zbg,zbh,zbi,zbj,zbk,zbl,zbm,zbn,zbo,zbp,zbq,zbr,zbs,zbt,zbu,zbv,zbw,zbx,zby,zbz,zca,zcb,zcc,zcd,zce,zcf,zcg,zch,zci,zcj,zck,zcl,zcm,zcn,zco,zcp,zcq,zcr,zcs,zct,zcu,zcv,zcw,zcx,zcy,zcz,zda,zdb,zdc,zdd,guardV,nth,zde,zdf,zdg,zdh,zdi,Nat.reduceEqDiff,reduceIte,zdj,zdk,zdl,resultsA,RetO,Nat.reduceLT,zdm,zdn,zdo,zdp,zdq,zdr,zds,zdt,zdu,zdv,zdw,zdx,zdy,zdz,zea,zeb,zec,zed,zee,zef,zeg,zeh,zei,zej,zek,zel,zem,zen,zeo,zep,zeq]
  refine At_box (v := .agg #[.slice A2 l.length k, .int .i64 e, .int .i64 u]) (by simp only [zaa,zab,zac,zad,zae,zaf,zag,zah,zai,zaj,zak,zal,zam,zan,zao,zap,zaq,zar,zas,zat,zau,zav,zaw,zax,zay,zaz,zba,zbb,zbc,zbd,zbe,zbf,zbg,zbh,zbi,zbj,zbk,zbl,zbm,zbn,zbo,zbp,zbq,zbr,zbs,zbt,zbu,zbv,zbw,zbx,zby,zbz,zca,zcb,zcc,zcd,zce,zcf,zcg,zch,zci,zcj,zck,zcl,zcm,zcn,zco,zcp,zcq,zcr,zcs,zct,zcu,zcv,zcw,zcx,zcy,zcz,zda,zdb,zdc,zdd,guardV,nth,zde,zdf,zdg,zdh,zdi,Nat.reduceEqDiff,reduceIte,zdj,zdk,zdl,resultsA,RetO,Nat.reduceLT,zdm,zdn,zdo,zdp,zdq,zdr,zds,zdt,zdu,zdv,zdw,zdx,zdy,zdz,zea,zeb,zec,zed,zee,zef,zeg,zeh,zei,zej,zek,zel,zem,zen,zeo,zep,zeq]) (by omega) fun h2 hn2 => ?_
  have n2 := hn2.next
  have v4 : Var h2.blks h1.next [.slice A2 l.length k, .int .i64 e, .int .i64 u] := hn2.var
  replace v3 := v3.mono (B' := h2.blks) (by rw [hn2.get, if_neg (by omega)])
  have pr2 := pr1.trans ((hn2.pres (Nat.le_refl _)).le (m' := h.next) (by omega))
  try simp only [zaa,zab,zac,zad,zae,zaf,zag,zah,zai,zaj,zak,zal,zam,zan,zao,zap,zaq,zar,zas,zat,zau,zav,zaw,zax,zay,zaz,zba,zbb,zbc,zbd,zbe,zbf,zbg,zbh,zbi,zbj,zbk,zbl,zbm,zbn,zbo,zbp,zbq,zbr,zbs,zbt,zbu,zbv,zbw,zbx,zby,zbz,zca,zcb,zcc,zcd,zce,zcf,zcg,zch,zci,zcj,zck,zcl,zcm,zcn,zco,zcp,zcq,zcr,zcs,zct,zcu,zcv,zcw,zcx,zcy,zcz,zda,zdb,zdc,zdd,guardV,nth,zde,zdf,zdg,zdh,zdi,Nat.reduceEqDiff,reduceIte,zdj,zdk,zdl,resultsA,RetO,Nat.reduceLT,zdm,zdn,zdo,zdp,zdq,zdr,zds,zdt,zdu,zdv,zdw,zdx,zdy,zdz,zea,zeb,zec,zed,zee,zef,zeg,zeh,zei,zej,zek,zel,zem,zen,zeo,zep,zeq]
  refine At_alloc i80 zero80 rfl (by omega) fun h3 hn3 => ?_
  have n3 := hn3.next
  have v6 : Var h3.blks h2.next [.slice none 0 0, .int .i64 0, .int .i64 0] := hn3.var
  replace v3 := v3.mono (B' := h3.blks) (by rw [hn3.get, if_neg (by omega)])
  replace v4 := v4.mono (B' := h3.blks) (by rw [hn3.get, if_neg (by omega)])
  have pr3 := pr2.trans ((hn3.pres (Nat.le_refl _)).le (m' := h.next) (by omega))
  have hsj := hs.mono (B' := h3.blks) fun b _ hb => pr3.get b (by omega)
  have hsl := hs'.mono (B' := h3.blks) fun b _ hb => pr3.get b (by omega)
  have hxl := idxAt hx
  obtain ⟨b, off, rfl, hb0, hbN, _⟩ := hsj.at_ (by omega)
  obtain ⟨lp1, lp2⟩ := hsj.pr_at hx
  rw [hw] at lp2
  simp only at lp1 lp2
  have l31 : loadv h3.blks h.next 0 = some (.slice (some ⟨b, off, none⟩) js.length c) := by rw [v3.load (by simp)]; rfl
  have l40 : loadv h3.blks h1.next 0 = some (.slice A2 l.length k) := by rw [v4.load (by simp)]; rfl
  have l41 : loadv h3.blks h1.next 1 = some (.int .i64 e) := by rw [v4.load (by simp)]; rfl
  have l42 : loadv h3.blks h1.next 2 = some (.int .i64 u) := by rw [v4.load (by simp)]; rfl
  have hw1 : IntKind.i64.wrap ((e : Int) + q) = ((e + q : Nat) : Int) := by rw [wrap_i64 (by omega) (by omega)]; omega
  try simp only [zaa,zab,zac,zad,zae,zaf,zag,zah,zai,zaj,zak,zal,zam,zan,zao,zap,zaq,zar,zas,zat,zau,zav,zaw,zax,zay,zaz,zba,zbb,zbc,zbd,zbe,zbf,zbg,zbh,zbi,zbj,zbk,zbl,zbm,zbn,zbo,zbp,zbq,zbr,zbs,zbt,zbu,zbv,zbw,zbx,zby,zbz,zca,zcb,zcc,zcd,zce,zcf,zcg,zch,zci,zcj,zck,zcl,zcm,zcn,zco,zcp,zcq,zcr,zcs,zct,zcu,zcv,zcw,zcx,zcy,zcz,zda,zdb,zdc,zdd,guardV,nth,zde,zdf,zdg,zdh,zdi,Nat.reduceEqDiff,reduceIte,zdj,zdk,zdl,resultsA,RetO,Nat.reduceLT,zdm,zdn,zdo,zdp,zdq,zdr,zds,zdt,zdu,zdv,zdw,zdx,zdy,zdz,zea,zeb,zec,zed,zee,zef,zeg,zeh,zei,zej,zek,zel,zem,zen,zeo,zep,zeq]
  refine WK_regionT 8 ⟨by kernel_rfl, by kernel_rfl, by kernel_rfl⟩ ?_
  simp (disch := omega) only [zaa,zab,zac,zad,zae,zaf,zag,zah,zai,zaj,zak,zal,zam,zan,zao,zap,zaq,zar,zas,zat,zau,zav,zaw,zax,zay,zaz,zba,zbb,zbc,zbd,zbe,zbf,zbg,zbh,zbi,zbj,zbk,zbl,zbm,zbn,zbo,zbp,zbq,zbr,zbs,zbt,zbu,zbv,zbw,zbx,zby,zbz,zca,zcb,zcc,zcd,zce,zcf,zcg,zch,zci,zcj,zck,zcl,zcm,zcn,zco,zcp,zcq,zcr,zcs,zct,zcu,zcv,zcw,zcx,zcy,zcz,zda,zdb,zdc,zdd,guardV,nth,zde,zdf,zdg,zdh,zdi,Nat.reduceEqDiff,reduceIte,zdj,zdk,zdl,resultsA,RetO,Nat.reduceLT,zdm,zdn,zdo,zdp,zdq,zdr,zds,zdt,zdu,zdv,zdw,zdx,zdy,zdz,zea,zeb,zec,zed,zee,zef,zeg,zeh,zei,zej,zek,zel,zem,zen,zeo,zep,zeq, fld80_0, fld80_1, fld80_2, fld59_0, fld49_0, fld49_1, load3, load22, Nat.add_zero, Nat.zero_add, l31, l41, idxA22, Int.toNat_natCast, lp1, hw1]
  refine WK_regionD 18 5 ⟨by kernel_rfl, by kernel_rfl, by kernel_rfl, by kernel_rfl⟩ rfl rfl ?_
  simp (disch := omega) only [zaa,zab,zac,zad,zae,zaf,zag,zah,zai,zaj,zak,zal,zam,zan,zao,zap,zaq,zar,zas,zat,zau,zav,zaw,zax,zay,zaz,zba,zbb,zbc,zbd,zbe,zbf,zbg,zbh,zbi,zbj,zbk,zbl,zbm,zbn,zbo,zbp,zbq,zbr,zbs,zbt,zbu,zbv,zbw,zbx,zby,zbz,zca,zcb,zcc,zcd,zce,zcf,zcg,zch,zci,zcj,zck,zcl,zcm,zcn,zco,zcp,zcq,zcr,zcs,zct,zcu,zcv,zcw,zcx,zcy,zcz,zda,zdb,zdc,zdd,guardV,nth,zde,zdf,zdg,zdh,zdi,Nat.reduceEqDiff,reduceIte,zdj,zdk,zdl,resultsA,RetO,Nat.reduceLT,zdm,zdn,zdo,zdp,zdq,zdr,zds,zdt,zdu,zdv,zdw,zdx,zdy,zdz,zea,zeb,zec,zed,zee,zef,zeg,zeh,zei,zej,zek,zel,zem,zen,zeo,zep,zeq, fld80_0, load26, Nat.add_zero, l40]
  refine CallO_spec (Q := fun v h' => ∃ A', v = .slice A' l.length l.length ∧ SlV h'.blks h3.next h'.next 1 l.length (ints l) (.slice A' l.length l.length)) (clone_spec rfl hm2 hsl) (by omega) (fun v h' wm hq => hq) fun v h4 hp4 hv => ?_
  obtain ⟨A', rfl, hs4⟩ := hv
  have n4 := hp4.next
  try simp only [zaa,zab,zac,zad,zae,zaf,zag,zah,zai,zaj,zak,zal,zam,zan,zao,zap,zaq,zar,zas,zat,zau,zav,zaw,zax,zay,zaz,zba,zbb,zbc,zbd,zbe,zbf,zbg,zbh,zbi,zbj,zbk,zbl,zbm,zbn,zbo,zbp,zbq,zbr,zbs,zbt,zbu,zbv,zbw,zbx,zby,zbz,zca,zcb,zcc,zcd,zce,zcf,zcg,zch,zci,zcj,zck,zcl,zcm,zcn,zco,zcp,zcq,zcr,zcs,zct,zcu,zcv,zcw,zcx,zcy,zcz,zda,zdb,zdc,zdd,guardV,nth,zde,zdf,zdg,zdh,zdi,Nat.reduceEqDiff,reduceIte,zdj,zdk,zdl,resultsA,RetO,Nat.reduceLT,zdm,zdn,zdo,zdp,zdq,zdr,zds,zdt,zdu,zdv,zdw,zdx,zdy,zdz,zea,zeb,zec,zed,zee,zef,zeg,zeh,zei,zej,zek,zel,zem,zen,zeo,zep,zeq]
  refine At_lit (vs := [(0, .int .i64 (x : Int))]) (cs := #[.int .i64 (x : Int)]) u26 i3 zero3 (by rw [size3]; rfl) (by simp only [zaa,zab,zac,zad,zae,zaf,zag,zah,zai,zaj,zak,zal,zam,zan,zao,zap,zaq,zar,zas,zat,zau,zav,zaw,zax,zay,zaz,zba,zbb,zbc,zbd,zbe,zbf,zbg,zbh,zbi,zbj,zbk,zbl,zbm,zbn,zbo,zbp,zbq,zbr,zbs,zbt,zbu,zbv,zbw,zbx,zby,zbz,zca,zcb,zcc,zcd,zce,zcf,zcg,zch,zci,zcj,zck,zcl,zcm,zcn,zco,zcp,zcq,zcr,zcs,zct,zcu,zcv,zcw,zcx,zcy,zcz,zda,zdb,zdc,zdd,guardV,nth,zde,zdf,zdg,zdh,zdi,Nat.reduceEqDiff,reduceIte,zdj,zdk,zdl,resultsA,RetO,Nat.reduceLT,zdm,zdn,zdo,zdp,zdq,zdr,zds,zdt,zdu,zdv,zdw,zdx,zdy,zdz,zea,zeb,zec,zed,zee,zef,zeg,zeh,zei,zej,zek,zel,zem,zen,zeo,zep,zeq]) (by rw [size3]; rfl) (by omega) fun h5 hn5 => ?_
  rw [size3] at hn5
  have n5 := hn5.next
  have hsx : SlV h5.blks h4.next h5.next 1 1 (ints [(x : Int)]) (.slice (some ⟨h4.next, 0, none⟩) 1 1) := hn5.slv rfl
  have hs5 : SlV h5.blks h3.next h4.next 1 l.length (ints l) (.slice A' l.length l.length) := hs4.mono fun b _ hb => by rw [hn5.get, if_neg (by omega)]
  have pr5 := (pr3.trans (hp4.le (m' := h.next) (by omega))).trans ((hn5.pres (Nat.le_refl _)).le (m' := h.next) (by omega))
  have ob : ∀ y, blkOf (.slice A' l.length l.length) = some y → h3.next ≤ y := fun y hy => hs4.blk y hy
  simp only [zaa,zab,zac,zad,zae,zaf,zag,zah,zai,zaj,zak,zal,zam,zan,zao,zap,zaq,zar,zas,zat,zau,zav,zaw,zax,zay,zaz,zba,zbb,zbc,zbd,zbe,zbf,zbg,zbh,zbi,zbj,zbk,zbl,zbm,zbn,zbo,zbp,zbq,zbr,zbs,zbt,zbu,zbv,zbw,zbx,zby,zbz,zca,zcb,zcc,zcd,zce,zcf,zcg,zch,zci,zcj,zck,zcl,zcm,zcn,zco,zcp,zcq,zcr,zcs,zct,zcu,zcv,zcw,zcx,zcy,zcz,zda,zdb,zdc,zdd,guardV,nth,zde,zdf,zdg,zdh,zdi,Nat.reduceEqDiff,reduceIte,zdj,zdk,zdl,resultsA,RetO,Nat.reduceLT,zdm,zdn,zdo,zdp,zdq,zdr,zds,zdt,zdu,zdv,zdw,zdx,zdy,zdz,zea,zeb,zec,zed,zee,zef,zeg,zeh,zei,zej,zek,zel,zem,zen,zeo,zep,zeq]
  refine At_append (lo := h3.next) (hi := h4.next) (lo2 := h4.next) (hi2 := h5.next) (sl := l.length) (sc := l.length) (m := 1) (L := ints l) (M := ints [(x : Int)]) (A := A') (v := .slice (some ⟨h4.next, 0, none⟩) 1 1) u26 u26 i3 zero3 (by rw [size3, bytes3]; rfl) (by simp only [zaa,zab,zac,zad,zae,zaf,zag,zah,zai,zaj,zak,zal,zam,zan,zao,zap,zaq,zar,zas,zat,zau,zav,zaw,zax,zay,zaz,zba,zbb,zbc,zbd,zbe,zbf,zbg,zbh,zbi,zbj,zbk,zbl,zbm,zbn,zbo,zbp,zbq,zbr,zbs,zbt,zbu,zbv,zbw,zbx,zby,zbz,zca,zcb,zcc,zcd,zce,zcf,zcg,zch,zci,zcj,zck,zcl,zcm,zcn,zco,zcp,zcq,zcr,zcs,zct,zcu,zcv,zcw,zcx,zcy,zcz,zda,zdb,zdc,zdd,guardV,nth,zde,zdf,zdg,zdh,zdi,Nat.reduceEqDiff,reduceIte,zdj,zdk,zdl,resultsA,RetO,Nat.reduceLT,zdm,zdn,zdo,zdp,zdq,zdr,zds,zdt,zdu,zdv,zdw,zdx,zdy,zdz,zea,zeb,zec,zed,zee,zef,zeg,zeh,zei,zej,zek,zel,zem,zen,zeo,zep,zeq]) (by rw [size3]; exact hs5) (by omega) (by rw [En_G]; omega) (by simp only [zaa,zab,zac,zad,zae,zaf,zag,zah,zai,zaj,zak,zal,zam,zan,zao,zap,zaq,zar,zas,zat,zau,zav,zaw,zax,zay,zaz,zba,zbb,zbc,zbd,zbe,zbf,zbg,zbh,zbi,zbj,zbk,zbl,zbm,zbn,zbo,zbp,zbq,zbr,zbs,zbt,zbu,zbv,zbw,zbx,zby,zbz,zca,zcb,zcc,zcd,zce,zcf,zcg,zch,zci,zcj,zck,zcl,zcm,zcn,zco,zcp,zcq,zcr,zcs,zct,zcu,zcv,zcw,zcx,zcy,zcz,zda,zdb,zdc,zdd,guardV,nth,zde,zdf,zdg,zdh,zdi,Nat.reduceEqDiff,reduceIte,zdj,zdk,zdl,resultsA,RetO,Nat.reduceLT,zdm,zdn,zdo,zdp,zdq,zdr,zds,zdt,zdu,zdv,zdw,zdx,zdy,zdz,zea,zeb,zec,zed,zee,zef,zeg,zeh,zei,zej,zek,zel,zem,zen,zeo,zep,zeq]) (by rw [size3]; exact hsx) (by omega) (by omega) ints_one (by omega) fun h6 ha => ?_
  rw [size3] at ha
  have n6 : h6.next = h5.next + 1 := ha.next
  have w6 : h3.next ≤ h6.wm := by
    have := ha.wm h3.next ob
    have e : (st true h5).wm = h5.next := rfl
    rw [e] at this
    omega
  have g6 : ∀ y, y < h3.next → h6.blks.get y = h5.blks.get y := fun y hy => by
    rw [ha.get]
    have e1 : ¬ y = (st true h5).next := by show ¬ y = h5.next; omega
    rw [if_neg e1, if_neg fun e2 => by have := ob y e2; omega]
    rfl
  have g63 : ∀ y, y < h3.next → h6.blks.get y = h3.blks.get y := fun y hy => by
    rw [g6 y hy, hn5.get, if_neg (by omega), hp4.get y hy]
  have hs6 := (ha.slv (n := l.length + 1) (c := l.length + 1) (by rw [List.length_append, ints_len, ints_len]; simp))
  simp only [zaa,zab,zac,zad,zae,zaf,zag,zah,zai,zaj,zak,zal,zam,zan,zao,zap,zaq,zar,zas,zat,zau,zav,zaw,zax,zay,zaz,zba,zbb,zbc,zbd,zbe,zbf,zbg,zbh,zbi,zbj,zbk,zbl,zbm,zbn,zbo,zbp,zbq,zbr,zbs,zbt,zbu,zbv,zbw,zbx,zby,zbz,zca,zcb,zcc,zcd,zce,zcf,zcg,zch,zci,zcj,zck,zcl,zcm,zcn,zco,zcp,zcq,zcr,zcs,zct,zcu,zcv,zcw,zcx,zcy,zcz,zda,zdb,zdc,zdd,guardV,nth,zde,zdf,zdg,zdh,zdi,Nat.reduceEqDiff,reduceIte,zdj,zdk,zdl,resultsA,RetO,Nat.reduceLT,zdm,zdn,zdo,zdp,zdq,zdr,zds,zdt,zdu,zdv,zdw,zdx,zdy,zdz,zea,zeb,zec,zed,zee,zef,zeg,zeh,zei,zej,zek,zel,zem,zen,zeo,zep,zeq]
  intro wm hwm
  have pr7 : Pres h.next h ⟨h6.blks, h6.next, wm⟩ := ⟨by show h.next ≤ h6.next; omega, by have := pr5.wm; show _ ≤ wm; omega, fun y hy => by
    show h6.blks.get y = _
    rw [g6 y (by omega)]; exact pr5.get y hy⟩
  have hs7 : SlV (H.mk h6.blks h6.next wm).blks h5.next (H.mk h6.blks h6.next wm).next 1 (l.length + 1) (ints l ++ ints [(x : Int)]) (.slice (some ⟨h5.next, 0, none⟩) (l.length + 1) (l.length + 1)) := hs6
  have v67 : Var (H.mk h6.blks h6.next wm).blks h2.next [.slice none 0 0, .int .i64 0, .int .i64 0] := v6.mono (g63 _ (by omega))
  have m31 : loadv h6.blks h.next 0 = some (.slice (some ⟨b, off, none⟩) js.length c) := (loadv_eq (g63 _ (by omega)) _).trans l31
  have m42 : loadv h6.blks h1.next 2 = some (.int .i64 u) := (loadv_eq (g63 _ (by omega)) _).trans l42
  have mp2 : loadv h6.blks b (off + x * 2 + 1) = some (.int .i64 t) := (loadv_eq (g63 _ (by omega)) _).trans lp2
  have g5 : ∀ y, y < h3.next → h5.blks.get y = h3.blks.get y := fun y hy => by rw [hn5.get, if_neg (by omega), hp4.get y hy]
  have k31 : loadv h5.blks h.next 0 = some (.slice (some ⟨b, off, none⟩) js.length c) := (loadv_eq (g5 _ (by omega)) _).trans l31
  have k42 : loadv h5.blks h1.next 2 = some (.int .i64 u) := (loadv_eq (g5 _ (by omega)) _).trans l42
  have kp2 : loadv h5.blks b (off + x * 2 + 1) = some (.int .i64 t) := (loadv_eq (g5 _ (by omega)) _).trans lp2
  have hmul : t * (e + q) ≤ 1000000 * 2000000 := Nat.mul_le_mul (by omega) (by omega)
  have hw2 : IntKind.i64.wrap ((t : Int) * ((e + q : Nat) : Int)) = ((t * (e + q) : Nat) : Int) := by
    have : (t : Int) * ((e + q : Nat) : Int) = ((t * (e + q) : Nat) : Int) := by simp
    rw [this, wrap_i64 (by omega) (by omega)]
  have hw3 : IntKind.i64.wrap ((u : Int) + ((t * (e + q) : Nat) : Int)) = ((u + t * (e + q) : Nat) : Int) := by rw [wrap_i64 (by omega) (by omega)]; omega
  generalize hh7 : H.mk h6.blks h6.next wm = h7 at pr7 hs7 v67 ⊢
  have e7 : h7.blks = h6.blks := by rw [← hh7]
  simp (disch := omega) only [zaa,zab,zac,zad,zae,zaf,zag,zah,zai,zaj,zak,zal,zam,zan,zao,zap,zaq,zar,zas,zat,zau,zav,zaw,zax,zay,zaz,zba,zbb,zbc,zbd,zbe,zbf,zbg,zbh,zbi,zbj,zbk,zbl,zbm,zbn,zbo,zbp,zbq,zbr,zbs,zbt,zbu,zbv,zbw,zbx,zby,zbz,zca,zcb,zcc,zcd,zce,zcf,zcg,zch,zci,zcj,zck,zcl,zcm,zcn,zco,zcp,zcq,zcr,zcs,zct,zcu,zcv,zcw,zcx,zcy,zcz,zda,zdb,zdc,zdd,guardV,nth,zde,zdf,zdg,zdh,zdi,Nat.reduceEqDiff,reduceIte,zdj,zdk,zdl,resultsA,RetO,Nat.reduceLT,zdm,zdn,zdo,zdp,zdq,zdr,zds,zdt,zdu,zdv,zdw,zdx,zdy,zdz,zea,zeb,zec,zed,zee,zef,zeg,zeh,zei,zej,zek,zel,zem,zen,zeo,zep,zeq, fld80_2, fld59_0, fld49_1, load3, load22, Nat.add_zero, Nat.zero_add, e7, m31, m42, idxA22, Int.toNat_natCast, mp2, hw2, hw3]
  refine ⟨dirtyOK_of (Ls := [1, 8, 10, 14]) (by kernel_rfl) fun i hi => ?_, ?_⟩
  · simp only [List.mem_cons, List.not_mem_nil, or_false] at hi
    rcases hi with rfl | rfl | rfl | rfl
    · refine ⟨_, 26, .tmp 17, h1.next, 0, .slice A2 l.length k, rfl, rfl, rfl, by simp only [zaa,zab,zac,zad,zae,zaf,zag,zah,zai,zaj,zak,zal,zam,zan,zao,zap,zaq,zar,zas,zat,zau,zav,zaw,zax,zay,zaz,zba,zbb,zbc,zbd,zbe,zbf,zbg,zbh,zbi,zbj,zbk,zbl,zbm,zbn,zbo,zbp,zbq,zbr,zbs,zbt,zbu,zbv,zbw,zbx,zby,zbz,zca,zcb,zcc,zcd,zce,zcf,zcg,zch,zci,zcj,zck,zcl,zcm,zcn,zco,zcp,zcq,zcr,zcs,zct,zcu,zcv,zcw,zcx,zcy,zcz,zda,zdb,zdc,zdd,guardV,nth,zde,zdf,zdg,zdh,zdi,Nat.reduceEqDiff,reduceIte,zdj,zdk,zdl,resultsA,RetO,Nat.reduceLT,zdm,zdn,zdo,zdp,zdq,zdr,zds,zdt,zdu,zdv,zdw,zdx,zdy,zdz,zea,zeb,zec,zed,zee,zef,zeg,zeh,zei,zej,zek,zel,zem,zen,zeo,zep,zeq], ?_, ?_, hsl.same hne⟩
      · rw [load26]; exact (loadv_eq (g5 _ (by omega)) _).trans l40
      · rw [load26, e7]; exact (loadv_eq (g63 _ (by omega)) _).trans l40
    · refine ⟨_, 3, .tmp 24, h1.next, 2, .int .i64 u, rfl, rfl, rfl, by simp only [zaa,zab,zac,zad,zae,zaf,zag,zah,zai,zaj,zak,zal,zam,zan,zao,zap,zaq,zar,zas,zat,zau,zav,zaw,zax,zay,zaz,zba,zbb,zbc,zbd,zbe,zbf,zbg,zbh,zbi,zbj,zbk,zbl,zbm,zbn,zbo,zbp,zbq,zbr,zbs,zbt,zbu,zbv,zbw,zbx,zby,zbz,zca,zcb,zcc,zcd,zce,zcf,zcg,zch,zci,zcj,zck,zcl,zcm,zcn,zco,zcp,zcq,zcr,zcs,zct,zcu,zcv,zcw,zcx,zcy,zcz,zda,zdb,zdc,zdd,guardV,nth,zde,zdf,zdg,zdh,zdi,Nat.reduceEqDiff,reduceIte,zdj,zdk,zdl,resultsA,RetO,Nat.reduceLT,zdm,zdn,zdo,zdp,zdq,zdr,zds,zdt,zdu,zdv,zdw,zdx,zdy,zdz,zea,zeb,zec,zed,zee,zef,zeg,zeh,zei,zej,zek,zel,zem,zen,zeo,zep,zeq], ?_, ?_, by simp [sameO, sameA]⟩
      · rw [load3]; exact k42
      · rw [load3, e7]; exact m42
    · refine ⟨_, 22, .tmp 26, h.next, 0, .slice (some ⟨b, off, none⟩) js.length c, rfl, rfl, rfl, by simp only [zaa,zab,zac,zad,zae,zaf,zag,zah,zai,zaj,zak,zal,zam,zan,zao,zap,zaq,zar,zas,zat,zau,zav,zaw,zax,zay,zaz,zba,zbb,zbc,zbd,zbe,zbf,zbg,zbh,zbi,zbj,zbk,zbl,zbm,zbn,zbo,zbp,zbq,zbr,zbs,zbt,zbu,zbv,zbw,zbx,zby,zbz,zca,zcb,zcc,zcd,zce,zcf,zcg,zch,zci,zcj,zck,zcl,zcm,zcn,zco,zcp,zcq,zcr,zcs,zct,zcu,zcv,zcw,zcx,zcy,zcz,zda,zdb,zdc,zdd,guardV,nth,zde,zdf,zdg,zdh,zdi,Nat.reduceEqDiff,reduceIte,zdj,zdk,zdl,resultsA,RetO,Nat.reduceLT,zdm,zdn,zdo,zdp,zdq,zdr,zds,zdt,zdu,zdv,zdw,zdx,zdy,zdz,zea,zeb,zec,zed,zee,zef,zeg,zeh,zei,zej,zek,zel,zem,zen,zeo,zep,zeq], ?_, ?_, by simp [sameO, sameA]⟩
      · rw [load22]; exact k31
      · rw [load22, e7]; exact m31
    · refine ⟨_, 3, .tmp 30, b, off + x * 2 + 1, .int .i64 t, rfl, rfl, rfl, by simp only [zaa,zab,zac,zad,zae,zaf,zag,zah,zai,zaj,zak,zal,zam,zan,zao,zap,zaq,zar,zas,zat,zau,zav,zaw,zax,zay,zaz,zba,zbb,zbc,zbd,zbe,zbf,zbg,zbh,zbi,zbj,zbk,zbl,zbm,zbn,zbo,zbp,zbq,zbr,zbs,zbt,zbu,zbv,zbw,zbx,zby,zbz,zca,zcb,zcc,zcd,zce,zcf,zcg,zch,zci,zcj,zck,zcl,zcm,zcn,zco,zcp,zcq,zcr,zcs,zct,zcu,zcv,zcw,zcx,zcy,zcz,zda,zdb,zdc,zdd,guardV,nth,zde,zdf,zdg,zdh,zdi,Nat.reduceEqDiff,reduceIte,zdj,zdk,zdl,resultsA,RetO,Nat.reduceLT,zdm,zdn,zdo,zdp,zdq,zdr,zds,zdt,zdu,zdv,zdw,zdx,zdy,zdz,zea,zeb,zec,zed,zee,zef,zeg,zeh,zei,zej,zek,zel,zem,zen,zeo,zep,zeq], ?_, ?_, by simp [sameO, sameA]⟩
      · rw [load3]; exact kp2
      · rw [load3, e7]; exact mp2
  · simp only [zaa,zab,zac,zad,zae,zaf,zag,zah,zai,zaj,zak,zal,zam,zan,zao,zap,zaq,zar,zas,zat,zau,zav,zaw,zax,zay,zaz,zba,zbb,zbc,zbd,zbe,zbf,zbg,zbh,zbi,zbj,zbk,zbl,zbm,zbn,zbo,zbp,zbq,zbr,zbs,zbt,zbu,zbv,zbw,zbx,zby,zbz,zca,zcb,zcc,zcd,zce,zcf,zcg,zch,zci,zcj,zck,zcl,zcm,zcn,zco,zcp,zcq,zcr,zcs,zct,zcu,zcv,zcw,zcx,zcy,zcz,zda,zdb,zdc,zdd,guardV,nth,zde,zdf,zdg,zdh,zdi,Nat.reduceEqDiff,reduceIte,zdj,zdk,zdl,resultsA,RetO,Nat.reduceLT,zdm,zdn,zdo,zdp,zdq,zdr,zds,zdt,zdu,zdv,zdw,zdx,zdy,zdz,zea,zeb,zec,zed,zee,zef,zeg,zeh,zei,zej,zek,zel,zem,zen,zeo,zep,zeq, build80]
    refine At_storeV (inf := inf80) (v := .agg #[.slice (some ⟨h5.next, 0, none⟩) (l.length + 1) (l.length + 1), .int .i64 ((e + q : Nat) : Int), .int .i64 ((u + t * (e + q) : Nat) : Int)]) i80 (by simp only [zaa,zab,zac,zad,zae,zaf,zag,zah,zai,zaj,zak,zal,zam,zan,zao,zap,zaq,zar,zas,zat,zau,zav,zaw,zax,zay,zaz,zba,zbb,zbc,zbd,zbe,zbf,zbg,zbh,zbi,zbj,zbk,zbl,zbm,zbn,zbo,zbp,zbq,zbr,zbs,zbt,zbu,zbv,zbw,zbx,zby,zbz,zca,zcb,zcc,zcd,zce,zcf,zcg,zch,zci,zcj,zck,zcl,zcm,zcn,zco,zcp,zcq,zcr,zcs,zct,zcu,zcv,zcw,zcx,zcy,zcz,zda,zdb,zdc,zdd,guardV,nth,zde,zdf,zdg,zdh,zdi,Nat.reduceEqDiff,reduceIte,zdj,zdk,zdl,resultsA,RetO,Nat.reduceLT,zdm,zdn,zdo,zdp,zdq,zdr,zds,zdt,zdu,zdv,zdw,zdx,zdy,zdz,zea,zeb,zec,zed,zee,zef,zeg,zeh,zei,zej,zek,zel,zem,zen,zeo,zep,zeq]) (by simp only [zaa,zab,zac,zad,zae,zaf,zag,zah,zai,zaj,zak,zal,zam,zan,zao,zap,zaq,zar,zas,zat,zau,zav,zaw,zax,zay,zaz,zba,zbb,zbc,zbd,zbe,zbf,zbg,zbh,zbi,zbj,zbk,zbl,zbm,zbn,zbo,zbp,zbq,zbr,zbs,zbt,zbu,zbv,zbw,zbx,zby,zbz,zca,zcb,zcc,zcd,zce,zcf,zcg,zch,zci,zcj,zck,zcl,zcm,zcn,zco,zcp,zcq,zcr,zcs,zct,zcu,zcv,zcw,zcx,zcy,zcz,zda,zdb,zdc,zdd,guardV,nth,zde,zdf,zdg,zdh,zdi,Nat.reduceEqDiff,reduceIte,zdj,zdk,zdl,resultsA,RetO,Nat.reduceLT,zdm,zdn,zdo,zdp,zdq,zdr,zds,zdt,zdu,zdv,zdw,zdx,zdy,zdz,zea,zeb,zec,zed,zee,zef,zeg,zeh,zei,zej,zek,zel,zem,zen,zeo,zep,zeq]; rfl) v67 (by rw [size80]; rfl) (by rw [size80]; rfl) rfl (by show G ≤ h2.next; omega) fun h8 hs8 v8 => ?_
    have he : evLoad (En G) h8 80 (.pointer (some ⟨h2.next, 0, none⟩)) = some (.agg #[.slice (some ⟨h5.next, 0, none⟩) (l.length + 1) (l.length + 1), .int .i64 ((e + q : Nat) : Int), .int .i64 ((u + t * (e + q) : Nat) : Int)]) := by
      rw [evLoad_loadO]; exact v8.loadA agg80 i80 (by rw [size80]; rfl)
    have n8 := hs8.next
    simp only [zaa,zab,zac,zad,zae,zaf,zag,zah,zai,zaj,zak,zal,zam,zan,zao,zap,zaq,zar,zas,zat,zau,zav,zaw,zax,zay,zaz,zba,zbb,zbc,zbd,zbe,zbf,zbg,zbh,zbi,zbj,zbk,zbl,zbm,zbn,zbo,zbp,zbq,zbr,zbs,zbt,zbu,zbv,zbw,zbx,zby,zbz,zca,zcb,zcc,zcd,zce,zcf,zcg,zch,zci,zcj,zck,zcl,zcm,zcn,zco,zcp,zcq,zcr,zcs,zct,zcu,zcv,zcw,zcx,zcy,zcz,zda,zdb,zdc,zdd,guardV,nth,zde,zdf,zdg,zdh,zdi,Nat.reduceEqDiff,reduceIte,zdj,zdk,zdl,resultsA,RetO,Nat.reduceLT,zdm,zdn,zdo,zdp,zdq,zdr,zds,zdt,zdu,zdv,zdw,zdx,zdy,zdz,zea,zeb,zec,zed,zee,zef,zeg,zeh,zei,zej,zek,zel,zem,zen,zeo,zep,zeq, he]
    refine hQ' _ _ ⟨pr7.trans (hs8.pres (m := h.next) (by omega)), _, rfl, ?_, by simp⟩
    rw [ints_app]
    have n7 : h7.next = h6.next := by rw [← hh7]
    exact (hs7.mono fun b _ hb => hs8.get _ (by omega)).wide (by omega) (by omega)
end
end Go.Proofs.YthiodndhokooiaaGreatDoor.Ev

