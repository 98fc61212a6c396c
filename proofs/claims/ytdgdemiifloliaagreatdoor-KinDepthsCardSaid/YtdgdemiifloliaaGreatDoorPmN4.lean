/- Three sums; whether the greatest of three is there once. -/
import Derived.Test.YtdgdemiifloliaaGreatDoorPmN3
import Derived.Test.YtdgdemiifloliaaGreatDoorPmNX
set_option linter.unusedSimpArgs false
namespace Go.Proofs.YtdgdemiifloliaaGreatDoor.Ev
open Go Go.Proofs
noncomputable section

/-- the greatest of three is there once -/
def Once (a b c : Int) : Prop := (b < a ∧ c < a) ∨ (a < b ∧ c < b) ∨ (a < c ∧ b < c)

theorem zero113 : inf113.zero = some (.agg #[.int .i64 0, .int .i64 0, .int .i64 0]) := by kernel_rfl
theorem build113 {G : Nat} {a b c : Int} : buildO (En G) 113 (some [(0, .int .i64 a), (1, .int .i64 b), (2, .int .i64 c)]) = some (.agg #[.int .i64 a, .int .i64 b, .int .i64 c]) := by
  simp only [buildO, evBuild, i113, u113, zero113, i3, size3]
  rfl
theorem slice113 {G b : Nat} {B : Tr Blk} {cells : Tr Value} (hc : B.get b = some (.mk cells 3 0)) : sliceO (En G) 113 B (some (.pointer (some ⟨b, 0, none⟩))) (some []) (some []) = some (.slice (some ⟨b, 0, none⟩) 3 3) := by
  show evSlice (En G) ⟨B, 0, 0⟩ 113 (.pointer (some ⟨b, 0, none⟩)) none none = _
  simp [evSlice, u113, bound, i3, size3, hc, forceN_eq]

section
variable {P : Program} {E : Env} {n : Nat} {ops : List Oper} {q : Bool} {r tl : List Oper} {k : List Frm} {α : Tr Value} {h : H} {R : Rt} {d : Nat} {ty : TypeId} {pos : String} {af : Array Edge}
theorem At_max3 {x y z : Operand} {ats : Array TypeId} {a b c : Int} (hx : ev E h α x = some (.int .i64 a)) (hy : ev E h α y = some (.int .i64 b)) (hz : ev E h α z = some (.int .i64 c)) (hd : d < n)
    (hk : At P E n ops q r tl k (Tr.put α d (.int .i64 (max (max a b) c))) h R) : At P E n ops q (⟨some d, .call ⟨.builtin .max, #[x, y, z], ats⟩, ty, pos, af, none⟩ :: r) tl k α h R := by
  rw [At_pure (v := some (.int .i64 (max (max a b) c))) rfl rfl fun h1 hb => ?_]
  · exact (PutO_some hd).2 hk
  · rw [evOp_eq]
    have hx1 := (ev_blks hb x).trans hx
    have hy1 := (ev_blks hb y).trans hy
    have hz1 := (ev_blks hb z).trans hz
    simp only [evOpS, evs, hx1, hy1, hz1]
    have hp : ([Value.int .i64 a, Value.int .i64 b, Value.int .i64 c].all plain) = true := rfl
    rw [if_pos hp]
    have m : ∀ u v : Int, Builtin.max2 (.int .i64 u) (.int .i64 v) = pure (.int .i64 (max u v)) := fun u v => by
      have e : (if u < v then v else u) = max u v := by split <;> omega
      rw [← e]; rfl
    have e : execOp (fun z => (ev E h1 α z).getD undef) ⟨some d, .call ⟨.builtin .max, #[x, y, z], ats⟩, ty, pos, af, none⟩ = (do pure (Next.value (← Builtin.max_ ats ty #[.int .i64 a, .int .i64 b, .int .i64 c]))) := by
      simp only [execOp, resolve, List.map_toArray, List.map, hx1, hy1, hz1, Option.getD_some]
      rfl
    have e2 : pureRun P (Builtin.max_ ats ty #[.int .i64 a, .int .i64 b, .int .i64 c]) = some (.int .i64 (max (max a b) c)) := by
      show pureRun P (Builtin.max2 (.int .i64 a) (.int .i64 b) >>= fun s => Builtin.max2 s (.int .i64 c) >>= fun s => pure s) = _
      rw [m]
      show pureRun P (Builtin.max2 (.int .i64 (max a b)) (.int .i64 c) >>= fun s => pure s) = _
      rw [m]
      rfl
    have e3 : pureRun P (execOp (fun z => (ev E h1 α z).getD undef) ⟨some d, .call ⟨.builtin .max, #[x, y, z], ats⟩, ty, pos, af, none⟩) = some (.value (.int .i64 (max (max a b) c))) := by
      rw [e, pureRun_bind, e2]
      rfl
    unfold plainOp
    rw [e3]
    simp [plain, asV, forceV, forceI_eq]
end

/-- rows of a valid matrix -/
structure Rows4 (B : Tr Blk) (lo hi n c : Nat) (f : Nat → Nat → Int) (b off : Nat) (RA : Nat → Option Addr) (rc : Nat → Nat) : Prop where
  mat : MatV B lo hi n (fun _ => n) f RA rc (.slice (some ⟨b, off, none⟩) n c)

set_option maxHeartbeats 16000000 in
theorem threeSums_spec {G lo hi n c i j k l : Nat} {f : Nat → Nat → Int} {g : Nat → Nat} {RA : Nat → Option Addr} {rc : Nat → Nat} {A : Option Addr} {h : H} (hG : G ≤ h.next) (hhi : hi ≤ h.next) (hm : MatV h.blks lo hi n g f RA rc (.slice A n c)) (hr : RangeP n g f) (hi' : i < n) (hj : j < n) (hk : k < n) (hl : l < n) :
    Spec Tryz.prog (En G) 90 [.slice A n c, .int .i64 i, .int .i64 j, .int .i64 k, .int .i64 l] h fun v _ => v = .agg #[.int .i64 (f i j + f k l), .int .i64 (f i k + f j l), .int .i64 (f i l + f j k)] := by
  refine CallsE_enter (En_known (by decide)) (En_f.trans Tryz.func90) rfl ⟨Nat.le_of_ble_eq_true rfl, by decide⟩ fun Q' hQ' => ?_
  simp only [Tryz.f90, zaa,zab,zac,zad,zae,zaf,zag,zah,zai,zaj,zak,zal,zam,zan,zao,zap,zaq,zar,zas,zat,zau,zav,zaw,zax,zay,zaz,zba,zbb,zbc,zbd,zbe,zbf,zbg,zbh,zbi,zbj,zbk,zbl,zbm,zbn,zbo,zbp,zbq,zbr,zbs,zbt,zbu,zbv,zbw,zbx,zby,zbz,zca,zcb,zcc,zcd,zce,zcf,zcg,zch,zci,zcj,zck,zcl,zcm,zcn,zco,zcp,zcq,zcr,zcs,zct,zcu,zcv,zcw,zcx,zcy,zcz,zda,zdb,zdc,zdd,guardV,nth,zde,zdf,zdg,zdh,zdi,Nat.reduceEqDiff,reduceIte,zdj,zdk,zdl,resultsA,RetO,Nat.reduceLT,zdm,zdn,zdo,zdp,zdq,zdr,zds,zdt,zdu,zdv,zdw,zdx,zdy,zdz,zea,zeb,zec,zed,zee,zef,zeg,zeh,zei,zej,zek,zel,zem,zen,zeo]
  refine At_alloc i113 zero113 rfl (by omega) fun h1 hn1 => ?_
  have n1 := hn1.next
  have pr1 : Pres h.next h h1 := hn1.pres (Nat.le_refl _)
  have hvar := hn1.var
  have lz : (Value.agg #[Value.int IntKind.i64 0, Value.int .i64 0, Value.int .i64 0]).cells.toList = [.int .i64 0, .int .i64 0, .int .i64 0] := rfl
  rw [lz] at hvar
  have hm1 : MatV h1.blks lo hi n g f RA rc (.slice A n c) := hm.mono fun b _ hb => pr1.get b (by omega)
  obtain ⟨b, off, rfl, hld⟩ := hm1.at_ (by omega)
  have gi := (hr i hi').1
  have gj := (hr j hj).1
  have gk := (hr k hk).1
  obtain ⟨bi, oi, hRi, hli⟩ := hm1.cell hi' (by omega)
  obtain ⟨bj, oj, hRj, hlj⟩ := hm1.cell hj (by omega)
  obtain ⟨bk, ok, hRk, hlk⟩ := hm1.cell hk (by omega)
  have ri := hld i hi'
  have rj := hld j hj
  have rk := hld k hk
  rw [hRi] at ri
  rw [hRj] at rj
  rw [hRk] at rk
  have c1 := hli j (by omega)
  have c2 := hlk l (by omega)
  have c3 := hli k (by omega)
  have c4 := hlj l (by omega)
  have c5 := hli l (by omega)
  have c6 := hlj k (by omega)
  have x1 := (hr i hi').2 j hj
  have x2 := (hr k hk).2 l hl
  have x3 := (hr i hi').2 k hk
  have x4 := (hr j hj).2 l hl
  have x5 := (hr i hi').2 l hl
  have x6 := (hr j hj).2 k hk
  try simp only [zaa,zab,zac,zad,zae,zaf,zag,zah,zai,zaj,zak,zal,zam,zan,zao,zap,zaq,zar,zas,zat,zau,zav,zaw,zax,zay,zaz,zba,zbb,zbc,zbd,zbe,zbf,zbg,zbh,zbi,zbj,zbk,zbl,zbm,zbn,zbo,zbp,zbq,zbr,zbs,zbt,zbu,zbv,zbw,zbx,zby,zbz,zca,zcb,zcc,zcd,zce,zcf,zcg,zch,zci,zcj,zck,zcl,zcm,zcn,zco,zcp,zcq,zcr,zcs,zct,zcu,zcv,zcw,zcx,zcy,zcz,zda,zdb,zdc,zdd,guardV,nth,zde,zdf,zdg,zdh,zdi,Nat.reduceEqDiff,reduceIte,zdj,zdk,zdl,resultsA,RetO,Nat.reduceLT,zdm,zdn,zdo,zdp,zdq,zdr,zds,zdt,zdu,zdv,zdw,zdx,zdy,zdz,zea,zeb,zec,zed,zee,zef,zeg,zeh,zei,zej,zek,zel,zem,zen,zeo]
  refine WK_regionT 45 ⟨by kernel_rfl, by kernel_rfl, by kernel_rfl⟩ ?_
  simp (maxSteps := 2000000) (disch := omega) only [zaa,zab,zac,zad,zae,zaf,zag,zah,zai,zaj,zak,zal,zam,zan,zao,zap,zaq,zar,zas,zat,zau,zav,zaw,zax,zay,zaz,zba,zbb,zbc,zbd,zbe,zbf,zbg,zbh,zbi,zbj,zbk,zbl,zbm,zbn,zbo,zbp,zbq,zbr,zbs,zbt,zbu,zbv,zbw,zbx,zby,zbz,zca,zcb,zcc,zcd,zce,zcf,zcg,zch,zci,zcj,zck,zcl,zcm,zcn,zco,zcp,zcq,zcr,zcs,zct,zcu,zcv,zcw,zcx,zcy,zcz,zda,zdb,zdc,zdd,guardV,nth,zde,zdf,zdg,zdh,zdi,Nat.reduceEqDiff,reduceIte,zdj,zdk,zdl,resultsA,RetO,Nat.reduceLT,zdm,zdn,zdo,zdp,zdq,zdr,zds,zdt,zdu,zdv,zdw,zdx,zdy,zdz,zea,zeb,zec,zed,zee,zef,zeg,zeh,zei,zej,zek,zel,zem,zen,zeo, idxA22, idxA24, load24, load3, Int.toNat_natCast, Nat.mul_one, gi, gj, gk, ri, rj, rk, c1, c2, c3, c4, c5, c6, wrap_i64, build113]
  refine At_storeV (b := h.next) (L := [.int .i64 0, .int .i64 0, .int .i64 0]) (v := .agg #[.int .i64 (f i j + f k l), .int .i64 (f i k + f j l), .int .i64 (f i l + f j k)]) i113 (by simp only [zaa,zab,zac,zad,zae,zaf,zag,zah,zai,zaj,zak,zal,zam,zan,zao,zap,zaq,zar,zas,zat,zau,zav,zaw,zax,zay,zaz,zba,zbb,zbc,zbd,zbe,zbf,zbg,zbh,zbi,zbj,zbk,zbl,zbm,zbn,zbo,zbp,zbq,zbr,zbs,zbt,zbu,zbv,zbw,zbx,zby,zbz,zca,zcb,zcc,zcd,zce,zcf,zcg,zch,zci,zcj,zck,zcl,zcm,zcn,zco,zcp,zcq,zcr,zcs,zct,zcu,zcv,zcw,zcx,zcy,zcz,zda,zdb,zdc,zdd,guardV,nth,zde,zdf,zdg,zdh,zdi,Nat.reduceEqDiff,reduceIte,zdj,zdk,zdl,resultsA,RetO,Nat.reduceLT,zdm,zdn,zdo,zdp,zdq,zdr,zds,zdt,zdu,zdv,zdw,zdx,zdy,zdz,zea,zeb,zec,zed,zee,zef,zeg,zeh,zei,zej,zek,zel,zem,zen,zeo]) (by (simp only [zaa,zab,zac,zad,zae,zaf,zag,zah,zai,zaj,zak,zal,zam,zan,zao,zap,zaq,zar,zas,zat,zau,zav,zaw,zax,zay,zaz,zba,zbb,zbc,zbd,zbe,zbf,zbg,zbh,zbi,zbj,zbk,zbl,zbm,zbn,zbo,zbp,zbq,zbr,zbs,zbt,zbu,zbv,zbw,zbx,zby,zbz,zca,zcb,zcc,zcd,zce,zcf,zcg,zch,zci,zcj,zck,zcl,zcm,zcn,zco,zcp,zcq,zcr,zcs,zct,zcu,zcv,zcw,zcx,zcy,zcz,zda,zdb,zdc,zdd,guardV,nth,zde,zdf,zdg,zdh,zdi,Nat.reduceEqDiff,reduceIte,zdj,zdk,zdl,resultsA,RetO,Nat.reduceLT,zdm,zdn,zdo,zdp,zdq,zdr,zds,zdt,zdu,zdv,zdw,zdx,zdy,zdz,zea,zeb,zec,zed,zee,zef,zeg,zeh,zei,zej,zek,zel,zem,zen,zeo]) <;> rfl) hvar (by rw [size113]; rfl) (by rw [size113]; rfl) rfl (by rw [En_G]; omega) fun h2 hs2 hv2 => ?_
  have lz2 : (Value.agg #[.int .i64 (f i j + f k l), .int .i64 (f i k + f j l), .int .i64 (f i l + f j k)]).cells.toList = [.int .i64 (f i j + f k l), .int .i64 (f i k + f j l), .int .i64 (f i l + f j k)] := rfl
  rw [lz2] at hv2
  simp only [zaa,zab,zac,zad,zae,zaf,zag,zah,zai,zaj,zak,zal,zam,zan,zao,zap,zaq,zar,zas,zat,zau,zav,zaw,zax,zay,zaz,zba,zbb,zbc,zbd,zbe,zbf,zbg,zbh,zbi,zbj,zbk,zbl,zbm,zbn,zbo,zbp,zbq,zbr,zbs,zbt,zbu,zbv,zbw,zbx,zby,zbz,zca,zcb,zcc,zcd,zce,zcf,zcg,zch,zci,zcj,zck,zcl,zcm,zcn,zco,zcp,zcq,zcr,zcs,zct,zcu,zcv,zcw,zcx,zcy,zcz,zda,zdb,zdc,zdd,guardV,nth,zde,zdf,zdg,zdh,zdi,Nat.reduceEqDiff,reduceIte,zdj,zdk,zdl,resultsA,RetO,Nat.reduceLT,zdm,zdn,zdo,zdp,zdq,zdr,zds,zdt,zdu,zdv,zdw,zdx,zdy,zdz,zea,zeb,zec,zed,zee,zef,zeg,zeh,zei,zej,zek,zel,zem,zen,zeo, evLoad_loadO, hv2.loadA agg113 i113 (by rw [size113]; rfl)]
  exact hQ' _ _ ⟨pr1.trans (hs2.pres (Nat.le_refl _)), rfl⟩

theorem once_sorted {a b c x y z : Int} (hp : [x, y, z].Perm [a, b, c]) (h1 : x ≤ y) (h2 : y ≤ z) : Once a b c ↔ y ≠ z := by
  have hc := hp.count_eq z
  have ha : a ∈ [x, y, z] := hp.mem_iff.2 (by simp)
  have hb : b ∈ [x, y, z] := hp.mem_iff.2 (by simp)
  have hc' : c ∈ [x, y, z] := hp.mem_iff.2 (by simp)
  simp only [List.mem_cons, List.not_mem_nil, or_false] at ha hb hc'
  simp only [List.count_cons, List.count_nil, beq_iff_eq] at hc
  unfold Once
  by_cases e1 : a = z <;> by_cases e2 : b = z <;> by_cases e3 : c = z <;> by_cases e4 : y = z <;> by_cases e5 : x = z <;> simp [e1, e2, e3, e4, e5] at hc ⊢ <;> omega

set_option maxHeartbeats 16000000 in
theorem isGreatestOnce_spec {G : Nat} {a b c : Int} {h : H} (hG : G ≤ h.next) :
    Spec Tryz.prog (En G) 89 [.agg #[.int .i64 a, .int .i64 b, .int .i64 c]] h fun v _ => ∃ r, v = .bool r ∧ (r = true ↔ Once a b c) := by
  refine CallsE_enter (En_known (by decide)) (En_f.trans Tryz.func89) rfl ⟨Nat.le_of_ble_eq_true rfl, by decide⟩ fun Q' hQ' => ?_
  simp only [Tryz.f89, zaa,zab,zac,zad,zae,zaf,zag,zah,zai,zaj,zak,zal,zam,zan,zao,zap,zaq,zar,zas,zat,zau,zav,zaw,zax,zay,zaz,zba,zbb,zbc,zbd,zbe,zbf,zbg,zbh,zbi,zbj,zbk,zbl,zbm,zbn,zbo,zbp,zbq,zbr,zbs,zbt,zbu,zbv,zbw,zbx,zby,zbz,zca,zcb,zcc,zcd,zce,zcf,zcg,zch,zci,zcj,zck,zcl,zcm,zcn,zco,zcp,zcq,zcr,zcs,zct,zcu,zcv,zcw,zcx,zcy,zcz,zda,zdb,zdc,zdd,guardV,nth,zde,zdf,zdg,zdh,zdi,Nat.reduceEqDiff,reduceIte,zdj,zdk,zdl,resultsA,RetO,Nat.reduceLT,zdm,zdn,zdo,zdp,zdq,zdr,zds,zdt,zdu,zdv,zdw,zdx,zdy,zdz,zea,zeb,zec,zed,zee,zef,zeg,zeh,zei,zej,zek,zel,zem,zen,zeo]
  refine At_box (v := .agg #[.int .i64 a, .int .i64 b, .int .i64 c]) (by (simp only [zaa,zab,zac,zad,zae,zaf,zag,zah,zai,zaj,zak,zal,zam,zan,zao,zap,zaq,zar,zas,zat,zau,zav,zaw,zax,zay,zaz,zba,zbb,zbc,zbd,zbe,zbf,zbg,zbh,zbi,zbj,zbk,zbl,zbm,zbn,zbo,zbp,zbq,zbr,zbs,zbt,zbu,zbv,zbw,zbx,zby,zbz,zca,zcb,zcc,zcd,zce,zcf,zcg,zch,zci,zcj,zck,zcl,zcm,zcn,zco,zcp,zcq,zcr,zcs,zct,zcu,zcv,zcw,zcx,zcy,zcz,zda,zdb,zdc,zdd,guardV,nth,zde,zdf,zdg,zdh,zdi,Nat.reduceEqDiff,reduceIte,zdj,zdk,zdl,resultsA,RetO,Nat.reduceLT,zdm,zdn,zdo,zdp,zdq,zdr,zds,zdt,zdu,zdv,zdw,zdx,zdy,zdz,zea,zeb,zec,zed,zee,zef,zeg,zeh,zei,zej,zek,zel,zem,zen,zeo]) <;> rfl) (by omega) fun h1 hn1 => ?_
  have n1 := hn1.next
  have pr1 : Pres h.next h h1 := hn1.pres (Nat.le_refl _)
  have hvar := hn1.var
  have lz : (Value.agg #[.int .i64 a, .int .i64 b, .int .i64 c]).cells.toList = ints [a, b, c] := rfl
  rw [lz] at hvar
  have hsl := slice113 (G := G) (B := h1.blks) (b := h.next) (cells := Tr.ofList (ints [a, b, c])) (by rw [hn1.get, if_pos rfl]; rfl)
  simp only [zaa,zab,zac,zad,zae,zaf,zag,zah,zai,zaj,zak,zal,zam,zan,zao,zap,zaq,zar,zas,zat,zau,zav,zaw,zax,zay,zaz,zba,zbb,zbc,zbd,zbe,zbf,zbg,zbh,zbi,zbj,zbk,zbl,zbm,zbn,zbo,zbp,zbq,zbr,zbs,zbt,zbu,zbv,zbw,zbx,zby,zbz,zca,zcb,zcc,zcd,zce,zcf,zcg,zch,zci,zcj,zck,zcl,zcm,zcn,zco,zcp,zcq,zcr,zcs,zct,zcu,zcv,zcw,zcx,zcy,zcz,zda,zdb,zdc,zdd,guardV,nth,zde,zdf,zdg,zdh,zdi,Nat.reduceEqDiff,reduceIte,zdj,zdk,zdl,resultsA,RetO,Nat.reduceLT,zdm,zdn,zdo,zdp,zdq,zdr,zds,zdt,zdu,zdv,zdw,zdx,zdy,zdz,zea,zeb,zec,zed,zee,zef,zeg,zeh,zei,zej,zek,zel,zem,zen,zeo, hsl]
  refine CallO_any (sort_spec (n := 3) (c := 3) hvar rfl hG (by omega) (by decide)) (by omega) fun v h2 ⟨l', hp, hs, hv2, hw⟩ => ?_
  have hlen : l'.length = 3 := by rw [hp.length_eq]; rfl
  match l', hlen with
  | [x, y, z], _ =>
  have hxy : x ≤ y ∧ y ≤ z := by
    unfold Srt at hs
    simp only [List.pairwise_cons, List.mem_cons, List.not_mem_nil, or_false] at hs
    exact ⟨hs.1 y (.inl rfl), hs.2.1 z rfl⟩
  have l0 : loadv h2.blks h.next (0 + 0) = some (.int .i64 x) := hv2.load (i := 0) (by simp [ints])
  have l2 : loadv h2.blks h.next (0 + 2) = some (.int .i64 z) := hv2.load (i := 2) (by simp [ints])
  have l0' : loadv h2.blks h.next 0 = some (.int .i64 x) := l0
  have l2' : loadv h2.blks h.next 2 = some (.int .i64 z) := l2
  have i0 : Int.toNat 0 = 0 := rfl
  have i2 : Int.toNat 2 = 2 := rfl
  have lA := hv2.loadA (E := En G) agg113 i113 (by rw [size113]; rfl)
  have lA' : loadO (En G) 113 h2.blks (some (.pointer (some ⟨h.next, 0, none⟩))) = some (.agg #[.int .i64 x, .int .i64 y, .int .i64 z]) := lA
  simp (disch := omega) only [zaa,zab,zac,zad,zae,zaf,zag,zah,zai,zaj,zak,zal,zam,zan,zao,zap,zaq,zar,zas,zat,zau,zav,zaw,zax,zay,zaz,zba,zbb,zbc,zbd,zbe,zbf,zbg,zbh,zbi,zbj,zbk,zbl,zbm,zbn,zbo,zbp,zbq,zbr,zbs,zbt,zbu,zbv,zbw,zbx,zby,zbz,zca,zcb,zcc,zcd,zce,zcf,zcg,zch,zci,zcj,zck,zcl,zcm,zcn,zco,zcp,zcq,zcr,zcs,zct,zcu,zcv,zcw,zcx,zcy,zcz,zda,zdb,zdc,zdd,guardV,nth,zde,zdf,zdg,zdh,zdi,Nat.reduceEqDiff,reduceIte,zdj,zdk,zdl,resultsA,RetO,Nat.reduceLT,zdm,zdn,zdo,zdp,zdq,zdr,zds,zdt,zdu,zdv,zdw,zdx,zdy,zdz,zea,zeb,zec,zed,zee,zef,zeg,zeh,zei,zej,zek,zel,zem,zen,zeo, lA', idxP113, i0, i2, Nat.mul_one, load3, l0, l2, l0', l2', build113, ne113]
  refine hQ' _ _ ⟨pr1.trans (hw.pres), _, rfl, ?_⟩
  rw [once_sorted hp hxy.1 hxy.2]
  simp
end
end Go.Proofs.YtdgdemiifloliaaGreatDoor.Ev
