/- Slices of numbers and pairs; small functions. -/
import Derived.Test.YthiodndhokooiaaGreatDoorPmmS1
import Derived.Test.YthiodndhokooiaaGreatDoorPmBt
set_option linter.unusedSimpArgs false
namespace Go.Proofs.YthiodndhokooiaaGreatDoor.Ev
open Go Go.Proofs
noncomputable section

theorem sliceO_take {E : Env} {B : Tr Blk} {lo hi sz n c m : Nat} {kd : IntKind} {t elem : TypeId} {inf : TypeInfo} {A : Option Addr} {L : List Value} (hu : E.u t = some (.slice elem)) (hi' : E.i elem = some inf) (hsz : inf.size = sz) (s : SlV B lo hi sz n L (.slice A n c)) (hm : m ≤ n) :
    ∃ A' c', sliceO E t B (some (.slice A n c)) (some []) (some [.int kd m]) = some (.slice A' m c') ∧ SlV B lo hi sz m (L.take (m * sz)) (.slice A' m c') := by
  cases s with
  | nil hn hL =>
    subst hL
    obtain rfl : m = 0 := by omega
    refine ⟨none, 0, ?_, .nil rfl (by simp)⟩
    show evSlice E ⟨B, 0, 0⟩ t (.slice none 0 0) none (some (.int kd (Int.ofNat 0))) = _
    simp [evSlice, hu, hi', bound]
  | emp hn hL =>
    subst hL
    obtain rfl : m = 0 := by omega
    refine ⟨some ⟨0, 0, some 0⟩, 0, ?_, .emp rfl (by simp)⟩
    show evSlice E ⟨B, 0, 0⟩ t (.slice (some ⟨0, 0, some 0⟩) 0 0) none (some (.int kd (Int.ofNat 0))) = _
    simp [evSlice, hu, hi', bound]
  | mk hb hlo hhi hs hL hc =>
    rename_i b off size cells
    have hmul : m * sz ≤ n * sz := Nat.mul_le_mul_right _ hm
    refine ⟨some ⟨b, off, none⟩, c, ?_, .mk hb hlo hhi (by omega) (by simp; omega) fun i hi => ?_⟩
    · show evSlice E ⟨B, 0, 0⟩ t (.slice (some ⟨b, off, none⟩) n c) none (some (.int kd (Int.ofNat m))) = _
      simp [evSlice, hu, hi', bound, hm, hb, hsz, forceN_eq]
    · rw [hc i (by omega), List.getElem?_take, if_pos hi]

section
variable {P : Program} {n : Nat} {ops : List Oper} {r tl : List Oper} {k : List Frm} {α : Tr Value} {h : H} {R : Rt} {ty : TypeId} {pos : String} {af : Array Edge}
end


/-- numbers as values -/
def ints (l : List Int) : List Value := l.map (Value.int .i64)
theorem ints_len {l : List Int} : (ints l).length = l.length := by simp [ints]
theorem ints_app {l m : List Int} : ints (l ++ m) = ints l ++ ints m := by simp [ints]
theorem SlV.blk {B : Tr Blk} {lo hi sz n : Nat} {L : List Value} {v : Value} (s : SlV B lo hi sz n L v) (b : Nat) (hb : blkOf v = some b) : lo ≤ b := by
  cases s with
  | nil _ _ => cases hb
  | emp _ _ => cases hb
  | mk _ hlo _ _ _ _ => simp only [blkOf, Option.some.injEq] at hb; omega
section
variable {P : Program} {n : Nat} {ops : List Oper} {r tl : List Oper} {k : List Frm} {α : Tr Value} {h : H} {R : Rt} {ty : TypeId} {pos : String} {af : Array Edge}
/-- l = append(l, z) -/
theorem At_pushI {G s d1 d lo hi : Nat} {x : Operand} {l : List Int} {z : Int} {A : Option Addr} {ty' : TypeId} {pos' : String} {af' : Array Edge} (hx : ev (En G) h α x = some (.int .i64 z)) (hs : α.get s = some (.slice A l.length l.length))
    (hsl : SlV h.blks lo hi 1 l.length (ints l) (.slice A l.length l.length)) (hhi : hi ≤ h.next) (hG : G ≤ lo) (hlo : lo ≤ h.next) (hsm : l.length < 2147483640) (hsd : s ≠ d1) (hd1 : d1 < n) (hd : d < n)
    (hk : ∀ A' h', Pres lo h h' → SlV h'.blks lo h'.next 1 (l ++ [z]).length (ints (l ++ [z])) (.slice A' (l ++ [z]).length (l ++ [z]).length) → h.next ≤ h'.next →
      At P (En G) n ops false r tl k (Tr.put (Tr.put α d1 (.slice (some ⟨h.next, 0, none⟩) 1 1)) d (.slice A' (l ++ [z]).length (l ++ [z]).length)) h' R) :
    At P (En G) n ops false (⟨some d1, .buildSlice 26 1 #[(0, x)], ty, pos, af, none⟩ :: ⟨some d, .call ⟨.builtin .append, #[.tmp s, .tmp d1], #[26, 26]⟩, ty', pos', af', none⟩ :: r) tl k α h R := by
  refine At_push (lo := lo) (hi := hi) (L := ints l) (vs := [.int .i64 z]) u26 i3 zero3 (by rw [size3, bytes3]; rfl) hx (by rw [size3]; rfl) (by rw [size3]; rfl) rfl hs (by rw [size3]; exact hsl) hhi (Nat.le_refl _) (by rw [En_G]; exact hG) hsm hsd hd1 hd fun h' hp => ?_
  rw [size3] at hp
  have e : ints l ++ [.int .i64 z] = ints (l ++ [z]) := by simp [ints]
  rw [e] at hp
  have hsl' := hp.slv (n := (l ++ [z]).length) (c := (l ++ [z]).length) (by rw [ints_len, Nat.mul_one])
  have hnx := hp.next
  have := hk (some ⟨h.next + 1, 0, none⟩) h' (hp.pres hlo hsl.blk) (hsl'.wide (by omega) (Nat.le_refl _)) (by omega)
  rw [List.length_append, List.length_singleton] at this
  exact this
end

/-- pairs of numbers in memory -/
def prs (ps : List (Int × Int)) : List Value := ps.flatMap fun p => [.int .i64 p.1, .int .i64 p.2]
theorem prs_len {ps : List (Int × Int)} : (prs ps).length = ps.length * 2 := by
  induction ps with
  | nil => rfl
  | cons p ps ih => simp only [prs, List.flatMap_cons, List.length_append, List.length_cons, List.length_nil] at ih ⊢; omega
theorem prs_get : ∀ {ps : List (Int × Int)} {i : Nat} {p : Int × Int}, ps[i]? = some p → (prs ps)[i * 2]? = some (.int .i64 p.1) ∧ (prs ps)[i * 2 + 1]? = some (.int .i64 p.2)
  | q :: ps, 0, p, h => by simp at h; subst h; simp [prs]
  | q :: ps, i + 1, p, h => by
    have h' : ps[i]? = some p := by simpa using h
    have := prs_get h'
    rw [show (i + 1) * 2 = i * 2 + 1 + 1 by omega]
    simpa [prs] using this
theorem prs_take {ps : List (Int × Int)} {m : Nat} : (prs ps).take (m * 2) = prs (ps.take m) := by
  induction ps generalizing m with
  | nil => simp [prs]
  | cons p ps ih =>
    cases m with
    | zero => simp [prs]
    | succ m =>
      have := ih (m := m)
      simp only [prs, List.flatMap_cons, List.take_succ_cons] at this ⊢
      rw [← this, show (m + 1) * 2 = m * 2 + 1 + 1 by omega]
      rfl
theorem prs_one {ps : List (Int × Int)} : (prs ps).all oneB = true := by
  rw [List.all_eq_true]
  intro v hv
  simp only [prs, List.mem_flatMap] at hv
  obtain ⟨p, _, hp⟩ := hv
  rcases List.mem_cons.1 hp with rfl | hp
  · rfl
  · rw [List.mem_singleton.1 hp]; rfl
theorem prs_drop : ∀ {ps : List (Int × Int)} {i : Nat} {p : Int × Int}, ps[i]? = some p → ((prs ps).drop (i * 2)).take 2 = [.int .i64 p.1, .int .i64 p.2]
  | q :: ps, 0, p, h => by simp at h; subst h; simp [prs]
  | q :: ps, i + 1, p, h => by
    have h' : ps[i]? = some p := by simpa using h
    have := prs_drop h'
    rw [show (i + 1) * 2 = i * 2 + 1 + 1 by omega]
    simpa [prs] using this
theorem SlV.pr_at {B : Tr Blk} {lo hi n c b off : Nat} {ps : List (Int × Int)} (s : SlV B lo hi 2 n (prs ps) (.slice (some ⟨b, off, none⟩) n c)) {i : Nat} {p : Int × Int} (hp : ps[i]? = some p) : loadv B b (off + i * 2) = some (.int .i64 p.1) ∧ loadv B b (off + i * 2 + 1) = some (.int .i64 p.2) := by
  have hn : ps.length = n := by have := s.len; rw [prs_len] at this; omega
  have hi : i < ps.length := (List.getElem?_eq_some_iff.1 hp).1
  obtain ⟨b', off', e, _, _, hld⟩ := s.at_ (by omega)
  injection e with e
  injection e with e1 e2
  subst e1; subst e2
  have := prs_get hp
  exact ⟨by rw [hld _ (by omega)]; exact this.1, by rw [Nat.add_assoc, hld _ (by omega)]; exact this.2⟩
theorem SlV.loadA {E : Env} {B : Tr Blk} {lo hi n b off c sz i : Nat} {t : TypeId} {inf : TypeInfo} {L : List Value} (s : SlV B lo hi sz n L (.slice (some ⟨b, off, none⟩) n c)) (ht : E.agg t = some true) (hi' : E.i t = some inf) (hsz : inf.size = sz) (hin : i < n) :
    loadO E t B (some (.pointer (some ⟨b, off + i * sz, none⟩))) = some (.agg ((L.drop (i * sz)).take sz).toArray) := by
  subst hsz
  cases s with
  | mk hb hlo hhi hsz hL hc =>
    have h1 : i * inf.size + inf.size ≤ n * inf.size := by
      rw [← Nat.succ_mul]; exact Nat.mul_le_mul_right _ hin
    refine loadO_agg ht hi' hb (by omega) (by simp; omega) fun j hj => ?_
    rw [Nat.add_assoc, hc _ (by omega), List.getElem?_take, if_pos hj, List.getElem?_drop]

/-- sets of jobs in memory -/
def u64s (l : List Nat) : List Value := l.map fun (x : Nat) => .int .u64 x
theorem u64s_len {l : List Nat} : (u64s l).length = l.length := by simp [u64s]
theorem SlV.u64_at {B : Tr Blk} {lo hi n c b off j : Nat} {l : List Nat} (s : SlV B lo hi 1 n (u64s l) (.slice (some ⟨b, off, none⟩) n c)) (hj : j < n) : loadv B b (off + j) = some (.int .u64 (l.getD j 0 : Nat)) := by
  have hn : l.length = n := by have := s.len; rw [u64s_len] at this; omega
  obtain ⟨b', off', e, _, _, hld⟩ := s.at_ (by omega)
  injection e with e
  injection e with e1 e2
  subst e1; subst e2
  rw [hld _ (by omega)]
  simp [u64s, show j < l.length by omega]

theorem bin_and1 {P : Program} {E : Env} {kd : IntKind} [hk : K64 kd] {t : TypeId} {a : Nat} (ha : a < 2 ^ 63) : binO P E .and t (some (.int kd a)) (some (.int kd 1)) = some (.int kd ((a &&& 1 : Nat) : Int)) := bin_and (b := 1) ha (by decide)
theorem shr_lt {a b : Nat} (ha : a < 2 ^ 63) : a >>> b < 2 ^ 63 := by
  have : a >>> b ≤ a := by rw [Nat.shiftRight_eq_div_pow]; exact Nat.div_le_self _ _
  omega
theorem has_spec {G : Nat} {S j : Nat} {h : H} (hS : S < 2 ^ 63) (hj : j < 64) : Spec Tryz.prog (En G) 55 [.int .u64 S, .int .i64 j] h fun v h' => v = .bool (S.testBit j) ∧ h' = h := by
  refine CallsE_enter (En_known (by decide)) (En_f.trans Tryz.func55) rfl ⟨Nat.le_of_ble_eq_true rfl, by decide⟩ fun Q' hQ' => ?_
  have hs := shr_lt (b := j) hS
  simp (disch := omega) only [Tryz.f55, zaa,zab,zac,zad,zae,zaf,zag,zah,zai,zaj,zak,zal,zam,zan,zao,zap,zaq,zar,zas,zat,zau,zav,zaw,zax,zay,zaz,zba,zbb,zbc,zbd,zbe,zbf,zbg,zbh,zbi,zbj,zbk,zbl,zbm,zbn,zbo,zbp,zbq,zbr,zbs,zbt,zbu,zbv,zbw,zbx,zby,zbz,zca,zcb,zcc,zcd,zce,zcf,zcg,zch,zci,zcj,zck,zcl,zcm,zcn,zco,zcp,zcq,zcr,zcs,zct,zcu,zcv,zcw,zcx,zcy,zcz,zda,zdb,zdc,zdd,guardV,nth,zde,zdf,zdg,zdh,zdi,Nat.reduceEqDiff,reduceIte,zdj,zdk,zdl,resultsA,RetO,Nat.reduceLT,zdm,zdn,zdo,zdp,zdq,zdr,zds,zdt,zdu,zdv,zdw,zdx,zdy,zdz,zea,zeb,zec,zed,zee,zef,zeg,zeh,zei,zej,zek,zel,zem,zen,zeo,zep,zeq, bin_shr, bin_and1, tb_int]
  exact hQ' _ _ ⟨Pres.refl _ _, rfl, rfl⟩
theorem isWeight_spec {G : Nat} {z : Int} {h : H} : Spec Tryz.prog (En G) 53 [.int .i64 z] h fun v h' => v = .bool (decide (0 ≤ z ∧ z ≤ 50)) ∧ h' = h := by
  refine CallsE_enter (En_known (by decide)) (En_f.trans Tryz.func53) rfl ⟨Nat.le_of_ble_eq_true rfl, by decide⟩ fun Q' hQ' => ?_
  by_cases h0 : 0 ≤ z <;> by_cases h1 : z ≤ 50 <;>
    (simp only [Tryz.f53, zaa,zab,zac,zad,zae,zaf,zag,zah,zai,zaj,zak,zal,zam,zan,zao,zap,zaq,zar,zas,zat,zau,zav,zaw,zax,zay,zaz,zba,zbb,zbc,zbd,zbe,zbf,zbg,zbh,zbi,zbj,zbk,zbl,zbm,zbn,zbo,zbp,zbq,zbr,zbs,zbt,zbu,zbv,zbw,zbx,zby,zbz,zca,zcb,zcc,zcd,zce,zcf,zcg,zch,zci,zcj,zck,zcl,zcm,zcn,zco,zcp,zcq,zcr,zcs,zct,zcu,zcv,zcw,zcx,zcy,zcz,zda,zdb,zdc,zdd,guardV,nth,zde,zdf,zdg,zdh,zdi,Nat.reduceEqDiff,reduceIte,zdj,zdk,zdl,resultsA,RetO,Nat.reduceLT,zdm,zdn,zdo,zdp,zdq,zdr,zds,zdt,zdu,zdv,zdw,zdx,zdy,zdz,zea,zeb,zec,zed,zee,zef,zeg,zeh,zei,zej,zek,zel,zem,zen,zeo,zep,zeq, h0, h1]; exact hQ' _ _ ⟨Pres.refl _ _, by simp [h0, h1], rfl⟩)
theorem in_spec {G : Nat} {z a b : Int} {h : H} : Spec Tryz.prog (En G) 25 [.int .i64 z, .int .i64 a, .int .i64 b] h fun v h' => v = .bool (decide (a ≤ z ∧ z ≤ b)) ∧ h' = h := by
  refine CallsE_enter (En_known (by decide)) (En_f.trans Tryz.func25) rfl ⟨Nat.le_of_ble_eq_true rfl, by decide⟩ fun Q' hQ' => ?_
  by_cases h0 : a ≤ z <;> by_cases h1 : z ≤ b <;>
    (simp only [Tryz.f25, zaa,zab,zac,zad,zae,zaf,zag,zah,zai,zaj,zak,zal,zam,zan,zao,zap,zaq,zar,zas,zat,zau,zav,zaw,zax,zay,zaz,zba,zbb,zbc,zbd,zbe,zbf,zbg,zbh,zbi,zbj,zbk,zbl,zbm,zbn,zbo,zbp,zbq,zbr,zbs,zbt,zbu,zbv,zbw,zbx,zby,zbz,zca,zcb,zcc,zcd,zce,zcf,zcg,zch,zci,zcj,zck,zcl,zcm,zcn,zco,zcp,zcq,zcr,zcs,zct,zcu,zcv,zcw,zcx,zcy,zcz,zda,zdb,zdc,zdd,guardV,nth,zde,zdf,zdg,zdh,zdi,Nat.reduceEqDiff,reduceIte,zdj,zdk,zdl,resultsA,RetO,Nat.reduceLT,zdm,zdn,zdo,zdp,zdq,zdr,zds,zdt,zdu,zdv,zdw,zdx,zdy,zdz,zea,zeb,zec,zed,zee,zef,zeg,zeh,zei,zej,zek,zel,zem,zen,zeo,zep,zeq, h0, h1]; exact hQ' _ _ ⟨Pres.refl _ _, by simp [h0, h1], rfl⟩)
end
end Go.Proofs.YthiodndhokooiaaGreatDoor.Ev

