/- rest, by the program and by the reference. -/
import Derived.Test.YthankillfhmfkaaGreatDoorPmAA
import Derived.Test.YthankillfhmfkaaGreatDoorPmsS1
set_option linter.unusedSimpArgs false
set_option linter.unusedVariables false
namespace Go.Proofs.YthankillfhmfkaaGreatDoor.Ev
open Go Go.Proofs
noncomputable section

/-- what is left of a seam when a beginning of it is taken away -/
def takeB (cm : Nat → Nat → Bool) : List UInt8 → List UInt8 → Option (List UInt8)
  | [], t => some t
  | c :: r, t => if 0 ≤ fg cm (lt c) t 0 then takeB cm r (wo t (at0 cm (lt c) t)) else none
theorem takeB_step {cm : Nat → Nat → Bool} {b t : List UInt8} {i : Nat} {c : UInt8} (hc : b[i]? = some c) : takeB cm (b.drop i) t = if 0 ≤ fg cm (lt c) t 0 then takeB cm (b.drop (i + 1)) (wo t (at0 cm (lt c) t)) else none := by
  obtain ⟨g, rfl⟩ := List.getElem?_eq_some_iff.1 hc
  rw [List.drop_eq_getElem_cons g, takeB]
theorem takeB_congr {cm cm' : Nat → Nat → Bool} (h : ∀ a b, a < 6 → b < 6 → cm a b = cm' a b) : ∀ (b t : List UInt8), OkL 6 b → OkL 6 t → takeB cm b t = takeB cm' b t
  | [], _, _, _ => rfl
  | c :: r, t, hb, ht => by
    have hc := hb c List.mem_cons_self
    have e : fg cm (lt c) t 0 = fg cm' (lt c) t 0 := fg_congr (fun a ha => h a _ ha (by unfold lt; omega)) t 0 ht
    have e2 : at0 cm (lt c) t = at0 cm' (lt c) t := by unfold at0; rw [e]
    unfold takeB
    rw [e, e2, takeB_congr h r _ (fun x hx => hb x (List.mem_cons_of_mem _ hx)) ht.wo]
theorem wo_le {l : List UInt8} {i : Nat} : (wo l i).length ≤ l.length := by simp [wo]; omega
theorem takeB_ok {cm : Nat → Nat → Bool} {K : Nat} : ∀ (b t r : List UInt8), OkL K t → takeB cm b t = some r → OkL K r ∧ r.length ≤ t.length
  | [], t, r, ht, h => by
    unfold takeB at h
    cases h
    exact ⟨ht, Nat.le_refl _⟩
  | c :: b, t, r, ht, h => by
    unfold takeB at h
    split at h
    · have := takeB_ok b _ r ht.wo h
      exact ⟨this.1, Nat.le_trans this.2 wo_le⟩
    · cases h

def restV (f : List UInt8 → List UInt8) (o : Option (List UInt8)) : Value := match o with
  | some t => .tuple #[strV (f t), .bool true]
  | none => .tuple #[strV [], .bool false]

set_option maxHeartbeats 8000000 in
theorem rest_spec {G k : Nat} {m : List Bool} {b l : List UInt8} {h : H} (hG : G ≤ h.next) (hm : m.length = 36) (hb : OkL 6 b) (hl : OkL 6 l) (hbl : b.length < 1000000) (hlen : l.length < 1000000) :
    Spec Tryz.prog (En G) 78 [thrV k m, strV b, strV l] h fun v _ => v = restV id (takeB (mcomm m) b l) := by
  refine CallsE_enter (En_known (by decide)) (En_f.trans Tryz.func78) rfl ⟨Nat.le_of_ble_eq_true rfl, by decide⟩ fun Q' hQ' => ?_
  simp only [Tryz.f78, go_sem,reduceIte,Nat.reduceEqDiff,Nat.reduceLT]
  refine At_box (v := thrV k m) (by simp only [go_sem,reduceIte,Nat.reduceEqDiff,Nat.reduceLT]) (by omega) fun h1 hn1 => ?_
  have n1 := hn1.next
  have v3 : Var h1.blks h.next (thrL k m) := hn1.var
  try simp only [go_sem,reduceIte,Nat.reduceEqDiff,Nat.reduceLT]
  refine At_box (v := strV l) (by simp only [go_sem,reduceIte,Nat.reduceEqDiff,Nat.reduceLT]) (by omega) fun h2 hn2 => ?_
  have n2 := hn2.next
  have v5 : Var h2.blks h1.next [strV l] := hn2.var
  replace v3 := v3.mono (B' := h2.blks) (by rw [hn2.get, if_neg (by omega)])
  try simp only [go_sem,reduceIte,Nat.reduceEqDiff,Nat.reduceLT]
  refine At_alloc i9 zero9 rfl (by omega) fun h3 hn3 => ?_
  have n3 := hn3.next
  have v6 : Var h3.blks h2.next [strV []] := hn3.var
  replace v3 := v3.mono (B' := h3.blks) (by rw [hn3.get, if_neg (by omega)])
  replace v5 := v5.mono (B' := h3.blks) (by rw [hn3.get, if_neg (by omega)])
  try simp only [go_sem,reduceIte,Nat.reduceEqDiff,Nat.reduceLT]
  refine At_alloc i4 zero4 rfl (by omega) fun h4 hn4 => ?_
  have n4 := hn4.next
  have v7 : Var h4.blks h3.next [.bool false] := hn4.var
  replace v3 := v3.mono (B' := h4.blks) (by rw [hn4.get, if_neg (by omega)])
  replace v5 := v5.mono (B' := h4.blks) (by rw [hn4.get, if_neg (by omega)])
  replace v6 := v6.mono (B' := h4.blks) (by rw [hn4.get, if_neg (by omega)])
  have pr4 : Pres h.next h h4 := (hn1.pres (Nat.le_refl _)).trans ((hn2.pres (by omega)).trans ((hn3.pres (by omega)).trans (hn4.pres (by omega))))
  simp only [go_sem,reduceIte,Nat.reduceEqDiff,Nat.reduceLT]
  refine CallO_f letters_spec (by omega) fun v h5 hp5 hv => ?_
  obtain ⟨rfl, n5, vs⟩ := hv
  replace v3 := v3.mono (B' := h5.blks) (hp5.get _ (by omega))
  replace v5 := v5.mono (B' := h5.blks) (hp5.get _ (by omega))
  replace v6 := v6.mono (B' := h5.blks) (hp5.get _ (by omega))
  replace v7 := v7.mono (B' := h5.blks) (hp5.get _ (by omega))
  have pr5 : Pres h.next h h5 := pr4.trans (hp5.le (by omega))
  simp only [go_sem,reduceIte,Nat.reduceEqDiff,Nat.reduceLT]
  refine WK_range (g := 111) (p0 := 13) (p1 := 14) (s := ⟨b.toArray⟩) (b := h4.next) (off := 0) (by simp only [go_sem,reduceIte,Nat.reduceEqDiff,Nat.reduceLT]) (by rw [En_iters]; rfl) rfl (by omega) (by omega) (by show b.length < _; omega) rfl
    (fun i h6 => ∃ s : List UInt8, Var h6.blks h1.next [strV s] ∧ takeB (mcomm m) b l = takeB (mcomm m) (b.drop i) s ∧ OkL 6 s ∧ s.length ≤ l.length ∧ Var h6.blks h.next (thrL k m) ∧ Var h6.blks h2.next [strV []] ∧ Var h6.blks h3.next [.bool false] ∧ Var h6.blks h4.next [strV b] ∧ Pres h.next h h6 ∧ h5.next ≤ h6.next)
    ⟨l, v5, rfl, hl, Nat.le_refl _, v3, v6, v7, vs, pr5, Nat.le_refl _⟩ (fun i h6 _ ⟨s, _, _, _, _, _, _, _, vs, _⟩ => vs.iter') ?_ ?_
  · clear v3 v5 v6 v7 vs pr5
    rintro J i h6 c ⟨s, v5, hf, hs, hsl, v3, v6, v7, vs, pr, hnx⟩ hc hJ
    rw [ba_get] at hc
    have hcl := hb c (List.mem_of_getElem? hc)
    have hlt : lt c < 6 := by unfold lt; omega
    rw [takeB_step hc] at hf
    have la := thr_loadA (G := G) v3 hm
    have l5 := v5.load (i := 0) (by simp)
    simp only [List.getElem?_cons_zero] at l5
    simp only [go_sem,reduceIte,Nat.reduceEqDiff,Nat.reduceLT, load9, l5, la]
    rw [lt_int hcl.1]
    refine CallO_f (front_spec (k := k) (x := lt c) (by omega) hm hlt hs (by omega)) (by omega) fun u h7 hp7 hu => ?_
    subst hu
    have n7 := hp7.next
    replace v3 := v3.mono (B' := h7.blks) (hp7.get _ (by omega))
    replace v5 := v5.mono (B' := h7.blks) (hp7.get _ (by omega))
    replace v6 := v6.mono (B' := h7.blks) (hp7.get _ (by omega))
    replace v7 := v7.mono (B' := h7.blks) (hp7.get _ (by omega))
    replace vs := vs.mono (B' := h7.blks) (hp7.get _ (by omega))
    replace pr := pr.trans (hp7.le (by omega))
    by_cases hf0 : 0 ≤ fg (mcomm m) (lt c) s 0
    · rw [if_pos hf0] at hf
      obtain ⟨ha1, ha2, _, _, _⟩ := at0_lt hf0
      have hwl := wo_len ha1
      rw [ha2]
      have hge : decide (((at0 (mcomm m) (lt c) s : Nat) : Int) < 0) = false := decide_eq_false (by omega)
      have l5 := v5.load (i := 0) (by simp)
      simp only [List.getElem?_cons_zero] at l5
      simp only [go_sem,reduceIte,Nat.reduceEqDiff,Nat.reduceLT, hge, load9, l5]
      refine CallO_f (without_spec ha1 (by omega)) (by omega) fun u h8 hp8 hu => ?_
      obtain ⟨rfl, rfl⟩ := hu
      try simp only [go_sem,reduceIte,Nat.reduceEqDiff,Nat.reduceLT]
      refine At_storeV (inf := inf9) (v := strV (wo s (at0 (mcomm m) (lt c) s))) i9 (by simp only [go_sem,reduceIte,Nat.reduceEqDiff,Nat.reduceLT]) (by simp only [go_sem,reduceIte,Nat.reduceEqDiff,Nat.reduceLT]; rfl) v5 (by rw [size9]; rfl) (by rw [size9]; rfl) rfl (by show G ≤ h1.next; omega) fun h9 hs9 v5' => ?_
      have n9 := hs9.next
      simp only [go_sem,reduceIte,Nat.reduceEqDiff,Nat.reduceLT]
      exact hJ _ ⟨wo s (at0 (mcomm m) (lt c) s), v5', hf, hs.wo, by omega, v3.mono (hs9.get _ (by omega)), v6.mono (hs9.get _ (by omega)), v7.mono (hs9.get _ (by omega)), vs.mono (hs9.get _ (by omega)), pr.trans (hs9.pres (by omega)), by omega⟩
    · rw [if_neg hf0] at hf
      rw [fg_neg hf0]
      have hneg : decide ((-1 : Int) < 0) = true := rfl
      simp only [go_sem,reduceIte,Nat.reduceEqDiff,Nat.reduceLT, hneg]
      refine At_storeV (inf := inf9) (v := strV []) i9 (by simp only [go_sem,reduceIte,Nat.reduceEqDiff,Nat.reduceLT]) (by simp only [go_sem,reduceIte,Nat.reduceEqDiff,Nat.reduceLT]) v6 (by rw [size9]; rfl) (by rw [size9]; rfl) rfl (by show G ≤ h2.next; omega) fun h8 hs8 v6' => ?_
      try simp only [go_sem,reduceIte,Nat.reduceEqDiff,Nat.reduceLT]
      refine At_storeV (inf := inf4) (v := .bool false) i4 (by simp only [go_sem,reduceIte,Nat.reduceEqDiff,Nat.reduceLT]) (by simp only [go_sem,reduceIte,Nat.reduceEqDiff,Nat.reduceLT]) (v7.mono (hs8.get _ (by omega))) (by rw [size4]; rfl) (by rw [size4]; rfl) rfl (by show G ≤ h3.next; omega) fun h9 hs9 v7' => ?_
      have e6 : evLoad (En G) h9 9 (.pointer (some ⟨h2.next, 0, none⟩)) = some (strV []) := ev_boxed agg9 (Var.mono (L := [strV []]) v6' (hs9.get _ (by omega)))
      have e7 : evLoad (En G) h9 4 (.pointer (some ⟨h3.next, 0, none⟩)) = some (.bool false) := ev_boxed agg4 v7'
      simp only [go_sem,reduceIte,Nat.reduceEqDiff,Nat.reduceLT, e6, e7]
      exact hQ' _ _ ⟨pr.trans ((hs8.pres (by omega)).trans (hs9.pres (by omega))), by rw [hf]; rfl⟩
  · clear v3 v5 v6 v7 vs pr5
    rintro h6 ⟨s, v5, hf, hs, hsl, v3, v6, v7, vs, pr, hnx⟩
    have hdr : b.drop (⟨b.toArray⟩ : ByteArray).size = [] := List.drop_of_length_le (Nat.le_refl _)
    rw [hdr, takeB] at hf
    have l5 := v5.load (i := 0) (by simp)
    simp only [List.getElem?_cons_zero] at l5
    simp only [go_sem,reduceIte,Nat.reduceEqDiff,Nat.reduceLT, load9, l5]
    refine At_storeV (inf := inf9) (v := strV s) i9 (by simp only [go_sem,reduceIte,Nat.reduceEqDiff,Nat.reduceLT]) (by simp only [go_sem,reduceIte,Nat.reduceEqDiff,Nat.reduceLT]) v6 (by rw [size9]; rfl) (by rw [size9]; rfl) rfl (by show G ≤ h2.next; omega) fun h8 hs8 v6' => ?_
    try simp only [go_sem,reduceIte,Nat.reduceEqDiff,Nat.reduceLT]
    refine At_storeV (inf := inf4) (v := .bool true) i4 (by simp only [go_sem,reduceIte,Nat.reduceEqDiff,Nat.reduceLT]) (by simp only [go_sem,reduceIte,Nat.reduceEqDiff,Nat.reduceLT]) (v7.mono (hs8.get _ (by omega))) (by rw [size4]; rfl) (by rw [size4]; rfl) rfl (by show G ≤ h3.next; omega) fun h9 hs9 v7' => ?_
    have e6 : evLoad (En G) h9 9 (.pointer (some ⟨h2.next, 0, none⟩)) = some (strV s) := ev_boxed agg9 (Var.mono (L := [strV s]) v6' (hs9.get _ (by omega)))
    have e7 : evLoad (En G) h9 4 (.pointer (some ⟨h3.next, 0, none⟩)) = some (.bool true) := ev_boxed agg4 v7'
    simp only [go_sem,reduceIte,Nat.reduceEqDiff,Nat.reduceLT, e6, e7]
    exact hQ' _ _ ⟨pr.trans ((hs8.pres (by omega)).trans (hs9.pres (by omega))), by rw [hf]; rfl⟩

end
end Go.Proofs.YthankillfhmfkaaGreatDoor.Ev


