/- Debts without rings: firm after firm goes. Mathematics alone. -/
import Derived.Test.YtngpoamjhngcgaaGreatDoorPmdQ4
namespace Go.Proofs.YtngpoamjhngcgaaGreatDoor.Ev

/-- what one owes to those that are not gone -/
def owes (n : Nat) (r : Nat → Nat → Int) (G : Nat → Bool) (i : Nat) : Int := sm n fun j => if G j = true then 0 else r i j
def gst (n : Nat) (r : Nat → Nat → Int) (G : Nat → Bool) (i : Nat) : Nat → Bool := upf G i (G i || decide (owes n r G i = 0))
def gps (n : Nat) (r : Nat → Nat → Int) (G : Nat → Bool) : Nat → Nat → Bool
  | 0 => G
  | I + 1 => gst n r (gps n r G I) I
def grd (n : Nat) (r : Nat → Nat → Int) : Nat → Nat → Bool
  | 0 => fun _ => false
  | k + 1 => gps n r (grd n r k) n
theorem gst_mono {n i v : Nat} {r : Nat → Nat → Int} {G : Nat → Bool} (h : G v = true) : gst n r G i v = true := by
  unfold gst
  by_cases hv : v = i
  · subst hv; rw [upf_same, h]; rfl
  · rw [upf_other hv]; exact h
theorem gps_mono {n v : Nat} {r : Nat → Nat → Int} {G : Nat → Bool} (h : G v = true) : ∀ I, gps n r G I v = true
  | 0 => h
  | I + 1 => gst_mono (gps_mono h I)
theorem cnt_mono {S S' : Nat → Bool} (h : ∀ v, S v = true → S' v = true) : ∀ n, cnt S n ≤ cnt S' n
  | 0 => Nat.le_refl _
  | n + 1 => by
    have ih := cnt_mono h n
    rw [cnt, cnt]
    by_cases hn : S n = true
    · rw [if_pos hn, if_pos (h n hn)]; omega
    · rw [if_neg hn]; omega
theorem cnt_more {S S' : Nat → Bool} (h : ∀ v, S v = true → S' v = true) {v : Nat} (h1 : S v = false) (h2 : S' v = true) : ∀ n, v < n → cnt S n + 1 ≤ cnt S' n
  | 0, hv => by omega
  | n + 1, hv => by
    rw [cnt, cnt]
    by_cases hvn : v = n
    · subst hvn
      have := cnt_mono h v
      rw [h1, h2]
      simp only [Bool.false_eq_true, if_false, if_true]
      omega
    · have ih := cnt_more h h1 h2 n (by omega)
      by_cases hn : S n = true
      · rw [if_pos hn, if_pos (h n hn)]; omega
      · rw [if_neg hn]; omega
/-- each round one more is gone, if prices prove -/
theorem gps_more {d r : Nat → Nat → Int} {n : Nat} {p : Nat → Int} {G : Nat → Bool} (hp : Pri d r n p) (hb : Bd d r n) (hd : ∀ i, i < n → d i i = 0) {u : Nat} (hu : u < n) (hG : G u = false) : cnt G n + 1 ≤ cnt (gps n r G n) n := by
  rcases least_out (S := G) (c := fun _ => 0) (y := fun v => - p v) n with h | ⟨v, hv, v1, _, v3⟩
  · have := h u hu hG; omega
  · refine cnt_more (fun w hw => gps_mono hw n) v1 ?_ n hv
    have key : ∀ I, v < I → gps n r G I v = true := by
      intro I
      induction I with
      | zero => intro h; omega
      | succ I ih =>
        intro h
        by_cases hvI : v = I
        · subst hvI
          show gst n r (gps n r G v) v v = true
          unfold gst
          rw [upf_same]
          have : owes n r (gps n r G v) v = 0 := by
            unfold owes
            rw [sm_congr (g := fun _ => 0) n fun j hj => ?_, sm_zero]
            split
            · rfl
            · rename_i hg
              have hGj : G j = false := by
                cases hq : G j
                · rfl
                · exact absurd (gps_mono hq v) hg
              have b := hb v j hv hj
              by_cases hvj : v = j
              · subst hvj
                have := hd v hv
                omega
              · refine Classical.byContradiction fun g => ?_
                have h1 := (hp v j hv hj hvj).1 (by omega)
                have h2 := v3 j hj hGj (by omega)
                omega
          rw [this]
          simp
        · exact gst_mono (ih (by omega))
    exact key n hv
theorem grd_all {d r : Nat → Nat → Int} {n : Nat} {p : Nat → Int} (hp : Pri d r n p) (hb : Bd d r n) (hd : ∀ i, i < n → d i i = 0) : ∀ v, v < n → grd n r n v = true := by
  have key : ∀ k, k ≤ cnt (grd n r k) n ∨ ∀ v, v < n → grd n r k v = true := by
    intro k
    induction k with
    | zero => exact .inl (Nat.zero_le _)
    | succ k ih =>
      by_cases hall : ∀ v, v < n → grd n r k v = true
      · exact .inr fun v hv => gps_mono (hall v hv) n
      · obtain ⟨u, hu⟩ := Classical.not_forall.1 hall
        obtain ⟨h1, h2⟩ := Classical.not_imp.1 hu
        have h2 : grd n r k u = false := by simpa using h2
        rcases ih with ih | ih
        · have := gps_more hp hb hd h1 h2
          exact .inl (by show k + 1 ≤ cnt (gps n r (grd n r k) n) n; omega)
        · exact absurd (ih u h1) (by rw [h2]; simp)
  rcases key n with h | h
  · exact cnt_all n h
  · exact h
end Go.Proofs.YtngpoamjhngcgaaGreatDoor.Ev

