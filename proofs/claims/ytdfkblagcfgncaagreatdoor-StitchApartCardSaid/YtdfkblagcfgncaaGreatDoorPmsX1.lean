/- Steps of equal seams; steps written one after the other; the least seam is not greater. Mathematics alone. -/
import Derived.Test.YtdfkblagcfgncaaGreatDoorPmsT3
import Derived.Test.YtdfkblagcfgncaaGreatDoorPmT9
import Derived.Test.YtdfkblagcfgncaaGreatDoorPmsW1
set_option linter.unusedSimpArgs false
namespace Go.Proofs.YtdfkblagcfgncaaGreatDoor.Ev
variable {cm : Nat → Nat → Bool}

theorem Sw.hpF {a b : List UInt8} (h : Sw cm a b) : ∀ {ps qs : List (UInt8 × Nat)}, ps.Perm qs → (Go.Proofs.YtdfkblagcfgncaaGreatDoor.Ev.hpF cm ps a).Perm (Go.Proofs.YtdfkblagcfgncaaGreatDoor.Ev.hpF cm qs b) := by
  induction h with
  | refl l => intro ps qs hp; exact hpF_perm l hp
  | cons c _ ih => intro ps qs hp; exact ih (by rw [tp_perm hp]; exact hp.append_right _)
  | swap a b r hab h1 h2 =>
    intro ps qs hp
    simp only [Go.Proofs.YtdfkblagcfgncaaGreatDoor.Ev.hpF, tp_snoc, h1, h2, if_true]
    refine hpF_perm r ?_
    rw [tp_perm hp (c := a), tp_perm hp (c := b), List.append_assoc, List.append_assoc]
    refine (hp.append_right _).trans (List.Perm.append_left _ ?_)
    exact List.Perm.swap _ _ _
  | trans _ _ h1 h2 => intro ps qs hp; exact (h1 (List.Perm.refl ps)).trans (h2 hp)
theorem Sw.hp {a b : List UInt8} (h : Sw cm a b) : (Go.Proofs.YtdfkblagcfgncaaGreatDoor.Ev.hp cm a).Perm (Go.Proofs.YtdfkblagcfgncaaGreatDoor.Ev.hp cm b) := Sw.hpF h (List.Perm.refl [])
theorem Sw.mx {a b : List UInt8} (h : Sw cm a b) : Go.Proofs.YtdfkblagcfgncaaGreatDoor.Ev.mx cm a a.length = Go.Proofs.YtdfkblagcfgncaaGreatDoor.Ev.mx cm b b.length := by
  rw [mx_mxp, mx_mxp, ← hp_hpi, ← hp_hpi]; exact mxp_perm h.hp
theorem sw_past {c : UInt8} : ∀ {y : List UInt8}, (∀ d ∈ y, cm (lt d) (lt c) = true ∧ cm (lt c) (lt d) = true ∧ lt d ≠ lt c) → Sw cm (y ++ [c]) (c :: y)
  | [], _ => .refl _
  | d :: y, h => by
    obtain ⟨h1, h2, h3⟩ := h d List.mem_cons_self
    exact (Sw.cons d (sw_past fun e he => h e (List.mem_cons_of_mem _ he))).trans (.swap d c y h3 h1 h2)
theorem wn_pos {K : Nat} : ∀ (f : Nat) (l : List UInt8), OkL K l → 1 ≤ wn cm K f l
  | 0, _, _ => Nat.le_refl _
  | f + 1, [], _ => Nat.le_refl _
  | f + 1, c :: l, hl => by
    have hc := hl c List.mem_cons_self
    simp only [wn]
    have he : er cm (lt c) (c :: l) = some l := by unfold er; rw [if_pos rfl]
    have h1 := wn_pos f l fun d hd => hl d (List.mem_cons_of_mem _ hd)
    have hmem : lt c ∈ List.range K := List.mem_range.2 (by unfold lt; omega)
    obtain ⟨a, b, hab⟩ := List.append_of_mem hmem
    rw [hab]
    simp only [List.map_append, List.sum_append, List.map_cons, List.sum_cons, he]
    omega
end Go.Proofs.YtdfkblagcfgncaaGreatDoor.Ev

