/- Round straps: the reference's Multipliers and Canon. -/
import Derived.Test.YtoeblkenmjbfiaaDoorPmoI6
set_option linter.unusedSimpArgs false
set_option linter.unusedVariables false
namespace Go.Proofs.YtoeblkenmjbfiaaDoor.Ev
open Go Go.Proofs
noncomputable section

theorem turned_cg {V t : Nat} {s : Int} {l : List Int} (hV : 0 < V) (hin : InV V l) (hlt : l.Pairwise (· < ·)) (hg : Nat.gcd t V = 1) : pls (tn V t s l) V = cg V t s l :=
  pls_srt (tn_in hV) (tn_nodup hin (hlt.imp fun h => by omega) hg)

/-- the sets that have been looked at -/
def Seen (V : Nat) (l : List Int) (t s : Nat) (z : List Int) : Prop := z = l ∨ ∃ u a : Nat, ((u < t ∧ a < V) ∨ (u = t ∧ a < s)) ∧ u < V ∧ Nat.gcd u V = 1 ∧ z = cg V u a l
def Best (V : Nat) (l : List Int) (t s : Nat) (L : List Int) : Prop := L.length = l.length ∧ Mn (Seen V l t s) L
theorem Best.step {V t s : Nat} {l L : List Int} (hb : Best V l t s L) (ht : t < V) (hg : Nat.gcd t V = 1) : (cg V t s l < L → Best V l t (s + 1) (cg V t s l)) ∧ (¬ cg V t s l < L → Best V l t (s + 1) L) := by
  have hsee : ∀ z, Seen V l t (s + 1) z → Seen V l t s z ∨ z = cg V t s l := by
    rintro z (h | ⟨u, a, h1, h2, h3, h4⟩)
    · exact .inl (.inl h)
    · rcases h1 with h1 | ⟨rfl, h1⟩
      · exact .inl (.inr ⟨u, a, .inl h1, h2, h3, h4⟩)
      · by_cases e : a = s
        · subst e; exact .inr h4
        · exact .inl (.inr ⟨u, a, .inr ⟨rfl, by omega⟩, h2, h3, h4⟩)
  constructor
  · intro hlt
    refine ⟨cg_len, .inr ⟨t, s, .inr ⟨rfl, by omega⟩, ht, hg, rfl⟩, fun z hz hh => ?_⟩
    rcases hsee z hz with h | h
    · exact hb.2.2 z h (llt_trans hh hlt)
    · subst h; exact llt_irr hh
  · intro hn
    refine ⟨hb.1, ?_, fun z hz hh => ?_⟩
    · rcases hb.2.1 with h | ⟨u, a, h1, h2, h3, h4⟩
      · exact .inl h
      · refine .inr ⟨u, a, ?_, h2, h3, h4⟩
        rcases h1 with h1 | ⟨h1, h5⟩
        · exact .inl h1
        · exact .inr ⟨h1, by omega⟩
    · rcases hsee z hz with h | h
      · exact hb.2.2 z h hh
      · subst h; exact hn hh
theorem Best.congr {V t s t' s' : Nat} {l L : List Int} (hb : Best V l t s L) (h : ∀ z, Seen V l t s z ↔ Seen V l t' s' z) : Best V l t' s' L :=
  ⟨hb.1, (h _).1 hb.2.1, fun z hz => hb.2.2 z ((h z).2 hz)⟩
theorem Best.next {V t : Nat} {l L : List Int} (hb : Best V l t V L) : Best V l (t + 1) 0 L := hb.congr fun z => by
  unfold Seen
  constructor
  · rintro (h | ⟨u, a, h1, h2⟩)
    · exact .inl h
    · exact .inr ⟨u, a, .inl (by omega), h2⟩
  · rintro (h | ⟨u, a, h1, h2⟩)
    · exact .inl h
    · exact .inr ⟨u, a, by omega, h2⟩
theorem Best.skip {V t : Nat} {l L : List Int} (hb : Best V l t 0 L) (hg : Nat.gcd t V ≠ 1) : Best V l (t + 1) 0 L := hb.congr fun z => by
  unfold Seen
  constructor
  · rintro (h | ⟨u, a, h1, h2⟩)
    · exact .inl h
    · exact .inr ⟨u, a, .inl (by omega), h2⟩
  · rintro (h | ⟨u, a, h1, h2, h3, h4⟩)
    · exact .inl h
    · by_cases e : u = t
      · subst e; exact absurd h3 hg
      · exact .inr ⟨u, a, .inl (by omega), h2, h3, h4⟩
theorem Best.all {V : Nat} {l L : List Int} (hV : 2 ≤ V) (hin : InV V l) (hl : l.Pairwise (· ≤ ·)) (hb : Best V l V 0 L) : L = cP V l (uL V V) := by
  have horb : Orb V l l := ⟨1, 0, by omega, Nat.gcd_one_left V, by omega, by
    have := cg_one hin hl
    simpa using this.symm⟩
  refine Mn.uniq (S := Orb V l) ⟨?_, ?_⟩ (cP_mn hV)
  · rcases hb.2.1 with h | ⟨u, a, h1, h2, h3, h4⟩
    · rw [h]; exact horb
    · exact ⟨u, a, h2, h3, by omega, h4⟩
  · rintro z ⟨u, a, h1, h2, h3, h4⟩
    exact hb.2.2 z (.inr ⟨u, a, .inl ⟨h1, h3⟩, h1, h2, h4⟩)

end
end Go.Proofs.YtoeblkenmjbfiaaDoor.Ev


