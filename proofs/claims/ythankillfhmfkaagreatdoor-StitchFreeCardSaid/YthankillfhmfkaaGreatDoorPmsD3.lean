/- The law StitchRest. -/
import Derived.Test.YthankillfhmfkaaGreatDoorPmsD2
import Derived.Test.YthankillfhmfkaaGreatDoorPmAA
set_option linter.unusedSimpArgs false
set_option linter.unusedVariables false
namespace Go.Proofs.YthankillfhmfkaaGreatDoor.Ev
open Go Go.Proofs
noncomputable section

theorem Sw.symm {cm : Nat → Nat → Bool} {a b : List UInt8} (h : Sw cm a b) : Sw cm b a := by
  induction h with
  | refl => exact .refl _
  | cons c _ ih => exact .cons c ih
  | swap a b r h1 h2 h3 => exact .swap b a r (Ne.symm h1) h3 h2
  | trans _ _ h1 h2 => exact h2.trans h1
theorem Sw.ok {cm : Nat → Nat → Bool} {k : Nat} {a b : List UInt8} (h : Sw cm a b) (ha : OkL k a) : OkL k b := fun c hc => ha c ((h.mem c).2 hc)
theorem okL_okc {k : Nat} {s : List UInt8} (h : OkL k s) : s.all (okc k) = true := List.all_eq_true.2 fun c hc => by
  have := h c hc
  simp only [okc, decide_eq_true_eq]
  omega
theorem chk_two {k : Nat} {ps : List (Int × Int)} {s t : List UInt8} (hT : okT k ps = true) (hs : OkL k s) (ht : OkL k t) (ls : s.length ≤ 40) (lt' : t.length ≤ 40) : chkE k ps 40 [s, t] = 0 := by
  have h1 : ([s, t].any fun s => decide ((40 : Int) < s.length)) = false := by simp; omega
  have h2 : ([s, t].all fun s => s.all (okc k)) = true := by simp only [List.all_cons, List.all_nil, okL_okc hs, okL_okc ht, Bool.and_true]
  rw [chkE, if_pos hT, h1, if_neg (by decide), h2, if_pos rfl]
theorem chk_one {k : Nat} {ps : List (Int × Int)} {s : List UInt8} (hT : okT k ps = true) (hs : OkL k s) (ls : s.length ≤ 40) : chkE k ps 40 [s] = 0 := by
  have h1 : ([s].any fun s => decide ((40 : Int) < s.length)) = false := by simp; omega
  have h2 : ([s].all fun s => s.all (okc k)) = true := by simp only [List.all_cons, List.all_nil, okL_okc hs, Bool.and_true]
  rw [chkE, if_pos hT, h1, if_neg (by decide), h2, if_pos rfl]
end
end Go.Proofs.YthankillfhmfkaaGreatDoor.Ev


