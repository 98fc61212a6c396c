/- The law StitchRest. -/
import Derived.Test.YthankillfhmfkaaGreatDoorPmsD2
import Derived.Test.YthankillfhmfkaaGreatDoorPmAA
set_option linter.unusedSimpArgs false
set_option linter.unusedVariables false
namespace Go.Proofs.YthankillfhmfkaaGreatDoor.Ev
open Go Go.Proofs
noncomputable section

theorem OkL.append' {k : Nat} {a b : List UInt8} (ha : OkL k a) (hb : OkL k b) : OkL k (a ++ b) := fun c hc => (List.mem_append.1 hc).elim (ha c) (hb c)
theorem Sw.symm {cm : Nat → Nat → Bool} {a b : List UInt8} (h : Sw cm a b) : Sw cm b a := by
  induction h with
  | refl => exact .refl _
  | cons c _ ih => exact .cons c ih
  | swap a b r h1 h2 h3 => exact .swap b a r (Ne.symm h1) h3 h2
  | trans _ _ h1 h2 => exact h2.trans h1
theorem takeB_sw {cm : Nat → Nat → Bool} : ∀ (s : List UInt8) {r t : List UInt8}, Sw cm (s ++ r) t → ∃ w, takeB cm s t = some w ∧ Sw cm r w
  | [], r, t, h => ⟨t, rfl, h⟩
  | c :: s, r, t, h => by
    rcases h.er (y := lt c) with ⟨e1, _⟩ | ⟨a, b, e1, e2, hab⟩
    · exfalso
      rw [List.cons_append] at e1
      unfold Go.Proofs.YthankillfhmfkaaGreatDoor.Ev.er at e1
      rw [if_pos rfl] at e1
      cases e1
    · rw [List.cons_append] at e1
      unfold Go.Proofs.YthankillfhmfkaaGreatDoor.Ev.er at e1
      rw [if_pos rfl] at e1
      cases e1
      have hf : 0 ≤ fg cm (lt c) t 0 := er_iff.2 (by rw [e2]; exact fun e => by cases e)
      have e3 := er_some hf
      rw [e2] at e3
      cases e3
      obtain ⟨w, hw, hs⟩ := takeB_sw s hab
      exact ⟨w, by rw [takeB, if_pos hf]; exact hw, hs⟩
theorem takeB_len {cm : Nat → Nat → Bool} : ∀ (b t r : List UInt8), takeB cm b t = some r → b.length + r.length = t.length
  | [], t, r, h => by
    unfold takeB at h
    cases h
    simp
  | c :: b, t, r, h => by
    unfold takeB at h
    by_cases hf : 0 ≤ fg cm (lt c) t 0
    · rw [if_pos hf] at h
      have h1 := takeB_len b _ r h
      have h2 := wo_len (at0_lt hf).1
      simp only [List.length_cons]
      omega
    · rw [if_neg hf] at h; cases h
theorem Sw.lst' {cm : Nat → Nat → Bool} {K : Nat} {a b : List UInt8} (h : Sw cm a b) : Go.Proofs.YthankillfhmfkaaGreatDoor.Ev.lst cm K a = Go.Proofs.YthankillfhmfkaaGreatDoor.Ev.lst cm K b := Sw.lst _ rfl h
theorem Sw.ok {cm : Nat → Nat → Bool} {k : Nat} {a b : List UInt8} (h : Sw cm a b) (ha : OkL k a) : OkL k b := fun c hc => ha c ((h.mem c).2 hc)
theorem okL_okc {k : Nat} {s : List UInt8} (h : OkL k s) : s.all (okc k) = true := List.all_eq_true.2 fun c hc => by
  have := h c hc
  simp only [okc, decide_eq_true_eq]
  omega
theorem chk_two {k : Nat} {ps : List (Int × Int)} {s t : List UInt8} (hT : okT k ps = true) (hs : OkL k s) (ht : OkL k t) (ls : s.length ≤ 40) (lt' : t.length ≤ 40) : chkE k ps 40 [s, t] = 0 := by
  have h1 : ([s, t].any fun s => decide ((40 : Int) < s.length)) = false := by simp; omega
  have h2 : ([s, t].all fun s => s.all (okc k)) = true := by simp only [List.all_cons, List.all_nil, okL_okc hs, okL_okc ht, Bool.and_true]
  rw [chkE, if_pos hT, h1, if_neg (by decide), h2, if_pos rfl]
theorem chk_one {k : Nat} {ps : List (Int × Int)} {s : List UInt8} (hT : okT k ps = true) (hs : OkL k s) (ls : s.length ≤ 40) : chkE k ps 40 [s] = 0 := by
  have h1 : ([s].any fun s => decide ((40 : Int) < s.length)) = false := by simp; omega
  have h2 : ([s].all fun s => s.all (okc k)) = true := by simp only [List.all_cons, List.all_nil, okL_okc hs, Bool.and_true]
  rw [chkE, if_pos hT, h1, if_neg (by decide), h2, if_pos rfl]
theorem load54 {G b : Nat} {K Fr : Int} {B : Tr Blk} (v : Var B b [.int .u8 K, .int .u16 Fr]) : loadO (En G) 72 B (some (.pointer (some ⟨b, 0, none⟩))) = some (.agg #[.int .u8 K, .int .u16 Fr]) :=
  v.loadA agg72 i72 (by rw [size72]; rfl)

end
end Go.Proofs.YthankillfhmfkaaGreatDoor.Ev


