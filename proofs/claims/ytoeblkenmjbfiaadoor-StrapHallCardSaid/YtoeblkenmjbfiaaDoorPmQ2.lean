/- Round straps: how often each difference comes. Mathematics alone. -/
import Derived.Test.YtoeblkenmjbfiaaDoorPmQ1
namespace Go.Proofs.YtoeblkenmjbfiaaDoor.Ev

/-- rising numbers from lo to below hi -/
def Rise (lo hi : Int) : List Int → Prop
  | [] => True
  | a :: l => lo ≤ a ∧ a < hi ∧ Rise (a + 1) hi l
theorem Rise.mem {lo hi : Int} : ∀ {l : List Int}, Rise lo hi l → ∀ x ∈ l, lo ≤ x ∧ x < hi
  | [], _, x, hx => by cases hx
  | a :: l, h, x, hx => by
    rcases List.mem_cons.1 hx with rfl | hx
    · exact ⟨h.1, h.2.1⟩
    · have := h.2.2.mem x hx
      have := h.1
      omega
theorem Rise.weak {lo lo' hi : Int} (h : lo' ≤ lo) : ∀ {l : List Int}, Rise lo hi l → Rise lo' hi l
  | [], _ => trivial
  | a :: l, ⟨h1, h2, h3⟩ => ⟨by omega, h2, h3⟩
theorem Rise.lt {lo hi : Int} : ∀ {l : List Int} {i j : Nat} {x y : Int}, Rise lo hi l → i < j → l[i]? = some x → l[j]? = some y → x < y
  | [], i, j, x, y, _, _, h1, _ => by simp at h1
  | a :: l, 0, j + 1, x, y, h, _, h1, h2 => by
    simp only [List.getElem?_cons_zero, Option.some.injEq] at h1
    simp only [List.getElem?_cons_succ] at h2
    have := h.2.2.mem y (List.mem_of_getElem? h2)
    omega
  | a :: l, i + 1, j + 1, x, y, h, hij, h1, h2 => by
    simp only [List.getElem?_cons_succ] at h1 h2
    exact h.2.2.lt (by omega) h1 h2
theorem Rise.drop {lo hi : Int} : ∀ {l : List Int} (n : Nat), Rise lo hi l → Rise lo hi (l.drop n)
  | l, 0, h => h
  | [], n + 1, _ => trivial
  | a :: l, n + 1, h => Rise.drop n (h.2.2.weak (by have := h.1; omega))

/-- how often a difference comes on a round strap of v places -/
def rdc (v : Int) (l : List Int) (d : Int) : Nat := dpc d l + dpc (v - d) l

end Go.Proofs.YtoeblkenmjbfiaaDoor.Ev

