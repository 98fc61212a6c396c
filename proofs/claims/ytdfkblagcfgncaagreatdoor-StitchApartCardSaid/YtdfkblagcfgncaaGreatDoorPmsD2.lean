/- Shuffled seams; appends of bytes; Least. -/
import Derived.Test.YtdfkblagcfgncaaGreatDoorPmsD1
import Derived.Test.YtdfkblagcfgncaaGreatDoorPmsA5
import Derived.Test.YtdfkblagcfgncaaGreatDoorPmsA2
import Derived.Test.YtdfkblagcfgncaaGreatDoorPmsS1
set_option linter.unusedSimpArgs false
namespace Go.Proofs.YtdfkblagcfgncaaGreatDoor.Ev
open Go Go.Proofs
noncomputable section

theorem pc_sym' (ps : List (Int × Int)) (a b : Nat) : pc ps a b = pc ps b a := by
  unfold pc
  congr 1
  funext p
  simp only [decide_eq_decide]
  exact or_comm
theorem byts_one {l : List UInt8} : (byts l).all oneB = true := by
  rw [List.all_eq_true]
  intro v hv
  simp only [byts, List.mem_map] at hv
  obtain ⟨c, _, rfl⟩ := hv
  rfl

section
variable {P : Program} {E : Env} {n : Nat} {ops : List Oper} {q : Bool} {r tl : List Oper} {k : List Frm} {α : Tr Value} {h : H} {R : Rt} {ty : TypeId} {pos : String} {af : Array Edge}
/-- append to a full slice of one's own -/
theorem At_append2 [NoFz E] {x y : Operand} {ts tx elem elem' : TypeId} {inf : TypeInfo} {z : Value} {lo hi lo2 hi2 sl m d : Nat} {L M : List Value} {A : Option Addr} {v : Value} (hu : E.u ts = some (.slice elem)) (hux : E.u tx = some (.slice elem')) (hi' : E.i elem = some inf) (hz : inf.zero = some z)
    (hc : (okConst z && decide (z.cells.size = inf.size) && decide (0 < inf.size) && decide (inf.bytes < 65536)) = true) (hx : ev E h α x = some (.slice A sl sl)) (hs : SlV h.blks lo hi inf.size sl L (.slice A sl sl)) (hhi : hi ≤ h.next) (hG : E.G ≤ lo) (hlo : lo ≤ h.next) (hy : ev E h α y = some v) (hv : SlV h.blks lo2 hi2 inf.size m M v)
    (hsm : sl + m < 2147483648) (hone : M.all oneB = true) (hd : d < n)
    (hk : ∀ A' h', Pres lo h h' → SlV h'.blks lo h'.next inf.size (sl + m) (L ++ M) (.slice A' (sl + m) (sl + m)) → At P E n ops false r tl k (Tr.put α d (.slice A' (sl + m) (sl + m))) h' R) :
    At P E n ops false (⟨some d, .call ⟨.builtin .append, #[x, y], #[ts, tx]⟩, ty, pos, af, none⟩ :: r) tl k α h R := by
  by_cases hm : m = 0
  · subst hm
    have hM : M = [] := List.length_eq_zero_iff.1 (by rw [hv.len]; simp)
    subst hM
    have hs0 : srcLen v = some 0 := by cases hv <;> first | (rename_i hn hL; rfl) | rfl
    refine At_append0 hu hux hi' hx hy hs0 hd ?_
    have := hk A h (Pres.refl _ _) (by rw [List.append_nil]; exact hs.wide (Nat.le_refl _) hhi)
    simpa using this
  · refine At_append hu hux hi' hz hc hx hs (by omega) hG hy hv (by omega) hsm hone hd fun h' ha => hk _ h' (ha.pres hlo fun b hb => hs.blk b hb) ?_
    refine (ha.slv ?_).wide hlo (Nat.le_refl _)
    rw [List.length_append, hs.len, hv.len, Nat.add_mul]
end

end
end Go.Proofs.YtdfkblagcfgncaaGreatDoor.Ev


