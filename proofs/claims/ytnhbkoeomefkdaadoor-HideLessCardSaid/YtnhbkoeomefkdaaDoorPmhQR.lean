/- Codes that level a floor: the search for the first one; a code that levels it is found. Mathematics alone. -/
import Derived.Test.YtnhbkoeomefkdaaDoorPmhQ3
set_option linter.unusedVariables false
set_option linter.unusedSimpArgs false
namespace Go.Proofs.YtnhbkoeomefkdaaDoor.Ev.L
open Go Go.Proofs.YtnhbkoeomefkdaaDoor.Ev
noncomputable section

/-- a floor of so many columns, none above a height -/
structure Flo (w : Nat) (h : Int) (F : List Int) : Prop where
  len : F.length = w
  rng : ∀ i, i < w → 0 ≤ F.getD i 0 ∧ F.getD i 0 ≤ h

theorem least_ex (F : List Int) : ∀ t, 1 ≤ t → ∃ k, k < t ∧ (∀ i, i < t → F.getD k 0 ≤ F.getD i 0) ∧ ∀ i, i < k → F.getD k 0 < F.getD i 0
  | 0, h => by omega
  | 1, _ => ⟨0, by omega, fun i hi => by rw [show i = 0 by omega]; exact Int.le_refl _, fun i hi => by omega⟩
  | t + 2, _ => by
    obtain ⟨k, k1, k2, k3⟩ := least_ex F (t + 1) (by omega)
    by_cases c : F.getD (t + 1) 0 < F.getD k 0
    · refine ⟨t + 1, by omega, fun i hi => ?_, fun i hi => ?_⟩
      · by_cases e : i = t + 1
        · rw [e]; exact Int.le_refl _
        · have := k2 i (by omega); omega
      · have := k2 i (by omega); omega
    · refine ⟨k, by omega, fun i hi => ?_, k3⟩
      by_cases e : i = t + 1
      · rw [e]; omega
      · exact k2 i (by omega)
theorem room_is {F : List Int} (h : 1 ≤ F.length) : RoomOf F (lowest F) (wideOf F) := by
  obtain ⟨k, k1, k2, k3⟩ := least_ex F F.length h
  obtain ⟨m, hm⟩ := room_ex k1 k2 k3
  rw [hm.eq.1, hm.eq.2]
  exact hm

/-- the height of the lowest column -/
def bot (F : List Int) : Int := F.getD (lowest F) 0
/-- the floor when a square is put where it is lowest -/
def put (F : List Int) (s : Int) : List Int := raise F (lowest F) s.toNat s
/-- a square of that size may be put -/
def may (h : Int) (F : List Int) (s : Int) : Prop := 1 ≤ s ∧ s ≤ wideOf F ∧ s ≤ h - bot F

theorem Flo.put {w : Nat} {h s : Int} {F : List Int} (f : Flo w h F) (hw : 1 ≤ w) (m : may h F s) : Flo w h (put F s) := by
  obtain ⟨m1, m2, m3⟩ := m
  have hl := f.len
  have rm := room_is (F := F) (by omega)
  have hle := rm.le
  refine ⟨by unfold L.put; rw [raise_len, hl], fun i hi => ?_⟩
  unfold L.put
  rw [raise_get (by omega)]
  have := f.rng i hi
  split
  · rename_i hc
    have := rm.flat i hc.1 (by omega)
    unfold bot at m3
    omega
  · exact this
theorem Flo.bot {w : Nat} {h : Int} {F : List Int} (f : Flo w h F) (hw : 1 ≤ w) : 0 ≤ bot F ∧ bot F ≤ h := by
  have hl := f.len
  have rm := room_is (F := F) (by omega)
  have := rm.le
  have := rm.pos
  exact f.rng (lowest F) (by omega)

/-- what is left to cover -/
def smN (f : Nat → Int) : Nat → Int
  | 0 => 0
  | n + 1 => smN f n + f n
def ara (h : Int) (F : List Int) : Int := smN (fun i => h - F.getD i 0) F.length
theorem smN_congr {f g : Nat → Int} : ∀ n, (∀ i, i < n → f i = g i) → smN f n = smN g n
  | 0, _ => rfl
  | n + 1, h => by rw [smN, smN, smN_congr n fun i hi => h i (by omega), h n (by omega)]
theorem smN_less {f : Nat → Int} {x k : Nat} {s : Int} : ∀ n, smN (fun i => if x ≤ i ∧ i < x + k then f i - s else f i) n = smN f n - s * ((min n (x + k) - min n x : Nat) : Int)
  | 0 => by simp [smN]
  | n + 1 => by
    rw [smN, smN, smN_less n]
    split
    · rename_i hc
      have e : min (n + 1) (x + k) - min (n + 1) x = min n (x + k) - min n x + 1 := by omega
      rw [e, Int.natCast_add, Int.mul_add]
      omega
    · have e : min (n + 1) (x + k) - min (n + 1) x = min n (x + k) - min n x := by omega
      rw [e]
      omega
theorem smN_zero {f : Nat → Int} : ∀ n, (∀ i, i < n → f i = 0) → smN f n = 0
  | 0, _ => rfl
  | n + 1, h => by rw [smN, smN_zero n fun i hi => h i (by omega), h n (by omega)]; rfl
theorem smN_nn {f : Nat → Int} : ∀ n, (∀ i, i < n → 0 ≤ f i) → 0 ≤ smN f n ∧ ∀ i, i < n → f i ≤ smN f n
  | 0, _ => ⟨Int.le_refl _, fun i hi => by omega⟩
  | n + 1, h => by
    obtain ⟨h1, h2⟩ := smN_nn n fun i hi => h i (by omega)
    have h3 := h n (by omega)
    rw [smN]
    refine ⟨by omega, fun i hi => ?_⟩
    by_cases e : i = n
    · subst e; omega
    · have := h2 i (by omega); omega
theorem smN_le {f : Nat → Int} {b : Int} : ∀ n, (∀ i, i < n → f i ≤ b) → smN f n ≤ n * b
  | 0, _ => by simp [smN]
  | n + 1, h => by
    have h1 := smN_le n fun i hi => h i (by omega)
    have h3 := h n (by omega)
    rw [smN, Int.natCast_add, Int.add_mul]
    omega
theorem ara_put {w : Nat} {h s : Int} {F : List Int} (f : Flo w h F) (hw : 1 ≤ w) (m : may h F s) : ara h (put F s) = ara h F - s * s := by
  obtain ⟨m1, m2, m3⟩ := m
  have hl := f.len
  have rm := room_is (F := F) (by omega)
  have hle := rm.le
  unfold ara put
  rw [raise_len, smN_congr (g := fun i => if lowest F ≤ i ∧ i < lowest F + s.toNat then (h - F.getD i 0) - s else h - F.getD i 0) _ fun i hi => ?_, smN_less (f := fun i => h - F.getD i 0)]
  · have e : ((min F.length (lowest F + s.toNat) - min F.length (lowest F) : Nat) : Int) = s := by omega
    rw [e]
  · show h - (raise F (lowest F) s.toNat s).getD i 0 = _
    rw [raise_get hi]
    split
    · omega
    · rfl
theorem ara_nn {w : Nat} {h : Int} {F : List Int} (f : Flo w h F) : 0 ≤ ara h F ∧ ∀ i, i < w → h - F.getD i 0 ≤ ara h F := by
  have hl := f.len
  have := smN_nn (f := fun i => h - F.getD i 0) F.length fun i hi => by have := f.rng i (by omega); omega
  exact ⟨this.1, fun i hi => this.2 i (by omega)⟩
theorem ara_le {w : Nat} {h : Int} {F : List Int} (f : Flo w h F) : ara h F ≤ w * h := by
  have hl := f.len
  have := smN_le (f := fun i => h - F.getD i 0) (b := h) F.length fun i hi => by have := f.rng i (by omega); omega
  rw [hl] at this
  unfold ara
  rw [hl]
  exact this
/-- all is level exactly if nothing is left -/
theorem ara_zero {w : Nat} {h : Int} {F : List Int} (f : Flo w h F) (hw : 1 ≤ w) : ara h F = 0 ↔ bot F = h := by
  have hl := f.len
  have rm := room_is (F := F) (by omega)
  have := rm.le
  have := rm.pos
  constructor
  · intro hz
    have h1 := (ara_nn f).2 (lowest F) (by omega)
    have h2 := f.rng (lowest F) (by omega)
    unfold bot
    omega
  · intro hb
    unfold ara
    refine smN_zero _ fun i hi => ?_
    have h1 := rm.low i hi
    have h2 := f.rng i (by omega)
    unfold bot at hb
    omega

/-- the sizes of a code, put one after the other, level the floor at a height -/
def path (h : Int) : List Int → List Int → Prop
  | F, [] => bot F = h
  | F, s :: r => bot F ≠ h ∧ may h F s ∧ path h (put F s) r
def sq2 : List Int → Int
  | [] => 0
  | s :: r => s * s + sq2 r
theorem mul_le_sq {s g : Int} (h1 : 1 ≤ s) (h2 : s ≤ g) : s * s ≤ g * g := Int.mul_le_mul h2 h2 (by omega) (by omega)
theorem path_sq {w : Nat} {h : Int} (hw : 1 ≤ w) : ∀ (c F : List Int), Flo w h F → path h F c → ara h F = sq2 c ∧ sq2 c ≤ c.length * (min (w : Int) h * min (w : Int) h)
  | [], F, f, p => by
    have := (ara_zero f hw).2 p
    rw [this]
    simp [sq2]
  | s :: r, F, f, ⟨p1, p2, p3⟩ => by
    obtain ⟨i1, i2⟩ := path_sq hw r _ (f.put hw p2) p3
    rw [ara_put f hw p2] at i1
    obtain ⟨m1, m2, m3⟩ := p2
    have hl := f.len
    have hb := f.bot hw
    have rm := room_is (F := F) (by omega)
    have hle := rm.le
    have := mul_le_sq m1 (show s ≤ min (w : Int) h by omega)
    rw [sq2, List.length_cons, Int.natCast_add, Int.add_mul]
    omega

/-- the first size that leads somewhere -/
def tryF (f : Int → Option (List Int)) : Nat → Int → Option (List Int)
  | 0, _ => none
  | c + 1, s => match f s with
    | some r => some r
    | none => tryF f c (s + 1)
theorem tryF_some {f : Int → Option (List Int)} {r : List Int} : ∀ {c : Nat} {s : Int}, tryF f c s = some r → ∃ t, s ≤ t ∧ t < s + c ∧ f t = some r
  | 0, s, h => by cases h
  | c + 1, s, h => by
    rw [tryF] at h
    split at h
    · rename_i g
      exact ⟨s, Int.le_refl _, by omega, by rw [g]; exact h⟩
    · obtain ⟨t, t1, t2, t3⟩ := tryF_some h
      exact ⟨t, by omega, by omega, t3⟩
theorem tryF_ne {f : Int → Option (List Int)} {t : Int} : ∀ {c : Nat} {s : Int}, s ≤ t → t < s + c → f t ≠ none → tryF f c s ≠ none
  | 0, s, h1, h2, _ => by omega
  | c + 1, s, h1, h2, h3 => by
    rw [tryF]
    split
    · exact fun e => by cases e
    · rename_i g
      by_cases e : t = s
      · subst e; exact absurd g h3
      · exact tryF_ne (by omega) (by omega) h3
/-- so many sizes may be tried -/
def mostS (h : Int) (F : List Int) : Nat := (min (wideOf F : Int) (h - bot F)).toNat
/-- the sizes from one on, and then codes of n squares -/
def sizeF (h gr : Int) (n : Nat) (cod : List Int → Option (List Int)) (F : List Int) (s : Int) : Option (List Int) :=
  if n * (gr * gr) < ara h F - s * s then none else (cod (put F s)).map (s :: ·)
/-- the first code of so many squares that levels a floor -/
def cod (h gr : Int) : Nat → List Int → Option (List Int)
  | 0, F => if bot F = h then some [] else none
  | n + 1, F => if bot F = h then none else tryF (sizeF h gr n (cod h gr n) F) (mostS h F) 1
theorem cod_path {h gr : Int} : ∀ {n : Nat} {F c : List Int}, cod h gr n F = some c → path h F c ∧ c.length = n
  | 0, F, c, e => by
    rw [cod] at e
    split at e
    · rename_i hb
      injection e with e
      subst e
      exact ⟨hb, rfl⟩
    · cases e
  | n + 1, F, c, e => by
    rw [cod] at e
    split at e
    · cases e
    · rename_i hb
      obtain ⟨t, t1, t2, t3⟩ := tryF_some e
      unfold sizeF at t3
      split at t3
      · cases t3
      · rw [Option.map_eq_some_iff] at t3
        obtain ⟨r, r1, rfl⟩ := t3
        obtain ⟨i1, i2⟩ := cod_path r1
        unfold mostS at t2
        exact ⟨⟨hb, ⟨t1, by omega, by omega⟩, i1⟩, by rw [List.length_cons, i2]⟩
theorem cod_ex {w : Nat} {h : Int} (hw : 1 ≤ w) : ∀ (c F : List Int), Flo w h F → path h F c → cod h (min (w : Int) h) c.length F ≠ none
  | [], F, f, p => by
    rw [List.length_nil, cod, if_pos (show bot F = h from p)]
    exact fun e => by cases e
  | s :: r, F, f, ⟨p1, p2, p3⟩ => by
    have ih := cod_ex hw r _ (f.put hw p2) p3
    obtain ⟨i1, i2⟩ := path_sq hw r _ (f.put hw p2) p3
    rw [ara_put f hw p2] at i1
    rw [List.length_cons, cod, if_neg p1]
    obtain ⟨m1, m2, m3⟩ := p2
    refine tryF_ne (t := s) m1 (by unfold mostS; omega) ?_
    unfold sizeF
    rw [if_neg (by omega)]
    obtain ⟨c, hc⟩ := Option.ne_none_iff_exists'.1 ih
    rw [hc]
    exact fun e => by cases e

/-- the sizes that Euclid cuts off level the floor -/
theorem eu_path {w : Nat} {h : Int} (hw : 1 ≤ w) : ∀ (k x0 w0 : Nat) (y0 h0 : Int) (F : List Int), x0 + w0 = w → 0 ≤ h0 → y0 + h0 = h → w0 + h0 ≤ k → F.length = w → (∀ i, i < w → F.getD i 0 = if i < x0 then h else y0) → path h F (eu k w0 h0) := by
  intro k
  induction k with
  | zero =>
    intro x0 w0 y0 h0 F h1 h2 h3 h4 h5 h6
    rw [eu_stop (by omega)]
    have rm := room_is (F := F) (by omega)
    have := rm.le
    have := rm.pos
    show bot F = h
    unfold bot
    rw [h6 _ (by omega), if_pos (by omega)]
  | succ k ih =>
    intro x0 w0 y0 h0 F h1 h2 h3 h4 h5 h6
    by_cases hs : (0 : Int) < w0 ∧ 0 < h0
    · rw [eu_go hs h4, Nat.add_sub_cancel]
      have rm : RoomOf F x0 w0 := ⟨by omega, fun i hi => by rw [h6 i (by omega), h6 x0 (by omega), if_neg (by omega)]; split <;> omega, fun i hi => by rw [h6 i (by omega), h6 x0 (by omega), if_neg (by omega), if_pos hi]; omega,
        fun i h7 h8 => by rw [h6 i (by omega), h6 x0 (by omega), if_neg (by omega), if_neg (by omega)], fun h7 => by omega, by omega⟩
      have hb : bot F = y0 := by unfold bot; rw [rm.eq.1, h6 x0 (by omega), if_neg (by omega)]
      have hget : ∀ (s : Int) (i : Nat), i < w → (put F s).getD i 0 = if x0 ≤ i ∧ i < x0 + s.toNat then F.getD i 0 + s else F.getD i 0 := fun s i hi => by
        unfold put
        rw [rm.eq.1, raise_get (by omega)]
      have hlen : ∀ s : Int, (put F s).length = w := fun s => by unfold put; rw [raise_len, h5]
      refine ⟨by omega, ⟨by omega, by rw [rm.eq.2]; omega, by omega⟩, ?_⟩
      by_cases hc : h0 < (w0 : Int)
      · rw [if_pos hc, show min (w0 : Int) h0 = h0 by omega]
        have e : (w0 : Int) - h0 = ((w0 - h0.toNat : Nat) : Int) := by omega
        rw [e]
        refine ih (x0 + h0.toNat) (w0 - h0.toNat) y0 h0 _ (by omega) h2 h3 (by omega) (hlen _) fun i hi => ?_
        rw [hget _ i hi, h6 i hi]
        split <;> split <;> split <;> omega
      · rw [if_neg hc, show min (w0 : Int) h0 = w0 by omega]
        refine ih x0 w0 (y0 + w0) (h0 - w0) _ h1 (by omega) (by omega) (by omega) (hlen _) fun i hi => ?_
        rw [hget _ i hi, h6 i hi]
        split <;> split <;> omega
    · rw [eu_stop hs]
      have rm := room_is (F := F) (by omega)
      have := rm.le
      have := rm.pos
      show bot F = h
      unfold bot
      rw [h6 _ (by omega)]
      split <;> omega
theorem flo_zero {w : Nat} {h : Int} (h0 : 0 ≤ h) : Flo w h (List.replicate w 0) := ⟨by simp, fun i hi => by simp [List.getD, hi]; exact h0⟩
theorem eu_code {w h k : Nat} (hw : 1 ≤ w) (hk : w + h ≤ k) : path h (List.replicate w 0) (eu k w h) :=
  eu_path hw k 0 w 0 h _ (by omega) (by omega) (by omega) (by omega) (by simp) fun i hi => by rw [if_neg (by omega)]; simp [List.getD, hi]
end
end Go.Proofs.YtnhbkoeomefkdaaDoor.Ev.L

/- What a code lays is a cut; a cut that is turned has as many squares. Mathematics alone. -/
set_option linter.unusedVariables false
set_option linter.unusedSimpArgs false
namespace Go.Proofs.YtnhbkoeomefkdaaDoor.Ev.L
open Go Go.Proofs.YtnhbkoeomefkdaaDoor.Ev
noncomputable section

/-- the squares of a code -/
def lay : List Int → List Int → List Sq
  | _, [] => []
  | F, s :: r => ((lowest F : Int), bot F, s) :: lay (put F s) r
theorem lay_len : ∀ {F c : List Int}, (lay F c).length = c.length
  | _, [] => rfl
  | F, s :: r => by rw [lay, List.length_cons, List.length_cons, lay_len]
theorem lay_sizes : ∀ {F c : List Int}, (lay F c).map (fun q => q.2.2) = c
  | _, [] => rfl
  | F, s :: r => by rw [lay, List.map_cons, lay_sizes]
theorem lay_in {w : Nat} {h : Int} (hw : 1 ≤ w) : ∀ {c F : List Int}, Flo w h F → path h F c → ∀ q ∈ lay F c, (1 ≤ q.2.2 ∧ 0 ≤ q.1 ∧ 0 ≤ q.2.1 ∧ q.1 + q.2.2 ≤ w ∧ q.2.1 + q.2.2 ≤ h) ∧ ∀ x : Nat, q.1 ≤ x → (x : Int) < q.1 + q.2.2 → F.getD x 0 ≤ q.2.1
  | [], F, f, p, q, hq => by cases hq
  | s :: r, F, f, ⟨p1, p2, p3⟩, q, hq => by
    have hl := f.len
    have rm := room_is (F := F) (by omega)
    have hle := rm.le
    have hb := f.bot hw
    obtain ⟨m1, m2, m3⟩ := id p2
    rcases List.mem_cons.1 hq with rfl | hq
    · refine ⟨⟨m1, Int.natCast_nonneg _, hb.1, by simp only; omega, by simp only; omega⟩, fun x h1 h2 => ?_⟩
      simp only at h1 h2 ⊢
      rw [rm.flat x (by omega) (by omega)]
      exact Int.le_refl _
    · obtain ⟨i1, i2⟩ := lay_in hw (f.put hw p2) p3 q hq
      refine ⟨i1, fun x h1 h2 => ?_⟩
      have := i2 x h1 h2
      unfold put at this
      rw [raise_get (by omega)] at this
      split at this <;> omega
theorem lay_pw {w : Nat} {h : Int} (hw : 1 ≤ w) : ∀ {c F : List Int}, Flo w h F → path h F c → (lay F c).Pairwise fun a b => ¬ ovl a b
  | [], F, f, p => List.Pairwise.nil
  | s :: r, F, f, ⟨p1, p2, p3⟩ => by
    have hl := f.len
    have rm := room_is (F := F) (by omega)
    have hle := rm.le
    have ih := lay_pw hw (f.put hw p2) p3
    refine List.pairwise_cons.2 ⟨fun q hq => ?_, ih⟩
    obtain ⟨⟨a1, a2, a3, a4, a5⟩, i2⟩ := lay_in hw (f.put hw p2) p3 q hq
    obtain ⟨m1, m2, m3⟩ := p2
    rintro ⟨o1, o2, o3, o4⟩
    simp only at o1 o2 o3 o4
    obtain ⟨x, hx⟩ : ∃ x : Nat, (x : Int) = max (lowest F : Int) q.1 := ⟨(max (lowest F : Int) q.1).toNat, by omega⟩
    have := i2 x (by omega) (by omega)
    unfold put at this
    rw [raise_get (by omega), if_pos (by omega), rm.flat x (by omega) (by omega)] at this
    unfold bot at o3 o4
    omega
theorem lay_are : ∀ {F c : List Int}, are (lay F c) = sq2 c
  | _, [] => rfl
  | F, s :: r => by rw [lay, are_cons, lay_are, sq2]
theorem ara_rep {w : Nat} {h : Int} : ara h (List.replicate w 0) = w * h := by
  unfold ara
  rw [List.length_replicate]
  have key : ∀ n, n ≤ w → smN (fun i => h - (List.replicate w (0 : Int)).getD i 0) n = n * h := by
    intro n
    induction n with
    | zero => intro _; simp [smN]
    | succ n ih =>
      intro hn
      rw [smN, ih (by omega), Int.natCast_add, Int.add_mul]
      have : (List.replicate w (0 : Int)).getD n 0 = 0 := by simp [List.getD, show n < w by omega]
      rw [this]
      omega
  exact key w (Nat.le_refl _)
theorem lay_mk {w h : Nat} {c : List Int} (hw : 1 ≤ w) (hh : 1 ≤ h) (p : path h (List.replicate w 0) c) : Mk (lay (List.replicate w 0) c) w h := by
  have f := flo_zero (w := w) (h := (h : Int)) (by omega)
  refine ⟨hw, hh, fun q hq => (lay_in hw f p q hq).1, lay_pw hw f p, ?_⟩
  rw [lay_are, ← (path_sq hw c _ f p).1, ara_rep]
theorem lay_layOn {w : Nat} {h : Int} (hw : 1 ≤ w) (h1 : h ≤ 1000) : ∀ {c F : List Int}, Flo w h F → path h F c → layOn F c = some ((lay F c).map toL)
  | [], F, f, p => by
    have hl := f.len
    have rm := room_is (F := F) (by omega)
    have hle := rm.le
    have hpos := rm.pos
    -- all is level, so that the room is the whole floor
    have hall : ∀ i, i < w → F.getD i 0 = h := fun i hi => by
      have h2 := rm.low i (by omega)
      have h3 := f.rng i hi
      have h4 : bot F = h := p
      unfold bot at h4
      omega
    have hk : lowest F = 0 := by
      rcases Nat.eq_zero_or_pos (lowest F) with e | e
      · exact e
      · have := rm.left 0 e
        rw [hall 0 (by omega), hall (lowest F) (by omega)] at this
        omega
    have hwd : ¬ wideOf F < F.length := fun g => by
      have := rm.wall (by omega)
      rw [hall _ (by omega), hall _ (by omega)] at this
      exact this rfl
    rw [layOn, if_neg hwd]
    rfl
  | s :: r, F, f, ⟨p1, p2, p3⟩ => by
    have ih := lay_layOn hw h1 (f.put hw p2) p3
    obtain ⟨m1, m2, m3⟩ := p2
    unfold bot at m3
    rw [layOn, if_neg (by omega)]
    unfold put at ih
    rw [ih, lay, List.map_cons]
    simp only [Option.map_some, toL, bot, put, Int.toNat_natCast]

/-- turned over the diagonal -/
def swp (q : Sq) : Sq := (q.2.1, q.1, q.2.2)
theorem Mk.turn {L : List Sq} {w h : Nat} (k : Mk L w h) : Mk (L.map swp) h w := by
  refine ⟨k.h1, k.w1, fun q hq => ?_, List.pairwise_map.2 (k.pw.imp fun {a b} hn ho => hn (by obtain ⟨o1, o2, o3, o4⟩ := ho; exact ⟨o3, o4, o1, o2⟩)), ?_⟩
  · obtain ⟨p, hp, rfl⟩ := List.mem_map.1 hq
    obtain ⟨a1, a2, a3, a4, a5⟩ := k.inn p hp
    exact ⟨a1, a3, a2, a5, a4⟩
  · have : ∀ L : List Sq, are (L.map swp) = are L := fun L => by
      induction L with
      | nil => rfl
      | cons q L ih => rw [List.map_cons, are_cons, are_cons, ih]; rfl
    rw [this, k.ar, Int.mul_comm]
theorem Mk.cutO {L : List Sq} {w h : Nat} (k : Mk L w h) (hw : w ≤ 1000) (hh : h ≤ 1000) : CutO (ordSq L) w h := by
  have hp : (ordSq L).Perm L := ordSq_perm
  have k' := Mk.perm k hp
  exact ⟨fun q hq => ⟨k'.ok hw hh q hq, (k'.inn q hq).2.2.2.1, (k'.inn q hq).2.2.2.2⟩, k'.pw, k'.ar, ordSq_srt, k.w1, k.h1, by omega⟩
theorem fl_end {O : List Sq} {W H : Nat} {F : List Int} (c : CutO O W H) (f : Fl O O.length W F) : ∀ x : Nat, x < W → F.getD x 0 = H := fun x hx => by
  obtain ⟨p, hp, hi⟩ := covered c.ok c.pw c.ar hx (show H - 1 < H by have := c.h1; omega)
  obtain ⟨⟨i1, i2⟩, i3, i4⟩ := hi
  have h1 := f.up p (by rw [List.take_length]; exact hp) x hx i1 i2
  have hh := c.h1
  by_cases hlt : (H : Int) < F.getD x 0
  · obtain ⟨p', hp', hi'⟩ := f.low x H hx hlt
    obtain ⟨i, _, hpi⟩ := take_in hp'
    have := (c.ok p' (List.mem_of_getElem? hpi)).2.2
    obtain ⟨_, _, j4⟩ := hi'
    omega
  · omega
theorem path_on {O : List Sq} {W H : Nat} (c : CutO O W H) : ∀ (d k : Nat) (F : List Int), k + d = O.length → Fl O k W F → path H F ((O.drop k).map fun q => q.2.2)
  | 0, k, F, hk, f => by
    obtain rfl : k = O.length := by omega
    rw [List.drop_length]
    have hl := f.len
    have w1 := c.w1
    have rm := room_is (F := F) (by omega)
    have := rm.le
    have := rm.pos
    show bot F = H
    unfold bot
    exact fl_end c f _ (by omega)
  | d + 1, k, F, hk, f => by
    obtain ⟨q, hq⟩ : ∃ q, O[k]? = some q := ⟨_, List.getElem?_eq_getElem (show k < O.length by omega)⟩
    obtain ⟨⟨m, hm, hS⟩, hy, f'⟩ := lay_step c f hq
    have hdrop : O.drop k = q :: O.drop (k + 1) := by
      obtain ⟨g, rfl⟩ := List.getElem?_eq_some_iff.1 hq
      exact List.drop_eq_getElem_cons g
    obtain ⟨⟨q1, q2, ⟨q3, q4⟩, q5, q6⟩, q7, q8⟩ := c.ok q (List.mem_of_getElem? hq)
    have hb : bot F = q.2.1 := by unfold bot; rw [hm.eq.1, hy]
    have ih := path_on c d (k + 1) _ (by omega) f'
    rw [hdrop, List.map_cons]
    refine ⟨by omega, ⟨q1, by rw [hm.eq.2]; exact hS, by omega⟩, ?_⟩
    unfold put
    rw [hm.eq.1]
    exact ih
theorem Mk.path {L : List Sq} {w h : Nat} (k : Mk L w h) (hw : w ≤ 1000) (hh : h ≤ 1000) : path h (List.replicate w 0) ((ordSq L).map fun q => q.2.2) := by
  have c := k.cutO hw hh
  have f0 : Fl (ordSq L) 0 w (List.replicate w 0) := by
    have h1 : ∀ x, x < w → (List.replicate w (0 : Int)).getD x 0 = 0 := fun x hx => by simp [List.getD, hx]
    exact ⟨by simp, fun x hx => by rw [h1 x hx]; exact Int.le_refl _, fun x y hx hy => by rw [h1 x hx] at hy; omega, fun q hq => by simp at hq⟩
  have := path_on c (ordSq L).length 0 _ (by omega) f0
  rwa [List.drop_zero] at this
/-- a code of the hide that is turned, with as many squares -/
theorem cod_turn {w h n : Nat} (hw : 1 ≤ w ∧ w ≤ 1000) (hh : 1 ≤ h ∧ h ≤ 1000) (hc : cod h (min (w : Int) h) n (List.replicate w 0) ≠ none) : cod w (min (h : Int) w) n (List.replicate h 0) ≠ none := by
  obtain ⟨c, hc⟩ := Option.ne_none_iff_exists'.1 hc
  obtain ⟨p, hl⟩ := cod_path hc
  have k := lay_mk hw.1 hh.1 p
  have p' := k.turn.path hh.2 hw.2
  have := cod_ex hh.1 _ _ (flo_zero (by omega)) p'
  rwa [List.length_map, ordSq_perm.length_eq, List.length_map, lay_len, hl] at this
end
end Go.Proofs.YtnhbkoeomefkdaaDoor.Ev.L

/- The search for the first code step by step: what is left to be tried, from any state of it on. Mathematics alone. -/
set_option linter.unusedVariables false
set_option linter.unusedSimpArgs false
namespace Go.Proofs.YtnhbkoeomefkdaaDoor.Ev.L
open Go Go.Proofs.YtnhbkoeomefkdaaDoor.Ev
noncomputable section

/-- the first code of d squares on a floor whose first size is at least s -/
def node (h gr : Int) : Nat → List Int → Int → Option (List Int)
  | 0, _, _ => none
  | d + 1, F, s => tryF (sizeF h gr d (cod h gr d) F) ((mostS h F : Int) + 1 - s).toNat s
/-- what the search finds: here, or after the last square is taken back -/
def cont (h gr : Int) : List (List Int × Int) → Nat → List Int → Int → Option (List Int)
  | [], d, F, s => node h gr d F s
  | (F', s') :: st, d, F, s => match node h gr d F s with
    | some c => some ((st.map Prod.snd).reverse ++ s' :: c)
    | none => cont h gr st (d + 1) F' (s' + 1)

variable {h gr : Int}
theorem node_one {d : Nat} {F : List Int} (hb : bot F ≠ h) : node h gr d F 1 = cod h gr d F := by
  cases d with
  | zero => rw [node, cod, if_neg hb]
  | succ d => rw [node, cod, if_neg hb]; congr 1; omega
theorem node_none {d : Nat} {F : List Int} {s : Int} (hs : d = 0 ∨ (mostS h F : Int) < s) : node h gr d F s = none := by
  cases d with
  | zero => rfl
  | succ d => rw [node, show ((mostS h F : Int) + 1 - s).toNat = 0 by omega, tryF]
theorem node_get {d : Nat} {F : List Int} {s : Int} (hs : s ≤ mostS h F) : node h gr (d + 1) F s = match sizeF h gr d (cod h gr d) F s with
    | some r => some r
    | none => node h gr (d + 1) F (s + 1) := by
  rw [node, node, show ((mostS h F : Int) + 1 - s).toNat = ((mostS h F : Int) + 1 - (s + 1)).toNat + 1 by omega, tryF]
  all_goals (cases sizeF h gr d (cod h gr d) F s <;> rfl)
theorem node_skip {d : Nat} {F : List Int} {s : Int} (hs : s ≤ mostS h F) (hp : d * gr * gr < ara h F - s * s) : node h gr (d + 1) F s = node h gr (d + 1) F (s + 1) := by
  have : sizeF h gr d (cod h gr d) F s = none := by unfold sizeF; rw [if_pos (by rw [← Int.mul_assoc]; exact hp)]
  rw [node_get hs, this]
theorem node_step {d : Nat} {F : List Int} {s : Int} (hs : s ≤ mostS h F) (hp : ¬ d * gr * gr < ara h F - s * s) : node h gr (d + 1) F s = match cod h gr d (put F s) with
    | some c => some (s :: c)
    | none => node h gr (d + 1) F (s + 1) := by
  rw [node_get hs]
  unfold sizeF
  rw [if_neg (by rw [← Int.mul_assoc]; exact hp)]
  all_goals (cases cod h gr d (put F s) <;> rfl)
theorem cont_skip {st : List (List Int × Int)} {d : Nat} {F : List Int} {s s2 : Int} (hn : node h gr d F s = node h gr d F s2) : cont h gr st d F s = cont h gr st d F s2 := by
  cases st with
  | nil => exact hn
  | cons p st => rw [cont, cont, hn]
theorem cont_none {d : Nat} {F : List Int} {s : Int} (hn : node h gr d F s = none) : cont h gr [] d F s = none := hn
theorem cont_pop {st : List (List Int × Int)} {d : Nat} {F F' : List Int} {s s' : Int} (hn : node h gr d F s = none) : cont h gr ((F', s') :: st) d F s = cont h gr st (d + 1) F' (s' + 1) := by
  rw [cont, hn]
theorem cont_some {st : List (List Int × Int)} {d : Nat} {F c : List Int} {s : Int} (hn : node h gr d F s = some c) : cont h gr st d F s = some ((st.map Prod.snd).reverse ++ c) := by
  cases st with
  | nil => simpa [cont] using hn
  | cons p st => rw [cont, hn]; simp
theorem cont_push {st : List (List Int × Int)} {d : Nat} {F : List Int} {s : Int} (hs : s ≤ mostS h F) (hp : ¬ d * gr * gr < ara h F - s * s) (hb : bot (put F s) ≠ h) : cont h gr ((F, s) :: st) d (put F s) 1 = cont h gr st (d + 1) F s := by
  have h1 := node_step (d := d) hs hp
  rw [cont, node_one hb]
  cases hc : cod h gr d (put F s) with
  | some c =>
    rw [hc] at h1
    rw [cont_some h1]
  | none =>
    rw [hc] at h1
    exact (cont_skip h1).symm
theorem cont_found {st : List (List Int × Int)} {F : List Int} {s : Int} (hs : s ≤ mostS h F) (hp : ¬ (0 : Nat) * gr * gr < ara h F - s * s) (hb : bot (put F s) = h) : cont h gr st 1 F s = some (((F, s) :: st).map Prod.snd).reverse := by
  have h1 := node_step (d := 0) hs hp
  rw [cod, if_pos hb] at h1
  rw [cont_some h1]
  simp

/-- the squares that are put, the last one first: each with the floor before it -/
def Stk (h : Int) (F0 : List Int) : List (List Int × Int) → List Int → Prop
  | [], F => F = F0
  | (F', s) :: st, F => bot F' ≠ h ∧ may h F' s ∧ F = put F' s ∧ Stk h F0 st F'
theorem Stk.flo {w : Nat} {F0 : List Int} (hw : 1 ≤ w) (f : Flo w h F0) : ∀ {st : List (List Int × Int)} {F : List Int}, Stk h F0 st F → Flo w h F
  | [], F, e => by
    have e : F = F0 := e
    rw [e]; exact f
  | (F', s) :: st, F, ⟨_, hm, e, r⟩ => by rw [e]; exact (Stk.flo hw f r).put hw hm
theorem Stk.path {F0 : List Int} : ∀ {st : List (List Int × Int)} {F c : List Int}, Stk h F0 st F → L.path h F c → L.path h F0 ((st.map Prod.snd).reverse ++ c)
  | [], F, c, e, p => by
    have e : F = F0 := e
    rw [← e]; exact p
  | (F', s) :: st, F, c, ⟨hb, hm, e, r⟩, p => by
    have := Stk.path r (c := s :: c) ⟨hb, hm, by rw [← e]; exact p⟩
    simpa using this
/-- no code of fewer squares: so many squares are put where all is level -/
theorem Stk.many {w n : Nat} {F0 : List Int} (hw : 1 ≤ w) (f : Flo w h F0) {st : List (List Int × Int)} {F : List Int} (r : Stk h F0 st F) (hb : bot F = h) (hno : ∀ k, k < n → cod h (min (w : Int) h) k F0 = none) : n ≤ st.length := by
  have p := r.path (c := []) hb
  have := cod_ex hw _ _ f p
  rw [List.append_nil, List.length_reverse, List.length_map] at this
  rcases Nat.lt_or_ge st.length n with g | g
  · exact absurd (hno _ g) this
  · exact g
/-- the squares in the order in which they were put -/
def sqs (st : List (List Int × Int)) : List Sq := (st.map fun p => ((lowest p.1 : Int), bot p.1, p.2)).reverse
theorem sqs_cons {st : List (List Int × Int)} {F : List Int} {s : Int} : sqs ((F, s) :: st) = sqs st ++ [((lowest F : Int), bot F, s)] := by simp [sqs]
theorem sqs_len {st : List (List Int × Int)} : (sqs st).length = st.length := by simp [sqs]
theorem sqs_sizes {st : List (List Int × Int)} : (sqs st).map (fun q => q.2.2) = (st.map Prod.snd).reverse := by simp [sqs]

/-- how far the search is -/
def posn : List Int → Nat → Nat
  | [], _ => 0
  | s :: r, e => s.toNat * 11 ^ e + posn r (e + 1)
theorem posn_le : ∀ (l : List Int) (e : Nat), (∀ s ∈ l, s.toNat ≤ 10) → posn l e + 11 ^ e ≤ 11 ^ (e + l.length)
  | [], e, _ => by simp [posn]
  | s :: r, e, hl => by
    have h1 := posn_le r (e + 1) fun s hs => hl s (List.mem_cons_of_mem _ hs)
    have h2 := hl s (by simp)
    have h3 : s.toNat * 11 ^ e ≤ 10 * 11 ^ e := Nat.mul_le_mul_right _ h2
    rw [posn, List.length_cons, show e + (r.length + 1) = e + 1 + r.length by omega]
    rw [Nat.pow_succ] at h1
    omega
def far (st : List (List Int × Int)) (d : Nat) (s : Int) : Nat := s.toNat * 11 ^ d + posn (st.map Prod.snd) (d + 1)
theorem far_lt {st : List (List Int × Int)} {d n : Nat} {s : Int} (hs : s.toNat ≤ 10) (hst : ∀ p ∈ st, p.2.toNat ≤ 10) (hd : st.length + d = n) : far st d s < 11 ^ (n + 1) := by
  have h1 := posn_le (st.map Prod.snd) (d + 1) fun s hs => by
    obtain ⟨p, hp, rfl⟩ := List.mem_map.1 hs
    exact hst p hp
  have h3 : s.toNat * 11 ^ d ≤ 10 * 11 ^ d := Nat.mul_le_mul_right _ hs
  have h4 := Nat.pow_pos (n := d) (show 0 < 11 by decide)
  rw [List.length_map, show d + 1 + st.length = n + 1 by omega, Nat.pow_succ] at h1
  unfold far
  omega
theorem far_push {st : List (List Int × Int)} {d : Nat} {F : List Int} {s : Int} : far st (d + 1) s < far ((F, s) :: st) d 1 := by
  have h4 := Nat.pow_pos (n := d) (show 0 < 11 by decide)
  unfold far
  rw [List.map_cons, posn, show (1 : Int).toNat = 1 from rfl, Nat.one_mul]
  exact Nat.lt_add_of_pos_left h4
theorem far_pop {st : List (List Int × Int)} {d : Nat} {F : List Int} {s s' : Int} (hs : s.toNat ≤ 10) (hs' : 0 ≤ s') : far ((F, s') :: st) d s < far st (d + 1) (s' + 1) := by
  have h3 : s.toNat * 11 ^ d ≤ 10 * 11 ^ d := Nat.mul_le_mul_right _ hs
  have h4 := Nat.pow_pos (n := d) (show 0 < 11 by decide)
  have e : (s' + 1).toNat = s'.toNat + 1 := by omega
  unfold far
  rw [List.map_cons, posn, e, Nat.add_mul, Nat.one_mul]
  generalize s'.toNat * 11 ^ (d + 1) = X
  generalize posn _ _ = Y
  rw [show 11 ^ (d + 1) = 11 ^ d * 11 from Nat.pow_succ ..]
  omega
theorem far_mono {st : List (List Int × Int)} {d : Nat} {s s' : Int} (hs : s ≤ s') : far st d s ≤ far st d s' := by
  unfold far
  have : s.toNat * 11 ^ d ≤ s'.toNat * 11 ^ d := Nat.mul_le_mul_right _ (by omega)
  omega
end
end Go.Proofs.YtnhbkoeomefkdaaDoor.Ev.L

