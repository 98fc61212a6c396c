/- Numbers in limbs, the lowest one first; decimal digits. -/
import Derived.Test.YthankillfhmfkaaGreatDoorPmSS
set_option linter.unusedVariables false
namespace Go.Lm
def nv (B : Nat) : List Nat → Nat
  | [] => 0
  | a :: l => a + B * nv B l
def Lim (B : Nat) (l : List Nat) : Prop := ∀ a ∈ l, a < B
def Nrm (l : List Nat) : Prop := l.getLast? ≠ some 0
theorem nv_nil {B : Nat} : nv B [] = 0 := rfl
theorem nv_cons {B a : Nat} {l : List Nat} : nv B (a :: l) = a + B * nv B l := rfl
theorem nv_append {B : Nat} : ∀ {l m : List Nat}, nv B (l ++ m) = nv B l + B ^ l.length * nv B m
  | [], m => by simp [nv]
  | a :: l, m => by
    simp only [List.cons_append, nv_cons, List.length_cons, nv_append (l := l), Nat.pow_succ]
    grind
theorem nv_one {B a : Nat} : nv B [a] = a := by simp [nv]
theorem nv_snoc {B a : Nat} {l : List Nat} : nv B (l ++ [a]) = nv B l + B ^ l.length * a := by rw [nv_append, nv_one]
theorem nv_zeros {B : Nat} : ∀ n, nv B (List.replicate n 0) = 0
  | 0 => rfl
  | n + 1 => by rw [List.replicate_succ, nv_cons, nv_zeros n]; simp
theorem Lim.nil {B : Nat} : Lim B [] := fun _ h => (by cases h)
theorem Lim.zeros {B n : Nat} (hB : 0 < B) : Lim B (List.replicate n 0) := fun a h => by rw [(List.mem_replicate.1 h).2]; exact hB
theorem Lim.take {B n : Nat} {l : List Nat} (h : Lim B l) : Lim B (l.take n) := fun a ha => h a (List.mem_of_mem_take ha)
theorem Lim.drop {B n : Nat} {l : List Nat} (h : Lim B l) : Lim B (l.drop n) := fun a ha => h a (List.mem_of_mem_drop ha)
theorem Lim.app {B : Nat} {l m : List Nat} (h : Lim B l) (k : Lim B m) : Lim B (l ++ m) := fun a ha => (List.mem_append.1 ha).elim (h a) (k a)
theorem Lim.one {B a : Nat} (h : a < B) : Lim B [a] := fun x hx => by rw [List.mem_singleton.1 hx]; exact h
theorem Lim.cons {B a : Nat} {l : List Nat} (h : a < B) (k : Lim B l) : Lim B (a :: l) := fun x hx => (List.mem_cons.1 hx).elim (fun e => by rw [e]; exact h) (k x)
theorem Lim.set {B a i : Nat} {l : List Nat} (h : a < B) (k : Lim B l) : Lim B (l.set i a) := fun x hx => by
  rcases List.mem_or_eq_of_mem_set hx with h1 | rfl
  · exact k x h1
  · exact h
theorem Lim.get {B i : Nat} {l : List Nat} (k : Lim B l) {a : Nat} (h : l[i]? = some a) : a < B := k a (List.mem_of_getElem? h)
theorem Lim.head {B a : Nat} {l : List Nat} (k : Lim B (a :: l)) : a < B := k a (List.mem_cons_self ..)
theorem Lim.tail {B a : Nat} {l : List Nat} (k : Lim B (a :: l)) : Lim B l := fun x hx => k x (List.mem_cons_of_mem _ hx)
theorem nv_lt {B : Nat} : ∀ {l : List Nat}, Lim B l → nv B l < B ^ l.length
  | [], _ => by simp [nv]
  | a :: l, h => by
    have h1 := nv_lt (l := l) h.tail
    have h2 := h.head
    rw [nv_cons, List.length_cons, Nat.pow_succ]
    have h3 : B * (nv B l + 1) ≤ B * B ^ l.length := Nat.mul_le_mul_left _ h1
    rw [Nat.mul_add, Nat.mul_one] at h3
    rw [Nat.mul_comm (B ^ l.length) B]
    omega
theorem nv_take_drop {B n : Nat} {l : List Nat} (h : n ≤ l.length) : nv B l = nv B (l.take n) + B ^ n * nv B (l.drop n) := by
  have : l = l.take n ++ l.drop n := (List.take_append_drop n l).symm
  conv => lhs; rw [this]
  rw [nv_append, List.length_take, Nat.min_eq_left h]
theorem take_succ_get {l : List Nat} {i a : Nat} (h : l[i]? = some a) : l.take (i + 1) = l.take i ++ [a] := by
  rw [List.take_add_one, h]; rfl
theorem drop_get {l : List Nat} {i a : Nat} (h : l[i]? = some a) : l.drop i = a :: l.drop (i + 1) := by
  obtain ⟨g, e⟩ := List.getElem?_eq_some_iff.1 h
  rw [List.drop_eq_getElem_cons g, e]
theorem len_take {l : List Nat} {i a : Nat} (h : l[i]? = some a) : (l.take i).length = i := by
  obtain ⟨g, _⟩ := List.getElem?_eq_some_iff.1 h
  rw [List.length_take]; omega
theorem nv_take_succ {B i a : Nat} {l : List Nat} (h : l[i]? = some a) : nv B (l.take (i + 1)) = nv B (l.take i) + B ^ i * a := by
  rw [take_succ_get h, nv_snoc, len_take h]
theorem nv_drop {B i a : Nat} {l : List Nat} (h : l[i]? = some a) : nv B (l.drop i) = a + B * nv B (l.drop (i + 1)) := by
  rw [drop_get h, nv_cons]
theorem nv_set {B : Nat} : ∀ {l : List Nat} {i a x : Nat}, l[i]? = some a → nv B (l.set i x) + B ^ i * a = nv B l + B ^ i * x
  | [], i, a, x, h => by simp at h
  | b :: l, 0, a, x, h => by
    simp only [List.getElem?_cons_zero, Option.some.injEq] at h
    subst h
    simp only [List.set_cons_zero, nv_cons, Nat.pow_zero]
    omega
  | b :: l, i + 1, a, x, h => by
    have ih := nv_set (B := B) (l := l) (i := i) (a := a) (x := x) (by simpa using h)
    simp only [List.set_cons_succ, nv_cons, Nat.pow_succ]
    grind
theorem Nrm.nil : Nrm [] := by simp [Nrm]
theorem nrm_pos {B : Nat} (hB : 0 < B) : ∀ {l : List Nat}, Nrm l → l ≠ [] → B ^ (l.length - 1) ≤ nv B l
  | [], _, h => absurd rfl h
  | [a], h, _ => by
    have : a ≠ 0 := fun e => h (by rw [e]; rfl)
    simp [nv]; omega
  | a :: b :: l, h, _ => by
    have ih := nrm_pos (B := B) hB (l := b :: l) (fun e => h (by simpa using e)) (by simp)
    rw [nv_cons]
    simp only [List.length_cons, Nat.add_sub_cancel] at ih ⊢
    have : B * B ^ l.length ≤ B * nv B (b :: l) := Nat.mul_le_mul_left _ ih
    rw [Nat.pow_succ, Nat.mul_comm]
    omega
theorem nrm_zero {B : Nat} (hB : 0 < B) {l : List Nat} (h : Nrm l) : nv B l = 0 ↔ l = [] := by
  constructor
  · intro e
    by_cases hl : l = []
    · exact hl
    · have := nrm_pos hB h hl
      have := Nat.pow_pos (n := l.length - 1) hB
      omega
  · rintro rfl; rfl
theorem nv_len_lt {B : Nat} (hB : 0 < B) {l m : List Nat} (hl : Lim B l) (hm : Nrm m) (h : l.length < m.length) : nv B l < nv B m := by
  have h1 := nv_lt hl
  have h2 := nrm_pos hB hm (by rintro rfl; simp at h)
  have h3 : B ^ l.length ≤ B ^ (m.length - 1) := Nat.pow_le_pow_right hB (by omega)
  omega
theorem nv_inj {B : Nat} (hB : 0 < B) : ∀ {l m : List Nat}, Lim B l → Lim B m → l.length = m.length → nv B l = nv B m → l = m
  | [], [], _, _, _, _ => rfl
  | [], b :: m, _, _, h, _ => by simp at h
  | a :: l, [], _, _, h, _ => by simp at h
  | a :: l, b :: m, hl, hm, h, e => by
    have h1 := hl.head; have h2 := hm.head
    rw [nv_cons, nv_cons] at e
    have e1 : (a + B * nv B l) % B = a := by rw [Nat.add_mul_mod_self_left, Nat.mod_eq_of_lt h1]
    have e2 : (b + B * nv B m) % B = b := by rw [Nat.add_mul_mod_self_left, Nat.mod_eq_of_lt h2]
    have e3 : a = b := by rw [← e1, e, e2]
    subst e3
    have e4 : nv B l = nv B m := Nat.eq_of_mul_eq_mul_left hB (by omega)
    rw [nv_inj hB hl.tail hm.tail (by simpa using h) e4]
theorem nv_uniq {B : Nat} (hB : 0 < B) {l m : List Nat} (hl : Lim B l) (hm : Lim B m) (nl : Nrm l) (nm : Nrm m) (e : nv B l = nv B m) : l = m := by
  rcases Nat.lt_trichotomy l.length m.length with h | h | h
  · have := nv_len_lt hB hl nm h; omega
  · exact nv_inj hB hl hm h e
  · have := nv_len_lt hB hm nl h; omega
theorem trim_step {B n : Nat} {l : List Nat} (h : l[n]? = some 0) : nv B (l.take (n + 1)) = nv B (l.take n) := by
  rw [nv_take_succ h]; omega
theorem nrm_take {n a : Nat} {l : List Nat} (h : l[n]? = some a) (ha : a ≠ 0) : Nrm (l.take (n + 1)) := by
  rw [take_succ_get h]
  simp [Nrm, ha]
theorem nv_top_lt {B i a b : Nat} {l m : List Nat} (hl : Lim B l) (h1 : l[i]? = some a) (h2 : m[i]? = some b) (h : a < b) (e : l.drop (i + 1) = m.drop (i + 1)) : nv B l < nv B m := by
  obtain ⟨g1, _⟩ := List.getElem?_eq_some_iff.1 h1
  obtain ⟨g2, _⟩ := List.getElem?_eq_some_iff.1 h2
  have e1 := nv_take_drop (B := B) (n := i) (l := l) (by omega)
  have e2 := nv_take_drop (B := B) (n := i) (l := m) (by omega)
  rw [nv_drop h1, e] at e1
  rw [nv_drop h2] at e2
  have h3 := nv_lt (B := B) (l := l.take i) hl.take
  rw [len_take h1] at h3
  have h4 : B ^ i * (a + 1) ≤ B ^ i * b := Nat.mul_le_mul_left _ h
  rw [Nat.mul_add] at e1 e2 h4
  omega
theorem list_eq_drop {l m : List Nat} (h : l.drop 0 = m.drop 0) : l = m := by simpa using h
theorem add_step {B i x y c : Nat} {a b s : Nat} (h : s + B ^ i * c = a + b) : s + B ^ i * ((c + x + y) % B) + B ^ (i + 1) * ((c + x + y) / B) = (a + B ^ i * x) + (b + B ^ i * y) := by
  have := Nat.mod_add_div (c + x + y) B
  rw [Nat.pow_succ]
  generalize (c + x + y) % B = r at *
  generalize (c + x + y) / B = q at *
  have e : B ^ i * (r + B * q) = B ^ i * (c + x + y) := by rw [this]
  grind
end Go.Lm
namespace Go.Lm
theorem red_unique {t b m d : Nat} (hb : 0 < b) (hd : 0 < d) (hc : Nat.gcd t b = 1) (h : t * d = m * b) : t = m / Nat.gcd m d ∧ b = d / Nat.gcd m d := by
  have hco : Nat.Coprime t b := hc
  have h1 : b ∣ d := by
    have : b ∣ t * d := ⟨m, by rw [h, Nat.mul_comm]⟩
    exact hco.symm.dvd_of_dvd_mul_left this
  obtain ⟨k, rfl⟩ := h1
  have hm : m = t * k := by
    have e : m * b = t * k * b := by rw [← h]; grind
    exact Nat.eq_of_mul_eq_mul_right hb e
  subst hm
  have hk : 0 < k := by
    rcases Nat.eq_zero_or_pos k with h0 | h0
    · subst h0; simp at hd
    · exact h0
  have hg : Nat.gcd (t * k) (b * k) = k := by rw [Nat.gcd_mul_right, hc, Nat.one_mul]
  rw [hg, Nat.mul_div_cancel _ hk, Nat.mul_div_cancel _ hk]
  exact ⟨rfl, rfl⟩
def rt (n : Int) (d : Nat) : Nat := n.natAbs / Nat.gcd n.natAbs d
def rb (n : Int) (d : Nat) : Nat := d / Nat.gcd n.natAbs d
theorem gcd_pos {m d : Nat} (h : 0 < d) : 0 < Nat.gcd m d := Nat.gcd_pos_of_pos_right _ h
theorem rb_pos {n : Int} {d : Nat} (h : 0 < d) : 0 < rb n d := Nat.div_pos (Nat.gcd_le_right _ h) (gcd_pos h)
theorem rt_rb {n : Int} {d : Nat} (h : 0 < d) : Nat.gcd (rt n d) (rb n d) = 1 := by
  have := Nat.gcd_div (Nat.gcd_dvd_left n.natAbs d) (Nat.gcd_dvd_right n.natAbs d)
  rw [rt, rb, this, Nat.div_self (gcd_pos h)]
theorem rt_mul {n : Int} {d : Nat} : rt n d * Nat.gcd n.natAbs d = n.natAbs := Nat.div_mul_cancel (Nat.gcd_dvd_left _ _)
theorem rb_mul {n : Int} {d : Nat} : rb n d * Nat.gcd n.natAbs d = d := Nat.div_mul_cancel (Nat.gcd_dvd_right _ _)
theorem rt_cross {n : Int} {d : Nat} : rt n d * d = n.natAbs * rb n d := by
  have h1 := rt_mul (n := n) (d := d)
  have h2 := rb_mul (n := n) (d := d)
  generalize Nat.gcd n.natAbs d = g at *
  generalize rt n d = t at *
  generalize rb n d = b at *
  rw [← h1, ← h2]
  grind
theorem rt_eq {n n' : Int} {d d' : Nat} (hd : 0 < d) (hd' : 0 < d') (h : n * d' = n' * d) : rt n d = rt n' d' ∧ rb n d = rb n' d' ∧ (n < 0 ↔ n' < 0) := by
  have habs : n.natAbs * d' = n'.natAbs * d := by
    have := congrArg Int.natAbs h
    simpa [Int.natAbs_mul] using this
  have h1 : rt n d * d' = n'.natAbs * rb n d := by
    have hc := rt_cross (n := n) (d := d)
    refine Nat.eq_of_mul_eq_mul_right hd ?_
    rw [show rt n d * d' * d = (rt n d * d) * d' by grind, hc, show n'.natAbs * rb n d * d = (n'.natAbs * d) * rb n d by grind, ← habs]
    grind
  obtain ⟨e1, e2⟩ := red_unique (rb_pos hd) hd' (rt_rb hd) h1
  refine ⟨e1, e2, ?_⟩
  have p1 : (0 : Int) < d := by omega
  have p2 : (0 : Int) < d' := by omega
  constructor
  · intro hn
    have : n * d' < 0 := Int.mul_neg_of_neg_of_pos hn p2
    rw [h] at this
    rcases Int.lt_or_le n' 0 with h3 | h3
    · exact h3
    · have := Int.mul_nonneg h3 (Int.le_of_lt p1); omega
  · intro hn
    have : n' * d < 0 := Int.mul_neg_of_neg_of_pos hn p1
    rw [← h] at this
    rcases Int.lt_or_le n 0 with h3 | h3
    · exact h3
    · have := Int.mul_nonneg h3 (Int.le_of_lt p2); omega
theorem rb_one {n : Int} : rb n 1 = 1 ∧ rt n 1 = n.natAbs := by simp [rb, rt]
theorem nat_dvd_int {x : Nat} {n : Int} : (x : Int) ∣ n ↔ x ∣ n.natAbs := by
  rw [← Int.natAbs_dvd_natAbs, Int.natAbs_natCast]
end Go.Lm
namespace Go.Lm
theorem nv_take_getD {B i : Nat} {l : List Nat} : nv B (l.take (i + 1)) = nv B (l.take i) + B ^ i * l.getD i 0 := by
  by_cases h : i < l.length
  · have hg : l[i]? = some (l[i]'h) := List.getElem?_eq_getElem h
    rw [nv_take_succ hg, List.getD_eq_getElem?_getD, hg]; rfl
  · rw [List.take_of_length_le (by omega), List.take_of_length_le (by omega), List.getD_eq_getElem?_getD, List.getElem?_eq_none (by omega)]
    simp
theorem getD_lim {B i : Nat} {l : List Nat} (hB : 0 < B) (h : Lim B l) : l.getD i 0 < B := by
  rw [List.getD_eq_getElem?_getD]
  cases hg : l[i]? with
  | none => exact hB
  | some a => exact h.get hg
theorem nv_set_take {B i r : Nat} {l : List Nat} (h : i < l.length) : nv B ((l.set i r).take (i + 1)) = nv B (l.take i) + B ^ i * r := by
  have hg : (l.set i r)[i]? = some r := by rw [List.getElem?_set_self h]
  rw [nv_take_succ hg, List.take_set_of_le (Nat.le_refl _)]
theorem nv_set_drop {B i r : Nat} {l : List Nat} (h : i < l.length) : nv B ((l.set i r).drop i) = r + B * nv B (l.drop (i + 1)) := by
  have hg : (l.set i r)[i]? = some r := by rw [List.getElem?_set_self h]
  rw [nv_drop hg]
  congr 3
  apply List.ext_getElem?
  intro j
  rw [List.getElem?_drop, List.getElem?_drop, List.getElem?_set_ne (by omega)]
theorem sub_step {B i a b bo r bo' : Nat} {L R M : Nat} (h : L + B ^ i * bo = R + M) (hr : a + B * bo' = r + (bo + b)) : L + B ^ i * a + B ^ (i + 1) * bo' = (R + B ^ i * r) + (M + B ^ i * b) := by
  rw [Nat.pow_succ]
  have e : B ^ i * (a + B * bo') = B ^ i * (r + (bo + b)) := by rw [hr]
  grind
theorem mul_step {B i j x y c p P P' S T : Nat} (h : P + B ^ (i + j) * c = S + B ^ i * (x * T)) (hs : P' + B ^ (i + j) * p = P + B ^ (i + j) * ((c + (x * y + p)) % B)) :
    P' + B ^ (i + (j + 1)) * ((c + (x * y + p)) / B) = S + B ^ i * (x * (T + B ^ j * y)) := by
  have hm := Nat.mod_add_div (c + (x * y + p)) B
  generalize (c + (x * y + p)) % B = r at *
  generalize (c + (x * y + p)) / B = q at *
  have e : B ^ (i + j) * (r + B * q) = B ^ (i + j) * (c + (x * y + p)) := by rw [hm]
  have e2 : B ^ (i + (j + 1)) = B ^ (i + j) * B := by rw [← Nat.add_assoc, Nat.pow_succ]
  have e3 : B ^ (i + j) = B ^ i * B ^ j := Nat.pow_add ..
  rw [e2]
  rw [e3] at *
  grind
theorem mul_end {B i n x P P' S T L c : Nat} (h : P + B ^ (i + n) * c = S + B ^ i * (x * T)) (hs : P' + B ^ (i + n) * 0 = P + B ^ (i + n) * c) (hS : S = L * T) : P' = (L + B ^ i * x) * T := by
  grind
theorem mul_carry {B x y c p : Nat} (hx : x < B) (hy : y < B) (hc : c < B) (hp : p < B) : c + (x * y + p) < B * B := by
  have h1 : x * y ≤ (B - 1) * (B - 1) := Nat.mul_le_mul (by omega) (by omega)
  obtain ⟨k, rfl⟩ : ∃ k, B = k + 1 := ⟨B - 1, by omega⟩
  simp only [Nat.add_sub_cancel] at h1
  have : (k + 1) * (k + 1) = k * k + 2 * k + 1 := by grind
  omega
theorem div_carry {B b rest a : Nat} (hr : rest < b) (ha : a < B) : (rest * B + a) / b < B := by
  have h : rest * B + a < B * b := by
    have : (rest + 1) * B ≤ b * B := Nat.mul_le_mul_right _ hr
    rw [Nat.add_mul, Nat.one_mul] at this
    rw [Nat.mul_comm B b]; omega
  exact (Nat.div_lt_iff_lt_mul (by omega)).2 h
theorem div_step {B b rest a Q X : Nat} (h : X = b * Q + rest) : a + B * X = b * ((rest * B + a) / b + B * Q) + (rest * B + a) % b := by
  have := Nat.div_add_mod (rest * B + a) b
  generalize (rest * B + a) / b = q at *
  generalize (rest * B + a) % b = r at *
  grind
end Go.Lm
namespace Go.Lm
def dg (n : Nat) : UInt8 := UInt8.ofNat (48 + n % 10)
theorem dg_toNat {n : Nat} : (dg n).toNat = 48 + n % 10 := by
  simp only [dg, UInt8.toNat_ofNat']
  omega
def dec (n : Nat) : List UInt8 := if n < 10 then [dg n] else dec (n / 10) ++ [dg n]
def digs : Nat → Nat → List UInt8
  | 0, _ => []
  | k + 1, n => digs k (n / 10) ++ [dg n]
theorem dec_small {n : Nat} (h : n < 10) : dec n = [dg n] := by rw [dec, if_pos h]
theorem dec_big {n : Nat} (h : 10 ≤ n) : dec n = dec (n / 10) ++ [dg n] := by rw [dec, if_neg (by omega)]
theorem digs_len : ∀ {k n : Nat}, (digs k n).length = k
  | 0, _ => rfl
  | k + 1, n => by simp [digs, digs_len (k := k)]
theorem dg_mod {n m : Nat} (h : n % 10 = m % 10) : dg n = dg m := by simp only [dg, h]
theorem pow_pos10 (k : Nat) : 0 < 10 ^ k := Nat.pow_pos (by omega)
theorem dec_split : ∀ {k n : Nat}, 10 ^ k ≤ n → dec n = dec (n / 10 ^ k) ++ digs k n
  | 0, n, _ => by simp [digs]
  | k + 1, n, h => by
    have h0 := pow_pos10 k
    rw [Nat.pow_succ] at h
    have h10 : 10 ≤ n := by
      have : 1 * 10 ≤ 10 ^ k * 10 := Nat.mul_le_mul_right _ h0
      omega
    have h1 : 10 ^ k ≤ n / 10 := (Nat.le_div_iff_mul_le (by omega)).2 h
    rw [dec_big h10, dec_split h1, digs, Nat.div_div_eq_div_mul, Nat.pow_succ, Nat.mul_comm 10, List.append_assoc]
theorem digs_mod : ∀ {k n : Nat}, digs k (n % 10 ^ k) = digs k n
  | 0, _ => rfl
  | k + 1, n => by
    have h0 := pow_pos10 k
    have e1 : n % 10 ^ (k + 1) / 10 = n / 10 % 10 ^ k := by
      rw [Nat.pow_succ, Nat.mul_comm, Nat.mod_mul_right_div_self]
    have e2 : n % 10 ^ (k + 1) % 10 = n % 10 := Nat.mod_mod_of_dvd _ ⟨10 ^ k, by rw [Nat.pow_succ, Nat.mul_comm]⟩
    rw [digs, digs, e1, digs_mod (k := k), dg_mod e2]
theorem dec_len : ∀ {k n : Nat}, n < 10 ^ (k + 1) → (dec n).length ≤ k + 1
  | 0, n, h => by rw [dec_small (by simpa using h)]; simp
  | k + 1, n, h => by
    by_cases h1 : n < 10
    · rw [dec_small h1]; simp
    · rw [dec_big (by omega)]
      rw [Nat.pow_succ] at h
      have := dec_len (k := k) (n := n / 10) (Nat.div_lt_of_lt_mul (by rw [Nat.mul_comm]; exact h))
      simp
      omega
theorem dec_pos {n : Nat} : 0 < (dec n).length := by
  rw [dec]; split <;> simp
theorem digs_dec : ∀ {k n : Nat}, n < 10 ^ (k + 1) → digs (k + 1) n = List.replicate (k + 1 - (dec n).length) 48 ++ dec n
  | 0, n, h => by rw [dec_small (by simpa using h)]; simp [digs]
  | k + 1, n, h => by
    rw [Nat.pow_succ] at h
    have h1 : n / 10 < 10 ^ (k + 1) := Nat.div_lt_of_lt_mul (by rw [Nat.mul_comm]; exact h)
    have ih := digs_dec (k := k) h1
    rw [digs, ih]
    by_cases h10 : n < 10
    · have e0 : n / 10 = 0 := by omega
      have e1 : dec (n / 10) = [48] := by rw [e0, dec_small (by omega)]; rfl
      rw [e1, dec_small h10]
      simp only [List.length_singleton, Nat.add_sub_cancel]
      rw [List.replicate_succ', List.append_assoc]
    · rw [dec_big (n := n) (by omega)]
      simp only [List.length_append, List.length_singleton, List.append_assoc]
      congr 2
      omega
theorem dec_chunk {k n : Nat} (h : 10 ^ (k + 1) ≤ n) : dec n = dec (n / 10 ^ (k + 1)) ++ (List.replicate (k + 1 - (dec (n % 10 ^ (k + 1))).length) 48 ++ dec (n % 10 ^ (k + 1))) := by
  rw [dec_split h, ← digs_mod, digs_dec (Nat.mod_lt _ (pow_pos10 _))]
def dval (l : List UInt8) : Nat := l.foldl (fun a c => 10 * a + (c.toNat - 48)) 0
theorem dval_snoc {l : List UInt8} {c : UInt8} : dval (l ++ [c]) = 10 * dval l + (c.toNat - 48) := by simp [dval]
theorem dval_dec : ∀ {n : Nat}, dval (dec n) = n := by
  intro n
  induction n using Nat.strongRecOn with
  | _ n ih =>
    by_cases h : n < 10
    · rw [dec_small h]
      simp only [dval, List.foldl_cons, List.foldl_nil, dg_toNat]
      omega
    · rw [dec_big (by omega), dval_snoc, ih (n / 10) (by omega), dg_toNat]
      omega
theorem dec_head : ∀ {n : Nat}, n ≠ 0 → (dec n).head? ≠ some 48 := by
  intro n
  induction n using Nat.strongRecOn with
  | _ n ih =>
    intro hn
    by_cases h : n < 10
    · rw [dec_small h]
      simp only [List.head?_cons, ne_eq, Option.some.injEq]
      intro e
      have := dg_toNat (n := n)
      rw [e] at this
      have e48 : (48 : UInt8).toNat = 48 := rfl
      omega
    · rw [dec_big (by omega)]
      have h1 := ih (n / 10) (by omega) (by omega)
      have h2 := dec_pos (n := n / 10)
      generalize dec (n / 10) = l at h1 h2 ⊢
      cases l with
      | nil => simp at h2
      | cons a l => simpa using h1
theorem dec_inj {n m : Nat} (h : dec n = dec m) : n = m := by rw [← dval_dec (n := n), h, dval_dec]
end Go.Lm
namespace Go.Lm
def pop (S : Nat) : Nat := (List.range 6).countP fun a => S.testBit a
def isCl (cm : Nat → Nat → Bool) (k S : Nat) : Bool := (List.range k).all fun a => (List.range a).all fun b => !(S.testBit a && S.testBit b && !cm a b)
def pad (L : List Nat) (s : Nat) : List Nat := L ++ List.replicate (s + 1 - L.length) 0
def bump (L : List Nat) (s : Nat) : List Nat := (pad L s).set s ((pad L s).getD s 0 + 1)
def clqs (cm : Nat → Nat → Bool) (k : Nat) (Ss : List Nat) : List Nat := Ss.foldl (fun L S => if isCl cm k S then bump L (pop S) else L) []
def clq (cm : Nat → Nat → Bool) (k : Nat) : List Nat := clqs cm k (List.range (2 ^ k))
theorem pad_len {L : List Nat} {s : Nat} : (pad L s).length = max L.length (s + 1) := by simp [pad]; omega
theorem bump_len {L : List Nat} {s : Nat} : (bump L s).length = max L.length (s + 1) := by rw [bump, List.length_set, pad_len]
theorem pad_getD {L : List Nat} {s i : Nat} : (pad L s).getD i 0 = L.getD i 0 := by
  simp only [pad, List.getD_eq_getElem?_getD]
  by_cases h : i < L.length
  · rw [List.getElem?_append_left h]
  · rw [List.getElem?_append_right (by omega), List.getElem?_replicate, List.getElem?_eq_none (l := L) (by omega)]
    split <;> rfl
theorem bump_getD {L : List Nat} {s i : Nat} : (bump L s).getD i 0 = L.getD i 0 + if i = s then 1 else 0 := by
  by_cases h : i = s
  · subst h
    rw [if_pos rfl, bump, List.getD_eq_getElem?_getD, List.getElem?_set_self (by rw [pad_len]; omega), pad_getD]; rfl
  · rw [if_neg h, bump, List.getD_eq_getElem?_getD, List.getElem?_set_ne (Ne.symm h), ← List.getD_eq_getElem?_getD, pad_getD]; rfl
theorem clqs_snoc {cm : Nat → Nat → Bool} {k S : Nat} {Ss : List Nat} : clqs cm k (Ss ++ [S]) = if isCl cm k S then bump (clqs cm k Ss) (pop S) else clqs cm k Ss := by
  simp [clqs]
def clqF (cm : Nat → Nat → Bool) (k : Nat) (L : List Nat) (S : Nat) : List Nat := if isCl cm k S then bump L (pop S) else L
theorem clqF_getD {cm : Nat → Nat → Bool} {k i : Nat} : ∀ {Ss L : List Nat}, (Ss.foldl (clqF cm k) L).getD i 0 = L.getD i 0 + Ss.countP fun S => isCl cm k S && decide (pop S = i)
  | [], L => by simp
  | S :: Ss, L => by
    rw [List.foldl_cons, clqF_getD, List.countP_cons, clqF]
    by_cases h : isCl cm k S = true
    · rw [if_pos h, bump_getD]
      by_cases h2 : i = pop S
      · simp [h, h2]; omega
      · simp [h, h2, Ne.symm h2]
    · rw [if_neg h]
      simp [h]
theorem clqs_eq {cm : Nat → Nat → Bool} {k : Nat} {Ss : List Nat} : clqs cm k Ss = Ss.foldl (clqF cm k) [] := rfl
theorem clqs_getD {cm : Nat → Nat → Bool} {k i : Nat} {Ss : List Nat} : (clqs cm k Ss).getD i 0 = Ss.countP fun S => isCl cm k S && decide (pop S = i) := by
  rw [clqs_eq, clqF_getD]; simp
theorem pop_le {S : Nat} : pop S ≤ 6 := by
  have := List.countP_le_length (p := fun a => S.testBit a) (l := List.range 6)
  simpa [pop] using this
theorem clqF_len {cm : Nat → Nat → Bool} {k : Nat} : ∀ {Ss L : List Nat}, L.length ≤ 7 → L.length ≤ (Ss.foldl (clqF cm k) L).length ∧ (Ss.foldl (clqF cm k) L).length ≤ 7
  | [], L, h => ⟨Nat.le_refl _, h⟩
  | S :: Ss, L, h => by
    have hp := pop_le (S := S)
    have h1 : L.length ≤ (clqF cm k L S).length ∧ (clqF cm k L S).length ≤ 7 := by
      rw [clqF]
      split
      · rw [bump_len]; omega
      · exact ⟨Nat.le_refl _, h⟩
    have h2 := clqF_len (cm := cm) (k := k) (Ss := Ss) h1.2
    rw [List.foldl_cons]
    exact ⟨by omega, h2.2⟩
theorem clq_len {cm : Nat → Nat → Bool} {k : Nat} : (clq cm k).length ≤ 7 := (clqF_len (by simp)).2
theorem pop_zero : ∀ S, S < 64 → (pop S = 0 ↔ S = 0) := by decide
theorem pop_one' : ((List.range 64).all fun S => (List.range 6).all fun a => (List.range 6).all fun b => !(decide (pop S = 1) && S.testBit a && S.testBit b) || decide (a = b)) = true := by decide
theorem pop_one (S : Nat) (h : S < 64) (h1 : pop S = 1) (a : Nat) (ha : a < 6) (b : Nat) (hb : b < 6) (h2 : S.testBit a = true) (h3 : S.testBit b = true) : a = b := by
  have := List.all_eq_true.1 (List.all_eq_true.1 (List.all_eq_true.1 pop_one' S (List.mem_range.2 h)) a (List.mem_range.2 ha)) b (List.mem_range.2 hb)
  simpa [h1, h2, h3] using this
theorem pop_ones : ∀ k, k < 7 → (List.range (2 ^ k)).countP (fun S => decide (pop S = 1)) = k := by decide
theorem pop_nones : ∀ k, k < 7 → (List.range (2 ^ k)).countP (fun S => decide (pop S = 0)) = 1 := by decide
theorem pow64 {k S : Nat} (hk : k ≤ 6) (h : S < 2 ^ k) : S < 64 := by
  have : 2 ^ k ≤ 2 ^ 6 := Nat.pow_le_pow_right (by omega) hk
  omega
theorem isCl_few {cm : Nat → Nat → Bool} {k S : Nat} (hk : k ≤ 6) (hS : S < 2 ^ k) (h : pop S ≤ 1) : isCl cm k S = true := by
  have h64 := pow64 hk hS
  rw [isCl, List.all_eq_true]
  intro a ha
  rw [List.all_eq_true]
  intro b hb
  rw [List.mem_range] at ha hb
  by_cases h1 : S.testBit a = true
  · by_cases h2 : S.testBit b = true
    · exfalso
      rcases Nat.lt_or_ge (pop S) 1 with h3 | h3
      · have := (pop_zero S h64).1 (by omega)
        subst this
        simp at h1
      · have := pop_one S h64 (by omega) a (by omega) b (by omega) h1 h2
        omega
    · simp [h2]
  · simp [h1]
theorem countP_congr' {α : Type} {p q : α → Bool} : ∀ {l : List α}, (∀ x ∈ l, p x = q x) → l.countP p = l.countP q
  | [], _ => rfl
  | a :: l, h => by
    rw [List.countP_cons, List.countP_cons, countP_congr' fun x hx => h x (List.mem_cons_of_mem _ hx), h a (List.mem_cons_self ..)]
theorem clq_zero {cm : Nat → Nat → Bool} {k : Nat} (hk : k ≤ 6) : (clq cm k).getD 0 0 = 1 := by
  rw [clq, clqs_getD, ← pop_nones k (by omega)]
  refine countP_congr' fun S hS => ?_
  rw [List.mem_range] at hS
  by_cases h : pop S = 0
  · simp [h, isCl_few (cm := cm) hk hS (by omega)]
  · simp [h]
theorem clq_one {cm : Nat → Nat → Bool} {k : Nat} (hk : k ≤ 6) : (clq cm k).getD 1 0 = k := by
  rw [clq, clqs_getD]
  refine Eq.trans (countP_congr' fun S hS => ?_) (pop_ones k (by omega))
  rw [List.mem_range] at hS
  by_cases h : pop S = 1
  · simp [h, isCl_few (cm := cm) hk hS (by omega)]
  · simp [h]
theorem clq_two {cm : Nat → Nat → Bool} {k : Nat} (hk : k ≤ 6) (h0 : 0 < k) : 2 ≤ (clq cm k).length := by
  rcases Nat.lt_or_ge (clq cm k).length 2 with h | h
  · have := clq_one (cm := cm) hk
    rw [List.getD_eq_getElem?_getD, List.getElem?_eq_none (by omega)] at this
    simp at this; omega
  · exact h
theorem sum_bump {L : List Nat} {s : Nat} : (bump L s).sum = L.sum + 1 := by
  have hs : ∀ (M : List Nat) (s : Nat), s < M.length → (M.set s (M.getD s 0 + 1)).sum = M.sum + 1 := by
    intro M
    induction M with
    | nil => intro s h; simp at h
    | cons a M ih =>
      intro s h
      cases s with
      | zero => simp; omega
      | succ s => simp only [List.set_cons_succ, List.sum_cons, List.getD_cons_succ]; rw [ih s (by simpa using h)]; omega
  rw [bump, hs _ _ (by rw [pad_len]; omega), pad]
  simp
theorem clqF_sum {cm : Nat → Nat → Bool} {k : Nat} : ∀ {Ss L : List Nat}, (Ss.foldl (clqF cm k) L).sum ≤ L.sum + Ss.length
  | [], L => by simp
  | S :: Ss, L => by
    have := clqF_sum (cm := cm) (k := k) (Ss := Ss) (L := clqF cm k L S)
    have h1 : (clqF cm k L S).sum ≤ L.sum + 1 := by
      rw [clqF]
      split
      · rw [sum_bump]; exact Nat.le_refl _
      · omega
    rw [List.foldl_cons, List.length_cons]
    omega
theorem clq_sum {cm : Nat → Nat → Bool} {k : Nat} (hk : k ≤ 6) : (clq cm k).sum ≤ 64 := by
  have := clqF_sum (cm := cm) (k := k) (Ss := List.range (2 ^ k)) (L := [])
  have h2 : 2 ^ k ≤ 2 ^ 6 := Nat.pow_le_pow_right (by omega) hk
  rw [clq, clqs_eq]
  simp only [List.sum_nil, List.length_range] at this
  omega
def sg (i : Nat) : Int := if i % 2 = 0 then -1 else 1
def psum (cl : List Nat) (L : List Int) (len : Nat) : Nat → Int
  | 0 => 0
  | s + 1 => psum cl L len s + sg (s + 1) * ((cl.getD (s + 1) 0 : Nat) : Int) * L.getD (len - (s + 1)) 0
def szs (cl : List Nat) (len : Nat) : Nat := min (cl.length - 1) len
def cnts (cl : List Nat) : Nat → List Int
  | 0 => [1]
  | n + 1 => cnts cl n ++ [psum cl (cnts cl n) (n + 1) (szs cl (n + 1))]
theorem cnts_len {cl : List Nat} : ∀ n, (cnts cl n).length = n + 1
  | 0 => rfl
  | n + 1 => by rw [cnts, List.length_append, cnts_len n]; rfl
def cnt (cl : List Nat) (n : Nat) : Int := (cnts cl n).getD n 0
theorem cnts_getD {cl : List Nat} : ∀ {n i : Nat}, i ≤ n → (cnts cl n).getD i 0 = cnt cl i
  | 0, i, h => by obtain rfl : i = 0 := by omega
                  rfl
  | n + 1, i, h => by
    by_cases h1 : i = n + 1
    · rw [h1]; rfl
    · rw [cnts, List.getD_eq_getElem?_getD, List.getElem?_append_left (by rw [cnts_len]; omega), ← List.getD_eq_getElem?_getD, cnts_getD (by omega)]
theorem psum_congr {cl : List Nat} {L M : List Int} {len : Nat} : ∀ {s : Nat}, s ≤ len → (∀ i, i < len → L.getD i 0 = M.getD i 0) → psum cl L len s = psum cl M len s
  | 0, _, _ => rfl
  | s + 1, h, e => by rw [psum, psum, psum_congr (by omega) e, e _ (by omega)]
theorem cnt_rec {cl : List Nat} {n N : Nat} (h : n < N) : cnt cl (n + 1) = psum cl (cnts cl N) (n + 1) (szs cl (n + 1)) := by
  have h1 : cnt cl (n + 1) = psum cl (cnts cl n) (n + 1) (szs cl (n + 1)) := by
    rw [cnt, cnts, List.getD_eq_getElem?_getD, List.getElem?_append_right (by rw [cnts_len]; omega), cnts_len]
    simp
  rw [h1]
  refine psum_congr (by simp only [szs]; omega) fun i hi => ?_
  rw [cnts_getD (by omega), cnts_getD (by omega)]
theorem sum_getD {L : List Nat} : ∀ {s : Nat}, s < L.length → (((List.range s).map fun i => L.getD (i + 1) 0).sum) ≤ L.sum := by
  intro s hs
  have : ∀ (M : List Nat) (t : Nat), t ≤ M.length → ((List.range t).map fun i => M.getD i 0).sum ≤ M.sum := by
    intro M
    induction M with
    | nil => intro t ht; simp at ht; subst ht; simp
    | cons a M ih =>
      intro t ht
      cases t with
      | zero => simp
      | succ t =>
        rw [List.range_succ_eq_map, List.map_cons, List.sum_cons, List.map_map, List.sum_cons]
        have := ih t (by simpa using ht)
        simp only [Function.comp_def, List.getD_cons_succ, List.getD_cons_zero, Nat.succ_eq_add_one]
        omega
  cases L with
  | nil => simp at hs
  | cons a L =>
    have h2 := this L s (by simp only [List.length_cons] at hs; omega)
    simp only [List.getD_cons_succ, List.sum_cons]
    omega
def psumA (cl : List Nat) (s : Nat) : Nat := ((List.range s).map fun i => cl.getD (i + 1) 0).sum
theorem psumA_succ {cl : List Nat} {s : Nat} : psumA cl (s + 1) = psumA cl s + cl.getD (s + 1) 0 := by
  simp [psumA, List.range_succ]
theorem psum_bound {cl : List Nat} {L : List Int} {len : Nat} {M : Nat} : ∀ {s : Nat}, s ≤ len → (∀ i, i < len → (L.getD i 0).natAbs ≤ M) → (psum cl L len s).natAbs ≤ psumA cl s * M
  | 0, _, _ => by simp [psum]
  | s + 1, h, e => by
    have ih := psum_bound (cl := cl) (s := s) (by omega) e
    have h1 := e (len - (s + 1)) (by omega)
    rw [psum, psumA_succ, Nat.add_mul]
    have h2 : (sg (s + 1) * ((cl.getD (s + 1) 0 : Nat) : Int) * L.getD (len - (s + 1)) 0).natAbs = cl.getD (s + 1) 0 * (L.getD (len - (s + 1)) 0).natAbs := by
      rw [Int.natAbs_mul, Int.natAbs_mul]
      have : (sg (s + 1)).natAbs = 1 := by unfold sg; split <;> rfl
      rw [this, Nat.one_mul, Int.natAbs_natCast]
    have h3 := Int.natAbs_add_le (psum cl L len s) (sg (s + 1) * ((cl.getD (s + 1) 0 : Nat) : Int) * L.getD (len - (s + 1)) 0)
    have h4 : cl.getD (s + 1) 0 * (L.getD (len - (s + 1)) 0).natAbs ≤ cl.getD (s + 1) 0 * M := Nat.mul_le_mul_left _ h1
    omega
theorem cnt_bound {cl : List Nat} (hc : cl.sum ≤ 64) : ∀ n, (cnt cl n).natAbs ≤ 64 ^ n := by
  intro n
  induction n using Nat.strongRecOn with
  | _ n ih =>
    cases n with
    | zero => exact Nat.le_refl 1
    | succ n =>
      rw [cnt_rec (N := n + 1) (by omega)]
      have h1 := psum_bound (cl := cl) (L := cnts cl (n + 1)) (len := n + 1) (M := 64 ^ n) (s := szs cl (n + 1)) (by simp only [szs]; omega) fun i hi => by
        rw [cnts_getD (by omega)]
        exact Nat.le_trans (ih i hi) (Nat.pow_le_pow_right (by omega) (by omega))
      have h2 : psumA cl (szs cl (n + 1)) ≤ 64 := by
        by_cases h0 : cl.length = 0
        · have : szs cl (n + 1) = 0 := by simp only [szs]; omega
          rw [this]; simp [psumA]
        · exact Nat.le_trans (sum_getD (by simp only [szs]; omega)) hc
      rw [Nat.pow_succ, Nat.mul_comm (64 ^ n)]
      exact Nat.le_trans h1 (Nat.mul_le_mul_right _ h2)
theorem psum_bound2 {cl : List Nat} (hc : cl.sum ≤ 64) {n s : Nat} (hs : s ≤ szs cl (n + 1)) : (psum cl (cnts cl n) (n + 1) s).natAbs ≤ 64 ^ (n + 1) := by
  have h1 := psum_bound (cl := cl) (L := cnts cl n) (len := n + 1) (M := 64 ^ n) (s := s) (by simp only [szs] at hs; omega) fun i hi => by
    rw [cnts_getD (by omega)]
    exact Nat.le_trans (cnt_bound hc i) (Nat.pow_le_pow_right (by omega) (by omega))
  have h2 : psumA cl s ≤ 64 := by
    by_cases h0 : cl.length = 0
    · have : s = 0 := by simp only [szs] at hs; omega
      rw [this]; simp [psumA]
    · exact Nat.le_trans (sum_getD (by simp only [szs] at hs; omega)) hc
  rw [Nat.pow_succ, Nat.mul_comm (64 ^ n)]
  exact Nat.le_trans h1 (Nat.mul_le_mul_right _ h2)
end Go.Lm
namespace Go.Lm
theorem digs_app : ∀ {j k n : Nat}, digs (j + k) n = digs j (n / 10 ^ k) ++ digs k n
  | j, 0, n => by simp [digs]
  | j, k + 1, n => by
    have e : n / 10 / 10 ^ k = n / 10 ^ (k + 1) := by rw [Nat.div_div_eq_div_mul, Nat.pow_succ, Nat.mul_comm 10]
    rw [← Nat.add_assoc, digs, digs_app (j := j) (k := k) (n := n / 10), digs, e, List.append_assoc]
def fours : List Nat → List UInt8
  | [] => []
  | a :: l => fours l ++ digs 4 a
theorem fours_digs : ∀ {l : List Nat}, Lim 10000 l → fours l = digs (4 * l.length) (nv 10000 l)
  | [], _ => rfl
  | a :: l, h => by
    have h1 := h.head
    have h2 := fours_digs (l := l) h.tail
    have e : (a + 10000 * nv 10000 l) / 10 ^ 4 = nv 10000 l := by omega
    have e2 : digs 4 (a + 10000 * nv 10000 l) = digs 4 a := by
      rw [← digs_mod (n := a + 10000 * nv 10000 l), ← digs_mod (n := a)]
      congr 1
      omega
    rw [fours, h2, nv_cons, List.length_cons, Nat.mul_add, Nat.mul_one, digs_app, e, e2]
def strip : List UInt8 → List UInt8
  | [] => []
  | c :: l => if c = 48 then strip l else c :: l
theorem strip_zeros {l : List UInt8} (h : l.head? ≠ some 48) : ∀ n, strip (List.replicate n 48 ++ l) = l
  | 0 => by
    cases l with
    | nil => rfl
    | cons c l =>
      have : c ≠ 48 := by simpa using h
      simp [strip, this]
  | n + 1 => by rw [List.replicate_succ, List.cons_append, strip, if_pos rfl, strip_zeros h n]
theorem nv_pow {l : List Nat} (h : Lim 10000 l) : nv 10000 l < 10 ^ (4 * l.length) := by
  have := nv_lt h
  rw [Nat.pow_mul]
  exact this
theorem strip_fours {l : List Nat} (h : Lim 10000 l) (h0 : nv 10000 l ≠ 0) : strip (fours l) = dec (nv 10000 l) := by
  rw [fours_digs h]
  have hl := nv_pow h
  generalize nv 10000 l = x at *
  cases h4 : 4 * l.length with
  | zero => rw [h4] at hl; simp at hl; omega
  | succ k =>
    rw [h4] at hl
    rw [digs_dec hl, strip_zeros (dec_head h0)]
end Go.Lm
namespace Go.Lm
theorem dig_mid {lo hi : Nat} (h : lo + 1 < hi) : lo < (lo + hi) / 2 ∧ (lo + hi) / 2 < hi := by omega
theorem dig_end {lo hi b R : Nat} (h1 : b * lo ≤ R) (h2 : R < b * hi) (h3 : hi ≤ lo + 1) (hb : 0 < b) : lo = R / b := by
  have h4 : R < b * (lo + 1) := Nat.lt_of_lt_of_le h2 (Nat.mul_le_mul_left _ h3)
  have := Nat.div_eq_of_lt_le (k := lo) (by rw [Nat.mul_comm]; exact h1) (by rw [Nat.mul_comm]; exact h4)
  exact this.symm
theorem dig_top {b rest a : Nat} (hr : rest < b) (ha : a < 10000) : a + 10000 * rest < b * 10000 := by omega
theorem dig_rest {b R : Nat} : R - b * (R / b) = R % b := (Nat.mod_eq_sub_mul_div ..).symm
theorem div_fig {b a rest Q X : Nat} (h : X = b * Q + rest) : a + 10000 * X = b * ((a + 10000 * rest) / b + 10000 * Q) + (a + 10000 * rest) % b := by
  have := Nat.div_add_mod (a + 10000 * rest) b
  generalize (a + 10000 * rest) / b = q at *
  generalize (a + 10000 * rest) % b = r at *
  grind
theorem fl_pos {a b : Int} {q r : Nat} (ha : 0 ≤ a) (hb : 0 < b) (h : a.natAbs = b.natAbs * q + r) (hr : r < b.natAbs) : a / b = q ∧ a % b = r := by
  apply (Int.ediv_emod_unique hb).2
  have e : ((b.natAbs * q + r : Nat) : Int) = b * q + r := by
    rw [Int.natCast_add, Int.natCast_mul, Int.natAbs_of_nonneg (by omega)]
  refine ⟨?_, by omega, by omega⟩
  rw [Int.add_comm, ← e, ← h]; omega
theorem fl_neg0 {a b : Int} {q : Nat} (ha : a < 0) (hb : 0 < b) (h : a.natAbs = b.natAbs * q + 0) : a / b = -(q : Int) ∧ a % b = 0 := by
  apply (Int.ediv_emod_unique hb).2
  have e : ((b.natAbs * q + 0 : Nat) : Int) = b * q := by
    rw [Nat.add_zero, Int.natCast_mul, Int.natAbs_of_nonneg (by omega)]
  refine ⟨?_, by omega, by omega⟩
  rw [Int.mul_neg, ← e, ← h]; omega
theorem fl_neg {a b : Int} {q r : Nat} (ha : a < 0) (hb : 0 < b) (h : a.natAbs = b.natAbs * q + r) (hr : r < b.natAbs) (h0 : 0 < r) : a / b = -(q : Int) - 1 ∧ a % b = b - r := by
  apply (Int.ediv_emod_unique hb).2
  have e : ((b.natAbs * q + r : Nat) : Int) = b * q + r := by
    rw [Int.natCast_add, Int.natCast_mul, Int.natAbs_of_nonneg (by omega)]
  refine ⟨?_, by omega, by omega⟩
  rw [Int.mul_sub, Int.mul_neg, Int.mul_one]; omega
theorem euc_step {a b e : Nat} (hb : 0 < b) (hab : b ≤ a) (h : a * b < 2 ^ (e + 1)) : b * (a % b) < 2 ^ e := by
  have h1 := Nat.div_add_mod a b
  have h2 := Nat.mod_lt a hb
  have h3 : 1 ≤ a / b := (Nat.le_div_iff_mul_le hb).2 (by omega)
  have h4 : b * 1 ≤ b * (a / b) := Nat.mul_le_mul_left _ h3
  have h5 : 2 * (a % b) ≤ a := by omega
  have h6 : b * (2 * (a % b)) ≤ b * a := Nat.mul_le_mul_left _ h5
  rw [Nat.pow_succ] at h
  rw [Nat.mul_comm a b] at h
  rw [show b * (2 * (a % b)) = b * (a % b) * 2 by rw [← Nat.mul_assoc, Nat.mul_comm b 2, Nat.mul_assoc, Nat.mul_comm]] at h6
  omega
theorem euc_pos {a b e : Nat} (hb : 0 < b) (hab : b ≤ a) (h : a * b < 2 ^ e) : 0 < e := by
  rcases Nat.eq_zero_or_pos e with rfl | h0
  · have : 1 * 1 ≤ a * b := Nat.mul_le_mul (by omega) hb
    simp at h; omega
  · exact h0
theorem gcd_step (a b : Nat) : Nat.gcd b (a % b) = Nat.gcd a b := by
  rw [Nat.gcd_comm, ← Nat.gcd_rec, Nat.gcd_comm]
theorem pow_big {x k : Nat} (h : x < 10000 ^ k) : x < 2 ^ (14 * k) := by
  refine Nat.lt_of_lt_of_le h ?_
  rw [Nat.pow_mul]
  exact Nat.pow_le_pow_left (by decide) _
theorem euc_fuel {x y k m : Nat} (hx : x < 10000 ^ k) (hy : y < 10000 ^ m) : x * y < 2 ^ (14 * k + 14 * m) := by
  rw [Nat.pow_add]
  exact Nat.mul_lt_mul'' (pow_big hx) (pow_big hy)
end Go.Lm
set_option linter.unusedSimpArgs false
namespace Go.Proofs.YthankillfhmfkaaGreatDoor.Ev
open Go
noncomputable section
theorem SlV.blkA {B : Tr Blk} {lo hi sz n : Nat} {L : List Value} {v : Value} (s : SlV B lo hi sz n L v) (b : Nat) (hb : blkOf v = some b) : lo ≤ b := by
  cases s with
  | nil _ _ => cases hb
  | emp _ _ => cases hb
  | mk _ hlo _ _ _ _ => simp only [blkOf, Option.some.injEq] at hb; omega
section
variable {P : Program} {E : Env} {n : Nat} {ops : List Oper} {q : Bool} {r tl : List Oper} {k : List Frm} {α : Tr Value} {h : H} {R : Rt} {ty : TypeId} {pos : String} {af : Array Edge}
theorem At_app2 [NoFz E] {x y : Operand} {ts tx elem elem' : TypeId} {inf : TypeInfo} {z : Value} {lo hi lo2 hi2 sl m d : Nat} {L M : List Value} {A : Option Addr} {v : Value} (hu : E.u ts = some (.slice elem)) (hux : E.u tx = some (.slice elem')) (hi' : E.i elem = some inf) (hz : inf.zero = some z)
    (hc : (okConst z && decide (z.cells.size = inf.size) && decide (0 < inf.size) && decide (inf.bytes < 65536)) = true) (hx : ev E h α x = some (.slice A sl sl)) (hs : SlV h.blks lo hi inf.size sl L (.slice A sl sl)) (hhi : hi ≤ h.next) (hG : E.G ≤ lo) (hlo : lo ≤ h.next) (hy : ev E h α y = some v) (hv : SlV h.blks lo2 hi2 inf.size m M v)
    (hsm : sl + m < 2147483648) (hone : M.all oneB = true) (hd : d < n)
    (hk : ∀ A' h', Pres lo h h' → SlV h'.blks lo h'.next inf.size (sl + m) (L ++ M) (.slice A' (sl + m) (sl + m)) → At P E n ops false r tl k (Tr.put α d (.slice A' (sl + m) (sl + m))) h' R) :
    At P E n ops false (⟨some d, .call ⟨.builtin .append, #[x, y], #[ts, tx]⟩, ty, pos, af, none⟩ :: r) tl k α h R := by
  by_cases hm : m = 0
  · subst hm
    have hM : M = [] := List.length_eq_zero_iff.1 (by rw [hv.len]; simp)
    subst hM
    have hs0 : srcLen v = some 0 := by cases hv <;> first | (rename_i hn hL; rfl) | rfl
    refine At_append0 hu hux hi' hx hy hs0 hd ?_
    have := hk A h (Pres.refl _ _) (by rw [List.append_nil]; exact hs.wide (Nat.le_refl _) hhi)
    simpa using this
  · refine At_append hu hux hi' hz hc hx hs (by omega) hG hy hv (by omega) hsm hone hd fun h' ha => hk _ h' (ha.pres hlo fun b hb => hs.blkA b hb) ?_
    refine (ha.slv ?_).wide hlo (Nat.le_refl _)
    rw [List.length_append, hs.len, hv.len, Nat.add_mul]
end
theorem WK_regionV {P : Program} {E : Env} [NoFz E] {n : Nat} {k : List Frm} {α : Tr Value} {h : H} {R : Rt} {id : Nat} {ops : Array Oper} (p : Nat) (hm : cutAt ops = p + 1 ∧ wAt ops (p + 1) = true ∧ regOkW ops p = true)
    (hk : At P E n ops.toList true (ops.toList.take p) [] (.inv (fun α1 h1 => lateB E h1 α1 ops p = true ∧ At P E n ops.toList false (ops.toList.drop p) [] k α1 h1 R) :: []) α h R) : WK P E n (.region id ops true) k α h R := by
  obtain ⟨F, α1, h1, hq, hk⟩ := hk
  have hk := WL_nil.1 hk
  exact WK_regionW p hm ⟨F, α1, h1, hq, hk⟩
theorem lateB_two {E : Env} {h : H} {α : Tr Value} {ops : Array Oper} {ow o0 o1 : Oper} {t t' : TypeId} {x y y' : Operand} {b off b' off' : Nat} {d d' : Option Nat} (hw : nth ops.toList 2 = some ow) (hwo : ow.op = .store t x y) (hx : ev E h α x = some (.pointer (some ⟨b, off, d⟩))) (h00 : nth ops.toList 0 = some o0) (h0 : waits ow 0 = true)
    (h1 : nth ops.toList 1 = some o1) (ho1 : o1.op = .load t' y') (hg : o1.guard.isNone = true) (hy : ev E h α y' = some (.pointer (some ⟨b', off', d'⟩))) (hne : b' ≠ b) : lateB E h α ops 2 = true := by
  unfold lateB
  rw [hw]
  simp only [hwo, hx]
  rw [List.all_eq_true]
  intro i hi
  have hi2 : i < 2 := List.mem_range.1 hi
  match i, hi2 with
  | 0, _ => simp only [h00, h0, Bool.true_or]
  | 1, _ =>
    simp only [h1, ho1, hg, hy]
    have : Nat.beq b' b = false := by
      cases hb : Nat.beq b' b with
      | true => exact absurd (Nat.eq_of_beq_eq_true hb) hne
      | false => rfl
    rw [this]; simp
end
end Go.Proofs.YthankillfhmfkaaGreatDoor.Ev
