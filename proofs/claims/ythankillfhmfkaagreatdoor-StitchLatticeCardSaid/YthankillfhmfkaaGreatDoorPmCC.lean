/- What each card of the seat needs: the tables, the row's last step, the law's call out of the evaluator's run. -/
import Derived.Test.YthankillfhmfkaaGreatDoorCards
import Derived.Test.YthankillfhmfkaaGreatDoorTie
import Derived.Test.YthankillfhmfkaaGreatDoorPmsLives
import Derived.Test.YthankillfhmfkaaGreatDoorPmsFacts
import Derived.WalkKit
import Derived.ProofKit
import Derived.OpenShut
import Derived.Deep.DeepHandedRow
import Derived.Lib.LaidTab
import Derived.Stop.LaidErr
import Derived.Below
import Derived.ChangeSame
import Derived.Shelf.Strings.Builder1
import Derived.Shelf.Strings.Builder2
import Derived.Shelf.Strings.OnBuilder
import Derived.Shelf.Small.Bits
import Derived.Shelf.Strings.BuilderF
import Derived.Shelf.Strings.BuilderK
import Derived.Shelf.Strings.Builder2Cap
import Derived.Shelf.Strconv.Itoa0
import Derived.Shelf.Strconv.Itoa1
import Derived.Shelf.LaysM
import Derived.Shelf.Strconv.Itoa2
import Derived.Shelf.Strconv.Itoa3
import Derived.Shelf.Strings.Prefix
import Derived.Shelf.Bits.Mul64
import Derived.Shelf.Strings.Repeat
import Derived.Shelf.Strings.BuilderCap
import Derived.Ground.Names2Prog
import Derived.Shelf.Slices.ReverseS
import Derived.Shelf.Slices.SearchI
import Derived.Shelf.Slices.Cells
import Derived.Test.YthankillfhmfkaaGreatDoorProg
import Derived.Lib.AppendIntMem
import Derived.Test.YthankillfhmfkaaGreatDoorPmArg
import Derived.Carry
import Derived.Deep.SlicePairs
import Derived.Test.YthankillfhmfkaaGreatDoorPmAA
namespace Go.Proofs.YthankillfhmfkaaGreatDoor.PmC
open Go.ChangeShapes Go.WideShapes Go.ChangeAt Go.RowKit
open Go.Proofs Go.Proofs.YthankillfhmfkaaGreatDoor
open Go.Proofs.YthankillfhmfkaaGreatDoor.Ev (TabsW tabs vals0 vals2 vals3 En H CallsE callRun Hok HR tabPhi heapOf)

theorem own : ownKnob Tryz.prog.godebug = none := by kernel_rfl
theorem g0 : Tryz.prog.globalNamed "internal/strconv.uint64pow10" = some 0 := by kernel_rfl
theorem g1 : Tryz.prog.globalNamed "math/bits.deBruijn32tab" = some 2 := by kernel_rfl
theorem g2 : Tryz.prog.globalNamed "math/bits.deBruijn64tab" = some 3 := by kernel_rfl
theorem ty0 : (Tryz.prog.globals[0]?).map (·.type) = some 233 := by kernel_rfl
theorem ty1 : (Tryz.prog.globals[2]?).map (·.type) = some 235 := by kernel_rfl
theorem ty2 : (Tryz.prog.globals[3]?).map (·.type) = some 236 := by kernel_rfl
theorem ce5 : Tryz.prog.cellsOf 5 = 1 := by kernel_rfl
theorem ce125 : Tryz.prog.cellsOf 159 = 1 := by kernel_rfl
theorem ce194 : Tryz.prog.cellsOf 233 = 20 := by kernel_rfl
theorem ce196 : Tryz.prog.cellsOf 235 = 32 := by kernel_rfl
theorem ce197 : Tryz.prog.cellsOf 236 = 64 := by kernel_rfl

/-- the tables as integers -/
def ints0 : List Int := Ev.tab0.map Int.ofNat
def ints2 : List Int := Ev.tab2.map Int.ofNat
def ints3 : List Int := Ev.tab3.map Int.ofNat

/-- the rows' list of variables -/
abbrev laidList : List (String × DataW Unit) := [("math/bits.deBruijn32tab", Rows.laid_math_bits_deBruijn32tab), ("math/bits.deBruijn64tab", Rows.laid_math_bits_deBruijn64tab), ("internal/strconv.uint64pow10", Rows.laid_internal_strconv_uint64pow10)]

theorem tab_world {W : World} {name : String} {k : IntKind} {zs : List Int} {g : Nat} (h : Lib.TabIs Tryz.prog W name k zs) (hg : Tryz.prog.globalNamed name = some g) :
    ∃ cs ty fr, W.heap[g]? = some (.cells cs ty fr) ∧ (∀ (i : Nat) (v : Value), (zs.map fun z => Value.int k z)[i]? = some v → cs[i]? = some v) ∧ cs.size = zs.length := by
  unfold Lib.TabIs World.var? at h
  rw [hg] at h
  simp only [Option.bind_some] at h
  split at h
  · rename_i cs ty fr hh
    simp only [Option.some.injEq] at h
    subst h
    exact ⟨_, ty, fr, hh, fun i v hv => by rw [List.getElem?_toArray]; exact hv, by simp⟩
  · cases h

theorem tables {W : World} (h : laidMetH Tryz.prog laidList W) : TabsW tabs W := by
  have h1 : laidMet Tryz.prog laidList W := h
  have t1 : Lib.TabIs Tryz.prog W "math/bits.deBruijn32tab" .u8 ints2 := Lib.tabIs_of_head (zs := ints2) g1 ty1 Tryz.underlying235 Tryz.underlying5 ce5 ce196 h1
  have h2 := laidMet.tail h1
  have t2 : Lib.TabIs Tryz.prog W "math/bits.deBruijn64tab" .u8 ints3 := Lib.tabIs_of_head (zs := ints3) g2 ty2 Tryz.underlying236 Tryz.underlying5 ce5 ce197 h2
  have h3 := laidMet.tail h2
  have t0 : Lib.TabIs Tryz.prog W "internal/strconv.uint64pow10" .u64 ints0 := Lib.tabIs_of_head (zs := ints0) g0 ty0 Tryz.underlying233 Tryz.underlying159 ce125 ce194 h3
  intro x hx
  simp only [tabs, List.mem_cons, List.not_mem_nil, or_false] at hx
  rcases hx with rfl | rfl | rfl
  · obtain ⟨cs, ty, fr, g, hcs, hsz⟩ := tab_world t0 g0
    exact ⟨cs, ty, fr, g, fun i v hv => hcs i v (by simpa [vals0, ints0] using hv), by rw [hsz]; simp [vals0, ints0]⟩
  · obtain ⟨cs, ty, fr, g, hcs, hsz⟩ := tab_world t1 g1
    exact ⟨cs, ty, fr, g, fun i v hv => hcs i v (by simpa [vals2, ints2] using hv), by rw [hsz]; simp [vals2, ints2]⟩
  · obtain ⟨cs, ty, fr, g, hcs, hsz⟩ := tab_world t2 g2
    exact ⟨cs, ty, fr, g, fun i v hv => hcs i v (by simpa [vals3, ints3] using hv), by rw [hsz]; simp [vals3, ints3]⟩
end Go.Proofs.YthankillfhmfkaaGreatDoor.PmC


/-
  DERIVED: THE SHELF's CONTRACTS AT THIS DUMP, IN PLAIN WORDS (tools/lay-plain.mjs out of 'TryzShelf.lean', which tools/lay-shelf.mjs wrote): THE SAME DECLARATIONS UNDER THE SAME NAMES: 'import', 'namespace', 'open', 'def', 'theorem' AND NOTHING ELSE: no command of the shelf's: FOR A HAND-IN. Each laying: the table of numbers ('.._ren') and one theorem, a field a fact of the dump's own or the kernel's comparison; each contract: ONE APPLICATION.
-/
namespace Go.Proofs
open Go.Shelf
def Tryz.lays156_ren : Go.Shelf.Ren := ⟨fun | 156 => 127 | 165 => 154 | 166 => 155 | 169 => 157 | 240 => 173 | 241 => 174 | 276 => 182 | 277 => 183 | n => n, fun | 31 => 28 | 9 => 9 | 3 => 3 | 4 => 4 | 0 => 0 | 20 => 20 | 72 => 195 | 76 => 199 | 70 => 193 | 37 => 73 | 75 => 198 | 127 => 219 | 164 => 228 | 5 => 5 | 80 => 201 | n => n, fun | n => n⟩
theorem Tryz.lays156 : Go.Proofs.Lays.n156 Tryz.prog Tryz.lays156_ren := {
  mixed := by kernel_rfl
  f156 := Tryz.func127.trans (congrArg some (by kernel_rfl))
  f165 := Tryz.func154.trans (congrArg some (by kernel_rfl))
  f166 := Tryz.func155.trans (congrArg some (by kernel_rfl))
  f169 := Tryz.func157.trans (congrArg some (by kernel_rfl))
  f240 := Tryz.func173.trans (congrArg some (by kernel_rfl))
  f241 := Tryz.func174.trans (congrArg some (by kernel_rfl))
  f276 := Tryz.func182.trans (congrArg some (by kernel_rfl))
  f277 := Tryz.func183.trans (congrArg some (by kernel_rfl))
  t0 := Tryz.underlying0
  a0 := Tryz.isAgg0
  z0 := Tryz.sizeOf0
  v0 := Tryz.zeroValue0
  t3 := Tryz.underlying3
  a3 := Tryz.isAgg3
  z3 := Tryz.sizeOf3
  v3 := Tryz.zeroValue3
  t4 := Tryz.underlying4
  a4 := Tryz.isAgg4
  z4 := Tryz.sizeOf4
  v4 := Tryz.zeroValue4
  t9 := Tryz.underlying9
  a9 := Tryz.isAgg9
  z9 := Tryz.sizeOf9
  v9 := Tryz.zeroValue9
  t20 := Tryz.underlying20
  a20 := Tryz.isAgg20
  z20 := Tryz.sizeOf20
  v20 := Tryz.zeroValue20
  t31 := Tryz.underlying28
  a31 := Tryz.isAgg28
  z31 := Tryz.sizeOf28
  v31 := Tryz.zeroValue28
  t37 := Tryz.underlying73
  a37 := Tryz.isAgg73
  z37 := Tryz.sizeOf73
  v37 := Tryz.zeroValue73
  t70 := Tryz.underlying193
  a70 := Tryz.isAgg193
  z70 := Tryz.sizeOf193
  v70 := Tryz.zeroValue193
  t72 := Tryz.underlying195
  a72 := Tryz.isAgg195
  z72 := Tryz.sizeOf195
  v72 := Tryz.zeroValue195
  t75 := Tryz.underlying198
  a75 := Tryz.isAgg198
  z75 := Tryz.sizeOf198
  v75 := Tryz.zeroValue198
  t76 := Tryz.underlying199
  a76 := Tryz.isAgg199
  z76 := Tryz.sizeOf199
  v76 := Tryz.zeroValue199
  t127 := Tryz.underlying219
  a127 := Tryz.isAgg219
  z127 := Tryz.sizeOf219
  v127 := Tryz.zeroValue219
  t164 := Tryz.underlying228
  a164 := Tryz.isAgg228
  z164 := Tryz.sizeOf228
  v164 := Tryz.zeroValue228 }
theorem Tryz.Builder_Extra_156 : Builder.Extra Tryz.prog Tryz.lays156_ren := {
  sizeBuilder := by kernel_rfl
  liesBuilder := by kernel_rfl
  t5 := Tryz.underlying5
  a5 := Tryz.isAgg5
  z5 := Tryz.sizeOf5
  v5 := Tryz.zeroValue5
  infoByte := by kernel_rfl
  cellsByte := by kernel_rfl
  sizeByte := by kernel_rfl
  neB5 := by decide }
open Go.RowKit in
/-- strings.Join: "Join concatenates the elements of its first argument to create a single string. The separator string sep is placed between elements in the resulting string.": HOWEVER MANY ELEMENTS. Below the heap's end the world is as it was. (LAID: no walk: one application.) -/
theorem Tryz.strings_Join (bk o c : Nat) (xs : List ByteArray) (sep : ByteArray) (w : World) (hcells : ∀ (j : Nat) x, xs[j]? = some x → w.cell? ⟨bk, o + j, none⟩ = some (.string x)) (hbk : bk < w.heap.size) (hN : xs.length ≤ 140737488355328) (hcap : xs.length ≤ c) (hlen : (Lib.join (xs.map (·.data.toList)) sep.data.toList).length ≤ 140737488355328) :
    Calls Tryz.prog 127 #[.slice (some ⟨bk, o, none⟩) xs.length c, .string sep] w fun e w' => e = .returned (.string ⟨(Lib.join (xs.map (·.data.toList)) sep.data.toList).toArray⟩) ∧ Below w.heap.size w w' := Any.strings_Join Tryz.lays156 Tryz.Builder_Extra_156 bk o c xs sep w hcells hbk hN hcap hlen
def Tryz.laysM171_ren : Go.Shelf.Ren := ⟨fun | 171 => 124 | 243 => 151 | 246 => 169 | 283 => 178 | 284 => 179 | 285 => 180 | 286 => 181 | 129 => 141 | 317 => 184 | 318 => 185 | 319 => 186 | 320 => 187 | 337 => 188 | 338 => 189 | n => n, fun | 3 => 3 | 9 => 9 | 2 => 2 | 4 => 4 | 171 => 224 | 0 => 0 | 53 => 159 | 37 => 73 | 5 => 5 | 173 => 226 | 212 => 233 | 51 => 168 | 20 => 20 | 213 => 234 | 46 => 145 | 232 => 235 | 233 => 236 | n => n, fun | 17 => 0 | 18 => 2 | 19 => 3 | n => n⟩
theorem Tryz.laysM171 : Go.Proofs.LaysM.n171 Tryz.prog Tryz.laysM171_ren := {
  mixed := by kernel_rfl
  f129 := Tryz.func141.trans (congrArg some (by kernel_rfl))
  f171 := Tryz.func124.trans (congrArg some (by kernel_rfl))
  f243 := Tryz.func151.trans (congrArg some (by kernel_rfl))
  f246 := Tryz.func169.trans (congrArg some (by kernel_rfl))
  f283 := Tryz.func178.trans (congrArg some (by kernel_rfl))
  f284 := Tryz.func179.trans (congrArg some (by kernel_rfl))
  f285 := Tryz.func180.trans (congrArg some (by kernel_rfl))
  f286 := Tryz.func181.trans (congrArg some (by kernel_rfl))
  f317 := Tryz.func184.trans (congrArg some (by kernel_rfl))
  f318 := Tryz.func185.trans (congrArg some (by kernel_rfl))
  f319 := Tryz.func186.trans (congrArg some (by kernel_rfl))
  f320 := Tryz.func187.trans (congrArg some (by kernel_rfl))
  f337 := Tryz.func188.trans (congrArg some (by kernel_rfl))
  f338 := Tryz.func189.trans (congrArg some (by kernel_rfl))
  t0 := Tryz.underlying0
  a0 := Tryz.isAgg0
  z0 := Tryz.sizeOf0
  v0 := Tryz.zeroValue0
  t2 := Tryz.underlying2
  a2 := Tryz.isAgg2
  z2 := Tryz.sizeOf2
  v2 := Tryz.zeroValue2
  t3 := Tryz.underlying3
  a3 := Tryz.isAgg3
  z3 := Tryz.sizeOf3
  v3 := Tryz.zeroValue3
  t4 := Tryz.underlying4
  a4 := Tryz.isAgg4
  z4 := Tryz.sizeOf4
  v4 := Tryz.zeroValue4
  t5 := Tryz.underlying5
  a5 := Tryz.isAgg5
  z5 := Tryz.sizeOf5
  v5 := Tryz.zeroValue5
  t9 := Tryz.underlying9
  a9 := Tryz.isAgg9
  z9 := Tryz.sizeOf9
  v9 := Tryz.zeroValue9
  t20 := Tryz.underlying20
  a20 := Tryz.isAgg20
  z20 := Tryz.sizeOf20
  v20 := Tryz.zeroValue20
  t37 := Tryz.underlying73
  a37 := Tryz.isAgg73
  z37 := Tryz.sizeOf73
  v37 := Tryz.zeroValue73
  t46 := Tryz.underlying145
  a46 := Tryz.isAgg145
  z46 := Tryz.sizeOf145
  v46 := Tryz.zeroValue145
  t51 := Tryz.underlying168
  a51 := Tryz.isAgg168
  z51 := Tryz.sizeOf168
  v51 := Tryz.zeroValue168
  t53 := Tryz.underlying159
  a53 := Tryz.isAgg159
  z53 := Tryz.sizeOf159
  v53 := Tryz.zeroValue159
  t171 := Tryz.underlying224
  a171 := Tryz.isAgg224
  z171 := Tryz.sizeOf224
  v171 := Tryz.zeroValue224
  t173 := Tryz.underlying226
  a173 := Tryz.isAgg226
  z173 := Tryz.sizeOf226
  v173 := Tryz.zeroValue226
  t212 := Tryz.underlying233
  a212 := Tryz.isAgg233
  z212 := Tryz.sizeOf233
  v212 := Tryz.zeroValue233
  t213 := Tryz.underlying234
  a213 := Tryz.isAgg234
  z213 := Tryz.sizeOf234
  t232 := Tryz.underlying235
  a232 := Tryz.isAgg235
  z232 := Tryz.sizeOf235
  v232 := Tryz.zeroValue235
  t233 := Tryz.underlying236
  a233 := Tryz.isAgg236
  z233 := Tryz.sizeOf236
  v233 := Tryz.zeroValue236
  g17 := by kernel_rfl
  g18 := by kernel_rfl
  g19 := by kernel_rfl
  i0 := by kernel_rfl
  i2 := by kernel_rfl
  i3 := by kernel_rfl
  i4 := by kernel_rfl
  i5 := by kernel_rfl
  i9 := by kernel_rfl
  i20 := by kernel_rfl
  i37 := by kernel_rfl
  i46 := by kernel_rfl
  i51 := by kernel_rfl
  i53 := by kernel_rfl
  i171 := by kernel_rfl
  i173 := by kernel_rfl
  i212 := by kernel_rfl
  i232 := by kernel_rfl
  i233 := by kernel_rfl
  m17 := by kernel_rfl
  m18 := by kernel_rfl
  m19 := by kernel_rfl }
open Go.RowKit Go.Sort Go.Lib in
/-- strconv.Itoa: "Itoa is equivalent to FormatInt(int64(i), 10).": i's DECIMAL NUMERAL ('Lib.itoa': a '-' where i is negative, then the digits), FOR EVERY int. The world behind the call: the world before it, new blocks behind the heap (the library's 'var a [24]byte'), draws. (LAID: no walk: one application.) -/
theorem Tryz.strconv_Itoa (n : Int) (h0 : -9223372036854775808 ≤ n) (h1 : n ≤ 9223372036854775807) (w : World) (htab : Lib.TabIs Tryz.prog w "internal/strconv.uint64pow10" .u64 Lib.pow10Tab) :
    Calls Tryz.prog 124 #[.int .i64 n] w fun e w' => e = .returned (.string ⟨(Lib.itoa n).toArray⟩) ∧ ∃ k os, w' = grow (w.drewN k) os := Any.strconv_Itoa Tryz.laysM171 n h0 h1 w htab
def Tryz.lays105_ren : Go.Shelf.Ren := ⟨fun | 105 => 125 | 212 => 152 | 99 => 153 | 165 => 154 | 166 => 155 | 170 => 156 | 169 => 157 | 263 => 170 | 264 => 171 | 206 => 172 | 240 => 173 | 241 => 174 | 276 => 182 | 277 => 183 | n => n, fun | 9 => 9 | 3 => 3 | 4 => 4 | 20 => 20 | 0 => 0 | 46 => 145 | 109 => 191 | 5 => 5 | 72 => 195 | 76 => 199 | 51 => 168 | 146 => 215 | 53 => 159 | 148 => 217 | 70 => 193 | 37 => 73 | 75 => 198 | 127 => 219 | 164 => 228 | 80 => 201 | n => n, fun | n => n⟩
theorem Tryz.lays105 : Go.Proofs.Lays.n105 Tryz.prog Tryz.lays105_ren := {
  mixed := by kernel_rfl
  f99 := Tryz.func153.trans (congrArg some (by kernel_rfl))
  f105 := Tryz.func125.trans (congrArg some (by kernel_rfl))
  f165 := Tryz.func154.trans (congrArg some (by kernel_rfl))
  f166 := Tryz.func155.trans (congrArg some (by kernel_rfl))
  f169 := Tryz.func157.trans (congrArg some (by kernel_rfl))
  f170 := Tryz.func156.trans (congrArg some (by kernel_rfl))
  f206 := Tryz.func172.trans (congrArg some (by kernel_rfl))
  f212 := Tryz.func152.trans (congrArg some (by kernel_rfl))
  f240 := Tryz.func173.trans (congrArg some (by kernel_rfl))
  f241 := Tryz.func174.trans (congrArg some (by kernel_rfl))
  f263 := Tryz.func170.trans (congrArg some (by kernel_rfl))
  f264 := Tryz.func171.trans (congrArg some (by kernel_rfl))
  f276 := Tryz.func182.trans (congrArg some (by kernel_rfl))
  f277 := Tryz.func183.trans (congrArg some (by kernel_rfl))
  t0 := Tryz.underlying0
  a0 := Tryz.isAgg0
  z0 := Tryz.sizeOf0
  v0 := Tryz.zeroValue0
  t3 := Tryz.underlying3
  a3 := Tryz.isAgg3
  z3 := Tryz.sizeOf3
  v3 := Tryz.zeroValue3
  t4 := Tryz.underlying4
  a4 := Tryz.isAgg4
  z4 := Tryz.sizeOf4
  v4 := Tryz.zeroValue4
  t5 := Tryz.underlying5
  a5 := Tryz.isAgg5
  z5 := Tryz.sizeOf5
  v5 := Tryz.zeroValue5
  t9 := Tryz.underlying9
  a9 := Tryz.isAgg9
  z9 := Tryz.sizeOf9
  v9 := Tryz.zeroValue9
  t20 := Tryz.underlying20
  a20 := Tryz.isAgg20
  z20 := Tryz.sizeOf20
  v20 := Tryz.zeroValue20
  t37 := Tryz.underlying73
  a37 := Tryz.isAgg73
  z37 := Tryz.sizeOf73
  v37 := Tryz.zeroValue73
  t46 := Tryz.underlying145
  a46 := Tryz.isAgg145
  z46 := Tryz.sizeOf145
  v46 := Tryz.zeroValue145
  t51 := Tryz.underlying168
  a51 := Tryz.isAgg168
  z51 := Tryz.sizeOf168
  v51 := Tryz.zeroValue168
  t53 := Tryz.underlying159
  a53 := Tryz.isAgg159
  z53 := Tryz.sizeOf159
  v53 := Tryz.zeroValue159
  t70 := Tryz.underlying193
  a70 := Tryz.isAgg193
  z70 := Tryz.sizeOf193
  v70 := Tryz.zeroValue193
  t72 := Tryz.underlying195
  a72 := Tryz.isAgg195
  z72 := Tryz.sizeOf195
  v72 := Tryz.zeroValue195
  t75 := Tryz.underlying198
  a75 := Tryz.isAgg198
  z75 := Tryz.sizeOf198
  v75 := Tryz.zeroValue198
  t76 := Tryz.underlying199
  a76 := Tryz.isAgg199
  z76 := Tryz.sizeOf199
  v76 := Tryz.zeroValue199
  t109 := Tryz.underlying191
  a109 := Tryz.isAgg191
  z109 := Tryz.sizeOf191
  v109 := Tryz.zeroValue191
  t127 := Tryz.underlying219
  a127 := Tryz.isAgg219
  z127 := Tryz.sizeOf219
  v127 := Tryz.zeroValue219
  t146 := Tryz.underlying215
  a146 := Tryz.isAgg215
  z146 := Tryz.sizeOf215
  v146 := Tryz.zeroValue215
  t148 := Tryz.underlying217
  a148 := Tryz.isAgg217
  z148 := Tryz.sizeOf217
  v148 := Tryz.zeroValue217
  t164 := Tryz.underlying228
  a164 := Tryz.isAgg228
  z164 := Tryz.sizeOf228
  v164 := Tryz.zeroValue228 }
theorem Tryz.Builder_Extra_105 : Builder.Extra Tryz.prog Tryz.lays105_ren := {
  sizeBuilder := by kernel_rfl
  liesBuilder := by kernel_rfl
  t5 := Tryz.underlying5
  a5 := Tryz.isAgg5
  z5 := Tryz.sizeOf5
  v5 := Tryz.zeroValue5
  infoByte := by kernel_rfl
  cellsByte := by kernel_rfl
  sizeByte := by kernel_rfl
  neB5 := by decide }
open Go.RowKit Go.Lib in
/-- **strings.Repeat: count ≥ 0, the result within one allocation: count copies of s.** (LAID: no walk: one application.) -/
theorem Tryz.strings_Repeat (s : ByteArray) (c : Nat) (w : World) (hc : c ≤ 9223372036854775807) (hlen : s.size * c ≤ 140737488355328) :
    Calls Tryz.prog 125 #[.string s, .int .i64 c] w fun e w' => e = .returned (.string ⟨(Lib.repeatL s.data.toList c).toArray⟩) ∧ Below w.heap.size w w' := Any.strings_Repeat Tryz.lays105 Tryz.Builder_Extra_105 s c w hc hlen
end Go.Proofs

/- A law's call, out of the evaluator's run. -/
namespace Go.Proofs.YthankillfhmfkaaGreatDoor.PmC
open Go.ChangeShapes Go.WideShapes Go.ChangeAt Go.RowKit
open Go.Proofs Go.Proofs.YthankillfhmfkaaGreatDoor
open Go.Proofs.YthankillfhmfkaaGreatDoor.Ev (TabsW TabsIn tabs vals0 vals2 vals3 En H CallsE callRun Hok HR tabPhi heapOf heapOf_rel heapOf_ok tabPhi_fresh withKnown_ok envOf_ok Tr)

theorem Kn_ok {G : Nat} (hG : 4 ≤ G) : Ev.EnvOK Tryz.prog (Ev.withKnown (Ev.envOf Tryz.prog 249 4 G) (Tr.put .e 24 (.bool true)) tabs (Tr.put .e 111 0)) := by
  refine withKnown_ok (envOf_ok Ev.mixed) (fun f v h => ?_) (fun x hx => ?_) PmsLives.iters_ok
  · rw [Tr.get_put] at h
    split at h
    · rename_i hf
      injection h with h
      subst hf; subst h
      exact ⟨rfl, ⟨Tryz.f24, Tryz.func24, rfl, by decide⟩, fun w hw => PmsLives.lives_true w hw⟩
    · rw [Tr.get_e] at h; cases h
  · simp only [tabs, List.mem_cons, List.not_mem_nil, or_false] at hx
    have e : ∀ N G : Nat, (Ev.envOf Tryz.prog 249 N G).N = N ∧ (Ev.envOf Tryz.prog 249 N G).G = G := fun _ _ => ⟨rfl, rfl⟩
    rw [(e 4 G).1, (e 4 G).2]
    rcases hx with rfl | rfl | rfl
    · exact ⟨by decide, by show 0 < G; omega, by decide⟩
    · exact ⟨by decide, by show 2 < G; omega, by decide⟩
    · exact ⟨by decide, by show 3 < G; omega, by decide⟩
theorem pow_tab : Lib.pow10Tab.map (fun z => Value.int .u64 z) = vals0 := by
  kernel_rfl
theorem En_ok {G : Nat} (hG : 4 ≤ G) : Ev.EnvOK Tryz.prog (En G) := by
  unfold En
  refine Ev.withOrc_ok (Kn_ok hG) fun f g hf => ?_
  unfold Ev.orcs at hf
  rw [Tr.get_put] at hf
  split at hf
  · rename_i hq
    injection hf with hf
    subst hq; subst hf
    exact Ev.orcJoin ⟨Tryz.f127, Tryz.func127, rfl, by decide⟩ fun bk o c xs sep w h1 h2 h3 h4 h5 => Tryz.strings_Join bk o c xs sep w h1 h2 h3 h4 h5
  · rw [Tr.get_put] at hf
    split at hf
    · rename_i hq
      injection hf with hf
      subst hq; subst hf
      exact Ev.orcRepeat ⟨Tryz.f125, Tryz.func125, rfl, by decide⟩ fun s c w h1 h2 => Tryz.strings_Repeat s c w h1 h2
    · rw [Tr.get_put] at hf
      split at hf
      · rename_i hq
        injection hf with hf
        subst hq; subst hf
        refine Ev.orcItoa (g := 0) ⟨Tryz.f124, Tryz.func124, rfl, by decide⟩ g0 (by rw [pow_tab]; show (0, vals0) ∈ tabs; simp [tabs]) fun n h1 h2 w ht => ?_
        refine Calls.mono (Tryz.strconv_Itoa n h1 h2 w ht) ?_
        rintro e w' ⟨he, k, os, rfl⟩
        exact ⟨he, Lib.below_grow _ w (Nat.le_refl _) k os⟩
      · rw [Tr.get_e] at hf; cases hf

theorem tabs_small : ∀ x ∈ tabs, x.1 < 4 ∧ x.2.all Ev.flat1 = true := fun x hx => by
  simp only [tabs, List.mem_cons, List.not_mem_nil, or_false] at hx
  rcases hx with rfl | rfl | rfl <;> exact ⟨by decide, by decide⟩

theorem heap_tabs : TabsIn tabs (heapOf 4 tabs).blks := by
  have e : (heapOf 4 tabs).blks = (((Tr.e.put 0 (.mk (Tr.ofList vals0) vals0.length 1)).put 2 (.mk (Tr.ofList vals2) vals2.length 1)).put 3 (.mk (Tr.ofList vals3) vals3.length 1)) := rfl
  intro x hx
  rw [e]
  simp only [tabs, List.mem_cons, List.not_mem_nil, or_false] at hx
  rcases hx with rfl | rfl | rfl
  · exact ⟨Tr.ofList vals0, vals0.length, 1, by simp [Tr.get_put], by dsimp only, fun i v hv => by rw [Tr.ofList_get]; exact hv⟩
  · exact ⟨Tr.ofList vals2, vals2.length, 1, by simp [Tr.get_put], by dsimp only, fun i v hv => by rw [Tr.ofList_get]; exact hv⟩
  · exact ⟨Tr.ofList vals3, vals3.length, 1, by simp [Tr.get_put], by dsimp only, fun i v hv => by rw [Tr.ofList_get]; exact hv⟩

/-- the row's last step, where what there was stays as it was -/
theorem post_below {H : Type} {enc : TypeId × Value → H} {P : Program} {f : Func} {s : ChangeSpec} {apart fresh handsOn again : Bool} {W W' : World} {args : Array Value} {v : Value} {ds gs : List (DataW H)} {before pa pv : List MemPlace}
    (hW : DataW.Whole enc P f.params.toList s.vars apart W args.toList ds gs before)
    (hres : ∀ (b : Nat) (sp : Nat → Bool) (hd : Bool), DataW.TrodAll enc P W' b sp hd f.resultTypes.toList (v.resultList f.resultTypes.size) (s.fn H (ds ++ gs)).results [])
    (hargs : ∀ sp : Nat → Bool, (∀ p ∈ before, sp p.block = true) → DataW.TrodAll enc P W' 0 sp true f.params.toList args.toList (s.fn H (ds ++ gs)).args pa)
    (hvars : ∀ sp : Nat → Bool, (∀ p ∈ before, sp p.block = true) → DataW.TrodVars enc P W' sp s.vars (s.fn H (ds ++ gs)).vars pv)
    (hps : before = pa ++ pv) (hb : Below W.heap.size W W')
    (hok : ∀ (j : Nat) (t : TypeId) (r : Value), f.resultTypes[j]? = some t → (v.resultList f.resultTypes.size)[j]? = some r → Value.okWide P W' .any 0 t r) :
    s.post enc P f apart fresh handsOn again W args v W' := by
  have lt : ∀ p ∈ before, p.block < W.heap.size := fun p hp => hW.lt p hp
  have old : ∀ p ∈ before, (fun b => decide (b < W.heap.size)) p.block = true := fun p hp => decide_eq_true (lt p hp)
  obtain ⟨_, _, _, _, _, hz, hn⟩ := id hW
  refine ⟨ds, gs, before, [], pa, pv, hW, hres _ _ _, hargs _ old, hvars _ old, World.keptBut_mono (fun p hp => ⟨hp, ?_⟩) (hb.frame (· ∈ before)), fun _ => ⟨hok, _, _, ([] ++ pa) ++ pv, ⟨[] ++ pa, pv, trodAll_append (hargs _ (fun _ _ => rfl)) (hres _ _ _), hvars _ (fun _ _ => rfl), rfl, fun b off hp => ?_, fun ha => ?_⟩, fun p hp _ => ?_⟩⟩
  · rw [hps, List.mem_append] at hp
    exact .inr hp
  · have hin : MemPlace.cell b off ∈ before := by rw [hps]; simpa using hp
    rw [hb.frozen (lt _ hin)]
    exact hz b off hin
  · have h1 := hn ha
    rw [hps] at h1
    simpa using h1
  · rw [hps]
    simpa using hp
theorem spec_run {P : Program} {E : Ev.Env} {g : FuncId} {vs : List Value} {h : H} {Q : Value → H → Prop} (hs : Ev.Spec P E g vs h Q) : CallsE P E g vs h Q := Ev.CallsE.mono hs fun _ _ x => x.2
/-- a table laid into its variable -/
def lay (v : List Value) : Obj → Obj
  | .cells _ t fr => .cells v.toArray t fr
  | o => o
/-- a world for the witnesses -/
noncomputable def laidWorld (os : Os) : World :=
  { World.holding Tryz.prog os ⟨#[], #[], []⟩ with heap := (((World.holding Tryz.prog os ⟨#[], #[], []⟩).heap.modify 0 (lay vals0)).modify 2 (lay vals2)).modify 3 (lay vals3) }
end Go.Proofs.YthankillfhmfkaaGreatDoor.PmC


/- A law's call whose arguments lie in memory, out of the evaluator's run. -/
namespace Go.Proofs.YthankillfhmfkaaGreatDoor.PmC
open Go.ChangeShapes Go.WideShapes Go.ChangeAt Go.RowKit
open Go.Proofs Go.Proofs.YthankillfhmfkaaGreatDoor
open Go.Proofs.YthankillfhmfkaaGreatDoor.Ev (TabsW TabsIn tabs vals0 vals2 vals3 En H CallsE callRun Hok HR Tr VR VRs Phi ArgB heapA phiA ArgsIn heapA_rel heapA_ok heapA_low heapA_arg phiA_fresh phiA_arg cells_world SlV Blk)

/-- one argument's cells in the model's memory -/
def ArgIn (φ : Phi) (a : ArgB) (w : World) : Prop := a.off + a.L.length ≤ a.top ∧
  ∃ cs ty fr, w.heap[a.blk]? = some (.cells cs ty fr) ∧ a.top ≤ cs.size ∧ ∀ (j : Nat) (v : Value), a.L[j]? = some v → ∃ v', cs[a.off + j]? = some v' ∧ VR φ v v'
theorem argsIn_mk {φ : Phi} {l : List ArgB} {w : World} (h : ∀ a ∈ l, ArgIn φ a w) : ArgsIn φ l w := fun _ a ha => h a (List.mem_of_getElem? ha)

theorem heapA_tabs (bs : List ArgB) : TabsIn tabs (heapA 4 tabs bs).blks := fun x hx => by
  obtain ⟨c, s, e, h⟩ := heap_tabs x hx
  exact ⟨c, s, e, by rw [heapA_low (tabs_small x hx).1]; exact h.1, h.2⟩

/-- a law, its arguments read where they lie -/
theorem calls_args {f : FuncId} {args args' : List Value} {bs : List ArgB} {W : World} (hargs : VRs (phiA 4 tabs bs) args args') (hbs : ArgsIn (phiA 4 tabs bs) bs W)
    (hs : CallsE Tryz.prog (En (4 + bs.length)) f args (heapA 4 tabs bs) fun v _ => v = .bool true) (hW : TabsW tabs W) (hb : ((Tryz.prog.funcs[f]?).map fun fn => fn.body.isSome) = some true := by kernel_rfl) :
    Calls Tryz.prog f args'.toArray W fun e w' => e = .returned (.bool true) ∧ Below W.heap.size W w' := by
  obtain ⟨F, v, h', hrun, rfl⟩ := hs
  have ht : ∀ x ∈ tabs, x.1 < 4 := fun x hx => (tabs_small x hx).1
  have hEG : (En (4 + bs.length)).G = 4 + bs.length := Ev.En_G
  exact callRun (En_ok (by omega)) hrun rfl (heapA_ok ht) hEG (heapA_rel Tryz.prog hEG rfl tabs_small hW hbs) hargs (phiA_fresh) hb

theorem tab_there {W : World} (hW : TabsW tabs W) : ∃ cs ty fr, W.heap[0]? = some (.cells cs ty fr) := by
  obtain ⟨cs, ty, fr, h, _⟩ := hW (0, vals0) (by simp [tabs])
  exact ⟨cs, ty, fr, h⟩

end Go.Proofs.YthankillfhmfkaaGreatDoor.PmC


