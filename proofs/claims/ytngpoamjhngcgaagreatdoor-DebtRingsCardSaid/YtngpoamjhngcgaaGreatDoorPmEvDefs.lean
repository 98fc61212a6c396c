/- A run of closed code: an evaluator over a heap of its own. Definitions alone. -/
import Derived.Calls
import Derived.StillTail
namespace Go.Proofs.YtngpoamjhngcgaaGreatDoor.Ev
open Go
noncomputable section

/- a map from numbers, forced along its paths -/
inductive Tr (α : Type) where
  | e
  | n (l : Tr α) (v : Option α) (r : Tr α)

namespace Tr
variable {α : Type}
def get (t : Tr α) : Nat → Option α :=
  Tr.rec (motive := fun _ => Nat → Option α) (fun _ => none) (fun _ v _ gl gr k => Nat.casesOn k v fun k' => Bool.casesOn (Nat.beq (k' % 2) 0) (gr (k' / 2)) (gl (k' / 2))) t
/-- a node in the place of nothing -/
def parts : Tr α → Tr α × Option α × Tr α
  | .e => (.e, none, .e)
  | .n l v r => (l, v, r)
def force {β : Type} (t : Tr α) (k : Tr α → β) : β := match t with
  | .e => k .e
  | .n l v r => k (.n l v r)
def set (f : Nat) : Tr α → Nat → α → Tr α :=
  Nat.rec (motive := fun _ => Tr α → Nat → α → Tr α) (fun t _ _ => t) (fun _ s t k a => Nat.casesOn k (Tr.casesOn t (.n .e (some a) .e) fun l _ r => .n l (some a) r)
    fun k' => Tr.casesOn t (Bool.casesOn (Nat.beq (k' % 2) 0) ((s .e (k' / 2) a).force fun r' => .n .e none r') ((s .e (k' / 2) a).force fun l' => .n l' none .e))
      fun l v r => Bool.casesOn (Nat.beq (k' % 2) 0) ((s r (k' / 2) a).force fun r' => .n l v r') ((s l (k' / 2) a).force fun l' => .n l' v r)) f
/-- fuel enough for whatever place -/
def put (t : Tr α) (k : Nat) (a : α) : Tr α := set (k + 1) t k a
def ofListFrom : List α → Nat → Tr α → Tr α
  | [], _, t => t
  | a :: r, i, t => (put t i a).force fun t' => ofListFrom r (i + 1) t'
def ofList (l : List α) : Tr α := ofListFrom l 0 .e
end Tr

inductive Blk where
  | dead
  | mk (cells : Tr Value) (size es : Nat)
  /-- a map: keys and values, in the order of the model's entries -/
  | mp (l : List (Value × Value))

structure H where
  blks : Tr Blk
  next : Nat
  wm : Nat

structure Env where
  und : Tr (Option TypeDesc)
  inf : Tr (Option TypeInfo)
  fns : Tr Func
  /-- so many blocks are never written -/
  G : Nat
  /-- so many of them are the program's variables -/
  N : Nat
  /-- functions without arguments of which it is known what they return, where the tables hold what they should -/
  known : Tr Value
  tabs : List (Nat × List Value)
  /-- closures that hand yield the letters of the string that they have caught, one after the other: place, letter less 'a' -/
  iters : Tr Nat
  /-- the numbers of blocks that are never stored to; two of them may begin with the same cells -/
  fzl : List Nat := []
  /-- functions of which it is known what they return, by their arguments and by what they read; they leave all that was as it was -/
  orc : Tr (List Value → H → Option Value) := .e
  /-- nothing of that is asked -/
  strict : Bool := false

def envOf (P : Program) (types N G : Nat) (fzl : List Nat := []) : Env :=
  { und := Tr.ofList ((List.range types).map P.underlying), inf := Tr.ofList ((List.range types).map P.info?), fns := Tr.ofList P.funcs.toList, G, N, known := .e, tabs := [], iters := .e, fzl }

variable (P : Program) (E : Env)

/-- is a block one of these? -/
def Env.frz (b : Nat) : Bool := Nat.ble E.G b && E.fzl.any fun k => Nat.beq k b

def Env.u (t : TypeId) : Option TypeDesc := (E.und.get t).getD none
def Env.i (t : TypeId) : Option TypeInfo := (E.inf.get t).getD none
def Env.agg (t : TypeId) : Option Bool := match E.u t with
  | some (.struct _) | some (.array _ _) => some true
  | some _ => some false
  | none => none

def forceN {β : Type} (n : Nat) (k : Nat → β) : β := match n with
  | 0 => k 0
  | m + 1 => k (m + 1)
def forceI {β : Type} (n : Int) (k : Int → β) : β := match n with
  | .ofNat m => forceN m fun m => k (.ofNat m)
  | .negSucc m => forceN m fun m => k (.negSucc m)
def forceB {β : Type} (b : Bool) (k : Bool → β) : β := match b with
  | true => k true
  | false => k false
def forceV {β : Type} (v : Value) (k : Value → β) : β := match v with
  | .int kd n => forceI n fun n => k (.int kd n)
  | .bool b => forceB b fun b => k (.bool b)
  | .slice a n c => forceN n fun n => forceN c fun c => k (.slice a n c)
  | .pointer (some ⟨b, o, s⟩) => forceN b fun b => forceN o fun o => k (.pointer (some ⟨b, o, s⟩))
  | v => k v

def plain : Value → Bool
  | .bool _ | .int _ _ | .string _ | .float _ _ => true
  | _ => false
/-- or a struct, an array of such -/
def plainA : Value → Bool
  | .agg cs => cs.toList.all plain
  | v => plain v
def flat1 : Value → Bool
  | .bool _ | .int _ _ | .string _ | .float _ _ | .complex _ _ _ | .pointer none | .slice none 0 0 | .map none | .chan none | .nilFunc | .nilIface => true
  | _ => false
def okConst : Value → Bool
  | .agg cs => cs.toList.all flat1
  | v => flat1 v

def live (h : H) (b : Nat) : Bool := match h.blks.get b with
  | some (.mk _ _ _) | some (.mp _) => true
  | _ => false
/-- are there cells? -/
def liveC (h : H) (b : Nat) : Bool := match h.blks.get b with
  | some (.mk _ _ _) => true
  | _ => false

def evTmp (α : Tr Value) (t : Tmp) : Option Value := match α.get t with
  | some v => some v
  | none => some undef
def ev (h : H) (α : Tr Value) : Operand → Option Value
  | .tmp t => evTmp α t
  | .const v => if okConst v then some v else none
  | .global g => if liveC h g && decide (g < E.G) && decide (g < E.N) then some (.pointer (some ⟨g, 0, none⟩)) else none
  | .func f => some (.func (.func f) #[] #[])

def evs (h : H) (α : Tr Value) : List Operand → Option (List Value)
  | [] => some []
  | x :: r => match ev E h α x with
    | none => none
    | some v => match evs h α r with
      | none => none
      | some vs => some (v :: vs)

def getCells (t : Tr Value) : Nat → Nat → Option (List Value)
  | _, 0 => some []
  | i, n + 1 => match t.get i with
    | none => none
    | some v => match getCells t (i + 1) n with
      | none => none
      | some vs => some (v :: vs)

def setCells : Tr Value → Nat → List Value → Tr Value
  | t, _, [] => t
  | t, i, v :: r => (Tr.put t i v).force fun t' => setCells t' (i + 1) r

/-- n cells of a block, from an offset -/
def rd (h : H) (b off n : Nat) : Option (List Value) := match h.blks.get b with
  | some (.mk cells size _) => if off + n ≤ size then getCells cells off n else none
  | _ => none

def oneB : Value → Bool
  | .agg _ | .tuple _ => false
  | _ => true

def wr (h : H) (b off : Nat) (vs : List Value) : Option H := match h.blks.get b with
  | some (.mk cells size es) =>
    if off + vs.length ≤ size ∧ E.G ≤ b ∧ vs.all oneB = true ∧ E.frz b = false then
      (setCells cells off vs).force fun cells' => (Tr.put h.blks b (.mk cells' size es)).force fun blks' => forceN (min h.wm b) fun wm => some { blks := blks', next := h.next, wm }
    else none
  | _ => none

def aNew (h : H) (cells : List Value) (es : Nat) : Option (Nat × H) :=
  forceN cells.length fun n => forceN h.next fun b =>
    (Tr.ofList cells).force fun t => (Tr.put h.blks b (.mk t n es)).force fun blks' => forceN (b + 1) fun next => some (b, { blks := blks', next, wm := h.wm })

def kill (h : H) (b : Nat) : Option H := match h.blks.get b with
  | some (.mk _ _ _) => if E.G ≤ b then (Tr.put h.blks b .dead).force fun blks' => forceN (min h.wm b) fun wm => some { blks := blks', next := h.next, wm } else none
  | _ => none

/-- are all of these with a greater number dead? -/
def fzTop (h : H) (b : Nat) : Bool := E.fzl.all fun k => Nat.ble k b || !liveC h k
def fzDead : List Nat → H → Nat → H
  | [], h, _ => h
  | k :: r, h, b => Bool.casesOn (Nat.ble k b || !liveC h k || !Nat.ble E.G k) ((Tr.put h.blks k .dead).force fun blks' => forceN (min h.wm k) fun wm => fzDead r { blks := blks', next := h.next, wm } b) (fzDead r h b)

/-- is there at most one of these numbers in between? -/
def fzOne (n n' : Nat) : Bool := (fun l : List Nat => l.all fun k => l.all fun k' => Nat.beq k k') (E.fzl.filter fun k => Nat.ble n k && Nat.ble (k + 1) n')

def newVal (h : H) (cells : List Value) (es : Nat) : Option (Value × H) := match aNew h cells es with
  | some (b, h') => some (.pointer (some ⟨b, 0, none⟩), h')
  | none => none

def zeros (z : List Value) : Nat → List Value
  | 0 => []
  | n + 1 => z ++ zeros z n

def pureRun {α : Type} : Sem α → Option α
  | .pure a => some a
  | .program k => pureRun (k P)
  | _ => none

def kNum : IntKind → Nat
  | .i8 => 0 | .i16 => 1 | .i32 => 2 | .i64 => 3 | .u8 => 4 | .u16 => 5 | .u32 => 6 | .u64 => 7
def topOf : IntKind → Nat
  | .i8 => 128 | .i16 => 32768 | .i32 => 2147483648 | .i64 => 9223372036854775808 | .u8 => 256 | .u16 => 65536 | .u32 => 4294967296 | .u64 => 18446744073709551616
def lowOf : IntKind → Nat
  | .i8 => 128 | .i16 => 32768 | .i32 => 2147483648 | .i64 => 9223372036854775808 | _ => 0
/-- is it in range? -/
def inK (k : IntKind) : Int → Bool
  | .ofNat m => Nat.ble (m + 1) (topOf k)
  | .negSucc m => Nat.ble (m + 1) (lowOf k)
def wrapF (k : IntKind) (n : Int) : Int := Bool.casesOn (inK k n) (k.wrap n) n
def ltF : Int → Int → Bool
  | .ofNat a, .ofNat b => Nat.ble (a + 1) b
  | .negSucc _, .ofNat _ => true
  | .ofNat _, .negSucc _ => false
  | .negSucc a, .negSucc b => Nat.ble (b + 1) a
def eqF : Int → Int → Bool
  | .ofNat a, .ofNat b => Nat.beq a b
  | .negSucc a, .negSucc b => Nat.beq a b
  | _, _ => false
def mkI (k : IntKind) (n : Int) : Option Value := forceI n fun n => some (.int k n)
def mkB (b : Bool) : Option Value := forceB b fun b => some (.bool b)
def fastInt (op : BinOp) (k : IntKind) (a b : Int) : Option Value := match op with
  | .add => mkI k (wrapF k (a + b))
  | .sub => mkI k (wrapF k (a - b))
  | .mul => mkI k (wrapF k (a * b))
  | .eql => mkB (eqF a b)
  | .neq => mkB (!eqF a b)
  | .lss => mkB (ltF a b)
  | .leq => mkB (!ltF b a)
  | .gtr => mkB (ltF b a)
  | .geq => mkB (!ltF a b)
  | _ => none
def fastBin (op : BinOp) (v u : Value) : Option Value := match v, u with
  | .int k a, .int k' b => Bool.casesOn (Nat.beq (kNum k) (kNum k')) none (fastInt op k a b)
  | _, _ => none
def fastConv (s d : TypeId) (v : Value) : Option Value := match v with
  | .int _ n => match E.u s, E.u d with
    | some _, some (.int k) => mkI k (wrapF k n)
    | _, _ => none
  | _ => none

def plainOp (ρ : Operand → Value) (o : Oper) : Option Value := match pureRun P (execOp ρ o) with
  | some (.value v) => if plain v then forceV v some else none
  | _ => none

def binPlain (op : BinOp) (v u : Value) (ρ : Operand → Value) (o : Oper) : Option Value := match fastBin op v u with
  | some r => some r
  | none => plainOp P ρ o
def convPlain (t d : TypeId) (v : Value) (ρ : Operand → Value) (o : Oper) : Option Value := match fastConv E t d v with
  | some r => some r
  | none => plainOp P ρ o

def idx (v : Value) (len : Nat) : Option Nat := match v with
  | .int _ (.ofNat i) => if i < len then some i else none
  | _ => none
def bound (v : Option Value) (dflt top : Nat) : Option Nat := match v with
  | none => some dflt
  | some (.int _ (.ofNat i)) => if i ≤ top then some i else none
  | _ => none

def evIndexAddr (t : TypeId) (x ix : Value) : Option Value := match E.u t, x with
  | some (.slice elem), .slice (some ⟨b, off, none⟩) n _ => match idx ix n, E.i elem with
    | some i, some inf => forceN (off + i * inf.size) fun o => some (.pointer (some ⟨b, o, none⟩))
    | _, _ => none
  | some (.array len elem), .pointer (some ⟨b, off, none⟩) => match idx ix len, E.i elem with
    | some i, some inf => forceN (off + i * inf.size) fun o => some (.pointer (some ⟨b, o, none⟩))
    | _, _ => none
  | _, _ => none

def evFieldAddr (t : TypeId) (x : Value) (f : Nat) : Option Value := match E.u t, x with
  | some (.struct fields), .pointer (some ⟨b, off, none⟩) => match fields[f]? with
    | some fd => match E.i fd.type with
      | some inf => if inf.size = 0 then none else forceN (off + fd.offset) fun o => some (.pointer (some ⟨b, o, none⟩))
      | none => none
    | none => none
  | _, _ => none

def evPart (t : TypeId) (cs : Array Value) (off : Nat) : Option Value := match E.agg t with
  | some true => match E.i t with
    | some inf => some (.agg (cs.extract off (off + inf.size)))
    | none => none
  | some false => cs[off]?
  | none => none

def evField (t : TypeId) (x : Value) (f : Nat) : Option Value := match E.u t, x with
  | some (.struct fields), .agg cs => match fields[f]? with
    | some fd => evPart E fd.type cs fd.offset
    | none => none
  | _, _ => none

def evSlice (h : H) (t : TypeId) (x : Value) (lo hi : Option Value) : Option Value := match E.u t, x with
  | some .string, .string s => match bound hi s.size s.size with
    | some hi => match bound lo 0 hi with
      | some lo => some (.string (s.extract lo hi))
      | none => none
    | none => none
  | some (.slice elem), .slice (some ⟨b, off, none⟩) n c => match bound hi n n with
    | some hi => match bound lo 0 hi with
      | some lo => match E.i elem, h.blks.get b with
        | some inf, some (.mk _ _ es) => if inf.size = es then forceN (off + lo * es) fun o => forceN (hi - lo) fun m => forceN (c - lo) fun c => some (.slice (some ⟨b, o, none⟩) m c) else none
        | _, _ => none
      | none => none
    | none => none
  | some (.slice elem), .slice none 0 _ => match E.i elem, bound hi 0 0 with
    | some _, some hi => match bound lo 0 hi with
      | some _ => some (.slice none 0 0)
      | none => none
    | _, _ => none
  | some (.slice elem), .slice (some ⟨_, _, some _⟩) 0 0 => match E.i elem, bound hi 0 0 with
    | some _, some hi => match bound lo 0 hi with
      | some _ => some (.slice (some ⟨0, 0, some 0⟩) 0 0)
      | none => none
    | _, _ => none
  | some (.array len elem), .pointer (some ⟨b, off, none⟩) => match bound hi len len with
    | some hi => match bound lo 0 hi with
      | some lo => match E.i elem, h.blks.get b with
        | some inf, some (.mk _ size es) => if es = 0 ∧ off + lo * inf.size ≤ size then forceN (off + lo * inf.size) fun o => forceN (hi - lo) fun m => forceN (len - lo) fun c => some (.slice (some ⟨b, o, none⟩) m c) else none
        | _, _ => none
      | none => none
    | none => none
  | _, _ => none

def evLoad (h : H) (t : TypeId) (x : Value) : Option Value := match x with
  | .pointer (some ⟨b, off, none⟩) => match E.agg t with
    | some true => match E.i t with
      | some inf => match rd h b off inf.size with
        | some vs => some (.agg vs.toArray)
        | none => none
      | none => none
    | some false => match rd h b off 1 with
      | some [v] => some v
      | _ => none
    | none => none
  | _ => none

def evStore (h : H) (t : TypeId) (x v : Value) : Option H := match x, E.i t with
  | .pointer (some ⟨b, off, none⟩), some inf => if v.cells.size = inf.size then wr E h b off v.cells.toList else none
  | _, _ => none

def evParts (h : H) (α : Tr Value) : List (Nat × Operand) → Option (List (Nat × Value))
  | [] => some []
  | (i, x) :: r => match ev E h α x with
    | none => none
    | some v => match evParts h α r with
      | none => none
      | some vs => some ((i, v) :: vs)

def places : List Field → Option (List (Nat × Nat))
  | [] => some []
  | f :: r => match E.i f.type with
    | some inf => match places r with
      | some l => some ((f.offset, inf.size) :: l)
      | none => none
    | none => none

def evBuild (t : TypeId) (parts : List (Nat × Value)) : Option Value := match E.i t, E.u t with
  | some inf, some (.struct fields) => match inf.zero, places E fields.toList with
    | some z, some pl => if okConst z then match Instr.fill (pl.toArray[·]?) z.cells parts with
      | some cs => some (.agg cs)
      | none => none
      else none
    | _, _ => none
  | some inf, some (.array _ elem) => match inf.zero, E.i elem with
    | some z, some ie => if okConst z then match Instr.fill (fun i => some (i * ie.size, ie.size)) z.cells parts with
      | some cs => some (.agg cs)
      | none => none
      else none
    | _, _ => none
  | _, _ => none

def evBuildSlice (h : H) (t : TypeId) (len : Nat) (parts : List (Nat × Value)) : Option (Value × H) := match E.u t with
  | some (.slice elem) => match E.i elem with
    | some inf => match inf.zero with
      | some z => if okConst z && decide (len * inf.size < 16777216) && decide (z.cells.size = inf.size) && decide (0 < inf.size) then
          match Instr.fill (fun i => some (i * inf.size, inf.size)) (zeros z.cells.toList len).toArray parts with
          | some cs => if len = 0 then some (.slice (some ⟨0, 0, some 0⟩) 0 0, h) else match aNew h cs.toList inf.size with
            | some (b, h') => some (.slice (some ⟨b, 0, none⟩) len len, h')
            | none => none
          | none => none
        else none
      | none => none
    | none => none
  | _ => none

def evMakeSlice (h : H) (t : TypeId) (l c : Value) : Option (Value × H) := match E.u t, l, c with
  | some (.slice elem), .int _ (.ofNat l), .int _ (.ofNat c) => match E.i elem with
    | some inf => match inf.zero with
      | some z => if okConst z && decide (c * inf.size < 2147483648) && decide (c < 2147483648) && decide (l ≤ c) && decide (inf.bytes < 65536) && decide (z.cells.size = inf.size) && decide (0 < inf.size) then
          match aNew h (zeros z.cells.toList c) inf.size with
          | some (b, h') => some (.slice (some ⟨b, 0, none⟩) l c, h')
          | none => none
        else none
      | none => none
    | none => none
  | _, _, _ => none

/-- the first cells of what is appended or copied -/
def srcCells (h : H) (size : Nat) (n : Nat) (x : Value) : Option (List Value) := match x with
  | .slice (some ⟨b, off, none⟩) _ _ => rd h b off (n * size)
  | .slice none _ _ => some []
  | .string s => some ((s.extract 0 n).data.toList.map fun b => .int .u8 b.toNat)
  | _ => none
def srcLen (x : Value) : Option Nat := match x with
  | .slice _ n _ => some n
  | .string s => some s.size
  | _ => none

def notInt : TypeDesc → Bool
  | .int _ => false
  | _ => true

/-- the block that is appended to dies, or stays beside what comes out of it -/
def evGrow (h : H) (b : Nat) (whole : Bool) (cells : List Value) (es : Nat) : Option (Nat × H) :=
  Bool.casesOn (E.frz b) (match kill E h b with
    | some h1 => aNew h1 cells es
    | none => none) (Bool.casesOn (E.frz h.next && fzTop E h b && whole) none (aNew h cells es))

def evAppend (h : H) (ts tx : TypeId) (s x : Value) : Option (Value × H) := match E.u ts, E.u tx, srcLen x with
  | some (.slice elem), some ux, some n => if notInt ux = false then none else
    match E.i elem, s with
    | some inf, .slice base sl sc =>
      if n = 0 then some (.slice base sl sc, h) else
      match inf.zero, srcCells h inf.size n x with
      | some z, some news => if okConst z && decide (z.cells.size = inf.size) && decide (0 < inf.size) && decide (inf.bytes < 65536) && decide (sl + n < 2147483648) && news.all oneB && decide (news.length = n * inf.size) then
          match base with
          | none => match aNew h news inf.size with
            | some (b', h') => forceN (sl + n) fun m => if sl = 0 then some (.slice (some ⟨b', 0, none⟩) m m, h') else none
            | none => none
          | some ⟨_, _, some _⟩ => match aNew h news inf.size with
            | some (b', h') => forceN (sl + n) fun m => if sl = 0 then some (.slice (some ⟨b', 0, none⟩) m m, h') else none
            | none => none
          | some ⟨b, off, none⟩ => match h.blks.get b with
            | some (.mk _ size es) => if es = inf.size then (if sl + n ≤ sc then (match wr E h b (off + sl * inf.size) news with
                | some h' => forceN (sl + n) fun m => some (.slice (some ⟨b, off, none⟩) m sc, h')
                | none => none) else match rd h b off (sl * inf.size) with
              | some old => match evGrow E h b (Nat.beq off 0 && Nat.ble size (sl * inf.size)) (old ++ news) inf.size with
                | some (b', h') => forceN (sl + n) fun m => some (.slice (some ⟨b', 0, none⟩) m m, h')
                | none => none
              | none => none)
              else none
            | _ => none
        else none
      | _, _ => none
    | _, _ => none
  | _, _, _ => none

def evCopy (h : H) (td : TypeId) (d x : Value) : Option (Value × H) := match E.u td, srcLen x, d with
  | some (.slice elem), some m, .slice base dl _ => match E.i elem with
    | some inf => forceN (min m dl) fun n => if n = 0 then some (.int .i64 0, h) else
      match srcCells h inf.size n x, base with
      | some cs, some ⟨b, off, none⟩ => match wr E h b off cs with
        | some h' => some (.int .i64 n, h')
        | none => none
      | _, _ => none
    | none => none
  | _, _, _ => none

def evClear (h : H) (t : TypeId) (x : Value) : Option (Value × H) := match E.u t, x with
  | some (.slice elem), .slice base n _ => if n = 0 then some (undef, h) else
    match E.i elem, base with
    | some inf, some ⟨b, off, none⟩ => match inf.zero with
      | some z => if okConst z then match wr E h b off (zeros z.cells.toList n) with
        | some h' => some (undef, h')
        | none => none
        else none
      | none => none
    | _, _ => none
  | _, _ => none

def evLen (t : TypeId) (x : Value) : Option Value := match E.u t, x with
  | some .string, .string s => forceN s.size fun n => some (.int .i64 n)
  | some (.slice _), .slice _ n _ => some (.int .i64 n)
  | some (.array n _), _ => some (.int .i64 n)
  | _, _ => none

def bytesOf : List Value → ByteArray → Option ByteArray
  | [], s => some s
  | .int .u8 n :: r, s => bytesOf r (s.push (UInt8.ofNat n.toNat))
  | _, _ => none
/-- bytes to a string -/
def evBytes (h : H) (t d : TypeId) (x : Value) : Option Value := match E.u t, E.u d, x with
  | some (.slice e), some .string, .slice none _ _ => match E.u e with
    | some (.int .u8) => some (.string .empty)
    | _ => none
  | some (.slice e), some .string, .slice (some ⟨_, _, some _⟩) 0 0 => match E.u e with
    | some (.int .u8) => some (.string .empty)
    | _ => none
  | some (.slice e), some .string, .slice (some ⟨b, off, none⟩) n _ => match E.u e with
    | some (.int .u8) => match rd h b off n with
      | some vs => match bytesOf vs .empty with
        | some s => some (.string s)
        | none => none
      | none => none
    | _ => none
  | _, _, _ => none

def evIndex (t : TypeId) (x ix : Value) : Option Value := match E.u t, x with
  | some (.array len elem), .agg cs => match idx ix len, E.i elem with
    | some i, some inf => evPart E elem cs (i * inf.size)
    | _, _ => none
  | some .string, .string s => match idx ix s.size with
    | some i => match s[i]? with
      | some b => forceN b.toNat fun n => some (.int .u8 n)
      | none => none
    | none => none
  | _, _ => none

/-- a string's bytes -/
def evStrBytes (h : H) (d : TypeId) (v : Value) : Option (Value × H) := match v with
  | .string s => (match E.u d with
    | some (.slice e) => (match E.u e with
      | some (.int .u8) => (match aNew h (s.data.toList.map fun b => .int .u8 b.toNat) 1 with
        | some (b, h') => forceN s.size fun n => some (.slice (some ⟨b, 0, none⟩) n n, h')
        | none => none)
      | _ => none)
    | _ => none)
  | _ => none

/- maps -/
def forceL {α : Type} {β : Type} (l : List α) (k : List α → β) : β := match l with
  | [] => k []
  | x :: r => forceL r fun r' => k (x :: r')
/-- can the key be asked for? -/
def keysOK (kt : TypeId) (k : Value) (em : Bool) : Bool :=
  Bool.casesOn (plainA k) false (match E.u kt with
    | some (.int _) | some .string => true
    | _ => match pureRun P (Instr.checkKey em 10000 kt k) with
      | some _ => true
      | none => false)
def evFindNow (kind : TypeDesc) (k : Value) : List (Value × Value) → Nat → Option (Option (Nat × Value))
  | [], _ => some none
  | x :: r, i => match Instr.sameNow kind k x.1 with
    | some true => some (some (i, x.2))
    | some false => evFindNow kind k r (i + 1)
    | none => none
def evFindAsk (kt : TypeId) (k : Value) : List (Value × Value) → Nat → Option (Option (Nat × Value))
  | [], _ => some none
  | x :: r, i => match pureRun P (Op.equal kt k x.1) with
    | some true => some (some (i, x.2))
    | some false => evFindAsk kt k r (i + 1)
    | none => none
def evFind (kt : TypeId) (k : Value) (l : List (Value × Value)) : Option (Option (Nat × Value)) := match E.u kt with
  | some kind => match evFindNow kind k l 0 with
    | some r => some r
    | none => evFindAsk P kt k l 0
  | none => none
def mpGet (h : H) (m : Value) : Option (List (Value × Value)) := match m with
  | .map none => some []
  | .map (some b) => match h.blks.get b with
    | some (.mp l) => some l
    | _ => none
  | _ => none
def commaOk (ok : Bool) (v : Value) (b : Bool) : Value := match ok with
  | true => .tuple #[v, .bool b]
  | false => v
def evLookup (h : H) (t : TypeId) (m k : Value) (ok : Bool) : Option Value := match E.u t with
  | some (.map kt et) => match mpGet h m with
    | some l => if keysOK P E kt k l.isEmpty then (match evFind P E kt k l with
      | some (some (_, v)) => some (commaOk ok v true)
      | some none => (match E.i et with
        | some inf => match inf.zero with
          | some z => if okConst z then some (commaOk ok z false) else none
          | none => none
        | none => none)
      | none => none) else none
    | none => none
  | _ => none
def mpPut (h : H) (b : Nat) (l : List (Value × Value)) : Option H := match h.blks.get b with
  | some (.mp _) => if E.G ≤ b ∧ E.frz b = false then forceL l fun l => (Tr.put h.blks b (.mp l)).force fun blks' => forceN (min h.wm b) fun wm => some { blks := blks', next := h.next, wm } else none
  | _ => none
def sameAt (l : List (Value × Value)) (i : Nat) (k : Value) : Bool := match l[i]? with
  | some x => Instr.sameBits 10000 x.1 k
  | none => false
def evMapSet (h : H) (t : TypeId) (m k v : Value) : Option H := match E.u t, m with
  | some (.map kt _), .map (some b) => match mpGet h m with
    | some l => if keysOK P E kt k false then (match evFind P E kt k l with
      | some (some (i, _)) => if sameAt l i k then mpPut E h b (l.set i (k, v)) else none
      | some none => mpPut E h b (l ++ [(k, v)])
      | none => none) else none
    | none => none
  | _, _ => none
def evDelete (h : H) (t : TypeId) (m k : Value) : Option H := match E.u t, m with
  | some (.map kt _), .map (some b) => match mpGet h m with
    | some l => if keysOK P E kt k l.isEmpty then (match evFind P E kt k l with
      | some (some (i, _)) => mpPut E h b (l.eraseIdx i)
      | some none => mpPut E h b l
      | none => none) else none
    | none => none
  | _, _ => none
def mpNew (h : H) : Option (Value × H) := forceN h.next fun b => (Tr.put h.blks b (.mp [])).force fun blks' => forceN (b + 1) fun next => some (.map (some b), { blks := blks', next, wm := h.wm })
def evLenM (h : H) (t : TypeId) (x : Value) : Option Value := match E.u t, x with
  | some (.map _ _), .map r => match mpGet h (.map r) with
    | some l => forceN l.length fun n => some (.int .i64 n)
    | none => none
  | _, _ => none

/-- '==' with nil -/
def evNil (t : TypeId) (x y : Value) : Option Bool := match E.u t, x, y with
  | some (.slice _), .slice none _ _, .slice b _ _ => some b.isNone
  | some (.slice _), .slice (some _) _ _, .slice none _ _ => some false
  | some (.pointer _), .pointer none, .pointer b => some b.isNone
  | some (.pointer _), .pointer (some _), .pointer none => some false
  | _, _, _ => none

abbrev Callf := FuncId → List Value → H → Option (Value × H)

def evBuiltin (h : H) (b : Builtin) (ts : Array TypeId) (vs : List Value) : Option (Value × H) := match b, ts.toList, vs with
  | .len, [t], [x] => match evLen E t x with
    | some v => some (v, h)
    | none => match evLenM E h t x with
      | some v => some (v, h)
      | none => none
  | .append, [t, u], [s, x] => evAppend E h t u s x
  | .copy, [t, _], [d, x] => evCopy E h t d x
  | .clear, [t], [x] => evClear E h t x
  | .delete, t :: _, [m, k] => match evDelete P E h t m k with
    | some h' => some (undef, h')
    | none => none
  | _, _, _ => none

def asV (h : H) : Option Value → Option (Value × H)
  | some v => some (v, h)
  | none => none

def evOpS (call : Callf) (h : H) (α : Tr Value) (o : Oper) : Option (Value × H) := match o.op with
  | .move x | .assign x => asV h (ev E h α x)
  | .pick c a b => match ev E h α c with
    | some (.bool true) => asV h (ev E h α a)
    | some (.bool false) => asV h (ev E h α b)
    | _ => none
  | .alloc t => match E.i t with
    | some inf => match inf.zero with
      | some z => if okConst z then newVal h z.cells.toList 0 else none
      | none => none
    | none => none
  | .box _ x => match ev E h α x with
    | some v => newVal h v.cells.toList 0
    | none => none
  | .build t parts => match evParts E h α parts.toList with
    | some ps => asV h (evBuild E t ps)
    | none => none
  | .buildSlice t len parts => match evParts E h α parts.toList with
    | some ps => evBuildSlice E h t len ps
    | none => none
  | .load t x => match ev E h α x with
    | some v => asV h (evLoad E h t v)
    | none => none
  | .store t x y => match ev E h α x, ev E h α y with
    | some v, some u => match evStore E h t v u with
      | some h' => some (undef, h')
      | none => none
    | _, _ => none
  | .nilCheck x => match ev E h α x with
    | some (.pointer (some a)) => some (.pointer (some a), h)
    | _ => none
  | .binOp op t x y _ => match ev E h α x, ev E h α y with
    | some v, some u => if plainA v && plainA u then asV h (binPlain P op v u (fun z => (ev E h α z).getD undef) o) else
      match op, evNil E t v u with
      | .eql, some b => some (.bool b, h)
      | .neq, some b => some (.bool (!b), h)
      | _, _ => none
    | _, _ => none
  | .unOp _ _ x => match ev E h α x with
    | some v => if plain v then asV h (plainOp P (fun z => (ev E h α z).getD undef) o) else none
    | none => none
  | .convert t d x => match ev E h α x with
    | some v => if plain v then (match convPlain P E t d v (fun z => (ev E h α z).getD undef) o with
    | some r => some (r, h)
    | none => (match E.u t with
      | some .string => evStrBytes E h d v
      | _ => none)) else asV h (evBytes E h t d v)
    | none => none
  | .makeFunc fn first captured => match evs E h α first.toList, evs E h α captured.toList with
    | some f, some c => some (.func fn f.toArray c.toArray, h)
    | _, _ => none
  | .makeSlice t l c => match ev E h α l, ev E h α c with
    | some l, some c => evMakeSlice E h t l c
    | _, _ => none
  | .makeMap _ none => mpNew h
  | .lookup t m k ok => match ev E h α m, ev E h α k with
    | some m, some k => asV h (evLookup P E h t m k ok)
    | _, _ => none
  | .mapUpdate t m k v => match ev E h α m, ev E h α k, ev E h α v with
    | some m, some k, some v => match evMapSet P E h t m k v with
      | some h' => some (undef, h')
      | none => none
    | _, _, _ => none
  | .insert t m k v => match ev E h α m, ev E h α k, ev E h α v with
    | some m, some k, some v => match evMapSet P E h t m k v with
      | some h' => some (undef, h')
      | none => none
    | _, _, _ => none
  | .slice t x lo hi none => match ev E h α x, evs E h α lo.toList, evs E h α hi.toList with
    | some x, some lo, some hi => asV h (evSlice E h t x lo.head? hi.head?)
    | _, _, _ => none
  | .fieldAddr t x f => match ev E h α x with
    | some v => asV h (evFieldAddr E t v f)
    | none => none
  | .field t x f => match ev E h α x with
    | some v => asV h (evField E t v f)
    | none => none
  | .indexAddr t x i => match ev E h α x, ev E h α i with
    | some v, some u => asV h (evIndexAddr E t v u)
    | _, _ => none
  | .index t x i => match ev E h α x, ev E h α i with
    | some v, some u => asV h (evIndex E t v u)
    | _, _ => none
  | .extract x i => match ev E h α x with
    | some (.tuple vs) => asV h vs[i]?
    | _ => none
  | .call c => match evs E h α c.args.toList with
    | none => none
    | some vs => match c.callee with
      | .value f => match ev E h α f with
        | some (.func (.func g) first captured) => call g (first.toList ++ vs ++ captured.toList) h
        | _ => none
      | .builtin .max | .builtin .min => if vs.all plain then asV h (plainOp P (fun z => (ev E h α z).getD undef) o) else none
      | .builtin b => evBuiltin P E h b c.argTypes vs
      | _ => none
  | _ => none

def hPick (h : H) (α : Tr Value) (c a b : Operand) : Option (Value × H) := match ev E h α c with
  | some (.bool true) => asV h (ev E h α a)
  | some (.bool false) => asV h (ev E h α b)
  | _ => none
def hBin (h : H) (α : Tr Value) (o : Oper) (op : BinOp) (t : TypeId) (x y : Operand) : Option (Value × H) := match ev E h α x, ev E h α y with
  | some v, some u => if plainA v && plainA u then asV h (binPlain P op v u (fun z => (ev E h α z).getD undef) o) else
    match op, evNil E t v u with
    | .eql, some b => some (.bool b, h)
    | .neq, some b => some (.bool (!b), h)
    | _, _ => none
  | _, _ => none
def hConv (h : H) (α : Tr Value) (o : Oper) (t d : TypeId) (x : Operand) : Option (Value × H) := match ev E h α x with
  | some v => if plain v then (match convPlain P E t d v (fun z => (ev E h α z).getD undef) o with
    | some r => some (r, h)
    | none => (match E.u t with
      | some .string => evStrBytes E h d v
      | _ => none)) else asV h (evBytes E h t d v)
  | none => none
def hLoad (h : H) (α : Tr Value) (t : TypeId) (x : Operand) : Option (Value × H) := match ev E h α x with
  | some v => asV h (evLoad E h t v)
  | none => none
def hStore (h : H) (α : Tr Value) (t : TypeId) (x y : Operand) : Option (Value × H) := match ev E h α x, ev E h α y with
  | some v, some u => match evStore E h t v u with
    | some h' => some (undef, h')
    | none => none
  | _, _ => none
def hIndexAddr (h : H) (α : Tr Value) (t : TypeId) (x i : Operand) : Option (Value × H) := match ev E h α x, ev E h α i with
  | some v, some u => asV h (evIndexAddr E t v u)
  | _, _ => none
def hFieldAddr (h : H) (α : Tr Value) (t : TypeId) (x : Operand) (f : Nat) : Option (Value × H) := match ev E h α x with
  | some v => asV h (evFieldAddr E t v f)
  | none => none
def hExtract (h : H) (α : Tr Value) (x : Operand) (i : Nat) : Option (Value × H) := match ev E h α x with
  | some (.tuple vs) => asV h vs[i]?
  | _ => none
def hCall (call : Callf) (h : H) (α : Tr Value) (o : Oper) (c : Call) : Option (Value × H) := match evs E h α c.args.toList with
  | none => none
  | some vs => match c.callee with
    | .value f => match ev E h α f with
      | some (.func (.func g) first captured) => call g (first.toList ++ vs ++ captured.toList) h
      | _ => none
    | .builtin .max | .builtin .min => if vs.all plain then asV h (plainOp P (fun z => (ev E h α z).getD undef) o) else none
    | .builtin b => evBuiltin P E h b c.argTypes vs
    | _ => none
def evOp (call : Callf) (h : H) (α : Tr Value) (o : Oper) : Option (Value × H) :=
  Op.casesOn (motive := fun _ => Option (Value × H)) o.op
    (fun x => asV h (ev E h α x)) (fun x => asV h (ev E h α x)) (fun c a b => hPick E h α c a b)
    (fun _ => evOpS P E call h α o) (fun _ _ => evOpS P E call h α o) (fun _ _ => evOpS P E call h α o) (fun _ _ _ => evOpS P E call h α o) (fun _ _ _ _ => evOpS P E call h α o)
    (fun t x => hLoad E h α t x) (fun t x y => hStore E h α t x y) (fun _ => none) (fun _ => none) (fun _ => evOpS P E call h α o)
    (fun op t x y _ => hBin P E h α o op t x y) (fun _ _ _ => evOpS P E call h α o) (fun t d x => hConv P E h α o t d x)
    (fun _ _ => none) (fun _ _ => none) (fun _ _ _ => evOpS P E call h α o) (fun _ _ => evOpS P E call h α o) (fun _ _ => none) (fun _ _ _ => evOpS P E call h α o)
    (fun _ _ _ _ _ => evOpS P E call h α o) (fun t x f => hFieldAddr E h α t x f) (fun _ _ _ => evOpS P E call h α o) (fun t x i => hIndexAddr E h α t x i) (fun _ _ _ => evOpS P E call h α o)
    (fun _ _ _ _ => evOpS P E call h α o) (fun _ _ _ _ => evOpS P E call h α o) (fun _ _ _ => none) (fun _ _ _ _ => none) (fun _ _ => none) (fun _ _ => none) (fun _ => none) (fun _ _ _ _ => none)
    (fun x i => hExtract E h α x i) (fun c => hCall P E call h α o c) (fun _ => none) (fun _ => none) (fun _ => none) (fun _ _ => none) (fun _ _ _ => none) (fun _ _ => none)
theorem evOp_eq (call : Callf) (h : H) (α : Tr Value) (o : Oper) : evOp P E call h α o = evOpS P E call h α o := by
  unfold evOp
  cases ho : o.op <;> first | rfl | (simp only [evOpS, ho]; done) | (simp only [evOpS, ho]; rfl)

/-- is an operation behind a guard wanted? -/
def nth : List Oper → Nat → Option Oper
  | [], _ => none
  | o :: _, 0 => some o
  | _ :: r, k + 1 => nth r k
def wantedA (ops : List Oper) (α : Tr Value) (o : Oper) : Option Bool := match o.guard with
  | none => some true
  | some (j, want) => match nth ops j with
    | some oj => match oj.dst with
      | some d => match α.get d with
        | some (.bool b) => some (b == want)
        | some (.tuple _) => some false
        | _ => none
      | none => none
    | none => none

def put (n : Nat) (α : Tr Value) (dst : Option Tmp) (v : Value) : Option (Tr Value) := match dst with
  | none => some α
  | some d => Bool.casesOn (Nat.ble (d + 1) n) none ((Tr.put α d v).force some)

def step1 (call : Callf) (n : Nat) (ops : List Oper) (h : H) (α : Tr Value) (o : Oper) : Option (Tr Value × H) :=
  match wantedA ops α o with
  | some true => match evOp P E call h α o with
    | some (v, h') => match put n α o.dst v with
      | some α' => some (α', h')
      | none => none
    | none => none
  | some false => match put n α o.dst undef with
    | some α' => some (α', h)
    | none => none
  | none => none

def evList (call : Callf) (n : Nat) (ops : List Oper) : List Oper → H → Tr Value → Option (Tr Value × H)
  | [], h, α => some (α, h)
  | o :: r, h, α => match step1 P E call n ops h α o with
    | some (α', h') => evList call n ops r h' α'
    | none => none

/-- the first operations of a region that draws, each of which must leave what was there -/
def evQuiet (call : Callf) (n : Nat) (ops : List Oper) : List Oper → H → Tr Value → Option (Tr Value × H)
  | [], h, α => some (α, h)
  | o :: r, h, α => match step1 P E call n ops { blks := h.blks, next := h.next, wm := h.next } α o with
    | some (α', h') => if h.next ≤ h'.wm then evQuiet call n ops r { blks := h'.blks, next := h'.next, wm := h.wm } α' else none
    | none => none

/- the closed facts of a region that draws -/
def waits (o : Oper) (i : Nat) : Bool := o.after.toList.any fun e => Region.binds .any e && e.on == i
def allApart (ops : Array Oper) (l : List Oper) : Bool :=
  (List.range l.length).all fun j => (List.range j).all fun i => match nth l i, nth l j with
    | some x, some y => waits y i || x.apart ops y
    | _, _ => false
/-- which operations make blocks with such numbers -/
def fzMarks (call : Callf) (n : Nat) (ops : List Oper) : List Oper → Nat → H → Tr Value → List Nat
  | [], _, _, _ => []
  | o :: r, i, h, α => match step1 P E call n ops { blks := h.blks, next := h.next, wm := h.next } α o with
    | some (α', h') => Bool.casesOn (E.fzl.any fun k => Nat.ble h.next k && Nat.ble (k + 1) h'.next) (fzMarks call n ops r (i + 1) { blks := h'.blks, next := h'.next, wm := h.wm } α') (i :: fzMarks call n ops r (i + 1) { blks := h'.blks, next := h'.next, wm := h.wm } α')
    | none => []
/-- does the later one of any two of them wait for the earlier one? -/
def fzOrd (ops : List Oper) (L : List Nat) : Bool := L.all fun i => L.all fun j => Nat.ble j i || match nth ops j with
  | some o => waits o i
  | none => false
def fzOK (call : Callf) (n : Nat) (ops l : List Oper) (h : H) (α : Tr Value) (h' : H) : Bool := Bool.casesOn (fzOne E h.next h'.next) (fzOrd ops (fzMarks P E call n ops l 0 h α)) true
/-- after which operation everything is in one order -/
def chainFrom (l : List Oper) : Nat → Nat
  | 0 => 0
  | t + 1 => match nth l t with
    | some o => if t = 0 then 0 else if waits o (t - 1) then chainFrom l t else t
    | none => t
def tailAt (l : List Oper) : Nat := chainFrom l l.length

/-- operations that look at no memory: they may come first -/
def freeOp : Op → Bool
  | .move _ | .assign _ | .indexAddr _ _ _ | .fieldAddr _ _ _ => true
  | .binOp .add _ _ _ _ | .binOp .sub _ _ _ _ | .binOp .mul _ _ _ _ => true
  | _ => false
def freeB (o : Oper) (F : List Nat) : Bool := freeOp o.op && o.guard.isNone && o.after.toList.all fun e => !Region.binds .any e || F.contains e.on
def freeFrom (ops : List Oper) : Nat → Nat → List Nat → List Nat
  | 0, _, F => F
  | k + 1, i, F => match nth ops i with
    | some o => forceN (i + 1) fun j => if freeB o F then freeFrom ops k j (i :: F) else freeFrom ops k j F
    | none => F
def freeUpto (ops : Array Oper) (m : Nat) : List Nat := freeFrom ops.toList m 0 []
def sinkFB (ops : Array Oper) (F : List Nat) (n : Nat) : Bool :=
  (List.range n).all fun i => F.contains i || (List.range (n + 1)).any fun j => decide (i < j) && Region.waitsFor .any ops j i
def freeOK (ops : Array Oper) (F : List Nat) : Bool :=
  F.all fun i => (List.range ops.size).all fun j => j == i || match nth ops.toList i, nth ops.toList j with
    | some x, some y => waits y i || waits x j || x.apart ops y
    | _, _ => false

/-- from there on: where all before is waited for -/
def sinkAt (ops : Array Oper) : Nat → Nat → Nat
  | 0, k => k
  | f + 1, k => if sinkFB ops (freeUpto ops k) k then k else sinkAt ops f (k + 1)

def dstsApart (l : List Oper) : Bool :=
  (List.range l.length).all fun j => (List.range j).all fun i => match nth l i, nth l j with
    | some x, some y => x.dst.isNone || x.dst != y.dst
    | _, _ => false
def edgesBack (ops : Array Oper) : Bool :=
  (List.range ops.size).all fun j => match nth ops.toList j with
    | some o => o.after.toList.all fun e => !Region.binds .any e || decide (e.on < j)
    | none => false
def firstTrue (size m : Nat) : Array Bool := ((List.range size).map fun i => decide (i < m)).toArray

def regOk (ops : Array Oper) (n : Nat) : Bool :=
  Region.noSelect ops && allApart ops (ops.toList.take n) && dstsApart (ops.toList.take n) && edgesBack ops && decide (n ≤ ops.size) &&
    (decide (n = ops.size) || (sinkFB ops (freeUpto ops n) n && freeOK ops (freeUpto ops n) && Region.chainB .any ops n && Region.seqB .any ops (ops.size - n) n (firstTrue ops.size n)))

/- a region of which one operation before the tail is a store that some reads of other blocks may come behind -/
def isStore : Op → Bool
  | .store _ _ _ => true
  | _ => false
/-- is the last operation before the tail such a store? -/
def wAt (ops : Array Oper) : Nat → Bool
  | 0 => false
  | p + 1 => match nth ops.toList p with
    | some o => isStore o.op && o.guard.isNone && o.dst.isNone
    | none => false
def lateApart (ops : Array Oper) (p : Nat) : Bool := (List.range p).all fun i => (List.range p).all fun j => decide (j < i) || match nth ops.toList i, nth ops.toList j with
    | some x, some y => (match y.dst with
      | some d => !(x.looksAt ops).contains d
      | none => true)
    | _, _ => false
def regOkW (ops : Array Oper) (p : Nat) : Bool :=
  Region.noSelect ops && allApart ops (ops.toList.take (p + 1)) && allApart ops (ops.toList.take p) && dstsApart (ops.toList.take p) && edgesBack ops && decide (p < ops.size) && sinkFB ops (freeUpto ops p) (p + 1) && freeOK ops (freeUpto ops p) &&
    Region.chainB .any ops (p + 1) && Region.seqB .any ops (ops.size - p) p (firstTrue ops.size p) && Region.seqB .any ops (ops.size - (p + 1)) (p + 1) (firstTrue ops.size (p + 1)) && lateApart ops p
/-- what depends on no memory at all -/
def lateOp : Op → Bool
  | .call c => (match c.callee with
    | .builtin .max | .builtin .min => true
    | _ => false)
  | o => freeOp o
/-- what may come behind the store: free operations, and reads of other blocks -/
def lateB (E : Env) (h : H) (α : Tr Value) (ops : Array Oper) (p : Nat) : Bool := match nth ops.toList p with
  | some ow => (match ow.op with
    | .store _ x _ => (match ev E h α x with
      | some (.pointer (some ⟨b, _, _⟩)) => (List.range p).all fun i => match nth ops.toList i with
        | some o => waits ow i || (o.guard.isNone && (match o.op with
          | .load _ y => (match ev E h α y with
            | some (.pointer (some ⟨b', _, _⟩)) => !Nat.beq b' b
            | _ => false)
          | op => lateOp op))
        | none => false
      | _ => false)
    | _ => false)
  | none => false

/- a region of which one operation ahead of the tail changes what lay there before -/
def sameA : Value → Value → Bool
  | .bool a, .bool b => a == b
  | .int k x, .int k' y => decide (k = k') && decide (x = y)
  | .string s, .string t => decide (s = t)
  | .pointer none, .pointer none => true
  | .pointer (some ⟨b, o, none⟩), .pointer (some ⟨b', o', none⟩) => Nat.beq b b' && Nat.beq o o'
  | .slice none l c, .slice none l' c' => Nat.beq l l' && Nat.beq c c'
  | .slice (some ⟨b, o, none⟩) l c, .slice (some ⟨b', o', none⟩) l' c' => Nat.beq b b' && Nat.beq o o' && Nat.beq l l' && Nat.beq c c'
  | .nilIface, .nilIface => true
  | _, _ => false
def sameL : List Value → List Value → Bool
  | [], [] => true
  | x :: l, y :: k => sameA x y && sameL l k
  | _, _ => false
def sameO : Option Value → Option Value → Bool
  | some (.agg a), some (.agg b) => sameL a.toList b.toList
  | some a, some b => sameA a b
  | _, _ => false

/-- an operation that looks at its operands alone -/
def pureOp : Op → Bool
  | .binOp _ _ _ _ _ | .unOp _ _ _ | .extract _ _ => true
  | op => freeOp op
/-- cells of one size on either side -/
def sameE (hp h' : H) (b : Nat) : Bool := match hp.blks.get b, h'.blks.get b with
  | some (.mk _ _ e), some (.mk _ _ e') => Nat.beq e e'
  | _, _ => false
/-- an operation that gives the same on either side -/
def insens (E : Env) (hp h' : H) (α' : Tr Value) (late : Bool) (o : Oper) : Bool := o.guard.isNone && (match o.op with
  | .load t y => (match ev E h' α' y with
    | some (.pointer (some ⟨b, off, none⟩)) => Nat.ble hp.next b || sameO (evLoad E hp t (.pointer (some ⟨b, off, none⟩))) (evLoad E h' t (.pointer (some ⟨b, off, none⟩)))
    | _ => false)
  | .slice _ x _ _ none => (match ev E h' α' x with
    | some (.slice (some ⟨b, _, none⟩) _ _) => Nat.ble hp.next b || sameE hp h' b
    | some (.slice _ _ _) => true
    | _ => false)
  | .alloc _ => late
  | .buildSlice _ _ _ => late
  | op => pureOp op)
/-- waits for it, or for one that does -/
def waitsT (ops : List Oper) : Nat → Oper → Nat → Bool
  | 0, o, i => waits o i
  | k + 1, o, i => waits o i || o.after.toList.any fun e => Region.binds .any e && (match nth ops e.on with
    | some o' => waitsT ops k o' i
    | none => false)
def dirtyOK (E : Env) (ops : List Oper) (m p : Nat) (ow : Oper) (hp h' : H) (α' : Tr Value) : Bool :=
  (List.range m).all fun i => Nat.beq i p || match nth ops i with
    | some o => bif Nat.ble (i + 1) p then waits ow i || insens E hp h' α' false o || waitsT ops 6 ow i else waits o p || insens E hp h' α' true o || waitsT ops 6 o p
    | none => false
def noFz (E : Env) (a b : Nat) : Bool := E.fzl.all fun k => Nat.ble (k + 1) a || Nat.ble b k

/-- the first operations of a region that draws; one of them may change what lay there before: its place, the heap before it, itself -/
def evPre (call : Callf) (n : Nat) (ops : List Oper) : List Oper → Nat → H → Tr Value → Option (Nat × H × Oper) → Option (Tr Value × H × Option (Nat × H × Oper))
  | [], _, h, α, d => some (α, h, d)
  | o :: r, i, h, α, d => match step1 P E call n ops { blks := h.blks, next := h.next, wm := h.next } α o with
    | some (α', h') => if h.next ≤ h'.wm then forceN (i + 1) fun j => evPre call n ops r j { blks := h'.blks, next := h'.next, wm := h.wm } α' d else match d with
      | none => forceN (i + 1) fun j => forceN (bif Nat.ble h.wm h'.wm then h.wm else h'.wm) fun wm => evPre call n ops r j { blks := h'.blks, next := h'.next, wm } α' (some (i, h, o))
      | some _ => none
    | none => none
def preOK (call : Callf) (n : Nat) (ops : Array Oper) (m : Nat) (h : H) (α : Tr Value) (α' : Tr Value) (h' : H) : Option (Nat × H × Oper) → Bool
  | none => fzOK P E call n ops.toList (ops.toList.take m) h α h'
  | some (p, hp, ow) => dirtyOK E ops.toList m p ow hp h' α' && noFz E h.next h'.next && lateApart ops m

inductive Ex where
  | normal | exit (id : Nat) | ret

abbrev Self := Nat → Code → Tr Value → H → Option (Ex × Tr Value × H)

def resultsA (h : H) (α : Tr Value) : List ResultVar → Option (List Value)
  | [] => some []
  | .tmp t :: r => match resultsA h α r with
    | some vs => some ((α.get t).getD undef :: vs)
    | none => none
  | .cell a t :: r => match evLoad E h t ((α.get a).getD undef) with
    | some v => match resultsA h α r with
      | some vs => some (v :: vs)
      | none => none
    | none => none

def TabsIn (tabs : List (Nat × List Value)) (B : Tr Blk) : Prop := ∀ x ∈ tabs, ∃ cells size es, B.get x.1 = some (.mk cells size es) ∧ x.2.length = size ∧ ∀ (i : Nat) (v : Value), x.2[i]? = some v → cells.get i = some v

open Classical in
def knownRun (v : Value) (args : List Value) (h : H) : Option (Value × H) := if args = [] ∧ TabsIn E.tabs h.blks then some (v, h) else none

/-- what a function by a contract writes: to a block, from an offset on, values -/
def wrV (b off : Nat) (vs : List Value) : Value := .tuple #[.pointer (some ⟨b, off, none⟩), .agg vs.toArray]
def wrOf : Value → Option (Nat × Nat × List Value)
  | .tuple ⟨[.pointer (some ⟨b, off, none⟩), .agg vs]⟩ => some (b, off, vs.toList)
  | _ => none
theorem wrOf_wrV {b off : Nat} {vs : List Value} : wrOf (wrV b off vs) = some (b, off, vs) := by simp [wrV, wrOf]
open Classical in
def orcRun (g : List Value → H → Option Value) (args : List Value) (h : H) : Option (Value × H) := if TabsIn E.tabs h.blks then (match g args h with
  | some v => (match wrOf v with
    | none => some (v, h)
    | some (b, off, vs) => (match wr E h b off vs with
      | some h' => some (.tuple #[], h')
      | none => none))
  | none => none) else none

/-- functions without a body, of which the model has a row -/
def evExt (fn : Func) (args : List Value) (h : H) : Option (Value × H) :=
  if fn.name = "internal/bytealg.IndexByteString" ∧ fn.origin = "" then (match args with
    | [.string s, .int .u8 c] => (match (List.range s.size).find? fun i => s[i]! == c.toNat.toUInt8 with
      | some i => forceN i fun i => some (.int .i64 (Int.ofNat i), h)
      | none => some (.int .i64 (-1), h))
    | _ => none) else none

def callWith (self : Self) : Callf := fun f args h => match E.known.get f with
  | some v => knownRun E v args h
  | none => match E.orc.get f with
  | some g => orcRun E g args h
  | none => match E.fns.get f with
  | some fn => match fn.body with
    | some c => if args.length ≤ fn.ntmps ∧ fn.name ≠ "runtime.NumGoroutine" then
        match self fn.ntmps c (Tr.ofList args) h with
        | some (.ret, α, h') | some (.normal, α, h') => match resultsA E h' α fn.results.toList with
          | some [v] => some (v, h')
          | some vs => some (.tuple vs.toArray, h')
          | none => none
        | _ => none
      else none
    | none => evExt fn args h
  | none => none

def evRegion0 (self : Self) (n : Nat) (ops : Array Oper) (draw : Bool) (α : Tr Value) (h : H) : Option (Tr Value × H) :=
  if draw then
    forceN (tailAt ops.toList) fun k =>
      forceN (sinkAt ops (ops.size - k) k) fun m =>
      if wAt ops m then (forceN (m - 1) fun p => if regOkW ops p then (match evQuiet P E (callWith E self) n ops.toList (ops.toList.take p) h α with
        | some (α', h') => if lateB E h' α' ops p && fzOK P E (callWith E self) n ops.toList (ops.toList.take p) h α h' then evList P E (callWith E self) n ops.toList (ops.toList.drop p) h' α' else none
        | none => none) else none) else
      if regOk ops m then
        match evPre P E (callWith E self) n ops.toList (ops.toList.take m) 0 h α none with
        | some (α', h', d) => if preOK P E (callWith E self) n ops m h α α' h' d then evList P E (callWith E self) n ops.toList (ops.toList.drop m) h' α' else none
        | none => none
      else none
  else evList P E (callWith E self) n ops.toList ops.toList h α

/-- what an operation appends to, where that is never stored to -/
def fzBase (h : H) (α : Tr Value) : List Oper → Option Nat
  | [] => none
  | o :: r => match o.op with
    | .call c => (match c.callee, c.args.toList with
      | .builtin .append, x :: _ => (match ev E h α x with
        | some (.slice (some ⟨b, _, none⟩) _ _) => Bool.casesOn (E.frz b) (fzBase h α r) (some b)
        | _ => fzBase h α r)
      | _, _ => fzBase h α r)
    | _ => fzBase h α r
/-- before something is appended once more to what is never stored to, all that came out of it dies -/
def fzCut (h : H) (α : Tr Value) (ops : List Oper) : H := match E.fzl with
  | [] => h
  | l => match fzBase E h α ops with
    | some b => fzDead E l h b
    | none => h
def evRegion (self : Self) (n : Nat) (ops : Array Oper) (draw : Bool) (α : Tr Value) (h : H) : Option (Tr Value × H) :=
  Bool.casesOn draw (evRegion0 P E self n ops false α h) (evRegion0 P E self n ops true α (fzCut E h α ops.toList))

def evLoop (self : Self) (n : Nat) (b : Code) : Nat → Tr Value → H → Option (Ex × Tr Value × H)
  | 0, _, _ => none
  | k + 1, α, h => match self n b α h with
    | some (.normal, α', h') => evLoop self n b k α' h'
    | r => r

/-- the string that a closure has caught -/
def iterStr (h : H) (cap : List Value) : Option ByteArray := match cap with
  | [.pointer (some ⟨b, off, none⟩)] => match rd h b off 1 with
    | some [.string s] => some s
    | _ => none
  | _ => none
/-- the rounds of a range over such a closure -/
def evRounds (self : Self) (n p0 p1 : Nat) (assign body : Code) (α : Tr Value) (cap : List Value) : Nat → Nat → H → Option (Ex × H)
  | 0, _, h => some (.normal, h)
  | k + 1, i, h => match iterStr h cap with
    | some s => match s[i]? with
      | some c => forceI (Int.ofNat c.toNat - 97) fun z => (Tr.put α p0 (.int .i64 (Int.ofNat i))).force fun α1 => (Tr.put α1 p1 (.int .i64 z)).force fun α2 => match self n assign α2 h with
        | some (.normal, α3, h1) => match self n body α3 h1 with
          | some (.normal, _, h2) => forceN (i + 1) fun j => evRounds self n p0 p1 assign body α cap k j h2
          | some (e, _, h2) => some (e, h2)
          | none => none
        | _ => none
      | none => none
    | none => none
def evRange (self : Self) (n : Nat) (v : Option Value) (ps : List Tmp) (assign body : Code) (α : Tr Value) (h : H) : Option (Ex × Tr Value × H) := match v, ps with
  | some (.func (.func g) first cap), [p0, p1] => match E.iters.get g, first.toList, iterStr h cap.toList with
    | some 0, [], some s => if p0 < n ∧ p1 < n ∧ s.size < 4611686018427387904 then (match evRounds self n p0 p1 assign body α cap.toList s.size 0 h with
      | some (e, h') => some (e, α, h')
      | none => none) else none
    | _, _, _ => none
  | _, _ => none

def evStep (self : Self) : Self := fun n c α h => match c with
  | .skip | .label _ => some (.normal, α, h)
  | .region _ ops draw => match evRegion P E self n ops draw α h with
    | some (α', h') => some (.normal, α', h')
    | none => none
  | .seq a b => match self n a α h with
    | some (.normal, α', h') => self n b α' h'
    | r => r
  | .cond c a b => match ev E h α c with
    | some (.bool true) => self n a α h
    | some (.bool false) => self n b α h
    | _ => none
  | .block id b => match self n b α h with
    | some (.exit id', α', h') => if id' = id then some (.normal, α', h') else some (.exit id', α', h')
    | r => r
  | .loop b => evLoop self n b 4611686018427387904 α h
  | .exit id => some (.exit id, α, h)
  | .ret => some (.ret, α, h)
  | .rangeFunc f ps assign body => evRange E self n (ev E h α f) ps.toList assign body α h
  | .scope c => self n c α h
  | _ => none

def run (f : Nat) : Self := Nat.rec (fun _ _ _ _ => none) (fun _ s => evStep P E s) f
end
end Go.Proofs.YtngpoamjhngcgaaGreatDoor.Ev

