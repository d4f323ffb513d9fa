/- The abstract machine: what it does. -/
import Derived.Calls

/- The abstract machine: a deterministic reading of the program's text over rows that are named by numbers. Functions alone. All that is made anew is handed on as an Option, so that a reader by reduction has it whole at each step. -/
namespace Go.Am
set_option linter.unusedVariables false

inductive Tr (α : Type) where
  | nil
  | node (l : Tr α) (v : Option α) (r : Tr α)

/-- By the recursor itself: a reader by reduction has few steps to go. -/
noncomputable def Tr.get {α : Type} (t : Tr α) : Nat → Option α :=
  Tr.rec (fun _ => none) (fun _ v _ il ir n => Bool.rec (Bool.rec (ir (Nat.sub (Nat.div n 2) 1)) (il (Nat.div n 2)) (Nat.beq (Nat.mod n 2) 1)) v (Nat.beq n 0)) t
theorem Tr.get_nil_eq {α : Type} (n : Nat) : (Tr.nil : Tr α).get n = none := rfl
theorem Tr.get_node_eq {α : Type} (l r : Tr α) (v : Option α) (n : Nat) : (Tr.node l v r).get n = match Nat.beq n 0 with
    | true => v
    | false => match Nat.beq (n % 2) 1 with
      | true => l.get (n / 2)
      | false => r.get (n / 2 - 1) := by
  show Bool.rec (motive := fun _ => Option α) (Bool.rec (motive := fun _ => Option α) (r.get (n / 2 - 1)) (l.get (n / 2)) (Nat.beq (n % 2) 1)) v (Nat.beq n 0) = _
  cases Nat.beq n 0 with
  | true => rfl
  | false => cases Nat.beq (n % 2) 1 <;> rfl

/-- At n stands x from now on; none: n is too large. -/
noncomputable def Tr.set {α : Type} (f : Nat) (t : Tr α) (n : Nat) (x : Option α) : Option (Tr α) :=
  Nat.rec (motive := fun _ => Tr α → Nat → Option (Tr α)) (fun _ _ => none)
    (fun _ ih t n => Tr.rec (motive := fun _ => Option (Tr α))
      (Bool.rec (Bool.rec (Option.rec none (fun r => some (.node .nil none r)) (ih .nil (Nat.sub (Nat.div n 2) 1))) (Option.rec none (fun l => some (.node l none .nil)) (ih .nil (Nat.div n 2))) (Nat.beq (Nat.mod n 2) 1)) (some (.node .nil x .nil)) (Nat.beq n 0))
      (fun l v r _ _ => Bool.rec (Bool.rec (Option.rec none (fun r => some (.node l v r)) (ih r (Nat.sub (Nat.div n 2) 1))) (Option.rec none (fun l => some (.node l v r)) (ih l (Nat.div n 2))) (Nat.beq (Nat.mod n 2) 1)) (some (.node l x r)) (Nat.beq n 0)) t) f t n
theorem Tr.set_zero_eq {α : Type} (t : Tr α) (n : Nat) (x : Option α) : Tr.set 0 t n x = none := rfl
theorem Tr.set_nil_eq {α : Type} (f n : Nat) (x : Option α) : Tr.set (f + 1) .nil n x = match Nat.beq n 0 with
    | true => some (.node .nil x .nil)
    | false => match Nat.beq (n % 2) 1 with
      | true => match Tr.set f .nil (n / 2) x with
        | some l => some (.node l none .nil)
        | none => none
      | false => match Tr.set f .nil (n / 2 - 1) x with
        | some r => some (.node .nil none r)
        | none => none := by
  show Bool.rec (motive := fun _ => Option (Tr α)) (Bool.rec (motive := fun _ => Option (Tr α)) (Option.rec (motive := fun _ => Option (Tr α)) none (fun r => some (.node .nil none r)) (Tr.set f .nil (n / 2 - 1) x)) (Option.rec (motive := fun _ => Option (Tr α)) none (fun l => some (.node l none .nil)) (Tr.set f .nil (n / 2) x)) (Nat.beq (n % 2) 1)) (some (.node .nil x .nil)) (Nat.beq n 0) = _
  cases Nat.beq n 0 with
  | true => rfl
  | false =>
    cases Nat.beq (n % 2) 1 with
    | true => cases Tr.set f .nil (n / 2) x <;> rfl
    | false => cases Tr.set f .nil (n / 2 - 1) x <;> rfl
theorem Tr.set_node_eq {α : Type} (f n : Nat) (l r : Tr α) (v x : Option α) : Tr.set (f + 1) (.node l v r) n x = match Nat.beq n 0 with
    | true => some (.node l x r)
    | false => match Nat.beq (n % 2) 1 with
      | true => match Tr.set f l (n / 2) x with
        | some l => some (.node l v r)
        | none => none
      | false => match Tr.set f r (n / 2 - 1) x with
        | some r => some (.node l v r)
        | none => none := by
  show Bool.rec (motive := fun _ => Option (Tr α)) (Bool.rec (motive := fun _ => Option (Tr α)) (Option.rec (motive := fun _ => Option (Tr α)) none (fun r => some (.node l v r)) (Tr.set f r (n / 2 - 1) x)) (Option.rec (motive := fun _ => Option (Tr α)) none (fun l => some (.node l v r)) (Tr.set f l (n / 2) x)) (Nat.beq (n % 2) 1)) (some (.node l x r)) (Nat.beq n 0) = _
  cases Nat.beq n 0 with
  | true => rfl
  | false =>
    cases Nat.beq (n % 2) 1 with
    | true => cases Tr.set f l (n / 2) x <;> rfl
    | false => cases Tr.set f r (n / 2 - 1) x <;> rfl

/-- A loop over a function: its record. -/
structure LP where
  state : LoopState
  pending : Option Code
  slots : List Value
  params : List Nat
  assign : Code
  body : Code

inductive ARow where
  | cells (elem : TypeId) (cs : List Value)
  | map (es : List MapEntry) (clock : Nat)
  | text (s : ByteArray) (pos : Nat)
  | ro (cs : List Value)
  | iter (m : Nat) (since : Nat) (seen : List Nat) (last : Nat)
  | loop (p : LP)
  | glob (g : Nat) (cs : List Value)

/-- No yield: that one names its loop's row. -/
def plainFn : Fn → Bool
  | .yield _ => false
  | _ => true

/-- Is a row the machine's own, to be written? -/
def ARow.own : ARow → Bool
  | .ro _ => false
  | .glob _ _ => false
  | _ => true

noncomputable section
structure AW where
  rows : Tr ARow
  next : Nat
  step : Nat

/-- A number, whole. -/
def fn : Nat → Option Nat
  | 0 => some 0
  | n + 1 => some (n + 1)
def fi : Int → Option Int
  | .ofNat n => match fn n with
    | some m => some (.ofNat m)
    | none => none
  | .negSucc n => match fn n with
    | some m => some (.negSucc m)
    | none => none
def fa : Addr → Option Addr
  | ⟨b, o, none⟩ => match fn b, fn o with
    | some b, some o => some ⟨b, o, none⟩
    | _, _ => none
  | _ => none
/-- A value, whole, but for what lies within. -/
def fv : Value → Option Value
  | .bool b => match b with
    | true => some (.bool true)
    | false => some (.bool false)
  | .int k n => match fi n with
    | some m => some (.int k m)
    | none => none
  | .pointer (some a) => match fa a with
    | some b => some (.pointer (some b))
    | none => none
  | .slice a l c => match fn l, fn c with
    | some l, some c => match a with
      | none => some (.slice none l c)
      | some a => match fa a with
        | some b => some (.slice (some b) l c)
        | none => none
    | _, _ => none
  | v => some v

def AW.empty : AW := ⟨.nil, 0, 1⟩
def AW.get (h : AW) (r : Nat) : Option ARow := h.rows.get r
def AW.put (h : AW) (r : Nat) (x : Option ARow) : Option AW :=
  match h.rows.set (r + 1) r x with
  | some t => some ⟨t, h.next, h.step⟩
  | none => none
def AW.new (h : AW) (x : ARow) : Option (Nat × AW) :=
  match h.rows.set (h.next + 1) h.next (some x), fn (h.next + h.step) with
  | some t, some n => some (h.next, ⟨t, n, h.step⟩)
  | _, _ => none

def openCap : Nat := 18446744073709551616

/-- A value that holds no address. -/
def flat : Value → Bool
  | .bool _ | .int _ _ | .string _ | .pointer none | .map none | .nilFunc | .nilIface => true
  | .slice none n c => Nat.beq n 0 && Nat.beq c 0
  | _ => false
def allFlat : List Value → Bool
  | [] => true
  | v :: vs => match flat v with | true => allFlat vs | false => false
def plain : Value → Bool
  | .agg cs => allFlat cs.toList
  | .tuple cs => allFlat cs.toList
  | .iface _ v => flat v
  | v => flat v

abbrev Slots := List Value

def aev (a : Slots) : Operand → Option Value
  | .tmp t => a[t]?
  | .const v => match plain v with | true => some v | false => none
  | .global _ => none
  | .func f => some (.func (.func f) #[] #[])

def setAt : Slots → Nat → Value → Option Slots
  | [], _, _ => none
  | _ :: xs, 0, v => some (v :: xs)
  | x :: xs, n + 1, v => match setAt xs n v with
    | some ys => some (x :: ys)
    | none => none

def putAt (a : Slots) (d : Option Tmp) (v : Value) : Option Slots :=
  match d with
  | some d => setAt a d v
  | none => some a

def getRow (h : AW) (r : Nat) : Option (TypeId × List Value) :=
  match h.get r with
  | some (.cells e cs) => some (e, cs)
  | _ => none

/-- The cells that may be read. -/
def readRow (h : AW) (r : Nat) : Option (List Value) :=
  match h.get r with
  | some (.cells _ cs) => some cs
  | some (.ro cs) => some cs
  | _ => none

/-- The first n. -/
def takeB : List Value → Nat → Option (List Value)
  | _, 0 => some []
  | [], _ + 1 => none
  | x :: xs, n + 1 => match takeB xs n with
    | some ys => some (x :: ys)
    | none => none
/-- n from off on. -/
def cut : List Value → Nat → Nat → Option (List Value)
  | xs, 0, n => takeB xs n
  | [], _ + 1, _ => none
  | _ :: xs, off + 1, n => cut xs off n
/-- Others laid over the first ones. -/
def over : List Value → List Value → Option (List Value)
  | xs, [] => some xs
  | [], _ :: _ => none
  | _ :: xs, v :: vs => match over xs vs with
    | some ys => some (v :: ys)
    | none => none
def lay : List Value → Nat → List Value → Option (List Value)
  | xs, 0, vs => over xs vs
  | [], _ + 1, _ => none
  | x :: xs, off + 1, vs => match lay xs off vs with
    | some ys => some (x :: ys)
    | none => none
def join {α : Type} : List α → List α → Option (List α)
  | [], ys => some ys
  | x :: xs, ys => match join xs ys with
    | some zs => some (x :: zs)
    | none => none

/-- The value of one cell. -/
def oneB : Value → Bool
  | .chan _ => false
  | .agg _ => false
  | .tuple _ => false
  | _ => true
/-- What stands for any value at all. -/
def isJ : Value → Bool
  | .chan _ => true
  | _ => false
def allOne : List Value → Bool
  | [] => true
  | v :: vs => match oneB v with | true => allOne vs | false => false

def isAggB (P : Program) (t : TypeId) : Option Bool :=
  match P.underlying t with
  | some (.struct _) => some true
  | some (.array _ _) => some true
  | some _ => some false
  | none => none

def sizeB (P : Program) (t : TypeId) : Option Nat :=
  match P.info? t with
  | some i => some i.size
  | none => none

/-- A new row of these cells. -/
def newCells (P : Program) (h : AW) (e : TypeId) (cs : List Value) : Option (Nat × AW) :=
  match sizeB P e with
  | some _ => h.new (.cells e cs)
  | none => none

def partB (P : Program) (t : TypeId) (cs : List Value) (off : Nat) : Option Value :=
  match isAggB P t with
  | some true => match sizeB P t with
    | some n => match cut cs off n with
      | some vs => some (.agg ⟨vs⟩)
      | none => none
    | none => none
  | some false => cs[off]?
  | none => none

/-- Where the values of several operands stand. -/
def evs (a : Slots) : List Operand → Option (List Value)
  | [] => some []
  | x :: xs => match aev a x with
    | some v => match evs a xs with
      | some vs => some (v :: vs)
      | none => none
    | none => none

def evParts (a : Slots) : List (Nat × Operand) → Option (List (Nat × Value))
  | [] => some []
  | (i, x) :: xs => match aev a x with
    | some v => match evParts a xs with
      | some vs => some ((i, v) :: vs)
      | none => none
    | none => none

/-- Parts laid into cells. -/
def fillB (place : Nat → Option (Nat × Nat)) (cells : List Value) : List (Nat × Value) → Option (List Value)
  | [] => some cells
  | (i, v) :: rest =>
    match place i with
    | none => none
    | some (off, size) =>
      match Nat.beq v.cells.toList.length size && !isJ v with
      | true => match lay cells off v.cells.toList with
        | some cs => fillB place cs rest
        | none => none
      | false => none

def zerosB (P : Program) (t : TypeId) : Option (List Value) :=
  match P.info? t with
  | some i => match i.zero with
    | some z => match allFlat z.cells.toList with
      | true => some z.cells.toList
      | false => none
    | none => none
  | none => none

/-- n times the same cells. -/
def rep (zs : List Value) : Nat → Option (List Value)
  | 0 => some []
  | n + 1 => match rep zs n with
    | some ys => join zs ys
    | none => none

def ileB : Int → Int → Bool
  | .ofNat a, .ofNat b => Nat.ble a b
  | .negSucc _, .ofNat _ => true
  | .ofNat _, .negSucc _ => false
  | .negSucc a, .negSucc b => Nat.ble b a
def ieqB : Int → Int → Bool
  | .ofNat a, .ofNat b => Nat.beq a b
  | .negSucc a, .negSucc b => Nat.beq a b
  | _, _ => false
def leastB : IntKind → Int
  | .i8 => -128 | .i16 => -32768 | .i32 => -2147483648 | .i64 => -9223372036854775808 | _ => 0
def mostB : IntKind → Int
  | .i8 => 127 | .i16 => 32767 | .i32 => 2147483647 | .i64 => 9223372036854775807
  | .u8 => 255 | .u16 => 65535 | .u32 => 4294967295 | .u64 => 18446744073709551615
def wrapB (k : IntKind) (n : Int) : Int :=
  match ileB (leastB k) n && ileB n (mostB k) with
  | true => n
  | false => k.wrap n
/-- The bits of a number, as one that is not below 0. -/
def bitsB (k : IntKind) (n : Int) : Nat :=
  match ileB 0 n && ileB n (mostB k) with
  | true => n.toNat
  | false => (BitVec.ofInt k.bits n).toNat

def bytesEq : List UInt8 → List UInt8 → Bool
  | [], [] => true
  | a :: x, b :: y => match Nat.beq a.toNat b.toNat with
    | true => bytesEq x y
    | false => false
  | _, _ => false
def bytesLt : List UInt8 → List UInt8 → Bool
  | _, [] => false
  | [], _ :: _ => true
  | a :: x, b :: y => match Nat.beq a.toNat b.toNat with
    | true => bytesLt x y
    | false => Nat.ble (a.toNat + 1) b.toNat

def eqFields (P : Program) (cmp : TypeId → Value → Value → Option Bool) (xs ys : List Value) : List Field → Option Bool
  | [] => some true
  | f :: fs =>
    if f.name ≠ "_" then
      match partB P f.type xs f.offset, partB P f.type ys f.offset with
      | some a, some b => match cmp f.type a b with
        | some true => eqFields P cmp xs ys fs
        | r => r
      | _, _ => none
    else eqFields P cmp xs ys fs

def eqB (P : Program) : Nat → TypeId → Value → Value → Option Bool
  | 0, _, _, _ => none
  | d + 1, t, x, y =>
    match P.underlying t, x, y with
    | some .bool, .bool a, .bool b => some (a == b)
    | some (.int _), .int k a, .int k' b => if k = k' then some (ieqB a b) else none
    | some .string, .string a, .string b => some (bytesEq a.data.toList b.data.toList)
    | some (.pointer _), .pointer none, .pointer b => some b.isNone
    | some (.pointer _), .pointer (some _), .pointer none => some false
    | some (.interface _), .nilIface, .nilIface => some true
    | some (.interface _), .nilIface, .iface _ _ => some false
    | some (.interface _), .iface _ _, .nilIface => some false
    | some (.interface _), .iface tx vx, .iface ty vy =>
      match Nat.beq tx ty with
      | false => some false
      | true => match P.info? tx with
        | some i => match i.comparable with
          | true => eqB P d tx vx vy
          | false => none
        | none => none
    | some (.struct fields), .agg xs, .agg ys =>
      match P.stoodInHeld t with
      | true => none
      | false => eqFields P (eqB P d) xs.toList ys.toList fields.toList
    | some (.slice _), .slice none _ _, .slice b _ _ => some b.isNone
    | some (.slice _), .slice (some _) _ _, .slice none _ _ => some false
    | some (.map _ _), .map none, .map b => some b.isNone
    | some (.map _ _), .map (some _), .map none => some false
    | some (.func _ _ _), .nilFunc, .nilFunc => some true
    | some (.func _ _ _), .nilFunc, .func _ _ _ => some false
    | some (.func _ _ _), .func _ _ _, .nilFunc => some false
    | some (.pointer el), .pointer (some ⟨r, i, none⟩), .pointer (some ⟨r', i', none⟩) =>
      match Nat.beq r r' && Nat.beq i i', sizeB P el with
      | true, some _ => some true
      | _, _ => none
    | _, _, _ => none
def isU8 (P : Program) (e : TypeId) : Bool := match P.underlying e with | some (.int .u8) => true | _ => false

/-- Pointers to two rows of what is no byte. -/
def twoB (P : Program) (t : TypeId) (x y : Value) (h : AW) : Bool :=
  match P.underlying t, x, y with
  | some (.pointer el), .pointer (some ⟨r, _, none⟩), .pointer (some ⟨r', _, none⟩) =>
    match getRow h r, getRow h r', sizeB P el with
    | some (e, _), some (e', _), some (_ + 1) => !Nat.beq r r' && (!isU8 P e && !isU8 P e')
    | _, _, _ => false
  | _, _, _ => false
def binB (P : Program) (op : BinOp) (t : TypeId) (x y : Value) (h : AW) : Option Value :=
  match op, x, y with
  | .shl, .int k a, .int _ b => match ileB 0 b with
    | true => some (.int k (wrapB k (a * ((2 ^ (min b.toNat k.bits) : Nat) : Int))))
    | false => none
  | .shr, .int k a, .int _ b => match ileB 0 b with
    | true => some (.int k (a.fdiv ((2 ^ (min b.toNat k.bits) : Nat) : Int)))
    | false => none
  | op, .int k a, .int k' b =>
    if k = k' then
      match op with
      | .add => some (.int k (wrapB k (a + b)))
      | .sub => some (.int k (wrapB k (a - b)))
      | .mul => some (.int k (wrapB k (a * b)))
      | .quo => match ieqB b 0 with | true => none | false => some (.int k (wrapB k (a.tdiv b)))
      | .rem => match ieqB b 0 with | true => none | false => some (.int k (a.tmod b))
      | .and => some (.int k (wrapB k ((bitsB k a &&& bitsB k b : Nat) : Int)))
      | .or => some (.int k (wrapB k ((bitsB k a ||| bitsB k b : Nat) : Int)))
      | .xor => some (.int k (wrapB k ((bitsB k a ^^^ bitsB k b : Nat) : Int)))
      | .eql => some (.bool (ieqB a b))
      | .neq => some (.bool (!ieqB a b))
      | .lss => some (.bool (!ileB b a))
      | .leq => some (.bool (ileB a b))
      | .gtr => some (.bool (!ileB a b))
      | .geq => some (.bool (ileB b a))
      | _ => none
    else none
  | op, .string a, .string b =>
    let xs := a.data.toList
    let ys := b.data.toList
    match op with
    | .add => match Nat.ble (xs.length + ys.length) 9223372036854775807, join xs ys with
      | true, some zs => some (.string ⟨⟨zs⟩⟩)
      | _, _ => none
    | .eql => some (.bool (bytesEq xs ys))
    | .neq => some (.bool (!bytesEq xs ys))
    | .lss => some (.bool (bytesLt xs ys))
    | .leq => some (.bool (bytesLt xs ys || bytesEq xs ys))
    | .gtr => some (.bool (!(bytesLt xs ys || bytesEq xs ys)))
    | .geq => some (.bool (!bytesLt xs ys))
    | _ => none
  | .eql, x, y => match eqB P 100 t x y with
    | some b => some (.bool b)
    | none => match twoB P t x y h with
      | true => some (.bool false)
      | false => none
  | .neq, x, y => match eqB P 100 t x y with
    | some b => some (.bool (!b))
    | none => match twoB P t x y h with
      | true => some (.bool true)
      | false => none
  | _, _, _ => none

/-- May these two be compared (the model's look at nil values of an interface type)? -/
def eqOk (P : Program) (op : BinOp) (t : TypeId) (x y : Operand) (a b : Value) : Bool :=
  match op with
  | .eql | .neq =>
    match a, b with
    | .nilIface, .nilIface => match x, y with
      | .const _, _ => true
      | _, .const _ => true
      | _, _ => false
    | .agg _, .agg _ => !(P.eqGuardType P.depth t)
    | .chan _, _ => false
    | _, .chan _ => false
    | _, _ => true
  | _ => true

def unB (op : UnOp) (x : Value) : Option Value :=
  match op, x with
  | .not, .bool b => some (.bool !b)
  | .neg, .int k n => some (.int k (wrapB k (0 - n)))
  | .xor, .int k n => some (.int k (wrapB k ((bitsB k (if k.signed then -1 else k.max) ^^^ bitsB k n : Nat) : Int)))
  | _, _ => none

def bytesOfB : List Value → Option (List UInt8)
  | [] => some []
  | .int .u8 n :: vs => match bytesOfB vs with
    | some bs => some (UInt8.ofNat n.toNat :: bs)
    | none => none
  | _ :: _ => none
def cellsOfB : List UInt8 → Option (List Value)
  | [] => some []
  | b :: bs => match cellsOfB bs with
    | some vs => some (.int .u8 b.toNat :: vs)
    | none => none

def u8OneB (P : Program) (e : TypeId) : Bool := match sizeB P e with | some n => Nat.beq n 1 | none => false

def selfB (P : Program) (e : TypeId) (t : TypeId) : Bool :=
  match P.underlying t with
  | some (.pointer u) => Nat.beq u e
  | _ => false
/-- Such elements' rows may begin within a block: no struct whose first field is a pointer to its like. -/
def slid1B (P : Program) (e : TypeId) : Bool :=
  match P.underlying e with
  | some (.struct fs) => match fs[0]? with
    | some f => !selfB P e f.type
    | none => true
  | _ => true
def slidB (P : Program) (e : TypeId) : Bool :=
  match P.underlying e with
  | some (.struct fs) => match fs[0]? with
    | some f => !selfB P e f.type && slid1B P f.type
    | none => true
  | _ => true
/-- A struct that begins with such a thing. -/
def headB (P : Program) (e u : TypeId) : Bool :=
  match P.underlying e with
  | some (.struct fs) => !P.stoodInHeld e && fs.any fun f => Nat.beq f.offset 0 && Nat.beq f.type u
  | _ => false
def wholeB (P : Program) (e : TypeId) (n : Nat) : Bool := match sizeB P e with
  | some (m + 1) => Nat.ble (m + 1) n
  | _ => false

def convB (P : Program) (src dst : TypeId) (x : Value) (h : AW) : Option (Value × AW) :=
  match P.underlying src, P.underlying dst, x with
  | some (.int _), some (.int k), .int _ n => some (.int k (wrapB k n), h)
  | some .string, some .string, .string s => some (.string s, h)
  | some .string, some (.slice e), .string s =>
    match (isU8 P e && u8OneB P e) && Nat.ble s.data.toList.length 9223372036854775807, cellsOfB s.data.toList with
    | true, some vs => match newCells P h e vs with
      | some (r, h') => some (.slice (some ⟨r, 0, none⟩) s.data.toList.length openCap, h')
      | none => none
    | _, _ => none
  | some (.slice _), some (.slice e), .slice (some ⟨r, off, none⟩) len cap =>
    match (Nat.beq src dst && isU8 P e) && Nat.ble 1 len, getRow h r with
    | true, some (e', _) => match isU8 P e' with
      | true => some (.slice (some ⟨r, off, none⟩) len cap, h)
      | false => none
    | _, _ => none
  | some (.slice e), some .string, .slice none _ _ => match isU8 P e with
    | true => some (.string ⟨⟨[]⟩⟩, h)
    | false => none
  | some (.slice e), some .string, .slice (some ⟨r, off, none⟩) len _ =>
    match isU8 P e, Nat.beq len 0 with
    | true, true => some (.string ⟨⟨[]⟩⟩, h)
    | true, false => match readRow h r with
      | some cs => match cut cs off len with
        | some vs => match bytesOfB vs with
          | some bs => some (.string ⟨⟨bs⟩⟩, h)
          | none => none
        | none => none
      | none => none
    | false, _ => none
  | some (.pointer t), some .unsafePointer, .pointer (some ⟨r, off, none⟩) =>
    match sizeB P t, getRow h r with
    | some (_ + 1), some (_, cs) => match Nat.ble (off + 1) cs.length with
      | true => some (.pointer (some ⟨r, off, none⟩), h)
      | false => none
    | _, _ => none
  | some .unsafePointer, some (.pointer u), .pointer (some ⟨r, off, none⟩) =>
    match getRow h r, sizeB P u with
    | some (e, cs), some (n + 1) => match ((Nat.beq e u && Nat.beq off 0) && !slidB P e) && Nat.ble (n + 1) cs.length with
      | true => some (.pointer (some ⟨r, off, none⟩), h)
      | false => match (headB P e u && Nat.beq off 0) && (!slidB P e && wholeB P e cs.length) with
        | true => some (.pointer (some ⟨r, off, none⟩), h)
        | false => none
    | _, _ => none
  | _, _, _ => none

/-- A bound of a slice expression: as it stands, or the default. -/
def boundB (x : Option Value) (d : Nat) : Option Nat :=
  match x with
  | none => some d
  | some (.int _ n) => match ileB 0 n with | true => some n.toNat | false => none
  | some _ => none

def takeU : List UInt8 → Nat → Option (List UInt8)
  | _, 0 => some []
  | [], _ + 1 => none
  | x :: xs, n + 1 => match takeU xs n with
    | some ys => some (x :: ys)
    | none => none
def cutU : List UInt8 → Nat → Nat → Option (List UInt8)
  | xs, 0, n => takeU xs n
  | [], _ + 1, _ => none
  | _ :: xs, off + 1, n => cutU xs off n

/-- How far a slice may be opened: what is past len is known to be there only where the capacity is known. -/
def farB (len cap : Nat) : Nat := match Nat.beq cap openCap with | true => len | false => cap

def moved (a : Option Addr) (n : Nat) : Option Addr :=
  match a with
  | none => none
  | some ⟨r, off, s⟩ => some ⟨r, off + n, s⟩

/-- Where the capacity is not known, the row must be there, and of these elements. -/
def rowOk (h : AW) (e : TypeId) (a : Option Addr) (cap : Nat) : Bool :=
  match Nat.beq cap openCap with
  | false => Nat.ble cap openCap
  | true => match a with
    | some ⟨r, _, none⟩ => match getRow h r with
      | some (e', _) => Nat.beq e' e
      | none => false
    | _ => false

def sliceB (P : Program) (t : TypeId) (x : Value) (lo hi mx : Option Value) (h : AW) : Option Value :=
  match P.underlying t, x with
  | some .string, .string s =>
    match mx with
    | some _ => none
    | none =>
      match boundB hi s.data.toList.length, boundB lo 0 with
      | some u, some l => match Nat.ble u s.data.toList.length && Nat.ble l u with
        | true => match cutU s.data.toList l (u - l) with
          | some bs => some (.string ⟨⟨bs⟩⟩)
          | none => none
        | false => none
      | _, _ => none
  | some (.slice e), .slice a len cap =>
    match boundB hi len, boundB lo 0, sizeB P e with
    | some u, some l, some size =>
      match mx with
      | none =>
        match (Nat.ble u (farB len cap) && Nat.ble l u) && rowOk h e a cap with
        | true => some (.slice (moved a (l * size)) (u - l) (match Nat.beq cap openCap with | true => openCap | false => cap - l))
        | false => none
      | some m =>
        match boundB (some m) 0 with
        | some m => match (Nat.ble m (farB len cap) && Nat.ble u m) && (Nat.ble l u && (hi.isSome && Nat.ble m 140737488355328)) with
          | true => some (.slice (moved a (l * size)) (u - l) (m - l))
          | false => none
        | none => none
    | _, _, _ => none
  | some (.array n e), .pointer (some ⟨r, off, none⟩) =>
    match mx with
    | some _ => none
    | none =>
      match boundB hi n, boundB lo 0, sizeB P e with
      | some u, some l, some size => match (Nat.ble u n && Nat.ble l u) && Nat.ble n 140737488355328 with
        | true => some (.slice (some ⟨r, off + l * size, none⟩) (u - l) (n - l))
        | false => none
      | _, _, _ => none
  | _, _ => none

/-- A slice as the address of an array. -/
def toArrB (P : Program) (t : TypeId) (x : Value) : Option Value :=
  match P.underlying t, x with
  | some (.array n _), .slice (some ⟨r, off, none⟩) len _ => match Nat.ble 1 n && Nat.ble n len with
    | true => some (.pointer (some ⟨r, off, none⟩))
    | false => none
  | _, _ => none

def fieldAddrB (P : Program) (s : TypeId) (x : Value) (f : Nat) : Option Value :=
  match P.underlying s, x with
  | some (.struct fields), .pointer (some ⟨r, off, none⟩) =>
    match fields[f]? with
    | some fd => match sizeB P fd.type with
      | some n => match Nat.beq n 0 with
        | true => none
        | false => some (.pointer (some ⟨r, off + fd.offset, none⟩))
      | none => none
    | none => none
  | _, _ => none

def inB (i : Int) (len : Nat) : Bool := ileB 0 i && Nat.ble (i.toNat + 1) len

def indexAddrB (P : Program) (t : TypeId) (x ix : Value) : Option Value :=
  match P.underlying t, x, ix with
  | some (.slice e), .slice (some ⟨r, off, none⟩) len _, .int _ i =>
    match inB i len, sizeB P e with
    | true, some n => some (.pointer (some ⟨r, off + i.toNat * n, none⟩))
    | _, _ => none
  | some (.array len e), .pointer (some ⟨r, off, none⟩), .int _ i =>
    match inB i len, sizeB P e with
    | true, some n => some (.pointer (some ⟨r, off + i.toNat * n, none⟩))
    | _, _ => none
  | _, _, _ => none

def indexB (P : Program) (t : TypeId) (x ix : Value) : Option Value :=
  match P.underlying t, x, ix with
  | some (.array len e), .agg cs, .int _ i =>
    match inB i len, sizeB P e with
    | true, some n => partB P e cs.toList (i.toNat * n)
    | _, _ => none
  | some .string, .string s, .int _ i =>
    match ileB 0 i with
    | true => match s.data.toList[i.toNat]? with
      | some b => some (.int .u8 b.toNat)
      | none => none
    | false => none
  | _, _, _ => none

def loadB (P : Program) (t : TypeId) (x : Value) (h : AW) : Option Value :=
  match x with
  | .pointer (some ⟨r, off, none⟩) => match readRow h r with
    | some cs => partB P t cs off
    | none => none
  | _ => none

def storeB (P : Program) (t : TypeId) (x v : Value) (h : AW) : Option AW :=
  match x with
  | .pointer (some ⟨r, off, none⟩) => match getRow h r, sizeB P t with
    | some (e, cs), some n => match Nat.beq v.cells.toList.length n && allOne v.cells.toList with
      | true => match lay cs off v.cells.toList with
        | some cs' => h.put r (some (.cells e cs'))
        | none => none
      | false => none
    | _, _ => none
  | _ => none

def takeAll (s : List UInt8) (n : Nat) : Option (List UInt8) :=
  match Nat.beq n s.length with
  | true => some s
  | false => takeU s n

/-- The cells of the first n elements of a slice, or of a text. -/
def firstB (size n : Nat) (x : Value) (h : AW) : Option (List Value) :=
  match x with
  | .slice none _ _ => match Nat.beq n 0 with | true => some [] | false => none
  | .slice (some ⟨r, off, none⟩) _ _ => match Nat.beq n 0 with
    | true => some []
    | false => match readRow h r with
      | some cs => cut cs off (n * size)
      | none => none
  | .string s => match takeAll s.data.toList n with
    | some bs => cellsOfB bs
    | none => none
  | _ => none

def lenB : Value → Option Nat
  | .slice _ n _ => some n
  | .string s => some s.data.toList.length
  | _ => none

def smallB (n bytes : Nat) : Bool := Nat.ble (n * bytes) 140737488355328

def zeroFits (P : Program) (e : TypeId) : Bool :=
  match zerosB P e, sizeB P e with
  | some zs, some n => Nat.beq zs.length n && slidB P e
  | _, _ => false

/-- A new row of these, of which as many as n are told. -/
def growB (P : Program) (h : AW) (e : TypeId) (n : Nat) (old new : List Value) : Option (Value × AW) :=
  match join old new, zeroFits P e && Nat.ble n 140737488355328 with
  | some cs, true => match newCells P h e cs with
    | some (r, h') => some (.slice (some ⟨r, 0, none⟩) n openCap, h')
    | none => none
  | _, _ => none

def notText : Value → Bool
  | .string _ => false
  | _ => true

/-- append of so many zero values, as of a slice that is made. -/
def appendZB (P : Program) (e : TypeId) (base : Option Addr) (len cap : Nat) (x : Value) (h : AW) : Option (Value × AW) :=
  match x, P.info? e, zerosB P e with
  | .int .i64 z, some i, some zs =>
    match (ileB 0 z && ileB z 140737488355328) && (smallB z.toNat i.bytes && Nat.beq zs.length i.size), rep zs z.toNat with
    | true, some new =>
      match allOne new with
      | false => none
      | true => match Nat.beq cap openCap with
        | false => match Nat.ble (len + z.toNat) cap with
          | true => none
          | false => match firstB i.size len (.slice base len cap) h, smallB (len + z.toNat + cap) i.bytes with
            | some old, true => growB P h e (len + z.toNat) old new
            | _, _ => none
        | true => match base with
          | some ⟨r, off, none⟩ => match getRow h r, smallB (len + z.toNat) i.bytes with
            | some (e', cs), true => match Nat.beq e' e with
              | true => match cut cs off (len * i.size), h.put r none with
                | some old, some h0 => growB P h0 e (len + z.toNat) old new
                | _, _ => none
              | false => none
            | _, _ => none
          | _ => none
    | _, _ => none
  | _, _, _ => none

def appendB (P : Program) (ts : Array TypeId) (args : List Value) (h : AW) : Option (Value × AW) :=
  match args with
  | [.slice base len cap, x] =>
    match ts[0]?, ts[1]? with
    | some st, some xt =>
      match P.underlying st, P.underlying xt with
      | some (.slice e), some xd =>
        match xd with
        | .int _ => appendZB P e base len cap x h
        | _ =>
          match P.info? e, lenB x with
          | some i, some n =>
            match firstB i.size n x h with
            | some new =>
              match allOne new && (notText x || Nat.beq i.size 1) with
              | false => none
              | true => match Nat.beq cap openCap with
              | false =>
                match Nat.ble (len + n) cap with
                | true => match Nat.beq n 0 with
                  | true => some (.slice base len cap, h)
                  | false => match base with
                    | some ⟨r, off, none⟩ => match getRow h r with
                      | some (e', cs) => match lay cs (off + len * i.size) new with
                        | some cs' => match h.put r (some (.cells e' cs')) with
                          | some h' => some (.slice base (len + n) cap, h')
                          | none => none
                        | none => none
                      | none => none
                    | _ => none
                | false => match firstB i.size len (.slice base len cap) h, smallB (len + n + cap) i.bytes with
                  | some old, true => growB P h e (len + n) old new
                  | _, _ => none
              | true =>
                match base with
                | some ⟨r, off, none⟩ => match getRow h r, smallB (len + n) i.bytes with
                  | some (e', cs), true => match Nat.beq e' e with
                    | true => match cut cs off (len * i.size), h.put r none with
                      | some old, some h0 => growB P h0 e (len + n) old new
                      | _, _ => none
                    | false => none
                  | _, _ => none
                | _ => none
            | none => none
          | _, _ => none
      | _, _ => none
    | _, _ => none
  | _ => none

def copyB (P : Program) (ts : Array TypeId) (args : List Value) (h : AW) : Option (Value × AW) :=
  match args with
  | [.slice base len cap, x] =>
    match ts[0]? with
    | some st =>
      match P.underlying st with
      | some (.slice e) =>
        match sizeB P e, lenB x with
        | some size, some m =>
          match firstB size (Nat.min m len) x h with
          | some new =>
            match (allOne new && (notText x || Nat.beq size 1)), Nat.beq (Nat.min m len) 0 with
            | true, true => some (goInt (Nat.min m len), h)
            | true, false => match base with
              | some ⟨r, off, none⟩ => match getRow h r with
                | some (e', cs) => match lay cs off new with
                  | some cs' => match h.put r (some (.cells e' cs')) with
                    | some h' => some (goInt (Nat.min m len), h')
                    | none => none
                  | none => none
                | none => none
              | _ => none
            | false, _ => none
          | none => none
        | _, _ => none
      | _ => none
    | none => none
  | _ => none

def lenOpB (P : Program) (ts : Array TypeId) (args : List Value) : Option Value :=
  match args, ts[0]? with
  | [x], some t =>
    match P.underlying t, x with
    | some .string, .string s => some (goInt s.data.toList.length)
    | some (.array n _), _ => some (goInt n)
    | some (.slice _), .slice _ n _ => some (goInt n)
    | _, _ => none
  | _, _ => none

def minB (less : Bool) : Value → List Value → Option Value
  | .int k x, [] => some (.int k x)
  | .int k x, .int k' y :: rest =>
    if k = k' then
      match less with
      | true => match ileB x y with | true => minB less (.int k x) rest | false => minB less (.int k y) rest
      | false => match ileB y x with | true => minB less (.int k x) rest | false => minB less (.int k y) rest
    else none
  | _, _ => none

inductive Res where
  | val (v : Value) (h : AW)
  | call (f : FuncId) (args : List Value)

def ret (v : Option Value) (h : AW) : Option Res :=
  match v with
  | some v => some (.val v h)
  | none => none
def ret2 (v : Option (Value × AW)) : Option Res :=
  match v with
  | some (v, h) => some (.val v h)
  | none => none
def retRow (v : Option (Nat × AW)) (mk : Nat → Value) : Option Res :=
  match v with
  | some (r, h) => some (.val (mk r) h)
  | none => none

def optEv (a : Slots) : Option Operand → Option (Option Value)
  | none => some none
  | some x => match aev a x with | some v => some (some v) | none => none

def ptrTo (r : Nat) : Value := .pointer (some ⟨r, 0, none⟩)

/-- Where the fields lie, and how large they are. -/
def placesB (P : Program) : List Field → Option (List (Nat × Nat))
  | [] => some []
  | f :: fs => match sizeB P f.type, placesB P fs with
    | some n, some ps => some ((f.offset, n) :: ps)
    | _, _ => none

def buildB (P : Program) (t : TypeId) (ps : List (Nat × Value)) : Option Value :=
  match P.underlying t, zerosB P t with
  | some (.struct fields), some zs =>
    match placesB P fields.toList with
    | some pl => match fillB (fun i => pl[i]?) zs ps with
      | some cs => some (.agg ⟨cs⟩)
      | none => none
    | none => none
  | some (.array _ e), some zs => match sizeB P e with
    | some n => match fillB (fun i => some (i * n, n)) zs ps with
      | some cs => some (.agg ⟨cs⟩)
      | none => none
    | none => none
  | _, _ => none

def buildSliceB (P : Program) (t : TypeId) (len : Nat) (ps : List (Nat × Value)) (h : AW) : Option Res :=
  match P.underlying t with
  | some (.slice e) => match sizeB P e, zerosB P e with
    | some n, some zs => match Nat.beq zs.length n && (Nat.ble (len * n) 1000000 && Nat.ble len 1000000), rep zs len with
      | true, some cs => match fillB (fun i => some (i * n, n)) cs ps with
        | some cs => retRow (newCells P h e cs) fun r => .slice (some ⟨r, 0, none⟩) len len
        | none => none
      | _, _ => none
    | _, _ => none
  | _ => none

def makeSliceB (P : Program) (t : TypeId) (l c : Value) (h : AW) : Option Res :=
  match P.underlying t, l, c with
  | some (.slice e), .int _ l, .int _ c =>
    match P.info? e, zerosB P e with
    | some i, some zs => match (ileB 0 l && ileB l c) && (smallB c.toNat i.bytes && (Nat.beq zs.length i.size && Nat.ble c.toNat 140737488355328)), rep zs c.toNat with
      | true, some cs => retRow (newCells P h e cs) fun r => .slice (some ⟨r, 0, none⟩) l.toNat c.toNat
      | _, _ => none
    | _, _ => none
  | _, _, _ => none

/-- Where a slice begins. -/
def dataB : List Value → Option Value
  | [.slice none _ _] => some (.pointer none)
  | [.slice (some ⟨r, off, none⟩) (_ + 1) _] => some (.pointer (some ⟨r, off, none⟩))
  | _ => none
/-- A text of bytes that lie there: the row is given up (its bytes are frozen). -/
def unsafeB (P : Program) (ts : Array TypeId) (args : List Value) (h : AW) : Option (Value × AW) :=
  match args with
  | [.pointer none, .int .i64 n] => match ts[0]?, ieqB n 0 with
    | some _, true => some (.string ⟨⟨[]⟩⟩, h)
    | _, _ => none
  | [.pointer (some ⟨r, off, none⟩), .int .i64 n] =>
    match ts[0]? with
    | some pt => match P.underlying pt, getRow h r, ileB 1 n && ileB n 9223372036854775807 with
      | some (.pointer u), some (e, cs), true => match (Nat.beq e u && isU8 P e) && u8OneB P e, cut cs off n.toNat with
        | true, some vs => match bytesOfB vs, h.put r none with
          | some bs, some h' => some (.string ⟨⟨bs⟩⟩, h')
          | _, _ => none
        | _, _ => none
      | _, _, _ => none
    | none => none
  | _ => none
/-! ### Maps whose keys are numbers or texts -/
def sameScB : Value → Value → Option Bool
  | .int k a, .int k' b => if k = k' then some (ieqB a b) else none
  | .string a, .string b => some (bytesEq a.data.toList b.data.toList)
  | _, _ => none
def sameAllB : List Value → List Value → Option Bool
  | [], [] => some true
  | x :: xs, y :: ys => match sameScB x y, sameAllB xs ys with
    | some a, some b => some (a && b)
    | _, _ => none
  | _, _ => none
def sameKeyB : Value → Value → Option Bool
  | .int k a, .int k' b => if k = k' then some (ieqB a b) else none
  | .string a, .string b => some (bytesEq a.data.toList b.data.toList)
  | .agg a, .agg b => sameAllB a.toList b.toList
  | _, _ => none
def findB (k : Value) : List MapEntry → Nat → Option (Option (Nat × Value))
  | [], _ => some none
  | e :: es, i => match sameKeyB k e.key with
    | some true => some (some (i, e.val))
    | some false => findB k es (i + 1)
    | none => none
def isScB (P : Program) (kt : TypeId) (k : Value) : Bool :=
  match P.underlying kt, k with
  | some (.int k), .int k' _ => if k' = k then true else false
  | some .string, .string _ => true
  | _, _ => false
/-- Fields of one cell each, numbers and texts. -/
def fieldsKB (P : Program) : List Field → Nat → List Value → Bool
  | [], _, [] => true
  | f :: fs, i, v :: vs => match f.name == "_", Nat.beq f.offset i, isScB P f.type v with
    | false, true, true => fieldsKB P fs (i + 1) vs
    | _, _, _ => false
  | _, _, _ => false
def isKeyB (P : Program) (kt : TypeId) (k : Value) : Bool :=
  match P.underlying kt, k with
  | some (.int k), .int k' _ => if k' = k then true else false
  | some .string, .string _ => true
  | some (.struct fs), .agg vs => match P.stoodInHeld kt with
    | true => false
    | false => fieldsKB P fs.toList 0 vs.toList
  | _, _ => false
def setE (k v : Value) : List MapEntry → Nat → List MapEntry
  | [], _ => []
  | e :: es, 0 => ⟨k, v, e.born⟩ :: es
  | e :: es, n + 1 => e :: setE k v es n
def addE (e : MapEntry) : List MapEntry → List MapEntry
  | [] => [e]
  | x :: es => x :: addE e es
/-- The value that nothing was written to. -/
def zeroVB (P : Program) (t : TypeId) : Option Value :=
  match P.info? t with
  | some i => match i.zero with
    | some z => match plain z with
      | true => some z
      | false => none
    | none => none
  | none => none
def entriesB (h : AW) : Value → Option (List MapEntry)
  | .map none => some []
  | .map (some r) => match h.get r with
    | some (.map es _) => some es
    | _ => none
  | _ => none
def okTuple (ok : Bool) (v : Value) (b : Bool) : Value := match ok with | true => .tuple #[v, .bool b] | false => v
def lookupB (P : Program) (t : TypeId) (m k : Value) (ok : Bool) (h : AW) : Option Value :=
  match P.underlying t with
  | some (.map kt et) => match isKeyB P kt k, entriesB h m with
    | true, some es => match findB k es 0 with
      | some (some (_, v)) => some (okTuple ok v true)
      | some none => match zeroVB P et with
        | some z => some (okTuple ok z false)
        | none => none
      | none => none
    | _, _ => none
  | _ => none
def mapUpdateB (P : Program) (t : TypeId) (m k v : Value) (h : AW) : Option AW :=
  match P.underlying t with
  | some (.map kt _) => match isKeyB P kt k, m with
    | true, .map (some r) => match h.get r with
      | some (.map es clock) => match findB k es 0 with
        | some (some (i, _)) => h.put r (some (.map (setE k v es i) clock))
        | some none => h.put r (some (.map (addE ⟨k, v, clock⟩ es) (clock + 1)))
        | none => none
      | _ => none
    | _, _ => none
  | _ => none
def lastN : List Nat → Option Nat
  | [] => none
  | [x] => some x
  | _ :: y :: xs => lastN (y :: xs)
def bornB (n : Nat) : List MapEntry → Option MapEntry
  | [] => none
  | e :: es => match Nat.beq e.born n with | true => some e | false => bornB n es
/-- A range over a map begins. -/
def rangeB (P : Program) (t : TypeId) (x : Value) (h : AW) : Option Res :=
  match P.underlying t, x with
  | some (.map _ _), .map (some r) => match h.get r with
    | some (.map _ clock) => retRow (h.new (.iter r clock [] clock)) ptrTo
    | _ => none
  | _, _ => none
/-- The entry that the range stands at. -/
def entryB (x : Value) (h : AW) : Option Value :=
  match x with
  | .pointer (some ⟨r, 0, none⟩) => match h.get r with
    | some (.iter m _ seen last) => match lastN seen, h.get m with
      | some n, some (.map es clock) => match Nat.beq clock last, bornB n es with
        | true, some e => some (.tuple #[e.key, e.val])
        | _, _ => none
      | _, _ => none
    | _ => none
  | _ => none
def makeMapB (P : Program) (t : TypeId) (r : Option Value) : Bool :=
  match P.underlying t, r with
  | some (.map _ _), none => true
  | some (.map _ _), some (.int _ _) => true
  | _, _ => false

def dropE : List MapEntry → Nat → List MapEntry
  | [], _ => []
  | _ :: es, 0 => es
  | e :: es, n + 1 => e :: dropE es n
/-- How many entries a map has. -/
def lenMapB (P : Program) (ts : Array TypeId) (args : List Value) (h : AW) : Option Value :=
  match args, ts[0]? with
  | [x], some t => match P.underlying t with
    | some (.map _ _) => match entriesB h x with
      | some es => some (goInt es.length)
      | none => none
    | _ => none
  | _, _ => none
/-- An entry goes, if it is there. -/
def deleteB (P : Program) (ts : Array TypeId) (args : List Value) (h : AW) : Option (Value × AW) :=
  match args, ts[0]? with
  | [m, k], some t => match P.underlying t with
    | some (.map kt _) => match isKeyB P kt k, m with
      | true, .map none => some (.tuple #[], h)
      | true, .map (some r) => match h.get r with
        | some (.map es clock) => match findB k es 0 with
          | some (some (i, _)) => match h.put r (some (.map (dropE es i) clock)) with
            | some h' => some (.tuple #[], h')
            | none => none
          | some none => match h.put r (some (.map es clock)) with
            | some h' => some (.tuple #[], h')
            | none => none
          | none => none
        | _ => none
      | _, _ => none
    | _ => none
  | _, _ => none
/-- The capacity, where it is known. -/
def capB (P : Program) (ts : Array TypeId) (args : List Value) : Option Value :=
  match args, ts[0]? with
  | [.slice _ _ c], some t => match P.underlying t, Nat.beq c openCap with
    | some (.slice _), false => some (goInt c)
    | _, _ => none
  | _, _ => none
/-- Zero values laid over a slice's elements. -/
def clearB (P : Program) (ts : Array TypeId) (args : List Value) (h : AW) : Option (Value × AW) :=
  match args, ts[0]? with
  | [.slice base n _], some t => match P.underlying t with
    | some (.slice e) => match base with
      | none => some (.tuple #[], h)
      | some ⟨r, off, none⟩ => match Nat.beq n 0 with
        | true => some (.tuple #[], h)
        | false => match getRow h r, zerosB P e, sizeB P e with
          | some (e', cs), some zs, some sz => match Nat.beq zs.length sz && Nat.ble 1 sz, rep zs n with
            | true, some new => match allOne new with
              | true => match lay cs off new with
                | some cs' => match h.put r (some (.cells e' cs')) with
                  | some h' => some (.tuple #[], h')
                  | none => none
                | none => none
              | false => none
            | _, _ => none
          | _, _, _ => none
      | _ => none
    | _ => none
  | _, _ => none
/-- What an assertion tells. -/
def assertB (P : Program) (t : TypeId) (ok : Bool) : Value → Option Value
  | .iface d v => match P.underlying t with
    | some (.interface _) => none
    | some _ => match Nat.beq d t with
      | true => match ok with
        | true => some (.tuple #[v, .bool true])
        | false => some v
      | false => match ok with
        | true => match zeroVB P t with
          | some z => some (.tuple #[z, .bool false])
          | none => none
        | false => none
    | none => none
  | .nilIface => match ok with
    | true => match P.underlying t, zeroVB P t with
      | some _, some z => some (.tuple #[z, .bool false])
      | _, _ => none
    | false => none
  | _ => none
/-- What a method of what an interface value holds is, and its receiver: that of a pointer, or of the first field that lies behind one. -/
def methB (P : Program) (t : TypeId) (x : Value) (name : String) (h : AW) : Option (FuncId × Value) :=
  match P.info? t with
  | some i => match i.methods.find? (·.name == name) with
    | some m => match m.func, m.path.toList with
      | some (f, true), [] => match P.underlying t with
        | some (.pointer _) => some (f, x)
        | _ => none
      | some (f, false), [⟨s, j, true⟩] => match P.underlying s with
        | some (.struct fields) => match fields[j]? with
          | some fd => match P.underlying fd.type, fieldAddrB P s x j with
            | some (.pointer _), _ => none
            | some _, some p => match loadB P fd.type p h with
              | some y => some (f, y)
              | none => none
            | _, _ => none
          | none => none
        | _ => none
      | _, _ => none
    | none => none
  | none => none

def callOpB (P : Program) (a : Slots) (c : Call) (args : List Value) (h : AW) : Option Res :=
  match c.callee with
  | .builtin .append => ret2 (appendB P c.argTypes args h)
  | .builtin .len => ret (match lenOpB P c.argTypes args with | some v => some v | none => lenMapB P c.argTypes args h) h
  | .builtin .min => match args with
    | v :: vs => ret (minB true v vs) h
    | [] => none
  | .builtin .max => match args with
    | v :: vs => ret (minB false v vs) h
    | [] => none
  | .builtin .copy => ret2 (copyB P c.argTypes args h)
  | .builtin .unsafeSliceData => ret (dataB args) h
  | .builtin .unsafeString => ret2 (unsafeB P c.argTypes args h)
  | .builtin .delete => ret2 (deleteB P c.argTypes args h)
  | .builtin .cap => ret (capB P c.argTypes args) h
  | .builtin .clear => ret2 (clearB P c.argTypes args h)
  | .value f => match aev a f with
    | some (.func (.func f) first captured) => match join args captured.toList with
      | some xs => match join first.toList xs with
        | some ys => some (.call f ys)
        | none => none
      | none => none
    | _ => none
  | .invoke r name => match aev a r with
    | some (.iface t x) => match methB P t x name h with
      | some (f, y) => some (.call f (y :: args))
      | none => none
    | _ => none
  | _ => none

def opB (P : Program) (a : Slots) (o : Oper) (h : AW) : Option Res :=
  match o.op with
  | .move x => ret (aev a x) h
  | .assign x => ret (aev a x) h
  | .pick c x y => match aev a c with
    | some (.bool true) => ret (aev a x) h
    | some (.bool false) => ret (aev a y) h
    | _ => none
  | .alloc e => match zerosB P e with
    | some cs => retRow (newCells P h e cs) ptrTo
    | none => none
  | .box e x => match aev a x with
    | some v => match isJ v with
      | true => none
      | false => retRow (newCells P h e v.cells.toList) ptrTo
    | none => none
  | .build t parts => match evParts a parts.toList with
    | some ps => ret (buildB P t ps) h
    | none => none
  | .buildSlice t len parts => match evParts a parts.toList with
    | some ps => buildSliceB P t len ps h
    | none => none
  | .load t x => match aev a x with
    | some v => ret (loadB P t v h) h
    | none => none
  | .store t x y => match aev a x, aev a y with
    | some p, some v => match storeB P t p v h with
      | some h' => some (.val undef h')
      | none => none
    | _, _ => none
  | .nilCheck x => match aev a x with
    | some (.pointer (some p)) => some (.val (.pointer (some p)) h)
    | _ => none
  | .binOp op t x y _ => match aev a x, aev a y with
    | some v, some u => match eqOk P op t x y v u with
      | true => ret (binB P op t v u h) h
      | false => none
    | _, _ => none
  | .unOp op _ x => match aev a x with
    | some v => ret (unB op v) h
    | none => none
  | .convert src dst x => match aev a x with
    | some v => ret2 (convB P src dst v h)
    | none => none
  | .makeInterface t x => match P.underlying t, aev a x with
    | some (.interface _), _ => none
    | some _, some v => some (.val (.iface t v) h)
    | _, _ => none
  | .makeFunc fn first captured => match plainFn fn with
    | true => match evs a first.toList, evs a captured.toList with
      | some xs, some ys => some (.val (.func fn ⟨xs⟩ ⟨ys⟩) h)
      | _, _ => none
    | false => none
  | .makeSlice t l c => match aev a l, aev a c with
    | some l, some c => makeSliceB P t l c h
    | _, _ => none
  | .slice t x lo hi mx => match aev a x, optEv a lo, optEv a hi, optEv a mx with
    | some v, some lo, some hi, some mx => ret (sliceB P t v lo hi mx h) h
    | _, _, _, _ => none
  | .fieldAddr s x f => match aev a x with
    | some v => ret (fieldAddrB P s v f) h
    | none => none
  | .field t x f => match P.underlying t, aev a x with
    | some (.struct fields), some (.agg cs) => match fields[f]? with
      | some fd => ret (partB P fd.type cs.toList fd.offset) h
      | none => none
    | _, _ => none
  | .indexAddr t x i => match aev a x, aev a i with
    | some v, some j => ret (indexAddrB P t v j) h
    | _, _ => none
  | .index t x i => match aev a x, aev a i with
    | some v, some j => ret (indexB P t v j) h
    | _, _ => none
  | .extract x i => match aev a x with
    | some (.tuple vs) => ret vs.toList[i]? h
    | _ => none
  | .call c => match evs a c.args.toList with
    | some args => callOpB P a c args h
    | none => none
  | .sliceToArrayPointer t x => match aev a x with
    | some v => ret (toArrB P t v) h
    | none => none
  | .makeMap t r => match optEv a r with
    | some hint => match makeMapB P t hint with
      | true => retRow (h.new (.map [] 0)) fun r => .map (some r)
      | false => none
    | none => none
  | .lookup t m k ok => match aev a m, aev a k with
    | some mv, some kv => ret (lookupB P t mv kv ok h) h
    | _, _ => none
  | .mapUpdate t m k x => match aev a m, aev a k, aev a x with
    | some mv, some kv, some v => match mapUpdateB P t mv kv v h with
      | some h' => some (.val undef h')
      | none => none
    | _, _, _ => none
  | .insert t m k x => match aev a m, aev a k, aev a x with
    | some mv, some kv, some v => match mapUpdateB P t mv kv v h with
      | some h' => some (.val undef h')
      | none => none
    | _, _, _ => none
  | .range t x => match aev a x with
    | some v => rangeB P t v h
    | none => none
  | .entry x => match aev a x with
    | some v => ret (entryB v h) h
    | none => none
  | .typeAssert x _ t ok => match aev a x with
    | some v => ret (assertB P t ok v) h
    | none => none
  | _ => none

def wantedB (ops : List Oper) (o : Oper) (a : Slots) : Bool :=
  match o.guard with
  | none => true
  | some (j, want) => match ops[j]? with
    | some p => match p.dst with
      | some d => match a[d]? with
        | some (.bool b) => b == want
        | _ => false
      | none => false
    | none => false

/-- Is it known whether an operation is done? -/
def sureB (ops : List Oper) (o : Oper) (a : Slots) : Bool :=
  match o.guard with
  | none => true
  | some (j, _) => match ops[j]? with
    | some p => match p.dst with
      | some d => match a[d]? with
        | some v => !isJ v
        | none => true
      | none => true
    | none => true
/-- Surely not done. -/
def skipB (ops : List Oper) (o : Oper) (a : Slots) : Bool := !wantedB ops o a && sureB ops o a

/-- The operations of a region, in a row. -/
def runOps (P : Program) (call : FuncId → List Value → AW → Option (Value × AW)) (ops : List Oper) : List Oper → Slots → AW → Option (Slots × AW)
  | [], a, h => some (a, h)
  | o :: rest, a, h =>
    match wantedB ops o a with
    | true => match opB P a o h with
      | some (.val v h') => match fv v with
        | some v => match putAt a o.dst v with
          | some a' => runOps P call ops rest a' h'
          | none => none
        | none => none
      | some (.call f args) => match call f args h with
        | some (v, h') => match putAt a o.dst v with
          | some a' => runOps P call ops rest a' h'
          | none => none
        | none => none
      | none => none
    | false => match sureB ops o a with
      | true => match putAt a o.dst undef with
        | some a' => runOps P call ops rest a' h
        | none => none
      | false => none

/-! ### Regions that draw their order: the operations that turn the rows stand in one row; all others tell the same wherever they may stand among them. -/

/-- Does an operation leave the rows alone? -/
def readOp (P : Program) : Op → Bool
  | .move _ | .assign _ | .pick _ _ _ | .build _ _ | .load _ _ | .nilCheck _ | .binOp _ _ _ _ _ | .unOp _ _ _ | .makeInterface _ _ | .makeFunc _ _ _ | .slice _ _ _ _ _ | .fieldAddr _ _ _ | .field _ _ _
  | .indexAddr _ _ _ | .index _ _ _ | .extract _ _ | .sliceToArrayPointer _ _ => true
  | .convert src dst _ => match P.underlying src, P.underlying dst with
    | some .string, some (.slice _) => false
    | _, _ => true
  | .call c => match c.callee with
    | .builtin .len => true
    | .builtin .min => true
    | .builtin .max => true
    | _ => false
  | _ => false

/-- Of each operation: which must have been done ahead of it, as bits. -/
def masksB : List Oper → List Nat → Option (List Nat)
  | [], acc => some acc
  | o :: rest, acc =>
    match go acc o.after.toList with
    | some m => match join acc [m] with
      | some acc' => masksB rest acc'
      | none => none
    | none => none
where
  go (acc : List Nat) : List Edge → Option Nat
    | [] => some 0
    | e :: es => match go acc es with
      | some m => match Region.binds .any e with
        | true => match acc[e.on]? with
          | some k => some (m ||| (2 ^ e.on ||| k))
          | none => none
        | false => some m
      | none => none

def mask (ms : List Nat) (i : Nat) : Nat := match ms[i]? with | some m => m | none => 0
def ahead (ms : List Nat) (i j : Nat) : Bool := (mask ms i).testBit j

def tmpsOf : List Operand → List Nat
  | [] => []
  | .tmp t :: xs => t :: tmpsOf xs
  | _ :: xs => tmpsOf xs

/-- The slots that an operation looks at: its operands' and its guard's. -/
def looksB (ops : List Oper) (o : Oper) : List Nat :=
  match o.guard with
  | none => tmpsOf o.op.operands.toList
  | some (g, _) => match ops[g]? with
    | some p => match p.dst with
      | some d => d :: tmpsOf o.op.operands.toList
      | none => tmpsOf o.op.operands.toList
    | none => tmpsOf o.op.operands.toList

def hasNat : List Nat → Nat → Bool
  | [], _ => false
  | x :: xs, n => match Nat.beq x n with | true => true | false => hasNat xs n

/-- Each slot that is written by one of these (from number j on) and looked at by the operation i: the one stands ahead of the other. -/
def sortedB (ms : List Nat) (ls : List Nat) (i : Nat) : List Oper → Nat → Bool
  | [], _ => true
  | p :: ps, j =>
    match (match p.dst with
      | some d => match hasNat ls d, Nat.beq j i with
        | true, false => match Nat.ble (j + 1) i with
          | true => ahead ms i j
          | false => ahead ms j i
        | _, _ => true
      | none => true) with
    | true => sortedB ms ls i ps (j + 1)
    | false => false
def allSorted (ms : List Nat) (all : List Oper) : List Oper → Nat → Bool
  | [], _ => true
  | o :: rest, i => match sortedB ms (looksB all o) i all 0 with
    | true => allSorted ms all rest (i + 1)
    | false => false
def dstsB : List Oper → List Nat
  | [] => []
  | o :: rest => match o.dst with | some d => d :: dstsB rest | none => dstsB rest
def onceB : List Nat → Bool
  | [] => true
  | x :: xs => match hasNat xs x with | true => false | false => onceB xs
def backB : List Oper → Nat → Bool
  | [], _ => true
  | o :: rest, i => match o.after.toList.all (fun e => match Region.binds .any e with | true => Nat.ble (e.on + 1) i | false => true) with
    | true => backB rest (i + 1)
    | false => false

/-- How many of these (from number j on) turn rows and are as p tells. -/
def countB (P : Program) (p : Nat → Bool) : List Oper → Nat → Nat
  | [], _ => 0
  | o :: rest, j => match readOp P o.op with
    | true => countB P p rest (j + 1)
    | false => match p j with
      | true => countB P p rest (j + 1) + 1
      | false => countB P p rest (j + 1)
/-- How many that turn rows must have been done ahead of i; how many may have been. -/
def leastOf (P : Program) (ms : List Nat) (ops : List Oper) (i : Nat) : Nat := countB P (fun j => ahead ms i j) ops 0
def mostOf (P : Program) (ms : List Nat) (ops : List Oper) (i : Nat) : Nat := countB P (fun j => !(ahead ms j i) && !(Nat.beq j i)) ops 0

def drawOk (P : Program) (ms : List Nat) (ops : List Oper) : Bool :=
  (onceB (dstsB ops) && backB ops 0) && allSorted ms ops ops 0

def sameFlat : Value → Value → Bool
  | .bool a, .bool b => a == b
  | .int j a, .int k b => (j == k) && ieqB a b
  | .string a, .string b => bytesEq a.data.toList b.data.toList
  | .pointer none, .pointer none => true
  | .pointer (some ⟨r, o, none⟩), .pointer (some ⟨r', o', none⟩) => Nat.beq r r' && Nat.beq o o'
  | .slice none a b, .slice none c d => Nat.beq a c && Nat.beq b d
  | .slice (some ⟨r, o, none⟩) a b, .slice (some ⟨r', o', none⟩) c d => (Nat.beq r r' && Nat.beq o o') && (Nat.beq a c && Nat.beq b d)
  | .map none, .map none => true
  | .map (some r), .map (some r') => Nat.beq r r'
  | .nilFunc, .nilFunc => true
  | .nilIface, .nilIface => true
  | _, _ => false
def sameAll : List Value → List Value → Bool
  | [], [] => true
  | x :: xs, y :: ys => sameFlat x y && sameAll xs ys
  | _, _ => false
def sameB : Value → Value → Bool
  | .agg a, .agg b => sameAll a.toList b.toList
  | .tuple a, .tuple b => sameAll a.toList b.toList
  | .iface t v, .iface u w => Nat.beq t u && sameFlat v w
  | .func (.func f) a b, .func (.func g) c d => Nat.beq f g && (sameAll a.toList c.toList && sameAll b.toList d.toList)
  | v, u => sameFlat v u

/-- One operation, whatever it is. -/
def stepB (P : Program) (call : FuncId → List Value → AW → Option (Value × AW)) (a : Slots) (o : Oper) (h : AW) : Option (Value × AW) :=
  match opB P a o h with
  | some (.val v h') => match fv v with
    | some v => some (v, h')
    | none => none
  | some (.call f args) => call f args h
  | none => none

/-- In the order of the text: the slots ahead of each operation and what it comes to; the rows from here on, as they are turned; the slots at the end. -/
def canon (P : Program) (call : FuncId → List Value → AW → Option (Value × AW)) (ops : List Oper) : List Oper → Slots → AW → Option (List (Slots × Value) × List AW × Slots)
  | [], a, h => some ([], [h], a)
  | o :: rest, a, h =>
    match (match wantedB ops o a with
      | true => stepB P call a o h
      | false => match sureB ops o a with
        | true => some (undef, h)
        | false => none) with
    | some (v, h') => match putAt a o.dst v with
      | some a' => match readOp P o.op with
        | true => match canon P call ops rest a' h with
          | some (tr, hs, af) => some ((a, v) :: tr, hs, af)
          | none => none
        | false => match canon P call ops rest a' h' with
          | some (tr, hs, af) => some ((a, v) :: tr, h :: hs, af)
          | none => none
      | none => none
    | none => none

/-- The same comes of it at each of these rows, from number k on. -/
def anywhere (P : Program) (a : Slots) (o : Oper) (v : Value) (lo hi : Nat) : List AW → Nat → Bool
  | [], _ => true
  | h :: hs, k =>
    match (match Nat.ble lo k && Nat.ble k hi with
      | true => match opB P a o h with
        | some (.val u _) => match fv u with
          | some u => sameB u v
          | none => false
        | _ => false
      | false => true) with
    | true => anywhere P a o v lo hi hs (k + 1)
    | false => false

/-- Wherever the operations may stand, they come to the same. -/
def agree (P : Program) (ms : List Nat) (all : List Oper) (hs : List AW) : List Oper → List (Slots × Value) → Nat → Bool
  | o :: rest, (a, v) :: tr, i =>
    match (match readOp P o.op with
      | true => match wantedB all o a with
        | true => anywhere P a o v (leastOf P ms all i) (mostOf P ms all i) hs 0
        | false => true
      | false => Nat.beq (leastOf P ms all i) (mostOf P ms all i)) with
    | true => agree P ms all hs rest tr (i + 1)
    | false => false
  | _, _, _ => true

def lastB : List AW → Option AW
  | [] => none
  | [h] => some h
  | _ :: hs => lastB hs

def drawB (P : Program) (call : FuncId → List Value → AW → Option (Value × AW)) (ops : List Oper) (a : Slots) (h : AW) : Option (Slots × AW) :=
  match masksB ops [] with
  | some ms => match drawOk P ms ops with
    | true => match canon P call ops ops a h with
      | some (tr, hs, af) => match agree P ms ops hs ops tr 0, lastB hs with
        | true, some h' => some (af, h')
        | _, _ => none
      | none => none
    | false => none
  | none => none

inductive AExit where
  | normal
  | exit (id : Nat)
  | ret

/-- Rounds of a loop. -/
def rounds (body : Slots → AW → Option (AExit × Slots × AW)) : Nat → Slots → AW → Option (AExit × Slots × AW)
  | 0, _, _ => none
  | n + 1, a, h =>
    match body a h with
    | some (.normal, a', h') => rounds body n a' h'
    | r => r

def code (P : Program) (call : FuncId → List Value → AW → Option (Value × AW)) (fuel : Nat) : Code → Slots → AW → Option (AExit × Slots × AW)
  | .skip, a, h => some (.normal, a, h)
  | .region id ops draw, a, h =>
    match draw with
    | true => match drawB P call ops.toList a h with
      | some (a', h') => some (.normal, a', h')
      | none => none
    | false => match runOps P call ops.toList ops.toList a h with
      | some (a', h') => some (.normal, a', h')
      | none => none
  | .seq x y, a, h =>
    match code P call fuel x a h with
    | some (.normal, a', h') => code P call fuel y a' h'
    | r => r
  | .cond c x y, a, h =>
    match aev a c with
    | some (.bool true) => code P call fuel x a h
    | some (.bool false) => code P call fuel y a h
    | _ => none
  | .block id x, a, h =>
    match code P call fuel x a h with
    | some (.exit id', a', h') => match Nat.beq id' id with
      | true => some (.normal, a', h')
      | false => some (.exit id', a', h')
    | r => r
  | .loop x, a, h => rounds (code P call fuel x) fuel a h
  | .exit id, a, h => some (.exit id, a, h)
  | .ret, a, h => some (.ret, a, h)
  | _, _, _ => none

def resultsB (P : Program) (a : Slots) (h : AW) : List ResultVar → Option (List Value)
  | [] => some []
  | .tmp t :: rest => match a[t]?, resultsB P a h rest with
    | some v, some vs => some (v :: vs)
    | _, _ => none
  | .cell x t :: rest => match a[x]? with
    | some p => match loadB P t p h, resultsB P a h rest with
      | some v, some vs => some (v :: vs)
      | _, _ => none
    | none => none

def tupleB : List Value → Value
  | [v] => v
  | vs => .tuple ⟨vs⟩

def undefs : Nat → List Value
  | 0 => []
  | n + 1 => undef :: undefs n

/-- How a call may be known otherwise than by its text. -/
abbrev Known := FuncId → List Value → AW → Option (Value × AW)
def nothing : Known := fun _ _ _ => none

def callB (P : Program) (known : Known) (fuel : Nat) : Nat → FuncId → List Value → AW → Option (Value × AW)
  | 0, _, _, _ => none
  | n + 1, f, args, h =>
    match P.funcs[f]? with
    | none => none
    | some fn => match fn.body with
      | none => none
      | some c => match known f args h with
        | some r => some r
        | none =>
          match join args (undefs (fn.ntmps - args.length)) with
          | some a => match code P (callB P known fuel n) fuel c a h with
            | some (.exit _, _, _) => none
            | some (_, a, h') => match resultsB P a h' fn.results.toList with
              | some vs => some (tupleB vs, h')
              | none => none
            | none => none
          | none => none

def answersTrue (P : Program) (known : Known) (fuel depth : Nat) (f : FuncId) : Bool :=
  match callB P known fuel depth f [] AW.empty with
  | some (.bool b, _) => b
  | _ => false
end
end Go.Am
