/- What the proofs lean on, part 1. -/
import Derived.Calls
import Derived.Laws.Entries
import Derived.Laws.CopyRow
import Derived.Laws.BitsLemmas
import Derived.Laws.StructEq
import Derived.MapKept
import Derived.Below
import Derived.Orders
import Derived.Laws.Externs
import Derived.RangeFuncRecord
import Derived.OrdersIn
import Derived.Maps.RangeRun
set_option linter.all false
set_option maxRecDepth 20000
set_option maxHeartbeats 1000000
section
namespace Go.Am
inductive Tr(α:Type) where
 | nil
 | node (l:Tr α) (v:Option α) (r:Tr α)
def Tr.get{α:Type}:Tr α->Nat->Option α
 | .nil,_=>none
 | .node l v r,n =>
  match Nat.beq n 0 with
  | true=>v
  | false=>match Nat.beq (n%2) 1 with
   | true=>l.get (n/2)
   | false=>r.get (n/2-1)
def Tr.set{α:Type}:Nat->Tr α->Nat->Option α->Option (Tr α)
 | 0,_,_,_=>none
 | f+1,t,n,x =>
  match t with
  | .nil =>
   match Nat.beq n 0 with
   | true=>some (.node .nil x .nil)
   | false=>match Nat.beq (n%2) 1 with
    | true=>match Tr.set f .nil (n/2) x with
     | some l=>some (.node l none .nil)
     | none=>none
    | false=>match Tr.set f .nil (n/2-1) x with
     | some r=>some (.node .nil none r)
     | none=>none
  | .node l v r =>
   match Nat.beq n 0 with
   | true=>some (.node l x r)
   | false=>match Nat.beq (n%2) 1 with
    | true=>match Tr.set f l (n/2) x with
     | some l=>some (.node l v r)
     | none=>none
    | false=>match Tr.set f r (n/2-1) x with
     | some r=>some (.node l v r)
     | none=>none
structure LP where
 state:LoopState
 pending:Option Code
 slots:List Value
 params:List Nat
 assign:Code
 body:Code
inductive aG where
 | cells (elem:TypeId) (cs:List Value)
 | map (es:List MapEntry) (clock:Nat)
 | text (s:ByteArray) (pos:Nat)
 | ro (cs:List Value)
 | iter (m:Nat) (since:Nat) (seen:List Nat) (last:Nat)
 | loop (p:LP)
def BW:Fn->Bool
 | .yield _=>false
 | _=>true
def aG.own:aG->Bool
 | .ro _=>false
 | _=>true
structure AW where
 rows:Tr aG
 next:Nat
 step:Nat
def fn:Nat->Option Nat
 | 0=>some 0
 | n+1=>some (n+1)
def fi:Int->Option Int
 | .ofNat n=>match fn n with
  | some m=>some (.ofNat m)
  | none=>none
 | .negSucc n=>match fn n with
  | some m=>some (.negSucc m)
  | none=>none
def fa:Addr->Option Addr
 | ⟨b,o,none⟩=>match fn b,fn o with
  | some b,some o=>some ⟨b,o,none⟩
  | _,_=>none
 | _=>none
def fv:Value->Option Value
 | .bool b=>match b with
  | true=>some (.bool true)
  | false=>some (.bool false)
 | .int k n=>match fi n with
  | some m=>some (.int k m)
  | none=>none
 | .pointer (some a)=>match fa a with
  | some b=>some (.pointer (some b))
  | none=>none
 | .slice a l c=>match fn l,fn c with
  | some l,some c=>match a with
   | none=>some (.slice none l c)
   | some a=>match fa a with
    | some b=>some (.slice (some b) l c)
    | none=>none
  | _,_=>none
 | v=>some v
def AW.empty:AW:=⟨.nil,0,1⟩
def AW.get(h:AW)(r:Nat):Option aG:=h.rows.get r
def AW.put(h:AW)(r:Nat)(x:Option aG):Option AW :=
 match h.rows.set (r+1) r x with
 | some t=>some ⟨t,h.next,h.step⟩
 | none=>none
def AW.new(h:AW)(x:aG):Option (Nat×AW) :=
 match h.rows.set (h.next+1) h.next (some x),fn (h.next+h.step) with
 | some t,some n=>some (h.next,⟨t,n,h.step⟩)
 | _,_=>none
def ae:Nat:=18446744073709551616
def lx:Value->Bool
 | .bool _|.int _ _|.string _|.pointer none|.map none|.nilFunc|.nilIface=>true
 | .slice none n c=>Nat.beq n 0&&Nat.beq c 0
 | _=>false
def gf:List Value->Bool
 | []=>true
 | v::vs=>match lx v with|true=>gf vs|false=>false
def plain:Value->Bool
 | .agg cs=>gf cs.toList
 | .tuple cs=>gf cs.toList
 | .iface _ v=>lx v
 | v=>lx v
abbrev ah:=List Value
def aX(a:ah):Operand->Option Value
 | .tmp t=>a[t]?
 | .const v=>match plain v with|true=>some v|false=>none
 | .global _=>none
 | .func f=>some (.func (.func f) #[] #[])
def kE:ah->Nat->Value->Option ah
 | [],_,_=>none
 | _::xs,0,v=>some (v::xs)
 | x::xs,n+1,v=>match kE xs n v with
  | some ys=>some (x::ys)
  | none=>none
def aH(a:ah)(d:Option Tmp)(v:Value):Option ah :=
 match d with
 | some d=>kE a d v
 | none=>some a
def bm(h:AW)(r:Nat):Option (TypeId×List Value) :=
 match h.get r with
 | some (.cells e cs)=>some (e,cs)
 | _=>none
def ge(h:AW)(r:Nat):Option (List Value) :=
 match h.get r with
 | some (.cells _ cs)=>some cs
 | some (.ro cs)=>some cs
 | _=>none
def mn:List Value->Nat->Option (List Value)
 | _,0=>some []
 | [],_+1=>none
 | x::xs,n+1=>match mn xs n with
  | some ys=>some (x::ys)
  | none=>none
def cut:List Value->Nat->Nat->Option (List Value)
 | xs,0,n=>mn xs n
 | [],_+1,_=>none
 | _::xs,off+1,n=>cut xs off n
def wn:List Value->List Value->Option (List Value)
 | xs,[]=>some xs
 | [],_::_=>none
 | _::xs,v::vs=>match wn xs vs with
  | some ys=>some (v::ys)
  | none=>none
def kO:List Value->Nat->List Value->Option (List Value)
 | xs,0,vs=>wn xs vs
 | [],_+1,_=>none
 | x::xs,off+1,vs=>match kO xs off vs with
  | some ys=>some (x::ys)
  | none=>none
def join{α:Type}:List α->List α->Option (List α)
 | [],ys=>some ys
 | x::xs,ys=>match join xs ys with
  | some zs=>some (x::zs)
  | none=>none
def rM:Value->Bool
 | .chan _=>false
 | .agg _=>false
 | .tuple _=>false
 | _=>true
def tL:Value->Bool
 | .chan _=>true
 | _=>false
def aM:List Value->Bool
 | []=>true
 | v::vs=>match rM v with|true=>aM vs|false=>false
def py(P:Program)(t:TypeId):Option Bool :=
 match P.underlying t with
 | some (.struct _)=>some true
 | some (.array _ _)=>some true
 | some _=>some false
 | none=>none
def aB(P:Program)(t:TypeId):Option Nat :=
 match P.info? t with
 | some i=>some i.size
 | none=>none
def cf(P:Program)(h:AW)(e:TypeId)(cs:List Value):Option (Nat×AW) :=
 match aB P e with
 | some _=>h.new (.cells e cs)
 | none=>none
def bM(P:Program)(t:TypeId)(cs:List Value)(off:Nat):Option Value :=
 match py P t with
 | some true=>match aB P t with
  | some n=>match cut cs off n with
   | some vs=>some (.agg ⟨vs⟩)
   | none=>none
  | none=>none
 | some false=>cs[off]?
 | none=>none
def ky(a:ah):List Operand->Option (List Value)
 | []=>some []
 | x::xs=>match aX a x with
  | some v=>match ky a xs with
   | some vs=>some (v::vs)
   | none=>none
  | none=>none
def ew(a:ah):List (Nat×Operand)->Option (List (Nat×Value))
 | []=>some []
 | (i,x)::xs=>match aX a x with
  | some v=>match ew a xs with
   | some vs=>some ((i,v)::vs)
   | none=>none
  | none=>none
def sT(place:Nat->Option (Nat×Nat))(cells:List Value):List (Nat×Value)->Option (List Value)
 | []=>some cells
 | (i,v)::rest =>
  match place i with
  | none=>none
  | some (off,size) =>
   match Nat.beq v.cells.toList.length size&&!tL v with
   | true=>match kO cells off v.cells.toList with
    | some cs=>sT place cs rest
    | none=>none
   | false=>none
def dU(P:Program)(t:TypeId):Option (List Value) :=
 match P.info? t with
 | some i=>match i.zero with
  | some z=>match gf z.cells.toList with
   | true=>some z.cells.toList
   | false=>none
  | none=>none
 | none=>none
def rep(zs:List Value):Nat->Option (List Value)
 | 0=>some []
 | n+1=>match rep zs n with
  | some ys=>join zs ys
  | none=>none
def av:Int->Int->Bool
 | .ofNat a,.ofNat b=>Nat.ble a b
 | .negSucc _,.ofNat _=>true
 | .ofNat _,.negSucc _=>false
 | .negSucc a,.negSucc b=>Nat.ble b a
def bc:Int->Int->Bool
 | .ofNat a,.ofNat b=>Nat.beq a b
 | .negSucc a,.negSucc b=>Nat.beq a b
 | _,_=>false
def po:IntKind->Int
 | .i8=>-128|.i16=>-32768|.i32=>-2147483648|.i64=>-9223372036854775808|_=>0
def gN:IntKind->Int
 | .i8=>127|.i16=>32767|.i32=>2147483647|.i64=>9223372036854775807
 | .u8=>255|.u16=>65535|.u32=>4294967295|.u64=>18446744073709551615
def eG(k:IntKind)(n:Int):Int :=
 match av (po k) n&&av n (gN k) with
 | true=>n
 | false=>k.wrap n
def eK(k:IntKind)(n:Int):Nat :=
 match av 0 n&&av n (gN k) with
 | true=>n.toNat
 | false=>(BitVec.ofInt k.bits n).toNat
def cB:List UInt8->List UInt8->Bool
 | [],[]=>true
 | a::x,b::y=>match Nat.beq a.toNat b.toNat with
  | true=>cB x y
  | false=>false
 | _,_=>false
def aq:List UInt8->List UInt8->Bool
 | _,[]=>false
 | [],_::_=>true
 | a::x,b::y=>match Nat.beq a.toNat b.toNat with
  | true=>aq x y
  | false=>Nat.ble (a.toNat+1) b.toNat
def eqFields(P:Program)(cmp:TypeId->Value->Value->Option Bool)(xs ys:List Value):List Field->Option Bool
 | []=>some true
 | f::fs =>
  if f.name≠ "_" then
   match bM P f.type xs f.offset,bM P f.type ys f.offset with
   | some a,some b=>match cmp f.type a b with
    | some true=>eqFields P cmp xs ys fs
    | r=>r
   | _,_=>none
  else eqFields P cmp xs ys fs
def zS(P:Program):Nat->TypeId->Value->Value->Option Bool
 | 0,_,_,_=>none
 | d+1,t,x,y =>
  match P.underlying t,x,y with
  | some .bool,.bool a,.bool b=>some (a==b)
  | some (.int _),.int k a,.int k' b=>if k=k' then some (bc a b) else none
  | some .string,.string a,.string b=>some (cB a.data.toList b.data.toList)
  | some (.pointer _),.pointer none,.pointer b=>some b.isNone
  | some (.pointer _),.pointer (some _),.pointer none=>some false
  | some (.interface _),.nilIface,.nilIface=>some true
  | some (.interface _),.nilIface,.iface _ _=>some false
  | some (.interface _),.iface _ _,.nilIface=>some false
  | some (.interface _),.iface tx vx,.iface ty vy =>
   match Nat.beq tx ty with
   | false=>some false
   | true=>match P.info? tx with
    | some i=>match i.comparable with
     | true=>zS P d tx vx vy
     | false=>none
    | none=>none
  | some (.struct fields),.agg xs,.agg ys =>
   match P.stoodInHeld t with
   | true=>none
   | false=>eqFields P (zS P d) xs.toList ys.toList fields.toList
  | some (.slice _),.slice none _ _,.slice b _ _=>some b.isNone
  | some (.slice _),.slice (some _) _ _,.slice none _ _=>some false
  | some (.map _ _),.map none,.map b=>some b.isNone
  | some (.map _ _),.map (some _),.map none=>some false
  | some (.func _ _ _),.nilFunc,.nilFunc=>some true
  | some (.func _ _ _),.nilFunc,.func _ _ _=>some false
  | some (.func _ _ _),.func _ _ _,.nilFunc=>some false
  | some (.pointer el),.pointer (some ⟨r,i,none⟩),.pointer (some ⟨r',i',none⟩) =>
   match Nat.beq r r'&&Nat.beq i i',aB P el with
   | true,some _=>some true
   | _,_=>none
  | _,_,_=>none
def jo(P:Program)(e:TypeId):Bool:=match P.underlying e with|some (.int .u8)=>true|_=>false
def xB(P:Program)(t:TypeId)(x y:Value)(h:AW):Bool :=
 match P.underlying t,x,y with
 | some (.pointer el),.pointer (some ⟨r,_,none⟩),.pointer (some ⟨r',_,none⟩) =>
  match bm h r,bm h r',aB P el with
  | some (e,_),some (e',_),some (_+1)=>!Nat.beq r r'&&(!jo P e&&!jo P e')
  | _,_,_=>false
 | _,_,_=>false
def iH(P:Program)(op:BinOp)(t:TypeId)(x y:Value)(h:AW):Option Value :=
 match op,x,y with
 | .shl,.int k a,.int _ b=>match av 0 b with
  | true=>some (.int k (eG k (a*((2^(min b.toNat k.bits):Nat):Int))))
  | false=>none
 | .shr,.int k a,.int _ b=>match av 0 b with
  | true=>some (.int k (a.fdiv ((2^(min b.toNat k.bits):Nat):Int)))
  | false=>none
 | op,.int k a,.int k' b =>
  if k=k' then
   match op with
   | .add=>some (.int k (eG k (a+b)))
   | .sub=>some (.int k (eG k (a-b)))
   | .mul=>some (.int k (eG k (a*b)))
   | .quo=>match bc b 0 with|true=>none|false=>some (.int k (eG k (a.tdiv b)))
   | .rem=>match bc b 0 with|true=>none|false=>some (.int k (a.tmod b))
   | .and=>some (.int k (eG k ((eK k a &&& eK k b:Nat):Int)))
   | .or=>some (.int k (eG k ((eK k a ||| eK k b:Nat):Int)))
   | .xor=>some (.int k (eG k ((eK k a ^^^ eK k b:Nat):Int)))
   | .eql=>some (.bool (bc a b))
   | .neq=>some (.bool (!bc a b))
   | .lss=>some (.bool (!av b a))
   | .leq=>some (.bool (av a b))
   | .gtr=>some (.bool (!av a b))
   | .geq=>some (.bool (av b a))
   | _=>none
  else none
 | op,.string a,.string b =>
  let xs:=a.data.toList
  let ys:=b.data.toList
  match op with
  | .add=>match Nat.ble (xs.length+ys.length) 9223372036854775807,join xs ys with
   | true,some zs=>some (.string ⟨⟨zs⟩⟩)
   | _,_=>none
  | .eql=>some (.bool (cB xs ys))
  | .neq=>some (.bool (!cB xs ys))
  | .lss=>some (.bool (aq xs ys))
  | .leq=>some (.bool (aq xs ys||cB xs ys))
  | .gtr=>some (.bool (!(aq xs ys||cB xs ys)))
  | .geq=>some (.bool (!aq xs ys))
  | _=>none
 | .eql,x,y=>match zS P 100 t x y with
  | some b=>some (.bool b)
  | none=>match xB P t x y h with
   | true=>some (.bool false)
   | false=>none
 | .neq,x,y=>match zS P 100 t x y with
  | some b=>some (.bool (!b))
  | none=>match xB P t x y h with
   | true=>some (.bool true)
   | false=>none
 | _,_,_=>none
def fN(P:Program)(op:BinOp)(t:TypeId)(x y:Operand)(a b:Value):Bool :=
 match op with
 | .eql|.neq =>
  match a,b with
  | .nilIface,.nilIface=>match x,y with
   | .const _,_=>true
   | _,.const _=>true
   | _,_=>false
  | .agg _,.agg _=>!(P.eqGuardType P.depth t)
  | .chan _,_=>false
  | _,.chan _=>false
  | _,_=>true
 | _=>true
def Lu(op:UnOp)(x:Value):Option Value :=
 match op,x with
 | .not,.bool b=>some (.bool !b)
 | .neg,.int k n=>some (.int k (eG k (0-n)))
 | .xor,.int k n=>some (.int k (eG k ((eK k (if k.signed then -1 else k.max) ^^^ eK k n:Nat):Int)))
 | _,_=>none
def eJ:List Value->Option (List UInt8)
 | []=>some []
 | .int .u8 n::vs=>match eJ vs with
  | some bs=>some (UInt8.ofNat n.toNat::bs)
  | none=>none
 | _::_=>none
def gx:List UInt8->Option (List Value)
 | []=>some []
 | b::bs=>match gx bs with
  | some vs=>some (.int .u8 b.toNat::vs)
  | none=>none
def oR(P:Program)(e:TypeId):Bool:=match aB P e with|some n=>Nat.beq n 1|none=>false
def KR(P:Program)(e:TypeId)(t:TypeId):Bool :=
 match P.underlying t with
 | some (.pointer u)=>Nat.beq u e
 | _=>false
def uf(P:Program)(e:TypeId):Bool :=
 match P.underlying e with
 | some (.struct fs)=>match fs[0]? with
  | some f=>!KR P e f.type
  | none=>true
 | _=>true
def mB(P:Program)(src dst:TypeId)(x:Value)(h:AW):Option (Value×AW) :=
 match P.underlying src,P.underlying dst,x with
 | some (.int _),some (.int k),.int _ n=>some (.int k (eG k n),h)
 | some .string,some .string,.string s=>some (.string s,h)
 | some .string,some (.slice e),.string s =>
  match (jo P e&&oR P e)&&Nat.ble s.data.toList.length 9223372036854775807,gx s.data.toList with
  | true,some vs=>match cf P h e vs with
   | some (r,h')=>some (.slice (some ⟨r,0,none⟩) s.data.toList.length ae,h')
   | none=>none
  | _,_=>none
 | some (.slice _),some (.slice e),.slice (some ⟨r,off,none⟩) len cap =>
  match (Nat.beq src dst&&jo P e)&&Nat.ble 1 len,bm h r with
  | true,some (e',_)=>match jo P e' with
   | true=>some (.slice (some ⟨r,off,none⟩) len cap,h)
   | false=>none
  | _,_=>none
 | some (.slice e),some .string,.slice none _ _=>match jo P e with
  | true=>some (.string ⟨⟨[]⟩⟩,h)
  | false=>none
 | some (.slice e),some .string,.slice (some ⟨r,off,none⟩) len _ =>
  match jo P e,Nat.beq len 0 with
  | true,true=>some (.string ⟨⟨[]⟩⟩,h)
  | true,false=>match ge h r with
   | some cs=>match cut cs off len with
    | some vs=>match eJ vs with
     | some bs=>some (.string ⟨⟨bs⟩⟩,h)
     | none=>none
    | none=>none
   | none=>none
  | false,_=>none
 | some (.pointer t),some .unsafePointer,.pointer (some ⟨r,off,none⟩) =>
  match aB P t,bm h r with
  | some (_+1),some (_,cs)=>match Nat.ble (off+1) cs.length with
   | true=>some (.pointer (some ⟨r,off,none⟩),h)
   | false=>none
  | _,_=>none
 | some .unsafePointer,some (.pointer u),.pointer (some ⟨r,off,none⟩) =>
  match bm h r,aB P u with
  | some (e,cs),some (n+1)=>match ((Nat.beq e u&&Nat.beq off 0)&&!uf P e)&&Nat.ble (n+1) cs.length with
   | true=>some (.pointer (some ⟨r,off,none⟩),h)
   | false=>none
  | _,_=>none
 | _,_,_=>none
def aU(x:Option Value)(d:Nat):Option Nat :=
 match x with
 | none=>some d
 | some (.int _ n)=>match av 0 n with|true=>some n.toNat|false=>none
 | some _=>none
def kR:List UInt8->Nat->Option (List UInt8)
 | _,0=>some []
 | [],_+1=>none
 | x::xs,n+1=>match kR xs n with
  | some ys=>some (x::ys)
  | none=>none
def wZ:List UInt8->Nat->Nat->Option (List UInt8)
 | xs,0,n=>kR xs n
 | [],_+1,_=>none
 | _::xs,off+1,n=>wZ xs off n
def dT(len cap:Nat):Nat:=match Nat.beq cap ae with|true=>len|false=>cap
def dZ(a:Option Addr)(n:Nat):Option Addr :=
 match a with
 | none=>none
 | some ⟨r,off,s⟩=>some ⟨r,off+n,s⟩
def cx(h:AW)(e:TypeId)(a:Option Addr)(cap:Nat):Bool :=
 match Nat.beq cap ae with
 | false=>Nat.ble cap ae
 | true=>match a with
  | some ⟨r,_,none⟩=>match bm h r with
   | some (e',_)=>Nat.beq e' e
   | none=>false
  | _=>false
def cM(P:Program)(t:TypeId)(x:Value)(lo hi mx:Option Value)(h:AW):Option Value :=
 match P.underlying t,x with
 | some .string,.string s =>
  match mx with
  | some _=>none
  | none =>
   match aU hi s.data.toList.length,aU lo 0 with
   | some u,some l=>match Nat.ble u s.data.toList.length&&Nat.ble l u with
    | true=>match wZ s.data.toList l (u-l) with
     | some bs=>some (.string ⟨⟨bs⟩⟩)
     | none=>none
    | false=>none
   | _,_=>none
 | some (.slice e),.slice a len cap =>
  match aU hi len,aU lo 0,aB P e with
  | some u,some l,some size =>
   match mx with
   | none =>
    match (Nat.ble u (dT len cap)&&Nat.ble l u)&&cx h e a cap with
    | true=>some (.slice (dZ a (l*size)) (u-l) (match Nat.beq cap ae with|true=>ae|false=>cap-l))
    | false=>none
   | some m =>
    match aU (some m) 0 with
    | some m=>match (Nat.ble m (dT len cap)&&Nat.ble u m)&&(Nat.ble l u&&(hi.isSome&&Nat.ble m 1000000000000)) with
     | true=>some (.slice (dZ a (l*size)) (u-l) (m-l))
     | false=>none
    | none=>none
  | _,_,_=>none
 | some (.array n e),.pointer (some ⟨r,off,none⟩) =>
  match mx with
  | some _=>none
  | none =>
   match aU hi n,aU lo 0,aB P e with
   | some u,some l,some size=>match (Nat.ble u n&&Nat.ble l u)&&Nat.ble n 1000000000000 with
    | true=>some (.slice (some ⟨r,off+l*size,none⟩) (u-l) (n-l))
    | false=>none
   | _,_,_=>none
 | _,_=>none
def Ab(P:Program)(t:TypeId)(x:Value):Option Value :=
 match P.underlying t,x with
 | some (.array n _),.slice (some ⟨r,off,none⟩) len _=>match Nat.ble 1 n&&Nat.ble n len with
  | true=>some (.pointer (some ⟨r,off,none⟩))
  | false=>none
 | _,_=>none
def mW(P:Program)(s:TypeId)(x:Value)(f:Nat):Option Value :=
 match P.underlying s,x with
 | some (.struct fields),.pointer (some ⟨r,off,none⟩) =>
  match fields[f]? with
  | some fd=>match aB P fd.type with
   | some n=>match Nat.beq n 0 with
    | true=>none
    | false=>some (.pointer (some ⟨r,off+fd.offset,none⟩))
   | none=>none
  | none=>none
 | _,_=>none
def F0(i:Int)(len:Nat):Bool:=av 0 i&&Nat.ble (i.toNat+1) len
def kg(P:Program)(t:TypeId)(x ix:Value):Option Value :=
 match P.underlying t,x,ix with
 | some (.slice e),.slice (some ⟨r,off,none⟩) len _,.int _ i =>
  match F0 i len,aB P e with
  | true,some n=>some (.pointer (some ⟨r,off+i.toNat*n,none⟩))
  | _,_=>none
 | some (.array len e),.pointer (some ⟨r,off,none⟩),.int _ i =>
  match F0 i len,aB P e with
  | true,some n=>some (.pointer (some ⟨r,off+i.toNat*n,none⟩))
  | _,_=>none
 | _,_,_=>none
def wH(P:Program)(t:TypeId)(x ix:Value):Option Value :=
 match P.underlying t,x,ix with
 | some (.array len e),.agg cs,.int _ i =>
  match F0 i len,aB P e with
  | true,some n=>bM P e cs.toList (i.toNat*n)
  | _,_=>none
 | some .string,.string s,.int _ i =>
  match av 0 i with
  | true=>match s.data.toList[i.toNat]? with
   | some b=>some (.int .u8 b.toNat)
   | none=>none
  | false=>none
 | _,_,_=>none
def mw(P:Program)(t:TypeId)(x:Value)(h:AW):Option Value :=
 match x with
 | .pointer (some ⟨r,off,none⟩)=>match ge h r with
  | some cs=>bM P t cs off
  | none=>none
 | _=>none
def vK(P:Program)(t:TypeId)(x v:Value)(h:AW):Option AW :=
 match x with
 | .pointer (some ⟨r,off,none⟩)=>match bm h r,aB P t with
  | some (e,cs),some n=>match Nat.beq v.cells.toList.length n&&aM v.cells.toList with
   | true=>match kO cs off v.cells.toList with
    | some cs'=>h.put r (some (.cells e cs'))
    | none=>none
   | false=>none
  | _,_=>none
 | _=>none
def ny(s:List UInt8)(n:Nat):Option (List UInt8) :=
 match Nat.beq n s.length with
 | true=>some s
 | false=>kR s n
def b6(size n:Nat)(x:Value)(h:AW):Option (List Value) :=
 match x with
 | .slice none _ _=>match Nat.beq n 0 with|true=>some []|false=>none
 | .slice (some ⟨r,off,none⟩) _ _=>match Nat.beq n 0 with
  | true=>some []
  | false=>match ge h r with
   | some cs=>cut cs off (n*size)
   | none=>none
 | .string s=>match ny s.data.toList n with
  | some bs=>gx bs
  | none=>none
 | _=>none
def lenB:Value->Option Nat
 | .slice _ n _=>some n
 | .string s=>some s.data.toList.length
 | _=>none
def dN(n bytes:Nat):Bool:=Nat.ble (n*bytes) 1000000000000
def gg(P:Program)(e:TypeId):Bool :=
 match dU P e,aB P e with
 | some zs,some n=>Nat.beq zs.length n&&uf P e
 | _,_=>false
def gQ(P:Program)(h:AW)(e:TypeId)(n:Nat)(old new:List Value):Option (Value×AW) :=
 match join old new,gg P e&&Nat.ble n 1000000000000 with
 | some cs,true=>match cf P h e cs with
  | some (r,h')=>some (.slice (some ⟨r,0,none⟩) n ae,h')
  | none=>none
 | _,_=>none
def notText:Value->Bool
 | .string _=>false
 | _=>true
def oF(P:Program)(e:TypeId)(base:Option Addr)(len cap:Nat)(x:Value)(h:AW):Option (Value×AW) :=
 match x,P.info? e,dU P e with
 | .int .i64 z,some i,some zs =>
  match (av 0 z&&av z 1000000000000)&&(dN z.toNat i.bytes&&Nat.beq zs.length i.size),rep zs z.toNat with
  | true,some new =>
   match aM new with
   | false=>none
   | true=>match Nat.beq cap ae with
    | false=>match Nat.ble (len+z.toNat) cap with
     | true=>none
     | false=>match b6 i.size len (.slice base len cap) h,dN (len+z.toNat+cap) i.bytes with
      | some old,true=>gQ P h e (len+z.toNat) old new
      | _,_=>none
    | true=>match base with
     | some ⟨r,off,none⟩=>match bm h r,dN (len+z.toNat) i.bytes with
      | some (e',cs),true=>match Nat.beq e' e with
       | true=>match cut cs off (len*i.size),h.put r none with
        | some old,some h0=>gQ P h0 e (len+z.toNat) old new
        | _,_=>none
       | false=>none
      | _,_=>none
     | _=>none
  | _,_=>none
 | _,_,_=>none
def fM(P:Program)(ts:Array TypeId)(args:List Value)(h:AW):Option (Value×AW) :=
 match args with
 | [.slice base len cap,x] =>
  match ts[0]?,ts[1]? with
  | some st,some xt =>
   match P.underlying st,P.underlying xt with
   | some (.slice e),some xd =>
    match xd with
    | .int _=>oF P e base len cap x h
    | _ =>
     match P.info? e,lenB x with
     | some i,some n =>
      match b6 i.size n x h with
      | some new =>
       match aM new&&(notText x||Nat.beq i.size 1) with
       | false=>none
       | true=>match Nat.beq cap ae with
       | false =>
        match Nat.ble (len+n) cap with
        | true=>match Nat.beq n 0 with
         | true=>some (.slice base len cap,h)
         | false=>match base with
          | some ⟨r,off,none⟩=>match bm h r with
           | some (e',cs)=>match kO cs (off+len*i.size) new with
            | some cs'=>match h.put r (some (.cells e' cs')) with
             | some h'=>some (.slice base (len+n) cap,h')
             | none=>none
            | none=>none
           | none=>none
          | _=>none
        | false=>match b6 i.size len (.slice base len cap) h,dN (len+n+cap) i.bytes with
         | some old,true=>gQ P h e (len+n) old new
         | _,_=>none
       | true =>
        match base with
        | some ⟨r,off,none⟩=>match bm h r,dN (len+n) i.bytes with
         | some (e',cs),true=>match Nat.beq e' e with
          | true=>match cut cs off (len*i.size),h.put r none with
           | some old,some h0=>gQ P h0 e (len+n) old new
           | _,_=>none
          | false=>none
         | _,_=>none
        | _=>none
      | none=>none
     | _,_=>none
   | _,_=>none
  | _,_=>none
 | _=>none
def th(P:Program)(ts:Array TypeId)(args:List Value)(h:AW):Option (Value×AW) :=
 match args with
 | [.slice base len cap,x] =>
  match ts[0]? with
  | some st =>
   match P.underlying st with
   | some (.slice e) =>
    match aB P e,lenB x with
    | some size,some m =>
     match b6 size (Nat.min m len) x h with
     | some new =>
      match (aM new&&(notText x||Nat.beq size 1)),Nat.beq (Nat.min m len) 0 with
      | true,true=>some (goInt (Nat.min m len),h)
      | true,false=>match base with
       | some ⟨r,off,none⟩=>match bm h r with
        | some (e',cs)=>match kO cs off new with
         | some cs'=>match h.put r (some (.cells e' cs')) with
          | some h'=>some (goInt (Nat.min m len),h')
          | none=>none
         | none=>none
        | none=>none
       | _=>none
      | false,_=>none
     | none=>none
    | _,_=>none
   | _=>none
  | none=>none
 | _=>none
def sc(P:Program)(ts:Array TypeId)(args:List Value):Option Value :=
 match args,ts[0]? with
 | [x],some t =>
  match P.underlying t,x with
  | some .string,.string s=>some (goInt s.data.toList.length)
  | some (.array n _),_=>some (goInt n)
  | some (.slice _),.slice _ n _=>some (goInt n)
  | _,_=>none
 | _,_=>none
def iO(less:Bool):Value->List Value->Option Value
 | .int k x,[]=>some (.int k x)
 | .int k x,.int k' y::rest =>
  if k=k' then
   match less with
   | true=>match av x y with|true=>iO less (.int k x) rest|false=>iO less (.int k y) rest
   | false=>match av y x with|true=>iO less (.int k x) rest|false=>iO less (.int k y) rest
  else none
 | _,_=>none
inductive xn where
 | val (v:Value) (h:AW)
 | call (f:FuncId) (args:List Value)
def ret(v:Option Value)(h:AW):Option xn :=
 match v with
 | some v=>some (.val v h)
 | none=>none
def fx(v:Option (Value×AW)):Option xn :=
 match v with
 | some (v,h)=>some (.val v h)
 | none=>none
def fG(v:Option (Nat×AW))(mk:Nat->Value):Option xn :=
 match v with
 | some (r,h)=>some (.val (mk r) h)
 | none=>none
def aY(a:ah):Option Operand->Option (Option Value)
 | none=>some none
 | some x=>match aX a x with|some v=>some (some v)|none=>none
def nJ(r:Nat):Value:=.pointer (some ⟨r,0,none⟩)
def nK(P:Program):List Field->Option (List (Nat×Nat))
 | []=>some []
 | f::fs=>match aB P f.type,nK P fs with
  | some n,some ps=>some ((f.offset,n)::ps)
  | _,_=>none
def A9(P:Program)(t:TypeId)(ps:List (Nat×Value)):Option Value :=
 match P.underlying t,dU P t with
 | some (.struct fields),some zs =>
  match nK P fields.toList with
  | some pl=>match sT (fun i=>pl[i]?) zs ps with
   | some cs=>some (.agg ⟨cs⟩)
   | none=>none
  | none=>none
 | some (.array _ e),some zs=>match aB P e with
  | some n=>match sT (fun i=>some (i*n,n)) zs ps with
   | some cs=>some (.agg ⟨cs⟩)
   | none=>none
  | none=>none
 | _,_=>none
def lG(P:Program)(t:TypeId)(len:Nat)(ps:List (Nat×Value))(h:AW):Option xn :=
 match P.underlying t with
 | some (.slice e)=>match aB P e,dU P e with
  | some n,some zs=>match Nat.beq zs.length n&&(Nat.ble (len*n) 1000000&&Nat.ble len 1000000),rep zs len with
   | true,some cs=>match sT (fun i=>some (i*n,n)) cs ps with
    | some cs=>fG (cf P h e cs) fun r=>.slice (some ⟨r,0,none⟩) len len
    | none=>none
   | _,_=>none
  | _,_=>none
 | _=>none
def j8(P:Program)(t:TypeId)(l c:Value)(h:AW):Option xn :=
 match P.underlying t,l,c with
 | some (.slice e),.int _ l,.int _ c =>
  match P.info? e,dU P e with
  | some i,some zs=>match (av 0 l&&av l c)&&(dN c.toNat i.bytes&&(Nat.beq zs.length i.size&&Nat.ble c.toNat 1000000000000)),rep zs c.toNat with
   | true,some cs=>fG (cf P h e cs) fun r=>.slice (some ⟨r,0,none⟩) l.toNat c.toNat
   | _,_=>none
  | _,_=>none
 | _,_,_=>none
def Cw:List Value->Option Value
 | [.slice none _ _]=>some (.pointer none)
 | [.slice (some ⟨r,off,none⟩) (_+1) _]=>some (.pointer (some ⟨r,off,none⟩))
 | _=>none
def qj(P:Program)(ts:Array TypeId)(args:List Value)(h:AW):Option (Value×AW) :=
 match args with
 | [.pointer none,.int .i64 n]=>match ts[0]?,bc n 0 with
  | some _,true=>some (.string ⟨⟨[]⟩⟩,h)
  | _,_=>none
 | [.pointer (some ⟨r,off,none⟩),.int .i64 n] =>
  match ts[0]? with
  | some pt=>match P.underlying pt,bm h r,av 1 n&&av n 9223372036854775807 with
   | some (.pointer u),some (e,cs),true=>match (Nat.beq e u&&jo P e)&&oR P e,cut cs off n.toNat with
    | true,some vs=>match eJ vs,h.put r none with
     | some bs,some h'=>some (.string ⟨⟨bs⟩⟩,h')
     | _,_=>none
    | _,_=>none
   | _,_,_=>none
  | none=>none
 | _=>none
def dc:Value->Value->Option Bool
 | .int k a,.int k' b=>if k=k' then some (bc a b) else none
 | .string a,.string b=>some (cB a.data.toList b.data.toList)
 | _,_=>none
def b7(k:Value):List MapEntry->Nat->Option (Option (Nat×Value))
 | [],_=>some none
 | e::es,i=>match dc k e.key with
  | some true=>some (some (i,e.val))
  | some false=>b7 k es (i+1)
  | none=>none
def eE(P:Program)(kt:TypeId)(k:Value):Bool :=
 match P.underlying kt,k with
 | some (.int k),.int k' _=>if k'=k then true else false
 | some .string,.string _=>true
 | _,_=>false
def mK(k v:Value):List MapEntry->Nat->List MapEntry
 | [],_=>[]
 | e::es,0=>⟨k,v,e.born⟩::es
 | e::es,n+1=>e::mK k v es n
def pM(e:MapEntry):List MapEntry->List MapEntry
 | []=>[e]
 | x::es=>x::pM e es
def mD(P:Program)(t:TypeId):Option Value :=
 match P.info? t with
 | some i=>match i.zero with
  | some z=>match plain z with
   | true=>some z
   | false=>none
  | none=>none
 | none=>none
def fK(h:AW):Value->Option (List MapEntry)
 | .map none=>some []
 | .map (some r)=>match h.get r with
  | some (.map es _)=>some es
  | _=>none
 | _=>none
def qp(ok:Bool)(v:Value)(b:Bool):Value:=match ok with|true=>.tuple #[v,.bool b]|false=>v
def fI(P:Program)(t:TypeId)(m k:Value)(ok:Bool)(h:AW):Option Value :=
 match P.underlying t with
 | some (.map kt et)=>match eE P kt k,fK h m with
  | true,some es=>match b7 k es 0 with
   | some (some (_,v))=>some (qp ok v true)
   | some none=>match mD P et with
    | some z=>some (qp ok z false)
    | none=>none
   | none=>none
  | _,_=>none
 | _=>none
def ir(P:Program)(t:TypeId)(m k v:Value)(h:AW):Option AW :=
 match P.underlying t with
 | some (.map kt _)=>match eE P kt k,m with
  | true,.map (some r)=>match h.get r with
   | some (.map es clock)=>match b7 k es 0 with
    | some (some (i,_))=>h.put r (some (.map (mK k v es i) clock))
    | some none=>h.put r (some (.map (pM ⟨k,v,clock⟩ es) (clock+1)))
    | none=>none
   | _=>none
  | _,_=>none
 | _=>none
def yK:List Nat->Option Nat
 | []=>none
 | [x]=>some x
 | _::y::xs=>yK (y::xs)
def oB(n:Nat):List MapEntry->Option MapEntry
 | []=>none
 | e::es=>match Nat.beq e.born n with|true=>some e|false=>oB n es
def we(P:Program)(t:TypeId)(x:Value)(h:AW):Option xn :=
 match P.underlying t,x with
 | some (.map _ _),.map (some r)=>match h.get r with
  | some (.map _ clock)=>fG (h.new (.iter r clock [] clock)) nJ
  | _=>none
 | _,_=>none
def wU(x:Value)(h:AW):Option Value :=
 match x with
 | .pointer (some ⟨r,0,none⟩)=>match h.get r with
  | some (.iter m _ seen last)=>match yK seen,h.get m with
   | some n,some (.map es clock)=>match Nat.beq clock last,oB n es with
    | true,some e=>some (.tuple #[e.key,e.val])
    | _,_=>none
   | _,_=>none
  | _=>none
 | _=>none
def nV(P:Program)(t:TypeId)(r:Option Value):Bool :=
 match P.underlying t,r with
 | some (.map _ _),none=>true
 | some (.map _ _),some (.int _ _)=>true
 | _,_=>false
def dS:List MapEntry->Nat->List MapEntry
 | [],_=>[]
 | _::es,0=>es
 | e::es,n+1=>e::dS es n
def qu(P:Program)(ts:Array TypeId)(args:List Value)(h:AW):Option Value :=
 match args,ts[0]? with
 | [x],some t=>match P.underlying t with
  | some (.map _ _)=>match fK h x with
   | some es=>some (goInt es.length)
   | none=>none
  | _=>none
 | _,_=>none
def ox(P:Program)(ts:Array TypeId)(args:List Value)(h:AW):Option (Value×AW) :=
 match args,ts[0]? with
 | [m,k],some t=>match P.underlying t with
  | some (.map kt _)=>match eE P kt k,m with
   | true,.map none=>some (.tuple #[],h)
   | true,.map (some r)=>match h.get r with
    | some (.map es clock)=>match b7 k es 0 with
     | some (some (i,_))=>match h.put r (some (.map (dS es i) clock)) with
      | some h'=>some (.tuple #[],h')
      | none=>none
     | some none=>match h.put r (some (.map es clock)) with
      | some h'=>some (.tuple #[],h')
      | none=>none
     | none=>none
    | _=>none
   | _,_=>none
  | _=>none
 | _,_=>none
def IR(P:Program)(ts:Array TypeId)(args:List Value):Option Value :=
 match args,ts[0]? with
 | [.slice _ _ c],some t=>match P.underlying t,Nat.beq c ae with
  | some (.slice _),false=>some (goInt c)
  | _,_=>none
 | _,_=>none
def ti(P:Program)(ts:Array TypeId)(args:List Value)(h:AW):Option (Value×AW) :=
 match args,ts[0]? with
 | [.slice base n _],some t=>match P.underlying t with
  | some (.slice e)=>match base with
   | none=>some (.tuple #[],h)
   | some ⟨r,off,none⟩=>match Nat.beq n 0 with
    | true=>some (.tuple #[],h)
    | false=>match bm h r,dU P e,aB P e with
     | some (e',cs),some zs,some sz=>match Nat.beq zs.length sz&&Nat.ble 1 sz,rep zs n with
      | true,some new=>match aM new with
       | true=>match kO cs off new with
        | some cs'=>match h.put r (some (.cells e' cs')) with
         | some h'=>some (.tuple #[],h')
         | none=>none
        | none=>none
       | false=>none
      | _,_=>none
     | _,_,_=>none
   | _=>none
  | _=>none
 | _,_=>none
def bB(P:Program)(a:ah)(c:Call)(args:List Value)(h:AW):Option xn :=
 match c.callee with
 | .builtin .append=>fx (fM P c.argTypes args h)
 | .builtin .len=>ret (match sc P c.argTypes args with|some v=>some v|none=>qu P c.argTypes args h) h
 | .builtin .min=>match args with
  | v::vs=>ret (iO true v vs) h
  | []=>none
 | .builtin .max=>match args with
  | v::vs=>ret (iO false v vs) h
  | []=>none
 | .builtin .copy=>fx (th P c.argTypes args h)
 | .builtin .unsafeSliceData=>ret (Cw args) h
 | .builtin .unsafeString=>fx (qj P c.argTypes args h)
 | .builtin .delete=>fx (ox P c.argTypes args h)
 | .builtin .cap=>ret (IR P c.argTypes args) h
 | .builtin .clear=>fx (ti P c.argTypes args h)
 | .value f=>match aX a f with
  | some (.func (.func f) first captured)=>match join args captured.toList with
   | some xs=>match join first.toList xs with
    | some ys=>some (.call f ys)
    | none=>none
   | none=>none
  | _=>none
 | _=>none
def aI(P:Program)(a:ah)(o:Oper)(h:AW):Option xn :=
 match o.op with
 | .move x=>ret (aX a x) h
 | .assign x=>ret (aX a x) h
 | .pick c x y=>match aX a c with
  | some (.bool true)=>ret (aX a x) h
  | some (.bool false)=>ret (aX a y) h
  | _=>none
 | .alloc e=>match dU P e with
  | some cs=>fG (cf P h e cs) nJ
  | none=>none
 | .box e x=>match aX a x with
  | some v=>match tL v with
   | true=>none
   | false=>fG (cf P h e v.cells.toList) nJ
  | none=>none
 | .build t parts=>match ew a parts.toList with
  | some ps=>ret (A9 P t ps) h
  | none=>none
 | .buildSlice t len parts=>match ew a parts.toList with
  | some ps=>lG P t len ps h
  | none=>none
 | .load t x=>match aX a x with
  | some v=>ret (mw P t v h) h
  | none=>none
 | .store t x y=>match aX a x,aX a y with
  | some p,some v=>match vK P t p v h with
   | some h'=>some (.val undef h')
   | none=>none
  | _,_=>none
 | .nilCheck x=>match aX a x with
  | some (.pointer (some p))=>some (.val (.pointer (some p)) h)
  | _=>none
 | .binOp op t x y _=>match aX a x,aX a y with
  | some v,some u=>match fN P op t x y v u with
   | true=>ret (iH P op t v u h) h
   | false=>none
  | _,_=>none
 | .unOp op _ x=>match aX a x with
  | some v=>ret (Lu op v) h
  | none=>none
 | .convert src dst x=>match aX a x with
  | some v=>fx (mB P src dst v h)
  | none=>none
 | .makeInterface t x=>match P.underlying t,aX a x with
  | some (.interface _),_=>none
  | some _,some v=>some (.val (.iface t v) h)
  | _,_=>none
 | .makeFunc fn first captured=>match BW fn with
  | true=>match ky a first.toList,ky a captured.toList with
   | some xs,some ys=>some (.val (.func fn ⟨xs⟩ ⟨ys⟩) h)
   | _,_=>none
  | false=>none
 | .makeSlice t l c=>match aX a l,aX a c with
  | some l,some c=>j8 P t l c h
  | _,_=>none
 | .slice t x lo hi mx=>match aX a x,aY a lo,aY a hi,aY a mx with
  | some v,some lo,some hi,some mx=>ret (cM P t v lo hi mx h) h
  | _,_,_,_=>none
 | .fieldAddr s x f=>match aX a x with
  | some v=>ret (mW P s v f) h
  | none=>none
 | .field t x f=>match P.underlying t,aX a x with
  | some (.struct fields),some (.agg cs)=>match fields[f]? with
   | some fd=>ret (bM P fd.type cs.toList fd.offset) h
   | none=>none
  | _,_=>none
 | .indexAddr t x i=>match aX a x,aX a i with
  | some v,some j=>ret (kg P t v j) h
  | _,_=>none
 | .index t x i=>match aX a x,aX a i with
  | some v,some j=>ret (wH P t v j) h
  | _,_=>none
 | .extract x i=>match aX a x with
  | some (.tuple vs)=>ret vs.toList[i]? h
  | _=>none
 | .call c=>match ky a c.args.toList with
  | some args=>bB P a c args h
  | none=>none
 | .sliceToArrayPointer t x=>match aX a x with
  | some v=>ret (Ab P t v) h
  | none=>none
 | .makeMap t r=>match aY a r with
  | some hint=>match nV P t hint with
   | true=>fG (h.new (.map [] 0)) fun r=>.map (some r)
   | false=>none
  | none=>none
 | .lookup t m k ok=>match aX a m,aX a k with
  | some mv,some kv=>ret (fI P t mv kv ok h) h
  | _,_=>none
 | .mapUpdate t m k x=>match aX a m,aX a k,aX a x with
  | some mv,some kv,some v=>match ir P t mv kv v h with
   | some h'=>some (.val undef h')
   | none=>none
  | _,_,_=>none
 | .range t x=>match aX a x with
  | some v=>we P t v h
  | none=>none
 | .entry x=>match aX a x with
  | some v=>ret (wU v h) h
  | none=>none
 | _=>none
def aw(ops:List Oper)(o:Oper)(a:ah):Bool :=
 match o.guard with
 | none=>true
 | some (j,want)=>match ops[j]? with
  | some p=>match p.dst with
   | some d=>match a[d]? with
    | some (.bool b)=>b==want
    | _=>false
   | none=>false
  | none=>false
def kS(ops:List Oper)(o:Oper)(a:ah):Bool :=
 match o.guard with
 | none=>true
 | some (j,_)=>match ops[j]? with
  | some p=>match p.dst with
   | some d=>match a[d]? with
    | some v=>!tL v
    | none=>true
   | none=>true
  | none=>true
def kU(ops:List Oper)(o:Oper)(a:ah):Bool:=!aw ops o a&&kS ops o a
def v8(P:Program)(call:FuncId->List Value->AW->Option (Value×AW))(ops:List Oper):List Oper->ah->AW->Option (ah×AW)
 | [],a,h=>some (a,h)
 | o::rest,a,h =>
  match aw ops o a with
  | true=>match aI P a o h with
   | some (.val v h')=>match fv v with
    | some v=>match aH a o.dst v with
     | some a'=>v8 P call ops rest a' h'
     | none=>none
    | none=>none
   | some (.call f args)=>match call f args h with
    | some (v,h')=>match aH a o.dst v with
     | some a'=>v8 P call ops rest a' h'
     | none=>none
    | none=>none
   | none=>none
  | false=>match kS ops o a with
   | true=>match aH a o.dst undef with
    | some a'=>v8 P call ops rest a' h
    | none=>none
   | false=>none
def At(P:Program):Op->Bool
 | .move _|.assign _|.pick _ _ _|.build _ _|.load _ _|.nilCheck _|.binOp _ _ _ _ _|.unOp _ _ _|.makeInterface _ _|.makeFunc _ _ _|.slice _ _ _ _ _|.fieldAddr _ _ _|.field _ _ _
 | .indexAddr _ _ _|.index _ _ _|.extract _ _|.sliceToArrayPointer _ _=>true
 | .convert src dst _=>match P.underlying src,P.underlying dst with
  | some .string,some (.slice _)=>false
  | _,_=>true
 | .call c=>match c.callee with
  | .builtin .len=>true
  | .builtin .min=>true
  | .builtin .max=>true
  | _=>false
 | _=>false
def d5:List Oper->List Nat->Option (List Nat)
 | [],acc=>some acc
 | o::rest,acc =>
  match go acc o.after.toList with
  | some m=>match join acc [m] with
   | some acc'=>d5 rest acc'
   | none=>none
  | none=>none
where
 go (acc:List Nat):List Edge->Option Nat
  | []=>some 0
  | e::es=>match go acc es with
   | some m=>match Region.binds .any e with
    | true=>match acc[e.on]? with
     | some k=>some (m ||| (2^e.on ||| k))
     | none=>none
    | false=>some m
   | none=>none
def AG(ms:List Nat)(i:Nat):Nat:=match ms[i]? with|some m=>m|none=>0
def ahead(ms:List Nat)(i j:Nat):Bool:=(AG ms i).testBit j
def jd:List Operand->List Nat
 | []=>[]
 | .tmp t::xs=>t::jd xs
 | _::xs=>jd xs
def dx(ops:List Oper)(o:Oper):List Nat :=
 match o.guard with
 | none=>jd o.op.operands.toList
 | some (g,_)=>match ops[g]? with
  | some p=>match p.dst with
   | some d=>d::jd o.op.operands.toList
   | none=>jd o.op.operands.toList
  | none=>jd o.op.operands.toList
def fY:List Nat->Nat->Bool
 | [],_=>false
 | x::xs,n=>match Nat.beq x n with|true=>true|false=>fY xs n
def qk(ms:List Nat)(ls:List Nat)(i:Nat):List Oper->Nat->Bool
 | [],_=>true
 | p::ps,j =>
  match (match p.dst with
   | some d=>match fY ls d,Nat.beq j i with
    | true,false=>match Nat.ble (j+1) i with
     | true=>ahead ms i j
     | false=>ahead ms j i
    | _,_=>true
   | none=>true) with
  | true=>qk ms ls i ps (j+1)
  | false=>false
def ft(ms:List Nat)(all:List Oper):List Oper->Nat->Bool
 | [],_=>true
 | o::rest,i=>match qk ms (dx all o) i all 0 with
  | true=>ft ms all rest (i+1)
  | false=>false
def iA:List Oper->List Nat
 | []=>[]
 | o::rest=>match o.dst with|some d=>d::iA rest|none=>iA rest
def jE:List Nat->Bool
 | []=>true
 | x::xs=>match fY xs x with|true=>false|false=>jE xs
def jR:List Oper->Nat->Bool
 | [],_=>true
 | o::rest,i=>match o.after.toList.all (fun e=>match Region.binds .any e with|true=>Nat.ble (e.on+1) i|false=>true) with
  | true=>jR rest (i+1)
  | false=>false
def tf(P:Program)(p:Nat->Bool):List Oper->Nat->Nat
 | [],_=>0
 | o::rest,j=>match At P o.op with
  | true=>tf P p rest (j+1)
  | false=>match p j with
   | true=>tf P p rest (j+1)+1
   | false=>tf P p rest (j+1)
def Cc(P:Program)(ms:List Nat)(ops:List Oper)(i:Nat):Nat:=tf P (fun j=>ahead ms i j) ops 0
def FD(P:Program)(ms:List Nat)(ops:List Oper)(i:Nat):Nat:=tf P (fun j=>!(ahead ms j i)&&!(Nat.beq j i)) ops 0
def Kl(P:Program)(ms:List Nat)(ops:List Oper):Bool :=
 (jE (iA ops)&&jR ops 0)&&ft ms ops ops 0
def qU:Value->Value->Bool
 | .bool a,.bool b=>a==b
 | .int j a,.int k b=>(j==k)&&bc a b
 | .string a,.string b=>cB a.data.toList b.data.toList
 | .pointer none,.pointer none=>true
 | .pointer (some ⟨r,o,none⟩),.pointer (some ⟨r',o',none⟩)=>Nat.beq r r'&&Nat.beq o o'
 | .slice none a b,.slice none c d=>Nat.beq a c&&Nat.beq b d
 | .slice (some ⟨r,o,none⟩) a b,.slice (some ⟨r',o',none⟩) c d=>(Nat.beq r r'&&Nat.beq o o')&&(Nat.beq a c&&Nat.beq b d)
 | .map none,.map none=>true
 | .map (some r),.map (some r')=>Nat.beq r r'
 | .nilFunc,.nilFunc=>true
 | .nilIface,.nilIface=>true
 | _,_=>false
def nB:List Value->List Value->Bool
 | [],[]=>true
 | x::xs,y::ys=>qU x y&&nB xs ys
 | _,_=>false
def KS:Value->Value->Bool
 | .agg a,.agg b=>nB a.toList b.toList
 | .tuple a,.tuple b=>nB a.toList b.toList
 | .iface t v,.iface u w=>Nat.beq t u&&qU v w
 | .func (.func f) a b,.func (.func g) c d=>Nat.beq f g&&(nB a.toList c.toList&&nB b.toList d.toList)
 | v,u=>qU v u
def KQ(P:Program)(call:FuncId->List Value->AW->Option (Value×AW))(a:ah)(o:Oper)(h:AW):Option (Value×AW) :=
 match aI P a o h with
 | some (.val v h')=>match fv v with
  | some v=>some (v,h')
  | none=>none
 | some (.call f args)=>call f args h
 | none=>none
def GT(P:Program)(call:FuncId->List Value->AW->Option (Value×AW))(ops:List Oper):List Oper->ah->AW->Option (List (ah×Value)×List AW×ah)
 | [],a,h=>some ([],[h],a)
 | o::rest,a,h =>
  match (match aw ops o a with
   | true=>KQ P call a o h
   | false=>match kS ops o a with
    | true=>some (undef,h)
    | false=>none) with
  | some (v,h')=>match aH a o.dst v with
   | some a'=>match At P o.op with
    | true=>match GT P call ops rest a' h with
     | some (tr,hs,af)=>some ((a,v)::tr,hs,af)
     | none=>none
    | false=>match GT P call ops rest a' h' with
     | some (tr,hs,af)=>some ((a,v)::tr,h::hs,af)
     | none=>none
   | none=>none
  | none=>none
def zK(P:Program)(a:ah)(o:Oper)(v:Value)(lo hi:Nat):List AW->Nat->Bool
 | [],_=>true
 | h::hs,k =>
  match (match Nat.ble lo k&&Nat.ble k hi with
   | true=>match aI P a o h with
    | some (.val u _)=>match fv u with
     | some u=>KS u v
     | none=>false
    | _=>false
   | false=>true) with
  | true=>zK P a o v lo hi hs (k+1)
  | false=>false
def Jr(P:Program)(ms:List Nat)(all:List Oper)(hs:List AW):List Oper->List (ah×Value)->Nat->Bool
 | o::rest,(a,v)::tr,i =>
  match (match At P o.op with
   | true=>match aw all o a with
    | true=>zK P a o v (Cc P ms all i) (FD P ms all i) hs 0
    | false=>true
   | false=>Nat.beq (Cc P ms all i) (FD P ms all i)) with
  | true=>Jr P ms all hs rest tr (i+1)
  | false=>false
 | _,_,_=>true
def Jn:List AW->Option AW
 | []=>none
 | [h]=>some h
 | _::hs=>Jn hs
def K7(P:Program)(call:FuncId->List Value->AW->Option (Value×AW))(ops:List Oper)(a:ah)(h:AW):Option (ah×AW) :=
 match d5 ops [] with
 | some ms=>match Kl P ms ops with
  | true=>match GT P call ops ops a h with
   | some (tr,hs,af)=>match Jr P ms ops hs ops tr 0,Jn hs with
    | true,some h'=>some (af,h')
    | _,_=>none
   | none=>none
  | false=>none
 | none=>none
inductive b8 where
 | normal
 | exit (id:Nat)
 | ret
def EV(body:ah->AW->Option (b8×ah×AW)):Nat->ah->AW->Option (b8×ah×AW)
 | 0,_,_=>none
 | n+1,a,h =>
  match body a h with
  | some (.normal,a',h')=>EV body n a' h'
  | r=>r
def code(P:Program)(call:FuncId->List Value->AW->Option (Value×AW))(fuel:Nat):Code->ah->AW->Option (b8×ah×AW)
 | .skip,a,h=>some (.normal,a,h)
 | .region id ops draw,a,h =>
  match draw with
  | true=>match K7 P call ops.toList a h with
   | some (a',h')=>some (.normal,a',h')
   | none=>none
  | false=>match v8 P call ops.toList ops.toList a h with
   | some (a',h')=>some (.normal,a',h')
   | none=>none
 | .seq x y,a,h =>
  match code P call fuel x a h with
  | some (.normal,a',h')=>code P call fuel y a' h'
  | r=>r
 | .cond c x y,a,h =>
  match aX a c with
  | some (.bool true)=>code P call fuel x a h
  | some (.bool false)=>code P call fuel y a h
  | _=>none
 | .block id x,a,h =>
  match code P call fuel x a h with
  | some (.exit id',a',h')=>match Nat.beq id' id with
   | true=>some (.normal,a',h')
   | false=>some (.exit id',a',h')
  | r=>r
 | .loop x,a,h=>EV (code P call fuel x) fuel a h
 | .exit id,a,h=>some (.exit id,a,h)
 | .ret,a,h=>some (.ret,a,h)
 | _,_,_=>none
def cE(P:Program)(a:ah)(h:AW):List ResultVar->Option (List Value)
 | []=>some []
 | .tmp t::rest=>match a[t]?,cE P a h rest with
  | some v,some vs=>some (v::vs)
  | _,_=>none
 | .cell x t::rest=>match a[x]? with
  | some p=>match mw P t p h,cE P a h rest with
   | some v,some vs=>some (v::vs)
   | _,_=>none
  | none=>none
def cj:List Value->Value
 | [v]=>v
 | vs=>.tuple ⟨vs⟩
def qL:Nat->List Value
 | 0=>[]
 | n+1=>undef::qL n
abbrev Lo:=FuncId->List Value->AW->Option (Value×AW)
def Ib:Lo:=fun _ _ _=>none
end Go.Am
end
section
namespace Go.Am
structure jU where
 block:Nat
 base:Nat
 ext:Nat
 esz:Nat
abbrev cY:=Nat->Option jU
mutual
inductive ay(ρ:cY):Value->Value->Prop
 | bool (b:Bool):ay ρ (.bool b) (.bool b)
 | int (k:IntKind) (n:Int):ay ρ (.int k n) (.int k n)
 | string (s:ByteArray):ay ρ (.string s) (.string s)
 | ptrNil:ay ρ (.pointer none) (.pointer none)
 | ptr {r off:Nat} {l:jU} (h:ρ r=some l):ay ρ (.pointer (some ⟨r,off,none⟩)) (.pointer (some ⟨l.block,l.base+off,none⟩))
 | sliceNil:ay ρ (.slice none 0 0) (.slice none 0 0)
 | slice {r off len cap cap':Nat} {a:Addr} (hl:len<=cap') (hc:cap≠ae->cap'=cap)
   (ha:cap'≠0->∃ l,ρ r=some l/\a=⟨l.block,l.base+off,none⟩/\(cap=ae->off+cap'*l.esz<=l.ext/\cap'<ae)) :
   ay ρ (.slice (some ⟨r,off,none⟩) len cap) (.slice (some a) len cap')
 | mapNil:ay ρ (.map none) (.map none)
 | map {r:Nat} {l:jU} (h:ρ r=some l):ay ρ (.map (some r)) (.map (some l.block))
 | nilFunc:ay ρ .nilFunc .nilFunc
 | nilIface:ay ρ .nilIface .nilIface
 | yield {r:Nat} {l:jU} (h:ρ r=some l):ay ρ (.func (.yield r) #[] #[]) (.func (.yield l.block) #[] #[])
 | func {fn:Fn} {a b c d:Array Value} (hp:BW fn=true) (h1:aF ρ a.toList b.toList) (h2:aF ρ c.toList d.toList):ay ρ (.func fn a c) (.func fn b d)
 | iface {t:TypeId} {v u:Value} (h:ay ρ v u):ay ρ (.iface t v) (.iface t u)
 | agg {a b:Array Value} (h:aF ρ a.toList b.toList):ay ρ (.agg a) (.agg b)
 | tuple {a b:Array Value} (h:aF ρ a.toList b.toList):ay ρ (.tuple a) (.tuple b)
 | any (u:Value):ay ρ (.chan none) u
inductive aF(ρ:cY):List Value->List Value->Prop
 | nil:aF ρ [] []
 | cons {v u:Value} {vs us:List Value} (h:ay ρ v u) (hs:aF ρ vs us):aF ρ (v::vs) (u::us)
end
def cY.le(ρ ρ':cY):Prop:=∀ r l,ρ r=some l->ρ' r=some l
theorem cY.le_refl(ρ:cY):ρ.le ρ:=fun _ _ h=>h
theorem cY.le_trans {a b c:cY}(h:a.le b)(k:b.le c):a.le c:=fun r l e=>k r l (h r l e)
mutual
variable{ρ ρ':cY}
theorem ay.mono (h:ρ.le ρ'):∀ {v u:Value},ay ρ v u->ay ρ' v u
 | _,_,.bool b=>.bool b
 | _,_,.int k n=>.int k n
 | _,_,.string s=>.string s
 | _,_,.ptrNil=>.ptrNil
 | _,_,.ptr e=>.ptr (h _ _ e)
 | _,_,.sliceNil=>.sliceNil
 | _,_,.slice hl hc ha=>.slice hl hc fun hz=>let ⟨l,e,rest⟩:=ha hz;⟨l,h _ _ e,rest⟩
 | _,_,.mapNil=>.mapNil
 | _,_,.map e=>.map (h _ _ e)
 | _,_,.nilFunc=>.nilFunc
 | _,_,.nilIface=>.nilIface
 | _,_,.yield e=>.yield (h _ _ e)
 | _,_,.func hp a b=>.func hp (aF.mono h a) (aF.mono h b)
 | _,_,.iface a=>.iface (ay.mono h a)
 | _,_,.agg a=>.agg (aF.mono h a)
 | _,_,.tuple a=>.tuple (aF.mono h a)
 | _,_,.any u=>.any u
theorem aF.mono (h:ρ.le ρ'):∀ {v u:List Value},aF ρ v u->aF ρ' v u
 | _,_,.nil=>.nil
 | _,_,.cons a b=>.cons (ay.mono h a) (aF.mono h b)
end
section
variable{ρ:cY}
theorem aF.length:∀ {vs us:List Value},aF ρ vs us->vs.length=us.length
 | _,_,.nil=>rfl
 | _,_,.cons _ b=>by simp[aF.length b]
theorem aF.get:∀ {vs us:List Value} {i:Nat} {v:Value},aF ρ vs us->vs[i]?=some v->∃ u,us[i]?=some u/\ay ρ v u
 | _,_,i,v,.nil,h=>by simp at h
 | _,_,0,v,.cons a b,h=>by simp at h;subst h;exact⟨_,rfl,a⟩
 | _,_,i+1,v,.cons a b,h=>by simp at h ⊢;exact aF.get b h
theorem aF.of_get:∀ {vs us:List Value},vs.length=us.length->(∀ (i:Nat) (v:Value),vs[i]?=some v->∃ u,us[i]?=some u/\ay ρ v u)->aF ρ vs us
 | [],[],_,_=>.nil
 | [],_::_,h,_=>by simp at h
 | _::_,[],h,_=>by simp at h
 | v::vs,u::us,h,f=>by
  obtain⟨u',e,r⟩:=f 0 v rfl
  simp at e;subst e
  exact .cons r (aF.of_get (by simpa using h) fun i w e=>by simpa using f (i+1) w (by simpa using e))
theorem aF.append:∀ {a b c d:List Value},aF ρ a b->aF ρ c d->aF ρ (a++c) (b++d)
 | _,_,_,_,.nil,h=>h
 | _,_,_,_,.cons x y,h=>.cons x (aF.append y h)
theorem aF.take:∀ {a b:List Value} (n:Nat),aF ρ a b->aF ρ (a.take n) (b.take n)
 | _,_,0,_=>by simp;exact .nil
 | _,_,_+1,.nil=>.nil
 | _,_,n+1,.cons x y=>.cons x (aF.take n y)
theorem aF.drop:∀ {a b:List Value} (n:Nat),aF ρ a b->aF ρ (a.drop n) (b.drop n)
 | _,_,0,h=>by simpa using h
 | _,_,_+1,.nil=>.nil
 | _,_,n+1,.cons x y=>aF.drop n y
end
variable{ρ:cY}{v:Value}
theorem ay.of_flat (h:lx v=true):ay ρ v v:=by
 cases v with
 | bool b=>exact .bool b
 | int k n=>exact .int k n
 | string s=>exact .string s
 | pointer a=>cases a with
  | none=>exact .ptrNil
  | some a=>simp[lx]at h
 | slice a n c=>cases a with
  | none=>simp[lx]at h;obtain⟨rfl,rfl⟩:=h;exact .sliceNil
  | some a=>simp[lx]at h
 | map r=>cases r with
  | none=>exact .mapNil
  | some a=>simp[lx]at h
 | nilFunc=>exact .nilFunc
 | nilIface=>exact .nilIface
 | _=>simp[lx]at h
theorem aF.of_allFlat:∀ {vs:List Value},gf vs=true->aF ρ vs vs
 | [],_=>.nil
 | v::vs,h=>by
  simp only[gf]at h
  split at h
  ·exact .cons (.of_flat (by assumption)) (aF.of_allFlat h)
  cases h
theorem ay.of_plain (h:plain v=true):ay ρ v v:=by
 cases v with
 | agg cs=>exact .agg (.of_allFlat h)
 | tuple cs=>exact .tuple (.of_allFlat h)
 | iface t v=>exact .iface (.of_flat h)
 | _=>exact .of_flat h
theorem gZ:ay ρ undef undef:=.tuple .nil
theorem ay.cells {u:Value}(h:ay ρ v u)(hj:tL v=false):aF ρ v.cells.toList u.cells.toList:=by
 cases h with
 | agg h=>exact h
 | any u=>cases hj
 | _=>exact .cons (by constructor <;> assumption) .nil
theorem ay.one {u:Value}(h:ay ρ v u)(ho:rM v=true):rM u=true:=by
 cases h <;> first|rfl|(simp[rM]at ho)
theorem AP (h:aM v.cells.toList=true):tL v=false:=by
 cases v <;> first|rfl|(simp[Value.cells,aM,rM]at h)
theorem aF.one:∀ {vs us:List Value},aF ρ vs us->aM vs=true->aM us=true
 | _,_,.nil,_=>rfl
 | _,_,.cons a b,h=>by
  simp only[aM]at h ⊢
  split at h
  ·rw[ay.one a (by assumption)];exact aF.one b h
  cases h
def fC(ρ:cY)(es es':List MapEntry):Prop :=
 aF ρ (es.map (·.key)) (es'.map (·.key))/\aF ρ (es.map (·.val)) (es'.map (·.val))/\es.map (·.born)=es'.map (·.born)
structure KF(P:Program)(e:TypeId)(l:jU):Prop where
 size:aB P e=some l.esz
 home:l.base=0∨uf P e=true
def kB(P:Program)(ρ:cY)(w:World)(l:jU):aG->Prop
 | .cells e cs=>∃ C f,w.heap[l.block]?=some (.cells C e f)/\(f.1=f.2∨(C.size<=f.1/\jo P e=true))/\cs.length<=l.ext/\l.base+l.ext<=C.size/\KF P e l /\
   ∀ i v,cs[i]?=some v->∃ u,C[l.base+i]?=some u/\ay ρ v u
 | .map es clock=>∃ es',w.heap[l.block]?=some (.map es' clock)/\fC ρ es es'.toList
 | .text s pos=>w.heap[l.block]?=some (.stringIter s pos)/\l.base=0
 | .ro cs=>l.block<w.heap.size/\∀ i v,cs[i]?=some v->∃ u,w.cell? ⟨l.block,l.base+i,none⟩=some u/\ay ρ v u
 | .iter m since seen last=>l.base=0/\∃ lm,ρ m=some lm/\w.heap[l.block]?=some (.mapIter (some lm.block) since ⟨seen⟩ last)
 | .loop p=>∃ fn us D,w.heap[l.block]?=some (.loop { state:=p.state,pending:=p.pending,fn:=fn,tmps:=us,params:=⟨p.params⟩,assign:=p.assign,body:=p.body,defers:=D })/\aF ρ p.slots us.toList
structure aJ(P:Program)(ρ:cY)(h:AW)(w:World):Prop where
 loc:∀ r row,h.get r=some row->∃ l,ρ r=some l/\kB P ρ w l row
 inj:∀ r r' row row' l l',h.get r=some row->h.get r'=some row'->ρ r=some l->ρ r'=some l'->l.block=l'.block->row.own=true∨row'.own=true->r=r'
 fresh:∀ j,ρ (h.next+h.step*j)=none
 step:0<h.step
structure bE(ρ:cY)(h:AW)(w:World)(ρ':cY)(h':AW)(w':World):Prop where
 le:ρ.le ρ'
 os:w'.os=w.os
 tape:w'.tape=w.tape
 output:w'.output=w.output
 size:w.heap.size<=w'.heap.size
 own:∀ r row l,h'.get r=some row->row.own=true->ρ' r=some l->l.block<w.heap.size->∃ r₀ row₀ l₀,h.get r₀=some row₀/\row₀.own=true/\ρ r₀=some l₀/\l₀.block=l.block
 keep:∀ k,k<w.heap.size->(∀ r row l,h.get r=some row->row.own=true->ρ r=some l->l.block≠k)->w'.heap[k]?=w.heap[k]?
 new:∀ r l,ρ' r=some l->ρ r=some l∨∃ j,r=h.next+h.step*j
 next:∃ j,h'.next=h.next+h.step*j
 steps:h'.step=h.step
theorem bE.refl(ρ:cY)(h:AW)(w:World):bE ρ h w ρ h w :=
 ⟨cY.le_refl _,rfl,rfl,rfl,Nat.le_refl _,fun r row l hr ho hl _=>⟨r,row,l,hr,ho,hl,rfl⟩,fun _ _ _=>rfl,fun _ _ e=>.inl e,⟨0,by simp⟩,rfl⟩
theorem bE.trans {ρ₁ ρ₂ ρ₃:cY}{h₁ h₂ h₃:AW}{w₁ w₂ w₃:World}(a:bE ρ₁ h₁ w₁ ρ₂ h₂ w₂)(b:bE ρ₂ h₂ w₂ ρ₃ h₃ w₃):bE ρ₁ h₁ w₁ ρ₃ h₃ w₃:=by
 refine⟨cY.le_trans a.le b.le,b.os.trans a.os,b.tape.trans a.tape,b.output.trans a.output,Nat.le_trans a.size b.size,?_,?_,?_,?_,b.steps.trans a.steps⟩
 ·intro r row l hr ho hl hlt
  obtain⟨r₀,row₀,l₀,x,xo,y,z⟩:=b.own r row l hr ho hl (Nat.lt_of_lt_of_le hlt a.size)
  obtain⟨r₁,row₁,l₁,x',xo',y',z'⟩:=a.own r₀ row₀ l₀ x xo y (by rw[z];exact hlt)
  exact⟨r₁,row₁,l₁,x',xo',y',z'.trans z⟩
 ·intro k hk hn
  rw[b.keep k (Nat.lt_of_lt_of_le hk a.size) (fun r row l hr ho hl he=>?_),a.keep k hk hn]
  obtain⟨r₁,row₁,l₁,x',xo',y',z'⟩:=a.own r row l hr ho hl (by rw[he];exact hk)
  exact hn r₁ row₁ l₁ x' xo' y' (z'.trans he)
 ·intro r l e
  rcases b.new r l e with e|⟨j,rfl⟩
  ·exact a.new r l e
  obtain⟨i,hi⟩:=a.next
  exact .inr ⟨i+j,by rw[hi,a.steps,Nat.mul_add,Nat.add_assoc]⟩
 obtain⟨i,hi⟩:=a.next
 obtain⟨j,hj⟩:=b.next
 exact⟨i+j,by rw[hj,hi,a.steps,Nat.mul_add,Nat.add_assoc]⟩
section
variable{α:Type}
theorem Tr.get_nil(n:Nat):(Tr.nil:Tr α).get n=none:=rfl
variable{b:Nat}
theorem aK {a:Nat}(h:a≠b):Nat.beq a b=false:=by
 cases e:Nat.beq a b with
 | false=>rfl
 | true=>exact absurd (Nat.eq_of_beq_eq_true e) h
theorem bo {a:Nat}(h:a=b):Nat.beq a b=true:=by subst h;exact Nat.beq_refl a
theorem be {a:Nat}(h:Nat.beq a b=true):a=b:=Nat.eq_of_beq_eq_true h
theorem ce {a:Nat}(h:Nat.beq a b=false):a≠b:=by rintro rfl;rw[Nat.beq_refl]at h;cases h
theorem bk {a:Nat}(h:Nat.ble a b=true):a<=b:=Nat.le_of_ble_eq_true h
theorem rN {a:Nat}(h:Nat.ble a b=false):b<a:=by
 rcases Nat.lt_or_ge b a with h'|h'
 ·exact h'
 rw[Nat.ble_eq_true_of_le h']at h;cases h
theorem Tr.get_node(l r:Tr α)(v:Option α)(n:Nat):(Tr.node l v r).get n=if n=0 then v else if n%2=1 then l.get (n/2) else r.get (n/2-1):=by
 rw[Tr.get]
 by_cases h:n=0
 ·subst h;simp
 rw[aK h,if_neg h]
 by_cases h2:n%2=1
 ·simp only[bo h2,if_pos h2]
 simp only[aK h2,if_neg h2]
theorem Tr.get_set:∀ (f:Nat) (t t':Tr α) (n:Nat) (x:Option α),Tr.set f t n x=some t'->∀ m,t'.get m=if m=n then x else t.get m
 | 0,_,_,_,_,h=>by simp[Tr.set]at h
 | f+1,.nil,t',n,x,h=>by
  intro m
  rw[Tr.set]at h
  by_cases hn:n=0
  ·subst hn
   simp only[Option.some.injEq]at h
   subst h
   rw[Tr.get_node];simp[Tr.get_nil]
  simp only[aK hn]at h
  by_cases h2:n%2=1
  ·simp only[bo h2]at h
   split at h
   ·rename_i l e
    simp only[Option.some.injEq]at h
    subst h
    have ih:=Tr.get_set f _ _ _ _ e
    rw[Tr.get_node,ih,Tr.get_nil]
    by_cases hm:m=n
    ·subst hm;simp[hn,h2]
    rw[if_neg hm]
    by_cases hm0:m=0
    ·simp[hm0,Tr.get_nil]
    by_cases hm2:m%2=1
    ·have:m/2≠n/2:=by omega
     simp[hm0,hm2,this,Tr.get_nil]
    simp[hm0,hm2,Tr.get_nil]
   cases h
  simp only[aK h2]at h
  split at h
  ·rename_i l e
   simp only[Option.some.injEq]at h
   subst h
   have ih:=Tr.get_set f _ _ _ _ e
   rw[Tr.get_node,ih,Tr.get_nil]
   by_cases hm:m=n
   ·subst hm;simp[hn,h2]
   rw[if_neg hm]
   by_cases hm0:m=0
   ·simp[hm0,Tr.get_nil]
   by_cases hm2:m%2=1
   ·simp[hm0,hm2,Tr.get_nil]
   have:m/2-1≠n/2-1:=by omega
   simp[hm0,hm2,this,Tr.get_nil]
  cases h
 | f+1,.node l v r,t',n,x,h=>by
  intro m
  rw[Tr.set]at h
  by_cases hn:n=0
  ·subst hn
   simp only[Option.some.injEq]at h
   subst h
   rw[Tr.get_node,Tr.get_node]
   by_cases hm:m=0 <;> simp[hm]
  simp only[aK hn]at h
  by_cases h2:n%2=1
  ·simp only[bo h2]at h
   split at h
   ·rename_i l e
    simp only[Option.some.injEq]at h
    subst h
    have ih:=Tr.get_set f _ _ _ _ e
    rw[Tr.get_node,ih,Tr.get_node]
    by_cases hm:m=n
    ·subst hm;simp[hn,h2]
    rw[if_neg hm]
    by_cases hm0:m=0
    ·simp[hm0]
    by_cases hm2:m%2=1
    ·have:m/2≠n/2:=by omega
     simp[hm0,hm2,this]
    simp[hm0,hm2]
   cases h
  simp only[aK h2]at h
  split at h
  ·rename_i l e
   simp only[Option.some.injEq]at h
   subst h
   have ih:=Tr.get_set f _ _ _ _ e
   rw[Tr.get_node,ih,Tr.get_node]
   by_cases hm:m=n
   ·subst hm;simp[hn,h2]
   rw[if_neg hm]
   by_cases hm0:m=0
   ·simp[hm0]
   by_cases hm2:m%2=1
   ·simp[hm0,hm2]
   have:m/2-1≠n/2-1:=by omega
   simp[hm0,hm2,this]
  cases h
end
end Go.Am
namespace Go.Am
theorem xJ:∀ {xs:List Value} {n:Nat} {ys:List Value},mn xs n=some ys->ys=xs.take n/\n<=xs.length
 | xs,0,ys,h=>by
  cases xs <;> simp[mn]at h <;> subst h <;> simp
 | [],n+1,ys,h=>by simp[mn]at h
 | x::xs,n+1,ys,h=>by
  simp only[mn]at h
  split at h
  ·rename_i zs e
   obtain⟨rfl,hl⟩:=xJ e
   simp at h
   subst h
   exact⟨rfl,by simp;omega⟩
  cases h
theorem c9:∀ {xs:List Value} {off n:Nat} {ys:List Value},cut xs off n=some ys->ys=(xs.drop off).take n/\(n=0∨off+n<=xs.length)/\ys.length=n/\off<=xs.length
 | xs,0,n,ys,h=>by
  have h':mn xs n=some ys:=by cases xs <;> simpa[cut] using h
  obtain⟨rfl,hl⟩:=xJ h'
  exact⟨rfl,.inr (by omega),by simp;omega,by omega⟩
 | [],off+1,n,ys,h=>by simp[cut]at h
 | x::xs,off+1,n,ys,h=>by
  simp only[cut]at h
  obtain⟨a,b,c,d⟩:=c9 h
  exact⟨by simpa using a,by simp;omega,c,by simp;omega⟩
theorem BY:∀ {xs vs ys:List Value},wn xs vs=some ys->ys=vs++xs.drop vs.length/\vs.length<=xs.length
 | xs,[],ys,h=>by
  have:xs=ys:=by cases xs <;> simpa[wn] using h
  subst this;simp
 | [],_::_,ys,h=>by simp[wn]at h
 | x::xs,v::vs,ys,h=>by
  simp only[wn]at h
  split at h
  ·rename_i zs e
   obtain⟨rfl,hl⟩:=BY e
   simp at h
   subst h
   exact⟨by simp,by simp;omega⟩
  cases h
theorem kf:∀ {xs:List Value} {off:Nat} {vs ys:List Value},kO xs off vs=some ys->ys=xs.take off++(vs++xs.drop (off+vs.length))/\off+vs.length<=xs.length
 | xs,0,vs,ys,h=>by
  have h':wn xs vs=some ys:=by cases xs <;> simpa[kO] using h
  obtain⟨rfl,hl⟩:=BY h'
  exact⟨by simp,by omega⟩
 | [],off+1,vs,ys,h=>by simp[kO]at h
 | x::xs,off+1,vs,ys,h=>by
  simp only[kO]at h
  split at h
  ·rename_i zs e
   obtain⟨rfl,hl⟩:=kf e
   simp at h
   subst h
   refine⟨by simp[Nat.add_right_comm],by simp;omega⟩
  cases h
variable{xs ys:List Value}
theorem iu {vs:List Value}{off:Nat}(h:kO xs off vs=some ys):ys.length=xs.length:=by
 obtain⟨rfl,hl⟩:=kf h
 simp;omega
theorem nZ {vs:List Value}{off:Nat}(h:kO xs off vs=some ys)(i:Nat):ys[i]?=if off<=i/\i<off+vs.length then vs[i-off]? else xs[i]?:=by
 obtain⟨rfl,hl⟩:=kf h
 have htl:(xs.take off).length=off:=by simp;omega
 by_cases h1:i<off
 ·rw[if_neg (by omega),List.getElem?_append_left (by omega),List.getElem?_take]
  simp[h1]
 by_cases h2:i<off+vs.length
 ·rw[if_pos ⟨by omega,h2⟩,List.getElem?_append_right (by omega),htl,List.getElem?_append_left (by omega)]
 rw[if_neg (by omega),List.getElem?_append_right (by omega),htl,List.getElem?_append_right (by omega),List.getElem?_drop]
 congr 1;omega
variable{α:Type}
theorem eP:∀ {xs ys zs:List α},join xs ys=some zs->zs=xs++ys
 | [],ys,zs,h=>by simp[join]at h;simp[h]
 | x::xs,ys,zs,h=>by
  simp only[join]at h
  split at h
  ·rename_i ws e
   simp at h;subst h
   simp[eP e]
  cases h
variable{n:Nat}
theorem KY {m:Nat}(h:fn n=some m):m=n:=by cases n <;> simp[fn]at h <;> omega
section
variable{h h':AW}{r:Nat}
theorem jh {x:Option aG}(e:h.put r x=some h'):(∀ m,h'.get m=if m=r then x else h.get m)/\h'.next=h.next/\h'.step=h.step:=by
 unfold AW.put at e
 split at e
 ·rename_i t et
  simp at e;subst e
  exact⟨Tr.get_set _ _ _ _ _ et,rfl,rfl⟩
 cases e
theorem rR {x:aG}(e:h.new x=some (r,h')):r=h.next/\(∀ m,h'.get m=if m=r then some x else h.get m)/\h'.next=h.next+h.step/\h'.step=h.step:=by
 unfold AW.new at e
 split at e
 ·rename_i t n et en
  have:=KY en
  simp at e
  obtain⟨rfl,rfl⟩:=e
  exact⟨rfl,Tr.get_set _ _ _ _ _ et,this,rfl⟩
 cases e
variable{e:TypeId}{cs:List Value}
theorem cw (g:bm h r=some (e,cs)):h.get r=some (.cells e cs):=by
 unfold bm at g
 split at g
 ·rename_i he
  simp at g
  obtain⟨rfl,rfl⟩:=g
  exact he
 cases g
end
section
variable{P:Program}{ρ ρ':cY}{h h':AW}{w w':World}
theorem kB.keep {l:jU}{row:aG}(hr:kB P ρ w l row)(le:ρ.le ρ')(hw:w'.heap[l.block]?=w.heap[l.block]?):kB P ρ' w' l row:=by
 cases row with
 | cells e cs =>
  obtain⟨C,f,a,b,c,d,s,g⟩:=hr
  exact⟨C,f,hw.trans a,b,c,d,s,fun i v hv=>let ⟨u,x,y⟩:=g i v hv;⟨u,x,y.mono le⟩⟩
 | map es clock =>
  obtain⟨es',a,x,y,z⟩:=hr
  exact⟨es',hw.trans a,x.mono le,y.mono le,z⟩
 | text s pos=>exact⟨hw.trans hr.1,hr.2⟩
 | ro cs =>
  refine⟨?_,fun i v hv=>let ⟨u,x,y⟩:=hr.2 i v hv;⟨u,?_,y.mono le⟩⟩
  ·rcases Nat.lt_or_ge l.block w'.heap.size with h'|h'
   ·exact h'
   rw[Array.getElem?_eq_none h',Array.getElem?_eq_getElem hr.1]at hw;cases hw
  rw[←x];simp only[World.cell?,hw]
 | iter m since seen last =>
  obtain⟨hb,lm,hm,hh⟩:=hr
  exact⟨hb,lm,le _ _ hm,hw.trans hh⟩
 | loop p=>obtain⟨fn,us,D,a,b⟩:=hr;exact⟨fn,us,D,hw.trans a,b.mono le⟩
theorem kB.lt {l:jU}{row:aG}(hr:kB P ρ w l row):l.block<w.heap.size:=by
 cases row with
 | cells e cs=>obtain⟨C,f,a,_⟩:=hr;exact (Array.getElem?_eq_some_iff.1 a).1
 | map es clock=>obtain⟨es',a,_⟩:=hr;exact (Array.getElem?_eq_some_iff.1 a).1
 | text s pos=>exact (Array.getElem?_eq_some_iff.1 hr.1).1
 | ro cs=>exact hr.1
 | iter m since seen last=>obtain⟨_,lm,_,hh⟩:=hr;exact (Array.getElem?_eq_some_iff.1 hh).1
 | loop p=>obtain⟨fn,us,D,a,_⟩:=hr;exact (Array.getElem?_eq_some_iff.1 a).1
variable{r:Nat}{cs:List Value}
theorem aJ.at_read (H:aJ P ρ h w)(g:ge h r=some cs) :
  ∃ l,ρ r=some l/\∀ i v,cs[i]?=some v->∃ u,w.cell? ⟨l.block,l.base+i,none⟩=some u/\ay ρ v u:=by
 unfold ge at g
 split at g
 ·rename_i e cs' he
  simp at g;subst g
  obtain⟨l,hl,C,f,a,b,c,d,s,rel⟩:=H.loc r _ he
  refine⟨l,hl,fun i v hv=>?_⟩
  obtain⟨u,x,y⟩:=rel i v hv
  exact⟨u,by simp[World.cell?,a,x],y⟩
 ·rename_i cs' he
  simp at g;subst g
  obtain⟨l,hl,_,rel⟩:=H.loc r _ he
  exact⟨l,hl,rel⟩
 cases g
variable{b:Nat}
theorem i9 {o:Nat}:∀ {vs:List Value},(∀ (i:Nat) (v:Value),vs[i]?=some v->∃ u,w.cell? ⟨b,o+i,none⟩=some u/\ay ρ v u)->∃ us,aF ρ vs us/\∀ (j:Nat) (u:Value),us[j]?=some u->w.cell? ⟨b,o+j,none⟩=some u:=by
 intro vs
 induction vs generalizing o with
 | nil=>intro _;exact⟨[],.nil,fun j u hu=>by simp at hu⟩
 | cons v vs ih =>
  intro hc
  obtain⟨u,hu,hv⟩:=hc 0 v rfl
  obtain⟨us,hr,hus⟩:=ih (o:=o+1) (fun i x hx=>by
   have:=hc (i+1) x (by simpa using hx)
   rwa [show o+(i+1)=o+1+i by omega]at this)
  refine⟨u::us,.cons hv hr,fun j x hx=>?_⟩
  cases j with
  | zero=>simp at hx;subst hx;exact hu
  | succ j=>simp at hx;have:=hus j x hx;rwa [show o+1+j=o+(j+1) by omega]at this
variable{e:TypeId}
theorem aJ.at_fits (H:aJ P ρ h w)(g:bm h r=some (e,cs)) :
  ∃ l C f,ρ r=some l/\w.heap[l.block]?=some (.cells C e f)/\(f.1=f.2∨C.size<=f.1)/\cs.length<=l.ext/\l.base+l.ext<=C.size/\KF P e l /\
   ∀ i v,cs[i]?=some v->∃ u,C[l.base+i]?=some u/\ay ρ v u:=by
 obtain⟨l,hl,C,f,r1,r2,rest⟩:=H.loc r _ (cw g)
 exact⟨l,C,f,hl,r1,r2.imp id (·.1),rest⟩
theorem aJ.at_plain (H:aJ P ρ h w)(g:bm h r=some (e,cs))(hu:jo P e=false) :
  ∃ l C f,ρ r=some l/\w.heap[l.block]?=some (.cells C e f)/\f.1=f.2/\cs.length<=l.ext/\l.base+l.ext<=C.size/\KF P e l:=by
 obtain⟨l,hl,C,f,r1,r2,r3,r4,r5,_⟩:=H.loc r _ (cw g)
 exact⟨l,C,f,hl,r1,r2.elim id (fun hh=>by rw[hu]at hh;cases hh.2),r3,r4,r5⟩
theorem aJ.at_cells (H:aJ P ρ h w)(g:bm h r=some (e,cs)) :
  ∃ l C f,ρ r=some l/\w.heap[l.block]?=some (.cells C e f)/\(f.1=f.2∨C.size<=f.1)/\cs.length<=l.ext/\l.base+l.ext<=C.size/\aB P e=some l.esz /\
   ∀ i v,cs[i]?=some v->∃ u,C[l.base+i]?=some u/\ay ρ v u:=by
 obtain⟨l,hl,C,f,r1,r2,r3,r4,r5,r6⟩:=H.loc r _ (cw g)
 exact⟨l,C,f,hl,r1,r2.imp id (·.1),r3,r4,r5.size,r6⟩
theorem DH {o:Nat}{C:Array Value}{e:TypeId}{f:Nat×Nat}(hb:w.heap[b]?=some (.cells C e f))(hf:f.1=f.2∨C.size<=f.1)(ho:o<C.size):w.frozen? ⟨b,o,none⟩=false:=by
 obtain⟨lo,hi⟩:=f
 simp only[World.frozen?,hb,Bool.and_eq_false_iff,decide_eq_false_iff_not]
 simp only at hf
 omega
theorem ed(b o n:Nat):(⟨b,o,none⟩:Addr).add n=⟨b,o+n,none⟩:=by unfold Addr.add;split <;> simp_all
theorem bY(b o:Nat)(e:TypeId)(f:Nat×Nat):∀ (vs:List Value) (i:Nat) (C:Array Value) (w:World),w.heap[b]?=some (.cells C e f)->(f.1=f.2∨C.size<=f.1)->o+i+vs.length<=C.size->aM vs=true →
  ∃ C',(storeCells ⟨b,o,none⟩ vs i).run P w=.ok () (w.setRow b C')/\C'.size=C.size/\∀ j,C'[j]?=if o+i<=j/\j<o+i+vs.length then vs[j-(o+i)]? else C[j]?
 | [],i,C,w,hb,_,_,_=>by
  refine⟨C,?_,rfl,fun j=>by rw[if_neg (by simp)]⟩
  rw[setRow_self w b C e f hb];rfl
 | v::rest,i,C,w,hb,hf,hl,h1=>by
  simp only[aM]at h1
  split at h1
  case h_2=>cases h1
  rename_i hv
  have hi:o+i<C.size:=by simp at hl;omega
  have hcell:w.cell? ⟨b,o+i,none⟩=some C[o+i]:=by simp[World.cell?,hb,hi]
  have hv':v.oneCell'=true:=by cases v <;> first|rfl|(simp[rM]at hv)
  have hst:(store ((⟨b,o,none⟩:Addr).add i) v).run P w=.ok () (w.setRow b (C.setIfInBounds (o+i) v)):=by
   rw[ed,run_store P w _ v _ hv',hcell]
   simp[DH hb hf hi,setCell_eq_setRow w b (o+i) C e f v hb]
  obtain⟨C',hr,hs,hg⟩:=bY b o e f rest (i+1) (C.setIfInBounds (o+i) v) (w.setRow b (C.setIfInBounds (o+i) v)) (setRow_heap w b C _ e _ hb) (by simpa using hf) (by simp at hl ⊢;omega) h1
  refine⟨C',by simp only[storeCells,Sem.run_bind,hst,Result.andThen_ok,hr,setRow_setRow],by simpa using hs,fun j=>?_⟩
  rw[hg j]
  by_cases hj:j=o+i
  ·subst hj
   rw[if_neg (by omega),if_pos ⟨by omega,by simp⟩]
   simp[hi]
  by_cases hj2:o+(i+1)<=j/\j<o+(i+1)+rest.length
  ·rw[if_pos hj2,if_pos ⟨by omega,by simp;omega⟩]
   have:j-(o+i)=(j-(o+(i+1)))+1:=by omega
   rw[this];simp
  rw[if_neg hj2,if_neg (by simp;omega)]
  rw[Array.getElem?_setIfInBounds,if_neg (by omega)]
theorem Db {o:Nat}{C:Array Value}{e:TypeId}{f:Nat×Nat}(hb:w.heap[b]?=some (.cells C e f))(hl:o+n<=C.size):∃ cs:List Value,cs.length=n/\(loadCells ⟨b,o,none⟩ n).run P w=.ok ⟨cs⟩ w/\∀ j,j<n->cs[j]?=C[o+j]?:=by
 refine⟨(C.toList.drop o).take n,by simp;omega,?_,fun j hj=>?_⟩
 ·have:=run_loadCells_list (P:=P) w ⟨b,o,none⟩ ((C.toList.drop o).take n) (fun j v hv=>?_)
  ·have hn:((C.toList.drop o).take n).length=n:=by simp;omega
   rw[hn]at this
   exact this
  rw[ed,show w.cell? ⟨b,o+j,none⟩=C[o+j]? by simp[World.cell?,hb]]
  rw[List.getElem?_take]at hv
  split at hv
  ·simpa using hv
  cases hv
 rw[List.getElem?_take,if_pos hj];simp
theorem gL {o:Nat}{C:Array Value}{e:TypeId}{f:Nat×Nat}(hb:w.heap[b]?=some (.cells C e f))(hl:o+n<=C.size):(loadCells ⟨b,o,none⟩ n).run P w=.ok ⟨(C.toList.drop o).take n⟩ w:=by
 have:=run_loadCells_list (P:=P) w ⟨b,o,none⟩ ((C.toList.drop o).take n) (fun j v hv=>?_)
 ·have hn:((C.toList.drop o).take n).length=n:=by simp;omega
  rw[hn]at this
  exact this
 rw[ed,show w.cell? ⟨b,o+j,none⟩=C[o+j]? by simp[World.cell?,hb]]
 rw[List.getElem?_take]at hv
 split at hv
 ·simpa using hv
 cases hv
def kD(ρ:cY)(r:Nat)(l:jU):cY:=fun x=>if x=r then some l else ρ x
theorem oQ {l:jU}(hr:ρ r=none):ρ.le (kD ρ r l):=by
 intro x m hx
 unfold kD
 split
 ·subst_vars;rw[hr]at hx;cases hx
 exact hx
theorem aJ.fresh0(H:aJ P ρ h w):ρ h.next=none:=by simpa using H.fresh 0
theorem uT {l:jU}(H:aJ P ρ h w)(hr:r=h.next)(hn:h'.next=h.next+h.step)(hs:h'.step=h.step)(j:Nat):kD ρ r l (h'.next+h'.step*j)=none:=by
 unfold kD
 have hp:=H.step
 rw[hn,hs,hr,if_neg (by have:=Nat.zero_le (h.step*j);omega)]
 have:=H.fresh (j+1)
 rw[Nat.mul_add,Nat.mul_one]at this
 rwa [Nat.add_assoc,Nat.add_comm h.step]
theorem aJ.new_block {x:aG}{l:jU}(H:aJ P ρ h w)(e:h.new x=some (r,h'))(hl:l.block=w.heap.size)
  (os:w'.os=w.os) (tape:w'.tape=w.tape) (out:w'.output=w.output) (hsz:w'.heap.size=w.heap.size+1) (old:∀ k,k<w.heap.size->w'.heap[k]?=w.heap[k]?)
  (hx:kB P (kD ρ r l) w' l x):aJ P (kD ρ r l) h' w'/\bE ρ h w (kD ρ r l) h' w':=by
 obtain⟨hr,hg,hn,hs⟩:=rR e
 have hnone:ρ r=none:=by rw[hr];exact H.fresh0
 have le:=oQ (l:=l) hnone
 refine⟨⟨?_,?_,uT H hr hn hs,by rw[hs];exact H.step⟩,⟨le,os,tape,out,by omega,?_,fun k hk _=>old k hk,?_,⟨1,by rw[hn];omega⟩,hs⟩⟩
 ·intro m row hm
  rw[hg]at hm
  split at hm
  ·simp at hm;subst hm;subst_vars
   exact⟨l,by simp[kD],hx⟩
  rename_i hne
  obtain⟨l',hl',hr'⟩:=H.loc m row hm
  exact⟨l',le _ _ hl',hr'.keep le (old _ hr'.lt)⟩
 ·intro a b rowa rowb la lb ha hb hla hlb hab hown
  rw[hg]at ha hb
  unfold kD at hla hlb
  by_cases h1:a=r
  ·by_cases h2:b=r
   ·omega
   rw[if_pos h1]at hla;rw[if_neg h2]at hlb hb
   simp at hla;subst hla
   obtain⟨l',hl',hr'⟩:=H.loc b rowb hb
   rw[hl']at hlb;simp at hlb;subst hlb
   have:=hr'.lt;omega
  by_cases h2:b=r
  ·rw[if_neg h1]at hla ha;rw[if_pos h2]at hlb
   simp at hlb;subst hlb
   obtain⟨l',hl',hr'⟩:=H.loc a rowa ha
   rw[hl']at hla;simp at hla;subst hla
   have:=hr'.lt;omega
  rw[if_neg h1]at hla ha;rw[if_neg h2]at hlb hb
  exact H.inj a b rowa rowb la lb ha hb hla hlb hab hown
 ·intro m row lm hm hmo hlm hlt
  rw[hg]at hm
  unfold kD at hlm
  by_cases h1:m=r
  ·rw[if_pos h1]at hlm;simp at hlm;subst hlm;omega
  rw[if_neg h1]at hlm hm
  exact⟨m,row,lm,hm,hmo,hlm,rfl⟩
 intro m lm hlm
 unfold kD at hlm
 split at hlm
 ·exact .inr ⟨0,by simp;omega⟩
 exact .inl hlm
variable{cs':List Value}
theorem aJ.write {l:jU}{C C':Array Value}{f:Nat×Nat}(H:aJ P ρ h w)(g:bm h r=some (e,cs))(hl:ρ r=some l)
  (hb:w.heap[l.block]?=some (.cells C e f)) (hp:h.put r (some (.cells e cs'))=some h') (hs:C'.size=C.size) (hlen:cs'.length=cs.length)
  (rel:∀ i v,cs'[i]?=some v->∃ u,C'[l.base+i]?=some u/\ay ρ v u):aJ P ρ h' (w.setRow l.block C')/\bE ρ h w ρ h' (w.setRow l.block C'):=by
 obtain⟨hg,hn,hst⟩:=jh hp
 have hrow:=cw g
 have other:∀ k,k≠l.block->(w.setRow l.block C').heap[k]?=w.heap[k]?:=fun k hk=>by
  simp only[World.setRow,Array.getElem?_modify];rw[if_neg (by omega)]
 refine⟨⟨?_,?_,by rw[hn,hst];exact H.fresh,by rw[hst];exact H.step⟩,⟨cY.le_refl _,rfl,rfl,rfl,by simp[World.setRow],?_,?_,fun _ _ x=>.inl x,⟨0,by rw[hn];simp⟩,hst⟩⟩
 ·intro m row hm
  rw[hg]at hm
  split at hm
  ·simp at hm;subst hm;subst_vars
   obtain⟨l',hl',C0,f0,a,b,c,d,s,_⟩:=H.loc _ _ hrow
   rw[hl]at hl';simp at hl';subst hl'
   rw[hb]at a;simp at a;obtain⟨rfl,rfl⟩:=a
   exact⟨l,hl,C',f,setRow_heap w _ _ _ _ _ hb,by rw[hs];exact b,by omega,by omega,s,rel⟩
  rename_i hne
  obtain⟨l',hl',hr'⟩:=H.loc m row hm
  refine⟨l',hl',hr'.keep (cY.le_refl _) (other _ fun hh=>hne (H.inj m r row _ l' l hm hrow hl' hl hh (.inr rfl)))⟩
 ·intro a b rowa rowb la lb ha hb' hla hlb hab hown
  rw[hg]at ha hb'
  have ha':∃ rowa',h.get a=some rowa'/\(rowa.own=true->rowa'.own=true):=by
   split at ha
   ·subst_vars;exact⟨_,hrow,fun _=>rfl⟩
   exact⟨_,ha,id⟩
  have hb'':∃ rowb',h.get b=some rowb'/\(rowb.own=true->rowb'.own=true):=by
   split at hb'
   ·subst_vars;exact⟨_,hrow,fun _=>rfl⟩
   exact⟨_,hb',id⟩
  obtain⟨_,ha',oa⟩:=ha'
  obtain⟨_,hb'',ob⟩:=hb''
  exact H.inj a b _ _ la lb ha' hb'' hla hlb hab (hown.imp oa ob)
 ·intro m row lm hm hmo hlm _
  rw[hg]at hm
  split at hm
  ·subst_vars;exact⟨_,_,_,hrow,rfl,hlm,rfl⟩
  exact⟨m,row,lm,hm,hmo,hlm,rfl⟩
 intro k hk hno
 exact other k fun hh=>hno r _ l hrow rfl hl hh.symm
theorem aJ.drop (H:aJ P ρ h w)(hp:h.put r none=some h'):aJ P ρ h' w/\bE ρ h w ρ h' w:=by
 obtain⟨hg,hn,hst⟩:=jh hp
 have sub:∀ m row,h'.get m=some row->h.get m=some row:=fun m row hm=>by
  rw[hg]at hm;split at hm
  ·cases hm
  exact hm
 exact⟨⟨fun m row hm=>H.loc m row (sub m row hm),fun a b x y la lb ha hb=>H.inj a b x y la lb (sub _ _ ha) (sub _ _ hb),by rw[hn,hst];exact H.fresh,by rw[hst];exact H.step⟩,
  ⟨cY.le_refl _,rfl,rfl,rfl,Nat.le_refl _,fun m row l hm ho hl _=>⟨m,row,l,sub _ _ hm,ho,hl,rfl⟩,fun _ _ _=>rfl,fun _ _ x=>.inl x,⟨0,by rw[hn];simp⟩,hst⟩⟩
variable{r':Nat}
theorem aJ.move {l l':jU}{C C':Array Value}{f:Nat×Nat}{h₀:AW}(H:aJ P ρ h w)(g:bm h r=some (e,cs))(hl:ρ r=some l)
  (hb:w.heap[l.block]?=some (.cells C e f)) (hp:h.put r none=some h₀) (hnew:h₀.new (.cells e cs')=some (r',h')) (hs:C'.size=C.size) (hl':l'.block=l.block)
  (h1:cs'.length<=l'.ext) (h2:l'.base+l'.ext<=C.size) (h3:l'.esz=l.esz) (h4:l'.base=l.base∨uf P e=true)
  (rel:∀ i v,cs'[i]?=some v->∃ u,C'[l'.base+i]?=some u/\ay ρ v u):aJ P (kD ρ r' l') h' (w.setRow l.block C')/\bE ρ h w (kD ρ r' l') h' (w.setRow l.block C'):=by
 obtain⟨hg₀,hn₀,hst₀⟩:=jh hp
 obtain⟨hr',hg,hn,hst⟩:=rR hnew
 have hrow:=cw g
 have hnone:ρ r'=none:=by rw[hr',hn₀];exact H.fresh0
 have le:=oQ (l:=l') hnone
 have other:∀ k,k≠l.block->(w.setRow l.block C').heap[k]?=w.heap[k]?:=fun k hk=>by
  simp only[World.setRow,Array.getElem?_modify];rw[if_neg (by omega)]
 have sub:∀ m row,h'.get m=some row->m≠r'->h.get m=some row/\m≠r:=fun m row hm hne=>by
  rw[hg,if_neg hne,hg₀]at hm
  split at hm
  ·cases hm
  exact⟨hm,by assumption⟩
 refine⟨⟨?_,?_,fun j=>?_,by rw[hst,hst₀];exact H.step⟩,⟨le,rfl,rfl,rfl,by simp[World.setRow],?_,?_,?_,⟨1,by rw[hn,hn₀,hst₀];omega⟩,by rw[hst,hst₀]⟩⟩
 ·intro m row hm
  by_cases hne:m=r'
  ·rw[hg,if_pos hne]at hm
   simp at hm;subst hm;subst hne
   obtain⟨l₁,hl₁,C0,f0,a,b,c,d,s,_⟩:=H.loc _ _ hrow
   rw[hl]at hl₁;simp at hl₁;subst hl₁
   rw[hb]at a;simp at a;obtain⟨rfl,rfl⟩:=a
   refine⟨l',by simp[kD],C',f,?_,by rw[hs];exact b,h1,by omega,⟨by rw[h3];exact s.size,h4.elim (fun q=>by rw[q];exact s.home) .inr⟩,fun i v hv=>let ⟨u,x,y⟩:=rel i v hv;⟨u,x,y.mono le⟩⟩
   rw[hl'];exact setRow_heap w _ _ _ _ _ hb
  obtain⟨hm',hne'⟩:=sub m row hm hne
  obtain⟨l₁,hl₁,hr₁⟩:=H.loc m row hm'
  exact⟨l₁,le _ _ hl₁,hr₁.keep le (other _ fun hh=>hne' (H.inj m r row _ l₁ l hm' hrow hl₁ hl hh (.inr rfl)))⟩
 ·intro a b rowa rowb la lb ha hb' hla hlb hab hown
  have key:∀ m row lm,h'.get m=some row->kD ρ r' l' m=some lm->m≠r'->lm.block≠l.block:=fun m row lm hm hlm hne hh=>by
   obtain⟨hm',hne'⟩:=sub m row hm hne
   unfold kD at hlm;rw[if_neg hne]at hlm
   exact hne' (H.inj m r row _ lm l hm' hrow hlm hl hh (.inr rfl))
  by_cases h1:a=r'
  ·by_cases h2:b=r'
   ·omega
   have hbb:=key b rowb lb hb' hlb h2
   unfold kD at hla;rw[if_pos h1]at hla;simp at hla;subst hla
   exact absurd (hab.symm.trans hl') hbb
  by_cases h2:b=r'
  ·have haa:=key a rowa la ha hla h1
   unfold kD at hlb;rw[if_pos h2]at hlb;simp at hlb;subst hlb
   exact absurd (hab.trans hl') haa
  obtain⟨ha',_⟩:=sub a rowa ha h1
  obtain⟨hb'',_⟩:=sub b rowb hb' h2
  unfold kD at hla hlb;rw[if_neg h1]at hla;rw[if_neg h2]at hlb
  exact H.inj a b _ _ la lb ha' hb'' hla hlb hab hown
 ·have:=uT (P:=P) (l:=l') (h:=h₀) (h':=h') (H.drop hp).1 hr' hn hst j
  exact this
 ·intro m row lm hm hmo hlm _
  by_cases hne:m=r'
  ·unfold kD at hlm;rw[if_pos hne]at hlm;simp at hlm;subst hlm
   exact⟨r,_,l,hrow,rfl,hl,hl'.symm⟩
  obtain⟨hm',_⟩:=sub m row hm hne
  unfold kD at hlm;rw[if_neg hne]at hlm
  exact⟨m,row,lm,hm',hmo,hlm,rfl⟩
 ·intro k hk hno
  exact other k fun hh=>hno r _ l hrow rfl hl hh.symm
 intro m lm hlm
 unfold kD at hlm
 split at hlm
 ·exact .inr ⟨0,by simp;omega⟩
 exact .inl hlm
end
end Go.Am
namespace Go.Am
section
variable{P:Program}{ρ:cY}{h h':AW}{w:World}
variable{a:ah}{act:Act}
theorem aP (hs:aF ρ a act.tmps.toList){x:Operand}{v:Value}(e:aX a x=some v):ay ρ v (act.eval x):=by
 cases x with
 | tmp t =>
  obtain⟨u,hu,hr⟩:=hs.get e
  have:act.eval (.tmp t)=u:=by
   simp only[Act.eval]
   rw[Array.getD_eq_getD_getElem?,←Array.getElem?_toList,hu];rfl
  rw[this];exact hr
 | const c =>
  simp only[aX]at e
  split at e
  ·simp at e;subst e;exact .of_plain (by assumption)
  cases e
 | global g=>simp[aX]at e
 | func f =>
  simp[aX]at e;subst e
  exact .func rfl .nil .nil
theorem om (hs:aF ρ a act.tmps.toList):∀ {xs:List Operand} {vs:List Value},ky a xs=some vs->aF ρ vs (xs.map act.eval)
 | [],vs,e=>by simp[ky]at e;subst e;exact .nil
 | x::xs,vs,e=>by
  simp only[ky]at e
  split at e
  ·rename_i v ev
   split at e
   ·rename_i us eu
    simp at e;subst e
    exact .cons (aP hs ev) (om hs eu)
   cases e
  cases e
variable{t:TypeId}
theorem lO {b:Bool}(e:py P t=some b)(w:World):(isAgg t).run P w=.ok b w:=by
 unfold py at e
 cases hu:P.underlying t with
 | none=>simp[hu]at e
 | some d=>cases d <;> simp[hu]at e <;> subst e <;> simp[isAgg,run_underlying hu]
variable{n:Nat}
theorem wG (e:aB P t=some n):∃ i,P.info? t=some i/\i.size=n:=by
 unfold aB at e
 split at e
 ·rename_i i hi;simp at e;exact⟨i,hi,e⟩
 cases e
theorem du {i:TypeInfo}(hi:P.info? t=some i)(w:World):(typeInfo t).run P w=.ok i w:=by simp[typeInfo,hi]
theorem bw (e:aB P t=some n)(w:World):(sizeOf t).run P w=.ok n w:=by
 obtain⟨i,hi,rfl⟩:=wG e
 simp[sizeOf,du hi]
variable{cs:List Value}
theorem nD {cs':Array Value}{off:Nat}{v:Value}(e:bM P t cs off=some v)(hr:aF ρ cs cs'.toList)(w:World) :
  ∃ v',(part t cs' off).run P w=.ok v' w/\ay ρ v v':=by
 unfold bM at e
 split at e
 ·rename_i ha
  split at e
  ·rename_i n hn
   split at e
   ·rename_i vs hc
    simp at e;subst e
    obtain⟨rfl,hl,_,_⟩:=c9 hc
    refine⟨.agg (cs'.extract off (off+n)),by simp[part,lO ha,bw hn],.agg ?_⟩
    have:(cs'.extract off (off+n)).toList=(cs'.toList.drop off).take n:=by simp[List.extract_eq_take_drop]
    rw[this]
    exact (hr.drop off).take n
   cases e
  cases e
 ·rename_i ha
  obtain⟨u,hu,hv⟩:=hr.get e
  rw[Array.getElem?_toList]at hu
  exact⟨u,by simp[part,lO ha,hu],hv⟩
 cases e
variable{r off:Nat}
theorem pY {l:jU}{v:Value}(H:aJ P ρ h w)(g:ge h r=some cs)(hl:ρ r=some l)(e:bM P t cs off=some v) :
  ∃ v',(loadVar t ⟨l.block,l.base+off,none⟩).run P w=.ok v' w/\ay ρ v v':=by
 obtain⟨l',hl',rel⟩:=H.at_read g
 rw[hl]at hl';simp at hl';subst hl'
 unfold bM at e
 split at e
 ·rename_i ha
  split at e
  ·rename_i n hn
   split at e
   ·rename_i vs hc
    simp at e;subst e
    obtain⟨rfl,hle,hlen,hoff⟩:=c9 hc
    obtain⟨us,hur,hus⟩:=i9 (w:=w) (ρ:=ρ) (b:=l.block) (o:=l.base+off) (vs:=(cs.drop off).take n) (fun i x hx=>by
     rw[List.getElem?_take]at hx
     split at hx
     ·rw[List.getElem?_drop]at hx
      obtain⟨u,hu,hv⟩:=rel _ _ hx
      exact⟨u,by rw[←hu];congr 2;omega,hv⟩
     cases hx)
    have hrun:=run_loadCells_list (P:=P) w ⟨l.block,l.base+off,none⟩ us (fun j u hu=>by rw[ed];exact hus j u hu)
    have hun:us.length=n:=by rw[←hur.length,hlen]
    rw[hun]at hrun
    exact⟨.agg ⟨us⟩,by simp[loadVar,lO ha,bw hn,hrun],.agg hur⟩
   cases e
  cases e
 ·rename_i ha
  obtain⟨u,hu,hv⟩:=rel _ _ e
  exact⟨u,by simp[loadVar,lO ha,hu],hv⟩
 cases e
variable{x x' v:Value}
theorem yb (e:mw P t x h=some v)(hx:ay ρ x x')(H:aJ P ρ h w):∃ v',(Instr.loadAt t x').run P w=.ok v' w/\ay ρ v v':=by
 unfold mw at e
 split at e
 ·rename_i r off
  split at e
  ·rename_i cs g
   cases hx with
   | ptr hl =>
    obtain⟨v',hrun,hv⟩:=pY H g hl e
    exact⟨v',by simp[Instr.loadAt,Instr.sureAddr,hrun],hv⟩
  cases e
 cases e
variable{v':Value}
theorem vS (e:vK P t x v h=some h')(hx:ay ρ x x')(hv:ay ρ v v')(H:aJ P ρ h w) :
  ∃ w',(Instr.storeAt t x' v').run P w=.ok () w'/\aJ P ρ h' w'/\bE ρ h w ρ h' w':=by
 unfold vK at e
 split at e
 case h_2=>cases e
 rename_i r off
 split at e
 case h_2=>cases e
 rename_i ty cs n g hn
 split at e
 case h_2=>cases e
 rename_i hc
 simp only[Bool.and_eq_true]at hc
 obtain⟨hc1,hc2⟩:=hc
 split at e
 case h_2=>cases e
 rename_i cs' hlay
 cases hx with
 | @ptr _ _ l hl =>
  obtain⟨l',C,f,hl',hb,hf,h1,h2,h3,rel⟩:=H.at_cells g
  rw[hl]at hl';simp at hl';subst hl'
  have hcells:=hv.cells (AP hc2)
  have hsz:v'.cells.size=n:=by
   have:=hcells.length
   rw[be hc1]at this
   simpa using this.symm
  have hle:=(kf hlay).2
  have hlen:=hcells.length
  obtain⟨C',hrun,hs,hget⟩:=bY (P:=P) l.block (l.base+off) ty f v'.cells.toList 0 C w hb hf (by omega) (hcells.one hc2)
  have hw:=H.write (C':=C') g hl hb e hs (iu hlay) (fun i u hi=>by
   rw[nZ hlay]at hi
   rw[hget]
   split at hi
   ·rename_i hin
    rw[if_pos (by omega)]
    obtain⟨u',hu',hr⟩:=hcells.get hi
    exact⟨u',by rw[←hu'];congr 1;omega,hr⟩
   rename_i hin
   rw[if_neg (by omega)]
   exact rel _ _ hi)
  refine⟨_,?_,hw⟩
  simp[Instr.storeAt,Instr.sureAddr,storeVar,bw hn,hsz]
  exact hrun
variable{zs:List Value}
theorem ei (e:dU P t=some zs)(w:World):∃ z,(zeroValue t).run P w=.ok z w/\z.cells.toList=zs/\gf zs=true:=by
 unfold dU at e
 split at e
 ·rename_i i hi
  split at e
  ·rename_i z hz
   split at e
   ·rename_i hf
    simp at e
    exact⟨z,by simp[zeroValue,du hi,hz],e,by rw[←e];exact hf⟩
   cases e
  cases e
 cases e
variable{e:TypeId}{C:Array Value}
theorem dK (H:aJ P ρ h w)(en:h.new (.cells e cs)=some (r,h'))(hsz:aB P e=some n)
  (hlen:cs.length<=C.size) (rel:∀ (i:Nat) (v:Value),cs[i]?=some v->∃ u:Value,C[i]?=some u/\ay ρ v u) :
  aJ P (kD ρ r ⟨w.heap.size,0,C.size,n⟩) h' (w.alloc (.cells C e))/\bE ρ h w (kD ρ r ⟨w.heap.size,0,C.size,n⟩) h' (w.alloc (.cells C e)):=by
 have hr:=(rR en).1
 have hnone:ρ r=none:=by rw[hr];exact H.fresh0
 refine H.new_block en rfl rfl rfl rfl (by simp) (fun k hk=>?_) ?_
 ·show (w.heap.push _)[k]?=_
  rw[Array.getElem?_push,if_neg (by omega)]
 refine⟨C,(0,0),?_,.inl rfl,hlen,by simp,⟨hsz,.inl rfl⟩,fun i v hv=>let ⟨u,x,y⟩:=rel i v hv;⟨u,by simpa using x,y.mono (oQ hnone)⟩⟩
 show (w.heap.push _)[w.heap.size]?=_
 simp
theorem iW (hr:aF ρ cs C.toList):∀ (i:Nat) (v:Value),cs[i]?=some v->∃ u:Value,C[i]?=some u/\ay ρ v u:=fun i v hv=>by
 obtain⟨u,a,b⟩:=hr.get hv
 exact⟨u,by rwa [Array.getElem?_toList]at a,b⟩
theorem uu {l:jU}:ay (kD ρ r l) (nJ r) (.pointer (some ⟨l.block,l.base+0,none⟩)):=.ptr (by simp[kD])
theorem cS (en:cf P h e cs=some (r,h')):∃ n,aB P e=some n/\h.new (.cells e cs)=some (r,h'):=by
 unfold cf at en
 split at en
 ·exact⟨_,by assumption,en⟩
 cases en
theorem Ap (H:aJ P ρ h w)(hv:ay ρ v v')(hj:tL v=false)(en:cf P h e v.cells.toList=some (r,h')) :
  ∃ u w' ρ',(Instr.box e v').run P w=.ok u w'/\ay ρ' (nJ r) u/\aJ P ρ' h' w'/\bE ρ h w ρ' h' w':=by
 obtain⟨n,hsz,en⟩:=cS en
 have hc:=hv.cells hj
 obtain⟨a,b⟩:=dK (C:=v'.cells) H en hsz (by have:=hc.length;simp at this ⊢;omega) (iW hc)
 exact⟨_,_,_,by simp[Instr.box,newVar,newRow],uu,a,b⟩
theorem v7 (H:aJ P ρ h w)(hz:dU P e=some cs)(en:cf P h e cs=some (r,h')) :
  ∃ u w' ρ',(Instr.alloc e true (.tuple #[])).run P w=.ok u w'/\ay ρ' (nJ r) u/\aJ P ρ' h' w'/\bE ρ h w ρ' h' w':=by
 obtain⟨n,hsz,en⟩:=cS en
 obtain⟨z,hz1,hz2,hz3⟩:=ei hz w
 have hc:aF ρ cs z.cells.toList:=by rw[hz2];exact .of_allFlat hz3
 obtain⟨a,b⟩:=dK (C:=z.cells) H en hsz (by have:=hc.length;simp at this ⊢;omega) (iW hc)
 exact⟨_,_,_,by simp[Instr.alloc,hz1,newVar,newRow],uu,a,b⟩
end
end Go.Am
namespace Go.Am
section
variable{P:Program}{ρ:cY}{h h':AW}{w:World}
theorem uV(off:Nat):∀ (vs:List Value) (k:Nat) (C:Array Value),off+k+vs.length<=C.size →
  ((vs.zipIdx k).foldl (fun (cs:Array Value) (p:Value×Nat)=>cs.setIfInBounds (off+p.2) p.1) C).size=C.size /\
  ∀ j,((vs.zipIdx k).foldl (fun (cs:Array Value) (p:Value×Nat)=>cs.setIfInBounds (off+p.2) p.1) C)[j]?=if off+k<=j/\j<off+k+vs.length then vs[j-(off+k)]? else C[j]?
 | [],k,C,_=>⟨rfl,fun j=>by rw[if_neg (by simp)];rfl⟩
 | v::vs,k,C,hl=>by
  obtain⟨a,b⟩:=uV off vs (k+1) (C.setIfInBounds (off+k) v) (by simp at hl ⊢;omega)
  refine⟨by simpa using a,fun j=>?_⟩
  simp only[List.zipIdx_cons,List.foldl_cons]
  rw[b j]
  by_cases hj:j=off+k
  ·subst hj
   rw[if_neg (by omega),if_pos ⟨by omega,by simp⟩]
   have:off+k<C.size:=by simp at hl;omega
   simp[this]
  by_cases hj2:off+(k+1)<=j/\j<off+(k+1)+vs.length
  ·rw[if_pos hj2,if_pos ⟨by omega,by simp;omega⟩]
   have:j-(off+k)=(j-(off+(k+1)))+1:=by omega
   rw[this];simp
  rw[if_neg hj2,if_neg (by simp;omega),Array.getElem?_setIfInBounds,if_neg (by omega)]
def Ea(ρ:cY)(ps qs:List (Nat×Value)):Prop:=ps.map (·.1)=qs.map (·.1)/\aF ρ (ps.map (·.2)) (qs.map (·.2))
variable{a:ah}{act:Act}
theorem lA (hs:aF ρ a act.tmps.toList):∀ {xs:List (Nat×Operand)} {ps:List (Nat×Value)},ew a xs=some ps->Ea ρ ps (xs.map fun p=>(p.1,act.eval p.2))
 | [],ps,e=>by simp[ew]at e;subst e;exact⟨rfl,.nil⟩
 | (i,x)::xs,ps,e=>by
  simp only[ew]at e
  split at e
  ·rename_i v ev
   split at e
   ·rename_i us eu
    simp at e;subst e
    obtain⟨p,q⟩:=lA hs eu
    exact⟨by simp[p],.cons (aP hs ev) q⟩
   cases e
  cases e
theorem qA {placeB place:Nat->Option (Nat×Nat)}(hp:∀ i x,placeB i=some x->place i=some x):∀ {ps qs:List (Nat×Value)} {cs cs₂:List Value} {C:Array Value},sT placeB cs ps=some cs₂->Ea ρ ps qs->aF ρ cs C.toList →
  ∃ C₂,Instr.fill place C qs=some C₂/\aF ρ cs₂ C₂.toList
 | [],[],cs,cs₂,C,e,_,hr=>by simp[sT]at e;subst e;exact⟨C,rfl,hr⟩
 | [],_::_,_,_,_,_,h,_=>by simp[Ea]at h
 | _::_,[],_,_,_,_,h,_=>by simp[Ea]at h
 | (i,v)::ps,(j,u)::qs,cs,cs₂,C,e,h,hr=>by
  obtain⟨h1,h2⟩:=h
  simp only[List.map_cons,List.cons.injEq]at h1
  obtain⟨rfl,h1⟩:=h1
  simp only[List.map_cons]at h2
  cases h2 with
  | cons hv h2 =>
   simp only[sT]at e
   split at e
   ·cases e
   rename_i off size hpl
   split at e
   ·rename_i hb
    simp only[Bool.and_eq_true,Bool.not_eq_true']at hb
    obtain⟨hb,hj⟩:=hb
    have hb:=be hb
    split at e
    ·rename_i cs₁ hlay
     have hc:=hv.cells hj
     have hlen:=hc.length
     have hle:=(kf hlay).2
     have hrl:=hr.length
     have hsz:u.cells.size=size:=by simp at hlen hb ⊢;omega
     have hgt:¬ off+u.cells.size > C.size:=by simp at hlen hb hrl ⊢;simp at hle;omega
     have hF:=uV off u.cells.toList 0 C (by simp at hgt ⊢;omega)
     have key:(u.cells.zipIdx.foldl (fun cs (p:Value×Nat)=>cs.setIfInBounds (off+p.2) p.1) C)=(u.cells.toList.zipIdx.foldl (fun (cs:Array Value) (p:Value×Nat)=>cs.setIfInBounds (off+p.2) p.1) C):=by
      rw[←Array.foldl_toList];simp
     obtain⟨C₂,hf,hr₂⟩:=qA hp (C:=u.cells.toList.zipIdx.foldl (fun (cs:Array Value) (p:Value×Nat)=>cs.setIfInBounds (off+p.2) p.1) C) e ⟨h1,h2⟩ (aF.of_get (by rw[iu hlay];simp at hF hrl ⊢;omega) fun k x hx=>by
      rw[nZ hlay]at hx
      rw[Array.getElem?_toList,hF.2]
      split at hx
      ·rename_i hin
       rw[if_pos (by omega)]
       obtain⟨y,hy,hxy⟩:=hc.get hx
       exact⟨y,by simpa using hy,hxy⟩
      rename_i hin
      rw[if_neg (by omega)]
      obtain⟨y,hy,hxy⟩:=hr.get hx
      exact⟨y,by simpa using hy,hxy⟩)
     refine⟨C₂,?_,hr₂⟩
     simp only[Instr.fill,hp _ _ hpl]
     rw[if_neg (by simp only[hsz];simp;simp at hgt;omega)]
     rw[←hf,←key]
    cases e
   cases e
theorem An(fs:List Field):∀ {pl:List (Nat×Nat)},nK P fs=some pl->(fs.mapM fun f=>(do pure (f.offset,←sizeOf f.type):Sem (Nat×Nat))).run P w=.ok pl w:=by
 induction fs with
 | nil=>intro pl e;simp[nK]at e;subst e;simp
 | cons f fs ih =>
  intro pl e
  simp only[nK]at e
  split at e
  ·rename_i n ps hn hps
   simp at e;subst e
   simp only[List.mapM_cons,Sem.run_bind,bw hn,Result.andThen_ok,ih hps,Sem.run_pure]
  cases e
variable{t:TypeId}
theorem v6 {ps:List (Nat×Value)}{qs:Array (Nat×Value)}{v:Value}(e:A9 P t ps=some v)(h:Ea ρ ps qs.toList):∃ u,(Instr.build t qs).run P w=.ok u w/\ay ρ v u:=by
 unfold A9 at e
 split at e
 ·rename_i fields zs hu hz
  obtain⟨z,hz1,hz2,hz3⟩:=ei hz w
  split at e
  ·rename_i pl hpl
   split at e
   ·rename_i cs hf
    simp at e;subst e
    obtain⟨C₂,hf2,hr⟩:=qA (place:=fun i=>(⟨pl⟩:Array (Nat×Nat))[i]?) (fun i x hx=>by simpa using hx) hf h (C:=z.cells) (by rw[hz2];exact .of_allFlat hz3)
    refine⟨.agg C₂,?_,.agg hr⟩
    have hm:=An (P:=P) (w:=w) fields.toList hpl
    have hm':(fields.mapM fun f=>(do pure (f.offset,←sizeOf f.type):Sem (Nat×Nat))).run P w=.ok ⟨pl⟩ w:=by
     rw[Array.mapM_eq_mapM_toList,Sem.run_map,hm];rfl
    simp only[Instr.build,Sem.run_bind,hz1,Result.andThen_ok,run_underlying hu,hm',hf2,Sem.run_pure]
   cases e
  cases e
 ·rename_i n el zs hu hz
  obtain⟨z,hz1,hz2,hz3⟩:=ei hz w
  split at e
  ·rename_i s hs
   split at e
   ·rename_i cs hf
    simp at e;subst e
    obtain⟨C₂,hf2,hr⟩:=qA (place:=fun i=>some (i*s,s)) (fun i x hx=>hx) hf h (C:=z.cells) (by rw[hz2];exact .of_allFlat hz3)
    exact⟨.agg C₂,by simp only[Instr.build,Sem.run_bind,hz1,Result.andThen_ok,run_underlying hu,bw hs,hf2,Sem.run_pure],.agg hr⟩
   cases e
  cases e
 cases e
variable{zs:List Value}
theorem j2:∀ {n:Nat} {ys:List Value},rep zs n=some ys->ys.length=n*zs.length/\∀ i,i<n*zs.length->ys[i]?=zs[i%zs.length]?
 | 0,ys,e=>by simp[rep]at e;subst e;simp
 | n+1,ys,e=>by
  simp only[rep]at e
  split at e
  ·rename_i us eu
   have:=eP e
   subst this
   obtain⟨a,b⟩:=j2 eu
   refine⟨by simp[a,Nat.add_mul];omega,fun i hi=>?_⟩
   by_cases h:i<zs.length
   ·rw[List.getElem?_append_left h,Nat.mod_eq_of_lt h]
   rw[List.getElem?_append_right (by omega),b _ (by rw[Nat.add_mul]at hi;omega)]
   congr 1
   have:=Nat.mod_eq_sub_mod (a:=i) (b:=zs.length) (by omega)
   rw[this]
  cases e
theorem kZ (hz:gf zs=true):∀ {n:Nat} {ys:List Value},rep zs n=some ys->aF ρ ys ys:=by
 have hr:aF ρ zs zs:=.of_allFlat hz
 intro n
 induction n with
 | zero=>intro ys e;simp[rep]at e;subst e;exact .nil
 | succ n ih =>
  intro ys e
  simp only[rep]at e
  split at e
  ·rename_i us eu
   have:=eP e
   subst this
   exact hr.append (ih eu)
  cases e
theorem fT {z:Array Value}{n m:Nat}{ys:List Value}(e:rep zs n=some ys)(hz:z.toList=zs)(hm:m=n*zs.length)(hpos:m=0∨0<zs.length):((Array.range m).map (z[·%z.size]!)).toList=ys:=by
 subst hz
 obtain⟨a,b⟩:=j2 e
 apply List.ext_getElem?
 intro i
 by_cases hi:i<m
 ·rw[b i (by omega)]
  have hp:0<z.size:=by simp at hpos;omega
  have hlt:i%z.size<z.size:=Nat.mod_lt _ hp
  have hl:z.toList.length=z.size:=by simp
  rw[hl,Array.getElem?_toList,Array.getElem?_toList,Array.getElem?_map]
  rw[Array.getElem?_eq_getElem (by simpa using hi)]
  simp only[Array.getElem_range,Option.map_some]
  rw[getElem!_pos z _ hlt,Array.getElem?_eq_getElem hlt]
 rw[List.getElem?_eq_none (by simp;omega),List.getElem?_eq_none (by omega)]
def eM(P:Program)(ρ:cY)(h:AW)(w:World)(s:Sem Value)(v:Value)(h':AW):Prop :=
 ∃ u w' ρ',s.run P w=.ok u w'/\ay ρ' v u/\aJ P ρ' h' w'/\bE ρ h w ρ' h' w'
theorem eM.quiet {s:Sem Value}{v u:Value}(H:aJ P ρ h w)(hr:s.run P w=.ok u w)(hv:ay ρ v u):eM P ρ h w s v h:=⟨u,w,ρ,hr,hv,H,bE.refl _ _ _⟩
theorem cc {x:Option Value}{res:xn}(e:ret x h=some res):∃ v,x=some v/\res=.val v h:=by
 unfold ret at e
 split at e
 ·simp at e;exact⟨_,rfl,e.symm⟩
 cases e
theorem jC {x:Option (Value×AW)}{res:xn}(e:fx x=some res):∃ v h',x=some (v,h')/\res=.val v h':=by
 unfold fx at e
 split at e
 ·simp at e;exact⟨_,_,rfl,e.symm⟩
 cases e
theorem fS {x:Option (Nat×AW)}{mk:Nat->Value}{res:xn}(e:fG x mk=some res):∃ r h',x=some (r,h')/\res=.val (mk r) h':=by
 unfold fG at e
 split at e
 ·simp at e;exact⟨_,_,rfl,e.symm⟩
 cases e
variable{r cap:Nat}
theorem pW {len:Nat}{l:jU}(hl:len<=cap)(hc:cap<=1000000000000):ay (kD ρ r l) (.slice (some ⟨r,0,none⟩) len cap) (.slice (some ⟨l.block,l.base+0,none⟩) len cap) :=
 .slice hl (fun _=>rfl) fun _=>⟨l,by simp[kD],rfl,fun e=>by unfold ae at e;omega⟩
theorem nF {len:Nat}{ps:List (Nat×Value)}{qs:Array (Nat×Value)}{res:xn}(H:aJ P ρ h w)(e:lG P t len ps h=some res)(hp:Ea ρ ps qs.toList) :
  ∃ v h',res=.val v h'/\eM P ρ h w (Instr.buildSlice t len qs) v h':=by
 unfold lG at e
 split at e
 case h_2=>cases e
 rename_i el hu
 split at e
 case h_2=>cases e
 rename_i n zs hn hz
 split at e
 case h_2=>cases e
 rename_i cs hc hrep
 simp only[Bool.and_eq_true]at hc
 obtain⟨hc1,hc2,hc3⟩:=hc
 have hc1:=be hc1
 have hc2:=bk hc2
 have hc3:=bk hc3
 split at e
 case h_2=>cases e
 rename_i cs₂ hf
 obtain⟨r,h',hnew,rfl⟩:=fS e
 obtain⟨m,hm,hnew⟩:=cS hnew
 obtain⟨z,hz1,hz2,hz3⟩:=ei hz w
 obtain⟨hlen,_⟩:=j2 hrep
 have hzs:z.cells.size=n:=by rw[←hc1,←hz2];simp
 obtain⟨C,hC⟩:∃ C:Array Value,(∃ z0:Array Value,(len*n=0/\z0=#[]∨len*n≠0/\z0=z.cells)/\(Array.range (len*n)).map (z0[·%z0.size]!)=C)/\C.toList=cs:=by
  by_cases h0:len*n=0
  ·refine⟨#[],⟨#[],.inl ⟨h0,rfl⟩,by simp[h0]⟩,?_⟩
   rw[hc1,h0]at hlen
   simpa using (List.eq_nil_of_length_eq_zero hlen).symm
  refine⟨(Array.range (len*n)).map (z.cells[·%z.cells.size]!),⟨z.cells,.inr ⟨h0,rfl⟩,rfl⟩,?_⟩
  refine fT hrep hz2 (by rw[hc1]) (.inr ?_)
  rw[hc1]
  rcases Nat.eq_zero_or_pos n with h1|h1
  ·subst h1;simp at h0
  exact h1
 obtain⟨⟨z0,hz0,hC1⟩,hC2⟩:=hC
 obtain⟨C₂,hf2,hr⟩:=qA (ρ:=ρ) (place:=fun i=>some (i*n,n)) (fun i x hx=>hx) hf hp (C:=C) (by rw[hC2];exact kZ hz3 hrep)
 obtain⟨a,b⟩:=dK (C:=C₂) H hnew hm (by have:=hr.length;simp at this ⊢;omega) (iW hr)
 refine⟨_,h',rfl,_,_,_,?_,pW (Nat.le_refl _) (by omega),a,b⟩
 have hno:¬ (len*n > 2^24):=by omega
 simp only[Instr.buildSlice,Sem.run_bind,run_underlying hu,Result.andThen_ok,bw hn]
 rw[if_neg hno]
 rcases hz0 with ⟨h0,rfl⟩|⟨h0,rfl⟩
 ·rw[if_pos h0]
  simp only[Sem.run_bind,Sem.run_pure,Result.andThen_ok,hC1,hf2,newRow,run_newObj]
  rfl
 rw[if_neg h0]
 simp only[Sem.run_bind,hz1,Sem.run_pure,Result.andThen_ok,hC1,hf2,newRow,run_newObj]
 rfl
end
end Go.Am
namespace Go.Am
section
variable{P:Program}{ρ:cY}{h h':AW}{w:World}
theorem au {a b:Int}: av a b = true ↔ a ≤ b := by
  cases a with
  | ofNat a => cases b with
    | ofNat b => simp only [av]; constructor
                 · intro h; have := bk h; exact Int.ofNat_le.2 this
                 · intro h; exact Nat.ble_eq_true_of_le (Int.ofNat_le.1 h)
    | negSucc b => simp only [av]; constructor
                   · intro h; cases h
                   · intro h; have : (Int.ofNat a : Int) = (a : Int) := rfl; omega
  | negSucc a => cases b with
    | ofNat b => simp only [av]; constructor
                 · intro h; have : (Int.ofNat b : Int) = (b : Int) := rfl; omega
                 · intro h; trivial
    | negSucc b => simp only [av]; constructor
                   · intro h; have := bk h; omega
                   · intro h; exact Nat.ble_eq_true_of_le (by omega)
theorem am (a b : Int) : av a b = decide (a ≤ b) := by
  by_cases h : a ≤ b
  · rw [au.2 h]; simp [h]
  · cases e : av a b with
    | false => simp [h]
    | true => exact absurd (au.1 e) h
theorem aC (a b : Int) : bc a b = (a == b) := by
  have key : bc a b = true ↔ a = b := by
    cases a with
    | ofNat a => cases b with
      | ofNat b => simp only [bc]; constructor
                   · intro h; rw [be h]
                   · intro h; exact bo (Int.ofNat.inj h)
      | negSucc b => simp only [bc]; constructor
                     · intro h; cases h
                     · intro h; cases h
    | negSucc a => cases b with
      | ofNat b => simp only [bc]; constructor
                   · intro h; cases h
                   · intro h; cases h
      | negSucc b => simp only [bc]; constructor
                     · intro h; rw [be h]
                     · intro h; exact bo (Int.negSucc.inj h)
  cases e : bc a b with
  | false =>
    have : a ≠ b := fun h => by rw [key.2 h] at e; cases e
    simp [this]
  | true => simp [key.1 e]
theorem dC(k:IntKind)(n:Int):eG k n=k.wrap n:=by
 unfold eG
 split
 ·rename_i h
  simp only[Bool.and_eq_true,au]at h
  obtain⟨h1,h2⟩:=h
  cases k <;> simp[po,gN,IntKind.wrap,IntKind.bits,IntKind.signed]at h1 h2 ⊢ <;> omega
 rfl
theorem qy {i:Int}{n:Nat}:F0 i n=true↔0<=i/\i<n:=by
 unfold F0
 rw[Bool.and_eq_true,au]
 constructor
 ·rintro ⟨a,b⟩;have:=bk b;omega
 rintro ⟨a,b⟩;exact⟨a,Nat.ble_eq_true_of_le (by omega)⟩
theorem jZ {n:Int}(h0:0<=n)(h1:n<=1000000000000):IntKind.i64.wrap n=n:=by rw[IntKind.wrap_i64];omega
variable{t:TypeId}
theorem o4 {l c l' c':Value}{res:xn}(H:aJ P ρ h w)(e:j8 P t l c h=some res)(hl:ay ρ l l')(hc:ay ρ c c') :
  ∃ v h',res=.val v h'/\eM P ρ h w (Instr.makeSlice t l' c') v h':=by
 unfold j8 at e
 split at e
 case h_2=>cases e
 rename_i el kl l kc c hu
 split at e
 case h_2=>cases e
 rename_i i zs hi hz
 split at e
 case h_2=>cases e
 rename_i cs hcond hrep
 simp only[Bool.and_eq_true,au]at hcond
 obtain⟨⟨h1,h2⟩,h3,h4,h5⟩:=hcond
 have h4:=be h4
 have h5:=bk h5
 have h3:c.toNat*i.bytes<=1000000000000:=bk h3
 obtain⟨r,h',hnew,rfl⟩:=fS e
 obtain⟨m,hm,hnew⟩:=cS hnew
 obtain⟨z,hz1,hz2,hz3⟩:=ei hz w
 obtain⟨hlen,_⟩:=j2 hrep
 have hn:aB P el=some i.size:=by simp[aB,hi]
 cases hl
 cases hc
 obtain⟨C,hC⟩:∃ C:Array Value,(∃ z0:Array Value,(c.toNat*i.size=0/\z0=#[]∨c.toNat*i.size≠0/\z0=z.cells)/\(Array.range (c.toNat*i.size)).map (z0[·%z0.size]!)=C)/\C.toList=cs:=by
  by_cases h0:c.toNat*i.size=0
  ·refine⟨#[],⟨#[],.inl ⟨h0,rfl⟩,by simp[h0]⟩,?_⟩
   rw[h4,h0]at hlen
   simpa using (List.eq_nil_of_length_eq_zero hlen).symm
  refine⟨(Array.range (c.toNat*i.size)).map (z.cells[·%z.cells.size]!),⟨z.cells,.inr ⟨h0,rfl⟩,rfl⟩,?_⟩
  refine fT hrep hz2 (by rw[h4]) (.inr ?_)
  rw[h4]
  rcases Nat.eq_zero_or_pos i.size with h1|h1
  ·rw[h1]at h0;simp at h0
  exact h1
 obtain⟨⟨z0,hz0,hC1⟩,hC2⟩:=hC
 obtain⟨a,b⟩:=dK (ρ:=ρ) (C:=C) H hnew hm (by rw[←hC2];simp) (iW (by rw[hC2];exact kZ hz3 hrep))
 refine⟨_,h',rfl,_,_,_,?_,pW (ρ:=ρ) (by omega) h5,a,b⟩
 have hw1:=jZ h1 (by omega)
 have hw2:=jZ (n:=c) (by omega) (by omega)
 have hb:((i.bytes:Int)*c)<=1000000000000:=by
  have:((c.toNat*i.bytes:Nat):Int)<=1000000000000:=by omega
  rw[Int.natCast_mul,Int.toNat_of_nonneg (by omega)]at this
  rw[Int.mul_comm];exact this
 have hbl:((i.bytes:Int)*l)<=1000000000000:=Int.le_trans (Int.mul_le_mul_of_nonneg_left h2 (by omega)) hb
 have t1:¬ (c<0):=by omega
 have t2:¬ ((i.bytes:Int)*c > 281474976710656):=by omega
 have t3:¬ (l<0):=by omega
 have t4:¬ (l > c):=by omega
 simp only[Instr.makeSlice,Sem.run_bind,run_underlying hu,Result.andThen_ok,asInt,asIntOf,Sem.run_pure,du hi,hw1,hw2]
 rw[if_neg (by simp[t1,t3];omega)]
 simp only[Sem.run_bind,run_askRoom,Result.andThen_ok,bw hn]
 rcases hz0 with ⟨h0,rfl⟩|⟨h0,rfl⟩
 ·rw[if_pos h0]
  simp only[Sem.run_bind,Sem.run_pure,Result.andThen_ok,hC1,newRow,run_newObj]
  rfl
 rw[if_neg h0]
 simp only[Sem.run_bind,hz1,Sem.run_pure,Result.andThen_ok,hC1,newRow,run_newObj]
 rfl
theorem bA {k:IntKind}{i:Int}{y:Nat}{code:BoundsCode}(h0:0<=i)(h1:i<=y):(Instr.sliceBound (.int k i) y code).run P w=.ok i.toNat w:=by
 simp[Instr.sliceBound,asIntOf,h0,h1]
def tG(ρ:cY)(x y:Option Value):Prop:=match x,y with
 | none,none=>True
 | some v,some u=>ay ρ v u
 | _,_=>False
theorem fq {x y:Option Value}{d n:Nat}(hr:tG ρ x y)(e:aU x d=some n):(x=none/\y=none/\n=d)∨∃ k i,x=some (.int k i)/\y=some (.int k i)/\0<=i/\n=i.toNat:=by
 cases x with
 | none =>
  simp[aU]at e
  cases y with
  | none=>exact .inl ⟨rfl,rfl,e.symm⟩
  | some y=>exact hr.elim
 | some v =>
  cases y with
  | none=>exact hr.elim
  | some y =>
   cases v <;> simp only[aU]at e <;> first|(cases e;done)|skip
   rename_i k i
   split at e
   ·rename_i h0
    simp at e
    cases (show ay ρ (.int k i) y from hr)
    exact .inr ⟨k,i,rfl,rfl,au.1 h0,e.symm⟩
   cases e
theorem eo {b:Bool}{len cap u l:Nat}{lo hi lo' hi':Option Value}(h1:tG ρ lo lo')(h2:tG ρ hi hi')(eu:aU hi len=some u)(el:aU lo 0=some l)(hu:u<=cap)(hl:l<=u) :
  (Instr.sliceBounds b len cap lo' hi' none).run P w=.ok (l,u,cap) w:=by
 rcases fq h2 eu with ⟨_,rfl,rfl⟩|⟨k,i,_,rfl,hi0,rfl⟩
 ·rcases fq h1 el with ⟨_,rfl,rfl⟩|⟨k',i',_,rfl,hi0',rfl⟩
  ·simp[Instr.sliceBounds]
  simp[Instr.sliceBounds,bA (P:=P) (w:=w) (k:=k') (i:=i') (y:=u) hi0' (by omega)]
 rcases fq h1 el with ⟨_,rfl,rfl⟩|⟨k',i',_,rfl,hi0',rfl⟩
 ·simp[Instr.sliceBounds,bA (P:=P) (w:=w) (k:=k) (i:=i) (y:=cap) hi0 (by omega)]
 simp[Instr.sliceBounds,bA (P:=P) (w:=w) (k:=k) (i:=i) (y:=cap) hi0 (by omega),bA (P:=P) (w:=w) (k:=k') (i:=i') (y:=i.toNat) hi0' (by omega)]
variable{cap u:Nat}
theorem jz {len l m:Nat}{lo hi lo' hi':Option Value}{mx mx':Value}(h1:tG ρ lo lo')(h2:tG ρ hi hi')(h3:ay ρ mx mx')(eu:aU hi len=some u)(el:aU lo 0=some l)(em:aU (some mx) 0=some m)
  (hs:hi.isSome=true) (hm:m<=cap) (hu:u<=m) (hl:l<=u):(Instr.sliceBounds true len cap lo' hi' (some mx')).run P w=.ok (l,u,m) w:=by
 rcases fq (show tG ρ (some mx) (some mx') from h3) em with ⟨hh,_⟩|⟨k₀,i₀,_,hmx,hi₀,rfl⟩
 ·cases hh
 simp at hmx;subst hmx
 rcases fq h2 eu with ⟨rfl,_⟩|⟨k,i,_,rfl,hi0,rfl⟩
 ·cases hs
 rcases fq h1 el with ⟨_,rfl,rfl⟩|⟨k',i',_,rfl,hi0',rfl⟩
 ·simp[Instr.sliceBounds,bA (P:=P) (w:=w) (k:=k₀) (i:=i₀) (y:=cap) hi₀ (by omega),bA (P:=P) (w:=w) (k:=k) (i:=i) (y:=i₀.toNat) hi0 (by omega)]
 simp[Instr.sliceBounds,bA (P:=P) (w:=w) (k:=k₀) (i:=i₀) (y:=cap) hi₀ (by omega),bA (P:=P) (w:=w) (k:=k) (i:=i) (y:=i₀.toNat) hi0 (by omega),bA (P:=P) (w:=w) (k:=k') (i:=i') (y:=i.toNat) hi0' (by omega)]
theorem nu:∀ {xs:List UInt8} {n:Nat} {ys:List UInt8},kR xs n=some ys->ys=xs.take n
 | xs,0,ys,h=>by cases xs <;> simp[kR]at h <;> subst h <;> simp
 | [],n+1,ys,h=>by simp[kR]at h
 | x::xs,n+1,ys,h=>by
  simp only[kR]at h
  split at h
  ·rename_i zs e
   have:=nu e
   subst this
   simp at h
   subst h
   rfl
  cases h
theorem CA:∀ {xs:List UInt8} {off n:Nat} {ys:List UInt8},wZ xs off n=some ys->ys=(xs.drop off).take n
 | xs,0,n,ys,h=>by
  have h':kR xs n=some ys:=by cases xs <;> simpa[wZ] using h
  simpa using nu h'
 | [],off+1,n,ys,h=>by simp[wZ]at h
 | x::xs,off+1,n,ys,h=>by
  simp only[wZ]at h
  simpa using CA h
theorem mA(s:ByteArray)(l u:Nat):s.extract l u=⟨⟨(s.data.toList.drop l).take (u-l)⟩⟩:=by
 apply ByteArray.ext
 rw[ByteArray.data_extract]
 apply Array.ext'
 simp[List.extract_eq_take_drop]
variable{cap':Nat}
theorem Co {len:Nat}(hl:len<=cap')(hc:cap≠ae->cap'=cap):dT len cap<=cap':=by
 unfold dT
 split
 ·exact hl
 rename_i hb;rw[hc (ce hb)];exact Nat.le_refl _
variable{x x' v:Value}{lo' hi':Option Value}
theorem vT {lo hi mx mx':Option Value}(H:aJ P ρ h w)(e:cM P t x lo hi mx h=some v)(hx:ay ρ x x')(h1:tG ρ lo lo')(h2:tG ρ hi hi')(h3:tG ρ mx mx') :
  ∃ u,(Instr.sliceAt t x' lo' hi' mx').run P w=.ok u w/\ay ρ v u:=by
 unfold cM at e
 split at e
 case h_4=>cases e
 case h_3 =>
  rename_i n el r off hu
  split at e
  ·cases e
  have hm':mx'=none:=by cases mx' with
   | none=>rfl
   | some y=>exact h3.elim
  subst hm'
  split at e
  case h_2=>cases e
  rename_i u l size eu ell hsz
  split at e
  case h_2=>cases e
  rename_i hc
  simp only[Bool.and_eq_true]at hc
  obtain⟨⟨hc1,hc2⟩,hc3⟩:=hc
  have hc1:=bk hc1
  have hc2:=bk hc2
  have hc3:=bk hc3
  simp at e;subst e
  cases hx with
  | @ptr _ _ lc hl =>
   refine⟨.slice (some (if n=l then ⟨lc.block,lc.base+off,none⟩ else (⟨lc.block,lc.base+off,none⟩:Addr).add (l*size))) (u-l) (n-l),by simp[Instr.sliceAt,Instr.sureAddr,run_underlying hu,eo (P:=P) (w:=w) (b:=false) h1 h2 eu ell hc1 hc2,bw hsz],?_⟩
   refine .slice (by omega) (fun _=>rfl) fun hz=>?_
   rw[if_neg (by omega),ed]
   exact⟨lc,hl,by simp[Nat.add_assoc],fun ho=>by unfold ae at ho;omega⟩
 case h_1 =>
  rename_i s hu
  split at e
  ·cases e
  cases hx
  have hm':mx'=none:=by cases mx' with
   | none=>rfl
   | some y=>exact h3.elim
  subst hm'
  split at e
  case h_2=>cases e
  rename_i u l eu el
  split at e
  case h_2=>cases e
  rename_i hc
  simp only[Bool.and_eq_true]at hc
  obtain⟨hc1,hc2⟩:=hc
  have hc1:=bk hc1
  have hc2:=bk hc2
  split at e
  case h_2=>cases e
  rename_i bs hbs
  simp at e;subst e
  refine⟨.string (s.extract l u),?_,?_⟩
  ·have hsz:s.data.toList.length=s.size:=by rw[Array.length_toList];rfl
   rw[hsz]at eu hc1
   simp[Instr.sliceAt,Instr.slice,run_underlying hu,eo (P:=P) (w:=w) (b:=false) h1 h2 eu el hc1 hc2]
  rw[mA,←CA hbs]
  exact .string _
 case h_2 =>
  rename_i el a len cap hu
  split at e
  case h_2=>cases e
  rename_i u l size eu ell hsz
  cases mx with
  | none =>
   have hm':mx'=none:=by cases mx' with
    | none=>rfl
    | some y=>exact h3.elim
   subst hm'
   simp only at e
   split at e
   case h_2=>cases e
   rename_i hc
   simp only[Bool.and_eq_true]at hc
   obtain⟨⟨hc1,hc2⟩,hrow⟩:=hc
   have hc1:=bk hc1
   have hc2:=bk hc2
   simp at e;subst e
   cases hx with
   | sliceNil =>
    have hf0:dT 0 0=0:=by decide
    rw[hf0]at hc1
    have hu0:u=0:=by omega
    have hl0:l=0:=by omega
    subst hu0 hl0
    refine⟨.slice none 0 0,by simp[Instr.sliceAt,Instr.slice,run_underlying hu,eo (P:=P) (w:=w) (b:=true) h1 h2 eu ell (Nat.le_refl 0) (Nat.le_refl 0),bw hsz],?_⟩
    have:Nat.beq 0 ae=false:=by decide
    simp only[dZ,this]
    exact .sliceNil
   | @slice r off _ _ cap' a' hl' hcap ha =>
    have hfar:=Co hl' hcap
    refine⟨.slice (if cap'=l then some a' else some (a'.add (l*size))) (u-l) (cap'-l),by simp[Instr.sliceAt,Instr.slice,run_underlying hu,eo (P:=P) (w:=w) (b:=true) h1 h2 eu ell (cap:=cap') (by omega) hc2,bw hsz],?_⟩
    simp only[dZ]
    have hif:(if cap'=l then some a' else some (a'.add (l*size)))=some (if cap'=l then a' else a'.add (l*size)):=by split <;> rfl
    rw[hif]
    cases hopen:Nat.beq cap ae with
    | true =>
     have hco:=be hopen
     refine .slice (by omega) (fun hne=>absurd rfl hne) fun hz=>?_
     obtain⟨lc,hlc,rfl,hext⟩:=ha (by omega)
     rw[if_neg (by omega),ed]
     refine⟨lc,hlc,by simp[Nat.add_assoc],fun _=>?_⟩
     unfold cx at hrow
     rw[hopen]at hrow
     simp only at hrow
     split at hrow
     case h_2=>cases hrow
     rename_i e' cs' hg
     have:=be hrow
     subst this
     obtain⟨lc',C,f,hlc',hb,hf,h1',h2',h3',rel⟩:=H.at_cells hg
     rw[hlc]at hlc';simp at hlc';subst hlc'
     rw[hsz]at h3';simp at h3';subst h3'
     have:=(hext hco).1
     have hbd:=(hext hco).2
     have hmul:l*lc.esz+(cap'-l)*lc.esz=cap'*lc.esz:=by rw[←Nat.add_mul];congr 1;omega
     omega
    | false =>
     have hce:=hcap (ce hopen)
     subst hce
     refine .slice (by omega) (fun _=>rfl) fun hz=>?_
     obtain⟨lc,hlc,rfl,hext⟩:=ha (by omega)
     rw[if_neg (by omega),ed]
     refine⟨lc,hlc,by simp[Nat.add_assoc],fun ho=>?_⟩
     unfold cx at hrow
     rw[hopen]at hrow
     have hle:=bk hrow
     have hne:=ce hopen
     have ho':cap'-l=ae:=ho
     omega
  | some m =>
   cases mx' with
   | none=>exact h3.elim
   | some m' =>
    simp only at e
    split at e
    case h_2=>cases e
    rename_i m₀ em
    split at e
    case h_2=>cases e
    rename_i hc
    simp only[Bool.and_eq_true]at hc
    obtain⟨⟨hc1,hc2⟩,hc3,hc4,hc5⟩:=hc
    have hc1:=bk hc1
    have hc2:=bk hc2
    have hc3:=bk hc3
    have hc5:=bk hc5
    simp at e;subst e
    cases hx with
    | sliceNil =>
     have hf0:dT 0 0=0:=by decide
     rw[hf0]at hc1
     have hm0:m₀=0:=by omega
     have hu0:u=0:=by omega
     have hl0:l=0:=by omega
     subst hu0 hl0 hm0
     refine⟨.slice none 0 0,by simp[Instr.sliceAt,Instr.slice,run_underlying hu,jz (P:=P) (w:=w) h1 h2 h3 eu ell em hc4 (Nat.le_refl 0) (Nat.le_refl 0) (Nat.le_refl 0),bw hsz],?_⟩
     exact .sliceNil
    | @slice r off _ _ cap' a' hl' hcap ha =>
     have hfar:=Co hl' hcap
     refine⟨.slice (if m₀=l then some a' else some (a'.add (l*size))) (u-l) (m₀-l),by simp[Instr.sliceAt,Instr.slice,run_underlying hu,jz (P:=P) (w:=w) h1 h2 h3 eu ell em hc4 (cap:=cap') (by omega) hc2 hc3,bw hsz],?_⟩
     simp only[dZ]
     have hif:(if m₀=l then some a' else some (a'.add (l*size)))=some (if m₀=l then a' else a'.add (l*size)):=by split <;> rfl
     rw[hif]
     refine .slice (by omega) (fun _=>rfl) fun hz=>?_
     obtain⟨lc,hlc,rfl,hext⟩:=ha (by omega)
     rw[if_neg (by omega),ed]
     exact⟨lc,hlc,by simp[Nat.add_assoc],fun ho=>by unfold ae at ho;omega⟩
theorem vR (e:Ab P t x=some v)(hx:ay ρ x x'):∃ u,(Instr.arrayAt t x').run P w=.ok u w/\ay ρ v u:=by
 unfold Ab at e
 split at e
 case h_2=>cases e
 rename_i n el r off len cap hu
 split at e
 case h_2=>cases e
 rename_i hc
 simp only[Bool.and_eq_true]at hc
 have hc1:=bk hc.1
 have hc2:=bk hc.2
 simp at e;subst e
 cases hx with
 | @slice _ _ _ _ cap' a hl hcap ha =>
  obtain⟨lc,hlc,rfl,_⟩:=ha (by omega)
  exact⟨.pointer (some ⟨lc.block,lc.base+off,none⟩),by simp[Instr.arrayAt,run_underlying hu,show ¬ len<n by omega],.ptr hlc⟩
theorem o7 {f:Nat}(e:mW P t x f=some v)(hx:ay ρ x x'):∃ u,(Instr.fieldAt t x' f).run P w=.ok u w/\ay ρ v u:=by
 unfold mW at e
 split at e
 case h_2=>cases e
 rename_i fields r off hu
 split at e
 case h_2=>cases e
 rename_i fd hf
 split at e
 case h_2=>cases e
 rename_i n hn
 split at e
 case h_1=>cases e
 rename_i hb
 have hb:=ce hb
 simp at e;subst e
 cases hx with
 | @ptr _ _ l hl =>
  refine⟨.pointer (some ⟨l.block,l.base+(off+fd.offset),none⟩),?_,.ptr hl⟩
  simp[Instr.fieldAt,run_underlying hu,hf,Instr.sureAddr,fieldPlace,bw hn,hb,ed,Nat.add_assoc]
theorem o5 {ix ix':Value}(e:kg P t x ix=some v)(hx:ay ρ x x')(hi:ay ρ ix ix'):∃ u,(Instr.indexAt t x' ix').run P w=.ok u w/\ay ρ v u:=by
 unfold kg at e
 split at e
 case h_3=>cases e
 case h_1 =>
  rename_i el r off len cap k i hu
  split at e
  case h_2=>cases e
  rename_i n hin hn
  simp at e;subst e
  cases hi
  have hin:=qy.1 hin
  cases hx with
  | @slice _ _ _ _ cap' a' hl' hcap ha =>
   obtain⟨l,hl,rfl,_⟩:=ha (by omega)
   refine⟨.pointer (some ⟨l.block,l.base+(off+i.toNat*n),none⟩),?_,.ptr hl⟩
   have hel:P.elem t=el:=by simp[Program.elem,hu]
   rw[run_indexAt_slice (w:=w) t _ len cap' k i (by rw[hel];exact hu),hel,if_pos hin,bw hn]
   simp[ed,Nat.add_assoc]
 case h_2 =>
  rename_i len el r off k i hu
  split at e
  case h_2=>cases e
  rename_i n hin hn
  simp at e;subst e
  cases hi
  have hin:=qy.1 hin
  cases hx with
  | @ptr _ _ l hl =>
   refine⟨.pointer (some ⟨l.block,l.base+(off+i.toNat*n),none⟩),?_,.ptr hl⟩
   have hel:P.elem t=el:=by simp[Program.elem,hu]
   have hlen:P.arrayLen t=len:=by simp[Program.arrayLen,hu]
   rw[run_indexAt_array (w:=w) t _ k i (by rw[hel,hlen];exact hu),hel,hlen,if_pos hin,bw hn]
   simp[ed,Nat.add_assoc]
theorem DZ(s:ByteArray)(i:Nat):s[i]?=s.data.toList[i]?:=by
 rw[Array.getElem?_toList]
 by_cases h:i<s.size
 ·rw[getElem?_pos s i h,getElem?_pos s.data i h];rfl
 rw[getElem?_neg s i h,getElem?_neg s.data i h]
theorem vW {ix ix':Value}(e:wH P t x ix=some v)(hx:ay ρ x x')(hi:ay ρ ix ix'):∃ u,(Instr.index t x' ix').run P w=.ok u w/\ay ρ v u:=by
 unfold wH at e
 split at e
 case h_3=>cases e
 case h_1 =>
  rename_i len el cs k i hu
  split at e
  case h_2=>cases e
  rename_i n hin hn
  cases hi
  have hin:=qy.1 hin
  cases hx with
  | agg hr =>
   obtain⟨u,hp,hv⟩:=nD e hr w
   exact⟨u,by simp[Instr.index,asIntOf,run_underlying hu,hin,bw hn,hp],hv⟩
 case h_2 =>
  rename_i s k i hu
  split at e
  case h_2=>cases e
  rename_i h0
  have h0:=au.1 h0
  split at e
  case h_2=>cases e
  rename_i b hb
  simp at e;subst e
  cases hi
  cases hx
  rw[←DZ]at hb
  exact⟨.int .u8 b.toNat,by simp[Instr.index,asIntOf,run_underlying hu,h0,hb],.int _ _⟩
theorem vX {fields:Array Field}{fd:Field}{cs:Array Value}{f:Nat}{v:Value}(hu:P.underlying t=some (.struct fields))(hf:fields[f]?=some fd)(e:bM P fd.type cs.toList fd.offset=some v)(hx:ay ρ (.agg cs) x') :
  ∃ u,(Instr.field t x' f).run P w=.ok u w/\ay ρ v u:=by
 cases hx with
 | agg hr =>
  obtain⟨u,hp,hv⟩:=nD e hr w
  exact⟨u,by simp[Instr.field,run_underlying hu,hf,asAgg,hp],hv⟩
theorem q5 {vs:Array Value}{i:Nat}{v:Value}(e:vs.toList[i]?=some v)(hx:ay ρ (.tuple vs) x'):∃ u,(Instr.extract x' i).run P w=.ok u w/\ay ρ v u:=by
 cases hx with
 | tuple hr =>
  obtain⟨u,hu,hv⟩:=hr.get e
  rw[Array.getElem?_toList]at hu
  exact⟨u,by simp[Instr.extract,hu],hv⟩
end
end Go.Am
end
section
namespace Go.Am
section
variable{P:Program}{ρ:cY}{h h':AW}{w:World}
theorem cH:∀ (x y:List UInt8),cB x y=(x==y)
 | [],[]=>rfl
 | [],_::_=>rfl
 | _::_,[]=>rfl
 | a::x,b::y=>by
  simp only[cB]
  split
  ·rename_i hb
   have:a=b:=UInt8.toNat_inj.1 (be hb)
   subst this
   rw[cH x y]
   simp
  rename_i hb
  have:a≠b:=fun h=>ce hb (by rw[h])
  simp[this]
theorem iE:∀ (x y:List UInt8),aq x y=Op.bytesLess x y
 | [],[]=>rfl
 | _::_,[]=>rfl
 | [],_::_=>rfl
 | a::x,b::y=>by
  simp only[aq,Op.bytesLess]
  split
  ·rename_i hb
   have:a=b:=UInt8.toNat_inj.1 (be hb)
   subst this
   rw[iE x y]
   simp[UInt8.lt_irrefl]
  rename_i hb
  have hne:a≠b:=fun h=>ce hb (by rw[h])
  have h1:(a==b)=false:=by simp[hne]
  rw[h1]
  simp only[Bool.false_and,Bool.or_false]
  cases e:Nat.ble (a.toNat+1) b.toNat with
  | true=>have:=bk e;simp[UInt8.lt_iff_toNat_lt];omega
  | false=>have:=rN e;simp[UInt8.le_iff_toNat_le];omega
theorem gy(k:IntKind)(n:Int):eK k n=(BitVec.ofInt k.bits n).toNat:=by
 unfold eK
 split
 ·rename_i h
  simp only[Bool.and_eq_true,au]at h
  obtain⟨h1,h2⟩:=h
  rw[BitVec.toNat_ofInt]
  congr 1
  have:n<((2^k.bits:Nat):Int):=by cases k <;> simp[gN,IntKind.bits]at h2 ⊢ <;> omega
  rw[Int.emod_eq_of_lt h1 this]
 rfl
variable{op:BinOp}{t:TypeId}
theorem q6 {x y:Operand}{a b a' b':Value}(e:fN P op t x y a b=true)(ha:ay ρ a a')(hb:ay ρ b b'):(eqGuard op t x y a' b').run P w=.ok () w:=by
 by_cases hop:op=.eql∨op=.neq
 ·cases ha with
  | nilIface =>
   cases hb with
   | nilIface =>
    have:(∃ c,x=.const c)∨∃ c,y=.const c:=by
     cases x with
     | const c=>exact .inl ⟨c,rfl⟩
     | _ =>
      cases y with
      | const c=>exact .inr ⟨c,rfl⟩
      | _=>rcases hop with rfl|rfl <;> simp[fN]at e
    rcases this with ⟨c,rfl⟩|⟨c,rfl⟩
    ·rw[eqGuard_nil_constL];rfl
    rw[eqGuard_nil_constR];rfl
   | any u=>rcases hop with rfl|rfl <;> simp[fN]at e
   | _=>rcases hop with rfl|rfl <;> rfl
  | any u=>rcases hop with rfl|rfl <;> simp[fN]at e
  | agg hr =>
   cases hb with
   | agg hr' =>
    have:P.eqGuardType P.depth t=false:=by rcases hop with rfl|rfl <;> simpa[fN] using e
    exact run_eqGuard_agg w op t x y _ _ this
   | any u=>rcases hop with rfl|rfl <;> simp[fN]at e
   | _=>rcases hop with rfl|rfl <;> rfl
  | _=>cases hb <;> (rcases hop with rfl|rfl <;> first|rfl|(simp[fN]at e;done))
 cases op <;> first|rfl|(simp at hop)
theorem gB {D:Nat}{cmp:TypeId->Value->Value->Option Bool}{xs ys xs' ys':Array Value}(hx:aF ρ xs.toList xs'.toList)(hy:aF ρ ys.toList ys'.toList)
  (hc:∀ t a b a' b' r,cmp t a b=some r->ay ρ a a'->ay ρ b b'->(Op.equalIn D t a' b').run P w=.ok r w) :
  ∀ {fs:List Field} {r:Bool},eqFields P cmp xs.toList ys.toList fs=some r->(Op.eqFields D xs' ys' fs).run P w=.ok r w
 | [],r,e=>by simp[eqFields]at e;subst e;rfl
 | f::fs,r,e=>by
  simp only[eqFields]at e
  by_cases hn:f.name≠ "_"
  ·rw[if_pos hn]at e
   split at e
   case h_2=>cases e
   rename_i a b ea eb
   obtain⟨a',ra,va⟩:=nD ea hx w
   obtain⟨b',rb,vb⟩:=nD eb hy w
   have hstep:∀ q,cmp f.type a b=some q->(Op.eqFields D xs' ys' (f::fs)).run P w=if (!q)=true then .ok false w else (Op.eqFields D xs' ys' fs).run P w:=fun q hq=>by
    simp only[Op.eqFields,if_pos hn,Sem.run_bind,ra,rb,Result.andThen_ok,hc _ _ _ _ _ _ hq va vb]
    cases q <;> simp
   split at e
   ·rename_i eq
    rw[hstep _ eq]
    simpa using gB hx hy hc e
   rename_i hne
   cases hq:cmp f.type a b with
   | none=>rw[hq]at e;cases e
   | some q =>
    rw[hq]at e
    simp at e;subst e
    cases q with
    | true=>exact absurd hq hne
    | false=>rw[hstep _ hq];rfl
  rw[if_neg hn]at e
  simp only[Op.eqFields,if_neg hn]
  exact gB hx hy hc e
set_option maxHeartbeats 1000000 in
theorem uj(d:Nat):∀ {t:TypeId} {x y x' y':Value} {b:Bool},zS P d t x y=some b->ay ρ x x'->ay ρ y y'->∀ D,d<=D->(Op.equalIn D t x' y').run P w=.ok b w:=by
 induction d with
 | zero=>intro t x y x' y' b e;simp[zS]at e
 | succ d ih₀ =>
  intro t x y x' y' b e hx hy D hD
  obtain⟨D,rfl⟩:∃ D',D=D'+1:=⟨D-1,by omega⟩
  unfold zS at e
  split at e
  case h_1 hu=>cases hx;cases hy;simp at e;subst e;simp[Op.equalIn,run_underlying hu]
  case h_2 hu =>
   cases hx;cases hy
   split at e
   ·simp at e;subst e;subst_vars;simp[Op.equalIn,run_underlying hu,aC]
   cases e
  case h_3 hu =>
   cases hx;cases hy
   simp only[Option.some.injEq]at e;subst e
   simp[Op.equalIn,run_underlying hu,beq_toListBytes,ByteArray.toList_eq,cH]
  case h_4 hu =>
   cases hx
   cases hy <;> (simp at e;subst e;simp[Op.equalIn,run_underlying hu])
  case h_5 hu=>cases hx;cases hy;simp at e;subst e;simp[Op.equalIn,run_underlying hu]
  case h_6 hu=>cases hx;cases hy;simp at e;subst e;simp[Op.equalIn,run_underlying hu]
  case h_7 hu=>cases hx;cases hy;simp at e;subst e;simp[Op.equalIn,run_underlying hu]
  case h_8 hu=>cases hx;cases hy;simp at e;subst e;simp[Op.equalIn,run_underlying hu]
  case h_9 tx vx ty vy hu =>
   cases hx with
   | iface hx =>
    cases hy with
    | iface hy =>
     split at e
     ·rename_i hb
      simp at e;subst e
      simp[Op.equalIn,run_underlying hu,ce hb]
     rename_i hb
     have:=be hb
     subst this
     split at e
     case h_2=>cases e
     rename_i i hi
     split at e
     case h_2=>cases e
     rename_i hcmp
     have ih:=ih₀ e hx hy D (by omega)
     simp[Op.equalIn,run_underlying hu,du hi,hcmp,ih]
  case h_10 fields xs ys hu =>
   split at e
   case h_1=>cases e
   rename_i hst
   cases hx with
   | agg hx =>
    cases hy with
    | agg hy =>
     have hf:P.fieldsOf t=fields:=by simp[Program.fieldsOf,hu]
     rw[run_equalIn_struct w D t _ _ (by rw[hf];exact hu) hst,hf]
     exact gB hx hy (fun t a b a' b' r hq va vb=>ih₀ hq va vb D (by omega)) e
  case h_11 hu =>
   cases hx
   cases hy <;> (simp at e;subst e;simp[Op.equalIn,run_underlying hu])
  case h_12 hu=>cases hx <;> cases hy <;> (simp at e;subst e;simp[Op.equalIn,run_underlying hu])
  case h_13 hu =>
   cases hx
   cases hy <;> (simp at e;subst e;simp[Op.equalIn,run_underlying hu])
  case h_14 hu=>cases hx <;> cases hy <;> (simp at e;subst e;simp[Op.equalIn,run_underlying hu])
  case h_15 hu=>cases hx <;> cases hy <;> (simp at e;subst e;simp[Op.equalIn,run_underlying hu])
  case h_16 hu=>cases hx <;> cases hy <;> (simp at e;subst e;simp[Op.equalIn,run_underlying hu])
  case h_17 hu=>cases hx <;> cases hy <;> (simp at e;subst e;simp[Op.equalIn,run_underlying hu])
  case h_18 el r i r' i' hu =>
   split at e
   case h_2=>cases e
   rename_i hb hz
   simp only[Bool.and_eq_true]at hb
   have h1:=be hb.1
   have h2:=be hb.2
   subst h1;subst h2
   simp only[Option.some.injEq]at e;subst e
   cases hx with
   | ptr hx =>
    cases hy with
    | ptr hy =>
     have:=hx.symm.trans hy
     simp only[Option.some.injEq]at this
     subst this
     simp[Op.equalIn,run_underlying hu,bw hz,sameAddr]
  case h_19=>cases e
end
end Go.Am
namespace Go.Am
section
variable{P:Program}{ρ:cY}{h h':AW}{w:World}
theorem Ff(n:Nat):((2^n:Nat):Int)=(2:Int)^n:=by simp
variable{d:Nat}{t:TypeId}{x y:Value}
theorem zo {b:Bool}(e:zS P d t x y=some b):tL x=false/\tL y=false:=by
 cases d with
 | zero=>simp[zS]at e
 | succ d =>
  unfold zS at e
  split at e <;> first|exact⟨rfl,rfl⟩|cases e
theorem kK (hj:tL x=false/\tL y=false)(hi:∀ k a k' b,x=.int k a->y=.int k' b->False)(hs:∀ a b,x=.string a->y=.string b->False){x' y':Value}(hx:ay ρ x x')(hy:ay ρ y y') :
  binOp .eql t x' y'=(do pure (.bool (← Op.equal t x' y'))):=by
 obtain⟨hj1,hj2⟩:=hj
 cases hx <;> first|(simp[tL]at hj1;done)|(cases hy <;> first|(simp[tL]at hj2;done)|rfl|(exact (hi _ _ _ _ rfl rfl).elim)|(exact (hs _ _ rfl rfl).elim))
theorem kJ (hj:tL x=false/\tL y=false)(hi:∀ k a k' b,x=.int k a->y=.int k' b->False)(hs:∀ a b,x=.string a->y=.string b->False){x' y':Value}(hx:ay ρ x x')(hy:ay ρ y y') :
  binOp .neq t x' y'=(do pure (.bool (!(← Op.equal t x' y')))):=by
 obtain⟨hj1,hj2⟩:=hj
 cases hx <;> first|(simp[tL]at hj1;done)|(cases hy <;> first|(simp[tL]at hj2;done)|rfl|(exact (hi _ _ _ _ rfl rfl).elim)|(exact (hs _ _ rfl rfl).elim))
variable{b:Nat}
theorem iw {n:Nat}{C:Array Value}{e:TypeId}{f:Nat×Nat}(hb:w.heap[b]?=some (.cells C e f))(hf:f.1=f.2):w.frozen? { block:=b,off:=n }=false:=by
 obtain⟨lo,hi⟩:=f
 simp only at hf
 simp only[World.frozen?,hb,Bool.and_eq_false_iff,decide_eq_false_iff_not]
 omega
variable{o':Nat}
theorem xY {b' o:Nat}{C D:Array Value}{e e':TypeId}{f f':Nat×Nat}(hne:b≠b')(ha:w.heap[b]?=some (.cells C e f))(hb:w.heap[b']?=some (.cells D e' f'))(hf:f.1=f.2)(hf':f'.1=f'.2):(sameAddr ⟨b,o,none⟩ ⟨b',o',none⟩).run P w=.ok false w:=by
 have hsa:w.shape? b=some (e,C.size):=by simp[World.shape?,ha]
 have hsb:w.shape? b'=some (e',D.size):=by simp[World.shape?,hb]
 have fa:∀ n,w.frozen? { block:=b,off:=n }=false:=fun n=>iw ha hf
 have fb:∀ n,w.frozen? { block:=b',off:=n }=false:=fun n=>iw hb hf'
 simp[sameAddr,hne,frozen,noView,viewAt,mayBeOne,stringish,shape,Sem.run,hsa,hsb,fa,fb]
variable{x' y':Value}
theorem qW (H:aJ P ρ h w)(e:xB P t x y h=true)(hx:ay ρ x x')(hy:ay ρ y y')(D:Nat):(Op.equalIn (D+1) t x' y').run P w=.ok false w:=by
 unfold xB at e
 split at e
 case h_2=>cases e
 rename_i el r off r' off' hu
 cases h1:bm h r with
 | none=>simp[h1]at e
 | some p =>
 cases h2:bm h r' with
 | none=>simp[h1,h2]at e
 | some q =>
 cases hz:aB P el with
 | none=>simp[h1,h2,hz]at e
 | some m =>
 cases m with
 | zero=>simp[h1,h2,hz]at e
 | succ n =>
 obtain⟨e₁,cs⟩:=p
 obtain⟨e₂,cs'⟩:=q
 simp only[h1,h2,hz,Bool.and_eq_true,Bool.not_eq_true']at e
 obtain⟨e0,e3,e4⟩:=e
 obtain⟨l,C,f,hl,hb,hf,_⟩:=H.at_plain h1 e3
 obtain⟨l',C',f',hl',hb',hf',_⟩:=H.at_plain h2 e4
 have hne:l.block≠l'.block:=fun hh=>ce e0 (H.inj r r' _ _ l l' (cw h1) (cw h2) hl hl' hh (.inl rfl))
 cases hx with
 | ptr hx =>
 cases hy with
 | ptr hy =>
 rw[hl]at hx;rw[hl']at hy
 simp only[Option.some.injEq]at hx hy
 subst hx;subst hy
 simp[Op.equalIn,run_underlying hu,samePointer,bw hz,xY hne hb hb' hf hf']
theorem xz (e:xB P t x y h=true):∃ a b,x=.pointer a/\y=.pointer b:=by
 unfold xB at e
 split at e
 ·exact⟨_,_,rfl,rfl⟩
 cases e
variable{op:BinOp}{v:Value}
theorem Aq (H:aJ P ρ h w)(e:iH P op t x y h=some v)(hx:ay ρ x x')(hy:ay ρ y y'):∃ u,(binOp op t x' y').run P w=.ok u w/\ay ρ v u:=by
 unfold iH at e
 split at e
 case h_1 k a k' b =>
  cases hx;cases hy
  split at e
  case h_2=>cases e
  rename_i hb
  have hb:=au.1 hb
  simp at e;subst e
  refine⟨_,?_,.int _ _⟩
  rw[dC]
  have hn:¬ b<0:=by omega
  simp[binOp,Op.shift,hn]
 case h_2 k a k' b =>
  cases hx;cases hy
  split at e
  case h_2=>cases e
  rename_i hb
  have hb:=au.1 hb
  simp only[Option.some.injEq]at e;subst e
  refine⟨_,?_,.int _ _⟩
  have hn:¬ b<0:=by omega
  rw[Ff]
  simp[binOp,Op.shift,hn]
 case h_3 op k a k' b hs1 hs2 =>
  cases hx;cases hy
  split at e
  case isFalse=>cases e
  rename_i hk
  subst hk
  split at e
  case h_1=>simp only[Option.some.injEq]at e;subst e;exact⟨_,by rw[binOp_add];simp[Op.intArith,dC],.int _ _⟩
  case h_2=>simp only[Option.some.injEq]at e;subst e;exact⟨_,by rw[binOp_sub];simp[Op.intArith,dC],.int _ _⟩
  case h_3=>simp only[Option.some.injEq]at e;subst e;exact⟨_,by rw[binOp_mul];simp[Op.intArith,dC],.int _ _⟩
  case h_4 =>
   split at e
   case h_1=>cases e
   rename_i hb
   rw[aC]at hb
   have hb:b≠0:=by simpa using hb
   simp only[Option.some.injEq]at e;subst e
   exact⟨_,by rw[binOp_quo];simp[Op.intDiv,hb,dC],.int _ _⟩
  case h_5 =>
   split at e
   case h_1=>cases e
   rename_i hb
   rw[aC]at hb
   have hb:b≠0:=by simpa using hb
   simp only[Option.some.injEq]at e;subst e
   exact⟨_,by rw[binOp_rem];simp[Op.intDiv,hb],.int _ _⟩
  case h_6=>simp only[Option.some.injEq]at e;subst e;exact⟨_,by rw[binOp_and,intBits_and,bits,dC,gy,gy,BitVec.toNat_and];rfl,.int _ _⟩
  case h_7=>simp only[Option.some.injEq]at e;subst e;exact⟨_,by rw[binOp_or,intBits_or,bits,dC,gy,gy,BitVec.toNat_or];rfl,.int _ _⟩
  case h_8=>simp only[Option.some.injEq]at e;subst e;exact⟨_,by rw[binOp_xor,intBits_xor,bits,dC,gy,gy,BitVec.toNat_xor];rfl,.int _ _⟩
  case h_9=>simp only[Option.some.injEq]at e;subst e;exact⟨_,by rw[binOp_eql,aC];rfl,.bool _⟩
  case h_10=>simp only[Option.some.injEq]at e;subst e;exact⟨_,by rw[binOp_neq,aC];rfl,.bool _⟩
  case h_11 =>
   simp only[Option.some.injEq]at e;subst e
   refine⟨.bool (!av b a),?_,.bool _⟩
   rw[binOp_lss,am]
   have:decide (a<b)=!decide (b<=a):=by by_cases h:b<=a <;> simp[h] <;> omega
   rw[this];rfl
  case h_12=>simp only[Option.some.injEq]at e;subst e;exact⟨_,by rw[binOp_leq,am];rfl,.bool _⟩
  case h_13 =>
   simp only[Option.some.injEq]at e;subst e
   refine⟨.bool (!av a b),?_,.bool _⟩
   rw[binOp_gtr,am]
   have:decide (a > b)=!decide (a<=b):=by by_cases h:a<=b <;> simp[h] <;> omega
   rw[this];rfl
  case h_14=>simp only[Option.some.injEq]at e;subst e;exact⟨_,by rw[binOp_geq,am];rfl,.bool _⟩
  case h_15=>cases e
 case h_4 =>
  cases hx;cases hy
  rename_i a b
  have hl:∀ s:ByteArray,s.toList=s.data.toList:=ByteArray.toList_eq
  simp only at e
  split at e
  case h_1 =>
   split at e
   case h_2=>cases e
   rename_i zs hle hj
   have hle:=bk hle
   have hj:=eP hj
   simp only[Option.some.injEq]at e;subst e
   refine⟨.string (a++b),?_,?_⟩
   ·have hno:¬ (((a.size+b.size:Nat):Int) > IntKind.i64.max):=by
     rw[IntKind.max_i64]
     have h1:a.data.toList.length=a.size:=by rw[Array.length_toList];rfl
     have h2:b.data.toList.length=b.size:=by rw[Array.length_toList];rfl
     omega
    rw[binOp_string_add]
    simp only[Op.stringOp]
    rw[if_neg hno];rfl
   have:a++b=⟨⟨zs⟩⟩:=by
    apply ByteArray.ext
    rw[ByteArray.data_append,hj]
    apply Array.ext'
    simp
   rw[this];exact .string _
  case h_2=>simp only[Option.some.injEq]at e;subst e;exact⟨_,by rw[binOp_string_eql,hl,hl,cH];rfl,.bool _⟩
  case h_3=>simp only[Option.some.injEq]at e;subst e;exact⟨_,by rw[binOp_string_neq,hl,hl,cH];rfl,.bool _⟩
  case h_4=>simp only[Option.some.injEq]at e;subst e;exact⟨_,by rw[binOp_string_lss,hl,hl,iE];rfl,.bool _⟩
  case h_5=>simp only[Option.some.injEq]at e;subst e;exact⟨_,by simp only[binOp,Op.stringOp];rw[hl,hl,iE,cH];rfl,.bool _⟩
  case h_6=>simp only[Option.some.injEq]at e;subst e;exact⟨_,by simp only[binOp,Op.stringOp];rw[hl,hl,iE,cH];rfl,.bool _⟩
  case h_7=>simp only[Option.some.injEq]at e;subst e;exact⟨_,by simp only[binOp,Op.stringOp];rw[hl,hl,iE];rfl,.bool _⟩
  case h_8=>cases e
 case h_5 hi hs =>
  split at e
  case h_2 =>
   split at e
   case h_2=>cases e
   rename_i h2
   simp only[Option.some.injEq]at e;subst e
   obtain⟨p,q,rfl,rfl⟩:=xz h2
   refine⟨.bool false,?_,.bool _⟩
   rw[kK ⟨rfl,rfl⟩ (fun k a k' b h1 h2=>(by cases h1)) (fun a b h1 h2=>(by cases h1)) hx hy]
   have:=qW H h2 hx hy (Op.maxDepth-1)
   rw[show Op.maxDepth-1+1=Op.maxDepth from rfl]at this
   simp[Op.equal,this]
  rename_i b hb
  simp only[Option.some.injEq]at e;subst e
  refine⟨.bool b,?_,.bool _⟩
  rw[kK (zo hb) (fun k a k' b h1 h2=>hi k a k' b h1 h2) (fun a b h1 h2=>hs a b h1 h2) hx hy]
  simp[Op.equal,uj (P:=P) (w:=w) 100 hb hx hy Op.maxDepth (by decide)]
 case h_6 hi hs =>
  split at e
  case h_2 =>
   split at e
   case h_2=>cases e
   rename_i h2
   simp only[Option.some.injEq]at e;subst e
   obtain⟨p,q,rfl,rfl⟩:=xz h2
   refine⟨.bool true,?_,.bool _⟩
   rw[kJ ⟨rfl,rfl⟩ (fun k a k' b h1 h2=>(by cases h1)) (fun a b h1 h2=>(by cases h1)) hx hy]
   have:=qW H h2 hx hy (Op.maxDepth-1)
   rw[show Op.maxDepth-1+1=Op.maxDepth from rfl]at this
   simp[Op.equal,this]
  rename_i b hb
  simp only[Option.some.injEq]at e;subst e
  refine⟨.bool (!b),?_,.bool _⟩
  rw[kJ (zo hb) (fun k a k' b h1 h2=>hi k a k' b h1 h2) (fun a b h1 h2=>hs a b h1 h2) hx hy]
  simp[Op.equal,uj (P:=P) (w:=w) 100 hb hx hy Op.maxDepth (by decide)]
 case h_7=>cases e
theorem Da {op:UnOp}{x x' v:Value}(e:Lu op x=some v)(hx:ay ρ x x'):∃ u,(Op.unary op x').run P w=.ok u w/\ay ρ v u:=by
 unfold Lu at e
 split at e
 ·cases hx;simp at e;subst e;exact⟨_,rfl,.bool _⟩
 ·cases hx;simp only[Option.some.injEq]at e;subst e
  exact⟨_,by simp[Op.unary,Op.intArith,dC],.int _ _⟩
 ·rename_i k n
  cases hx;simp only[Option.some.injEq]at e;subst e
  exact⟨_,by simp only[Op.unary];rw[intBits_xor,bits,dC,gy,gy,BitVec.toNat_xor];rfl,.int _ _⟩
 cases e
theorem gt:∀ {bs:List UInt8} {vs:List Value},gx bs=some vs->vs=bs.map fun b=>.int .u8 b.toNat
 | [],vs,e=>by simp only[gx,Option.some.injEq]at e;subst e;rfl
 | b::bs,vs,e=>by
  simp only[gx]at e
  split at e
  ·rename_i us eu
   simp at e;subst e
   simp[gt eu]
  cases e
theorem tp(ρ:cY):∀ (bs:List UInt8),aF ρ (bs.map fun b=>Value.int .u8 b.toNat) (bs.map fun b=>Value.int .u8 b.toNat)
 | []=>.nil
 | b::bs=>.cons (.int _ _) (tp ρ bs)
theorem kA:∀ {vs us:List Value} {bs:List UInt8},eJ vs=some bs->aF ρ vs us->∃ ns:List Int,us=ns.map (fun n=>Value.int .u8 n)/\bs=ns.map fun n=>UInt8.ofNat n.toNat
 | [],us,bs,e,hr=>by simp[eJ]at e;subst e;cases hr;exact⟨[],rfl,rfl⟩
 | v::vs,us,bs,e,hr=>by
  cases hr with
  | cons hv hr =>
   cases v <;> first|(simp[eJ]at e;done)|skip
   rename_i k n
   cases k <;> first|(simp[eJ]at e;done)|skip
   simp only[eJ]at e
   split at e
   ·rename_i bs' e'
    simp at e;subst e
    cases hv
    obtain⟨ns,h1,h2⟩:=kA e' hr
    exact⟨n::ns,by simp[h1],by simp[h2]⟩
   cases e
variable{e:TypeId}
theorem lW (h:jo P e=true):P.underlying e=some (.int .u8):=by
 unfold jo at h
 split at h
 ·assumption
 cases h
theorem gi {a:Addr}{len cap:Nat}{ns:List Int}(hl:(loadCells a len).run P w=.ok ⟨ns.map fun n=>Value.int .u8 n⟩ w) :
  (Conv.bytesToString (.slice (some a) len cap)).run P w=.ok (.string ⟨⟨ns.map fun n=>UInt8.ofNat n.toNat⟩⟩) w:=by
 simp only[Conv.bytesToString,Sem.run_bind,hl,Result.andThen_ok]
 rw[←Array.forIn_toList]
 have key:∀ (g:Value->ByteArray->Sem (ForInStep ByteArray)) (ns:List Int) (s:ByteArray),(∀ n s,g (.int .u8 n) s=pure (ForInStep.yield (s.push (UInt8.ofNat n.toNat)))) →
   (forIn (m:=Sem) (ns.map fun n=>Value.int .u8 n) s g).run P w=.ok ⟨⟨s.data.toList++ns.map fun n=>UInt8.ofNat n.toNat⟩⟩ w:=by
  intro g ns
  induction ns with
  | nil=>intro s _;simp
  | cons n ns ih =>
   intro s hg
   simp only[List.map_cons,List.forIn_cons,Sem.run_bind,hg,Sem.run_pure,Result.andThen_ok]
   rw[ih _ hg]
   simp[ByteArray.push]
 refine Eq.trans (congrArg (fun r=>Result.andThen r _) (key _ ns ByteArray.empty fun n s=>rfl)) ?_
 simp
end
end Go.Am
namespace Go.Am
section
variable{P:Program}{ρ:cY}{h h':AW}{w:World}
theorem mZ(aT old:Nat)(e:TypeId)(hn:aT<2^63):∃ c w',(choose (.appendCap aT old e)).run P w=.ok c w'/\(aT<=c/\c<ae)/\w'.heap=w.heap/\w'.os=w.os/\w'.tape=w.tape/\w'.output=w.output:=by
 refine⟨aT+(w.tape w.drawn (.appendCap aT old e))%(2^63-aT),{ w with drawn:=w.drawn+1 },?_,⟨by omega,by have:=Nat.mod_lt (w.tape w.drawn (.appendCap aT old e)) (show 0<2^63-aT by omega);unfold ae;omega⟩,rfl,rfl,rfl,rfl⟩
 rw[run_choose,if_neg (by simp[Question.forced])]
 rfl
variable{w':World}
theorem aJ.draw (H:aJ P ρ h w)(hh:w'.heap=w.heap):aJ P ρ h w' :=
 ⟨fun r row hr=>let ⟨l,hl,x⟩:=H.loc r row hr;⟨l,hl,x.keep (cY.le_refl _) (by rw[hh])⟩,H.inj,H.fresh,H.step⟩
theorem bE.draw {w'':World}{ρ':cY}(hh:w'.heap=w.heap)(h1:w'.os=w.os)(h2:w'.tape=w.tape)(h3:w'.output=w.output)(T:bE ρ h w' ρ' h' w''):bE ρ h w ρ' h' w'' :=
 ⟨T.le,T.os.trans h1,T.tape.trans h2,T.output.trans h3,by rw[←hh];exact T.size,by rw[←hh];exact T.own,by rw[←hh];exact T.keep,T.new,T.next,T.steps⟩
variable{r cap:Nat}
theorem mI {len:Nat}{l:jU}(hl:len<=cap)(hx:cap*l.esz<=l.ext)(hb:cap<ae):ay (kD ρ r l) (.slice (some ⟨r,0,none⟩) len ae) (.slice (some ⟨l.block,l.base+0,none⟩) len cap) :=
 .slice hl (fun hne=>absurd rfl hne) fun _=>⟨l,by simp[kD],rfl,fun _=>⟨by omega,hb⟩⟩
variable{α:Type}
theorem gG (a:Array α)(x:α)(k:Nat)(h:k<a.size):(a.push x)[k]?=a[k]?:=by rw[Array.getElem?_push,if_neg (by omega)]
variable{e:TypeId}{n:Nat}
theorem BI (hu:P.underlying e=some (.int .u8))(hsz:aB P e=some n)(h1:oR P e=true):n=1:=by
 unfold oR at h1
 rw[hsz]at h1
 exact be h1
theorem fJ(b n k:Nat)(c:Nat)(hk:k≠b):(w.freeze ⟨b,c,none⟩ n).heap[k]?=w.heap[k]?:=by
 unfold World.freeze
 split
 ·rfl
 simp only[Array.getElem?_modify]
 rw[if_neg (by omega)]
theorem lw(b n c:Nat):(w.freeze ⟨b,c,none⟩ n).heap.size=w.heap.size:=by
 unfold World.freeze
 split
 ·rfl
 simp
theorem cU(a:Addr)(n:Nat):(w.freeze a n).os=w.os/\(w.freeze a n).tape=w.tape/\(w.freeze a n).output=w.output:=by
 unfold World.freeze
 split <;> exact⟨rfl,rfl,rfl⟩
variable{b:Nat}{C:Array Value}
theorem uU {f:Nat×Nat}(hb:w.heap[b]?=some (.cells C e f))(hf:f.1=f.2∨C.size<=f.1) :
  ∃ f':Nat×Nat,(f'.1=f'.2∨C.size<=f'.1)/\(w.freeze ⟨b,C.size,none⟩ 1).heap[b]?=some (.cells C e f'):=by
 obtain⟨lo,hi⟩:=f
 refine⟨if lo==hi then (C.size,C.size+1) else (min lo C.size,max hi (C.size+1)),?_,?_⟩
 ·right
  split
  ·exact Nat.le_refl _
  rename_i hne
  simp at hf hne ⊢
  omega
 unfold World.freeze
 rw[if_neg (by omega)]
 simp only[Array.getElem?_modify,if_pos,hb]
 rfl
theorem pX {o:Nat}{C:Array Value}{e:TypeId}{f:Nat×Nat}(hb:w.heap[b]?=some (.cells C e f)):(markStringish ⟨b,o,none⟩).run P w=.ok () (w.freeze ⟨b,C.size,none⟩ 1):=by
 have hsh:w.shape? b=some (e,C.size):=by simp[World.shape?,hb]
 simp[markStringish,hsh]
variable{t:TypeId}
theorem mJ (h:aB P t=some n):∃ i,P.info? t=some i/\i.size=n:=by
 unfold aB at h
 split at h
 ·rename_i i hi;simp at h;exact⟨i,hi,h⟩
 cases h
variable{src dst:TypeId}
theorem oY {j:TypeInfo}{b o:Nat}{C:Array Value}{f:Nat×Nat}(hs:P.underlying src=some (.pointer t))(hd:P.underlying dst=some .unsafePointer)(ht:P.info? t=some j)(hj:j.size≠0)
  (hb:w.heap[b]?=some (.cells C e f)) (ho:o<C.size):(convert src dst (.pointer (some ⟨b,o,none⟩))).run P w=.ok (.pointer (some ⟨b,o,none⟩)) w:=by
 have hsh:w.shape? b=some (e,C.size):=by simp[World.shape?,hb]
 simp[convert,run_underlying hs,run_underlying hd,Conv.unsafePointer,Conv.seenAt,viewAt,cellsIn,hsh,sizeOf,typeInfo,ht,hj]
 intro h
 omega
theorem Ds {u:TypeId}{j:TypeInfo}{count:Nat}(hu:P.info? u=some j)(hj:j.size≠0)(hc:1<=count):liesAt P P.depth u count 0 u 1=true:=by
 have hd:P.depth=(2*(P.types.size+Made.depth)+1)+1:=rfl
 have hcl:P.cellsOf u=j.size:=by simp[Program.cellsOf,hu]
 rw[hd]
 simp only[liesAt,Bool.or_eq_true]
 left
 rw[hd]
 simp[rowAt,hcl,hj,sameLayout,hc]
theorem mL {u:TypeId}{j:TypeInfo}{b o:Nat}{C:Array Value}{f:Nat×Nat}(hs:P.underlying src=some .unsafePointer)(hd:P.underlying dst=some (.pointer u))(hu:P.info? u=some j)(hj:j.size≠0)
  (hb:w.heap[b]?=some (.cells C u f)) (ho:o=0/\j.size<=C.size):(convert src dst (.pointer (some ⟨b,o,none⟩))).run P w=.ok (.pointer (some ⟨b,o,none⟩)) w:=by
 have hsh:w.shape? b=some (u,C.size):=by simp[World.shape?,hb]
 obtain⟨rfl,ho⟩:=ho
 have hcl:P.cellsOf u=j.size:=by simp[Program.cellsOf,hu]
 have hl:liesAt P P.depth u (C.size/P.cellsOf u) 0 u 1=true:=Ds hu hj (by rw[hcl];exact (Nat.one_le_div_iff (by omega)).2 ho)
 simp[convert,run_underlying hs,run_underlying hd,Conv.unsafePointer,Conv.seenAt,viewAt,hsh,variablesAt,hl,sizeOf,typeInfo,hu]
variable{x x' v:Value}
theorem ye (H:aJ P ρ h w)(e:mB P src dst x h=some (v,h'))(hx:ay ρ x x'):eM P ρ h w (convert src dst x') v h':=by
 unfold mB at e
 split at e
 case h_1 k k' n hs hd =>
  cases hx
  simp at e;obtain⟨rfl,rfl⟩:=e
  exact eM.quiet H (by rw[run_convert_int w src dst _ _ (by rw[hs];rfl) (by simp[Program.intKind,hd])]) (by simp[Program.intKind,hd,dC];exact .int _ _)
 case h_2 s hs hd =>
  cases hx
  simp at e;obtain⟨rfl,rfl⟩:=e
  exact eM.quiet H (by simp[convert,run_underlying hs,run_underlying hd]) (.string _)
 case h_3 el s hs hd =>
  cases hx
  split at e
  case h_2=>cases e
  rename_i vs hu8 hvs
  simp only[Bool.and_eq_true]at hu8
  obtain⟨⟨hu8,hone⟩,hsmall⟩:=hu8
  have hu8b:=hu8
  have hu8:=lW hu8
  have hsmall:=bk hsmall
  have hvs:=gt hvs
  split at e
  case h_2=>cases e
  rename_i r h₂ hnew
  obtain⟨n,hn,hnew⟩:=cS hnew
  have h1:=BI hu8 hn hone
  subst h1
  simp at e;obtain⟨rfl,rfl⟩:=e
  have hsz:s.data.toList.length=s.size:=by rw[Array.length_toList];rfl
  obtain⟨c,w₁,hch,⟨hle,hcb⟩,hh,ho,ht,hou⟩:=mZ (P:=P) (w:=w) s.size 0 el (by rw[←hsz];omega)
  let C:Array Value:=s.data.map (fun b=>.int .u8 b.toNat)++Array.replicate (c-s.size) (.int .u8 0)
  have hC:C.size=c:=by simp[C];have:s.data.size=s.size:=rfl;omega
  let l:jU:=⟨w₁.heap.size,0,C.size,1⟩
  have hblk₁:(w₁.alloc (.cells C el)).heap[w₁.heap.size]?=some (.cells C el (0,0)):=by
   show (w₁.heap.push _)[w₁.heap.size]?=_
   simp
  let w₂:World:=(w₁.alloc (.cells C el)).freeze ⟨w₁.heap.size,C.size,none⟩ 1
  obtain⟨f',hf',hblk⟩:=uU hblk₁ (.inl rfl)
  have hrun:(convert src dst (.string s)).run P w=.ok (.slice (some ⟨w₁.heap.size,0,none⟩) s.size c) w₂:=by
   have hm:=pX (P:=P) (o:=0) hblk₁
   simp only[convert,Sem.run_bind,run_underlying hs,run_underlying hd,Result.andThen_ok,run_underlying hu8,Conv.stringToBytes,hch,newRow,run_newObj,Sem.run_pure,World.alloc_eq]
   have hC':Array.map (fun b=>Value.int IntKind.u8 ↑b.toNat) s.data++Array.replicate (c-s.size) (Value.int IntKind.u8 0)=C:=rfl
   rw[hC',hm]
   rfl
  obtain⟨a,b⟩:=(H.draw hh).new_block (w':=w₂) (l:=l) hnew rfl (cU _ _).1 (cU _ _).2.1 (cU _ _).2.2 (by simp only[w₂];rw[lw];simp) (fun k hk=>by
   simp only[w₂]
   rw[fJ _ _ _ _ (by omega)]
   exact gG _ _ _ hk) (by
   refine⟨C,f',hblk,hf'.imp id (fun q=>⟨q,hu8b⟩),by rw[hvs];simp[l,C],by simp[l],⟨hn,.inl rfl⟩,fun i v hv=>?_⟩
   rw[hvs,List.getElem?_map]at hv
   cases hb:s.data.toList[i]? with
   | none=>rw[hb]at hv;simp at hv
   | some b =>
    rw[hb]at hv;simp at hv;subst hv
    refine⟨.int .u8 b.toNat,?_,.int _ _⟩
    have hi:i<s.data.size:=by
     rw[Array.getElem?_toList]at hb
     exact (Array.getElem?_eq_some_iff.1 hb).1
    simp only[l,Nat.zero_add,C]
    rw[Array.getElem?_append_left (by simpa using hi),Array.getElem?_map,←Array.getElem?_toList,hb]
    rfl)
  refine⟨_,w₂,kD ρ r l,hrun,?_,a,b.draw hh ho ht hou⟩
  have:=mI (ρ:=ρ) (r:=r) (len:=s.size) (cap:=c) (l:=l) hle (by simp[l];omega) hcb
  exact this
 case h_4 e₀ el r off len cap hs hd =>
  split at e
  case h_2=>cases e
  rename_i e' cs hb hrow
  simp only[Bool.and_eq_true]at hb
  obtain⟨⟨hb1,hb2⟩,hb3⟩:=hb
  split at e
  case h_2=>cases e
  rename_i hu8'

  have hb1:=be hb1
  have hb2:=lW hb2
  have hb3:=bk hb3
  subst hb1
  rw[hs]at hd;simp at hd;subst hd
  simp at e;obtain⟨rfl,rfl⟩:=e
  cases hx with
  | @slice _ _ _ _ cap' a hl hc ha =>
   obtain⟨l,hlr,rfl,hext⟩:=ha (by omega)
   obtain⟨l',C,f,hl',hblk,hf,h1,h2,h3,rel⟩:=H.at_fits hrow
   rw[hlr]at hl';simp at hl';subst hl'
   obtain⟨f',hf',hblk'⟩:=uU hblk hf
   have hm:=pX (P:=P) (o:=l.base+off) hblk
   refine⟨_,_,ρ,by simp only[convert,Sem.run_bind,run_underlying hs,Result.andThen_ok,run_underlying hb2,beq_self_eq_true,hm,Sem.run_pure];rfl,.slice hl hc fun hz=>⟨l,hlr,rfl,hext⟩,⟨fun r' row' hr'=>?_,H.inj,H.fresh,H.step⟩,
    ⟨cY.le_refl _,(cU _ _).1,(cU _ _).2.1,(cU _ _).2.2,by rw[lw];exact Nat.le_refl _,fun r' row' l' x xo y _=>⟨r',row',l',x,xo,y,rfl⟩,fun k hk hno=>fJ _ _ _ _ (fun hh=>hno r _ l (cw hrow) rfl hlr hh.symm),fun _ _ x=>.inl x,⟨0,by simp⟩,rfl⟩⟩
   obtain⟨l',hl',hrr⟩:=H.loc r' row' hr'
   by_cases hsame:r'=r
   ·subst hsame
    rw[cw hrow]at hr';simp at hr';subst hr'
    exact⟨l,hlr,C,f',hblk',hf'.imp id (fun q=>⟨q,hu8'⟩),h1,h2,h3,rel⟩
   exact⟨l',hl',hrr.keep (cY.le_refl _) (fJ _ _ _ _ fun hh=>hsame (H.inj r' r _ _ l' l hr' (cw hrow) hl' hlr hh (.inr rfl)))⟩
 case h_5 el n c hs hd =>
  split at e
  case h_2=>cases e
  rename_i hu8
  have hu8:=lW hu8
  simp at e;obtain⟨rfl,rfl⟩:=e
  cases hx
  exact eM.quiet H (u:=.string ByteArray.empty) (by simp[convert,run_underlying hs,run_underlying hd,run_underlying hu8,Conv.bytesToString]) (.string _)
 case h_6 el r off len cap hs hd =>
  split at e
  case h_3=>cases e
  case h_1 hu8 hb =>
   have hu8:=lW hu8
   have hb:=be hb
   subst hb
   simp at e;obtain⟨rfl,rfl⟩:=e
   cases hx with
   | @slice _ _ _ _ cap' a hl hc ha =>
    refine eM.quiet H (u:=.string ⟨⟨[]⟩⟩) ?_ (.string _)
    have:=gi (P:=P) (w:=w) (a:=a) (len:=0) (cap:=cap') (ns:=[]) rfl
    simp only[convert,Sem.run_bind,run_underlying hs,run_underlying hd,Result.andThen_ok,run_underlying hu8]
    exact this
  case h_2 hu8 hb =>
   have hu8:=lW hu8
   have hb:=ce hb
   split at e
   case h_2=>cases e
   rename_i cs hrow
   split at e
   case h_2=>cases e
   rename_i vs hcut
   split at e
   case h_2=>cases e
   rename_i bs hbs
   simp at e;obtain⟨rfl,rfl⟩:=e
   cases hx with
   | @slice _ _ _ _ cap' a hl hc ha =>
    obtain⟨l,hlr,rfl,hext⟩:=ha (by omega)
    obtain⟨l',hl',rel⟩:=H.at_read hrow
    rw[hlr]at hl';simp at hl';subst hl'
    obtain⟨hvs,hle,hlen,hoff⟩:=c9 hcut
    obtain⟨us,hrel,hus⟩:=i9 (w:=w) (ρ:=ρ) (b:=l.block) (o:=l.base+off) (vs:=vs) (fun i x hx=>by
     rw[hvs,List.getElem?_take]at hx
     split at hx
     ·rw[List.getElem?_drop]at hx
      obtain⟨u,hu,hv⟩:=rel _ _ hx
      exact⟨u,by rw[←hu];congr 2;omega,hv⟩
     cases hx)
    have hrun:=run_loadCells_list (P:=P) w ⟨l.block,l.base+off,none⟩ us (fun j u hu=>by rw[ed];exact hus j u hu)
    have hun:us.length=len:=by rw[←hrel.length,hlen]
    rw[hun]at hrun
    obtain⟨ns,hns,hbs'⟩:=kA hbs hrel
    subst hns hbs'
    refine eM.quiet H (u:=.string ⟨⟨ns.map fun n=>UInt8.ofNat n.toNat⟩⟩) ?_ (.string _)
    have:=gi (P:=P) (w:=w) (a:=⟨l.block,l.base+off,none⟩) (len:=len) (cap:=cap') (ns:=ns) hrun
    simp only[convert,Sem.run_bind,run_underlying hs,run_underlying hd,Result.andThen_ok,run_underlying hu8]
    exact this
 case h_7 t r off hs hd =>
  split at e
  case h_2=>cases e
  rename_i n e₀ cs hsz hrow
  split at e
  case h_2=>cases e
  rename_i hb
  have hb:=bk hb
  simp at e;obtain⟨rfl,rfl⟩:=e
  cases hx with
  | @ptr _ _ l hl =>
   obtain⟨l',C,f,hl',hblk,hf,h1,h2,h3,rel⟩:=H.at_cells hrow
   rw[hl]at hl';simp at hl';subst hl'
   obtain⟨i,hi,hin⟩:=mJ hsz
   exact eM.quiet H (oY hs hd hi (by omega) hblk (show l.base+off<C.size by omega)) (.ptr hl)
 case h_8 u r off hs hd =>
  split at e
  case h_2=>cases e
  rename_i e₀ cs n hrow hsz
  split at e
  case h_2=>cases e
  rename_i hb
  simp only[Bool.and_eq_true]at hb
  obtain⟨⟨⟨hb1,hb2⟩,hb3⟩,hb4⟩:=hb
  have hb1:=be hb1
  have hb2:=be hb2
  have hb4:=bk hb4
  subst hb1 hb2
  simp at e;obtain⟨rfl,rfl⟩:=e
  cases hx with
  | @ptr _ _ l hl =>
   obtain⟨l',C,f,hl',hblk,hf,h1,h2,h3,rel⟩:=H.at_fits hrow
   rw[hl]at hl';simp at hl';subst hl'
   obtain⟨i,hi,hin⟩:=mJ hsz
   have hbase:l.base=0:=h3.home.elim id fun q=>by rw[q]at hb3;cases hb3
   refine eM.quiet H (mL hs hd hi (by omega) hblk ?_) (.ptr hl)
   show l.base+0=0/\i.size<=C.size
   omega
 case h_9=>cases e
end
end Go.Am
namespace Go.Am
section
variable{P:Program}{ρ:cY}{h h':AW}{w:World}
variable{e:TypeId}
theorem BH (h:gg P e=true):uf P e=true:=by
 unfold gg at h
 split at h
 ·exact (Bool.and_eq_true_iff.1 h).2
 cases h
theorem uS(n:Nat):∀ (k c:Nat),c<=2*n+192->Builtin.growBy n k c<=2*n+192
 | 0,c,hc=>hc
 | k+1,c,hc=>by
  simp only[Builtin.growBy]
  split
  ·exact hc
  exact uS n k _ (by omega)
theorem AE {aT old:Nat}(h:old<aT):Builtin.nextslicecap aT old<=2*aT+192:=by
 unfold Builtin.nextslicecap
 split
 ·omega
 split
 ·omega
 exact uS _ _ _ (by omega)
theorem mq {aT old bytes:Nat}(h:old<aT)(hb:aT*bytes<=1000000000000):¬ (Builtin.nextslicecap aT old*bytes > 281474976710656):=by
 have h1:=Nat.mul_le_mul_right bytes (AE h)
 have h2:bytes<=aT*bytes:=Nat.le_mul_of_pos_left _ (by omega)
 have h3:(2*aT+192)*bytes=2*(aT*bytes)+192*bytes:=by rw[Nat.add_mul,Nat.mul_assoc]
 omega
variable{n:Nat}
theorem gT {size:Nat}{x x':Value}{vs:List Value}(H:aJ P ρ h w)(e:b6 size n x h=some vs)(hx:ay ρ x x')(hn:∀ a l c,x=.slice a l c->n<=l) :
  ∃ us:Array Value,(∀ W:World,W.heap=w.heap->(Builtin.firstCells size n x').run P W=.ok us W)/\aF ρ vs us.toList:=by
 unfold b6 at e
 split at e
 case h_1 =>
  cases hx
  split at e
  ·simp at e;subst e;exact⟨#[],fun _ _=>rfl,.nil⟩
  cases e
 case h_2 r off len cap =>
  cases hx with
  | @slice _ _ _ _ cap' a hl hc ha =>
   split at e
   ·rename_i hb
    have hb:=be hb
    subst hb
    simp at e;subst e
    refine⟨#[],fun W _=>?_,.nil⟩
    simp only[Builtin.firstCells,Nat.zero_mul]
    rfl
   rename_i hb
   have hb:=ce hb
   have hnl:=hn _ _ _ rfl
   split at e
   case h_2=>cases e
   rename_i cs hrow
   obtain⟨l,hlr,rfl,hext⟩:=ha (by omega)
   obtain⟨l',hl',rel⟩:=H.at_read hrow
   rw[hlr]at hl';simp at hl';subst hl'
   obtain⟨hvs,hle,hlen,hoff⟩:=c9 e
   obtain⟨us,hrel,hus⟩:=i9 (w:=w) (ρ:=ρ) (b:=l.block) (o:=l.base+off) (vs:=vs) (fun i x hx=>by
    rw[hvs,List.getElem?_take]at hx
    split at hx
    ·rw[List.getElem?_drop]at hx
     obtain⟨u,hu,hv⟩:=rel _ _ hx
     exact⟨u,by rw[←hu];congr 2;omega,hv⟩
    cases hx)
   refine⟨⟨us⟩,fun W hW=>?_,hrel⟩
   have hrun:=run_loadCells_list (P:=P) W ⟨l.block,l.base+off,none⟩ us (fun j u hu=>by
    rw[ed,←hus j u hu];simp only[World.cell?,hW])
   have hun:us.length=n*size:=by rw[←hrel.length,hlen]
   rw[hun]at hrun
   exact hrun
 case h_3 s =>
  cases hx
  split at e
  case h_2=>cases e
  rename_i bs hbs
  have hv:=gt e
  have hb:bs=s.data.toList.take n:=by
   unfold ny at hbs
   split at hbs
   ·rename_i hq
    have hq:=be hq
    simp at hbs;rw[←hbs,hq,List.take_length]
   exact nu hbs
  refine⟨(s.extract 0 n).data.map fun b=>.int .u8 b.toNat,fun _ _=>rfl,?_⟩
  rw[mA,hv,hb]
  simp only[Nat.sub_zero,List.drop_zero,Array.toList_map]
  exact tp _ _
 case h_4=>cases e
variable{ts:Array TypeId}{t₁ t₂ ty:TypeId}
theorem kV {i:TypeInfo}{xd:TypeDesc}{x':Value}{base:Option Addr}{len n cap':Nat}{old new:List Value}{us₁ us₂:Array Value}{v:Value}(H:aJ P ρ h w)
  (ht₁:ts[0]?=some t₁) (ht₂:ts[1]?=some t₂) (hu:P.underlying t₁=some (.slice e)) (hxd:P.underlying t₂=some xd) (hxi:∀ k,xd≠.int k) (hi:P.info? e=some i)
  (hlen:(Builtin.lenOf x').run P w=.ok n w) (hno:cap'<len+n) (hsm:(len+n)*i.bytes<=1000000000000)
  (hold:∀ W:World,W.heap=w.heap->(Builtin.firstCells i.size len (.slice base len cap')).run P W=.ok us₁ W) (hnew:∀ W:World,W.heap=w.heap->(Builtin.firstCells i.size n x').run P W=.ok us₂ W)
  (r₁:aF ρ old us₁.toList) (r₂:aF ρ new us₂.toList) (ho:old.length=len*i.size) (hn:new.length=n*i.size) (eg:gQ P h e (len+n) old new=some (v,h')) :
  eM P ρ h w (Builtin.append_ ts ty #[.slice base len cap',x']) v h':=by
 unfold gQ at eg
 split at eg
 case h_2=>cases eg
 rename_i cs hj hfit
 simp only[Bool.and_eq_true]at hfit
 obtain⟨hfit,hle⟩:=hfit
 have hle:=bk hle
 have hj:=eP hj
 unfold gg at hfit
 split at hfit
 case h_2=>cases hfit
 rename_i zs zn hz hzn
 simp only[Bool.and_eq_true]at hfit
 have hfit:=be hfit.1
 split at eg
 case h_2=>cases eg
 rename_i r h₂ hnc
 simp at eg;obtain⟨rfl,rfl⟩:=eg
 obtain⟨m,hm,hnc⟩:=cS hnc
 have hsz:aB P e=some i.size:=by simp[aB,hi]
 have hm':i.size=m:=by rw[hsz]at hm;simpa using hm
 subst hm'
 obtain⟨c,w₁,hch,⟨hcn,hcb⟩,hh,ho',ht,hou⟩:=mZ (P:=P) (w:=w) (len+n) cap' e (by omega)
 obtain⟨z,hz1,hz2,hz3⟩:=ei hz w₁
 let C:Array Value:=us₁++us₂++Builtin.zeroCells z.cells (c-(len+n))
 have l1:us₁.size=len*i.size:=by have:=r₁.length;simp at this;omega
 have l2:us₂.size=n*i.size:=by have:=r₂.length;simp at this;omega
 have hrel:aF ρ cs (us₁++us₂).toList:=by rw[hj,Array.toList_append];exact r₁.append r₂
 have hCs:(len+n)*i.size<=C.size:=by simp[C,l1,l2,Nat.add_mul]
 -- the new cells are as many as the capacity holds,if the type's zero value has its size
 have hzsz:(c*i.size<=C.size):=by
  have hzl:z.cells.size=i.size:=by
   rw[hsz]at hzn;simp at hzn
   rw[←hz2]at hfit;simpa[hzn] using hfit
  simp only[C,Array.size_append,l1,l2,Builtin.zeroCells,Array.size_map,Array.size_range,hzl]
  rw[←Nat.add_mul,←Nat.add_mul]
  exact Nat.mul_le_mul_right _ (by omega)
 obtain⟨a,b⟩:=dK (ρ:=ρ) (C:=C) (H.draw hh) hnc hsz (by have:=hrel.length;simp at this;simp[C];omega) (fun k v hv=>by
  obtain⟨u,hu,hvr⟩:=hrel.get hv
  refine⟨u,?_,hvr⟩
  rw[Array.getElem?_toList]at hu
  have hk:=(Array.getElem?_eq_some_iff.1 hu).1
  simp only[C]
  rw[Array.getElem?_append_left hk];exact hu)
 refine⟨_,_,_,?_,mI (ρ:=ρ) (r:=r) (l:=⟨w₁.heap.size,0,C.size,i.size⟩) hcn hzsz hcb,a,b.draw hh ho' ht hou⟩
 have hxd':∀ W:World,(underlying t₂).run P W=.ok xd W:=run_underlying hxd
 have hzer:(match xd with|.int _=>true|_=>false)=false:=by cases xd <;> first|rfl|(exact absurd rfl (hxi _))
 have hmax:¬ (((len+n:Nat):Int) > IntKind.i64.max):=by rw[IntKind.max_i64];omega
 have hsmall:=mq hno hsm
 have e1:=hold w₁ hh
 have e2:=hnew w₁ hh
 have hno':¬ (len+n<=cap'):=by omega
 simp only[Builtin.append_]
 simp only[ht₁,ht₂,List.getElem?_toArray,List.getElem?_cons_zero,List.getElem?_cons_succ,Sem.run_bind,run_underlying hu,Result.andThen_ok,bw hsz,hxd',Sem.run_pure,Bool.false_eq_true,if_false,hlen,Sem.run_ite,if_neg hno',du hi,false_or]
 rw[if_neg (fun hh=>hmax hh.1),if_neg (show ¬ (Builtin.nextslicecap (len+n) cap'*i.bytes > 2^48) from hsmall)]
 simp only[hch,Result.andThen_ok,run_askRoom,e1,Bool.not_false,if_true,e2,hz1,newRow,Sem.run_bind,run_newObj,Sem.run_pure]
 simp only[C,Nat.zero_add]
 rfl
theorem gh {ty:TypeId}{size:Nat}{xd:TypeDesc}{x':Value}{base:Option Addr}{len n cap':Nat}{us₂:Array Value}{w':World} 
  (ht₁:ts[0]?=some t₁) (ht₂:ts[1]?=some t₂) (hu:P.underlying t₁=some (.slice e)) (hxd:P.underlying t₂=some xd) (hxi:∀ k,xd≠.int k) (hsz:aB P e=some size)
  (hlen:(Builtin.lenOf x').run P w=.ok n w) (hle:len+n<=cap') (hnew:(Builtin.firstCells size n x').run P w=.ok us₂ w)
  (hst:match base with|some a=>(storeCells (a.add (len*size)) us₂.toList).run P w=.ok () w'|none=>w'=w) :
  (Builtin.append_ ts ty #[.slice base len cap',x']).run P w=.ok (.slice base (len+n) cap') w':=by
 have hxd':∀ W:World,(underlying t₂).run P W=.ok xd W:=run_underlying hxd
 have hzer:(match xd with|.int _=>true|_=>false)=false:=by cases xd <;> first|rfl|(exact absurd rfl (hxi _))
 simp only[Builtin.append_]
 simp only[ht₁,ht₂,List.getElem?_toArray,List.getElem?_cons_zero,List.getElem?_cons_succ,Sem.run_bind,run_underlying hu,Result.andThen_ok,bw hsz,hxd',Sem.run_pure,Bool.false_eq_true,if_false,hlen,Sem.run_ite,if_pos hle,Bool.not_false,if_true,hnew]
 cases base with
 | none=>subst hst;rfl
 | some a=>simp only[Sem.run_bind,hst,Result.andThen_ok,Sem.run_pure]
theorem ly {size:Nat}{x:Value}{vs:List Value}(e:b6 size 0 x h=some vs):vs=[]:=by
 unfold b6 at e
 split at e
 ·simpa using e.symm
 ·simpa using e.symm
 ·split at e
  ·rename_i bs hbs
   have hv:=gt e
   unfold ny at hbs
   split at hbs
   ·rename_i hq
    have hq:=be hq
    simp at hbs;subst hbs
    rw[hv,List.eq_nil_of_length_eq_zero hq.symm];rfl
   have:=nu hbs
   rw[hv,this];rfl
  cases e
 cases e
theorem jp {size:Nat}{x:Value}{vs:List Value}(e:b6 size n x h=some vs)(hx:(∃ s,x=.string s)->size=1/\lenB x=some n):vs.length=n*size:=by
 unfold b6 at e
 split at e
 ·split at e
  ·rename_i hb;have:=be hb;subst this;simp at e;subst e;simp
  cases e
 ·split at e
  ·rename_i hb;have:=be hb;subst this;simp at e;subst e;simp
  split at e
  ·exact (c9 e).2.2.1
  cases e
 ·rename_i s
  obtain⟨rfl,hl⟩:=hx ⟨s,rfl⟩
  simp[lenB]at hl
  split at e
  ·rename_i bs hbs
   have hv:=gt e
   unfold ny at hbs
   split at hbs
   ·simp at hbs;subst hbs;rw[hv];simp[←hl]
   rename_i hq;exact absurd (by rw[←hl];rfl) (ce hq)
  cases e
 cases e
theorem qc {zc:Array Value}{n size:Nat}(hs:zc.size=size):(if n*size=0 then (Result.ok #[] w:Result (Array Value)) else .ok (Builtin.zeroCells zc n) w)=.ok (Builtin.zeroCells zc n) w:=by
 by_cases h:n*size=0
 ·rw[if_pos h]
  have:Builtin.zeroCells zc n=#[]:=by unfold Builtin.zeroCells;rw[hs,h];simp
  rw[this]
 rw[if_neg h]
theorem o6 {i:TypeInfo}{k:IntKind}{base:Option Addr}{len cap':Nat}{z:Int}{zs old new:List Value}{us₁:Array Value}{v:Value}(H:aJ P ρ h w)
  (ht₁:ts[0]?=some t₁) (ht₂:ts[1]?=some t₂) (hu:P.underlying t₁=some (.slice e)) (hxd:P.underlying t₂=some (.int k)) (hi:P.info? e=some i)
  (h0:0<=z) (h1:z<=1000000000000) (hno:cap'<len+z.toNat) (hsm:(len+z.toNat)*i.bytes<=1000000000000)
  (hold:∀ W:World,W.heap=w.heap->(Builtin.firstCells i.size len (.slice base len cap')).run P W=.ok us₁ W)
  (r₁:aF ρ old us₁.toList) (hzs:dU P e=some zs) (hzl:zs.length=i.size) (hrep:rep zs z.toNat=some new) (ho:old.length=len*i.size) (eg:gQ P h e (len+z.toNat) old new=some (v,h')) :
  eM P ρ h w (Builtin.append_ ts ty #[.slice base len cap',.int .i64 z]) v h':=by
 unfold gQ at eg
 split at eg
 case h_2=>cases eg
 rename_i cs hj hfit
 simp only[Bool.and_eq_true]at hfit
 obtain⟨hfit,hle⟩:=hfit
 have hle:=bk hle
 have hj:=eP hj
 split at eg
 case h_2=>cases eg
 rename_i r h₂ hnc
 simp at eg;obtain⟨rfl,rfl⟩:=eg
 obtain⟨m,hm,hnc⟩:=cS hnc
 have hsz:aB P e=some i.size:=by simp[aB,hi]
 have hm':i.size=m:=by rw[hsz]at hm;simpa using hm
 subst hm'
 obtain⟨c,w₁,hch,⟨hcn,hcb⟩,hh,ho',ht,hou⟩:=mZ (P:=P) (w:=w) (len+z.toNat) cap' e (by omega)
 obtain⟨zc,hz1,hz2,hz3⟩:=ei hzs w₁
 have hzc:zc.cells.size=i.size:=by rw[←hzl,←hz2];simp
 have hnl:new.length=z.toNat*i.size:=by rw[(j2 hrep).1,hzl]
 have hmodel:(Builtin.zeroCells zc.cells z.toNat).toList=new:=by
  by_cases hs0:i.size=0
  ·exact fT hrep hz2 (by rw[hzl,hzc]) (.inl (by rw[hzc,hs0];simp))
  exact fT hrep hz2 (by rw[hzl,hzc]) (.inr (by omega))
 let us₂:Array Value:=Builtin.zeroCells zc.cells z.toNat
 have r₂:aF ρ new us₂.toList:=by simp only[us₂];rw[hmodel];exact kZ hz3 hrep
 let C:Array Value:=us₁++us₂++Builtin.zeroCells zc.cells (c-(len+z.toNat))
 have l1:us₁.size=len*i.size:=by have:=r₁.length;simp at this;omega
 have l2:us₂.size=z.toNat*i.size:=by have:=r₂.length;simp at this;omega
 have hrel:aF ρ cs (us₁++us₂).toList:=by rw[hj,Array.toList_append];exact r₁.append r₂
 have hCs:(len+z.toNat)*i.size<=C.size:=by simp[C,l1,l2,Nat.add_mul]
 have hzsz:(c*i.size<=C.size):=by
  simp only[C,Array.size_append,l1,l2]
  unfold Builtin.zeroCells
  simp only[Array.size_map,Array.size_range,hzc]
  rw[←Nat.add_mul,←Nat.add_mul]
  exact Nat.mul_le_mul_right _ (by omega)
 obtain⟨a,b⟩:=dK (ρ:=ρ) (C:=C) (H.draw hh) hnc hsz (by have:=hrel.length;simp at this;simp[C];omega) (fun k v hv=>by
  obtain⟨u,hu,hvr⟩:=hrel.get hv
  refine⟨u,?_,hvr⟩
  rw[Array.getElem?_toList]at hu
  have hk:=(Array.getElem?_eq_some_iff.1 hu).1
  simp only[C]
  rw[Array.getElem?_append_left hk];exact hu)
 refine⟨_,_,_,?_,mI (ρ:=ρ) (r:=r) (l:=⟨w₁.heap.size,0,C.size,i.size⟩) hcn hzsz hcb,a,b.draw hh ho' ht hou⟩
 have hmax:¬ (((len+z.toNat:Nat):Int) > IntKind.i64.max):=by rw[IntKind.max_i64];omega
 have hsmall:=mq hno hsm
 have e1:=hold w₁ hh
 have e2:=qc (w:=w₁) (n:=z.toNat) hzc
 have hno':¬ (len+z.toNat<=cap'):=by omega
 have hneg:¬ z<0:=by omega
 have hbig:¬ z*(i.bytes:Int) > 2^48:=by
  obtain⟨m,rfl⟩:=Int.eq_ofNat_of_zero_le h0
  have:m*i.bytes<=(len+m)*i.bytes:=Nat.mul_le_mul_right _ (by omega)
  have h3:m*i.bytes<=1000000000000:=Nat.le_trans this hsm
  have h4:((m:Int)*(i.bytes:Int))=((m*i.bytes:Nat):Int):=by simp
  rw[h4];omega
 have hxd':∀ W:World,(underlying t₂).run P W=.ok (.int k) W:=run_underlying hxd
 simp only[Builtin.append_]
 simp only[ht₁,ht₂,List.getElem?_toArray,List.getElem?_cons_zero,List.getElem?_cons_succ,Sem.run_bind,run_underlying hu,Result.andThen_ok,bw hsz,hxd',Sem.run_pure,asInt,asIntOf,Sem.run_ite,if_true,jZ h0 h1,if_neg hneg,du hi,if_neg hbig,if_neg hno',true_or,and_true,if_neg hmax,Bool.not_true,Bool.false_eq_true,if_false]
 rw[if_neg (show ¬ (Builtin.nextslicecap (len+z.toNat) cap'*i.bytes > 2^48) from hsmall)]
 simp only[hch,Result.andThen_ok,run_askRoom,e1,hz1,e2,newRow,Sem.run_bind,run_newObj,Sem.run_pure]
 simp only[C,us₂,Nat.zero_add]
 rfl
theorem nE {ty:TypeId}{i:TypeInfo}{k:IntKind}{base:Option Addr}{len cap':Nat}{z:Int}{zc:Value}{w':World} 
  (ht₁:ts[0]?=some t₁) (ht₂:ts[1]?=some t₂) (hu:P.underlying t₁=some (.slice e)) (hxd:P.underlying t₂=some (.int k)) (hi:P.info? e=some i)
  (h0:0<=z) (h1:z<=1000000000000) (hle:len+z.toNat<=cap') (hsm:(len+z.toNat)*i.bytes<=1000000000000)
  (hz1:(zeroValue e).run P w=.ok zc w) (hzc:zc.cells.size=i.size)
  (hst:match base with|some a=>(storeCells (a.add (len*i.size)) (Builtin.zeroCells zc.cells z.toNat).toList).run P w=.ok () w'|none=>w'=w) :
  (Builtin.append_ ts ty #[.slice base len cap',.int .i64 z]).run P w=.ok (.slice base (len+z.toNat) cap') w':=by
 have hsz:aB P e=some i.size:=by simp[aB,hi]
 have e2:=qc (w:=w) (n:=z.toNat) hzc
 have hneg:¬ z<0:=by omega
 have hbig:¬ z*(i.bytes:Int) > 2^48:=by
  obtain⟨m,rfl⟩:=Int.eq_ofNat_of_zero_le h0
  have:m*i.bytes<=(len+m)*i.bytes:=Nat.mul_le_mul_right _ (by omega)
  have h3:m*i.bytes<=1000000000000:=Nat.le_trans this hsm
  have h4:((m:Int)*(i.bytes:Int))=((m*i.bytes:Nat):Int):=by simp
  rw[h4];omega
 have hxd':∀ W:World,(underlying t₂).run P W=.ok (.int k) W:=run_underlying hxd
 simp only[Builtin.append_]
 simp only[ht₁,ht₂,List.getElem?_toArray,List.getElem?_cons_zero,List.getElem?_cons_succ,Sem.run_bind,run_underlying hu,Result.andThen_ok,bw hsz,hxd',Sem.run_pure,asInt,asIntOf,Sem.run_ite,if_true,jZ h0 h1,if_neg hneg,du hi,if_neg hbig,if_pos hle,Bool.not_true,Bool.false_eq_true,if_false,hz1,e2]
 cases base with
 | none=>subst hst;rfl
 | some a=>simp only[Sem.run_bind,hst,Result.andThen_ok,Sem.run_pure]
theorem yf {k:IntKind}{base:Option Addr}{len cap:Nat}{x s' x':Value}{v:Value}(H:aJ P ρ h w)(ht₁:ts[0]?=some t₁)(ht₂:ts[1]?=some t₂)(hu:P.underlying t₁=some (.slice e))(hxd:P.underlying t₂=some (.int k))
  (ea:oF P e base len cap x h=some (v,h')) (hs:ay ρ (.slice base len cap) s') (hx:ay ρ x x'):eM P ρ h w (Builtin.append_ ts ty #[s',x']) v h':=by
 unfold oF at ea
 split at ea
 case h_2=>cases ea
 rename_i z i zs hi hzs
 cases hx
 split at ea
 case h_2=>cases ea
 rename_i new hb hrep
 simp only[Bool.and_eq_true]at hb
 obtain⟨⟨hz0,hz1⟩,hsm0,hzl⟩:=hb
 have hz0:=au.1 hz0
 have hz1:=au.1 hz1
 have hzl:=be hzl
 have hsz:aB P e=some i.size:=by simp[aB,hi]
 split at ea
 case h_1=>cases ea
 rename_i hone
 split at ea
 case h_1 hcap =>
  have hcap:=ce hcap
  split at ea
  case h_1=>cases ea
  rename_i hle
  have hle:=rN hle
  split at ea
  case h_2=>cases ea
  rename_i old hold hsm
  have hsm:=bk hsm
  have hsm':(len+z.toNat)*i.bytes<=1000000000000:=Nat.le_trans (Nat.mul_le_mul_right _ (by omega)) hsm
  obtain⟨us₁,hF1,hR1⟩:=gT H hold hs (fun a l c hh=>by simp at hh;omega)
  have hol:old.length=len*i.size:=jp hold fun ⟨s,hh⟩=>by cases hh
  cases hs with
  | sliceNil=>exact o6 H ht₁ ht₂ hu hxd hi hz0 hz1 hle hsm' hF1 hR1 hzs hzl hrep hol ea
  | @slice _ _ _ _ cap' a hl hc ha =>
   have:=hc hcap
   subst this
   exact o6 H ht₁ ht₂ hu hxd hi hz0 hz1 hle hsm' hF1 hR1 hzs hzl hrep hol ea
 case h_2 hcap =>
  have hcap:=be hcap
  split at ea
  case h_2=>cases ea
  rename_i r off
  split at ea
  case h_2=>cases ea
  rename_i e' cs hrow hsm
  have hsm:=bk hsm
  split at ea
  case h_2=>cases ea
  rename_i hee
  have hee:=be hee
  subst hee
  split at ea
  case h_2=>cases ea
  rename_i old h₀ hold hput
  obtain⟨hov,hole,hol,hoff⟩:=c9 hold
  cases hs with
  | @slice _ _ _ _ cap' a hl hc ha =>
   obtain⟨l,C,f,hlr,hblk,hf,h1,h2,h3,rel⟩:=H.at_cells hrow
   rw[hsz]at h3;simp at h3
   by_cases hle:len+z.toNat<=cap'
   ·obtain⟨zc,hzr,hz2,hz3⟩:=ei hzs w
    have hzc:zc.cells.size=i.size:=by rw[←hzl,←hz2];simp
    have hnl:new.length=z.toNat*i.size:=by rw[(j2 hrep).1,hzl]
    have hmodel:(Builtin.zeroCells zc.cells z.toNat).toList=new:=by
     by_cases hs0:i.size=0
     ·exact fT hrep hz2 (by rw[hzl,hzc]) (.inl (by rw[hzc,hs0];simp))
     exact fT hrep hz2 (by rw[hzl,hzc]) (.inr (by omega))
    have hR2:aF ρ new (Builtin.zeroCells zc.cells z.toNat).toList:=by rw[hmodel];exact kZ hz3 hrep
    have hone2:=hR2.one hone
    have hus2:=hR2.length
    unfold gQ at ea
    split at ea
    case h_2=>cases ea
    rename_i cs₂ hj hfit
    have hslid:=BH (Bool.and_eq_true_iff.1 hfit).1
    have hj:=eP hj
    split at ea
    case h_2=>cases ea
    rename_i r' h₂ hnc
    obtain⟨m,hm,hnc⟩:=cS hnc
    simp at ea;obtain⟨rfl,rfl⟩:=ea
    by_cases hz:cap'=0
    ·have h0:len=0:=by omega
     have h1n:z.toNat=0:=by omega
     have hnil:new=[]:=List.eq_nil_of_length_eq_zero (by rw[hnl,h1n];simp)
     have hold':old=[]:=List.eq_nil_of_length_eq_zero (by rw[hol,h0];simp)
     subst hnil hold' h0 hz
     simp at hj;subst hj
     have hzn:(Builtin.zeroCells zc.cells z.toNat).toList=[]:=hmodel
     have hstz:∀ a,(storeCells (Addr.add a (0*i.size)) (Builtin.zeroCells zc.cells z.toNat).toList).run P w=.ok () w:=fun a=>by rw[hzn];rfl
     obtain⟨q1,q2⟩:=H.move (C':=C) (l':=⟨l.block,l.base,0,l.esz⟩) hrow hlr hblk hput hnc rfl rfl (by simp) (by simp;omega) rfl (.inl rfl) (fun k v hk=>by simp at hk)
     rw[setRow_self w _ _ _ _ hblk]at q1 q2
     refine⟨_,_,_,nE (w':=w) ht₁ ht₂ hu hxd hi hz0 hz1 hle hsm hzr hzc (hstz a),?_,q1,q2⟩
     rw[h1n]
     exact .slice (by omega) (fun hne=>absurd rfl hne) fun hz=>absurd rfl hz
    obtain⟨l',hl',rfl,hext⟩:=ha hz
    rw[hlr]at hl';simp at hl';subst hl'
    have hext2:=(hext hcap).2
    have hext:=(hext hcap).1
    have hmul:(len+z.toNat)*i.size<=cap'*l.esz:=by rw[h3];exact Nat.mul_le_mul_right _ hle
    have hma:(len+z.toNat)*i.size=len*i.size+z.toNat*i.size:=Nat.add_mul _ _ _
    obtain⟨C',hrun,hs',hget⟩:=bY (P:=P) l.block (l.base+off+len*i.size) e' f (Builtin.zeroCells zc.cells z.toNat).toList 0 C w hblk hf (by omega) hone2
    obtain⟨q1,q2⟩:=H.move (C':=C') (l':=⟨l.block,l.base+off,cap'*l.esz,l.esz⟩) hrow hlr hblk hput hnc hs' rfl (by rw[hj];simp;omega) (by simp;omega) rfl (.inr hslid) (fun k v hk=>by
     show ∃ u,C'[l.base+off+k]?=some u/\_
     rw[hget]
     rw[hj]at hk
     by_cases hk1:k<old.length
     ·rw[List.getElem?_append_left hk1]at hk
      rw[if_neg (by omega)]
      rw[hov,List.getElem?_take,if_pos (by omega),List.getElem?_drop]at hk
      obtain⟨u,hu',hv⟩:=rel _ _ hk
      exact⟨u,by rw[←hu'];congr 1;omega,hv⟩
     rw[List.getElem?_append_right (by omega)]at hk
     obtain⟨u,hu',hv⟩:=hR2.get hk
     have hlt:=(List.getElem?_eq_some_iff.1 hu').1
     rw[if_pos (by omega)]
     exact⟨u,by rw[←hu'];congr 1;omega,hv⟩)
    refine⟨_,_,_,nE ht₁ ht₂ hu hxd hi hz0 hz1 hle hsm hzr hzc (by show (storeCells (Addr.add _ _) _).run P w=_;rw[ed];exact hrun),.slice hle (fun hne=>absurd rfl hne) fun hz=>⟨⟨l.block,l.base+off,cap'*l.esz,l.esz⟩,by simp[kD],rfl,fun _=>⟨by simp,hext2⟩⟩,q1,q2⟩
   have hle:cap'<len+z.toNat:=by omega
   obtain⟨q1,q2⟩:=H.drop hput
   have hF1:∃ us₁:Array Value,(∀ W:World,W.heap=w.heap->(Builtin.firstCells i.size len (.slice (some a) len cap')).run P W=.ok us₁ W)/\aF ρ old us₁.toList:=by
    by_cases hz:len=0
    ·subst hz
     have hold':old=[]:=by simpa using hol
     subst hold'
     exact⟨#[],fun W _=>by simp only[Builtin.firstCells,Nat.zero_mul];rfl,.nil⟩
    obtain⟨l',hl',rfl,hext⟩:=ha (by omega)
    rw[hlr]at hl';simp at hl';subst hl'
    have hin:l.base+off+len*i.size<=C.size:=by rcases hole with hole|hole <;> omega
    refine⟨⟨(C.toList.drop (l.base+off)).take (len*i.size)⟩,fun W hW=>by simp only[Builtin.firstCells];exact gL (by rw[hW];exact hblk) hin,aF.of_get (by rw[hol];simp;omega) fun k x hx=>?_⟩
    rw[hov,List.getElem?_take]at hx
    split at hx
    ·rename_i hk
     rw[List.getElem?_drop]at hx
     obtain⟨u,hu',hv⟩:=rel _ _ hx
     refine⟨u,?_,hv⟩
     rw[List.getElem?_take,if_pos hk,List.getElem?_drop,Array.getElem?_toList,←hu']
     congr 1;omega
    cases hx
   obtain⟨us₁,hF1,hR1⟩:=hF1
   obtain⟨u,w',ρ',g1,g2,g3,g4⟩:=o6 (ty:=ty) q1 ht₁ ht₂ hu hxd hi hz0 hz1 hle hsm hF1 hR1 hzs hzl hrep hol ea
   exact⟨u,w',ρ',g1,g2,g3,q2.trans g4⟩
variable{args args':List Value}{v:Value}
theorem tV (H:aJ P ρ h w)(ea:fM P ts args h=some (v,h'))(ha:aF ρ args args'):eM P ρ h w (Builtin.append_ ts ty ⟨args'⟩) v h':=by
 unfold fM at ea
 split at ea
 case h_2=>cases ea
 rename_i base len cap x
 split at ea
 case h_2=>cases ea
 rename_i t₁ t₂ ht₁ ht₂
 split at ea
 case h_2=>cases ea
 rename_i e xd hu hxd
 split at ea
 case h_1 k =>
  cases ha with
  | @cons _ s' _ rest hs ha =>
   cases ha with
   | @cons _ x' _ rest' hx ha =>
    cases ha
    exact yf H ht₁ ht₂ hu hxd ea hs hx
 rename_i hxi
 have hxi:∀ k,xd≠.int k:=fun k hk=>hxi k hk
 split at ea
 case h_2=>cases ea
 rename_i i n hi hn
 split at ea
 case h_2=>cases ea
 rename_i new hnew
 split at ea
 case h_1=>cases ea
 rename_i hone
 simp only[Bool.and_eq_true,Bool.or_eq_true]at hone
 obtain⟨hone,hstr⟩:=hone
 have hsz:aB P e=some i.size:=by simp[aB,hi]
 cases ha with
 | @cons _ s' _ rest hs ha =>
  cases ha with
  | @cons _ x' _ rest' hx ha =>
   cases ha
   have hlen:∀ W:World,(Builtin.lenOf x').run P W=.ok n W:=fun W=>by
    cases hx <;> simp only[lenB]at hn <;> first|(cases hn;done)|skip
    ·simp at hn;subst hn;rfl
    ·simp at hn;subst hn;rfl
    simp at hn;subst hn;rfl
   have hnl:∀ a l c,x=.slice a l c->n<=l:=fun a l c hh=>by subst hh;simp[lenB]at hn;omega
   obtain⟨us₂,hF2,hR2⟩:=gT H hnew hx hnl
   have hnl2:new.length=n*i.size:=jp hnew fun ⟨s,hs'⟩=>by
    subst hs'
    refine⟨?_,hn⟩
    rcases hstr with hh|hh
    ·cases hh
    exact be hh
   have hus2:=hR2.length
   have hone2:=hR2.one hone
   split at ea
   case h_1 hcap =>
    have hcap:=ce hcap
    split at ea
    case h_1 hle =>
     have hle:=bk hle
     split at ea
     case h_1 hz =>
      have hz:=be hz
      subst hz
      simp at ea;obtain⟨rfl,rfl⟩:=ea
      have hnil:=ly hnew
      subst hnil
      have hus:us₂=#[]:=by simpa using hus2.symm
      subst hus
      cases hs with
      | sliceNil=>exact eM.quiet H (gh (w':=w) ht₁ ht₂ hu hxd hxi hsz (hlen w) hle (hF2 w rfl) rfl) .sliceNil
      | @slice _ _ _ _ cap' a hl hc ha =>
       have:=hc hcap
       subst this
       exact eM.quiet H (gh (w':=w) ht₁ ht₂ hu hxd hxi hsz (hlen w) hle (hF2 w rfl) rfl) (.slice hl hc ha)
     case h_2 hz =>
      have hz:=ce hz
      split at ea
      case h_2=>cases ea
      rename_i r off
      split at ea
      case h_2=>cases ea
      rename_i e' cs hrow
      split at ea
      case h_2=>cases ea
      rename_i cs' hlay
      split at ea
      case h_2=>cases ea
      rename_i h₂ hput
      simp at ea;obtain⟨rfl,rfl⟩:=ea
      cases hs with
      | @slice _ _ _ _ cap' a hl hc ha =>
       have:=hc hcap
       subst this
       obtain⟨l,hlr,rfl,hext⟩:=ha (by omega)
       obtain⟨l',C,f,hl',hblk,hf,h1,h2,h3,rel⟩:=H.at_cells hrow
       rw[hlr]at hl';simp at hl';subst hl'
       have hlle:=(kf hlay).2
       obtain⟨C',hrun,hs',hget⟩:=bY (P:=P) l.block (l.base+off+len*i.size) e' f us₂.toList 0 C w hblk hf (by omega) hone2
       obtain⟨q1,q2⟩:=H.write (C':=C') hrow hlr hblk hput hs' (iu hlay) (fun k u hk=>by
        rw[nZ hlay]at hk
        rw[hget]
        split at hk
        ·rename_i hin
         rw[if_pos (by omega)]
         obtain⟨u',hu',hr⟩:=hR2.get hk
         exact⟨u',by rw[←hu'];congr 1;omega,hr⟩
        rename_i hin
        rw[if_neg (by omega)]
        exact rel _ _ hk)
       exact⟨_,_,ρ,gh ht₁ ht₂ hu hxd hxi hsz (hlen w) hle (hF2 w rfl) (by show (storeCells (Addr.add _ _) _).run P w=_;rw[ed];exact hrun),.slice hle (fun _=>rfl) fun hz=>⟨l,hlr,rfl,hext⟩,q1,q2⟩
    case h_2 hle =>
     have hle:=rN hle
     split at ea
     case h_2=>cases ea
     rename_i old hold hsm
     have hsm:=bk hsm
     have hsm':(len+n)*i.bytes<=1000000000000:=Nat.le_trans (Nat.mul_le_mul_right _ (by omega)) hsm
     obtain⟨us₁,hF1,hR1⟩:=gT H hold hs (fun a l c hh=>by simp at hh;omega)
     have hol:old.length=len*i.size:=jp hold fun ⟨s,hh⟩=>by cases hh
     cases hs with
     | sliceNil=>exact kV H ht₁ ht₂ hu hxd hxi hi (hlen w) hle hsm' hF1 hF2 hR1 hR2 hol hnl2 ea
     | @slice _ _ _ _ cap' a hl hc ha =>
      have:=hc hcap
      subst this
      exact kV H ht₁ ht₂ hu hxd hxi hi (hlen w) hle hsm' hF1 hF2 hR1 hR2 hol hnl2 ea
   case h_2 hcap =>
    have hcap:=be hcap
    split at ea
    case h_2=>cases ea
    rename_i r off
    split at ea
    case h_2=>cases ea
    rename_i e' cs hrow hsm
    have hsm:=bk hsm
    split at ea
    case h_2=>cases ea
    rename_i hee
    have hee:=be hee
    subst hee
    split at ea
    case h_2=>cases ea
    rename_i old h₀ hold hput
    obtain⟨hov,hole,hol,hoff⟩:=c9 hold
    cases hs with
    | @slice _ _ _ _ cap' a hl hc ha =>
     obtain⟨l,C,f,hlr,hblk,hf,h1,h2,h3,rel⟩:=H.at_cells hrow
     rw[hsz]at h3;simp at h3
     by_cases hle:len+n<=cap'
     ·-- there is room: the block goes on as the new row's
      unfold gQ at ea
      split at ea
      case h_2=>cases ea
      rename_i cs₂ hj hfit
      have hslid:=BH (Bool.and_eq_true_iff.1 hfit).1
      have hj:=eP hj
      split at ea
      case h_2=>cases ea
      rename_i r' h₂ hnc
      obtain⟨m,hm,hnc⟩:=cS hnc
      simp at ea;obtain⟨rfl,rfl⟩:=ea
      by_cases hz:cap'=0
      ·have h0:len=0:=by omega
       have h1n:n=0:=by omega
       subst h0 h1n hz
       have hnil:=ly hnew
       subst hnil
       have hus:us₂=#[]:=by simpa using hus2.symm
       subst hus
       have hold':old=[]:=by simpa using hol
       subst hold'
       simp at hj;subst hj
       obtain⟨q1,q2⟩:=H.move (C':=C) (l':=⟨l.block,l.base,0,l.esz⟩) hrow hlr hblk hput hnc rfl rfl (by simp) (by simp;omega) rfl (.inl rfl) (fun k v hk=>by simp at hk)
       rw[setRow_self w _ _ _ _ hblk]at q1 q2
       exact⟨_,_,_,gh (w':=w) ht₁ ht₂ hu hxd hxi hsz (hlen w) hle (hF2 w rfl) rfl,.slice hl (fun hne=>absurd rfl hne) fun hz=>absurd rfl hz,q1,q2⟩
      obtain⟨l',hl',rfl,hext⟩:=ha hz
      rw[hlr]at hl';simp at hl';subst hl'
      have hext2:=(hext hcap).2
      have hext:=(hext hcap).1
      have hmul:(len+n)*i.size<=cap'*l.esz:=by rw[h3];exact Nat.mul_le_mul_right _ hle
      have hma:(len+n)*i.size=len*i.size+n*i.size:=Nat.add_mul _ _ _
      obtain⟨C',hrun,hs',hget⟩:=bY (P:=P) l.block (l.base+off+len*i.size) e' f us₂.toList 0 C w hblk hf (by omega) hone2
      obtain⟨q1,q2⟩:=H.move (C':=C') (l':=⟨l.block,l.base+off,cap'*l.esz,l.esz⟩) hrow hlr hblk hput hnc hs' rfl (by rw[hj];simp;omega) (by simp;omega) rfl (.inr hslid) (fun k v hk=>by
       show ∃ u,C'[l.base+off+k]?=some u/\_
       rw[hget]
       rw[hj]at hk
       by_cases hk1:k<old.length
       ·rw[List.getElem?_append_left hk1]at hk
        rw[if_neg (by omega)]
        rw[hov,List.getElem?_take,if_pos (by omega),List.getElem?_drop]at hk
        obtain⟨u,hu',hv⟩:=rel _ _ hk
        exact⟨u,by rw[←hu'];congr 1;omega,hv⟩
       rw[List.getElem?_append_right (by omega)]at hk
       obtain⟨u,hu',hv⟩:=hR2.get hk
       have hlt:=(List.getElem?_eq_some_iff.1 hu').1
       rw[if_pos (by omega)]
       exact⟨u,by rw[←hu'];congr 1;omega,hv⟩)
      refine⟨_,_,_,gh ht₁ ht₂ hu hxd hxi hsz (hlen w) hle (hF2 w rfl) (by show (storeCells (Addr.add _ _) _).run P w=_;rw[ed];exact hrun),.slice hle (fun hne=>absurd rfl hne) fun hz=>⟨⟨l.block,l.base+off,cap'*l.esz,l.esz⟩,by simp[kD],rfl,fun _=>⟨by simp,hext2⟩⟩,q1,q2⟩
     have hle:cap'<len+n:=by omega
     obtain⟨q1,q2⟩:=H.drop hput
     have hF1:∃ us₁:Array Value,(∀ W:World,W.heap=w.heap->(Builtin.firstCells i.size len (.slice (some a) len cap')).run P W=.ok us₁ W)/\aF ρ old us₁.toList:=by
      by_cases hz:len=0
      ·subst hz
       have hold':old=[]:=by simpa using hol
       subst hold'
       exact⟨#[],fun W _=>by simp only[Builtin.firstCells,Nat.zero_mul];rfl,.nil⟩
      obtain⟨l',hl',rfl,hext⟩:=ha (by omega)
      rw[hlr]at hl';simp at hl';subst hl'
      have hin:l.base+off+len*i.size<=C.size:=by rcases hole with hole|hole <;> omega
      refine⟨⟨(C.toList.drop (l.base+off)).take (len*i.size)⟩,fun W hW=>by simp only[Builtin.firstCells];exact gL (by rw[hW];exact hblk) hin,aF.of_get (by rw[hol];simp;omega) fun k x hx=>?_⟩
      rw[hov,List.getElem?_take]at hx
      split at hx
      ·rename_i hk
       rw[List.getElem?_drop]at hx
       obtain⟨u,hu',hv⟩:=rel _ _ hx
       refine⟨u,?_,hv⟩
       rw[List.getElem?_take,if_pos hk,List.getElem?_drop,Array.getElem?_toList,←hu']
       congr 1;omega
      cases hx
     obtain⟨us₁,hF1,hR1⟩:=hF1
     obtain⟨u,w',ρ',g1,g2,g3,g4⟩:=kV (ty:=ty) q1 ht₁ ht₂ hu hxd hxi hi (hlen w) hle hsm hF1 hF2 hR1 hR2 hol hnl2 ea
     exact⟨u,w',ρ',g1,g2,g3,q2.trans g4⟩
end
end Go.Am
end
section
namespace Go.Am
open Go.MapKept
section
variable{P:Program}{ρ:cY}{h h':AW}{w:World}
variable{kt:TypeId}
theorem oc {k:Value}(e:eE P kt k=true):∃ d,P.underlying kt=some d/\IsKey d k/\((∃ i,d=.int i)∨d=.string):=by
 unfold eE at e
 split at e
 ·rename_i hd
  split at e
  case isFalse=>cases e
  rename_i hk
  exact⟨_,hd,by simp[IsKey,hk],.inl ⟨_,rfl⟩⟩
 ·rename_i hd;exact⟨_,hd,by simp[IsKey],.inr rfl⟩
 cases e
theorem n9 {k k':Value}(e:eE P kt k=true)(r:ay ρ k k'):k'=k:=by
 unfold eE at e
 split at e
 ·cases r;rfl
 ·cases r;rfl
 cases e
theorem fZ {d:TypeDesc}(hd:(∃ i,d=.int i)∨d=.string){k:Value}(hk:IsKey d k):∀ {es es':List MapEntry} {i:Nat} {r:Option (Nat×Value)},b7 k es i=some r->fC ρ es es' →
  (r=none/\Instr.findNow d k es' i=some none)∨∃ j v e',r=some (i+j,v)/\Instr.findNow d k es' i=some (some (i+j,e'.val))/\es'[j]?=some e'/\e'.key=k/\ay ρ v e'.val
 | [],es',i,r,e,R=>by
  obtain⟨h1,_,_⟩:=R
  simp only[List.map_nil]at h1
  generalize hx:List.map (·.key) es'=ks at h1
  cases h1
  have:es'=[]:=by simpa using hx
  subst this
  simp only[b7,Option.some.injEq]at e
  exact .inl ⟨e.symm,rfl⟩
 | x::es,es',i,r,e,R=>by
  cases es' with
  | nil=>obtain⟨h1,_,_⟩:=R;simp only[List.map_cons,List.map_nil]at h1;cases h1
  | cons y es' =>
   obtain⟨h1,h2,h3⟩:=R
   simp only[List.map_cons,List.cons.injEq]at h1 h2 h3
   cases h1 with
   | cons hk1 h1 =>
   cases h2 with
   | cons hv1 h2 =>
   have R':fC ρ es es':=⟨h1,h2,h3.2⟩
   have same:∀ b,dc k x.key=some b->y.key=x.key/\Instr.sameNow d k y.key=some b/\(b=true->y.key=k):=by
    intro b hb
    unfold dc at hb
    split at hb
    ·rename_i k1 a k2 c hxk
     split at hb
     case isFalse=>cases hb
     rename_i hkk
     subst hkk
     rw[hxk]at hk1 ⊢
     generalize hy:y.key=yk at hk1 ⊢
     cases hk1
     simp only[Option.some.injEq]at hb
     rcases hd with ⟨j,rfl⟩|rfl
     ·refine⟨rfl,by rw[←hb,aC];simp[Instr.sameNow],fun h=>?_⟩
      rw[h,aC]at hb
      have:a=c:=by simpa using hb
      rw[this]
     simp[IsKey]at hk
    ·rename_i a c hxk
     rw[hxk]at hk1 ⊢
     generalize hy:y.key=yk at hk1 ⊢
     cases hk1
     simp only[Option.some.injEq]at hb
     rcases hd with ⟨j,rfl⟩|rfl
     ·simp[IsKey]at hk
     have e1:(a==c)=b:=by
      rw[←hb,cH]
      obtain⟨⟨a⟩⟩:=a
      obtain⟨⟨c⟩⟩:=c
      by_cases hac:a=c
      ·subst hac
       rw[(bytes_beq _ _).2 rfl];simp
      have h1:((⟨⟨a⟩⟩:ByteArray)==⟨⟨c⟩⟩)=false:=by
       cases hh:((⟨⟨a⟩⟩:ByteArray)==⟨⟨c⟩⟩) with
       | false=>rfl
       | true=>have:=(bytes_beq _ _).1 hh;cases this;exact (hac rfl).elim
      rw[h1]
      simp[hac]
     refine⟨rfl,by rw[←e1];rfl,fun h=>?_⟩
     rw[h]at e1
     rw[(bytes_beq _ _).1 e1]
    cases hb
   simp only[b7]at e
   split at e
   ·rename_i hb
    obtain⟨_,s2,s3⟩:=same _ hb
    simp only[Option.some.injEq]at e
    exact .inr ⟨0,x.val,y,e.symm,by simp[Instr.findNow,s2],rfl,s3 rfl,hv1⟩
   ·rename_i hb
    obtain⟨_,s2,s3⟩:=same _ hb
    rcases fZ hd hk e R' with ⟨h1,h2⟩|⟨j,v,e',h1,h2,h3,h4,h5⟩
    ·exact .inl ⟨h1,by simp[Instr.findNow,s2,h2]⟩
    exact .inr ⟨j+1,v,e',by rw[h1];congr 2;omega,by simp[Instr.findNow,s2,h2];omega,by simpa using h3,h4,h5⟩
   cases e
variable{t:TypeId}
theorem C8 {z:Value}(e:mD P t=some z)(w:World):(zeroValue t).run P w=.ok z w/\plain z=true:=by
 unfold mD at e
 split at e
 case h_2=>cases e
 rename_i i hi
 split at e
 case h_2=>cases e
 rename_i z0 hz
 split at e
 case h_2=>cases e
 rename_i hf
 simp only[Option.some.injEq]at e
 subst e
 refine⟨?_,hf⟩
 simp[zeroValue,typeInfo,hi,hz]
variable{r clock:Nat}{es:List MapEntry}
theorem aJ.at_map (H:aJ P ρ h w)(g:h.get r=some (.map es clock)):∃ l es',ρ r=some l/\w.heap[l.block]?=some (.map es' clock)/\fC ρ es es'.toList:=by
 obtain⟨l,hl,es',hb,R⟩:=H.loc r _ g
 exact⟨l,es',hl,hb,R⟩
variable{v:Value}
theorem tQ {m m' k k':Value}{ok:Bool}(H:aJ P ρ h w)(e:fI P t m k ok h=some v)(hm:ay ρ m m')(hk:ay ρ k k'):∃ u,(Instr.lookup t m' k' ok).run P w=.ok u w/\ay ρ v u:=by
 unfold fI at e
 split at e
 case h_2=>cases e
 rename_i kt et ht
 split at e
 case h_2=>cases e
 rename_i es hkey hes
 have hk':=n9 hkey hk
 subst hk'
 obtain⟨d,hd,hik,hdd⟩:=oc hkey
 have main:∀ es':Array MapEntry,fC ρ es es'.toList->∃ u,(do
   Instr.checkKey es'.isEmpty 10000 kt k'
   let (v,b) ← match ← Instr.findKey kt k' es'.toList with
    | some (_,v)=>pure (v,true)
    | none=>pure (← zeroValue et,false)
   pure (if ok=true then Value.tuple #[v,.bool b] else v):Sem Value).run P w=.ok u w/\ay ρ v u:=by
  intro es' R
  split at e
  ·rename_i i0 v0 hf
   simp only[Option.some.injEq]at e
   subst e
   rcases fZ hdd hik hf R with ⟨h1,_⟩|⟨j,v1,e',h1,h2,_,_,h5⟩
   ·cases h1
   simp only[Option.some.injEq,Prod.mk.injEq]at h1
   obtain⟨_,rfl⟩:=h1
   refine⟨if ok=true then .tuple #[e'.val,.bool true] else e'.val,?_,?_⟩
   ·simp[run_checkKey hd hik,run_findKey hd h2]
   cases ok
   ·exact h5
   exact .tuple (.cons h5 (.cons (.bool _) .nil))
  ·rename_i hf
   split at e
   case h_2=>cases e
   rename_i z hz
   simp only[Option.some.injEq]at e
   subst e
   obtain⟨hz1,hz2⟩:=C8 hz w
   rcases fZ hdd hik hf R with ⟨_,h2⟩|⟨j,v1,e',h1,_⟩
   ·refine⟨if ok=true then .tuple #[z,.bool false] else z,?_,?_⟩
    ·simp[run_checkKey hd hik,run_findKey hd h2,hz1]
    cases ok
    ·exact .of_plain hz2
    exact .tuple (.cons (.of_plain hz2) (.cons (.bool _) .nil))
   cases h1
  cases e
 unfold fK at hes
 split at hes
 ·simp only[Option.some.injEq]at hes
  subst hes
  cases hm
  obtain⟨u,h1,h2⟩:=main #[] ⟨.nil,.nil,rfl⟩
  refine⟨u,?_,h2⟩
  rw[←h1]
  simp[Instr.lookup,run_underlying ht]
  rfl
 ·rename_i r
  split at hes
  case h_2=>cases hes
  rename_i es0 clock hg
  simp only[Option.some.injEq]at hes
  subst hes
  obtain⟨l,es',hl,hb,R⟩:=H.at_map hg
  cases hm with
  | map hl' =>
   rw[hl]at hl';simp only[Option.some.injEq]at hl';subst hl'
   obtain⟨u,h1,h2⟩:=main es' R
   refine⟨u,?_,h2⟩
   rw[←h1]
   simp[Instr.lookup,run_underlying ht,Go.MapKept.run_getObj_map hb]
   rfl
 cases hes
theorem qZ {x x':Option Value}{r:Nat}(H:aJ P ρ h w)(e:nV P t x=true)(hx:tG ρ x x')(hn:h.new (.map [] 0)=some (r,h')):eM P ρ h w (Instr.makeMap t x') (.map (some r)) h':=by
 have hrun:(Instr.makeMap t x').run P w=.ok (.map (some w.heap.size)) (w.alloc (.map #[] 0)):=by
  unfold nV at e
  split at e
  ·rename_i ht
   cases x' with
   | none=>simp[Instr.makeMap]
   | some y=>cases hx
  ·rename_i kd nn ht
   cases x' with
   | none=>cases hx
   | some y =>
    have hx:ay ρ (.int kd nn) y:=hx
    cases hx
    simp[Instr.makeMap,run_underlying ht,asInt,asIntOf]
  cases e
 obtain⟨a,b⟩:=H.new_block (w':=w.alloc (.map #[] 0)) (l:=⟨w.heap.size,0,0,0⟩) hn rfl rfl rfl rfl (by show (w.heap.push _).size=_;simp) (fun k hk=>by show (w.heap.push _)[k]?=_;exact gG _ _ _ hk) (by
  refine⟨#[],?_,.nil,.nil,rfl⟩
  show (w.heap.push _)[w.heap.size]?=_
  simp)
 exact⟨_,_,_,hrun,.map (l:=⟨w.heap.size,0,0,0⟩) (by simp[kD]),a,b⟩
theorem aJ.writeRow {row0 row1:aG}{o0 o1:Obj}{l:jU}(H:aJ P ρ h w)(hrow:h.get r=some row0)(own0:row0.own=true)(hl:ρ r=some l)
  (hb:w.heap[l.block]?=some o0) (hp:h.put r (some row1)=some h') (rel:kB P ρ { w with heap:=w.heap.setIfInBounds l.block o1 } l row1) :
  aJ P ρ h' { w with heap:=w.heap.setIfInBounds l.block o1 }/\bE ρ h w ρ h' { w with heap:=w.heap.setIfInBounds l.block o1 }:=by
 obtain⟨hg,hn,hst⟩:=jh hp
 obtain⟨here,other⟩:=heap_set (o':=o1) hb
 refine⟨⟨?_,?_,by rw[hn,hst];exact H.fresh,by rw[hst];exact H.step⟩,⟨cY.le_refl _,rfl,rfl,rfl,by simp,?_,?_,fun _ _ x=>.inl x,⟨0,by rw[hn];simp⟩,hst⟩⟩
 ·intro m row hm
  rw[hg]at hm
  split at hm
  ·simp at hm;subst hm;subst_vars
   exact⟨l,hl,rel⟩
  rename_i hne
  obtain⟨l',hl',hr'⟩:=H.loc m row hm
  refine⟨l',hl',hr'.keep (cY.le_refl _) (other _ fun hh=>hne (H.inj m r row _ l' l hm hrow hl' hl hh (.inr own0)))⟩
 ·intro a b rowa rowb la lb ha hb' hla hlb hab hown
  rw[hg]at ha hb'
  have ha':∃ rowa',h.get a=some rowa'/\(rowa.own=true->rowa'.own=true):=by
   split at ha
   ·subst_vars;exact⟨_,hrow,fun _=>own0⟩
   exact⟨_,ha,id⟩
  have hb'':∃ rowb',h.get b=some rowb'/\(rowb.own=true->rowb'.own=true):=by
   split at hb'
   ·subst_vars;exact⟨_,hrow,fun _=>own0⟩
   exact⟨_,hb',id⟩
  obtain⟨_,ha',oa⟩:=ha'
  obtain⟨_,hb'',ob⟩:=hb''
  exact H.inj a b _ _ la lb ha' hb'' hla hlb hab (hown.imp oa ob)
 ·intro m row lm hm hmo hlm _
  rw[hg]at hm
  split at hm
  ·subst_vars;exact⟨_,_,_,hrow,own0,hlm,rfl⟩
  exact⟨m,row,lm,hm,hmo,hlm,rfl⟩
 intro k hk hno
 exact other k fun hh=>hno r _ l hrow own0 hl hh.symm
theorem aJ.writeMap {clock2:Nat}{es es2:List MapEntry}{es' es2':Array MapEntry}{l:jU}(H:aJ P ρ h w)(hrow:h.get r=some (.map es clock))(hl:ρ r=some l)
  (hb:w.heap[l.block]?=some (.map es' clock)) (hp:h.put r (some (.map es2 clock2))=some h') (rel:fC ρ es2 es2'.toList) :
  aJ P ρ h' { w with heap:=w.heap.setIfInBounds l.block (.map es2' clock2) }/\bE ρ h w ρ h' { w with heap:=w.heap.setIfInBounds l.block (.map es2' clock2) } :=
 H.writeRow hrow rfl hl hb hp ⟨es2',(heap_set (o':=.map es2' clock2) hb).1,rel⟩
theorem xf(e:MapEntry):∀ es:List MapEntry,pM e es=es++[e]
 | []=>rfl
 | x::es=>by simp[pM,xf e es]
theorem BJ(k v:Value):∀ (es:List MapEntry) (i:Nat),mK k v es i=es.modify i fun e=>{ e with key:=k,val:=v }
 | [],i=>by cases i <;> rfl
 | e::es,0=>rfl
 | e::es,n+1=>by simp[mK,BJ k v es n]
theorem fC.add {es':List MapEntry}{k v v':Value}{b:Nat}(R:fC ρ es es')(hk:ay ρ k k)(hv:ay ρ v v'):fC ρ (pM ⟨k,v,b⟩ es) (es'++[⟨k,v',b⟩]):=by
 rw[xf]
 obtain⟨h1,h2,h3⟩:=R
 refine⟨?_,?_,?_⟩
 ·simp only[List.map_append];exact h1.append (.cons hk .nil)
 ·simp only[List.map_append];exact h2.append (.cons hv .nil)
 simp only[List.map_append,h3];rfl
variable{v':Value}
theorem fC.set {k:Value}(hk:ay ρ k k)(hv:ay ρ v v'):∀ {es es':List MapEntry} (i:Nat),fC ρ es es'->fC ρ (mK k v es i) (mK k v' es' i)
 | [],[],i,_=>⟨.nil,.nil,rfl⟩
 | [],y::es',i,R=>by obtain⟨h1,_,_⟩:=R;simp only[List.map_cons,List.map_nil]at h1;cases h1
 | x::es,[],i,R=>by obtain⟨h1,_,_⟩:=R;simp only[List.map_cons,List.map_nil]at h1;cases h1
 | x::es,y::es',i,R=>by
  obtain⟨h1,h2,h3⟩:=R
  simp only[List.map_cons,List.cons.injEq]at h1 h2 h3
  cases h1 with
  | cons hk1 h1 =>
  cases h2 with
  | cons hv1 h2 =>
  cases i with
  | zero=>exact⟨.cons hk h1,.cons hv h2,by simp[mK,h3]⟩
  | succ i =>
   obtain⟨g1,g2,g3⟩:=fC.set hk hv i (show fC ρ es es' from ⟨h1,h2,h3.2⟩)
   exact⟨.cons hk1 g1,.cons hv1 g2,by simp[mK,h3.1,g3]⟩
theorem oZ {m m' k k':Value}(H:aJ P ρ h w)(e:ir P t m k v h=some h')(hm:ay ρ m m')(hk:ay ρ k k')(hv:ay ρ v v') :
  ∃ w',(Instr.mapUpdate t m' k' v').run P w=.ok () w'/\aJ P ρ h' w'/\bE ρ h w ρ h' w':=by
 unfold ir at e
 split at e
 case h_2=>cases e
 rename_i kt et ht
 split at e
 case h_2=>cases e
 rename_i r hkey
 have hk':=n9 hkey hk
 subst hk'
 obtain⟨d,hd,hik,hdd⟩:=oc hkey
 split at e
 case h_2=>cases e
 rename_i es clock hg
 obtain⟨l,es',hl,hb,R⟩:=H.at_map hg
 cases hm with
 | map hl' =>
  rw[hl]at hl';simp only[Option.some.injEq]at hl';subst hl'
  split at e
  ·rename_i i0 v0 hf
   rcases fZ hdd hik hf R with ⟨h1,_⟩|⟨j,v1,e',h1,h2,h3,h4,_⟩
   ·cases h1
   simp only[Option.some.injEq,Prod.mk.injEq]at h1
   obtain⟨hj,_⟩:=h1
   have hj:i0=j:=by omega
   subst hj
   have h2':Instr.findNow d k' es'.toList 0=some (some (i0,e'.val)):=by rw[h2];congr 3;omega
   have h3':es'[i0]?=some e':=by simpa using h3
   obtain⟨a,b⟩:=H.writeMap (es2':=es'.modify i0 fun e=>{ e with key:=k',val:=v' }) hg hl hb e (by
    rw[Array.toList_modify,←BJ]
    exact fC.set hk hv i0 R)
   refine⟨_,?_,a,b⟩
   simp[Instr.mapUpdate,run_underlying ht,Go.MapKept.run_getObj_map hb,run_checkKey hd hik,run_findKey hd h2',h3',h4,run_keyThatStays hik,run_setObj_map _ hb]
  ·rename_i hf
   rcases fZ hdd hik hf R with ⟨_,h2⟩|⟨j,v1,e',h1,_⟩
   ·obtain⟨a,b⟩:=H.writeMap (es2':=es'.push ⟨k',v',clock⟩) hg hl hb e (by
     rw[Array.toList_push]
     exact fC.add R hk hv)
    refine⟨_,?_,a,b⟩
    simp[Instr.mapUpdate,run_underlying ht,Go.MapKept.run_getObj_map hb,run_checkKey hd hik,run_findKey hd h2,run_setObj_map _ hb]
   cases h1
  cases e
variable{x x':Value}{res:xn}
theorem vU (H:aJ P ρ h w)(e:we P t x h=some res)(hx:ay ρ x x'):∃ v h',res=.val v h'/\eM P ρ h w (Instr.range t x') v h':=by
 unfold we at e
 split at e
 case h_2=>cases e
 rename_i kt et r ht
 split at e
 case h_2=>cases e
 rename_i es clock hg
 obtain⟨q,h',hn,rfl⟩:=fS e
 obtain⟨l,es',hl,hb,R⟩:=H.at_map hg
 cases hx with
 | map hl' =>
  rw[hl]at hl';simp only[Option.some.injEq]at hl';subst hl'
  have hrun:(Instr.range t (.map (some l.block))).run P w=.ok (.pointer (some ⟨w.heap.size,0,none⟩)) (w.alloc (.mapIter (some l.block) clock #[] clock)):=by
   simp[Instr.range,run_underlying ht,Go.MapKept.run_getObj_map hb]
  obtain⟨hr,_,_,_⟩:=rR hn
  have hnone:ρ q=none:=by rw[hr];exact H.fresh0
  obtain⟨a,b⟩:=H.new_block (w':=w.alloc (.mapIter (some l.block) clock #[] clock)) (l:=⟨w.heap.size,0,0,0⟩) hn rfl rfl rfl rfl (by show (w.heap.push _).size=_;simp) (fun k hk=>by show (w.heap.push _)[k]?=_;exact gG _ _ _ hk) (by
   refine⟨rfl,l,oQ hnone _ _ hl,?_⟩
   show (w.heap.push _)[w.heap.size]?=_
   simp)
  exact⟨_,_,rfl,_,_,_,hrun,.ptr (l:=⟨w.heap.size,0,0,0⟩) (by simp[kD]),a,b⟩
theorem se:∀ xs:List Nat,yK xs=xs.getLast?
 | []=>rfl
 | [x]=>rfl
 | x::y::xs=>by simp only[yK,se (y::xs),List.getLast?_cons_cons]
variable{n:Nat}
theorem vm:∀ {es es':List MapEntry} {e:MapEntry},oB n es=some e->fC ρ es es'->∃ e',es'.find? (·.born==n)=some e'/\ay ρ e.key e'.key/\ay ρ e.val e'.val
 | [],_,_,h,_=>by simp[oB]at h
 | x::es,[],_,_,R=>by obtain⟨h1,_,_⟩:=R;simp only[List.map_cons,List.map_nil]at h1;cases h1
 | x::es,y::es',e,h,R=>by
  obtain⟨h1,h2,h3⟩:=R
  simp only[List.map_cons,List.cons.injEq]at h1 h2 h3
  cases h1 with
  | cons hk1 h1 =>
  cases h2 with
  | cons hv1 h2 =>
  simp only[oB]at h
  split at h
  ·rename_i hb
   simp only[Option.some.injEq]at h
   subst h
   have hb:=be hb
   refine⟨y,?_,hk1,hv1⟩
   rw[List.find?_cons,←h3.1,hb];simp
  rename_i hb
  obtain⟨e',f1,f2⟩:=vm h (show fC ρ es es' from ⟨h1,h2,h3.2⟩)
  refine⟨e',?_,f2⟩
  rw[List.find?_cons,←h3.1]
  have:(x.born==n)=false:=by
   cases hh:(x.born==n) with
   | false=>rfl
   | true =>
    have:x.born=n:=by simpa using hh
    rw[bo this]at hb;cases hb
  rw[this];exact f1
theorem aJ.at_iter {m since last:Nat}{seen:List Nat}(H:aJ P ρ h w)(g:h.get r=some (.iter m since seen last)):∃ l lm,ρ r=some l/\l.base=0/\ρ m=some lm/\w.heap[l.block]?=some (.mapIter (some lm.block) since ⟨seen⟩ last):=by
 obtain⟨l,hl,hb,lm,hm,hh⟩:=H.loc r _ g
 exact⟨l,lm,hl,hb,hm,hh⟩
theorem qd {m:Option Nat}{s c:Nat}{seen:Array Nat}(hb:w.heap[r]?=some (.mapIter m s seen c)):(getObj r).run P w=.ok (.mapIter m s seen c) w:=by
 simp[getObj,Sem.run,hb]
theorem vY (H:aJ P ρ h w)(e:wU x h=some v)(hx:ay ρ x x'):∃ u,(Instr.entry x').run P w=.ok u w/\ay ρ v u:=by
 unfold wU at e
 split at e
 case h_2=>cases e
 rename_i r
 split at e
 case h_2=>cases e
 rename_i m since seen last hg
 split at e
 case h_2=>cases e
 rename_i n es clock hlast hgm
 split at e
 case h_2=>cases e
 rename_i e0 hclock hborn
 simp only[Option.some.injEq]at e
 subst e
 obtain⟨l,lm,hl,hbase,hm,hh⟩:=H.at_iter hg
 obtain⟨lm',es',hlm',hbm,R⟩:=H.at_map hgm
 rw[hm]at hlm';simp only[Option.some.injEq]at hlm';subst hlm'
 obtain⟨e',hf,hk,hv⟩:=vm hborn R
 have hclock:=be hclock
 subst hclock
 rw[Array.find?_toList]at hf
 cases hx with
 | ptr hl' =>
  rw[hl]at hl';simp only[Option.some.injEq]at hl';subst hl'
  refine⟨.tuple #[e'.key,e'.val],?_,.tuple (.cons hk (.cons hv .nil))⟩
  rw[se]at hlast
  have hback:(⟨seen⟩:Array Nat).back?=some n:=by rw[←hlast];simp
  rw[hbase,Nat.zero_add]
  simp[Instr.entry,qd hh,Go.MapKept.run_getObj_map hbm,hback,hf]
end
end Go.Am
namespace Go.Am
open Go.MapKept
section
variable{P:Program}{ρ:cY}{h h':AW}{w:World}
variable{ts:Array TypeId}{ty:TypeId}{args args':List Value}{v:Value}
theorem vV (e:sc P ts args=some v)(ha:aF ρ args args'):∃ u,(Builtin.len_ ts ty ⟨args'⟩).run P w=.ok u w/\ay ρ v u:=by
 unfold sc at e
 split at e
 case h_2=>cases e
 rename_i x t ht
 cases ha with
 | cons hx ha =>
  cases ha
  split at e
  case h_1 s hu =>
   cases hx
   simp at e;subst e
   exact⟨goInt s.size,by simp[Builtin.len_,ht,run_underlying hu],.int _ _⟩
  case h_2 n el hu =>
   simp at e;subst e
   exact⟨goInt n,by simp[Builtin.len_,ht,run_underlying hu],.int _ _⟩
  case h_3 el a n c hu =>
   simp at e;subst e
   cases hx <;> exact⟨goInt _,by simp[Builtin.len_,ht,run_underlying hu],.int _ _⟩
  case h_4=>cases e
theorem tT (H:aJ P ρ h w)(e:qu P ts args h=some v)(ha:aF ρ args args'):∃ u,(Builtin.len_ ts ty ⟨args'⟩).run P w=.ok u w/\ay ρ v u:=by
 unfold qu at e
 split at e
 case h_2=>cases e
 rename_i x t ht
 split at e
 case h_2=>cases e
 rename_i kt et hu
 split at e
 case h_2=>cases e
 rename_i es hes
 simp only[Option.some.injEq]at e
 subst e
 cases ha with
 | cons hx ha =>
  cases ha
  unfold fK at hes
  split at hes
  ·cases hx
   simp only[Option.some.injEq]at hes
   subst hes
   exact⟨goInt 0,by simp[Builtin.len_,ht,run_underlying hu],.int _ _⟩
  ·split at hes
   case h_2=>cases hes
   rename_i r es0 clock hg
   simp only[Option.some.injEq]at hes
   subst hes
   obtain⟨l,es',hl,hb,R⟩:=H.at_map hg
   cases hx with
   | map hl' =>
    rw[hl]at hl';simp only[Option.some.injEq]at hl';subst hl'
    have hn:es'.size=es0.length:=by have:=R.1.length;simpa using this.symm
    refine⟨goInt es'.size,by simp[Builtin.len_,ht,run_underlying hu,Go.MapKept.run_getObj_map hb],?_⟩
    rw[hn]
    exact .int _ _
  cases hes
theorem zx:∀ (es:List MapEntry) (i:Nat),dS es i=es.eraseIdx i
 | [],_=>by simp[dS]
 | _::_,0=>rfl
 | e::es,n+1=>by simp[dS,zx es n]
theorem fC.drop:∀ {es es':List MapEntry} (i:Nat),fC ρ es es'->fC ρ (dS es i) (dS es' i)
 | [],[],i,_=>⟨.nil,.nil,rfl⟩
 | [],y::es',i,R=>by obtain⟨h1,_,_⟩:=R;simp only[List.map_cons,List.map_nil]at h1;cases h1
 | x::es,[],i,R=>by obtain⟨h1,_,_⟩:=R;simp only[List.map_cons,List.map_nil]at h1;cases h1
 | x::es,y::es',i,R=>by
  obtain⟨h1,h2,h3⟩:=R
  simp only[List.map_cons,List.cons.injEq]at h1 h2 h3
  cases h1 with
  | cons hk1 h1 =>
  cases h2 with
  | cons hv1 h2 =>
  cases i with
  | zero=>exact⟨h1,h2,h3.2⟩
  | succ i =>
   obtain⟨g1,g2,g3⟩:=fC.drop i (show fC ρ es es' from ⟨h1,h2,h3.2⟩)
   exact⟨.cons hk1 g1,.cons hv1 g2,by simp[dS,h3.1,g3]⟩
theorem tU (H:aJ P ρ h w)(e:ox P ts args h=some (v,h'))(ha:aF ρ args args'):eM P ρ h w (Builtin.delete_ ts ty ⟨args'⟩) v h':=by
 unfold ox at e
 split at e
 case h_2=>cases e
 rename_i m k t ht
 split at e
 case h_2=>cases e
 rename_i kt et hu
 cases ha with
 | @cons _ m' _ rest hm ha =>
 cases ha with
 | @cons _ k' _ rest' hk ha =>
 cases ha
 split at e
 case h_3=>cases e
 case h_1 hkey =>
  have hk':=n9 hkey hk
  subst hk'
  obtain⟨d,hd,hik,hdd⟩:=oc hkey
  simp only[Option.some.injEq,Prod.mk.injEq]at e
  obtain⟨rfl,rfl⟩:=e
  cases hm
  exact eM.quiet H (u:=.tuple #[]) (by simp[Builtin.delete_,ht,run_underlying hu,run_checkKey hd hik]) (.tuple .nil)
 case h_2 r hkey =>
  have hk':=n9 hkey hk
  subst hk'
  obtain⟨d,hd,hik,hdd⟩:=oc hkey
  split at e
  case h_2=>cases e
  rename_i es clock hg
  obtain⟨l,es',hl,hb,R⟩:=H.at_map hg
  cases hm with
  | map hl' =>
  rw[hl]at hl';simp only[Option.some.injEq]at hl';subst hl'
  split at e
  ·rename_i i0 v0 hf
   split at e
   case h_2=>cases e
   rename_i h₂ hp
   simp only[Option.some.injEq,Prod.mk.injEq]at e
   obtain⟨rfl,rfl⟩:=e
   rcases fZ hdd hik hf R with ⟨h1,_⟩|⟨j,v1,e',h1,h2,h3,h4,_⟩
   ·cases h1
   simp only[Option.some.injEq,Prod.mk.injEq]at h1
   obtain⟨hj,_⟩:=h1
   have hj:i0=j:=by omega
   subst hj
   have h2':Instr.findNow d k' es'.toList 0=some (some (i0,e'.val)):=by rw[h2];congr 3;omega
   obtain⟨a,b⟩:=H.writeMap (es2':=es'.eraseIdxIfInBounds i0) hg hl hb hp (by
    have:(es'.eraseIdxIfInBounds i0).toList=dS es'.toList i0:=by
     rw[zx,Array.eraseIdxIfInBounds_eq]
     split
     ·rw[Array.toList_eraseIdx]
     rename_i hlt
     rw[List.eraseIdx_of_length_le (by simpa using hlt)]
    rw[this]
    exact fC.drop i0 R)
   refine⟨.tuple #[],_,ρ,?_,.tuple .nil,a,b⟩
   simp[Builtin.delete_,ht,run_underlying hu,Go.MapKept.run_getObj_map hb,run_checkKey hd hik,run_findKey hd h2',run_setObj_map _ hb]
  ·rename_i hf
   split at e
   case h_2=>cases e
   rename_i h₂ hp
   simp only[Option.some.injEq,Prod.mk.injEq]at e
   obtain⟨rfl,rfl⟩:=e
   rcases fZ hdd hik hf R with ⟨_,h2⟩|⟨j,v1,e',h1,_⟩
   ·obtain⟨a,b⟩:=H.writeMap (es2':=es') hg hl hb hp R
    refine⟨.tuple #[],_,ρ,?_,.tuple .nil,a,b⟩
    simp[Builtin.delete_,ht,run_underlying hu,Go.MapKept.run_getObj_map hb,run_checkKey hd hik,run_findKey hd h2,run_setObj_map _ hb]
   cases h1
  cases e
theorem qX:∀ {vs us:List Value} {x x' v:Value},iO true x vs=some v->ay ρ x x'->aF ρ vs us->∃ u,(us.foldlM Builtin.min2 x').run P w=.ok u w/\ay ρ v u
 | [],us,x,x',v,e,hx,hr=>by
  cases hr
  cases x <;> simp only[iO]at e <;> first|(cases e;done)|skip
  cases hx
  simp at e;subst e
  exact⟨_,rfl,.int _ _⟩
 | y::vs,us,x,x',v,e,hx,hr=>by
  cases hr with
  | @cons _ y' _ us hy hr =>
   cases x <;> first|(simp[iO]at e;done)|skip
   cases y <;> first|(simp[iO]at e;done)|skip
   rename_i k a k' b
   cases hx;cases hy
   simp only[iO]at e
   split at e
   case isFalse=>cases e
   rename_i hk
   subst hk
   have step:(Builtin.min2 (.int k a) (.int k b)).run P w=.ok (.int k (if b<a then b else a)) w:=rfl
   split at e
   ·rename_i hle
    have hle:=au.1 hle
    obtain⟨u,hu,hv⟩:=qX e (.int k a) hr
    refine⟨u,?_,hv⟩
    rw[List.foldlM_cons,Sem.run_bind,step,if_neg (by omega)]
    exact hu
   rename_i hle
   have hle:¬ a<=b:=fun hh=>by rw[au.2 hh]at hle;cases hle
   obtain⟨u,hu,hv⟩:=qX e (.int k b) hr
   refine⟨u,?_,hv⟩
   rw[List.foldlM_cons,Sem.run_bind,step,if_pos (by omega)]
   exact hu
theorem qY:∀ {vs us:List Value} {x x' v:Value},iO false x vs=some v->ay ρ x x'->aF ρ vs us->∃ u,(us.foldlM Builtin.max2 x').run P w=.ok u w/\ay ρ v u
 | [],us,x,x',v,e,hx,hr=>by
  cases hr
  cases x <;> simp only[iO]at e <;> first|(cases e;done)|skip
  cases hx
  simp at e;subst e
  exact⟨_,rfl,.int _ _⟩
 | y::vs,us,x,x',v,e,hx,hr=>by
  cases hr with
  | @cons _ y' _ us hy hr =>
   cases x <;> first|(simp[iO]at e;done)|skip
   cases y <;> first|(simp[iO]at e;done)|skip
   rename_i k a k' b
   cases hx;cases hy
   simp only[iO]at e
   split at e
   case isFalse=>cases e
   rename_i hk
   subst hk
   have step:(Builtin.max2 (.int k a) (.int k b)).run P w=.ok (.int k (if b > a then b else a)) w:=rfl
   split at e
   ·rename_i hle
    have hle:=au.1 hle
    obtain⟨u,hu,hv⟩:=qY e (.int k a) hr
    refine⟨u,?_,hv⟩
    rw[List.foldlM_cons,Sem.run_bind,step,if_neg (by omega)]
    exact hu
   rename_i hle
   have hle:¬ b<=a:=fun hh=>by rw[au.2 hh]at hle;cases hle
   obtain⟨u,hu,hv⟩:=qY e (.int k b) hr
   refine⟨u,?_,hv⟩
   rw[List.foldlM_cons,Sem.run_bind,step,if_pos (by omega)]
   exact hu
def bh(P:Program)(ρ:cY)(h:AW)(w:World)(s:Sem Next):xn->Prop
 | .val v h'=>∃ n u w' ρ',s.run P w=.ok n w'/\(n=.value u∨n=.skip/\u=undef)/\ay ρ' v u/\aJ P ρ' h' w'/\bE ρ h w ρ' h' w'
 | .call f args=>∃ us,aF ρ args us/\s.run P w=(callFunc f ⟨us⟩).run P w
theorem bh.of_done {s:Sem Value}{v:Value}(d:eM P ρ h w s v h'):bh P ρ h w (do pure (.value (← s))) (.val v h'):=by
 obtain⟨u,w',ρ',hr,hv,H',T⟩:=d
 exact⟨.value u,u,w',ρ',by simp[hr],.inl rfl,hv,H',T⟩
theorem bh.of_quiet {s:Sem Value}{v:Value}(H:aJ P ρ h w)(d:∃ u,s.run P w=.ok u w/\ay ρ v u):bh P ρ h w (do pure (.value (← s))) (.val v h) :=
 let ⟨_,hr,hv⟩:=d
 bh.of_done (eM.quiet H hr hv)
theorem bh.of_pure {u:Value}(H:aJ P ρ h w)(hv:ay ρ v u):bh P ρ h w (pure (.value u)) (.val v h) :=
 ⟨.value u,u,w,ρ,rfl,.inl rfl,hv,H,bE.refl _ _ _⟩
variable{a:ah}{act:Act}
theorem qo (hs:aF ρ a act.tmps.toList){x:Option Operand}{v:Option Value}(e:aY a x=some v):tG ρ v (x.map act.eval):=by
 cases x with
 | none=>simp[aY]at e;subst e;trivial
 | some x =>
  simp only[aY]at e
  split at e
  ·rename_i u eu
   simp at e;subst e
   exact aP hs eu
  cases e
theorem yd (H:aJ P ρ h w)(ea:th P ts args h=some (v,h'))(ha:aF ρ args args'):eM P ρ h w (Builtin.copy_ ts ty ⟨args'⟩) v h':=by
 unfold th at ea
 split at ea
 case h_2=>cases ea
 rename_i base len cap x
 split at ea
 case h_2=>cases ea
 rename_i st hst
 split at ea
 case h_2=>cases ea
 rename_i e hu
 split at ea
 case h_2=>cases ea
 rename_i size m hsz hm
 split at ea
 case h_2=>cases ea
 rename_i new hnew
 cases ha with
 | @cons _ d' _ _ hd ha =>
  cases ha with
  | @cons _ x' _ _ hx ha =>
   cases ha
   have hlen:(Builtin.lenOf x').run P w=.ok m w:=by
    unfold lenB at hm
    split at hm
    ·simp at hm;subst hm
     cases hx <;> rfl
    ·simp at hm;subst hm
     cases hx;rfl
    cases hm
   obtain⟨us,hus,hrel⟩:=gT H hnew hx (fun a l c hxe=>by
    subst hxe
    simp[lenB]at hm
    subst hm
    exact Nat.min_le_left _ _)
   have hfirst:=hus w rfl
   have hd':∃ base' cap',d'=.slice base' len cap'/\(base=none->base'=none)/\ay ρ (.slice base len cap) (.slice base' len cap'):=by
    cases hd with
    | sliceNil=>exact⟨none,0,rfl,fun _=>rfl,.sliceNil⟩
    | slice a b c=>exact⟨_,_,rfl,fun hh=>by (cases hh),.slice a b c⟩
   obtain⟨base',cap',rfl,hb0,hdr⟩:=hd'
   have key:∀ {w':World},(match base' with|some a=>(storeCells a us.toList).run P w=.ok () w'|none=>w'=w)->(Builtin.copy_ ts ty ⟨[.slice base' len cap',x']⟩).run P w=.ok (goInt (Nat.min m len)) w':=by
    intro w' hst'
    simp only[Builtin.copy_]
    simp only[hst,List.getElem?_toArray,List.getElem?_cons_zero,List.getElem?_cons_succ,Sem.run_bind,run_underlying hu,Result.andThen_ok,hlen,bw hsz,hfirst]
    cases base' with
    | none=>subst hst';rfl
    | some a=>simp only[Sem.run_bind,hst',Result.andThen_ok,Sem.run_pure]
   split at ea
   ·-- Ib
    rename_i hz
    have hz:=be hz
    simp at ea
    obtain⟨rfl,rfl⟩:=ea
    have hnil:new=[]:=ly (size:=size) (x:=x) (h:=h) (by rw[←hz];exact hnew)
    subst hnil
    have hus0:us.toList=[]:=by have:=hrel.length;exact List.eq_nil_of_length_eq_zero (by simpa using this.symm)
    refine eM.quiet H (key ?_) (.int _ _)
    cases base' with
    | none=>rfl
    | some a=>rw[hus0];rfl
   ·-- into a row
    rename_i hone hz
    have hz:=ce hz
    simp only[Bool.and_eq_true]at hone
    split at ea
    case h_2=>cases ea
    rename_i r off
    split at ea
    case h_2=>cases ea
    rename_i e' cs hrow
    split at ea
    case h_2=>cases ea
    rename_i cs' hlay
    split at ea
    case h_2=>cases ea
    rename_i h'' hput
    simp at ea
    obtain⟨rfl,rfl⟩:=ea
    cases hdr with
    | @slice _ _ _ _ _ a hl hc hadr =>
     have hml:Nat.min m len<=len:=Nat.min_le_right _ _
     obtain⟨l,hlr,rfl,_⟩:=hadr (by omega)
     obtain⟨l',C,f,hl',hb,hf,h1,h2,h3,rel⟩:=H.at_cells hrow
     rw[hlr]at hl';simp at hl';subst hl'
     have hle:=(kf hlay).2
     have hlen2:=hrel.length
     obtain⟨C',hrun,hs,hget⟩:=bY (P:=P) l.block (l.base+off) e' f us.toList 0 C w hb hf (by omega) (hrel.one hone.1)
     have hw:=H.write (C':=C') hrow hlr hb hput hs (iu hlay) (fun i u hi=>by
      rw[nZ hlay]at hi
      rw[hget]
      split at hi
      ·rename_i hin
       rw[if_pos (by omega)]
       obtain⟨u',hu',hr⟩:=hrel.get hi
       exact⟨u',by rw[←hu'];congr 1;omega,hr⟩
      rename_i hin
      rw[if_neg (by omega)]
      exact rel _ _ hi)
     exact⟨_,_,ρ,key hrun,.int _ _,hw.1,hw.2⟩
   cases ea
variable{us:List Value}
theorem yc (e:Cw args=some v)(hx:aF ρ args us):∃ u,(Builtin.unsafeSliceData_ ts ty ⟨us⟩).run P w=.ok u w/\ay ρ v u:=by
 unfold Cw at e
 split at e
 ·simp at e;subst e
  cases hx with
  | cons h1 h2 =>
   cases h2
   cases h1
   exact⟨_,rfl,.ptrNil⟩
 ·simp at e;subst e
  cases hx with
  | cons h1 h2 =>
   cases h2
   cases h1 with
   | @slice _ _ _ _ cap' a hl hc ha =>
    obtain⟨l,hlr,rfl,_⟩:=ha (by omega)
    obtain⟨k,rfl⟩:∃ k,cap'=k+1:=⟨cap'-1,by omega⟩
    exact⟨_,rfl,.ptr hlr⟩
 cases e
theorem jA:∀ (l:List Int) (a:Addr) (acc:ByteArray),(∀ j x,l[j]?=some x->w.cell? (a.add j)=some (.int .u8 x)) →
  (loadBytes a acc l.length).run P w=.ok ⟨acc.data++(l.map fun n=>UInt8.ofNat n.toNat).toArray⟩ w
 | [],a,acc,_=>by simp[loadBytes]
 | x::l,a,acc,h=>by
  have h0:w.cell? a=some (.int .u8 x):=by
   have:=h 0 x rfl
   simpa[Addr.add] using this
  have ih:=jA l (a.add 1) (acc.push (UInt8.ofNat x.toNat)) (fun j y hy=>by
   have:=h (j+1) y (by simpa using hy)
   have e:(a.add 1).add j=a.add (j+1):=by
    unfold Addr.add
    by_cases hj:j=0
    ·subst hj;simp
    simp[hj];omega
   rw[e];exact this)
  have hx:x.toNat.toUInt8=UInt8.ofNat x.toNat:=rfl
  simp only[List.length_cons,loadBytes,Sem.run_bind,run_load,h0,Result.andThen,hx]
  rw[ih]
  congr 1
  apply ByteArray.ext
  simp[ByteArray.push]
variable{e:TypeId}
theorem AK (hc:P.cellsOf e=1)(count off n:Nat)(hn:off+n<=count):liesAt P P.depth e count off e n=true:=by
 have hd:P.depth=(2*(P.types.size+Made.depth)+1)+1:=rfl
 rw[hd]
 simp only[liesAt,Bool.or_eq_true]
 left
 rw[hd]
 simp[rowAt,hc,hn,sameLayout,Nat.mod_one]
theorem tP (H:aJ P ρ h w)(e:qj P ts args h=some (v,h'))(hx:aF ρ args us):eM P ρ h w (Builtin.unsafeString_ ts ty ⟨us⟩) v h':=by
 have hmax:IntKind.i64.max=9223372036854775807:=rfl
 unfold qj at e
 split at e
 ·rename_i n
  split at e
  case h_2=>cases e
  rename_i t₀ hts hn
  rw[aC]at hn
  have hn:n=0:=by simpa using hn
  subst hn
  simp at e;obtain⟨rfl,rfl⟩:=e
  cases hx with
  | cons h1 h2 =>
   cases h1
   cases h2 with
   | cons h3 h4 =>
    cases h3;cases h4
    refine eM.quiet H (u:=.string ByteArray.empty) ?_ (.string _)
    obtain⟨s1,s2,s3,hdef⟩:∃ s1 s2 s3:String,Builtin.unsafeString_ ts ty ⟨[.pointer none,.int .i64 0]⟩ =
      (do
       let n ← asInt (.int .i64 0)
       let some pt:=ts[0]?|stuck s1
       if n<0 then runtimePanic (.error s2)
       if n > IntKind.i64.max then unsupported (.unsafePointer "String: a length above the largest int")
       if n=0 then pure (.string .empty)
       else runtimePanic (.error s3)):=⟨_,_,_,rfl⟩
    rw[hdef]
    simp[hts,asInt,asIntOf,hmax]
 ·rename_i r off n
  split at e
  case h_2=>cases e
  rename_i pt hts
  split at e
  case h_2=>cases e
  rename_i u e₀ cs hpt hrow hn
  simp only[Bool.and_eq_true,au]at hn
  obtain⟨hn1,hn2⟩:=hn
  split at e
  case h_2=>cases e
  rename_i vs hb hcut
  simp only[Bool.and_eq_true]at hb
  obtain⟨⟨hb1,hb2⟩,hb3⟩:=hb
  have hb1:=be hb1
  subst hb1
  have hb2:=lW hb2
  split at e
  case h_2=>cases e
  rename_i bs h₁ hbs hput
  simp at e;obtain⟨rfl,rfl⟩:=e
  cases hx with
  | cons hx1 hx2 =>
   cases hx1 with
   | @ptr _ _ l hl =>
   cases hx2 with
   | cons hx3 hx4 =>
    cases hx3;cases hx4
    obtain⟨l',C,f,hl',hblk,hf,h1,h2,h3,rel⟩:=H.at_cells hrow
    rw[hl]at hl';simp at hl';subst hl'
    have h1e:=BI hb2 h3 hb3
    obtain⟨i,hi,hin⟩:=mJ h3
    have hcl:P.cellsOf e₀=1:=by simp[Program.cellsOf,hi,hin,h1e]
    obtain⟨hvs,hle,hlen,hoff⟩:=c9 hcut
    have hsh:w.shape? l.block=some (e₀,C.size):=by simp[World.shape?,hblk]
    obtain⟨us,hrel,hus⟩:=i9 (w:=w) (ρ:=ρ) (b:=l.block) (o:=l.base+off) (vs:=vs) (fun i x hx=>by
     rw[hvs,List.getElem?_take]at hx
     split at hx
     ·rw[List.getElem?_drop]at hx
      obtain⟨u,hu,hv⟩:=rel _ _ hx
      exact⟨u,by simp[World.cell?,hblk,Nat.add_assoc,hu],hv⟩
     cases hx)
    obtain⟨ns,hns,hbs'⟩:=kA hbs hrel
    subst hns hbs'
    have hnl:ns.length=n.toNat:=by have:=hrel.length;simp at this;omega
    have hlb:=jA (P:=P) (w:=w) ns ⟨l.block,l.base+off,none⟩ .empty (fun j x hx=>by rw[ed];exact hus j _ (by simp[hx]))
    rw[hnl]at hlb
    have hlies:=AK (P:=P) hcl (C.size/P.cellsOf e₀) (l.base+off) n.toNat (by rw[hcl,Nat.div_one];omega)
    obtain⟨hg,hnx,hst⟩:=jh hput
    have D:=H.drop hput
    refine⟨.string ⟨(ns.map fun n=>UInt8.ofNat n.toNat).toArray⟩,w.freeze ⟨l.block,l.base+off,none⟩ n.toNat,ρ,?_,.string _,⟨fun m row hm=>?_,D.1.inj,D.1.fresh,D.1.step⟩,
     ⟨cY.le_refl _,(cU _ _).1,(cU _ _).2.1,(cU _ _).2.2,by rw[lw];exact Nat.le_refl _,D.2.own,fun k hk hno=>fJ _ _ _ _ (fun hh=>hno r _ l (cw hrow) rfl hl hh.symm),D.2.new,D.2.next,D.2.steps⟩⟩
    ·have hneg:¬ n<0:=by omega
     have hz:¬ n=0:=by omega
     have hbig:¬ (9223372036854775807:Int)<n:=by omega
     obtain⟨s1,s2,hdef⟩:∃ s1 s2:String,Builtin.unsafeString_ ts ty ⟨[.pointer (some ⟨l.block,l.base+off,none⟩),.int .i64 n]⟩ =
       (do
        let n ← asInt (.int .i64 n)
        let some pt:=ts[0]?|stuck s1
        if n<0 then runtimePanic (.error s2)
        if n > IntKind.i64.max then unsupported (.unsafePointer "String: a length above the largest int")
        if n=0 then pure (.string .empty)
        else if ← variablesAt ⟨l.block,l.base+off,none⟩ (← elemOf pt) n.toNat then do
         let s ← loadBytes ⟨l.block,l.base+off,none⟩ .empty n.toNat
         freeze ⟨l.block,l.base+off,none⟩ n.toNat
         pure (.string s)
        else unsupported (.unsafePointer "String: not so many bytes at ptr")):=⟨_,_,rfl⟩
     rw[hdef]
     simp[hts,asInt,asIntOf,hmax,hneg,hz,hbig,variablesAt,hsh,elemOf,run_underlying hpt,hlies,hlb]
    obtain⟨l',hl',hrr⟩:=D.1.loc m row hm
    have hne:m≠r:=fun hh=>by rw[hg,if_pos hh]at hm;cases hm
    have hm':h.get m=some row:=by rw[hg,if_neg hne]at hm;exact hm
    exact⟨l',hl',hrr.keep (cY.le_refl _) (fJ _ _ _ _ fun hh=>hne (H.inj m r _ _ l' l hm' (cw hrow) hl' hl hh (.inr rfl)))⟩
 cases e
theorem Ao (e:IR P ts args=some v)(ha:aF ρ args args'):∃ u,(Builtin.cap_ ts ty ⟨args'⟩).run P w=.ok u w/\ay ρ v u:=by
 unfold IR at e
 split at e
 case h_2=>cases e
 rename_i base n c t ht
 split at e
 case h_2=>cases e
 rename_i el hu hc
 have hc:=ce hc
 simp only[Option.some.injEq]at e
 subst e
 cases ha with
 | @cons _ x' _ rest hx ha =>
 cases ha
 cases hx with
 | sliceNil=>exact⟨goInt (0:Nat),by simp[Builtin.cap_,ht,run_underlying hu],.int _ _⟩
 | @slice _ _ _ _ cap' a hl hcc _ =>
  have:=hcc hc
  subst this
  exact⟨goInt (cap':Nat),by simp[Builtin.cap_,ht,run_underlying hu],.int _ _⟩
theorem vZ (H:aJ P ρ h w)(e:ti P ts args h=some (v,h'))(ha:aF ρ args args'):eM P ρ h w (Builtin.clear_ ts ty ⟨args'⟩) v h':=by
 unfold ti at e
 split at e
 case h_2=>cases e
 rename_i base n c t ht
 split at e
 case h_2=>cases e
 rename_i el hu
 cases ha with
 | @cons _ x' _ rest hx ha =>
 cases ha
 split at e
 case h_1 =>
  simp only[Option.some.injEq,Prod.mk.injEq]at e
  obtain⟨rfl,rfl⟩:=e
  cases hx
  exact eM.quiet H (u:=.tuple #[]) (by simp[Builtin.clear_,ht,run_underlying hu]) (.tuple .nil)
 case h_3=>cases e
 case h_2 r off =>
  cases hx with
  | @slice _ _ _ _ cap' a hl hc ha =>
  split at e
  ·rename_i hz
   have hz:=be hz
   subst hz
   simp only[Option.some.injEq,Prod.mk.injEq]at e
   obtain⟨rfl,rfl⟩:=e
   exact eM.quiet H (u:=.tuple #[]) (by simp[Builtin.clear_,ht,run_underlying hu]) (.tuple .nil)
  rename_i hz
  have hz:=ce hz
  split at e
  case h_2=>cases e
  rename_i e' cs zs sz hrow hzs hsz
  split at e
  case h_2=>cases e
  rename_i new hb hrep
  simp only[Bool.and_eq_true]at hb
  have hzl:=be hb.1
  have hs1:=bk hb.2
  split at e
  case h_2=>cases e
  rename_i hone
  split at e
  case h_2=>cases e
  rename_i cs' hlay
  split at e
  case h_2=>cases e
  rename_i h₂ hput
  simp only[Option.some.injEq,Prod.mk.injEq]at e
  obtain⟨rfl,rfl⟩:=e
  obtain⟨l,hlr,rfl,_⟩:=ha (by omega)
  obtain⟨l',C,f,hl',hblk,hf,h1,h2,h3,rel⟩:=H.at_cells hrow
  rw[hlr]at hl';simp only[Option.some.injEq]at hl';subst hl'
  obtain⟨zc,hzr,hz2,hz3⟩:=ei hzs w
  have hzc:zc.cells.size=zs.length:=by rw[←hz2];simp
  have hnl:new.length=n*zs.length:=(j2 hrep).1
  have hmodel:(Builtin.zeroCells zc.cells n).toList=new:=fT hrep hz2 (by rw[hzc]) (.inr (by omega))
  have hR2:aF ρ new (Builtin.zeroCells zc.cells n).toList:=by rw[hmodel];exact kZ hz3 hrep
  have hone2:=hR2.one hone
  have hus2:=hR2.length
  have hlle:=(kf hlay).2
  obtain⟨C',hrun,hs',hget⟩:=bY (P:=P) l.block (l.base+off) e' f (Builtin.zeroCells zc.cells n).toList 0 C w hblk hf (by omega) hone2
  obtain⟨q1,q2⟩:=H.write (C':=C') hrow hlr hblk hput hs' (iu hlay) (fun k u hk=>by
   rw[nZ hlay]at hk
   rw[hget]
   split at hk
   ·rename_i hin
    rw[if_pos (by omega)]
    obtain⟨u',hu',hr⟩:=hR2.get hk
    exact⟨u',by rw[←hu'];congr 1;omega,hr⟩
   rename_i hin
   rw[if_neg (by omega)]
   exact rel _ _ hk)
  refine⟨.tuple #[],_,ρ,?_,.tuple .nil,q1,q2⟩
  have hm:∃ m,n=m+1:=⟨n.pred,(Nat.succ_pred_eq_of_pos (Nat.pos_of_ne_zero hz)).symm⟩
  clear hlle hus2 hone2 hR2 hmodel hnl hget hs' q1 q2 rel
  obtain⟨m,rfl⟩:=hm
  simp only[Builtin.clear_,ht,List.getElem?_toArray,List.getElem?_cons_zero,Sem.run_bind,run_underlying hu,Result.andThen_ok,hzr,hrun,Sem.run_pure]
variable{o:Oper}
theorem w7 {c:Call}{args:List Value}{res:xn}(hs:aF ρ a act.tmps.toList)(H:aJ P ρ h w)(ho:o.op=.call c)(ea:ky a c.args.toList=some args)(e:bB P a c args h=some res) :
  bh P ρ h w (execOp act.eval o) res:=by
 have hargs:aF ρ args (c.args.toList.map act.eval):=om hs ea
 have hex:execOp act.eval o=(do let d ← resolve act.eval c o.type;invoke d.target d.args):=by simp only[execOp,ho]
 have hmap:c.args.map act.eval=⟨c.args.toList.map act.eval⟩:=by apply Array.ext';simp
 unfold bB at e
 split at e
 case h_1 hc =>
  obtain⟨v,h',hv,rfl⟩:=jC e
  have:execOp act.eval o=(do pure (.value (← Builtin.append_ c.argTypes o.type ⟨c.args.toList.map act.eval⟩))):=by
   rw[hex];simp only[resolve,hc,hmap];rfl
  rw[this]
  exact bh.of_done (tV H hv hargs)
 case h_2 hc =>
  obtain⟨v,hv,rfl⟩:=cc e
  have:execOp act.eval o=(do pure (.value (← Builtin.len_ c.argTypes o.type ⟨c.args.toList.map act.eval⟩))):=by
   rw[hex];simp only[resolve,hc,hmap];rfl
  rw[this]
  split at hv
  ·rename_i v0 hv0
   simp only[Option.some.injEq]at hv
   subst hv
   exact bh.of_quiet H (vV hv0 hargs)
  exact bh.of_quiet H (tT H hv hargs)
 case h_3 hc =>
  split at e
  case h_2=>cases e
  rename_i v₀ vs
  obtain⟨v,hv,rfl⟩:=cc e
  have:execOp act.eval o=(do pure (.value (← Builtin.min_ c.argTypes o.type ⟨c.args.toList.map act.eval⟩))):=by
   rw[hex];simp only[resolve,hc,hmap];rfl
  rw[this]
  refine bh.of_quiet H ?_
  generalize c.args.toList.map act.eval=us at hargs
  cases hargs with
  | cons h1 h2=>exact qX hv h1 h2
 case h_4 hc =>
  split at e
  case h_2=>cases e
  rename_i v₀ vs
  obtain⟨v,hv,rfl⟩:=cc e
  have:execOp act.eval o=(do pure (.value (← Builtin.max_ c.argTypes o.type ⟨c.args.toList.map act.eval⟩))):=by
   rw[hex];simp only[resolve,hc,hmap];rfl
  rw[this]
  refine bh.of_quiet H ?_
  generalize c.args.toList.map act.eval=us at hargs
  cases hargs with
  | cons h1 h2=>exact qY hv h1 h2
 case h_5 hc =>
  obtain⟨v,h',hv,rfl⟩:=jC e
  have:execOp act.eval o=(do pure (.value (← Builtin.copy_ c.argTypes o.type ⟨c.args.toList.map act.eval⟩))):=by
   rw[hex];simp only[resolve,hc,hmap];rfl
  rw[this]
  exact bh.of_done (yd H hv hargs)
 case h_6 hc =>
  obtain⟨v,hv,rfl⟩:=cc e
  have:execOp act.eval o=(do pure (.value (← Builtin.unsafeSliceData_ c.argTypes o.type ⟨c.args.toList.map act.eval⟩))):=by
   rw[hex];simp only[resolve,hc,hmap];rfl
  rw[this]
  exact bh.of_quiet H (yc hv hargs)
 case h_7 hc =>
  obtain⟨v,h',hv,rfl⟩:=jC e
  have:execOp act.eval o=(do pure (.value (← Builtin.unsafeString_ c.argTypes o.type ⟨c.args.toList.map act.eval⟩))):=by
   rw[hex];simp only[resolve,hc,hmap];rfl
  rw[this]
  exact bh.of_done (tP H hv hargs)
 case h_8 hc =>
  obtain⟨v,h',hv,rfl⟩:=jC e
  have:execOp act.eval o=(do pure (.value (← Builtin.delete_ c.argTypes o.type ⟨c.args.toList.map act.eval⟩))):=by
   rw[hex];simp only[resolve,hc,hmap];rfl
  rw[this]
  exact bh.of_done (tU H hv hargs)
 case h_9 hc =>
  obtain⟨v,hv,rfl⟩:=cc e
  have:execOp act.eval o=(do pure (.value (← Builtin.cap_ c.argTypes o.type ⟨c.args.toList.map act.eval⟩))):=by
   rw[hex];simp only[resolve,hc,hmap];rfl
  rw[this]
  exact bh.of_quiet H (Ao hv hargs)
 case h_10 hc =>
  obtain⟨v,h',hv,rfl⟩:=jC e
  have:execOp act.eval o=(do pure (.value (← Builtin.clear_ c.argTypes o.type ⟨c.args.toList.map act.eval⟩))):=by
   rw[hex];simp only[resolve,hc,hmap];rfl
  rw[this]
  exact bh.of_done (vZ H hv hargs)
 case h_11 f hc =>
  split at e
  case h_2=>cases e
  rename_i g first captured hf
  split at e
  case h_2=>cases e
  rename_i xs hxs
  split at e
  case h_2=>cases e
  rename_i ys hys
  simp at e;subst e
  have hxs:=eP hxs
  have hys:=eP hys
  have hfr:=aP hs hf
  generalize hev:act.eval f=fv' at hfr
  cases hfr with
  | @func _ _ b _ d _ h1 h2 =>
   refine⟨b.toList++(c.args.toList.map act.eval++d.toList),by rw[hys,hxs];exact h1.append (hargs.append h2),?_⟩
   rw[hex]
   simp only[resolve,hc,hmap,hev,Deferred.ofValue,Sem.run_bind,Sem.run_pure,Result.andThen_ok,invoke]
   congr 2
   apply Array.ext'
   simp
 case h_12=>cases e
variable{res:xn}
theorem cO (hs:aF ρ a act.tmps.toList)(H:aJ P ρ h w)(e:aI P a o h=some res):bh P ρ h w (execOp act.eval o) res:=by
 unfold aI at e
 split at e
 case h_1 x ho =>
  obtain⟨v,hv,rfl⟩:=cc e
  simp only[execOp,ho]
  exact bh.of_pure H (aP hs hv)
 case h_2 x ho =>
  obtain⟨v,hv,rfl⟩:=cc e
  simp only[execOp,ho]
  exact bh.of_pure H (aP hs hv)
 case h_3 c x y ho =>
  split at e
  case h_3=>cases e
  case h_1 hc =>
   obtain⟨v,hv,rfl⟩:=cc e
   have hcr:=aP hs hc
   generalize hev:act.eval c=cv at hcr
   cases hcr
   exact⟨.value (act.eval x),act.eval x,w,ρ,by simp[execOp,ho,hev,asBool],.inl rfl,aP hs hv,H,bE.refl _ _ _⟩
  case h_2 hc =>
   obtain⟨v,hv,rfl⟩:=cc e
   have hcr:=aP hs hc
   generalize hev:act.eval c=cv at hcr
   cases hcr
   exact⟨.value (act.eval y),act.eval y,w,ρ,by simp[execOp,ho,hev,asBool],.inl rfl,aP hs hv,H,bE.refl _ _ _⟩
 case h_4 t ho =>
  split at e
  case h_2=>cases e
  rename_i cs hz
  obtain⟨r,h',hn,rfl⟩:=fS e
  simp only[execOp,ho]
  exact bh.of_done (v7 H hz hn)
 case h_5 t x ho =>
  split at e
  case h_2=>cases e
  rename_i v hv
  split at e
  ·cases e
  rename_i hj
  obtain⟨r,h',hn,rfl⟩:=fS e
  simp only[execOp,ho]
  exact bh.of_done (Ap H (aP hs hv) hj hn)
 case h_6 t parts ho =>
  split at e
  case h_2=>cases e
  rename_i ps hp
  obtain⟨v,hv,rfl⟩:=cc e
  simp only[execOp,ho]
  refine bh.of_quiet H (v6 hv ?_)
  have:=lA hs hp
  simpa using this
 case h_7 t len parts ho =>
  split at e
  case h_2=>cases e
  rename_i ps hp
  simp only[execOp,ho]
  obtain⟨v,h',rfl,hd⟩:=nF (w:=w) (qs:=parts.map fun (i,x)=>(i,act.eval x)) H e (by
   have:=lA hs hp
   simpa using this)
  exact bh.of_done hd
 case h_8 t x ho =>
  split at e
  case h_2=>cases e
  rename_i v₀ hv₀
  obtain⟨v,hv,rfl⟩:=cc e
  simp only[execOp,ho]
  exact bh.of_quiet H (yb hv (aP hs hv₀) H)
 case h_9 t x y ho =>
  split at e
  case h_2=>cases e
  rename_i p v hp hv
  split at e
  case h_2=>cases e
  rename_i h' hst
  simp at e;subst e
  obtain⟨w',hr,H',T⟩:=vS hst (aP hs hp) (aP hs hv) H
  exact⟨.skip,undef,w',ρ,by simp[execOp,ho,hr],.inr ⟨rfl,rfl⟩,gZ,H',T⟩
 case h_10 x ho =>
  split at e
  case h_2=>cases e
  rename_i p hp
  simp at e;subst e
  have hr:=aP hs hp
  generalize hev:act.eval x=xv at hr
  cases hr with
  | ptr hl =>
   simp only[execOp,ho,hev]
   exact bh.of_pure H (.ptr hl)
 case h_11 op t x y yt ho =>
  split at e
  case h_2=>cases e
  rename_i v u hv hu
  split at e
  case h_2=>cases e
  rename_i hok
  obtain⟨z,hz,rfl⟩:=cc e
  have h1:=aP hs hv
  have h2:=aP hs hu
  obtain⟨z',hr,hzr⟩:=Aq (P:=P) (w:=w) H hz h1 h2
  exact⟨.value z',z',w,ρ,by simp only[execOp,ho,Sem.run_bind,q6 hok h1 h2,Result.andThen_ok,hr,Sem.run_pure],.inl rfl,hzr,H,bE.refl _ _ _⟩
 case h_12 op t x ho =>
  split at e
  case h_2=>cases e
  rename_i v₀ hv₀
  obtain⟨v,hv,rfl⟩:=cc e
  simp only[execOp,ho]
  exact bh.of_quiet H (Da hv (aP hs hv₀))
 case h_13 src dst x ho =>
  split at e
  case h_2=>cases e
  rename_i v₀ hv₀
  obtain⟨v,h',hv,rfl⟩:=jC e
  simp only[execOp,ho]
  exact bh.of_done (ye H hv (aP hs hv₀))
 case h_14 t x ho =>
  split at e
  case h_1=>cases e
  case h_3=>cases e
  case h_2 d v hnot hd hv =>
   simp at e;subst e
   simp only[execOp,ho]
   refine bh.of_quiet H ⟨.iface t (act.eval x),?_,.iface (aP hs hv)⟩
   cases d <;> first|(exact (hnot _ rfl).elim)|simp[Instr.makeInterface,run_underlying hd]
 case h_15 fn first captured ho =>
  split at e
  case h_2=>cases e
  rename_i hp
  split at e
  case h_2=>cases e
  rename_i xs ys hx hy
  simp at e;subst e
  simp only[execOp,ho]
  refine bh.of_quiet H ⟨.func fn (first.map act.eval) (captured.map act.eval),rfl,.func hp ?_ ?_⟩
  ·have:=om hs hx;simpa using this
  have:=om hs hy;simpa using this
 case h_16 t l c ho =>
  split at e
  case h_2=>cases e
  rename_i lv cv hl hc
  simp only[execOp,ho]
  obtain⟨v,h',rfl,hd⟩:=o4 (w:=w) H e (aP hs hl) (aP hs hc)
  exact bh.of_done hd
 case h_17 t x lo hi mx ho =>
  split at e
  case h_2=>cases e
  rename_i v₀ lo' hi' mx' h1 h2 h3 h4
  obtain⟨v,hv,rfl⟩:=cc e
  simp only[execOp,ho]
  exact bh.of_quiet H (vT H hv (aP hs h1) (qo hs h2) (qo hs h3) (qo hs h4))
 case h_18 s x f ho =>
  split at e
  case h_2=>cases e
  rename_i v₀ hv₀
  obtain⟨v,hv,rfl⟩:=cc e
  simp only[execOp,ho]
  exact bh.of_quiet H (o7 hv (aP hs hv₀))
 case h_19 t x f ho =>
  split at e
  case h_2=>cases e
  rename_i fields cs hu hx
  split at e
  case h_2=>cases e
  rename_i fd hf
  obtain⟨v,hv,rfl⟩:=cc e
  simp only[execOp,ho]
  exact bh.of_quiet H (vX hu hf hv (aP hs hx))
 case h_20 t x i ho =>
  split at e
  case h_2=>cases e
  rename_i v₀ j hv₀ hj
  obtain⟨v,hv,rfl⟩:=cc e
  simp only[execOp,ho]
  exact bh.of_quiet H (o5 hv (aP hs hv₀) (aP hs hj))
 case h_21 t x i ho =>
  split at e
  case h_2=>cases e
  rename_i v₀ j hv₀ hj
  obtain⟨v,hv,rfl⟩:=cc e
  simp only[execOp,ho]
  exact bh.of_quiet H (vW hv (aP hs hv₀) (aP hs hj))
 case h_22 x i ho =>
  split at e
  case h_2=>cases e
  rename_i vs hx
  obtain⟨v,hv,rfl⟩:=cc e
  simp only[execOp,ho]
  exact bh.of_quiet H (q5 hv (aP hs hx))
 case h_23 c ho =>
  split at e
  case h_2=>cases e
  rename_i args hargs
  exact w7 hs H ho hargs e
 case h_24 t x ho =>
  split at e
  case h_2=>cases e
  rename_i v₀ hv₀
  obtain⟨v,hv,rfl⟩:=cc e
  simp only[execOp,ho]
  exact bh.of_quiet H (vR hv (aP hs hv₀))
 case h_25 t r ho =>
  split at e
  case h_2=>cases e
  rename_i hint hh
  split at e
  case h_2=>cases e
  rename_i hm
  obtain⟨q,h',hn,rfl⟩:=fS e
  simp only[execOp,ho]
  exact bh.of_done (qZ H hm (qo hs hh) hn)
 case h_26 t m k ok ho =>
  split at e
  case h_2=>cases e
  rename_i mv kv hm hk
  obtain⟨v,hv,rfl⟩:=cc e
  simp only[execOp,ho]
  exact bh.of_quiet H (tQ H hv (aP hs hm) (aP hs hk))
 case h_27 t m k x ho =>
  split at e
  case h_2=>cases e
  rename_i mv kv v hm hk hv
  split at e
  case h_2=>cases e
  rename_i h' hst
  simp at e;subst e
  obtain⟨w',hr,H',T⟩:=oZ H hst (aP hs hm) (aP hs hk) (aP hs hv)
  exact⟨.skip,undef,w',ρ,by simp[execOp,ho,hr],.inr ⟨rfl,rfl⟩,gZ,H',T⟩
 case h_28 t x ho =>
  split at e
  case h_2=>cases e
  rename_i v₀ hv₀
  simp only[execOp,ho]
  obtain⟨v,h',rfl,hd⟩:=vU (w:=w) H e (aP hs hv₀)
  exact bh.of_done hd
 case h_29 x ho =>
  split at e
  case h_2=>cases e
  rename_i v₀ hv₀
  obtain⟨v,hv,rfl⟩:=cc e
  simp only[execOp,ho]
  exact bh.of_quiet H (vY H hv (aP hs hv₀))
 case h_30=>cases e
end
end Go.Am
end
section
namespace Go.Am
section
variable{P:Program}
def noGo(P:Program):Bool:=P.funcs.toList.all fun fn=>!(fn.name == "runtime.NumGoroutine")
theorem er(hg:noGo P=true){f:FuncId}{fn:Func}{c:Code}(hf:P.funcs[f]?=some fn)(hb:fn.body=some c)(args:Array Value)(w:World):(callFunc f args).run P w=.ok (.enter f args) w:=by
 have hn:(fn.name == "runtime.NumGoroutine")=false:=by
  have hm:fn∈P.funcs.toList:=by
   obtain⟨hlt,he⟩:=Array.getElem?_eq_some_iff.1 hf
   exact Array.mem_toList_iff.2 (he▸Array.getElem_mem hlt)
  have:=List.all_eq_true.1 hg fn hm
  simpa using this
 have hn':¬ fn.name= "runtime.NumGoroutine":=by simpa using hn
 simp[callFunc,hf,hn',hb]
variable{ρ:cY}
theorem lN:∀ {a a':ah} {us:List Value} {d:Nat} {v u:Value},kE a d v=some a'->aF ρ a us->ay ρ v u->aF ρ a' (us.set d u)
 | [],a',us,d,v,u,e,_,_=>by simp[kE]at e
 | x::xs,a',us,0,v,u,e,hr,hv=>by
  simp[kE]at e;subst e
  cases hr with
  | cons h1 h2=>exact .cons hv h2
 | x::xs,a',us,d+1,v,u,e,hr,hv=>by
  simp only[kE]at e
  split at e
  ·rename_i ys ey
   simp at e;subst e
   cases hr with
   | cons h1 h2=>exact .cons h1 (lN ey h2 hv)
  cases e
variable{a a':ah}{act:Act}
theorem fk {d:Option Tmp}{v u:Value}(e:aH a d v=some a')(hr:aF ρ a act.tmps.toList)(hv:ay ρ v u):aF ρ a' (act.put d u).tmps.toList:=by
 cases d with
 | none=>simp[aH]at e;subst e;exact hr
 | some d =>
  simp only[aH]at e
  simp only[Act.put,Array.toList_setIfInBounds]
  exact lN e hr hv
theorem c7 {d:Option Tmp}{u:Value}:(act.put d u).defers=act.defers:=by cases d <;> rfl
theorem ci {ops:Array Oper}{o:Oper}(hr:aF ρ a act.tmps.toList)(hs:kS ops.toList o a=true):aw ops.toList o a=Region.wanted o (yielded ops act.tmps):=by
 unfold kS at hs
 unfold aw Region.wanted
 cases hg:o.guard with
 | none=>rfl
 | some g =>
  obtain⟨j,want⟩:=g
  rw[hg]at hs
  simp only[yielded,Array.getElem?_toList]at hs ⊢
  cases hp:ops[j]? with
  | none=>rfl
  | some p =>
   rw[hp]at hs
   simp only[Option.bind_some]at hs ⊢
   cases hd:p.dst with
   | none=>rfl
   | some d =>
    rw[hd]at hs
    simp only[Option.bind_some]at hs ⊢
    cases ha:a[d]? with
    | none =>
     have hlen:=hr.length
     have:act.tmps[d]?=none:=by
      rw[List.getElem?_eq_none_iff]at ha
      rw[Array.getElem?_eq_none_iff]
      simp at hlen;omega
     rw[this];rfl
    | some v =>
     obtain⟨u,hu,hv⟩:=hr.get ha
     rw[Array.getElem?_toList]at hu
     rw[hu]
     rw[ha]at hs
     cases hv <;> first|(simp[tL]at hs;done)|rfl|(rename_i b;cases b <;> cases want <;> rfl)
variable{ops:List Oper}{o:Oper}
theorem bL (h:aw ops o a=true):kS ops o a=true:=by
 unfold aw at h
 unfold kS
 cases hg:o.guard with
 | none=>rfl
 | some g =>
  obtain⟨j,want⟩:=g
  rw[hg]at h
  simp only at h ⊢
  cases hp:ops[j]? with
  | none=>rfl
  | some p =>
   rw[hp]at h
   simp only at h ⊢
   cases hd:p.dst with
   | none=>rfl
   | some d =>
    rw[hd]at h
    simp only at h ⊢
    cases ha:a[d]? with
    | none=>rfl
    | some v =>
     rw[ha]at h
     cases v <;> first|rfl|(simp at h;done)
theorem qR:kU ops o a=true↔aw ops o a=false/\kS ops o a=true:=by
 unfold kU;rw[Bool.and_eq_true,Bool.not_eq_true']
end
end Go.Am
namespace Go.Am
section
variable{P:Program}
variable{a a':ah}
theorem l3:∀ {xs:List Operand},(∀ x∈xs,aX a x=aX a' x)->ky a xs=ky a' xs
 | [],_=>rfl
 | x::xs,h=>by simp only[ky,h x (by simp),l3 (xs:=xs) (fun y hy=>h y (by simp[hy]))]
theorem jq:∀ {xs:List (Nat×Operand)},(∀ x∈xs.map (·.2),aX a x=aX a' x)->ew a xs=ew a' xs
 | [],_=>rfl
 | (i,x)::xs,h=>by simp only[ew,h x (by simp),jq (xs:=xs) (fun y hy=>h y (by simp at hy ⊢;exact .inr hy))]
variable{o:Oper}
theorem lS {h:AW}(hx:∀ x∈o.op.operands,aX a x=aX a' x):aI P a o h=aI P a' o h:=by
 obtain⟨dst,op,type,pos,after,guard⟩:=o
 cases op <;> simp only[Op.operands]at hx <;> simp only[aI]
 case build t ps=>rw[jq fun x hm=>hx x (by simpa using hm)]
 case buildSlice t n ps=>rw[jq fun x hm=>hx x (by simpa using hm)]
 case makeFunc fn first captured=>rw[l3 (xs:=first.toList) fun x hm=>hx x (by simp at hm;simp[hm]),l3 (xs:=captured.toList) fun x hm=>hx x (by simp at hm;simp[hm])]
 case slice t x lo hi mx=>cases lo <;> cases hi <;> cases mx <;> simp_all[aY]
 case makeMap t r=>cases r <;> simp_all[aY]
 case call c =>
  rw[l3 (xs:=c.args.toList) fun x hm=>hx x (by simp at hm;simp[Call.operands,hm])]
  cases ky a' c.args.toList with
  | none=>rfl
  | some args =>
   simp only[bB]
   cases hc:c.callee with
   | value f=>simp only[hx f (by simp[Call.operands,hc])]
   | invoke r m=>rfl
   | builtin b=>cases b <;> rfl
 all_goals (first|rfl|(simp_all;done))
theorem wN {acc:List Nat}:∀ {es:List Edge} {m:Nat},d5.go acc es=some m->∀ j,m.testBit j=true->∃ e∈es,Region.binds .any e=true/\(e.on=j∨∃ k,acc[e.on]?=some k/\k.testBit j=true)
 | [],m,h,j,hj=>by simp[d5.go]at h;subst h;simp at hj
 | e::es,m,h,j,hj=>by
  simp only[d5.go]at h
  split at h
  case h_2=>cases h
  rename_i m' hm'
  split at h
  ·rename_i hb
   split at h
   case h_2=>cases h
   rename_i k hk
   simp at h;subst h
   rw[Nat.testBit_or,Nat.testBit_or,Nat.testBit_two_pow]at hj
   simp only[Bool.or_eq_true,decide_eq_true_eq]at hj
   rcases hj with hj|hj|hj
   ·obtain⟨e',he',r⟩:=wN hm' j hj
    exact⟨e',by simp[he'],r⟩
   ·exact⟨e,by simp,hb,.inl hj⟩
   exact⟨e,by simp,hb,.inr ⟨k,hk,hj⟩⟩
  simp at h;subst h
  obtain⟨e',he',r⟩:=wN hm' j hj
  exact⟨e',by simp[he'],r⟩
theorem rX:∀ {ops:List Oper} {acc ms:List Nat},d5 ops acc=some ms->(∃ tail,ms=acc++tail/\tail.length=ops.length) /\
  ∀ i o,ops[i]?=some o->∀ j,(AG ms (acc.length+i)).testBit j=true->∃ e∈o.after.toList,Region.binds .any e=true/\(e.on=j∨(AG ms e.on).testBit j=true)
 | [],acc,ms,h=>by
  simp[d5]at h;subst h
  exact⟨⟨[],by simp⟩,fun i o hi=>by simp at hi⟩
 | o::rest,acc,ms,h=>by
  simp only[d5]at h
  split at h
  case h_2=>cases h
  rename_i m hm
  split at h
  case h_2=>cases h
  rename_i acc' hacc
  have hacc:=eP hacc
  subst hacc
  obtain⟨⟨tail,htail,hlen⟩,hrest⟩:=rX h
  refine⟨⟨m::tail,by simp[htail],by simp[hlen]⟩,fun i o' hi j hj=>?_⟩
  cases i with
  | zero =>
   simp at hi;subst hi
   have hmask:AG ms (acc.length+0)=m:=by
    unfold AG
    rw[htail,Nat.add_zero,List.append_assoc,List.getElem?_append_right (Nat.le_refl _)]
    simp
   rw[hmask]at hj
   obtain⟨e,he,hb,hor⟩:=wN hm j hj
   refine⟨e,he,hb,hor.imp id ?_⟩
   rintro ⟨k,hk,hkj⟩
   have hlt:=(List.getElem?_eq_some_iff.1 hk).1
   have:AG ms e.on=k:=by
    unfold AG
    rw[htail,List.append_assoc,List.getElem?_append_left hlt,hk]
   rwa [this]
  | succ i =>
   simp at hi
   refine hrest i o' hi j ?_
   have:(acc++[m]).length+i=acc.length+(i+1):=by simp;omega
   rwa [this]
theorem d9:∀ {ops:List Oper} {k:Nat},jR ops k=true->∀ i o,ops[i]?=some o->∀ e∈o.after.toList,Region.binds .any e=true->e.on<k+i
 | [],k,_,i,o,hi=>by simp at hi
 | o::rest,k,h,i,o',hi=>by
  simp only[jR]at h
  split at h
  case h_2=>cases h
  rename_i hall
  cases i with
  | zero =>
   simp at hi;subst hi
   intro e he hbe
   have:=List.all_eq_true.1 hall e he
   rw[hbe]at this
   have:=bk this
   omega
  | succ i =>
   simp at hi
   intro e he hbe
   have:=d9 h i o' hi e he hbe
   omega
variable{ops:List Oper}{ms:List Nat}
theorem gY (hm:d5 ops []=some ms)(hb:jR ops 0=true){S:Nat->Prop}
  (hS:∀ i o,S i->ops[i]?=some o->∀ e∈o.after.toList,Region.binds .any e=true->S e.on) :
  ∀ i o,ops[i]?=some o->(∀ e∈o.after.toList,Region.binds .any e=true->S e.on)->∀ j,ahead ms i j=true->S j:=by
 intro i
 induction i using Nat.strongRecOn with
 | _ i ih =>
  intro o ho hd j hj
  obtain⟨e,he,hbe,hor⟩:=(rX hm).2 i o ho j (by simpa[ahead] using hj)
  rcases hor with rfl|hor
  ·exact hd e he hbe
  have hlt:=d9 hb i o ho e he hbe
  have hSe:=hd e he hbe
  have hin:∃ o',ops[e.on]?=some o':=by
   have:=(List.getElem?_eq_some_iff.1 ho).1
   exact⟨ops[e.on]'(by omega),List.getElem?_eq_getElem (by omega)⟩
  obtain⟨o',ho'⟩:=hin
  exact ih e.on (by omega) o' ho' (fun e' he' hb'=>hS e.on o' hSe ho' e' he' hb') j hor
def Ca(p:Nat->Bool)(t:Nat):List Oper->List (ah×Value)->Nat->Option Value
 | o::os,(_,v)::tr,j=>if o.dst=some t/\p j=true then some v else Ca p t os tr (j+1)
 | _,_,_=>none
theorem cG:∀ {xs:List Nat} {n:Nat},fY xs n=true↔n∈xs
 | [],n=>by simp[fY]
 | x::xs,n=>by
  simp only[fY]
  split
  ·rename_i hb;have:=be hb;simp[this]
  rename_i hb;have:=ce hb
  rw[cG]
  exact⟨fun h=>List.mem_cons_of_mem _ h,fun h=>(List.mem_cons.1 h).resolve_left (fun e=>this e.symm)⟩
theorem rU:∀ {ops:List Oper} {i:Nat} {o:Oper} {d:Nat},ops[i]?=some o->o.dst=some d->d∈iA ops
 | [],i,o,d,h,_=>by simp at h
 | p::ps,0,o,d,h,hd=>by simp at h;subst h;simp[iA,hd]
 | p::ps,i+1,o,d,h,hd=>by
  simp at h
  have:=rU h hd
  simp only[iA]
  split
  ·simp[this]
  exact this
theorem pf:∀ {ops:List Oper},jE (iA ops)=true->∀ (i j:Nat) (o o':Oper) (d:Nat),ops[i]?=some o->ops[j]?=some o'->o.dst=some d->o'.dst=some d->i=j
 | [],_,i,j,o,o',d,h,_,_,_=>by simp at h
 | p::ps,hon,i,j,o,o',d,hi,hj,hd,hd'=>by
  have htail:jE (iA ps)=true:=by
   simp only[iA]at hon
   split at hon
   ·simp only[jE]at hon
    split at hon
    ·cases hon
    exact hon
   exact hon
  have hhead:∀ d,p.dst=some d->d ∉ iA ps:=fun d hpd hm=>by
   simp only[iA,hpd,jE]at hon
   rw[cG.2 hm]at hon
   cases hon
  cases i with
  | zero =>
   simp at hi;subst hi
   cases j with
   | zero=>rfl
   | succ j=>simp at hj;exact absurd (rU hj hd') (hhead d hd)
  | succ i =>
   simp at hi
   cases j with
   | zero=>simp at hj;subst hj;exact absurd (rU hi hd) (hhead d hd')
   | succ j=>simp at hj;rw[pf htail i j o o' d hi hj hd hd']
theorem FL {p:Nat->Bool}{t:Nat}:∀ {ops:List Oper} {tr:List (ah×Value)} {k i:Nat} {o:Oper} {x:ah×Value},(∀ (i j:Nat) (o o':Oper) (d:Nat),ops[i]?=some o->ops[j]?=some o'->o.dst=some d->o'.dst=some d->i=j) →
  ops[i]?=some o->tr[i]?=some x->o.dst=some t->p (k+i)=true->Ca p t ops tr k=some x.2
 | [],_,_,_,_,_,_,h,_,_,_=>by simp at h
 | _::_,[],_,_,_,_,_,_,h,_,_=>by simp at h
 | o'::os,(a,v)::tr,k,0,o,x,hu,h1,h2,hd,hp=>by
  simp at h1 h2;subst h1 h2
  simp only[Ca]
  rw[if_pos ⟨hd,by simpa using hp⟩]
 | o'::os,(a,v)::tr,k,i+1,o,x,hu,h1,h2,hd,hp=>by
  simp only[Ca]
  have hne:¬ (o'.dst=some t/\p k=true):=fun hh=>by
   have:=hu 0 (i+1) o' o t rfl h1 hh.1 hd
   omega
  rw[if_neg hne]
  simp at h1 h2
  exact FL (fun i j o o' d a b c e=>by have:=hu (i+1) (j+1) o o' d (by simpa using a) (by simpa using b) c e;omega) h1 h2 hd (by rwa [show k+1+i=k+(i+1) by omega])
theorem ui:∀ {a a':ah} {d:Nat} {v:Value},kE a d v=some a'->a'.length=a.length/\d<a.length/\∀ t,a'[t]?=if t=d then some v else a[t]?
 | [],a',d,v,e=>by simp[kE]at e
 | x::xs,a',0,v,e=>by
  simp[kE]at e;subst e
  refine⟨rfl,by simp,fun t=>?_⟩
  cases t <;> simp
 | x::xs,a',d+1,v,e=>by
  simp only[kE]at e
  split at e
  ·rename_i ys ey
   simp at e;subst e
   obtain⟨h1,h2,h3⟩:=ui ey
   refine⟨by simp[h1],by simp;omega,fun t=>?_⟩
   cases t with
   | zero=>simp
   | succ t=>simp[h3]
  cases e
end
end Go.Am
namespace Go.Am
section
variable{P:Program}
variable{a a':ah}
theorem uo {d:Option Tmp}{v:Value}(e:aH a d v=some a'):a'.length=a.length/\(∀ x,d=some x->x<a.length)/\∀ t,a'[t]?=if d=some t then some v else a[t]?:=by
 cases d with
 | none=>simp[aH]at e;subst e;exact⟨rfl,fun x h=>(by cases h),fun t=>(by simp)⟩
 | some d =>
  obtain⟨h1,h2,h3⟩:=ui (by simpa[aH] using e)
  refine⟨h1,fun x hx=>(by simp at hx;subst hx;exact h2),fun t=>?_⟩
  rw[h3]
  by_cases ht:t=d
  ·subst ht;simp
  rw[if_neg ht,if_neg (fun hh=>ht (by simp at hh;exact hh.symm))]
def Lk(ops:List Oper):Prop:=∀ (i j:Nat) (o o':Oper) (d:Nat),ops[i]?=some o->ops[j]?=some o'->o.dst=some d->o'.dst=some d->i=j
variable{ms:List Nat}
theorem nA {ls:List Nat}{i:Nat}:∀ {ops:List Oper} {k:Nat},qk ms ls i ops k=true->∀ p q d,ops[p]?=some q->q.dst=some d->d∈ls->k+p≠i->(k+p<i->ahead ms i (k+p)=true)/\(i<k+p->ahead ms (k+p) i=true)
 | [],k,_,p,q,d,hp,_,_,_=>by simp at hp
 | q'::ops,k,e,p,q,d,hp,hd,hm,hne=>by
  simp only[qk]at e
  split at e
  case h_2=>cases e
  rename_i hin
  cases p with
  | zero =>
   simp at hp;subst hp
   rw[hd]at hin
   simp only[cG.2 hm]at hin
   rw[aK (by simpa using hne)]at hin
   simp only at hin
   constructor
   ·intro hlt
    rw[Nat.ble_eq_true_of_le (by omega)]at hin
    simpa using hin
   intro hlt
   have:Nat.ble (k+1) i=false:=by
    cases hb:Nat.ble (k+1) i with
    | false=>rfl
    | true=>have:=bk hb;omega
   rw[this]at hin
   simpa using hin
  | succ p =>
   simp at hp
   have:=nA e p q d hp hd hm (by omega)
   rwa [show k+1+p=k+(p+1) by omega]at this
theorem iI {all:List Oper}:∀ {rest:List Oper} {i:Nat},ft ms all rest i=true->∀ p o,rest[p]?=some o->∀ j q d,all[j]?=some q->q.dst=some d->d∈dx all o->j≠i+p →
  (j<i+p->ahead ms (i+p) j=true)/\(i+p<j->ahead ms j (i+p)=true)
 | [],i,_,p,o,hp=>by simp at hp
 | o'::rest,i,e,p,o,hp=>by
  simp only[ft]at e
  split at e
  case h_2=>cases e
  rename_i hin
  cases p with
  | zero =>
   simp at hp;subst hp
   intro j q d hj hd hm hne
   have:=nA hin j q d hj hd hm (by simpa using hne)
   simpa using this
  | succ p =>
   simp at hp
   intro j q d hj hd hm hne
   have:=iI e p o hp j q d hj hd hm (by omega)
   rwa [show i+1+p=i+(p+1) by omega]at this
theorem mF:∀ {xs:List Operand} {t:Nat},.tmp t∈xs->t∈jd xs
 | [],t,h=>by simp at h
 | x::xs,t,h=>by
  cases x with
  | tmp u =>
   simp only[jd,List.mem_cons]
   simp only[List.mem_cons,Operand.tmp.injEq]at h
   exact h.imp id mF
  | _=>simp only[List.mem_cons,reduceCtorEq,false_or]at h;exact (show t∈jd xs from mF h)
theorem rZ {all:List Oper}{o:Oper}{t:Nat}(h:Operand.tmp t∈o.op.operands):t∈dx all o:=by
 have hm:t∈jd o.op.operands.toList:=mF (by simpa using h)
 unfold dx
 split
 ·exact hm
 split
 ·split
  ·exact List.mem_cons_of_mem _ hm
  exact hm
 exact hm
theorem nX {all:List Oper}{o p:Oper}{g d:Nat}{want:Bool}(h:o.guard=some (g,want))(hp:all[g]?=some p)(hd:p.dst=some d):d∈dx all o:=by
 unfold dx
 rw[h]
 simp[hp,hd]
theorem dJ {all:List Oper}{o:Oper}{a a':ah}(h:∀ t,t∈dx all o->a[t]?=a'[t]?):aw all o a=aw all o a':=by
 unfold aw
 cases hg:o.guard with
 | none=>rfl
 | some gw =>
  obtain⟨g,want⟩:=gw
  simp only
  cases hp:all[g]? with
  | none=>rfl
  | some p =>
   simp only
   cases hd:p.dst with
   | none=>rfl
   | some d=>simp only[h d (nX hg hp hd)]
theorem fe {all:List Oper}{o:Oper}{a a':ah}(h:∀ t,t∈dx all o->a[t]?=a'[t]?):kS all o a=kS all o a':=by
 unfold kS
 cases hg:o.guard with
 | none=>rfl
 | some gw =>
  obtain⟨g,want⟩:=gw
  simp only
  cases hp:all[g]? with
  | none=>rfl
  | some p =>
   simp only
   cases hd:p.dst with
   | none=>rfl
   | some d=>simp only[h d (nX hg hp hd)]
variable{o:Oper}
theorem mc {all:List Oper}{a a':ah}(h:∀ t,t∈dx all o->a[t]?=a'[t]?):∀ x∈o.op.operands,aX a x=aX a' x:=by
 intro x hx
 cases x with
 | tmp t=>exact h t (rZ hx)
 | const v=>rfl
 | global g=>rfl
 | func f=>rfl
theorem A6 {p q:Nat->Bool}:∀ {l:List Nat},(∀ x,q x=true->p x=true)->(∃ x∈l,p x=true/\q x=false)->(l.filter q).length<(l.filter p).length
 | [],_,⟨x,hx,_⟩=>by simp at hx
 | y::l,h,⟨x,hx,h1,h2⟩=>by
  have hle:(l.filter q).length<=(l.filter p).length:=by
   clear hx
   induction l with
   | nil=>simp
   | cons z l ih =>
    simp only[List.filter_cons]
    cases hq:q z with
    | true=>rw[h z hq];simpa using ih
    | false=>cases p z <;> simp <;> omega
  simp only[List.filter_cons]
  rcases List.mem_cons.1 hx with rfl|hx
  ·rw[h1,h2];simp;omega
  have:=A6 h ⟨x,hx,h1,h2⟩
  cases hq:q y with
  | true=>rw[h y hq];simpa using this
  | false=>cases p y <;> simp <;> omega
end
end Go.Am
namespace Go.Am
section
variable{P:Program}
def dB(listed:Array Bool)(j:Nat):Bool:=listed.getD j false
theorem cJ {listed:Array Bool}{i j:Nat}(hi:i<listed.size):dB (listed.setIfInBounds i true) j=if j=i then true else dB listed j:=by
 unfold dB
 rw[Array.getD_eq_getD_getElem?,Array.getD_eq_getD_getElem?,Array.getElem?_setIfInBounds]
 by_cases h:i=j
 ·subst h;simp[hi]
 rw[if_neg h,if_neg (by omega)]
end
end Go.Am
namespace Go.Am
section
variable{P:Program}
def b8.exit':b8->Exit
 | .normal=>.normal
 | .exit id=>.exit id
 | .ret=>.ret
variable{ρ:cY}
theorem z7 (n:Nat):aF ρ (qL n) (List.replicate n undef):=by
 induction n with
 | zero=>exact .nil
 | succ n ih=>exact .cons gZ ih
def nH(tmps:Array Value):ResultVar->Sem Value
 | .tmp t=>pure (tmps.getD t undef)
 | .cell x t=>do loadVar t (← asAddr (tmps.getD x undef))
variable{a:ah}{act:Act}
theorem jf {h:AW}{w:World}(hr:aF ρ a act.tmps.toList)(H:aJ P ρ h w):∀ {rs:List ResultVar} {vs:List Value},cE P a h rs=some vs →
  ∃ us,(rs.mapM (nH act.tmps)).run P w=Result.ok us w/\aF ρ vs us
 | [],vs,e=>by simp[cE]at e;subst e;exact⟨[],rfl,.nil⟩
 | .tmp t::rest,vs,e=>by
  simp only[cE]at e
  split at e
  case h_2=>cases e
  rename_i v vs' hv hvs
  simp at e;subst e
  obtain⟨us,hrun,hrel⟩:=jf hr H hvs
  obtain⟨u,hu,hvr⟩:=hr.get hv
  rw[Array.getElem?_toList]at hu
  refine⟨u::us,?_,.cons hvr hrel⟩
  rw[List.mapM_cons]
  simp only[nH,Sem.run_bind,Sem.run_pure,Result.andThen_ok,hrun]
  rw[Array.getD_eq_getD_getElem?,hu];rfl
 | .cell x t::rest,vs,e=>by
  simp only[cE]at e
  split at e
  case h_2=>cases e
  rename_i p hp
  split at e
  case h_2=>cases e
  rename_i v vs' hv hvs
  simp at e;subst e
  obtain⟨us,hrun,hrel⟩:=jf hr H hvs
  obtain⟨u,hu,hpr⟩:=hr.get hp
  rw[Array.getElem?_toList]at hu
  have hgd:act.tmps.getD x undef=u:=by rw[Array.getD_eq_getD_getElem?,hu];rfl
  unfold mw at hv
  split at hv
  case h_2=>cases hv
  rename_i r off
  split at hv
  case h_2=>cases hv
  rename_i cs hrow
  cases hpr with
  | ptr hl =>
   obtain⟨z,hz,hzr⟩:=pY H hrow hl hv
   refine⟨z::us,?_,.cons hzr hrel⟩
   rw[List.mapM_cons]
   simp only[nH,hgd,Sem.run_bind,asAddr,Sem.run_pure,Result.andThen_ok,hz,hrun]
variable{us:List Value}
theorem Aa {vs:List Value}(hr:aF ρ vs us):ay ρ (cj vs) (if h:(⟨us⟩:Array Value).size=1 then (⟨us⟩:Array Value)[0] else .tuple ⟨us⟩):=by
 cases hr with
 | nil=>exact .tuple .nil
 | cons h1 h2 =>
  cases h2 with
  | nil=>exact h1
  | cons h3 h4 =>
   rw[dif_neg (by simp)]
   exact .tuple (.cons h1 (.cons h3 h4))
theorem yh {fn:Func}{tmps:Array Value}{w:World}:(results fn tmps).run P w=(((fn.results.toList).mapM (nH tmps)).run P w).andThen fun us w=>.ok (if h:(⟨us⟩:Array Value).size=1 then (⟨us⟩:Array Value)[0] else .tuple ⟨us⟩) w:=by
 have hfun:results fn tmps=(do
   let vs ← fn.results.mapM (nH tmps)
   pure (if h:vs.size=1 then vs[0] else .tuple vs)):=by
  unfold results
  congr 1
 rw[hfun,Array.mapM_eq_mapM_toList]
 simp only[Sem.run_bind,Sem.run_map]
 generalize Sem.run P (List.mapM _ fn.results.toList) w=q
 cases q <;> rfl
theorem uZ(w:World):aJ P (fun _=>none) AW.empty w :=
 ⟨fun r row hr=>(by cases hr),fun _ _ _ _ _ _ hr=>(by cases hr),fun _=>rfl,(by decide)⟩
end
end Go.Am
namespace Go.Am
section
variable{P:Program}
theorem pP {F:Fence}{n':Nat}{P:Program}{c:Code}{Q:Exit->Act->World->Prop}(J:Nat->Act->World->Prop){n:Nat}{a:Act}{w:World}(h₀:J n a w)
  (round:∀ n a w,J n a w->c.wpIn F n' P (Exit.then (fun a' w'=>∃ m,m<n/\J m a' w') Q) a w):(Code.loop c).wpIn F n' P Q a w:=by
 intro b k cs hro hb hr
 have key:∀ n a w,J n a w->∃ e a' w',Q e a' w'/\ArrivesIn (Machine.fenced P F) P (lone (b.atR a (.code c::.inLoop c::k)) cs w) b k cs e a' w':=by
  intro n
  induction n using Nat.strongRecOn with
  | _ n ih =>
   intro a w hI
   obtain⟨e,a₁,w₁,hq,harr⟩:=round n a w hI b (.inLoop c::k) cs hro hb hr
   cases e with
   | normal =>
    obtain⟨m,hm,hJ⟩:=hq
    obtain⟨e₂,a₂,w₂,hq₂,harr₂⟩:=ih m hm a₁ w₁ hJ
    exact⟨e₂,a₂,w₂,hq₂,.of_steps (StepsIn.trans harr (.one (fenced_calm hb hr rfl) stepR_inLoop)) harr₂⟩
   | exit id=>exact⟨_,a₁,w₁,hq,.pass (x:=.inLoop c) rfl (fun _ _=>.inl (by simp)) harr⟩
   | goto l=>exact⟨_,a₁,w₁,hq,.pass (x:=.inLoop c) rfl (fun _ _=>.inl (by simp)) harr⟩
   | ret=>exact⟨_,a₁,w₁,hq,.pass (x:=.inLoop c) rfl (fun _ _=>.inl (by simp)) harr⟩
   | panic ch=>exact⟨_,a₁,w₁,hq,.pass (x:=.inLoop c) rfl (fun _ _=>.inl (by simp)) harr⟩
   | outgrown=>exact⟨_,a₁,w₁,hq,.pass (x:=.inLoop c) rfl (fun _ _=>.inl (by simp)) harr⟩
 obtain⟨e,a',w',hq,harr⟩:=key n a w h₀
 exact⟨e,a',w',hq,.of_steps (.one (fenced_calm hb hr rfl) stepR_loop) harr⟩
def fP(ro:Option Nat):Fence:={ Fence.wide with round:=ro }
inductive vp(ρ:cY):Option Nat->Option Nat->Prop
 | none:vp ρ none none
 | some {r:Nat} {l:jU} (h:ρ r=some l):vp ρ (some r) (some l.block)
variable{ρ ρ':cY}
theorem vp.mono {rd ro:Option Nat}(h:vp ρ rd ro)(le:ρ.le ρ'):vp ρ' rd ro:=by
 cases h with
 | none=>exact .none
 | some e=>exact .some (le _ _ e)
theorem eY {ro:Option Nat}{n:Nat}{P:Program}{f:FuncId}{args:Array Value}{w:World}{R:Ending->World->Prop}:CallsIn (fP ro) n P f args w R↔Calls P f args w R :=
 (Iff.rfl:CallsIn (fP ro) n P f args w R↔CallsIn Fence.wide n P f args w R).trans callsIn_wide
structure iJ(n₀:Nat)(ρ:cY)(h:AW)(w:World)(ds:List Deferred):Prop where
 base:n₀<=w.heap.size
 each:∀ d,d∈ds->∃ D,d.target=.collected D/\n₀<=D/\w.heap[D]?=some (.deferred (some []))/\∀ r row l,h.get r=some row->row.own=true->ρ r=some l->l.block≠D
 nd:(ds.map (·.target)).Nodup
theorem iJ.nil(ρ:cY)(h:AW)(w:World):iJ w.heap.size ρ h w []:=⟨Nat.le_refl _,fun _ hd=>(by cases hd),List.nodup_nil⟩
theorem iJ.turn {n₀:Nat}{ρ ρ':cY}{h h':AW}{w w':World}{ds:List Deferred}(M:iJ n₀ ρ h w ds)(T:bE ρ h w ρ' h' w'):iJ n₀ ρ' h' w' ds:=by
 refine⟨Nat.le_trans M.base T.size,fun d hd=>?_,M.nd⟩
 obtain⟨D,h1,h2,h3,h4⟩:=M.each d hd
 have hlt:D<w.heap.size:=(Array.getElem?_eq_some_iff.1 h3).1
 refine⟨D,h1,h2,(T.keep D hlt fun r row l a b c=>h4 r row l a b c).trans h3,fun r row l a b c e=>?_⟩
 obtain⟨r₀,row₀,l₀,a',b',c',e'⟩:=T.own r row l a b c (by rw[e];exact hlt)
 exact h4 r₀ row₀ l₀ a' b' c' (e'.trans e)
variable{o:Oper}{a:ah}
theorem b9 {h:AW}{x:xn}(e:aI P a o h=some x):∀ c,o.op≠.defer c:=by
 intro c hc
 simp only[aI,hc]at e
 cases e
def CQ(P:Program)(f:FuncId)(args:List Value)(h:AW)(R:Value->AW->Prop):Prop :=
 (∃ fn c,P.funcs[f]?=some fn/\fn.body=some c)/\∀ ρ us w,aF ρ args us->aJ P ρ h w →
  Calls P f ⟨us⟩ w fun e w'=>∃ v h' u ρ',e=.returned u/\R v h'/\ay ρ' v u/\aJ P ρ' h' w'/\bE ρ h w ρ' h' w'
def OQ(P:Program)(ops:List Oper)(rest:List Oper)(a:ah)(h:AW)(K:ah->AW->Prop):Prop :=
 ∀ (ro:Option Nat) (ds:List Deferred) (opsA:Array Oper) (i:Nat) (ρ:cY) (act:Act) (w:World) (Q:Exit->Act->World->Prop),opsA.toList=ops->(∃ tl,ops.drop i=rest++tl)->aF ρ a act.tmps.toList->act.defers=ds->aJ P ρ h w →
  (∀ a' h' ρ' act' w',K a' h'->aF ρ' a' act'.tmps.toList->act'.defers=ds->aJ P ρ' h' w'->bE ρ h w ρ' h' w'->Q .normal act' w')->wpOpsIn (fP ro) 0 P opsA Q (List.range' i rest.length) act w
def LQ(rd:Option Nat)(P:Program)(c:Code)(a:ah)(h:AW)(R:b8->ah->AW->Prop):Prop :=
 ∀ (n₀:Nat) (ro:Option Nat) (ρ:cY) (act:Act) (w:World) (Q:Exit->Act->World->Prop),vp ρ rd ro->aF ρ a act.tmps.toList->iJ n₀ ρ h w act.defers->aJ P ρ h w →
  (∀ e a' h' ρ' act' w',R e a' h'->aF ρ' a' act'.tmps.toList->iJ n₀ ρ' h' w' act'.defers->aJ P ρ' h' w'->bE ρ h w ρ' h' w'->Q e.exit' act' w')->c.wpIn (fP ro) 0 P Q act w
variable{f:FuncId}{args:List Value}
theorem CQ.mono {h:AW}{R R':Value->AW->Prop}(c:CQ P f args h R)(hr:∀ v h',R v h'->R' v h'):CQ P f args h R' :=
 ⟨c.1,fun ρ us w a b=>(c.2 ρ us w a b).mono fun e w' ⟨v,h',u,ρ',e1,e2,e3⟩=>⟨v,h',u,ρ',e1,hr _ _ e2,e3⟩⟩
variable{ops:List Oper}
theorem OQ.nil {h:AW}{K:ah->AW->Prop}(k:K a h):OQ P ops [] a h K:=by
 intro ro ds opsA i ρ act w Q ho hd hr hdf H hQ
 exact hQ a h ρ act w k hr hdf H (bE.refl _ _ _)
section
variable{ops rest:List Oper}{o:Oper}{a a₁ a':ah}{h h₁ h':AW}{v:Value}{K:ah->AW->Prop}
theorem gX {opsA:Array Oper}{i:Nat}(ho:opsA.toList=ops)(hd:∃ tl,ops.drop i=(o::rest)++tl):opsA[i]?=some o/\∃ tl,ops.drop (i+1)=rest++tl:=by
 obtain⟨tl,hd⟩:=hd
 constructor
 ·rw[←Array.getElem?_toList,ho]
  have:(ops.drop i)[0]?=some o:=by rw[hd];rfl
  rwa [List.getElem?_drop,Nat.add_zero]at this
 exact⟨tl,by rw[←List.drop_drop,hd];rfl⟩
theorem OQ.val(hw:aw ops o a=true)(e:aI P a o h=some (.val v h₁))(ep:aH a o.dst v=some a₁)(k:OQ P ops rest a₁ h₁ K):OQ P ops (o::rest) a h K:=by
 intro ro ds opsA i ρ act w Q ho hd hr hdf H hQ
 obtain⟨hoi,hrest⟩:=gX ho hd
 simp only[List.length_cons,List.range'_succ,wpOpsIn,hoi]
 rw[←ci hr (by rw[ho];exact bL hw),ho,hw,if_pos rfl]
 obtain⟨n,u,w₁,ρ₁,hrun,hn,hv,H₁,T₁⟩:=cO hr H e
 have hnext:=k ro _ _ _ _ _ _ Q ho hrest (fk ep (hr.mono T₁.le) hv) (by rw[c7];exact hdf) H₁ (fun a' h' ρ' act' w' kk a b c d=>hQ a' h' ρ' act' w' kk a b c (T₁.trans d))
 refine⟨fun _ _=>trivial,?_⟩
 rw[Oper.semAt_eq _ _ _ (b9 e),hrun]
 rcases hn with rfl|⟨rfl,rfl⟩ <;> exact hnext
theorem OQ.skip(hw:kU ops o a=true)(ep:aH a o.dst undef=some a₁)(k:OQ P ops rest a₁ h K):OQ P ops (o::rest) a h K:=by
 intro ro ds opsA i ρ act w Q ho hd hr hdf H hQ
 obtain⟨hoi,hrest⟩:=gX ho hd
 simp only[List.length_cons,List.range'_succ,wpOpsIn,hoi]
 obtain⟨hw,hsure⟩:=qR.1 hw
 rw[←ci hr (by rw[ho];exact hsure),ho,hw,if_neg (by simp)]
 exact⟨fun _ _=>trivial,k ro _ _ _ _ _ _ Q ho hrest (fk ep hr gZ) (by rw[c7];exact hdf) H hQ⟩
theorem OQ.call(hg:noGo P=true){f:FuncId}{args:List Value}(hw:aw ops o a=true)(e:aI P a o h=some (.call f args))(hc:CQ P f args h fun v h₁=>∃ a₁,aH a o.dst v=some a₁/\OQ P ops rest a₁ h₁ K) :
  OQ P ops (o::rest) a h K:=by
 intro ro ds opsA i ρ act w Q ho hd hr hdf H hQ
 obtain⟨hoi,hrest⟩:=gX ho hd
 simp only[List.length_cons,List.range'_succ,wpOpsIn,hoi]
 rw[←ci hr (by rw[ho];exact bL hw),ho,hw,if_pos rfl]
 obtain⟨us,hus,hrun⟩:=cO hr H e
 obtain⟨⟨fn,c,hf,hb⟩,hcalls⟩:=hc
 refine⟨fun _ _=>trivial,?_⟩
 rw[Oper.semAt_eq _ _ _ (b9 e),hrun,er hg hf hb]
 refine⟨fun hh=>(by cases hh),eY.2 ((hcalls ρ us w hus H).mono ?_)⟩
 rintro en w₁ ⟨v,h₁,u,ρ₁,rfl,⟨a₁,ep,k⟩,hv,H₁,T₁⟩
 exact k ro _ _ _ _ _ _ Q ho hrest (fk ep (hr.mono T₁.le) hv) (by rw[c7];exact hdf) H₁ (fun a' h' ρ' act' w' kk a b c d=>hQ a' h' ρ' act' w' kk a b c (T₁.trans d))
def LG(P:Program)(f:FuncId)(args:List Value)(v:Value):Prop :=
 ∃ fn ex,P.funcs[f]?=some fn/\(fn.name == "runtime.NumGoroutine")=false/\fn.body.isNone=true/\Extern.findNext fn=none/\Extern.find fn=some ex/\∀ (ρ:cY) us w,aF ρ args us->∃ u,(ex ⟨us⟩).run P w=.ok u w/\ay ρ v u
theorem OQ.ext (hx:LG P f args v)(hw:aw ops o a=true)(e:aI P a o h=some (.call f args))(ep:aH a o.dst v=some a₁)(k:OQ P ops rest a₁ h K):OQ P ops (o::rest) a h K:=by
 intro ro ds opsA i ρ act w Q ho hd hr hdf H hQ
 obtain⟨hoi,hrest⟩:=gX ho hd
 simp only[List.length_cons,List.range'_succ,wpOpsIn,hoi]
 rw[←ci hr (by rw[ho];exact bL hw),ho,hw,if_pos rfl]
 obtain⟨us,hus,hrun⟩:=cO hr H e
 obtain⟨fn,ex,hf,hname,hb,hn,he,hx⟩:=hx
 obtain⟨u,hex,hv⟩:=hx ρ us w hus
 have hnext:=k ro _ _ _ _ _ _ Q ho hrest (fk ep hr hv) (by rw[c7];exact hdf) H hQ
 refine⟨fun _ _=>trivial,?_⟩
 rw[Oper.semAt_eq _ _ _ (b9 e),hrun,run_callFunc_extern hf hname hb hn he,hex]
 exact hnext
end
def Le(next:ah->AW->Prop)(R:b8->ah->AW->Prop):b8->ah->AW->Prop
 | .normal,a,h=>next a h
 | e,a,h=>R e a h
def Be(id:Nat)(R:b8->ah->AW->Prop):b8->ah->AW->Prop
 | .exit id',a,h=>if id'=id then R .normal a h else R (.exit id') a h
 | e,a,h=>R e a h
section
variable{rd:Option Nat}{x y:Code}{a:ah}{h:AW}{R:b8->ah->AW->Prop}
theorem LQ.skip(k:R .normal a h):LQ rd P .skip a h R:=fun _ _ _ _ _ _ _ hr hd H hQ=>wpIn_skip (hQ .normal _ _ _ _ _ k hr hd H (bE.refl _ _ _))
theorem LQ.ret(k:R .ret a h):LQ rd P .ret a h R:=fun _ _ _ _ _ _ _ hr hd H hQ=>wpIn_ret (hQ .ret _ _ _ _ _ k hr hd H (bE.refl _ _ _))
theorem LQ.exit {id:Nat}(k:R (.exit id) a h):LQ rd P (.exit id) a h R:=fun _ _ _ _ _ _ _ hr hd H hQ=>wpIn_exit (hQ (.exit id) _ _ _ _ _ k hr hd H (bE.refl _ _ _))
theorem LQ.region {id:Nat}{ops:Array Oper}{l:List Oper}(hl:ops.toList=l)(k:OQ P l l a h (R .normal)):LQ rd P (.region id ops false) a h R:=by
 intro n₀ ro ρ act w Q _ hr hd H hQ
 refine wpIn_region ?_
 have:=k ro _ _ 0 _ _ _ Q hl ⟨[],by simp⟩ hr rfl H (fun a' h' ρ' act' w' kk a b c d=>hQ .normal a' h' ρ' act' w' kk a (by rw[b];exact hd.turn d) c d)
 rw[List.range_eq_range']
 rw[←hl]at this
 simpa using this
theorem LQ.seq(hx:LQ rd P x a h (Le (fun a h=>LQ rd P y a h R) R)):LQ rd P (.seq x y) a h R :=
 fun n₀ ro _ _ _ Q hrd hr hd H hQ=>wpIn_seq (hx n₀ ro _ _ _ _ hrd hr hd H fun e a₁ h₁ ρ₁ act₁ w₁ k hr₁ hd₁ H₁ T₁=>by
  cases e with
  | normal=>exact k n₀ ro _ _ _ Q (hrd.mono T₁.le) hr₁ hd₁ H₁ fun e a₂ h₂ ρ₂ act₂ w₂ k₂ hr₂ hd₂ H₂ T₂=>hQ e a₂ h₂ ρ₂ act₂ w₂ k₂ hr₂ hd₂ H₂ (T₁.trans T₂)
  | exit id=>exact hQ (.exit id) a₁ h₁ ρ₁ act₁ w₁ k hr₁ hd₁ H₁ T₁
  | ret=>exact hQ .ret a₁ h₁ ρ₁ act₁ w₁ k hr₁ hd₁ H₁ T₁)
theorem LQ.cond {c:Operand}{b:Bool}(hc:aX a c=some (.bool b))(hx:b=true->LQ rd P x a h R)(hy:b=false->LQ rd P y a h R):LQ rd P (.cond c x y) a h R:=fun n₀ ro _ act _ _ hrd hr hd H hQ=>by
 have hcr:=aP hr hc
 generalize hev:act.eval c=cv at hcr
 cases hcr
 cases b
 ·exact wpIn_cond_false hev (hy rfl n₀ ro _ _ _ _ hrd hr hd H hQ)
 exact wpIn_cond_true hev (hx rfl n₀ ro _ _ _ _ hrd hr hd H hQ)
theorem LQ.block {id:Nat}(hx:LQ rd P x a h (Be id R)):LQ rd P (.block id x) a h R:=fun n₀ ro _ _ _ _ hrd hr hd H hQ=>wpIn_block (hx n₀ ro _ _ _ _ hrd hr hd H fun e a₁ h₁ ρ₁ act₁ w₁ k hr₁ hd₁ H₁ T₁=>by
 cases e with
 | normal=>exact hQ .normal a₁ h₁ ρ₁ act₁ w₁ k hr₁ hd₁ H₁ T₁
 | ret=>exact hQ .ret a₁ h₁ ρ₁ act₁ w₁ k hr₁ hd₁ H₁ T₁
 | exit id' =>
  simp only[b8.exit',Exit.inBlock]
  simp only[Be]at k
  by_cases he:id'=id
  ·rw[if_pos he]at k ⊢;exact hQ .normal a₁ h₁ ρ₁ act₁ w₁ k hr₁ hd₁ H₁ T₁
  rw[if_neg he]at k ⊢;exact hQ (.exit id') a₁ h₁ ρ₁ act₁ w₁ k hr₁ hd₁ H₁ T₁)
theorem LQ.mono {R':b8->ah->AW->Prop}(k:LQ rd P x a h R)(hr:∀ e a h,R e a h->R' e a h):LQ rd P x a h R' :=
 fun n₀ ro _ _ _ _ hrd hs hd H hQ=>k n₀ ro _ _ _ _ hrd hs hd H fun e a' h' ρ' act' w' kk=>hQ e a' h' ρ' act' w' (hr _ _ _ kk)
theorem LQ.loop(I:Nat->ah->AW->Prop){n:Nat}(h₀:I n a h)(round:∀ n a h,I n a h->LQ rd P x a h (Le (fun a' h'=>∃ m,m<n/\I m a' h') R)):LQ rd P (.loop x) a h R:=by
 intro n₀ ro ρ act w Q hrd hr hd H hQ
 let J:Nat->Act->World->Prop:=fun n act₁ w₁=>∃ a₁ h₁ ρ₁,I n a₁ h₁/\aF ρ₁ a₁ act₁.tmps.toList/\iJ n₀ ρ₁ h₁ w₁ act₁.defers/\aJ P ρ₁ h₁ w₁/\bE ρ h w ρ₁ h₁ w₁
 refine pP J (n:=n) ⟨a,h,ρ,h₀,hr,hd,H,bE.refl _ _ _⟩ ?_
 rintro n act₁ w₁ ⟨a₁,h₁,ρ₁,hI,hr₁,hd₁,H₁,T₁⟩
 refine round n a₁ h₁ hI n₀ ro _ _ _ _ (hrd.mono T₁.le) hr₁ hd₁ H₁ fun e a₂ h₂ ρ₂ act₂ w₂ k hr₂ hd₂ H₂ T₂=>?_
 cases e with
 | normal =>
  obtain⟨m,hm,hI₂⟩:=k
  exact⟨m,hm,a₂,h₂,ρ₂,hI₂,hr₂,hd₂,H₂,T₁.trans T₂⟩
 | exit id=>exact hQ (.exit id) a₂ h₂ ρ₂ act₂ w₂ k hr₂ hd₂ H₂ (T₁.trans T₂)
 | ret=>exact hQ .ret a₂ h₂ ρ₂ act₂ w₂ k hr₂ hd₂ H₂ (T₁.trans T₂)
def I2(P:Program)(rs:List ResultVar)(R:Value->AW->Prop):b8->ah->AW->Prop
 | .exit _,_,_=>False
 | _,a,h=>∃ vs,cE P a h rs=some vs/\R (cj vs) h
variable{w:World}
theorem aJ.putMark {D:Nat}{ds:Option (List Deferred)}(H:aJ P ρ h w)(hD:w.heap[D]?=some (.deferred ds))(ho:∀ r row l,h.get r=some row->row.own=true->ρ r=some l->l.block≠D)(o:Obj):aJ P ρ h (w.putObj D o):=by
 refine⟨fun r row hr=>?_,H.inj,H.fresh,H.step⟩
 obtain⟨l,hl,hrow⟩:=H.loc r row hr
 refine⟨l,hl,?_⟩
 by_cases e:l.block=D
 ·cases hown:row.own with
  | true=>exact absurd e (ho r row l hr hown hl)
  | false =>
   cases row with
   | ro cs =>
    refine⟨by rw[World.putObj_size];exact hrow.1,fun i v hv=>?_⟩
    obtain⟨u,hu,_⟩:=hrow.2 i v hv
    simp only[World.cell?,e,hD]at hu
    cases hu
   | _=>cases hown
 exact hrow.keep (cY.le_refl _) (World.putObj_heap_other e)
variable{h':AW}{w':World}
theorem bE.putMark {D:Nat}(T:bE ρ h w ρ' h' w')(hD:w.heap.size<=D)(o:Obj):bE ρ h w ρ' h' (w'.putObj D o) :=
 ⟨T.le,T.os,T.tape,T.output,by rw[World.putObj_size];exact T.size,T.own,fun k hk hn=>(World.putObj_heap_other (by omega)).trans (T.keep k hk hn),T.new,T.next,T.steps⟩
theorem CQ.mk {fn:Func}{c:Code}{args:List Value}{a:ah}{rs:List ResultVar}{R:Value->AW->Prop}(hf:P.funcs[f]?=some fn)(hb:fn.body=some c)(hrs:fn.results.toList=rs)(ha:join args (qL (fn.ntmps-args.length))=some a)
  (hl:LQ none P c a h (I2 P rs R)):CQ P f args h R:=by
 refine⟨⟨fn,c,hf,hb⟩,fun ρ us w hus H=>?_⟩
 have ha:=eP ha
 refine eY (ro:=none) (n:=0) |>.1 (callsIn_of_wp_marks hf hb trivial ?_ rfl)
 have hlen:=hus.length
 have hr:aF ρ a ((⟨us⟩:Array Value)++Array.replicate (fn.ntmps-(⟨us⟩:Array Value).size) undef).toList:=by
  rw[ha]
  simp only[Array.toList_append,Array.toList_replicate]
  refine hus.append ?_
  rw[hlen]
  exact z7 _
 refine hl w.heap.size none _ { tmps:=_,defers:=[] } _ _ .none hr (iJ.nil _ _ _) H fun e a' h' ρ₁ act₁ w₁ k hr₁ hd₁ H₁ T₁=>?_
 have key:∀ vs,cE P a' h' rs=some vs->R (cj vs) h'->LeavesInM (fP none) 0 P fn act₁.tmps (fun e w'=>∃ v h' u ρ',e=.returned u/\R v h'/\ay ρ' v u/\aJ P ρ' h' w'/\bE ρ h w ρ' h' w') act₁.defers .returning w₁:=by
  intro vs hv hR
  rw[←hrs]at hv
  generalize act₁.defers=ds at hd₁
  clear k
  induction ds generalizing w₁ with
  | nil =>
   obtain⟨us₁,hrun,hrel⟩:=jf hr₁ H₁ hv
   exact⟨_,by rw[yh,hrun];rfl,_,h',_,ρ₁,rfl,hR,Aa hrel,H₁,T₁⟩
  | cons d ds ih =>
   obtain⟨D,h1,h2,h3,h4⟩:=hd₁.each d (List.mem_cons_self ..)
   refine⟨by simp,.inl ⟨D,_,h1,run_takeDeferred h3,?_⟩⟩
   refine ih _ (H₁.putMark h3 h4 _) (T₁.putMark h2 _) ⟨by rw[World.putObj_size];exact hd₁.base,fun d' hd'=>?_,(List.nodup_cons.1 (by simpa using hd₁.nd)).2⟩
   obtain⟨D',h1',h2',h3',h4'⟩:=hd₁.each d' (List.mem_cons_of_mem _ hd')
   refine⟨D',h1',h2',(World.putObj_heap_other fun e=>?_).trans h3',h4'⟩
   subst e
   refine (List.nodup_cons.1 (by simpa using hd₁.nd)).1 (List.mem_map.2 ⟨d',hd',?_⟩)
   rw[h1,h1']
 cases e with
 | exit id=>exact k.elim
 | normal=>obtain⟨vs,hv,hR⟩:=k;exact key vs hv hR
 | ret=>obtain⟨vs,hv,hR⟩:=k;exact key vs hv hR
end
end
end Go.Am
namespace Go.Am
open Go.MapKept
open Go.ChangeMaps (setBlock)
section
variable{P:Program}{ops rest:List Oper}{o:Oper}{a a₁:ah}{h h₁:AW}{K:ah->AW->Prop}
variable{ρ:cY}
theorem fC.find:∀ {es es':List MapEntry} {e':MapEntry},fC ρ es es'->e'∈es'->∃ e∈es,e.born=e'.born/\ay ρ e.key e'.key/\ay ρ e.val e'.val
 | [],es',e',R,hm=>by
  obtain⟨h1,_,_⟩:=R
  simp only[List.map_nil]at h1
  generalize hx:List.map (·.key) es'=ks at h1
  cases h1
  have:es'=[]:=by simpa using hx
  subst this
  cases hm
 | x::es,[],e',R,hm=>by cases hm
 | x::es,y::es',e',R,hm=>by
  obtain⟨h1,h2,h3⟩:=R
  simp only[List.map_cons,List.cons.injEq]at h1 h2 h3
  cases h1 with
  | cons hk1 h1 =>
  cases h2 with
  | cons hv1 h2 =>
  rcases List.mem_cons.1 hm with rfl|hm
  ·exact⟨x,List.mem_cons_self ..,h3.1,hk1,hv1⟩
  obtain⟨e,he,r⟩:=fC.find (show fC ρ es es' from ⟨h1,h2,h3.2⟩) hm
  exact⟨e,List.mem_cons_of_mem _ he,r⟩
variable{es:List MapEntry}
theorem fC.borns {es':List MapEntry}(R:fC ρ es es'){e:MapEntry}(he:e∈es):∃ e'∈es',e'.born=e.born:=by
 have:e.born∈es'.map (·.born):=by rw[←R.2.2];exact List.mem_map.2 ⟨e,he,rfl⟩
 obtain⟨e',h1,h2⟩:=List.mem_map.1 this
 exact⟨e',h1,h2⟩
theorem OQ.next {x:Operand}{r m since last clock:Nat}{seen:List Nat}{es:List MapEntry}(hw:aw ops o a=true)(ho:o.op=.next x false)(hx:aX a x=some (.pointer (some ⟨r,0,none⟩)))
  (hg:h.get r=some (.iter m since seen last)) (hgm:h.get m=some (.map es clock)) (hold:∀ e∈es,e.born<since) (hsl:since<=last)
  (kdone:(∀ e∈es,e.born∈seen)->∃ a₁,aH a o.dst (.tuple #[.bool false])=some a₁/\OQ P ops rest a₁ h K)
  (kstep:∀ e∈es,e.born ∉ seen->∃ a₁ h₁,aH a o.dst (.tuple #[.bool true,e.key,e.val])=some a₁/\h.put r (some (.iter m since (seen++[e.born]) clock))=some h₁/\OQ P ops rest a₁ h₁ K):OQ P ops (o::rest) a h K:=by
 intro ro ds opsA i ρ act w Q hops hd hr hdf H hQ
 obtain⟨hoi,hrest⟩:=gX hops hd
 simp only[List.length_cons,List.range'_succ,wpOpsIn,hoi]
 rw[←ci hr (by rw[hops];exact bL hw),hops,hw,if_pos rfl]
 refine⟨fun _ _=>trivial,?_⟩
 rw[Oper.semAt_eq _ _ _ (fun c hc=>by rw[ho]at hc;cases hc)]
 obtain⟨l,lm,hl,hbase,hm,hh⟩:=H.at_iter hg
 obtain⟨lm',es',hlm',hbm,R⟩:=H.at_map hgm
 rw[hm]at hlm';simp only[Option.some.injEq]at hlm';subst hlm'
 have hxr:=aP hr hx
 generalize hev:act.eval x=xv at hxr
 cases hxr with
 | ptr hl' =>
  rw[hl]at hl';simp only[Option.some.injEq]at hl';subst hl'
  have hold':∀ y∈es'.toList,y.born<since:=fun y hy=>by
   obtain⟨e,he,hb,_⟩:=R.find hy
   rw[←hb];exact hold e he
  have hex:∀ u w',(Instr.next (.pointer (some ⟨l.block,0,none⟩)) false o.type).run P w=.ok u w'->(execOp act.eval o).run P w=.ok (.value u) w':=fun u w' hrun=>by
   simp only[execOp,ho,hev,hbase,Nat.zero_add]
   simp[hrun]
  rcases run_next_at (P:=P) w o.type l.block lm.block since last ⟨seen⟩ es' clock hh hbm hold' hsl with ⟨hsz,hrun⟩|⟨e',hem,w1,hw1,hrun⟩
  ·have hall:∀ e∈es,e.born∈seen:=fun e he=>by
    obtain⟨e',he',hb⟩:=R.borns he
    have hempty:=Array.eq_empty_of_size_eq_zero hsz
    unfold leftOf at hempty
    rw[Array.filter_eq_empty_iff]at hempty
    have:=hempty (a:=e') (by simpa using he')
    simp at this
    rw[←hb];exact this
   obtain⟨a₁,ep,k⟩:=kdone hall
   rw[hex _ _ hrun]
   exact k ro _ _ _ _ _ _ Q hops hrest (fk ep hr (.tuple (.cons (.bool _) .nil))) (by rw[c7];exact hdf) H hQ
  have hmem:e'∈es'.toList/\e'.born ∉ seen:=by
   unfold leftOf at hem
   simp at hem
   exact⟨by simpa using hem.1,hem.2⟩
  obtain⟨e,he,hb,hk,hv⟩:=R.find hmem.1
  obtain⟨a₁,h₁,ep,hp,k⟩:=kstep e he (by rw[hb];exact hmem.2)
  rw[hex _ _ hrun]
  have hh1:w1.heap=w.heap:=by rcases hw1 with rfl|rfl <;> rfl
  have H1:aJ P ρ h w1:=H.draw hh1
  have hhb:w1.heap[l.block]?=some (.mapIter (some lm.block) since ⟨seen⟩ last):=by rw[hh1];exact hh
  obtain⟨A,B⟩:=H1.writeRow (o1:=.mapIter (some lm.block) since ((⟨seen⟩:Array Nat).push e'.born) clock) hg rfl hl hhb hp (by
   refine⟨hbase,lm,hm,?_⟩
   rw[(heap_set hhb).1,hb]
   simp)
  have B':bE ρ h w ρ h₁ (setBlock w1 l.block (.mapIter (some lm.block) since ((⟨seen⟩:Array Nat).push e'.born) clock)):=B.draw hh1 (by rcases hw1 with rfl|rfl <;> rfl) (by rcases hw1 with rfl|rfl <;> rfl) (by rcases hw1 with rfl|rfl <;> rfl)
  exact k ro _ _ _ _ _ _ Q hops hrest (fk ep hr (.tuple (.cons (.bool _) (.cons hk (.cons hv .nil))))) (by rw[c7];exact hdf) A (fun a' h' ρ' act' w' kk x1 x2 x3 x4=>hQ a' h' ρ' act' w' kk x1 x2 x3 (B'.trans x4))
end
end Go.Am
end
