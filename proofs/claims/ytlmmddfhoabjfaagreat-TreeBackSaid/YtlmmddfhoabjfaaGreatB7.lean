/- What the proofs lean on, part 7. -/
import Derived.Test.YtlmmddfhoabjfaaGreatB6
import Derived.WalkKit
import Derived.WalkSpells
import Derived.WalkLawsBesides
import Derived.Maps.AppendAt
import Derived.Deep.AppendLies
import Derived.Deep.Draws
import Derived.Deep.QuietTactic
import Derived.BigQuiet
import Derived.Laws.Rows
import Derived.OwnWalk
import Derived.Lib.Hide
import Derived.ProofKit
import Derived.OpenShut
import Derived.ShutString
import Derived.ChangeOld
import Derived.Deep.Slices
import Derived.Deep.Fields
import Derived.ChangeSame
import Derived.Lib.SmallJoins
import Derived.SizedLaws
import Derived.ChangeArms
set_option linter.unusedVariables false
set_option maxRecDepth 20000
section
namespace Go.Proofs.YtlmmddfhoabjfaaGreat
open Go.RowKit
theorem add_block (a:Addr) (n:Nat):(a.add n).block=a.block:=by unfold Addr.add; split <;> rfl
theorem add_add (a:Addr) (i j:Nat):(a.add i).add j=a.add (i+j):=by
 unfold Addr.add
 by_cases hi:i=0 <;> by_cases hj:j=0 <;> simp [hi,hj,Nat.add_assoc]
theorem cell_lt {w:World} {a:Addr} {v:Value} (h:w.cell? a=some v):a.block < w.heap.size:=by
 rcases Nat.lt_or_ge a.block w.heap.size with hl | hg
 ·exact hl
 ·simp [World.cell?,Array.getElem?_eq_none hg] at h
def Any:Nat->Prop:=fun _=>True
structure Sl (w:World) (S:Nat->Prop) (sz:Nat) (A:Option Addr) (n:Nat) (cs:List Value):Prop where
 len:cs.length=n * sz
 cells:0 < n->∃ ad,A=some ad/\S ad.block/\ad.block < w.heap.size/\∀ j u,cs[j]?=some u->w.cell? (ad.add j)=some u
section
variable {w w':World} {S S':Nat->Prop} {sz n:Nat} {A:Option Addr} {cs:List Value}
theorem Sl.nil_:Sl w S sz A 0 []:=⟨by simp,fun h=>absurd h (by omega)⟩
end
end Go.Proofs.YtlmmddfhoabjfaaGreat
end
section
namespace Go.Proofs.YtlmmddfhoabjfaaGreat
open Go.ChangeShapes Go.WideShapes Go.ChangeAt Go.RowKit
theorem wf_u8 {n:Int} (h:(Lit.int .u8 n).wf=true):0<=n/\n < 256:=by
 have:=bounds_u8 h
 omega
section
variable {H:Type} {enc:TypeId × Value->H} {P:Program} {W:World} {r:Reach} {b0:Nat}
theorem mem_weightsAll {e:TypeId} {l:List (DataW H)} {d:DataW H} (h:d∈l) {m:Nat} (hm:m∈d.weights P e):m∈DataW.weightsAll P e l:=by
 induction l with
 | nil=>cases h
 | cons a r ih =>
  rw [DataW.weightsAll]
  rcases List.mem_cons.1 h with rfl | h
  ·exact List.mem_append_left _ hm
  ·exact List.mem_append_right _ (ih h)
end
end Go.Proofs.YtlmmddfhoabjfaaGreat
end
section
namespace Go.Proofs.YtlmmddfhoabjfaaGreat
open Go.ChangeShapes Go.WideShapes Go.ChangeAt Go.RowKit
structure Sk where
 k:UInt8
 key:List UInt8
 val:List UInt8
def Sk.cells (t:Sk):List Value:=[.int .u8 (t.k.toNat:Nat),.string ⟨⟨t.key⟩⟩,.string ⟨⟨t.val⟩⟩]
def Sk.ok (t:Sk):Prop:=t.key.length<=140737488351232/\t.val.length<=140737488351232
theorem sks_flat (ts:List Sk):Am.allFlat (ts.flatMap Sk.cells)=true:=by
 induction ts with
 | nil=>rfl
 | cons t r ih=>simp only [List.flatMap_cons,Sk.cells,List.cons_append,List.nil_append,Am.allFlat]; exact ih
section
variable {H:Type} {enc:TypeId × Value->H} {P:Program} {W:World} {r:Reach} {b0:Nat}
theorem sk_cells {t:TypeId} {g0 g1 g2:Field} (ht:P.underlying t=some (.struct #[g0,g1,g2])) (e0:g0.offset=0/\g1.offset=1/\g2.offset=2)
  (h0:P.underlying g0.type=some (.int .u8)) (h1:P.underlying g1.type=some .string) (h2:P.underlying g2.type=some .string)
  (hc:P.cellsOf g0.type=1/\P.cellsOf g1.type=1/\P.cellsOf g2.type=1) (h3:P.cellsOf t=3)
  {w:World} {n:Nat} {cs:List Value} {x:DataW H × List MemPlace} (h:DataW.trod enc P w 0 (fun _=>true) true n t cs=some x) :
  ∃ a:Sk,((∀ m∈x.1.weights P t,m<=reachBytes)->a.ok)/\cs=a.cells:=by
 obtain ⟨xs,m,_,hxs,hlen,hxl,hg⟩:=DataW.trod_struct ht h
 rw [h3] at hlen
 match cs,hlen with
 | [c0,c1,c2],_ =>
  have q0:=hg 0 g0 rfl
  have q1:=hg 1 g1 rfl
  have q2:=hg 2 g2 rfl
  rw [e0.1,hc.1] at q0
  rw [e0.2.1,hc.2.1] at q1
  rw [e0.2.2,hc.2.2] at q2
  simp only [List.drop_zero,List.drop_succ_cons,List.take_succ_cons,List.take_zero] at q0 q1 q2
  have hx:∀ (i:Nat) (f:Field),(#[g0,g1,g2]:Array Field)[i]?=some f->∃ y,xs[i]?=some y:=by
   intro i f hf
   have hi:i < 3:=(Array.getElem?_eq_some_iff.1 hf).1
   have hl:xs.length=3:=hxl
   exact ⟨_,List.getElem?_eq_getElem (by omega)⟩
  obtain ⟨y0,hy0⟩:=hx 0 g0 rfl
  obtain ⟨y1,hy1⟩:=hx 1 g1 rfl
  obtain ⟨y2,hy2⟩:=hx 2 g2 rfl
  obtain ⟨a0,r0,s0,w0⟩:=DataW.trod_int h0 (q0.trans hy0)
  obtain ⟨a1,r1,s1,w1⟩:=DataW.trod_string h1 (q1.trans hy1)
  obtain ⟨a2,r2,s2,w2⟩:=DataW.trod_string h2 (q2.trans hy2)
  simp only [List.cons.injEq,and_true] at r0 r1 r2
  subst r0; subst r1; subst r2
  have b0:=wf_u8 w0
  have hx1:x.1=.agg [.lit (.int .u8 a0),.lit (.string a1.data.toList),.lit (.string a2.data.toList)]:=by
   rw [hxs]
   have e:xs=[y0,y1,y2]:=by
    apply List.ext_getElem?
    intro i
    match i with
    | 0=>exact hy0
    | 1=>exact hy1
    | 2=>exact hy2
    | i+3 =>
     have hl:xs.length=3:=hxl
     rw [List.getElem?_eq_none (by omega)]
     rfl
   rw [e,s0,s1,s2]
   rfl
  refine ⟨⟨UInt8.ofNat a0.toNat,a1.data.toList,a2.data.toList⟩,fun hz=>⟨?_,?_⟩,?_⟩
  ·have:=hz a1.data.toList.length (by rw [hx1]; simp [DataW.weights,DataW.weightsEach,ht])
   exact this
  ·have:=hz a2.data.toList.length (by rw [hx1]; simp [DataW.weights,DataW.weightsEach,ht])
   exact this
  simp only [Sk.cells]
  rw [show (UInt8.ofNat a0.toNat).toNat=a0.toNat by simp; omega,show ((a0.toNat:Nat):Int)=a0 by omega]
theorem sk_at (ts:List Sk):∀ (i j:Nat) (a:Sk),ts[i]?=some a->j < 3->(ts.flatMap Sk.cells)[i * 3+j]?=a.cells[j]?:=by
 induction ts with
 | nil=>intro i j a h; simp at h
 | cons b r ih =>
  intro i j a h hj
  rw [List.flatMap_cons]
  cases i with
  | zero =>
   simp only [List.getElem?_cons_zero,Option.some.injEq] at h
   subst h
   rw [Nat.zero_mul,Nat.zero_add,List.getElem?_append_left (by simp [Sk.cells]; omega)]
  | succ i =>
   rw [List.getElem?_cons_succ] at h
   rw [List.getElem?_append_right (by simp [Sk.cells]; omega)]
   rw [← ih i j a h hj]
   congr 1
   simp [Sk.cells]
   omega
theorem sk_len (ts:List Sk):(ts.flatMap Sk.cells).length=ts.length * 3:=by
 induction ts with
 | nil=>rfl
 | cons a r ih=>rw [List.flatMap_cons,List.length_append,ih]; simp [Sk.cells]; omega
theorem sk_of (f:Nat->Sk) (n j:Nat) (u:Value) (h:(((List.range n).map f).flatMap Sk.cells)[j]?=some u):j / 3 < n/\(f (j / 3)).cells[j % 3]?=some u:=by
 have hl:j < n * 3:=by
  have:=(List.getElem?_eq_some_iff.1 h).1
  rw [sk_len] at this
  simpa using this
 have hj:j / 3 < n:=by omega
 refine ⟨hj,?_⟩
 rw [← h,show j=j / 3 * 3+j % 3 by omega]
 rw [sk_at _ (j / 3) (j % 3) (f (j / 3)) (by simp [hj]) (by omega)]
 rw [show (j / 3 * 3+j % 3) / 3=j / 3 by omega,show (j / 3 * 3+j % 3) % 3=j % 3 by omega]
theorem open_sks {t e:TypeId} {g0 g1 g2:Field} (hsl:P.underlying t=some (.slice e)) (ht:P.underlying e=some (.struct #[g0,g1,g2])) (e0:g0.offset=0/\g1.offset=1/\g2.offset=2)
  (h0:P.underlying g0.type=some (.int .u8)) (h1:P.underlying g1.type=some .string) (h2:P.underlying g2.type=some .string)
  (hc:P.cellsOf g0.type=1/\P.cellsOf g1.type=1/\P.cellsOf g2.type=1) (h3:P.cellsOf e=3)
  {v:Value} {d:DataW H} {p:List MemPlace} (hv:Value.okWide P W r b0 t v) (h:DataW.Trod enc P W 0 (fun _=>true) true t v d p) (hz:∀ m∈d.weights P t,m<=reachBytes) :
  ∃ (A:Option Addr) (n c:Nat) (ts:List Sk),v=.slice A n c/\Sl W Any 3 A n (ts.flatMap Sk.cells)/\(∀ a∈ts,a.ok)/\n<=c/\c<=maxLen:=by
 obtain ⟨A,n,c,rfl⟩:=okWide_slice hsl hv
 obtain ⟨fuel,hf⟩:=h
 rcases Go.Deep.open_slice hsl hf with ⟨hcs,_⟩ | ⟨a,len,cap,m,q,D,Pl,hcs,hb,hl,hm,hmm,hx,hi⟩
 ·simp [Value.cells] at hcs
  obtain ⟨rfl,rfl,rfl⟩:=hcs
  exact ⟨none,0,0,[],rfl,Sl.nil_,by simp,Nat.le_refl _,Nat.zero_le _⟩
 ·simp [Value.cells] at hcs
  obtain ⟨rfl,rfl,rfl⟩:=hcs
  have hmc:m=c:=by simpa using hmm
  subst hmc
  have hx1:d=.slice ((List.range n).map D) ((List.range (m - n)).map fun j=>D (n+j)):=by
   injection hx
  have hth:∀ i,∃ b:Sk,(i < n->b.ok)/\(i < m->W.cells? 0 (a.add (i * 3)) 3=some b.cells):=by
   intro i
   by_cases him:i < m
   ·obtain ⟨cs',hcl,htr⟩:=hi i him
    rw [h3] at hcl
    obtain ⟨b,hbk,rfl⟩:=sk_cells ht e0 h0 h1 h2 hc h3 htr
    refine ⟨b,fun hin=>hbk fun q hq=>hz q ?_,fun _=>hcl⟩
    rw [hx1]
    simp only [DataW.weights,hsl]
    exact List.mem_cons_of_mem _ (List.mem_append_left _ (mem_weightsAll (List.mem_map.2 ⟨i,List.mem_range.2 hin,rfl⟩) hq))
   ·exact ⟨⟨0,[],[]⟩,fun _=>⟨Nat.zero_le _,Nat.zero_le _⟩,fun h=>absurd h him⟩
  let f:Nat->Sk:=fun i=>Classical.choose (hth i)
  have hf1:∀ i,i < n->(f i).ok:=fun i=>(Classical.choose_spec (hth i)).1
  have hf2:∀ i,i < m->W.cells? 0 (a.add (i * 3)) 3=some (f i).cells:=fun i=>(Classical.choose_spec (hth i)).2
  have key:∀ j u,(((List.range n).map f).flatMap Sk.cells)[j]?=some u->W.cell? (a.add j)=some u:=by
   intro j u hu
   obtain ⟨hj,hcell⟩:=sk_of f n j u hu
   obtain ⟨_,hcl,hat⟩:=World.cells?_some (hf2 (j / 3) (by omega))
   have:=hat (j % 3) (by omega)
   rw [add_add,show j / 3 * 3+j % 3=j by omega] at this
   exact this.trans hcell
  refine ⟨some a,n,m,(List.range n).map f,rfl,⟨by rw [sk_len]; simp,fun hn=>⟨a,rfl,trivial,?_,key⟩⟩,?_,hl,hm⟩
  ·have:=key 0 (.int .u8 ((f 0).k.toNat:Nat)) (by
    have:=sk_at ((List.range n).map f) 0 0 (f 0) (by simp [hn]) (by omega)
    exact this)
   have:=cell_lt this
   rwa [add_block] at this
  ·intro b hb
   obtain ⟨i,hir,rfl⟩:=List.mem_map.1 hb
   exact hf1 i (List.mem_range.1 hir)
end
end Go.Proofs.YtlmmddfhoabjfaaGreat
end
section
namespace Go.Am
theorem e_nePair {P:Program} {o:Oper} {a:Slots} {x y:Operand} {t z:TypeId} {v:Value} {vs:List Value} (hv:v=.agg ⟨vs⟩) (ho:o.op=.binOp .neq t x y z) (hx:aev a x=some v) (hy:aev a y=some v) (he:eqB P 100 t v v=some true) (hg:P.eqGuardType P.depth t=false) :
  ∀ h,opB P a o h=some (.val (.bool false) h):=by
 intro h
 subst hv
 simp only [opB,ho,hx,hy,eqOk,binB,he,hg,ret]
 rfl
end Go.Am
namespace Go.Proofs.YtlmmddfhoabjfaaGreat
open Go.Am
theorem long_ct {L:RL} {v:Value} {m:Nat} {ts:List Sk} (hl:SV 3 L v m (ts.flatMap Sk.cells)) (hok:∀ t∈ts,t.ok) (hm:m<=9223372036854775807) :
  CS Tryz.prog 27 [v] L fun u L'=>∃ b:Bool,u=.bool b/\L'=L/\(b=false->m<=800):=by
 have hlen:ts.length=m:=by have:=hl.len; rw [sk_len] at this; omega
 refine CS.mk (fn:=Tryz.f27) rfl rfl rfl rfl ?_
 repeat refine xQ ?_
 refine xG rfl ?_
 refine xP rfl rh rfl ?_
 refine xN ?_
 repeat refine xQ ?_
 refine xG rfl ?_
 refine xP rfl rh rfl ?_
 refine xN ?_
 repeat refine xQ ?_
 refine xG rfl ?_
 refine xP rfl rh rfl ?_
 refine xN ?_
 repeat refine xQ ?_
 refine LS.mid [3] (fun a' L'=>∃ n:Nat,n<=400000000000000/\(n < 40000->m<=800)/\L'=L/\a'=[jn,jn,jn,.int .i64 (n:Nat),jn,jn,jn,jn,jn,jn,jn,jn,jn,jn,jn,jn,jn,jn,jn,jn,jn,jn,jn,jn,jn,jn,jn,jn,jn,jn,jn,jn,jn]) ?_ ?_
 ·refine LS.block ?_
  refine LS.loopJ [0,3,4] (fun z a' L'=>∃ (i n:Nat),z=m - i/\i<=m/\50 * i<=n/\n<=400000000000000/\L'=L/\a'=[v,jn,jn,.int .i64 (n:Nat),.int .i64 (i:Nat),jn,jn,jn,jn,jn,jn,jn,jn,jn,jn,jn,jn,jn,jn,jn,jn,jn,jn,jn,jn,jn,jn,jn,jn,jn,jn,jn,jn]) (n:=m) rfl ⟨0,0,rfl,by omega,by omega,by omega,rfl,rfl⟩ ?_
  rintro z a' L' ⟨i,n,rfl,hi,hn,hn2,hLL,rfl⟩
  subst hLL
  by_cases him:i < m
  case neg =>
   have hq:(!ileB (m:Int) (i:Nat))=false:=by rw [ileB_eq]; simp; omega
   repeat refine xQ ?_
   refine xG rfl ?_
   iterate 2 refine xP rfl rh rfl ?_
   refine xP rfl (e_len hl rfl rfl rfl rfl rfl) rfl ?_
   refine xP rfl (e_ib rh (hq)) rfl ?_
   refine xP rfl rh rfl ?_
   iterate 2 refine xK rfl rfl ?_
   refine xP rfl rh rfl ?_
   refine xN ?_
   repeat refine xQ ?_
   refine xC rfl (fun hc=>?_) (fun hc=>?_)
   ·cases hc
   refine LS.exit ?_
   exact ⟨n,hn2,fun h=>by omega,rfl,rfl⟩
  have hq:(!ileB (m:Int) (i:Nat))=true:=by rw [ileB_eq]; simp; omega
  by_cases hn4:n < 40000
  case neg =>
   have hq2:(!ileB (40000:Int) (n:Nat))=false:=by rw [ileB_eq]; simp; omega
   repeat refine xQ ?_
   refine xG rfl ?_
   iterate 2 refine xP rfl rh rfl ?_
   refine xP rfl (e_len hl rfl rfl rfl rfl rfl) rfl ?_
   refine xP rfl (e_ib rh (hq)) rfl ?_
   iterate 2 refine xP rfl rh rfl ?_
   refine xP rfl (e_ib rh (hq2)) rfl ?_
   refine xP rfl rh rfl ?_
   refine xN ?_
   repeat refine xQ ?_
   refine xC rfl (fun hc=>?_) (fun hc=>?_)
   ·cases hc
   refine LS.exit ?_
   exact ⟨n,hn2,fun h=>by omega,rfl,rfl⟩
  have hq2:(!ileB (40000:Int) (n:Nat))=true:=by rw [ileB_eq]; simp; omega
  obtain ⟨t,ht⟩:∃ t,ts[i]?=some t:=⟨_,List.getElem?_eq_getElem (by omega)⟩
  obtain ⟨hk1,hk2⟩:=hok t (List.mem_of_getElem? ht)
  repeat refine xQ ?_
  refine xG rfl ?_
  iterate 2 refine xP rfl rh rfl ?_
  refine xP rfl (e_len hl rfl rfl rfl rfl rfl) rfl ?_
  refine xP rfl (e_ib rh (hq)) rfl ?_
  iterate 2 refine xP rfl rh rfl ?_
  refine xP rfl (e_ib rh (hq2)) rfl ?_
  refine xP rfl rh rfl ?_
  refine xN ?_
  repeat refine xQ ?_
  refine xC rfl (fun hc=>?_) (fun hc=>?_)
  ·refine LS.skip ?_
   repeat refine xQ ?_
   refine LS.block ?_
   repeat refine xQ ?_
   refine LS.drawn noGo mixed [(0,false),(1,false),(2,false),(3,false),(4,false),(5,false),(6,false),(7,false),(8,false),(9,false),(10,false),(11,false),(12,false),(13,false),(14,false),(15,false),(16,false)] rfl rfl (by kernel_rfl) ?_
   refine xD rfl rfl rh rfl ?_
   refine xD rfl rfl (e_addN (n:=50) rfl rfl rfl (in_i64 (by omega) (by omega))) rfl ?_
   iterate 2 refine xD rfl rfl rh rfl ?_
   refine ODS.at (j:=i) hl him rfl rfl rfl rfl rfl rfl rfl (fun r0 o0 row0 cs0 m0 c0 g0 k0=>⟨_,rfl,?_⟩)
   refine xD rfl rfl rh rfl ?_
   refine xE rfl rfl (e_loadm m0 c0 rfl rfl (part_one rfl (g0 1 _ (by omega) (sk_at ts i 1 t ht (by omega))))) rfl ?_
   refine xD rfl rfl rh rfl ?_
   refine xD rfl rfl (e_addN (n:=t.key.length) rfl rfl rfl (in_i64 (by omega) (by omega))) rfl ?_
   iterate 2 refine xD rfl rfl rh rfl ?_
   refine ODS.at (j:=i) hl him rfl rfl rfl rfl rfl rfl rfl (fun r1 o1 row1 cs1 m1 c1 g1 k1=>⟨_,rfl,?_⟩)
   refine xD rfl rfl rh rfl ?_
   refine xE rfl rfl (e_loadm m1 c1 rfl rfl (part_one rfl (g1 2 _ (by omega) (sk_at ts i 2 t ht (by omega))))) rfl ?_
   refine xD rfl rfl rh rfl ?_
   refine xD rfl rfl (e_addN (n:=t.val.length) rfl rfl rfl (in_i64 (by omega) (by omega))) rfl ?_
   refine xD rfl rfl rh rfl ?_
   refine xM ?_
   repeat refine xQ ?_
   refine xG rfl ?_
   refine xP rfl rh rfl ?_
   refine xP rfl (e_addN (n:=1) rfl rfl rfl (in_i64 (by omega) (by omega))) rfl ?_
   refine xP rfl rh rfl ?_
   refine xN ?_
   exact ⟨m - (i+1),by omega,i+1,n+50+t.key.length+t.val.length,rfl,by omega,by omega,by omega,rfl,rfl⟩
  ·cases hc
 rintro a' L' ⟨n,h1,h2,hLL,rfl⟩
 subst hLL
 by_cases hn4:n < 40000
 ·have hq:ileB (40000:Int) (n:Nat)=false:=by rw [ileB_eq]; simp; omega
  repeat refine xQ ?_
  refine xG rfl ?_
  refine xP rfl rh rfl ?_
  refine xP rfl (e_ib rh (hq)) rfl ?_
  refine xP rfl rh rfl ?_
  refine xN ?_
  refine xT ⟨_,fun _ _=>rfl,?_⟩
  exact ⟨false,rfl,rfl,fun _=>h2 hn4⟩
 ·have hq:ileB (40000:Int) (n:Nat)=true:=ileB_iff.2 (by omega)
  repeat refine xQ ?_
  refine xG rfl ?_
  refine xP rfl rh rfl ?_
  refine xP rfl (e_ib rh (hq)) rfl ?_
  refine xP rfl rh rfl ?_
  refine xN ?_
  refine xT ⟨_,fun _ _=>rfl,?_⟩
  exact ⟨true,rfl,rfl,fun h=>by cases h⟩
theorem ne_same (n:Int):(!ieqB n n)=false:=by rw [ieqB_eq]; simp
theorem ints_get {l:List Nat} {i:Nat} (h:i < l.length):(ints l)[i]?=some (.int .i64 (l[i]:Nat)):=by simp [ints,h]
theorem Ints_ct {L:RL} {a b:Value} {xs:List Nat} (ha:SV 1 L a xs.length (ints xs)) (hb:SV 1 L b xs.length (ints xs)) (hm:xs.length<=1000000):CS Tryz.prog 33 [a,b] L fun v L'=>v=.bool true/\L'=L:=by
 refine CS.mk (fn:=Tryz.f33) rfl rfl rfl rfl ?_
 repeat refine xQ ?_
 refine xG rfl ?_
 refine xP rfl rh rfl ?_
 refine xN ?_
 repeat refine xQ ?_
 refine xG rfl ?_
 refine xP rfl rh rfl ?_
 refine xP rfl (e_len ha rfl rfl rfl rfl rfl) rfl ?_
 refine xP rfl rh rfl ?_
 refine xP rfl (e_len hb rfl rfl rfl rfl rfl) rfl ?_
 refine xP rfl (e_ib rh ((ne_same _))) rfl ?_
 refine xN ?_
 refine xC rfl (fun hc=>by cases hc) (fun hc=>?_)
 refine LS.skip ?_
 repeat refine xQ ?_
 refine xG rfl ?_
 refine xP rfl rh rfl ?_
 refine xN ?_
 repeat refine xQ ?_
 refine LS.block ?_
 refine LS.loopJ [0,1,5] (fun q s L'=>∃ i,q=xs.length - i/\i<=xs.length/\L'=L/\s=[a,b,jn,jn,jn,.int .i64 (i:Nat),jn,jn,jn,jn,jn,jn,jn,jn,jn,jn,jn,jn,jn,jn,jn,jn,jn,jn,jn,jn]) (n:=xs.length) rfl ⟨0,rfl,by omega,rfl,rfl⟩ ?_
 rintro q s L' ⟨i,rfl,hi,hLL,rfl⟩
 subst hLL
 repeat refine xQ ?_
 refine xG rfl ?_
 iterate 2 refine xP rfl rh rfl ?_
 refine xP rfl (e_len ha rfl rfl rfl rfl rfl) rfl ?_
 refine xP rfl rh rfl ?_
 refine xN ?_
 repeat refine xQ ?_
 refine xC rfl (fun hc=>?_) (fun hc=>?_)
 ·have hc:=lt_of hc
  have hil:i < xs.length:=by omega
  refine LS.skip ?_
  repeat refine xQ ?_
  refine LS.block ?_
  repeat refine xQ ?_
  refine LS.drawn noGo mixed [(0,false),(1,false),(2,false),(3,false),(4,false),(5,false),(6,false),(7,false),(8,false)] rfl rfl (by kernel_rfl) ?_
  iterate 2 refine xD rfl rfl rh rfl ?_
  refine ODS.at1 (j:=i) ha (ints_get hil) rfl rfl rfl rfl rfl rfl rfl (fun r0 o0 row0 cs0 m0 c0 g0=>?_)
  refine ⟨_,rfl,?_⟩
  refine xE rfl rfl (e_loadm m0 c0 rfl rfl (part_one rfl g0)) rfl ?_
  iterate 2 refine xD rfl rfl rh rfl ?_
  refine ODS.at1 (j:=i) hb (ints_get hil) rfl rfl rfl rfl rfl rfl rfl (fun r1 o1 row1 cs1 m1 c1 g1=>?_)
  refine ⟨_,rfl,?_⟩
  refine xE rfl rfl (e_loadm m1 c1 rfl rfl (part_one rfl g1)) rfl ?_
  refine xD rfl rfl (e_ib rh ((ne_same _))) rfl ?_
  refine xM ?_
  refine xC rfl (fun hc=>by cases hc) (fun hc=>?_)
  refine LS.skip ?_
  repeat refine xQ ?_
  refine xG rfl ?_
  refine xP rfl rh rfl ?_
  refine xP rfl (e_add rfl rfl rfl (in_i64 (by omega) (by omega))) rfl ?_
  refine xP rfl rh rfl ?_
  refine xN ?_
  exact ⟨xs.length - (i+1),by omega,i+1,rfl,by omega,rfl,rfl⟩
 ·refine LS.exit ?_
  repeat refine xQ ?_
  refine xG rfl ?_
  refine xP rfl rh rfl ?_
  refine xN ?_
  refine xT ⟨_,fun _ _=>rfl,?_⟩
  exact ⟨rfl,rfl⟩
theorem prC_get:∀ {P:List Pr} {i:Nat} {p:Pr},P[i]?=some p->(prC P)[i * 2+0]?=some (txt p.1)/\(prC P)[i * 2+1]?=some (txt p.2)
 | [],i,p,h=>by simp at h
 | q::P,0,p,h=>by simp at h; subst h; exact ⟨rfl,rfl⟩
 | q::P,i+1,p,h=>by
  have:=prC_get (P:=P) (i:=i) (p:=p) (by simpa using h)
  have e:prC (q::P)=txt q.1::txt q.2::prC P:=rfl
  rw [e,show (i+1) * 2+0=(i * 2+0)+1+1 by omega,show (i+1) * 2+1=(i * 2+1)+1+1 by omega,List.getElem?_cons_succ,List.getElem?_cons_succ,List.getElem?_cons_succ,List.getElem?_cons_succ]
  exact this
theorem prC_cut {P:List Pr} {i:Nat} {p:Pr} (h:P[i]?=some p):cut (prC P) (i * 2) 2=some [txt p.1,txt p.2]:=by
 have hi:i < P.length:=(List.getElem?_eq_some_iff.1 h).1
 have hl:=prC_len P
 obtain ⟨h0,h1⟩:=prC_get h
 rw [cut_of (by omega)]
 congr 1
 apply List.ext_getElem?
 intro j
 rw [List.getElem?_take]
 split
 ·rename_i hj
  rw [List.getElem?_drop]
  match j,hj with
  | 0,_=>exact h0
  | 1,_=>exact h1
 ·rename_i hj
  rw [List.getElem?_eq_none (by simp; omega)]
set_option maxHeartbeats 1000000 in
theorem pairsL_ct {L:RL} {v:Value} {P:List Pr} (hv:SV 2 L v P.length (prC P)) (hP:P.length<=100000000) :
  CS Tryz.prog 36 [v] L fun u L'=>∃ Y,L'=Y++L/\GV 100 2 [] u P.length (prC P) Y:=by
 refine CS.mk (fn:=Tryz.f36) rfl rfl rfl rfl ?_
 repeat refine xQ ?_
 refine xG rfl ?_
 refine xP rfl rh rfl ?_
 refine xN ?_
 repeat refine xQ ?_
 refine xG rfl ?_
 refine xP rfl rh rfl ?_
 refine xN ?_
 repeat refine xQ ?_
 refine xG rfl ?_
 refine xP rfl rh rfl ?_
 refine xN ?_
 repeat refine xQ ?_
 refine LS.mid [3] (fun a' L'=>∃ Y w,L'=Y++L/\GV 100 2 [] w P.length (prC P) Y/\a'=[jn,jn,jn,w,jn,jn,jn,jn,jn,jn,jn,jn,jn,jn,jn,jn,jn,jn,jn,jn,jn,jn,jn,jn,jn,jn]) ?_ ?_
 ·refine LS.block ?_
  refine LS.loopJ [0,3,4] (fun z a' L'=>∃ (i:Nat) (Y:RL) (w:Value),z=P.length - i/\i<=P.length/\L'=Y++L/\GV 100 2 [] w (P.take i).length (prC (P.take i)) Y/\a'=[v,jn,jn,w,.int .i64 (i:Nat),jn,jn,jn,jn,jn,jn,jn,jn,jn,jn,jn,jn,jn,jn,jn,jn,jn,jn,jn,jn,jn]) (n:=P.length) rfl ⟨0,[],_,rfl,by omega,rfl,.inl ⟨rfl,rfl,rfl,rfl⟩,rfl⟩ ?_
  rintro z a' L' ⟨i,Y,w,rfl,hi,rfl,hw,rfl⟩
  have hv':SV 2 (Y++L) v P.length (prC P):=hv.mono fun q hq=>List.mem_append_right Y hq
  by_cases hip:i < P.length
  ·have hb:(!ileB ((P.length:Nat):Int) ((i:Nat):Int))=true:=by rw [ileB_eq,decide_eq_false (by omega)]; rfl
   obtain ⟨p,hp⟩:∃ p,P[i]?=some p:=⟨_,List.getElem?_eq_getElem hip⟩
   obtain ⟨g1,g2⟩:=prC_get hp
   repeat refine xQ ?_
   refine xG rfl ?_
   iterate 2 refine xP rfl rh rfl ?_
   refine xP rfl (e_len hv' rfl rfl rfl rfl rfl) rfl ?_
   refine xP rfl (e_ib rh (hb)) rfl ?_
   refine xN ?_
   repeat refine xQ ?_
   refine xC rfl (fun hc=>?_) (fun hc=>?_)
   ·refine LS.skip ?_
    repeat refine xQ ?_
    refine LS.block ?_
    repeat refine xQ ?_
    refine LS.drawn noGo mixed [(0,false),(1,false),(2,false),(3,false),(4,false),(5,false),(6,false),(7,false),(8,false),(9,false),(10,false),(11,false),(12,true),(13,true),(14,false)] rfl rfl (by kernel_rfl) ?_
    iterate 3 refine xD rfl rfl rh rfl ?_
    refine ODS.at (j:=i) hv' hip rfl rfl rfl rfl rfl rfl rfl (fun r0 o0 row0 cs0 m0 c0 g0 k0=>⟨_,rfl,?_⟩)
    refine xD rfl rfl rh rfl ?_
    refine xE rfl rfl (e_loadm m0 c0 rfl rfl (part_one rfl (g0 0 _ (by omega) g1))) rfl ?_
    iterate 2 refine xD rfl rfl rh rfl ?_
    refine ODS.at (j:=i) hv' hip rfl rfl rfl rfl rfl rfl rfl (fun r1 o1 row1 cs1 m1 c1 g3 k1=>⟨_,rfl,?_⟩)
    refine xD rfl rfl rh rfl ?_
    refine xE rfl rfl (e_loadm m1 c1 rfl rfl (part_one rfl (g3 1 _ (by omega) g2))) rfl ?_
    refine xD rfl rfl rh rfl ?_
    refine ODS.fresh rfl rfl (e_new (fun _=>rfl) rfl) (fun _=>rfl) (fun rv=>(by repeat (first | exact Keep.nil | refine Keep.gone rfl ?_))) (fun rz=>?_)
    refine ODS.turns rfl rfl (e_appendGA [(rz,.cells 100 [txt p.1,txt p.2])] L (e:=100) (sz:=2) (bts:=32) (m:=1) (new:=prC [p]) hw (SV.row (sz:=2) (n:=1) (List.mem_cons_self ..) rfl) rfl rfl rfl rfl (by simp only [List.length_take]; omega) (by simp only [List.length_take]; omega)) (fun w2 L₁ hR=>?_)
    obtain ⟨Y2,h2,rfl⟩:=hR
    refine ⟨_,rfl,(by repeat (first | exact Keep.nil | refine Keep.gone rfl ?_)),?_⟩
    refine ODS.sub (Sub.sums2 ([(rz,.cells 100 [txt p.1,txt p.2])]) (A:=Y2++L) (B:=Y2++([(rz,.cells 100 [txt p.1,txt p.2])]++L)) fun f=>by simp []<;>omega) ?_
    refine xD rfl rfl rh rfl ?_
    refine xM ?_
    repeat refine xQ ?_
    refine xG rfl ?_
    refine xP rfl rh rfl ?_
    refine xP rfl (e_addN (n:=1) rfl rfl rfl (in_i64 (by omega) (by omega))) rfl ?_
    refine xP rfl rh rfl ?_
    refine xN ?_
    have htk:P.take (i+1)=P.take i++[p]:=by rw [List.take_add_one,hp]; rfl
    refine ⟨P.length - (i+1),by omega,i+1,Y2,w2,rfl,by omega,rfl,?_,rfl⟩
    rw [htk,List.length_append,prC_app]
    exact h2
   ·cases hc
  ·have hb:(!ileB ((P.length:Nat):Int) ((i:Nat):Int))=false:=by rw [ileB_eq,decide_eq_true (by omega)]; rfl
   repeat refine xQ ?_
   refine xG rfl ?_
   iterate 2 refine xP rfl rh rfl ?_
   refine xP rfl (e_len hv' rfl rfl rfl rfl rfl) rfl ?_
   refine xP rfl (e_ib rh (hb)) rfl ?_
   refine xN ?_
   repeat refine xQ ?_
   refine xC rfl (fun hc=>?_) (fun hc=>?_)
   ·cases hc
   refine LS.exit ?_
   have htk:P.take i=P:=List.take_of_length_le (by omega)
   rw [htk] at hw
   exact ⟨Y,w,rfl,hw,rfl⟩
 rintro a' L' ⟨Y,w,rfl,hw,rfl⟩
 repeat refine xQ ?_
 refine xG rfl ?_
 iterate 2 refine xP rfl rh rfl ?_
 refine xN ?_
 refine xT ⟨_,fun _ _=>rfl,?_⟩
 exact ⟨Y,rfl,hw⟩
theorem pair_eq (k v:Tx):eqB Tryz.prog 100 100 (.agg ⟨[txt k,txt v]⟩) (.agg ⟨[txt k,txt v]⟩)=some true:=by
 have e:eqB Tryz.prog 100 100 (.agg ⟨[txt k,txt v]⟩) (.agg ⟨[txt k,txt v]⟩)=(match some (bytesEq k k) with | some true=>(match some (bytesEq v v) with | some true=>some true | r=>r) | r=>r):=by kernel_rfl
 rw [e,beqT,beqT,decide_eq_true rfl,decide_eq_true rfl]
theorem Same_ct {L:RL} {a b:Value} {P:List Pr} (ha:SV 2 L a P.length (prC P)) (hb:SV 2 L b P.length (prC P)) (hm:P.length<=100000000):CS Tryz.prog 35 [a,b] L fun u L'=>u=.bool true/\L'=L:=by
 refine CS.mk (fn:=Tryz.f35) rfl rfl rfl rfl ?_
 repeat refine xQ ?_
 refine xG rfl ?_
 refine xP rfl rh rfl ?_
 refine xN ?_
 repeat refine xQ ?_
 refine xG rfl ?_
 refine xP rfl rh rfl ?_
 refine xP rfl (e_len ha rfl rfl rfl rfl rfl) rfl ?_
 refine xP rfl rh rfl ?_
 refine xP rfl (e_len hb rfl rfl rfl rfl rfl) rfl ?_
 refine xP rfl (e_ib rh ((ne_same _))) rfl ?_
 refine xN ?_
 repeat refine xQ ?_
 refine xC rfl (fun hc=>?_) (fun hc=>?_)
 ·cases hc
 refine LS.skip ?_
 repeat refine xQ ?_
 refine xG rfl ?_
 refine xP rfl rh rfl ?_
 refine xN ?_
 repeat refine xQ ?_
 refine LS.block ?_
 refine LS.loopJ [0,1,5] (fun q s L'=>∃ i,q=P.length - i/\i<=P.length/\L'=L/\s=[a,b,jn,jn,jn,.int .i64 (i:Nat),jn,jn,jn,jn,jn,jn,jn,jn,jn,jn,jn,jn,jn,jn,jn,jn,jn,jn,jn,jn]) (n:=P.length) rfl ⟨0,rfl,by omega,rfl,rfl⟩ ?_
 rintro q s L' ⟨i,rfl,hi,hLL,rfl⟩
 subst hLL
 repeat refine xQ ?_
 refine xG rfl ?_
 iterate 2 refine xP rfl rh rfl ?_
 refine xP rfl (e_len ha rfl rfl rfl rfl rfl) rfl ?_
 refine xP rfl rh rfl ?_
 refine xN ?_
 repeat refine xQ ?_
 refine xC rfl (fun hc=>?_) (fun hc=>?_)
 ·have hc:=lt_of hc
  have hil:i < P.length:=by omega
  obtain ⟨p,hp⟩:∃ p,P[i]?=some p:=⟨_,List.getElem?_eq_getElem hil⟩
  refine LS.skip ?_
  repeat refine xQ ?_
  refine LS.block ?_
  repeat refine xQ ?_
  refine LS.drawn noGo mixed [(0,false),(1,false),(2,false),(3,false),(4,false),(5,false),(6,false),(7,false),(8,false)] rfl rfl (by kernel_rfl) ?_
  iterate 2 refine xD rfl rfl rh rfl ?_
  refine ODS.at (j:=i) ha hil rfl rfl rfl rfl rfl rfl rfl (fun r0 o0 row0 cs0 m0 c0 g0 k0=>⟨_,rfl,?_⟩)
  refine xE rfl rfl (e_loadm m0 c0 rfl rfl (part_agg rfl rfl (k0 _ (prC_cut hp)))) rfl ?_
  iterate 2 refine xD rfl rfl rh rfl ?_
  refine ODS.at (j:=i) hb hil rfl rfl rfl rfl rfl rfl rfl (fun r1 o1 row1 cs1 m1 c1 g1 k1=>⟨_,rfl,?_⟩)
  refine xE rfl rfl (e_loadm m1 c1 rfl rfl (part_agg rfl rfl (k1 _ (prC_cut hp)))) rfl ?_
  refine xD rfl rfl (e_nePair rfl rfl rfl rfl (pair_eq p.1 p.2) (by kernel_rfl)) rfl ?_
  refine xM ?_
  repeat refine xQ ?_
  refine xC rfl (fun hc2=>?_) (fun hc2=>?_)
  ·cases hc2
  refine LS.skip ?_
  repeat refine xQ ?_
  refine xG rfl ?_
  refine xP rfl rh rfl ?_
  refine xP rfl (e_add rfl rfl rfl (in_i64 (by omega) (by omega))) rfl ?_
  refine xP rfl rh rfl ?_
  refine xN ?_
  exact ⟨P.length - (i+1),by omega,i+1,rfl,by omega,rfl,rfl⟩
 ·refine LS.exit ?_
  repeat refine xQ ?_
  refine xG rfl ?_
  refine xP rfl rh rfl ?_
  refine xN ?_
  refine xT ⟨_,fun _ _=>rfl,?_⟩
  exact ⟨rfl,rfl⟩
end Go.Proofs.YtlmmddfhoabjfaaGreat
end
section
namespace Go.Proofs.YtlmmddfhoabjfaaGreat
open Go.Am
def ImgV (M:RL) (N:Nat) (vs:List Value) (imgs:List Tx):Prop:=imgs.length=N/\∀ i,i < N->∃ w,vs[i]?=some w/\BV M w (imgs.getD i [])
theorem ImgV.mono {M M':RL} {N:Nat} {vs:List Value} {imgs:List Tx} (h:ImgV M N vs imgs) (hm:∀ p,p∈M->p∈M'):ImgV M' N vs imgs :=
 ⟨h.1,fun i hi=>let ⟨w,h1,h2⟩:=h.2 i hi; ⟨w,h1,h2.mono hm⟩⟩
theorem ImgV.r {M I F:RL} {N:Nat} {v:Value} {vs:List Value} {imgs:List Tx} (h:ImgV M N vs imgs) (g:GV 30 1 [] v N vs I) (hI:∀ p,p∈I->p∈F) (hM:∀ p,p∈M->p∈F):ImgR F v imgs:=by
 obtain ⟨h1,h2⟩:=h
 subst h1
 exact ⟨vs,g.sv.mono hI,fun i hi=>let ⟨w,h3,h4⟩:=h2 i hi; ⟨w,h3,h4.mono hM⟩⟩
theorem ImgV.put {M:RL} {N q:Nat} {vs:List Value} {imgs:List Tx} {w:Value} {b:Tx} (h:ImgV M N vs imgs) (hl:vs.length=N) (hq:q < N) (hw:BV M w b):ImgV M N (vs.set q w) (imgs.set q b):=by
 refine ⟨by rw [List.length_set]; exact h.1,fun i hi=>?_⟩
 by_cases he:i=q
 ·subst he
  refine ⟨w,by rw [List.getElem?_set_self (by omega)],?_⟩
  rw [List.getD_eq_getElem?_getD,List.getElem?_set_self (by rw [h.1]; exact hi)]
  exact hw
 ·obtain ⟨u,h1,h2⟩:=h.2 i hi
  refine ⟨u,by rw [List.getElem?_set_ne (fun hh=>he hh.symm)]; exact h1,?_⟩
  rw [List.getD_eq_getElem?_getD,List.getElem?_set_ne (fun hh=>he hh.symm),← List.getD_eq_getElem?_getD]
  exact h2
abbrev zpg:Tx:=List.replicate 256 0
set_option maxHeartbeats 1000000 in
theorem blankP_ct {L:RL} (n:Nat) (hn:n<=1000):CS Tryz.prog 11 [.int .i64 (n:Nat)] L fun u L'=>∃ vs I M,L'=I++(M++L)/\GV 30 1 [] u n vs I/\ImgV M n vs (List.replicate n zpg):=by
 refine CS.mk (fn:=Tryz.f11) rfl rfl rfl rfl ?_
 repeat refine xQ ?_
 refine xG rfl ?_
 refine xP rfl rh rfl ?_
 refine xN ?_
 repeat refine xQ ?_
 refine xG rfl ?_
 refine xP rfl rh rfl ?_
 refine xN ?_
 repeat refine xQ ?_
 refine xG rfl ?_
 refine xP rfl rh rfl ?_
 refine xN ?_
 repeat refine xQ ?_
 refine LS.mid [3] (fun a' L'=>∃ w vs I M,L'=I++(M++L)/\GV 30 1 [] w n vs I/\ImgV M n vs (List.replicate n zpg)/\a'=[jn,jn,jn,w,jn,jn,jn,jn,jn,jn,jn,jn,jn,jn,jn]) ?_ ?_
 ·refine LS.block ?_
  refine LS.loopJ [0,3,4] (fun z a' L'=>∃ (i:Nat) (w:Value) (vs:List Value) (I M:RL),z=n - i/\i<=n/\L'=I++(M++L)/\GV 30 1 [] w i vs I/\ImgV M i vs (List.replicate i zpg)/\a'=[.int .i64 (n:Nat),jn,jn,w,.int .i64 (i:Nat),jn,jn,jn,jn,jn,jn,jn,jn,jn,jn]) (n:=n) rfl ⟨0,_,[],[],[],rfl,by omega,rfl,.inl ⟨rfl,rfl,rfl,rfl⟩,⟨rfl,fun i hi=>by omega⟩,rfl⟩ ?_
  rintro z a' L' ⟨i,w,vs,I,M,rfl,hi,rfl,hw,him,rfl⟩
  by_cases hin:i < n
  ·have hb:(!ileB ((n:Nat):Int) ((i:Nat):Int))=true:=by rw [ileB_eq,decide_eq_false (by omega)]; rfl
   have hvl:vs.length=i:=by have:=hw.sv.len; omega
   repeat refine xQ ?_
   refine xG rfl ?_
   iterate 2 refine xP rfl rh rfl ?_
   refine xP rfl (e_ib rh (hb)) rfl ?_
   refine xN ?_
   repeat refine xQ ?_
   refine xC rfl (fun hc=>?_) (fun hc=>?_)
   ·refine LS.skip ?_
    repeat refine xQ ?_
    refine LS.block ?_
    repeat refine xQ ?_
    refine xG rfl ?_
    refine xP rfl rh rfl ?_
    refine OS.fresh rfl (e_make (l:=256) (c:=256) (e:=5) (sz:=1) (bts:=1) (zs:=[.int .u8 0]) rfl rfl rfl rfl (by omega) (by omega) (by omega)) (fun _=>rfl) (fun r=>?_)
    refine OS.fresh rfl (e_new (fun _=>rfl) rfl) (fun _=>rfl) (fun rz=>?_)
    refine OS.turns rfl (e_appendGA [(rz,.cells 30 [.slice (some ⟨r,0,none⟩) 256 256]),(r,.cells 5 (repL [.int .u8 0] 256))] (M++L) (e:=30) (sz:=1) (bts:=24) (m:=1) (new:=[.slice (some ⟨r,0,none⟩) 256 256]) hw (SV.row (sz:=1) (n:=1) (List.mem_cons_self ..) rfl) rfl rfl rfl rfl (by omega) (by omega)) (fun w2 L₁ hR=>?_)
    obtain ⟨I2,h2,rfl⟩:=hR
    refine ⟨_,rfl,?_⟩
    refine OS.sub (Sub.sums2 ([(rz,.cells 30 [.slice (some ⟨r,0,none⟩) 256 256])]) (A:=I2++(((r,.cells 5 (repL [.int .u8 0] 256))::M)++L)) (B:=I2++([(rz,.cells 30 [.slice (some ⟨r,0,none⟩) 256 256]),(r,.cells 5 (repL [.int .u8 0] 256))]++(M++L))) fun f=>by simp []<;>omega) ?_
    refine xP rfl rh rfl ?_
    refine xN ?_
    repeat refine xQ ?_
    refine xG rfl ?_
    refine xP rfl rh rfl ?_
    refine xP rfl (e_addN (n:=1) rfl rfl rfl (in_i64 (by omega) (by omega))) rfl ?_
    refine xP rfl rh rfl ?_
    refine xN ?_
    refine ⟨n - (i+1),by omega,i+1,w2,_,I2,_,rfl,by omega,rfl,h2,⟨by simp,fun j hj=>?_⟩,rfl⟩
    by_cases hji:j < i
    ·obtain ⟨u,h3,h4⟩:=him.2 j hji
     refine ⟨u,by rw [List.getElem?_append_left (by omega)]; exact h3,?_⟩
     rw [show (List.replicate (i+1) zpg).getD j []=(List.replicate i zpg).getD j [] by simp [List.getD_eq_getElem?_getD,hji,show j < i+1 by omega]]
     exact h4.mono fun p hp=>List.mem_cons_of_mem _ hp
    ·have hji2:j=i:=by omega
     subst hji2
     refine ⟨_,by rw [List.getElem?_append_right (by omega),hvl,Nat.sub_self]; rfl,?_⟩
     rw [show (List.replicate (j+1) zpg).getD j []=zpg by simp [List.getD_eq_getElem?_getD]]
     refine .inr ⟨?_,fun r' off cap h=>by cases h; exact ⟨by unfold openCap; omega,by simp⟩⟩
     rw [← repL_u8]
     exact SV.row (e:=5) (List.mem_cons_self ..) (by rw [repL_u8,byteCells_len]; simp)
   ·cases hc
  ·have hb:(!ileB ((n:Nat):Int) ((i:Nat):Int))=false:=by rw [ileB_eq,decide_eq_true (by omega)]; rfl
   repeat refine xQ ?_
   refine xG rfl ?_
   iterate 2 refine xP rfl rh rfl ?_
   refine xP rfl (e_ib rh (hb)) rfl ?_
   refine xN ?_
   repeat refine xQ ?_
   refine xC rfl (fun hc=>?_) (fun hc=>?_)
   ·cases hc
   refine LS.exit ?_
   have hin2:i=n:=by omega
   subst hin2
   exact ⟨w,vs,I,M,rfl,hw,him,rfl⟩
 rintro a' L' ⟨w,vs,I,M,rfl,hw,him,rfl⟩
 repeat refine xQ ?_
 refine xG rfl ?_
 iterate 2 refine xP rfl rh rfl ?_
 refine xN ?_
 refine xT ⟨_,fun _ _=>rfl,?_⟩
 exact ⟨vs,I,M,rfl,hw,him⟩
set_option maxHeartbeats 2000000 in
theorem over_ct {F I M:RL} {iv v:Value} {N:Nat} {vs cs:List Value} {imgs:List Tx} {l:List (Nat × Tx)} (gi:GV 30 1 [] iv N vs I) (him:ImgV M N vs imgs) (hM:∀ p,p∈M->p∈F) (hl:SV 2 F v l.length cs) (hp:PgsR F cs l) (hs:l.Pairwise fun a b=>a.1 < b.1) (hn:∀ p∈l,p.1 < N/\p.2.length=256) (hN:N<=1000000) (hll:l.length<=1000000) :
  CS Tryz.prog 31 [iv,v] (I++F) fun u L'=>u=.bool true/\∃ vs' I' Y,L'=I'++(Y++F)/\GV 30 1 [] iv N vs' I'/\ImgV (Y++M) N vs' (overI imgs l):=by
 refine CS.mk (fn:=Tryz.f31) rfl rfl rfl rfl ?_
 repeat refine xQ ?_
 refine xG rfl ?_
 refine xP rfl rh rfl ?_
 refine xN ?_
 repeat refine xQ ?_
 refine xG rfl ?_
 refine xP rfl rh rfl ?_
 refine xN ?_
 repeat refine xQ ?_
 refine xG rfl ?_
 refine xP rfl rh rfl ?_
 refine xN ?_
 repeat refine xQ ?_
 refine LS.mid [] (fun a' L'=>∃ vs' I' Y,L'=I'++(Y++F)/\GV 30 1 [] iv N vs' I'/\ImgV (Y++M) N vs' (overI imgs l)/\a'=[jn,jn,jn,jn,jn,jn,jn,jn,jn,jn,jn,jn,jn,jn,jn,jn,jn,jn,jn,jn,jn,jn,jn,jn,jn,jn,jn,jn,jn,jn,jn,jn,jn,jn,jn,jn,jn,jn,jn,jn,jn,jn,jn,jn,jn,jn,jn,jn,jn,jn,jn,jn,jn,jn]) ?_ ?_
 ·refine LS.block ?_
  refine LS.loopJ [0,1,5,6] (fun z a' L'=>∃ (i:Nat) (last:Int) (vs':List Value) (I' Y:RL),z=l.length - i/\i<=l.length/\(∀ j p,i<=j->l[j]?=some p->last < p.1)/\L'=I'++(Y++F)/\GV 30 1 [] iv N vs' I'/\ImgV (Y++M) N vs' (overI imgs (l.take i)) /\
   a'=[iv,v,jn,jn,jn,.int .i64 last,.int .i64 (i:Nat),jn,jn,jn,jn,jn,jn,jn,jn,jn,jn,jn,jn,jn,jn,jn,jn,jn,jn,jn,jn,jn,jn,jn,jn,jn,jn,jn,jn,jn,jn,jn,jn,jn,jn,jn,jn,jn,jn,jn,jn,jn,jn,jn,jn,jn,jn,jn]) (n:=l.length) rfl ⟨0,-1,vs,I,[],rfl,by omega,fun j p _ _=>by omega,rfl,gi,him,rfl⟩ ?_
  rintro z a' L' ⟨i,last,vs',I',Y,rfl,hi,hlast,rfl,gi',him',rfl⟩
  have hl':∀ Z:RL,SV 2 (Z++(I'++(Y++F))) v l.length cs:=fun Z=>hl.mono fun q hq=>by simp [hq]
  by_cases hil:i < l.length
  ·have hb:(!ileB ((l.length:Nat):Int) ((i:Nat):Int))=true:=by rw [ileB_eq,decide_eq_false (by omega)]; rfl
   obtain ⟨p,hpi⟩:∃ p,l[i]?=some p:=⟨_,List.getElem?_eq_getElem hil⟩
   obtain ⟨w,hc0,hc1,hw⟩:=hp.2 i p hpi
   obtain ⟨hpN,hp256⟩:=hn p (List.mem_of_getElem? hpi)
   have hla:=hlast i p (Nat.le_refl _) hpi
   have hle:ileB ((p.1:Nat):Int) last=false:=by rw [ileB_eq,decide_eq_false (by omega)]
   have hge:ileB ((N:Nat):Int) ((p.1:Nat):Int)=false:=by rw [ileB_eq,decide_eq_false (by omega)]
   have hne:(!ieqB ((p.2.length:Nat):Int) 256)=false:=by rw [hp256]; rfl
   have hw':∀ Z:RL,SV 1 (Z++(I'++(Y++F))) w p.2.length (byteCells p.2):=fun Z=>hw.mono fun q hq=>by simp [hq]
   have htk:l.take (i+1)=l.take i++[p]:=by rw [List.take_add_one,hpi]; rfl
   have hvl:vs'.length=N:=by have:=gi'.sv.len; omega
   rcases gi' with ⟨_,h0,_⟩ | ⟨ri,rfl,hrl,rfl⟩
   ·omega
   have gs:SV 1 ([(ri,.cells 30 vs')]++(Y++F)) (.slice (some ⟨ri,0,none⟩) N openCap) N vs':=SV.row (e:=30) (List.mem_cons_self ..) hrl
   repeat refine xQ ?_
   refine xG rfl ?_
   iterate 2 refine xP rfl rh rfl ?_
   refine xP rfl (e_len (hl' []) rfl rfl rfl rfl rfl) rfl ?_
   refine xP rfl (e_ib rh (hb)) rfl ?_
   refine xN ?_
   repeat refine xQ ?_
   refine xC rfl (fun hc=>?_) (fun hc=>?_)
   ·refine LS.skip ?_
    repeat refine xQ ?_
    refine LS.block ?_
    repeat refine xQ ?_
    refine xG rfl ?_
    iterate 2 refine xP rfl rh rfl ?_
    refine OS.at (j:=i) (hl' []) hil rfl rfl rfl rfl rfl rfl (fun r0 o0 row0 cs0 m0 c0 g0 k0=>⟨_,rfl,?_⟩)
    refine xP rfl rh rfl ?_
    refine xR rfl (e_loadm m0 c0 rfl rfl (part_one rfl (g0 0 _ (by omega) hc0))) rfl ?_
    refine xP rfl rh rfl ?_
    refine xP rfl (e_ib rh (hle)) rfl ?_
    iterate 3 refine xP rfl rh rfl ?_
    refine OS.at (j:=i) (hl' []) hil rfl rfl rfl rfl rfl rfl (fun r1 o1 row1 cs1 m1 c1 g1 k1=>⟨_,rfl,?_⟩)
    refine xP rfl rh rfl ?_
    refine xR rfl (e_loadm m1 c1 rfl rfl (part_one rfl (g1 0 _ (by omega) hc0))) rfl ?_
    refine xP rfl rh rfl ?_
    refine xP rfl (e_len gs rfl rfl rfl rfl rfl) rfl ?_
    refine xP rfl (e_ib rh (hge)) rfl ?_
    iterate 4 refine xP rfl rh rfl ?_
    refine OS.at (j:=i) (hl' []) hil rfl rfl rfl rfl rfl rfl (fun r2 o2 row2 cs2 m2 c2 g2 k2=>⟨_,rfl,?_⟩)
    refine xP rfl rh rfl ?_
    refine xR rfl (e_loadm m2 c2 rfl rfl (part_one rfl (g2 1 _ (by omega) hc1))) rfl ?_
    refine xP rfl (e_len (hw' []) rfl rfl rfl rfl rfl) rfl ?_
    refine xP rfl (e_ib rh (hne)) rfl ?_
    refine xP rfl rh rfl ?_
    refine xN ?_
    repeat refine xQ ?_
    refine xC rfl (fun hc2=>?_) (fun hc2=>?_)
    ·cases hc2
    refine LS.skip ?_
    repeat refine xQ ?_
    refine xG rfl ?_
    iterate 2 refine xP rfl rh rfl ?_
    refine OS.at (j:=i) (hl' []) hil rfl rfl rfl rfl rfl rfl (fun r3 o3 row3 cs3 m3 c3 g3 k3=>⟨_,rfl,?_⟩)
    refine xP rfl rh rfl ?_
    refine xR rfl (e_loadm m3 c3 rfl rfl (part_one rfl (g3 0 _ (by omega) hc0))) rfl ?_
    refine xP rfl rh rfl ?_
    refine xN ?_
    repeat refine xQ ?_
    refine xG rfl ?_
    iterate 2 refine xP rfl rh rfl ?_
    refine OS.fresh rfl (e_new (fun _=>rfl) rfl) (fun _=>rfl) (fun r8=>?_)
    iterate 2 refine xP rfl rh rfl ?_
    refine OS.at (j:=i) (hl' [_]) hil rfl rfl rfl rfl rfl rfl (fun r4 o4 row4 cs4 m4 c4 g4 k4=>⟨_,rfl,?_⟩)
    refine xP rfl rh rfl ?_
    refine xR rfl (e_loadm m4 c4 rfl rfl (part_one rfl (g4 1 _ (by omega) hc1))) rfl ?_
    refine OS.turns rfl (e_appVoid (e:=5) (r:=r8) (sz:=1) (bts:=1) (m:=p.2.length) (SV.void (List.mem_cons_self ..) rfl) (hw' [_]) (byteCells_one _) rfl rfl rfl (by omega) (by omega)) ?_
    rintro u L₁ ⟨Z,rfl,hZ⟩
    rcases hZ with ⟨h1,_⟩ | ⟨r9,rfl,rfl,hl9⟩
    ·omega
    refine ⟨_,rfl,?_⟩
    refine xP rfl (e_index (j:=p.1) (sz:=1) rfl rfl rfl rfl rfl hpN) rfl ?_
    refine OS.write rfl (e_store 2 (n:=1) (cs':=vs'.set p.1 (.slice (some ⟨r9,0,none⟩) p.2.length openCap)) rfl rfl rfl rfl rfl rfl (by rw [show 0+p.1 * 1=p.1 by omega]; exact lay_one (by omega)) rfl) rfl ?_
    refine OS.sub (Sub.pulls [2] rfl) ?_
    refine xN ?_
    repeat refine xQ ?_
    refine xG rfl ?_
    refine xP rfl rh rfl ?_
    refine xP rfl (e_addN (n:=1) rfl rfl rfl (in_i64 (by omega) (by omega))) rfl ?_
    refine xP rfl rh rfl ?_
    refine xN ?_
    refine ⟨l.length - (i+1),by omega,i+1,(p.1:Nat),vs'.set p.1 (.slice (some ⟨r9,0,none⟩) p.2.length openCap),[(ri,.cells 30 (vs'.set p.1 (.slice (some ⟨r9,0,none⟩) p.2.length openCap)))],(r9,.cells 5 (byteCells p.2))::(r8,.cells 5 [])::Y,rfl,by omega,fun j q hj hq=>?_,?_,.inr ⟨ri,rfl,by rw [List.length_set]; exact hrl,rfl⟩,?_,rfl⟩
    ·have h5:=List.pairwise_iff_getElem.1 hs
     obtain ⟨hj1,rfl⟩:=List.getElem?_eq_some_iff.1 hq
     obtain ⟨hi1,rfl⟩:=List.getElem?_eq_some_iff.1 hpi
     have:=h5 i j hi1 hj1 (by omega)
     omega
    ·rfl
    ·rw [htk,overI_snoc]
     refine ImgV.put (him'.mono fun q hq=>?_) hvl hpN (.inl (.inr ⟨r9,0,byteCells p.2,rfl,List.mem_cons_self ..,cut_all (byteCells_len _)⟩))
     simp only [List.cons_append,List.mem_cons]
     exact .inr (.inr hq)
   ·cases hc
  ·have hb:(!ileB ((l.length:Nat):Int) ((i:Nat):Int))=false:=by rw [ileB_eq,decide_eq_true (by omega)]; rfl
   repeat refine xQ ?_
   refine xG rfl ?_
   iterate 2 refine xP rfl rh rfl ?_
   refine xP rfl (e_len (hl' []) rfl rfl rfl rfl rfl) rfl ?_
   refine xP rfl (e_ib rh (hb)) rfl ?_
   refine xN ?_
   repeat refine xQ ?_
   refine xC rfl (fun hc=>?_) (fun hc=>?_)
   ·cases hc
   refine LS.exit ?_
   rw [List.take_of_length_le (by omega)] at him'
   exact ⟨vs',I',Y,rfl,gi',him',rfl⟩
 rintro a' L' ⟨vs',I',Y,rfl,gi',him',rfl⟩
 repeat refine xQ ?_
 refine xG rfl ?_
 refine xP rfl rh rfl ?_
 refine xN ?_
 refine xT ⟨_,fun _ _=>rfl,?_⟩
 exact ⟨rfl,vs',I',Y,rfl,gi',him'⟩
end Go.Proofs.YtlmmddfhoabjfaaGreat
end
section
namespace Go.Am
theorem Sub.appR {A B:RL} (X:RL) (s:Sub A B):Sub (A++X) (B++X):=(Sub.rot (X:=X) (G:=A)).trans ((Sub.app X s).trans Sub.rot)
end Go.Am
namespace Go.Proofs.YtlmmddfhoabjfaaGreat
open Go.Am
section
variable {c:Cfg} {G G' X I M:RL} {s:TSt} {L:RL} {iv:Value} {vs:List Value} {imgs:List Tx} {N:Nat}
theorem TR.reframe (h:TR c G X s L) (hs:Sub G' G):∃ L',TR c G' X s L'/\Sub L' L:=by
 obtain ⟨T,es,ck,ws,wk,hN,rfl,hp⟩:=h
 exact ⟨_,⟨T,es,ck,ws,wk,hN,rfl,hp⟩,Sub.cons (Sub.cons (Sub.cons (Sub.cons (Sub.cons (Sub.appR X hs)))))⟩
theorem TR.unframe (h:TR c (I++(G++M)) X s L):∃ Z,Sub (I++(G++Z)) L/\∀ p,p∈M->p∈Z:=by
 obtain ⟨T,es,ck,ws,wk,hN,rfl,hp⟩:=h
 refine ⟨HD c.rf c.rb c.rt c.rn c.rw T s.root s.cnt c.root0 c.cnt0 es ck ws wk (M++X),Sub.sums fun f=>?_,fun p hp=>by simp [hp]⟩
 simp [HD,fm]<;>omega
def TI (c:Cfg) (N:Nat) (I G M X:RL) (iv:Value) (vs:List Value) (imgs:List Tx) (s:TSt) (L:RL):Prop:=TR c (I++(G++M)) X s L/\GV 30 1 [] iv N vs I/\ImgV M N vs imgs
theorem TI.add (Z:RL) (h:TI c N I G M X iv vs imgs s L):∃ L',TI c N I G (Z++M) X iv vs imgs s L'/\Sub L' (Z++L):=by
 obtain ⟨h1,h2,h3⟩:=h
 obtain ⟨L1,h4,s1⟩:=TR.pushs Z h1
 obtain ⟨L2,h5,s2⟩:=h4.reframe (G':=I++(G++(Z++M))) (Sub.sums fun f=>by
  simp only [List.map_append,List.sum_append]; omega)
 exact ⟨L2,⟨h5,h2,h3.mono fun p hp=>List.mem_append_right _ hp⟩,s2.trans s1⟩
theorem TI.memM (h:TI c N I G M X iv vs imgs s L):∀ p,p∈M->p∈L:=fun p hp=>h.1.memG p (by simp [hp])
theorem TI.img (h:TI c N I G M X iv vs imgs s L):ImgR L iv imgs:=h.2.2.r h.2.1 (fun p hp=>h.1.memG p (by simp [hp])) h.memM
set_option maxHeartbeats 1000000 in
theorem over_tr {u:Value} {cs:List Value} {l:List (Nat × Tx)} {Y D:RL} (h:TI c N I G M X iv vs imgs s L) (hv:GV 81 2 [] u l.length cs Y) (hp:PgsR D cs l) (hs:l.Pairwise fun a b=>a.1 < b.1) (hn:∀ p∈l,p.1 < N/\p.2.length=256) (hN:N<=1000000) (hll:l.length<=1000000) :
  CS Tryz.prog 31 [iv,u] (Y++(D++L)) fun r L'=>r=.bool true/\∃ I' M' vs',(∀ p,p∈M->p∈M')/\TI c N I' G M' X iv vs' (overI imgs l) s L':=by
 obtain ⟨⟨T,es,ck,ws,wk,hT,rfl,hpg⟩,gi,him⟩:=h
 have hsub:Sub (I++(Y++(D++HD c.rf c.rb c.rt c.rn c.rw T s.root s.cnt c.root0 c.cnt0 es ck ws wk ((G++M)++X)))) (Y++(D++HD c.rf c.rb c.rt c.rn c.rw T s.root s.cnt c.root0 c.cnt0 es ck ws wk ((I++(G++M))++X))):=Sub.sums fun f=>by
  simp [HD,fm]<;>omega
 refine ((over_ct gi him (fun p hp=>by simp [hp]) (hv.sv.mono fun p hp=>List.mem_append_left _ hp) (hp.mono fun p hp=>by simp [hp]) hs hn hN hll).sub hsub).less ?_
 rintro r L' ⟨rfl,vs',I',Z,rfl,gi',him'⟩
 refine ⟨HD c.rf c.rb c.rt c.rn c.rw T s.root s.cnt c.root0 c.cnt0 es ck ws wk ((I'++(G++(Z++(Y++(D++M)))))++X),Sub.sums fun f=>?_,rfl,I',Z++(Y++(D++M)),vs',fun p hp=>by simp [hp],⟨T,es,ck,ws,wk,hT,rfl,hpg⟩,gi',him'.mono fun p hp=>?_⟩
 ·simp [HD,fm]<;>omega
 ·rcases List.mem_append.1 hp with hp | hp
  ·exact List.mem_append_left _ hp
  ·simp [hp]
theorem chg_le {N:Nat} {m m0:Mem} {ks:List Nat} (h:ChgKs m m0 ks) (hm:∀ k,m k≠none->k < N) (hm0:∀ k,m0 k≠none->k < N):ks.length<=N:=by
 have:=nodup_le (A:=ks) (B:=List.range N) (h.1.imp fun {a b} h=>by omega) fun k hk=>List.mem_range.2 (by
  have hgk:=(h.2 k).1 hk
  by_cases h1:m k=none
  ·by_cases h2:m0 k=none
   ·exact absurd (by rw [h1,h2]) hgk
   ·exact hm0 k h2
  ·exact hm k h1)
 rw [List.length_range] at this
 exact this
theorem TR.dom0 (h:TR c G X s L):∀ i,c.m0 i≠none->i < c.N:=by
 obtain ⟨T,es,ck,ws,wk,hN,rfl,hp⟩:=h
 rw [← hN]; exact hp.dom0
theorem dirty_fine {P:List Pr} {ks:List Nat} (h:TR c G X s L) (hg:GoodS s.m s.root P) (hc:ChgKs s.m c.m0 ks):(dirtyOf s.m ks).Pairwise (fun a b=>a.1 < b.1)/\(∀ p∈dirtyOf s.m ks,p.1 < c.N/\p.2.length=256)/\(dirtyOf s.m ks).length<=32768:=by
 refine ⟨dirty_srt hc.1,fun p hp=>?_,?_⟩
 ·obtain ⟨_,n,hn,he⟩:=dirty_mem hp
  exact ⟨h.dom p.1 (by rw [hn]; simp),by rw [he]; exact enc_len (hg.fits _ _ hn)⟩
 ·have h1:=dirty_len (m:=s.m) (ks:=ks)
  have h2:=chg_le hc h.dom h.dom0
  have h3:=h.N
  omega
theorem GoodS.nil {P:List Pr} {m:Mem} (h:GoodS m (-1) P):P=[]/\m=m00:=by
 rcases h with ⟨_,h2,h3⟩ | ⟨H,t,hw,_⟩
 ·exact ⟨h3,funext h2⟩
 ·have:=hw.rt
  omega
set_option maxHeartbeats 1000000 in
theorem open_tr {P:List Pr} (h:TI c N I G M X iv vs imgs s L) (hN:c.N=N) (hg:GoodS s.m s.root P) (hi:ImgOk s.m imgs) :
  CS Tryz.prog 10 [.int .i64 s.root,iv] L fun u L'=>∃ ro c2 X2,u=.tuple #[ptr ro,.int .i64 0]/\c2.N=N/\c2.m0=s.m/\c2.root0=s.root/\c2.cnt0=((P.length:Nat):Int)/\TR c2 ((ro,toRow c2.rt)::L) X2 ⟨s.m,s.root,(P.length:Nat)⟩ L':=by
 have hl:imgs.length=N:=h.2.2.1
 have hd:∀ q,s.m q≠none->q < N:=fun q hq=>by have:=h.1.dom q hq; omega
 have hN3:=h.1.N
 refine (tOpen_ct h.img).mono ?_
 have hroot:s.root=-1∨∃ n:Nat,s.root=n/\n < N:=by
  have hr:=hg.root
  by_cases hP:P=[]
  ·exact .inl (hr.1 hP)
  ·obtain ⟨n,h1,h2⟩:=hr.2 hP
   exact .inr ⟨n,h1,hd n h2⟩
 rintro u L' (⟨h1,_⟩ | ⟨h1,h2,h3,h4⟩)
 ·rcases hroot with h5 | ⟨n,h5,h6⟩ <;> omega
 ·have hfind:s.root≠-1->∃ σ,lookF imgs.length (imF imgs) (imgs.length+1) ⟨m00,0,0⟩ s.root 1 [] []=some σ/\σ.m=s.m/\σ.cnt=P.length:=fun hr=>by
   rw [hl]
   exact read_good hg (fun hP=>hr (hg.root.1 hP)) hd hi
  rcases h4 with ⟨h5,h6,_⟩ | ⟨ro,c2,X2,m,cnt,rfl,hc1,hc2,hc3,hc4,htr,h5⟩
  ·obtain ⟨σ,h7,_⟩:=hfind h5
   rw [h6] at h7; cases h7
  ·have hmc:m=s.m/\cnt=P.length:=by
    rcases h5 with ⟨h6,rfl,rfl⟩ | ⟨h6,σ,h7,rfl,rfl⟩
    ·rw [h6] at hg
     obtain ⟨h7,h8⟩:=hg.nil
     exact ⟨h8.symm,by rw [h7]; rfl⟩
    ·obtain ⟨σ',h8,h9,h10⟩:=hfind h6
     rw [h7] at h8; cases h8
     exact ⟨h9,h10⟩
   obtain ⟨rfl,rfl⟩:=hmc
   exact ⟨ro,c2,X2,rfl,by rw [hc1,hl],hc2,hc3,hc4,htr⟩
end
theorem good_00:GoodS m00 (-1) []:=.inl ⟨rfl,fun _=>rfl,rfl⟩
set_option maxHeartbeats 2000000 in
theorem doS_ct {c:Cfg} {G X:RL} {s:TSt} {L:RL} {ro:Nat} {P:List Pr} {v:Value} {n:Nat} {ts:List Sk} (htr:TR c G X s L) (ho:(ro,toRow c.rt)∈G) (hg:GoodS s.m s.root P) (hcnt:s.cnt=P.length) (hl:SV 3 G v n (ts.flatMap Sk.cells)) (hok:∀ t∈ts,t.ok) (hm:n<=800) (hP:P.length<=10000) :
  CS Tryz.prog 40 [ptr ro,v] L fun u L'=>∃ X' m' root' P',TR c G X' ⟨m',root',(P'.length:Nat)⟩ L'/\GoodS m' root' P'/\P'.length<=P.length+n:=by
 have hlen:ts.length=n:=by have:=hl.len; rw [sk_len] at this; omega
 obtain ⟨m,root,cnt⟩:=s
 simp only at hg hcnt
 subst hcnt
 refine CS.mk (fn:=Tryz.f40) rfl rfl rfl rfl ?_
 repeat refine xQ ?_
 refine xG rfl ?_
 refine xP rfl rh rfl ?_
 refine xN ?_
 repeat refine xQ ?_
 refine LS.block ?_
 refine LS.loopJ [0,1,4] (fun q a L'=>∃ (i:Nat) (X':RL) (m':Mem) (root':Int) (P':List Pr),q=n - i/\i<=n/\TR c G X' ⟨m',root',(P'.length:Nat)⟩ L'/\GoodS m' root' P'/\P'.length<=P.length+i/\a=[ptr ro,v,jn,jn,.int .i64 (i:Nat),jn,jn,jn,jn,jn,jn,jn,jn,jn,jn,jn,jn,jn,jn,jn,jn,jn,jn,jn,jn,jn,jn,jn,jn,jn,jn,jn,jn,jn,jn,jn,jn]) (n:=n) rfl ⟨0,X,m,root,P,rfl,by omega,htr,hg,by omega,rfl⟩ ?_
 rintro q a L' ⟨i,X',m',root',P',rfl,hi,htr',hg',hP',rfl⟩
 have hl':SV 3 L' v n (ts.flatMap Sk.cells):=hl.mono htr'.memG
 have ho':=htr'.memG _ ho
 by_cases hin:i < n
 ·have hb:(!ileB ((n:Nat):Int) ((i:Nat):Int))=true:=by rw [ileB_eq,decide_eq_false (by omega)]; rfl
  obtain ⟨t,ht⟩:∃ t,ts[i]?=some t:=⟨_,List.getElem?_eq_getElem (by omega)⟩
  obtain ⟨hk1,hk2⟩:=hok t (List.mem_of_getElem? ht)
  repeat refine xQ ?_
  refine xG rfl ?_
  iterate 2 refine xP rfl rh rfl ?_
  refine xP rfl (e_len hl' rfl rfl rfl rfl rfl) rfl ?_
  refine xP rfl (e_ib rh (hb)) rfl ?_
  refine xN ?_
  repeat refine xQ ?_
  refine xC rfl (fun hc=>?_) (fun hc=>?_)
  ·refine LS.skip ?_
   repeat refine xQ ?_
   refine LS.mid [0,1,4] (fun a' L2=>∃ (X':RL) (m':Mem) (root':Int) (P':List Pr),TR c G X' ⟨m',root',(P'.length:Nat)⟩ L2/\GoodS m' root' P'/\P'.length<=P.length+(i+1)/\a'=[ptr ro,v,jn,jn,.int .i64 (i:Nat),jn,jn,jn,jn,jn,jn,jn,jn,jn,jn,jn,jn,jn,jn,jn,jn,jn,jn,jn,jn,jn,jn,jn,jn,jn,jn,jn,jn,jn,jn,jn,jn]) ?_ ?_
   ·repeat refine xQ ?_
    refine LS.block ?_
    by_cases hk:t.k.toNat % 2=0
    ·have hb2:ieqB ((t.k.toNat % 2:Nat):Int) 0=true:=by rw [hk]; rfl
     repeat refine xQ ?_
     refine xG rfl ?_
     iterate 2 refine xP rfl rh rfl ?_
     refine OS.at (j:=i) hl' hin rfl rfl rfl rfl rfl rfl (fun r0 o0 row0 cs0 m0 c0 g0 k0=>⟨_,rfl,?_⟩)
     refine xP rfl rh rfl ?_
     refine xR rfl (e_loadm m0 c0 rfl rfl (part_one rfl (g0 0 _ (by omega) (sk_at ts i 0 t ht (by omega))))) rfl ?_
     refine xP rfl (e_rem (m:=t.k.toNat) (n:=2) rfl rfl rfl (by decide)) rfl ?_
     refine xP rfl (e_ib rh (hb2)) rfl ?_
     refine xN ?_
     repeat refine xQ ?_
     refine xC rfl (fun hc2=>?_) (fun hc2=>?_)
     ·repeat refine xQ ?_
      refine LS.drawn noGo mixed [(0,false),(1,false),(2,false),(3,false),(4,false),(5,false),(6,false),(7,false),(8,false),(9,false),(10,false),(11,true)] rfl rfl (by kernel_rfl) ?_
      iterate 3 refine xD rfl rfl rh rfl ?_
      refine ODS.at (j:=i) hl' hin rfl rfl rfl rfl rfl rfl rfl (fun r1 o1 row1 cs1 m1 c1 g1 k1=>⟨_,rfl,?_⟩)
      refine xD rfl rfl rh rfl ?_
      refine xE rfl rfl (e_loadm m1 c1 rfl rfl (part_one rfl (g1 1 _ (by omega) (sk_at ts i 1 t ht (by omega))))) rfl ?_
      iterate 2 refine xD rfl rfl rh rfl ?_
      refine ODS.at (j:=i) hl' hin rfl rfl rfl rfl rfl rfl rfl (fun r2 o2 row2 cs2 m2 c2 g2 k2=>⟨_,rfl,?_⟩)
      refine xD rfl rfl rh rfl ?_
      refine xE rfl rfl (e_loadm m2 c2 rfl rfl (part_one rfl (g2 2 _ (by omega) (sk_at ts i 2 t ht (by omega))))) rfl ?_
      refine ODS.call rfl rfl (fun _=>rfl) ((tPut_ct (key:=t.key) (val:=t.val) htr' ho' hg' rfl (by omega) (by omega) (by omega)).mono ?_)
      rintro u L2 hput
      refine ⟨_,rfl,(by repeat (first | exact Keep.nil | refine Keep.gone rfl ?_)),?_⟩
      refine xM ?_
      rcases hput with ⟨_,_,rfl⟩ | ⟨_,_,_,rfl⟩ | ⟨_,_,_,X2,m2,root2,_,htr2,hg2,_⟩
      ·exact ⟨X',m',root',P',htr',hg',by omega,rfl⟩
      ·exact ⟨X',m',root',P',htr',hg',by omega,rfl⟩
      ·exact ⟨X2,m2,root2,_,htr2,hg2,by have:=putP_len (k:=t.key) (v:=t.val) (P:=P'); omega,rfl⟩
     ·cases hc2
    ·have hb2:ieqB ((t.k.toNat % 2:Nat):Int) 0=false:=by rw [ieqB_eq]; simp; omega
     repeat refine xQ ?_
     refine xG rfl ?_
     iterate 2 refine xP rfl rh rfl ?_
     refine OS.at (j:=i) hl' hin rfl rfl rfl rfl rfl rfl (fun r0 o0 row0 cs0 m0 c0 g0 k0=>⟨_,rfl,?_⟩)
     refine xP rfl rh rfl ?_
     refine xR rfl (e_loadm m0 c0 rfl rfl (part_one rfl (g0 0 _ (by omega) (sk_at ts i 0 t ht (by omega))))) rfl ?_
     refine xP rfl (e_rem (m:=t.k.toNat) (n:=2) rfl rfl rfl (by decide)) rfl ?_
     refine xP rfl (e_ib rh (hb2)) rfl ?_
     refine xN ?_
     repeat refine xQ ?_
     refine xC rfl (fun hc2=>?_) (fun hc2=>?_)
     ·cases hc2
     repeat refine xQ ?_
     refine xG rfl ?_
     iterate 3 refine xP rfl rh rfl ?_
     refine OS.at (j:=i) hl' hin rfl rfl rfl rfl rfl rfl (fun r1 o1 row1 cs1 m1 c1 g1 k1=>⟨_,rfl,?_⟩)
     refine xP rfl rh rfl ?_
     refine xR rfl (e_loadm m1 c1 rfl rfl (part_one rfl (g1 1 _ (by omega) (sk_at ts i 1 t ht (by omega))))) rfl ?_
     refine xA noGo rfl (fun _=>rfl) ((tDel_ct (key:=t.key) htr' ho' hg' rfl (by omega)).mono ?_)
     rintro u L2 hdel
     refine ⟨_,rfl,?_⟩
     refine xN ?_
     rcases hdel with ⟨_,_,rfl⟩ | ⟨_,_,X2,m2,root2,_,htr2,hg2,_⟩
     ·exact ⟨X',m',root',P',htr',hg',by omega,rfl⟩
     ·exact ⟨X2,m2,root2,_,htr2,hg2,by have:=delP_len (k:=t.key) (P:=P'); omega,rfl⟩
   rintro a' L2 ⟨X2,m2,root2,P2,htr2,hg2,hP2,rfl⟩
   repeat refine xQ ?_
   refine xG rfl ?_
   refine xP rfl rh rfl ?_
   refine xP rfl (e_addN (n:=1) rfl rfl rfl (in_i64 (by omega) (by omega))) rfl ?_
   refine xP rfl rh rfl ?_
   refine xN ?_
   exact ⟨n - (i+1),by omega,i+1,X2,m2,root2,P2,rfl,by omega,htr2,hg2,hP2,rfl⟩
  ·cases hc
 ·have hb:(!ileB ((n:Nat):Int) ((i:Nat):Int))=false:=by rw [ileB_eq,decide_eq_true (by omega)]; rfl
  repeat refine xQ ?_
  refine xG rfl ?_
  iterate 2 refine xP rfl rh rfl ?_
  refine xP rfl (e_len hl' rfl rfl rfl rfl rfl) rfl ?_
  refine xP rfl (e_ib rh (hb)) rfl ?_
  refine xN ?_
  repeat refine xQ ?_
  refine xC rfl (fun hc=>?_) (fun hc=>?_)
  ·cases hc
  refine LS.exit ?_
  exact ⟨_,fun _ _=>rfl,X',m',root',P',htr',hg',by omega⟩
end Go.Proofs.YtlmmddfhoabjfaaGreat
end
section
namespace Go.Am
def easy:Value->Bool
 | .pointer (some ⟨_,_,none⟩)=>true
 | .map (some _)=>true
 | .slice (some ⟨_,_,none⟩) _ c=>!(Nat.beq c openCap)
 | v=>flat v
def allEasy:List Value->Bool
 | []=>true
 | v::vs=>easy v && allEasy vs
def easyRow:ARow->Bool
 | .cells _ cs=>allEasy cs
 | .map es _=>allEasy (es.map (·.key)) && allEasy (es.map (·.val))
 | _=>false
theorem allEasy_get:∀ {cs:List Value} {i:Nat} {v:Value},allEasy cs=true->cs[i]?=some v->easy v=true
 | [],i,v,_,h=>by simp at h
 | c::cs,0,v,h,e=>by
  simp only [allEasy,Bool.and_eq_true] at h
  simp at e; subst e; exact h.1
 | c::cs,i+1,v,h,e=>by
  simp only [allEasy,Bool.and_eq_true] at h
  exact allEasy_get h.2 (by simpa using e)
section
variable {P:Program} {ρ ρ₁:Env} {h hl h₁:AW} {w w₁:World}
theorem VRel.back {v u₀ u:Value} (he:easy v=true) (h0:VRel ρ v u₀) (le:ρ.le ρ₁) (h1:VRel ρ₁ v u):VRel ρ v u:=by
 cases h0 with
 | ptr hr =>
  cases h1 with
  | ptr hr1 =>
   have:=le _ _ hr
   rw [this] at hr1; simp only [Option.some.injEq] at hr1; subst hr1
   exact .ptr hr
 | map hr =>
  cases h1 with
  | map hr1 =>
   have:=le _ _ hr
   rw [this] at hr1; simp only [Option.some.injEq] at hr1; subst hr1
   exact .map hr
 | ptrNil=>cases h1; exact .ptrNil
 | mapNil=>cases h1; exact .mapNil
 | bool b=>cases h1; exact .bool b
 | int k n=>cases h1; exact .int k n
 | string s=>cases h1; exact .string s
 | sliceNil=>cases h1; exact .sliceNil
 | nilFunc=>cases h1; exact .nilFunc
 | nilIface=>cases h1; exact .nilIface
 | slice a0 b0 c0 =>
  simp only [easy,Bool.not_eq_true'] at he
  have hne:=of_beq_f he
  cases h1 with
  | slice a1 b1 c1 =>
   refine .slice a1 b1 fun hz=>?_
   obtain ⟨l,e1,e2,e3⟩:=c1 hz
   have k0:=b0 hne
   have k1:=b1 hne
   obtain ⟨l0,f1,_,_⟩:=c0 (by omega)
   have:=le _ _ f1
   rw [this] at e1; simp only [Option.some.injEq] at e1; subst e1
   exact ⟨l0,f1,e2,e3⟩
 | yield _=>simp [easy,flat] at he
 | func _ _ _=>simp [easy,flat] at he
 | iface _=>simp [easy,flat] at he
 | agg _=>simp [easy,flat] at he
 | tuple _=>simp [easy,flat] at he
 | any _=>simp [easy,flat] at he
theorem LRel.back:∀ {vs u₀ us:List Value},allEasy vs=true->LRel ρ vs u₀->ρ.le ρ₁->LRel ρ₁ vs us->LRel ρ vs us
 | [],_,_,_,_,_,.nil=>.nil
 | v::vs,_,_,h,.cons a b,le,.cons c d=>by
  simp only [allEasy,Bool.and_eq_true] at h
  exact .cons (VRel.back h.1 a le c) (LRel.back h.2 b le d)
theorem RowRel.back {l:Loc} {row:ARow} (he:easyRow row=true) (h0:RowRel P ρ w l row) (le:ρ.le ρ₁) (h1:RowRel P ρ₁ w₁ l row):RowRel P ρ w₁ l row:=by
 cases row with
 | cells e cs =>
  obtain ⟨C,f,a1,a2,a3,a4,a5,a6⟩:=h1
  obtain ⟨_,_,_,_,_,_,_,b6⟩:=h0
  refine ⟨C,f,a1,a2,a3,a4,a5,fun i v hv=>?_⟩
  obtain ⟨u,hu,hr⟩:=a6 i v hv
  obtain ⟨u0,_,hr0⟩:=b6 i v hv
  exact ⟨u,hu,hr0.back (allEasy_get he hv) le hr⟩
 | map es clock =>
  simp only [easyRow,Bool.and_eq_true] at he
  obtain ⟨es',a1,a2,a3,a4⟩:=h1
  obtain ⟨es0,_,b2,b3,_⟩:=h0
  exact ⟨es',a1,b2.back he.1 le a2,b3.back he.2 le a3,a4⟩
 | text s pos=>cases he
 | ro cs=>cases he
 | iter m since seen last=>cases he
 | loop p=>cases he
theorem rows_of (n s:Nat):∀ (L:RL),(L.map (·.1)).Nodup->∃ hl:AW,hl.next=n/\hl.step=s/\∀ m row,hl.get m=some row↔(m,row)∈L
 | [],_=>⟨⟨.nil,n,s⟩,rfl,rfl,fun m row=>by simp [AW.get,Tr.get]⟩
 | (r,x)::L,hn=>by
  rw [List.map_cons,List.nodup_cons] at hn
  obtain ⟨hl,h1,h2,h3⟩:=rows_of n s L hn.2
  obtain ⟨h',e⟩:=hl.put_some r (some x)
  obtain ⟨hg,hnx,hst⟩:=put_eq e
  refine ⟨h',hnx.trans h1,hst.trans h2,fun m row=>?_⟩
  rw [hg]
  by_cases hm:m=r
  ·subst hm
   rw [if_pos rfl]
   constructor
   ·intro hh; cases hh; exact List.mem_cons_self ..
   ·intro hh
    rcases List.mem_cons.1 hh with hh | hh
    ·cases hh; rfl
    ·exact absurd (List.mem_map.2 ⟨_,hh,rfl⟩) hn.1
  ·rw [if_neg hm,h3]
   constructor
   ·exact fun hh=>List.mem_cons_of_mem _ hh
   ·intro hh
    rcases List.mem_cons.1 hh with hh | hh
    ·cases hh; exact absurd rfl hm
    ·exact hh
theorem far_next (n s:Nat) (hs:0 < s):∀ (L:RL),∃ K,∀ p,p∈L->p.1 < n+s * K
 | []=>⟨0,fun p hp=>(by cases hp)⟩
 | p::L=>by
  obtain ⟨K,hK⟩:=far_next n s hs L
  refine ⟨K+p.1+1,fun q hq=>?_⟩
  have h1:K+p.1+1<=s * (K+p.1+1):=Nat.le_mul_of_pos_left _ hs
  have h2:s * K<=s * (K+p.1+1):=Nat.mul_le_mul_left _ (by omega)
  rcases List.mem_cons.1 hq with rfl | hq
  ·omega
  ·have:=hK q hq; omega
structure LocalRun (P:Program) (ρ:Env) (h:AW) (w:World) (Ll Rest:RL) (ρ₁:Env) (h₁:AW) (w₁:World):Prop where
 hr:HRel P ρ₁ h₁ w₁
 le:ρ.le ρ₁
 os:w₁.os=w.os
 tape:w₁.tape=w.tape
 output:w₁.output=w.output
 size:w.heap.size<=w₁.heap.size
 keep:∀ k,k < w.heap.size->(∀ r row l,(r,row)∈Ll->row.own=true->ρ r=some l->l.block≠k)->w₁.heap[k]?=w.heap[k]?
 own:∀ r row l,h₁.get r=some row->row.own=true->ρ₁ r=some l->l.block < w.heap.size->∃ r₀ row₀ l₀,(r₀,row₀)∈Ll/\row₀.own=true/\ρ r₀=some l₀/\l₀.block=l.block
 rest:∀ p,p∈Rest->h₁.get p.1=some p.2
theorem CS.localRun {f:FuncId} {args us:List Value} {Ll Rest:RL} {R:Value->RL->Prop} (c:CS P f args Ll R) (hn:(Ll.map (·.1)).Nodup) (hL:∀ p,p∈Ll->h.get p.1=some p.2) (hR:∀ v L',R v L'->∀ p,p∈Rest->p∈L') (hus:LRel ρ args us) (H:HRel P ρ h w) :
  (∃ fn c,P.funcs[f]?=some fn/\fn.body=some c)/\Calls P f ⟨us⟩ w fun e w'=>∃ v L₁ u ρ₁ h₁,e=.returned u/\R v L₁/\VRel ρ₁ v u/\Has h₁ L₁/\LocalRun P ρ h w Ll Rest ρ₁ h₁ w':=by
 obtain ⟨K,hK⟩:=far_next h.next h.step H.step Ll
 obtain ⟨hl,n1,n2,n3⟩:=rows_of (h.next+h.step * K) h.step Ll hn
 have Hl:Has hl Ll:=⟨fun p hp=>(n3 p.1 p.2).2 hp,hn,fun p hp=>by rw [n1]; exact hK p hp,by rw [n2]; exact H.step⟩
 have HRl:HRel P ρ hl w:=by
  have sub:∀ m row,hl.get m=some row->h.get m=some row:=fun m row hm=>hL _ ((n3 m row).1 hm)
  refine ⟨fun r row hr=>H.loc r row (sub _ _ hr),fun a b x y la lb ha hb=>H.inj a b x y la lb (sub _ _ ha) (sub _ _ hb),fun j=>?_,by rw [n2]; exact H.step⟩
  rw [n1,n2]
  have:=H.fresh (K+j)
  rwa [Nat.mul_add,← Nat.add_assoc] at this
 have cq:=c hl Hl
 refine ⟨cq.1,(cq.2 ρ us w hus HRl).mono ?_⟩
 rintro e w' ⟨v,h₁,u,ρ₁,e1,⟨L₁,hr,H₁⟩,e3,e4,T⟩
 refine ⟨v,L₁,u,ρ₁,h₁,e1,hr,e3,H₁,e4,T.le,T.os,T.tape,T.output,T.size,fun k hk hno=>T.keep k hk fun r row l hr' ho hl'=>hno r row l ((n3 r row).1 hr') ho hl',fun r row l hr' ho hl' hlt=>?_,fun p hp=>H₁.get p (hR v L₁ hr p hp)⟩
 obtain ⟨r₀,row₀,l₀,a,b,c,d⟩:=T.own r row l hr' ho hl' hlt
 exact ⟨r₀,row₀,l₀,(n3 _ _).1 a,b,c,d⟩
variable {Ll Rest:RL} {D:List Nat}
theorem LocalRun.still (T:LocalRun P ρ h w Ll Rest ρ₁ h₁ w₁) (H:HRel P ρ h w) (hL:∀ p,p∈Ll->h.get p.1=some p.2) (hD:∀ p,p∈Ll->p.1∈D∨p∈Rest) (he:∀ p,p∈Rest->easyRow p.2=true) (hRL:∀ p,p∈Rest->p∈Ll) {m:Nat} {row:ARow} (hm:h.get m=some row) (hmD:m ∉ D):∃ l,ρ m=some l/\RowRel P ρ w l row/\RowRel P ρ w₁ l row:=by
 obtain ⟨l,hl,hr⟩:=H.loc m row hm
 refine ⟨l,hl,hr,?_⟩
 by_cases hin:∃ x,(m,x)∈Ll
 ·obtain ⟨x,hx⟩:=hin
  have hxe:x=row:=by have:=hL _ hx; simp only at this; rw [hm] at this; simpa using this.symm
  subst hxe
  rcases hD _ hx with h1 | h1
  ·exact absurd h1 hmD
  ·have h2:=T.rest _ h1
   obtain ⟨l',hl',hr'⟩:=T.hr.loc m x h2
   have:=T.le _ _ hl
   rw [this] at hl'; simp only [Option.some.injEq] at hl'; subst hl'
   exact hr.back (he _ h1) T.le hr'
 ·refine hr.keep (Env.le_refl _) (T.keep _ hr.lt fun r x l' hx ho hl' hh=>?_)
  have:=H.inj r m x row l' l (hL _ hx) hm hl' hl hh (.inl ho)
  subst this
  exact hin ⟨x,hx⟩
theorem LocalRun.flat (T:LocalRun P ρ h w Ll Rest ρ₁ h₁ w₁) (H:HRel P ρ h w) (hL:∀ p,p∈Ll->h.get p.1=some p.2) (hD:∀ p,p∈Ll->p∈Rest) (he:∀ p,p∈Rest->easyRow p.2=true) (hRL:∀ p,p∈Rest->p∈Ll):HRel P ρ h w₁/\Turn ρ h w ρ h w₁:=by
 refine ⟨⟨fun m row hm=>?_,H.inj,H.fresh,H.step⟩,⟨Env.le_refl _,T.os,T.tape,T.output,T.size,fun r row l a b c _=>⟨r,row,l,a,b,c,rfl⟩,fun k hk hno=>T.keep k hk fun r row l hr ho hl=>hno r row l (hL _ hr) ho hl,fun r l e=>.inl e,⟨0,by simp⟩,rfl⟩⟩
 obtain ⟨l,a,_,b⟩:=T.still (D:=[]) H hL (fun p hp=>.inr (hD p hp)) he hRL hm (by simp)
 exact ⟨l,a,b⟩
theorem LocalRun.list {r' n cap sz:Nat} {e:TypeId} {cs J:List Value} {u:Value} {h0 h':AW} {q:Nat} (T:LocalRun P ρ h w Ll Rest ρ₁ h₁ w₁) (H:HRel P ρ h w) (hL:∀ p,p∈Ll->h.get p.1=some p.2) (hD:∀ p,p∈Ll->p.1∈D∨p∈Rest) (he:∀ p,p∈Rest->easyRow p.2=true) (hRL:∀ p,p∈Rest->p∈Ll)
  (hr':h₁.get r'=some (.cells e (cs++J))) (hne:∀ p,p∈Rest->p.1≠r') (hu:VRel ρ₁ (.slice (some ⟨r',0,none⟩) n cap) u) (hs:sizeB P e=some sz) (hl:cs.length=n * sz) (hcap:cap=openCap∨cap < openCap/\cap * sz<=(cs++J).length) (hf:allFlat cs=true)
  (h0g:∀ m,h0.get m=if m∈D then none else h.get m) (h0n:h0.next=h.next) (h0s:h0.step=h.step) (hnew:h0.new (.cells e cs)=some (q,h')) :
  ∃ ρ',VRel ρ' (.slice (some ⟨q,0,none⟩) n openCap) u/\HRel P ρ' h' w₁/\Turn ρ h w ρ' h' w₁:=by
 obtain ⟨l1,hl1,C,f,a1,a2,a3,a4,a5,a6⟩:=T.hr.loc r' _ hr'
 obtain ⟨hq,hg,hn,hst⟩:=new_eq hnew
 rw [h0n] at hq hn
 rw [h0s] at hn hst
 have hesz:l1.esz=sz:=by have:=a5.size; rw [hs] at this; simpa using this.symm
 have hnone:ρ q=none:=by rw [hq]; exact H.fresh0
 have le:=upd_le (l:=l1) hnone
 have hflat:∀ (cs:List Value) (i:Nat) (v:Value),allFlat cs=true->cs[i]?=some v->Am.flat v=true:=by
  intro cs
  induction cs with
  | nil=>intro i v _ hv; simp at hv
  | cons x xs ih =>
   intro i v hf hv
   simp only [allFlat] at hf
   split at hf
   ·rename_i hx
    cases i with
    | zero=>simp at hv; subst hv; exact hx
    | succ i=>simp at hv; exact ih i v hf hv
   ·cases hf
 have old:∀ m row,h'.get m=some row->m≠q->h.get m=some row/\m ∉ D:=fun m row hm hmq=>by
  rw [hg,if_neg hmq,h0g] at hm
  split at hm
  ·cases hm
  ·exact ⟨hm,by assumption⟩
 have apart:∀ m row lm,h.get m=some row->m ∉ D->ρ m=some lm->lm.block≠l1.block:=fun m row lm hm hmD hlm hh=>by
  obtain ⟨l0,e0,e1,e2⟩:=T.still H hL hD he hRL hm hmD
  rw [hlm] at e0; simp only [Option.some.injEq] at e0; subst e0
  have hlt:lm.block < w.heap.size:=e1.lt
  obtain ⟨r₀,row₀,l₀,b1,b2,b3,b4⟩:=T.own r' _ l1 hr' rfl hl1 (by rw [← hh]; exact hlt)
  have:=H.inj r₀ m row₀ row l₀ lm (hL _ b1) hm b3 hlm (by rw [b4,hh]) (.inl b2)
  subst this
  rcases hD _ b1 with h1 | h1
  ·exact hmD h1
  ·have h2:=T.rest _ h1
   have:=T.hr.inj r₀ r' _ _ lm l1 h2 hr' (T.le _ _ hlm) hl1 hh (.inr rfl)
   exact hne _ h1 this
 refine ⟨upd ρ q l1,?_,⟨fun m row hm=>?_,fun a b rowa rowb la lb ha hb hla hlb hab hown=>?_,fun j=>?_,by rw [hst]; exact H.step⟩,⟨le,T.os,T.tape,T.output,T.size,fun m row lm hm hmo hlm hlt=>?_,fun k hk hno=>T.keep k hk fun r row l hr ho hl=>hno r row l (hL _ hr) ho hl,fun r l hr=>?_,⟨1,by rw [hn]; omega⟩,hst⟩⟩
 ·cases hu with
  | @slice _ _ _ _ cap' ad p1 p2 p3 =>
   refine .slice p1 (fun hh=>absurd rfl hh) fun hz=>?_
   obtain ⟨l,c1,c2,c3⟩:=p3 hz
   rw [hl1] at c1; simp only [Option.some.injEq] at c1; subst c1
   refine ⟨l1,by simp [upd],c2,fun _=>?_⟩
   rcases hcap with rfl | ⟨h1,h2⟩
   ·exact c3 rfl
   ·have:=p2 (by omega)
    subst this
    rw [hesz]
    exact ⟨by omega,h1⟩
 ·by_cases hmq:m=q
  ·subst hmq
   rw [hg,if_pos rfl] at hm
   simp only [Option.some.injEq] at hm; subst hm
   refine ⟨l1,by simp [upd],C,f,a1,a2,by simp at a3; omega,a4,a5,fun i v hv=>?_⟩
   obtain ⟨u',hu',hvr⟩:=a6 i v (by rw [List.getElem?_append_left (List.getElem?_eq_some_iff.1 hv).1]; exact hv)
   have hvf:=hflat cs i v hf hv
   have:=hvr.flat_eq hvf
   subst this
   exact ⟨_,hu',.of_flat hvf⟩
  ·obtain ⟨hm',hmD⟩:=old m row hm hmq
   obtain ⟨l,e0,e1,e2⟩:=T.still H hL hD he hRL hm' hmD
   exact ⟨l,le _ _ e0,e2.keep le rfl⟩
 ·unfold upd at hla hlb
  by_cases h1:a=q
  ·by_cases h2:b=q
   ·rw [h1,h2]
   ·rw [if_pos h1] at hla; rw [if_neg h2] at hlb
    simp only [Option.some.injEq] at hla; subst hla
    obtain ⟨hb',hbD⟩:=old b rowb hb h2
    exact absurd hab.symm (apart b rowb lb hb' hbD hlb)
  ·by_cases h2:b=q
   ·rw [if_neg h1] at hla; rw [if_pos h2] at hlb
    simp only [Option.some.injEq] at hlb; subst hlb
    obtain ⟨ha',haD⟩:=old a rowa ha h1
    exact absurd hab (apart a rowa la ha' haD hla)
   ·rw [if_neg h1] at hla; rw [if_neg h2] at hlb
    exact H.inj a b _ _ la lb (old a rowa ha h1).1 (old b rowb hb h2).1 hla hlb hab hown
 ·rw [hn,hst]
  unfold upd
  have hp:=H.step
  have:=H.fresh (j+1)
  rw [Nat.mul_add,Nat.mul_one,Nat.add_comm (h.step * j),← Nat.add_assoc] at this
  rw [if_neg (by rw [hq]; have:=Nat.zero_le (h.step * j); omega)]
  exact this
 ·by_cases hmq:m=q
  ·subst hmq
   simp only [upd,if_true,Option.some.injEq] at hlm
   subst hlm
   obtain ⟨r₀,row₀,l₀,b1,b2,b3,b4⟩:=T.own r' _ l1 hr' rfl hl1 hlt
   exact ⟨r₀,row₀,l₀,hL _ b1,b2,b3,b4⟩
  ·unfold upd at hlm
   rw [if_neg hmq] at hlm
   exact ⟨m,row,lm,(old m row hm hmq).1,hmo,hlm,rfl⟩
 ·unfold upd at hr
  split at hr
  ·subst_vars; exact .inr ⟨0,by simp⟩
  ·exact .inl hr
end
end Go.Am
end
section
namespace Go.Am
def insO:List Value->Nat->Value->Option (List Value)
 | xs,0,x=>some (x::xs)
 | [],_+1,_=>none
 | y::ys,n+1,x=>match insO ys n x with
  | some zs=>some (y::zs)
  | none=>none
theorem insO_eq:∀ {xs zs:List Value} {n:Nat} {x:Value},insO xs n x=some zs->n<=xs.length/\zs=insL xs n x
 | xs,zs,0,x,h=>by
  have:insO xs 0 x=some (x::xs):=by cases xs <;> rfl
  rw [this] at h; simp only [Option.some.injEq] at h; subst h
  exact ⟨Nat.zero_le _,rfl⟩
 | [],zs,n+1,x,h=>by cases h
 | y::ys,zs,n+1,x,h=>by
  simp only [insO] at h
  split at h
  ·rename_i us e
   simp only [Option.some.injEq] at h; subst h
   obtain ⟨h1,h2⟩:=insO_eq e
   exact ⟨by simp; omega,by rw [h2]; rfl⟩
  ·cases h
def erO:List Value->Nat->Option (List Value)
 | [],_=>none
 | _::ys,0=>some ys
 | y::ys,n+1=>match erO ys n with
  | some zs=>some (y::zs)
  | none=>none
theorem erO_eq:∀ {xs zs:List Value} {n:Nat},erO xs n=some zs->n < xs.length/\zs=xs.eraseIdx n
 | [],zs,n,h=>by cases h
 | y::ys,zs,0,h=>by simp only [erO,Option.some.injEq] at h; subst h; exact ⟨by simp,rfl⟩
 | y::ys,zs,n+1,h=>by
  simp only [erO] at h
  split at h
  ·rename_i us e
   simp only [Option.some.injEq] at h; subst h
   obtain ⟨h1,h2⟩:=erO_eq e
   exact ⟨by simp; omega,by rw [h2]; rfl⟩
  ·cases h
def anewB (h:AW) (r:Nat) (e:TypeId) (cs:List Value) (n:Nat):Option (Value × AW) :=
 match h.put r none,fn n with
 | some h0,some m=>match h0.new (.cells e cs) with
  | some (q,h')=>some (.slice (some ⟨q,0,none⟩) m openCap,h')
  | none=>none
 | _,_=>none
def insK (e:TypeId) (args:List Value) (h:AW):Option (Value × AW) :=
 match args with
 | [.slice (some ⟨r,0,none⟩) n c,.int .i64 z,.slice (some ⟨rv,0,none⟩) 1 1] =>
  match getRow h r,getRow h rv with
  | some (e1,cs),some (e2,[x]) =>
   match ((Nat.beq e1 e && Nat.beq e2 e) && (!(Nat.beq r rv) && (Nat.beq c openCap && ileB 0 z))) && ((Nat.beq cs.length n && Nat.ble n 1000) && (allFlat cs && flat x)),insO cs z.toNat x with
   | true,some cs'=>anewB h r e cs' (n+1)
   | _,_=>none
  | _,_=>none
 | _=>none
def delK (e:TypeId) (args:List Value) (h:AW):Option (Value × AW) :=
 match args with
 | [.slice (some ⟨r,0,none⟩) n c,.int .i64 z,.int .i64 z2] =>
  match getRow h r with
  | some (e1,cs) =>
   match (Nat.beq e1 e && (Nat.beq c openCap && ileB 0 z)) && ((Nat.beq cs.length n && Nat.ble n 1000) && (allFlat cs && ieqB z2 (z+1))),erO cs z.toNat with
   | true,some cs'=>anewB h r e cs' (n - 1)
   | _,_=>none
  | _=>none
 | _=>none
theorem flat_one {x:Value} (h:flat x=true):oneB x=true:=by cases x <;> first | rfl | (simp [flat] at h)
theorem allFlat_one:∀ {cs:List Value},allFlat cs=true->allOne cs=true
 | [],_=>rfl
 | c::cs,h=>by
  simp only [allFlat] at h
  split at h
  ·rename_i hc
   simp only [allOne,flat_one hc]; exact allFlat_one h
  ·cases h
theorem allFlat_iff {cs:List Value}:allFlat cs=true↔∀ c∈cs,flat c=true:=by
 induction cs with
 | nil=>simp [allFlat]
 | cons c cs ih =>
  simp only [allFlat,List.mem_cons,forall_eq_or_imp]
  cases hc:flat c with
  | true=>simp [ih]
  | false=>simp
theorem ins_flat {cs:List Value} {n:Nat} {x:Value} (h:allFlat cs=true) (hx:flat x=true):allFlat (insL cs n x)=true:=by
 rw [allFlat_iff] at h ⊢
 intro c hc
 unfold insL at hc
 rcases List.mem_append.1 hc with hc | hc
 ·exact h c (List.mem_of_mem_take hc)
 ·rcases List.mem_cons.1 hc with rfl | hc
  ·exact hx
  ·exact h c (List.mem_of_mem_drop hc)
theorem er_flat {cs:List Value} {n:Nat} (h:allFlat cs=true):allFlat (cs.eraseIdx n)=true:=by
 rw [allFlat_iff] at h ⊢
 exact fun c hc=>h c (List.mem_of_mem_eraseIdx hc)
theorem allFlat_easy:∀ {cs:List Value},allFlat cs=true->allEasy cs=true
 | [],_=>rfl
 | c::cs,h=>by
  simp only [allFlat] at h
  split at h
  ·rename_i hc
   simp only [allEasy,Bool.and_eq_true]
   refine ⟨?_,allFlat_easy h⟩
   cases c with
   | pointer a=>cases a with
    | none=>exact hc
    | some a=>simp [flat] at hc
   | map a=>cases a with
    | none=>exact hc
    | some a=>simp [flat] at hc
   | slice a n c=>cases a with
    | none=>exact hc
    | some a=>simp [flat] at hc
   | _=>exact hc
  ·cases h
theorem easy_flat {c:Value} (hc:flat c=true):easy c=true:=by
 have:=allFlat_easy (cs:=[c]) (by simp only [allFlat,hc])
 simpa [allEasy] using this
theorem CS.isFn {P:Program} {f:FuncId} {args:List Value} {L:RL} {R:Value->RL->Prop} (c:CS P f args L R) (hn:(L.map (·.1)).Nodup):∃ fn c,P.funcs[f]?=some fn/\fn.body=some c:=by
 obtain ⟨K,hK⟩:=far_next 0 1 (by omega) L
 obtain ⟨hl,n1,n2,n3⟩:=rows_of (0+1 * K) 1 L hn
 exact (c hl ⟨fun p hp=>(n3 p.1 p.2).2 hp,hn,fun p hp=>by rw [n1]; exact hK p hp,by rw [n2]; omega⟩).1
theorem known_list {P:Program} {f:FuncId} {args:List Value} {h h':AW} {v:Value} {r n sz:Nat} {e:TypeId} {cs:List Value} {row:ARow} {Rest:RL} (hr:h.get r=some row) (hrest:∀ p,p∈Rest->h.get p.1=some p.2) (hnd:(((r,row)::Rest).map (·.1)).Nodup) (he:∀ p,p∈Rest->easyRow p.2=true)
  (c:CS P f args ([(r,row)]++Rest) fun u L'=>∃ Y',L'=Y'++Rest/\OW e sz u n cs Y') (hs:sizeB P e=some sz) (hf:allFlat cs=true) (k:anewB h r e cs n=some (v,h')) :
  (∃ fn c,P.funcs[f]?=some fn/\fn.body=some c)/\∀ ρ us w,LRel ρ args us->HRel P ρ h w->Calls P f ⟨us⟩ w fun e w'=>∃ u ρ',e=.returned u/\VRel ρ' v u/\HRel P ρ' h' w'/\Turn ρ h w ρ' h' w':=by
 unfold anewB at k
 split at k
 case h_2=>cases k
 rename_i h0 m hp hm
 have hm:=fn_eq hm
 subst hm
 split at k
 case h_2=>cases k
 rename_i q h₂ hnew
 simp only [Option.some.injEq,Prod.mk.injEq] at k
 obtain ⟨rfl,rfl⟩:=k
 obtain ⟨hg,hn,hst⟩:=put_eq hp
 have hL:∀ p,p∈(r,row)::Rest->h.get p.1=some p.2:=fun p hp=>by
  rcases List.mem_cons.1 hp with rfl | hp
  ·exact hr
  ·exact hrest p hp
 have hR:∀ v L',(∃ Y',L'=Y'++Rest/\OW e sz v m cs Y')->∀ p,p∈Rest->p∈L':=fun v L' ⟨Y',hY,_⟩ p hp=>by rw [hY]; exact List.mem_append_right _ hp
 refine ⟨?_,fun ρ us w hus H=>?_⟩
 ·exact c.isFn hnd
 ·refine (CS.localRun (Rest:=Rest) c hnd hL hR hus H).2.mono ?_
  rintro en w' ⟨u,L₁,x,ρ₁,h₁,rfl,⟨Y',rfl,r',cap,J,rfl,hl,rfl,hnc,hcap⟩,hv,H₁,T⟩
  have hr':h₁.get r'=some (.cells e (cs++J)):=H₁.get (r',_) (by simp)
  have hne:∀ p,p∈Rest->p.1≠r':=fun p hp hh=>by
   have:=H₁.nd
   simp only [List.singleton_append,List.map_cons,List.nodup_cons] at this
   exact this.1 (List.mem_map.2 ⟨p,hp,hh⟩)
  obtain ⟨ρ',a,b,c⟩:=T.list (D:=[r]) H hL (fun p hp=>by
   rcases List.mem_cons.1 hp with rfl | hp
   ·exact .inl (by simp)
   ·exact .inr hp) he (fun p hp=>List.mem_cons_of_mem _ hp) hr' hne hv hs hl hcap hf (fun m=>by rw [hg]; simp) hn hst hnew
  exact ⟨x,ρ',rfl,a,b,c⟩
theorem known_new {P:Program} {f:FuncId} {args:List Value} {h h':AW} {n sz q:Nat} {e:TypeId} {cs:List Value} {Rest:RL} (hrest:∀ p,p∈Rest->h.get p.1=some p.2) (hnd:(Rest.map (·.1)).Nodup) (he:∀ p,p∈Rest->easyRow p.2=true)
  (c:CS P f args Rest fun u L'=>∃ Y',L'=Y'++Rest/\OW e sz u n cs Y') (hs:sizeB P e=some sz) (hf:allFlat cs=true) (k:h.new (.cells e cs)=some (q,h')) :
  (∃ fn c,P.funcs[f]?=some fn/\fn.body=some c)/\∀ ρ us w,LRel ρ args us->HRel P ρ h w->Calls P f ⟨us⟩ w fun e w'=>∃ u ρ',e=.returned u/\VRel ρ' (.slice (some ⟨q,0,none⟩) n openCap) u/\HRel P ρ' h' w'/\Turn ρ h w ρ' h' w':=by
 have hR:∀ v L',(∃ Y',L'=Y'++Rest/\OW e sz v n cs Y')->∀ p,p∈Rest->p∈L':=fun v L' ⟨Y',hY,_⟩ p hp=>by rw [hY]; exact List.mem_append_right _ hp
 refine ⟨c.isFn hnd,fun ρ us w hus H=>?_⟩
 refine (CS.localRun (Rest:=Rest) c hnd hrest hR hus H).2.mono ?_
 rintro en w' ⟨u,L₁,x,ρ₁,h₁,rfl,⟨Y',rfl,r',cap,J,rfl,hl,rfl,hnc,hcap⟩,hv,H₁,T⟩
 have hr':h₁.get r'=some (.cells e (cs++J)):=H₁.get (r',_) (by simp)
 have hne:∀ p,p∈Rest->p.1≠r':=fun p hp hh=>by
  have:=H₁.nd
  simp only [List.singleton_append,List.map_cons,List.nodup_cons] at this
  exact this.1 (List.mem_map.2 ⟨p,hp,hh⟩)
 obtain ⟨ρ',a,b,c⟩:=T.list (D:=[]) (h0:=h) H hrest (fun p hp=>.inr hp) he (fun p hp=>hp) hr' hne hv hs hl hcap hf (fun m=>by simp) rfl rfl k
 exact ⟨x,ρ',rfl,a,b,c⟩
def cellsEq:List Value->List UInt8->Bool
 | [],[]=>true
 | .int .u8 z::xs,b::bs=>ieqB z (b.toNat:Int) && cellsEq xs bs
 | _,_=>false
theorem cellsEq_eq:∀ {cs:List Value} {bs:List UInt8},cellsEq cs bs=true->cs=byteCells bs
 | [],[],_=>rfl
 | [],b::bs,h=>by cases h
 | c::cs,[],h=>by
  unfold cellsEq at h
  split at h <;> first | cases h | (rename_i h1 h2; cases h2) | skip
  all_goals simp_all
 | c::cs,b::bs,h=>by
  cases c <;> first | (simp [cellsEq] at h; done) | skip
  rename_i k z
  cases k <;> first | (simp [cellsEq] at h; done) | skip
  simp only [cellsEq,Bool.and_eq_true] at h
  have h1:z=(b.toNat:Int):=by have:=h.1; rw [ieqB_eq] at this; simpa using this
  rw [h1,cellsEq_eq h.2]; rfl
def bitsK (cs:List Value) (n:Nat):List Bool:=(List.range n).map fun i=>match (cs[i / 8]?:Option Value) with
 | some (.int .u8 z)=>z.toNat.testBit (i % 8)
 | _=>false
def sortK (mt:TypeId) (f1:FuncId) (it:TypeId) (args:List Value) (h:AW):Option (Value × AW) :=
 match args with
 | [.func (.func f2) a b] =>
  match a.toList,b.toList,Nat.beq f1 f2 with
  | [],[.pointer (some ⟨rb,0,none⟩)],true=>match getRow h rb with
   | some (e,[.map (some rm)])=>match Nat.beq e mt,h.get rm with
    | true,some (.map [] _)=>some (.slice none 0 0,h)
    | true,some (.map [⟨.int .i64 (.ofNat k),v,b⟩] ck)=>match easy v && (Nat.ble (b+1) ck && !(Nat.beq rb rm)) with
     | true=>match h.new (.cells it [.int .i64 (.ofNat k)]) with
      | some (q,h')=>some (.slice (some ⟨q,0,none⟩) 1 openCap,h')
      | none=>none
     | false=>none
    | _,_=>none
   | _=>none
  | _,_,_=>none
 | _=>none
end Go.Am
namespace Go.Proofs.YtlmmddfhoabjfaaGreat
open Go.Am
def listK (ft it:TypeId) (args:List Value) (h:AW):Option (Value × AW) :=
 match args with
 | [.pointer (some ⟨rm,0,none⟩)]=>match getRow h rm with
  | some (e,[.int .i64 (.ofNat n),.slice (some ⟨rb,0,none⟩) m c])=>match getRow h rb with
   | some (e2,cs)=>match (Nat.beq e ft && (Nat.beq e2 5 && !(Nat.beq rm rb))) && ((Nat.beq m (pk (bitsK cs n)).length && Nat.beq c m) && (Nat.ble n 32768 && cellsEq cs (pk (bitsK cs n)))),lst' (bitsK cs n) with
    | true,x::xs=>match h.new (.cells it (ints (x::xs))),fn (x::xs).length with
     | some (q,h'),some k=>some (.slice (some ⟨q,0,none⟩) k openCap,h')
     | _,_=>none
    | _,_=>none
   | _=>none
  | _=>none
 | _=>none
theorem ints_flat (l:List Nat):allFlat (ints l)=true:=by
 rw [allFlat_iff]
 intro c hc
 obtain ⟨k,_,rfl⟩:=List.mem_map.1 hc
 rfl
theorem byteCells_flat (l:List UInt8):allFlat (byteCells l)=true:=by
 rw [allFlat_iff]
 intro c hc
 obtain ⟨k,_,rfl⟩:=List.mem_map.1 hc
 rfl
theorem listK_sound {args:List Value} {h h':AW} {v:Value} (k:listK 131 3 args h=some (v,h')) :
  (∃ fn c,Tryz.prog.funcs[52]?=some fn/\fn.body=some c)/\∀ ρ us w,LRel ρ args us->HRel Tryz.prog ρ h w->Calls Tryz.prog 52 ⟨us⟩ w fun e w'=>∃ u ρ',e=.returned u/\VRel ρ' v u/\HRel Tryz.prog ρ' h' w'/\Turn ρ h w ρ' h' w':=by
 unfold listK at k
 split at k
 case h_2=>cases k
 rename_i rm
 split at k
 case h_2=>cases k
 rename_i e n rb m c h1
 split at k
 case h_2=>cases k
 rename_i e2 cs h2
 split at k
 case h_2=>cases k
 rename_i x xs hb hl
 simp only [Bool.and_eq_true,Bool.not_eq_true'] at hb
 obtain ⟨⟨b1,b2,b3⟩,⟨b4,b5⟩,b6,b7⟩:=hb
 have b1:=of_beq b1; have b2:=of_beq b2; have b3:=of_beq_f b3; have b4:=of_beq b4; have b5:=of_beq b5; have b6:=of_ble b6
 have hcs:=cellsEq_eq b7
 clear b7
 subst b1; subst b2; subst b5; subst b4
 have hT:(bitsK cs n).length=n:=by simp [bitsK]
 generalize bitsK cs n=T at hl hcs hT h1
 subst hT; subst hcs
 split at k
 case h_2=>cases k
 rename_i q h₂ kk hnew hk
 have hk:=fn_eq hk
 subst hk
 simp only [Option.some.injEq,Prod.mk.injEq] at k
 obtain ⟨rfl,rfl⟩:=k
 have c1:=(List_ct (F:=[]) (rm:=rm) (rb:=rb) (T:=T) b6).mono (R':=fun u L'=>∃ Y',L'=Y'++fm rm rb T []/\OW 3 1 u (x::xs).length (ints (x::xs)) Y') (fun u L' hg=>by
  rw [hl] at hg
  rcases hg with ⟨_,h0,_⟩ | ⟨r,rfl,h3,rfl⟩
  ·simp at h0
  ·refine ⟨[(r,_)],rfl,r,openCap,[],rfl,h3,by rw [List.append_nil],?_,.inl rfl⟩
   have h4:(lst' T).length<=T.length:=by
    have:=List.length_filter_le (tkn T) (List.range T.length)
    simpa [lst'] using this
   rw [hl] at h4
   unfold openCap; omega)
 refine known_new (sz:=1) (fun p hp=>?_) ?_ (fun p hp=>?_) c1 rfl (ints_flat _) hnew
 ·rcases List.mem_cons.1 hp with rfl | hp
  ·exact getRow_eq h1
  ·simp only [List.mem_singleton] at hp; subst hp; exact getRow_eq h2
 ·simp [b3]
 ·rcases List.mem_cons.1 hp with rfl | hp
  ·have h5:(pk T).length≠openCap:=by rw [pk_len]; unfold openCap; omega
   simp only [easyRow,allEasy,easy,flat,beq_false h5,Bool.not_false,Bool.and_self]
  ·simp only [List.mem_singleton] at hp; subst hp
   exact allFlat_easy (byteCells_flat _)
theorem text_ct {L:RL} (n:Nat) (c:UInt8) (hn:n<=100000):CS Tryz.prog 18 [.int .i64 (n:Nat),.int .u8 (c.toNat:Nat)] L fun u L'=>u=txt (List.replicate n c)/\L'=L:=by
 suffices g:CS Tryz.prog 18 [.int .i64 (n:Nat),.int .u8 (c.toNat:Nat)] L fun u L'=>u=txt (List.replicate n c)/\∃ x,L'=x::L by
  exact g.less fun u L' ⟨h1,x,h2⟩=>⟨L,by rw [h2]; exact Sub.tail,h1,rfl⟩
 refine CS.mk (fn:=Tryz.f18) rfl rfl rfl rfl ?_
 repeat refine xQ ?_
 refine xG rfl ?_
 refine xP rfl rh rfl ?_
 refine xN ?_
 repeat refine xQ ?_
 refine xG rfl ?_
 refine xP rfl rh rfl ?_
 refine OS.fresh rfl ((e_make (l:=n) (c:=n) rfl rfl rfl makeT_bytes (Nat.le_refl _) (by omega) (by omega))) (fun _=>rfl) (fun rb=>?_)
 refine xP rfl rh rfl ?_
 refine xN ?_
 rw [repL_u8]
 repeat refine xQ ?_
 refine xG rfl ?_
 refine xP rfl rh rfl ?_
 refine xN ?_
 repeat refine xQ ?_
 refine LS.block ?_
 refine LS.loopJ [0,1,5,6] (fun q a L'=>∃ j:Nat,q=n - j/\j<=n/\L'=(rb,.cells 5 (byteCells (List.replicate j c++List.replicate (n - j) 0)))::L /\
  a=[.int .i64 (n:Nat),.int .u8 (c.toNat:Nat),jn,jn,jn,.slice (some ⟨rb,0,none⟩) n n,.int .i64 (j:Nat),jn,jn,jn,jn,jn,jn,jn,jn,jn,jn,jn,jn,jn]) (n:=n) rfl ⟨0,rfl,by omega,by simp,rfl⟩ ?_
 rintro q a L' ⟨j,rfl,hj,rfl,rfl⟩
 repeat refine xQ ?_
 refine xG rfl ?_
 iterate 3 refine xP rfl rh rfl ?_
 refine xN ?_
 repeat refine xQ ?_
 refine xC rfl (fun hc=>?_) (fun hc=>?_)
 ·have hc:(j:Int) < n:=lt_of hc
  have hjn:j < n:=by omega
  refine LS.skip ?_
  repeat refine xQ ?_
  refine LS.block ?_
  have hl:(List.replicate j c++List.replicate (n - j) (0:UInt8)).length=n:=by simp; omega
  repeat refine xQ ?_
  refine xG rfl ?_
  iterate 3 refine xP rfl rh rfl ?_
  refine xP rfl (e_index (j:=j) (sz:=1) rfl rfl rfl rfl rfl hjn) rfl ?_
  refine OS.write rfl (e_store 0 (n:=1) rfl rfl rfl rfl rfl rfl (lay_u8 c (by omega)) rfl) rfl ?_
  refine xN ?_
  repeat refine xQ ?_
  refine xG rfl ?_
  refine xP rfl rh rfl ?_
  refine xP rfl (e_addN (m:=j) (n:=1) rfl rfl rfl (in_i64 (by omega) (by omega))) rfl ?_
  refine xP rfl rh rfl ?_
  refine xN ?_
  refine ⟨n - (j+1),by omega,j+1,rfl,by omega,?_,rfl⟩
  congr 4
  rw [List.set_append_right _ _ (by simp),List.length_replicate,Nat.sub_self]
  obtain ⟨m,hm⟩:∃ m,n - j=m+1:=⟨n - j - 1,by omega⟩
  rw [hm,show n - (j+1)=m by omega,List.replicate_succ,List.set_cons_zero,List.replicate_succ',List.append_assoc]
  rfl
 ·have hc:=nlt_of hc
  have hje:j=n:=by omega
  subst hje
  refine LS.exit ?_
  rw [Nat.sub_self,List.replicate_zero,List.append_nil]
  repeat refine xQ ?_
  refine xG rfl ?_
  refine xP rfl rh rfl ?_
  refine xR rfl (e_text 0 rfl rfl rfl rfl rfl rfl rfl (cut_bytes (off:=0) (n:=j) (by simp)) (bytesOfB_cells _)) rfl ?_
  rw [List.drop_zero,List.take_of_length_le (by simp)]
  refine xP rfl rh rfl ?_
  refine xN ?_
  refine xT ⟨_,fun _ _=>rfl,?_⟩
  exact ⟨rfl,_,rfl⟩
theorem known_still {P:Program} {f:FuncId} {args:List Value} {h:AW} {v:Value} {Rest:RL} (hrest:∀ p,p∈Rest->h.get p.1=some p.2) (hnd:(Rest.map (·.1)).Nodup) (he:∀ p,p∈Rest->easyRow p.2=true)
  (c:CS P f args Rest fun u L'=>u=v/\L'=Rest) (hp:Am.plain v=true) :
  (∃ fn c,P.funcs[f]?=some fn/\fn.body=some c)/\∀ ρ us w,LRel ρ args us->HRel P ρ h w->Calls P f ⟨us⟩ w fun e w'=>∃ u ρ',e=.returned u/\VRel ρ' v u/\HRel P ρ' h w'/\Turn ρ h w ρ' h w':=by
 refine ⟨c.isFn hnd,fun ρ us w hus H=>?_⟩
 refine (CS.localRun (Rest:=Rest) c hnd hrest (fun v L' hR p hp=>by rw [hR.2]; exact hp) hus H).2.mono ?_
 rintro en w' ⟨u,L₁,x,ρ₁,hh₁,rfl,⟨rfl,rfl⟩,hv,H₁,T⟩
 have:=hv.plain_eq hp
 subst this
 obtain ⟨q1,q2⟩:=T.flat H hrest (fun p hp=>hp) he (fun p hp=>hp)
 exact ⟨_,ρ,rfl,.of_plain hp,q1,q2⟩
def repU:Nat->UInt8->Option (List UInt8)
 | 0,_=>some []
 | n+1,c=>match repU n c with
  | some bs=>some (c::bs)
  | none=>none
theorem repU_eq:∀ {n:Nat} {c:UInt8} {bs:List UInt8},repU n c=some bs->bs=List.replicate n c
 | 0,c,bs,h=>by simp only [repU,Option.some.injEq] at h; subst h; rfl
 | n+1,c,bs,h=>by
  simp only [repU] at h
  split at h
  ·rename_i us e
   simp only [Option.some.injEq] at h; subst h
   rw [repU_eq e]; rfl
  ·cases h
def textK (args:List Value) (h:AW):Option (Value × AW) :=
 match args with
 | [.int .i64 (.ofNat n),.int .u8 (.ofNat c)]=>match Nat.ble n 1000 && Nat.ble c 255,repU n (UInt8.ofNat c) with
  | true,some bs=>some (txt bs,h)
  | _,_=>none
 | _=>none
theorem textK_sound {args:List Value} {h h':AW} {v:Value} (k:textK args h=some (v,h')) :
  (∃ fn c,Tryz.prog.funcs[18]?=some fn/\fn.body=some c)/\∀ ρ us w,LRel ρ args us->HRel Tryz.prog ρ h w->Calls Tryz.prog 18 ⟨us⟩ w fun e w'=>∃ u ρ',e=.returned u/\VRel ρ' v u/\HRel Tryz.prog ρ' h' w'/\Turn ρ h w ρ' h' w':=by
 unfold textK at k
 split at k
 case h_2=>cases k
 rename_i n c
 split at k
 case h_2=>cases k
 rename_i bs hb hr
 simp only [Bool.and_eq_true] at hb
 have b1:=of_ble hb.1
 have b2:=of_ble hb.2
 have hr:=repU_eq hr
 subst hr
 simp only [Option.some.injEq,Prod.mk.injEq] at k
 obtain ⟨rfl,rfl⟩:=k
 have hc:(UInt8.ofNat c).toNat=c:=by rw [UInt8.toNat_ofNat']; omega
 have c1:=text_ct (L:=[]) n (UInt8.ofNat c) (by omega)
 rw [hc] at c1
 exact known_still (fun p hp=>by cases hp) (by simp) (fun p hp=>by cases hp) c1 rfl
def u8K:List Value->Option (List UInt8)
 | []=>some []
 | .int .u8 (.ofNat z)::xs=>match Nat.ble z 255,u8K xs with
  | true,some bs=>some (UInt8.ofNat z::bs)
  | _,_=>none
 | _::_=>none
theorem u8K_eq:∀ {cs:List Value} {bs:List UInt8},u8K cs=some bs->cs=byteCells bs
 | [],bs,h=>by simp only [u8K,Option.some.injEq] at h; subst h; rfl
 | c::cs,bs,h=>by
  cases c <;> first | (simp [u8K] at h; done) | skip
  rename_i k z
  cases k <;> first | (simp [u8K] at h; done) | skip
  cases z with
  | negSucc z=>simp [u8K] at h
  | ofNat z =>
   simp only [u8K] at h
   split at h
   case h_2=>cases h
   rename_i us hz e
   have hz:=of_ble hz
   simp only [Option.some.injEq] at h; subst h
   have:=u8K_eq e
   subst this
   have hc:(UInt8.ofNat z).toNat=z:=by rw [UInt8.toNat_ofNat']; omega
   simp only [byteCells,List.map_cons,hc]; rfl
def allZ:List UInt8->Bool
 | []=>true
 | b::bs=>match Nat.beq b.toNat 0 with
  | true=>allZ bs
  | false=>false
theorem allZ_eq:∀ (bs:List UInt8),allZ bs=bs.all (fun c=>c == 0)
 | []=>rfl
 | b::bs=>by
  simp only [allZ,List.all_cons]
  by_cases h:b=0
  ·subst h
   have:Nat.beq (0:UInt8).toNat 0=true:=rfl
   rw [this]; simp [allZ_eq bs]
  ·have h1:b.toNat≠0:=fun hh=>h (UInt8.toNat_inj.1 (by rw [hh]; rfl))
   rw [beq_false h1]; simp [h]
def blankK (args:List Value) (h:AW):Option (Value × AW) :=
 match args with
 | [.slice (some ⟨r,off,none⟩) n c]=>match getRow h r with
  | some (e,cs)=>match Nat.ble n 1000,cut cs off n with
   | true,some xs=>match u8K xs,u8K cs with
    | some bs,some _=>some (.bool (allZ bs),h)
    | _,_=>none
   | _,_=>none
  | none=>none
 | _=>none
theorem blankK_sound {args:List Value} {h h':AW} {v:Value} (k:blankK args h=some (v,h')) :
  (∃ fn c,Tryz.prog.funcs[95]?=some fn/\fn.body=some c)/\∀ ρ us w,LRel ρ args us->HRel Tryz.prog ρ h w->Calls Tryz.prog 95 ⟨us⟩ w fun e w'=>∃ u ρ',e=.returned u/\VRel ρ' v u/\HRel Tryz.prog ρ' h' w'/\Turn ρ h w ρ' h' w':=by
 unfold blankK at k
 split at k
 case h_2=>cases k
 rename_i r off n c
 split at k
 case h_2=>cases k
 rename_i e cs h1
 split at k
 case h_2=>cases k
 rename_i xs hn hx
 split at k
 case h_2=>cases k
 rename_i bs bs2 hb hb2
 have hn:=of_ble hn
 have hb:=u8K_eq hb
 have hb2:=u8K_eq hb2
 subst hb; subst hb2
 simp only [Option.some.injEq,Prod.mk.injEq] at k
 obtain ⟨rfl,rfl⟩:=k
 have hl:bs.length=n:=by have:=(cut_eq hx).2.2.1; rwa [byteCells_len] at this
 subst hl
 have hv:SV 1 [(r,ARow.cells e (byteCells bs2))] (.slice (some ⟨r,off,none⟩) bs.length c) bs.length (byteCells bs):=.inr ⟨r,off,c,_,_,rfl,List.mem_cons_self ..,rfl,by rw [Nat.mul_one]; exact hx⟩
 have c1:=blank_ct hv (by omega)
 rw [← allZ_eq] at c1
 exact known_still (fun p hp=>by simp only [List.mem_singleton] at hp; subst hp; exact getRow_eq h1) (by simp) (fun p hp=>by simp only [List.mem_singleton] at hp; subst hp; exact allFlat_easy (byteCells_flat _)) c1 rfl
def freeB:List Bool->Nat->Option Nat
 | [],n=>fn n
 | true::T,n=>freeB T n
 | false::T,n=>match fn (n+1) with
  | some m=>freeB T m
  | none=>none
theorem freeB_eq:∀ {T:List Bool} {n m:Nat},freeB T n=some m->m=n+frees T
 | [],n,m,h=>by have:=fn_eq h; subst this; simp [frees]
 | true::T,n,m,h=>by
  have:=freeB_eq (T:=T) h
  rw [this]; simp [frees]
 | false::T,n,m,h=>by
  simp only [freeB] at h
  split at h
  ·rename_i k hk
   have hk:=fn_eq hk
   have:=freeB_eq (T:=T) h
   rw [this,hk]; simp [frees]; omega
  ·cases h
def bitsB8 (z:Nat):Nat->Nat->Option (List Bool)
 | _,0=>some []
 | i,n+1=>match bitsB8 z (i+1) n,z.testBit i with
  | some l,true=>some (true::l)
  | some l,false=>some (false::l)
  | none,_=>none
def bitsL:List Value->Nat->Option (List Bool)
 | [],n=>match Nat.beq n 0 with | true=>some [] | false=>none
 | .int .u8 (.ofNat z)::cs,n=>match bitsB8 z 0 (Nat.min 8 n),bitsL cs (n - Nat.min 8 n) with
  | some a,some b=>join a b
  | _,_=>none
 | _::_,_=>none
def freeK (ft:TypeId) (args:List Value) (h:AW):Option (Value × AW) :=
 match args with
 | [.pointer (some ⟨rm,0,none⟩)]=>match getRow h rm with
  | some (e,[.int .i64 (.ofNat n),.slice (some ⟨rb,0,none⟩) m c])=>match getRow h rb,Nat.ble n 32768 with
   | some (e2,cs),true=>match bitsL cs n with
    | some T=>match Nat.beq T.length n,pk T with
     | true,bs=>match (Nat.beq e ft && (Nat.beq e2 5 && !(Nat.beq rm rb))) && ((Nat.beq m bs.length && Nat.beq c m) && cellsEq cs bs),freeB T 0 with
      | true,some k=>some (.int .i64 (.ofNat k),h)
      | _,_=>none
     | false,_=>none
    | none=>none
   | _,_=>none
  | _=>none
 | _=>none
theorem freeK_sound {args:List Value} {h h':AW} {v:Value} (k:freeK 131 args h=some (v,h')) :
  (∃ fn c,Tryz.prog.funcs[51]?=some fn/\fn.body=some c)/\∀ ρ us w,LRel ρ args us->HRel Tryz.prog ρ h w->Calls Tryz.prog 51 ⟨us⟩ w fun e w'=>∃ u ρ',e=.returned u/\VRel ρ' v u/\HRel Tryz.prog ρ' h' w'/\Turn ρ h w ρ' h' w':=by
 unfold freeK at k
 split at k
 case h_2=>cases k
 rename_i rm
 split at k
 case h_2=>cases k
 rename_i e n rb m c h1
 split at k
 case h_2=>cases k
 rename_i e2 cs h2 hn
 have hn:=of_ble hn
 split at k
 case h_2=>cases k
 rename_i T hT0
 split at k
 case h_2=>cases k
 rename_i bs hTl
 have hTl:=of_beq hTl
 split at k
 case h_2=>cases k
 rename_i kk hb hk
 have hk:=freeB_eq hk
 simp only [Bool.and_eq_true,Bool.not_eq_true'] at hb
 obtain ⟨⟨b1,b2,b3⟩,⟨b4,b5⟩,b6⟩:=hb
 have b1:=of_beq b1; have b2:=of_beq b2; have b3:=of_beq_f b3; have b4:=of_beq b4; have b5:=of_beq b5
 have hcs:=cellsEq_eq b6
 clear b6 hT0
 subst b1; subst b2; subst b5; subst b4; subst hTl; subst hcs
 simp only [Option.some.injEq,Prod.mk.injEq] at k
 obtain ⟨rfl,rfl⟩:=k
 rw [Nat.zero_add] at hk
 subst hk
 have c1:=Free_ct (F:=[]) (rm:=rm) (rb:=rb) (T:=T) hn
 refine known_still (Rest:=fm rm rb T []) (fun p hp=>?_) ?_ (fun p hp=>?_) c1 rfl
 ·rcases List.mem_cons.1 hp with rfl | hp
  ·exact getRow_eq h1
  ·simp only [List.mem_singleton] at hp; subst hp; exact getRow_eq h2
 ·simp [b3]
 ·rcases List.mem_cons.1 hp with rfl | hp
  ·have h5:(pk T).length≠openCap:=by rw [pk_len]; unfold openCap; omega
   simp only [easyRow,allEasy,easy,flat,beq_false h5,Bool.not_false,Bool.and_self]
  ·simp only [List.mem_singleton] at hp; subst hp
   exact allFlat_easy (byteCells_flat _)
def lib7:Known:=fun f args h =>
 match Nat.beq f 68 with
 | true=>insK 9 args h
 | false=>match Nat.beq f 71 with
  | true=>delK 9 args h
  | false=>match Nat.beq f 84 with
   | true=>sortK 83 117 3 args h
   | false=>match Nat.beq f 52 with
    | true=>listK 131 3 args h
    | false=>match Nat.beq f 18 with
     | true=>textK args h
     | false=>match Nat.beq f 95 with
      | true=>blankK args h
      | false=>match Nat.beq f 51 with
       | true=>freeK 131 args h
       | false=>none
theorem insK_sound {args:List Value} {h h':AW} {v:Value} (k:insK 9 args h=some (v,h')) :
  (∃ fn c,Tryz.prog.funcs[68]?=some fn/\fn.body=some c)/\∀ ρ us w,LRel ρ args us->HRel Tryz.prog ρ h w->Calls Tryz.prog 68 ⟨us⟩ w fun e w'=>∃ u ρ',e=.returned u/\VRel ρ' v u/\HRel Tryz.prog ρ' h' w'/\Turn ρ h w ρ' h' w':=by
 unfold insK at k
 split at k
 case h_2=>cases k
 rename_i r n c z rv
 split at k
 case h_2=>cases k
 rename_i e1 cs e2 x h1 h2
 split at k
 case h_2=>cases k
 rename_i cs' hb hi
 simp only [Bool.and_eq_true,Bool.not_eq_true'] at hb
 obtain ⟨⟨⟨b1,b2⟩,b3,b4,b5⟩,⟨b6,b7⟩,b8,b9⟩:=hb
 have b1:=of_beq b1; have b2:=of_beq b2; have b3:=of_beq_f b3; have b4:=of_beq b4; have b5:=ileB_iff.1 b5; have b6:=of_beq b6; have b7:=of_ble b7
 subst b1; subst b2; subst b4
 obtain ⟨i,rfl⟩:=Int.eq_ofNat_of_zero_le b5
 rw [Int.toNat_natCast] at hi
 obtain ⟨hi1,rfl⟩:=insO_eq hi
 have c1:=InsertS_ct (F:=[(rv,.cells 9 [x])]) (Y:=[(r,.cells 9 cs)]) (x:=x) (i:=i) (n:=n) (rv:=rv) (v:=.slice (some ⟨r,0,none⟩) n openCap) (.inr ⟨r,rfl,by omega,rfl⟩) (by omega) (by omega) (flat_one b9) (allFlat_one b8) (List.mem_cons_self ..) (fun p hp=>by simp only [List.mem_singleton] at hp; subst hp; exact b3)
 exact known_list (sz:=1) (getRow_eq h1) (fun p hp=>by simp only [List.mem_singleton] at hp; subst hp; exact getRow_eq h2) (by simp [b3]) (fun p hp=>by simp only [List.mem_singleton] at hp; subst hp; simp [easyRow,allEasy,easy_flat b9]) c1 rfl (ins_flat b8 b9) k
theorem delK_sound {args:List Value} {h h':AW} {v:Value} (k:delK 9 args h=some (v,h')) :
  (∃ fn c,Tryz.prog.funcs[71]?=some fn/\fn.body=some c)/\∀ ρ us w,LRel ρ args us->HRel Tryz.prog ρ h w->Calls Tryz.prog 71 ⟨us⟩ w fun e w'=>∃ u ρ',e=.returned u/\VRel ρ' v u/\HRel Tryz.prog ρ' h' w'/\Turn ρ h w ρ' h' w':=by
 unfold delK at k
 split at k
 case h_2=>cases k
 rename_i r n c z z2
 split at k
 case h_2=>cases k
 rename_i e1 cs h1
 split at k
 case h_2=>cases k
 rename_i cs' hb hi
 simp only [Bool.and_eq_true] at hb
 obtain ⟨⟨b1,b4,b5⟩,⟨b6,b7⟩,b8,b9⟩:=hb
 have b1:=of_beq b1; have b4:=of_beq b4; have b5:=ileB_iff.1 b5; have b6:=of_beq b6; have b7:=of_ble b7
 subst b1; subst b4
 obtain ⟨i,rfl⟩:=Int.eq_ofNat_of_zero_le b5
 rw [Int.toNat_natCast] at hi
 obtain ⟨hi1,rfl⟩:=erO_eq hi
 rw [ieqB_eq] at b9
 have b9:z2=((i+1:Nat):Int):=by simpa using b9
 subst b9
 have c1:=DeleteS_ct (F:=[]) (Y:=[(r,.cells 9 cs)]) (i:=i) (n:=n) (v:=.slice (some ⟨r,0,none⟩) n openCap) (.inr ⟨r,rfl,by omega,rfl⟩) (by omega) (by omega) (allFlat_one b8)
 exact known_list (sz:=1) (getRow_eq h1) (fun p hp=>by cases hp) (by simp) (fun p hp=>by cases hp) c1 rfl (er_flat b8) k
theorem keys_small {g:Nat->Option Value} {es:List MapEntry} {ck:Nat} (hM:MP es ck g):∀ ks:List Nat,ks.Nodup->(∀ k,k∈ks->g k≠none)->ks.length<=es.length:=by
 obtain ⟨D,rfl,hD⟩:=hM
 intro ks hn hk
 have:=nodup_le (A:=ks) (B:=D.map (·.1)) hn (fun k hkk=>by
  cases hg:g k with
  | none=>exact absurd hg (hk k hkk)
  | some v=>obtain ⟨b,hb⟩:=(hD.is k v).1 hg; exact List.mem_map.2 ⟨_,hb,rfl⟩)
 simpa using this
theorem sortK_sound {args:List Value} {h h':AW} {v:Value} (k:sortK 83 117 3 args h=some (v,h')) :
  (∃ fn c,Tryz.prog.funcs[84]?=some fn/\fn.body=some c)/\∀ ρ us w,LRel ρ args us->HRel Tryz.prog ρ h w->Calls Tryz.prog 84 ⟨us⟩ w fun e w'=>∃ u ρ',e=.returned u/\VRel ρ' v u/\HRel Tryz.prog ρ' h' w'/\Turn ρ h w ρ' h' w':=by
 unfold sortK at k
 split at k
 case h_2=>cases k
 rename_i f2 a b
 split at k
 case h_2=>cases k
 rename_i rb ha hb hf
 have hf:=of_beq hf
 subst hf
 have ha':a=#[]:=Array.toList_inj.1 (by rw [ha])
 have hb':b=#[ptr rb]:=Array.toList_inj.1 (by rw [hb])
 subst ha'; subst hb'
 split at k
 case h_2=>cases k
 rename_i e rm h1
 split at k
 case h_3=>cases k
 ·rename_i ck he h2
  have he:=of_beq he
  subst he
  simp only [Option.some.injEq,Prod.mk.injEq] at k
  obtain ⟨rfl,rfl⟩:=k
  have hne:rb≠rm:=fun hh=>by
   have h3:=getRow_eq h1
   rw [hh,h2] at h3; cases h3
  have hM:MP [] ck (fun _=>none):=⟨[],rfl,List.nodup_nil,List.nodup_nil,fun _ h=>(by cases h),fun k v=>⟨fun h=>(by cases h),fun ⟨b,h⟩=>(by cases h)⟩⟩
  have c1:=Sorted_ct (F:=[]) (rb:=rb) (rm:=rm) hM (B:=0) (fun ks hn hk=>by simpa using keys_small hM ks hn hk) (by omega)
  have hL:∀ p,p∈[(rb,mbRow rm),(rm,ARow.map [] ck)]->h.get p.1=some p.2:=fun p hp=>by
   rcases List.mem_cons.1 hp with rfl | hp
   ·exact getRow_eq h1
   ·simp only [List.mem_singleton] at hp; subst hp; exact h2
  have hnd:([(rb,mbRow rm),(rm,ARow.map [] ck)].map (·.1)).Nodup:=by simp [hne]
  have hE:∀ p,p∈[(rb,mbRow rm),(rm,ARow.map [] ck)]->easyRow p.2=true:=fun p hp=>by
   rcases List.mem_cons.1 hp with rfl | hp
   ·rfl
   ·simp only [List.mem_singleton] at hp; subst hp; rfl
  refine ⟨c1.isFn hnd,fun ρ us w hus H=>?_⟩
  have c2:=c1.mono (R':=fun u L'=>u=.slice none 0 0/\L'=[(rb,mbRow rm),(rm,ARow.map [] ck)]) (fun u L' ⟨ks,⟨_,hk⟩,hnl,hg⟩=>by
   have hk0:ks=[]:=by
    cases ks with
    | nil=>rfl
    | cons x xs=>exact absurd rfl ((hk x).1 (List.mem_cons_self ..))
   have hu:=hnl hk0
   subst hu
   rcases hg with ⟨_,_,_,rfl⟩ | ⟨r,hh,_⟩
   ·exact ⟨rfl,rfl⟩
   ·cases hh)
  refine (CS.localRun (Rest:=[(rb,mbRow rm),(rm,ARow.map [] ck)]) c2 hnd hL (fun v L' hR p hp=>by rw [hR.2]; exact hp) hus H).2.mono ?_
  rintro en w' ⟨u,L₁,x,ρ₁,hh₁,rfl,⟨rfl,rfl⟩,hv,H₁,T⟩
  cases hv
  obtain ⟨q1,q2⟩:=T.flat H hL (fun p hp=>hp) hE (fun p hp=>hp)
  exact ⟨_,ρ,rfl,.sliceNil,q1,q2⟩
 ·rename_i kk v1 b1 ck he h2
  have he:=of_beq he
  subst he
  split at k
  case h_2=>cases k
  rename_i hb1
  simp only [Bool.and_eq_true,Bool.not_eq_true'] at hb1
  obtain ⟨e1,e2,e3⟩:=hb1
  have e2:=of_ble e2
  have hne:=of_beq_f e3
  split at k
  case h_2=>cases k
  rename_i q h₂ hnew
  simp only [Option.some.injEq,Prod.mk.injEq] at k
  obtain ⟨rfl,rfl⟩:=k
  have hM:MP [⟨.int .i64 (.ofNat kk),v1,b1⟩] ck (updF (fun _=>none) kk (some v1)):=by
   refine ⟨[(kk,v1,b1)],rfl,by simp,by simp,fun p hp=>by simp only [List.mem_singleton] at hp; subst hp; simp only; omega,fun k v=>?_⟩
   unfold updF
   by_cases hk:k=kk
   ·subst hk
    simp
    exact eq_comm
   ·simp [hk]
  have c1:=Sorted_ct (F:=[]) (rb:=rb) (rm:=rm) hM (B:=1) (fun ks hn hk=>by simpa using keys_small hM ks hn hk) (by omega)
  have hL:∀ p,p∈[(rb,mbRow rm),(rm,ARow.map [⟨.int .i64 (.ofNat kk),v1,b1⟩] ck)]->h.get p.1=some p.2:=fun p hp=>by
   rcases List.mem_cons.1 hp with rfl | hp
   ·exact getRow_eq h1
   ·simp only [List.mem_singleton] at hp; subst hp; exact h2
  have hnd:([(rb,mbRow rm),(rm,ARow.map [⟨.int .i64 (.ofNat kk),v1,b1⟩] ck)].map (·.1)).Nodup:=by simp [hne]
  have hE:∀ p,p∈[(rb,mbRow rm),(rm,ARow.map [⟨.int .i64 (.ofNat kk),v1,b1⟩] ck)]->easyRow p.2=true:=fun p hp=>by
   rcases List.mem_cons.1 hp with rfl | hp
   ·rfl
   ·simp only [List.mem_singleton] at hp; subst hp; simp only [easyRow,List.map_cons,List.map_nil,allEasy,e1,Bool.and_true]; rfl
  refine ⟨c1.isFn hnd,fun ρ us w hus H=>?_⟩
  have c2:=c1.mono (R':=fun u L'=>∃ r',u=.slice (some ⟨r',0,none⟩) 1 openCap/\L'=(r',.cells 3 [.int .i64 (.ofNat kk)])::[(rb,mbRow rm),(rm,ARow.map [⟨.int .i64 (.ofNat kk),v1,b1⟩] ck)]) (fun u L' ⟨ks,⟨hp,hk⟩,hnl,hg⟩=>by
   have hmem:∀ k,k∈ks↔k=kk:=fun k=>by
    rw [hk]; unfold updF
    by_cases h:k=kk <;> simp [h]
   have hk1:ks=[kk]:=by
    match ks,hp,hmem with
    | [],_,hmem=>exact absurd ((hmem kk).2 rfl) (by simp)
    | [x],_,hmem=>rw [(hmem x).1 (by simp)]
    | x::y::l,hp,hmem =>
     have h1:=(hmem x).1 (by simp)
     have h2:=(hmem y).1 (by simp)
     simp only [List.pairwise_cons,List.mem_cons,forall_eq_or_imp] at hp
     omega
   subst hk1
   rcases hg with ⟨_,h0,_⟩ | ⟨r,rfl,_,rfl⟩
   ·cases h0
   ·exact ⟨r,rfl,rfl⟩)
  refine (CS.localRun (Rest:=[(rb,mbRow rm),(rm,ARow.map [⟨.int .i64 (.ofNat kk),v1,b1⟩] ck)]) c2 hnd hL (fun v L' ⟨r',_,hR⟩ p hp=>by rw [hR]; exact List.mem_cons_of_mem _ hp) hus H).2.mono ?_
  rintro en w' ⟨u,L₁,x,ρ₁,hh₁,rfl,⟨r',rfl,rfl⟩,hv,H₁,T⟩
  have hr':hh₁.get r'=some (.cells 3 ([.int .i64 (.ofNat kk)]++[])):=H₁.get (r',_) (List.mem_cons_self ..)
  have hne':∀ p,p∈[(rb,mbRow rm),(rm,ARow.map [⟨.int .i64 (.ofNat kk),v1,b1⟩] ck)]->p.1≠r':=fun p hp hh=>by
   have:=H₁.nd
   rw [List.map_cons,List.nodup_cons] at this
   exact this.1 (List.mem_map.2 ⟨p,hp,hh⟩)
  obtain ⟨ρ',p1,p2,p3⟩:=T.list (D:=[]) (sz:=1) (h0:=h) H hL (fun p hp=>.inr hp) hE (fun p hp=>hp) hr' hne' hv rfl rfl (.inl rfl) rfl (fun m=>by simp) rfl rfl hnew
  exact ⟨x,ρ',rfl,p1,p2,p3⟩
theorem lib7_sound:Sound Tryz.prog lib7:=by
 intro f args h v h' k
 unfold lib7 at k
 split at k
 ·rename_i hb
  have:=of_beq hb; subst this
  exact insK_sound k
 ·split at k
  ·rename_i hb
   have:=of_beq hb; subst this
   exact delK_sound k
  ·split at k
   ·rename_i hb
    have:=of_beq hb; subst this
    exact sortK_sound k
   ·split at k
    ·rename_i hb
     have:=of_beq hb; subst this
     exact listK_sound k
    ·split at k
     ·rename_i hb
      have:=of_beq hb; subst this
      exact textK_sound k
     ·split at k
      ·rename_i hb
       have:=of_beq hb; subst this
       exact blankK_sound k
      ·split at k
       ·rename_i hb
        have:=of_beq hb; subst this
        exact freeK_sound k
       ·cases k
end Go.Proofs.YtlmmddfhoabjfaaGreat
end
section
namespace Go.Proofs.YtlmmddfhoabjfaaGreat
open Go.Am
theorem works_run:answersTrue Tryz.prog lib7 3000 60 8=true:=by kernel_rfl
theorem works_ct {L:RL}:CS Tryz.prog 8 [] L fun v L'=>v=.bool true/\L'=L:=by
 have e:=works_run
 unfold answersTrue at e
 split at e
 ·rename_i b h' hcall
  subst e
  exact CS.closed noGo mixed lib7_sound rfl rfl hcall
 ·cases e
end Go.Proofs.YtlmmddfhoabjfaaGreat
end
section
namespace Go.Proofs.YtlmmddfhoabjfaaGreat
open Go.Am
theorem in3 {I G M:RL} {p:Nat × ARow} (h:p∈M):p∈I++(G++M):=List.mem_append_right _ (List.mem_append_right _ h)
theorem TR.under {c:Cfg} {G X:RL} {s:TSt} {L:RL} (h:TR c G X s L):∃ Z,Sub (G++Z) L:=by
 obtain ⟨T,es,ck,ws,wk,hN,rfl,hp⟩:=h
 refine ⟨HD c.rf c.rb c.rt c.rn c.rw T s.root s.cnt c.root0 c.cnt0 es ck ws wk X,Sub.sums fun f=>?_⟩
 simp [HD,fm]<;>omega
theorem TI.start {c:Cfg} {G X I M L:RL} {s:TSt} {iv:Value} {N:Nat} {vs:List Value} {imgs:List Tx} (h:TR c G X s L) (gi:GV 30 1 [] iv N vs I) (him:ImgV M N vs imgs):∃ L',TI c N I [] (M++G) X iv vs imgs s L'/\Sub L' (I++(M++L)):=by
 obtain ⟨L',h',s'⟩:=TR.pushs (I++M) h
 rw [List.append_assoc] at h' s'
 exact ⟨L',⟨h',gi,him.mono fun p hp=>List.mem_append_left _ hp⟩,s'⟩
theorem used_le {N:Nat} {m:Mem}:(usedL N m).length<=N:=by
 have:=used_frees (N:=N) (m:=m)
 omega
set_option maxHeartbeats 4000000 in
theorem backT_ct {L:RL} {v1 v2:Value} {n1 n2:Nat} {ts1 ts2:List Sk} (hl1:SV 3 L v1 n1 (ts1.flatMap Sk.cells)) (hl2:SV 3 L v2 n2 (ts2.flatMap Sk.cells)) (hok1:∀ t∈ts1,t.ok) (hok2:∀ t∈ts2,t.ok) (hn1:n1<=9223372036854775807) (hn2:n2<=9223372036854775807) :
  CS Tryz.prog 6 [v1,v2] L fun u _=>u=.bool true:=by
 refine CS.mk (fn:=Tryz.f6) rfl rfl rfl rfl ?_
 repeat refine xQ ?_
 refine xG rfl ?_
 refine xP rfl rh rfl ?_
 refine xN ?_
 repeat refine xQ ?_
 refine LS.mid [0,1,22] (fun a' L'=>∃ b:Bool,(b=false->n1<=800/\n2<=800)/\L'=L/\a'=[v1,v2,jn,jn,jn,jn,jn,jn,jn,jn,jn,jn,jn,jn,jn,jn,jn,jn,jn,jn,jn,jn,.bool b,jn,jn,jn,jn,jn,jn,jn,jn,jn,jn,jn,jn,jn,jn,jn,jn,jn,jn,jn,jn,jn,jn,jn,jn,jn,jn,jn,jn,jn,jn,jn,jn,jn,jn,jn,jn,jn,jn,jn,jn,jn,jn,jn,jn,jn,jn,jn,jn,jn,jn,jn,jn,jn,jn,jn,jn,jn,jn,jn,jn,jn,jn,jn,jn,jn,jn,jn,jn,jn,jn,jn,jn,jn,jn,jn,jn,jn,jn,jn,jn,jn,jn,jn,jn,jn,jn,jn,jn,jn,jn,jn,jn,jn,jn]) ?_ ?_
 ·refine xG rfl ?_
  refine xA noGo rfl (fun _=>rfl) ((works_ct).mono ?_)
  rintro u L' ⟨rfl,hLL⟩
  have hLL:=hLL.symm
  subst hLL
  refine ⟨_,rfl,?_⟩
  iterate 3 refine xP rfl rh rfl ?_
  refine xA noGo rfl (fun _=>rfl) ((long_ct hl1 hok1 hn1).mono ?_)
  rintro u L' ⟨b,rfl,hLL,hb⟩
  have hLL:=hLL.symm
  subst hLL
  refine ⟨_,rfl,?_⟩
  cases b with
  | true =>
   iterate 2 refine xP rfl rh rfl ?_
   iterate 2 refine xK rfl rfl ?_
   refine xP rfl rh rfl ?_
   refine xN ?_
   exact ⟨true,fun h=>(by cases h),rfl,rfl⟩
  | false =>
   iterate 3 refine xP rfl rh rfl ?_
   refine xA noGo rfl (fun _=>rfl) ((long_ct hl2 hok2 hn2).mono ?_)
   rintro u L' ⟨b2,rfl,hLL,hb2⟩
   have hLL:=hLL.symm
   subst hLL
   refine ⟨_,rfl,?_⟩
   refine xP rfl rh rfl ?_
   refine xN ?_
   exact ⟨b2,fun h=>⟨hb rfl,hb2 h⟩,rfl,rfl⟩
 rintro a' L' ⟨b,hb,hLL,rfl⟩
 have hLL:=hLL.symm
 subst hLL
 cases b
 case true =>
  repeat refine xQ ?_
  refine xC rfl (fun hc=>?_) (fun hc=>?_)
  ·repeat refine xQ ?_
   refine xG rfl ?_
   refine xA noGo rfl (fun _=>rfl) ((works_ct).mono ?_)
   rintro u L' ⟨rfl,rfl⟩
   refine ⟨_,rfl,?_⟩
   refine xP rfl rh rfl ?_
   refine xN ?_
   refine xT ⟨_,fun _ _=>rfl,?_⟩
   rfl
  ·cases hc
 obtain ⟨h1,h2⟩:=hb rfl
 repeat refine xQ ?_
 refine xC rfl (fun hc=>?_) (fun hc=>?_)
 ·cases hc
 refine LS.skip ?_
 repeat refine xQ ?_
 refine xG rfl ?_
 refine xA noGo rfl (fun _=>rfl) ((tNew_ct 300 (by omega)).mono ?_)
 rintro u L1 ⟨ro,rf,rb,rt,rn,rw',rfl,htr⟩
 refine ⟨_,rfl,?_⟩
 iterate 5 refine xP rfl rh rfl ?_
 refine xN ?_
 repeat refine xQ ?_
 refine xG rfl ?_
 iterate 2 refine xP rfl rh rfl ?_
 refine xN ?_
 repeat refine xQ ?_
 refine xC rfl (fun hc=>?_) (fun hc=>?_)
 ·cases hc
 refine LS.skip ?_
 repeat refine xQ ?_
 refine xG rfl ?_
 iterate 2 refine xP rfl rh rfl ?_
 refine xA noGo rfl (fun _=>rfl) ((doS_ct htr (List.mem_cons_self ..) good_00 rfl (hl1.mono fun p hp=>List.mem_cons_of_mem _ hp) hok1 h1 (by simp)).mono ?_)
 rintro u L2 ⟨X2,m2,root2,P2,htr2,hg2,hP2⟩
 simp only [List.length_nil] at hP2
 refine ⟨_,rfl,?_⟩
 refine xN ?_
 repeat refine xQ ?_
 refine xG rfl ?_
 refine xA noGo rfl (fun _=>rfl) ((blankP_ct 300 (by omega)).mono ?_)
 rintro iv L3 ⟨vs,I,M0,rfl,gi,him⟩
 refine ⟨_,rfl,?_⟩
 refine xP rfl rh rfl ?_
 refine xN ?_
 obtain ⟨L3,hti,hsub⟩:=TI.start htr2 gi him
 refine LS.sub hsub ?_
 have hro:(ro,toRow rt)∈M0++((ro,toRow rt)::L):=by simp
 have hLM:∀ p,p∈L->p∈M0++((ro,toRow rt)::L):=fun p hp=>by simp [hp]
 generalize M0++((ro,toRow rt)::L)=M at hti hro hLM
 clear hsub htr htr2 gi him
 repeat refine xQ ?_
 refine xG rfl ?_
 iterate 2 refine xP rfl rh rfl ?_
 refine xA noGo rfl (fun _=>rfl) ((tDirty_ct hti.1 (hti.memM _ hro) hg2).mono ?_)
 rintro u L' ⟨ks,cs,Y,D,hch,rfl,hv,hp⟩
 obtain ⟨hf1,hf2,hf3⟩:=dirty_fine hti.1 hg2 hch
 refine ⟨_,rfl,?_⟩
 refine xA noGo rfl (fun _=>rfl) ((over_tr hti hv hp hf1 hf2 (by decide) (by omega)).mono ?_)
 rintro u L4 ⟨rfl,I2,M2,vs2,hM2,hti2⟩
 have hio:=over_ok (N:=300) (imgs:=List.replicate 300 zpg) img_00 hch hg2.fits hti.1.dom (by simp)
 refine ⟨_,rfl,?_⟩
 iterate 3 refine xP rfl rh rfl ?_
 refine xA noGo rfl (fun _=>rfl) ((tClean_ct hti2.1 (in3 (hM2 _ hro))).mono ?_)
 rintro u L5 ⟨w5,rfl,htr5⟩
 refine ⟨_,rfl,?_⟩
 iterate 2 refine xP rfl rh rfl ?_
 refine xN ?_
 repeat refine xQ ?_
 refine xC rfl (fun hc=>?_) (fun hc=>?_)
 ·cases hc
 refine LS.skip ?_
 have hti5:TI _ 300 I2 [] M2 _ iv vs2 _ _ L5:=⟨htr5,hti2.2⟩
 have hro5:=hM2 _ hro
 have hLM5:∀ p,p∈L->p∈M2:=fun p hp=>hM2 _ (hLM p hp)
 clear htr5 hti hti2 hv hp hf1 hf2 hf3 hch hM2 hro hLM
 repeat refine xQ ?_
 refine xG rfl ?_
 refine xP rfl rh rfl ?_
 refine xA noGo rfl (fun _=>rfl) ((tRange_ct (fr:=[]) (to:=[]) hti5.1 (hti5.memM _ hro5) hg2 rfl (by omega)).mono ?_)
 rintro u L' ⟨Y1,rfl,hv1⟩
 rw [rng_all] at hv1
 refine ⟨_,rfl,?_⟩
 refine xA noGo rfl (fun _=>rfl) ((pairsL_ct (hv1.sv.mono fun q hq=>List.mem_append_left _ hq) (by omega)).mono ?_)
 rintro pv L' ⟨Y2,rfl,hv2⟩
 refine ⟨_,rfl,?_⟩
 refine xP rfl rh rfl ?_
 refine xN ?_
 obtain ⟨L6,hti6,s6⟩:=hti5.add (Y2++Y1)
 rw [List.append_assoc] at s6
 refine LS.sub s6 ?_
 have hpv:SV 2 ((Y2++Y1)++M2) pv P2.length (prC P2):=hv2.sv.mono fun q hq=>by simp [hq]
 have hro6:(ro,toRow rt)∈(Y2++Y1)++M2:=List.mem_append_right _ hro5
 have hLM6:∀ p,p∈L->p∈(Y2++Y1)++M2:=fun p hp=>List.mem_append_right _ (hLM5 p hp)
 generalize (Y2++Y1)++M2=M6 at hti6 hpv hro6 hLM6
 clear hti5 s6 hv1 hv2 hro5 hLM5
 repeat refine xQ ?_
 refine xG rfl ?_
 refine xP rfl rh rfl ?_
 refine xA noGo rfl (fun _=>rfl) ((tUsed_ct hti6.1 (hti6.memM _ hro6)).mono ?_)
 rintro uv L' ⟨Y3,rfl,hv3⟩
 refine ⟨_,rfl,?_⟩
 refine xP rfl rh rfl ?_
 refine xN ?_
 obtain ⟨L7,hti7,s7⟩:=hti6.add Y3
 refine LS.sub s7 ?_
 have huv:SV 1 (Y3++M6) uv (usedL 300 m2).length (ints (usedL 300 m2)):=hv3.sv.mono fun q hq=>List.mem_append_left _ hq
 have hpv7:SV 2 (Y3++M6) pv P2.length (prC P2):=hpv.mono fun q hq=>List.mem_append_right _ hq
 have hro7:(ro,toRow rt)∈Y3++M6:=List.mem_append_right _ hro6
 have hLM7:∀ p,p∈L->p∈Y3++M6:=fun p hp=>List.mem_append_right _ (hLM6 p hp)
 generalize Y3++M6=M7 at hti7 huv hpv7 hro7 hLM7
 clear hti6 s7 hv3 hro6 hLM6 hpv
 repeat refine xQ ?_
 refine xG rfl ?_
 refine xP rfl rh rfl ?_
 refine xA noGo rfl (fun _=>rfl) ((tRoot_ct hti7.1 (hti7.memM _ hro7)).mono ?_)
 rintro u L' ⟨rfl,hLL⟩
 have hLL:=hLL.symm
 subst hLL
 refine ⟨_,rfl,?_⟩
 refine xP rfl rh rfl ?_
 refine xN ?_
 repeat refine xQ ?_
 refine xG rfl ?_
 iterate 2 refine xP rfl rh rfl ?_
 refine xA noGo rfl (fun _=>rfl) ((doS_ct hti7.1 (in3 hro7) hg2 rfl (hl2.mono fun p hp=>in3 (hLM7 p hp)) hok2 h2 (by omega)).mono ?_)
 rintro u L8 ⟨X8,m8,root8,P8,htr8,hg8,hP8⟩
 refine ⟨_,rfl,?_⟩
 refine xN ?_
 repeat refine xQ ?_
 refine xG rfl ?_
 refine xP rfl rh rfl ?_
 refine xA noGo rfl (fun _=>rfl) ((tBack_ct htr8 (in3 hro7)).mono ?_)
 rintro u L9 ⟨w9,rfl,htr9⟩
 have hti9:TI _ 300 I2 [] M7 X8 iv vs2 _ _ L9:=⟨htr9,hti7.2⟩
 clear htr9 htr8 hti7 hg8 hP8
 refine ⟨_,rfl,?_⟩
 iterate 3 refine xP rfl rh rfl ?_
 refine xA noGo rfl (fun _=>rfl) ((tRange_ct (fr:=[]) (to:=[]) hti9.1 (hti9.memM _ hro7) hg2 rfl (by omega)).mono ?_)
 rintro u L' ⟨Y1,rfl,hv1⟩
 rw [rng_all] at hv1
 refine ⟨_,rfl,?_⟩
 refine xA noGo rfl (fun _=>rfl) ((pairsL_ct (hv1.sv.mono fun q hq=>List.mem_append_left _ hq) (by omega)).mono ?_)
 rintro qv L' ⟨Y2,rfl,hv2⟩
 refine ⟨_,rfl,?_⟩
 refine xP rfl rh rfl ?_
 refine xA noGo rfl (fun _=>rfl) ((Same_ct (hv2.sv.mono fun q hq=>List.mem_append_left _ hq) (hpv7.mono fun q hq=>List.mem_append_right _ (List.mem_append_right _ (hti9.memM _ hq))) (by omega)).mono ?_)
 rintro u L' ⟨rfl,rfl⟩
 refine ⟨_,rfl,?_⟩
 refine OS.sub (Sub.suffix.trans Sub.suffix) ?_
 iterate 4 refine xP rfl rh rfl ?_
 refine xA noGo rfl (fun _=>rfl) ((tUsed_ct hti9.1 (hti9.memM _ hro7)).mono ?_)
 rintro u L' ⟨Y3,rfl,hv3⟩
 refine ⟨_,rfl,?_⟩
 refine xP rfl rh rfl ?_
 refine xA noGo rfl (fun _=>rfl) ((Ints_ct (xs:=usedL 300 m2) (hv3.sv.mono fun q hq=>List.mem_append_left _ hq) (huv.mono fun q hq=>List.mem_append_right _ (hti9.memM _ hq)) (by have:=used_le (N:=300) (m:=m2); omega)).mono ?_)
 rintro u L' ⟨rfl,rfl⟩
 refine ⟨_,rfl,?_⟩
 refine OS.sub Sub.suffix ?_
 iterate 4 refine xP rfl rh rfl ?_
 refine xA noGo rfl (fun _=>rfl) ((tRoot_ct hti9.1 (hti9.memM _ hro7)).mono ?_)
 rintro u L' ⟨rfl,hLL⟩
 have hLL:=hLL.symm
 subst hLL
 refine ⟨_,rfl,?_⟩
 refine xP rfl rh rfl ?_
 refine xP rfl (e_ib rh ((ne_same _))) rfl ?_
 iterate 3 refine xP rfl rh rfl ?_
 refine xA noGo rfl (fun _=>rfl) ((tLen_ct hti9.1 (hti9.memM _ hro7)).mono ?_)
 rintro u L' ⟨rfl,hLL⟩
 have hLL:=hLL.symm
 subst hLL
 refine ⟨_,rfl,?_⟩
 refine xP rfl rh rfl ?_
 refine xP rfl (e_len (hpv7.mono hti9.memM) rfl rfl rfl rfl rfl) rfl ?_
 refine xP rfl (e_ib rh ((ne_same _))) rfl ?_
 iterate 3 refine xP rfl rh rfl ?_
 refine xA noGo rfl (fun _=>rfl) ((tDirty_ct hti9.1 (hti9.memM _ hro7) hg2).mono ?_)
 rintro u L' ⟨ks,cs,Y,D,hch,rfl,hv,hp⟩
 have hks:=chg_same hch
 subst hks
 have hv0:SV 2 (Y++(D++L9)) u 0 cs:=hv.sv.mono fun q hq=>List.mem_append_left _ hq
 refine ⟨_,rfl,?_⟩
 refine xP rfl (e_len hv0 rfl rfl rfl rfl rfl) rfl ?_
 refine OS.sub (Sub.suffix.trans Sub.suffix) ?_
 iterate 2 refine xP rfl rh rfl ?_
 refine xN ?_
 repeat refine xQ ?_
 refine xC rfl (fun hc=>?_) (fun hc=>?_)
 ·cases hc
 refine LS.skip ?_
 clear hch hv hp hv0 hv1 hv2 hv3 huv hpv7
 repeat refine xQ ?_
 refine xG rfl ?_
 iterate 2 refine xP rfl rh rfl ?_
 refine xA noGo rfl (fun _=>rfl) ((doS_ct hti9.1 (in3 hro7) hg2 rfl (hl2.mono fun p hp=>in3 (hLM7 p hp)) hok2 h2 (by omega)).mono ?_)
 rintro u LA ⟨XA,mA,rootA,PA,htrA,hgA,hPA⟩
 refine ⟨_,rfl,?_⟩
 refine xN ?_
 have htiA:TI _ 300 I2 [] M7 XA iv vs2 _ _ LA:=⟨htrA,hti9.2⟩
 clear htrA hti9
 repeat refine xQ ?_
 refine xG rfl ?_
 iterate 2 refine xP rfl rh rfl ?_
 refine xA noGo rfl (fun _=>rfl) ((tDirty_ct htiA.1 (htiA.memM _ hro7) hgA).mono ?_)
 rintro u L' ⟨ks,cs,Y,D,hch,rfl,hv,hp⟩
 obtain ⟨hf1,hf2,hf3⟩:=dirty_fine htiA.1 hgA hch
 refine ⟨_,rfl,?_⟩
 refine xA noGo rfl (fun _=>rfl) ((over_tr htiA hv hp hf1 hf2 (by decide) (by omega)).mono ?_)
 rintro u LB ⟨rfl,IB,MB,vsB,hMB,htiB⟩
 have hioB:=over_ok (N:=300) hio hch hgA.fits htiA.1.dom (by rw [overI_len]; simp)
 refine ⟨_,rfl,?_⟩
 refine xP rfl rh rfl ?_
 refine xN ?_
 repeat refine xQ ?_
 refine xC rfl (fun hc=>?_) (fun hc=>?_)
 ·cases hc
 refine LS.skip ?_
 have hroB:=hMB _ hro7
 clear hv hp hf1 hf2 hf3 hch htiA
 repeat refine xQ ?_
 refine xG rfl ?_
 refine xP rfl rh rfl ?_
 refine xA noGo rfl (fun _=>rfl) ((tRoot_ct htiB.1 (htiB.memM _ hroB)).mono ?_)
 rintro u L' ⟨rfl,hLL⟩
 have hLL:=hLL.symm
 subst hLL
 refine ⟨_,rfl,?_⟩
 refine xP rfl rh rfl ?_
 refine xA noGo rfl (fun _=>rfl) ((open_tr htiB rfl hgA hioB).mono ?_)
 rintro u LC ⟨ro2,c2,XC,rfl,hcN,hcm,hcr,hcc,htrC⟩
 refine ⟨_,rfl,?_⟩
 iterate 5 refine xP rfl rh rfl ?_
 refine xN ?_
 have hroC:=htrC.memG (ro2,toRow c2.rt) (List.mem_cons_self ..)
 repeat refine xQ ?_
 refine xG rfl ?_
 iterate 4 refine xP rfl rh rfl ?_
 refine xA noGo rfl (fun _=>rfl) ((tRange_ct (fr:=[]) (to:=[]) htrC hroC hgA rfl (by omega)).mono ?_)
 rintro u L' ⟨Y1,rfl,hv1⟩
 rw [rng_all] at hv1
 refine ⟨_,rfl,?_⟩
 refine xA noGo rfl (fun _=>rfl) ((pairsL_ct (hv1.sv.mono fun q hq=>List.mem_append_left _ hq) (by omega)).mono ?_)
 rintro qv L' ⟨Y2,rfl,hv2⟩
 refine ⟨_,rfl,?_⟩
 refine xP rfl rh rfl ?_
 obtain ⟨Z,sZ⟩:=htrC.under
 obtain ⟨LD,htiD,sD⟩:=htiB.add (Y2++(Y1++((ro2,toRow c2.rt)::Z)))
 have sE:Sub LD (Y2++(Y1++LC)):=by
  refine sD.trans ?_
  refine Sub.trans ?_ (Sub.app Y2 (Sub.app Y1 sZ))
  refine Sub.sums fun f=>?_
  simp only [List.map_append,List.map_cons,List.sum_append,List.sum_cons,List.append_assoc,List.cons_append]; omega
 refine OS.sub sE ?_
 have hq:SV 2 LD qv PA.length (prC PA):=hv2.sv.mono fun q hq=>htiD.memM _ (List.mem_append_left _ (List.mem_append_left _ hq))
 refine xA noGo rfl (fun _=>rfl) ((tRange_ct (fr:=[]) (to:=[]) htiD.1 (htiD.memM _ (List.mem_append_right _ hroB)) hgA rfl (by omega)).mono ?_)
 rintro u L' ⟨Y3,rfl,hv3⟩
 rw [rng_all] at hv3
 refine ⟨_,rfl,?_⟩
 refine xA noGo rfl (fun _=>rfl) ((pairsL_ct (hv3.sv.mono fun q hq=>List.mem_append_left _ hq) (by omega)).mono ?_)
 rintro rv L' ⟨Y4,rfl,hv4⟩
 refine ⟨_,rfl,?_⟩
 refine xA noGo rfl (fun _=>rfl) ((Same_ct (hq.mono fun q hq=>List.mem_append_right _ (List.mem_append_right _ hq)) (hv4.sv.mono fun q hq=>List.mem_append_left _ hq) (by omega)).mono ?_)
 rintro u L' ⟨rfl,rfl⟩
 refine ⟨_,rfl,?_⟩
 iterate 2 refine xP rfl rh rfl ?_
 refine xN ?_
 refine xT ⟨_,fun _ _=>rfl,?_⟩
 rfl
end Go.Proofs.YtlmmddfhoabjfaaGreat
end
