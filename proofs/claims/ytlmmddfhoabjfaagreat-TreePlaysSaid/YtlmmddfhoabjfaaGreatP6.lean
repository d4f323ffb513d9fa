/- What the proofs lean on, part 6. -/
import Derived.Test.YtlmmddfhoabjfaaGreatP5
import Derived.WalkKit
import Derived.WalkSpells
import Derived.WalkLawsBesides
import Derived.Maps.AppendAt
import Derived.Deep.AppendLies
import Derived.Deep.Draws
import Derived.Deep.QuietTactic
import Derived.BigQuiet
import Derived.Laws.Rows
import Derived.OwnWalk
import Derived.Lib.Hide
import Derived.ProofKit
import Derived.OpenShut
import Derived.ShutString
import Derived.ChangeOld
import Derived.Deep.Slices
import Derived.Deep.Fields
import Derived.ChangeSame
import Derived.Lib.SmallJoins
import Derived.SizedLaws
import Derived.ChangeArms
set_option linter.unusedVariables false
set_option maxRecDepth 20000
section
namespace Go.Proofs.YtlmmddfhoabjfaaGreat
open Go.RowKit
theorem add_block (a:Addr) (n:Nat):(a.add n).block=a.block:=by unfold Addr.add; split <;> rfl
theorem add_add (a:Addr) (i j:Nat):(a.add i).add j=a.add (i+j):=by
 unfold Addr.add
 by_cases hi:i=0 <;> by_cases hj:j=0 <;> simp [hi,hj,Nat.add_assoc]
theorem cell_lt {w:World} {a:Addr} {v:Value} (h:w.cell? a=some v):a.block < w.heap.size:=by
 rcases Nat.lt_or_ge a.block w.heap.size with hl | hg
 ·exact hl
 ·simp [World.cell?,Array.getElem?_eq_none hg] at h
def Any:Nat->Prop:=fun _=>True
structure Sl (w:World) (S:Nat->Prop) (sz:Nat) (A:Option Addr) (n:Nat) (cs:List Value):Prop where
 len:cs.length=n * sz
 cells:0 < n->∃ ad,A=some ad/\S ad.block/\ad.block < w.heap.size/\∀ j u,cs[j]?=some u->w.cell? (ad.add j)=some u
section
variable {w w':World} {S S':Nat->Prop} {sz n:Nat} {A:Option Addr} {cs:List Value}
theorem Sl.nil_:Sl w S sz A 0 []:=⟨by simp,fun h=>absurd h (by omega)⟩
end
end Go.Proofs.YtlmmddfhoabjfaaGreat
end
section
namespace Go.Proofs.YtlmmddfhoabjfaaGreat
open Go.ChangeShapes Go.WideShapes Go.ChangeAt Go.RowKit
theorem wf_u8 {n:Int} (h:(Lit.int .u8 n).wf=true):0<=n/\n < 256:=by
 have:=bounds_u8 h
 omega
section
variable {H:Type} {enc:TypeId × Value->H} {P:Program} {W:World} {r:Reach} {b0:Nat}
theorem mem_weightsAll {e:TypeId} {l:List (DataW H)} {d:DataW H} (h:d∈l) {m:Nat} (hm:m∈d.weights P e):m∈DataW.weightsAll P e l:=by
 induction l with
 | nil=>cases h
 | cons a r ih =>
  rw [DataW.weightsAll]
  rcases List.mem_cons.1 h with rfl | h
  ·exact List.mem_append_left _ hm
  ·exact List.mem_append_right _ (ih h)
end
end Go.Proofs.YtlmmddfhoabjfaaGreat
end
section
namespace Go.Proofs.YtlmmddfhoabjfaaGreat
open Go.ChangeShapes Go.WideShapes Go.ChangeAt Go.RowKit
structure Sk where
 k:UInt8
 key:List UInt8
 val:List UInt8
def Sk.cells (t:Sk):List Value:=[.int .u8 (t.k.toNat:Nat),.string ⟨⟨t.key⟩⟩,.string ⟨⟨t.val⟩⟩]
def Sk.ok (t:Sk):Prop:=t.key.length<=140737488351232/\t.val.length<=140737488351232
theorem sks_flat (ts:List Sk):Am.allFlat (ts.flatMap Sk.cells)=true:=by
 induction ts with
 | nil=>rfl
 | cons t r ih=>simp only [List.flatMap_cons,Sk.cells,List.cons_append,List.nil_append,Am.allFlat]; exact ih
section
variable {H:Type} {enc:TypeId × Value->H} {P:Program} {W:World} {r:Reach} {b0:Nat}
theorem sk_cells {t:TypeId} {g0 g1 g2:Field} (ht:P.underlying t=some (.struct #[g0,g1,g2])) (e0:g0.offset=0/\g1.offset=1/\g2.offset=2)
  (h0:P.underlying g0.type=some (.int .u8)) (h1:P.underlying g1.type=some .string) (h2:P.underlying g2.type=some .string)
  (hc:P.cellsOf g0.type=1/\P.cellsOf g1.type=1/\P.cellsOf g2.type=1) (h3:P.cellsOf t=3)
  {w:World} {n:Nat} {cs:List Value} {x:DataW H × List MemPlace} (h:DataW.trod enc P w 0 (fun _=>true) true n t cs=some x) :
  ∃ a:Sk,((∀ m∈x.1.weights P t,m<=reachBytes)->a.ok)/\cs=a.cells:=by
 obtain ⟨xs,m,_,hxs,hlen,hxl,hg⟩:=DataW.trod_struct ht h
 rw [h3] at hlen
 match cs,hlen with
 | [c0,c1,c2],_ =>
  have q0:=hg 0 g0 rfl
  have q1:=hg 1 g1 rfl
  have q2:=hg 2 g2 rfl
  rw [e0.1,hc.1] at q0
  rw [e0.2.1,hc.2.1] at q1
  rw [e0.2.2,hc.2.2] at q2
  simp only [List.drop_zero,List.drop_succ_cons,List.take_succ_cons,List.take_zero] at q0 q1 q2
  have hx:∀ (i:Nat) (f:Field),(#[g0,g1,g2]:Array Field)[i]?=some f->∃ y,xs[i]?=some y:=by
   intro i f hf
   have hi:i < 3:=(Array.getElem?_eq_some_iff.1 hf).1
   have hl:xs.length=3:=hxl
   exact ⟨_,List.getElem?_eq_getElem (by omega)⟩
  obtain ⟨y0,hy0⟩:=hx 0 g0 rfl
  obtain ⟨y1,hy1⟩:=hx 1 g1 rfl
  obtain ⟨y2,hy2⟩:=hx 2 g2 rfl
  obtain ⟨a0,r0,s0,w0⟩:=DataW.trod_int h0 (q0.trans hy0)
  obtain ⟨a1,r1,s1,w1⟩:=DataW.trod_string h1 (q1.trans hy1)
  obtain ⟨a2,r2,s2,w2⟩:=DataW.trod_string h2 (q2.trans hy2)
  simp only [List.cons.injEq,and_true] at r0 r1 r2
  subst r0; subst r1; subst r2
  have b0:=wf_u8 w0
  have hx1:x.1=.agg [.lit (.int .u8 a0),.lit (.string a1.data.toList),.lit (.string a2.data.toList)]:=by
   rw [hxs]
   have e:xs=[y0,y1,y2]:=by
    apply List.ext_getElem?
    intro i
    match i with
    | 0=>exact hy0
    | 1=>exact hy1
    | 2=>exact hy2
    | i+3 =>
     have hl:xs.length=3:=hxl
     rw [List.getElem?_eq_none (by omega)]
     rfl
   rw [e,s0,s1,s2]
   rfl
  refine ⟨⟨UInt8.ofNat a0.toNat,a1.data.toList,a2.data.toList⟩,fun hz=>⟨?_,?_⟩,?_⟩
  ·have:=hz a1.data.toList.length (by rw [hx1]; simp [DataW.weights,DataW.weightsEach,ht])
   exact this
  ·have:=hz a2.data.toList.length (by rw [hx1]; simp [DataW.weights,DataW.weightsEach,ht])
   exact this
  simp only [Sk.cells]
  rw [show (UInt8.ofNat a0.toNat).toNat=a0.toNat by simp; omega,show ((a0.toNat:Nat):Int)=a0 by omega]
theorem sk_at (ts:List Sk):∀ (i j:Nat) (a:Sk),ts[i]?=some a->j < 3->(ts.flatMap Sk.cells)[i * 3+j]?=a.cells[j]?:=by
 induction ts with
 | nil=>intro i j a h; simp at h
 | cons b r ih =>
  intro i j a h hj
  rw [List.flatMap_cons]
  cases i with
  | zero =>
   simp only [List.getElem?_cons_zero,Option.some.injEq] at h
   subst h
   rw [Nat.zero_mul,Nat.zero_add,List.getElem?_append_left (by simp [Sk.cells]; omega)]
  | succ i =>
   rw [List.getElem?_cons_succ] at h
   rw [List.getElem?_append_right (by simp [Sk.cells]; omega)]
   rw [← ih i j a h hj]
   congr 1
   simp [Sk.cells]
   omega
theorem sk_len (ts:List Sk):(ts.flatMap Sk.cells).length=ts.length * 3:=by
 induction ts with
 | nil=>rfl
 | cons a r ih=>rw [List.flatMap_cons,List.length_append,ih]; simp [Sk.cells]; omega
theorem sk_of (f:Nat->Sk) (n j:Nat) (u:Value) (h:(((List.range n).map f).flatMap Sk.cells)[j]?=some u):j / 3 < n/\(f (j / 3)).cells[j % 3]?=some u:=by
 have hl:j < n * 3:=by
  have:=(List.getElem?_eq_some_iff.1 h).1
  rw [sk_len] at this
  simpa using this
 have hj:j / 3 < n:=by omega
 refine ⟨hj,?_⟩
 rw [← h,show j=j / 3 * 3+j % 3 by omega]
 rw [sk_at _ (j / 3) (j % 3) (f (j / 3)) (by simp [hj]) (by omega)]
 rw [show (j / 3 * 3+j % 3) / 3=j / 3 by omega,show (j / 3 * 3+j % 3) % 3=j % 3 by omega]
theorem open_sks {t e:TypeId} {g0 g1 g2:Field} (hsl:P.underlying t=some (.slice e)) (ht:P.underlying e=some (.struct #[g0,g1,g2])) (e0:g0.offset=0/\g1.offset=1/\g2.offset=2)
  (h0:P.underlying g0.type=some (.int .u8)) (h1:P.underlying g1.type=some .string) (h2:P.underlying g2.type=some .string)
  (hc:P.cellsOf g0.type=1/\P.cellsOf g1.type=1/\P.cellsOf g2.type=1) (h3:P.cellsOf e=3)
  {v:Value} {d:DataW H} {p:List MemPlace} (hv:Value.okWide P W r b0 t v) (h:DataW.Trod enc P W 0 (fun _=>true) true t v d p) (hz:∀ m∈d.weights P t,m<=reachBytes) :
  ∃ (A:Option Addr) (n c:Nat) (ts:List Sk),v=.slice A n c/\Sl W Any 3 A n (ts.flatMap Sk.cells)/\(∀ a∈ts,a.ok)/\n<=c/\c<=maxLen:=by
 obtain ⟨A,n,c,rfl⟩:=okWide_slice hsl hv
 obtain ⟨fuel,hf⟩:=h
 rcases Go.Deep.open_slice hsl hf with ⟨hcs,_⟩ | ⟨a,len,cap,m,q,D,Pl,hcs,hb,hl,hm,hmm,hx,hi⟩
 ·simp [Value.cells] at hcs
  obtain ⟨rfl,rfl,rfl⟩:=hcs
  exact ⟨none,0,0,[],rfl,Sl.nil_,by simp,Nat.le_refl _,Nat.zero_le _⟩
 ·simp [Value.cells] at hcs
  obtain ⟨rfl,rfl,rfl⟩:=hcs
  have hmc:m=c:=by simpa using hmm
  subst hmc
  have hx1:d=.slice ((List.range n).map D) ((List.range (m - n)).map fun j=>D (n+j)):=by
   injection hx
  have hth:∀ i,∃ b:Sk,(i < n->b.ok)/\(i < m->W.cells? 0 (a.add (i * 3)) 3=some b.cells):=by
   intro i
   by_cases him:i < m
   ·obtain ⟨cs',hcl,htr⟩:=hi i him
    rw [h3] at hcl
    obtain ⟨b,hbk,rfl⟩:=sk_cells ht e0 h0 h1 h2 hc h3 htr
    refine ⟨b,fun hin=>hbk fun q hq=>hz q ?_,fun _=>hcl⟩
    rw [hx1]
    simp only [DataW.weights,hsl]
    exact List.mem_cons_of_mem _ (List.mem_append_left _ (mem_weightsAll (List.mem_map.2 ⟨i,List.mem_range.2 hin,rfl⟩) hq))
   ·exact ⟨⟨0,[],[]⟩,fun _=>⟨Nat.zero_le _,Nat.zero_le _⟩,fun h=>absurd h him⟩
  let f:Nat->Sk:=fun i=>Classical.choose (hth i)
  have hf1:∀ i,i < n->(f i).ok:=fun i=>(Classical.choose_spec (hth i)).1
  have hf2:∀ i,i < m->W.cells? 0 (a.add (i * 3)) 3=some (f i).cells:=fun i=>(Classical.choose_spec (hth i)).2
  have key:∀ j u,(((List.range n).map f).flatMap Sk.cells)[j]?=some u->W.cell? (a.add j)=some u:=by
   intro j u hu
   obtain ⟨hj,hcell⟩:=sk_of f n j u hu
   obtain ⟨_,hcl,hat⟩:=World.cells?_some (hf2 (j / 3) (by omega))
   have:=hat (j % 3) (by omega)
   rw [add_add,show j / 3 * 3+j % 3=j by omega] at this
   exact this.trans hcell
  refine ⟨some a,n,m,(List.range n).map f,rfl,⟨by rw [sk_len]; simp,fun hn=>⟨a,rfl,trivial,?_,key⟩⟩,?_,hl,hm⟩
  ·have:=key 0 (.int .u8 ((f 0).k.toNat:Nat)) (by
    have:=sk_at ((List.range n).map f) 0 0 (f 0) (by simp [hn]) (by omega)
    exact this)
   have:=cell_lt this
   rwa [add_block] at this
  ·intro b hb
   obtain ⟨i,hir,rfl⟩:=List.mem_map.1 hb
   exact hf1 i (List.mem_range.1 hir)
end
theorem sks_cut {ts:List Sk} {i:Nat} {t:Sk} (h:ts[i]?=some t):Go.Am.cut (ts.flatMap Sk.cells) (i * 3) 3=some t.cells:=by
 have hi:i < ts.length:=(List.getElem?_eq_some_iff.1 h).1
 have hl:(ts.flatMap Sk.cells).length=ts.length * 3:=sk_len ts
 rw [Go.Am.cut_of (by omega)]
 congr 1
 apply List.ext_getElem?
 intro j
 rw [List.getElem?_take]
 split
 ·rename_i hj
  rw [List.getElem?_drop]
  exact sk_at ts i j t h hj
 ·rename_i hj
  rw [List.getElem?_eq_none (by simp [Sk.cells]; omega)]
end Go.Proofs.YtlmmddfhoabjfaaGreat
end
section
namespace Go.Am
theorem e_nePair {P:Program} {o:Oper} {a:Slots} {x y:Operand} {t z:TypeId} {v:Value} {vs:List Value} (hv:v=.agg ⟨vs⟩) (ho:o.op=.binOp .neq t x y z) (hx:aev a x=some v) (hy:aev a y=some v) (he:eqB P 100 t v v=some true) (hg:P.eqGuardType P.depth t=false) :
  ∀ h,opB P a o h=some (.val (.bool false) h):=by
 intro h
 subst hv
 simp only [opB,ho,hx,hy,eqOk,binB,he,hg,ret]
 rfl
end Go.Am
namespace Go.Proofs.YtlmmddfhoabjfaaGreat
open Go.Am
theorem long_ct {L:RL} {v:Value} {m:Nat} {ts:List Sk} (hl:SV 3 L v m (ts.flatMap Sk.cells)) (hok:∀ t∈ts,t.ok) (hm:m<=9223372036854775807) :
  CS Tryz.prog 27 [v] L fun u L'=>∃ b:Bool,u=.bool b/\L'=L/\(b=false->m<=800):=by
 have hlen:ts.length=m:=by have:=hl.len; rw [sk_len] at this; omega
 refine CS.mk (fn:=Tryz.f27) rfl rfl rfl rfl ?_
 repeat refine xQ ?_
 refine xG rfl ?_
 refine xP rfl rh rfl ?_
 refine xN ?_
 repeat refine xQ ?_
 refine xG rfl ?_
 refine xP rfl rh rfl ?_
 refine xN ?_
 repeat refine xQ ?_
 refine xG rfl ?_
 refine xP rfl rh rfl ?_
 refine xN ?_
 repeat refine xQ ?_
 refine LS.mid [3] (fun a' L'=>∃ n:Nat,n<=400000000000000/\(n < 40000->m<=800)/\L'=L/\a'=[jn,jn,jn,.int .i64 (n:Nat),jn,jn,jn,jn,jn,jn,jn,jn,jn,jn,jn,jn,jn,jn,jn,jn,jn,jn,jn,jn,jn,jn,jn,jn,jn,jn,jn,jn,jn]) ?_ ?_
 ·refine LS.block ?_
  refine LS.loopJ [0,3,4] (fun z a' L'=>∃ (i n:Nat),z=m - i/\i<=m/\50 * i<=n/\n<=400000000000000/\L'=L/\a'=[v,jn,jn,.int .i64 (n:Nat),.int .i64 (i:Nat),jn,jn,jn,jn,jn,jn,jn,jn,jn,jn,jn,jn,jn,jn,jn,jn,jn,jn,jn,jn,jn,jn,jn,jn,jn,jn,jn,jn]) (n:=m) rfl ⟨0,0,rfl,by omega,by omega,by omega,rfl,rfl⟩ ?_
  rintro z a' L' ⟨i,n,rfl,hi,hn,hn2,hLL,rfl⟩
  subst hLL
  by_cases him:i < m
  case neg =>
   have hq:(!ileB (m:Int) (i:Nat))=false:=by rw [ileB_eq]; simp; omega
   repeat refine xQ ?_
   refine xG rfl ?_
   iterate 2 refine xP rfl rh rfl ?_
   refine xP rfl (e_len hl rfl rfl rfl rfl rfl) rfl ?_
   refine xP rfl (e_ib rh (hq)) rfl ?_
   refine xP rfl rh rfl ?_
   iterate 2 refine xK rfl rfl ?_
   refine xP rfl rh rfl ?_
   refine xN ?_
   repeat refine xQ ?_
   refine xC rfl (fun hc=>?_) (fun hc=>?_)
   ·cases hc
   refine LS.exit ?_
   exact ⟨n,hn2,fun h=>by omega,rfl,rfl⟩
  have hq:(!ileB (m:Int) (i:Nat))=true:=by rw [ileB_eq]; simp; omega
  by_cases hn4:n < 40000
  case neg =>
   have hq2:(!ileB (40000:Int) (n:Nat))=false:=by rw [ileB_eq]; simp; omega
   repeat refine xQ ?_
   refine xG rfl ?_
   iterate 2 refine xP rfl rh rfl ?_
   refine xP rfl (e_len hl rfl rfl rfl rfl rfl) rfl ?_
   refine xP rfl (e_ib rh (hq)) rfl ?_
   iterate 2 refine xP rfl rh rfl ?_
   refine xP rfl (e_ib rh (hq2)) rfl ?_
   refine xP rfl rh rfl ?_
   refine xN ?_
   repeat refine xQ ?_
   refine xC rfl (fun hc=>?_) (fun hc=>?_)
   ·cases hc
   refine LS.exit ?_
   exact ⟨n,hn2,fun h=>by omega,rfl,rfl⟩
  have hq2:(!ileB (40000:Int) (n:Nat))=true:=by rw [ileB_eq]; simp; omega
  obtain ⟨t,ht⟩:∃ t,ts[i]?=some t:=⟨_,List.getElem?_eq_getElem (by omega)⟩
  obtain ⟨hk1,hk2⟩:=hok t (List.mem_of_getElem? ht)
  repeat refine xQ ?_
  refine xG rfl ?_
  iterate 2 refine xP rfl rh rfl ?_
  refine xP rfl (e_len hl rfl rfl rfl rfl rfl) rfl ?_
  refine xP rfl (e_ib rh (hq)) rfl ?_
  iterate 2 refine xP rfl rh rfl ?_
  refine xP rfl (e_ib rh (hq2)) rfl ?_
  refine xP rfl rh rfl ?_
  refine xN ?_
  repeat refine xQ ?_
  refine xC rfl (fun hc=>?_) (fun hc=>?_)
  ·refine LS.skip ?_
   repeat refine xQ ?_
   refine LS.block ?_
   repeat refine xQ ?_
   refine LS.drawn noGo mixed [(0,false),(1,false),(2,false),(3,false),(4,false),(5,false),(6,false),(7,false),(8,false),(9,false),(10,false),(11,false),(12,false),(13,false),(14,false),(15,false),(16,false)] rfl rfl (by kernel_rfl) ?_
   refine xD rfl rfl rh rfl ?_
   refine xD rfl rfl (e_addN (n:=50) rfl rfl rfl (in_i64 (by omega) (by omega))) rfl ?_
   iterate 2 refine xD rfl rfl rh rfl ?_
   refine ODS.at (j:=i) hl him rfl rfl rfl rfl rfl rfl rfl (fun r0 o0 row0 cs0 m0 c0 g0 k0=>⟨_,rfl,?_⟩)
   refine xD rfl rfl rh rfl ?_
   refine xE rfl rfl (e_loadm m0 c0 rfl rfl (part_one rfl (g0 1 _ (by omega) (sk_at ts i 1 t ht (by omega))))) rfl ?_
   refine xD rfl rfl rh rfl ?_
   refine xD rfl rfl (e_addN (n:=t.key.length) rfl rfl rfl (in_i64 (by omega) (by omega))) rfl ?_
   iterate 2 refine xD rfl rfl rh rfl ?_
   refine ODS.at (j:=i) hl him rfl rfl rfl rfl rfl rfl rfl (fun r1 o1 row1 cs1 m1 c1 g1 k1=>⟨_,rfl,?_⟩)
   refine xD rfl rfl rh rfl ?_
   refine xE rfl rfl (e_loadm m1 c1 rfl rfl (part_one rfl (g1 2 _ (by omega) (sk_at ts i 2 t ht (by omega))))) rfl ?_
   refine xD rfl rfl rh rfl ?_
   refine xD rfl rfl (e_addN (n:=t.val.length) rfl rfl rfl (in_i64 (by omega) (by omega))) rfl ?_
   refine xD rfl rfl rh rfl ?_
   refine xM ?_
   repeat refine xQ ?_
   refine xG rfl ?_
   refine xP rfl rh rfl ?_
   refine xP rfl (e_addN (n:=1) rfl rfl rfl (in_i64 (by omega) (by omega))) rfl ?_
   refine xP rfl rh rfl ?_
   refine xN ?_
   exact ⟨m - (i+1),by omega,i+1,n+50+t.key.length+t.val.length,rfl,by omega,by omega,by omega,rfl,rfl⟩
  ·cases hc
 rintro a' L' ⟨n,h1,h2,hLL,rfl⟩
 subst hLL
 by_cases hn4:n < 40000
 ·have hq:ileB (40000:Int) (n:Nat)=false:=by rw [ileB_eq]; simp; omega
  repeat refine xQ ?_
  refine xG rfl ?_
  refine xP rfl rh rfl ?_
  refine xP rfl (e_ib rh (hq)) rfl ?_
  refine xP rfl rh rfl ?_
  refine xN ?_
  refine xT ⟨_,fun _ _=>rfl,?_⟩
  exact ⟨false,rfl,rfl,fun _=>h2 hn4⟩
 ·have hq:ileB (40000:Int) (n:Nat)=true:=ileB_iff.2 (by omega)
  repeat refine xQ ?_
  refine xG rfl ?_
  refine xP rfl rh rfl ?_
  refine xP rfl (e_ib rh (hq)) rfl ?_
  refine xP rfl rh rfl ?_
  refine xN ?_
  refine xT ⟨_,fun _ _=>rfl,?_⟩
  exact ⟨true,rfl,rfl,fun h=>by cases h⟩
theorem ne_same (n:Int):(!ieqB n n)=false:=by rw [ieqB_eq]; simp
theorem ints_get {l:List Nat} {i:Nat} (h:i < l.length):(ints l)[i]?=some (.int .i64 (l[i]:Nat)):=by simp [ints,h]
theorem Ints_ct {L:RL} {a b:Value} {xs:List Nat} (ha:SV 1 L a xs.length (ints xs)) (hb:SV 1 L b xs.length (ints xs)) (hm:xs.length<=1000000):CS Tryz.prog 33 [a,b] L fun v L'=>v=.bool true/\L'=L:=by
 refine CS.mk (fn:=Tryz.f33) rfl rfl rfl rfl ?_
 repeat refine xQ ?_
 refine xG rfl ?_
 refine xP rfl rh rfl ?_
 refine xN ?_
 repeat refine xQ ?_
 refine xG rfl ?_
 refine xP rfl rh rfl ?_
 refine xP rfl (e_len ha rfl rfl rfl rfl rfl) rfl ?_
 refine xP rfl rh rfl ?_
 refine xP rfl (e_len hb rfl rfl rfl rfl rfl) rfl ?_
 refine xP rfl (e_ib rh ((ne_same _))) rfl ?_
 refine xN ?_
 refine xC rfl (fun hc=>by cases hc) (fun hc=>?_)
 refine LS.skip ?_
 repeat refine xQ ?_
 refine xG rfl ?_
 refine xP rfl rh rfl ?_
 refine xN ?_
 repeat refine xQ ?_
 refine LS.block ?_
 refine LS.loopJ [0,1,5] (fun q s L'=>∃ i,q=xs.length - i/\i<=xs.length/\L'=L/\s=[a,b,jn,jn,jn,.int .i64 (i:Nat),jn,jn,jn,jn,jn,jn,jn,jn,jn,jn,jn,jn,jn,jn,jn,jn,jn,jn,jn,jn]) (n:=xs.length) rfl ⟨0,rfl,by omega,rfl,rfl⟩ ?_
 rintro q s L' ⟨i,rfl,hi,hLL,rfl⟩
 subst hLL
 repeat refine xQ ?_
 refine xG rfl ?_
 iterate 2 refine xP rfl rh rfl ?_
 refine xP rfl (e_len ha rfl rfl rfl rfl rfl) rfl ?_
 refine xP rfl rh rfl ?_
 refine xN ?_
 repeat refine xQ ?_
 refine xC rfl (fun hc=>?_) (fun hc=>?_)
 ·have hc:=lt_of hc
  have hil:i < xs.length:=by omega
  refine LS.skip ?_
  repeat refine xQ ?_
  refine LS.block ?_
  repeat refine xQ ?_
  refine LS.drawn noGo mixed [(0,false),(1,false),(2,false),(3,false),(4,false),(5,false),(6,false),(7,false),(8,false)] rfl rfl (by kernel_rfl) ?_
  iterate 2 refine xD rfl rfl rh rfl ?_
  refine ODS.at1 (j:=i) ha (ints_get hil) rfl rfl rfl rfl rfl rfl rfl (fun r0 o0 row0 cs0 m0 c0 g0=>?_)
  refine ⟨_,rfl,?_⟩
  refine xE rfl rfl (e_loadm m0 c0 rfl rfl (part_one rfl g0)) rfl ?_
  iterate 2 refine xD rfl rfl rh rfl ?_
  refine ODS.at1 (j:=i) hb (ints_get hil) rfl rfl rfl rfl rfl rfl rfl (fun r1 o1 row1 cs1 m1 c1 g1=>?_)
  refine ⟨_,rfl,?_⟩
  refine xE rfl rfl (e_loadm m1 c1 rfl rfl (part_one rfl g1)) rfl ?_
  refine xD rfl rfl (e_ib rh ((ne_same _))) rfl ?_
  refine xM ?_
  refine xC rfl (fun hc=>by cases hc) (fun hc=>?_)
  refine LS.skip ?_
  repeat refine xQ ?_
  refine xG rfl ?_
  refine xP rfl rh rfl ?_
  refine xP rfl (e_add rfl rfl rfl (in_i64 (by omega) (by omega))) rfl ?_
  refine xP rfl rh rfl ?_
  refine xN ?_
  exact ⟨xs.length - (i+1),by omega,i+1,rfl,by omega,rfl,rfl⟩
 ·refine LS.exit ?_
  repeat refine xQ ?_
  refine xG rfl ?_
  refine xP rfl rh rfl ?_
  refine xN ?_
  refine xT ⟨_,fun _ _=>rfl,?_⟩
  exact ⟨rfl,rfl⟩
theorem prC_get:∀ {P:List Pr} {i:Nat} {p:Pr},P[i]?=some p->(prC P)[i * 2+0]?=some (txt p.1)/\(prC P)[i * 2+1]?=some (txt p.2)
 | [],i,p,h=>by simp at h
 | q::P,0,p,h=>by simp at h; subst h; exact ⟨rfl,rfl⟩
 | q::P,i+1,p,h=>by
  have:=prC_get (P:=P) (i:=i) (p:=p) (by simpa using h)
  have e:prC (q::P)=txt q.1::txt q.2::prC P:=rfl
  rw [e,show (i+1) * 2+0=(i * 2+0)+1+1 by omega,show (i+1) * 2+1=(i * 2+1)+1+1 by omega,List.getElem?_cons_succ,List.getElem?_cons_succ,List.getElem?_cons_succ,List.getElem?_cons_succ]
  exact this
theorem prC_cut {P:List Pr} {i:Nat} {p:Pr} (h:P[i]?=some p):cut (prC P) (i * 2) 2=some [txt p.1,txt p.2]:=by
 have hi:i < P.length:=(List.getElem?_eq_some_iff.1 h).1
 have hl:=prC_len P
 obtain ⟨h0,h1⟩:=prC_get h
 rw [cut_of (by omega)]
 congr 1
 apply List.ext_getElem?
 intro j
 rw [List.getElem?_take]
 split
 ·rename_i hj
  rw [List.getElem?_drop]
  match j,hj with
  | 0,_=>exact h0
  | 1,_=>exact h1
 ·rename_i hj
  rw [List.getElem?_eq_none (by simp; omega)]
set_option maxHeartbeats 1000000 in
theorem pairsL_ct {L:RL} {v:Value} {P:List Pr} (hv:SV 2 L v P.length (prC P)) (hP:P.length<=100000000) :
  CS Tryz.prog 36 [v] L fun u L'=>∃ Y,L'=Y++L/\GV 100 2 [] u P.length (prC P) Y:=by
 refine CS.mk (fn:=Tryz.f36) rfl rfl rfl rfl ?_
 repeat refine xQ ?_
 refine xG rfl ?_
 refine xP rfl rh rfl ?_
 refine xN ?_
 repeat refine xQ ?_
 refine xG rfl ?_
 refine xP rfl rh rfl ?_
 refine xN ?_
 repeat refine xQ ?_
 refine xG rfl ?_
 refine xP rfl rh rfl ?_
 refine xN ?_
 repeat refine xQ ?_
 refine LS.mid [3] (fun a' L'=>∃ Y w,L'=Y++L/\GV 100 2 [] w P.length (prC P) Y/\a'=[jn,jn,jn,w,jn,jn,jn,jn,jn,jn,jn,jn,jn,jn,jn,jn,jn,jn,jn,jn,jn,jn,jn,jn,jn,jn]) ?_ ?_
 ·refine LS.block ?_
  refine LS.loopJ [0,3,4] (fun z a' L'=>∃ (i:Nat) (Y:RL) (w:Value),z=P.length - i/\i<=P.length/\L'=Y++L/\GV 100 2 [] w (P.take i).length (prC (P.take i)) Y/\a'=[v,jn,jn,w,.int .i64 (i:Nat),jn,jn,jn,jn,jn,jn,jn,jn,jn,jn,jn,jn,jn,jn,jn,jn,jn,jn,jn,jn,jn]) (n:=P.length) rfl ⟨0,[],_,rfl,by omega,rfl,.inl ⟨rfl,rfl,rfl,rfl⟩,rfl⟩ ?_
  rintro z a' L' ⟨i,Y,w,rfl,hi,rfl,hw,rfl⟩
  have hv':SV 2 (Y++L) v P.length (prC P):=hv.mono fun q hq=>List.mem_append_right Y hq
  by_cases hip:i < P.length
  ·have hb:(!ileB ((P.length:Nat):Int) ((i:Nat):Int))=true:=by rw [ileB_eq,decide_eq_false (by omega)]; rfl
   obtain ⟨p,hp⟩:∃ p,P[i]?=some p:=⟨_,List.getElem?_eq_getElem hip⟩
   obtain ⟨g1,g2⟩:=prC_get hp
   repeat refine xQ ?_
   refine xG rfl ?_
   iterate 2 refine xP rfl rh rfl ?_
   refine xP rfl (e_len hv' rfl rfl rfl rfl rfl) rfl ?_
   refine xP rfl (e_ib rh (hb)) rfl ?_
   refine xN ?_
   repeat refine xQ ?_
   refine xC rfl (fun hc=>?_) (fun hc=>?_)
   ·refine LS.skip ?_
    repeat refine xQ ?_
    refine LS.block ?_
    repeat refine xQ ?_
    refine LS.drawn noGo mixed [(0,false),(1,false),(2,false),(3,false),(4,false),(5,false),(6,false),(7,false),(8,false),(9,false),(10,false),(11,false),(12,true),(13,true),(14,false)] rfl rfl (by kernel_rfl) ?_
    iterate 3 refine xD rfl rfl rh rfl ?_
    refine ODS.at (j:=i) hv' hip rfl rfl rfl rfl rfl rfl rfl (fun r0 o0 row0 cs0 m0 c0 g0 k0=>⟨_,rfl,?_⟩)
    refine xD rfl rfl rh rfl ?_
    refine xE rfl rfl (e_loadm m0 c0 rfl rfl (part_one rfl (g0 0 _ (by omega) g1))) rfl ?_
    iterate 2 refine xD rfl rfl rh rfl ?_
    refine ODS.at (j:=i) hv' hip rfl rfl rfl rfl rfl rfl rfl (fun r1 o1 row1 cs1 m1 c1 g3 k1=>⟨_,rfl,?_⟩)
    refine xD rfl rfl rh rfl ?_
    refine xE rfl rfl (e_loadm m1 c1 rfl rfl (part_one rfl (g3 1 _ (by omega) g2))) rfl ?_
    refine xD rfl rfl rh rfl ?_
    refine ODS.fresh rfl rfl (e_new (fun _=>rfl) rfl) (fun _=>rfl) (fun rv=>(by repeat (first | exact Keep.nil | refine Keep.gone rfl ?_))) (fun rz=>?_)
    refine ODS.turns rfl rfl (e_appendGA [(rz,.cells 100 [txt p.1,txt p.2])] L (e:=100) (sz:=2) (bts:=32) (m:=1) (new:=prC [p]) hw (SV.row (sz:=2) (n:=1) (List.mem_cons_self ..) rfl) rfl rfl rfl rfl (by simp only [List.length_take]; omega) (by simp only [List.length_take]; omega)) (fun w2 L₁ hR=>?_)
    obtain ⟨Y2,h2,rfl⟩:=hR
    refine ⟨_,rfl,(by repeat (first | exact Keep.nil | refine Keep.gone rfl ?_)),?_⟩
    refine ODS.sub (Sub.sums2 ([(rz,.cells 100 [txt p.1,txt p.2])]) (A:=Y2++L) (B:=Y2++([(rz,.cells 100 [txt p.1,txt p.2])]++L)) fun f=>by simp [HD,fm]<;>omega) ?_
    refine xD rfl rfl rh rfl ?_
    refine xM ?_
    repeat refine xQ ?_
    refine xG rfl ?_
    refine xP rfl rh rfl ?_
    refine xP rfl (e_addN (n:=1) rfl rfl rfl (in_i64 (by omega) (by omega))) rfl ?_
    refine xP rfl rh rfl ?_
    refine xN ?_
    have htk:P.take (i+1)=P.take i++[p]:=by rw [List.take_add_one,hp]; rfl
    refine ⟨P.length - (i+1),by omega,i+1,Y2,w2,rfl,by omega,rfl,?_,rfl⟩
    rw [htk,List.length_append,prC_app]
    exact h2
   ·cases hc
  ·have hb:(!ileB ((P.length:Nat):Int) ((i:Nat):Int))=false:=by rw [ileB_eq,decide_eq_true (by omega)]; rfl
   repeat refine xQ ?_
   refine xG rfl ?_
   iterate 2 refine xP rfl rh rfl ?_
   refine xP rfl (e_len hv' rfl rfl rfl rfl rfl) rfl ?_
   refine xP rfl (e_ib rh (hb)) rfl ?_
   refine xN ?_
   repeat refine xQ ?_
   refine xC rfl (fun hc=>?_) (fun hc=>?_)
   ·cases hc
   refine LS.exit ?_
   have htk:P.take i=P:=List.take_of_length_le (by omega)
   rw [htk] at hw
   exact ⟨Y,w,rfl,hw,rfl⟩
 rintro a' L' ⟨Y,w,rfl,hw,rfl⟩
 repeat refine xQ ?_
 refine xG rfl ?_
 iterate 2 refine xP rfl rh rfl ?_
 refine xN ?_
 refine xT ⟨_,fun _ _=>rfl,?_⟩
 exact ⟨Y,rfl,hw⟩
theorem pair_eq (k v:Tx):eqB Tryz.prog 100 100 (.agg ⟨[txt k,txt v]⟩) (.agg ⟨[txt k,txt v]⟩)=some true:=by
 have e:eqB Tryz.prog 100 100 (.agg ⟨[txt k,txt v]⟩) (.agg ⟨[txt k,txt v]⟩)=(match some (bytesEq k k) with | some true=>(match some (bytesEq v v) with | some true=>some true | r=>r) | r=>r):=by kernel_rfl
 rw [e,beqT,beqT,decide_eq_true rfl,decide_eq_true rfl]
theorem Same_ct {L:RL} {a b:Value} {P:List Pr} (ha:SV 2 L a P.length (prC P)) (hb:SV 2 L b P.length (prC P)) (hm:P.length<=100000000):CS Tryz.prog 35 [a,b] L fun u L'=>u=.bool true/\L'=L:=by
 refine CS.mk (fn:=Tryz.f35) rfl rfl rfl rfl ?_
 repeat refine xQ ?_
 refine xG rfl ?_
 refine xP rfl rh rfl ?_
 refine xN ?_
 repeat refine xQ ?_
 refine xG rfl ?_
 refine xP rfl rh rfl ?_
 refine xP rfl (e_len ha rfl rfl rfl rfl rfl) rfl ?_
 refine xP rfl rh rfl ?_
 refine xP rfl (e_len hb rfl rfl rfl rfl rfl) rfl ?_
 refine xP rfl (e_ib rh ((ne_same _))) rfl ?_
 refine xN ?_
 repeat refine xQ ?_
 refine xC rfl (fun hc=>?_) (fun hc=>?_)
 ·cases hc
 refine LS.skip ?_
 repeat refine xQ ?_
 refine xG rfl ?_
 refine xP rfl rh rfl ?_
 refine xN ?_
 repeat refine xQ ?_
 refine LS.block ?_
 refine LS.loopJ [0,1,5] (fun q s L'=>∃ i,q=P.length - i/\i<=P.length/\L'=L/\s=[a,b,jn,jn,jn,.int .i64 (i:Nat),jn,jn,jn,jn,jn,jn,jn,jn,jn,jn,jn,jn,jn,jn,jn,jn,jn,jn,jn,jn]) (n:=P.length) rfl ⟨0,rfl,by omega,rfl,rfl⟩ ?_
 rintro q s L' ⟨i,rfl,hi,hLL,rfl⟩
 subst hLL
 repeat refine xQ ?_
 refine xG rfl ?_
 iterate 2 refine xP rfl rh rfl ?_
 refine xP rfl (e_len ha rfl rfl rfl rfl rfl) rfl ?_
 refine xP rfl rh rfl ?_
 refine xN ?_
 repeat refine xQ ?_
 refine xC rfl (fun hc=>?_) (fun hc=>?_)
 ·have hc:=lt_of hc
  have hil:i < P.length:=by omega
  obtain ⟨p,hp⟩:∃ p,P[i]?=some p:=⟨_,List.getElem?_eq_getElem hil⟩
  refine LS.skip ?_
  repeat refine xQ ?_
  refine LS.block ?_
  repeat refine xQ ?_
  refine LS.drawn noGo mixed [(0,false),(1,false),(2,false),(3,false),(4,false),(5,false),(6,false),(7,false),(8,false)] rfl rfl (by kernel_rfl) ?_
  iterate 2 refine xD rfl rfl rh rfl ?_
  refine ODS.at (j:=i) ha hil rfl rfl rfl rfl rfl rfl rfl (fun r0 o0 row0 cs0 m0 c0 g0 k0=>⟨_,rfl,?_⟩)
  refine xE rfl rfl (e_loadm m0 c0 rfl rfl (part_agg rfl rfl (k0 _ (prC_cut hp)))) rfl ?_
  iterate 2 refine xD rfl rfl rh rfl ?_
  refine ODS.at (j:=i) hb hil rfl rfl rfl rfl rfl rfl rfl (fun r1 o1 row1 cs1 m1 c1 g1 k1=>⟨_,rfl,?_⟩)
  refine xE rfl rfl (e_loadm m1 c1 rfl rfl (part_agg rfl rfl (k1 _ (prC_cut hp)))) rfl ?_
  refine xD rfl rfl (e_nePair rfl rfl rfl rfl (pair_eq p.1 p.2) (by kernel_rfl)) rfl ?_
  refine xM ?_
  repeat refine xQ ?_
  refine xC rfl (fun hc2=>?_) (fun hc2=>?_)
  ·cases hc2
  refine LS.skip ?_
  repeat refine xQ ?_
  refine xG rfl ?_
  refine xP rfl rh rfl ?_
  refine xP rfl (e_add rfl rfl rfl (in_i64 (by omega) (by omega))) rfl ?_
  refine xP rfl rh rfl ?_
  refine xN ?_
  exact ⟨P.length - (i+1),by omega,i+1,rfl,by omega,rfl,rfl⟩
 ·refine LS.exit ?_
  repeat refine xQ ?_
  refine xG rfl ?_
  refine xP rfl rh rfl ?_
  refine xN ?_
  refine xT ⟨_,fun _ _=>rfl,?_⟩
  exact ⟨rfl,rfl⟩
end Go.Proofs.YtlmmddfhoabjfaaGreat
end
section
namespace Go.Proofs.YtlmmddfhoabjfaaGreat
open Go.Am
abbrev mRow (lv:Value):ARow:=.cells 58 [lv]
theorem getP_cons {p:Pr} {P:List Pr} {k:Tx}:getP (p::P) k=if p.1=k then some p.2 else getP P k:=by
 unfold getP
 by_cases h:p.1=k
 ·rw [List.find?_cons_of_pos (by simp [h]),if_pos h]; rfl
 ·rw [List.find?_cons_of_neg (by simp [h]),if_neg h]
theorem drop_one {P:List Pr} {i:Nat} {p:Pr} (h:P[i]?=some p):P.drop i=p::P.drop (i+1):=by
 obtain ⟨hi,rfl⟩:=List.getElem?_eq_some_iff.1 h
 rw [List.getElem_cons_drop]
theorem May_ct {L:RL} {k v:Tx} (hk:k.length<=9000000000000000) (hv:v.length<=9000000000000000):CS Tryz.prog 28 [txt k,txt v] L fun u L'=>∃ b:Bool,(b=true↔mayP k v)/\u=.bool b/\L'=L:=by
 refine CS.mk (fn:=Tryz.f28) rfl rfl rfl rfl ?_
 repeat refine xQ ?_
 refine xG rfl ?_
 refine xP rfl rh rfl ?_
 refine xN ?_
 by_cases h1:1<=k.length
 case neg =>
  have hb:ileB 1 ((k.length:Nat):Int)=false:=by rw [ileB_eq,decide_eq_false (by omega)]
  repeat refine xQ ?_
  refine xG rfl ?_
  iterate 2 refine xP rfl rh rfl ?_
  refine xP rfl (e_ib rh (hb)) rfl ?_
  refine xP rfl rh rfl ?_
  iterate 3 refine xK rfl rfl ?_
  iterate 2 refine xP rfl rh rfl ?_
  iterate 3 refine xK rfl rfl ?_
  iterate 2 refine xP rfl rh rfl ?_
  refine xN ?_
  refine xT ⟨_,fun _ _=>rfl,?_⟩
  exact ⟨false,⟨fun h=>(by cases h),fun h=>absurd h.1 h1⟩,rfl,rfl⟩
 have hb:ileB 1 ((k.length:Nat):Int)=true:=ileB_iff.2 (by omega)
 by_cases h2:k.length<=32
 case neg =>
  have hb2:ileB ((k.length:Nat):Int) 32=false:=by rw [ileB_eq,decide_eq_false (by omega)]
  repeat refine xQ ?_
  refine xG rfl ?_
  iterate 2 refine xP rfl rh rfl ?_
  refine xP rfl (e_ib rh (hb)) rfl ?_
  iterate 3 refine xP rfl rh rfl ?_
  refine xP rfl (e_ib rh (hb2)) rfl ?_
  iterate 2 refine xP rfl rh rfl ?_
  iterate 3 refine xK rfl rfl ?_
  iterate 2 refine xP rfl rh rfl ?_
  refine xN ?_
  refine xT ⟨_,fun _ _=>rfl,?_⟩
  exact ⟨false,⟨fun h=>(by cases h),fun h=>absurd h.2.1 h2⟩,rfl,rfl⟩
 have hb2:ileB ((k.length:Nat):Int) 32=true:=ileB_iff.2 (by omega)
 by_cases h3:v.length<=64
 ·have hb3:ileB ((v.length:Nat):Int) 64=true:=ileB_iff.2 (by omega)
  repeat refine xQ ?_
  refine xG rfl ?_
  iterate 2 refine xP rfl rh rfl ?_
  refine xP rfl (e_ib rh (hb)) rfl ?_
  iterate 3 refine xP rfl rh rfl ?_
  refine xP rfl (e_ib rh (hb2)) rfl ?_
  iterate 4 refine xP rfl rh rfl ?_
  refine xP rfl (e_ib rh (hb3)) rfl ?_
  iterate 2 refine xP rfl rh rfl ?_
  refine xN ?_
  refine xT ⟨_,fun _ _=>rfl,?_⟩
  exact ⟨true,⟨fun _=>⟨h1,h2,h3⟩,fun _=>rfl⟩,rfl,rfl⟩
 ·have hb3:ileB ((v.length:Nat):Int) 64=false:=by rw [ileB_eq,decide_eq_false (by omega)]
  repeat refine xQ ?_
  refine xG rfl ?_
  iterate 2 refine xP rfl rh rfl ?_
  refine xP rfl (e_ib rh (hb)) rfl ?_
  iterate 3 refine xP rfl rh rfl ?_
  refine xP rfl (e_ib rh (hb2)) rfl ?_
  iterate 4 refine xP rfl rh rfl ?_
  refine xP rfl (e_ib rh (hb3)) rfl ?_
  iterate 2 refine xP rfl rh rfl ?_
  refine xN ?_
  refine xT ⟨_,fun _ _=>rfl,?_⟩
  exact ⟨false,⟨fun h=>(by cases h),fun h=>absurd h.2.2 h3⟩,rfl,rfl⟩
theorem rGet_ct {L:RL} {rx:Nat} {lv:Value} {P:List Pr} {key:Tx} (hr:(rx,mRow lv)∈L) (hp:SV 2 L lv P.length (prC P)) (hm:P.length<=100000000) :
  CS Tryz.prog 34 [ptr rx,txt key] L fun u L'=>u=getV P key/\L'=L:=by
 refine CS.mk (fn:=Tryz.f34) rfl rfl rfl rfl ?_
 repeat refine xQ ?_
 refine xG rfl ?_
 iterate 2 refine xP rfl rh rfl ?_
 refine xN ?_
 repeat refine xQ ?_
 refine xG rfl ?_
 refine xP rfl rh rfl ?_
 refine xN ?_
 repeat refine xQ ?_
 refine LS.block ?_
 refine LS.loopJ [0,1,6] (fun q s L'=>∃ i,q=P.length - i/\i<=P.length/\getP P key=getP (P.drop i) key/\L'=L/\s=[ptr rx,txt key,jn,jn,jn,jn,.int .i64 (i:Nat),jn,jn,jn,jn,jn,jn,jn,jn,jn,jn,jn,jn,jn,jn,jn,jn,jn,jn,jn,jn,jn,jn,jn,jn,jn,jn,jn]) (n:=P.length) rfl ⟨0,rfl,by omega,rfl,rfl,rfl⟩ ?_
 rintro q s L' ⟨i,rfl,hi,hg,hLL,rfl⟩
 subst hLL
 by_cases hip:i < P.length
 ·have hb:(!ileB ((P.length:Nat):Int) ((i:Nat):Int))=true:=by rw [ileB_eq,decide_eq_false (by omega)]; rfl
  obtain ⟨p,hp'⟩:∃ p,P[i]?=some p:=⟨_,List.getElem?_eq_getElem hip⟩
  obtain ⟨g1,g2⟩:=prC_get hp'
  rw [drop_one hp',getP_cons] at hg
  repeat refine xQ ?_
  refine xG rfl ?_
  iterate 4 refine xP rfl rh rfl ?_
  refine xR rfl (e_loadm hr rfl rfl rfl rfl) rfl ?_
  refine xP rfl (e_len hp rfl rfl rfl rfl rfl) rfl ?_
  refine xP rfl (e_ib rh (hb)) rfl ?_
  refine xN ?_
  repeat refine xQ ?_
  refine xC rfl (fun hc=>?_) (fun hc=>?_)
  ·refine LS.skip ?_
   repeat refine xQ ?_
   refine LS.block ?_
   by_cases hpk:p.1=key
   ·have hb2:bytesEq p.1 key=true:=by rw [beqT,decide_eq_true hpk]
    rw [if_pos hpk] at hg
    have hv:getV P key=.tuple #[txt p.2,.bool true]:=by unfold getV; rw [hg]
    repeat refine xQ ?_
    refine xG rfl ?_
    iterate 3 refine xP rfl rh rfl ?_
    refine xR rfl (e_loadm hr rfl rfl rfl rfl) rfl ?_
    refine xP rfl rh rfl ?_
    refine OS.at (j:=i) hp hip rfl rfl rfl rfl rfl rfl (fun r0 o0 row0 cs0 m0 c0 g0 k0=>⟨_,rfl,?_⟩)
    refine xP rfl rh rfl ?_
    refine xR rfl (e_loadm m0 c0 rfl rfl (part_one rfl (g0 0 _ (by omega) g1))) rfl ?_
    refine xP rfl rh rfl ?_
    refine xP rfl (e_ib rh (hb2)) rfl ?_
    refine xN ?_
    repeat refine xQ ?_
    refine xC rfl (fun hc2=>?_) (fun hc2=>?_)
    ·repeat refine xQ ?_
     refine xG rfl ?_
     iterate 3 refine xP rfl rh rfl ?_
     refine xR rfl (e_loadm hr rfl rfl rfl rfl) rfl ?_
     refine xP rfl rh rfl ?_
     refine OS.at (j:=i) hp hip rfl rfl rfl rfl rfl rfl (fun r1 o1 row1 cs1 m1 c1 g3 k1=>⟨_,rfl,?_⟩)
     refine xP rfl rh rfl ?_
     refine xR rfl (e_loadm m1 c1 rfl rfl (part_one rfl (g3 1 _ (by omega) g2))) rfl ?_
     iterate 2 refine xP rfl rh rfl ?_
     refine xN ?_
     refine xT ⟨_,fun _ _=>rfl,?_⟩
     exact ⟨hv.symm,rfl⟩
    ·cases hc2
   ·have hb2:bytesEq p.1 key=false:=by rw [beqT,decide_eq_false hpk]
    rw [if_neg hpk] at hg
    repeat refine xQ ?_
    refine xG rfl ?_
    iterate 3 refine xP rfl rh rfl ?_
    refine xR rfl (e_loadm hr rfl rfl rfl rfl) rfl ?_
    refine xP rfl rh rfl ?_
    refine OS.at (j:=i) hp hip rfl rfl rfl rfl rfl rfl (fun r0 o0 row0 cs0 m0 c0 g0 k0=>⟨_,rfl,?_⟩)
    refine xP rfl rh rfl ?_
    refine xR rfl (e_loadm m0 c0 rfl rfl (part_one rfl (g0 0 _ (by omega) g1))) rfl ?_
    refine xP rfl rh rfl ?_
    refine xP rfl (e_ib rh (hb2)) rfl ?_
    refine xN ?_
    repeat refine xQ ?_
    refine xC rfl (fun hc2=>?_) (fun hc2=>?_)
    ·cases hc2
    refine LS.skip ?_
    repeat refine xQ ?_
    refine xG rfl ?_
    refine xP rfl rh rfl ?_
    refine xP rfl (e_addN (n:=1) rfl rfl rfl (in_i64 (by omega) (by omega))) rfl ?_
    refine xP rfl rh rfl ?_
    refine xN ?_
    exact ⟨P.length - (i+1),by omega,i+1,rfl,by omega,hg,rfl,rfl⟩
  ·cases hc
 ·have hb:(!ileB ((P.length:Nat):Int) ((i:Nat):Int))=false:=by rw [ileB_eq,decide_eq_true (by omega)]; rfl
  repeat refine xQ ?_
  refine xG rfl ?_
  iterate 4 refine xP rfl rh rfl ?_
  refine xR rfl (e_loadm hr rfl rfl rfl rfl) rfl ?_
  refine xP rfl (e_len hp rfl rfl rfl rfl rfl) rfl ?_
  refine xP rfl (e_ib rh (hb)) rfl ?_
  refine xN ?_
  repeat refine xQ ?_
  refine xC rfl (fun hc=>?_) (fun hc=>?_)
  ·cases hc
  refine LS.exit ?_
  have hv:getV P key=.tuple #[txt [],.bool false]:=by
   unfold getV
   rw [hg,List.drop_eq_nil_of_le (by omega)]
   rfl
  repeat refine xQ ?_
  refine xG rfl ?_
  iterate 2 refine xP rfl rh rfl ?_
  refine xN ?_
  refine xT ⟨_,fun _ _=>rfl,?_⟩
  exact ⟨hv.symm,rfl⟩
theorem delP_take {P:List Pr} {i:Nat} {p:Pr} {k:Tx} (h:P[i]?=some p):delP k (P.take (i+1))=if p.1=k then delP k (P.take i) else delP k (P.take i)++[p]:=by
 rw [List.take_add_one,h]
 unfold delP
 rw [Option.toList_some,List.filter_append]
 by_cases hk:p.1=k
 ·rw [if_pos hk,List.filter_cons_of_neg (by simp [hk])]; simp
 ·rw [if_neg hk,List.filter_cons_of_pos (by simp [hk])]; simp
set_option maxHeartbeats 1000000 in
theorem rDel_ct {F M:RL} {rx:Nat} {lv:Value} {P:List Pr} {key:Tx} (hM:∀ p,p∈M->p∈F) (hp:PL 100 2 M lv P.length (prC P)) (hm:P.length<=100000000) :
  CS Tryz.prog 30 [ptr rx,txt key] ((rx,mRow lv)::F) fun u L'=>∃ lv' Y,L'=(rx,mRow lv')::(Y++F)/\PL 100 2 (Y++M) lv' (delP key P).length (prC (delP key P))/\u=.int .i64 (if getP P key=none then 5 else 0):=by
 have hr:∀ Y:RL,(rx,mRow lv)∈Y++((rx,mRow lv)::F):=fun Y=>by simp
 have hs:∀ Y:RL,SV 2 (Y++((rx,mRow lv)::F)) lv P.length (prC P):=fun Y=>hp.sv.mono fun q hq=>by simp [hM q hq]
 refine CS.mk (fn:=Tryz.f30) rfl rfl rfl rfl ?_
 repeat refine xQ ?_
 refine xG rfl ?_
 refine xP rfl rh rfl ?_
 refine xN ?_
 repeat refine xQ ?_
 refine xG rfl ?_
 refine xP rfl rh rfl ?_
 refine xN ?_
 repeat refine xQ ?_
 refine xG rfl ?_
 refine xP rfl rh rfl ?_
 refine xN ?_
 repeat refine xQ ?_
 refine LS.mid [0,5] (fun a' L'=>∃ Y w,L'=Y++((rx,mRow lv)::F)/\GV 100 2 [] w (delP key P).length (prC (delP key P)) Y/\a'=[ptr rx,jn,jn,jn,jn,w,jn,jn,jn,jn,jn,jn,jn,jn,jn,jn,jn,jn,jn,jn,jn,jn,jn,jn,jn,jn,jn,jn,jn,jn,jn,jn,jn,jn,jn,jn,jn,jn,jn,jn,jn,jn,jn,jn,jn,jn,jn,jn]) ?_ ?_
 ·refine LS.block ?_
  refine LS.loopJ [0,1,5,6] (fun q s L'=>∃ (i:Nat) (Y:RL) (w:Value),q=P.length - i/\i<=P.length/\L'=Y++((rx,mRow lv)::F)/\GV 100 2 [] w (delP key (P.take i)).length (prC (delP key (P.take i))) Y/\s=[ptr rx,txt key,jn,jn,jn,w,.int .i64 (i:Nat),jn,jn,jn,jn,jn,jn,jn,jn,jn,jn,jn,jn,jn,jn,jn,jn,jn,jn,jn,jn,jn,jn,jn,jn,jn,jn,jn,jn,jn,jn,jn,jn,jn,jn,jn,jn,jn,jn,jn,jn,jn]) (n:=P.length) rfl ⟨0,[],_,rfl,by omega,rfl,.inl ⟨rfl,rfl,rfl,rfl⟩,rfl⟩ ?_
  rintro q s L' ⟨i,Y,w,rfl,hi,rfl,hw,rfl⟩
  by_cases hip:i < P.length
  ·have hb:(!ileB ((P.length:Nat):Int) ((i:Nat):Int))=true:=by rw [ileB_eq,decide_eq_false (by omega)]; rfl
   obtain ⟨p,hp'⟩:∃ p,P[i]?=some p:=⟨_,List.getElem?_eq_getElem hip⟩
   obtain ⟨g1,g2⟩:=prC_get hp'
   have htk:=delP_take (k:=key) hp'
   have hdl:(delP key (P.take i)).length<=i:=by
    have h1:=delP_len (k:=key) (P:=P.take i)
    have h2:=List.length_take_le i P
    omega
   repeat refine xQ ?_
   refine xG rfl ?_
   iterate 4 refine xP rfl rh rfl ?_
   refine xR rfl (e_loadm (hr Y) rfl rfl rfl rfl) rfl ?_
   refine xP rfl (e_len (hs Y) rfl rfl rfl rfl rfl) rfl ?_
   refine xP rfl (e_ib rh (hb)) rfl ?_
   refine xN ?_
   repeat refine xQ ?_
   refine xC rfl (fun hc=>?_) (fun hc=>?_)
   ·refine LS.skip ?_
    repeat refine xQ ?_
    refine LS.mid [0,1,5,6] (fun a' L'=>∃ Y w,L'=Y++((rx,mRow lv)::F)/\GV 100 2 [] w (delP key (P.take (i+1))).length (prC (delP key (P.take (i+1)))) Y/\a'=[ptr rx,txt key,jn,jn,jn,w,.int .i64 (i:Nat),jn,jn,jn,jn,jn,jn,jn,jn,jn,jn,jn,jn,jn,jn,jn,jn,jn,jn,jn,jn,jn,jn,jn,jn,jn,jn,jn,jn,jn,jn,jn,jn,jn,jn,jn,jn,jn,jn,jn,jn,jn]) ?_ ?_
    ·repeat refine xQ ?_
     refine LS.block ?_
     by_cases hpk:p.1=key
     ·have hb2:(!bytesEq p.1 key)=false:=by rw [beqT,decide_eq_true hpk]; rfl
      rw [if_pos hpk] at htk
      repeat refine xQ ?_
      refine xG rfl ?_
      iterate 3 refine xP rfl rh rfl ?_
      refine xR rfl (e_loadm (hr Y) rfl rfl rfl rfl) rfl ?_
      refine xP rfl rh rfl ?_
      refine OS.at (j:=i) (hs Y) hip rfl rfl rfl rfl rfl rfl (fun r0 o0 row0 cs0 m0 c0 g0 k0=>⟨_,rfl,?_⟩)
      refine xP rfl rh rfl ?_
      refine xR rfl (e_loadm m0 c0 rfl rfl (part_one rfl (g0 0 _ (by omega) g1))) rfl ?_
      refine xP rfl rh rfl ?_
      refine xP rfl (e_ib rh (hb2)) rfl ?_
      refine xN ?_
      repeat refine xQ ?_
      refine xC rfl (fun hc2=>?_) (fun hc2=>?_)
      ·cases hc2
      refine LS.skip ?_
      exact ⟨Y,w,rfl,by rw [htk]; exact hw,rfl⟩
     ·have hb2:(!bytesEq p.1 key)=true:=by rw [beqT,decide_eq_false hpk]; rfl
      rw [if_neg hpk] at htk
      repeat refine xQ ?_
      refine xG rfl ?_
      iterate 3 refine xP rfl rh rfl ?_
      refine xR rfl (e_loadm (hr Y) rfl rfl rfl rfl) rfl ?_
      refine xP rfl rh rfl ?_
      refine OS.at (j:=i) (hs Y) hip rfl rfl rfl rfl rfl rfl (fun r0 o0 row0 cs0 m0 c0 g0 k0=>⟨_,rfl,?_⟩)
      refine xP rfl rh rfl ?_
      refine xR rfl (e_loadm m0 c0 rfl rfl (part_one rfl (g0 0 _ (by omega) g1))) rfl ?_
      refine xP rfl rh rfl ?_
      refine xP rfl (e_ib rh (hb2)) rfl ?_
      refine xN ?_
      repeat refine xQ ?_
      refine xC rfl (fun hc2=>?_) (fun hc2=>?_)
      ·repeat refine xQ ?_
       refine xG rfl ?_
       iterate 4 refine xP rfl rh rfl ?_
       refine xR rfl (e_loadm (hr Y) rfl rfl rfl rfl) rfl ?_
       refine xP rfl rh rfl ?_
       refine OS.at (j:=i) (hs Y) hip rfl rfl rfl rfl rfl rfl (fun r1 o1 row1 cs1 m1 c1 g3 k1=>⟨_,rfl,?_⟩)
       refine xR rfl (e_loadm m1 c1 rfl rfl (part_agg rfl rfl (k1 _ (prC_cut hp')))) rfl ?_
       refine OS.fresh rfl (e_new (fun _=>rfl) rfl) (fun _=>rfl) (fun rz=>?_)
       refine OS.turns rfl (e_appendGA [(rz,.cells 100 [txt p.1,txt p.2])] ((rx,mRow lv)::F) (e:=100) (sz:=2) (bts:=32) (m:=1) (new:=prC [p]) hw (SV.row (sz:=2) (n:=1) (List.mem_cons_self ..) rfl) rfl rfl rfl rfl (by omega) (by omega)) (fun w2 L₁ hR=>?_)
       obtain ⟨Y2,h2,rfl⟩:=hR
       refine ⟨_,rfl,?_⟩
       refine OS.sub (Sub.sums2 ([(rz,.cells 100 [txt p.1,txt p.2])]) (A:=Y2++((rx,mRow lv)::F)) (B:=Y2++([(rz,.cells 100 [txt p.1,txt p.2])]++((rx,mRow lv)::F))) fun f=>by simp [HD,fm]<;>omega) ?_
       refine xP rfl rh rfl ?_
       refine xN ?_
       exact ⟨Y2,w2,rfl,by rw [htk,List.length_append,prC_app]; exact h2,rfl⟩
      ·cases hc2
    rintro a' L' ⟨Y,w,rfl,hw,rfl⟩
    repeat refine xQ ?_
    refine xG rfl ?_
    refine xP rfl rh rfl ?_
    refine xP rfl (e_addN (n:=1) rfl rfl rfl (in_i64 (by omega) (by omega))) rfl ?_
    refine xP rfl rh rfl ?_
    refine xN ?_
    exact ⟨P.length - (i+1),by omega,i+1,Y,w,rfl,by omega,rfl,hw,rfl⟩
   ·cases hc
  ·have hb:(!ileB ((P.length:Nat):Int) ((i:Nat):Int))=false:=by rw [ileB_eq,decide_eq_true (by omega)]; rfl
   repeat refine xQ ?_
   refine xG rfl ?_
   iterate 4 refine xP rfl rh rfl ?_
   refine xR rfl (e_loadm (hr Y) rfl rfl rfl rfl) rfl ?_
   refine xP rfl (e_len (hs Y) rfl rfl rfl rfl rfl) rfl ?_
   refine xP rfl (e_ib rh (hb)) rfl ?_
   refine xN ?_
   repeat refine xQ ?_
   refine xC rfl (fun hc=>?_) (fun hc=>?_)
   ·cases hc
   refine LS.exit ?_
   rw [List.take_of_length_le (by omega)] at hw
   exact ⟨Y,w,rfl,hw,rfl⟩
 rintro a' L' ⟨Y,w,rfl,hw,rfl⟩
 have hdl:=delP_len (k:=key) (P:=P)
 have hws:SV 2 (Y++((rx,mRow lv)::F)) w (delP key P).length (prC (delP key P)):=hw.sv.mono fun q hq=>List.mem_append_left _ hq
 by_cases hg:getP P key=none
 ·have he:=delP_none hg
  have hb:ieqB (((delP key P).length:Nat):Int) ((P.length:Nat):Int)=true:=by rw [he,ieqN,decide_eq_true rfl]
  repeat refine xQ ?_
  refine xG rfl ?_
  refine xP rfl rh rfl ?_
  refine xP rfl (e_len hws rfl rfl rfl rfl rfl) rfl ?_
  iterate 3 refine xP rfl rh rfl ?_
  refine xR rfl (e_loadm (hr Y) rfl rfl rfl rfl) rfl ?_
  refine xP rfl (e_len (hs Y) rfl rfl rfl rfl rfl) rfl ?_
  refine xP rfl (e_ib rh (hb)) rfl ?_
  refine xN ?_
  repeat refine xQ ?_
  refine xC rfl (fun hc=>?_) (fun hc=>?_)
  ·repeat refine xQ ?_
   refine xG rfl ?_
   refine xP rfl rh rfl ?_
   refine xN ?_
   refine LS.sub (Sub.sums2 (Y) (A:=(rx,mRow lv)::F) (B:=Y++((rx,mRow lv)::F)) fun f=>by simp [HD,fm]<;>omega) ?_
   refine xT ⟨_,fun _ _=>rfl,?_⟩
   exact ⟨lv,[],rfl,by rw [he]; exact hp,by rw [if_pos hg]; rfl⟩
  ·cases hc
 ·have he:=delP_some hg
  have hb:ieqB (((delP key P).length:Nat):Int) ((P.length:Nat):Int)=false:=by rw [ieqN,decide_eq_false (by omega)]
  have hpl:=(hw.ol (by unfold openCap; omega)).pl
  repeat refine xQ ?_
  refine xG rfl ?_
  refine xP rfl rh rfl ?_
  refine xP rfl (e_len hws rfl rfl rfl rfl rfl) rfl ?_
  iterate 3 refine xP rfl rh rfl ?_
  refine xR rfl (e_loadm (hr Y) rfl rfl rfl rfl) rfl ?_
  refine xP rfl (e_len (hs Y) rfl rfl rfl rfl rfl) rfl ?_
  refine xP rfl (e_ib rh (hb)) rfl ?_
  refine xN ?_
  repeat refine xQ ?_
  refine xC rfl (fun hc=>?_) (fun hc=>?_)
  ·cases hc
  refine LS.skip ?_
  refine LS.sub (Sub.sums (A:=(rx,mRow lv)::(Y++F)) (B:=Y++((rx,mRow lv)::F)) fun f=>by simp [HD,fm]<;>omega) ?_
  rcases hw with ⟨rfl,h0,h1,rfl⟩ | ⟨r,rfl,hl,rfl⟩
  ·repeat refine xQ ?_
   refine xG rfl ?_
   iterate 4 refine xP rfl rh rfl ?_
   refine OS.write rfl (e_store 0 rfl rfl rfl rfl rfl rfl rfl rfl) rfl ?_
   refine xN ?_
   repeat refine xQ ?_
   refine xG rfl ?_
   refine xP rfl rh rfl ?_
   refine xN ?_
   refine xT ⟨_,fun _ _=>rfl,?_⟩
   exact ⟨_,[],rfl,hpl.mono (fun q hq=>by cases hq),by rw [if_neg hg]; rfl⟩
  ·repeat refine xQ ?_
   refine xG rfl ?_
   iterate 4 refine xP rfl rh rfl ?_
   refine OS.write rfl (e_store 0 rfl rfl rfl rfl rfl rfl rfl rfl) rfl ?_
   refine xN ?_
   repeat refine xQ ?_
   refine xG rfl ?_
   refine xP rfl rh rfl ?_
   refine xN ?_
   refine xT ⟨_,fun _ _=>rfl,?_⟩
   exact ⟨_,[_],rfl,hpl.mono fun q hq=>List.mem_append_left _ hq,by rw [if_neg hg]; rfl⟩
theorem put_parts {P:List Pr} {k v:Tx} (hs:SrtP P):∃ A B:List Pr,delP k P=A++B/\putP k v P=A++(k,v)::B/\(∀ p∈A,bytesLt p.1 k=true)/\(∀ p∈B,bytesLt p.1 k=false) :=
 ⟨_,_,del_parts hs,rfl,fun p hp=>by simpa using (List.mem_filter.1 hp).2,fun p hp=>lt_asym (by simpa using (List.mem_filter.1 hp).2)⟩
theorem take_2 {A B:List Pr}:(prC (A++B)).take (A.length * 2)=prC A:=by
 rw [prC_app,List.take_append_of_le_length (by rw [prC_len]; omega),List.take_of_length_le (by rw [prC_len]; omega)]
theorem drop_2 {A B:List Pr}:(prC (A++B)).drop (A.length * 2)=prC B:=by
 rw [prC_app,← prC_len,List.drop_left]
set_option maxHeartbeats 1000000 in
theorem rPut_ct {F M:RL} {rx:Nat} {lv:Value} {P:List Pr} {key val:Tx} (hM:∀ p,p∈M->p∈F) (hp:PL 100 2 M lv P.length (prC P)) (hs:SrtP P) (hm:P.length<=90000000) :
  CS Tryz.prog 29 [ptr rx,txt key,txt val] ((rx,mRow lv)::F) fun u L'=>∃ lv' Y,L'=(rx,mRow lv')::(Y++F)/\PL 100 2 (Y++M) lv' (putP key val P).length (prC (putP key val P)):=by
 have hdl:=delP_len (k:=key) (P:=P)
 obtain ⟨A,B,hd,hpt,hA,hB⟩:=put_parts (k:=key) (v:=val) hs
 refine CS.mk (fn:=Tryz.f29) rfl rfl rfl rfl ?_
 repeat refine xQ ?_
 refine xG rfl ?_
 iterate 2 refine xP rfl rh rfl ?_
 refine xA noGo rfl (fun _=>rfl) ((rDel_ct hM hp (by omega)).mono ?_)
 rintro u L' ⟨lv1,Y1,rfl,hp1,rfl⟩
 refine ⟨_,rfl,?_⟩
 refine xN ?_
 rw [hd] at hp1 hdl
 rw [hpt]
 rw [List.length_append] at hdl
 obtain ⟨F1,hF1⟩:∃ F1:RL,F1=Y1++F:=⟨_,rfl⟩
 have hM1:∀ p,p∈Y1++M->p∈F1:=fun p hp=>by
  rw [hF1]
  rcases List.mem_append.1 hp with hp | hp
  ·exact List.mem_append_left _ hp
  ·exact List.mem_append_right _ (hM p hp)
 rw [← hF1]
 have hr:∀ Y:RL,(rx,mRow lv1)∈Y++((rx,mRow lv1)::F1):=fun Y=>by simp
 have hsv:∀ Y:RL,SV 2 (Y++((rx,mRow lv1)::F1)) lv1 (A++B).length (prC (A++B)):=fun Y=>hp1.sv.mono fun q hq=>by simp [hM1 q hq]
 have hAB:(A++B).length=A.length+B.length:=List.length_append
 repeat refine xQ ?_
 refine xG rfl ?_
 refine xP rfl rh rfl ?_
 refine xN ?_
 repeat refine xQ ?_
 refine LS.mid [0,1,2,6] (fun a' L'=>L'=(rx,mRow lv1)::F1/\a'=[ptr rx,txt key,txt val,jn,jn,jn,.int .i64 (A.length:Nat),jn,jn,jn,jn,jn,jn,jn,jn,jn,jn,jn,jn,jn,jn,jn,jn,jn,jn,jn,jn,jn,jn,jn,jn,jn,jn,jn,jn,jn,jn,jn,jn,jn,jn,jn,jn,jn,jn,jn,jn,jn,jn,jn,jn,jn,jn,jn,jn,jn,jn]) ?_ ?_
 ·refine LS.block ?_
  refine LS.loopJ [0,1,2,6] (fun q s L'=>∃ i:Nat,q=A.length - i/\i<=A.length/\L'=(rx,mRow lv1)::F1/\s=[ptr rx,txt key,txt val,jn,jn,jn,.int .i64 (i:Nat),jn,jn,jn,jn,jn,jn,jn,jn,jn,jn,jn,jn,jn,jn,jn,jn,jn,jn,jn,jn,jn,jn,jn,jn,jn,jn,jn,jn,jn,jn,jn,jn,jn,jn,jn,jn,jn,jn,jn,jn,jn,jn,jn,jn,jn,jn,jn,jn,jn,jn]) (n:=A.length) rfl ⟨0,rfl,by omega,rfl,rfl⟩ ?_
  rintro q s L' ⟨i,rfl,hi,rfl,rfl⟩
  by_cases hip:i < (A++B).length
  ·have hb:(!ileB (((A++B).length:Nat):Int) ((i:Nat):Int))=true:=by rw [ileB_eq,decide_eq_false (by omega)]; rfl
   obtain ⟨p,hp'⟩:∃ p,(A++B)[i]?=some p:=⟨_,List.getElem?_eq_getElem hip⟩
   obtain ⟨g1,g2⟩:=prC_get hp'
   by_cases hiA:i < A.length
   ·have hlt:bytesLt p.1 key=true:=hA p (by
     rw [List.getElem?_append_left hiA] at hp'
     exact List.mem_of_getElem? hp')
    repeat refine xQ ?_
    refine xG rfl ?_
    iterate 4 refine xP rfl rh rfl ?_
    refine xR rfl (e_loadm (hr []) rfl rfl rfl rfl) rfl ?_
    refine xP rfl (e_len (hsv []) rfl rfl rfl rfl rfl) rfl ?_
    refine xP rfl (e_ib rh (hb)) rfl ?_
    iterate 4 refine xP rfl rh rfl ?_
    refine xR rfl (e_loadm (hr []) rfl rfl rfl rfl) rfl ?_
    refine xP rfl rh rfl ?_
    refine OS.at (j:=i) (hsv []) hip rfl rfl rfl rfl rfl rfl (fun r0 o0 row0 cs0 m0 c0 g0 k0=>⟨_,rfl,?_⟩)
    refine xP rfl rh rfl ?_
    refine xR rfl (e_loadm m0 c0 rfl rfl (part_one rfl (g0 0 _ (by omega) g1))) rfl ?_
    refine xP rfl rh rfl ?_
    refine xP rfl (e_ib rh (hlt)) rfl ?_
    refine xP rfl rh rfl ?_
    refine xN ?_
    repeat refine xQ ?_
    refine xC rfl (fun hc=>?_) (fun hc=>?_)
    ·refine LS.skip ?_
     repeat refine xQ ?_
     refine LS.block ?_
     repeat refine xQ ?_
     refine xG rfl ?_
     refine xP rfl rh rfl ?_
     refine xP rfl (e_addN (n:=1) rfl rfl rfl (in_i64 (by omega) (by omega))) rfl ?_
     refine xP rfl rh rfl ?_
     refine xN ?_
     exact ⟨A.length - (i+1),by omega,i+1,rfl,by omega,rfl,rfl⟩
    ·cases hc
   ·have hiA2:i=A.length:=by omega
    have hlt:bytesLt p.1 key=false:=hB p (by
     rw [List.getElem?_append_right (by omega)] at hp'
     exact List.mem_of_getElem? hp')
    repeat refine xQ ?_
    refine xG rfl ?_
    iterate 4 refine xP rfl rh rfl ?_
    refine xR rfl (e_loadm (hr []) rfl rfl rfl rfl) rfl ?_
    refine xP rfl (e_len (hsv []) rfl rfl rfl rfl rfl) rfl ?_
    refine xP rfl (e_ib rh (hb)) rfl ?_
    iterate 4 refine xP rfl rh rfl ?_
    refine xR rfl (e_loadm (hr []) rfl rfl rfl rfl) rfl ?_
    refine xP rfl rh rfl ?_
    refine OS.at (j:=i) (hsv []) hip rfl rfl rfl rfl rfl rfl (fun r0 o0 row0 cs0 m0 c0 g0 k0=>⟨_,rfl,?_⟩)
    refine xP rfl rh rfl ?_
    refine xR rfl (e_loadm m0 c0 rfl rfl (part_one rfl (g0 0 _ (by omega) g1))) rfl ?_
    refine xP rfl rh rfl ?_
    refine xP rfl (e_ib rh (hlt)) rfl ?_
    refine xP rfl rh rfl ?_
    refine xN ?_
    repeat refine xQ ?_
    refine xC rfl (fun hc=>?_) (fun hc=>?_)
    ·cases hc
    refine LS.exit ?_
    subst hiA2
    exact ⟨rfl,rfl⟩
  ·have hb:(!ileB (((A++B).length:Nat):Int) ((i:Nat):Int))=false:=by rw [ileB_eq,decide_eq_true (by omega)]; rfl
   have hiA2:i=A.length:=by omega
   repeat refine xQ ?_
   refine xG rfl ?_
   iterate 4 refine xP rfl rh rfl ?_
   refine xR rfl (e_loadm (hr []) rfl rfl rfl rfl) rfl ?_
   refine xP rfl (e_len (hsv []) rfl rfl rfl rfl rfl) rfl ?_
   refine xP rfl (e_ib rh (hb)) rfl ?_
   refine xP rfl rh rfl ?_
   iterate 10 refine xK rfl rfl ?_
   refine xP rfl rh rfl ?_
   refine xN ?_
   repeat refine xQ ?_
   refine xC rfl (fun hc=>?_) (fun hc=>?_)
   ·cases hc
   refine LS.exit ?_
   subst hiA2
   exact ⟨rfl,rfl⟩
 rintro a' L' ⟨rfl,rfl⟩
 repeat refine xQ ?_
 refine xG rfl ?_
 refine xP rfl rh rfl ?_
 refine xN ?_
 repeat refine xQ ?_
 refine xG rfl ?_
 iterate 4 refine xP rfl rh rfl ?_
 refine xR rfl (e_loadm (hr []) rfl rfl rfl rfl) rfl ?_
 refine xP rfl rh rfl ?_
 refine OS.slicePL hp1 (fun q hq=>List.mem_cons_of_mem _ (hM1 q hq)) rfl rfl rfl rfl rfl rfl bound_nat rfl rfl (by omega) (Nat.zero_le _) (fun v1 h1=>⟨_,rfl,?_⟩)
 rw [Nat.sub_zero,Nat.zero_mul,List.drop_zero,take_2] at h1
 refine OS.turns rfl (e_appendGA [] ((rx,mRow lv1)::F1) (e:=100) (sz:=2) (bts:=32) (m:=A.length) (new:=prC A) (.inl ⟨rfl,rfl,rfl,rfl⟩) (h1.sv.mono fun q hq=>List.mem_cons_of_mem _ (hM1 q hq)) (prC_one A) rfl rfl rfl (by omega) (by omega)) (fun w2 L₁ hR=>?_)
 obtain ⟨Y2,h2,rfl⟩:=hR
 refine ⟨_,rfl,?_⟩
 refine OS.sub (show Sub (Y2++((rx,mRow lv1)::F1)) (Y2++([]++((rx,mRow lv1)::F1))) from ⟨[],by simp⟩) ?_
 refine xP rfl rh rfl ?_
 refine xN ?_
 repeat refine xQ ?_
 refine xG rfl ?_
 iterate 4 refine xP rfl rh rfl ?_
 refine OS.fresh rfl (e_new (fun _=>rfl) rfl) (fun _=>rfl) (fun rz=>?_)
 refine OS.turns rfl (e_appendGA [(rz,.cells 100 [txt key,txt val])] ((rx,mRow lv1)::F1) (e:=100) (sz:=2) (bts:=32) (m:=1) (new:=prC [(key,val)]) h2 (SV.row (sz:=2) (n:=1) (List.mem_cons_self ..) rfl) rfl rfl rfl rfl (by omega) (by omega)) (fun w3 L₁ hR=>?_)
 obtain ⟨Y3,h3,rfl⟩:=hR
 refine ⟨_,rfl,?_⟩
 refine OS.sub (Sub.sums2 ([(rz,.cells 100 [txt key,txt val])]) (A:=Y3++((rx,mRow lv1)::F1)) (B:=Y3++([(rz,.cells 100 [txt key,txt val])]++((rx,mRow lv1)::F1))) fun f=>by simp [HD,fm]<;>omega) ?_
 refine xP rfl rh rfl ?_
 refine xN ?_
 repeat refine xQ ?_
 refine xG rfl ?_
 iterate 5 refine xP rfl rh rfl ?_
 refine xR rfl (e_loadm (hr Y3) rfl rfl rfl rfl) rfl ?_
 refine xP rfl rh rfl ?_
 refine OS.slicePL hp1 (fun q hq=>by simp [hM1 q hq]) rfl rfl rfl rfl rfl bound_nat rfl rfl rfl (Nat.le_refl _) (by omega) (fun v4 h4=>⟨_,rfl,?_⟩)
 rw [show (A++B).length - A.length=B.length by omega,drop_2,List.take_of_length_le (by rw [prC_len]; exact Nat.le_refl _)] at h4
 refine OS.turns rfl (e_appendGA [] ((rx,mRow lv1)::F1) (e:=100) (sz:=2) (bts:=32) (m:=B.length) (new:=prC B) h3 (h4.sv.mono fun q hq=>by simp [hM1 q hq]) (prC_one B) rfl rfl rfl (by omega) (by omega)) (fun w5 L₁ hR=>?_)
 obtain ⟨Y5,h5,rfl⟩:=hR
 refine ⟨_,rfl,?_⟩
 refine OS.sub (Sub.sums (A:=(rx,mRow lv1)::(Y5++F1)) (B:=Y5++([]++((rx,mRow lv1)::F1))) fun f=>by simp [HD,fm]<;>omega) ?_
 have hn:0+A.length+1+B.length=(A++(key,val)::B).length:=by simp; omega
 have hcs:[]++prC A++prC [(key,val)]++prC B=prC (A++(key,val)::B):=by
  rw [List.nil_append,← prC_app,← prC_app,List.append_assoc]; rfl
 rw [hn,hcs] at h5
 have hl5:(A++(key,val)::B).length=A.length+1+B.length:=by omega
 have hpl:=(h5.ol (by rw [hl5]; unfold openCap; omega)).pl
 rcases h5 with ⟨_,h0,_⟩ | ⟨r,rfl,hl,rfl⟩
 ·omega
 ·refine xP rfl rh rfl ?_
  refine xP rfl rh rfl ?_
  refine OS.write rfl (e_store 0 rfl rfl rfl rfl rfl rfl rfl rfl) rfl ?_
  refine xN ?_
  refine ⟨_,fun _ _=>rfl,_,[_]++Y1,by rw [hF1]; rfl,?_⟩
  rw [List.append_assoc]
  exact hpl.mono fun q hq=>List.mem_append_left _ hq
theorem rCopy_ct {L:RL} {rx:Nat} {lv:Value} {P:List Pr} (hr:(rx,mRow lv)∈L) (hp:SV 2 L lv P.length (prC P)) (hm:P.length<=100000000) :
  CS Tryz.prog 32 [ptr rx] L fun u L'=>∃ ry lv' Y,u=ptr ry/\L'=(ry,mRow lv')::(Y++L)/\PL 100 2 Y lv' P.length (prC P):=by
 refine CS.mk (fn:=Tryz.f32) rfl rfl rfl rfl ?_
 repeat refine xQ ?_
 refine xG rfl ?_
 refine xP rfl rh rfl ?_
 refine xN ?_
 repeat refine xQ ?_
 refine xG rfl ?_
 refine OS.fresh rfl (e_new (fun _=>rfl) rfl) (fun _=>rfl) (fun r0=>?_)
 iterate 3 refine xP rfl rh rfl ?_
 refine xR rfl (e_loadm (List.mem_cons_of_mem _ hr) rfl rfl rfl rfl) rfl ?_
 refine OS.turns rfl (e_appVoid (e:=100) (r:=r0) (sz:=2) (bts:=32) (m:=P.length) (SV.void (List.mem_cons_self ..) rfl) (hp.mono fun p hp=>List.mem_cons_of_mem _ hp) (prC_one P) rfl rfl rfl (by omega) (by omega)) ?_
 rintro u L₁ ⟨X,rfl,hX⟩
 rcases hX with ⟨h1,h2,rfl,rfl⟩ | ⟨r1,rfl,rfl,hl⟩
 ·refine ⟨_,rfl,?_⟩
  refine xP rfl rh rfl ?_
  refine OS.fresh rfl (e_new (fun _=>rfl) rfl) (fun _=>rfl) (fun ry=>?_)
  refine xP rfl rh rfl ?_
  refine xN ?_
  refine xT ⟨_,fun _ _=>rfl,?_⟩
  exact ⟨ry,_,[_],rfl,rfl,.inr ⟨r0,0,0,[],by rw [h1],List.mem_cons_self ..,by rw [h1,h2]; rfl,by omega,by unfold openCap; omega⟩⟩
 ·refine ⟨_,rfl,?_⟩
  refine xP rfl rh rfl ?_
  refine OS.fresh rfl (e_new (fun _=>rfl) rfl) (fun _=>rfl) (fun ry=>?_)
  refine xP rfl rh rfl ?_
  refine xN ?_
  refine xT ⟨_,fun _ _=>rfl,?_⟩
  exact ⟨ry,_,[_,_],rfl,rfl,.inr ⟨r1,0,openCap,prC P,rfl,List.mem_cons_self ..,cut_all hl,by unfold openCap; omega,Nat.le_refl _⟩⟩
theorem rng_take {P:List Pr} {i:Nat} {p:Pr} {fr to:Tx} (h:P[i]?=some p):rngP fr to (P.take (i+1))=if inR fr to p=true then rngP fr to (P.take i)++[p] else rngP fr to (P.take i):=by
 rw [List.take_add_one,h]
 unfold rngP
 rw [Option.toList_some,List.filter_append]
 by_cases hk:inR fr to p=true
 ·rw [if_pos hk,List.filter_cons_of_pos hk]; rfl
 ·rw [if_neg hk,List.filter_cons_of_neg hk]; simp
set_option maxHeartbeats 1000000 in
theorem rRange_ct {L:RL} {rx:Nat} {lv:Value} {P:List Pr} {fr to:Tx} (hr:(rx,mRow lv)∈L) (hp:SV 2 L lv P.length (prC P)) (hm:P.length<=100000000) :
  CS Tryz.prog 37 [ptr rx,txt fr,txt to] L fun u L'=>∃ Y,L'=Y++L/\GV 100 2 [] u (rngP fr to P).length (prC (rngP fr to P)) Y:=by
 have hs:∀ Y:RL,SV 2 (Y++L) lv P.length (prC P):=fun Y=>hp.mono fun q hq=>List.mem_append_right _ hq
 have hr':∀ Y:RL,(rx,mRow lv)∈Y++L:=fun Y=>List.mem_append_right _ hr
 refine CS.mk (fn:=Tryz.f37) rfl rfl rfl rfl ?_
 repeat refine xQ ?_
 refine xG rfl ?_
 refine xP rfl rh rfl ?_
 refine xN ?_
 repeat refine xQ ?_
 refine xG rfl ?_
 refine xP rfl rh rfl ?_
 refine xN ?_
 repeat refine xQ ?_
 refine xG rfl ?_
 refine xP rfl rh rfl ?_
 refine xN ?_
 repeat refine xQ ?_
 refine LS.mid [7] (fun a' L'=>∃ Y w,L'=Y++L/\GV 100 2 [] w (rngP fr to P).length (prC (rngP fr to P)) Y/\a'=[jn,jn,jn,jn,jn,jn,jn,w,jn,jn,jn,jn,jn,jn,jn,jn,jn,jn,jn,jn,jn,jn,jn,jn,jn,jn,jn,jn,jn,jn,jn,jn,jn,jn,jn,jn,jn,jn,jn,jn,jn,jn,jn,jn,jn,jn,jn,jn,jn,jn,jn,jn,jn,jn,jn]) ?_ ?_
 ·refine LS.block ?_
  refine LS.loopJ [0,1,2,7,8] (fun q s L'=>∃ (i:Nat) (Y:RL) (w:Value),q=P.length - i/\i<=P.length/\L'=Y++L/\GV 100 2 [] w (rngP fr to (P.take i)).length (prC (rngP fr to (P.take i))) Y/\s=[ptr rx,txt fr,txt to,jn,jn,jn,jn,w,.int .i64 (i:Nat),jn,jn,jn,jn,jn,jn,jn,jn,jn,jn,jn,jn,jn,jn,jn,jn,jn,jn,jn,jn,jn,jn,jn,jn,jn,jn,jn,jn,jn,jn,jn,jn,jn,jn,jn,jn,jn,jn,jn,jn,jn,jn,jn,jn,jn,jn]) (n:=P.length) rfl ⟨0,[],_,rfl,by omega,rfl,.inl ⟨rfl,rfl,rfl,rfl⟩,rfl⟩ ?_
  rintro q s L' ⟨i,Y,w,rfl,hi,rfl,hw,rfl⟩
  by_cases hip:i < P.length
  ·have hb:(!ileB ((P.length:Nat):Int) ((i:Nat):Int))=true:=by rw [ileB_eq,decide_eq_false (by omega)]; rfl
   obtain ⟨p,hp'⟩:∃ p,P[i]?=some p:=⟨_,List.getElem?_eq_getElem hip⟩
   obtain ⟨g1,g2⟩:=prC_get hp'
   have htk:=rng_take (fr:=fr) (to:=to) hp'
   have hdl:(rngP fr to (P.take i)).length<=i:=by
    have h1:=rng_len (fr:=fr) (to:=to) (P:=P.take i)
    have h2:=List.length_take_le i P
    omega
   repeat refine xQ ?_
   refine xG rfl ?_
   iterate 4 refine xP rfl rh rfl ?_
   refine xR rfl (e_loadm (hr' Y) rfl rfl rfl rfl) rfl ?_
   refine xP rfl (e_len (hs Y) rfl rfl rfl rfl rfl) rfl ?_
   refine xP rfl (e_ib rh (hb)) rfl ?_
   refine xN ?_
   repeat refine xQ ?_
   refine xC rfl (fun hc=>?_) (fun hc=>?_)
   ·refine LS.skip ?_
    repeat refine xQ ?_
    refine LS.mid [0,1,2,7,8] (fun a' L'=>∃ Y w,L'=Y++L/\GV 100 2 [] w (rngP fr to (P.take (i+1))).length (prC (rngP fr to (P.take (i+1)))) Y/\a'=[ptr rx,txt fr,txt to,jn,jn,jn,jn,w,.int .i64 (i:Nat),jn,jn,jn,jn,jn,jn,jn,jn,jn,jn,jn,jn,jn,jn,jn,jn,jn,jn,jn,jn,jn,jn,jn,jn,jn,jn,jn,jn,jn,jn,jn,jn,jn,jn,jn,jn,jn,jn,jn,jn,jn,jn,jn,jn,jn,jn]) ?_ ?_
    ·repeat refine xQ ?_
     refine LS.block ?_
     repeat refine xQ ?_
     refine LS.mid [0,1,2,7,8,43] (fun a' L'=>L'=Y++L/\a'=[ptr rx,txt fr,txt to,jn,jn,jn,jn,w,.int .i64 (i:Nat),jn,jn,jn,jn,jn,jn,jn,jn,jn,jn,jn,jn,jn,jn,jn,jn,jn,jn,jn,jn,jn,jn,jn,jn,jn,jn,jn,jn,jn,jn,jn,jn,jn,jn,.bool (inR fr to p),jn,jn,jn,jn,jn,jn,jn,jn,jn,jn,jn]) ?_ ?_
     ·have hle:(!bytesLt p.1 fr)=leT fr p.1:=leT_not
      refine xG rfl ?_
      iterate 3 refine xP rfl rh rfl ?_
      refine xR rfl (e_loadm (hr' Y) rfl rfl rfl rfl) rfl ?_
      refine xP rfl rh rfl ?_
      refine OS.at (j:=i) (hs Y) hip rfl rfl rfl rfl rfl rfl (fun r0 o0 row0 cs0 m0 c0 g0 k0=>⟨_,rfl,?_⟩)
      refine xP rfl rh rfl ?_
      refine xR rfl (e_loadm m0 c0 rfl rfl (part_one rfl (g0 0 _ (by omega) g1))) rfl ?_
      refine xP rfl rh rfl ?_
      refine xP rfl (e_ib rh (hle)) rfl ?_
      cases hl:leT fr p.1 with
      | false =>
       have hin:inR fr to p=false:=by unfold inR; rw [hl]; rfl
       refine xP rfl rh rfl ?_
       iterate 14 refine xK rfl rfl ?_
       refine xP rfl rh rfl ?_
       refine xN ?_
       exact ⟨rfl,by rw [hin]; rfl⟩
      | true =>
       by_cases ht:to=[]
       ·subst ht
        have hin:inR fr [] p=true:=by unfold inR; rw [hl]; rfl
        iterate 4 refine xP rfl rh rfl ?_
        iterate 10 refine xK rfl rfl ?_
        iterate 2 refine xP rfl rh rfl ?_
        refine xN ?_
        exact ⟨rfl,by rw [hin]; rfl⟩
       ·have hb2:bytesEq to []=false:=by rw [beqT,decide_eq_false ht]
        have hin:inR fr to p=bytesLt p.1 to:=by unfold inR belT; rw [hl,decide_eq_false ht]; rfl
        iterate 2 refine xP rfl rh rfl ?_
        refine xP rfl (e_ib rh (hb2)) rfl ?_
        iterate 4 refine xP rfl rh rfl ?_
        refine xR rfl (e_loadm (hr' Y) rfl rfl rfl rfl) rfl ?_
        refine xP rfl rh rfl ?_
        refine OS.at (j:=i) (hs Y) hip rfl rfl rfl rfl rfl rfl (fun r1 o1 row1 cs1 m1 c1 g3 k1=>⟨_,rfl,?_⟩)
        refine xP rfl rh rfl ?_
        refine xR rfl (e_loadm m1 c1 rfl rfl (part_one rfl (g3 0 _ (by omega) g1))) rfl ?_
        iterate 4 refine xP rfl rh rfl ?_
        refine xN ?_
        exact ⟨rfl,by rw [hin]; rfl⟩
     rintro a' L' ⟨rfl,rfl⟩
     by_cases hin:inR fr to p=true
     ·rw [hin]
      rw [if_pos hin] at htk
      repeat refine xQ ?_
      refine xC rfl (fun hc2=>?_) (fun hc2=>?_)
      ·repeat refine xQ ?_
       refine xG rfl ?_
       iterate 4 refine xP rfl rh rfl ?_
       refine xR rfl (e_loadm (hr' Y) rfl rfl rfl rfl) rfl ?_
       refine xP rfl rh rfl ?_
       refine OS.at (j:=i) (hs Y) hip rfl rfl rfl rfl rfl rfl (fun r1 o1 row1 cs1 m1 c1 g3 k1=>⟨_,rfl,?_⟩)
       refine xR rfl (e_loadm m1 c1 rfl rfl (part_agg rfl rfl (k1 _ (prC_cut hp')))) rfl ?_
       refine OS.fresh rfl (e_new (fun _=>rfl) rfl) (fun _=>rfl) (fun rz=>?_)
       refine OS.turns rfl (e_appendGA [(rz,.cells 100 [txt p.1,txt p.2])] L (e:=100) (sz:=2) (bts:=32) (m:=1) (new:=prC [p]) hw (SV.row (sz:=2) (n:=1) (List.mem_cons_self ..) rfl) rfl rfl rfl rfl (by omega) (by omega)) (fun w2 L₁ hR=>?_)
       obtain ⟨Y2,h2,rfl⟩:=hR
       refine ⟨_,rfl,?_⟩
       refine OS.sub (Sub.sums2 ([(rz,.cells 100 [txt p.1,txt p.2])]) (A:=Y2++L) (B:=Y2++([(rz,.cells 100 [txt p.1,txt p.2])]++L)) fun f=>by simp [HD,fm]<;>omega) ?_
       refine xP rfl rh rfl ?_
       refine xN ?_
       exact ⟨Y2,w2,rfl,by rw [htk,List.length_append,prC_app]; exact h2,rfl⟩
      ·cases hc2
     ·rw [if_neg hin] at htk
      rw [eq_false_of_ne_true hin]
      repeat refine xQ ?_
      refine xC rfl (fun hc2=>?_) (fun hc2=>?_)
      ·cases hc2
      refine LS.skip ?_
      exact ⟨Y,w,rfl,by rw [htk]; exact hw,rfl⟩
    rintro a' L' ⟨Y,w,rfl,hw,rfl⟩
    repeat refine xQ ?_
    refine xG rfl ?_
    refine xP rfl rh rfl ?_
    refine xP rfl (e_addN (n:=1) rfl rfl rfl (in_i64 (by omega) (by omega))) rfl ?_
    refine xP rfl rh rfl ?_
    refine xN ?_
    exact ⟨P.length - (i+1),by omega,i+1,Y,w,rfl,by omega,rfl,hw,rfl⟩
   ·cases hc
  ·have hb:(!ileB ((P.length:Nat):Int) ((i:Nat):Int))=false:=by rw [ileB_eq,decide_eq_true (by omega)]; rfl
   repeat refine xQ ?_
   refine xG rfl ?_
   iterate 4 refine xP rfl rh rfl ?_
   refine xR rfl (e_loadm (hr' Y) rfl rfl rfl rfl) rfl ?_
   refine xP rfl (e_len (hs Y) rfl rfl rfl rfl rfl) rfl ?_
   refine xP rfl (e_ib rh (hb)) rfl ?_
   refine xN ?_
   repeat refine xQ ?_
   refine xC rfl (fun hc=>?_) (fun hc=>?_)
   ·cases hc
   refine LS.exit ?_
   rw [List.take_of_length_le (by omega)] at hw
   exact ⟨Y,w,rfl,hw,rfl⟩
 rintro a' L' ⟨Y,w,rfl,hw,rfl⟩
 repeat refine xQ ?_
 refine xG rfl ?_
 iterate 2 refine xP rfl rh rfl ?_
 refine xN ?_
 refine xT ⟨_,fun _ _=>rfl,?_⟩
 exact ⟨Y,rfl,hw⟩
end Go.Proofs.YtlmmddfhoabjfaaGreat
end
section
namespace Go.Proofs.YtlmmddfhoabjfaaGreat
open Go.Am
def ImgV (M:RL) (N:Nat) (vs:List Value) (imgs:List Tx):Prop:=imgs.length=N/\∀ i,i < N->∃ w,vs[i]?=some w/\BV M w (imgs.getD i [])
theorem ImgV.mono {M M':RL} {N:Nat} {vs:List Value} {imgs:List Tx} (h:ImgV M N vs imgs) (hm:∀ p,p∈M->p∈M'):ImgV M' N vs imgs :=
 ⟨h.1,fun i hi=>let ⟨w,h1,h2⟩:=h.2 i hi; ⟨w,h1,h2.mono hm⟩⟩
theorem ImgV.r {M I F:RL} {N:Nat} {v:Value} {vs:List Value} {imgs:List Tx} (h:ImgV M N vs imgs) (g:GV 30 1 [] v N vs I) (hI:∀ p,p∈I->p∈F) (hM:∀ p,p∈M->p∈F):ImgR F v imgs:=by
 obtain ⟨h1,h2⟩:=h
 subst h1
 exact ⟨vs,g.sv.mono hI,fun i hi=>let ⟨w,h3,h4⟩:=h2 i hi; ⟨w,h3,h4.mono hM⟩⟩
theorem ImgV.put {M:RL} {N q:Nat} {vs:List Value} {imgs:List Tx} {w:Value} {b:Tx} (h:ImgV M N vs imgs) (hl:vs.length=N) (hq:q < N) (hw:BV M w b):ImgV M N (vs.set q w) (imgs.set q b):=by
 refine ⟨by rw [List.length_set]; exact h.1,fun i hi=>?_⟩
 by_cases he:i=q
 ·subst he
  refine ⟨w,by rw [List.getElem?_set_self (by omega)],?_⟩
  rw [List.getD_eq_getElem?_getD,List.getElem?_set_self (by rw [h.1]; exact hi)]
  exact hw
 ·obtain ⟨u,h1,h2⟩:=h.2 i hi
  refine ⟨u,by rw [List.getElem?_set_ne (fun hh=>he hh.symm)]; exact h1,?_⟩
  rw [List.getD_eq_getElem?_getD,List.getElem?_set_ne (fun hh=>he hh.symm),← List.getD_eq_getElem?_getD]
  exact h2
abbrev zpg:Tx:=List.replicate 256 0
set_option maxHeartbeats 1000000 in
theorem blankP_ct {L:RL} (n:Nat) (hn:n<=1000):CS Tryz.prog 11 [.int .i64 (n:Nat)] L fun u L'=>∃ vs I M,L'=I++(M++L)/\GV 30 1 [] u n vs I/\ImgV M n vs (List.replicate n zpg):=by
 refine CS.mk (fn:=Tryz.f11) rfl rfl rfl rfl ?_
 repeat refine xQ ?_
 refine xG rfl ?_
 refine xP rfl rh rfl ?_
 refine xN ?_
 repeat refine xQ ?_
 refine xG rfl ?_
 refine xP rfl rh rfl ?_
 refine xN ?_
 repeat refine xQ ?_
 refine xG rfl ?_
 refine xP rfl rh rfl ?_
 refine xN ?_
 repeat refine xQ ?_
 refine LS.mid [3] (fun a' L'=>∃ w vs I M,L'=I++(M++L)/\GV 30 1 [] w n vs I/\ImgV M n vs (List.replicate n zpg)/\a'=[jn,jn,jn,w,jn,jn,jn,jn,jn,jn,jn,jn,jn,jn,jn]) ?_ ?_
 ·refine LS.block ?_
  refine LS.loopJ [0,3,4] (fun z a' L'=>∃ (i:Nat) (w:Value) (vs:List Value) (I M:RL),z=n - i/\i<=n/\L'=I++(M++L)/\GV 30 1 [] w i vs I/\ImgV M i vs (List.replicate i zpg)/\a'=[.int .i64 (n:Nat),jn,jn,w,.int .i64 (i:Nat),jn,jn,jn,jn,jn,jn,jn,jn,jn,jn]) (n:=n) rfl ⟨0,_,[],[],[],rfl,by omega,rfl,.inl ⟨rfl,rfl,rfl,rfl⟩,⟨rfl,fun i hi=>by omega⟩,rfl⟩ ?_
  rintro z a' L' ⟨i,w,vs,I,M,rfl,hi,rfl,hw,him,rfl⟩
  by_cases hin:i < n
  ·have hb:(!ileB ((n:Nat):Int) ((i:Nat):Int))=true:=by rw [ileB_eq,decide_eq_false (by omega)]; rfl
   have hvl:vs.length=i:=by have:=hw.sv.len; omega
   repeat refine xQ ?_
   refine xG rfl ?_
   iterate 2 refine xP rfl rh rfl ?_
   refine xP rfl (e_ib rh (hb)) rfl ?_
   refine xN ?_
   repeat refine xQ ?_
   refine xC rfl (fun hc=>?_) (fun hc=>?_)
   ·refine LS.skip ?_
    repeat refine xQ ?_
    refine LS.block ?_
    repeat refine xQ ?_
    refine xG rfl ?_
    refine xP rfl rh rfl ?_
    refine OS.fresh rfl (e_make (l:=256) (c:=256) (e:=5) (sz:=1) (bts:=1) (zs:=[.int .u8 0]) rfl rfl rfl rfl (by omega) (by omega) (by omega)) (fun _=>rfl) (fun r=>?_)
    refine OS.fresh rfl (e_new (fun _=>rfl) rfl) (fun _=>rfl) (fun rz=>?_)
    refine OS.turns rfl (e_appendGA [(rz,.cells 30 [.slice (some ⟨r,0,none⟩) 256 256]),(r,.cells 5 (repL [.int .u8 0] 256))] (M++L) (e:=30) (sz:=1) (bts:=24) (m:=1) (new:=[.slice (some ⟨r,0,none⟩) 256 256]) hw (SV.row (sz:=1) (n:=1) (List.mem_cons_self ..) rfl) rfl rfl rfl rfl (by omega) (by omega)) (fun w2 L₁ hR=>?_)
    obtain ⟨I2,h2,rfl⟩:=hR
    refine ⟨_,rfl,?_⟩
    refine OS.sub (Sub.sums2 ([(rz,.cells 30 [.slice (some ⟨r,0,none⟩) 256 256])]) (A:=I2++(((r,.cells 5 (repL [.int .u8 0] 256))::M)++L)) (B:=I2++([(rz,.cells 30 [.slice (some ⟨r,0,none⟩) 256 256]),(r,.cells 5 (repL [.int .u8 0] 256))]++(M++L))) fun f=>by simp [HD,fm]<;>omega) ?_
    refine xP rfl rh rfl ?_
    refine xN ?_
    repeat refine xQ ?_
    refine xG rfl ?_
    refine xP rfl rh rfl ?_
    refine xP rfl (e_addN (n:=1) rfl rfl rfl (in_i64 (by omega) (by omega))) rfl ?_
    refine xP rfl rh rfl ?_
    refine xN ?_
    refine ⟨n - (i+1),by omega,i+1,w2,_,I2,_,rfl,by omega,rfl,h2,⟨by simp,fun j hj=>?_⟩,rfl⟩
    by_cases hji:j < i
    ·obtain ⟨u,h3,h4⟩:=him.2 j hji
     refine ⟨u,by rw [List.getElem?_append_left (by omega)]; exact h3,?_⟩
     rw [show (List.replicate (i+1) zpg).getD j []=(List.replicate i zpg).getD j [] by simp [List.getD_eq_getElem?_getD,List.getElem?_replicate,hji,show j < i+1 by omega]]
     exact h4.mono fun p hp=>List.mem_cons_of_mem _ hp
    ·have hji2:j=i:=by omega
     subst hji2
     refine ⟨_,by rw [List.getElem?_append_right (by omega),hvl,Nat.sub_self]; rfl,?_⟩
     rw [show (List.replicate (j+1) zpg).getD j []=zpg by simp [List.getD_eq_getElem?_getD,List.getElem?_replicate]]
     refine .inr ⟨?_,fun r' off cap h=>by cases h; exact ⟨by unfold openCap; omega,by simp⟩⟩
     rw [← repL_u8]
     exact SV.row (e:=5) (List.mem_cons_self ..) (by rw [repL_u8,byteCells_len]; simp)
   ·cases hc
  ·have hb:(!ileB ((n:Nat):Int) ((i:Nat):Int))=false:=by rw [ileB_eq,decide_eq_true (by omega)]; rfl
   repeat refine xQ ?_
   refine xG rfl ?_
   iterate 2 refine xP rfl rh rfl ?_
   refine xP rfl (e_ib rh (hb)) rfl ?_
   refine xN ?_
   repeat refine xQ ?_
   refine xC rfl (fun hc=>?_) (fun hc=>?_)
   ·cases hc
   refine LS.exit ?_
   have hin2:i=n:=by omega
   subst hin2
   exact ⟨w,vs,I,M,rfl,hw,him,rfl⟩
 rintro a' L' ⟨w,vs,I,M,rfl,hw,him,rfl⟩
 repeat refine xQ ?_
 refine xG rfl ?_
 iterate 2 refine xP rfl rh rfl ?_
 refine xN ?_
 refine xT ⟨_,fun _ _=>rfl,?_⟩
 exact ⟨vs,I,M,rfl,hw,him⟩
set_option maxHeartbeats 2000000 in
theorem over_ct {F I M:RL} {iv v:Value} {N:Nat} {vs cs:List Value} {imgs:List Tx} {l:List (Nat × Tx)} (gi:GV 30 1 [] iv N vs I) (him:ImgV M N vs imgs) (hM:∀ p,p∈M->p∈F) (hl:SV 2 F v l.length cs) (hp:PgsR F cs l) (hs:l.Pairwise fun a b=>a.1 < b.1) (hn:∀ p∈l,p.1 < N/\p.2.length=256) (hN:N<=1000000) (hll:l.length<=1000000) :
  CS Tryz.prog 31 [iv,v] (I++F) fun u L'=>u=.bool true/\∃ vs' I' Y,L'=I'++(Y++F)/\GV 30 1 [] iv N vs' I'/\ImgV (Y++M) N vs' (overI imgs l):=by
 refine CS.mk (fn:=Tryz.f31) rfl rfl rfl rfl ?_
 repeat refine xQ ?_
 refine xG rfl ?_
 refine xP rfl rh rfl ?_
 refine xN ?_
 repeat refine xQ ?_
 refine xG rfl ?_
 refine xP rfl rh rfl ?_
 refine xN ?_
 repeat refine xQ ?_
 refine xG rfl ?_
 refine xP rfl rh rfl ?_
 refine xN ?_
 repeat refine xQ ?_
 refine LS.mid [] (fun a' L'=>∃ vs' I' Y,L'=I'++(Y++F)/\GV 30 1 [] iv N vs' I'/\ImgV (Y++M) N vs' (overI imgs l)/\a'=[jn,jn,jn,jn,jn,jn,jn,jn,jn,jn,jn,jn,jn,jn,jn,jn,jn,jn,jn,jn,jn,jn,jn,jn,jn,jn,jn,jn,jn,jn,jn,jn,jn,jn,jn,jn,jn,jn,jn,jn,jn,jn,jn,jn,jn,jn,jn,jn,jn,jn,jn,jn,jn,jn]) ?_ ?_
 ·refine LS.block ?_
  refine LS.loopJ [0,1,5,6] (fun z a' L'=>∃ (i:Nat) (last:Int) (vs':List Value) (I' Y:RL),z=l.length - i/\i<=l.length/\(∀ j p,i<=j->l[j]?=some p->last < p.1)/\L'=I'++(Y++F)/\GV 30 1 [] iv N vs' I'/\ImgV (Y++M) N vs' (overI imgs (l.take i)) /\
   a'=[iv,v,jn,jn,jn,.int .i64 last,.int .i64 (i:Nat),jn,jn,jn,jn,jn,jn,jn,jn,jn,jn,jn,jn,jn,jn,jn,jn,jn,jn,jn,jn,jn,jn,jn,jn,jn,jn,jn,jn,jn,jn,jn,jn,jn,jn,jn,jn,jn,jn,jn,jn,jn,jn,jn,jn,jn,jn,jn]) (n:=l.length) rfl ⟨0,-1,vs,I,[],rfl,by omega,fun j p _ _=>by omega,rfl,gi,him,rfl⟩ ?_
  rintro z a' L' ⟨i,last,vs',I',Y,rfl,hi,hlast,rfl,gi',him',rfl⟩
  have hl':∀ Z:RL,SV 2 (Z++(I'++(Y++F))) v l.length cs:=fun Z=>hl.mono fun q hq=>by simp [hq]
  by_cases hil:i < l.length
  ·have hb:(!ileB ((l.length:Nat):Int) ((i:Nat):Int))=true:=by rw [ileB_eq,decide_eq_false (by omega)]; rfl
   obtain ⟨p,hpi⟩:∃ p,l[i]?=some p:=⟨_,List.getElem?_eq_getElem hil⟩
   obtain ⟨w,hc0,hc1,hw⟩:=hp.2 i p hpi
   obtain ⟨hpN,hp256⟩:=hn p (List.mem_of_getElem? hpi)
   have hla:=hlast i p (Nat.le_refl _) hpi
   have hle:ileB ((p.1:Nat):Int) last=false:=by rw [ileB_eq,decide_eq_false (by omega)]
   have hge:ileB ((N:Nat):Int) ((p.1:Nat):Int)=false:=by rw [ileB_eq,decide_eq_false (by omega)]
   have hne:(!ieqB ((p.2.length:Nat):Int) 256)=false:=by rw [hp256]; rfl
   have hw':∀ Z:RL,SV 1 (Z++(I'++(Y++F))) w p.2.length (byteCells p.2):=fun Z=>hw.mono fun q hq=>by simp [hq]
   have htk:l.take (i+1)=l.take i++[p]:=by rw [List.take_add_one,hpi]; rfl
   have hvl:vs'.length=N:=by have:=gi'.sv.len; omega
   rcases gi' with ⟨_,h0,_⟩ | ⟨ri,rfl,hrl,rfl⟩
   ·omega
   have gs:SV 1 ([(ri,.cells 30 vs')]++(Y++F)) (.slice (some ⟨ri,0,none⟩) N openCap) N vs':=SV.row (e:=30) (List.mem_cons_self ..) hrl
   repeat refine xQ ?_
   refine xG rfl ?_
   iterate 2 refine xP rfl rh rfl ?_
   refine xP rfl (e_len (hl' []) rfl rfl rfl rfl rfl) rfl ?_
   refine xP rfl (e_ib rh (hb)) rfl ?_
   refine xN ?_
   repeat refine xQ ?_
   refine xC rfl (fun hc=>?_) (fun hc=>?_)
   ·refine LS.skip ?_
    repeat refine xQ ?_
    refine LS.block ?_
    repeat refine xQ ?_
    refine xG rfl ?_
    iterate 2 refine xP rfl rh rfl ?_
    refine OS.at (j:=i) (hl' []) hil rfl rfl rfl rfl rfl rfl (fun r0 o0 row0 cs0 m0 c0 g0 k0=>⟨_,rfl,?_⟩)
    refine xP rfl rh rfl ?_
    refine xR rfl (e_loadm m0 c0 rfl rfl (part_one rfl (g0 0 _ (by omega) hc0))) rfl ?_
    refine xP rfl rh rfl ?_
    refine xP rfl (e_ib rh (hle)) rfl ?_
    iterate 3 refine xP rfl rh rfl ?_
    refine OS.at (j:=i) (hl' []) hil rfl rfl rfl rfl rfl rfl (fun r1 o1 row1 cs1 m1 c1 g1 k1=>⟨_,rfl,?_⟩)
    refine xP rfl rh rfl ?_
    refine xR rfl (e_loadm m1 c1 rfl rfl (part_one rfl (g1 0 _ (by omega) hc0))) rfl ?_
    refine xP rfl rh rfl ?_
    refine xP rfl (e_len gs rfl rfl rfl rfl rfl) rfl ?_
    refine xP rfl (e_ib rh (hge)) rfl ?_
    iterate 4 refine xP rfl rh rfl ?_
    refine OS.at (j:=i) (hl' []) hil rfl rfl rfl rfl rfl rfl (fun r2 o2 row2 cs2 m2 c2 g2 k2=>⟨_,rfl,?_⟩)
    refine xP rfl rh rfl ?_
    refine xR rfl (e_loadm m2 c2 rfl rfl (part_one rfl (g2 1 _ (by omega) hc1))) rfl ?_
    refine xP rfl (e_len (hw' []) rfl rfl rfl rfl rfl) rfl ?_
    refine xP rfl (e_ib rh (hne)) rfl ?_
    refine xP rfl rh rfl ?_
    refine xN ?_
    repeat refine xQ ?_
    refine xC rfl (fun hc2=>?_) (fun hc2=>?_)
    ·cases hc2
    refine LS.skip ?_
    repeat refine xQ ?_
    refine xG rfl ?_
    iterate 2 refine xP rfl rh rfl ?_
    refine OS.at (j:=i) (hl' []) hil rfl rfl rfl rfl rfl rfl (fun r3 o3 row3 cs3 m3 c3 g3 k3=>⟨_,rfl,?_⟩)
    refine xP rfl rh rfl ?_
    refine xR rfl (e_loadm m3 c3 rfl rfl (part_one rfl (g3 0 _ (by omega) hc0))) rfl ?_
    refine xP rfl rh rfl ?_
    refine xN ?_
    repeat refine xQ ?_
    refine xG rfl ?_
    iterate 2 refine xP rfl rh rfl ?_
    refine OS.fresh rfl (e_new (fun _=>rfl) rfl) (fun _=>rfl) (fun r8=>?_)
    iterate 2 refine xP rfl rh rfl ?_
    refine OS.at (j:=i) (hl' [_]) hil rfl rfl rfl rfl rfl rfl (fun r4 o4 row4 cs4 m4 c4 g4 k4=>⟨_,rfl,?_⟩)
    refine xP rfl rh rfl ?_
    refine xR rfl (e_loadm m4 c4 rfl rfl (part_one rfl (g4 1 _ (by omega) hc1))) rfl ?_
    refine OS.turns rfl (e_appVoid (e:=5) (r:=r8) (sz:=1) (bts:=1) (m:=p.2.length) (SV.void (List.mem_cons_self ..) rfl) (hw' [_]) (byteCells_one _) rfl rfl rfl (by omega) (by omega)) ?_
    rintro u L₁ ⟨Z,rfl,hZ⟩
    rcases hZ with ⟨h1,_⟩ | ⟨r9,rfl,rfl,hl9⟩
    ·omega
    refine ⟨_,rfl,?_⟩
    refine xP rfl (e_index (j:=p.1) (sz:=1) rfl rfl rfl rfl rfl hpN) rfl ?_
    refine OS.write rfl (e_store 2 (n:=1) (cs':=vs'.set p.1 (.slice (some ⟨r9,0,none⟩) p.2.length openCap)) rfl rfl rfl rfl rfl rfl (by rw [show 0+p.1 * 1=p.1 by omega]; exact lay_one (by omega)) rfl) rfl ?_
    refine OS.sub (Sub.pulls [2] rfl) ?_
    refine xN ?_
    repeat refine xQ ?_
    refine xG rfl ?_
    refine xP rfl rh rfl ?_
    refine xP rfl (e_addN (n:=1) rfl rfl rfl (in_i64 (by omega) (by omega))) rfl ?_
    refine xP rfl rh rfl ?_
    refine xN ?_
    refine ⟨l.length - (i+1),by omega,i+1,(p.1:Nat),vs'.set p.1 (.slice (some ⟨r9,0,none⟩) p.2.length openCap),[(ri,.cells 30 (vs'.set p.1 (.slice (some ⟨r9,0,none⟩) p.2.length openCap)))],(r9,.cells 5 (byteCells p.2))::(r8,.cells 5 [])::Y,rfl,by omega,fun j q hj hq=>?_,?_,.inr ⟨ri,rfl,by rw [List.length_set]; exact hrl,rfl⟩,?_,rfl⟩
    ·have h5:=List.pairwise_iff_getElem.1 hs
     obtain ⟨hj1,rfl⟩:=List.getElem?_eq_some_iff.1 hq
     obtain ⟨hi1,rfl⟩:=List.getElem?_eq_some_iff.1 hpi
     have:=h5 i j hi1 hj1 (by omega)
     omega
    ·rfl
    ·rw [htk,overI_snoc]
     refine ImgV.put (him'.mono fun q hq=>?_) hvl hpN (.inl (.inr ⟨r9,0,byteCells p.2,rfl,List.mem_cons_self ..,cut_all (byteCells_len _)⟩))
     simp only [List.cons_append,List.mem_cons]
     exact .inr (.inr hq)
   ·cases hc
  ·have hb:(!ileB ((l.length:Nat):Int) ((i:Nat):Int))=false:=by rw [ileB_eq,decide_eq_true (by omega)]; rfl
   repeat refine xQ ?_
   refine xG rfl ?_
   iterate 2 refine xP rfl rh rfl ?_
   refine xP rfl (e_len (hl' []) rfl rfl rfl rfl rfl) rfl ?_
   refine xP rfl (e_ib rh (hb)) rfl ?_
   refine xN ?_
   repeat refine xQ ?_
   refine xC rfl (fun hc=>?_) (fun hc=>?_)
   ·cases hc
   refine LS.exit ?_
   rw [List.take_of_length_le (by omega)] at him'
   exact ⟨vs',I',Y,rfl,gi',him',rfl⟩
 rintro a' L' ⟨vs',I',Y,rfl,gi',him',rfl⟩
 repeat refine xQ ?_
 refine xG rfl ?_
 refine xP rfl rh rfl ?_
 refine xN ?_
 refine xT ⟨_,fun _ _=>rfl,?_⟩
 exact ⟨rfl,vs',I',Y,rfl,gi',him'⟩
end Go.Proofs.YtlmmddfhoabjfaaGreat
end
section
namespace Go.Am
theorem Sub.appR {A B:RL} (X:RL) (s:Sub A B):Sub (A++X) (B++X):=(Sub.rot (X:=X) (G:=A)).trans ((Sub.app X s).trans Sub.rot)
end Go.Am
namespace Go.Proofs.YtlmmddfhoabjfaaGreat
open Go.Am
section
variable {c:Cfg} {G G' X I M:RL} {s:TSt} {L:RL} {iv:Value} {vs:List Value} {imgs:List Tx} {N:Nat}
theorem TR.reframe (h:TR c G X s L) (hs:Sub G' G):∃ L',TR c G' X s L'/\Sub L' L:=by
 obtain ⟨T,es,ck,ws,wk,hN,rfl,hp⟩:=h
 exact ⟨_,⟨T,es,ck,ws,wk,hN,rfl,hp⟩,Sub.cons (Sub.cons (Sub.cons (Sub.cons (Sub.cons (Sub.appR X hs)))))⟩
theorem TR.unframe (h:TR c (I++(G++M)) X s L):∃ Z,Sub (I++(G++Z)) L/\∀ p,p∈M->p∈Z:=by
 obtain ⟨T,es,ck,ws,wk,hN,rfl,hp⟩:=h
 refine ⟨HD c.rf c.rb c.rt c.rn c.rw T s.root s.cnt c.root0 c.cnt0 es ck ws wk (M++X),Sub.sums fun f=>?_,fun p hp=>by simp [hp]⟩
 simp [HD,fm]<;>omega
def TI (c:Cfg) (N:Nat) (I G M X:RL) (iv:Value) (vs:List Value) (imgs:List Tx) (s:TSt) (L:RL):Prop:=TR c (I++(G++M)) X s L/\GV 30 1 [] iv N vs I/\ImgV M N vs imgs
theorem TI.add (Z:RL) (h:TI c N I G M X iv vs imgs s L):∃ L',TI c N I G (Z++M) X iv vs imgs s L'/\Sub L' (Z++L):=by
 obtain ⟨h1,h2,h3⟩:=h
 obtain ⟨L1,h4,s1⟩:=TR.pushs Z h1
 obtain ⟨L2,h5,s2⟩:=h4.reframe (G':=I++(G++(Z++M))) (Sub.sums fun f=>by
  simp only [List.map_append,List.sum_append]; omega)
 exact ⟨L2,⟨h5,h2,h3.mono fun p hp=>List.mem_append_right _ hp⟩,s2.trans s1⟩
theorem TI.memM (h:TI c N I G M X iv vs imgs s L):∀ p,p∈M->p∈L:=fun p hp=>h.1.memG p (by simp [hp])
theorem TI.img (h:TI c N I G M X iv vs imgs s L):ImgR L iv imgs:=h.2.2.r h.2.1 (fun p hp=>h.1.memG p (by simp [hp])) h.memM
set_option maxHeartbeats 1000000 in
theorem over_tr {u:Value} {cs:List Value} {l:List (Nat × Tx)} {Y D:RL} (h:TI c N I G M X iv vs imgs s L) (hv:GV 81 2 [] u l.length cs Y) (hp:PgsR D cs l) (hs:l.Pairwise fun a b=>a.1 < b.1) (hn:∀ p∈l,p.1 < N/\p.2.length=256) (hN:N<=1000000) (hll:l.length<=1000000) :
  CS Tryz.prog 31 [iv,u] (Y++(D++L)) fun r L'=>r=.bool true/\∃ I' M' vs',(∀ p,p∈M->p∈M')/\TI c N I' G M' X iv vs' (overI imgs l) s L':=by
 obtain ⟨⟨T,es,ck,ws,wk,hT,rfl,hpg⟩,gi,him⟩:=h
 have hsub:Sub (I++(Y++(D++HD c.rf c.rb c.rt c.rn c.rw T s.root s.cnt c.root0 c.cnt0 es ck ws wk ((G++M)++X)))) (Y++(D++HD c.rf c.rb c.rt c.rn c.rw T s.root s.cnt c.root0 c.cnt0 es ck ws wk ((I++(G++M))++X))):=Sub.sums fun f=>by
  simp [HD,fm]<;>omega
 refine ((over_ct gi him (fun p hp=>by simp [hp]) (hv.sv.mono fun p hp=>List.mem_append_left _ hp) (hp.mono fun p hp=>by simp [hp]) hs hn hN hll).sub hsub).less ?_
 rintro r L' ⟨rfl,vs',I',Z,rfl,gi',him'⟩
 refine ⟨HD c.rf c.rb c.rt c.rn c.rw T s.root s.cnt c.root0 c.cnt0 es ck ws wk ((I'++(G++(Z++(Y++(D++M)))))++X),Sub.sums fun f=>?_,rfl,I',Z++(Y++(D++M)),vs',fun p hp=>by simp [hp],⟨T,es,ck,ws,wk,hT,rfl,hpg⟩,gi',him'.mono fun p hp=>?_⟩
 ·simp [HD,fm]<;>omega
 ·rcases List.mem_append.1 hp with hp | hp
  ·exact List.mem_append_left _ hp
  ·simp [hp]
theorem chg_le {N:Nat} {m m0:Mem} {ks:List Nat} (h:ChgKs m m0 ks) (hm:∀ k,m k≠none->k < N) (hm0:∀ k,m0 k≠none->k < N):ks.length<=N:=by
 have:=nodup_le (A:=ks) (B:=List.range N) (h.1.imp fun {a b} h=>by omega) fun k hk=>List.mem_range.2 (by
  have hgk:=(h.2 k).1 hk
  by_cases h1:m k=none
  ·by_cases h2:m0 k=none
   ·exact absurd (by rw [h1,h2]) hgk
   ·exact hm0 k h2
  ·exact hm k h1)
 rw [List.length_range] at this
 exact this
theorem TR.dom0 (h:TR c G X s L):∀ i,c.m0 i≠none->i < c.N:=by
 obtain ⟨T,es,ck,ws,wk,hN,rfl,hp⟩:=h
 rw [← hN]; exact hp.dom0
theorem dirty_fine {P:List Pr} {ks:List Nat} (h:TR c G X s L) (hg:GoodS s.m s.root P) (hc:ChgKs s.m c.m0 ks):(dirtyOf s.m ks).Pairwise (fun a b=>a.1 < b.1)/\(∀ p∈dirtyOf s.m ks,p.1 < c.N/\p.2.length=256)/\(dirtyOf s.m ks).length<=32768:=by
 refine ⟨dirty_srt hc.1,fun p hp=>?_,?_⟩
 ·obtain ⟨_,n,hn,he⟩:=dirty_mem hp
  exact ⟨h.dom p.1 (by rw [hn]; simp),by rw [he]; exact enc_len (hg.fits _ _ hn)⟩
 ·have h1:=dirty_len (m:=s.m) (ks:=ks)
  have h2:=chg_le hc h.dom h.dom0
  have h3:=h.N
  omega
theorem GoodS.nil {P:List Pr} {m:Mem} (h:GoodS m (-1) P):P=[]/\m=m00:=by
 rcases h with ⟨_,h2,h3⟩ | ⟨H,t,hw,_⟩
 ·exact ⟨h3,funext h2⟩
 ·have:=hw.rt
  omega
set_option maxHeartbeats 1000000 in
theorem open_tr {P:List Pr} (h:TI c N I G M X iv vs imgs s L) (hN:c.N=N) (hg:GoodS s.m s.root P) (hi:ImgOk s.m imgs) :
  CS Tryz.prog 10 [.int .i64 s.root,iv] L fun u L'=>∃ ro c2 X2,u=.tuple #[ptr ro,.int .i64 0]/\c2.N=N/\c2.m0=s.m/\c2.root0=s.root/\c2.cnt0=((P.length:Nat):Int)/\TR c2 ((ro,toRow c2.rt)::L) X2 ⟨s.m,s.root,(P.length:Nat)⟩ L':=by
 have hl:imgs.length=N:=h.2.2.1
 have hd:∀ q,s.m q≠none->q < N:=fun q hq=>by have:=h.1.dom q hq; omega
 have hN3:=h.1.N
 refine (tOpen_ct h.img).mono ?_
 have hroot:s.root=-1∨∃ n:Nat,s.root=n/\n < N:=by
  have hr:=hg.root
  by_cases hP:P=[]
  ·exact .inl (hr.1 hP)
  ·obtain ⟨n,h1,h2⟩:=hr.2 hP
   exact .inr ⟨n,h1,hd n h2⟩
 rintro u L' (⟨h1,_⟩ | ⟨h1,h2,h3,h4⟩)
 ·rcases hroot with h5 | ⟨n,h5,h6⟩ <;> omega
 ·have hfind:s.root≠-1->∃ σ,lookF imgs.length (imF imgs) (imgs.length+1) ⟨m00,0,0⟩ s.root 1 [] []=some σ/\σ.m=s.m/\σ.cnt=P.length:=fun hr=>by
   rw [hl]
   exact read_good hg (fun hP=>hr (hg.root.1 hP)) hd hi
  rcases h4 with ⟨h5,h6,_⟩ | ⟨ro,c2,X2,m,cnt,rfl,hc1,hc2,hc3,hc4,htr,h5⟩
  ·obtain ⟨σ,h7,_⟩:=hfind h5
   rw [h6] at h7; cases h7
  ·have hmc:m=s.m/\cnt=P.length:=by
    rcases h5 with ⟨h6,rfl,rfl⟩ | ⟨h6,σ,h7,rfl,rfl⟩
    ·rw [h6] at hg
     obtain ⟨h7,h8⟩:=hg.nil
     exact ⟨h8.symm,by rw [h7]; rfl⟩
    ·obtain ⟨σ',h8,h9,h10⟩:=hfind h6
     rw [h7] at h8; cases h8
     exact ⟨h9,h10⟩
   obtain ⟨rfl,rfl⟩:=hmc
   exact ⟨ro,c2,X2,rfl,by rw [hc1,hl],hc2,hc3,hc4,htr⟩
end
theorem good_00:GoodS m00 (-1) []:=.inl ⟨rfl,fun _=>rfl,rfl⟩
end Go.Proofs.YtlmmddfhoabjfaaGreat
end
section
namespace Go.Proofs.YtlmmddfhoabjfaaGreat
open Go.Am
theorem in3 {I G M:RL} {p:Nat × ARow} (h:p∈M):p∈I++(G++M):=List.mem_append_right _ (List.mem_append_right _ h)
theorem used_le {N:Nat} {m:Mem}:(usedL N m).length<=N:=by
 have:=used_frees (N:=N) (m:=m)
 omega
end Go.Proofs.YtlmmddfhoabjfaaGreat
end
section
namespace Go.Proofs.YtlmmddfhoabjfaaGreat
open Go.Am
section
variable {c c2:Cfg} {G G' X X2 I M:RL} {s s2:TSt} {L L2:RL} {iv:Value} {vs:List Value} {imgs:List Tx} {N rx ro ro2:Nat} {lx:Value} {P:List Pr} {key val:Tx}
theorem TI.regroup (h:TI c N I G M X iv vs imgs s L) (hs:Sub G' G):∃ L',TI c N I G' M X iv vs imgs s L'/\Sub L' L:=by
 obtain ⟨L',h1,h2⟩:=h.1.reframe (G':=I++(G'++M)) (Sub.app I (Sub.appR M hs))
 exact ⟨L',⟨h1,h.2⟩,h2⟩
theorem rPut_ti (h:TI c N I ((rx,mRow lx)::G) M X iv vs imgs s L) (hp:PL 100 2 M lx P.length (prC P)) (hs:SrtP P) (hm:P.length<=90000000) :
  CS Tryz.prog 29 [ptr rx,txt key,txt val] L fun u L'=>∃ lx' M',(∀ p,p∈M->p∈M')/\TI c N I ((rx,mRow lx')::G) M' X iv vs imgs s L'/\PL 100 2 M' lx' (putP key val P).length (prC (putP key val P)):=by
 obtain ⟨⟨T,es,ck,ws,wk,hT,rfl,hpg⟩,gi,him⟩:=h
 have hsub:Sub ((rx,mRow lx)::HD c.rf c.rb c.rt c.rn c.rw T s.root s.cnt c.root0 c.cnt0 es ck ws wk ((I++(G++M))++X)) (HD c.rf c.rb c.rt c.rn c.rw T s.root s.cnt c.root0 c.cnt0 es ck ws wk ((I++(((rx,mRow lx)::G)++M))++X)):=Sub.sums fun f=>by
  simp [HD,fm]<;>omega
 refine ((rPut_ct (fun p hp=>by simp [hp]) hp hs hm).sub hsub).less ?_
 rintro u L' ⟨lx',Y,rfl,hp'⟩
 refine ⟨HD c.rf c.rb c.rt c.rn c.rw T s.root s.cnt c.root0 c.cnt0 es ck ws wk ((I++(((rx,mRow lx')::G)++(Y++M)))++X),Sub.sums fun f=>?_,lx',Y++M,fun p hp=>by simp [hp],⟨⟨T,es,ck,ws,wk,hT,rfl,hpg⟩,gi,him.mono fun p hp=>by simp [hp]⟩,hp'⟩
 simp [HD,fm]<;>omega
theorem rDel_ti (h:TI c N I ((rx,mRow lx)::G) M X iv vs imgs s L) (hp:PL 100 2 M lx P.length (prC P)) (hm:P.length<=90000000) :
  CS Tryz.prog 30 [ptr rx,txt key] L fun u L'=>∃ lx' M',(∀ p,p∈M->p∈M')/\TI c N I ((rx,mRow lx')::G) M' X iv vs imgs s L'/\PL 100 2 M' lx' (delP key P).length (prC (delP key P))/\u=.int .i64 (if getP P key=none then 5 else 0):=by
 obtain ⟨⟨T,es,ck,ws,wk,hT,rfl,hpg⟩,gi,him⟩:=h
 have hsub:Sub ((rx,mRow lx)::HD c.rf c.rb c.rt c.rn c.rw T s.root s.cnt c.root0 c.cnt0 es ck ws wk ((I++(G++M))++X)) (HD c.rf c.rb c.rt c.rn c.rw T s.root s.cnt c.root0 c.cnt0 es ck ws wk ((I++(((rx,mRow lx)::G)++M))++X)):=Sub.sums fun f=>by
  simp [HD,fm]<;>omega
 refine ((rDel_ct (fun p hp=>by simp [hp]) hp (by omega)).sub hsub).less ?_
 rintro u L' ⟨lx',Y,rfl,hp',hu⟩
 refine ⟨HD c.rf c.rb c.rt c.rn c.rw T s.root s.cnt c.root0 c.cnt0 es ck ws wk ((I++(((rx,mRow lx')::G)++(Y++M)))++X),Sub.sums fun f=>?_,lx',Y++M,fun p hp=>by simp [hp],⟨⟨T,es,ck,ws,wk,hT,rfl,hpg⟩,gi,him.mono fun p hp=>by simp [hp]⟩,hp',hu⟩
 simp [HD,fm]<;>omega
theorem rCopy_ti (h:TI c N I G M X iv vs imgs s L) (hr:(rx,mRow lx)∈G) (hp:PL 100 2 M lx P.length (prC P)) (hm:P.length<=90000000) :
  CS Tryz.prog 32 [ptr rx] L fun u L'=>∃ ry ly M',u=ptr ry/\(∀ p,p∈M->p∈M')/\TI c N I ((ry,mRow ly)::G) M' X iv vs imgs s L'/\PL 100 2 M' ly P.length (prC P):=by
 obtain ⟨⟨T,es,ck,ws,wk,hT,rfl,hpg⟩,gi,him⟩:=h
 refine (rCopy_ct (by simp [hr]) (hp.sv.mono fun p hp=>by simp [hp]) (by omega)).less ?_
 rintro u L' ⟨ry,ly,Y,rfl,rfl,hp'⟩
 refine ⟨HD c.rf c.rb c.rt c.rn c.rw T s.root s.cnt c.root0 c.cnt0 es ck ws wk ((I++(((ry,mRow ly)::G)++(Y++M)))++X),Sub.sums fun f=>?_,ry,ly,Y++M,rfl,fun p hp=>by simp [hp],⟨⟨T,es,ck,ws,wk,hT,rfl,hpg⟩,gi,him.mono fun p hp=>by simp [hp]⟩,hp'.mono fun p hp=>List.mem_append_left _ hp⟩
 simp [HD,fm]<;>omega
theorem free_old (h:TR c G X s L) (ho:(ro,toRow c.rt)∈G) (h2:TR c2 ((ro2,toRow c2.rt)::L) X2 s2 L2):CS Tryz.prog 23 [ptr ro] L2 fun u L'=>u=.int .i64 (frM c.N s.m:Nat)/\L'=L2:=by
 obtain ⟨T2,es2,ck2,ws2,wk2,hT2,rfl,hp2⟩:=h2
 obtain ⟨T,es,ck,ws,wk,hT,rfl,hpg⟩:=h
 refine ((tFree_ct (G:=HD c2.rf c2.rb c2.rt c2.rn c2.rw T2 s2.root s2.cnt c2.root0 c2.cnt0 es2 ck2 ws2 wk2 ((ro2,toRow c2.rt)::(G++X2))) ⟨T,es,ck,ws,wk,hT,rfl,hpg⟩ (by simp [ho])).sub (Sub.sums fun f=>?_)).less ?_
 ·simp [HD,fm]<;>omega
 ·rintro u L' ⟨rfl,rfl⟩
  refine ⟨_,Sub.sums fun f=>?_,rfl,rfl⟩
  simp [HD,fm]<;>omega
theorem TI.instead (h:TI c N I G M X iv vs imgs s L) (h2:TR c2 ((ro2,toRow c2.rt)::L) X2 s2 L2):∃ L' M',TI c2 N I G M' X2 iv vs imgs s2 L'/\Sub L' L2/\(∀ p,p∈M->p∈M')/\(ro2,toRow c2.rt)∈M':=by
 obtain ⟨Z,sZ,hZ⟩:=h.1.unframe
 obtain ⟨L',h3,s3⟩:=h2.reframe (G':=I++(G++((ro2,toRow c2.rt)::Z))) (by
  refine Sub.trans ?_ (Sub.cons sZ)
  refine Sub.sums fun f=>?_
  simp only [List.map_append,List.map_cons,List.map_nil,List.sum_append,List.sum_cons,List.sum_nil,List.append_assoc,List.cons_append,List.nil_append]; omega)
 exact ⟨L',(ro2,toRow c2.rt)::Z,⟨h3,h.2.1,h.2.2.mono fun p hp=>List.mem_cons_of_mem _ (hZ p hp)⟩,s3,fun p hp=>List.mem_cons_of_mem _ (hZ p hp),List.mem_cons_self ..⟩
end
def PI (N:Nat) (L0:RL) (b rx rw ro:Nat) (iv:Value) (P:List Pr) (L':RL):Prop:=∃ c X I M vs imgs m root P0 lx lw,TI c N I [(rx,mRow lx),(rw,mRow lw)] M X iv vs imgs ⟨m,root,(P.length:Nat)⟩ L'/\c.N=N/\(ro,toRow c.rt)∈M/\GoodS m root P/\GoodS c.m0 c.root0 P0/\c.cnt0=((P0.length:Nat):Int)/\ImgOk c.m0 imgs /\
 PL 100 2 M lx P.length (prC P)/\PL 100 2 M lw P0.length (prC P0)/\P.length<=b/\P0.length<=b/\(∀ p,p∈L0->p∈M)
end Go.Proofs.YtlmmddfhoabjfaaGreat
end
section
namespace Go.Proofs.YtlmmddfhoabjfaaGreat
open Go.Am
theorem PI.weak {N b rx rw ro:Nat} {L0 L0':RL} {iv:Value} {P:List Pr} {L':RL} (h:PI N L0 b rx rw ro iv P L') (hb:∀ p,p∈L0'->p∈L0):PI N L0' b rx rw ro iv P L':=by
 obtain ⟨c,X,I,M,vs,imgs,m,root,P0,lx,lw,h1,h2,h3,h4,h5,h6,h7,h8,h9,h10,h11,h12⟩:=h
 exact ⟨c,X,I,M,vs,imgs,m,root,P0,lx,lw,h1,h2,h3,h4,h5,h6,h7,h8,h9,h10,h11,fun p hp=>h12 p (hb p hp)⟩
abbrev stRow (t:Sk):ARow:=.cells 60 [.int .u8 (t.k.toNat:Nat),txt t.key,txt t.val]
theorem getV_some' {P:List Pr} {k v:Tx} (h:getP P k=some v):getV P k=.tuple #[txt v,.bool true]:=by unfold getV; rw [h]
theorem getV_none' {P:List Pr} {k:Tx} (h:getP P k=none):getV P k=.tuple #[txt [],.bool false]:=by unfold getV; rw [h]
theorem ne_self'' (b:Tx):(!bytesEq b b)=false:=by rw [beqT,decide_eq_true rfl]; rfl
theorem ne_bool (b:Bool):(!(b == b))=false:=by cases b <;> rfl
set_option maxHeartbeats 8000000 in
theorem playsT_ct {L:RL} {vl:Value} {ml:Nat} {ts:List Sk} {fr to:Tx} (n:Int) (hl:SV 3 L vl ml (ts.flatMap Sk.cells)) (hok:∀ t∈ts,t.ok) (hml:ml<=9223372036854775807) :
  CS Tryz.prog 4 [.int .i64 n,vl,txt fr,txt to] L fun u _=>u=.bool true:=by
 have hlen:ts.length=ml:=by have:=hl.len; rw [sk_len] at this; omega
 refine CS.mk (fn:=Tryz.f4) rfl rfl rfl rfl ?_
 repeat refine xQ ?_
 refine xG rfl ?_
 refine xP rfl rh rfl ?_
 refine xN ?_
 repeat refine xQ ?_
 refine LS.mid [0,1,2,3,35] (fun a' L'=>∃ b:Bool,(b=false->(n<=400∨32768 < n)/\ml<=800)/\L'=L/\a'=[.int .i64 n,vl,txt fr,txt to,jn,jn,jn,jn,jn,jn,jn,jn,jn,jn,jn,jn,jn,jn,jn,jn,jn,jn,jn,jn,jn,jn,jn,jn,jn,jn,jn,jn,jn,jn,jn,.bool b,jn,jn,jn,jn,jn,jn,jn,jn,jn,jn,jn,jn,jn,jn,jn,jn,jn,jn,jn,jn,jn,jn,jn,jn,jn,jn,jn,jn,jn,jn,jn,jn,jn,jn,jn,jn,jn,jn,jn,jn,jn,jn,jn,jn,jn,jn,jn,jn,jn,jn,jn,jn,jn,jn,jn,jn,jn,jn,jn,jn,jn,jn,jn,jn,jn,jn,jn,jn,jn,jn,jn,jn,jn,jn,jn,jn,jn,jn,jn,jn,jn,jn,jn,jn,jn,jn,jn,jn,jn,jn,jn,jn,jn,jn,jn,jn,jn,jn,jn,jn,jn,jn,jn,jn,jn,jn,jn,jn,jn,jn,jn,jn,jn,jn,jn,jn,jn,jn,jn,jn,jn,jn,jn,jn,jn,jn,jn,jn,jn,jn,jn,jn,jn,jn,jn,jn,jn,jn,jn,jn,jn,jn,jn,jn,jn,jn,jn,jn,jn,jn,jn,jn,jn,jn,jn,jn,jn,jn,jn,jn,jn,jn,jn,jn,jn,jn,jn,jn,jn,jn,jn,jn,jn,jn,jn,jn,jn,jn,jn,jn,jn,jn,jn,jn,jn,jn,jn,jn,jn,jn,jn,jn,jn,jn,jn,jn,jn,jn,jn,jn,jn,jn,jn,jn,jn,jn,jn,jn,jn,jn,jn,jn,jn,jn,jn,jn,jn,jn,jn,jn,jn,jn,jn,jn,jn,jn,jn,jn,jn,jn,jn]) ?_ ?_
 ·by_cases h1:400 < n
  ·have hb1:(!ileB n 400)=true:=by rw [ileB_eq,decide_eq_false (by omega)]; rfl
   by_cases h2:n<=32768
   ·have hb2:ileB n 32768=true:=ileB_iff.2 h2
    refine xG rfl ?_
    refine xP rfl rh rfl ?_
    refine xP rfl (e_ib rh (hb1)) rfl ?_
    iterate 2 refine xP rfl rh rfl ?_
    refine xP rfl (e_ib rh (hb2)) rfl ?_
    iterate 2 refine xP rfl rh rfl ?_
    iterate 2 refine xK rfl rfl ?_
    refine xP rfl rh rfl ?_
    refine xN ?_
    exact ⟨true,fun h=>(by cases h),rfl,rfl⟩
   ·have hb2:ileB n 32768=false:=by rw [ileB_eq,decide_eq_false h2]
    refine xG rfl ?_
    refine xP rfl rh rfl ?_
    refine xP rfl (e_ib rh (hb1)) rfl ?_
    iterate 2 refine xP rfl rh rfl ?_
    refine xP rfl (e_ib rh (hb2)) rfl ?_
    iterate 3 refine xP rfl rh rfl ?_
    refine xA noGo rfl (fun _=>rfl) ((long_ct hl hok hml).mono ?_)
    rintro u L' ⟨b,rfl,hLL,hb⟩
    have hLL:=hLL.symm
    subst hLL
    refine ⟨_,rfl,?_⟩
    refine xP rfl rh rfl ?_
    refine xN ?_
    exact ⟨b,fun h=>⟨.inr (by omega),hb h⟩,rfl,rfl⟩
  ·have hb1:(!ileB n 400)=false:=by rw [ileB_eq,decide_eq_true (by omega)]; rfl
   refine xG rfl ?_
   refine xP rfl rh rfl ?_
   refine xP rfl (e_ib rh (hb1)) rfl ?_
   refine xP rfl rh rfl ?_
   iterate 2 refine xK rfl rfl ?_
   iterate 3 refine xP rfl rh rfl ?_
   refine xA noGo rfl (fun _=>rfl) ((long_ct hl hok hml).mono ?_)
   rintro u L' ⟨b,rfl,hLL,hb⟩
   have hLL:=hLL.symm
   subst hLL
   refine ⟨_,rfl,?_⟩
   refine xP rfl rh rfl ?_
   refine xN ?_
   exact ⟨b,fun h=>⟨.inl (by omega),hb h⟩,rfl,rfl⟩
 rintro a' L' ⟨b,hb,hLL,rfl⟩
 have hLL:=hLL.symm
 subst hLL
 cases b
 case true =>
  repeat refine xQ ?_
  refine xC rfl (fun hc=>?_) (fun hc=>?_)
  ·repeat refine xQ ?_
   refine xG rfl ?_
   refine xP rfl rh rfl ?_
   refine xN ?_
   refine xT ⟨_,fun _ _=>rfl,?_⟩
   rfl
  ·cases hc
 obtain ⟨hn,hm8⟩:=hb rfl
 repeat refine xQ ?_
 refine xC rfl (fun hc=>?_) (fun hc=>?_)
 ·cases hc
 refine LS.skip ?_
 by_cases hneg:n < 0∨32768 < n
 ·repeat refine xQ ?_
  refine xG rfl ?_
  refine xP rfl rh rfl ?_
  refine xA noGo rfl (fun _=>rfl) ((tNew_wrong n hneg).mono ?_)
  rintro u L' ⟨rfl,rfl⟩
  refine ⟨_,rfl,?_⟩
  iterate 5 refine xP rfl rh rfl ?_
  refine xN ?_
  by_cases h0:n < 0
  ·have hb1:(!ileB 0 n)=true:=by rw [ileB_eq,decide_eq_false (by omega)]; rfl
   repeat refine xQ ?_
   refine xG rfl ?_
   refine xP rfl rh rfl ?_
   refine xP rfl (e_ib rh (hb1)) rfl ?_
   refine xP rfl rh rfl ?_
   iterate 2 refine xK rfl rfl ?_
   refine xP rfl rh rfl ?_
   refine xN ?_
   repeat refine xQ ?_
   refine xC rfl (fun hc=>?_) (fun hc=>?_)
   ·repeat refine xQ ?_
    refine xG rfl ?_
    iterate 7 refine xP rfl rh rfl ?_
    refine xN ?_
    refine xT ⟨_,fun _ _=>rfl,?_⟩
    rfl
   ·cases hc
  ·have hb1:(!ileB 0 n)=false:=by rw [ileB_eq,decide_eq_true (by omega)]; rfl
   have hb2:(!ileB n 32768)=true:=by rw [ileB_eq,decide_eq_false (by omega)]; rfl
   repeat refine xQ ?_
   refine xG rfl ?_
   refine xP rfl rh rfl ?_
   refine xP rfl (e_ib rh (hb1)) rfl ?_
   iterate 2 refine xP rfl rh rfl ?_
   refine xP rfl (e_ib rh (hb2)) rfl ?_
   refine xP rfl rh rfl ?_
   refine xN ?_
   repeat refine xQ ?_
   refine xC rfl (fun hc=>?_) (fun hc=>?_)
   ·repeat refine xQ ?_
    refine xG rfl ?_
    iterate 7 refine xP rfl rh rfl ?_
    refine xN ?_
    refine xT ⟨_,fun _ _=>rfl,?_⟩
    rfl
   ·cases hc
 obtain ⟨N,rfl⟩:=Int.eq_ofNat_of_zero_le (show 0<=n by omega)
 have hN:N<=400:=by omega
 clear hn hneg hb
 repeat refine xQ ?_
 refine xG rfl ?_
 refine xP rfl rh rfl ?_
 refine xA noGo rfl (fun _=>rfl) ((tNew_ct N (by omega)).mono ?_)
 rintro u L1 ⟨ro,rf,rb,rt,rn,rw',rfl,htr⟩
 refine ⟨_,rfl,?_⟩
 iterate 5 refine xP rfl rh rfl ?_
 refine xN ?_
 have hb1:(!ileB 0 ((N:Nat):Int))=false:=by rw [ileB_eq,decide_eq_true (by omega)]; rfl
 have hb2:(!ileB ((N:Nat):Int) 32768)=false:=by rw [ileB_eq,decide_eq_true (by omega)]; rfl
 repeat refine xQ ?_
 refine xG rfl ?_
 refine xP rfl rh rfl ?_
 refine xP rfl (e_ib rh (hb1)) rfl ?_
 iterate 2 refine xP rfl rh rfl ?_
 refine xP rfl (e_ib rh (hb2)) rfl ?_
 refine xP rfl rh rfl ?_
 refine xN ?_
 repeat refine xQ ?_
 refine xC rfl (fun hc=>?_) (fun hc=>?_)
 ·cases hc
 refine LS.skip ?_
 repeat refine xQ ?_
 refine xG rfl ?_
 iterate 2 refine xP rfl rh rfl ?_
 refine xN ?_
 repeat refine xQ ?_
 refine xC rfl (fun hc=>?_) (fun hc=>?_)
 ·cases hc
 refine LS.skip ?_
 repeat refine xQ ?_
 refine xG rfl ?_
 refine xP rfl rh rfl ?_
 refine OS.fresh rfl (e_new (fun _=>rfl) rfl) (fun _=>rfl) (fun rx0=>?_)
 refine xP rfl rh rfl ?_
 refine xN ?_
 repeat refine xQ ?_
 refine xG rfl ?_
 refine xP rfl rh rfl ?_
 refine OS.fresh rfl (e_new (fun _=>rfl) rfl) (fun _=>rfl) (fun rw0=>?_)
 refine xP rfl rh rfl ?_
 refine xN ?_
 repeat refine xQ ?_
 refine xG rfl ?_
 refine xP rfl rh rfl ?_
 refine xA noGo rfl (fun _=>rfl) ((blankP_ct N (by omega)).mono ?_)
 rintro iv0 L' ⟨vs,I,M0,rfl,gi,him⟩
 refine ⟨_,rfl,?_⟩
 refine xP rfl rh rfl ?_
 refine xN ?_
 have hst:∃ L2,PI N L 0 rx0 rw0 ro iv0 [] L2/\Sub L2 (I++(M0++((rw0,mRow (.slice none 0 0))::(rx0,mRow (.slice none 0 0))::L1))):=by
  obtain ⟨L',h',s'⟩:=TR.pushs (I++([(rx0,mRow (.slice none 0 0)),(rw0,mRow (.slice none 0 0))]++M0)) htr
  rw [List.append_assoc,List.append_assoc] at h'
  refine ⟨L',⟨_,[],I,M0++((ro,toRow rt)::L),vs,List.replicate N zpg,m00,-1,[],_,_,⟨h',gi,him.mono fun p hp=>List.mem_append_left _ hp⟩,rfl,by simp,good_00,good_00,rfl,img_00,.inl ⟨rfl,rfl,rfl⟩,.inl ⟨rfl,rfl,rfl⟩,by simp,by simp,fun p hp=>by simp [hp]⟩,s'.trans (Sub.sums fun f=>?_)⟩
  simp only [List.map_append,List.map_cons,List.map_nil,List.sum_append,List.sum_cons,List.sum_nil,List.append_assoc,List.cons_append,List.nil_append]; omega
 obtain ⟨L2,hPI0,s2⟩:=hst
 refine LS.sub s2 ?_
 clear s2 htr gi him
 repeat refine xQ ?_
 refine xG rfl ?_
 refine xP rfl rh rfl ?_
 refine xN ?_
 repeat refine xQ ?_
 refine LS.mid [2,3,9,11] (fun a' L'=>∃ rx rw ro iv P,PI N L 800 rx rw ro iv P L'/\a'=[jn,jn,txt fr,txt to,jn,jn,jn,jn,jn,ptr ro,jn,ptr rx,jn,jn,jn,jn,jn,jn,jn,jn,jn,jn,jn,jn,jn,jn,jn,jn,jn,jn,jn,jn,jn,jn,jn,jn,jn,jn,jn,jn,jn,jn,jn,jn,jn,jn,jn,jn,jn,jn,jn,jn,jn,jn,jn,jn,jn,jn,jn,jn,jn,jn,jn,jn,jn,jn,jn,jn,jn,jn,jn,jn,jn,jn,jn,jn,jn,jn,jn,jn,jn,jn,jn,jn,jn,jn,jn,jn,jn,jn,jn,jn,jn,jn,jn,jn,jn,jn,jn,jn,jn,jn,jn,jn,jn,jn,jn,jn,jn,jn,jn,jn,jn,jn,jn,jn,jn,jn,jn,jn,jn,jn,jn,jn,jn,jn,jn,jn,jn,jn,jn,jn,jn,jn,jn,jn,jn,jn,jn,jn,jn,jn,jn,jn,jn,jn,jn,jn,jn,jn,jn,jn,jn,jn,jn,jn,jn,jn,jn,jn,jn,jn,jn,jn,jn,jn,jn,jn,jn,jn,jn,jn,jn,jn,jn,jn,jn,jn,jn,jn,jn,jn,jn,jn,jn,jn,jn,jn,jn,jn,jn,jn,jn,jn,jn,jn,jn,jn,jn,jn,jn,jn,jn,jn,jn,jn,jn,jn,jn,jn,jn,jn,jn,jn,jn,jn,jn,jn,jn,jn,jn,jn,jn,jn,jn,jn,jn,jn,jn,jn,jn,jn,jn,jn,jn,jn,jn,jn,jn,jn,jn,jn,jn,jn,jn,jn,jn,jn,jn,jn,jn,jn,jn,jn,jn,jn,jn,jn,jn,jn,jn,jn,jn,jn,jn,jn,jn]) ?_ ?_
 ·refine LS.block ?_
  refine LS.loopJ [0,1,2,3,9,11,12,13,14] (fun z a' L'=>∃ (i rx rw ro:Nat) (iv:Value) (P:List Pr),z=ml - i/\i<=ml/\PI N L i rx rw ro iv P L'/\a'=[.int .i64 (N:Nat),vl,txt fr,txt to,jn,jn,jn,jn,jn,ptr ro,jn,ptr rx,ptr rw,iv,.int .i64 (i:Nat),jn,jn,jn,jn,jn,jn,jn,jn,jn,jn,jn,jn,jn,jn,jn,jn,jn,jn,jn,jn,jn,jn,jn,jn,jn,jn,jn,jn,jn,jn,jn,jn,jn,jn,jn,jn,jn,jn,jn,jn,jn,jn,jn,jn,jn,jn,jn,jn,jn,jn,jn,jn,jn,jn,jn,jn,jn,jn,jn,jn,jn,jn,jn,jn,jn,jn,jn,jn,jn,jn,jn,jn,jn,jn,jn,jn,jn,jn,jn,jn,jn,jn,jn,jn,jn,jn,jn,jn,jn,jn,jn,jn,jn,jn,jn,jn,jn,jn,jn,jn,jn,jn,jn,jn,jn,jn,jn,jn,jn,jn,jn,jn,jn,jn,jn,jn,jn,jn,jn,jn,jn,jn,jn,jn,jn,jn,jn,jn,jn,jn,jn,jn,jn,jn,jn,jn,jn,jn,jn,jn,jn,jn,jn,jn,jn,jn,jn,jn,jn,jn,jn,jn,jn,jn,jn,jn,jn,jn,jn,jn,jn,jn,jn,jn,jn,jn,jn,jn,jn,jn,jn,jn,jn,jn,jn,jn,jn,jn,jn,jn,jn,jn,jn,jn,jn,jn,jn,jn,jn,jn,jn,jn,jn,jn,jn,jn,jn,jn,jn,jn,jn,jn,jn,jn,jn,jn,jn,jn,jn,jn,jn,jn,jn,jn,jn,jn,jn,jn,jn,jn,jn,jn,jn,jn,jn,jn,jn,jn,jn,jn,jn,jn,jn,jn,jn,jn,jn,jn,jn,jn,jn,jn,jn,jn,jn,jn,jn,jn,jn,jn,jn,jn]) (n:=ml) rfl ⟨0,rx0,rw0,ro,iv0,[],rfl,by omega,hPI0,rfl⟩ ?_
  rintro z a' L' ⟨i,rx,rw,ro,iv,P,rfl,hi,hPI,rfl⟩
  by_cases him:i < ml
  case neg =>
   obtain ⟨c,X,I,M,vs,imgs,m,root,P0,lx,lw,hti,hcN,hro,hg,hg0,hcc,him0,hlx,hlw,hPb,hP0b,hLM⟩:=hPI
   have hl':SV 3 L' vl ml (ts.flatMap Sk.cells):=hl.mono fun p hp=>hti.memM p (hLM p hp)
   have hb:(!ileB ((ml:Nat):Int) ((i:Nat):Int))=false:=by rw [ileB_eq,decide_eq_true (by omega)]; rfl
   repeat refine xQ ?_
   refine xG rfl ?_
   iterate 2 refine xP rfl rh rfl ?_
   refine xP rfl (e_len hl' rfl rfl rfl rfl rfl) rfl ?_
   refine xP rfl (e_ib rh (hb)) rfl ?_
   refine xN ?_
   repeat refine xQ ?_
   refine xC rfl (fun hc=>?_) (fun hc=>?_)
   ·cases hc
   refine LS.exit ?_
   exact ⟨rx,rw,ro,iv,P,⟨c,X,I,M,vs,imgs,m,root,P0,lx,lw,hti,hcN,hro,hg,hg0,hcc,him0,hlx,hlw,by omega,by omega,hLM⟩,rfl⟩
  obtain ⟨c,X,I,M',vs,imgs,m,root,P0,lx,lw,hti',hcN,hro',hg,hg0,hcc,him0,hlx',hlw',hPb,hP0b,hLM'⟩:=hPI
  have hl':SV 3 L' vl ml (ts.flatMap Sk.cells):=hl.mono fun p hp=>hti'.memM p (hLM' p hp)
  have hb:(!ileB ((ml:Nat):Int) ((i:Nat):Int))=true:=by rw [ileB_eq,decide_eq_false (by omega)]; rfl
  obtain ⟨t,ht⟩:∃ t,ts[i]?=some t:=⟨_,List.getElem?_eq_getElem (by omega)⟩
  obtain ⟨hk1,hk2⟩:=hok t (List.mem_of_getElem? ht)
  repeat refine xQ ?_
  refine xG rfl ?_
  iterate 2 refine xP rfl rh rfl ?_
  refine xP rfl (e_len hl' rfl rfl rfl rfl rfl) rfl ?_
  refine xP rfl (e_ib rh (hb)) rfl ?_
  refine xN ?_
  repeat refine xQ ?_
  refine xC rfl (fun hc=>?_) (fun hc=>?_)
  case refine_2=>cases hc
  refine LS.skip ?_
  repeat refine xQ ?_
  refine LS.block ?_
  repeat refine xQ ?_
  refine xG rfl ?_
  iterate 2 refine xP rfl rh rfl ?_
  refine OS.at (j:=i) hl' him rfl rfl rfl rfl rfl rfl (fun r0 o0 row0 cs0 m0 c0 g0 k0=>⟨_,rfl,?_⟩)
  refine xR rfl (e_loadm m0 c0 rfl rfl (part_agg rfl rfl (k0 _ (sks_cut ht)))) rfl ?_
  refine OS.fresh rfl (e_new (fun _=>rfl) rfl) (fun _=>rfl) (fun rs=>?_)
  refine OS.write rfl (e_store 0 rfl rfl rfl rfl rfl rfl rfl rfl) rfl ?_
  refine xN ?_
  obtain ⟨L3,hti,s3⟩:=hti'.add [(rs,stRow t)]
  refine LS.sub s3 ?_
  obtain ⟨M,hMdef⟩:∃ M:RL,M=[(rs,stRow t)]++M':=⟨_,rfl⟩
  rw [← hMdef] at hti
  have hrs:(rs,stRow t)∈M:=by rw [hMdef]; simp
  have hMM:∀ p,p∈M'->p∈M:=fun p hp=>by rw [hMdef]; simp [hp]
  have hro:=hMM _ hro'
  have hlx:=hlx'.mono hMM
  have hlw:=hlw'.mono hMM
  have hLM:∀ p,p∈(rs,stRow t)::L->p∈M:=fun p hp=>by
   rcases List.mem_cons.1 hp with rfl | hp
   ·exact hrs
   ·exact hMM _ (hLM' p hp)
  clear hMdef hMM hlx' hlw' hLM' hro' hti' s3 hl' m0 g0 k0
  repeat refine xQ ?_
  refine xG rfl ?_
  refine xP rfl rh rfl ?_
  refine xR rfl (e_loadm (hti.memM _ hrs) rfl rfl rfl rfl) rfl ?_
  refine xN ?_
  repeat refine xQ ?_
  refine LS.mid [0,1,2,3,9,11,12,13,14,15] (fun a' L'=>∃ rx rw ro iv P,PI N ((rs,stRow t)::L) (i+1) rx rw ro iv P L'/\a'=[.int .i64 (N:Nat),vl,txt fr,txt to,jn,jn,jn,jn,jn,ptr ro,jn,ptr rx,ptr rw,iv,.int .i64 (i:Nat),ptr rs,jn,jn,jn,jn,jn,jn,jn,jn,jn,jn,jn,jn,jn,jn,jn,jn,jn,jn,jn,jn,jn,jn,jn,jn,jn,jn,jn,jn,jn,jn,jn,jn,jn,jn,jn,jn,jn,jn,jn,jn,jn,jn,jn,jn,jn,jn,jn,jn,jn,jn,jn,jn,jn,jn,jn,jn,jn,jn,jn,jn,jn,jn,jn,jn,jn,jn,jn,jn,jn,jn,jn,jn,jn,jn,jn,jn,jn,jn,jn,jn,jn,jn,jn,jn,jn,jn,jn,jn,jn,jn,jn,jn,jn,jn,jn,jn,jn,jn,jn,jn,jn,jn,jn,jn,jn,jn,jn,jn,jn,jn,jn,jn,jn,jn,jn,jn,jn,jn,jn,jn,jn,jn,jn,jn,jn,jn,jn,jn,jn,jn,jn,jn,jn,jn,jn,jn,jn,jn,jn,jn,jn,jn,jn,jn,jn,jn,jn,jn,jn,jn,jn,jn,jn,jn,jn,jn,jn,jn,jn,jn,jn,jn,jn,jn,jn,jn,jn,jn,jn,jn,jn,jn,jn,jn,jn,jn,jn,jn,jn,jn,jn,jn,jn,jn,jn,jn,jn,jn,jn,jn,jn,jn,jn,jn,jn,jn,jn,jn,jn,jn,jn,jn,jn,jn,jn,jn,jn,jn,jn,jn,jn,jn,jn,jn,jn,jn,jn,jn,jn,jn,jn,jn,jn,jn,jn,jn,jn,jn,jn,jn,jn,jn,jn,jn,jn,jn,jn,jn,jn,jn,jn,jn,jn,jn,jn,jn,jn,jn,jn,jn,jn]) ?_ ?_
  ·repeat refine xQ ?_
   refine LS.block ?_
   by_cases hk0:t.k.toNat=0
   ·have hb0:ieqB ((t.k.toNat:Nat):Int) 0=true:=by rw [hk0]; rfl
    repeat refine xQ ?_
    refine xG rfl ?_
    refine xP rfl (e_ib rh (hb0)) rfl ?_
    refine xP rfl rh rfl ?_
    refine xN ?_
    repeat refine xQ ?_
    refine xC rfl (fun hc=>?_) (fun hc=>?_)
    case refine_2=>cases hc
    repeat refine xQ ?_
    refine xG rfl ?_
    refine xP rfl rh rfl ?_
    refine xA noGo rfl (fun _=>rfl) ((tFree_ct hti.1 (hti.memM _ hro)).mono ?_)
    rintro u L' ⟨rfl,hLL⟩
    have hLL:=hLL.symm
    subst hLL
    rw [hcN]
    simp only
    obtain ⟨room,hroom⟩:∃ b:Bool,ileB 16 ((frM N m:Nat):Int)=b:=⟨_,rfl⟩
    refine ⟨_,rfl,?_⟩
    refine xP rfl (e_ib rh (hroom)) rfl ?_
    refine xP rfl rh rfl ?_
    refine xN ?_
    repeat refine xQ ?_
    refine xG rfl ?_
    refine xP rfl rh rfl ?_
    refine xR rfl (e_loadm (hti.memM _ hrs) rfl rfl rfl rfl) rfl ?_
    refine xP rfl rh rfl ?_
    refine xR rfl (e_loadm (hti.memM _ hrs) rfl rfl rfl rfl) rfl ?_
    refine xA noGo rfl (fun _=>rfl) ((May_ct (k:=t.key) (v:=t.val) (by omega) (by omega)).mono ?_)
    rintro u L' ⟨may,hmay,rfl,hLL⟩
    have hLL:=hLL.symm
    subst hLL
    refine ⟨_,rfl,?_⟩
    refine xP rfl rh rfl ?_
    refine xN ?_
    repeat refine xQ ?_
    refine xG rfl ?_
    iterate 2 refine xP rfl rh rfl ?_
    refine xR rfl (e_loadm (hti.memM _ hrs) rfl rfl rfl rfl) rfl ?_
    refine xP rfl rh rfl ?_
    refine xR rfl (e_loadm (hti.memM _ hrs) rfl rfl rfl rfl) rfl ?_
    refine xA noGo rfl (fun _=>rfl) ((tPut_ct (key:=t.key) (val:=t.val) hti.1 (hti.memM _ hro) hg rfl (by omega) (by omega) (by omega)).mono ?_)
    rintro u L' (⟨hn1,rfl,hLL⟩ | ⟨hy1,hf1,rfl,hLL⟩ | ⟨hy1,hf1,rfl,X4,m4,root4,_,htr4,hg4,_⟩)
    ·have hLL:=hLL.symm
     subst hLL
     have hmf:may=false:=by
      cases may with
      | false=>rfl
      | true=>exact absurd (hmay.1 rfl) hn1
     subst hmf
     refine ⟨_,rfl,?_⟩
     refine xP rfl rh rfl ?_
     refine xN ?_
     repeat refine xQ ?_
     refine xG rfl ?_
     iterate 9 refine xP rfl rh rfl ?_
     iterate 2 refine xK rfl rfl ?_
     iterate 2 refine xP rfl rh rfl ?_
     iterate 2 refine xK rfl rfl ?_
     iterate 5 refine xP rfl rh rfl ?_
     refine xK rfl rfl ?_
     iterate 2 refine xP rfl rh rfl ?_
     iterate 2 refine xK rfl rfl ?_
     iterate 2 refine xP rfl rh rfl ?_
     refine xN ?_
     repeat refine xQ ?_
     refine xC rfl (fun hc2=>?_) (fun hc2=>?_)
     ·cases hc2
     refine LS.skip ?_
     repeat refine xQ ?_
     refine xG rfl ?_
     iterate 2 refine xP rfl rh rfl ?_
     refine xK rfl rfl ?_
     refine xP rfl rh rfl ?_
     refine xN ?_
     repeat refine xQ ?_
     refine xC rfl (fun hc2=>?_) (fun hc2=>?_)
     ·cases hc2
     refine LS.skip ?_
     exact ⟨rx,rw,ro,iv,P,⟨c,X,I,M,vs,imgs,m,root,P0,lx,lw,hti,hcN,hro,hg,hg0,hcc,him0,hlx,hlw,by omega,by omega,hLM⟩,rfl⟩
    ·have hLL:=hLL.symm
     subst hLL
     have hmf:=hmay.2 hy1
     subst hmf
     rw [hcN] at hf1
     simp only at hf1
     have hrf:room=false:=by rw [← hroom,ileB_eq,decide_eq_false (by omega)]
     subst hrf
     refine ⟨_,rfl,?_⟩
     refine xP rfl rh rfl ?_
     refine xN ?_
     repeat refine xQ ?_
     refine xG rfl ?_
     iterate 3 refine xP rfl rh rfl ?_
     iterate 2 refine xK rfl rfl ?_
     iterate 18 refine xP rfl rh rfl ?_
     iterate 2 refine xK rfl rfl ?_
     iterate 2 refine xP rfl rh rfl ?_
     refine xN ?_
     repeat refine xQ ?_
     refine xC rfl (fun hc2=>?_) (fun hc2=>?_)
     ·cases hc2
     refine LS.skip ?_
     repeat refine xQ ?_
     refine xG rfl ?_
     iterate 4 refine xP rfl rh rfl ?_
     refine xN ?_
     repeat refine xQ ?_
     refine xC rfl (fun hc2=>?_) (fun hc2=>?_)
     ·cases hc2
     refine LS.skip ?_
     exact ⟨rx,rw,ro,iv,P,⟨c,X,I,M,vs,imgs,m,root,P0,lx,lw,hti,hcN,hro,hg,hg0,hcc,him0,hlx,hlw,by omega,by omega,hLM⟩,rfl⟩
    ·have hmf:=hmay.2 hy1
     subst hmf
     rw [hcN] at hf1
     simp only at hf1
     have hrf:room=true:=by rw [← hroom,ileB_eq,decide_eq_true (by omega)]
     subst hrf
     have hti4:TI c N I _ M X4 iv vs imgs _ L':=⟨htr4,hti.2⟩
     have hpl:=putP_len (k:=t.key) (v:=t.val) (P:=P)
     refine ⟨_,rfl,?_⟩
     refine xP rfl rh rfl ?_
     refine xN ?_
     repeat refine xQ ?_
     refine xG rfl ?_
     iterate 3 refine xP rfl rh rfl ?_
     iterate 2 refine xK rfl rfl ?_
     iterate 8 refine xP rfl rh rfl ?_
     iterate 2 refine xK rfl rfl ?_
     iterate 12 refine xP rfl rh rfl ?_
     refine xN ?_
     repeat refine xQ ?_
     refine xC rfl (fun hc2=>?_) (fun hc2=>?_)
     ·cases hc2
     refine LS.skip ?_
     repeat refine xQ ?_
     refine xG rfl ?_
     iterate 4 refine xP rfl rh rfl ?_
     refine xN ?_
     repeat refine xQ ?_
     refine xC rfl (fun hc2=>?_) (fun hc2=>?_)
     ·repeat refine xQ ?_
      refine xG rfl ?_
      iterate 2 refine xP rfl rh rfl ?_
      refine xR rfl (e_loadm (hti4.memM _ hrs) rfl rfl rfl rfl) rfl ?_
      refine xP rfl rh rfl ?_
      refine xR rfl (e_loadm (hti4.memM _ hrs) rfl rfl rfl rfl) rfl ?_
      refine xA noGo rfl (fun _=>rfl) ((rPut_ti (key:=t.key) (val:=t.val) hti4 hlx hg.srt (by omega)).mono ?_)
      rintro u L5 ⟨lx5,M5,hM5,hti5,hlx5⟩
      refine ⟨_,rfl,?_⟩
      refine xN ?_
      exact ⟨rx,rw,ro,iv,_,⟨c,X4,I,M5,vs,imgs,m4,root4,P0,lx5,lw,hti5,hcN,hM5 _ hro,hg4,hg0,hcc,him0,hlx5,hlw.mono hM5,by omega,by omega,fun p hp=>hM5 _ (hLM p hp)⟩,rfl⟩
     ·cases hc2
   have hb0:ieqB ((t.k.toNat:Nat):Int) 0=false:=by rw [ieqB_eq]; simp; omega
   repeat refine xQ ?_
   refine xG rfl ?_
   refine xP rfl (e_ib rh (hb0)) rfl ?_
   refine xP rfl rh rfl ?_
   refine xN ?_
   repeat refine xQ ?_
   refine xC rfl (fun hc=>?_) (fun hc=>?_)
   ·cases hc
   by_cases hk1:t.k.toNat=1
   ·have hb1:ieqB ((t.k.toNat:Nat):Int) 1=true:=by rw [hk1]; rfl
    repeat refine xQ ?_
    refine xG rfl ?_
    refine xP rfl (e_ib rh (hb1)) rfl ?_
    refine xP rfl rh rfl ?_
    refine xN ?_
    repeat refine xQ ?_
    refine xC rfl (fun hc=>?_) (fun hc=>?_)
    case refine_2=>cases hc
    repeat refine xQ ?_
    refine LS.drawn noGo mixed [(0,false),(1,false),(2,false),(4,false),(5,false),(6,false),(3,true),(7,true),(8,false)] rfl rfl (by kernel_rfl) ?_
    iterate 2 refine xD rfl rfl rh rfl ?_
    refine xE rfl rfl (e_loadm (hti.memM _ hrs) rfl rfl rfl rfl) rfl ?_
    iterate 2 refine xD rfl rfl rh rfl ?_
    refine xE rfl rfl (e_loadm (hti.memM _ hrs) rfl rfl rfl rfl) rfl ?_
    refine ODS.call rfl rfl (fun _=>rfl) ((tDel_ct (key:=t.key) hti.1 (hti.memM _ hro) hg rfl (by omega)).mono ?_)
    rintro u L' (⟨h1,rfl,hLL⟩ | ⟨h1,rfl,X4,m4,root4,_,htr4,hg4,_⟩)
    ·have hLL:=hLL.symm
     subst hLL
     refine ⟨_,rfl,Keep.cons rfl (e_loadm (hti.memM _ hrs) rfl rfl rfl rfl) (Keep.gone rfl Keep.nil),?_⟩
     refine ODS.call rfl rfl (fun _=>rfl) ((rDel_ti (key:=t.key) hti hlx (by omega)).mono ?_)
     rintro u L' ⟨lx5,M5,hM5,hti5,hlx5,rfl⟩
     rw [if_pos h1]
     refine ⟨_,rfl,(by repeat (first | exact Keep.nil | refine Keep.gone rfl ?_)),?_⟩
     refine xD rfl rfl rh rfl ?_
     refine xM ?_
     repeat refine xQ ?_
     refine xC rfl (fun hc2=>?_) (fun hc2=>?_)
     ·cases hc2
     refine LS.skip ?_
     rw [delP_none h1] at hlx5
     exact ⟨rx,rw,ro,iv,P,⟨c,X,I,M5,vs,imgs,m,root,P0,lx5,lw,hti5,hcN,hM5 _ hro,hg,hg0,hcc,him0,hlx5,hlw.mono hM5,by omega,by omega,fun p hp=>hM5 _ (hLM p hp)⟩,rfl⟩
    ·have hti4:TI c N I _ M X4 iv vs imgs _ L':=⟨htr4,hti.2⟩
     have hdl:=delP_len (k:=t.key) (P:=P)
     refine ⟨_,rfl,Keep.cons rfl (e_loadm (hti4.memM _ hrs) rfl rfl rfl rfl) (Keep.gone rfl Keep.nil),?_⟩
     refine ODS.call rfl rfl (fun _=>rfl) ((rDel_ti (key:=t.key) hti4 hlx (by omega)).mono ?_)
     rintro u L' ⟨lx5,M5,hM5,hti5,hlx5,rfl⟩
     rw [if_neg h1]
     refine ⟨_,rfl,(by repeat (first | exact Keep.nil | refine Keep.gone rfl ?_)),?_⟩
     refine xD rfl rfl rh rfl ?_
     refine xM ?_
     repeat refine xQ ?_
     refine xC rfl (fun hc2=>?_) (fun hc2=>?_)
     ·cases hc2
     refine LS.skip ?_
     exact ⟨rx,rw,ro,iv,_,⟨c,X4,I,M5,vs,imgs,m4,root4,P0,lx5,lw,hti5,hcN,hM5 _ hro,hg4,hg0,hcc,him0,hlx5,hlw.mono hM5,by omega,by omega,fun p hp=>hM5 _ (hLM p hp)⟩,rfl⟩
   have hb1:ieqB ((t.k.toNat:Nat):Int) 1=false:=by rw [ieqB_eq]; simp; omega
   repeat refine xQ ?_
   refine xG rfl ?_
   refine xP rfl (e_ib rh (hb1)) rfl ?_
   refine xP rfl rh rfl ?_
   refine xN ?_
   repeat refine xQ ?_
   refine xC rfl (fun hc=>?_) (fun hc=>?_)
   ·cases hc
   by_cases hk2':t.k.toNat=2
   ·have hb2':ieqB ((t.k.toNat:Nat):Int) 2=true:=by rw [hk2']; rfl
    repeat refine xQ ?_
    refine xG rfl ?_
    refine xP rfl (e_ib rh (hb2')) rfl ?_
    refine xP rfl rh rfl ?_
    refine xN ?_
    repeat refine xQ ?_
    refine xC rfl (fun hc=>?_) (fun hc=>?_)
    case refine_2=>cases hc
    repeat refine xQ ?_
    refine xG rfl ?_
    iterate 2 refine xP rfl rh rfl ?_
    refine xA noGo rfl (fun _=>rfl) ((tDirty_ct hti.1 (hti.memM _ hro) hg).mono ?_)
    rintro u L' ⟨ks,cs,Y,D,hch,rfl,hv,hp⟩
    obtain ⟨hf1,hf2,hf3⟩:=dirty_fine hti.1 hg hch
    rw [hcN] at hf2
    refine ⟨_,rfl,?_⟩
    refine xA noGo rfl (fun _=>rfl) ((over_tr hti hv hp hf1 hf2 (by omega) (by omega)).mono ?_)
    rintro u L4 ⟨rfl,I2,M2,vs2,hM2,hti2⟩
    have hio:=over_ok (N:=N) him0 hch hg.fits (fun q hq=>by have:=hti.1.dom q hq; omega) hti.2.2.1
    refine ⟨_,rfl,?_⟩
    iterate 3 refine xP rfl rh rfl ?_
    refine xA noGo rfl (fun _=>rfl) ((tClean_ct hti2.1 (in3 (hM2 _ hro))).mono ?_)
    rintro u L5 ⟨w5,rfl,htr5⟩
    refine ⟨_,rfl,?_⟩
    iterate 2 refine xP rfl rh rfl ?_
    refine xN ?_
    repeat refine xQ ?_
    refine xC rfl (fun hc2=>?_) (fun hc2=>?_)
    ·cases hc2
    refine LS.skip ?_
    have hti5:TI _ N I2 _ M2 X iv vs2 _ _ L5:=⟨htr5,hti2.2⟩
    repeat refine xQ ?_
    refine xG rfl ?_
    refine xP rfl rh rfl ?_
    refine xA noGo rfl (fun _=>rfl) ((rCopy_ti (rx:=rx) hti5 (by simp) (hlx.mono hM2) (by omega)).mono ?_)
    rintro u L6 ⟨ry,ly,M3,rfl,hM3,hti6,hly⟩
    obtain ⟨L7,hti7,s7⟩:=hti6.regroup (G':=[(rx,mRow lx),(ry,mRow ly)]) (Sub.sums2 [(rw,mRow lw)] fun f=>by simp only [List.map_cons,List.map_nil,List.sum_cons,List.sum_nil]; omega)
    refine ⟨_,rfl,?_⟩
    refine xP rfl rh rfl ?_
    refine OS.sub s7 ?_
    refine xN ?_
    exact ⟨rx,ry,ro,iv,P,⟨_,X,I2,M3,vs2,_,m,root,P,lx,ly,hti7,hcN,hM3 _ (hM2 _ hro),hg,hg,rfl,hio,(hlx.mono hM2).mono hM3,hly,by omega,by omega,fun p hp=>hM3 _ (hM2 _ (hLM p hp))⟩,rfl⟩
   have hb2':ieqB ((t.k.toNat:Nat):Int) 2=false:=by rw [ieqB_eq]; simp; omega
   repeat refine xQ ?_
   refine xG rfl ?_
   refine xP rfl (e_ib rh (hb2')) rfl ?_
   refine xP rfl rh rfl ?_
   refine xN ?_
   repeat refine xQ ?_
   refine xC rfl (fun hc=>?_) (fun hc=>?_)
   ·cases hc
   by_cases hk3:t.k.toNat=3
   ·have hb3:ieqB ((t.k.toNat:Nat):Int) 3=true:=by rw [hk3]; rfl
    repeat refine xQ ?_
    refine xG rfl ?_
    refine xP rfl (e_ib rh (hb3)) rfl ?_
    refine xP rfl rh rfl ?_
    refine xN ?_
    repeat refine xQ ?_
    refine xC rfl (fun hc=>?_) (fun hc=>?_)
    case refine_2=>cases hc
    repeat refine xQ ?_
    refine xG rfl ?_
    refine xP rfl rh rfl ?_
    refine xA noGo rfl (fun _=>rfl) ((tBack_ct hti.1 (in3 hro)).mono ?_)
    rintro u L4 ⟨w4,rfl,htr4⟩
    rw [hcc] at htr4
    have hti4:TI _ N I _ M X iv vs imgs _ L4:=⟨htr4,hti.2⟩
    refine ⟨_,rfl,?_⟩
    iterate 3 refine xP rfl rh rfl ?_
    refine xA noGo rfl (fun _=>rfl) ((tDirty_ct hti4.1 (hti4.memM _ hro) hg0).mono ?_)
    rintro u L' ⟨ks,cs,Y,D,hch,rfl,hv,hp⟩
    have hks:=chg_same hch
    subst hks
    have hv0:SV 2 (Y++(D++L4)) u 0 cs:=hv.sv.mono fun q hq=>List.mem_append_left _ hq
    refine ⟨_,rfl,?_⟩
    refine xP rfl (e_len hv0 rfl rfl rfl rfl rfl) rfl ?_
    refine OS.sub (Sub.suffix.trans Sub.suffix) ?_
    iterate 2 refine xP rfl rh rfl ?_
    refine xN ?_
    repeat refine xQ ?_
    refine xC rfl (fun hc2=>?_) (fun hc2=>?_)
    ·cases hc2
    refine LS.skip ?_
    repeat refine xQ ?_
    refine xG rfl ?_
    refine xP rfl rh rfl ?_
    refine xA noGo rfl (fun _=>rfl) ((rCopy_ti (rx:=rw) hti4 (by simp) hlw (by omega)).mono ?_)
    rintro u L6 ⟨ry,ly,M3,rfl,hM3,hti6,hly⟩
    obtain ⟨L7,hti7,s7⟩:=hti6.regroup (G':=[(ry,mRow ly),(rw,mRow lw)]) (Sub.sums2 [(rx,mRow lx)] fun f=>by simp only [List.map_cons,List.map_nil,List.sum_cons,List.sum_nil]; omega)
    refine ⟨_,rfl,?_⟩
    refine xP rfl rh rfl ?_
    refine OS.sub s7 ?_
    refine xN ?_
    exact ⟨ry,rw,ro,iv,P0,⟨_,X,I,M3,vs,imgs,c.m0,c.root0,P0,ly,lw,hti7,hcN,hM3 _ hro,hg0,hg0,rfl,him0,hly,hlw.mono hM3,by omega,by omega,fun p hp=>hM3 _ (hLM p hp)⟩,rfl⟩
   have hb3:ieqB ((t.k.toNat:Nat):Int) 3=false:=by rw [ieqB_eq]; simp; omega
   repeat refine xQ ?_
   refine xG rfl ?_
   refine xP rfl (e_ib rh (hb3)) rfl ?_
   refine xP rfl rh rfl ?_
   refine xN ?_
   repeat refine xQ ?_
   refine xC rfl (fun hc=>?_) (fun hc=>?_)
   ·cases hc
   by_cases hk4:t.k.toNat=4
   ·have hb4:ieqB ((t.k.toNat:Nat):Int) 4=true:=by rw [hk4]; rfl
    repeat refine xQ ?_
    refine xG rfl ?_
    refine xP rfl (e_ib rh (hb4)) rfl ?_
    refine xP rfl rh rfl ?_
    refine xN ?_
    repeat refine xQ ?_
    refine xC rfl (fun hc=>?_) (fun hc=>?_)
    case refine_2=>cases hc
    repeat refine xQ ?_
    refine xG rfl ?_
    refine xP rfl rh rfl ?_
    refine xA noGo rfl (fun _=>rfl) ((tUsed_ct hti.1 (hti.memM _ hro)).mono ?_)
    rintro uv L' ⟨Y3,rfl,hv3⟩
    obtain ⟨L7,hti7,s7⟩:=hti.add Y3
    refine ⟨_,rfl,?_⟩
    refine xP rfl rh rfl ?_
    refine OS.sub s7 ?_
    refine xN ?_
    rw [hcN] at hv3
    simp only at hv3
    have huv:SV 1 (Y3++M) uv (usedL N m).length (ints (usedL N m)):=hv3.sv.mono fun q hq=>List.mem_append_left _ hq
    have hMM:∀ p,p∈M->p∈Y3++M:=fun p hp=>List.mem_append_right _ hp
    generalize Y3++M=M7 at hti7 huv hMM
    repeat refine xQ ?_
    refine xG rfl ?_
    iterate 2 refine xP rfl rh rfl ?_
    refine xA noGo rfl (fun _=>rfl) ((tDirty_ct hti7.1 (hti7.memM _ (hMM _ hro)) hg).mono ?_)
    rintro u L' ⟨ks,cs,Y,D,hch,rfl,hv,hp⟩
    obtain ⟨hf1,hf2,hf3⟩:=dirty_fine hti7.1 hg hch
    rw [hcN] at hf2
    refine ⟨_,rfl,?_⟩
    refine xA noGo rfl (fun _=>rfl) ((over_tr hti7 hv hp hf1 hf2 (by omega) (by omega)).mono ?_)
    rintro u L4 ⟨rfl,I2,M2,vs2,hM2,hti2⟩
    have hio:=over_ok (N:=N) him0 hch hg.fits (fun q hq=>by have:=hti.1.dom q hq; omega) hti.2.2.1
    have hroB:=hM2 _ (hMM _ hro)
    refine ⟨_,rfl,?_⟩
    refine xP rfl rh rfl ?_
    refine xN ?_
    repeat refine xQ ?_
    refine xC rfl (fun hc2=>?_) (fun hc2=>?_)
    ·cases hc2
    refine LS.skip ?_
    repeat refine xQ ?_
    refine xG rfl ?_
    refine xP rfl rh rfl ?_
    refine xA noGo rfl (fun _=>rfl) ((tRoot_ct hti2.1 (hti2.memM _ hroB)).mono ?_)
    rintro u L' ⟨rfl,hLL⟩
    have hLL:=hLL.symm
    subst hLL
    refine ⟨_,rfl,?_⟩
    refine xP rfl rh rfl ?_
    refine xA noGo rfl (fun _=>rfl) ((open_tr hti2 hcN hg hio).mono ?_)
    rintro u LC ⟨ro2,c2,XC,rfl,hc2N,hcm,hcr,hccn,htrC⟩
    refine ⟨_,rfl,?_⟩
    iterate 5 refine xP rfl rh rfl ?_
    refine xN ?_
    have hroC:=htrC.memG (ro2,toRow c2.rt) (List.mem_cons_self ..)
    have hM2L:∀ p,p∈M2->p∈LC:=fun p hp=>htrC.memG p (List.mem_cons_of_mem _ (hti2.memM p hp))
    repeat refine xQ ?_
    refine xG rfl ?_
    iterate 4 refine xP rfl rh rfl ?_
    refine xA noGo rfl (fun _=>rfl) ((tUsed_ct htrC hroC).mono ?_)
    rintro u L' ⟨Y5,rfl,hv5⟩
    rw [hc2N] at hv5
    simp only at hv5
    refine ⟨_,rfl,?_⟩
    refine xP rfl rh rfl ?_
    refine xA noGo rfl (fun _=>rfl) ((Ints_ct (xs:=usedL N m) (hv5.sv.mono fun q hq=>List.mem_append_left _ hq) (huv.mono fun q hq=>List.mem_append_right _ (hM2L _ (hM2 _ hq))) (by have:=used_le (N:=N) (m:=m); omega)).mono ?_)
    rintro u L' ⟨rfl,rfl⟩
    refine ⟨_,rfl,?_⟩
    refine OS.sub Sub.suffix ?_
    iterate 4 refine xP rfl rh rfl ?_
    refine xA noGo rfl (fun _=>rfl) ((tFree_ct htrC hroC).mono ?_)
    rintro u L' ⟨rfl,hLL⟩
    have hLL:=hLL.symm
    subst hLL
    rw [hc2N]
    simp only
    refine ⟨_,rfl,?_⟩
    refine xP rfl rh rfl ?_
    refine xA noGo rfl (fun _=>rfl) ((free_old hti2.1 (in3 hroB) htrC).mono ?_)
    rintro u L' ⟨rfl,hLL⟩
    have hLL:=hLL.symm
    subst hLL
    rw [hcN]
    simp only
    refine ⟨_,rfl,?_⟩
    refine xP rfl (e_ib rh ((ne_same _))) rfl ?_
    iterate 3 refine xP rfl rh rfl ?_
    refine xA noGo rfl (fun _=>rfl) ((tDirty_ct htrC hroC hg).mono ?_)
    rintro u L' ⟨ks2,cs2,Y6,D6,hch2,rfl,hv6,hp6⟩
    rw [hcm] at hch2
    have hks:=chg_same hch2
    subst hks
    have hv0:SV 2 (Y6++(D6++LC)) u 0 cs2:=hv6.sv.mono fun q hq=>List.mem_append_left _ hq
    refine ⟨_,rfl,?_⟩
    refine xP rfl (e_len hv0 rfl rfl rfl rfl rfl) rfl ?_
    refine OS.sub (Sub.suffix.trans Sub.suffix) ?_
    iterate 2 refine xP rfl rh rfl ?_
    refine xN ?_
    repeat refine xQ ?_
    refine xC rfl (fun hc2=>?_) (fun hc2=>?_)
    ·cases hc2
    refine LS.skip ?_
    obtain ⟨LD,MD,htiD,sD,hMD,hroD⟩:=hti2.instead htrC
    repeat refine xQ ?_
    refine xG rfl ?_
    iterate 2 refine xP rfl rh rfl ?_
    refine OS.sub sD ?_
    refine xN ?_
    have hME:∀ p,p∈M->p∈MD:=fun p hp=>hMD _ (hM2 _ (hMM _ hp))
    repeat refine xQ ?_
    refine xG rfl ?_
    refine xP rfl rh rfl ?_
    refine xA noGo rfl (fun _=>rfl) ((rCopy_ti (rx:=rx) htiD (by simp) (hlx.mono hME) (by omega)).mono ?_)
    rintro u L6 ⟨ry,ly,M3,rfl,hM3,hti6,hly⟩
    obtain ⟨L8,hti8,s8⟩:=hti6.regroup (G':=[(rx,mRow lx),(ry,mRow ly)]) (Sub.sums2 [(rw,mRow lw)] fun f=>by simp only [List.map_cons,List.map_nil,List.sum_cons,List.sum_nil]; omega)
    refine ⟨_,rfl,?_⟩
    refine xP rfl rh rfl ?_
    refine OS.sub s8 ?_
    refine xN ?_
    exact ⟨rx,ry,ro2,iv,P,⟨c2,XC,I2,M3,vs2,_,m,root,P,lx,ly,hti8,hc2N,hM3 _ hroD,hg,by rw [hcm,hcr]; exact hg,hccn,by rw [hcm]; exact hio,(hlx.mono hME).mono hM3,hly,by omega,by omega,fun p hp=>hM3 _ (hME _ (hLM p hp))⟩,rfl⟩
   have hb4:ieqB ((t.k.toNat:Nat):Int) 4=false:=by rw [ieqB_eq]; simp; omega
   repeat refine xQ ?_
   refine xG rfl ?_
   refine xP rfl (e_ib rh (hb4)) rfl ?_
   refine xP rfl rh rfl ?_
   refine xN ?_
   repeat refine xQ ?_
   refine xC rfl (fun hc=>?_) (fun hc=>?_)
   ·cases hc
   refine LS.skip ?_
   exact ⟨rx,rw,ro,iv,P,⟨c,X,I,M,vs,imgs,m,root,P0,lx,lw,hti,hcN,hro,hg,hg0,hcc,him0,hlx,hlw,by omega,by omega,hLM⟩,rfl⟩
  clear hti hro hg hg0 hcc him0 hlx hlw hPb hP0b hLM hrs
  clear hcN
  rintro a' L' ⟨rx,rw,ro,iv,P,hPI,rfl⟩
  have hPI2:=hPI
  obtain ⟨c,X,I,M,vs,imgs,m,root,P0,lx,lw,hti,hcN,hro,hg,hg0,hcc,him0,hlx,hlw,hPb,hP0b,hLM⟩:=hPI
  have hrs:=hti.memM _ (hLM _ (List.mem_cons_self ..))
  have hrx:(rx,mRow lx)∈L':=hti.1.memG _ (by simp)
  have hlxs:=hlx.sv.mono hti.memM
  obtain ⟨va,vb,hgv⟩:∃ a b,getV P t.key=.tuple #[txt a,.bool b]:=by
   cases h:getP P t.key with
   | none=>exact ⟨_,_,getV_none' h⟩
   | some x=>exact ⟨_,_,getV_some' h⟩
  repeat refine xQ ?_
  refine xG rfl ?_
  iterate 2 refine xP rfl rh rfl ?_
  refine xR rfl (e_loadm hrs rfl rfl rfl rfl) rfl ?_
  refine xA noGo rfl (fun _=>rfl) ((tGet_ct (key:=t.key) hti.1 (hti.memM _ hro) hg rfl).mono ?_)
  rintro u L5 ⟨rfl,hLL⟩
  have hLL:=hLL.symm
  subst hLL
  rw [hgv]
  refine ⟨_,rfl,?_⟩
  iterate 5 refine xP rfl rh rfl ?_
  refine xN ?_
  repeat refine xQ ?_
  refine xG rfl ?_
  iterate 2 refine xP rfl rh rfl ?_
  refine xR rfl (e_loadm hrs rfl rfl rfl rfl) rfl ?_
  refine xA noGo rfl (fun _=>rfl) ((rGet_ct (key:=t.key) hrx hlxs (by omega)).mono ?_)
  rintro u L5 ⟨rfl,hLL⟩
  have hLL:=hLL.symm
  subst hLL
  rw [hgv]
  refine ⟨_,rfl,?_⟩
  iterate 5 refine xP rfl rh rfl ?_
  refine xN ?_
  have hne:(!ieqB ((frM N m+(usedL N m).length:Nat):Int) ((N:Nat):Int))=false:=by rw [used_frees]; exact ne_same _
  repeat refine xQ ?_
  refine LS.drawn noGo mixed [(0,false),(1,false),(2,false),(3,false),(4,false),(5,false),(6,false),(7,false),(8,false),(9,false),(11,false),(12,false),(13,false),(14,false),(15,false),(10,true),(16,false),(17,false),(18,false),(19,false),(21,false),(25,false),(20,true),(22,true),(23,false),(24,false),(26,false),(27,false)] rfl rfl (by kernel_rfl) ?_
  iterate 2 refine xD rfl rfl rh rfl ?_
  refine xD rfl rfl (e_ib rh ((ne_self'' va))) rfl ?_
  iterate 3 refine xD rfl rfl rh rfl ?_
  refine xD rfl rfl (e_ib rh ((ne_bool vb))) rfl ?_
  iterate 6 refine xD rfl rfl rh rfl ?_
  refine xE rfl rfl (e_loadm hrx rfl rfl rfl rfl) rfl ?_
  refine xD rfl rfl (e_len hlxs rfl rfl rfl rfl rfl) rfl ?_
  refine ODS.call rfl rfl (fun _=>rfl) ((tLen_ct hti.1 (hti.memM _ hro)).mono ?_)
  rintro u L5 ⟨rfl,hLL⟩
  have hLL:=hLL.symm
  subst hLL
  refine ⟨_,rfl,Keep.cons rfl (e_loadm hrx rfl rfl rfl rfl) Keep.nil,?_⟩
  refine xD rfl rfl (e_ib rh ((ne_same _))) rfl ?_
  iterate 5 refine xD rfl rfl rh rfl ?_
  refine ODS.call rfl rfl (fun _=>rfl) ((tFree_ct hti.1 (hti.memM _ hro)).mono ?_)
  rintro u L5 ⟨rfl,hLL⟩
  have hLL:=hLL.symm
  subst hLL
  refine ⟨_,rfl,(by repeat (first | exact Keep.nil | refine Keep.gone rfl ?_)),?_⟩
  refine ODS.call rfl rfl (fun _=>rfl) ((tUsed_ct hti.1 (hti.memM _ hro)).mono ?_)
  rintro uv L5 ⟨Y3,rfl,hv3⟩
  refine ⟨_,rfl,(by repeat (first | exact Keep.nil | refine Keep.gone rfl ?_)),?_⟩
  rw [hcN] at hv3 ⊢
  simp only at hv3 ⊢
  refine xD rfl rfl (e_len hv3.sv rfl rfl rfl rfl rfl) rfl ?_
  refine xD rfl rfl (e_addN (m:=frM N m) (n:=(usedL N m).length) rfl rfl rfl (in_i64 (by omega) (by have:=used_frees (N:=N) (m:=m); omega))) rfl ?_
  refine xD rfl rfl (e_ib rh (hne)) rfl ?_
  refine xD rfl rfl rh rfl ?_
  refine xM ?_
  repeat refine xQ ?_
  refine xC rfl (fun hc2=>?_) (fun hc2=>?_)
  ·cases hc2
  refine LS.skip ?_
  refine LS.sub Sub.suffix ?_
  repeat refine xQ ?_
  refine xG rfl ?_
  refine xP rfl rh rfl ?_
  refine xP rfl (e_addN (n:=1) rfl rfl rfl (in_i64 (by omega) (by omega))) rfl ?_
  refine xP rfl rh rfl ?_
  refine xN ?_
  exact ⟨ml - (i+1),by omega,i+1,rx,rw,ro,iv,P,rfl,by omega,hPI2.weak fun p hp=>List.mem_cons_of_mem _ hp,rfl⟩
 rintro a' L' ⟨rx,rw,ro,iv,P,hPI,rfl⟩
 obtain ⟨c,X,I,M,vs,imgs,m,root,P0,lx,lw,hti,hcN,hro,hg,hg0,hcc,him0,hlx,hlw,hPb,hP0b,hLM⟩:=hPI
 have hrx:(rx,mRow lx)∈L':=hti.1.memG _ (by simp)
 have hlxs:=hlx.sv.mono hti.memM
 have hrl:=rng_len (fr:=fr) (to:=to) (P:=P)
 repeat refine xQ ?_
 refine LS.drawn noGo mixed [(0,false),(3,false),(4,false),(5,false),(6,false),(1,true),(2,true),(7,true),(8,false),(9,false),(10,false),(11,false),(14,false),(15,false),(16,false),(12,true),(13,true),(17,true),(18,true),(19,false),(20,false)] rfl rfl (by kernel_rfl) ?_
 iterate 4 refine xD rfl rfl rh rfl ?_
 refine xE rfl rfl (e_loadm hrx rfl rfl rfl rfl) rfl ?_
 refine ODS.call rfl rfl (fun _=>rfl) ((tRange_ct (fr:=[]) (to:=[]) hti.1 (hti.memM _ hro) hg rfl (by omega)).mono ?_)
 rintro u L2 ⟨Y1,rfl,hv1⟩
 rw [rng_all] at hv1
 refine ⟨_,rfl,Keep.cons rfl (e_loadm (List.mem_append_right _ hrx) rfl rfl rfl rfl) Keep.nil,?_⟩
 refine ODS.call rfl rfl (fun _=>rfl) ((pairsL_ct (hv1.sv.mono fun q hq=>List.mem_append_left _ hq) (by omega)).mono ?_)
 rintro qv L2 ⟨Y2,rfl,hv2⟩
 refine ⟨_,rfl,Keep.cons rfl (e_loadm (List.mem_append_right _ (List.mem_append_right _ hrx)) rfl rfl rfl rfl) Keep.nil,?_⟩
 refine ODS.call rfl rfl (fun _=>rfl) ((Same_ct (hv2.sv.mono fun q hq=>List.mem_append_left _ hq) (hlxs.mono fun q hq=>List.mem_append_right _ (List.mem_append_right _ hq)) (by omega)).mono ?_)
 rintro u L2 ⟨rfl,rfl⟩
 refine ⟨_,rfl,(by repeat (first | exact Keep.nil | refine Keep.gone rfl ?_)),?_⟩
 refine ODS.sub (Sub.suffix.trans Sub.suffix) ?_
 iterate 7 refine xD rfl rfl rh rfl ?_
 refine ODS.call rfl rfl (fun _=>rfl) ((tRange_ct (fr:=fr) (to:=to) hti.1 (hti.memM _ hro) hg rfl (by omega)).mono ?_)
 rintro u L2 ⟨Y3,rfl,hv3⟩
 refine ⟨_,rfl,(by repeat (first | exact Keep.nil | refine Keep.gone rfl ?_)),?_⟩
 refine ODS.call rfl rfl (fun _=>rfl) ((pairsL_ct (hv3.sv.mono fun q hq=>List.mem_append_left _ hq) (by omega)).mono ?_)
 rintro qv L2 ⟨Y4,rfl,hv4⟩
 refine ⟨_,rfl,(by repeat (first | exact Keep.nil | refine Keep.gone rfl ?_)),?_⟩
 refine ODS.call rfl rfl (fun _=>rfl) ((rRange_ct (fr:=fr) (to:=to) (List.mem_append_right _ (List.mem_append_right _ hrx)) (hlxs.mono fun q hq=>List.mem_append_right _ (List.mem_append_right _ hq)) (by omega)).mono ?_)
 rintro rv L2 ⟨Y5,rfl,hv5⟩
 refine ⟨_,rfl,(by repeat (first | exact Keep.nil | refine Keep.gone rfl ?_)),?_⟩
 refine ODS.call rfl rfl (fun _=>rfl) ((Same_ct (hv4.sv.mono fun q hq=>List.mem_append_right _ (List.mem_append_left _ hq)) (hv5.sv.mono fun q hq=>List.mem_append_left _ hq) (by omega)).mono ?_)
 rintro u L2 ⟨rfl,rfl⟩
 refine ⟨_,rfl,(by repeat (first | exact Keep.nil | refine Keep.gone rfl ?_)),?_⟩
 iterate 2 refine xD rfl rfl rh rfl ?_
 refine xM ?_
 refine xT ⟨_,fun _ _=>rfl,?_⟩
 rfl
end Go.Proofs.YtlmmddfhoabjfaaGreat
end
