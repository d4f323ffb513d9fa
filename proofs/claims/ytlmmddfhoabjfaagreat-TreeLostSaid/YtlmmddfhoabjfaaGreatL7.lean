/- What the proofs lean on, part 7. -/
import Derived.Test.YtlmmddfhoabjfaaGreatL6
import Derived.WalkKit
import Derived.WalkSpells
import Derived.WalkLawsBesides
import Derived.Maps.AppendAt
import Derived.Deep.AppendLies
import Derived.Deep.Draws
import Derived.Deep.QuietTactic
import Derived.BigQuiet
import Derived.Laws.Rows
import Derived.OwnWalk
import Derived.Lib.Hide
import Derived.ProofKit
import Derived.OpenShut
import Derived.ShutString
import Derived.ChangeOld
import Derived.Deep.Slices
import Derived.Deep.Fields
import Derived.ChangeSame
import Derived.Lib.SmallJoins
import Derived.SizedLaws
import Derived.ChangeArms
set_option linter.unusedVariables false
set_option maxRecDepth 20000
section
namespace Go.Proofs.YtlmmddfhoabjfaaGreat
open Go.RowKit
theorem add_block (a:Addr) (n:Nat):(a.add n).block=a.block:=by unfold Addr.add; split <;> rfl
theorem cell_lt {w:World} {a:Addr} {v:Value} (h:w.cell? a=some v):a.block < w.heap.size:=by
 rcases Nat.lt_or_ge a.block w.heap.size with hl | hg
 ·exact hl
 ·simp [World.cell?,Array.getElem?_eq_none hg] at h
def byteV (b:UInt8):Value:=.int .u8 (b.toNat:Int)
end Go.Proofs.YtlmmddfhoabjfaaGreat
end
section
namespace Go.Proofs.YtlmmddfhoabjfaaGreat
open Go.ChangeShapes Go.WideShapes Go.ChangeAt Go.RowKit
theorem wf_u8 {n:Int} (h:(Lit.int .u8 n).wf=true):0<=n/\n < 256:=by
 have:=bounds_u8 h
 omega
section
variable {H:Type} {enc:TypeId × Value->H} {P:Program} {W:World} {r:Reach} {b0:Nat}
theorem mem_weightsAll {e:TypeId} {l:List (DataW H)} {d:DataW H} (h:d∈l) {m:Nat} (hm:m∈d.weights P e):m∈DataW.weightsAll P e l:=by
 induction l with
 | nil=>cases h
 | cons a r ih =>
  rw [DataW.weightsAll]
  rcases List.mem_cons.1 h with rfl | h
  ·exact List.mem_append_left _ hm
  ·exact List.mem_append_right _ (ih h)
end
end Go.Proofs.YtlmmddfhoabjfaaGreat
end
section
namespace Go.Proofs.YtlmmddfhoabjfaaGreat
open Go.Am
theorem ne_same (n:Int):(!ieqB n n)=false:=by rw [ieqB_eq]; simp
theorem prC_get:∀ {P:List Pr} {i:Nat} {p:Pr},P[i]?=some p->(prC P)[i * 2+0]?=some (txt p.1)/\(prC P)[i * 2+1]?=some (txt p.2)
 | [],i,p,h=>by simp at h
 | q::P,0,p,h=>by simp at h; subst h; exact ⟨rfl,rfl⟩
 | q::P,i+1,p,h=>by
  have:=prC_get (P:=P) (i:=i) (p:=p) (by simpa using h)
  have e:prC (q::P)=txt q.1::txt q.2::prC P:=rfl
  rw [e,show (i+1) * 2+0=(i * 2+0)+1+1 by omega,show (i+1) * 2+1=(i * 2+1)+1+1 by omega,List.getElem?_cons_succ,List.getElem?_cons_succ,List.getElem?_cons_succ,List.getElem?_cons_succ]
  exact this
end Go.Proofs.YtlmmddfhoabjfaaGreat
end
section
namespace Go.Proofs.YtlmmddfhoabjfaaGreat
open Go.Am
theorem good_00:GoodS m00 (-1) []:=.inl ⟨rfl,fun _=>rfl,rfl⟩
end Go.Proofs.YtlmmddfhoabjfaaGreat
end
section
namespace Go.Am
def easy:Value->Bool
 | .pointer (some ⟨_,_,none⟩)=>true
 | .map (some _)=>true
 | .slice (some ⟨_,_,none⟩) _ c=>!(Nat.beq c openCap)
 | v=>flat v
def allEasy:List Value->Bool
 | []=>true
 | v::vs=>easy v && allEasy vs
def easyRow:ARow->Bool
 | .cells _ cs=>allEasy cs
 | .map es _=>allEasy (es.map (·.key)) && allEasy (es.map (·.val))
 | _=>false
theorem allEasy_get:∀ {cs:List Value} {i:Nat} {v:Value},allEasy cs=true->cs[i]?=some v->easy v=true
 | [],i,v,_,h=>by simp at h
 | c::cs,0,v,h,e=>by
  simp only [allEasy,Bool.and_eq_true] at h
  simp at e; subst e; exact h.1
 | c::cs,i+1,v,h,e=>by
  simp only [allEasy,Bool.and_eq_true] at h
  exact allEasy_get h.2 (by simpa using e)
section
variable {P:Program} {ρ ρ₁:Env} {h hl h₁:AW} {w w₁:World}
theorem VRel.back {v u₀ u:Value} (he:easy v=true) (h0:VRel ρ v u₀) (le:ρ.le ρ₁) (h1:VRel ρ₁ v u):VRel ρ v u:=by
 cases h0 with
 | ptr hr =>
  cases h1 with
  | ptr hr1 =>
   have:=le _ _ hr
   rw [this] at hr1; simp only [Option.some.injEq] at hr1; subst hr1
   exact .ptr hr
 | map hr =>
  cases h1 with
  | map hr1 =>
   have:=le _ _ hr
   rw [this] at hr1; simp only [Option.some.injEq] at hr1; subst hr1
   exact .map hr
 | ptrNil=>cases h1; exact .ptrNil
 | mapNil=>cases h1; exact .mapNil
 | bool b=>cases h1; exact .bool b
 | int k n=>cases h1; exact .int k n
 | string s=>cases h1; exact .string s
 | sliceNil=>cases h1; exact .sliceNil
 | nilFunc=>cases h1; exact .nilFunc
 | nilIface=>cases h1; exact .nilIface
 | slice a0 b0 c0 =>
  simp only [easy,Bool.not_eq_true'] at he
  have hne:=of_beq_f he
  cases h1 with
  | slice a1 b1 c1 =>
   refine .slice a1 b1 fun hz=>?_
   obtain ⟨l,e1,e2,e3⟩:=c1 hz
   have k0:=b0 hne
   have k1:=b1 hne
   obtain ⟨l0,f1,_,_⟩:=c0 (by omega)
   have:=le _ _ f1
   rw [this] at e1; simp only [Option.some.injEq] at e1; subst e1
   exact ⟨l0,f1,e2,e3⟩
 | yield _=>simp [easy,flat] at he
 | func _ _ _=>simp [easy,flat] at he
 | iface _=>simp [easy,flat] at he
 | agg _=>simp [easy,flat] at he
 | tuple _=>simp [easy,flat] at he
 | any _=>simp [easy,flat] at he
theorem LRel.back:∀ {vs u₀ us:List Value},allEasy vs=true->LRel ρ vs u₀->ρ.le ρ₁->LRel ρ₁ vs us->LRel ρ vs us
 | [],_,_,_,_,_,.nil=>.nil
 | v::vs,_,_,h,.cons a b,le,.cons c d=>by
  simp only [allEasy,Bool.and_eq_true] at h
  exact .cons (VRel.back h.1 a le c) (LRel.back h.2 b le d)
theorem RowRel.back {l:Loc} {row:ARow} (he:easyRow row=true) (h0:RowRel P ρ w l row) (le:ρ.le ρ₁) (h1:RowRel P ρ₁ w₁ l row):RowRel P ρ w₁ l row:=by
 cases row with
 | cells e cs =>
  obtain ⟨C,f,a1,a2,a3,a4,a5,a6⟩:=h1
  obtain ⟨_,_,_,_,_,_,_,b6⟩:=h0
  refine ⟨C,f,a1,a2,a3,a4,a5,fun i v hv=>?_⟩
  obtain ⟨u,hu,hr⟩:=a6 i v hv
  obtain ⟨u0,_,hr0⟩:=b6 i v hv
  exact ⟨u,hu,hr0.back (allEasy_get he hv) le hr⟩
 | map es clock =>
  simp only [easyRow,Bool.and_eq_true] at he
  obtain ⟨es',a1,a2,a3,a4⟩:=h1
  obtain ⟨es0,_,b2,b3,_⟩:=h0
  exact ⟨es',a1,b2.back he.1 le a2,b3.back he.2 le a3,a4⟩
 | text s pos=>cases he
 | ro cs=>cases he
 | iter m since seen last=>cases he
 | loop p=>cases he
theorem rows_of (n s:Nat):∀ (L:RL),(L.map (·.1)).Nodup->∃ hl:AW,hl.next=n/\hl.step=s/\∀ m row,hl.get m=some row↔(m,row)∈L
 | [],_=>⟨⟨.nil,n,s⟩,rfl,rfl,fun m row=>by simp [AW.get,Tr.get]⟩
 | (r,x)::L,hn=>by
  rw [List.map_cons,List.nodup_cons] at hn
  obtain ⟨hl,h1,h2,h3⟩:=rows_of n s L hn.2
  obtain ⟨h',e⟩:=hl.put_some r (some x)
  obtain ⟨hg,hnx,hst⟩:=put_eq e
  refine ⟨h',hnx.trans h1,hst.trans h2,fun m row=>?_⟩
  rw [hg]
  by_cases hm:m=r
  ·subst hm
   rw [if_pos rfl]
   constructor
   ·intro hh; cases hh; exact List.mem_cons_self ..
   ·intro hh
    rcases List.mem_cons.1 hh with hh | hh
    ·cases hh; rfl
    ·exact absurd (List.mem_map.2 ⟨_,hh,rfl⟩) hn.1
  ·rw [if_neg hm,h3]
   constructor
   ·exact fun hh=>List.mem_cons_of_mem _ hh
   ·intro hh
    rcases List.mem_cons.1 hh with hh | hh
    ·cases hh; exact absurd rfl hm
    ·exact hh
theorem far_next (n s:Nat) (hs:0 < s):∀ (L:RL),∃ K,∀ p,p∈L->p.1 < n+s * K
 | []=>⟨0,fun p hp=>(by cases hp)⟩
 | p::L=>by
  obtain ⟨K,hK⟩:=far_next n s hs L
  refine ⟨K+p.1+1,fun q hq=>?_⟩
  have h1:K+p.1+1<=s * (K+p.1+1):=Nat.le_mul_of_pos_left _ hs
  have h2:s * K<=s * (K+p.1+1):=Nat.mul_le_mul_left _ (by omega)
  rcases List.mem_cons.1 hq with rfl | hq
  ·omega
  ·have:=hK q hq; omega
structure LocalRun (P:Program) (ρ:Env) (h:AW) (w:World) (Ll Rest:RL) (ρ₁:Env) (h₁:AW) (w₁:World):Prop where
 hr:HRel P ρ₁ h₁ w₁
 le:ρ.le ρ₁
 os:w₁.os=w.os
 tape:w₁.tape=w.tape
 output:w₁.output=w.output
 size:w.heap.size<=w₁.heap.size
 keep:∀ k,k < w.heap.size->(∀ r row l,(r,row)∈Ll->row.own=true->ρ r=some l->l.block≠k)->w₁.heap[k]?=w.heap[k]?
 own:∀ r row l,h₁.get r=some row->row.own=true->ρ₁ r=some l->l.block < w.heap.size->∃ r₀ row₀ l₀,(r₀,row₀)∈Ll/\row₀.own=true/\ρ r₀=some l₀/\l₀.block=l.block
 rest:∀ p,p∈Rest->h₁.get p.1=some p.2
theorem CS.localRun {f:FuncId} {args us:List Value} {Ll Rest:RL} {R:Value->RL->Prop} (c:CS P f args Ll R) (hn:(Ll.map (·.1)).Nodup) (hL:∀ p,p∈Ll->h.get p.1=some p.2) (hR:∀ v L',R v L'->∀ p,p∈Rest->p∈L') (hus:LRel ρ args us) (H:HRel P ρ h w) :
  (∃ fn c,P.funcs[f]?=some fn/\fn.body=some c)/\Calls P f ⟨us⟩ w fun e w'=>∃ v L₁ u ρ₁ h₁,e=.returned u/\R v L₁/\VRel ρ₁ v u/\Has h₁ L₁/\LocalRun P ρ h w Ll Rest ρ₁ h₁ w':=by
 obtain ⟨K,hK⟩:=far_next h.next h.step H.step Ll
 obtain ⟨hl,n1,n2,n3⟩:=rows_of (h.next+h.step * K) h.step Ll hn
 have Hl:Has hl Ll:=⟨fun p hp=>(n3 p.1 p.2).2 hp,hn,fun p hp=>by rw [n1]; exact hK p hp,by rw [n2]; exact H.step⟩
 have HRl:HRel P ρ hl w:=by
  have sub:∀ m row,hl.get m=some row->h.get m=some row:=fun m row hm=>hL _ ((n3 m row).1 hm)
  refine ⟨fun r row hr=>H.loc r row (sub _ _ hr),fun a b x y la lb ha hb=>H.inj a b x y la lb (sub _ _ ha) (sub _ _ hb),fun j=>?_,by rw [n2]; exact H.step⟩
  rw [n1,n2]
  have:=H.fresh (K+j)
  rwa [Nat.mul_add,← Nat.add_assoc] at this
 have cq:=c hl Hl
 refine ⟨cq.1,(cq.2 ρ us w hus HRl).mono ?_⟩
 rintro e w' ⟨v,h₁,u,ρ₁,e1,⟨L₁,hr,H₁⟩,e3,e4,T⟩
 refine ⟨v,L₁,u,ρ₁,h₁,e1,hr,e3,H₁,e4,T.le,T.os,T.tape,T.output,T.size,fun k hk hno=>T.keep k hk fun r row l hr' ho hl'=>hno r row l ((n3 r row).1 hr') ho hl',fun r row l hr' ho hl' hlt=>?_,fun p hp=>H₁.get p (hR v L₁ hr p hp)⟩
 obtain ⟨r₀,row₀,l₀,a,b,c,d⟩:=T.own r row l hr' ho hl' hlt
 exact ⟨r₀,row₀,l₀,(n3 _ _).1 a,b,c,d⟩
variable {Ll Rest:RL} {D:List Nat}
theorem LocalRun.still (T:LocalRun P ρ h w Ll Rest ρ₁ h₁ w₁) (H:HRel P ρ h w) (hL:∀ p,p∈Ll->h.get p.1=some p.2) (hD:∀ p,p∈Ll->p.1∈D∨p∈Rest) (he:∀ p,p∈Rest->easyRow p.2=true) (hRL:∀ p,p∈Rest->p∈Ll) {m:Nat} {row:ARow} (hm:h.get m=some row) (hmD:m ∉ D):∃ l,ρ m=some l/\RowRel P ρ w l row/\RowRel P ρ w₁ l row:=by
 obtain ⟨l,hl,hr⟩:=H.loc m row hm
 refine ⟨l,hl,hr,?_⟩
 by_cases hin:∃ x,(m,x)∈Ll
 ·obtain ⟨x,hx⟩:=hin
  have hxe:x=row:=by have:=hL _ hx; simp only at this; rw [hm] at this; simpa using this.symm
  subst hxe
  rcases hD _ hx with h1 | h1
  ·exact absurd h1 hmD
  ·have h2:=T.rest _ h1
   obtain ⟨l',hl',hr'⟩:=T.hr.loc m x h2
   have:=T.le _ _ hl
   rw [this] at hl'; simp only [Option.some.injEq] at hl'; subst hl'
   exact hr.back (he _ h1) T.le hr'
 ·refine hr.keep (Env.le_refl _) (T.keep _ hr.lt fun r x l' hx ho hl' hh=>?_)
  have:=H.inj r m x row l' l (hL _ hx) hm hl' hl hh (.inl ho)
  subst this
  exact hin ⟨x,hx⟩
theorem LocalRun.flat (T:LocalRun P ρ h w Ll Rest ρ₁ h₁ w₁) (H:HRel P ρ h w) (hL:∀ p,p∈Ll->h.get p.1=some p.2) (hD:∀ p,p∈Ll->p∈Rest) (he:∀ p,p∈Rest->easyRow p.2=true) (hRL:∀ p,p∈Rest->p∈Ll):HRel P ρ h w₁/\Turn ρ h w ρ h w₁:=by
 refine ⟨⟨fun m row hm=>?_,H.inj,H.fresh,H.step⟩,⟨Env.le_refl _,T.os,T.tape,T.output,T.size,fun r row l a b c _=>⟨r,row,l,a,b,c,rfl⟩,fun k hk hno=>T.keep k hk fun r row l hr ho hl=>hno r row l (hL _ hr) ho hl,fun r l e=>.inl e,⟨0,by simp⟩,rfl⟩⟩
 obtain ⟨l,a,_,b⟩:=T.still (D:=[]) H hL (fun p hp=>.inr (hD p hp)) he hRL hm (by simp)
 exact ⟨l,a,b⟩
theorem LocalRun.list {r' n cap sz:Nat} {e:TypeId} {cs J:List Value} {u:Value} {h0 h':AW} {q:Nat} (T:LocalRun P ρ h w Ll Rest ρ₁ h₁ w₁) (H:HRel P ρ h w) (hL:∀ p,p∈Ll->h.get p.1=some p.2) (hD:∀ p,p∈Ll->p.1∈D∨p∈Rest) (he:∀ p,p∈Rest->easyRow p.2=true) (hRL:∀ p,p∈Rest->p∈Ll)
  (hr':h₁.get r'=some (.cells e (cs++J))) (hne:∀ p,p∈Rest->p.1≠r') (hu:VRel ρ₁ (.slice (some ⟨r',0,none⟩) n cap) u) (hs:sizeB P e=some sz) (hl:cs.length=n * sz) (hcap:cap=openCap∨cap < openCap/\cap * sz<=(cs++J).length) (hf:allFlat cs=true)
  (h0g:∀ m,h0.get m=if m∈D then none else h.get m) (h0n:h0.next=h.next) (h0s:h0.step=h.step) (hnew:h0.new (.cells e cs)=some (q,h')) :
  ∃ ρ',VRel ρ' (.slice (some ⟨q,0,none⟩) n openCap) u/\HRel P ρ' h' w₁/\Turn ρ h w ρ' h' w₁:=by
 obtain ⟨l1,hl1,C,f,a1,a2,a3,a4,a5,a6⟩:=T.hr.loc r' _ hr'
 obtain ⟨hq,hg,hn,hst⟩:=new_eq hnew
 rw [h0n] at hq hn
 rw [h0s] at hn hst
 have hesz:l1.esz=sz:=by have:=a5.size; rw [hs] at this; simpa using this.symm
 have hnone:ρ q=none:=by rw [hq]; exact H.fresh0
 have le:=upd_le (l:=l1) hnone
 have hflat:∀ (cs:List Value) (i:Nat) (v:Value),allFlat cs=true->cs[i]?=some v->Am.flat v=true:=by
  intro cs
  induction cs with
  | nil=>intro i v _ hv; simp at hv
  | cons x xs ih =>
   intro i v hf hv
   simp only [allFlat] at hf
   split at hf
   ·rename_i hx
    cases i with
    | zero=>simp at hv; subst hv; exact hx
    | succ i=>simp at hv; exact ih i v hf hv
   ·cases hf
 have old:∀ m row,h'.get m=some row->m≠q->h.get m=some row/\m ∉ D:=fun m row hm hmq=>by
  rw [hg,if_neg hmq,h0g] at hm
  split at hm
  ·cases hm
  ·exact ⟨hm,by assumption⟩
 have apart:∀ m row lm,h.get m=some row->m ∉ D->ρ m=some lm->lm.block≠l1.block:=fun m row lm hm hmD hlm hh=>by
  obtain ⟨l0,e0,e1,e2⟩:=T.still H hL hD he hRL hm hmD
  rw [hlm] at e0; simp only [Option.some.injEq] at e0; subst e0
  have hlt:lm.block < w.heap.size:=e1.lt
  obtain ⟨r₀,row₀,l₀,b1,b2,b3,b4⟩:=T.own r' _ l1 hr' rfl hl1 (by rw [← hh]; exact hlt)
  have:=H.inj r₀ m row₀ row l₀ lm (hL _ b1) hm b3 hlm (by rw [b4,hh]) (.inl b2)
  subst this
  rcases hD _ b1 with h1 | h1
  ·exact hmD h1
  ·have h2:=T.rest _ h1
   have:=T.hr.inj r₀ r' _ _ lm l1 h2 hr' (T.le _ _ hlm) hl1 hh (.inr rfl)
   exact hne _ h1 this
 refine ⟨upd ρ q l1,?_,⟨fun m row hm=>?_,fun a b rowa rowb la lb ha hb hla hlb hab hown=>?_,fun j=>?_,by rw [hst]; exact H.step⟩,⟨le,T.os,T.tape,T.output,T.size,fun m row lm hm hmo hlm hlt=>?_,fun k hk hno=>T.keep k hk fun r row l hr ho hl=>hno r row l (hL _ hr) ho hl,fun r l hr=>?_,⟨1,by rw [hn]; omega⟩,hst⟩⟩
 ·cases hu with
  | @slice _ _ _ _ cap' ad p1 p2 p3 =>
   refine .slice p1 (fun hh=>absurd rfl hh) fun hz=>?_
   obtain ⟨l,c1,c2,c3⟩:=p3 hz
   rw [hl1] at c1; simp only [Option.some.injEq] at c1; subst c1
   refine ⟨l1,by simp [upd],c2,fun _=>?_⟩
   rcases hcap with rfl | ⟨h1,h2⟩
   ·exact c3 rfl
   ·have:=p2 (by omega)
    subst this
    rw [hesz]
    exact ⟨by omega,h1⟩
 ·by_cases hmq:m=q
  ·subst hmq
   rw [hg,if_pos rfl] at hm
   simp only [Option.some.injEq] at hm; subst hm
   refine ⟨l1,by simp [upd],C,f,a1,a2,by simp at a3; omega,a4,a5,fun i v hv=>?_⟩
   obtain ⟨u',hu',hvr⟩:=a6 i v (by rw [List.getElem?_append_left (List.getElem?_eq_some_iff.1 hv).1]; exact hv)
   have hvf:=hflat cs i v hf hv
   have:=hvr.flat_eq hvf
   subst this
   exact ⟨_,hu',.of_flat hvf⟩
  ·obtain ⟨hm',hmD⟩:=old m row hm hmq
   obtain ⟨l,e0,e1,e2⟩:=T.still H hL hD he hRL hm' hmD
   exact ⟨l,le _ _ e0,e2.keep le rfl⟩
 ·unfold upd at hla hlb
  by_cases h1:a=q
  ·by_cases h2:b=q
   ·rw [h1,h2]
   ·rw [if_pos h1] at hla; rw [if_neg h2] at hlb
    simp only [Option.some.injEq] at hla; subst hla
    obtain ⟨hb',hbD⟩:=old b rowb hb h2
    exact absurd hab.symm (apart b rowb lb hb' hbD hlb)
  ·by_cases h2:b=q
   ·rw [if_neg h1] at hla; rw [if_pos h2] at hlb
    simp only [Option.some.injEq] at hlb; subst hlb
    obtain ⟨ha',haD⟩:=old a rowa ha h1
    exact absurd hab (apart a rowa la ha' haD hla)
   ·rw [if_neg h1] at hla; rw [if_neg h2] at hlb
    exact H.inj a b _ _ la lb (old a rowa ha h1).1 (old b rowb hb h2).1 hla hlb hab hown
 ·rw [hn,hst]
  unfold upd
  have hp:=H.step
  have:=H.fresh (j+1)
  rw [Nat.mul_add,Nat.mul_one,Nat.add_comm (h.step * j),← Nat.add_assoc] at this
  rw [if_neg (by rw [hq]; have:=Nat.zero_le (h.step * j); omega)]
  exact this
 ·by_cases hmq:m=q
  ·subst hmq
   simp only [upd,if_true,Option.some.injEq] at hlm
   subst hlm
   obtain ⟨r₀,row₀,l₀,b1,b2,b3,b4⟩:=T.own r' _ l1 hr' rfl hl1 hlt
   exact ⟨r₀,row₀,l₀,hL _ b1,b2,b3,b4⟩
  ·unfold upd at hlm
   rw [if_neg hmq] at hlm
   exact ⟨m,row,lm,(old m row hm hmq).1,hmo,hlm,rfl⟩
 ·unfold upd at hr
  split at hr
  ·subst_vars; exact .inr ⟨0,by simp⟩
  ·exact .inl hr
end
end Go.Am
end
section
namespace Go.Am
def insO:List Value->Nat->Value->Option (List Value)
 | xs,0,x=>some (x::xs)
 | [],_+1,_=>none
 | y::ys,n+1,x=>match insO ys n x with
  | some zs=>some (y::zs)
  | none=>none
theorem insO_eq:∀ {xs zs:List Value} {n:Nat} {x:Value},insO xs n x=some zs->n<=xs.length/\zs=insL xs n x
 | xs,zs,0,x,h=>by
  have:insO xs 0 x=some (x::xs):=by cases xs <;> rfl
  rw [this] at h; simp only [Option.some.injEq] at h; subst h
  exact ⟨Nat.zero_le _,rfl⟩
 | [],zs,n+1,x,h=>by cases h
 | y::ys,zs,n+1,x,h=>by
  simp only [insO] at h
  split at h
  ·rename_i us e
   simp only [Option.some.injEq] at h; subst h
   obtain ⟨h1,h2⟩:=insO_eq e
   exact ⟨by simp; omega,by rw [h2]; rfl⟩
  ·cases h
def erO:List Value->Nat->Option (List Value)
 | [],_=>none
 | _::ys,0=>some ys
 | y::ys,n+1=>match erO ys n with
  | some zs=>some (y::zs)
  | none=>none
theorem erO_eq:∀ {xs zs:List Value} {n:Nat},erO xs n=some zs->n < xs.length/\zs=xs.eraseIdx n
 | [],zs,n,h=>by cases h
 | y::ys,zs,0,h=>by simp only [erO,Option.some.injEq] at h; subst h; exact ⟨by simp,rfl⟩
 | y::ys,zs,n+1,h=>by
  simp only [erO] at h
  split at h
  ·rename_i us e
   simp only [Option.some.injEq] at h; subst h
   obtain ⟨h1,h2⟩:=erO_eq e
   exact ⟨by simp; omega,by rw [h2]; rfl⟩
  ·cases h
def anewB (h:AW) (r:Nat) (e:TypeId) (cs:List Value) (n:Nat):Option (Value × AW) :=
 match h.put r none,fn n with
 | some h0,some m=>match h0.new (.cells e cs) with
  | some (q,h')=>some (.slice (some ⟨q,0,none⟩) m openCap,h')
  | none=>none
 | _,_=>none
def insK (e:TypeId) (args:List Value) (h:AW):Option (Value × AW) :=
 match args with
 | [.slice (some ⟨r,0,none⟩) n c,.int .i64 z,.slice (some ⟨rv,0,none⟩) 1 1] =>
  match getRow h r,getRow h rv with
  | some (e1,cs),some (e2,[x]) =>
   match ((Nat.beq e1 e && Nat.beq e2 e) && (!(Nat.beq r rv) && (Nat.beq c openCap && ileB 0 z))) && ((Nat.beq cs.length n && Nat.ble n 1000) && (allFlat cs && flat x)),insO cs z.toNat x with
   | true,some cs'=>anewB h r e cs' (n+1)
   | _,_=>none
  | _,_=>none
 | _=>none
def delK (e:TypeId) (args:List Value) (h:AW):Option (Value × AW) :=
 match args with
 | [.slice (some ⟨r,0,none⟩) n c,.int .i64 z,.int .i64 z2] =>
  match getRow h r with
  | some (e1,cs) =>
   match (Nat.beq e1 e && (Nat.beq c openCap && ileB 0 z)) && ((Nat.beq cs.length n && Nat.ble n 1000) && (allFlat cs && ieqB z2 (z+1))),erO cs z.toNat with
   | true,some cs'=>anewB h r e cs' (n - 1)
   | _,_=>none
  | _=>none
 | _=>none
theorem flat_one {x:Value} (h:flat x=true):oneB x=true:=by cases x <;> first | rfl | (simp [flat] at h)
theorem allFlat_one:∀ {cs:List Value},allFlat cs=true->allOne cs=true
 | [],_=>rfl
 | c::cs,h=>by
  simp only [allFlat] at h
  split at h
  ·rename_i hc
   simp only [allOne,flat_one hc]; exact allFlat_one h
  ·cases h
theorem allFlat_iff {cs:List Value}:allFlat cs=true↔∀ c∈cs,flat c=true:=by
 induction cs with
 | nil=>simp [allFlat]
 | cons c cs ih =>
  simp only [allFlat,List.mem_cons,forall_eq_or_imp]
  cases hc:flat c with
  | true=>simp [ih]
  | false=>simp
theorem ins_flat {cs:List Value} {n:Nat} {x:Value} (h:allFlat cs=true) (hx:flat x=true):allFlat (insL cs n x)=true:=by
 rw [allFlat_iff] at h ⊢
 intro c hc
 unfold insL at hc
 rcases List.mem_append.1 hc with hc | hc
 ·exact h c (List.mem_of_mem_take hc)
 ·rcases List.mem_cons.1 hc with rfl | hc
  ·exact hx
  ·exact h c (List.mem_of_mem_drop hc)
theorem er_flat {cs:List Value} {n:Nat} (h:allFlat cs=true):allFlat (cs.eraseIdx n)=true:=by
 rw [allFlat_iff] at h ⊢
 exact fun c hc=>h c (List.mem_of_mem_eraseIdx hc)
theorem allFlat_easy:∀ {cs:List Value},allFlat cs=true->allEasy cs=true
 | [],_=>rfl
 | c::cs,h=>by
  simp only [allFlat] at h
  split at h
  ·rename_i hc
   simp only [allEasy,Bool.and_eq_true]
   refine ⟨?_,allFlat_easy h⟩
   cases c with
   | pointer a=>cases a with
    | none=>exact hc
    | some a=>simp [flat] at hc
   | map a=>cases a with
    | none=>exact hc
    | some a=>simp [flat] at hc
   | slice a n c=>cases a with
    | none=>exact hc
    | some a=>simp [flat] at hc
   | _=>exact hc
  ·cases h
theorem easy_flat {c:Value} (hc:flat c=true):easy c=true:=by
 have:=allFlat_easy (cs:=[c]) (by simp only [allFlat,hc])
 simpa [allEasy] using this
theorem CS.isFn {P:Program} {f:FuncId} {args:List Value} {L:RL} {R:Value->RL->Prop} (c:CS P f args L R) (hn:(L.map (·.1)).Nodup):∃ fn c,P.funcs[f]?=some fn/\fn.body=some c:=by
 obtain ⟨K,hK⟩:=far_next 0 1 (by omega) L
 obtain ⟨hl,n1,n2,n3⟩:=rows_of (0+1 * K) 1 L hn
 exact (c hl ⟨fun p hp=>(n3 p.1 p.2).2 hp,hn,fun p hp=>by rw [n1]; exact hK p hp,by rw [n2]; omega⟩).1
theorem known_list {P:Program} {f:FuncId} {args:List Value} {h h':AW} {v:Value} {r n sz:Nat} {e:TypeId} {cs:List Value} {row:ARow} {Rest:RL} (hr:h.get r=some row) (hrest:∀ p,p∈Rest->h.get p.1=some p.2) (hnd:(((r,row)::Rest).map (·.1)).Nodup) (he:∀ p,p∈Rest->easyRow p.2=true)
  (c:CS P f args ([(r,row)]++Rest) fun u L'=>∃ Y',L'=Y'++Rest/\OW e sz u n cs Y') (hs:sizeB P e=some sz) (hf:allFlat cs=true) (k:anewB h r e cs n=some (v,h')) :
  (∃ fn c,P.funcs[f]?=some fn/\fn.body=some c)/\∀ ρ us w,LRel ρ args us->HRel P ρ h w->Calls P f ⟨us⟩ w fun e w'=>∃ u ρ',e=.returned u/\VRel ρ' v u/\HRel P ρ' h' w'/\Turn ρ h w ρ' h' w':=by
 unfold anewB at k
 split at k
 case h_2=>cases k
 rename_i h0 m hp hm
 have hm:=fn_eq hm
 subst hm
 split at k
 case h_2=>cases k
 rename_i q h₂ hnew
 simp only [Option.some.injEq,Prod.mk.injEq] at k
 obtain ⟨rfl,rfl⟩:=k
 obtain ⟨hg,hn,hst⟩:=put_eq hp
 have hL:∀ p,p∈(r,row)::Rest->h.get p.1=some p.2:=fun p hp=>by
  rcases List.mem_cons.1 hp with rfl | hp
  ·exact hr
  ·exact hrest p hp
 have hR:∀ v L',(∃ Y',L'=Y'++Rest/\OW e sz v m cs Y')->∀ p,p∈Rest->p∈L':=fun v L' ⟨Y',hY,_⟩ p hp=>by rw [hY]; exact List.mem_append_right _ hp
 refine ⟨?_,fun ρ us w hus H=>?_⟩
 ·exact c.isFn hnd
 ·refine (CS.localRun (Rest:=Rest) c hnd hL hR hus H).2.mono ?_
  rintro en w' ⟨u,L₁,x,ρ₁,h₁,rfl,⟨Y',rfl,r',cap,J,rfl,hl,rfl,hnc,hcap⟩,hv,H₁,T⟩
  have hr':h₁.get r'=some (.cells e (cs++J)):=H₁.get (r',_) (by simp)
  have hne:∀ p,p∈Rest->p.1≠r':=fun p hp hh=>by
   have:=H₁.nd
   simp only [List.singleton_append,List.map_cons,List.nodup_cons] at this
   exact this.1 (List.mem_map.2 ⟨p,hp,hh⟩)
  obtain ⟨ρ',a,b,c⟩:=T.list (D:=[r]) H hL (fun p hp=>by
   rcases List.mem_cons.1 hp with rfl | hp
   ·exact .inl (by simp)
   ·exact .inr hp) he (fun p hp=>List.mem_cons_of_mem _ hp) hr' hne hv hs hl hcap hf (fun m=>by rw [hg]; simp) hn hst hnew
  exact ⟨x,ρ',rfl,a,b,c⟩
theorem known_new {P:Program} {f:FuncId} {args:List Value} {h h':AW} {n sz q:Nat} {e:TypeId} {cs:List Value} {Rest:RL} (hrest:∀ p,p∈Rest->h.get p.1=some p.2) (hnd:(Rest.map (·.1)).Nodup) (he:∀ p,p∈Rest->easyRow p.2=true)
  (c:CS P f args Rest fun u L'=>∃ Y',L'=Y'++Rest/\OW e sz u n cs Y') (hs:sizeB P e=some sz) (hf:allFlat cs=true) (k:h.new (.cells e cs)=some (q,h')) :
  (∃ fn c,P.funcs[f]?=some fn/\fn.body=some c)/\∀ ρ us w,LRel ρ args us->HRel P ρ h w->Calls P f ⟨us⟩ w fun e w'=>∃ u ρ',e=.returned u/\VRel ρ' (.slice (some ⟨q,0,none⟩) n openCap) u/\HRel P ρ' h' w'/\Turn ρ h w ρ' h' w':=by
 have hR:∀ v L',(∃ Y',L'=Y'++Rest/\OW e sz v n cs Y')->∀ p,p∈Rest->p∈L':=fun v L' ⟨Y',hY,_⟩ p hp=>by rw [hY]; exact List.mem_append_right _ hp
 refine ⟨c.isFn hnd,fun ρ us w hus H=>?_⟩
 refine (CS.localRun (Rest:=Rest) c hnd hrest hR hus H).2.mono ?_
 rintro en w' ⟨u,L₁,x,ρ₁,h₁,rfl,⟨Y',rfl,r',cap,J,rfl,hl,rfl,hnc,hcap⟩,hv,H₁,T⟩
 have hr':h₁.get r'=some (.cells e (cs++J)):=H₁.get (r',_) (by simp)
 have hne:∀ p,p∈Rest->p.1≠r':=fun p hp hh=>by
  have:=H₁.nd
  simp only [List.singleton_append,List.map_cons,List.nodup_cons] at this
  exact this.1 (List.mem_map.2 ⟨p,hp,hh⟩)
 obtain ⟨ρ',a,b,c⟩:=T.list (D:=[]) (h0:=h) H hrest (fun p hp=>.inr hp) he (fun p hp=>hp) hr' hne hv hs hl hcap hf (fun m=>by simp) rfl rfl k
 exact ⟨x,ρ',rfl,a,b,c⟩
def cellsEq:List Value->List UInt8->Bool
 | [],[]=>true
 | .int .u8 z::xs,b::bs=>ieqB z (b.toNat:Int) && cellsEq xs bs
 | _,_=>false
theorem cellsEq_eq:∀ {cs:List Value} {bs:List UInt8},cellsEq cs bs=true->cs=byteCells bs
 | [],[],_=>rfl
 | [],b::bs,h=>by cases h
 | c::cs,[],h=>by
  unfold cellsEq at h
  split at h <;> first | cases h | (rename_i h1 h2; cases h2) | skip
  all_goals simp_all
 | c::cs,b::bs,h=>by
  cases c <;> first | (simp [cellsEq] at h; done) | skip
  rename_i k z
  cases k <;> first | (simp [cellsEq] at h; done) | skip
  simp only [cellsEq,Bool.and_eq_true] at h
  have h1:z=(b.toNat:Int):=by have:=h.1; rw [ieqB_eq] at this; simpa using this
  rw [h1,cellsEq_eq h.2]; rfl
def bitsK (cs:List Value) (n:Nat):List Bool:=(List.range n).map fun i=>match (cs[i / 8]?:Option Value) with
 | some (.int .u8 z)=>z.toNat.testBit (i % 8)
 | _=>false
def sortK (mt:TypeId) (f1:FuncId) (it:TypeId) (args:List Value) (h:AW):Option (Value × AW) :=
 match args with
 | [.func (.func f2) a b] =>
  match a.toList,b.toList,Nat.beq f1 f2 with
  | [],[.pointer (some ⟨rb,0,none⟩)],true=>match getRow h rb with
   | some (e,[.map (some rm)])=>match Nat.beq e mt,h.get rm with
    | true,some (.map [] _)=>some (.slice none 0 0,h)
    | true,some (.map [⟨.int .i64 (.ofNat k),v,b⟩] ck)=>match easy v && (Nat.ble (b+1) ck && !(Nat.beq rb rm)) with
     | true=>match h.new (.cells it [.int .i64 (.ofNat k)]) with
      | some (q,h')=>some (.slice (some ⟨q,0,none⟩) 1 openCap,h')
      | none=>none
     | false=>none
    | _,_=>none
   | _=>none
  | _,_,_=>none
 | _=>none
end Go.Am
namespace Go.Proofs.YtlmmddfhoabjfaaGreat
open Go.Am
def listK (ft it:TypeId) (args:List Value) (h:AW):Option (Value × AW) :=
 match args with
 | [.pointer (some ⟨rm,0,none⟩)]=>match getRow h rm with
  | some (e,[.int .i64 (.ofNat n),.slice (some ⟨rb,0,none⟩) m c])=>match getRow h rb with
   | some (e2,cs)=>match (Nat.beq e ft && (Nat.beq e2 5 && !(Nat.beq rm rb))) && ((Nat.beq m (pk (bitsK cs n)).length && Nat.beq c m) && (Nat.ble n 32768 && cellsEq cs (pk (bitsK cs n)))),lst' (bitsK cs n) with
    | true,x::xs=>match h.new (.cells it (ints (x::xs))),fn (x::xs).length with
     | some (q,h'),some k=>some (.slice (some ⟨q,0,none⟩) k openCap,h')
     | _,_=>none
    | _,_=>none
   | _=>none
  | _=>none
 | _=>none
theorem ints_flat (l:List Nat):allFlat (ints l)=true:=by
 rw [allFlat_iff]
 intro c hc
 obtain ⟨k,_,rfl⟩:=List.mem_map.1 hc
 rfl
theorem byteCells_flat (l:List UInt8):allFlat (byteCells l)=true:=by
 rw [allFlat_iff]
 intro c hc
 obtain ⟨k,_,rfl⟩:=List.mem_map.1 hc
 rfl
theorem listK_sound {args:List Value} {h h':AW} {v:Value} (k:listK 131 3 args h=some (v,h')) :
  (∃ fn c,Tryz.prog.funcs[52]?=some fn/\fn.body=some c)/\∀ ρ us w,LRel ρ args us->HRel Tryz.prog ρ h w->Calls Tryz.prog 52 ⟨us⟩ w fun e w'=>∃ u ρ',e=.returned u/\VRel ρ' v u/\HRel Tryz.prog ρ' h' w'/\Turn ρ h w ρ' h' w':=by
 unfold listK at k
 split at k
 case h_2=>cases k
 rename_i rm
 split at k
 case h_2=>cases k
 rename_i e n rb m c h1
 split at k
 case h_2=>cases k
 rename_i e2 cs h2
 split at k
 case h_2=>cases k
 rename_i x xs hb hl
 simp only [Bool.and_eq_true,Bool.not_eq_true'] at hb
 obtain ⟨⟨b1,b2,b3⟩,⟨b4,b5⟩,b6,b7⟩:=hb
 have b1:=of_beq b1; have b2:=of_beq b2; have b3:=of_beq_f b3; have b4:=of_beq b4; have b5:=of_beq b5; have b6:=of_ble b6
 have hcs:=cellsEq_eq b7
 clear b7
 subst b1; subst b2; subst b5; subst b4
 have hT:(bitsK cs n).length=n:=by simp [bitsK]
 generalize bitsK cs n=T at hl hcs hT h1
 subst hT; subst hcs
 split at k
 case h_2=>cases k
 rename_i q h₂ kk hnew hk
 have hk:=fn_eq hk
 subst hk
 simp only [Option.some.injEq,Prod.mk.injEq] at k
 obtain ⟨rfl,rfl⟩:=k
 have c1:=(List_ct (F:=[]) (rm:=rm) (rb:=rb) (T:=T) b6).mono (R':=fun u L'=>∃ Y',L'=Y'++fm rm rb T []/\OW 3 1 u (x::xs).length (ints (x::xs)) Y') (fun u L' hg=>by
  rw [hl] at hg
  rcases hg with ⟨_,h0,_⟩ | ⟨r,rfl,h3,rfl⟩
  ·simp at h0
  ·refine ⟨[(r,_)],rfl,r,openCap,[],rfl,h3,by rw [List.append_nil],?_,.inl rfl⟩
   have h4:(lst' T).length<=T.length:=by
    have:=List.length_filter_le (tkn T) (List.range T.length)
    simpa [lst'] using this
   rw [hl] at h4
   unfold openCap; omega)
 refine known_new (sz:=1) (fun p hp=>?_) ?_ (fun p hp=>?_) c1 rfl (ints_flat _) hnew
 ·rcases List.mem_cons.1 hp with rfl | hp
  ·exact getRow_eq h1
  ·simp only [List.mem_singleton] at hp; subst hp; exact getRow_eq h2
 ·simp [b3]
 ·rcases List.mem_cons.1 hp with rfl | hp
  ·have h5:(pk T).length≠openCap:=by rw [pk_len]; unfold openCap; omega
   simp only [easyRow,allEasy,easy,flat,beq_false h5,Bool.not_false,Bool.and_self]
  ·simp only [List.mem_singleton] at hp; subst hp
   exact allFlat_easy (byteCells_flat _)
theorem text_ct {L:RL} (n:Nat) (c:UInt8) (hn:n<=100000):CS Tryz.prog 18 [.int .i64 (n:Nat),.int .u8 (c.toNat:Nat)] L fun u L'=>u=txt (List.replicate n c)/\L'=L:=by
 suffices g:CS Tryz.prog 18 [.int .i64 (n:Nat),.int .u8 (c.toNat:Nat)] L fun u L'=>u=txt (List.replicate n c)/\∃ x,L'=x::L by
  exact g.less fun u L' ⟨h1,x,h2⟩=>⟨L,by rw [h2]; exact Sub.tail,h1,rfl⟩
 refine CS.mk (fn:=Tryz.f18) rfl rfl rfl rfl ?_
 repeat refine xQ ?_
 refine xG rfl ?_
 refine xP rfl rh rfl ?_
 refine xN ?_
 repeat refine xQ ?_
 refine xG rfl ?_
 refine xP rfl rh rfl ?_
 refine OS.fresh rfl ((e_make (l:=n) (c:=n) rfl rfl rfl makeT_bytes (Nat.le_refl _) (by omega) (by omega))) (fun _=>rfl) (fun rb=>?_)
 refine xP rfl rh rfl ?_
 refine xN ?_
 rw [repL_u8]
 repeat refine xQ ?_
 refine xG rfl ?_
 refine xP rfl rh rfl ?_
 refine xN ?_
 repeat refine xQ ?_
 refine LS.block ?_
 refine LS.loopJ [0,1,5,6] (fun q a L'=>∃ j:Nat,q=n - j/\j<=n/\L'=(rb,.cells 5 (byteCells (List.replicate j c++List.replicate (n - j) 0)))::L /\
  a=[.int .i64 (n:Nat),.int .u8 (c.toNat:Nat),jn,jn,jn,.slice (some ⟨rb,0,none⟩) n n,.int .i64 (j:Nat),jn,jn,jn,jn,jn,jn,jn,jn,jn,jn,jn,jn,jn]) (n:=n) rfl ⟨0,rfl,by omega,by simp,rfl⟩ ?_
 rintro q a L' ⟨j,rfl,hj,rfl,rfl⟩
 repeat refine xQ ?_
 refine xG rfl ?_
 iterate 3 refine xP rfl rh rfl ?_
 refine xN ?_
 repeat refine xQ ?_
 refine xC rfl (fun hc=>?_) (fun hc=>?_)
 ·have hc:(j:Int) < n:=lt_of hc
  have hjn:j < n:=by omega
  refine LS.skip ?_
  repeat refine xQ ?_
  refine LS.block ?_
  have hl:(List.replicate j c++List.replicate (n - j) (0:UInt8)).length=n:=by simp; omega
  repeat refine xQ ?_
  refine xG rfl ?_
  iterate 3 refine xP rfl rh rfl ?_
  refine xP rfl (e_index (j:=j) (sz:=1) rfl rfl rfl rfl rfl hjn) rfl ?_
  refine OS.write rfl (e_store 0 (n:=1) rfl rfl rfl rfl rfl rfl (lay_u8 c (by omega)) rfl) rfl ?_
  refine xN ?_
  repeat refine xQ ?_
  refine xG rfl ?_
  refine xP rfl rh rfl ?_
  refine xP rfl (e_addN (m:=j) (n:=1) rfl rfl rfl (in_i64 (by omega) (by omega))) rfl ?_
  refine xP rfl rh rfl ?_
  refine xN ?_
  refine ⟨n - (j+1),by omega,j+1,rfl,by omega,?_,rfl⟩
  congr 4
  rw [List.set_append_right _ _ (by simp),List.length_replicate,Nat.sub_self]
  obtain ⟨m,hm⟩:∃ m,n - j=m+1:=⟨n - j - 1,by omega⟩
  rw [hm,show n - (j+1)=m by omega,List.replicate_succ,List.set_cons_zero,List.replicate_succ',List.append_assoc]
  rfl
 ·have hc:=nlt_of hc
  have hje:j=n:=by omega
  subst hje
  refine LS.exit ?_
  rw [Nat.sub_self,List.replicate_zero,List.append_nil]
  repeat refine xQ ?_
  refine xG rfl ?_
  refine xP rfl rh rfl ?_
  refine xR rfl (e_text 0 rfl rfl rfl rfl rfl rfl rfl (cut_bytes (off:=0) (n:=j) (by simp)) (bytesOfB_cells _)) rfl ?_
  rw [List.drop_zero,List.take_of_length_le (by simp)]
  refine xP rfl rh rfl ?_
  refine xN ?_
  refine xT ⟨_,fun _ _=>rfl,?_⟩
  exact ⟨rfl,_,rfl⟩
theorem known_still {P:Program} {f:FuncId} {args:List Value} {h:AW} {v:Value} {Rest:RL} (hrest:∀ p,p∈Rest->h.get p.1=some p.2) (hnd:(Rest.map (·.1)).Nodup) (he:∀ p,p∈Rest->easyRow p.2=true)
  (c:CS P f args Rest fun u L'=>u=v/\L'=Rest) (hp:Am.plain v=true) :
  (∃ fn c,P.funcs[f]?=some fn/\fn.body=some c)/\∀ ρ us w,LRel ρ args us->HRel P ρ h w->Calls P f ⟨us⟩ w fun e w'=>∃ u ρ',e=.returned u/\VRel ρ' v u/\HRel P ρ' h w'/\Turn ρ h w ρ' h w':=by
 refine ⟨c.isFn hnd,fun ρ us w hus H=>?_⟩
 refine (CS.localRun (Rest:=Rest) c hnd hrest (fun v L' hR p hp=>by rw [hR.2]; exact hp) hus H).2.mono ?_
 rintro en w' ⟨u,L₁,x,ρ₁,hh₁,rfl,⟨rfl,rfl⟩,hv,H₁,T⟩
 have:=hv.plain_eq hp
 subst this
 obtain ⟨q1,q2⟩:=T.flat H hrest (fun p hp=>hp) he (fun p hp=>hp)
 exact ⟨_,ρ,rfl,.of_plain hp,q1,q2⟩
def repU:Nat->UInt8->Option (List UInt8)
 | 0,_=>some []
 | n+1,c=>match repU n c with
  | some bs=>some (c::bs)
  | none=>none
theorem repU_eq:∀ {n:Nat} {c:UInt8} {bs:List UInt8},repU n c=some bs->bs=List.replicate n c
 | 0,c,bs,h=>by simp only [repU,Option.some.injEq] at h; subst h; rfl
 | n+1,c,bs,h=>by
  simp only [repU] at h
  split at h
  ·rename_i us e
   simp only [Option.some.injEq] at h; subst h
   rw [repU_eq e]; rfl
  ·cases h
def textK (args:List Value) (h:AW):Option (Value × AW) :=
 match args with
 | [.int .i64 (.ofNat n),.int .u8 (.ofNat c)]=>match Nat.ble n 1000 && Nat.ble c 255,repU n (UInt8.ofNat c) with
  | true,some bs=>some (txt bs,h)
  | _,_=>none
 | _=>none
theorem textK_sound {args:List Value} {h h':AW} {v:Value} (k:textK args h=some (v,h')) :
  (∃ fn c,Tryz.prog.funcs[18]?=some fn/\fn.body=some c)/\∀ ρ us w,LRel ρ args us->HRel Tryz.prog ρ h w->Calls Tryz.prog 18 ⟨us⟩ w fun e w'=>∃ u ρ',e=.returned u/\VRel ρ' v u/\HRel Tryz.prog ρ' h' w'/\Turn ρ h w ρ' h' w':=by
 unfold textK at k
 split at k
 case h_2=>cases k
 rename_i n c
 split at k
 case h_2=>cases k
 rename_i bs hb hr
 simp only [Bool.and_eq_true] at hb
 have b1:=of_ble hb.1
 have b2:=of_ble hb.2
 have hr:=repU_eq hr
 subst hr
 simp only [Option.some.injEq,Prod.mk.injEq] at k
 obtain ⟨rfl,rfl⟩:=k
 have hc:(UInt8.ofNat c).toNat=c:=by rw [UInt8.toNat_ofNat']; omega
 have c1:=text_ct (L:=[]) n (UInt8.ofNat c) (by omega)
 rw [hc] at c1
 exact known_still (fun p hp=>by cases hp) (by simp) (fun p hp=>by cases hp) c1 rfl
def u8K:List Value->Option (List UInt8)
 | []=>some []
 | .int .u8 (.ofNat z)::xs=>match Nat.ble z 255,u8K xs with
  | true,some bs=>some (UInt8.ofNat z::bs)
  | _,_=>none
 | _::_=>none
theorem u8K_eq:∀ {cs:List Value} {bs:List UInt8},u8K cs=some bs->cs=byteCells bs
 | [],bs,h=>by simp only [u8K,Option.some.injEq] at h; subst h; rfl
 | c::cs,bs,h=>by
  cases c <;> first | (simp [u8K] at h; done) | skip
  rename_i k z
  cases k <;> first | (simp [u8K] at h; done) | skip
  cases z with
  | negSucc z=>simp [u8K] at h
  | ofNat z =>
   simp only [u8K] at h
   split at h
   case h_2=>cases h
   rename_i us hz e
   have hz:=of_ble hz
   simp only [Option.some.injEq] at h; subst h
   have:=u8K_eq e
   subst this
   have hc:(UInt8.ofNat z).toNat=z:=by rw [UInt8.toNat_ofNat']; omega
   simp only [byteCells,List.map_cons,hc]; rfl
def allZ:List UInt8->Bool
 | []=>true
 | b::bs=>match Nat.beq b.toNat 0 with
  | true=>allZ bs
  | false=>false
theorem allZ_eq:∀ (bs:List UInt8),allZ bs=bs.all (fun c=>c == 0)
 | []=>rfl
 | b::bs=>by
  simp only [allZ,List.all_cons]
  by_cases h:b=0
  ·subst h
   have:Nat.beq (0:UInt8).toNat 0=true:=rfl
   rw [this]; simp [allZ_eq bs]
  ·have h1:b.toNat≠0:=fun hh=>h (UInt8.toNat_inj.1 (by rw [hh]; rfl))
   rw [beq_false h1]; simp [h]
def blankK (args:List Value) (h:AW):Option (Value × AW) :=
 match args with
 | [.slice (some ⟨r,off,none⟩) n c]=>match getRow h r with
  | some (e,cs)=>match Nat.ble n 1000,cut cs off n with
   | true,some xs=>match u8K xs,u8K cs with
    | some bs,some _=>some (.bool (allZ bs),h)
    | _,_=>none
   | _,_=>none
  | none=>none
 | _=>none
theorem blankK_sound {args:List Value} {h h':AW} {v:Value} (k:blankK args h=some (v,h')) :
  (∃ fn c,Tryz.prog.funcs[95]?=some fn/\fn.body=some c)/\∀ ρ us w,LRel ρ args us->HRel Tryz.prog ρ h w->Calls Tryz.prog 95 ⟨us⟩ w fun e w'=>∃ u ρ',e=.returned u/\VRel ρ' v u/\HRel Tryz.prog ρ' h' w'/\Turn ρ h w ρ' h' w':=by
 unfold blankK at k
 split at k
 case h_2=>cases k
 rename_i r off n c
 split at k
 case h_2=>cases k
 rename_i e cs h1
 split at k
 case h_2=>cases k
 rename_i xs hn hx
 split at k
 case h_2=>cases k
 rename_i bs bs2 hb hb2
 have hn:=of_ble hn
 have hb:=u8K_eq hb
 have hb2:=u8K_eq hb2
 subst hb; subst hb2
 simp only [Option.some.injEq,Prod.mk.injEq] at k
 obtain ⟨rfl,rfl⟩:=k
 have hl:bs.length=n:=by have:=(cut_eq hx).2.2.1; rwa [byteCells_len] at this
 subst hl
 have hv:SV 1 [(r,ARow.cells e (byteCells bs2))] (.slice (some ⟨r,off,none⟩) bs.length c) bs.length (byteCells bs):=.inr ⟨r,off,c,_,_,rfl,List.mem_cons_self ..,rfl,by rw [Nat.mul_one]; exact hx⟩
 have c1:=blank_ct hv (by omega)
 rw [← allZ_eq] at c1
 exact known_still (fun p hp=>by simp only [List.mem_singleton] at hp; subst hp; exact getRow_eq h1) (by simp) (fun p hp=>by simp only [List.mem_singleton] at hp; subst hp; exact allFlat_easy (byteCells_flat _)) c1 rfl
def freeB:List Bool->Nat->Option Nat
 | [],n=>fn n
 | true::T,n=>freeB T n
 | false::T,n=>match fn (n+1) with
  | some m=>freeB T m
  | none=>none
theorem freeB_eq:∀ {T:List Bool} {n m:Nat},freeB T n=some m->m=n+frees T
 | [],n,m,h=>by have:=fn_eq h; subst this; simp [frees]
 | true::T,n,m,h=>by
  have:=freeB_eq (T:=T) h
  rw [this]; simp [frees]
 | false::T,n,m,h=>by
  simp only [freeB] at h
  split at h
  ·rename_i k hk
   have hk:=fn_eq hk
   have:=freeB_eq (T:=T) h
   rw [this,hk]; simp [frees]; omega
  ·cases h
def bitsB8 (z:Nat):Nat->Nat->Option (List Bool)
 | _,0=>some []
 | i,n+1=>match bitsB8 z (i+1) n,z.testBit i with
  | some l,true=>some (true::l)
  | some l,false=>some (false::l)
  | none,_=>none
def bitsL:List Value->Nat->Option (List Bool)
 | [],n=>match Nat.beq n 0 with | true=>some [] | false=>none
 | .int .u8 (.ofNat z)::cs,n=>match bitsB8 z 0 (Nat.min 8 n),bitsL cs (n - Nat.min 8 n) with
  | some a,some b=>join a b
  | _,_=>none
 | _::_,_=>none
def freeK (ft:TypeId) (args:List Value) (h:AW):Option (Value × AW) :=
 match args with
 | [.pointer (some ⟨rm,0,none⟩)]=>match getRow h rm with
  | some (e,[.int .i64 (.ofNat n),.slice (some ⟨rb,0,none⟩) m c])=>match getRow h rb,Nat.ble n 32768 with
   | some (e2,cs),true=>match bitsL cs n with
    | some T=>match Nat.beq T.length n,pk T with
     | true,bs=>match (Nat.beq e ft && (Nat.beq e2 5 && !(Nat.beq rm rb))) && ((Nat.beq m bs.length && Nat.beq c m) && cellsEq cs bs),freeB T 0 with
      | true,some k=>some (.int .i64 (.ofNat k),h)
      | _,_=>none
     | false,_=>none
    | none=>none
   | _,_=>none
  | _=>none
 | _=>none
theorem freeK_sound {args:List Value} {h h':AW} {v:Value} (k:freeK 131 args h=some (v,h')) :
  (∃ fn c,Tryz.prog.funcs[51]?=some fn/\fn.body=some c)/\∀ ρ us w,LRel ρ args us->HRel Tryz.prog ρ h w->Calls Tryz.prog 51 ⟨us⟩ w fun e w'=>∃ u ρ',e=.returned u/\VRel ρ' v u/\HRel Tryz.prog ρ' h' w'/\Turn ρ h w ρ' h' w':=by
 unfold freeK at k
 split at k
 case h_2=>cases k
 rename_i rm
 split at k
 case h_2=>cases k
 rename_i e n rb m c h1
 split at k
 case h_2=>cases k
 rename_i e2 cs h2 hn
 have hn:=of_ble hn
 split at k
 case h_2=>cases k
 rename_i T hT0
 split at k
 case h_2=>cases k
 rename_i bs hTl
 have hTl:=of_beq hTl
 split at k
 case h_2=>cases k
 rename_i kk hb hk
 have hk:=freeB_eq hk
 simp only [Bool.and_eq_true,Bool.not_eq_true'] at hb
 obtain ⟨⟨b1,b2,b3⟩,⟨b4,b5⟩,b6⟩:=hb
 have b1:=of_beq b1; have b2:=of_beq b2; have b3:=of_beq_f b3; have b4:=of_beq b4; have b5:=of_beq b5
 have hcs:=cellsEq_eq b6
 clear b6 hT0
 subst b1; subst b2; subst b5; subst b4; subst hTl; subst hcs
 simp only [Option.some.injEq,Prod.mk.injEq] at k
 obtain ⟨rfl,rfl⟩:=k
 rw [Nat.zero_add] at hk
 subst hk
 have c1:=Free_ct (F:=[]) (rm:=rm) (rb:=rb) (T:=T) hn
 refine known_still (Rest:=fm rm rb T []) (fun p hp=>?_) ?_ (fun p hp=>?_) c1 rfl
 ·rcases List.mem_cons.1 hp with rfl | hp
  ·exact getRow_eq h1
  ·simp only [List.mem_singleton] at hp; subst hp; exact getRow_eq h2
 ·simp [b3]
 ·rcases List.mem_cons.1 hp with rfl | hp
  ·have h5:(pk T).length≠openCap:=by rw [pk_len]; unfold openCap; omega
   simp only [easyRow,allEasy,easy,flat,beq_false h5,Bool.not_false,Bool.and_self]
  ·simp only [List.mem_singleton] at hp; subst hp
   exact allFlat_easy (byteCells_flat _)
def lib7:Known:=fun f args h =>
 match Nat.beq f 68 with
 | true=>insK 9 args h
 | false=>match Nat.beq f 71 with
  | true=>delK 9 args h
  | false=>match Nat.beq f 84 with
   | true=>sortK 83 117 3 args h
   | false=>match Nat.beq f 52 with
    | true=>listK 131 3 args h
    | false=>match Nat.beq f 18 with
     | true=>textK args h
     | false=>match Nat.beq f 95 with
      | true=>blankK args h
      | false=>match Nat.beq f 51 with
       | true=>freeK 131 args h
       | false=>none
theorem insK_sound {args:List Value} {h h':AW} {v:Value} (k:insK 9 args h=some (v,h')) :
  (∃ fn c,Tryz.prog.funcs[68]?=some fn/\fn.body=some c)/\∀ ρ us w,LRel ρ args us->HRel Tryz.prog ρ h w->Calls Tryz.prog 68 ⟨us⟩ w fun e w'=>∃ u ρ',e=.returned u/\VRel ρ' v u/\HRel Tryz.prog ρ' h' w'/\Turn ρ h w ρ' h' w':=by
 unfold insK at k
 split at k
 case h_2=>cases k
 rename_i r n c z rv
 split at k
 case h_2=>cases k
 rename_i e1 cs e2 x h1 h2
 split at k
 case h_2=>cases k
 rename_i cs' hb hi
 simp only [Bool.and_eq_true,Bool.not_eq_true'] at hb
 obtain ⟨⟨⟨b1,b2⟩,b3,b4,b5⟩,⟨b6,b7⟩,b8,b9⟩:=hb
 have b1:=of_beq b1; have b2:=of_beq b2; have b3:=of_beq_f b3; have b4:=of_beq b4; have b5:=ileB_iff.1 b5; have b6:=of_beq b6; have b7:=of_ble b7
 subst b1; subst b2; subst b4
 obtain ⟨i,rfl⟩:=Int.eq_ofNat_of_zero_le b5
 rw [Int.toNat_natCast] at hi
 obtain ⟨hi1,rfl⟩:=insO_eq hi
 have c1:=InsertS_ct (F:=[(rv,.cells 9 [x])]) (Y:=[(r,.cells 9 cs)]) (x:=x) (i:=i) (n:=n) (rv:=rv) (v:=.slice (some ⟨r,0,none⟩) n openCap) (.inr ⟨r,rfl,by omega,rfl⟩) (by omega) (by omega) (flat_one b9) (allFlat_one b8) (List.mem_cons_self ..) (fun p hp=>by simp only [List.mem_singleton] at hp; subst hp; exact b3)
 exact known_list (sz:=1) (getRow_eq h1) (fun p hp=>by simp only [List.mem_singleton] at hp; subst hp; exact getRow_eq h2) (by simp [b3]) (fun p hp=>by simp only [List.mem_singleton] at hp; subst hp; simp [easyRow,allEasy,easy_flat b9]) c1 rfl (ins_flat b8 b9) k
theorem delK_sound {args:List Value} {h h':AW} {v:Value} (k:delK 9 args h=some (v,h')) :
  (∃ fn c,Tryz.prog.funcs[71]?=some fn/\fn.body=some c)/\∀ ρ us w,LRel ρ args us->HRel Tryz.prog ρ h w->Calls Tryz.prog 71 ⟨us⟩ w fun e w'=>∃ u ρ',e=.returned u/\VRel ρ' v u/\HRel Tryz.prog ρ' h' w'/\Turn ρ h w ρ' h' w':=by
 unfold delK at k
 split at k
 case h_2=>cases k
 rename_i r n c z z2
 split at k
 case h_2=>cases k
 rename_i e1 cs h1
 split at k
 case h_2=>cases k
 rename_i cs' hb hi
 simp only [Bool.and_eq_true] at hb
 obtain ⟨⟨b1,b4,b5⟩,⟨b6,b7⟩,b8,b9⟩:=hb
 have b1:=of_beq b1; have b4:=of_beq b4; have b5:=ileB_iff.1 b5; have b6:=of_beq b6; have b7:=of_ble b7
 subst b1; subst b4
 obtain ⟨i,rfl⟩:=Int.eq_ofNat_of_zero_le b5
 rw [Int.toNat_natCast] at hi
 obtain ⟨hi1,rfl⟩:=erO_eq hi
 rw [ieqB_eq] at b9
 have b9:z2=((i+1:Nat):Int):=by simpa using b9
 subst b9
 have c1:=DeleteS_ct (F:=[]) (Y:=[(r,.cells 9 cs)]) (i:=i) (n:=n) (v:=.slice (some ⟨r,0,none⟩) n openCap) (.inr ⟨r,rfl,by omega,rfl⟩) (by omega) (by omega) (allFlat_one b8)
 exact known_list (sz:=1) (getRow_eq h1) (fun p hp=>by cases hp) (by simp) (fun p hp=>by cases hp) c1 rfl (er_flat b8) k
theorem keys_small {g:Nat->Option Value} {es:List MapEntry} {ck:Nat} (hM:MP es ck g):∀ ks:List Nat,ks.Nodup->(∀ k,k∈ks->g k≠none)->ks.length<=es.length:=by
 obtain ⟨D,rfl,hD⟩:=hM
 intro ks hn hk
 have:=nodup_le (A:=ks) (B:=D.map (·.1)) hn (fun k hkk=>by
  cases hg:g k with
  | none=>exact absurd hg (hk k hkk)
  | some v=>obtain ⟨b,hb⟩:=(hD.is k v).1 hg; exact List.mem_map.2 ⟨_,hb,rfl⟩)
 simpa using this
theorem sortK_sound {args:List Value} {h h':AW} {v:Value} (k:sortK 83 117 3 args h=some (v,h')) :
  (∃ fn c,Tryz.prog.funcs[84]?=some fn/\fn.body=some c)/\∀ ρ us w,LRel ρ args us->HRel Tryz.prog ρ h w->Calls Tryz.prog 84 ⟨us⟩ w fun e w'=>∃ u ρ',e=.returned u/\VRel ρ' v u/\HRel Tryz.prog ρ' h' w'/\Turn ρ h w ρ' h' w':=by
 unfold sortK at k
 split at k
 case h_2=>cases k
 rename_i f2 a b
 split at k
 case h_2=>cases k
 rename_i rb ha hb hf
 have hf:=of_beq hf
 subst hf
 have ha':a=#[]:=Array.toList_inj.1 (by rw [ha])
 have hb':b=#[ptr rb]:=Array.toList_inj.1 (by rw [hb])
 subst ha'; subst hb'
 split at k
 case h_2=>cases k
 rename_i e rm h1
 split at k
 case h_3=>cases k
 ·rename_i ck he h2
  have he:=of_beq he
  subst he
  simp only [Option.some.injEq,Prod.mk.injEq] at k
  obtain ⟨rfl,rfl⟩:=k
  have hne:rb≠rm:=fun hh=>by
   have h3:=getRow_eq h1
   rw [hh,h2] at h3; cases h3
  have hM:MP [] ck (fun _=>none):=⟨[],rfl,List.nodup_nil,List.nodup_nil,fun _ h=>(by cases h),fun k v=>⟨fun h=>(by cases h),fun ⟨b,h⟩=>(by cases h)⟩⟩
  have c1:=Sorted_ct (F:=[]) (rb:=rb) (rm:=rm) hM (B:=0) (fun ks hn hk=>by simpa using keys_small hM ks hn hk) (by omega)
  have hL:∀ p,p∈[(rb,mbRow rm),(rm,ARow.map [] ck)]->h.get p.1=some p.2:=fun p hp=>by
   rcases List.mem_cons.1 hp with rfl | hp
   ·exact getRow_eq h1
   ·simp only [List.mem_singleton] at hp; subst hp; exact h2
  have hnd:([(rb,mbRow rm),(rm,ARow.map [] ck)].map (·.1)).Nodup:=by simp [hne]
  have hE:∀ p,p∈[(rb,mbRow rm),(rm,ARow.map [] ck)]->easyRow p.2=true:=fun p hp=>by
   rcases List.mem_cons.1 hp with rfl | hp
   ·rfl
   ·simp only [List.mem_singleton] at hp; subst hp; rfl
  refine ⟨c1.isFn hnd,fun ρ us w hus H=>?_⟩
  have c2:=c1.mono (R':=fun u L'=>u=.slice none 0 0/\L'=[(rb,mbRow rm),(rm,ARow.map [] ck)]) (fun u L' ⟨ks,⟨_,hk⟩,hnl,hg⟩=>by
   have hk0:ks=[]:=by
    cases ks with
    | nil=>rfl
    | cons x xs=>exact absurd rfl ((hk x).1 (List.mem_cons_self ..))
   have hu:=hnl hk0
   subst hu
   rcases hg with ⟨_,_,_,rfl⟩ | ⟨r,hh,_⟩
   ·exact ⟨rfl,rfl⟩
   ·cases hh)
  refine (CS.localRun (Rest:=[(rb,mbRow rm),(rm,ARow.map [] ck)]) c2 hnd hL (fun v L' hR p hp=>by rw [hR.2]; exact hp) hus H).2.mono ?_
  rintro en w' ⟨u,L₁,x,ρ₁,hh₁,rfl,⟨rfl,rfl⟩,hv,H₁,T⟩
  cases hv
  obtain ⟨q1,q2⟩:=T.flat H hL (fun p hp=>hp) hE (fun p hp=>hp)
  exact ⟨_,ρ,rfl,.sliceNil,q1,q2⟩
 ·rename_i kk v1 b1 ck he h2
  have he:=of_beq he
  subst he
  split at k
  case h_2=>cases k
  rename_i hb1
  simp only [Bool.and_eq_true,Bool.not_eq_true'] at hb1
  obtain ⟨e1,e2,e3⟩:=hb1
  have e2:=of_ble e2
  have hne:=of_beq_f e3
  split at k
  case h_2=>cases k
  rename_i q h₂ hnew
  simp only [Option.some.injEq,Prod.mk.injEq] at k
  obtain ⟨rfl,rfl⟩:=k
  have hM:MP [⟨.int .i64 (.ofNat kk),v1,b1⟩] ck (updF (fun _=>none) kk (some v1)):=by
   refine ⟨[(kk,v1,b1)],rfl,by simp,by simp,fun p hp=>by simp only [List.mem_singleton] at hp; subst hp; simp only; omega,fun k v=>?_⟩
   unfold updF
   by_cases hk:k=kk
   ·subst hk
    simp
    exact eq_comm
   ·simp [hk]
  have c1:=Sorted_ct (F:=[]) (rb:=rb) (rm:=rm) hM (B:=1) (fun ks hn hk=>by simpa using keys_small hM ks hn hk) (by omega)
  have hL:∀ p,p∈[(rb,mbRow rm),(rm,ARow.map [⟨.int .i64 (.ofNat kk),v1,b1⟩] ck)]->h.get p.1=some p.2:=fun p hp=>by
   rcases List.mem_cons.1 hp with rfl | hp
   ·exact getRow_eq h1
   ·simp only [List.mem_singleton] at hp; subst hp; exact h2
  have hnd:([(rb,mbRow rm),(rm,ARow.map [⟨.int .i64 (.ofNat kk),v1,b1⟩] ck)].map (·.1)).Nodup:=by simp [hne]
  have hE:∀ p,p∈[(rb,mbRow rm),(rm,ARow.map [⟨.int .i64 (.ofNat kk),v1,b1⟩] ck)]->easyRow p.2=true:=fun p hp=>by
   rcases List.mem_cons.1 hp with rfl | hp
   ·rfl
   ·simp only [List.mem_singleton] at hp; subst hp; simp only [easyRow,List.map_cons,List.map_nil,allEasy,e1,Bool.and_true]; rfl
  refine ⟨c1.isFn hnd,fun ρ us w hus H=>?_⟩
  have c2:=c1.mono (R':=fun u L'=>∃ r',u=.slice (some ⟨r',0,none⟩) 1 openCap/\L'=(r',.cells 3 [.int .i64 (.ofNat kk)])::[(rb,mbRow rm),(rm,ARow.map [⟨.int .i64 (.ofNat kk),v1,b1⟩] ck)]) (fun u L' ⟨ks,⟨hp,hk⟩,hnl,hg⟩=>by
   have hmem:∀ k,k∈ks↔k=kk:=fun k=>by
    rw [hk]; unfold updF
    by_cases h:k=kk <;> simp [h]
   have hk1:ks=[kk]:=by
    match ks,hp,hmem with
    | [],_,hmem=>exact absurd ((hmem kk).2 rfl) (by simp)
    | [x],_,hmem=>rw [(hmem x).1 (by simp)]
    | x::y::l,hp,hmem =>
     have h1:=(hmem x).1 (by simp)
     have h2:=(hmem y).1 (by simp)
     simp only [List.pairwise_cons,List.mem_cons,forall_eq_or_imp] at hp
     omega
   subst hk1
   rcases hg with ⟨_,h0,_⟩ | ⟨r,rfl,_,rfl⟩
   ·cases h0
   ·exact ⟨r,rfl,rfl⟩)
  refine (CS.localRun (Rest:=[(rb,mbRow rm),(rm,ARow.map [⟨.int .i64 (.ofNat kk),v1,b1⟩] ck)]) c2 hnd hL (fun v L' ⟨r',_,hR⟩ p hp=>by rw [hR]; exact List.mem_cons_of_mem _ hp) hus H).2.mono ?_
  rintro en w' ⟨u,L₁,x,ρ₁,hh₁,rfl,⟨r',rfl,rfl⟩,hv,H₁,T⟩
  have hr':hh₁.get r'=some (.cells 3 ([.int .i64 (.ofNat kk)]++[])):=H₁.get (r',_) (List.mem_cons_self ..)
  have hne':∀ p,p∈[(rb,mbRow rm),(rm,ARow.map [⟨.int .i64 (.ofNat kk),v1,b1⟩] ck)]->p.1≠r':=fun p hp hh=>by
   have:=H₁.nd
   rw [List.map_cons,List.nodup_cons] at this
   exact this.1 (List.mem_map.2 ⟨p,hp,hh⟩)
  obtain ⟨ρ',p1,p2,p3⟩:=T.list (D:=[]) (sz:=1) (h0:=h) H hL (fun p hp=>.inr hp) hE (fun p hp=>hp) hr' hne' hv rfl rfl (.inl rfl) rfl (fun m=>by simp) rfl rfl hnew
  exact ⟨x,ρ',rfl,p1,p2,p3⟩
theorem lib7_sound:Sound Tryz.prog lib7:=by
 intro f args h v h' k
 unfold lib7 at k
 split at k
 ·rename_i hb
  have:=of_beq hb; subst this
  exact insK_sound k
 ·split at k
  ·rename_i hb
   have:=of_beq hb; subst this
   exact delK_sound k
  ·split at k
   ·rename_i hb
    have:=of_beq hb; subst this
    exact sortK_sound k
   ·split at k
    ·rename_i hb
     have:=of_beq hb; subst this
     exact listK_sound k
    ·split at k
     ·rename_i hb
      have:=of_beq hb; subst this
      exact textK_sound k
     ·split at k
      ·rename_i hb
       have:=of_beq hb; subst this
       exact blankK_sound k
      ·split at k
       ·rename_i hb
        have:=of_beq hb; subst this
        exact freeK_sound k
       ·cases k
end Go.Proofs.YtlmmddfhoabjfaaGreat
end
section
namespace Go.Proofs.YtlmmddfhoabjfaaGreat
open Go.Am
theorem works_run:answersTrue Tryz.prog lib7 3000 60 8=true:=by kernel_rfl
theorem works_ct {L:RL}:CS Tryz.prog 8 [] L fun v L'=>v=.bool true/\L'=L:=by
 have e:=works_run
 unfold answersTrue at e
 split at e
 ·rename_i b h' hcall
  subst e
  exact CS.closed noGo mixed lib7_sound rfl rfl hcall
 ·cases e
end Go.Proofs.YtlmmddfhoabjfaaGreat
end
section
namespace Go.Proofs.YtlmmddfhoabjfaaGreat
open Go.Am
theorem getV_some {P:List Pr} {k v:Tx} (h:getP P k=some v):getV P k=.tuple #[txt v,.bool true]:=by unfold getV; rw [h]
theorem getV_none {P:List Pr} {k:Tx} (h:getP P k=none):getV P k=.tuple #[txt [],.bool false]:=by unfold getV; rw [h]
theorem ne_self' (b:Tx):(!bytesEq b b)=false:=by rw [beqT,decide_eq_true rfl]; rfl
set_option maxHeartbeats 4000000 in
theorem lostT_ct {L:RL} {v1:Value} {root:Int} {imgs:List Tx} {k v:Tx} (him:ImgR L v1 imgs) (hk:k.length<=9000000000000000) (hv:v.length<=9000000000000000) :
  CS Tryz.prog 7 [.int .i64 root,v1,txt k,txt v] L fun u _=>u=.bool true:=by
 have him0:=him
 obtain ⟨vs,hims,_⟩:=him0
 refine CS.mk (fn:=Tryz.f7) rfl rfl rfl rfl ?_
 repeat refine xQ ?_
 refine xG rfl ?_
 refine xP rfl rh rfl ?_
 refine xN ?_
 repeat refine xQ ?_
 refine LS.mid [0,1,2,3,36] (fun a' L'=>∃ b:Bool,(b=false->imgs.length<=60)/\L'=L/\a'=[.int .i64 root,v1,txt k,txt v,jn,jn,jn,jn,jn,jn,jn,jn,jn,jn,jn,jn,jn,jn,jn,jn,jn,jn,jn,jn,jn,jn,jn,jn,jn,jn,jn,jn,jn,jn,jn,jn,.bool b,jn,jn,jn,jn,jn,jn,jn,jn,jn,jn,jn,jn,jn,jn,jn,jn,jn,jn,jn,jn,jn,jn,jn,jn,jn,jn,jn,jn,jn,jn,jn,jn,jn,jn,jn,jn,jn,jn,jn,jn,jn,jn,jn,jn,jn,jn,jn,jn,jn,jn,jn,jn,jn,jn,jn,jn,jn,jn,jn,jn,jn,jn,jn,jn,jn,jn,jn,jn,jn,jn,jn,jn,jn,jn,jn,jn,jn,jn,jn,jn,jn,jn,jn,jn,jn,jn,jn,jn,jn,jn,jn,jn,jn,jn,jn,jn,jn,jn,jn,jn,jn,jn,jn,jn,jn,jn,jn,jn,jn,jn,jn,jn,jn,jn,jn,jn,jn,jn,jn,jn,jn,jn,jn,jn,jn,jn,jn,jn,jn,jn,jn,jn,jn,jn,jn,jn,jn,jn]) ?_ ?_
 ·refine xG rfl ?_
  refine xA noGo rfl (fun _=>rfl) ((works_ct).mono ?_)
  rintro u L' ⟨rfl,hLL⟩
  have hLL:=hLL.symm
  subst hLL
  refine ⟨_,rfl,?_⟩
  iterate 3 refine xP rfl rh rfl ?_
  refine xP rfl (e_len hims rfl rfl rfl rfl rfl) rfl ?_
  by_cases h1:60 < imgs.length
  ·have hb1:(!ileB ((imgs.length:Nat):Int) 60)=true:=by rw [ileB_eq,decide_eq_false (by omega)]; rfl
   refine xP rfl (e_ib rh (hb1)) rfl ?_
   iterate 2 refine xP rfl rh rfl ?_
   iterate 3 refine xK rfl rfl ?_
   iterate 2 refine xP rfl rh rfl ?_
   iterate 3 refine xK rfl rfl ?_
   refine xP rfl rh rfl ?_
   refine xN ?_
   exact ⟨true,fun h=>(by cases h),rfl,rfl⟩
  have hb1:(!ileB ((imgs.length:Nat):Int) 60)=false:=by rw [ileB_eq,decide_eq_true (by omega)]; rfl
  refine xP rfl (e_ib rh (hb1)) rfl ?_
  iterate 4 refine xP rfl rh rfl ?_
  by_cases h2:100 < k.length
  ·have hb2:(!ileB ((k.length:Nat):Int) 100)=true:=by rw [ileB_eq,decide_eq_false (by omega)]; rfl
   refine xP rfl (e_ib rh (hb2)) rfl ?_
   iterate 2 refine xP rfl rh rfl ?_
   iterate 3 refine xK rfl rfl ?_
   refine xP rfl rh rfl ?_
   refine xN ?_
   exact ⟨true,fun h=>(by cases h),rfl,rfl⟩
  have hb2:(!ileB ((k.length:Nat):Int) 100)=false:=by rw [ileB_eq,decide_eq_true (by omega)]; rfl
  refine xP rfl (e_ib rh (hb2)) rfl ?_
  iterate 6 refine xP rfl rh rfl ?_
  refine xN ?_
  exact ⟨_,fun h=>by omega,rfl,rfl⟩
 rintro a' L' ⟨b,hb,hLL,rfl⟩
 have hLL:=hLL.symm
 subst hLL
 cases b
 case true =>
  repeat refine xQ ?_
  refine xC rfl (fun hc=>?_) (fun hc=>?_)
  ·repeat refine xQ ?_
   refine xG rfl ?_
   refine xA noGo rfl (fun _=>rfl) ((works_ct).mono ?_)
   rintro u L' ⟨rfl,rfl⟩
   refine ⟨_,rfl,?_⟩
   refine xP rfl rh rfl ?_
   refine xN ?_
   refine xT ⟨_,fun _ _=>rfl,?_⟩
   rfl
  ·cases hc
 have h60:=hb rfl
 repeat refine xQ ?_
 refine xC rfl (fun hc=>?_) (fun hc=>?_)
 ·cases hc
 refine LS.skip ?_
 repeat refine xQ ?_
 refine xG rfl ?_
 iterate 2 refine xP rfl rh rfl ?_
 refine xA noGo rfl (fun _=>rfl) ((tOpen_ct him).mono ?_)
 rintro u L1 (⟨h1,rfl,rfl⟩ | ⟨h1,h2,h3,⟨h4,h5,rfl,rfl⟩ | ⟨ro,c,X,m,cnt,rfl,hc1,hc2,hc3,hc4,htr,h5⟩⟩)
 ·refine ⟨_,rfl,?_⟩
  iterate 5 refine xP rfl rh rfl ?_
  refine xN ?_
  repeat refine xQ ?_
  refine xG rfl ?_
  iterate 2 refine xP rfl rh rfl ?_
  refine xN ?_
  repeat refine xQ ?_
  refine xC rfl (fun hc=>?_) (fun hc=>?_)
  ·by_cases hr:root < -1
   ·have hb1:(!ileB (-1) root)=true:=by rw [ileB_eq,decide_eq_false (by omega)]; rfl
    repeat refine xQ ?_
    refine xG rfl ?_
    iterate 10 refine xP rfl rh rfl ?_
    refine xP rfl (e_ib rh (hb1)) rfl ?_
    refine xP rfl rh rfl ?_
    iterate 4 refine xK rfl rfl ?_
    iterate 5 refine xP rfl rh rfl ?_
    refine xN ?_
    refine xT ⟨_,fun _ _=>rfl,?_⟩
    rfl
   ·have hb1:(!ileB (-1) root)=false:=by rw [ileB_eq,decide_eq_true (by omega)]; rfl
    have hb2:ileB ((imgs.length:Nat):Int) root=true:=ileB_iff.2 (by omega)
    repeat refine xQ ?_
    refine xG rfl ?_
    iterate 10 refine xP rfl rh rfl ?_
    refine xP rfl (e_ib rh (hb1)) rfl ?_
    iterate 3 refine xP rfl rh rfl ?_
    refine xP rfl (e_len hims rfl rfl rfl rfl rfl) rfl ?_
    refine xP rfl (e_ib rh (hb2)) rfl ?_
    iterate 5 refine xP rfl rh rfl ?_
    refine xN ?_
    refine xT ⟨_,fun _ _=>rfl,?_⟩
    rfl
  ·cases hc
 ·refine ⟨_,rfl,?_⟩
  iterate 5 refine xP rfl rh rfl ?_
  refine xN ?_
  repeat refine xQ ?_
  refine xG rfl ?_
  iterate 2 refine xP rfl rh rfl ?_
  refine xN ?_
  repeat refine xQ ?_
  refine xC rfl (fun hc=>?_) (fun hc=>?_)
  ·repeat refine xQ ?_
   refine xG rfl ?_
   iterate 6 refine xP rfl rh rfl ?_
   iterate 12 refine xK rfl rfl ?_
   iterate 3 refine xP rfl rh rfl ?_
   refine xN ?_
   refine xT ⟨_,fun _ _=>rfl,?_⟩
   rfl
  ·cases hc
 obtain ⟨P,hg,hcp⟩:∃ P,GoodS m root P/\cnt=P.length:=by
  rcases h5 with ⟨h6,rfl,rfl⟩ | ⟨h6,σ,h7,rfl,rfl⟩
  ·exact ⟨[],by rw [h6]; exact good_00,rfl⟩
  ·obtain ⟨P,h8,_,h9,_⟩:=read_is h7
   exact ⟨P,h8,h9⟩
 clear h5
 subst hcp
 have hPl:P.length<=5040:=by
  have:=good_len hg htr.dom
  rw [hc1] at this
  omega
 have hs:=hg.srt
 refine ⟨_,rfl,?_⟩
 iterate 5 refine xP rfl rh rfl ?_
 refine xN ?_
 repeat refine xQ ?_
 refine xG rfl ?_
 iterate 2 refine xP rfl rh rfl ?_
 refine xN ?_
 repeat refine xQ ?_
 refine xC rfl (fun hc=>?_) (fun hc=>?_)
 ·cases hc
 refine LS.skip ?_
 repeat refine xQ ?_
 refine xG rfl ?_
 refine xP rfl rh rfl ?_
 refine xA noGo rfl (fun _=>rfl) ((tRange_ct (fr:=[]) (to:=[]) htr (htr.memG _ (List.mem_cons_self ..)) hg rfl (by omega)).mono ?_)
 rintro pv L' ⟨Y1,rfl,hv1⟩
 rw [rng_all] at hv1
 refine ⟨_,rfl,?_⟩
 refine xP rfl rh rfl ?_
 refine xN ?_
 obtain ⟨L2,htr2,s2⟩:=TR.pushs Y1 htr
 refine LS.sub s2 ?_
 have hpv:SV 2 L2 pv P.length (prC P):=hv1.sv.mono fun q hq=>htr2.memG _ (List.mem_append_left _ hq)
 have hpvG:SV 2 (Y1++((ro,toRow c.rt)::L)) pv P.length (prC P):=hv1.sv.mono fun q hq=>List.mem_append_left _ hq
 have hroG:(ro,toRow c.rt)∈Y1++((ro,toRow c.rt)::L):=by simp
 generalize Y1++((ro,toRow c.rt)::L)=G2 at htr2 hpvG hroG
 have hro:=htr2.memG _ hroG
 clear htr s2 hv1
 repeat refine xQ ?_
 refine xG rfl ?_
 refine xP rfl rh rfl ?_
 refine xN ?_
 repeat refine xQ ?_
 refine LS.mid [2,3,9,11] (fun a' L'=>L'=L2/\a'=[jn,jn,txt k,txt v,jn,jn,jn,jn,jn,ptr ro,jn,pv,jn,jn,jn,jn,jn,jn,jn,jn,jn,jn,jn,jn,jn,jn,jn,jn,jn,jn,jn,jn,jn,jn,jn,jn,jn,jn,jn,jn,jn,jn,jn,jn,jn,jn,jn,jn,jn,jn,jn,jn,jn,jn,jn,jn,jn,jn,jn,jn,jn,jn,jn,jn,jn,jn,jn,jn,jn,jn,jn,jn,jn,jn,jn,jn,jn,jn,jn,jn,jn,jn,jn,jn,jn,jn,jn,jn,jn,jn,jn,jn,jn,jn,jn,jn,jn,jn,jn,jn,jn,jn,jn,jn,jn,jn,jn,jn,jn,jn,jn,jn,jn,jn,jn,jn,jn,jn,jn,jn,jn,jn,jn,jn,jn,jn,jn,jn,jn,jn,jn,jn,jn,jn,jn,jn,jn,jn,jn,jn,jn,jn,jn,jn,jn,jn,jn,jn,jn,jn,jn,jn,jn,jn,jn,jn,jn,jn,jn,jn,jn,jn,jn,jn,jn,jn,jn,jn,jn,jn,jn,jn,jn,jn,jn]) ?_ ?_
 ·refine LS.block ?_
  refine LS.loopJ [2,3,9,11,12] (fun z a' L'=>∃ i:Nat,z=P.length - i/\i<=P.length/\L'=L2/\a'=[jn,jn,txt k,txt v,jn,jn,jn,jn,jn,ptr ro,jn,pv,.int .i64 (i:Nat),jn,jn,jn,jn,jn,jn,jn,jn,jn,jn,jn,jn,jn,jn,jn,jn,jn,jn,jn,jn,jn,jn,jn,jn,jn,jn,jn,jn,jn,jn,jn,jn,jn,jn,jn,jn,jn,jn,jn,jn,jn,jn,jn,jn,jn,jn,jn,jn,jn,jn,jn,jn,jn,jn,jn,jn,jn,jn,jn,jn,jn,jn,jn,jn,jn,jn,jn,jn,jn,jn,jn,jn,jn,jn,jn,jn,jn,jn,jn,jn,jn,jn,jn,jn,jn,jn,jn,jn,jn,jn,jn,jn,jn,jn,jn,jn,jn,jn,jn,jn,jn,jn,jn,jn,jn,jn,jn,jn,jn,jn,jn,jn,jn,jn,jn,jn,jn,jn,jn,jn,jn,jn,jn,jn,jn,jn,jn,jn,jn,jn,jn,jn,jn,jn,jn,jn,jn,jn,jn,jn,jn,jn,jn,jn,jn,jn,jn,jn,jn,jn,jn,jn,jn,jn,jn,jn,jn,jn,jn,jn,jn,jn]) (n:=P.length) rfl ⟨0,rfl,by omega,rfl,rfl⟩ ?_
  rintro z a' L' ⟨i,rfl,hi,hLL,rfl⟩
  subst hLL
  by_cases hip:i < P.length
  ·have hb:(!ileB ((P.length:Nat):Int) ((i:Nat):Int))=true:=by rw [ileB_eq,decide_eq_false (by omega)]; rfl
   obtain ⟨p,hp⟩:∃ p,P[i]?=some p:=⟨_,List.getElem?_eq_getElem hip⟩
   obtain ⟨g1,g2⟩:=prC_get hp
   have hgv:=getV_some (getP_at hs hp)
   repeat refine xQ ?_
   refine xG rfl ?_
   iterate 2 refine xP rfl rh rfl ?_
   refine xP rfl (e_len hpv rfl rfl rfl rfl rfl) rfl ?_
   refine xP rfl (e_ib rh (hb)) rfl ?_
   refine xN ?_
   repeat refine xQ ?_
   refine xC rfl (fun hc=>?_) (fun hc=>?_)
   ·refine LS.skip ?_
    repeat refine xQ ?_
    refine LS.block ?_
    repeat refine xQ ?_
    refine xG rfl ?_
    iterate 3 refine xP rfl rh rfl ?_
    refine OS.at (j:=i) hpv hip rfl rfl rfl rfl rfl rfl (fun r0 o0 row0 cs0 m0 c0 g0 k0=>⟨_,rfl,?_⟩)
    refine xP rfl rh rfl ?_
    refine xR rfl (e_loadm m0 c0 rfl rfl (part_one rfl (g0 0 _ (by omega) g1))) rfl ?_
    refine xA noGo rfl (fun _=>rfl) ((tGet_ct htr2 hro hg rfl).mono ?_)
    rintro u L' ⟨rfl,hLL⟩
    have hLL:=hLL.symm
    subst hLL
    rw [hgv]
    refine ⟨_,rfl,?_⟩
    iterate 5 refine xP rfl rh rfl ?_
    refine xN ?_
    repeat refine xQ ?_
    refine LS.drawn noGo mixed [(0,false),(1,false),(2,false),(3,false),(4,false),(5,false),(6,false),(7,false),(8,false),(9,false),(10,false),(11,false),(12,false),(13,false),(14,false),(15,false),(16,false),(17,false),(18,false),(19,false),(20,false),(21,false),(22,false),(23,false),(24,false),(25,false),(26,false),(27,false),(28,false)] rfl rfl (by kernel_rfl) ?_
    iterate 6 refine xD rfl rfl rh rfl ?_
    refine ODS.at (j:=i) hpv hip rfl rfl rfl rfl rfl rfl rfl (fun r1 o1 row1 cs1 m1 c1 g3 k1=>⟨_,rfl,?_⟩)
    refine xD rfl rfl rh rfl ?_
    refine xE rfl rfl (e_loadm m1 c1 rfl rfl (part_one rfl (g3 1 _ (by omega) g2))) rfl ?_
    refine xD rfl rfl (e_ib rh ((ne_self' p.2))) rfl ?_
    iterate 3 refine xD rfl rfl rh rfl ?_
    by_cases hi0:i=0
    ·have hb0:(!ileB ((i:Nat):Int) 0)=false:=by rw [hi0]; rfl
     refine xD rfl rfl (e_ib rh (hb0)) rfl ?_
     refine xD rfl rfl rh rfl ?_
     iterate 12 refine xS rfl rfl rfl ?_
     iterate 2 refine xD rfl rfl rh rfl ?_
     refine xM ?_
     repeat refine xQ ?_
     refine xC rfl (fun hc2=>?_) (fun hc2=>?_)
     ·cases hc2
     refine LS.skip ?_
     repeat refine xQ ?_
     refine xG rfl ?_
     refine xP rfl rh rfl ?_
     refine xP rfl (e_addN (n:=1) rfl rfl rfl (in_i64 (by omega) (by omega))) rfl ?_
     refine xP rfl rh rfl ?_
     refine xN ?_
     exact ⟨P.length - (i+1),by omega,i+1,rfl,by omega,rfl,rfl⟩
    ·have hb0:(!ileB ((i:Nat):Int) 0)=true:=by rw [ileB_eq,decide_eq_false (by omega)]; rfl
     obtain ⟨q,hq⟩:∃ q,P[i - 1]?=some q:=⟨_,List.getElem?_eq_getElem (by omega)⟩
     obtain ⟨g5,_⟩:=prC_get hq
     have hlt:(!bytesLt q.1 p.1)=false:=by rw [srt_next hs hq (by rw [show i - 1+1=i by omega]; exact hp)]; rfl
     refine xD rfl rfl (e_ib rh (hb0)) rfl ?_
     iterate 3 refine xD rfl rfl rh rfl ?_
     refine xD rfl rfl (e_subN (m:=i) (n:=1) rfl rfl rfl (by omega) (in_i64 (by omega) (by omega))) rfl ?_
     refine ODS.at (j:=i - 1) hpv (by omega) rfl rfl rfl rfl rfl rfl rfl (fun r2 o2 row2 cs2 m2 c2 g4 k2=>⟨_,rfl,?_⟩)
     refine xD rfl rfl rh rfl ?_
     refine xE rfl rfl (e_loadm m2 c2 rfl rfl (part_one rfl (g4 0 _ (by omega) g5))) rfl ?_
     iterate 2 refine xD rfl rfl rh rfl ?_
     refine ODS.at (j:=i) hpv hip rfl rfl rfl rfl rfl rfl rfl (fun r3 o3 row3 cs3 m3 c3 g6 k3=>⟨_,rfl,?_⟩)
     refine xD rfl rfl rh rfl ?_
     refine xE rfl rfl (e_loadm m3 c3 rfl rfl (part_one rfl (g6 0 _ (by omega) g1))) rfl ?_
     refine xD rfl rfl (e_ib rh (hlt)) rfl ?_
     iterate 2 refine xD rfl rfl rh rfl ?_
     refine xM ?_
     repeat refine xQ ?_
     refine xC rfl (fun hc2=>?_) (fun hc2=>?_)
     ·cases hc2
     refine LS.skip ?_
     repeat refine xQ ?_
     refine xG rfl ?_
     refine xP rfl rh rfl ?_
     refine xP rfl (e_addN (n:=1) rfl rfl rfl (in_i64 (by omega) (by omega))) rfl ?_
     refine xP rfl rh rfl ?_
     refine xN ?_
     exact ⟨P.length - (i+1),by omega,i+1,rfl,by omega,rfl,rfl⟩
   ·cases hc
  ·have hb:(!ileB ((P.length:Nat):Int) ((i:Nat):Int))=false:=by rw [ileB_eq,decide_eq_true (by omega)]; rfl
   repeat refine xQ ?_
   refine xG rfl ?_
   iterate 2 refine xP rfl rh rfl ?_
   refine xP rfl (e_len hpv rfl rfl rfl rfl rfl) rfl ?_
   refine xP rfl (e_ib rh (hb)) rfl ?_
   refine xN ?_
   repeat refine xQ ?_
   refine xC rfl (fun hc=>?_) (fun hc=>?_)
   ·cases hc
   refine LS.exit ?_
   exact ⟨rfl,rfl⟩
 rintro a' L' ⟨hLL,rfl⟩
 have hLL:=hLL.symm
 subst hLL
 repeat refine xQ ?_
 refine xG rfl ?_
 refine xP rfl rh rfl ?_
 refine xP rfl (e_len hpv rfl rfl rfl rfl rfl) rfl ?_
 refine xP rfl rh rfl ?_
 refine xA noGo rfl (fun _=>rfl) ((tLen_ct htr2 hro).mono ?_)
 rintro u L' ⟨rfl,hLL⟩
 have hLL:=hLL.symm
 subst hLL
 refine ⟨_,rfl,?_⟩
 refine xP rfl (e_ib rh ((ne_same _))) rfl ?_
 iterate 2 refine xP rfl rh rfl ?_
 refine xA noGo rfl (fun _=>rfl) ((tDirty_ct htr2 hro hg).mono ?_)
 rintro u L' ⟨ks,cs,Y,D,hch,rfl,hvd,hpd⟩
 rw [hc2] at hch
 have hks:=chg_same hch
 subst hks
 have hv0:SV 2 (Y++(D++L2)) u 0 cs:=hvd.sv.mono fun q hq=>List.mem_append_left _ hq
 refine ⟨_,rfl,?_⟩
 refine xP rfl (e_len hv0 rfl rfl rfl rfl rfl) rfl ?_
 refine OS.sub (Sub.suffix.trans Sub.suffix) ?_
 iterate 2 refine xP rfl rh rfl ?_
 refine xN ?_
 repeat refine xQ ?_
 refine xC rfl (fun hc=>?_) (fun hc=>?_)
 ·cases hc
 refine LS.skip ?_
 clear hv0 hvd hpd hch
 refine xQ ?_
 refine LS.mid [2,9,11] (fun a' L'=>∃ (X':RL) (m':Mem) (root':Int) (P2:List Pr),TR c G2 X' ⟨m',root',(P2.length:Nat)⟩ L'/\GoodS m' root' P2/\(∀ p∈P,p.1≠k->getP P2 p.1≠none)/\a'=[jn,jn,txt k,jn,jn,jn,jn,jn,jn,ptr ro,jn,pv,jn,jn,jn,jn,jn,jn,jn,jn,jn,jn,jn,jn,jn,jn,jn,jn,jn,jn,jn,jn,jn,jn,jn,jn,jn,jn,jn,jn,jn,jn,jn,jn,jn,jn,jn,jn,jn,jn,jn,jn,jn,jn,jn,jn,jn,jn,jn,jn,jn,jn,jn,jn,jn,jn,jn,jn,jn,jn,jn,jn,jn,jn,jn,jn,jn,jn,jn,jn,jn,jn,jn,jn,jn,jn,jn,jn,jn,jn,jn,jn,jn,jn,jn,jn,jn,jn,jn,jn,jn,jn,jn,jn,jn,jn,jn,jn,jn,jn,jn,jn,jn,jn,jn,jn,jn,jn,jn,jn,jn,jn,jn,jn,jn,jn,jn,jn,jn,jn,jn,jn,jn,jn,jn,jn,jn,jn,jn,jn,jn,jn,jn,jn,jn,jn,jn,jn,jn,jn,jn,jn,jn,jn,jn,jn,jn,jn,jn,jn,jn,jn,jn,jn,jn,jn,jn,jn,jn,jn,jn,jn,jn,jn,jn]) ?_ ?_
 ·repeat refine xQ ?_
  refine xG rfl ?_
  iterate 3 refine xP rfl rh rfl ?_
  refine xA noGo rfl (fun _=>rfl) ((tPut_ct (key:=k) (val:=v) htr2 hro hg rfl (by omega) hk hv).mono ?_)
  rintro u L3 (⟨_,rfl,rfl⟩ | ⟨_,_,rfl,rfl⟩ | ⟨_,_,rfl,X3,m3,root3,_,htr3,hg3,_⟩)
  ·refine ⟨_,rfl,?_⟩
   refine xP rfl rh rfl ?_
   refine xN ?_
   repeat refine xQ ?_
   refine xC rfl (fun hc=>?_) (fun hc=>?_)
   ·cases hc
   refine LS.skip ?_
   exact ⟨X,m,root,P,htr2,hg,fun p hp _=>mem_getP hp,rfl⟩
  ·refine ⟨_,rfl,?_⟩
   refine xP rfl rh rfl ?_
   refine xN ?_
   repeat refine xQ ?_
   refine xC rfl (fun hc=>?_) (fun hc=>?_)
   ·cases hc
   refine LS.skip ?_
   exact ⟨X,m,root,P,htr2,hg,fun p hp _=>mem_getP hp,rfl⟩
  ·have hgk:getP (putP k v P) k=some v:=by rw [getP_putP,if_pos rfl]
   have hlen:=putP_len (k:=k) (v:=v) (P:=P)
   refine ⟨_,rfl,?_⟩
   refine xP rfl rh rfl ?_
   refine xN ?_
   repeat refine xQ ?_
   refine xC rfl (fun hc=>?_) (fun hc=>?_)
   ·repeat refine xQ ?_
    refine xG rfl ?_
    iterate 2 refine xP rfl rh rfl ?_
    refine xA noGo rfl (fun _=>rfl) ((tGet_ct (key:=k) htr3 (htr3.memG _ hroG) hg3 rfl).mono ?_)
    rintro u L' ⟨rfl,hLL⟩
    have hLL:=hLL.symm
    subst hLL
    rw [getV_some hgk]
    refine ⟨_,rfl,?_⟩
    iterate 5 refine xP rfl rh rfl ?_
    refine xN ?_
    repeat refine xQ ?_
    refine xG rfl ?_
    iterate 5 refine xP rfl rh rfl ?_
    refine xP rfl (e_ib rh ((ne_self' v))) rfl ?_
    iterate 4 refine xP rfl rh rfl ?_
    refine xA noGo rfl (fun _=>rfl) ((tDel_ct (key:=k) htr3 (htr3.memG _ hroG) hg3 rfl (by omega)).mono ?_)
    rintro u L4 (⟨h7,_⟩ | ⟨_,rfl,X4,m4,root4,_,htr4,hg4,_⟩)
    ·rw [hgk] at h7; cases h7
    ·refine ⟨_,rfl,?_⟩
     iterate 2 refine xP rfl rh rfl ?_
     refine xN ?_
     repeat refine xQ ?_
     refine xC rfl (fun hc2=>?_) (fun hc2=>?_)
     ·cases hc2
     refine LS.skip ?_
     refine ⟨X4,m4,root4,_,htr4,hg4,fun p hp hpk=>?_,rfl⟩
     rw [getP_delP,if_neg hpk,getP_putP,if_neg hpk]
     exact mem_getP hp
   ·cases hc
 rintro a' L3 ⟨X3,m3,root3,P2,htr3,hg3,hall,rfl⟩
 have hpv3:SV 2 L3 pv P.length (prC P):=hpvG.mono htr3.memG
 have hro3:=htr3.memG _ hroG
 clear htr2 hpv hro
 repeat refine xQ ?_
 refine xG rfl ?_
 refine xP rfl rh rfl ?_
 refine xN ?_
 repeat refine xQ ?_
 refine LS.mid [] (fun a' L'=>L'=L3/\a'=[jn,jn,jn,jn,jn,jn,jn,jn,jn,jn,jn,jn,jn,jn,jn,jn,jn,jn,jn,jn,jn,jn,jn,jn,jn,jn,jn,jn,jn,jn,jn,jn,jn,jn,jn,jn,jn,jn,jn,jn,jn,jn,jn,jn,jn,jn,jn,jn,jn,jn,jn,jn,jn,jn,jn,jn,jn,jn,jn,jn,jn,jn,jn,jn,jn,jn,jn,jn,jn,jn,jn,jn,jn,jn,jn,jn,jn,jn,jn,jn,jn,jn,jn,jn,jn,jn,jn,jn,jn,jn,jn,jn,jn,jn,jn,jn,jn,jn,jn,jn,jn,jn,jn,jn,jn,jn,jn,jn,jn,jn,jn,jn,jn,jn,jn,jn,jn,jn,jn,jn,jn,jn,jn,jn,jn,jn,jn,jn,jn,jn,jn,jn,jn,jn,jn,jn,jn,jn,jn,jn,jn,jn,jn,jn,jn,jn,jn,jn,jn,jn,jn,jn,jn,jn,jn,jn,jn,jn,jn,jn,jn,jn,jn,jn,jn,jn,jn,jn,jn,jn,jn,jn,jn,jn,jn]) ?_ ?_
 ·refine LS.block ?_
  refine LS.loopJ [2,9,11,17] (fun z a' L'=>∃ i:Nat,z=P.length - i/\i<=P.length/\L'=L3/\a'=[jn,jn,txt k,jn,jn,jn,jn,jn,jn,ptr ro,jn,pv,jn,jn,jn,jn,jn,.int .i64 (i:Nat),jn,jn,jn,jn,jn,jn,jn,jn,jn,jn,jn,jn,jn,jn,jn,jn,jn,jn,jn,jn,jn,jn,jn,jn,jn,jn,jn,jn,jn,jn,jn,jn,jn,jn,jn,jn,jn,jn,jn,jn,jn,jn,jn,jn,jn,jn,jn,jn,jn,jn,jn,jn,jn,jn,jn,jn,jn,jn,jn,jn,jn,jn,jn,jn,jn,jn,jn,jn,jn,jn,jn,jn,jn,jn,jn,jn,jn,jn,jn,jn,jn,jn,jn,jn,jn,jn,jn,jn,jn,jn,jn,jn,jn,jn,jn,jn,jn,jn,jn,jn,jn,jn,jn,jn,jn,jn,jn,jn,jn,jn,jn,jn,jn,jn,jn,jn,jn,jn,jn,jn,jn,jn,jn,jn,jn,jn,jn,jn,jn,jn,jn,jn,jn,jn,jn,jn,jn,jn,jn,jn,jn,jn,jn,jn,jn,jn,jn,jn,jn,jn,jn,jn,jn,jn,jn,jn,jn]) (n:=P.length) rfl ⟨0,rfl,by omega,rfl,rfl⟩ ?_
  rintro z a' L' ⟨i,rfl,hi,hLL,rfl⟩
  subst hLL
  by_cases hip:i < P.length
  ·have hb:(!ileB ((P.length:Nat):Int) ((i:Nat):Int))=true:=by rw [ileB_eq,decide_eq_false (by omega)]; rfl
   obtain ⟨p,hp⟩:∃ p,P[i]?=some p:=⟨_,List.getElem?_eq_getElem hip⟩
   obtain ⟨g1,g2⟩:=prC_get hp
   repeat refine xQ ?_
   refine xG rfl ?_
   iterate 2 refine xP rfl rh rfl ?_
   refine xP rfl (e_len hpv3 rfl rfl rfl rfl rfl) rfl ?_
   refine xP rfl (e_ib rh (hb)) rfl ?_
   refine xN ?_
   repeat refine xQ ?_
   refine xC rfl (fun hc=>?_) (fun hc=>?_)
   ·refine LS.skip ?_
    repeat refine xQ ?_
    refine LS.block ?_
    repeat refine xQ ?_
    refine xG rfl ?_
    iterate 3 refine xP rfl rh rfl ?_
    refine OS.at (j:=i) hpv3 hip rfl rfl rfl rfl rfl rfl (fun r0 o0 row0 cs0 m0 c0 g0 k0=>⟨_,rfl,?_⟩)
    refine xP rfl rh rfl ?_
    refine xR rfl (e_loadm m0 c0 rfl rfl (part_one rfl (g0 0 _ (by omega) g1))) rfl ?_
    refine xA noGo rfl (fun _=>rfl) ((tGet_ct htr3 hro3 hg3 rfl).mono ?_)
    rintro u L' ⟨rfl,hLL⟩
    have hLL:=hLL.symm
    subst hLL
    cases hgp:getP P2 p.1 with
    | none =>
     have hpk:p.1=k:=Classical.byContradiction fun h=>hall p (List.mem_of_getElem? hp) h hgp
     have hne:(!bytesEq p.1 k)=false:=by rw [hpk]; exact ne_self' k
     rw [getV_none hgp]
     refine ⟨_,rfl,?_⟩
     iterate 5 refine xP rfl rh rfl ?_
     refine xN ?_
     repeat refine xQ ?_
     refine xG rfl ?_
     iterate 5 refine xP rfl rh rfl ?_
     refine OS.at (j:=i) hpv3 hip rfl rfl rfl rfl rfl rfl (fun r1 o1 row1 cs1 m1 c1 g3 k1=>⟨_,rfl,?_⟩)
     refine xP rfl rh rfl ?_
     refine xR rfl (e_loadm m1 c1 rfl rfl (part_one rfl (g3 0 _ (by omega) g1))) rfl ?_
     refine xP rfl rh rfl ?_
     refine xP rfl (e_ib rh (hne)) rfl ?_
     refine xP rfl rh rfl ?_
     refine xN ?_
     repeat refine xQ ?_
     refine xC rfl (fun hc2=>?_) (fun hc2=>?_)
     ·cases hc2
     refine LS.skip ?_
     repeat refine xQ ?_
     refine xG rfl ?_
     refine xP rfl rh rfl ?_
     refine xP rfl (e_addN (n:=1) rfl rfl rfl (in_i64 (by omega) (by omega))) rfl ?_
     refine xP rfl rh rfl ?_
     refine xN ?_
     exact ⟨P.length - (i+1),by omega,i+1,rfl,by omega,rfl,rfl⟩
    | some x =>
     rw [getV_some hgp]
     refine ⟨_,rfl,?_⟩
     iterate 5 refine xP rfl rh rfl ?_
     refine xN ?_
     repeat refine xQ ?_
     refine xG rfl ?_
     iterate 3 refine xP rfl rh rfl ?_
     iterate 7 refine xK rfl rfl ?_
     refine xP rfl rh rfl ?_
     refine xN ?_
     repeat refine xQ ?_
     refine xC rfl (fun hc2=>?_) (fun hc2=>?_)
     ·cases hc2
     refine LS.skip ?_
     repeat refine xQ ?_
     refine xG rfl ?_
     refine xP rfl rh rfl ?_
     refine xP rfl (e_addN (n:=1) rfl rfl rfl (in_i64 (by omega) (by omega))) rfl ?_
     refine xP rfl rh rfl ?_
     refine xN ?_
     exact ⟨P.length - (i+1),by omega,i+1,rfl,by omega,rfl,rfl⟩
   ·cases hc
  ·have hb:(!ileB ((P.length:Nat):Int) ((i:Nat):Int))=false:=by rw [ileB_eq,decide_eq_true (by omega)]; rfl
   repeat refine xQ ?_
   refine xG rfl ?_
   iterate 2 refine xP rfl rh rfl ?_
   refine xP rfl (e_len hpv3 rfl rfl rfl rfl rfl) rfl ?_
   refine xP rfl (e_ib rh (hb)) rfl ?_
   refine xN ?_
   repeat refine xQ ?_
   refine xC rfl (fun hc=>?_) (fun hc=>?_)
   ·cases hc
   refine LS.exit ?_
   exact ⟨rfl,rfl⟩
 rintro a' L' ⟨rfl,rfl⟩
 repeat refine xQ ?_
 refine xG rfl ?_
 refine xP rfl rh rfl ?_
 refine xN ?_
 refine xT ⟨_,fun _ _=>rfl,?_⟩
 rfl
end Go.Proofs.YtlmmddfhoabjfaaGreat
end
section
namespace Go.Proofs.YtlmmddfhoabjfaaGreat
open Go.Am
theorem bytes_allFlat:∀ bs:List UInt8,allFlat (bs.map byteV)=true
 | []=>rfl
 | b::bs=>by simp only [List.map_cons,allFlat]; exact bytes_allFlat bs
end Go.Proofs.YtlmmddfhoabjfaaGreat
end
section
namespace Go.Proofs.YtlmmddfhoabjfaaGreat
open Go.ChangeShapes Go.WideShapes Go.ChangeAt Go.RowKit
def PageOk (w:World) (vb:Value) (bs:List UInt8):Prop:=(vb=.slice none 0 0/\bs=[])∨∃ a len cap,vb=.slice (some a) len cap/\len<=cap/\cap<=maxLen/\bs.length=len/\(cap≠0->a.spot=none/\a.block < w.heap.size)/\(∀ i z,bs[i]?=some z->w.cell? (a.add i)=some (byteV z))
theorem cell_here {w:World} {a:Addr} {v:Value} (h:w.cell? (a.add 0)=some v):a.spot=none/\a.block < w.heap.size:=by
 have h:w.cell? a=some v:=h
 unfold World.cell? at h
 split at h
 ·rename_i hb
  split at h
  ·cases h
  ·rename_i hs
   refine ⟨by simpa using hs,(Array.getElem?_eq_some_iff.1 hb).1⟩
 ·cases h
section
variable {H:Type} {enc:TypeId × Value->H} {P:Program} {W:World} {r:Reach} {b0:Nat}
theorem page_of {t e:TypeId} {fuel:Nat} {v:Value} {x:DataW H × List MemPlace} (ht:P.underlying t=some (.slice e)) (he:P.underlying e=some (.int .u8)) (hC:P.cellsOf e=1) (hB:P.bytesOf e=1)
  (h:DataW.trod enc P W 0 (fun _=>true) true fuel t [v]=some x):∃ bs,PageOk W v bs/\((∀ m∈x.1.weights P t,m<=reachBytes)->bs.length<=reachBytes):=by
 rcases open_ints ht he hC h with ⟨hcs,_⟩ | ⟨a,l,cap,zs,hcs,_,hl,hm,hz,hx,hcell,hwz⟩
 ·exact ⟨[],.inl ⟨by simpa using hcs,rfl⟩,fun _=>Nat.zero_le _⟩
 ·have hcs:v=.slice (some a) l cap:=by simpa using hcs
  have hzc:zs.length=cap:=by simpa using hz
  refine ⟨(zs.take l).map fun z=>UInt8.ofNat z.toNat,.inr ⟨a,l,cap,hcs,hl,hm,by simp; omega,fun h0=>cell_here (hcell 0 (by omega)),fun i z hi=>?_⟩,fun hw=>?_⟩
  ·rw [List.getElem?_map,List.getElem?_take] at hi
   split at hi
   ·rename_i hil
    have hilz:i < zs.length:=by omega
    rw [List.getElem?_eq_getElem hilz] at hi
    simp only [Option.map_some,Option.some.injEq] at hi
    subst hi
    rw [hcell i hilz]
    have hw:=wf_u8 (hwz _ (List.getElem_mem hilz))
    have:zs.getD i 0=zs[i]:=by simp [hilz]
    rw [this]
    unfold byteV
    rw [show (UInt8.ofNat zs[i].toNat).toNat=zs[i].toNat by simp; omega,show ((zs[i].toNat:Nat):Int)=zs[i] by omega]
   ·simp at hi
  ·rw [hx] at hw
   have:=hw ((lits (H:=H) .u8 (zs.take l)).length * 1+(lits (H:=H) .u8 (zs.drop l)).length * 1) (by simp [DataW.weights,ht,hB])
   simp [lits] at this ⊢
   omega
theorem open_pages {t e ei:TypeId} (hsl:P.underlying t=some (.slice e)) (he:P.underlying e=some (.slice ei)) (hei:P.underlying ei=some (.int .u8)) (hC:P.cellsOf e=1) (hCi:P.cellsOf ei=1) (hBi:P.bytesOf ei=1)
  {v:Value} {d:DataW H} {p:List MemPlace} (hv:Value.okWide P W r b0 t v) (h:DataW.Trod enc P W 0 (fun _=>true) true t v d p) (hz:∀ m∈d.weights P t,m<=reachBytes) :
  ∃ (A:Option Addr) (n c:Nat) (ts:List (Value × List UInt8)),v=.slice A n c/\ts.length=n/\(∀ t∈ts,PageOk W t.1 t.2/\t.2.length<=reachBytes)/\n<=c/\c<=maxLen/\(0 < n->∃ a,A=some a/\a.block < W.heap.size/\∀ j u,(ts.map Prod.fst)[j]?=some u->W.cell? (a.add j)=some u):=by
 obtain ⟨A,n,c,rfl⟩:=okWide_slice hsl hv
 obtain ⟨fuel,hf⟩:=h
 rcases Go.Deep.open_slice hsl hf with ⟨hcs,_⟩ | ⟨a,len,cap,m,q,D,Pl,hcs,hb,hl,hm,hmm,hx,hi⟩
 ·simp [Value.cells] at hcs
  obtain ⟨rfl,rfl,rfl⟩:=hcs
  exact ⟨none,0,0,[],rfl,rfl,by simp,Nat.le_refl _,Nat.zero_le _,fun h=>absurd h (Nat.lt_irrefl _)⟩
 ·simp [Value.cells] at hcs
  obtain ⟨rfl,rfl,rfl⟩:=hcs
  have hmc:m=c:=by simpa using hmm
  subst hmc
  have hx1:d=.slice ((List.range n).map D) ((List.range (m - n)).map fun j=>D (n+j)):=by
   injection hx
  have hth:∀ i,∃ b:Value × List UInt8,(i < n->PageOk W b.1 b.2/\b.2.length<=reachBytes)/\(i < m->W.cell? (a.add i)=some b.1):=by
   intro i
   by_cases him:i < m
   ·obtain ⟨cs',hcl,htr⟩:=hi i him
    rw [hC] at hcl
    obtain ⟨_,hl1,hat⟩:=World.cells?_some hcl
    match cs',hl1 with
    | [u],_ =>
     obtain ⟨bs,hbk,hbz⟩:=page_of he hei hCi hBi htr
     refine ⟨⟨u,bs⟩,fun hin=>⟨hbk,hbz fun q hq=>hz q ?_⟩,fun _=>?_⟩
     ·rw [hx1]
      simp only [DataW.weights,hsl]
      exact List.mem_cons_of_mem _ (List.mem_append_left _ (mem_weightsAll (List.mem_map.2 ⟨i,List.mem_range.2 hin,rfl⟩) hq))
     ·have:=hat 0 (by omega)
      rw [Nat.mul_one] at this
      exact this
   ·exact ⟨⟨.slice none 0 0,[]⟩,fun _=>⟨.inl ⟨rfl,rfl⟩,Nat.zero_le _⟩,fun h=>absurd h him⟩
  let f:Nat->Value × List UInt8:=fun i=>Classical.choose (hth i)
  have hf1:∀ i,i < n->PageOk W (f i).1 (f i).2/\(f i).2.length<=reachBytes:=fun i=>(Classical.choose_spec (hth i)).1
  have hf2:∀ i,i < m->W.cell? (a.add i)=some (f i).1:=fun i=>(Classical.choose_spec (hth i)).2
  have key:∀ j u,(((List.range n).map f).map Prod.fst)[j]?=some u->W.cell? (a.add j)=some u:=by
   intro j u hu
   rw [List.getElem?_map,List.getElem?_map] at hu
   by_cases hj:j < n
   ·rw [List.getElem?_range hj] at hu
    simp only [Option.map_some,Option.some.injEq] at hu
    rw [hf2 j (by omega),hu]
   ·rw [List.getElem?_eq_none (by simp; omega)] at hu
    simp at hu
  refine ⟨some a,n,m,(List.range n).map f,rfl,by simp,fun b hb=>?_,hl,hm,fun hn=>⟨a,rfl,?_,key⟩⟩
  ·obtain ⟨i,hir,rfl⟩:=List.mem_map.1 hb
   exact hf1 i (List.mem_range.1 hir)
  ·have:=cell_lt (hf2 0 (by omega))
   rwa [add_block] at this
end
end Go.Proofs.YtlmmddfhoabjfaaGreat
namespace Go.Am
open Go.Proofs.YtlmmddfhoabjfaaGreat
section
variable {P:Program} {ρ:Env} {h:AW} {w:World} {L:RL}
theorem enter1R (HR:HRel P ρ h w) (ro:∀ r row,h.get r=some row->row.own=false) (H:Has h L) (l:Loc) (cs:List Value) (hb:l.block < w.heap.size)
  (hc:∀ i v,cs[i]?=some v->∃ u,w.cell? ⟨l.block,l.base+i,none⟩=some u/\VRel ρ v u) :
  ∃ r ρ' h',ρ.le ρ'/\ρ' r=some l/\HRel P ρ' h' w/\(∀ r row,h'.get r=some row->row.own=false)/\Has h' ((r,.ro cs)::L):=by
 obtain ⟨h',e⟩:=h.new_some (.ro cs)
 obtain ⟨_,hg,hn,hs⟩:=new_eq e
 have hnone:ρ h.next=none:=HR.fresh0
 have le:=upd_le (l:=l) hnone
 have ro':∀ r row,h'.get r=some row->row.own=false:=fun r row hr=>by
  rw [hg] at hr
  split at hr
  ·simp at hr; subst hr; rfl
  ·exact ro r row hr
 refine ⟨h.next,upd ρ h.next l,h',le,by simp [upd],⟨fun r row hr=>?_,fun r r' row row' l₁ l₂ h1 h2 _ _ _ ho=>?_,fresh_upd HR rfl hn hs,by rw [hs]; exact HR.step⟩,ro',H.new e⟩
 ·rw [hg] at hr
  split at hr
  ·simp at hr; subst hr; subst_vars
   exact ⟨l,by simp [upd],hb,fun i v hv=>let ⟨u,a,b⟩:=hc i v hv; ⟨u,a,b.mono le⟩⟩
  ·obtain ⟨l',hl',hr'⟩:=HR.loc r row hr
   exact ⟨l',le _ _ hl',hr'.keep le rfl⟩
 ·rw [ro' r row h1,ro' r' row' h2] at ho; simp at ho
theorem enter_page (HR:HRel P ρ h w) (ro:∀ r row,h.get r=some row->row.own=false) (H:Has h L) {vb:Value} {bs:List UInt8} (hi:PageOk w vb bs) (blk:Nat) (hblk:blk < w.heap.size) :
  ∃ u ρ' h' L',ρ.le ρ'/\VRel ρ' u vb/\HRel P ρ' h' w/\(∀ r row,h'.get r=some row->row.own=false)/\Has h' L'/\RO 1 L' u bs.length (bs.map byteV)/\(∀ p,p∈L->p∈L'):=by
 rcases hi with ⟨rfl,rfl⟩ | ⟨a,len,cap,rfl,hl,hm,hz,hs,hcell⟩
 ·exact ⟨.slice none 0 0,ρ,h,L,Env.le_refl _,.sliceNil,HR,ro,H,.inl ⟨rfl,rfl,rfl⟩,fun _ hp=>hp⟩
 ·subst hz
  by_cases hc0:cap=0
  ·subst hc0
   have hz0:bs=[]:=List.eq_nil_of_length_eq_zero (by omega)
   subst hz0
   obtain ⟨r,ρ',h',le,hr,HR',ro',H'⟩:=enter1R HR ro H ⟨blk,0,0,0⟩ [] hblk (fun i v hv=>by simp at hv)
   exact ⟨.slice (some ⟨r,0,none⟩) 0 0,ρ',h',_,le,.slice (Nat.le_refl _) (fun _=>rfl) (fun h=>absurd rfl h),HR',ro',H',.inr ⟨r,0,rfl,Nat.le_refl _,by unfold openCap; omega,List.mem_cons_self ..,rfl⟩,fun p hp=>List.mem_cons_of_mem _ hp⟩
  ·obtain ⟨hsp,hbk⟩:=hs hc0
   obtain ⟨u,ρ',h',L',le,vr,HR',ro',H',R,sb⟩:=enter_slice (sz:=1) (n:=bs.length) (c:=cap) (cs:=bs.map byteV) HR ro H (.inr ⟨a,rfl,hsp,hbk,hl,by unfold maxLen at hm; unfold openCap; omega⟩) (by simp) (bytes_allFlat bs) (fun _=>⟨a,rfl,fun j u hu=>by
    rw [List.getElem?_map] at hu
    cases hzj:bs[j]? with
    | none=>rw [hzj] at hu; cases hu
    | some z=>rw [hzj] at hu; simp at hu; subst hu; exact hcell j z hzj⟩)
   exact ⟨u,ρ',h',L',le,vr,HR',ro',H',R,sb⟩
theorem enter_each (blk:Nat) (hblk:blk < w.heap.size):∀ {ts:List (Value × List UInt8)} {ρ:Env} {h:AW} {L:RL},(∀ t∈ts,PageOk w t.1 t.2)->HRel P ρ h w->(∀ r row,h.get r=some row->row.own=false)->Has h L →
  ∃ (us:List Value) (ρ':Env) (h':AW) (L':RL),us.length=ts.length/\ρ.le ρ'/\HRel P ρ' h' w/\(∀ r row,h'.get r=some row->row.own=false)/\Has h' L'/\(∀ p,p∈L->p∈L') /\
   ∀ (i:Nat) (t:Value × List UInt8) (u:Value),ts[i]?=some t->us[i]?=some u->VRel ρ' u t.1/\RO 1 L' u t.2.length (t.2.map byteV)
 | [],ρ,h,L,_,HR,ro,H=>⟨[],ρ,h,L,rfl,Env.le_refl _,HR,ro,H,fun _ hp=>hp,fun i t u ht=>by simp at ht⟩
 | t::ts,ρ,h,L,hok,HR,ro,H=>by
  obtain ⟨u,ρ1,h1,L1,le1,vr1,HR1,ro1,H1,R1,sb1⟩:=enter_page HR ro H (hok t (List.mem_cons_self ..)) blk hblk
  obtain ⟨us,ρ2,h2,L2,hlen,le2,HR2,ro2,H2,sb2,all⟩:=enter_each blk hblk (ts:=ts) (fun t ht=>hok t (List.mem_cons_of_mem _ ht)) HR1 ro1 H1
  refine ⟨u::us,ρ2,h2,L2,by simp [hlen],(fun r l h=>le2 r l (le1 r l h)),HR2,ro2,H2,fun p hp=>sb2 p (sb1 p hp),fun i t' u' ht hu=>?_⟩
  cases i with
  | zero=>simp at ht hu; subst ht; subst hu; exact ⟨vr1.mono le2,R1.mono sb2⟩
  | succ i=>simp at ht hu; exact all i t' u' ht hu
theorem enter_pages (HR:HRel P ρ h w) (ro:∀ r row,h.get r=some row->row.own=false) (H:Has h L) {A:Option Addr} {n c:Nat} {ts:List (Value × List UInt8)} (hA:(A=none/\n=0/\c=0)∨∃ a,A=some a/\a.spot=none/\a.block < w.heap.size/\n<=c/\c < openCap)
  (hl:ts.length=n) (hok:∀ t∈ts,PageOk w t.1 t.2/\t.2.length<=reachBytes) (hc:0 < n->∃ a,A=some a/\a.block < w.heap.size/\∀ j u,(ts.map Prod.fst)[j]?=some u->w.cell? (a.add j)=some u) :
  ∃ (v:Value) (ρ':Env) (h':AW) (L':RL) (us:List Value),ρ.le ρ'/\VRel ρ' v (.slice A n c)/\HRel P ρ' h' w/\(∀ r row,h'.get r=some row->row.own=false)/\Has h' L'/\RO 1 L' v n us/\(∀ p,p∈L->p∈L') /\
   (∀ (i:Nat) (t:Value × List UInt8),ts[i]?=some t->∃ u,us[i]?=some u/\RO 1 L' u t.2.length (t.2.map byteV)):=by
 rcases Nat.eq_zero_or_pos n with h0 | hpos
 ·subst h0
  have hts:ts=[]:=List.eq_nil_of_length_eq_zero hl
  subst hts
  obtain ⟨v,ρ',h',L',le,vr,HR',ro',H',R,sb⟩:=enter_slice (sz:=1) (n:=0) (c:=c) (cs:=[]) HR ro H hA rfl rfl (fun h=>absurd h (Nat.lt_irrefl _))
  exact ⟨v,ρ',h',L',[],le,vr,HR',ro',H',R,sb,fun i t ht=>by simp at ht⟩
 ·obtain ⟨a,rfl,hblk,hcell⟩:=hc hpos
  obtain ⟨us,ρ1,h1,L1,hus,le1,HR1,ro1,H1,sb1,all⟩:=enter_each a.block hblk (ts:=ts) (fun t ht=>(hok t ht).1) HR ro H
  rcases hA with ⟨h,_⟩ | ⟨a',ha',hsp,_,hnc,hco⟩
  ·cases h
  ·simp at ha'
   subst ha'
   obtain ⟨bl,off,spot⟩:=a
   simp only at hsp
   subst hsp
   obtain ⟨r,ρ2,h2,le2,hr,HR2,ro2,H2⟩:=enter1R HR1 ro1 H1 ⟨bl,off,0,0⟩ us hblk (fun i v hv=>by
    have hi:=(List.getElem?_eq_some_iff.1 hv).1
    have hit:i < ts.length:=by omega
    have ht:=List.getElem?_eq_getElem hit
    have h5:=hcell i (ts[i]).1 (by rw [List.getElem?_map,ht]; rfl)
    rw [add_eq] at h5
    exact ⟨_,h5,(all i _ v ht hv).1⟩)
   refine ⟨.slice (some ⟨r,0,none⟩) n c,ρ2,h2,_,us,(fun r l h=>le2 r l (le1 r l h)),?_,HR2,ro2,H2,.inr ⟨r,c,rfl,hnc,hco,List.mem_cons_self ..,by omega⟩,fun p hp=>List.mem_cons_of_mem _ (sb1 p hp),fun i t ht=>?_⟩
   ·exact .slice hnc (fun _=>rfl) fun _=>⟨_,hr,rfl,fun hh=>by omega⟩
   ·have hi:=(List.getElem?_eq_some_iff.1 ht).1
    have hu:us[i]?=some us[i]:=List.getElem?_eq_getElem (by omega)
    exact ⟨_,hu,(all i t _ ht hu).2.mono (fun p hp=>List.mem_cons_of_mem _ hp)⟩
end
end Go.Am
end
section
namespace Go.Proofs.YtlmmddfhoabjfaaGreat
open Go.Am Go.RowKit
theorem imgR_of {L:RL} {v:Value} {n:Nat} {us:List Value} {ts:List (Value × List UInt8)} (hR:RO 1 L v n us) (hl:ts.length=n) (hm:∀ (i:Nat) (t:Value × List UInt8),ts[i]?=some t->∃ u,us[i]?=some u/\RO 1 L u t.2.length (t.2.map byteV)):ImgR L v (ts.map Prod.snd):=by
 refine ⟨us,by rw [List.length_map,hl]; exact hR.sv,fun i hi=>?_⟩
 rw [List.length_map] at hi
 have ht:ts[i]?=some ts[i]:=List.getElem?_eq_getElem hi
 obtain ⟨u,h1,h2⟩:=hm i _ ht
 refine ⟨u,h1,?_⟩
 rw [show (ts.map Prod.snd).getD i []=ts[i].2 by simp [hi]]
 refine .inr ⟨h2.sv,fun r off cap h=>?_⟩
 rcases h2 with ⟨rfl,h3,h4⟩ | ⟨r',cap',rfl,h3,h4,h5,h6⟩
 ·cases h
 ·cases h
  exact ⟨h4,h3⟩
end Go.Proofs.YtlmmddfhoabjfaaGreat
end
