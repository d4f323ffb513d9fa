/- What the proofs lean on, part 6. -/
import Derived.Test.YtlmmddfhoabjfaaGreatN5
import Derived.WalkKit
import Derived.WalkSpells
import Derived.WalkLawsBesides
import Derived.Maps.AppendAt
import Derived.Deep.AppendLies
import Derived.Deep.Draws
import Derived.Deep.QuietTactic
import Derived.BigQuiet
import Derived.Laws.Rows
import Derived.OwnWalk
import Derived.Lib.Hide
import Derived.ProofKit
import Derived.OpenShut
import Derived.ShutString
import Derived.ChangeOld
import Derived.Deep.Slices
import Derived.Deep.Fields
import Derived.ChangeSame
import Derived.Lib.SmallJoins
import Derived.SizedLaws
import Derived.ChangeArms
set_option linter.unusedVariables false
set_option maxRecDepth 20000
section
namespace Go.Proofs.YtlmmddfhoabjfaaGreat
open Go.Am
def ImgV (M:RL) (N:Nat) (vs:List Value) (imgs:List Tx):Prop:=imgs.length=N/\∀ i,i < N->∃ w,vs[i]?=some w/\BV M w (imgs.getD i [])
theorem ImgV.mono {M M':RL} {N:Nat} {vs:List Value} {imgs:List Tx} (h:ImgV M N vs imgs) (hm:∀ p,p∈M->p∈M'):ImgV M' N vs imgs :=
 ⟨h.1,fun i hi=>let ⟨w,h1,h2⟩:=h.2 i hi; ⟨w,h1,h2.mono hm⟩⟩
theorem ImgV.r {M I F:RL} {N:Nat} {v:Value} {vs:List Value} {imgs:List Tx} (h:ImgV M N vs imgs) (g:GV 30 1 [] v N vs I) (hI:∀ p,p∈I->p∈F) (hM:∀ p,p∈M->p∈F):ImgR F v imgs:=by
 obtain ⟨h1,h2⟩:=h
 subst h1
 exact ⟨vs,g.sv.mono hI,fun i hi=>let ⟨w,h3,h4⟩:=h2 i hi; ⟨w,h3,h4.mono hM⟩⟩
abbrev zpg:Tx:=List.replicate 256 0
set_option maxHeartbeats 1000000 in
theorem blankP_ct {L:RL} (n:Nat) (hn:n<=1000):CS Tryz.prog 11 [.int .i64 (n:Nat)] L fun u L'=>∃ vs I M,L'=I++(M++L)/\GV 30 1 [] u n vs I/\ImgV M n vs (List.replicate n zpg):=by
 refine CS.mk (fn:=Tryz.f11) rfl rfl rfl rfl ?_
 repeat refine xQ ?_
 refine xG rfl ?_
 refine xP rfl rh rfl ?_
 refine xN ?_
 repeat refine xQ ?_
 refine xG rfl ?_
 refine xP rfl rh rfl ?_
 refine xN ?_
 repeat refine xQ ?_
 refine xG rfl ?_
 refine xP rfl rh rfl ?_
 refine xN ?_
 repeat refine xQ ?_
 refine LS.mid [3] (fun a' L'=>∃ w vs I M,L'=I++(M++L)/\GV 30 1 [] w n vs I/\ImgV M n vs (List.replicate n zpg)/\a'=[jn,jn,jn,w,jn,jn,jn,jn,jn,jn,jn,jn,jn,jn,jn]) ?_ ?_
 ·refine LS.block ?_
  refine LS.loopJ [0,3,4] (fun z a' L'=>∃ (i:Nat) (w:Value) (vs:List Value) (I M:RL),z=n - i/\i<=n/\L'=I++(M++L)/\GV 30 1 [] w i vs I/\ImgV M i vs (List.replicate i zpg)/\a'=[.int .i64 (n:Nat),jn,jn,w,.int .i64 (i:Nat),jn,jn,jn,jn,jn,jn,jn,jn,jn,jn]) (n:=n) rfl ⟨0,_,[],[],[],rfl,by omega,rfl,.inl ⟨rfl,rfl,rfl,rfl⟩,⟨rfl,fun i hi=>by omega⟩,rfl⟩ ?_
  rintro z a' L' ⟨i,w,vs,I,M,rfl,hi,rfl,hw,him,rfl⟩
  by_cases hin:i < n
  ·have hb:(!ileB ((n:Nat):Int) ((i:Nat):Int))=true:=by rw [ileB_eq,decide_eq_false (by omega)]; rfl
   have hvl:vs.length=i:=by have:=hw.sv.len; omega
   repeat refine xQ ?_
   refine xG rfl ?_
   iterate 2 refine xP rfl rh rfl ?_
   refine xP rfl (e_ib rh (hb)) rfl ?_
   refine xN ?_
   repeat refine xQ ?_
   refine xC rfl (fun hc=>?_) (fun hc=>?_)
   ·refine LS.skip ?_
    repeat refine xQ ?_
    refine LS.block ?_
    repeat refine xQ ?_
    refine xG rfl ?_
    refine xP rfl rh rfl ?_
    refine OS.fresh rfl (e_make (l:=256) (c:=256) (e:=5) (sz:=1) (bts:=1) (zs:=[.int .u8 0]) rfl rfl rfl rfl (by omega) (by omega) (by omega)) (fun _=>rfl) (fun r=>?_)
    refine OS.fresh rfl (e_new (fun _=>rfl) rfl) (fun _=>rfl) (fun rz=>?_)
    refine OS.turns rfl (e_appendGA [(rz,.cells 30 [.slice (some ⟨r,0,none⟩) 256 256]),(r,.cells 5 (repL [.int .u8 0] 256))] (M++L) (e:=30) (sz:=1) (bts:=24) (m:=1) (new:=[.slice (some ⟨r,0,none⟩) 256 256]) hw (SV.row (sz:=1) (n:=1) (List.mem_cons_self ..) rfl) rfl rfl rfl rfl (by omega) (by omega)) (fun w2 L₁ hR=>?_)
    obtain ⟨I2,h2,rfl⟩:=hR
    refine ⟨_,rfl,?_⟩
    refine OS.sub (Sub.sums2 ([(rz,.cells 30 [.slice (some ⟨r,0,none⟩) 256 256])]) (A:=I2++(((r,.cells 5 (repL [.int .u8 0] 256))::M)++L)) (B:=I2++([(rz,.cells 30 [.slice (some ⟨r,0,none⟩) 256 256]),(r,.cells 5 (repL [.int .u8 0] 256))]++(M++L))) fun f=>by simp []<;>omega) ?_
    refine xP rfl rh rfl ?_
    refine xN ?_
    repeat refine xQ ?_
    refine xG rfl ?_
    refine xP rfl rh rfl ?_
    refine xP rfl (e_addN (n:=1) rfl rfl rfl (in_i64 (by omega) (by omega))) rfl ?_
    refine xP rfl rh rfl ?_
    refine xN ?_
    refine ⟨n - (i+1),by omega,i+1,w2,_,I2,_,rfl,by omega,rfl,h2,⟨by simp,fun j hj=>?_⟩,rfl⟩
    by_cases hji:j < i
    ·obtain ⟨u,h3,h4⟩:=him.2 j hji
     refine ⟨u,by rw [List.getElem?_append_left (by omega)]; exact h3,?_⟩
     rw [show (List.replicate (i+1) zpg).getD j []=(List.replicate i zpg).getD j [] by simp [List.getD_eq_getElem?_getD,hji,show j < i+1 by omega]]
     exact h4.mono fun p hp=>List.mem_cons_of_mem _ hp
    ·have hji2:j=i:=by omega
     subst hji2
     refine ⟨_,by rw [List.getElem?_append_right (by omega),hvl,Nat.sub_self]; rfl,?_⟩
     rw [show (List.replicate (j+1) zpg).getD j []=zpg by simp [List.getD_eq_getElem?_getD]]
     refine .inr ⟨?_,fun r' off cap h=>by cases h; exact ⟨by unfold openCap; omega,by simp⟩⟩
     rw [← repL_u8]
     exact SV.row (e:=5) (List.mem_cons_self ..) (by rw [repL_u8,byteCells_len]; simp)
   ·cases hc
  ·have hb:(!ileB ((n:Nat):Int) ((i:Nat):Int))=false:=by rw [ileB_eq,decide_eq_true (by omega)]; rfl
   repeat refine xQ ?_
   refine xG rfl ?_
   iterate 2 refine xP rfl rh rfl ?_
   refine xP rfl (e_ib rh (hb)) rfl ?_
   refine xN ?_
   repeat refine xQ ?_
   refine xC rfl (fun hc=>?_) (fun hc=>?_)
   ·cases hc
   refine LS.exit ?_
   have hin2:i=n:=by omega
   subst hin2
   exact ⟨w,vs,I,M,rfl,hw,him,rfl⟩
 rintro a' L' ⟨w,vs,I,M,rfl,hw,him,rfl⟩
 repeat refine xQ ?_
 refine xG rfl ?_
 iterate 2 refine xP rfl rh rfl ?_
 refine xN ?_
 refine xT ⟨_,fun _ _=>rfl,?_⟩
 exact ⟨vs,I,M,rfl,hw,him⟩
end Go.Proofs.YtlmmddfhoabjfaaGreat
end
section
namespace Go.Proofs.YtlmmddfhoabjfaaGreat
open Go.Am
theorem good_00:GoodS m00 (-1) []:=.inl ⟨rfl,fun _=>rfl,rfl⟩
end Go.Proofs.YtlmmddfhoabjfaaGreat
end
section
namespace Go.Am
def easy:Value->Bool
 | .pointer (some ⟨_,_,none⟩)=>true
 | .map (some _)=>true
 | .slice (some ⟨_,_,none⟩) _ c=>!(Nat.beq c openCap)
 | v=>flat v
def allEasy:List Value->Bool
 | []=>true
 | v::vs=>easy v && allEasy vs
def easyRow:ARow->Bool
 | .cells _ cs=>allEasy cs
 | .map es _=>allEasy (es.map (·.key)) && allEasy (es.map (·.val))
 | _=>false
theorem allEasy_get:∀ {cs:List Value} {i:Nat} {v:Value},allEasy cs=true->cs[i]?=some v->easy v=true
 | [],i,v,_,h=>by simp at h
 | c::cs,0,v,h,e=>by
  simp only [allEasy,Bool.and_eq_true] at h
  simp at e; subst e; exact h.1
 | c::cs,i+1,v,h,e=>by
  simp only [allEasy,Bool.and_eq_true] at h
  exact allEasy_get h.2 (by simpa using e)
section
variable {P:Program} {ρ ρ₁:Env} {h hl h₁:AW} {w w₁:World}
theorem VRel.back {v u₀ u:Value} (he:easy v=true) (h0:VRel ρ v u₀) (le:ρ.le ρ₁) (h1:VRel ρ₁ v u):VRel ρ v u:=by
 cases h0 with
 | ptr hr =>
  cases h1 with
  | ptr hr1 =>
   have:=le _ _ hr
   rw [this] at hr1; simp only [Option.some.injEq] at hr1; subst hr1
   exact .ptr hr
 | map hr =>
  cases h1 with
  | map hr1 =>
   have:=le _ _ hr
   rw [this] at hr1; simp only [Option.some.injEq] at hr1; subst hr1
   exact .map hr
 | ptrNil=>cases h1; exact .ptrNil
 | mapNil=>cases h1; exact .mapNil
 | bool b=>cases h1; exact .bool b
 | int k n=>cases h1; exact .int k n
 | string s=>cases h1; exact .string s
 | sliceNil=>cases h1; exact .sliceNil
 | nilFunc=>cases h1; exact .nilFunc
 | nilIface=>cases h1; exact .nilIface
 | slice a0 b0 c0 =>
  simp only [easy,Bool.not_eq_true'] at he
  have hne:=of_beq_f he
  cases h1 with
  | slice a1 b1 c1 =>
   refine .slice a1 b1 fun hz=>?_
   obtain ⟨l,e1,e2,e3⟩:=c1 hz
   have k0:=b0 hne
   have k1:=b1 hne
   obtain ⟨l0,f1,_,_⟩:=c0 (by omega)
   have:=le _ _ f1
   rw [this] at e1; simp only [Option.some.injEq] at e1; subst e1
   exact ⟨l0,f1,e2,e3⟩
 | yield _=>simp [easy,flat] at he
 | func _ _ _=>simp [easy,flat] at he
 | iface _=>simp [easy,flat] at he
 | agg _=>simp [easy,flat] at he
 | tuple _=>simp [easy,flat] at he
 | any _=>simp [easy,flat] at he
theorem LRel.back:∀ {vs u₀ us:List Value},allEasy vs=true->LRel ρ vs u₀->ρ.le ρ₁->LRel ρ₁ vs us->LRel ρ vs us
 | [],_,_,_,_,_,.nil=>.nil
 | v::vs,_,_,h,.cons a b,le,.cons c d=>by
  simp only [allEasy,Bool.and_eq_true] at h
  exact .cons (VRel.back h.1 a le c) (LRel.back h.2 b le d)
theorem RowRel.back {l:Loc} {row:ARow} (he:easyRow row=true) (h0:RowRel P ρ w l row) (le:ρ.le ρ₁) (h1:RowRel P ρ₁ w₁ l row):RowRel P ρ w₁ l row:=by
 cases row with
 | cells e cs =>
  obtain ⟨C,f,a1,a2,a3,a4,a5,a6⟩:=h1
  obtain ⟨_,_,_,_,_,_,_,b6⟩:=h0
  refine ⟨C,f,a1,a2,a3,a4,a5,fun i v hv=>?_⟩
  obtain ⟨u,hu,hr⟩:=a6 i v hv
  obtain ⟨u0,_,hr0⟩:=b6 i v hv
  exact ⟨u,hu,hr0.back (allEasy_get he hv) le hr⟩
 | map es clock =>
  simp only [easyRow,Bool.and_eq_true] at he
  obtain ⟨es',a1,a2,a3,a4⟩:=h1
  obtain ⟨es0,_,b2,b3,_⟩:=h0
  exact ⟨es',a1,b2.back he.1 le a2,b3.back he.2 le a3,a4⟩
 | text s pos=>cases he
 | ro cs=>cases he
 | iter m since seen last=>cases he
 | loop p=>cases he
theorem rows_of (n s:Nat):∀ (L:RL),(L.map (·.1)).Nodup->∃ hl:AW,hl.next=n/\hl.step=s/\∀ m row,hl.get m=some row↔(m,row)∈L
 | [],_=>⟨⟨.nil,n,s⟩,rfl,rfl,fun m row=>by simp [AW.get,Tr.get]⟩
 | (r,x)::L,hn=>by
  rw [List.map_cons,List.nodup_cons] at hn
  obtain ⟨hl,h1,h2,h3⟩:=rows_of n s L hn.2
  obtain ⟨h',e⟩:=hl.put_some r (some x)
  obtain ⟨hg,hnx,hst⟩:=put_eq e
  refine ⟨h',hnx.trans h1,hst.trans h2,fun m row=>?_⟩
  rw [hg]
  by_cases hm:m=r
  ·subst hm
   rw [if_pos rfl]
   constructor
   ·intro hh; cases hh; exact List.mem_cons_self ..
   ·intro hh
    rcases List.mem_cons.1 hh with hh | hh
    ·cases hh; rfl
    ·exact absurd (List.mem_map.2 ⟨_,hh,rfl⟩) hn.1
  ·rw [if_neg hm,h3]
   constructor
   ·exact fun hh=>List.mem_cons_of_mem _ hh
   ·intro hh
    rcases List.mem_cons.1 hh with hh | hh
    ·cases hh; exact absurd rfl hm
    ·exact hh
theorem far_next (n s:Nat) (hs:0 < s):∀ (L:RL),∃ K,∀ p,p∈L->p.1 < n+s * K
 | []=>⟨0,fun p hp=>(by cases hp)⟩
 | p::L=>by
  obtain ⟨K,hK⟩:=far_next n s hs L
  refine ⟨K+p.1+1,fun q hq=>?_⟩
  have h1:K+p.1+1<=s * (K+p.1+1):=Nat.le_mul_of_pos_left _ hs
  have h2:s * K<=s * (K+p.1+1):=Nat.mul_le_mul_left _ (by omega)
  rcases List.mem_cons.1 hq with rfl | hq
  ·omega
  ·have:=hK q hq; omega
structure LocalRun (P:Program) (ρ:Env) (h:AW) (w:World) (Ll Rest:RL) (ρ₁:Env) (h₁:AW) (w₁:World):Prop where
 hr:HRel P ρ₁ h₁ w₁
 le:ρ.le ρ₁
 os:w₁.os=w.os
 tape:w₁.tape=w.tape
 output:w₁.output=w.output
 size:w.heap.size<=w₁.heap.size
 keep:∀ k,k < w.heap.size->(∀ r row l,(r,row)∈Ll->row.own=true->ρ r=some l->l.block≠k)->w₁.heap[k]?=w.heap[k]?
 own:∀ r row l,h₁.get r=some row->row.own=true->ρ₁ r=some l->l.block < w.heap.size->∃ r₀ row₀ l₀,(r₀,row₀)∈Ll/\row₀.own=true/\ρ r₀=some l₀/\l₀.block=l.block
 rest:∀ p,p∈Rest->h₁.get p.1=some p.2
theorem CS.localRun {f:FuncId} {args us:List Value} {Ll Rest:RL} {R:Value->RL->Prop} (c:CS P f args Ll R) (hn:(Ll.map (·.1)).Nodup) (hL:∀ p,p∈Ll->h.get p.1=some p.2) (hR:∀ v L',R v L'->∀ p,p∈Rest->p∈L') (hus:LRel ρ args us) (H:HRel P ρ h w) :
  (∃ fn c,P.funcs[f]?=some fn/\fn.body=some c)/\Calls P f ⟨us⟩ w fun e w'=>∃ v L₁ u ρ₁ h₁,e=.returned u/\R v L₁/\VRel ρ₁ v u/\Has h₁ L₁/\LocalRun P ρ h w Ll Rest ρ₁ h₁ w':=by
 obtain ⟨K,hK⟩:=far_next h.next h.step H.step Ll
 obtain ⟨hl,n1,n2,n3⟩:=rows_of (h.next+h.step * K) h.step Ll hn
 have Hl:Has hl Ll:=⟨fun p hp=>(n3 p.1 p.2).2 hp,hn,fun p hp=>by rw [n1]; exact hK p hp,by rw [n2]; exact H.step⟩
 have HRl:HRel P ρ hl w:=by
  have sub:∀ m row,hl.get m=some row->h.get m=some row:=fun m row hm=>hL _ ((n3 m row).1 hm)
  refine ⟨fun r row hr=>H.loc r row (sub _ _ hr),fun a b x y la lb ha hb=>H.inj a b x y la lb (sub _ _ ha) (sub _ _ hb),fun j=>?_,by rw [n2]; exact H.step⟩
  rw [n1,n2]
  have:=H.fresh (K+j)
  rwa [Nat.mul_add,← Nat.add_assoc] at this
 have cq:=c hl Hl
 refine ⟨cq.1,(cq.2 ρ us w hus HRl).mono ?_⟩
 rintro e w' ⟨v,h₁,u,ρ₁,e1,⟨L₁,hr,H₁⟩,e3,e4,T⟩
 refine ⟨v,L₁,u,ρ₁,h₁,e1,hr,e3,H₁,e4,T.le,T.os,T.tape,T.output,T.size,fun k hk hno=>T.keep k hk fun r row l hr' ho hl'=>hno r row l ((n3 r row).1 hr') ho hl',fun r row l hr' ho hl' hlt=>?_,fun p hp=>H₁.get p (hR v L₁ hr p hp)⟩
 obtain ⟨r₀,row₀,l₀,a,b,c,d⟩:=T.own r row l hr' ho hl' hlt
 exact ⟨r₀,row₀,l₀,(n3 _ _).1 a,b,c,d⟩
variable {Ll Rest:RL} {D:List Nat}
theorem LocalRun.still (T:LocalRun P ρ h w Ll Rest ρ₁ h₁ w₁) (H:HRel P ρ h w) (hL:∀ p,p∈Ll->h.get p.1=some p.2) (hD:∀ p,p∈Ll->p.1∈D∨p∈Rest) (he:∀ p,p∈Rest->easyRow p.2=true) (hRL:∀ p,p∈Rest->p∈Ll) {m:Nat} {row:ARow} (hm:h.get m=some row) (hmD:m ∉ D):∃ l,ρ m=some l/\RowRel P ρ w l row/\RowRel P ρ w₁ l row:=by
 obtain ⟨l,hl,hr⟩:=H.loc m row hm
 refine ⟨l,hl,hr,?_⟩
 by_cases hin:∃ x,(m,x)∈Ll
 ·obtain ⟨x,hx⟩:=hin
  have hxe:x=row:=by have:=hL _ hx; simp only at this; rw [hm] at this; simpa using this.symm
  subst hxe
  rcases hD _ hx with h1 | h1
  ·exact absurd h1 hmD
  ·have h2:=T.rest _ h1
   obtain ⟨l',hl',hr'⟩:=T.hr.loc m x h2
   have:=T.le _ _ hl
   rw [this] at hl'; simp only [Option.some.injEq] at hl'; subst hl'
   exact hr.back (he _ h1) T.le hr'
 ·refine hr.keep (Env.le_refl _) (T.keep _ hr.lt fun r x l' hx ho hl' hh=>?_)
  have:=H.inj r m x row l' l (hL _ hx) hm hl' hl hh (.inl ho)
  subst this
  exact hin ⟨x,hx⟩
theorem LocalRun.flat (T:LocalRun P ρ h w Ll Rest ρ₁ h₁ w₁) (H:HRel P ρ h w) (hL:∀ p,p∈Ll->h.get p.1=some p.2) (hD:∀ p,p∈Ll->p∈Rest) (he:∀ p,p∈Rest->easyRow p.2=true) (hRL:∀ p,p∈Rest->p∈Ll):HRel P ρ h w₁/\Turn ρ h w ρ h w₁:=by
 refine ⟨⟨fun m row hm=>?_,H.inj,H.fresh,H.step⟩,⟨Env.le_refl _,T.os,T.tape,T.output,T.size,fun r row l a b c _=>⟨r,row,l,a,b,c,rfl⟩,fun k hk hno=>T.keep k hk fun r row l hr ho hl=>hno r row l (hL _ hr) ho hl,fun r l e=>.inl e,⟨0,by simp⟩,rfl⟩⟩
 obtain ⟨l,a,_,b⟩:=T.still (D:=[]) H hL (fun p hp=>.inr (hD p hp)) he hRL hm (by simp)
 exact ⟨l,a,b⟩
theorem LocalRun.list {r' n cap sz:Nat} {e:TypeId} {cs J:List Value} {u:Value} {h0 h':AW} {q:Nat} (T:LocalRun P ρ h w Ll Rest ρ₁ h₁ w₁) (H:HRel P ρ h w) (hL:∀ p,p∈Ll->h.get p.1=some p.2) (hD:∀ p,p∈Ll->p.1∈D∨p∈Rest) (he:∀ p,p∈Rest->easyRow p.2=true) (hRL:∀ p,p∈Rest->p∈Ll)
  (hr':h₁.get r'=some (.cells e (cs++J))) (hne:∀ p,p∈Rest->p.1≠r') (hu:VRel ρ₁ (.slice (some ⟨r',0,none⟩) n cap) u) (hs:sizeB P e=some sz) (hl:cs.length=n * sz) (hcap:cap=openCap∨cap < openCap/\cap * sz<=(cs++J).length) (hf:allFlat cs=true)
  (h0g:∀ m,h0.get m=if m∈D then none else h.get m) (h0n:h0.next=h.next) (h0s:h0.step=h.step) (hnew:h0.new (.cells e cs)=some (q,h')) :
  ∃ ρ',VRel ρ' (.slice (some ⟨q,0,none⟩) n openCap) u/\HRel P ρ' h' w₁/\Turn ρ h w ρ' h' w₁:=by
 obtain ⟨l1,hl1,C,f,a1,a2,a3,a4,a5,a6⟩:=T.hr.loc r' _ hr'
 obtain ⟨hq,hg,hn,hst⟩:=new_eq hnew
 rw [h0n] at hq hn
 rw [h0s] at hn hst
 have hesz:l1.esz=sz:=by have:=a5.size; rw [hs] at this; simpa using this.symm
 have hnone:ρ q=none:=by rw [hq]; exact H.fresh0
 have le:=upd_le (l:=l1) hnone
 have hflat:∀ (cs:List Value) (i:Nat) (v:Value),allFlat cs=true->cs[i]?=some v->Am.flat v=true:=by
  intro cs
  induction cs with
  | nil=>intro i v _ hv; simp at hv
  | cons x xs ih =>
   intro i v hf hv
   simp only [allFlat] at hf
   split at hf
   ·rename_i hx
    cases i with
    | zero=>simp at hv; subst hv; exact hx
    | succ i=>simp at hv; exact ih i v hf hv
   ·cases hf
 have old:∀ m row,h'.get m=some row->m≠q->h.get m=some row/\m ∉ D:=fun m row hm hmq=>by
  rw [hg,if_neg hmq,h0g] at hm
  split at hm
  ·cases hm
  ·exact ⟨hm,by assumption⟩
 have apart:∀ m row lm,h.get m=some row->m ∉ D->ρ m=some lm->lm.block≠l1.block:=fun m row lm hm hmD hlm hh=>by
  obtain ⟨l0,e0,e1,e2⟩:=T.still H hL hD he hRL hm hmD
  rw [hlm] at e0; simp only [Option.some.injEq] at e0; subst e0
  have hlt:lm.block < w.heap.size:=e1.lt
  obtain ⟨r₀,row₀,l₀,b1,b2,b3,b4⟩:=T.own r' _ l1 hr' rfl hl1 (by rw [← hh]; exact hlt)
  have:=H.inj r₀ m row₀ row l₀ lm (hL _ b1) hm b3 hlm (by rw [b4,hh]) (.inl b2)
  subst this
  rcases hD _ b1 with h1 | h1
  ·exact hmD h1
  ·have h2:=T.rest _ h1
   have:=T.hr.inj r₀ r' _ _ lm l1 h2 hr' (T.le _ _ hlm) hl1 hh (.inr rfl)
   exact hne _ h1 this
 refine ⟨upd ρ q l1,?_,⟨fun m row hm=>?_,fun a b rowa rowb la lb ha hb hla hlb hab hown=>?_,fun j=>?_,by rw [hst]; exact H.step⟩,⟨le,T.os,T.tape,T.output,T.size,fun m row lm hm hmo hlm hlt=>?_,fun k hk hno=>T.keep k hk fun r row l hr ho hl=>hno r row l (hL _ hr) ho hl,fun r l hr=>?_,⟨1,by rw [hn]; omega⟩,hst⟩⟩
 ·cases hu with
  | @slice _ _ _ _ cap' ad p1 p2 p3 =>
   refine .slice p1 (fun hh=>absurd rfl hh) fun hz=>?_
   obtain ⟨l,c1,c2,c3⟩:=p3 hz
   rw [hl1] at c1; simp only [Option.some.injEq] at c1; subst c1
   refine ⟨l1,by simp [upd],c2,fun _=>?_⟩
   rcases hcap with rfl | ⟨h1,h2⟩
   ·exact c3 rfl
   ·have:=p2 (by omega)
    subst this
    rw [hesz]
    exact ⟨by omega,h1⟩
 ·by_cases hmq:m=q
  ·subst hmq
   rw [hg,if_pos rfl] at hm
   simp only [Option.some.injEq] at hm; subst hm
   refine ⟨l1,by simp [upd],C,f,a1,a2,by simp at a3; omega,a4,a5,fun i v hv=>?_⟩
   obtain ⟨u',hu',hvr⟩:=a6 i v (by rw [List.getElem?_append_left (List.getElem?_eq_some_iff.1 hv).1]; exact hv)
   have hvf:=hflat cs i v hf hv
   have:=hvr.flat_eq hvf
   subst this
   exact ⟨_,hu',.of_flat hvf⟩
  ·obtain ⟨hm',hmD⟩:=old m row hm hmq
   obtain ⟨l,e0,e1,e2⟩:=T.still H hL hD he hRL hm' hmD
   exact ⟨l,le _ _ e0,e2.keep le rfl⟩
 ·unfold upd at hla hlb
  by_cases h1:a=q
  ·by_cases h2:b=q
   ·rw [h1,h2]
   ·rw [if_pos h1] at hla; rw [if_neg h2] at hlb
    simp only [Option.some.injEq] at hla; subst hla
    obtain ⟨hb',hbD⟩:=old b rowb hb h2
    exact absurd hab.symm (apart b rowb lb hb' hbD hlb)
  ·by_cases h2:b=q
   ·rw [if_neg h1] at hla; rw [if_pos h2] at hlb
    simp only [Option.some.injEq] at hlb; subst hlb
    obtain ⟨ha',haD⟩:=old a rowa ha h1
    exact absurd hab (apart a rowa la ha' haD hla)
   ·rw [if_neg h1] at hla; rw [if_neg h2] at hlb
    exact H.inj a b _ _ la lb (old a rowa ha h1).1 (old b rowb hb h2).1 hla hlb hab hown
 ·rw [hn,hst]
  unfold upd
  have hp:=H.step
  have:=H.fresh (j+1)
  rw [Nat.mul_add,Nat.mul_one,Nat.add_comm (h.step * j),← Nat.add_assoc] at this
  rw [if_neg (by rw [hq]; have:=Nat.zero_le (h.step * j); omega)]
  exact this
 ·by_cases hmq:m=q
  ·subst hmq
   simp only [upd,if_true,Option.some.injEq] at hlm
   subst hlm
   obtain ⟨r₀,row₀,l₀,b1,b2,b3,b4⟩:=T.own r' _ l1 hr' rfl hl1 hlt
   exact ⟨r₀,row₀,l₀,hL _ b1,b2,b3,b4⟩
  ·unfold upd at hlm
   rw [if_neg hmq] at hlm
   exact ⟨m,row,lm,(old m row hm hmq).1,hmo,hlm,rfl⟩
 ·unfold upd at hr
  split at hr
  ·subst_vars; exact .inr ⟨0,by simp⟩
  ·exact .inl hr
end
end Go.Am
end
section
namespace Go.Am
def insO:List Value->Nat->Value->Option (List Value)
 | xs,0,x=>some (x::xs)
 | [],_+1,_=>none
 | y::ys,n+1,x=>match insO ys n x with
  | some zs=>some (y::zs)
  | none=>none
theorem insO_eq:∀ {xs zs:List Value} {n:Nat} {x:Value},insO xs n x=some zs->n<=xs.length/\zs=insL xs n x
 | xs,zs,0,x,h=>by
  have:insO xs 0 x=some (x::xs):=by cases xs <;> rfl
  rw [this] at h; simp only [Option.some.injEq] at h; subst h
  exact ⟨Nat.zero_le _,rfl⟩
 | [],zs,n+1,x,h=>by cases h
 | y::ys,zs,n+1,x,h=>by
  simp only [insO] at h
  split at h
  ·rename_i us e
   simp only [Option.some.injEq] at h; subst h
   obtain ⟨h1,h2⟩:=insO_eq e
   exact ⟨by simp; omega,by rw [h2]; rfl⟩
  ·cases h
def erO:List Value->Nat->Option (List Value)
 | [],_=>none
 | _::ys,0=>some ys
 | y::ys,n+1=>match erO ys n with
  | some zs=>some (y::zs)
  | none=>none
theorem erO_eq:∀ {xs zs:List Value} {n:Nat},erO xs n=some zs->n < xs.length/\zs=xs.eraseIdx n
 | [],zs,n,h=>by cases h
 | y::ys,zs,0,h=>by simp only [erO,Option.some.injEq] at h; subst h; exact ⟨by simp,rfl⟩
 | y::ys,zs,n+1,h=>by
  simp only [erO] at h
  split at h
  ·rename_i us e
   simp only [Option.some.injEq] at h; subst h
   obtain ⟨h1,h2⟩:=erO_eq e
   exact ⟨by simp; omega,by rw [h2]; rfl⟩
  ·cases h
def anewB (h:AW) (r:Nat) (e:TypeId) (cs:List Value) (n:Nat):Option (Value × AW) :=
 match h.put r none,fn n with
 | some h0,some m=>match h0.new (.cells e cs) with
  | some (q,h')=>some (.slice (some ⟨q,0,none⟩) m openCap,h')
  | none=>none
 | _,_=>none
def insK (e:TypeId) (args:List Value) (h:AW):Option (Value × AW) :=
 match args with
 | [.slice (some ⟨r,0,none⟩) n c,.int .i64 z,.slice (some ⟨rv,0,none⟩) 1 1] =>
  match getRow h r,getRow h rv with
  | some (e1,cs),some (e2,[x]) =>
   match ((Nat.beq e1 e && Nat.beq e2 e) && (!(Nat.beq r rv) && (Nat.beq c openCap && ileB 0 z))) && ((Nat.beq cs.length n && Nat.ble n 1000) && (allFlat cs && flat x)),insO cs z.toNat x with
   | true,some cs'=>anewB h r e cs' (n+1)
   | _,_=>none
  | _,_=>none
 | _=>none
def delK (e:TypeId) (args:List Value) (h:AW):Option (Value × AW) :=
 match args with
 | [.slice (some ⟨r,0,none⟩) n c,.int .i64 z,.int .i64 z2] =>
  match getRow h r with
  | some (e1,cs) =>
   match (Nat.beq e1 e && (Nat.beq c openCap && ileB 0 z)) && ((Nat.beq cs.length n && Nat.ble n 1000) && (allFlat cs && ieqB z2 (z+1))),erO cs z.toNat with
   | true,some cs'=>anewB h r e cs' (n - 1)
   | _,_=>none
  | _=>none
 | _=>none
theorem flat_one {x:Value} (h:flat x=true):oneB x=true:=by cases x <;> first | rfl | (simp [flat] at h)
theorem allFlat_one:∀ {cs:List Value},allFlat cs=true->allOne cs=true
 | [],_=>rfl
 | c::cs,h=>by
  simp only [allFlat] at h
  split at h
  ·rename_i hc
   simp only [allOne,flat_one hc]; exact allFlat_one h
  ·cases h
theorem allFlat_iff {cs:List Value}:allFlat cs=true↔∀ c∈cs,flat c=true:=by
 induction cs with
 | nil=>simp [allFlat]
 | cons c cs ih =>
  simp only [allFlat,List.mem_cons,forall_eq_or_imp]
  cases hc:flat c with
  | true=>simp [ih]
  | false=>simp
theorem ins_flat {cs:List Value} {n:Nat} {x:Value} (h:allFlat cs=true) (hx:flat x=true):allFlat (insL cs n x)=true:=by
 rw [allFlat_iff] at h ⊢
 intro c hc
 unfold insL at hc
 rcases List.mem_append.1 hc with hc | hc
 ·exact h c (List.mem_of_mem_take hc)
 ·rcases List.mem_cons.1 hc with rfl | hc
  ·exact hx
  ·exact h c (List.mem_of_mem_drop hc)
theorem er_flat {cs:List Value} {n:Nat} (h:allFlat cs=true):allFlat (cs.eraseIdx n)=true:=by
 rw [allFlat_iff] at h ⊢
 exact fun c hc=>h c (List.mem_of_mem_eraseIdx hc)
theorem allFlat_easy:∀ {cs:List Value},allFlat cs=true->allEasy cs=true
 | [],_=>rfl
 | c::cs,h=>by
  simp only [allFlat] at h
  split at h
  ·rename_i hc
   simp only [allEasy,Bool.and_eq_true]
   refine ⟨?_,allFlat_easy h⟩
   cases c with
   | pointer a=>cases a with
    | none=>exact hc
    | some a=>simp [flat] at hc
   | map a=>cases a with
    | none=>exact hc
    | some a=>simp [flat] at hc
   | slice a n c=>cases a with
    | none=>exact hc
    | some a=>simp [flat] at hc
   | _=>exact hc
  ·cases h
theorem easy_flat {c:Value} (hc:flat c=true):easy c=true:=by
 have:=allFlat_easy (cs:=[c]) (by simp only [allFlat,hc])
 simpa [allEasy] using this
theorem CS.isFn {P:Program} {f:FuncId} {args:List Value} {L:RL} {R:Value->RL->Prop} (c:CS P f args L R) (hn:(L.map (·.1)).Nodup):∃ fn c,P.funcs[f]?=some fn/\fn.body=some c:=by
 obtain ⟨K,hK⟩:=far_next 0 1 (by omega) L
 obtain ⟨hl,n1,n2,n3⟩:=rows_of (0+1 * K) 1 L hn
 exact (c hl ⟨fun p hp=>(n3 p.1 p.2).2 hp,hn,fun p hp=>by rw [n1]; exact hK p hp,by rw [n2]; omega⟩).1
theorem known_list {P:Program} {f:FuncId} {args:List Value} {h h':AW} {v:Value} {r n sz:Nat} {e:TypeId} {cs:List Value} {row:ARow} {Rest:RL} (hr:h.get r=some row) (hrest:∀ p,p∈Rest->h.get p.1=some p.2) (hnd:(((r,row)::Rest).map (·.1)).Nodup) (he:∀ p,p∈Rest->easyRow p.2=true)
  (c:CS P f args ([(r,row)]++Rest) fun u L'=>∃ Y',L'=Y'++Rest/\OW e sz u n cs Y') (hs:sizeB P e=some sz) (hf:allFlat cs=true) (k:anewB h r e cs n=some (v,h')) :
  (∃ fn c,P.funcs[f]?=some fn/\fn.body=some c)/\∀ ρ us w,LRel ρ args us->HRel P ρ h w->Calls P f ⟨us⟩ w fun e w'=>∃ u ρ',e=.returned u/\VRel ρ' v u/\HRel P ρ' h' w'/\Turn ρ h w ρ' h' w':=by
 unfold anewB at k
 split at k
 case h_2=>cases k
 rename_i h0 m hp hm
 have hm:=fn_eq hm
 subst hm
 split at k
 case h_2=>cases k
 rename_i q h₂ hnew
 simp only [Option.some.injEq,Prod.mk.injEq] at k
 obtain ⟨rfl,rfl⟩:=k
 obtain ⟨hg,hn,hst⟩:=put_eq hp
 have hL:∀ p,p∈(r,row)::Rest->h.get p.1=some p.2:=fun p hp=>by
  rcases List.mem_cons.1 hp with rfl | hp
  ·exact hr
  ·exact hrest p hp
 have hR:∀ v L',(∃ Y',L'=Y'++Rest/\OW e sz v m cs Y')->∀ p,p∈Rest->p∈L':=fun v L' ⟨Y',hY,_⟩ p hp=>by rw [hY]; exact List.mem_append_right _ hp
 refine ⟨?_,fun ρ us w hus H=>?_⟩
 ·exact c.isFn hnd
 ·refine (CS.localRun (Rest:=Rest) c hnd hL hR hus H).2.mono ?_
  rintro en w' ⟨u,L₁,x,ρ₁,h₁,rfl,⟨Y',rfl,r',cap,J,rfl,hl,rfl,hnc,hcap⟩,hv,H₁,T⟩
  have hr':h₁.get r'=some (.cells e (cs++J)):=H₁.get (r',_) (by simp)
  have hne:∀ p,p∈Rest->p.1≠r':=fun p hp hh=>by
   have:=H₁.nd
   simp only [List.singleton_append,List.map_cons,List.nodup_cons] at this
   exact this.1 (List.mem_map.2 ⟨p,hp,hh⟩)
  obtain ⟨ρ',a,b,c⟩:=T.list (D:=[r]) H hL (fun p hp=>by
   rcases List.mem_cons.1 hp with rfl | hp
   ·exact .inl (by simp)
   ·exact .inr hp) he (fun p hp=>List.mem_cons_of_mem _ hp) hr' hne hv hs hl hcap hf (fun m=>by rw [hg]; simp) hn hst hnew
  exact ⟨x,ρ',rfl,a,b,c⟩
theorem known_new {P:Program} {f:FuncId} {args:List Value} {h h':AW} {n sz q:Nat} {e:TypeId} {cs:List Value} {Rest:RL} (hrest:∀ p,p∈Rest->h.get p.1=some p.2) (hnd:(Rest.map (·.1)).Nodup) (he:∀ p,p∈Rest->easyRow p.2=true)
  (c:CS P f args Rest fun u L'=>∃ Y',L'=Y'++Rest/\OW e sz u n cs Y') (hs:sizeB P e=some sz) (hf:allFlat cs=true) (k:h.new (.cells e cs)=some (q,h')) :
  (∃ fn c,P.funcs[f]?=some fn/\fn.body=some c)/\∀ ρ us w,LRel ρ args us->HRel P ρ h w->Calls P f ⟨us⟩ w fun e w'=>∃ u ρ',e=.returned u/\VRel ρ' (.slice (some ⟨q,0,none⟩) n openCap) u/\HRel P ρ' h' w'/\Turn ρ h w ρ' h' w':=by
 have hR:∀ v L',(∃ Y',L'=Y'++Rest/\OW e sz v n cs Y')->∀ p,p∈Rest->p∈L':=fun v L' ⟨Y',hY,_⟩ p hp=>by rw [hY]; exact List.mem_append_right _ hp
 refine ⟨c.isFn hnd,fun ρ us w hus H=>?_⟩
 refine (CS.localRun (Rest:=Rest) c hnd hrest hR hus H).2.mono ?_
 rintro en w' ⟨u,L₁,x,ρ₁,h₁,rfl,⟨Y',rfl,r',cap,J,rfl,hl,rfl,hnc,hcap⟩,hv,H₁,T⟩
 have hr':h₁.get r'=some (.cells e (cs++J)):=H₁.get (r',_) (by simp)
 have hne:∀ p,p∈Rest->p.1≠r':=fun p hp hh=>by
  have:=H₁.nd
  simp only [List.singleton_append,List.map_cons,List.nodup_cons] at this
  exact this.1 (List.mem_map.2 ⟨p,hp,hh⟩)
 obtain ⟨ρ',a,b,c⟩:=T.list (D:=[]) (h0:=h) H hrest (fun p hp=>.inr hp) he (fun p hp=>hp) hr' hne hv hs hl hcap hf (fun m=>by simp) rfl rfl k
 exact ⟨x,ρ',rfl,a,b,c⟩
def cellsEq:List Value->List UInt8->Bool
 | [],[]=>true
 | .int .u8 z::xs,b::bs=>ieqB z (b.toNat:Int) && cellsEq xs bs
 | _,_=>false
theorem cellsEq_eq:∀ {cs:List Value} {bs:List UInt8},cellsEq cs bs=true->cs=byteCells bs
 | [],[],_=>rfl
 | [],b::bs,h=>by cases h
 | c::cs,[],h=>by
  unfold cellsEq at h
  split at h <;> first | cases h | (rename_i h1 h2; cases h2) | skip
  all_goals simp_all
 | c::cs,b::bs,h=>by
  cases c <;> first | (simp [cellsEq] at h; done) | skip
  rename_i k z
  cases k <;> first | (simp [cellsEq] at h; done) | skip
  simp only [cellsEq,Bool.and_eq_true] at h
  have h1:z=(b.toNat:Int):=by have:=h.1; rw [ieqB_eq] at this; simpa using this
  rw [h1,cellsEq_eq h.2]; rfl
def bitsK (cs:List Value) (n:Nat):List Bool:=(List.range n).map fun i=>match (cs[i / 8]?:Option Value) with
 | some (.int .u8 z)=>z.toNat.testBit (i % 8)
 | _=>false
def sortK (mt:TypeId) (f1:FuncId) (it:TypeId) (args:List Value) (h:AW):Option (Value × AW) :=
 match args with
 | [.func (.func f2) a b] =>
  match a.toList,b.toList,Nat.beq f1 f2 with
  | [],[.pointer (some ⟨rb,0,none⟩)],true=>match getRow h rb with
   | some (e,[.map (some rm)])=>match Nat.beq e mt,h.get rm with
    | true,some (.map [] _)=>some (.slice none 0 0,h)
    | true,some (.map [⟨.int .i64 (.ofNat k),v,b⟩] ck)=>match easy v && (Nat.ble (b+1) ck && !(Nat.beq rb rm)) with
     | true=>match h.new (.cells it [.int .i64 (.ofNat k)]) with
      | some (q,h')=>some (.slice (some ⟨q,0,none⟩) 1 openCap,h')
      | none=>none
     | false=>none
    | _,_=>none
   | _=>none
  | _,_,_=>none
 | _=>none
end Go.Am
namespace Go.Proofs.YtlmmddfhoabjfaaGreat
open Go.Am
def listK (ft it:TypeId) (args:List Value) (h:AW):Option (Value × AW) :=
 match args with
 | [.pointer (some ⟨rm,0,none⟩)]=>match getRow h rm with
  | some (e,[.int .i64 (.ofNat n),.slice (some ⟨rb,0,none⟩) m c])=>match getRow h rb with
   | some (e2,cs)=>match (Nat.beq e ft && (Nat.beq e2 5 && !(Nat.beq rm rb))) && ((Nat.beq m (pk (bitsK cs n)).length && Nat.beq c m) && (Nat.ble n 32768 && cellsEq cs (pk (bitsK cs n)))),lst' (bitsK cs n) with
    | true,x::xs=>match h.new (.cells it (ints (x::xs))),fn (x::xs).length with
     | some (q,h'),some k=>some (.slice (some ⟨q,0,none⟩) k openCap,h')
     | _,_=>none
    | _,_=>none
   | _=>none
  | _=>none
 | _=>none
theorem ints_flat (l:List Nat):allFlat (ints l)=true:=by
 rw [allFlat_iff]
 intro c hc
 obtain ⟨k,_,rfl⟩:=List.mem_map.1 hc
 rfl
theorem byteCells_flat (l:List UInt8):allFlat (byteCells l)=true:=by
 rw [allFlat_iff]
 intro c hc
 obtain ⟨k,_,rfl⟩:=List.mem_map.1 hc
 rfl
theorem listK_sound {args:List Value} {h h':AW} {v:Value} (k:listK 131 3 args h=some (v,h')) :
  (∃ fn c,Tryz.prog.funcs[52]?=some fn/\fn.body=some c)/\∀ ρ us w,LRel ρ args us->HRel Tryz.prog ρ h w->Calls Tryz.prog 52 ⟨us⟩ w fun e w'=>∃ u ρ',e=.returned u/\VRel ρ' v u/\HRel Tryz.prog ρ' h' w'/\Turn ρ h w ρ' h' w':=by
 unfold listK at k
 split at k
 case h_2=>cases k
 rename_i rm
 split at k
 case h_2=>cases k
 rename_i e n rb m c h1
 split at k
 case h_2=>cases k
 rename_i e2 cs h2
 split at k
 case h_2=>cases k
 rename_i x xs hb hl
 simp only [Bool.and_eq_true,Bool.not_eq_true'] at hb
 obtain ⟨⟨b1,b2,b3⟩,⟨b4,b5⟩,b6,b7⟩:=hb
 have b1:=of_beq b1; have b2:=of_beq b2; have b3:=of_beq_f b3; have b4:=of_beq b4; have b5:=of_beq b5; have b6:=of_ble b6
 have hcs:=cellsEq_eq b7
 clear b7
 subst b1; subst b2; subst b5; subst b4
 have hT:(bitsK cs n).length=n:=by simp [bitsK]
 generalize bitsK cs n=T at hl hcs hT h1
 subst hT; subst hcs
 split at k
 case h_2=>cases k
 rename_i q h₂ kk hnew hk
 have hk:=fn_eq hk
 subst hk
 simp only [Option.some.injEq,Prod.mk.injEq] at k
 obtain ⟨rfl,rfl⟩:=k
 have c1:=(List_ct (F:=[]) (rm:=rm) (rb:=rb) (T:=T) b6).mono (R':=fun u L'=>∃ Y',L'=Y'++fm rm rb T []/\OW 3 1 u (x::xs).length (ints (x::xs)) Y') (fun u L' hg=>by
  rw [hl] at hg
  rcases hg with ⟨_,h0,_⟩ | ⟨r,rfl,h3,rfl⟩
  ·simp at h0
  ·refine ⟨[(r,_)],rfl,r,openCap,[],rfl,h3,by rw [List.append_nil],?_,.inl rfl⟩
   have h4:(lst' T).length<=T.length:=by
    have:=List.length_filter_le (tkn T) (List.range T.length)
    simpa [lst'] using this
   rw [hl] at h4
   unfold openCap; omega)
 refine known_new (sz:=1) (fun p hp=>?_) ?_ (fun p hp=>?_) c1 rfl (ints_flat _) hnew
 ·rcases List.mem_cons.1 hp with rfl | hp
  ·exact getRow_eq h1
  ·simp only [List.mem_singleton] at hp; subst hp; exact getRow_eq h2
 ·simp [b3]
 ·rcases List.mem_cons.1 hp with rfl | hp
  ·have h5:(pk T).length≠openCap:=by rw [pk_len]; unfold openCap; omega
   simp only [easyRow,allEasy,easy,flat,beq_false h5,Bool.not_false,Bool.and_self]
  ·simp only [List.mem_singleton] at hp; subst hp
   exact allFlat_easy (byteCells_flat _)
theorem text_ct {L:RL} (n:Nat) (c:UInt8) (hn:n<=100000):CS Tryz.prog 18 [.int .i64 (n:Nat),.int .u8 (c.toNat:Nat)] L fun u L'=>u=txt (List.replicate n c)/\L'=L:=by
 suffices g:CS Tryz.prog 18 [.int .i64 (n:Nat),.int .u8 (c.toNat:Nat)] L fun u L'=>u=txt (List.replicate n c)/\∃ x,L'=x::L by
  exact g.less fun u L' ⟨h1,x,h2⟩=>⟨L,by rw [h2]; exact Sub.tail,h1,rfl⟩
 refine CS.mk (fn:=Tryz.f18) rfl rfl rfl rfl ?_
 repeat refine xQ ?_
 refine xG rfl ?_
 refine xP rfl rh rfl ?_
 refine xN ?_
 repeat refine xQ ?_
 refine xG rfl ?_
 refine xP rfl rh rfl ?_
 refine OS.fresh rfl ((e_make (l:=n) (c:=n) rfl rfl rfl makeT_bytes (Nat.le_refl _) (by omega) (by omega))) (fun _=>rfl) (fun rb=>?_)
 refine xP rfl rh rfl ?_
 refine xN ?_
 rw [repL_u8]
 repeat refine xQ ?_
 refine xG rfl ?_
 refine xP rfl rh rfl ?_
 refine xN ?_
 repeat refine xQ ?_
 refine LS.block ?_
 refine LS.loopJ [0,1,5,6] (fun q a L'=>∃ j:Nat,q=n - j/\j<=n/\L'=(rb,.cells 5 (byteCells (List.replicate j c++List.replicate (n - j) 0)))::L /\
  a=[.int .i64 (n:Nat),.int .u8 (c.toNat:Nat),jn,jn,jn,.slice (some ⟨rb,0,none⟩) n n,.int .i64 (j:Nat),jn,jn,jn,jn,jn,jn,jn,jn,jn,jn,jn,jn,jn]) (n:=n) rfl ⟨0,rfl,by omega,by simp,rfl⟩ ?_
 rintro q a L' ⟨j,rfl,hj,rfl,rfl⟩
 repeat refine xQ ?_
 refine xG rfl ?_
 iterate 3 refine xP rfl rh rfl ?_
 refine xN ?_
 repeat refine xQ ?_
 refine xC rfl (fun hc=>?_) (fun hc=>?_)
 ·have hc:(j:Int) < n:=lt_of hc
  have hjn:j < n:=by omega
  refine LS.skip ?_
  repeat refine xQ ?_
  refine LS.block ?_
  have hl:(List.replicate j c++List.replicate (n - j) (0:UInt8)).length=n:=by simp; omega
  repeat refine xQ ?_
  refine xG rfl ?_
  iterate 3 refine xP rfl rh rfl ?_
  refine xP rfl (e_index (j:=j) (sz:=1) rfl rfl rfl rfl rfl hjn) rfl ?_
  refine OS.write rfl (e_store 0 (n:=1) rfl rfl rfl rfl rfl rfl (lay_u8 c (by omega)) rfl) rfl ?_
  refine xN ?_
  repeat refine xQ ?_
  refine xG rfl ?_
  refine xP rfl rh rfl ?_
  refine xP rfl (e_addN (m:=j) (n:=1) rfl rfl rfl (in_i64 (by omega) (by omega))) rfl ?_
  refine xP rfl rh rfl ?_
  refine xN ?_
  refine ⟨n - (j+1),by omega,j+1,rfl,by omega,?_,rfl⟩
  congr 4
  rw [List.set_append_right _ _ (by simp),List.length_replicate,Nat.sub_self]
  obtain ⟨m,hm⟩:∃ m,n - j=m+1:=⟨n - j - 1,by omega⟩
  rw [hm,show n - (j+1)=m by omega,List.replicate_succ,List.set_cons_zero,List.replicate_succ',List.append_assoc]
  rfl
 ·have hc:=nlt_of hc
  have hje:j=n:=by omega
  subst hje
  refine LS.exit ?_
  rw [Nat.sub_self,List.replicate_zero,List.append_nil]
  repeat refine xQ ?_
  refine xG rfl ?_
  refine xP rfl rh rfl ?_
  refine xR rfl (e_text 0 rfl rfl rfl rfl rfl rfl rfl (cut_bytes (off:=0) (n:=j) (by simp)) (bytesOfB_cells _)) rfl ?_
  rw [List.drop_zero,List.take_of_length_le (by simp)]
  refine xP rfl rh rfl ?_
  refine xN ?_
  refine xT ⟨_,fun _ _=>rfl,?_⟩
  exact ⟨rfl,_,rfl⟩
theorem known_still {P:Program} {f:FuncId} {args:List Value} {h:AW} {v:Value} {Rest:RL} (hrest:∀ p,p∈Rest->h.get p.1=some p.2) (hnd:(Rest.map (·.1)).Nodup) (he:∀ p,p∈Rest->easyRow p.2=true)
  (c:CS P f args Rest fun u L'=>u=v/\L'=Rest) (hp:Am.plain v=true) :
  (∃ fn c,P.funcs[f]?=some fn/\fn.body=some c)/\∀ ρ us w,LRel ρ args us->HRel P ρ h w->Calls P f ⟨us⟩ w fun e w'=>∃ u ρ',e=.returned u/\VRel ρ' v u/\HRel P ρ' h w'/\Turn ρ h w ρ' h w':=by
 refine ⟨c.isFn hnd,fun ρ us w hus H=>?_⟩
 refine (CS.localRun (Rest:=Rest) c hnd hrest (fun v L' hR p hp=>by rw [hR.2]; exact hp) hus H).2.mono ?_
 rintro en w' ⟨u,L₁,x,ρ₁,hh₁,rfl,⟨rfl,rfl⟩,hv,H₁,T⟩
 have:=hv.plain_eq hp
 subst this
 obtain ⟨q1,q2⟩:=T.flat H hrest (fun p hp=>hp) he (fun p hp=>hp)
 exact ⟨_,ρ,rfl,.of_plain hp,q1,q2⟩
def repU:Nat->UInt8->Option (List UInt8)
 | 0,_=>some []
 | n+1,c=>match repU n c with
  | some bs=>some (c::bs)
  | none=>none
theorem repU_eq:∀ {n:Nat} {c:UInt8} {bs:List UInt8},repU n c=some bs->bs=List.replicate n c
 | 0,c,bs,h=>by simp only [repU,Option.some.injEq] at h; subst h; rfl
 | n+1,c,bs,h=>by
  simp only [repU] at h
  split at h
  ·rename_i us e
   simp only [Option.some.injEq] at h; subst h
   rw [repU_eq e]; rfl
  ·cases h
def textK (args:List Value) (h:AW):Option (Value × AW) :=
 match args with
 | [.int .i64 (.ofNat n),.int .u8 (.ofNat c)]=>match Nat.ble n 1000 && Nat.ble c 255,repU n (UInt8.ofNat c) with
  | true,some bs=>some (txt bs,h)
  | _,_=>none
 | _=>none
theorem textK_sound {args:List Value} {h h':AW} {v:Value} (k:textK args h=some (v,h')) :
  (∃ fn c,Tryz.prog.funcs[18]?=some fn/\fn.body=some c)/\∀ ρ us w,LRel ρ args us->HRel Tryz.prog ρ h w->Calls Tryz.prog 18 ⟨us⟩ w fun e w'=>∃ u ρ',e=.returned u/\VRel ρ' v u/\HRel Tryz.prog ρ' h' w'/\Turn ρ h w ρ' h' w':=by
 unfold textK at k
 split at k
 case h_2=>cases k
 rename_i n c
 split at k
 case h_2=>cases k
 rename_i bs hb hr
 simp only [Bool.and_eq_true] at hb
 have b1:=of_ble hb.1
 have b2:=of_ble hb.2
 have hr:=repU_eq hr
 subst hr
 simp only [Option.some.injEq,Prod.mk.injEq] at k
 obtain ⟨rfl,rfl⟩:=k
 have hc:(UInt8.ofNat c).toNat=c:=by rw [UInt8.toNat_ofNat']; omega
 have c1:=text_ct (L:=[]) n (UInt8.ofNat c) (by omega)
 rw [hc] at c1
 exact known_still (fun p hp=>by cases hp) (by simp) (fun p hp=>by cases hp) c1 rfl
def u8K:List Value->Option (List UInt8)
 | []=>some []
 | .int .u8 (.ofNat z)::xs=>match Nat.ble z 255,u8K xs with
  | true,some bs=>some (UInt8.ofNat z::bs)
  | _,_=>none
 | _::_=>none
theorem u8K_eq:∀ {cs:List Value} {bs:List UInt8},u8K cs=some bs->cs=byteCells bs
 | [],bs,h=>by simp only [u8K,Option.some.injEq] at h; subst h; rfl
 | c::cs,bs,h=>by
  cases c <;> first | (simp [u8K] at h; done) | skip
  rename_i k z
  cases k <;> first | (simp [u8K] at h; done) | skip
  cases z with
  | negSucc z=>simp [u8K] at h
  | ofNat z =>
   simp only [u8K] at h
   split at h
   case h_2=>cases h
   rename_i us hz e
   have hz:=of_ble hz
   simp only [Option.some.injEq] at h; subst h
   have:=u8K_eq e
   subst this
   have hc:(UInt8.ofNat z).toNat=z:=by rw [UInt8.toNat_ofNat']; omega
   simp only [byteCells,List.map_cons,hc]; rfl
def allZ:List UInt8->Bool
 | []=>true
 | b::bs=>match Nat.beq b.toNat 0 with
  | true=>allZ bs
  | false=>false
theorem allZ_eq:∀ (bs:List UInt8),allZ bs=bs.all (fun c=>c == 0)
 | []=>rfl
 | b::bs=>by
  simp only [allZ,List.all_cons]
  by_cases h:b=0
  ·subst h
   have:Nat.beq (0:UInt8).toNat 0=true:=rfl
   rw [this]; simp [allZ_eq bs]
  ·have h1:b.toNat≠0:=fun hh=>h (UInt8.toNat_inj.1 (by rw [hh]; rfl))
   rw [beq_false h1]; simp [h]
def blankK (args:List Value) (h:AW):Option (Value × AW) :=
 match args with
 | [.slice (some ⟨r,off,none⟩) n c]=>match getRow h r with
  | some (e,cs)=>match Nat.ble n 1000,cut cs off n with
   | true,some xs=>match u8K xs,u8K cs with
    | some bs,some _=>some (.bool (allZ bs),h)
    | _,_=>none
   | _,_=>none
  | none=>none
 | _=>none
theorem blankK_sound {args:List Value} {h h':AW} {v:Value} (k:blankK args h=some (v,h')) :
  (∃ fn c,Tryz.prog.funcs[95]?=some fn/\fn.body=some c)/\∀ ρ us w,LRel ρ args us->HRel Tryz.prog ρ h w->Calls Tryz.prog 95 ⟨us⟩ w fun e w'=>∃ u ρ',e=.returned u/\VRel ρ' v u/\HRel Tryz.prog ρ' h' w'/\Turn ρ h w ρ' h' w':=by
 unfold blankK at k
 split at k
 case h_2=>cases k
 rename_i r off n c
 split at k
 case h_2=>cases k
 rename_i e cs h1
 split at k
 case h_2=>cases k
 rename_i xs hn hx
 split at k
 case h_2=>cases k
 rename_i bs bs2 hb hb2
 have hn:=of_ble hn
 have hb:=u8K_eq hb
 have hb2:=u8K_eq hb2
 subst hb; subst hb2
 simp only [Option.some.injEq,Prod.mk.injEq] at k
 obtain ⟨rfl,rfl⟩:=k
 have hl:bs.length=n:=by have:=(cut_eq hx).2.2.1; rwa [byteCells_len] at this
 subst hl
 have hv:SV 1 [(r,ARow.cells e (byteCells bs2))] (.slice (some ⟨r,off,none⟩) bs.length c) bs.length (byteCells bs):=.inr ⟨r,off,c,_,_,rfl,List.mem_cons_self ..,rfl,by rw [Nat.mul_one]; exact hx⟩
 have c1:=blank_ct hv (by omega)
 rw [← allZ_eq] at c1
 exact known_still (fun p hp=>by simp only [List.mem_singleton] at hp; subst hp; exact getRow_eq h1) (by simp) (fun p hp=>by simp only [List.mem_singleton] at hp; subst hp; exact allFlat_easy (byteCells_flat _)) c1 rfl
def freeB:List Bool->Nat->Option Nat
 | [],n=>fn n
 | true::T,n=>freeB T n
 | false::T,n=>match fn (n+1) with
  | some m=>freeB T m
  | none=>none
theorem freeB_eq:∀ {T:List Bool} {n m:Nat},freeB T n=some m->m=n+frees T
 | [],n,m,h=>by have:=fn_eq h; subst this; simp [frees]
 | true::T,n,m,h=>by
  have:=freeB_eq (T:=T) h
  rw [this]; simp [frees]
 | false::T,n,m,h=>by
  simp only [freeB] at h
  split at h
  ·rename_i k hk
   have hk:=fn_eq hk
   have:=freeB_eq (T:=T) h
   rw [this,hk]; simp [frees]; omega
  ·cases h
def bitsB8 (z:Nat):Nat->Nat->Option (List Bool)
 | _,0=>some []
 | i,n+1=>match bitsB8 z (i+1) n,z.testBit i with
  | some l,true=>some (true::l)
  | some l,false=>some (false::l)
  | none,_=>none
def bitsL:List Value->Nat->Option (List Bool)
 | [],n=>match Nat.beq n 0 with | true=>some [] | false=>none
 | .int .u8 (.ofNat z)::cs,n=>match bitsB8 z 0 (Nat.min 8 n),bitsL cs (n - Nat.min 8 n) with
  | some a,some b=>join a b
  | _,_=>none
 | _::_,_=>none
def freeK (ft:TypeId) (args:List Value) (h:AW):Option (Value × AW) :=
 match args with
 | [.pointer (some ⟨rm,0,none⟩)]=>match getRow h rm with
  | some (e,[.int .i64 (.ofNat n),.slice (some ⟨rb,0,none⟩) m c])=>match getRow h rb,Nat.ble n 32768 with
   | some (e2,cs),true=>match bitsL cs n with
    | some T=>match Nat.beq T.length n,pk T with
     | true,bs=>match (Nat.beq e ft && (Nat.beq e2 5 && !(Nat.beq rm rb))) && ((Nat.beq m bs.length && Nat.beq c m) && cellsEq cs bs),freeB T 0 with
      | true,some k=>some (.int .i64 (.ofNat k),h)
      | _,_=>none
     | false,_=>none
    | none=>none
   | _,_=>none
  | _=>none
 | _=>none
theorem freeK_sound {args:List Value} {h h':AW} {v:Value} (k:freeK 131 args h=some (v,h')) :
  (∃ fn c,Tryz.prog.funcs[51]?=some fn/\fn.body=some c)/\∀ ρ us w,LRel ρ args us->HRel Tryz.prog ρ h w->Calls Tryz.prog 51 ⟨us⟩ w fun e w'=>∃ u ρ',e=.returned u/\VRel ρ' v u/\HRel Tryz.prog ρ' h' w'/\Turn ρ h w ρ' h' w':=by
 unfold freeK at k
 split at k
 case h_2=>cases k
 rename_i rm
 split at k
 case h_2=>cases k
 rename_i e n rb m c h1
 split at k
 case h_2=>cases k
 rename_i e2 cs h2 hn
 have hn:=of_ble hn
 split at k
 case h_2=>cases k
 rename_i T hT0
 split at k
 case h_2=>cases k
 rename_i bs hTl
 have hTl:=of_beq hTl
 split at k
 case h_2=>cases k
 rename_i kk hb hk
 have hk:=freeB_eq hk
 simp only [Bool.and_eq_true,Bool.not_eq_true'] at hb
 obtain ⟨⟨b1,b2,b3⟩,⟨b4,b5⟩,b6⟩:=hb
 have b1:=of_beq b1; have b2:=of_beq b2; have b3:=of_beq_f b3; have b4:=of_beq b4; have b5:=of_beq b5
 have hcs:=cellsEq_eq b6
 clear b6 hT0
 subst b1; subst b2; subst b5; subst b4; subst hTl; subst hcs
 simp only [Option.some.injEq,Prod.mk.injEq] at k
 obtain ⟨rfl,rfl⟩:=k
 rw [Nat.zero_add] at hk
 subst hk
 have c1:=Free_ct (F:=[]) (rm:=rm) (rb:=rb) (T:=T) hn
 refine known_still (Rest:=fm rm rb T []) (fun p hp=>?_) ?_ (fun p hp=>?_) c1 rfl
 ·rcases List.mem_cons.1 hp with rfl | hp
  ·exact getRow_eq h1
  ·simp only [List.mem_singleton] at hp; subst hp; exact getRow_eq h2
 ·simp [b3]
 ·rcases List.mem_cons.1 hp with rfl | hp
  ·have h5:(pk T).length≠openCap:=by rw [pk_len]; unfold openCap; omega
   simp only [easyRow,allEasy,easy,flat,beq_false h5,Bool.not_false,Bool.and_self]
  ·simp only [List.mem_singleton] at hp; subst hp
   exact allFlat_easy (byteCells_flat _)
def lib7:Known:=fun f args h =>
 match Nat.beq f 68 with
 | true=>insK 9 args h
 | false=>match Nat.beq f 71 with
  | true=>delK 9 args h
  | false=>match Nat.beq f 84 with
   | true=>sortK 83 117 3 args h
   | false=>match Nat.beq f 52 with
    | true=>listK 131 3 args h
    | false=>match Nat.beq f 18 with
     | true=>textK args h
     | false=>match Nat.beq f 95 with
      | true=>blankK args h
      | false=>match Nat.beq f 51 with
       | true=>freeK 131 args h
       | false=>none
theorem insK_sound {args:List Value} {h h':AW} {v:Value} (k:insK 9 args h=some (v,h')) :
  (∃ fn c,Tryz.prog.funcs[68]?=some fn/\fn.body=some c)/\∀ ρ us w,LRel ρ args us->HRel Tryz.prog ρ h w->Calls Tryz.prog 68 ⟨us⟩ w fun e w'=>∃ u ρ',e=.returned u/\VRel ρ' v u/\HRel Tryz.prog ρ' h' w'/\Turn ρ h w ρ' h' w':=by
 unfold insK at k
 split at k
 case h_2=>cases k
 rename_i r n c z rv
 split at k
 case h_2=>cases k
 rename_i e1 cs e2 x h1 h2
 split at k
 case h_2=>cases k
 rename_i cs' hb hi
 simp only [Bool.and_eq_true,Bool.not_eq_true'] at hb
 obtain ⟨⟨⟨b1,b2⟩,b3,b4,b5⟩,⟨b6,b7⟩,b8,b9⟩:=hb
 have b1:=of_beq b1; have b2:=of_beq b2; have b3:=of_beq_f b3; have b4:=of_beq b4; have b5:=ileB_iff.1 b5; have b6:=of_beq b6; have b7:=of_ble b7
 subst b1; subst b2; subst b4
 obtain ⟨i,rfl⟩:=Int.eq_ofNat_of_zero_le b5
 rw [Int.toNat_natCast] at hi
 obtain ⟨hi1,rfl⟩:=insO_eq hi
 have c1:=InsertS_ct (F:=[(rv,.cells 9 [x])]) (Y:=[(r,.cells 9 cs)]) (x:=x) (i:=i) (n:=n) (rv:=rv) (v:=.slice (some ⟨r,0,none⟩) n openCap) (.inr ⟨r,rfl,by omega,rfl⟩) (by omega) (by omega) (flat_one b9) (allFlat_one b8) (List.mem_cons_self ..) (fun p hp=>by simp only [List.mem_singleton] at hp; subst hp; exact b3)
 exact known_list (sz:=1) (getRow_eq h1) (fun p hp=>by simp only [List.mem_singleton] at hp; subst hp; exact getRow_eq h2) (by simp [b3]) (fun p hp=>by simp only [List.mem_singleton] at hp; subst hp; simp [easyRow,allEasy,easy_flat b9]) c1 rfl (ins_flat b8 b9) k
theorem delK_sound {args:List Value} {h h':AW} {v:Value} (k:delK 9 args h=some (v,h')) :
  (∃ fn c,Tryz.prog.funcs[71]?=some fn/\fn.body=some c)/\∀ ρ us w,LRel ρ args us->HRel Tryz.prog ρ h w->Calls Tryz.prog 71 ⟨us⟩ w fun e w'=>∃ u ρ',e=.returned u/\VRel ρ' v u/\HRel Tryz.prog ρ' h' w'/\Turn ρ h w ρ' h' w':=by
 unfold delK at k
 split at k
 case h_2=>cases k
 rename_i r n c z z2
 split at k
 case h_2=>cases k
 rename_i e1 cs h1
 split at k
 case h_2=>cases k
 rename_i cs' hb hi
 simp only [Bool.and_eq_true] at hb
 obtain ⟨⟨b1,b4,b5⟩,⟨b6,b7⟩,b8,b9⟩:=hb
 have b1:=of_beq b1; have b4:=of_beq b4; have b5:=ileB_iff.1 b5; have b6:=of_beq b6; have b7:=of_ble b7
 subst b1; subst b4
 obtain ⟨i,rfl⟩:=Int.eq_ofNat_of_zero_le b5
 rw [Int.toNat_natCast] at hi
 obtain ⟨hi1,rfl⟩:=erO_eq hi
 rw [ieqB_eq] at b9
 have b9:z2=((i+1:Nat):Int):=by simpa using b9
 subst b9
 have c1:=DeleteS_ct (F:=[]) (Y:=[(r,.cells 9 cs)]) (i:=i) (n:=n) (v:=.slice (some ⟨r,0,none⟩) n openCap) (.inr ⟨r,rfl,by omega,rfl⟩) (by omega) (by omega) (allFlat_one b8)
 exact known_list (sz:=1) (getRow_eq h1) (fun p hp=>by cases hp) (by simp) (fun p hp=>by cases hp) c1 rfl (er_flat b8) k
theorem keys_small {g:Nat->Option Value} {es:List MapEntry} {ck:Nat} (hM:MP es ck g):∀ ks:List Nat,ks.Nodup->(∀ k,k∈ks->g k≠none)->ks.length<=es.length:=by
 obtain ⟨D,rfl,hD⟩:=hM
 intro ks hn hk
 have:=nodup_le (A:=ks) (B:=D.map (·.1)) hn (fun k hkk=>by
  cases hg:g k with
  | none=>exact absurd hg (hk k hkk)
  | some v=>obtain ⟨b,hb⟩:=(hD.is k v).1 hg; exact List.mem_map.2 ⟨_,hb,rfl⟩)
 simpa using this
theorem sortK_sound {args:List Value} {h h':AW} {v:Value} (k:sortK 83 117 3 args h=some (v,h')) :
  (∃ fn c,Tryz.prog.funcs[84]?=some fn/\fn.body=some c)/\∀ ρ us w,LRel ρ args us->HRel Tryz.prog ρ h w->Calls Tryz.prog 84 ⟨us⟩ w fun e w'=>∃ u ρ',e=.returned u/\VRel ρ' v u/\HRel Tryz.prog ρ' h' w'/\Turn ρ h w ρ' h' w':=by
 unfold sortK at k
 split at k
 case h_2=>cases k
 rename_i f2 a b
 split at k
 case h_2=>cases k
 rename_i rb ha hb hf
 have hf:=of_beq hf
 subst hf
 have ha':a=#[]:=Array.toList_inj.1 (by rw [ha])
 have hb':b=#[ptr rb]:=Array.toList_inj.1 (by rw [hb])
 subst ha'; subst hb'
 split at k
 case h_2=>cases k
 rename_i e rm h1
 split at k
 case h_3=>cases k
 ·rename_i ck he h2
  have he:=of_beq he
  subst he
  simp only [Option.some.injEq,Prod.mk.injEq] at k
  obtain ⟨rfl,rfl⟩:=k
  have hne:rb≠rm:=fun hh=>by
   have h3:=getRow_eq h1
   rw [hh,h2] at h3; cases h3
  have hM:MP [] ck (fun _=>none):=⟨[],rfl,List.nodup_nil,List.nodup_nil,fun _ h=>(by cases h),fun k v=>⟨fun h=>(by cases h),fun ⟨b,h⟩=>(by cases h)⟩⟩
  have c1:=Sorted_ct (F:=[]) (rb:=rb) (rm:=rm) hM (B:=0) (fun ks hn hk=>by simpa using keys_small hM ks hn hk) (by omega)
  have hL:∀ p,p∈[(rb,mbRow rm),(rm,ARow.map [] ck)]->h.get p.1=some p.2:=fun p hp=>by
   rcases List.mem_cons.1 hp with rfl | hp
   ·exact getRow_eq h1
   ·simp only [List.mem_singleton] at hp; subst hp; exact h2
  have hnd:([(rb,mbRow rm),(rm,ARow.map [] ck)].map (·.1)).Nodup:=by simp [hne]
  have hE:∀ p,p∈[(rb,mbRow rm),(rm,ARow.map [] ck)]->easyRow p.2=true:=fun p hp=>by
   rcases List.mem_cons.1 hp with rfl | hp
   ·rfl
   ·simp only [List.mem_singleton] at hp; subst hp; rfl
  refine ⟨c1.isFn hnd,fun ρ us w hus H=>?_⟩
  have c2:=c1.mono (R':=fun u L'=>u=.slice none 0 0/\L'=[(rb,mbRow rm),(rm,ARow.map [] ck)]) (fun u L' ⟨ks,⟨_,hk⟩,hnl,hg⟩=>by
   have hk0:ks=[]:=by
    cases ks with
    | nil=>rfl
    | cons x xs=>exact absurd rfl ((hk x).1 (List.mem_cons_self ..))
   have hu:=hnl hk0
   subst hu
   rcases hg with ⟨_,_,_,rfl⟩ | ⟨r,hh,_⟩
   ·exact ⟨rfl,rfl⟩
   ·cases hh)
  refine (CS.localRun (Rest:=[(rb,mbRow rm),(rm,ARow.map [] ck)]) c2 hnd hL (fun v L' hR p hp=>by rw [hR.2]; exact hp) hus H).2.mono ?_
  rintro en w' ⟨u,L₁,x,ρ₁,hh₁,rfl,⟨rfl,rfl⟩,hv,H₁,T⟩
  cases hv
  obtain ⟨q1,q2⟩:=T.flat H hL (fun p hp=>hp) hE (fun p hp=>hp)
  exact ⟨_,ρ,rfl,.sliceNil,q1,q2⟩
 ·rename_i kk v1 b1 ck he h2
  have he:=of_beq he
  subst he
  split at k
  case h_2=>cases k
  rename_i hb1
  simp only [Bool.and_eq_true,Bool.not_eq_true'] at hb1
  obtain ⟨e1,e2,e3⟩:=hb1
  have e2:=of_ble e2
  have hne:=of_beq_f e3
  split at k
  case h_2=>cases k
  rename_i q h₂ hnew
  simp only [Option.some.injEq,Prod.mk.injEq] at k
  obtain ⟨rfl,rfl⟩:=k
  have hM:MP [⟨.int .i64 (.ofNat kk),v1,b1⟩] ck (updF (fun _=>none) kk (some v1)):=by
   refine ⟨[(kk,v1,b1)],rfl,by simp,by simp,fun p hp=>by simp only [List.mem_singleton] at hp; subst hp; simp only; omega,fun k v=>?_⟩
   unfold updF
   by_cases hk:k=kk
   ·subst hk
    simp
    exact eq_comm
   ·simp [hk]
  have c1:=Sorted_ct (F:=[]) (rb:=rb) (rm:=rm) hM (B:=1) (fun ks hn hk=>by simpa using keys_small hM ks hn hk) (by omega)
  have hL:∀ p,p∈[(rb,mbRow rm),(rm,ARow.map [⟨.int .i64 (.ofNat kk),v1,b1⟩] ck)]->h.get p.1=some p.2:=fun p hp=>by
   rcases List.mem_cons.1 hp with rfl | hp
   ·exact getRow_eq h1
   ·simp only [List.mem_singleton] at hp; subst hp; exact h2
  have hnd:([(rb,mbRow rm),(rm,ARow.map [⟨.int .i64 (.ofNat kk),v1,b1⟩] ck)].map (·.1)).Nodup:=by simp [hne]
  have hE:∀ p,p∈[(rb,mbRow rm),(rm,ARow.map [⟨.int .i64 (.ofNat kk),v1,b1⟩] ck)]->easyRow p.2=true:=fun p hp=>by
   rcases List.mem_cons.1 hp with rfl | hp
   ·rfl
   ·simp only [List.mem_singleton] at hp; subst hp; simp only [easyRow,List.map_cons,List.map_nil,allEasy,e1,Bool.and_true]; rfl
  refine ⟨c1.isFn hnd,fun ρ us w hus H=>?_⟩
  have c2:=c1.mono (R':=fun u L'=>∃ r',u=.slice (some ⟨r',0,none⟩) 1 openCap/\L'=(r',.cells 3 [.int .i64 (.ofNat kk)])::[(rb,mbRow rm),(rm,ARow.map [⟨.int .i64 (.ofNat kk),v1,b1⟩] ck)]) (fun u L' ⟨ks,⟨hp,hk⟩,hnl,hg⟩=>by
   have hmem:∀ k,k∈ks↔k=kk:=fun k=>by
    rw [hk]; unfold updF
    by_cases h:k=kk <;> simp [h]
   have hk1:ks=[kk]:=by
    match ks,hp,hmem with
    | [],_,hmem=>exact absurd ((hmem kk).2 rfl) (by simp)
    | [x],_,hmem=>rw [(hmem x).1 (by simp)]
    | x::y::l,hp,hmem =>
     have h1:=(hmem x).1 (by simp)
     have h2:=(hmem y).1 (by simp)
     simp only [List.pairwise_cons,List.mem_cons,forall_eq_or_imp] at hp
     omega
   subst hk1
   rcases hg with ⟨_,h0,_⟩ | ⟨r,rfl,_,rfl⟩
   ·cases h0
   ·exact ⟨r,rfl,rfl⟩)
  refine (CS.localRun (Rest:=[(rb,mbRow rm),(rm,ARow.map [⟨.int .i64 (.ofNat kk),v1,b1⟩] ck)]) c2 hnd hL (fun v L' ⟨r',_,hR⟩ p hp=>by rw [hR]; exact List.mem_cons_of_mem _ hp) hus H).2.mono ?_
  rintro en w' ⟨u,L₁,x,ρ₁,hh₁,rfl,⟨r',rfl,rfl⟩,hv,H₁,T⟩
  have hr':hh₁.get r'=some (.cells 3 ([.int .i64 (.ofNat kk)]++[])):=H₁.get (r',_) (List.mem_cons_self ..)
  have hne':∀ p,p∈[(rb,mbRow rm),(rm,ARow.map [⟨.int .i64 (.ofNat kk),v1,b1⟩] ck)]->p.1≠r':=fun p hp hh=>by
   have:=H₁.nd
   rw [List.map_cons,List.nodup_cons] at this
   exact this.1 (List.mem_map.2 ⟨p,hp,hh⟩)
  obtain ⟨ρ',p1,p2,p3⟩:=T.list (D:=[]) (sz:=1) (h0:=h) H hL (fun p hp=>.inr hp) hE (fun p hp=>hp) hr' hne' hv rfl rfl (.inl rfl) rfl (fun m=>by simp) rfl rfl hnew
  exact ⟨x,ρ',rfl,p1,p2,p3⟩
theorem lib7_sound:Sound Tryz.prog lib7:=by
 intro f args h v h' k
 unfold lib7 at k
 split at k
 ·rename_i hb
  have:=of_beq hb; subst this
  exact insK_sound k
 ·split at k
  ·rename_i hb
   have:=of_beq hb; subst this
   exact delK_sound k
  ·split at k
   ·rename_i hb
    have:=of_beq hb; subst this
    exact sortK_sound k
   ·split at k
    ·rename_i hb
     have:=of_beq hb; subst this
     exact listK_sound k
    ·split at k
     ·rename_i hb
      have:=of_beq hb; subst this
      exact textK_sound k
     ·split at k
      ·rename_i hb
       have:=of_beq hb; subst this
       exact blankK_sound k
      ·split at k
       ·rename_i hb
        have:=of_beq hb; subst this
        exact freeK_sound k
       ·cases k
end Go.Proofs.YtlmmddfhoabjfaaGreat
end
section
namespace Go.Proofs.YtlmmddfhoabjfaaGreat
open Go.Am
theorem works_run:answersTrue Tryz.prog lib7 3000 60 8=true:=by kernel_rfl
theorem works_ct {L:RL}:CS Tryz.prog 8 [] L fun v L'=>v=.bool true/\L'=L:=by
 have e:=works_run
 unfold answersTrue at e
 split at e
 ·rename_i b h' hcall
  subst e
  exact CS.closed noGo mixed lib7_sound rfl rfl hcall
 ·cases e
end Go.Proofs.YtlmmddfhoabjfaaGreat
end
section
namespace Go.Proofs.YtlmmddfhoabjfaaGreat
open Go.Am
theorem TR.under {c:Cfg} {G X:RL} {s:TSt} {L:RL} (h:TR c G X s L):∃ Z,Sub (G++Z) L:=by
 obtain ⟨T,es,ck,ws,wk,hN,rfl,hp⟩:=h
 refine ⟨HD c.rf c.rb c.rt c.rn c.rw T s.root s.cnt c.root0 c.cnt0 es ck ws wk X,Sub.sums fun f=>?_⟩
 simp [HD,fm]<;>omega
end Go.Proofs.YtlmmddfhoabjfaaGreat
end
section
namespace Go.Am
theorem CS.closedP {P:Program} (hg:noGo P=true) (hmix:P.follows .mixedOrders=true) {fuel depth:Nat} {f:FuncId} {args:List Value} {v:Value} {L:RL}
  (ha:allPlain args=true) (hv:Am.plain v=true) (e:(callB P nothing fuel depth f args AW.empty).map (·.1)=some v):CS P f args L fun v' L'=>v'=v/\L'=L:=by
 obtain ⟨⟨v0,h₁⟩,e',rfl⟩:=Option.map_eq_some_iff.1 e
 intro h H
 have s:=callB_sound hg hmix nothing_sound fuel depth f args AW.empty v0 h₁ e'
 refine ⟨s.1,fun ρ us w hus HR=>?_⟩
 have hus':=hus.plain_eq ha
 subst hus'
 refine (s.2 (fun _=>none) us w (.of_plain ha) (empty_rel w)).mono ?_
 rintro en w' ⟨u,ρ',rfl,hvu,H',T⟩
 have hu:=hvu.plain_eq hv
 subst hu
 have keep:∀ k,k < w.heap.size->w'.heap[k]?=w.heap[k]?:=fun k hk=>T.keep k hk fun r row l hr=>(by cases hr)
 refine ⟨u,h,u,ρ,rfl,⟨L,⟨rfl,rfl⟩,H⟩,.of_plain hv,⟨fun r row hr=>?_,HR.inj,HR.fresh,HR.step⟩,⟨Env.le_refl _,T.os,T.tape,T.output,T.size,fun r row l hr ho hl _=>⟨r,row,l,hr,ho,hl,rfl⟩,fun k hk _=>keep k hk,fun _ _ e=>.inl e,⟨0,by simp⟩,rfl⟩⟩
 obtain ⟨l,hl,hr'⟩:=HR.loc r row hr
 exact ⟨l,hl,hr'.keep (Env.le_refl _) (keep _ hr'.lt)⟩
theorem e_bytes {P:Program} {o:Oper} {a:Slots} {L:RL} {x:Operand} {src dst e:TypeId} {bs:List UInt8} (ho:o.op=.convert src dst x) (hx:aev a x=some (.string ⟨⟨bs⟩⟩)) (h1:P.underlying src=some .string) (h2:P.underlying dst=some (.slice e)) (hu:(isU8 P e && u8OneB P e)=true) (hl:bs.length<=9223372036854775807) (hs:(sizeB P e).isSome=true) :
  ∀ h,Has h L->∃ r h₁,opB P a o h=some (.val (.slice (some ⟨r,0,none⟩) bs.length openCap) h₁)/\Has h₁ ((r,.cells e (byteCells bs))::L):=by
 intro h H
 obtain ⟨n,hn⟩:=Option.isSome_iff_exists.1 hs
 obtain ⟨h₁,e₁⟩:=h.new_some (.cells e (byteCells bs))
 refine ⟨h.next,h₁,?_,H.new e₁⟩
 have b1:Nat.ble bs.length 9223372036854775807=true:=Nat.ble_eq_true_of_le hl
 simp only [opB,ho,hx,convB,h1,h2,hu,b1,cellsOfB_bytes,newCells,hn,e₁,Bool.and_self,ret2]
end Go.Am
namespace Go.Proofs.YtlmmddfhoabjfaaGreat
open Go.Am
section
variable {L:RL}
theorem nGet_ct:CS Tryz.prog 20 [.pointer none,txt [97]] L fun v L'=>v=.tuple #[txt [],.bool false]/\L'=L:=CS.closedP noGo mixed (fuel:=100) (depth:=10) rfl rfl (by kernel_rfl)
theorem nPut_ct:CS Tryz.prog 14 [.pointer none,txt [97],txt [98]] L fun v L'=>v=.int .i64 2/\L'=L:=CS.closedP noGo mixed (fuel:=100) (depth:=10) rfl rfl (by kernel_rfl)
theorem nDel_ct:CS Tryz.prog 15 [.pointer none,txt [97]] L fun v L'=>v=.int .i64 2/\L'=L:=CS.closedP noGo mixed (fuel:=100) (depth:=10) rfl rfl (by kernel_rfl)
theorem nClean_ct:CS Tryz.prog 21 [.pointer none] L fun v L'=>v=.int .i64 2/\L'=L:=CS.closedP noGo mixed (fuel:=100) (depth:=10) rfl rfl (by kernel_rfl)
theorem nBack_ct:CS Tryz.prog 22 [.pointer none] L fun v L'=>v=.int .i64 2/\L'=L:=CS.closedP noGo mixed (fuel:=100) (depth:=10) rfl rfl (by kernel_rfl)
theorem nRoot_ct:CS Tryz.prog 13 [.pointer none] L fun v L'=>v=.int .i64 (-1)/\L'=L:=CS.closedP noGo mixed (fuel:=100) (depth:=10) rfl rfl (by kernel_rfl)
theorem nLen_ct:CS Tryz.prog 19 [.pointer none] L fun v L'=>v=.int .i64 0/\L'=L:=CS.closedP noGo mixed (fuel:=100) (depth:=10) rfl rfl (by kernel_rfl)
theorem nFree_ct:CS Tryz.prog 23 [.pointer none] L fun v L'=>v=.int .i64 0/\L'=L:=CS.closedP noGo mixed (fuel:=100) (depth:=10) rfl rfl (by kernel_rfl)
theorem nUsed_ct:CS Tryz.prog 24 [.pointer none] L fun v L'=>v=.slice none 0 0/\L'=L:=CS.closedP noGo mixed (fuel:=100) (depth:=10) rfl rfl (by kernel_rfl)
theorem nDirty_ct:CS Tryz.prog 25 [.pointer none] L fun v L'=>v=.slice none 0 0/\L'=L:=CS.closedP noGo mixed (fuel:=100) (depth:=10) rfl rfl (by kernel_rfl)
theorem nRange_ct:CS Tryz.prog 26 [.pointer none,txt [],txt []] L fun v L'=>v=.slice none 0 0/\L'=L:=CS.closedP noGo mixed (fuel:=100) (depth:=10) rfl rfl (by kernel_rfl)
end
theorem text1_ct {L:RL} (n:Nat) (hn:n<=1000):CS Tryz.prog 12 [.int .i64 (n:Nat)] L fun u L'=>∃ r,u=.slice (some ⟨r,0,none⟩) n openCap/\L'=(r,bRow (List.replicate n 1))::L:=by
 refine CS.mk (fn:=Tryz.f12) rfl rfl rfl rfl ?_
 repeat refine xQ ?_
 refine xG rfl ?_
 refine xP rfl rh rfl ?_
 refine xN ?_
 repeat refine xQ ?_
 refine xG rfl ?_
 refine xP rfl rh rfl ?_
 refine xA noGo rfl (fun _=>rfl) ((text_ct n 1 (by omega)).mono ?_)
 rintro u L' ⟨rfl,hLL⟩
 have hLL:=hLL.symm
 subst hLL
 refine ⟨_,rfl,?_⟩
 refine OS.fresh rfl (e_bytes (bs:=List.replicate n 1) rfl rfl rfl rfl rfl (by rw [List.length_replicate]; omega) rfl) (fun _=>rfl) (fun r=>?_)
 rw [List.length_replicate]
 refine xP rfl rh rfl ?_
 refine xN ?_
 refine xT ⟨_,fun _ _=>rfl,?_⟩
 exact ⟨r,rfl,rfl⟩
theorem leaf_ct {L:RL} (key:Tx):CS Tryz.prog 16 [txt key] L fun u L'=>∃ ra rb,u=ndV true (.slice (some ⟨ra,0,none⟩) 1 1) (.slice (some ⟨rb,0,none⟩) 1 1) (.slice none 0 0)/\L'=(rb,.cells 9 [txt [118]])::(ra,.cells 9 [txt key])::L:=by
 suffices g:CS Tryz.prog 16 [txt key] L fun u L'=>∃ ra rb x,u=ndV true (.slice (some ⟨ra,0,none⟩) 1 1) (.slice (some ⟨rb,0,none⟩) 1 1) (.slice none 0 0)/\L'=(rb,.cells 9 [txt [118]])::(ra,.cells 9 [txt key])::x::L by
  refine g.less ?_
  rintro u L' ⟨ra,rb,x,h1,rfl⟩
  exact ⟨_,Sub.cons (Sub.cons Sub.tail),ra,rb,h1,rfl⟩
 refine CS.mk (fn:=Tryz.f16) rfl rfl rfl rfl ?_
 repeat refine xQ ?_
 refine xG rfl ?_
 refine OS.fresh rfl (e_new (fun _=>rfl) rfl) (fun _=>rfl) (fun rc=>?_)
 refine xN ?_
 repeat refine xQ ?_
 refine xG rfl ?_
 refine xP rfl rh rfl ?_
 refine OS.fresh rfl (e_new (fun _=>rfl) rfl) (fun _=>rfl) (fun ra=>?_)
 refine OS.fresh rfl (e_new (fun _=>rfl) rfl) (fun _=>rfl) (fun rb=>?_)
 refine xP rfl rh rfl ?_
 refine OS.write rfl (e_store 2 rfl rfl rfl rfl rfl rfl rfl rfl) rfl ?_
 refine xN ?_
 refine xT ⟨_,res_cell (x:=2) 2 rfl rfl rfl rfl,?_⟩
 exact ⟨ra,rb,_,rfl,rfl⟩
def NC (M:RL):List Value->List Nd->Prop
 | cs,[]=>cs=[]
 | cs,nd::r=>∃ v1 v2 v3 rest,cs=.bool nd.leaf::v1::v2::v3::rest/\NV M nd v1 v2 v3/\NC M rest r
theorem NC.len {M:RL}:∀ {nds:List Nd} {cs:List Value},NC M cs nds->cs.length=nds.length * 4
 | [],cs,h=>by rw [show cs=[] from h]; rfl
 | nd::r,cs,⟨v1,v2,v3,rest,h1,h2,h3⟩=>by
  have:=NC.len h3
  rw [h1]
  simp only [List.length_cons]
  omega
theorem NC.get {M:RL}:∀ {nds:List Nd} {cs:List Value} {i:Nat} {nd:Nd},NC M cs nds->nds[i]?=some nd->∃ v1 v2 v3,(cs.drop (i * 4)).take 4=[.bool nd.leaf,v1,v2,v3]/\NV M nd v1 v2 v3
 | nd::r,cs,0,nd',⟨v1,v2,v3,rest,h1,h2,h3⟩,h=>by
  simp at h; subst h
  exact ⟨v1,v2,v3,by rw [h1]; rfl,h2⟩
 | nd::r,cs,i+1,nd',⟨v1,v2,v3,rest,h1,h2,h3⟩,h=>by
  obtain ⟨a,b,c,h4,h5⟩:=NC.get (i:=i) (nd:=nd') h3 (by simpa using h)
  refine ⟨a,b,c,?_,h5⟩
  rw [h1,show (i+1) * 4=i * 4+1+1+1+1 by omega]
  exact h4
def NLs (M:RL) (v:Value) (nds:List Nd):Prop:=∃ cs,SV 4 M v nds.length cs/\NC M cs nds
theorem NLs.get {M:RL} {v:Value} {nds:List Nd} {cs:List Value} {i:Nat} {nd:Nd} (h:NC M cs nds) (hi:nds[i]?=some nd):∃ v1 v2 v3,Go.Am.cut cs (i * 4) 4=some [.bool nd.leaf,v1,v2,v3]/\NV M nd v1 v2 v3:=by
 obtain ⟨v1,v2,v3,h1,h2⟩:=h.get hi
 have hl:=h.len
 have hil:=(List.getElem?_eq_some_iff.1 hi).1
 exact ⟨v1,v2,v3,by rw [cut_of (by omega),h1],h2⟩
abbrev lfN (k:UInt8):Nd:=⟨true,[[k]],[[118]],[]⟩
abbrev inN (k:UInt8) (a b:Int):Nd:=⟨false,[[k]],[],[a,b]⟩
abbrev onN (a:Int):Nd:=⟨false,[],[],[a]⟩
abbrev sl (r n:Nat):Value:=.slice (some ⟨r,0,none⟩) n n
theorem nv_leaf {M:RL} {la lb:Nat} {k:UInt8} (h1:(la,.cells 9 [txt [k]])∈M) (h2:(lb,.cells 9 [txt [118]])∈M):NV M (lfN k) (sl la 1) (sl lb 1) (.slice none 0 0) :=
 ⟨SV.row h1 rfl,SV.row h2 rfl,.inl ⟨rfl,rfl,rfl⟩,by simp,by simp,by simp,by simp,by simp⟩
theorem nv_inn {M:RL} {s z:Nat} {k:UInt8} {a b:Int} (h1:(s,.cells 9 [txt [k]])∈M) (h2:(z,.cells 3 [.int .i64 a,.int .i64 b])∈M):NV M (inN k a b) (sl s 1) (.slice none 0 0) (sl z 2) :=
 ⟨SV.row h1 rfl,.inl ⟨rfl,rfl,rfl⟩,SV.row h2 rfl,by simp,by simp,by simp,by simp,by simp⟩
theorem nv_one {M:RL} {z:Nat} {a:Int} (h2:(z,.cells 3 [.int .i64 a])∈M):NV M (onN a) (.slice none 0 0) (.slice none 0 0) (sl z 1) :=
 ⟨.inl ⟨rfl,rfl,rfl⟩,.inl ⟨rfl,rfl,rfl⟩,SV.row h2 rfl,by simp,by simp,by simp,by simp,by simp⟩
theorem nv_void {M:RL}:NV M ⟨true,[],[],[]⟩ (.slice none 0 0) (.slice none 0 0) (.slice none 0 0) :=
 ⟨.inl ⟨rfl,rfl,rfl⟩,.inl ⟨rfl,rfl,rfl⟩,.inl ⟨rfl,rfl,rfl⟩,by simp,by simp,by simp,by simp,by simp⟩
def LLs:List (List Nd):=[[onN 0],[inN 109 1 2,lfN 97,onN 3,lfN 110],[inN 98 1 2,lfN 99,lfN 100],[inN 98 1 2,lfN 97,lfN 97],[inN 98 1 1,lfN 97],[inN 98 1 9,lfN 97],[⟨true,[],[],[]⟩]]
theorem LLs_run:(LLs.all fun nds=>(nds.all fun n=>fitsN n) && ((lookF nds.length (imF (nds.map encN)) (nds.length+1) ⟨m00,0,0⟩ 0 1 [] []).isNone && decide (1<=nds.length/\nds.length<=4)))=true:=by kernel_rfl
theorem LLs_ok {nds:List Nd} (h:nds∈LLs):(∀ n∈nds,fitsN n=true)/\lookF nds.length (imF (nds.map encN)) (nds.length+1) ⟨m00,0,0⟩ 0 1 [] []=none/\1<=nds.length/\nds.length<=4:=by
 have:=List.all_eq_true.1 LLs_run nds h
 simp only [Bool.and_eq_true,decide_eq_true_eq,List.all_eq_true,Option.isNone_iff_eq_none] at this
 exact ⟨this.1,this.2.1,this.2.2.1,this.2.2.2⟩
theorem full_old {c c2:Cfg} {G X X2:RL} {s s2:TSt} {L L2:RL} {ro ro2:Nat} {P:List Pr} {key val:Tx} (h:TR c G X s L) (ho:(ro,toRow c.rt)∈G) (h2:TR c2 ((ro2,toRow c2.rt)::L) X2 s2 L2) (hg:GoodS s.m s.root P) (hcnt:s.cnt=P.length) (hP:P.length<=1000) (hm:mayP key val) (hf:frM c.N s.m < 16) :
  CS Tryz.prog 14 [ptr ro,txt key,txt val] L2 fun u L'=>u=.int .i64 3/\L'=L2:=by
 have hk:=hm.2.1
 have hv:=hm.2.2
 obtain ⟨T2,es2,ck2,ws2,wk2,hT2,rfl,hp2⟩:=h2
 obtain ⟨T,es,ck,ws,wk,hT,rfl,hpg⟩:=h
 refine ((tPut_ct (G:=HD c2.rf c2.rb c2.rt c2.rn c2.rw T2 s2.root s2.cnt c2.root0 c2.cnt0 es2 ck2 ws2 wk2 ((ro2,toRow c2.rt)::(G++X2))) ⟨T,es,ck,ws,wk,hT,rfl,hpg⟩ (by simp [ho]) hg hcnt (by omega) (by omega) (by omega)).sub (Sub.sums fun f=>?_)).less ?_
 ·simp [HD,fm]<;>omega
 ·rintro u L' (⟨h3,_⟩ | ⟨_,_,rfl,rfl⟩ | ⟨_,h4,_⟩)
  ·exact absurd hm h3
  ·refine ⟨_,Sub.sums fun f=>?_,rfl,rfl⟩
   simp [HD,fm]<;>omega
  ·omega
theorem free_lt {N:Nat} {m:Mem} {root:Int} {P:List Pr} (hg:GoodS m root P) (hP:P≠[]) (hd:∀ q,m q≠none->q < N):frM N m < N:=by
 obtain ⟨n,_,hn⟩:=hg.root.2 hP
 have h1:=used_frees (N:=N) (m:=m)
 have h2:n∈usedL N m:=by
  unfold usedL
  rw [List.mem_filter,List.mem_range]
  refine ⟨hd n hn,?_⟩
  cases h:m n with
  | none=>exact absurd h hn
  | some _=>rfl
 have h3:=List.length_pos_of_mem h2
 omega
theorem open_err {F:RL} {v:Value} {imgs:List Tx} {root:Int} (him:ImgR F v imgs) (h0:0<=root) (h1:root < imgs.length) (h2:imgs.length<=32768) (hl:lookF imgs.length (imF imgs) (imgs.length+1) ⟨m00,0,0⟩ root 1 [] []=none) :
  CS Tryz.prog 10 [.int .i64 root,v] F fun u L'=>u=.tuple #[.pointer none,.int .i64 4]/\L'=F:=by
 refine (tOpen_ct him).mono ?_
 rintro u L' (⟨h1,_⟩ | ⟨_,_,_,h⟩)
 ·omega
 ·rcases h with ⟨_,_,h5,h6⟩ | ⟨ro,c,X,m,cnt,_,_,_,_,_,_,h⟩
  ·exact ⟨h5,h6⟩
  ·rcases h with ⟨h6,_⟩ | ⟨_,σ,h6,_⟩
   ·omega
   ·rw [hl] at h6; cases h6
theorem look_short {b:Tx} (h:b.length≠256):lookF 1 (imF [b]) 2 ⟨m00,0,0⟩ 0 1 [] []=none:=by
 have hd:decB (imF [b] 0)=none:=by
  unfold decB
  rw [if_neg]
  intro hh
  exact h hh.1
 exact look_dec (N:=1) (f:=1) (p:=0) (σ:=⟨m00,0,0⟩) (d:=1) (fr:=[]) (to:=[]) (by omega) rfl hd
theorem put_bad {c:Cfg} {G X:RL} {s:TSt} {L:RL} {ro:Nat} {key val:Tx} {P:List Pr} (htr:TR c G X s L) (ho:(ro,toRow c.rt)∈L) (hg:GoodS s.m s.root P) (hcnt:s.cnt=P.length) (hP:P.length<=1000) (hk:key.length<=1000) (hv:val.length<=1000) (hn:¬ mayP key val) :
  CS Tryz.prog 14 [ptr ro,txt key,txt val] L fun u L'=>u=.int .i64 1/\L'=L:=by
 refine (tPut_ct htr ho hg hcnt (by omega) (by omega) (by omega)).mono ?_
 rintro u L' (⟨_,h1,h2⟩ | ⟨h1,_⟩ | ⟨h1,_⟩)
 ·exact ⟨h1,h2⟩
 ·exact absurd h1 hn
 ·exact absurd h1 hn
theorem put_good {c:Cfg} {G X:RL} {s:TSt} {L:RL} {ro:Nat} {key val:Tx} {P:List Pr} (htr:TR c G X s L) (ho:(ro,toRow c.rt)∈L) (hg:GoodS s.m s.root P) (hcnt:s.cnt=P.length) (hP:P.length<=1000) (hm:mayP key val) (hf:16<=frM c.N s.m) :
  CS Tryz.prog 14 [ptr ro,txt key,txt val] L fun u L'=>u=.int .i64 0/\∃ X' m' root',TR c G X' ⟨m',root',((putP key val P).length:Nat)⟩ L'/\GoodS m' root' (putP key val P)/\Few c.N m' (putP key val P):=by
 have hk:=hm.2.1
 have hv:=hm.2.2
 refine (tPut_ct htr ho hg hcnt (by omega) (by omega) (by omega)).mono ?_
 rintro u L' (⟨h1,_⟩ | ⟨_,h1,_⟩ | ⟨_,_,h1,X',m',root',_,h2,h3,h4⟩)
 ·exact absurd hm h1
 ·omega
 ·exact ⟨h1,X',m',root',h2,h3,h4⟩
theorem LS.gen {P:Program} {rd:Option Nat} {x:Code} {a:Slots} {L:RL} {R:AExit->Slots->RL->Prop} (k:∀ LB,LB=L->LSr rd P x a LB R):LSr rd P x a L R:=k L rfl
theorem errN_0 {n:Nd} (h:fitsN n=true):errN n=0:=by
 unfold errN
 rw [if_pos (fits_may h),if_pos (fits_le h)]
end Go.Proofs.YtlmmddfhoabjfaaGreat
end
section
namespace Go.Proofs.YtlmmddfhoabjfaaGreat
open Go.Am
set_option maxHeartbeats 8000000 in
theorem namesT_ct {L:RL}:CS Tryz.prog 3 [] L fun u _=>u=.bool true:=by
 refine CS.mk (fn:=Tryz.f3) rfl rfl rfl rfl ?_
 repeat refine xQ ?_
 refine xG rfl ?_
 refine xP rfl rh rfl ?_
 refine xN ?_
 repeat refine xQ ?_
 refine xG rfl ?_
 refine xA noGo rfl (fun _=>rfl) ((works_ct).mono ?_)
 rintro u L' ⟨rfl,hLL⟩
 have hLL:=hLL.symm
 subst hLL
 refine ⟨_,rfl,?_⟩
 iterate 17 refine xP rfl rh rfl ?_
 refine xN ?_
 repeat refine xQ ?_
 refine xC rfl (fun hc=>?_) (fun hc=>?_)
 ·cases hc
 refine LS.skip ?_
 repeat refine xQ ?_
 refine xG rfl ?_
 refine xA noGo rfl (fun _=>rfl) ((tNew_wrong (-1) (.inl (by decide))).mono ?_)
 rintro u L' ⟨rfl,hLL⟩
 have hLL:=hLL.symm
 subst hLL
 refine ⟨_,rfl,?_⟩
 iterate 5 refine xP rfl rh rfl ?_
 refine xN ?_
 repeat refine xQ ?_
 refine xG rfl ?_
 refine xA noGo rfl (fun _=>rfl) ((tNew_wrong 32769 (.inr (by decide))).mono ?_)
 rintro u L' ⟨rfl,hLL⟩
 have hLL:=hLL.symm
 subst hLL
 refine ⟨_,rfl,?_⟩
 iterate 5 refine xP rfl rh rfl ?_
 refine xN ?_
 repeat refine xQ ?_
 refine xG rfl ?_
 refine xA noGo rfl (fun _=>rfl) ((tNew_ct 15 (by omega)).mono ?_)
 rintro u L1 ⟨ro1,rf1,rb1,rt1,rn1,rw1,rfl,htr1⟩
 refine ⟨_,rfl,?_⟩
 iterate 5 refine xP rfl rh rfl ?_
 refine xN ?_
 repeat refine xQ ?_
 refine xG rfl ?_
 refine xA noGo rfl (fun _=>rfl) ((tNew_ct 16 (by omega)).mono ?_)
 rintro u L2 ⟨ro2,rf2,rb2,rt2,rn2,rw2,rfl,htr2⟩
 refine ⟨_,rfl,?_⟩
 iterate 5 refine xP rfl rh rfl ?_
 refine xN ?_
 repeat refine xQ ?_
 refine xG rfl ?_
 refine xA noGo rfl (fun _=>rfl) ((blankP_ct 1 (by omega)).mono ?_)
 rintro bv L' ⟨vs,I,M,rfl,gi,him⟩
 refine ⟨_,rfl,?_⟩
 refine xA noGo rfl (fun _=>rfl) ((tOpen_ct (root:=1) (him.r gi (fun p hp=>List.mem_append_left _ hp) (fun p hp=>List.mem_append_right _ (List.mem_append_left _ hp)))).mono ?_)
 rintro u L' (⟨_,rfl,rfl⟩ | ⟨_,_,h3,_⟩)
 case inr=>simp at h3
 refine ⟨_,rfl,?_⟩
 iterate 5 refine xP rfl rh rfl ?_
 refine OS.sub (Sub.suffix.trans Sub.suffix) ?_
 refine xN ?_
 clear gi him
 have hnil:∀ F:RL,ImgR F (.slice none 0 0) []:=fun F=>⟨[],.inl ⟨rfl,rfl,rfl⟩,fun i hi=>by simp at hi⟩
 repeat refine xQ ?_
 refine xG rfl ?_
 refine xA noGo rfl (fun _=>rfl) ((tOpen_ct (root:=-2) (hnil _)).mono ?_)
 rintro u L' (⟨_,rfl,hLL⟩ | ⟨_,h2,_⟩)
 case inr=>omega
 have hLL:=hLL.symm
 subst hLL
 refine ⟨_,rfl,?_⟩
 iterate 5 refine xP rfl rh rfl ?_
 refine xN ?_
 repeat refine xQ ?_
 refine xG rfl ?_
 refine xA noGo rfl (fun _=>rfl) ((tOpen_ct (root:=-1) (hnil _)).mono ?_)
 rintro u L3 (⟨h1,_⟩ | ⟨_,_,_,⟨h4,_⟩ | ⟨ro3,c3,X3,m3,cnt3,rfl,hc1,hc2,hc3,hc4,htr3,h5⟩⟩)
 ·simp at h1
 ·exact absurd rfl h4
 have hm3:m3=m00/\cnt3=0:=by
  rcases h5 with ⟨_,h6,h7⟩ | ⟨h6,_⟩
  ·exact ⟨h6,h7⟩
  ·exact absurd rfl h6
 obtain ⟨rfl,rfl⟩:=hm3
 clear h5
 refine ⟨_,rfl,?_⟩
 iterate 5 refine xP rfl rh rfl ?_
 refine xN ?_
 repeat refine xQ ?_
 refine xG rfl ?_
 refine xA noGo rfl (fun _=>rfl) ((text1_ct 255 (by omega)).mono ?_)
 rintro u L' ⟨r5,rfl,rfl⟩
 refine ⟨_,rfl,?_⟩
 refine OS.fresh rfl (e_new (fun _=>rfl) rfl) (fun _=>rfl) (fun r6=>?_)
 have him5:ImgR ((r6,.cells 30 [.slice (some ⟨r5,0,none⟩) 255 openCap])::(r5,bRow (List.replicate 255 1))::L3) (.slice (some ⟨r6,0,none⟩) 1 1) [List.replicate 255 1]:=by
  refine ⟨[.slice (some ⟨r5,0,none⟩) 255 openCap],SV.row (List.mem_cons_self ..) rfl,fun i hi=>?_⟩
  obtain rfl:i=0:=by simp at hi; omega
  exact ⟨_,rfl,.inl (.inr ⟨r5,0,_,by rw [show ([List.replicate 255 (1:UInt8)].getD 0 []).length=255 by simp],List.mem_cons_of_mem _ (List.mem_cons_self ..),cut_all (byteCells_len _)⟩)⟩
 refine xA noGo rfl (fun _=>rfl) ((open_err (root:=0) him5 (by omega) (by simp) (by simp) (look_short (by simp))).mono ?_)
 rintro u L' ⟨rfl,rfl⟩
 refine ⟨_,rfl,?_⟩
 iterate 5 refine xP rfl rh rfl ?_
 refine OS.sub (Sub.drop 1 rfl) ?_
 refine OS.sub (Sub.drop 0 rfl) ?_
 refine xN ?_
 clear him5
 repeat refine xQ ?_
 refine xG rfl ?_
 refine OS.fresh rfl (e_new (fun _=>rfl) rfl) (fun _=>rfl) (fun r7=>?_)
 have him7:ImgR ((r7,.cells 30 [.slice none 0 0])::L3) (.slice (some ⟨r7,0,none⟩) 1 1) [[]]:=by
  refine ⟨[.slice none 0 0],SV.row (List.mem_cons_self ..) rfl,fun i hi=>?_⟩
  obtain rfl:i=0:=by simp at hi; omega
  exact ⟨_,rfl,.inl (.inl ⟨rfl,rfl⟩)⟩
 refine xA noGo rfl (fun _=>rfl) ((open_err (root:=0) him7 (by omega) (by simp) (by simp) (look_short (by simp))).mono ?_)
 rintro u L' ⟨rfl,rfl⟩
 refine ⟨_,rfl,?_⟩
 iterate 5 refine xP rfl rh rfl ?_
 refine OS.sub (Sub.drop 0 rfl) ?_
 refine xN ?_
 clear him7
 have hmab:mayP [97] [98]:=⟨by decide,by decide,by decide⟩
 have hmcd:mayP [99] [100]:=⟨by decide,by decide,by decide⟩
 repeat refine xQ ?_
 refine xG rfl ?_
 iterate 28 refine xP rfl rh rfl ?_
 refine xA noGo rfl (fun _=>rfl) ((tRoot_ct htr3 (htr3.memG _ (List.mem_cons_self ..))).mono ?_)
 rintro u L' ⟨rfl,hLL⟩
 have hLL:=hLL.symm
 subst hLL
 refine ⟨_,rfl,?_⟩
 iterate 12 refine xP rfl rh rfl ?_
 obtain ⟨Z3,s3⟩:=htr3.under
 refine OS.sub (Sub.trans (B:=((ro3,toRow c3.rt)::L2)++Z3) ⟨(ro3,toRow c3.rt)::Z3,by simpa using (List.perm_middle (a:=(ro3,toRow c3.rt)) (l₁:=L2) (l₂:=Z3)).symm⟩ s3) ?_
 refine xA noGo rfl (fun _=>rfl) ((full_old (key:=[97]) (val:=[98]) htr1 (List.mem_cons_self ..) htr2 good_00 rfl (by simp) hmab (by show frM 15 m00 < 16; rw [frM_00]; omega)).mono ?_)
 rintro u L' ⟨rfl,hLL⟩
 have hLL:=hLL.symm
 subst hLL
 refine ⟨_,rfl,?_⟩
 iterate 4 refine xP rfl rh rfl ?_
 refine xA noGo rfl (fun _=>rfl) ((tPut_ct (key:=[97]) (val:=[98]) htr2 (htr2.memG _ (List.mem_cons_self ..)) good_00 rfl (by simp) (by simp) (by simp)).mono ?_)
 rintro u L4 (⟨h1,_⟩ | ⟨_,h1,_⟩ | ⟨_,_,rfl,X4,m4,root4,_,htr4,hg4,_⟩)
 ·exact absurd hmab h1
 ·have:frM 16 m00 < 16:=h1
  rw [frM_00] at this; omega
 have hf4:frM 16 m4 < 16:=free_lt hg4 (by simp [putP]) (fun q hq=>htr4.dom q hq)
 refine ⟨_,rfl,?_⟩
 iterate 4 refine xP rfl rh rfl ?_
 refine xA noGo rfl (fun _=>rfl) ((tPut_ct (key:=[99]) (val:=[100]) htr4 (htr4.memG _ (List.mem_cons_self ..)) hg4 rfl (by simp [putP]) (by simp) (by simp)).mono ?_)
 rintro u L' (⟨h1,_⟩ | ⟨_,_,rfl,hLL⟩ | ⟨_,h1,_⟩)
 ·exact absurd hmcd h1
 case inr.inr =>
  have:16<=frM 16 m4:=h1
  omega
 have hLL:=hLL.symm
 subst hLL
 refine ⟨_,rfl,?_⟩
 iterate 4 refine xP rfl rh rfl ?_
 refine xA noGo rfl (fun _=>rfl) ((tPut_ct (key:=[97]) (val:=[98]) htr4 (htr4.memG _ (List.mem_cons_self ..)) hg4 rfl (by simp [putP]) (by simp) (by simp)).mono ?_)
 rintro u L' (⟨h1,_⟩ | ⟨_,_,rfl,hLL⟩ | ⟨_,h1,_⟩)
 ·exact absurd hmab h1
 case inr.inr =>
  have:16<=frM 16 m4:=h1
  omega
 have hLL:=hLL.symm
 subst hLL
 refine ⟨_,rfl,?_⟩
 iterate 4 refine xP rfl rh rfl ?_
 refine xA noGo rfl (fun _=>rfl) ((tDel_ct (key:=[97]) htr4 (htr4.memG _ (List.mem_cons_self ..)) hg4 rfl (by simp [putP])).mono ?_)
 rintro u L5 (⟨h1,_⟩ | ⟨_,rfl,_⟩)
 ·rw [getP_putP,if_pos rfl] at h1; cases h1
 refine ⟨_,rfl,?_⟩
 iterate 2 refine xP rfl rh rfl ?_
 refine xN ?_
 clear htr1 htr2 htr3 htr4 hg4 hf4 s3
 repeat refine xQ ?_
 refine xC rfl (fun hc=>?_) (fun hc=>?_)
 ·cases hc
 refine LS.skip ?_
 repeat refine xQ ?_
 refine xG rfl ?_
 refine xP rfl rh rfl ?_
 refine xN ?_
 repeat refine xQ ?_
 refine xG rfl ?_
 refine OS.fresh rfl (e_new (fun _=>rfl) rfl) (fun _=>rfl) (fun a0=>?_)
 refine xP rfl rh rfl ?_
 refine OS.fresh rfl (e_new (fun _=>rfl) rfl) (fun _=>rfl) (fun n0=>?_)
 refine OS.fresh rfl (e_new (fun _=>rfl) rfl) (fun _=>rfl) (fun s1=>?_)
 refine OS.fresh rfl (e_new (fun _=>rfl) rfl) (fun _=>rfl) (fun z1=>?_)
 iterate 2 refine xP rfl rh rfl ?_
 refine xA noGo rfl (fun _=>rfl) ((leaf_ct [97]).mono ?_)
 rintro u L' ⟨la1,lb1,rfl,rfl⟩
 refine ⟨_,rfl,?_⟩
 refine OS.fresh rfl (e_new (fun _=>rfl) rfl) (fun _=>rfl) (fun z2=>?_)
 iterate 2 refine xP rfl rh rfl ?_
 refine xA noGo rfl (fun _=>rfl) ((leaf_ct [110]).mono ?_)
 rintro u L' ⟨la2,lb2,rfl,rfl⟩
 refine ⟨_,rfl,?_⟩
 refine OS.fresh rfl (e_new (fun _=>rfl) rfl) (fun _=>rfl) (fun n1=>?_)
 refine OS.fresh rfl (e_new (fun _=>rfl) rfl) (fun _=>rfl) (fun s3=>?_)
 refine OS.fresh rfl (e_new (fun _=>rfl) rfl) (fun _=>rfl) (fun z3=>?_)
 iterate 2 refine xP rfl rh rfl ?_
 refine xA noGo rfl (fun _=>rfl) ((leaf_ct [99]).mono ?_)
 rintro u L' ⟨la3,lb3,rfl,rfl⟩
 refine ⟨_,rfl,?_⟩
 refine xP rfl rh rfl ?_
 refine xA noGo rfl (fun _=>rfl) ((leaf_ct [100]).mono ?_)
 rintro u L' ⟨la4,lb4,rfl,rfl⟩
 refine ⟨_,rfl,?_⟩
 refine OS.fresh rfl (e_new (fun _=>rfl) rfl) (fun _=>rfl) (fun n2=>?_)
 refine OS.fresh rfl (e_new (fun _=>rfl) rfl) (fun _=>rfl) (fun s4=>?_)
 refine OS.fresh rfl (e_new (fun _=>rfl) rfl) (fun _=>rfl) (fun z4=>?_)
 iterate 2 refine xP rfl rh rfl ?_
 refine xA noGo rfl (fun _=>rfl) ((leaf_ct [97]).mono ?_)
 rintro u L' ⟨la5,lb5,rfl,rfl⟩
 refine ⟨_,rfl,?_⟩
 refine xP rfl rh rfl ?_
 refine xA noGo rfl (fun _=>rfl) ((leaf_ct [97]).mono ?_)
 rintro u L' ⟨la6,lb6,rfl,rfl⟩
 refine ⟨_,rfl,?_⟩
 refine OS.fresh rfl (e_new (fun _=>rfl) rfl) (fun _=>rfl) (fun n3=>?_)
 refine OS.fresh rfl (e_new (fun _=>rfl) rfl) (fun _=>rfl) (fun s5=>?_)
 refine OS.fresh rfl (e_new (fun _=>rfl) rfl) (fun _=>rfl) (fun z5=>?_)
 iterate 2 refine xP rfl rh rfl ?_
 refine xA noGo rfl (fun _=>rfl) ((leaf_ct [97]).mono ?_)
 rintro u L' ⟨la7,lb7,rfl,rfl⟩
 refine ⟨_,rfl,?_⟩
 refine OS.fresh rfl (e_new (fun _=>rfl) rfl) (fun _=>rfl) (fun n4=>?_)
 refine OS.fresh rfl (e_new (fun _=>rfl) rfl) (fun _=>rfl) (fun s6=>?_)
 refine OS.fresh rfl (e_new (fun _=>rfl) rfl) (fun _=>rfl) (fun z6=>?_)
 iterate 2 refine xP rfl rh rfl ?_
 refine xA noGo rfl (fun _=>rfl) ((leaf_ct [97]).mono ?_)
 rintro u L' ⟨la8,lb8,rfl,rfl⟩
 refine ⟨_,rfl,?_⟩
 refine OS.fresh rfl (e_new (fun _=>rfl) rfl) (fun _=>rfl) (fun n5=>?_)
 refine xP rfl rh rfl ?_
 refine OS.fresh rfl (e_new (fun _=>rfl) rfl) (fun _=>rfl) (fun n6=>?_)
 refine OS.fresh rfl (e_new (fun _=>rfl) rfl) (fun _=>rfl) (fun ll=>?_)
 iterate 2 refine xP rfl rh rfl ?_
 refine xN ?_
 refine LS.gen ?_
 intro LB hLB
 have at':∀ (i:Nat) (x:Nat × ARow),LB[i]?=some x->x∈LB:=fun i x h=>List.mem_of_getElem? h
 have h0:NLs LB (sl n0 1) [onN 0]:=⟨_,SV.row (e:=38) (r:=n0) (at' 34 _ (by rw [hLB]; rfl)) rfl,.slice none 0 0,.slice none 0 0,sl a0 1,_,rfl,nv_one (z:=a0) (at' 35 _ (by rw [hLB]; rfl)),rfl⟩
 have h1:NLs LB (sl n1 4) [inN 109 1 2,lfN 97,onN 3,lfN 110]:=⟨_,SV.row (e:=38) (r:=n1) (at' 26 _ (by rw [hLB]; rfl)) rfl,sl s1 1,.slice none 0 0,sl z1 2,_,rfl,nv_inn (s:=s1) (z:=z1) (at' 33 _ (by rw [hLB]; rfl)) (at' 32 _ (by rw [hLB]; rfl)),sl la1 1,sl lb1 1,.slice none 0 0,_,rfl,nv_leaf (la:=la1) (lb:=lb1) (at' 31 _ (by rw [hLB]; rfl)) (at' 30 _ (by rw [hLB]; rfl)),.slice none 0 0,.slice none 0 0,sl z2 1,_,rfl,nv_one (z:=z2) (at' 29 _ (by rw [hLB]; rfl)),sl la2 1,sl lb2 1,.slice none 0 0,_,rfl,nv_leaf (la:=la2) (lb:=lb2) (at' 28 _ (by rw [hLB]; rfl)) (at' 27 _ (by rw [hLB]; rfl)),rfl⟩
 have h2:NLs LB (sl n2 3) [inN 98 1 2,lfN 99,lfN 100]:=⟨_,SV.row (e:=38) (r:=n2) (at' 19 _ (by rw [hLB]; rfl)) rfl,sl s3 1,.slice none 0 0,sl z3 2,_,rfl,nv_inn (s:=s3) (z:=z3) (at' 25 _ (by rw [hLB]; rfl)) (at' 24 _ (by rw [hLB]; rfl)),sl la3 1,sl lb3 1,.slice none 0 0,_,rfl,nv_leaf (la:=la3) (lb:=lb3) (at' 23 _ (by rw [hLB]; rfl)) (at' 22 _ (by rw [hLB]; rfl)),sl la4 1,sl lb4 1,.slice none 0 0,_,rfl,nv_leaf (la:=la4) (lb:=lb4) (at' 21 _ (by rw [hLB]; rfl)) (at' 20 _ (by rw [hLB]; rfl)),rfl⟩
 have h3:NLs LB (sl n3 3) [inN 98 1 2,lfN 97,lfN 97]:=⟨_,SV.row (e:=38) (r:=n3) (at' 12 _ (by rw [hLB]; rfl)) rfl,sl s4 1,.slice none 0 0,sl z4 2,_,rfl,nv_inn (s:=s4) (z:=z4) (at' 18 _ (by rw [hLB]; rfl)) (at' 17 _ (by rw [hLB]; rfl)),sl la5 1,sl lb5 1,.slice none 0 0,_,rfl,nv_leaf (la:=la5) (lb:=lb5) (at' 16 _ (by rw [hLB]; rfl)) (at' 15 _ (by rw [hLB]; rfl)),sl la6 1,sl lb6 1,.slice none 0 0,_,rfl,nv_leaf (la:=la6) (lb:=lb6) (at' 14 _ (by rw [hLB]; rfl)) (at' 13 _ (by rw [hLB]; rfl)),rfl⟩
 have h4:NLs LB (sl n4 2) [inN 98 1 1,lfN 97]:=⟨_,SV.row (e:=38) (r:=n4) (at' 7 _ (by rw [hLB]; rfl)) rfl,sl s5 1,.slice none 0 0,sl z5 2,_,rfl,nv_inn (s:=s5) (z:=z5) (at' 11 _ (by rw [hLB]; rfl)) (at' 10 _ (by rw [hLB]; rfl)),sl la7 1,sl lb7 1,.slice none 0 0,_,rfl,nv_leaf (la:=la7) (lb:=lb7) (at' 9 _ (by rw [hLB]; rfl)) (at' 8 _ (by rw [hLB]; rfl)),rfl⟩
 have h5:NLs LB (sl n5 2) [inN 98 1 9,lfN 97]:=⟨_,SV.row (e:=38) (r:=n5) (at' 2 _ (by rw [hLB]; rfl)) rfl,sl s6 1,.slice none 0 0,sl z6 2,_,rfl,nv_inn (s:=s6) (z:=z6) (at' 6 _ (by rw [hLB]; rfl)) (at' 5 _ (by rw [hLB]; rfl)),sl la8 1,sl lb8 1,.slice none 0 0,_,rfl,nv_leaf (la:=la8) (lb:=lb8) (at' 4 _ (by rw [hLB]; rfl)) (at' 3 _ (by rw [hLB]; rfl)),rfl⟩
 have h6:NLs LB (sl n6 1) [⟨true,[],[],[]⟩]:=⟨_,SV.row (e:=38) (r:=n6) (at' 1 _ (by rw [hLB]; rfl)) rfl,.slice none 0 0,.slice none 0 0,.slice none 0 0,_,rfl,nv_void,rfl⟩
 obtain ⟨lvs,hlvs⟩:∃ lvs:List Value,lvs=[sl n0 1,sl n1 4,sl n2 3,sl n3 3,sl n4 2,sl n5 2,sl n6 1]:=⟨_,rfl⟩
 have hsv:SV 1 LB (sl ll 7) 7 lvs:=by
  rw [hlvs]
  exact SV.row (e:=40) (r:=ll) (at' 0 _ (by rw [hLB]; rfl)) rfl
 have hall:∀ j,j < 7->∃ nds w,LLs[j]?=some nds/\lvs[j]?=some w/\NLs LB w nds:=by
  rw [hlvs]
  intro j hj
  match j,hj with
  | 0,_=>exact ⟨_,_,rfl,rfl,h0⟩
  | 1,_=>exact ⟨_,_,rfl,rfl,h1⟩
  | 2,_=>exact ⟨_,_,rfl,rfl,h2⟩
  | 3,_=>exact ⟨_,_,rfl,rfl,h3⟩
  | 4,_=>exact ⟨_,_,rfl,rfl,h4⟩
  | 5,_=>exact ⟨_,_,rfl,rfl,h5⟩
  | 6,_=>exact ⟨_,_,rfl,rfl,h6⟩
 clear h0 h1 h2 h3 h4 h5 h6 hlvs hLB at'
 repeat refine xQ ?_
 refine LS.mid [] (fun a' L'=>L'=LB/\a'=[jn,jn,jn,jn,jn,jn,jn,jn,jn,jn,jn,jn,jn,jn,jn,jn,jn,jn,jn,jn,jn,jn,jn,jn,jn,jn,jn,jn,jn,jn,jn,jn,jn,jn,jn,jn,jn,jn,jn,jn,jn,jn,jn,jn,jn,jn,jn,jn,jn,jn,jn,jn,jn,jn,jn,jn,jn,jn,jn,jn,jn,jn,jn,jn,jn,jn,jn,jn,jn,jn,jn,jn,jn,jn,jn,jn,jn,jn,jn,jn,jn,jn,jn,jn,jn,jn,jn,jn,jn,jn,jn,jn,jn,jn,jn,jn,jn,jn,jn,jn,jn,jn,jn,jn,jn,jn,jn,jn,jn,jn,jn,jn,jn,jn,jn,jn,jn,jn,jn,jn,jn,jn,jn,jn,jn,jn,jn,jn,jn,jn,jn,jn,jn,jn,jn,jn,jn,jn,jn,jn,jn,jn,jn,jn,jn,jn,jn,jn,jn,jn,jn,jn,jn,jn,jn,jn,jn,jn,jn,jn,jn,jn,jn,jn,jn,jn,jn,jn,jn,jn,jn,jn,jn,jn,jn,jn,jn,jn,jn,jn,jn,jn,jn,jn,jn,jn,jn,jn,jn,jn,jn,jn,jn,jn,jn,jn,jn,jn,jn,jn,jn,jn,jn,jn,jn,jn,jn,jn,jn,jn,jn,jn,jn,jn,jn,jn,jn,jn,jn,jn,jn,jn,jn,jn,jn,jn,jn,jn,jn,jn,jn,jn,jn,jn,jn,jn,jn,jn,jn,jn,jn,jn,jn,jn,jn,jn,jn,jn,jn,jn,jn,jn,jn,jn,jn,jn,jn,jn,jn,jn,jn,jn,jn,jn,jn,jn,jn,jn,jn,jn,jn,jn,jn,jn,jn,jn,jn,jn,jn,jn,jn,jn,jn,jn,jn,jn,jn,jn,jn,jn,jn,jn,jn,jn,jn,jn,jn,jn,jn,jn,jn,jn,jn,jn,jn,jn,jn,jn,jn,jn,jn,jn,jn,jn,jn,jn,jn,jn,jn,jn,jn,jn,jn,jn,jn]) ?_ ?_
 ·refine LS.block ?_
  refine LS.loopJ [198,199,200] (fun z a' L'=>∃ j:Nat,z=7 - j/\j<=7/\L'=LB/\a'=[jn,jn,jn,jn,jn,jn,jn,jn,jn,jn,jn,jn,jn,jn,jn,jn,jn,jn,jn,jn,jn,jn,jn,jn,jn,jn,jn,jn,jn,jn,jn,jn,jn,jn,jn,jn,jn,jn,jn,jn,jn,jn,jn,jn,jn,jn,jn,jn,jn,jn,jn,jn,jn,jn,jn,jn,jn,jn,jn,jn,jn,jn,jn,jn,jn,jn,jn,jn,jn,jn,jn,jn,jn,jn,jn,jn,jn,jn,jn,jn,jn,jn,jn,jn,jn,jn,jn,jn,jn,jn,jn,jn,jn,jn,jn,jn,jn,jn,jn,jn,jn,jn,jn,jn,jn,jn,jn,jn,jn,jn,jn,jn,jn,jn,jn,jn,jn,jn,jn,jn,jn,jn,jn,jn,jn,jn,jn,jn,jn,jn,jn,jn,jn,jn,jn,jn,jn,jn,jn,jn,jn,jn,jn,jn,jn,jn,jn,jn,jn,jn,jn,jn,jn,jn,jn,jn,jn,jn,jn,jn,jn,jn,jn,jn,jn,jn,jn,jn,jn,jn,jn,jn,jn,jn,jn,jn,jn,jn,jn,jn,jn,jn,jn,jn,jn,jn,jn,jn,jn,jn,jn,jn,jn,jn,jn,jn,jn,jn,sl ll 7,.int .i64 7,.int .i64 (j:Nat),jn,jn,jn,jn,jn,jn,jn,jn,jn,jn,jn,jn,jn,jn,jn,jn,jn,jn,jn,jn,jn,jn,jn,jn,jn,jn,jn,jn,jn,jn,jn,jn,jn,jn,jn,jn,jn,jn,jn,jn,jn,jn,jn,jn,jn,jn,jn,jn,jn,jn,jn,jn,jn,jn,jn,jn,jn,jn,jn,jn,jn,jn,jn,jn,jn,jn,jn,jn,jn,jn,jn,jn,jn,jn,jn,jn,jn,jn,jn,jn,jn,jn,jn,jn,jn,jn,jn,jn,jn,jn,jn,jn,jn,jn,jn,jn,jn,jn,jn,jn,jn,jn,jn,jn,jn,jn,jn,jn,jn,jn,jn,jn,jn,jn,jn,jn,jn,jn,jn,jn,jn,jn,jn,jn]) (n:=7) rfl ⟨0,rfl,by omega,rfl,rfl⟩ ?_
  rintro z a' L' ⟨j,rfl,hj,hLL,rfl⟩
  subst hLL
  by_cases hj7:j < 7
  ·have hb:(!ileB 7 ((j:Nat):Int))=true:=by rw [ileB_eq,decide_eq_false (by omega)]; rfl
   repeat refine xQ ?_
   refine xG rfl ?_
   refine xP rfl (e_ib rh (hb)) rfl ?_
   refine xN ?_
   repeat refine xQ ?_
   refine xC rfl (fun hc=>?_) (fun hc=>?_)
   ·refine LS.skip ?_
    repeat refine xQ ?_
    refine LS.block ?_
    obtain ⟨nds,w,hj1,hj2,cs,hcs,hnc⟩:=hall j hj7
    obtain ⟨hfit,hlook,hl1,hl4⟩:=LLs_ok (List.mem_of_getElem? hj1)
    repeat refine xQ ?_
    refine xG rfl ?_
    refine OS.at1 (j:=j) (hsv) (hj2) rfl rfl rfl rfl rfl rfl (fun ra0 oa0 rowa0 csa0 ma0 ca0 ga0=>⟨_,rfl,?_⟩)
    refine xR rfl (e_loadm ma0 ca0 rfl rfl (part_one rfl ga0)) rfl ?_
    refine xP rfl rh rfl ?_
    refine xN ?_
    clear ma0 ca0 ga0
    repeat refine xQ ?_
    refine xG rfl ?_
    refine xP rfl rh rfl ?_
    refine xN ?_
    repeat refine xQ ?_
    refine xG rfl ?_
    refine xP rfl rh rfl ?_
    refine xN ?_
    repeat refine xQ ?_
    refine LS.mid [22,198,199,200] (fun a' L2=>∃ iv vs I M,L2=I++(M++L')/\GV 30 1 [] iv nds.length vs I/\ImgV M nds.length vs (nds.map encN)/\a'=[jn,jn,jn,jn,jn,jn,jn,jn,jn,jn,jn,jn,jn,jn,jn,jn,jn,jn,jn,jn,jn,jn,iv,jn,jn,jn,jn,jn,jn,jn,jn,jn,jn,jn,jn,jn,jn,jn,jn,jn,jn,jn,jn,jn,jn,jn,jn,jn,jn,jn,jn,jn,jn,jn,jn,jn,jn,jn,jn,jn,jn,jn,jn,jn,jn,jn,jn,jn,jn,jn,jn,jn,jn,jn,jn,jn,jn,jn,jn,jn,jn,jn,jn,jn,jn,jn,jn,jn,jn,jn,jn,jn,jn,jn,jn,jn,jn,jn,jn,jn,jn,jn,jn,jn,jn,jn,jn,jn,jn,jn,jn,jn,jn,jn,jn,jn,jn,jn,jn,jn,jn,jn,jn,jn,jn,jn,jn,jn,jn,jn,jn,jn,jn,jn,jn,jn,jn,jn,jn,jn,jn,jn,jn,jn,jn,jn,jn,jn,jn,jn,jn,jn,jn,jn,jn,jn,jn,jn,jn,jn,jn,jn,jn,jn,jn,jn,jn,jn,jn,jn,jn,jn,jn,jn,jn,jn,jn,jn,jn,jn,jn,jn,jn,jn,jn,jn,jn,jn,jn,jn,jn,jn,jn,jn,jn,jn,jn,jn,sl ll 7,.int .i64 7,.int .i64 (j:Nat),jn,jn,jn,jn,jn,jn,jn,jn,jn,jn,jn,jn,jn,jn,jn,jn,jn,jn,jn,jn,jn,jn,jn,jn,jn,jn,jn,jn,jn,jn,jn,jn,jn,jn,jn,jn,jn,jn,jn,jn,jn,jn,jn,jn,jn,jn,jn,jn,jn,jn,jn,jn,jn,jn,jn,jn,jn,jn,jn,jn,jn,jn,jn,jn,jn,jn,jn,jn,jn,jn,jn,jn,jn,jn,jn,jn,jn,jn,jn,jn,jn,jn,jn,jn,jn,jn,jn,jn,jn,jn,jn,jn,jn,jn,jn,jn,jn,jn,jn,jn,jn,jn,jn,jn,jn,jn,jn,jn,jn,jn,jn,jn,jn,jn,jn,jn,jn,jn,jn,jn,jn,jn,jn,jn]) ?_ ?_
    ·refine LS.block ?_
     refine LS.loopJ [21,22,23,198,199,200] (fun z a' L2=>∃ (i:Nat) (iv:Value) (vs:List Value) (I M:RL),z=nds.length - i/\i<=nds.length/\L2=I++(M++L')/\GV 30 1 [] iv i vs I/\ImgV M i vs ((nds.take i).map encN) /\
      a'=[jn,jn,jn,jn,jn,jn,jn,jn,jn,jn,jn,jn,jn,jn,jn,jn,jn,jn,jn,jn,jn,w,iv,.int .i64 (i:Nat),jn,jn,jn,jn,jn,jn,jn,jn,jn,jn,jn,jn,jn,jn,jn,jn,jn,jn,jn,jn,jn,jn,jn,jn,jn,jn,jn,jn,jn,jn,jn,jn,jn,jn,jn,jn,jn,jn,jn,jn,jn,jn,jn,jn,jn,jn,jn,jn,jn,jn,jn,jn,jn,jn,jn,jn,jn,jn,jn,jn,jn,jn,jn,jn,jn,jn,jn,jn,jn,jn,jn,jn,jn,jn,jn,jn,jn,jn,jn,jn,jn,jn,jn,jn,jn,jn,jn,jn,jn,jn,jn,jn,jn,jn,jn,jn,jn,jn,jn,jn,jn,jn,jn,jn,jn,jn,jn,jn,jn,jn,jn,jn,jn,jn,jn,jn,jn,jn,jn,jn,jn,jn,jn,jn,jn,jn,jn,jn,jn,jn,jn,jn,jn,jn,jn,jn,jn,jn,jn,jn,jn,jn,jn,jn,jn,jn,jn,jn,jn,jn,jn,jn,jn,jn,jn,jn,jn,jn,jn,jn,jn,jn,jn,jn,jn,jn,jn,jn,jn,jn,jn,jn,jn,jn,sl ll 7,.int .i64 7,.int .i64 (j:Nat),jn,jn,jn,jn,jn,jn,jn,jn,jn,jn,jn,jn,jn,jn,jn,jn,jn,jn,jn,jn,jn,jn,jn,jn,jn,jn,jn,jn,jn,jn,jn,jn,jn,jn,jn,jn,jn,jn,jn,jn,jn,jn,jn,jn,jn,jn,jn,jn,jn,jn,jn,jn,jn,jn,jn,jn,jn,jn,jn,jn,jn,jn,jn,jn,jn,jn,jn,jn,jn,jn,jn,jn,jn,jn,jn,jn,jn,jn,jn,jn,jn,jn,jn,jn,jn,jn,jn,jn,jn,jn,jn,jn,jn,jn,jn,jn,jn,jn,jn,jn,jn,jn,jn,jn,jn,jn,jn,jn,jn,jn,jn,jn,jn,jn,jn,jn,jn,jn,jn,jn,jn,jn,jn,jn]) (n:=nds.length) rfl ⟨0,_,[],[],[],rfl,by omega,rfl,.inl ⟨rfl,rfl,rfl,rfl⟩,⟨rfl,fun i hi=>by omega⟩,rfl⟩ ?_
     rintro z a' L2 ⟨i,iv,vs,I,M,rfl,hi,rfl,hw,him,rfl⟩
     have hcs':SV 4 (I++(M++L')) w nds.length cs:=hcs.mono fun q hq=>by simp [hq]
     by_cases hin:i < nds.length
     ·have hb:(!ileB ((nds.length:Nat):Int) ((i:Nat):Int))=true:=by rw [ileB_eq,decide_eq_false (by omega)]; rfl
      have hvl:vs.length=i:=by have:=hw.sv.len; omega
      obtain ⟨nd,hnd⟩:∃ nd,nds[i]?=some nd:=⟨_,List.getElem?_eq_getElem hin⟩
      obtain ⟨w1,w2,w3,hcut,hnv⟩:=NLs.get (v:=w) hnc hnd
      have hft:=hfit nd (List.mem_of_getElem? hnd)
      have hsm:=(fits_sm hft).k
      repeat refine xQ ?_
      refine xG rfl ?_
      iterate 2 refine xP rfl rh rfl ?_
      refine xP rfl (e_len hcs' rfl rfl rfl rfl rfl) rfl ?_
      refine xP rfl (e_ib rh (hb)) rfl ?_
      refine xN ?_
      repeat refine xQ ?_
      refine xC rfl (fun hc2=>?_) (fun hc2=>?_)
      ·refine LS.skip ?_
       repeat refine xQ ?_
       refine LS.block ?_
       repeat refine xQ ?_
       refine xG rfl ?_
       iterate 2 refine xP rfl rh rfl ?_
       refine OS.at (j:=i) hcs' hin rfl rfl rfl rfl rfl rfl (fun r0 o0 row0 cs0 m0 c0 g0 k0=>⟨_,rfl,?_⟩)
       refine xR rfl (e_loadm m0 c0 rfl rfl (part_agg rfl rfl (k0 _ hcut))) rfl ?_
       refine xA noGo rfl (fun _=>rfl) ((Encode_ct (hnv.mono fun q hq=>by simp [hq]) (by omega)).mono ?_)
       rintro u L2 ⟨w5,rfl,hw5⟩
       rcases hw5 with ⟨hf,_,_⟩ | ⟨_,r,rfl,rfl⟩
       ·rw [hf] at hft; cases hft
       rw [errN_0 hft]
       refine ⟨_,rfl,?_⟩
       iterate 5 refine xP rfl rh rfl ?_
       refine xN ?_
       repeat refine xQ ?_
       refine xG rfl ?_
       iterate 2 refine xP rfl rh rfl ?_
       refine xN ?_
       repeat refine xQ ?_
       refine xC rfl (fun hc3=>?_) (fun hc3=>?_)
       ·cases hc3
       refine LS.skip ?_
       repeat refine xQ ?_
       refine xG rfl ?_
       iterate 2 refine xP rfl rh rfl ?_
       refine OS.fresh rfl (e_new (fun _=>rfl) rfl) (fun _=>rfl) (fun rz=>?_)
       refine OS.turns rfl (e_appendGA [(rz,.cells 30 [.slice (some ⟨r,0,none⟩) 256 256]),(r,bRow (encN nd))] (M++L') (e:=30) (sz:=1) (bts:=24) (m:=1) (new:=[.slice (some ⟨r,0,none⟩) 256 256]) hw (SV.row (sz:=1) (n:=1) (List.mem_cons_self ..) rfl) rfl rfl rfl rfl (by omega) (by omega)) (fun w2 L₁ hR=>?_)
       obtain ⟨I2,h2,rfl⟩:=hR
       refine ⟨_,rfl,?_⟩
       refine OS.sub (Sub.sums2 ([(rz,.cells 30 [.slice (some ⟨r,0,none⟩) 256 256])]) (A:=I2++(((r,bRow (encN nd))::M)++L')) (B:=I2++([(rz,.cells 30 [.slice (some ⟨r,0,none⟩) 256 256]),(r,bRow (encN nd))]++(M++L'))) fun f=>by simp []<;>omega) ?_
       refine xP rfl rh rfl ?_
       refine xN ?_
       repeat refine xQ ?_
       refine xG rfl ?_
       refine xP rfl rh rfl ?_
       refine xP rfl (e_addN (n:=1) rfl rfl rfl (in_i64 (by omega) (by omega))) rfl ?_
       refine xP rfl rh rfl ?_
       refine xN ?_
       have htk:nds.take (i+1)=nds.take i++[nd]:=by rw [List.take_add_one,hnd]; rfl
       have hil:((nds.take i).map encN).length=i:=by rw [List.length_map,List.length_take]; omega
       refine ⟨nds.length - (i+1),by omega,i+1,w2,_,I2,_,rfl,by omega,rfl,h2,⟨by rw [List.length_map,List.length_take]; omega,fun q hq=>?_⟩,rfl⟩
       rw [htk,List.map_append]
       by_cases hqi:q < i
       ·obtain ⟨u,h3,h4⟩:=him.2 q hqi
        refine ⟨u,by rw [List.getElem?_append_left (by omega)]; exact h3,?_⟩
        rw [List.getD_eq_getElem?_getD,List.getElem?_append_left (by omega),← List.getD_eq_getElem?_getD]
        exact h4.mono fun p hp=>List.mem_cons_of_mem _ hp
       ·have hqi2:q=i:=by omega
        subst hqi2
        refine ⟨_,by rw [List.getElem?_append_right (by omega),hvl,Nat.sub_self]; rfl,?_⟩
        rw [List.getD_eq_getElem?_getD,List.getElem?_append_right (by omega),hil,Nat.sub_self]
        have hel:=enc_len hft
        show BV ((r,bRow (encN nd))::M) _ (encN nd)
        refine .inr ⟨?_,fun r' off cap h=>by rw [hel] at h; cases h; exact ⟨by unfold openCap; omega,by omega⟩⟩
        rw [hel]
        exact SV.row (e:=5) (List.mem_cons_self ..) (by rw [byteCells_len,hel])
      ·cases hc2
     ·have hb:(!ileB ((nds.length:Nat):Int) ((i:Nat):Int))=false:=by rw [ileB_eq,decide_eq_true (by omega)]; rfl
      have hin2:i=nds.length:=by omega
      subst hin2
      rw [List.take_length] at him
      repeat refine xQ ?_
      refine xG rfl ?_
      iterate 2 refine xP rfl rh rfl ?_
      refine xP rfl (e_len hcs' rfl rfl rfl rfl rfl) rfl ?_
      refine xP rfl (e_ib rh (hb)) rfl ?_
      refine xN ?_
      repeat refine xQ ?_
      refine xC rfl (fun hc2=>?_) (fun hc2=>?_)
      ·cases hc2
      refine LS.exit ?_
      exact ⟨iv,vs,I,M,rfl,hw,him,rfl⟩
    rintro a' L2 ⟨iv,vs,I,M,rfl,gi,him⟩
    obtain ⟨him,rfl⟩:=him
    repeat refine xQ ?_
    refine xG rfl ?_
    refine xP rfl rh rfl ?_
    refine xA noGo rfl (fun _=>rfl) ((open_err (root:=0) (him.r gi (fun p hp=>List.mem_append_left _ hp) (fun p hp=>List.mem_append_right _ (List.mem_append_left _ hp))) (by omega) (by rw [List.length_map]; omega) (by rw [List.length_map]; omega) (by rw [List.length_map]; exact hlook)).mono ?_)
    rintro u L2 ⟨rfl,rfl⟩
    refine ⟨_,rfl,?_⟩
    iterate 5 refine xP rfl rh rfl ?_
    refine OS.sub (Sub.suffix.trans Sub.suffix) ?_
    refine xN ?_
    repeat refine xQ ?_
    refine xG rfl ?_
    iterate 2 refine xP rfl rh rfl ?_
    refine xN ?_
    repeat refine xQ ?_
    refine xC rfl (fun hc3=>?_) (fun hc3=>?_)
    ·cases hc3
    refine LS.skip ?_
    repeat refine xQ ?_
    refine xG rfl ?_
    refine xP rfl (e_addN (m:=j) (n:=1) rfl rfl rfl (in_i64 (by omega) (by omega))) rfl ?_
    refine xP rfl rh rfl ?_
    refine xN ?_
    exact ⟨7 - (j+1),by omega,j+1,rfl,by omega,rfl,rfl⟩
   ·cases hc
  ·have hb:(!ileB 7 ((j:Nat):Int))=false:=by rw [ileB_eq,decide_eq_true (by omega)]; rfl
   repeat refine xQ ?_
   refine xG rfl ?_
   refine xP rfl (e_ib rh (hb)) rfl ?_
   refine xN ?_
   repeat refine xQ ?_
   refine xC rfl (fun hc=>?_) (fun hc=>?_)
   ·cases hc
   refine LS.exit ?_
   exact ⟨rfl,rfl⟩
 rintro a' L' ⟨rfl,rfl⟩
 clear hsv hall
 have hm1:mayP (List.replicate 32 97) (List.replicate 64 98):=⟨by simp,by simp,by simp⟩
 have hm2:mayP [0] []:=⟨by decide,by decide,by decide⟩
 have hm3:mayP [255] []:=⟨by decide,by decide,by decide⟩
 repeat refine xQ ?_
 refine xG rfl ?_
 refine xA noGo rfl (fun _=>rfl) ((tNew_ct 400 (by omega)).mono ?_)
 rintro u L6 ⟨ro,rf,rb,rt,rn,rw',rfl,htr6⟩
 have ho6:=htr6.memG _ (List.mem_cons_self ..)
 refine ⟨_,rfl,?_⟩
 iterate 5 refine xP rfl rh rfl ?_
 refine xN ?_
 repeat refine xQ ?_
 refine xG rfl ?_
 refine xP rfl rh rfl ?_
 refine xA noGo rfl (fun _=>rfl) ((put_bad (key:=[]) (val:=[120]) htr6 ho6 good_00 rfl (by simp) (by simp) (by simp) (fun h=>by have:=h.1; simp at this)).mono ?_)
 rintro u L' ⟨rfl,hLL⟩
 have hLL:=hLL.symm
 subst hLL
 refine ⟨_,rfl,?_⟩
 iterate 3 refine xP rfl rh rfl ?_
 refine xA noGo rfl (fun _=>rfl) ((text_ct 33 97 (by omega)).mono ?_)
 rintro u L' ⟨rfl,hLL⟩
 have hLL:=hLL.symm
 subst hLL
 refine ⟨_,rfl,?_⟩
 refine xA noGo rfl (fun _=>rfl) ((put_bad (key:=List.replicate 33 97) (val:=[120]) htr6 ho6 good_00 rfl (by simp) (by simp) (by simp) (fun h=>by have:=h.2.1; simp at this)).mono ?_)
 rintro u L' ⟨rfl,hLL⟩
 have hLL:=hLL.symm
 subst hLL
 refine ⟨_,rfl,?_⟩
 iterate 4 refine xP rfl rh rfl ?_
 refine xA noGo rfl (fun _=>rfl) ((text_ct 65 97 (by omega)).mono ?_)
 rintro u L' ⟨rfl,hLL⟩
 have hLL:=hLL.symm
 subst hLL
 refine ⟨_,rfl,?_⟩
 refine xA noGo rfl (fun _=>rfl) ((put_bad (key:=[97]) (val:=List.replicate 65 97) htr6 ho6 good_00 rfl (by simp) (by simp) (by simp) (fun h=>by have:=h.2.2; simp at this)).mono ?_)
 rintro u L' ⟨rfl,hLL⟩
 have hLL:=hLL.symm
 subst hLL
 refine ⟨_,rfl,?_⟩
 iterate 4 refine xP rfl rh rfl ?_
 refine xA noGo rfl (fun _=>rfl) ((text_ct 32 97 (by omega)).mono ?_)
 rintro u L' ⟨rfl,hLL⟩
 have hLL:=hLL.symm
 subst hLL
 refine ⟨_,rfl,?_⟩
 refine xA noGo rfl (fun _=>rfl) ((text_ct 64 98 (by omega)).mono ?_)
 rintro u L' ⟨rfl,hLL⟩
 have hLL:=hLL.symm
 subst hLL
 refine ⟨_,rfl,?_⟩
 refine xA noGo rfl (fun _=>rfl) ((put_good (key:=List.replicate 32 97) (val:=List.replicate 64 98) htr6 ho6 good_00 rfl (by simp) hm1 (by show 16<=frM 400 m00; rw [frM_00]; omega)).mono ?_)
 rintro u L7 ⟨rfl,X7,m7,root7,htr7,hg7,hf7⟩
 have hf7:Few 400 m7 _:=hf7
 have hl7:(putP (List.replicate 32 97) (List.replicate 64 98) []).length=1:=rfl
 have hl9:(putP [255] [] (putP [0] [] (putP (List.replicate 32 97) (List.replicate 64 98) []))).length=3:=by kernel_rfl
 generalize putP (List.replicate 32 97) (List.replicate 64 98) []=P7 at htr7 hg7 hf7 hl7 hl9
 have hl8:=putP_len (k:=[0]) (v:=[]) (P:=P7)
 refine ⟨_,rfl,?_⟩
 iterate 4 refine xP rfl rh rfl ?_
 refine xA noGo rfl (fun _=>rfl) ((put_good (key:=[0]) (val:=[]) htr7 (htr7.memG _ (List.mem_cons_self ..)) hg7 rfl (by omega) hm2 (by show 16<=frM 400 m7; unfold Few at hf7; omega)).mono ?_)
 rintro u L8 ⟨rfl,X8,m8,root8,htr8,hg8,hf8⟩
 have hf8:Few 400 m8 _:=hf8
 generalize putP [0] [] P7=P8 at htr8 hg8 hf8 hl8 hl9
 refine ⟨_,rfl,?_⟩
 iterate 4 refine xP rfl rh rfl ?_
 refine xA noGo rfl (fun _=>rfl) ((put_good (key:=[255]) (val:=[]) htr8 (htr8.memG _ (List.mem_cons_self ..)) hg8 rfl (by omega) hm3 (by show 16<=frM 400 m8; unfold Few at hf8; omega)).mono ?_)
 rintro u L9 ⟨rfl,X9,m9,root9,htr9,hg9,hf9⟩
 refine ⟨_,rfl,?_⟩
 iterate 4 refine xP rfl rh rfl ?_
 refine xA noGo rfl (fun _=>rfl) ((tLen_ct htr9 (htr9.memG _ (List.mem_cons_self ..))).mono ?_)
 rintro u L' ⟨rfl,hLL⟩
 have hLL:=hLL.symm
 subst hLL
 rw [hl9]
 refine ⟨_,rfl,?_⟩
 iterate 2 refine xP rfl rh rfl ?_
 refine xN ?_
 repeat refine xQ ?_
 refine xC rfl (fun hc=>?_) (fun hc=>?_)
 ·cases hc
 refine LS.skip ?_
 repeat refine xQ ?_
 refine xG rfl ?_
 refine xP rfl rh rfl ?_
 refine xN ?_
 repeat refine xQ ?_
 refine xG rfl ?_
 refine xP rfl rh rfl ?_
 refine xA noGo rfl (fun _=>rfl) ((nGet_ct).mono ?_)
 rintro u L' ⟨rfl,hLL⟩
 have hLL:=hLL.symm
 subst hLL
 refine ⟨_,rfl,?_⟩
 iterate 5 refine xP rfl rh rfl ?_
 refine xN ?_
 repeat refine xQ ?_
 refine xG rfl ?_
 iterate 4 refine xP rfl rh rfl ?_
 refine xA noGo rfl (fun _=>rfl) ((nPut_ct).mono ?_)
 rintro u L' ⟨rfl,hLL⟩
 have hLL:=hLL.symm
 subst hLL
 refine ⟨_,rfl,?_⟩
 iterate 4 refine xP rfl rh rfl ?_
 refine xA noGo rfl (fun _=>rfl) ((nDel_ct).mono ?_)
 rintro u L' ⟨rfl,hLL⟩
 have hLL:=hLL.symm
 subst hLL
 refine ⟨_,rfl,?_⟩
 iterate 4 refine xP rfl rh rfl ?_
 refine xA noGo rfl (fun _=>rfl) ((nClean_ct).mono ?_)
 rintro u L' ⟨rfl,hLL⟩
 have hLL:=hLL.symm
 subst hLL
 refine ⟨_,rfl,?_⟩
 iterate 4 refine xP rfl rh rfl ?_
 refine xA noGo rfl (fun _=>rfl) ((nBack_ct).mono ?_)
 rintro u L' ⟨rfl,hLL⟩
 have hLL:=hLL.symm
 subst hLL
 refine ⟨_,rfl,?_⟩
 iterate 4 refine xP rfl rh rfl ?_
 refine xA noGo rfl (fun _=>rfl) ((nRoot_ct).mono ?_)
 rintro u L' ⟨rfl,hLL⟩
 have hLL:=hLL.symm
 subst hLL
 refine ⟨_,rfl,?_⟩
 iterate 4 refine xP rfl rh rfl ?_
 refine xA noGo rfl (fun _=>rfl) ((nLen_ct).mono ?_)
 rintro u L' ⟨rfl,hLL⟩
 have hLL:=hLL.symm
 subst hLL
 refine ⟨_,rfl,?_⟩
 refine xP rfl rh rfl ?_
 refine xA noGo rfl (fun _=>rfl) ((nFree_ct).mono ?_)
 rintro u L' ⟨rfl,hLL⟩
 have hLL:=hLL.symm
 subst hLL
 refine ⟨_,rfl,?_⟩
 iterate 2 refine xP rfl rh rfl ?_
 refine xA noGo rfl (fun _=>rfl) ((nUsed_ct).mono ?_)
 rintro u L' ⟨rfl,hLL⟩
 have hLL:=hLL.symm
 subst hLL
 refine ⟨_,rfl,?_⟩
 iterate 3 refine xP rfl rh rfl ?_
 refine xA noGo rfl (fun _=>rfl) ((nDirty_ct).mono ?_)
 rintro u L' ⟨rfl,hLL⟩
 have hLL:=hLL.symm
 subst hLL
 refine ⟨_,rfl,?_⟩
 iterate 3 refine xP rfl rh rfl ?_
 refine xA noGo rfl (fun _=>rfl) ((nRange_ct).mono ?_)
 rintro u L' ⟨rfl,hLL⟩
 have hLL:=hLL.symm
 subst hLL
 refine ⟨_,rfl,?_⟩
 iterate 5 refine xP rfl rh rfl ?_
 refine xN ?_
 refine xT ⟨_,fun _ _=>rfl,?_⟩
 rfl
end Go.Proofs.YtlmmddfhoabjfaaGreat
end
