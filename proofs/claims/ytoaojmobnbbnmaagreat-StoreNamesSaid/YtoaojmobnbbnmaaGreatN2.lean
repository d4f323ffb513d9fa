/- What the proofs lean on, part 2. -/
import Derived.Test.YtoaojmobnbbnmaaGreatN1
import Derived.RangeFuncSeq
import Derived.Lib.Overlaps
set_option linter.all false
set_option maxRecDepth 20000
set_option maxHeartbeats 1000000
section
namespace Go.Am
variable{α:Type}
theorem Tr.set_some:∀ (f:Nat) (t:Tr α) (n:Nat) (x:Option α),n<f->∃ t',Tr.set f t n x=some t'
 | 0,_,_,_,h=>by omega
 | f+1,.nil,n,x,h=>by
  rw[Tr.set]
  by_cases hn:n=0
  ·subst hn;exact⟨_,rfl⟩
  simp only[aK hn]
  by_cases h2:n%2=1
  ·obtain⟨l,e⟩:=Tr.set_some f .nil (n/2) x (by omega)
   simp only[bo h2,e];exact⟨_,rfl⟩
  obtain⟨l,e⟩:=Tr.set_some f .nil (n/2-1) x (by omega)
  simp only[aK h2,e];exact⟨_,rfl⟩
 | f+1,.node l v r,n,x,h=>by
  rw[Tr.set]
  by_cases hn:n=0
  ·subst hn;exact⟨_,rfl⟩
  simp only[aK hn]
  by_cases h2:n%2=1
  ·obtain⟨l,e⟩:=Tr.set_some f l (n/2) x (by omega)
   simp only[bo h2,e];exact⟨_,rfl⟩
  obtain⟨l,e⟩:=Tr.set_some f r (n/2-1) x (by omega)
  simp only[aK h2,e];exact⟨_,rfl⟩
theorem AW.put_some(h:AW)(r:Nat)(x:Option aG):∃ h',h.put r x=some h':=by
 obtain⟨t,e⟩:=Tr.set_some (r+1) h.rows r x (by omega)
 unfold AW.put;rw[e];exact⟨_,rfl⟩
theorem AW.new_some(h:AW)(x:aG):∃ h',h.new x=some (h.next,h'):=by
 obtain⟨t,e⟩:=Tr.set_some (h.next+1) h.rows h.next (some x) (by omega)
 have hf:∀ n,fn n=some n:=fun n=>by cases n <;> rfl
 unfold AW.new;rw[e,hf];exact⟨_,rfl⟩
abbrev RL:=List (Nat×aG)
structure bp(h:AW)(L:RL):Prop where
 get:∀ p,p∈L->h.get p.1=some p.2
 nd:(L.map (·.1)).Nodup
 lt:∀ p,p∈L->p.1<h.next
 step:0<h.step
section
variable{h h':AW}{L L':RL}{r:Nat}{x:aG}
variable{i:Nat}
theorem bp.at (H:bp h L)(e:L[i]?=some (r,x)):h.get r=some x:=H.get (r,x) (List.mem_of_getElem? e)
theorem bp.new(H:bp h L)(e:h.new x=some (r,h')):bp h' ((r,x)::L):=by
 obtain⟨hr,hg,hn,hs⟩:=rR e
 have hp:=H.step
 have hne:∀ p,p∈L->p.1≠r:=fun p hp hh=>by have:=H.lt p hp;omega
 refine⟨fun p hm=>?_,?_,fun p hm=>?_,by rw[hs];exact H.step⟩
 ·rw[hg]
  rcases List.mem_cons.1 hm with rfl|hm
  ·simp
  rw[if_neg (hne p hm)];exact H.get p hm
 ·rw[List.map_cons,List.nodup_cons]
  refine⟨fun hm=>?_,H.nd⟩
  obtain⟨p,hp,he⟩:=List.mem_map.1 hm
  exact hne p hp he
 rcases List.mem_cons.1 hm with rfl|hm
 ·simp only;omega
 have:=H.lt p hm;omega
theorem rO:∀ {L:RL} {i:Nat} {r:Nat} {x:aG},(L.map (·.1)).Nodup->L[i]?=some (r,x)->∀ {j:Nat} {y:aG},L[j]?=some (r,y)->i=j:=by
 intro L i r x hn hi j y hj
 have h1:(L.map (·.1))[i]?=some r:=by simp[hi]
 have h2:(L.map (·.1))[j]?=some r:=by simp[hj]
 have hlt:i<(L.map (·.1)).length:=(List.getElem?_eq_some_iff.1 h1).1
 exact (List.getElem?_inj hlt hn).1 (h1.trans h2.symm)
theorem bp.put {y:aG}(H:bp h L)(hi:L[i]?=some (r,y))(e:h.put r (some x)=some h'):bp h' (L.set i (r,x)):=by
 obtain⟨hg,hn,hs⟩:=jh e
 have hlt:i<L.length:=(List.getElem?_eq_some_iff.1 hi).1
 have hmem:∀ p,p∈L.set i (r,x)->p=(r,x)∨(p∈L/\p.1≠r):=fun p hp=>by
  obtain⟨j,hj⟩:=List.mem_iff_getElem?.1 hp
  rw[List.getElem?_set]at hj
  by_cases hij:i=j
  ·subst hij;rw[if_pos rfl,if_pos hlt]at hj;simp at hj;exact .inl hj.symm
  rw[if_neg hij]at hj
  obtain⟨r',y'⟩:=p
  exact .inr ⟨List.mem_of_getElem? hj,fun hh=>by simp at hh;subst hh;exact hij (rO H.nd hi hj)⟩
 have hmap:(L.set i (r,x)).map (·.1)=L.map (·.1):=by
  rw[List.map_set]
  apply List.ext_getElem?
  intro j
  rw[List.getElem?_set]
  by_cases hij:i=j
  ·subst hij
   have hLi:L[i]=(r,y):=(List.getElem?_eq_some_iff.1 hi).2
   simp[hlt,hLi]
  rw[if_neg hij]
 refine⟨fun p hm=>?_,by rw[hmap];exact H.nd,fun p hm=>?_,by rw[hs];exact H.step⟩
 ·rw[hg]
  rcases hmem p hm with rfl|⟨hm,hne⟩
  ·simp
  rw[if_neg hne];exact H.get p hm
 rw[hn]
 rcases hmem p hm with rfl|⟨hm,hne⟩
 ·exact H.lt (r,y) (List.mem_of_getElem? hi)
 exact H.lt p hm
theorem bp.sub(H:bp h L)(hs:∀ p,p∈L'->p∈L)(hn:(L'.map (·.1)).Nodup):bp h L':=⟨fun p hp=>H.get p (hs p hp),hn,fun p hp=>H.lt p (hs p hp),H.step⟩
theorem bp.perm(H:bp h L)(hp:L.Perm L'):bp h L':=H.sub (fun p hm=>hp.mem_iff.2 hm) ((hp.map _).nodup_iff.1 H.nd)
theorem bp.less(H:bp h L)(hs:L'.Sublist L):bp h L':=H.sub (fun p hm=>hs.subset hm) (H.nd.sublist (hs.map _))
theorem bp.drop {y:aG}(H:bp h L)(hi:L[i]?=some (r,y))(e:h.put r none=some h'):bp h' (L.eraseIdx i):=by
 obtain⟨hg,hn,hs⟩:=jh e
 have hsub:(L.eraseIdx i).Sublist L:=List.eraseIdx_sublist ..
 have hmem:∀ p,p∈L.eraseIdx i->p∈L/\p.1≠r:=fun p hp=>by
  rw[List.mem_eraseIdx_iff_getElem?]at hp
  obtain⟨j,hne,hj⟩:=hp
  obtain⟨r',y'⟩:=p
  exact⟨List.mem_of_getElem? hj,fun hh=>by simp at hh;subst hh;exact hne (rO H.nd hj hi)⟩
 exact⟨fun p hm=>by rw[hg,if_neg (hmem p hm).2];exact H.get p (hmem p hm).1,H.nd.sublist (hsub.map _),fun p hm=>by rw[hn];exact H.lt p (hmem p hm).1,by rw[hs];exact H.step⟩
end
section
variable{P:Program}
def OS(P:Program)(ops rest:List Oper)(a:ah)(L:RL)(K:ah->RL->Prop):Prop :=
 ∀ h,bp h L->OQ P ops rest a h fun a' h'=>∃ L',K a' L'/\bp h' L'
def jV(rd:Option Nat)(P:Program)(c:Code)(a:ah)(L:RL)(R:b8->ah->RL->Prop):Prop :=
 ∀ h,bp h L->LQ rd P c a h fun e a' h'=>∃ L',R e a' L'/\bp h' L'
abbrev LS(P:Program)(c:Code)(a:ah)(L:RL)(R:b8->ah->RL->Prop):Prop:=jV none P c a L R
def CS(P:Program)(f:FuncId)(args:List Value)(L:RL)(R:Value->RL->Prop):Prop :=
 ∀ h,bp h L->CQ P f args h fun v h'=>∃ L',R v L'/\bp h' L'
section
variable{ops rest:List Oper}{o:Oper}{a a₁ a':ah}{L L' L₁:RL}{v:Value}{K:ah->RL->Prop}
def ar(L' L:RL):Prop:=∃ M,L.Perm (L'++M)
theorem ar.has {h:AW}(s:ar L' L)(H:bp h L):bp h L':=by
 obtain⟨M,p⟩:=s
 exact (H.perm p).less (List.sublist_append_left _ _)
theorem xN(k:K a L):OS P ops [] a L K:=fun h H=>OQ.nil ⟨L,k,H⟩
theorem OS.sub(s:ar L' L)(k:OS P ops rest a L' K):OS P ops rest a L K:=fun h H=>k h (s.has H)
theorem xP(hw:aw ops o a=true)(e:∀ h,aI P a o h=some (.val v h))(ep:aH a o.dst v=some a₁)(k:OS P ops rest a₁ L K):OS P ops (o::rest) a L K :=
 fun h H=>OQ.val hw (e h) ep (k h H)
theorem xR(hw:aw ops o a=true)(e:∀ h,bp h L->aI P a o h=some (.val v h))(ep:aH a o.dst v=some a₁)(k:OS P ops rest a₁ L K):OS P ops (o::rest) a L K :=
 fun h H=>OQ.val hw (e h H) ep (k h H)
theorem OS.write(hw:aw ops o a=true)(e:∀ h,bp h L->∃ h₁,aI P a o h=some (.val v h₁)/\bp h₁ L₁)(ep:aH a o.dst v=some a₁)(k:OS P ops rest a₁ L₁ K):OS P ops (o::rest) a L K :=
 fun h H=>let ⟨h₁,e₁,H₁⟩:=e h H;OQ.val hw e₁ ep (k h₁ H₁)
theorem OS.fresh {V:Nat->Value}{A:Nat->ah}{M:Nat->RL}(hw:aw ops o a=true)(e:∀ h,bp h L->∃ r h₁,aI P a o h=some (.val (V r) h₁)/\bp h₁ (M r))(ep:∀ r,aH a o.dst (V r)=some (A r))(k:∀ r,OS P ops rest (A r) (M r) K):OS P ops (o::rest) a L K :=
 fun h H=>let ⟨r,h₁,e₁,H₁⟩:=e h H;OQ.val hw e₁ (ep r) (k r h₁ H₁)
theorem xK(hw:kU ops o a=true)(ep:aH a o.dst undef=some a₁)(k:OS P ops rest a₁ L K):OS P ops (o::rest) a L K :=
 fun h H=>OQ.skip hw ep (k h H)
theorem xA(hg:noGo P=true){f:FuncId}{args:List Value}(hw:aw ops o a=true)(e:∀ h,aI P a o h=some (.call f args))(hc:CS P f args L fun v L₁=>∃ a₁,aH a o.dst v=some a₁/\OS P ops rest a₁ L₁ K):OS P ops (o::rest) a L K :=
 fun h H=>OQ.call hg hw (e h) ((hc h H).mono fun v h' ⟨L',⟨a₁,ep,k⟩,H'⟩=>⟨a₁,ep,k h' H'⟩)
end
abbrev zM(next:ah->RL->Prop)(R:b8->ah->RL->Prop):b8->ah->RL->Prop
 | .normal,a,h=>next a h
 | e,a,h=>R e a h
abbrev CH(id:Nat)(R:b8->ah->RL->Prop):b8->ah->RL->Prop
 | .exit id',a,h=>if id'=id then R .normal a h else R (.exit id') a h
 | e,a,h=>R e a h
abbrev Js(P:Program)(rs:List ResultVar)(R:Value->RL->Prop):b8->ah->RL->Prop
 | .exit _,_,_=>False
 | _,a,L=>∃ vs,(∀ h,bp h L->cE P a h rs=some vs)/\R (cj vs) L
section
variable{rd:Option Nat}{x y:Code}{a:ah}{L L':RL}{R R':b8->ah->RL->Prop}
theorem LS.mono(k:jV rd P x a L R)(hr:∀ e a h,R e a h->R' e a h):jV rd P x a L R' :=
 fun h H=>(k h H).mono fun e a h ⟨L',r,H'⟩=>⟨L',hr _ _ _ r,H'⟩
theorem jV.mono(k:jV rd P x a L R)(hr:∀ e a h,R e a h->R' e a h):jV rd P x a L R':=LS.mono k hr
theorem LS.sub(s:ar L' L)(k:jV rd P x a L' R):jV rd P x a L R:=fun h H=>k h (s.has H)
theorem LS.skip(k:R .normal a L):jV rd P .skip a L R:=fun h H=>LQ.skip ⟨L,k,H⟩
theorem xT(k:R .ret a L):jV rd P .ret a L R:=fun h H=>LQ.ret ⟨L,k,H⟩
theorem LS.exit {id:Nat}(k:R (.exit id) a L):jV rd P (.exit id) a L R:=fun h H=>LQ.exit ⟨L,k,H⟩
theorem xG {id:Nat}{ops:Array Oper}{l:List Oper}(hl:ops.toList=l)(k:OS P l l a L (R .normal)):jV rd P (.region id ops false) a L R:=fun h H=>LQ.region hl (k h H)
theorem xQ(hx:jV rd P x a L (zM (fun a L=>jV rd P y a L R) R)):jV rd P (.seq x y) a L R :=
 fun h H=>LQ.seq ((hx h H).mono fun e a h ⟨L',r,H'⟩=>by
  cases e with
  | normal=>exact r h H'
  | exit id=>exact⟨L',r,H'⟩
  | ret=>exact⟨L',r,H'⟩)
theorem xC {c:Operand}{b:Bool}(hc:aX a c=some (.bool b))(hx:b=true->jV rd P x a L R)(hy:b=false->jV rd P y a L R):jV rd P (.cond c x y) a L R :=
 fun h H=>LQ.cond hc (fun e=>hx e h H) (fun e=>hy e h H)
theorem LS.block {id:Nat}(hx:jV rd P x a L (CH id R)):jV rd P (.block id x) a L R :=
 fun h H=>LQ.block ((hx h H).mono fun e a h ⟨L',r,H'⟩=>by
  cases e with
  | normal=>exact⟨L',r,H'⟩
  | ret=>exact⟨L',r,H'⟩
  | exit id' =>
   simp only[Be,CH]at r ⊢
   split
   ·rename_i he;rw[if_pos he]at r;exact⟨L',r,H'⟩
   rename_i he;rw[if_neg he]at r;exact⟨L',r,H'⟩)
theorem LS.loop(I:Nat->ah->RL->Prop){n:Nat}(h₀:I n a L)(round:∀ n a L,I n a L->jV rd P x a L (zM (fun a' L'=>∃ m,m<n/\I m a' L') R)):jV rd P (.loop x) a L R :=
 fun h H=>LQ.loop (fun n a h=>∃ L,I n a L/\bp h L) ⟨L,h₀,H⟩ fun n a h ⟨L,i,H⟩=>(round n a L i h H).mono fun e a h ⟨L',r,H'⟩=>by
  cases e with
  | normal=>obtain⟨m,hm,i'⟩:=r;exact⟨m,hm,L',i',H'⟩
  | exit id=>exact⟨L',r,H'⟩
  | ret=>exact⟨L',r,H'⟩
end
section
variable{f:FuncId}{args:List Value}{L L':RL}{R R':Value->RL->Prop}
theorem CS.mono(c:CS P f args L R)(hr:∀ v L',R v L'->R' v L'):CS P f args L R':=fun h H=>(c h H).mono fun v h' ⟨L',r,H'⟩=>⟨L',hr _ _ r,H'⟩
theorem CS.sub(s:ar L' L)(k:CS P f args L' R):CS P f args L R:=fun h H=>k h (s.has H)
theorem CS.mk {fn:Func}{c:Code}{a:ah}{rs:List ResultVar}(hf:P.funcs[f]?=some fn)(hb:fn.body=some c)(hrs:fn.results.toList=rs)(ha:join args (qL (fn.ntmps-args.length))=some a)
  (hl:LS P c a L (Js P rs R)):CS P f args L R :=
 fun h H=>CQ.mk hf hb hrs ha ((hl h H).mono fun e a h ⟨L',r,H'⟩=>by
  cases e with
  | exit id=>exact r.elim
  | normal=>obtain⟨vs,hv,r⟩:=r;exact⟨vs,hv h H',L',r,H'⟩
  | ret=>obtain⟨vs,hv,r⟩:=r;exact⟨vs,hv h H',L',r,H'⟩)
end
variable{ρ:cY}{v:Value}
theorem ay.flat_eq {u:Value}(h:ay ρ v u)(hf:lx v=true):u=v:=by
 cases h <;> first|rfl|(simp[lx]at hf;done)
theorem aF.flat_eq:∀ {vs us:List Value},aF ρ vs us->gf vs=true->us=vs
 | _,_,.nil,_=>rfl
 | _,_,.cons a b,h=>by
  simp only[gf]at h
  split at h
  ·rw[ay.flat_eq a (by assumption),aF.flat_eq b h]
  cases h
end
end Go.Am
namespace Go.Am
section
variable{P:Program}
def Ex(P:Program)(o:Oper):Bool :=
 match o.op with
 | .buildSlice t 0 ⟨[]⟩=>match P.underlying t with
  | some (.slice e)=>match aB P e,dU P e with
   | some n,some zs=>Nat.beq zs.length n
   | _,_=>false
  | _=>false
 | _=>false
variable{o:Oper}
theorem xy (e:Ex P o=true):∃ t el n zs,o.op=.buildSlice t 0 #[]/\P.underlying t=some (.slice el)/\aB P el=some n/\dU P el=some zs/\zs.length=n:=by
 unfold Ex at e
 split at e
 case h_2=>cases e
 rename_i t ho
 split at e
 case h_2=>cases e
 rename_i el hu
 split at e
 case h_2=>cases e
 rename_i n zs hn hz
 exact⟨t,el,n,zs,ho,hu,hn,hz,be e⟩
variable{ρ:cY}
theorem ub {h:AW}{w:World}{t el:TypeId}{n r off:Nat}{zs:List Value}(H:aJ P ρ h w)(hu:P.underlying t=some (.slice el))(hn:aB P el=some n) :
  eM P ρ h w (Instr.buildSlice t 0 #[]) (.slice (some ⟨r,off,none⟩) 0 0) h:=by
 have old:∀ k,k<w.heap.size->(w.alloc (.cells #[] el)).heap[k]?=w.heap[k]?:=fun k hk=>by
  show (w.heap.push _)[k]?=_
  rw[Array.getElem?_push,if_neg (by omega)]
 refine⟨.slice (some ⟨w.heap.size,0,none⟩) 0 0,w.alloc (.cells #[] el),ρ,?_,.slice (Nat.le_refl _) (fun _=>rfl) (fun h=>absurd rfl h),⟨fun m row hm=>?_,H.inj,H.fresh,H.step⟩,
  ⟨cY.le_refl _,rfl,rfl,rfl,?_,fun r row l hr ho hl _=>⟨r,row,l,hr,ho,hl,rfl⟩,fun k hk _=>old k hk,fun _ _ e=>.inl e,⟨0,by simp⟩,rfl⟩⟩
 ·have hno:¬ (0*n > 2^24):=by omega
  have h0:0*n=0:=by omega
  simp only[Instr.buildSlice,Sem.run_bind,run_underlying hu,Result.andThen_ok,bw hn]
  rw[if_neg hno,if_pos h0]
  have hf:Instr.fill (fun i=>some (i*n,n)) (Array.map (fun x=>(#[]:Array Value)[x%(#[]:Array Value).size]!) (Array.range 0)) []=some #[]:=by
   have hr:(Array.map (fun x=>(#[]:Array Value)[x%(#[]:Array Value).size]!) (Array.range 0))=#[]:=by apply Array.eq_empty_of_size_eq_zero;simp
   rw[hr];simp[Instr.fill]
  simp only[Sem.run_bind,Sem.run_pure,Result.andThen_ok,h0,hf,newRow,run_newObj]
  rfl
 ·obtain⟨l',hl',hr'⟩:=H.loc m row hm
  exact⟨l',hl',hr'.keep (cY.le_refl _) (old _ hr'.lt)⟩
 show w.heap.size<=(w.heap.push _).size
 simp
def fu(P:Program)(a:ah)(o:Oper)(h:AW)(v:Value):Prop :=
 aI P a o h=some (.val v h)∨(∃ f args,aI P a o h=some (.call f args)/\CQ P f args h fun v' h'=>v'=v/\h'=h)∨(Ex P o=true/\∃ r off,v=.slice (some ⟨r,off,none⟩) 0 0)
def zN(P:Program)(a:ah)(o:Oper)(h:AW)(R:Value->AW->Prop):Prop :=
 (∃ v h',aI P a o h=some (.val v h')/\R v h')∨∃ f args,aI P a o h=some (.call f args)/\CQ P f args h R
abbrev Dn:=List (Nat×ah×Value)
def OD(P:Program)(ops:List Oper)(ms:List Nat)(K:ah->AW->Prop):List (Nat×Bool)->Dn->ah->AW->Prop
 | [],_,a,h=>K a h
 | (i,wr)::sched,dn,a,h=>∃ o,ops[i]?=some o /\
  ((kU ops o a=true/\∃ a₁,aH a o.dst undef=some a₁/\OD P ops ms K sched dn a₁ h) ∨
   (aw ops o a=true/\wr=false/\∃ v a₁,fu P a o h v/\aH a o.dst v=some a₁/\OD P ops ms K sched ((i,a,v)::dn) a₁ h) ∨
   (aw ops o a=true/\wr=true/\zN P a o h fun v h₁=>∃ a₁,aH a o.dst v=some a₁ /\
    (∀ e,e∈dn->ahead ms i e.1=false->∀ p,ops[e.1]?=some p->fu P e.2.1 p h₁ e.2.2)/\OD P ops ms K sched dn a₁ h₁))
def wa(ms:List Nat):List (Nat×Bool)->List (Nat×Bool)->Bool
 | _,[]=>true
 | pre,(i,wr)::rest =>
  match pre.all (fun p=>(!p.2||ahead ms i p.1)&&!(ahead ms p.1 i)) with
  | true=>wa ms ((i,wr)::pre) rest
  | false=>false
def IN(n:Nat)(s:List Nat):Bool:=(List.range n).all fun i=>fY s i
def qD(ops:List Oper)(ms:List Nat)(sched:List (Nat×Bool)):Bool :=
 ((jE (iA ops)&&jR ops 0)&&ft ms ops ops 0)&&(wa ms [] sched&&(IN ops.length (sched.map (·.1))&&jE (sched.map (·.1))))
variable{ms:List Nat}
theorem q9:∀ {rest pre:List (Nat×Bool)},wa ms pre rest=true->∀ s x t,rest=s++x::t->∀ p,(p∈pre∨p∈s)->(p.2=true->ahead ms x.1 p.1=true)/\ahead ms p.1 x.1=false
 | [],pre,_,s,x,t,hs,_,_=>by simp at hs
 | (i,wr)::rest,pre,h,s,x,t,hs,p,hp=>by
  simp only[wa]at h
  split at h
  case h_2=>cases h
  rename_i hall
  cases s with
  | nil =>
   simp at hs
   obtain⟨rfl,rfl⟩:=hs
   simp at hp
   have:=List.all_eq_true.1 hall p hp
   simp only[Bool.and_eq_true,Bool.or_eq_true,Bool.not_eq_true']at this
   exact⟨fun hh=>(this.1.resolve_left (by simp[hh])),this.2⟩
  | cons y s =>
   simp at hs
   obtain⟨rfl,hs⟩:=hs
   refine q9 h s x t hs p ?_
   rcases hp with hp|hp
   ·exact .inl (List.mem_cons_of_mem _ hp)
   rcases List.mem_cons.1 hp with rfl|hp
   ·exact .inl (by simp)
   exact .inr hp
structure Ec(P:Program)(ops:List Oper)(ms:List Nat)(K:ah->AW->Prop)(sched:List (Nat×Bool))(a₀:ah)(S:Nat->Prop)(h:AW)(pre post:List (Nat×Bool))(dn:Dn)(a:ah)(val:Nat->Value):Prop where
 row:sched=pre++post
 od:OD P ops ms K post dn a h
 len:a.length=a₀.length
 slot:∀ j o d,(∃ b,(j,b)∈pre)->ops[j]?=some o->o.dst=some d->a[d]?=some (val j)
 slot0:∀ t,(∀ j o,(∃ b,(j,b)∈pre)->ops[j]?=some o->o.dst≠some t)->a[t]?=a₀[t]?
 out:∀ j b,(j,b)∈post->¬ S j
 pend:∀ j b o,(j,b)∈pre->¬ S j->ops[j]?=some o->∃ aj,aj.length=a₀.length /\
  (∀ t,t∈dx ops o->(∀ q oq,ops[q]?=some oq->oq.dst=some t->ahead ms j q=true->aj[t]?=some (val q))/\((∀ q oq,ops[q]?=some oq->oq.dst=some t->ahead ms j q=false)->aj[t]?=a₀[t]?)) /\
  ((kU ops o aj=true/\val j=undef)∨(aw ops o aj=true/\(j,aj,val j)∈dn/\fu P aj o h (val j)))
structure Ly(ops:List Oper)(ms:List Nat)(sched:List (Nat×Bool)):Prop where
 once:Lk ops
 back:∀ i o,ops[i]?=some o->∀ j,ahead ms i j=true->j<i
 sorted:∀ i o j q d,ops[i]?=some o->ops[j]?=some q->q.dst=some d->d∈dx ops o->j≠i->(j<i->ahead ms i j=true)/\(i<j->ahead ms j i=true)
 row:∀ s x t,sched=s++x::t->∀ p,p∈s->(p.2=true->ahead ms x.1 p.1=true)/\ahead ms p.1 x.1=false
 all:∀ i o,ops[i]?=some o->∃ b,(i,b)∈sched
 nd:(sched.map (·.1)).Nodup
theorem rP:∀ {l:List Nat},jE l=true->l.Nodup
 | [],_=>List.nodup_nil
 | x::xs,h=>by
  simp only[jE]at h
  split at h
  ·cases h
  rename_i hn
  refine List.nodup_cons.2 ⟨fun hm=>?_,rP h⟩
  rw[cG.2 hm]at hn;cases hn
variable{ops:List Oper}{sched:List (Nat×Bool)}
theorem JP (hm:d5 ops []=some ms)(hok:qD ops ms sched=true):Ly ops ms sched/\jR ops 0=true:=by
 simp only[qD,Bool.and_eq_true]at hok
 obtain⟨⟨⟨hon,hback⟩,hsort⟩,hrow,hcov,hnd⟩:=hok
 refine⟨⟨pf hon,fun i o ho=>gY hm hback (S:=fun j=>j<i) (fun j q hj hq e he hbe=>by have:=d9 hback j q hq e he hbe;omega) i o ho (fun e he hbe=>by have:=d9 hback i o ho e he hbe;omega),fun i o j q d hi hj hd hl hne=>?_,fun s x t hs p hp=>q9 hrow s x t hs p (.inr hp),fun i o hi=>?_,rP hnd⟩,hback⟩
 ·have:=iI hsort i o hi j q d hj hd hl (by omega)
  simpa using this
 have:=List.all_eq_true.1 hcov i (by simpa using (List.getElem?_eq_some_iff.1 hi).1)
 obtain⟨p,hp,he⟩:=List.mem_map.1 (cG.1 this)
 exact⟨p.2,by subst he;exact hp⟩
section
variable{ops:List Oper}{ms:List Nat}{K:ah->AW->Prop}{sched:List (Nat×Bool)}{a₀:ah}{S:Nat->Prop}{h:AW}{post:List (Nat×Bool)}
theorem Ec.step(hO:Ly ops ms sched){i:Nat}{wr:Bool}{o:Oper}{pre:List (Nat×Bool)}{dn dn':Dn}{a a₁:ah}{val:Nat->Value}{v:Value}{h':AW}{S':Nat->Prop}(M:Ec P ops ms K sched a₀ S h pre ((i,wr)::post) dn a val)
  (hi:ops[i]?=some o) (ep:aH a o.dst v=some a₁) (od:OD P ops ms K post dn' a₁ h') (hdn:∀ e,e∈dn->e∈dn') (hS:∀ j,j≠i->(S' j↔S j))
  (hold:∀ j aj u p,¬ S j->(j,aj,u)∈dn->ops[j]?=some p->fu P aj p h u->fu P aj p h' u)
  (here:¬ S' i->(kU ops o a=true/\v=undef)∨(aw ops o a=true/\(i,a,v)∈dn'/\fu P a o h' v)) :
  Ec P ops ms K sched a₀ S' h' (pre++[(i,wr)]) post dn' a₁ fun j=>if j=i then v else val j:=by
 obtain⟨hal,had,hag⟩:=uo ep
 have hrow:=M.row
 have hnd:=hO.nd
 rw[hrow,List.map_append,List.map_cons,List.nodup_append]at hnd
 obtain⟨nd1,nd2,nd3⟩:=hnd
 have hpre:∀ j b,(j,b)∈pre->j≠i:=fun j b hm hh=>by
  subst hh
  exact nd3 j (List.mem_map.2 ⟨_,hm,rfl⟩) j (by simp) rfl
 have hpost:∀ j b,(j,b)∈post->j≠i:=fun j b hm hh=>by
  subst hh
  exact (List.nodup_cons.1 nd2).1 (List.mem_map.2 ⟨_,hm,rfl⟩)
 have hrow_i:=hO.row pre (i,wr) post hrow
 refine⟨by rw[hrow];simp,od,hal.trans M.len,?_,?_,?_,?_⟩
 ·rintro j p d ⟨b,hm⟩ hj hd
  rw[hag]
  by_cases hji:j=i
  ·subst hji;rw[hi]at hj;simp at hj;subst hj;simp[hd]
  rw[if_neg hji]
  have hm':(j,b)∈pre:=by simpa[hji] using hm
  rw[if_neg (fun hh=>hji (hO.once j i p o d hj hi hd hh))]
  exact M.slot j p d ⟨b,hm'⟩ hj hd
 ·intro t ht
  rw[hag,if_neg (ht i o ⟨wr,by simp⟩ hi)]
  exact M.slot0 t fun j p ⟨b,hm⟩ hj=>ht j p ⟨b,by simp[hm]⟩ hj
 ·intro j b hm hs
  have hne:=hpost j b hm
  exact M.out j b (by simp[hm]) ((hS j hne).1 hs)
 intro j b p hm hs hj
 by_cases hji:j=i
 ·subst hji
  rw[hi]at hj;simp at hj;subst hj
  have hlt:∀ q,ahead ms j q=true->q≠j:=fun q hq hh=>by subst hh;exact absurd (hO.back q o hi q hq) (Nat.lt_irrefl q)
  refine⟨a,M.len,fun t ht=>⟨fun q oq hq hd hah=>?_,fun hno=>?_⟩,?_⟩
  ·rw[if_neg (hlt q hah)]
   obtain⟨bq,hmq⟩:=hO.all q oq hq
   rw[hrow]at hmq
   rcases List.mem_append.1 hmq with hmq|hmq
   ·exact M.slot q oq t ⟨bq,hmq⟩ hq hd
   exfalso
   rcases List.mem_cons.1 hmq with hmq|hmq
   ·simp at hmq;exact hlt q hah hmq.1
   obtain⟨s1,s2,rfl⟩:=List.append_of_mem hmq
   have:=(hO.row (pre++(j,wr)::s1) (q,bq) s2 (by rw[hrow];simp) (j,wr) (by simp)).2
   simp only at this
   rw[hah]at this;cases this
  ·exact M.slot0 t fun q oq ⟨bq,hmq⟩ hq hd=>by
    have hne:=hpre q bq hmq
    obtain⟨s1,s2⟩:=hO.sorted j o q oq t hi hq hd ht hne
    rcases Nat.lt_or_gt_of_ne hne with hlt'|hgt
    ·rw[hno q oq hq hd]at s1;exact absurd (s1 hlt') (by simp)
    have:=(hrow_i (q,bq) hmq).2
    simp only at this
    rw[s2 hgt]at this;cases this
  rw[if_pos rfl];exact here hs
 have hm':(j,b)∈pre:=by simpa[hji] using hm
 obtain⟨aj,hl,hlook,hor⟩:=M.pend j b p hm' (fun hh=>hs ((hS j hji).2 hh)) hj
 refine⟨aj,hl,fun t ht=>⟨fun q oq hq hd hah=>?_,(hlook t ht).2⟩,?_⟩
 ·have hqi:q≠i:=fun hh=>by
   subst hh
   have:=(hrow_i (j,b) hm').2
   simp only at this
   rw[hah]at this;cases this
  rw[if_neg hqi]
  exact (hlook t ht).1 q oq hq hd hah
 rw[if_neg hji]
 rcases hor with hor|⟨h1,h2,h3⟩
 ·exact .inl hor
 exact .inr ⟨h1,hdn _ h2,hold j aj _ p (fun hh=>hs ((hS j hji).2 hh)) h2 hj h3⟩
theorem Ec.on(hO:Ly ops ms sched):∀ {post pre:List (Nat×Bool)} {dn:Dn} {a:ah} {val:Nat->Value},Ec P ops ms K sched a₀ S h pre post dn a val →
  ∃ pre' post' dn' a' val',Ec P ops ms K sched a₀ S h pre' post' dn' a' val'/\(∀ j,S j->val' j=val j)/\(post'=[]∨∃ i o rest,post'=(i,true)::rest/\ops[i]?=some o/\aw ops o a'=true /\
   zN P a' o h fun v h₁=>∃ a₁,aH a' o.dst v=some a₁/\(∀ e,e∈dn'->ahead ms i e.1=false->∀ p,ops[e.1]?=some p->fu P e.2.1 p h₁ e.2.2)/\OD P ops ms K rest dn' a₁ h₁):=by
 intro post
 induction post with
 | nil=>intro pre dn a val M;exact⟨pre,[],dn,a,val,M,fun _ _=>rfl,.inl rfl⟩
 | cons x post ih =>
  intro pre dn a val M
  obtain⟨i,wr⟩:=x
  have od:=M.od
  simp only[OD]at od
  obtain⟨o,hi,hor⟩:=od
  have hnS:∀ j,S j->j≠i:=fun j hj hh=>by subst hh;exact M.out j wr (by simp) hj
  rcases hor with ⟨hw,a₁,ep,od⟩|⟨hw,hwr,v,a₁,sq,ep,od⟩|⟨hw,hwr,sw⟩
  ·obtain⟨pre',post',dn',a',val',M',hv,hp⟩:=ih (M.step hO hi ep od (fun _ he=>he) (fun _ _=>Iff.rfl) (fun _ _ _ _ _ _ _ hh=>hh) fun _=>.inl ⟨hw,rfl⟩)
   exact⟨pre',post',dn',a',val',M',fun j hj=>by rw[hv j hj,if_neg (hnS j hj)],hp⟩
  ·obtain⟨pre',post',dn',a',val',M',hv,hp⟩:=ih (M.step hO hi ep od (fun _ he=>List.mem_cons_of_mem _ he) (fun _ _=>Iff.rfl) (fun _ _ _ _ _ _ _ hh=>hh) fun _=>.inr ⟨hw,by simp,sq⟩)
   exact⟨pre',post',dn',a',val',M',fun j hj=>by rw[hv j hj,if_neg (hnS j hj)],hp⟩
  subst hwr
  exact⟨pre,(i,true)::post,dn,a,val,M,fun _ _=>rfl,.inr ⟨i,o,post,rfl,hi,hw,sw⟩⟩
theorem Ec.more {S':Nat->Prop}{pre:List (Nat×Bool)}{dn:Dn}{a:ah}{val:Nat->Value}(M:Ec P ops ms K sched a₀ S h pre post dn a val)(h1:∀ j,S j->S' j)(h2:∀ j b,(j,b)∈post->¬ S' j):Ec P ops ms K sched a₀ S' h pre post dn a val :=
 ⟨M.row,M.od,M.len,M.slot,M.slot0,h2,fun j b o hm hs=>M.pend j b o hm fun hh=>hs (h1 j hh)⟩
end
theorem DR(hg:noGo P=true){ro:Option Nat}{ds:List Deferred}{opsA:Array Oper}{ms:List Nat}{sched:List (Nat×Bool)}{a₀:ah}{K:ah->AW->Prop}{ρ₀:cY}{h₀:AW}{w₀:World}{Q:Exit->Act->World->Prop}
  (hm:d5 opsA.toList []=some ms) (hO:Ly opsA.toList ms sched) (hback:jR opsA.toList 0=true)
  (hQ:∀ a' h' ρ' act' w',K a' h'->aF ρ' a' act'.tmps.toList->act'.defers=ds->aJ P ρ' h' w'->bE ρ₀ h₀ w₀ ρ' h' w'->Q .normal act' w') :
  ∀ (fuel:Nat) (listed:Array Bool) (act:Act) (w:World) (ρ:cY) (h:AW) (pre post:List (Nat×Bool)) (dn:Dn) (a:ah) (val:Nat->Value),listed.size=opsA.size →
   (∀ i o,dB listed i=true->opsA.toList[i]?=some o->∀ e∈o.after.toList,Region.binds .any e=true->dB listed e.on=true) →
   Ec P opsA.toList ms K sched a₀ (fun j=>dB listed j=true) h pre post dn a val->aJ P ρ h w->bE ρ₀ h₀ w₀ ρ h w->act.tmps.size=a₀.length->act.defers=ds →
   (∀ j o d,dB listed j=true->opsA.toList[j]?=some o->o.dst=some d->∃ u,act.tmps[d]?=some u/\ay ρ (val j) u) →
   (∀ t x,(∀ j (o:Oper),dB listed j=true->opsA.toList[j]?=some o->o.dst≠some t)->a₀[t]?=some x->∃ u,act.tmps[t]?=some u/\ay ρ x u) →
   ((List.range opsA.size).filter fun i=>!listed.getD i true).length<=fuel->wpAnyIn (fP ro) 0 P .any opsA Q fuel listed act w:=by
 have hgetD:∀ (listed:Array Bool) (i:Nat),i<listed.size->listed.getD i true=dB listed i:=fun listed i hi=>by
  unfold dB
  rw[Array.getD_eq_getD_getElem?,Array.getD_eq_getD_getElem?,Array.getElem?_eq_getElem hi];rfl
 -- when all are listed
 have final:∀ (listed:Array Bool) (act:Act) (w:World) (ρ:cY) (h:AW) (pre post:List (Nat×Bool)) (dn:Dn) (a:ah) (val:Nat->Value),(∀ i,i<opsA.size->dB listed i=true) →
   Ec P opsA.toList ms K sched a₀ (fun j=>dB listed j=true) h pre post dn a val->aJ P ρ h w->bE ρ₀ h₀ w₀ ρ h w->act.tmps.size=a₀.length->act.defers=ds →
   (∀ j o d,dB listed j=true->opsA.toList[j]?=some o->o.dst=some d->∃ u,act.tmps[d]?=some u/\ay ρ (val j) u) →
   (∀ t x,(∀ j (o:Oper),dB listed j=true->opsA.toList[j]?=some o->o.dst≠some t)->a₀[t]?=some x->∃ u,act.tmps[t]?=some u/\ay ρ x u)->Q .normal act w:=by
  intro listed act w ρ h pre post dn a val hall M HR T hsz hd hs1 hs0
  have hpost:post=[]:=by
   cases post with
   | nil=>rfl
   | cons x post =>
    obtain⟨i,b⟩:=x
    have hod:=M.od
    simp only[OD]at hod
    obtain⟨o,hi,_⟩:=hod
    have hlt:=(List.getElem?_eq_some_iff.1 hi).1
    exact absurd (hall i (by simpa using hlt)) (M.out i b (by simp))
  subst hpost
  have hk:=M.od
  simp only[OD]at hk
  refine hQ a h ρ act w hk (aF.of_get (by have:=M.len;simp;omega) fun t x hx=>?_) hd HR T
  rw[Array.getElem?_toList]
  by_cases hex:∃ (j:Nat) (o:Oper),opsA.toList[j]?=some o/\o.dst=some t
  ·obtain⟨j,o,hj,hdj⟩:=hex
   obtain⟨b,hb⟩:=hO.all j o hj
   rw[M.row,List.append_nil]at hb
   have:=M.slot j o t ⟨b,hb⟩ hj hdj
   rw[this]at hx;simp at hx;subst hx
   exact hs1 j o t (hall j (by simpa using (List.getElem?_eq_some_iff.1 hj).1)) hj hdj
  rw[M.slot0 t fun j o _ hj hdj=>hex ⟨j,o,hj,hdj⟩]at hx
  exact hs0 t x (fun j o _ hj hdj=>hex ⟨j,o,hj,hdj⟩) hx
 intro fuel
 induction fuel with
 | zero =>
  intro listed act w ρ h pre post dn a val hsize hclosed M HR T hsz hd hs1 hs0 hfuel
  have hnil:((List.range opsA.size).filter fun i=>!listed.getD i true)=[]:=List.eq_nil_of_length_eq_zero (by omega)
  have hall:∀ i,i<opsA.size->dB listed i=true:=fun i hi=>by
   have:=List.filter_eq_nil_iff.1 hnil i (by simpa using hi)
   rw[hgetD listed i (by omega)]at this
   simpa using this
  refine⟨?_,final listed act w ρ h pre post dn a val hall M HR T hsz hd hs1 hs0⟩
  unfold Region.ready
  rw[List.filter_eq_nil_iff]
  intro i hi
  rw[hgetD listed i (by simp at hi;omega),hall i (by simpa using hi)]
  simp
 | succ fuel ih =>
  intro listed act w ρ h pre post dn a val hsize hclosed M HR T hsz hd hs1 hs0 hfuel
  refine⟨fun hready=>?_,fun i hi=>?_⟩
  ·have hall:∀ i,i<opsA.size->dB listed i=true:=by
    intro i
    induction i using Nat.strongRecOn with
    | _ i ihi =>
     intro hi
     cases hb:dB listed i with
     | true=>rfl
     | false =>
      have hin:i∈Region.ready .any opsA listed:=by
       unfold Region.ready
       rw[List.mem_filter]
       refine⟨by simpa using hi,?_⟩
       rw[hgetD listed i (by omega),hb]
       have ho:opsA[i]?=some opsA[i]:=Array.getElem?_eq_getElem hi
       simp only[ho,Option.map_some,Option.getD_some,Bool.not_false,Bool.true_and]
       rw[Array.all_eq_true']
       intro e he
       cases hbe:Region.binds .any e with
       | false=>simp
       | true =>
       have hlt:=d9 hback i opsA[i] (by rw[Array.getElem?_toList];exact ho) e (by simpa using he) hbe
       have:=ihi e.on (by omega) (by omega)
       unfold dB at this
       rw[this];simp
      rw[hready]at hin
      simp at hin
   exact final listed act w ρ h pre post dn a val hall M HR T hsz hd hs1 hs0
  obtain⟨pre',post',dn',a',val',M',hveq,hhead⟩:=M.on hO
  have hs1':∀ j o d,dB listed j=true->opsA.toList[j]?=some o->o.dst=some d->∃ u,act.tmps[d]?=some u/\ay ρ (val' j) u:=fun j o d hj ho hd'=>by
   rw[hveq j hj];exact hs1 j o d hj ho hd'
  clear M hs1 hveq
  -- the operation i stands next
  unfold Region.ready at hi
  rw[List.mem_filter]at hi
  obtain⟨hin,hi⟩:=hi
  have hin:i<opsA.size:=by simpa using hin
  have ho:opsA[i]?=some opsA[i]:=Array.getElem?_eq_getElem hin
  generalize opsA[i]=o at ho
  rw[hgetD listed i (by omega),ho]at hi
  simp only[Option.map_some,Option.getD_some,Bool.and_eq_true,Bool.not_eq_true']at hi
  obtain⟨hnot,hpre⟩:=hi
  rw[Array.all_eq_true']at hpre
  have hoL:opsA.toList[i]?=some o:=by rw[Array.getElem?_toList];exact ho
  have hpreds:∀ e∈o.after.toList,Region.binds .any e=true->dB listed e.on=true:=fun e he hb=>by
   have:=hpre e (by simpa using he)
   rw[hb]at this
   simpa[dB] using this
  have hclose:=gY hm hback (S:=fun j=>dB listed j=true) hclosed
  have hbefore:∀ j,ahead ms i j=true->dB listed j=true:=hclose i o hoL hpreds
  have hafter:∀ j q,opsA.toList[j]?=some q->dB listed j=true->ahead ms j i=false:=fun j q hq hj=>by
   cases hb:ahead ms j i with
   | false=>rfl
   | true =>
    have:=hclose j q hq (hclosed j q hj hq) i hb
    rw[hnot]at this;cases this
  -- what stands in the slots
  let A:ah:=(List.range a₀.length).map fun t=>open Classical in if hx:∃ j o,dB listed j=true/\opsA.toList[j]?=some o/\o.dst=some t then val' (Classical.choose hx) else (a₀[t]?).getD undef
  have hAl:A.length=a₀.length:=by simp[A]
  have hA:∀ t,t<a₀.length->A[t]?=some (open Classical in if hx:∃ j o,dB listed j=true/\opsA.toList[j]?=some o/\o.dst=some t then val' (Classical.choose hx) else (a₀[t]?).getD undef):=fun t ht=>by
   simp only[A,List.getElem?_map]
   rw[List.getElem?_range ht];rfl
  have hA1:∀ j o t,dB listed j=true->opsA.toList[j]?=some o->o.dst=some t->t<a₀.length->A[t]?=some (val' j):=fun j o t hj hjo hjd ht=>by
   rw[hA t ht]
   have hx:∃ j o,dB listed j=true/\opsA.toList[j]?=some o/\o.dst=some t:=⟨j,o,hj,hjo,hjd⟩
   rw[dif_pos hx]
   obtain⟨p,h1,h2,h3⟩:=Classical.choose_spec hx
   rw[hO.once _ j p o t h2 hjo h3 hjd]
  have hA0:∀ t,(∀ j (o:Oper),dB listed j=true->opsA.toList[j]?=some o->o.dst≠some t)->A[t]?=a₀[t]?:=fun t hno=>by
   by_cases ht:t<a₀.length
   ·rw[hA t ht,dif_neg (fun ⟨j,o,h1,h2,h3⟩=>hno j o h1 h2 h3),List.getElem?_eq_getElem ht];rfl
   rw[List.getElem?_eq_none (by rw[hAl];exact Nat.le_of_not_lt ht),List.getElem?_eq_none (Nat.le_of_not_lt ht)]
  have hrelA:aF ρ A act.tmps.toList:=aF.of_get (by simp;omega) fun t x hx=>by
   rw[Array.getElem?_toList]
   have ht:t<a₀.length:=by have:=(List.getElem?_eq_some_iff.1 hx).1;omega
   by_cases hex:∃ j o,dB listed j=true/\opsA.toList[j]?=some o/\o.dst=some t
   ·obtain⟨j,p,h1,h2,h3⟩:=hex
    rw[hA1 j p t h1 h2 h3 ht]at hx
    simp at hx;subst hx
    exact hs1' j p t h1 h2 h3
   have hno:∀ j (o:Oper),dB listed j=true->opsA.toList[j]?=some o->o.dst≠some t:=fun j o h1 h2 h3=>hex ⟨j,o,h1,h2,h3⟩
   rw[hA0 t hno]at hx
   exact hs0 t x hno hx
  -- no other one writes what it looks at
  have hlone:∀ t,t∈dx opsA.toList o->(∀ q oq,opsA.toList[q]?=some oq->oq.dst=some t->ahead ms i q=false)->∀ j (p:Oper),dB listed j=true->opsA.toList[j]?=some p->p.dst≠some t:=fun t ht hno j p hj hjp hjd=>by
   have hne:j≠i:=fun hh=>by subst hh;rw[hnot]at hj;cases hj
   obtain⟨s1,s2⟩:=hO.sorted i o j p t hoL hjp hjd ht hne
   rcases Nat.lt_or_gt_of_ne hne with hlt|hgt
   ·rw[hno j p hjp hjd]at s1;exact absurd (s1 hlt) (by simp)
   rw[hafter j p hjp hj]at s2;exact absurd (s2 hgt) (by simp)
  -- what holds behind it
  have next:∀ (u v:Value) (w':World) (ρ':cY) (h':AW) (pre' post':List (Nat×Bool)) (dn':Dn) (a':ah) (val:Nat->Value),ρ.le ρ'->ay ρ' v u->aJ P ρ' h' w'->bE ρ h w ρ' h' w'->val i=v->(∀ j,dB listed j=true->val j=val' j) →
    Ec P opsA.toList ms K sched a₀ (fun j=>dB (listed.setIfInBounds i true) j=true) h' pre' post' dn' a' val->wpAnyIn (fP ro) 0 P .any opsA Q fuel (listed.setIfInBounds i true) (act.put o.dst u) w':=by
   intro u v w' ρ' h' pre' post' dn' a' val le hv HR' T' hvi hvj M
   have hput:∀ t,(act.put o.dst u).tmps[t]?=if o.dst=some t then (if t<act.tmps.size then some u else none) else act.tmps[t]?:=fun t=>by
    cases hd':o.dst with
    | none=>simp[Act.put]
    | some d =>
     simp only[Act.put,Array.getElem?_setIfInBounds]
     by_cases hdt:d=t
     ·subst hdt;simp
     rw[if_neg hdt,if_neg (fun hh=>hdt (by simpa using hh))]
   refine ih _ _ w' ρ' h' pre' post' dn' a' val (by simpa using hsize) ?_ M HR' (T.trans T') ?_ (by rw[c7];exact hd) ?_ ?_ ?_
   ·intro j q hj hq e he hb
    rw[cJ (by omega)]at hj ⊢
    by_cases hji:j=i
    ·subst hji
     rw[hoL]at hq;simp at hq;subst hq
     rw[hpreds e he hb];simp
    rw[if_neg hji]at hj
    rw[hclosed j q hj hq e he hb];simp
   ·rw[←hsz]
    cases o.dst <;> simp[Act.put]
   ·intro j p d hj hp hpd
    rw[cJ (by omega)]at hj
    by_cases hji:j=i
    ·subst hji
     rw[hoL]at hp;simp at hp;subst hp
     have hlt:d<act.tmps.size:=by
      obtain⟨b,hb⟩:=hO.all j o hoL
      have hpp:∃ b,(j,b)∈pre':=by
       rw[M.row]at hb
       rcases List.mem_append.1 hb with hb|hb
       ·exact⟨b,hb⟩
       exact absurd (by rw[cJ (by omega)];simp) (M.out j b hb)
      have h1:=(List.getElem?_eq_some_iff.1 (M.slot j o d hpp hoL hpd)).1
      rw[M.len,←hsz]at h1
      exact h1
     exact⟨u,by rw[hput,if_pos hpd,if_pos hlt],by rw[hvi];exact hv⟩
    rw[if_neg hji]at hj
    obtain⟨x,hx,hr⟩:=hs1' j p d hj hp hpd
    refine⟨x,?_,by rw[hvj j hj];exact hr.mono le⟩
    rw[hput,if_neg (fun hh=>hji (hO.once j i p o d hp hoL hpd hh))]
    exact hx
   ·intro t x hno hx
    have hdt:o.dst≠some t:=hno i o (by rw[cJ (by omega)];simp) hoL
    obtain⟨y,hy,hr⟩:=hs0 t x (fun j p hj hp=>hno j p (by rw[cJ (by omega),hj];simp) hp) hx
    exact⟨y,by rw[hput,if_neg hdt];exact hy,hr.mono le⟩
   have:=A6 (l:=List.range opsA.size) (p:=fun j=>!listed.getD j true) (q:=fun j=>!(listed.setIfInBounds i true).getD j true) (fun x hx=>by
    rw[Array.getD_eq_getD_getElem?,Array.getElem?_setIfInBounds]at hx
    rw[Array.getD_eq_getD_getElem?]
    by_cases hxi:i=x
    ·subst hxi;rw[if_pos rfl,if_pos (by omega)]at hx;simp at hx
    rwa [if_neg hxi]at hx) ⟨i,by simpa using hin,by rw[hgetD listed i (by omega),hnot];rfl,by
    rw[Array.getD_eq_getD_getElem?,Array.getElem?_setIfInBounds,if_pos rfl,if_pos (by omega)];rfl⟩
   omega
  have hmono:∀ j,dB listed j=true->dB (listed.setIfInBounds i true) j=true:=fun j hj=>by rw[cJ (by omega),hj];simp
  obtain⟨b,hb⟩:=hO.all i o hoL
  have hrow:=M'.row
  rw[hrow]at hb
  unfold wpOpIn
  rw[ho]
  simp only
  rcases List.mem_append.1 hb with hb|hb
  ·-- it has been put off till now
   obtain⟨aj,hl,hlook,hor⟩:=M'.pend i b o hb (by rw[hnot];simp) hoL
   have hsame:∀ t,t∈dx opsA.toList o->A[t]?=aj[t]?:=fun t ht=>by
    by_cases hex:∃ q oq,opsA.toList[q]?=some oq/\oq.dst=some t/\ahead ms i q=true
    ·obtain⟨q,oq,h1,h2,h3⟩:=hex
     have e1:=(hlook t ht).1 q oq h1 h2 h3
     have hlt:t<a₀.length:=by have:=(List.getElem?_eq_some_iff.1 e1).1;omega
     rw[e1]
     exact hA1 q oq t (hbefore q h3) h1 h2 hlt
    have hno:∀ q oq,opsA.toList[q]?=some oq->oq.dst=some t->ahead ms i q=false:=fun q oq h1 h2=>by
     cases hb':ahead ms i q with
     | false=>rfl
     | true=>exact absurd ⟨q,oq,h1,h2,hb'⟩ hex
    rw[(hlook t ht).2 hno]
    exact hA0 t (hlone t ht hno)
   have M2:Ec P opsA.toList ms K sched a₀ (fun j=>dB (listed.setIfInBounds i true) j=true) h pre' post' dn' a' val':=M'.more hmono fun j c hjp hj=>by
    rw[cJ (by omega)]at hj
    by_cases hji:j=i
    ·subst hji
     have hnd:=hO.nd
     rw[hrow,List.map_append,List.nodup_append]at hnd
     exact hnd.2.2 j (List.mem_map.2 ⟨_,hb,rfl⟩) j (List.mem_map.2 ⟨_,hjp,rfl⟩) rfl
    rw[if_neg hji]at hj;exact M'.out j c hjp hj
   have hopA:aI P A o h=aI P aj o h:=lS (mc hsame)
   rcases hor with ⟨hw,hv⟩|⟨hw,_,hq⟩
   ·obtain⟨hw,hsure⟩:=qR.1 hw
    rw[←ci hrelA (by rw[fe hsame];exact hsure),dJ hsame,hw,if_neg (by simp)]
    exact⟨fun _ _=>trivial,next undef undef w ρ h pre' post' dn' a' val' (cY.le_refl _) gZ HR (bE.refl _ _ _) hv (fun _ _=>rfl) M2⟩
   rw[←ci hrelA (by rw[fe hsame];exact bL hw),dJ hsame,hw,if_pos rfl]
   rcases hq with hop|⟨f,args,hop,hcq⟩|⟨hvo,r₀,off₀,hvv⟩
   ·obtain⟨n,u,w',ρ',hrun,hn,hv,HR',T'⟩:=cO hrelA HR (by rw[hopA];exact hop)
    have:=next u _ w' ρ' h pre' post' dn' a' val' T'.le hv HR' T' rfl (fun _ _=>rfl) M2
    refine⟨fun _ _=>trivial,?_⟩
    rw[Oper.semAt_eq _ _ _ (b9 hop),hrun]
    rcases hn with rfl|⟨rfl,rfl⟩ <;> exact this
   ·obtain⟨us,hus,hrun⟩:=cO hrelA HR (e:=by rw[hopA];exact hop)
    obtain⟨⟨fn,c,hf,hbd⟩,hcalls⟩:=hcq
    refine⟨fun _ _=>trivial,?_⟩
    rw[Oper.semAt_eq _ _ _ (b9 hop),hrun,er hg hf hbd]
    refine⟨fun hh=>(by cases hh),eY.2 ((hcalls ρ us w hus HR).mono ?_)⟩
    rintro en w₁ ⟨v,h₁,u,ρ₁,rfl,⟨rfl,rfl⟩,hv,H₁,T₁⟩
    exact next u _ w₁ ρ₁ h₁ pre' post' dn' a' val' T₁.le hv H₁ T₁ rfl (fun _ _=>rfl) M2
   obtain⟨t₀,el,n₀,zs,hoo,hu,hn,_,_⟩:=xy hvo
   obtain⟨u,w',ρ',hrun,hv,HR',T'⟩:=ub (r:=r₀) (off:=off₀) (zs:=zs) HR hu hn
   rw[←hvv]at hv
   have:=next u _ w' ρ' h pre' post' dn' a' val' T'.le hv HR' T' rfl (fun _ _=>rfl) M2
   refine⟨fun _ _=>trivial,?_⟩
   rw[Oper.semAt_eq _ _ _ (fun c hc=>by rw[hoo]at hc;cases hc)]
   simp only[execOp,hoo,List.map_toArray,List.map_nil,Sem.run_bind,hrun,Result.andThen_ok,Sem.run_pure]
   exact this
  -- it turns the rows
  rcases hhead with rfl|⟨i',o',rest,rfl,hi',hw,sw⟩
  ·simp at hb
  have hii:i=i':=by
   rcases List.mem_cons.1 hb with hb|hb
   ·simp at hb;exact hb.1
   exfalso
   obtain⟨s1,s2,rfl⟩:=List.append_of_mem hb
   have:=(hO.row (pre'++(i',true)::s1) (i,b) s2 (by rw[hrow];simp) (i',true) (by simp)).1 rfl
   exact M'.out i' true (by simp) (hbefore i' this)
  subst hii
  rw[hoL]at hi';simp at hi';subst hi'
  have hrow_i:=hO.row pre' (i,true) rest hrow
  have hsame:∀ t,t∈dx opsA.toList o->A[t]?=a'[t]?:=fun t ht=>by
   by_cases hex:∃ q oq,opsA.toList[q]?=some oq/\oq.dst=some t/\ahead ms i q=true
   ·obtain⟨q,oq,h1,h2,h3⟩:=hex
    obtain⟨bq,hbq⟩:=hO.all q oq h1
    rw[hrow]at hbq
    have hqp:(q,bq)∈pre':=by
     rcases List.mem_append.1 hbq with hbq|hbq
     ·exact hbq
     exact absurd (hbefore q h3) (M'.out q bq hbq)
    have e1:=M'.slot q oq t ⟨bq,hqp⟩ h1 h2
    have hlt:t<a₀.length:=by have:=(List.getElem?_eq_some_iff.1 e1).1;have:=M'.len;omega
    rw[e1]
    exact hA1 q oq t (hbefore q h3) h1 h2 hlt
   have hno:∀ q oq,opsA.toList[q]?=some oq->oq.dst=some t->ahead ms i q=false:=fun q oq h1 h2=>by
    cases hb':ahead ms i q with
    | false=>rfl
    | true=>exact absurd ⟨q,oq,h1,h2,hb'⟩ hex
   rw[hA0 t (hlone t ht hno)]
   refine (M'.slot0 t fun j p ⟨bj,hbj⟩ hjp hjd=>?_).symm
   have hne:j≠i:=fun hh=>by
    subst hh
    have hnd:=hO.nd
    rw[hrow,List.map_append,List.nodup_append]at hnd
    exact hnd.2.2 j (List.mem_map.2 ⟨_,hbj,rfl⟩) j (by simp) rfl
   obtain⟨s1,s2⟩:=hO.sorted i o j p t hoL hjp hjd ht hne
   rcases Nat.lt_or_gt_of_ne hne with hlt|hgt
   ·rw[hno j p hjp hjd]at s1;exact absurd (s1 hlt) (by simp)
   have:=(hrow_i (j,bj) hbj).2
   simp only at this
   rw[s2 hgt]at this;cases this
  have hopA:aI P A o h=aI P a' o h:=lS (mc hsame)
  rw[←ci hrelA (by rw[fe hsame];exact bL hw),dJ hsame,hw,if_pos rfl]
  have go:∀ v h₁ u w' ρ',(∃ a₁,aH a' o.dst v=some a₁/\(∀ e,e∈dn'->ahead ms i e.1=false->∀ p,opsA.toList[e.1]?=some p->fu P e.2.1 p h₁ e.2.2)/\OD P opsA.toList ms K rest dn' a₁ h₁) →
    ay ρ' v u->aJ P ρ' h₁ w'->bE ρ h w ρ' h₁ w'->wpAnyIn (fP ro) 0 P .any opsA Q fuel (listed.setIfInBounds i true) (act.put o.dst u) w':=by
   rintro v h₁ u w' ρ' ⟨a₁,ep,hobl,hod⟩ hv HR' T'
   have M2:=M'.step (S':=fun j=>dB (listed.setIfInBounds i true) j=true) hO hoL ep hod (fun _ he=>he) (fun j hj=>by rw[cJ (by omega),if_neg hj]) (fun j aj u p hs hm hp _=>hobl _ hm (by
    cases hb':ahead ms i j with
    | false=>rfl
    | true=>exact absurd (hbefore j hb') hs) p hp) (fun hs=>absurd (by rw[cJ (by omega)];simp) hs)
   refine next u v w' ρ' h₁ _ _ _ _ _ T'.le hv HR' T' ?_ ?_ M2
   ·simp
   intro j hj
   have hne:j≠i:=fun hh=>by subst hh;rw[hnot]at hj;cases hj
   simp[hne]
  rcases sw with ⟨v,h₁,hop,hR⟩|⟨f,args,hop,hcq⟩
  ·obtain⟨n,u,w',ρ',hrun,hn,hv,HR',T'⟩:=cO hrelA HR (by rw[hopA];exact hop)
   have:=go v h₁ u w' ρ' hR hv HR' T'
   refine⟨fun _ _=>trivial,?_⟩
   rw[Oper.semAt_eq _ _ _ (b9 hop),hrun]
   rcases hn with rfl|⟨rfl,rfl⟩ <;> exact this
  obtain⟨us,hus,hrun⟩:=cO hrelA HR (e:=by rw[hopA];exact hop)
  obtain⟨⟨fn,c,hf,hbd⟩,hcalls⟩:=hcq
  refine⟨fun _ _=>trivial,?_⟩
  rw[Oper.semAt_eq _ _ _ (b9 hop),hrun,er hg hf hbd]
  refine⟨fun hh=>(by cases hh),eY.2 ((hcalls ρ us w hus HR).mono ?_)⟩
  rintro en w₁ ⟨v,h₁,u,ρ₁,rfl,hR,hv,H₁,T₁⟩
  exact go v h₁ u w₁ ρ₁ hR hv H₁ T₁
theorem LQ.drawn2 {rd:Option Nat}(hg:noGo P=true)(hmix:P.follows .mixedOrders=true){id:Nat}{opsA:Array Oper}{ops:List Oper}{ms:List Nat}{sched:List (Nat×Bool)}{a:ah}{h:AW}{R:b8->ah->AW->Prop}
  (hl:opsA.toList=ops) (hm:d5 ops []=some ms) (hok:qD ops ms sched=true) (k:OD P ops ms (R .normal) sched [] a h):LQ rd P (.region id opsA true) a h R:=by
 subst hl
 intro n₀ ro ρ act w Q _ hr hd H hQ
 obtain⟨hO,hback⟩:=JP hm hok
 refine wpIn_region_any hmix ?_
 have hempty:∀ j,dB (Array.replicate opsA.size false) j=false:=fun j=>by
  unfold dB
  rw[Array.getD_eq_getD_getElem?,Array.getElem?_replicate]
  split <;> rfl
 have hw:({ w with drawn:=w.drawn+1 }:World).heap=w.heap:=rfl
 refine DR (ρ₀:=ρ) (h₀:=h) (w₀:=w) hg hm hO hback (ds:=act.defers) (fun a' h' ρ' act' w' k' b c d t=>hQ .normal a' h' ρ' act' w' k' b (by rw[c];exact hd.turn t) d t) opsA.size _ act _ ρ h [] sched [] a (fun _=>undef) (by simp) (fun i o hi=>by rw[hempty]at hi;cases hi)
  ⟨by simp,k,rfl,fun j o d ⟨b,hb⟩=>(by simp at hb),fun t _=>rfl,fun j b _=>by rw[hempty];simp,fun j b o hb=>by simp at hb⟩ (H.draw hw) (bE.draw hw rfl rfl rfl (bE.refl _ _ _)) ?_ rfl (fun j o d hj=>by rw[hempty]at hj;cases hj) ?_ ?_
 ·have:=hr.length;simpa using this.symm
 ·intro t x _ hx
  obtain⟨u,hu',hv⟩:=hr.get hx
  rw[Array.getElem?_toList]at hu'
  exact⟨u,hu',hv⟩
 exact Nat.le_trans (List.length_filter_le _ _) (by simp)
end
end Go.Am
namespace Go.Am
def dV:aG->Option (List Value)
 | .cells _ cs=>some cs
 | .ro cs=>some cs
 | _=>none
def jx:RL->Nat->Nat×aG->Option RL
 | [],_,_=>none
 | _::xs,0,x=>some (x::xs)
 | y::xs,n+1,x=>match jx xs n x with
  | some ys=>some (y::ys)
  | none=>none
theorem eN:∀ {L L':RL} {i:Nat} {x:Nat×aG},jx L i x=some L'->L'=L.set i x
 | [],_,_,_,h=>by simp[jx]at h
 | y::xs,L',0,x,h=>by simp[jx]at h;subst h;rfl
 | y::xs,L',n+1,x,h=>by
  simp only[jx]at h
  split at h
  ·rename_i ys e
   simp at h;subst h
   rw[eN e];rfl
  cases h
def iB:RL->Nat->Option RL
 | [],_=>none
 | _::xs,0=>some xs
 | y::xs,n+1=>match iB xs n with
  | some ys=>some (y::ys)
  | none=>none
theorem lD:∀ {L L':RL} {i:Nat},iB L i=some L'->L'=L.eraseIdx i
 | [],_,_,h=>by simp[iB]at h
 | y::xs,L',0,h=>by simp[iB]at h;subst h;rfl
 | y::xs,L',n+1,h=>by
  simp only[iB]at h
  split at h
  ·rename_i ys e
   simp at h;subst h
   rw[lD e];rfl
  cases h
def uq:RL->Nat->Option ((Nat×aG)×RL)
 | [],_=>none
 | x::xs,0=>some (x,xs)
 | y::xs,n+1=>match uq xs n with
  | some (x,ys)=>some (x,y::ys)
  | none=>none
theorem rF:∀ {L M:RL} {i:Nat} {x:Nat×aG},uq L i=some (x,M)->L.Perm (x::M)
 | [],_,_,_,h=>by simp[uq]at h
 | y::xs,M,0,x,h=>by simp[uq]at h;obtain⟨rfl,rfl⟩:=h;exact .refl _
 | y::xs,M,n+1,x,h=>by
  simp only[uq]at h
  split at h
  ·rename_i z ys e
   simp at h
   obtain⟨rfl,rfl⟩:=h
   exact ((rF e).cons y).trans (.swap ..)
  cases h
def rE:RL->List Nat->Option RL
 | L,[]=>some L
 | L,i::is=>match uq L i with
  | some (x,M)=>rE (x::M) is
  | none=>none
theorem p5:∀ {is:List Nat} {L M:RL},rE L is=some M->L.Perm M
 | [],L,M,h=>by simp[rE]at h;subst h;exact .refl _
 | i::is,L,M,h=>by
  simp only[rE]at h
  split at h
  ·rename_i x N e
   exact (rF e).trans (p5 h)
  cases h
variable{L M:RL}
theorem ar.pulls (is:List Nat)(h:rE L is=some M):ar M L:=⟨[],by simpa using p5 h⟩
theorem sU:∀ {L:RL} {i:Nat},i<L.length->∃ x,L.Perm (L.eraseIdx i++[x])
 | [],i,h=>by simp at h
 | x::xs,0,_=>⟨x,by simpa using List.perm_append_comm (l₁:=[x]) (l₂:=xs)⟩
 | x::xs,i+1,h=>by
  obtain⟨y,hy⟩:=sU (L:=xs) (i:=i) (by simpa using h)
  exact⟨y,by simpa using hy.cons x⟩
theorem ar.drop (i:Nat)(h:iB L i=some M):ar M L:=by
 have:=lD h
 subst this
 by_cases hi:i<L.length
 ·obtain⟨x,hx⟩:=sU hi;exact⟨[x],hx⟩
 exact⟨[],by simp[List.eraseIdx_of_length_le (Nat.le_of_not_lt hi)]⟩
section
variable{P:Program}{a a₁:ah}{o:Oper}{L L₁:RL}{h:AW}
variable{i r:Nat}
theorem bp.read {row:aG}{cs:List Value}(H:bp h L)(hL:L[i]?=some (r,row))(hc:dV row=some cs):ge h r=some cs:=by
 have:=H.at hL
 unfold ge
 cases row <;> simp only[dV,Option.some.injEq,reduceCtorEq]at hc <;> subst hc <;> rw[this]
variable{e:TypeId}{cs:List Value}
theorem bp.row (H:bp h L)(hL:L[i]?=some (r,.cells e cs)):bm h r=some (e,cs):=by
 unfold bm;rw[H.at hL]
theorem aA(i:Nat){t:TypeId}{x:Operand}{r off:Nat}{row:aG}{cs:List Value}{v:Value}(ho:o.op=.load t x)(hx:aX a x=some (.pointer (some ⟨r,off,none⟩)))(hL:L[i]?=some (r,row))(hc:dV row=some cs)(hv:bM P t cs off=some v) :
  ∀ h,bp h L->aI P a o h=some (.val v h):=by
 intro h H
 simp only[aI,ho,hx,mw,H.read hL hc,hv,ret]
variable{t:TypeId}
theorem bK {x i:Operand}{r off len cap sz j:Nat}{k:IntKind}(ho:o.op=.indexAddr t x i)(hx:aX a x=some (.slice (some ⟨r,off,none⟩) len cap))(hi:aX a i=some (.int k (j:Int)))(ht:P.underlying t=some (.slice e))(hs:aB P e=some sz)(hj:j<len) :
  ∀ h,aI P a o h=some (.val (.pointer (some ⟨r,off+j*sz,none⟩)) h):=by
 intro h
 have hb:F0 (j:Int) len=true:=qy.2 ⟨by omega,by omega⟩
 simp only[aI,ho,hx,hi,kg,ht,hb,hs,ret,Int.toNat_natCast]
theorem qC(i:Nat){t e:TypeId}{x:Operand}{lo hi:Option Operand}{lo' hi':Option Value}{r off len sz l u:Nat}{cs:List Value}(ho:o.op=.slice t x lo hi none)(hx:aX a x=some (.slice (some ⟨r,off,none⟩) len ae))
  (hlo:aY a lo=some lo') (hhi:aY a hi=some hi') (bl:aU lo' 0=some l) (bu:aU hi' len=some u) (ht:P.underlying t=some (.slice e)) (hs:aB P e=some sz) (hu:u<=len) (hl:l<=u) (hL:L[i]?=some (r,.cells e cs)) :
  ∀ h,bp h L->aI P a o h=some (.val (.slice (some ⟨r,off+l*sz,none⟩) (u-l) ae) h):=by
 intro h H
 have h1:Nat.ble u (dT len ae)=true:=Nat.ble_eq_true_of_le (by unfold dT;rw[bo rfl];exact hu)
 have h2:Nat.ble l u=true:=Nat.ble_eq_true_of_le hl
 have h3:cx h e (some ⟨r,off,none⟩) ae=true:=by
  unfold cx;rw[bo rfl];simp only[H.row hL,bo rfl]
 have hc:Nat.beq ae ae=true:=bo rfl
 have hm:aY a none=some none:=rfl
 simp only[aI,ho,hx,hlo,hhi,hm,cM,ht,bu,bl,hs,h1,h2,h3,Bool.true_and,dZ,hc,ret]
theorem aR {k:IntKind}{n d:Nat}:aU (some (.int k (n:Int))) d=some n:=by
 have:av 0 (n:Int)=true:=au.2 (by omega)
 simp only[aU,this,Int.toNat_natCast]
def ab(bs:List UInt8):List Value:=bs.map fun b=>.int .u8 b.toNat
theorem ao(bs:List UInt8):(ab bs).length=bs.length:=by simp[ab]
theorem dg(x y:List UInt8):ab (x++y)=ab x++ab y:=by simp[ab]
theorem iD:∀ (bs:List UInt8),eJ (ab bs)=some bs
 | []=>rfl
 | b::bs=>by
  have ih:=iD bs
  simp only[ab,List.map_cons,eJ]at ih ⊢
  rw[ih];simp
theorem iC:∀ (bs:List UInt8),gx bs=some (ab bs)
 | []=>rfl
 | b::bs=>by
  have ih:=iC bs
  simp only[ab,List.map_cons,gx]at ih ⊢
  rw[ih]
theorem xI:∀ {xs:List Value} {n:Nat},n<=xs.length->mn xs n=some (xs.take n)
 | xs,0,_=>by cases xs <;> rfl
 | [],n+1,h=>by simp at h
 | x::xs,n+1,h=>by simp only[mn,xI (xs:=xs) (n:=n) (by simpa using h)];rfl
theorem eV:∀ {xs:List Value} {off n:Nat},off+n<=xs.length->cut xs off n=some ((xs.drop off).take n)
 | xs,0,n,h=>by
  have:cut xs 0 n=mn xs n:=by cases xs <;> rfl
  rw[this,xI (by omega)];rfl
 | [],off+1,n,h=>by simp at h
 | x::xs,off+1,n,h=>by simp only[cut];rw[eV (by simp at h;omega)];rfl
variable{xs:List Value}{n:Nat}
theorem eQ (h:xs.length=n):cut xs 0 n=some xs:=by
 rw[eV (by omega)];simp[←h]
variable{bs:List UInt8}{off:Nat}
theorem jN (h:off+n<=bs.length):cut (ab bs) off n=some (ab ((bs.drop off).take n)):=by
 rw[eV (by simpa[ab] using h)]
 simp[ab,List.map_take,List.map_drop]
theorem gF {vs:List Value}:∀ {off:Nat},off+vs.length<=xs.length->kO xs off vs=some (xs.take off++(vs++xs.drop (off+vs.length))):=by
 have hover:∀ (vs xs:List Value),vs.length<=xs.length->wn xs vs=some (vs++xs.drop vs.length):=by
  intro vs
  induction vs with
  | nil=>intro xs _;cases xs <;> rfl
  | cons v vs ih =>
   intro xs h
   cases xs with
   | nil=>simp at h
   | cons x xs=>simp only[wn,ih xs (by simpa using h)];simp
 intro off
 induction xs generalizing off with
 | nil =>
  intro h
  simp at h
  obtain⟨rfl,hv⟩:=h
  subst hv;rfl
 | cons x xs ih =>
  intro h
  cases off with
  | zero =>
   simp only[kO]
   rw[hover vs (x::xs) (by simpa using h)];simp
  | succ off =>
   simp only[kO]
   rw[ih (by simp at h;omega)]
   simp[Nat.add_right_comm]
variable{v:Value}
theorem iZ (h:off<xs.length):kO xs off [v]=some (xs.set off v):=by
 rw[gF (by simp;omega)]
 congr 1
 apply List.ext_getElem?
 intro j
 rw[List.getElem?_set]
 have htl:(xs.take off).length=off:=by simp;omega
 by_cases h1:j<off
 ·rw[List.getElem?_append_left (by omega),List.getElem?_take,if_pos h1,if_neg (by omega)]
 by_cases h2:off=j
 ·subst h2
  rw[List.getElem?_append_right (by omega),htl,if_pos rfl,if_pos h];simp
 rw[List.getElem?_append_right (by omega),htl,if_neg h2]
 have:j-off=(j-off-1)+1:=by omega
 rw[this]
 simp
 congr 1;omega
variable{src dst:TypeId}
theorem IF {x:Operand}(ho:o.op=.convert src dst x)(hx:aX a x=some (.slice none 0 0))(hs:P.underlying src=some (.slice e))(hd:P.underlying dst=some .string)(hu:jo P e=true):∀ h,aI P a o h=some (.val (.string ⟨⟨[]⟩⟩) h):=by
 intro h
 simp only[aI,ho,hx,mB,hs,hd,hu,fx]
theorem ax(i:Nat){t:TypeId}{x y:Operand}{r off n:Nat}{e:TypeId}{cs cs':List Value}{v:Value}(ho:o.op=.store t x y)(hx:aX a x=some (.pointer (some ⟨r,off,none⟩)))(hy:aX a y=some v)(hL:L[i]?=some (r,.cells e cs))(hn:aB P t=some n)
  (hone:(Nat.beq v.cells.toList.length n&&aM v.cells.toList)=true) (hlay:kO cs off v.cells.toList=some cs') (hset:jx L i (r,.cells e cs')=some L₁):∀ h,bp h L->∃ h₁,aI P a o h=some (.val undef h₁)/\bp h₁ L₁:=by
 intro h H
 obtain⟨h₁,e₁⟩:=h.put_some r (some (.cells e cs'))
 have:=eN hset
 subst this
 exact⟨h₁,by simp only[aI,ho,hx,hy,vK,H.row hL,hn,hone,hlay,e₁],H.put hL e₁⟩
variable{el:TypeId}
theorem dG {mk:Nat->Value}(e:∀ h,aI P a o h=fG (cf P h el cs) mk)(hs:(aB P el).isSome=true):∀ h,bp h L->∃ r h₁,aI P a o h=some (.val (mk r) h₁)/\bp h₁ ((r,.cells el cs)::L):=by
 intro h H
 obtain⟨h₁,e₁⟩:=h.new_some (.cells el cs)
 refine⟨h.next,h₁,?_,H.new e₁⟩
 rw[e]
 unfold cf
 cases hsz:aB P el with
 | none=>rw[hsz]at hs;cases hs
 | some n=>simp only[e₁,fG]
def gj(zs:List Value)(n:Nat):List Value:=(List.replicate n zs).flatten
variable{zs:List Value}
theorem wb:∀ {n:Nat},rep zs n=some (gj zs n)
 | 0=>rfl
 | n+1=>by
  have hj:∀ (x y:List Value),join x y=some (x++y):=by
   intro x y
   induction x with
   | nil=>rfl
   | cons v x ih=>simp only[join,ih];rfl
  simp only[rep,wb (n:=n),hj]
  simp[gj,List.replicate_succ]
variable{α:Type}
theorem i4:∀ (x y:List α),join x y=some (x++y)
 | [],y=>rfl
 | v::x,y=>by simp only[join,i4 x y];rfl
theorem ri:(gj zs n).length=n*zs.length:=by simp[gj]
theorem k5 {z:Value}{n:Nat}:gj [z] n=List.replicate n z:=by
 induction n with
 | zero=>rfl
 | succ n ih=>simp only[gj,List.replicate_succ,List.flatten_cons]at ih ⊢;rw[ih];rfl
def p6(P:Program)(t:TypeId):Option (TypeId×Nat×Nat×List Value) :=
 match P.underlying t with
 | some (.slice e)=>match P.info? e,dU P e with
  | some i,some zs=>match Nat.beq zs.length i.size with
   | true=>some (e,i.size,i.bytes,zs)
   | false=>none
  | _,_=>none
 | _=>none
variable{sz:Nat}
theorem FH {by':Nat}{zs:List Value}(h:p6 P t=some (e,sz,by',zs)):P.underlying t=some (.slice e)/\(∃ i,P.info? e=some i/\i.size=sz/\i.bytes=by')/\dU P e=some zs/\zs.length=sz:=by
 unfold p6 at h
 split at h
 case h_2=>cases h
 rename_i e' he
 split at h
 case h_2=>cases h
 rename_i i zs' hi hz
 split at h
 case h_2=>cases h
 rename_i hb
 simp at h
 obtain⟨rfl,rfl,rfl,rfl⟩:=h
 exact⟨he,⟨i,hi,rfl,rfl⟩,hz,be hb⟩
theorem f6 {x y:Operand}{k1 k2:IntKind}{l c sz bts:Nat}{zs:List Value}(ho:o.op=.makeSlice t x y)(hx:aX a x=some (.int k1 (l:Int)))(hy:aX a y=some (.int k2 (c:Int)))(hT:p6 P t=some (e,sz,bts,zs))(hl:l<=c)(hc:c*bts<=1000000000000)(hc2:c<=1000000000000) :
  ∀ h,bp h L->∃ r h₁,aI P a o h=some (.val (.slice (some ⟨r,0,none⟩) l c) h₁)/\bp h₁ ((r,.cells e (gj zs c))::L):=by
 intro h H
 obtain⟨ht,⟨i,hi,hsz,hbt⟩,hz,hzl⟩:=FH hT
 obtain⟨h₁,e₁⟩:=h.new_some (.cells e (gj zs c))
 refine⟨h.next,h₁,?_,H.new e₁⟩
 have b1:av 0 (l:Int)=true:=au.2 (by omega)
 have b2:av (l:Int) (c:Int)=true:=au.2 (by omega)
 have b3:dN c i.bytes=true:=by unfold dN;exact Nat.ble_eq_true_of_le (by rw[hbt];exact hc)
 have b4:Nat.beq zs.length i.size=true:=bo (by rw[hzl,hsz])
 have b5:Nat.ble c 1000000000000=true:=Nat.ble_eq_true_of_le hc2
 have hs:aB P e=some i.size:=by unfold aB;rw[hi]
 simp only[aI,ho,hx,hy,j8,ht,hi,hz,b1,b2,Int.toNat_natCast,b3,b4,b5,Bool.and_self,wb,cf,hs,e₁,fG]
def m7(P:Program)(c:Call):Option (TypeId×Nat×Nat) :=
 match c.callee with
 | .builtin .append=>match c.argTypes[0]?,c.argTypes[1]? with
  | some st,some xt=>match P.underlying st,P.underlying xt with
   | some (.slice e),some xd=>match xd with
    | .int _=>none
    | _=>match P.info? e,gg P e with
     | some i,true=>some (e,i.size,i.bytes)
     | _,_=>none
   | _,_=>none
  | _,_=>none
 | _=>none
theorem ot {c:Call}{e:TypeId}{sz bts len cap n:Nat}{base:Option Addr}{x:Value}{new old:List Value}{h h₀:AW}(ho:o.op=.call c)(hT:m7 P c=some (e,sz,bts))(ha:ky a c.args.toList=some [.slice base len cap,x])(hn:lenB x=some n)(hf:b6 sz n x h=some new)
  (hone:(aM new&&(notText x||Nat.beq sz 1))=true) (hsm:(len+n)*bts<=1000000000000) (hsm2:len+n<=1000000000000)
  (hcase:(cap=ae/\∃ r off cs,base=some ⟨r,off,none⟩/\bm h r=some (e,cs)/\cut cs off (len*sz)=some old/\h.put r none=some h₀)∨(cap=0/\len=0/\base=none/\0<n/\old=[]/\h₀=h)) :
  ∃ h₁,aI P a o h=some (.val (.slice (some ⟨h₀.next,0,none⟩) (len+n) ae) h₁)/\h₀.new (.cells e (old++new))=some (h₀.next,h₁):=by
 unfold m7 at hT
 split at hT
 case h_2=>cases hT
 rename_i hcal
 split at hT
 case h_2=>cases hT
 rename_i st xt hst hxt
 split at hT
 case h_2=>cases hT
 rename_i e' xd hu1 hu2
 have hxd:(∀ k,xd=.int k->False)/\∃ i,P.info? e'=some i/\gg P e'=true/\e'=e/\i.size=sz/\i.bytes=bts:=by
  split at hT
  ·cases hT
  rename_i hno
  split at hT
  case h_2=>cases hT
  rename_i i hi hz
  simp at hT
  obtain⟨rfl,rfl,rfl⟩:=hT
  exact⟨fun k hk=>hno k hk,i,hi,hz,rfl,rfl,rfl⟩
 obtain⟨hno,i,hi,hz,rfl,rfl,rfl⟩:=hxd
 obtain⟨h₁,e₁⟩:=h₀.new_some (.cells e' (old++new))
 refine⟨h₁,?_,e₁⟩
 have hs:aB P e'=some i.size:=by unfold aB;rw[hi]
 have b2:Nat.ble (len+n) 1000000000000=true:=Nat.ble_eq_true_of_le hsm2
 have hgrow:gQ P h₀ e' (len+n) old new=some (.slice (some ⟨h₀.next,0,none⟩) (len+n) ae,h₁):=by
  simp only[gQ,i4,hz,b2,Bool.and_self,cf,hs,e₁]
 simp only[aI,ho,ha,bB,hcal,fM,hst,hxt,hu1,hu2]
 cases xd <;> first|exact (hno _ rfl).elim|skip
 all_goals
  simp only[hi,hn,hf,hone]
  rcases hcase with ⟨rfl,r,off,cs,rfl,hrow,hcut,hput⟩|⟨rfl,rfl,rfl,hpos,rfl,rfl⟩
  ·have hc:Nat.beq ae ae=true:=bo rfl
   have b1:dN (len+n) i.bytes=true:=by unfold dN;exact Nat.ble_eq_true_of_le hsm
   simp only[hc,hrow,b1,bo rfl,hcut,hput,hgrow,fx]
  have hc:Nat.beq 0 ae=false:=aK (by decide)
  have b0:Nat.ble (0+n) 0=false:=by
   cases hb:Nat.ble (0+n) 0 with
   | false=>rfl
   | true=>have:=bk hb;omega
  have b1:dN (0+n+0) i.bytes=true:=by unfold dN;exact Nat.ble_eq_true_of_le (by simpa using hsm)
  have bf:b6 i.size 0 (.slice none 0 0) h₀=some []:=by simp[b6]
  simp only[hc,b0,bf,b1,hgrow,fx]
theorem zv(i:Nat){c:Call}{e:TypeId}{sz bts len n r off:Nat}{x:Value}{new old cs:List Value}(ho:o.op=.call c)(hT:m7 P c=some (e,sz,bts))(ha:ky a c.args.toList=some [.slice (some ⟨r,off,none⟩) len ae,x])(hn:lenB x=some n)
  (hf:∀ h,bp h L->b6 sz n x h=some new) (hone:(aM new&&(notText x||Nat.beq sz 1))=true) (hsm:(len+n)*bts<=1000000000000) (hsm2:len+n<=1000000000000)
  (hL:L[i]?=some (r,.cells e cs)) (hcut:cut cs off (len*sz)=some old) (hd:iB L i=some L₁):∀ h,bp h L->∃ r' h₁,aI P a o h=some (.val (.slice (some ⟨r',0,none⟩) (len+n) ae) h₁)/\bp h₁ ((r',.cells e (old++new))::L₁):=by
 intro h H
 obtain⟨h₀,e₀⟩:=h.put_some r none
 obtain⟨h₁,e₁,e₂⟩:=ot ho hT ha hn (hf h H) hone hsm hsm2 (.inl ⟨rfl,r,off,cs,rfl,H.row hL,hcut,e₀⟩)
 have:=lD hd
 subst this
 exact⟨h₀.next,h₁,e₁,(H.drop hL e₀).new e₂⟩
theorem DO {c:Call}{e:TypeId}{sz bts n:Nat}{x:Value}{new:List Value}(ho:o.op=.call c)(hT:m7 P c=some (e,sz,bts))(ha:ky a c.args.toList=some [.slice none 0 0,x])(hn:lenB x=some n)
  (hf:∀ h,bp h L->b6 sz n x h=some new) (hone:(aM new&&(notText x||Nat.beq sz 1))=true) (hsm:n*bts<=1000000000000) (hsm2:n<=1000000000000) (hpos:0<n) :
  ∀ h,bp h L->∃ r' h₁,aI P a o h=some (.val (.slice (some ⟨r',0,none⟩) n ae) h₁)/\bp h₁ ((r',.cells e new)::L):=by
 intro h H
 obtain⟨h₁,e₁,e₂⟩:=ot (h₀:=h) (old:=[]) ho hT ha hn (hf h H) hone (by simpa using hsm) (by simpa using hsm2) (.inr ⟨rfl,rfl,rfl,hpos,rfl,rfl⟩)
 exact⟨h.next,h₁,by simpa using e₁,H.new e₂⟩
theorem sO (hn:n=bs.length):∀ h,bp h L->b6 sz n (.string ⟨⟨bs⟩⟩) h=some (ab bs):=by
 intro h _
 subst hn
 simp only[b6,ny,bo rfl,iC]
variable{ops rest:List Oper}{K:ah->RL->Prop}
theorem OS.opened (d i:Nat){r off len cap sz:Nat}{e:TypeId}{cs:List Value}(hd:a[d]?=some (.slice (some ⟨r,off,none⟩) len cap))(hL:L[i]?=some (r,.cells e cs))(hs:aB P e=some sz)(hb:off+cap*sz<=cs.length)(hlt:cap<ae)
  (ep:kE a d (.slice (some ⟨r,off,none⟩) len ae)=some a₁) (k:OS P ops rest a₁ L K):OS P ops rest a L K:=by
 intro h H ro ds opsA i' ρ act w Q ho hdr hr hdf HR hQ
 refine k h H ro ds opsA i' ρ act w Q ho hdr ?_ hdf HR hQ
 obtain⟨u,hu,hv⟩:=hr.get hd
 have hl:∃ l,ρ r=some l/\kB P ρ w l (.cells e cs):=HR.loc _ _ (H.at hL)
 obtain⟨l,hl,C,f,h1,h2,h3,h4,h5,_⟩:=hl
 have hesz:l.esz=sz:=by have h5:=h5.size;rw[hs]at h5;simpa using h5.symm
 have hv':ay ρ (.slice (some ⟨r,off,none⟩) len ae) u:=by
  cases hv with
  | @slice _ _ _ _ cap' ad hl' hc' ha' =>
   have hcc:=hc' (by omega)
   refine .slice hl' (fun hh=>absurd rfl hh) fun hz=>?_
   obtain⟨l',e1,e2,_⟩:=ha' hz
   rw[hl]at e1;simp at e1;subst e1
   exact⟨l,hl,e2,fun _=>⟨by rw[hesz,hcc];omega,by rw[hcc];exact hlt⟩⟩
 have:=lN ep hr hv'
 have hset:act.tmps.toList.set d u=act.tmps.toList:=by
  apply List.ext_getElem?
  intro j
  rw[List.getElem?_set]
  by_cases hj:d=j
  ·subst hj;rw[if_pos rfl,if_pos (List.getElem?_eq_some_iff.1 hu).1,hu]
  rw[if_neg hj]
 rwa [hset]at this
end
section
variable{P:Program}{ops:List Oper}{ms:List Nat}{K:ah->RL->Prop}{sched:List (Nat×Bool)}{dn:Dn}{a a₁:ah}{L L₁:RL}{o:Oper}{v:Value}{i:Nat}
def xm(P:Program)(ops:List Oper)(e:Nat×ah×Value):Prop:=∀ p,ops[e.1]?=some p->∀ h,fu P e.2.1 p h e.2.2
def ba(P:Program)(ops:List Oper)(ms:List Nat)(K:ah->RL->Prop)(sched:List (Nat×Bool))(dn:Dn)(a:ah)(L:RL):Prop :=
 ∀ h,bp h L->∀ dn₀:Dn,(∀ e,e∈dn₀->e∈dn∨xm P ops e)->OD P ops ms (fun a' h'=>∃ L',K a' L'/\bp h' L') sched dn₀ a h
def ai(P:Program)(ops:List Oper)(ms:List Nat)(i:Nat)(dn:Dn)(L:RL):Prop :=
 ∀ h,bp h L->∀ e,e∈dn->ahead ms i e.1=false->∀ p,ops[e.1]?=some p->fu P e.2.1 p h e.2.2
theorem ai.nil:ai P ops ms i [] L:=fun _ _ _ he=>(by cases he)
theorem ai.gone {j:Nat}{b:ah}{u:Value}(hj:ahead ms i j=true)(k:ai P ops ms i dn L):ai P ops ms i ((j,b,u)::dn) L:=fun h H e he hah p hp=>by
 rcases List.mem_cons.1 he with rfl|he
 ·simp only at hah;rw[hj]at hah;cases hah
 exact k h H e he hah p hp
theorem ai.cons {j:Nat}{b:ah}{u:Value}{q:Oper}(hj:ops[j]?=some q)(e:∀ h,bp h L->aI P b q h=some (.val u h))(k:ai P ops ms i dn L):ai P ops ms i ((j,b,u)::dn) L:=fun h H e' he hah p hp=>by
 rcases List.mem_cons.1 he with rfl|he
 ·simp only at hp;rw[hj]at hp;simp at hp;subst hp;exact .inl (e h H)
 exact k h H e' he hah p hp
theorem xM(k:K a L):ba P ops ms K [] dn a L:=fun h H dn₀ _=>by simp only[OD];exact⟨L,k,H⟩
theorem xS {wr:Bool}(hi:ops[i]?=some o)(hw:kU ops o a=true)(ep:aH a o.dst undef=some a₁)(k:ba P ops ms K sched dn a₁ L):ba P ops ms K ((i,wr)::sched) dn a L:=fun h H dn₀ hdn=>by
 simp only[OD]
 exact⟨o,hi,.inl ⟨hw,a₁,ep,k h H dn₀ hdn⟩⟩
theorem xD(hi:ops[i]?=some o)(hw:aw ops o a=true)(e:∀ h,aI P a o h=some (.val v h))(ep:aH a o.dst v=some a₁)(k:ba P ops ms K sched dn a₁ L):ba P ops ms K ((i,false)::sched) dn a L:=fun h H dn₀ hdn=>by
 simp only[OD]
 refine⟨o,hi,.inr (.inl ⟨hw,by simp,v,a₁,.inl (e h),ep,k h H _ fun e' he=>?_⟩)⟩
 rcases List.mem_cons.1 he with rfl|he
 ·exact .inr fun p hp h'=>by simp only at hp;rw[hi]at hp;simp at hp;subst hp;exact .inl (e h')
 exact hdn e' he
variable{f:FuncId}{args:List Value}
theorem ba.still (hi:ops[i]?=some o)(hw:aw ops o a=true)(e:∀ h,aI P a o h=some (.call f args))(hc:∀ h,CQ P f args h fun v' h'=>v'=v/\h'=h)(ep:aH a o.dst v=some a₁)(k:ba P ops ms K sched dn a₁ L):ba P ops ms K ((i,false)::sched) dn a L:=fun h H dn₀ hdn=>by
 simp only[OD]
 refine⟨o,hi,.inr (.inl ⟨hw,by simp,v,a₁,.inr (.inl ⟨f,args,e h,hc h⟩),ep,k h H _ fun e' he=>?_⟩)⟩
 rcases List.mem_cons.1 he with rfl|he
 ·exact .inr fun p hp h'=>by simp only at hp;rw[hi]at hp;simp at hp;subst hp;exact .inr (.inl ⟨f,args,e h',hc h'⟩)
 exact hdn e' he
theorem xE(hi:ops[i]?=some o)(hw:aw ops o a=true)(e:∀ h,bp h L->aI P a o h=some (.val v h))(ep:aH a o.dst v=some a₁)(k:ba P ops ms K sched ((i,a,v)::dn) a₁ L):ba P ops ms K ((i,false)::sched) dn a L:=fun h H dn₀ hdn=>by
 simp only[OD]
 refine⟨o,hi,.inr (.inl ⟨hw,by simp,v,a₁,.inl (e h H),ep,k h H _ fun e' he=>?_⟩)⟩
 rcases List.mem_cons.1 he with rfl|he
 ·exact .inl (by simp)
 exact (hdn e' he).imp (fun h=>List.mem_cons_of_mem _ h) id
theorem mP {dn₀:Dn}{h:AW}(hdn:∀ e,e∈dn₀->e∈dn∨xm P ops e)(hk:ai P ops ms i dn L)(H:bp h L):∀ e,e∈dn₀->ahead ms i e.1=false->∀ p,ops[e.1]?=some p->fu P e.2.1 p h e.2.2:=fun e he hah p hp=>by
 rcases hdn e he with he|he
 ·exact hk h H e he hah p hp
 exact he p hp h
theorem ba.write(hi:ops[i]?=some o)(hw:aw ops o a=true)(e:∀ h,bp h L->∃ h₁,aI P a o h=some (.val v h₁)/\bp h₁ L₁)(ep:aH a o.dst v=some a₁)(hk:ai P ops ms i dn L₁)(k:ba P ops ms K sched dn a₁ L₁):ba P ops ms K ((i,true)::sched) dn a L:=fun h H dn₀ hdn=>by
 simp only[OD]
 obtain⟨h₁,e₁,H₁⟩:=e h H
 exact⟨o,hi,.inr (.inr ⟨hw,by simp,.inl ⟨v,h₁,e₁,a₁,ep,mP hdn hk H₁,k h₁ H₁ dn₀ hdn⟩⟩)⟩
theorem ba.fresh {V:Nat->Value}{A:Nat->ah}{M:Nat->RL}(hi:ops[i]?=some o)(hw:aw ops o a=true)(e:∀ h,bp h L->∃ r h₁,aI P a o h=some (.val (V r) h₁)/\bp h₁ (M r))(ep:∀ r,aH a o.dst (V r)=some (A r))(hk:∀ r,ai P ops ms i dn (M r))(k:∀ r,ba P ops ms K sched dn (A r) (M r)):ba P ops ms K ((i,true)::sched) dn a L:=fun h H dn₀ hdn=>by
 simp only[OD]
 obtain⟨r,h₁,e₁,H₁⟩:=e h H
 exact⟨o,hi,.inr (.inr ⟨hw,by simp,.inl ⟨_,h₁,e₁,A r,ep r,mP hdn (hk r) H₁,k r h₁ H₁ dn₀ hdn⟩⟩)⟩
variable{R:Value->RL->Prop}
theorem ba.turns (hi:ops[i]?=some o)(hw:aw ops o a=true)(e:∀ h,bp h L->∃ v h₁ L₁,aI P a o h=some (.val v h₁)/\bp h₁ L₁/\R v L₁)(k:∀ v L₁,R v L₁->∃ a₁,aH a o.dst v=some a₁/\ai P ops ms i dn L₁/\ba P ops ms K sched dn a₁ L₁):ba P ops ms K ((i,true)::sched) dn a L:=fun h H dn₀ hdn=>by
 simp only[OD]
 obtain⟨v,h₁,L₁,e₁,H₁,hR⟩:=e h H
 obtain⟨a₁,ep,hk,k⟩:=k v L₁ hR
 exact⟨o,hi,.inr (.inr ⟨hw,by simp,.inl ⟨_,h₁,e₁,a₁,ep,mP hdn hk H₁,k h₁ H₁ dn₀ hdn⟩⟩)⟩
theorem ba.call (hi:ops[i]?=some o)(hw:aw ops o a=true)(e:∀ h,aI P a o h=some (.call f args))(hc:CS P f args L fun v L₁=>∃ a₁,aH a o.dst v=some a₁/\ai P ops ms i dn L₁/\ba P ops ms K sched dn a₁ L₁):ba P ops ms K ((i,true)::sched) dn a L:=fun h H dn₀ hdn=>by
 simp only[OD]
 refine⟨o,hi,.inr (.inr ⟨hw,by simp,.inr ⟨f,args,e h,(hc h H).mono ?_⟩⟩)⟩
 rintro v h₁ ⟨L₁,⟨a₁,ep,hk,k⟩,H₁⟩
 exact⟨a₁,ep,mP hdn hk H₁,k h₁ H₁ dn₀ hdn⟩
theorem LS.drawn {rd:Option Nat}(hg:noGo P=true)(hmix:P.follows .mixedOrders=true){id:Nat}{opsA:Array Oper}{R:b8->ah->RL->Prop}(sched:List (Nat×Bool))(hl:opsA.toList=ops)(hm:d5 ops []=some ms)(hok:qD ops ms sched=true)(k:ba P ops ms (R .normal) sched [] a L):jV rd P (.region id opsA true) a L R :=
 fun h H=>LQ.drawn2 hg hmix hl hm hok (k h H [] fun _ he=>(by cases he))
end
section
variable{P:Program}{a:ah}{o:Oper}
def qx(k:IntKind)(n:Int):Bool:=av (po k) n&&av n (gN k)
theorem dP {k:IntKind}{n:Int}(h:qx k n=true):eG k n=n:=by
 unfold eG;unfold qx at h;rw[h]
theorem ak {n:Int}(h0:-9223372036854775808<=n)(h1:n<=9223372036854775807):qx .i64 n=true:=by
 unfold qx
 rw[Bool.and_eq_true,au,au]
 exact⟨h0,h1⟩
theorem wrap_u64(n:Int):IntKind.u64.wrap n=n%18446744073709551616:=by simp[IntKind.wrap,IntKind.bits,IntKind.signed]
theorem eT {n:Int}(h0:0<=n)(h1:n<=18446744073709551615):qx .u64 n=true:=by
 unfold qx
 rw[Bool.and_eq_true,au,au]
 exact⟨h0,h1⟩
theorem sC {n:Int}(h0:0<=n)(h1:n<=255):qx .u8 n=true:=by
 unfold qx
 rw[Bool.and_eq_true,au,au]
 exact⟨h0,h1⟩
theorem cg {x y:Int}(h:(!av y x)=true):x<y:=by
 have:¬ y<=x:=fun hh=>by rw[au.2 hh]at h;cases h
 omega
theorem bz {x y:Int}(h:(!av y x)=false):y<=x:=by
 cases hb:av y x with
 | true=>exact au.1 hb
 | false=>rw[hb]at h;cases h
theorem KW {x y:Int}(h:av x y=true):x<=y:=au.1 h
theorem JS {x y:Int}(h:av x y=false):y<x:=by
 have:¬ x<=y:=fun hh=>by rw[au.2 hh]at h;cases h
 omega
end
end Go.Am
namespace Go.Am
def SV(sz:Nat)(L:RL)(v:Value)(n:Nat)(cs:List Value):Prop :=
 (v=.slice none 0 0/\n=0/\cs=[])∨∃ r off cap row cs₀,v=.slice (some ⟨r,off,none⟩) n cap/\(r,row)∈L/\dV row=some cs₀/\cut cs₀ off (n*sz)=some cs
variable{sz n:Nat}{L L':RL}{v:Value}{cs:List Value}
theorem SV.mono (h:SV sz L v n cs)(hm:∀ p,p∈L->p∈L'):SV sz L' v n cs:=by
 rcases h with h|⟨r,off,cap,row,cs₀,h1,h2,h3⟩
 ·exact .inl h
 exact .inr ⟨r,off,cap,row,cs₀,h1,hm _ h2,h3⟩
theorem SV.cons {x:Nat×aG}{v:Value}{cs:List Value}(h:SV sz L v n cs):SV sz (x::L) v n cs:=h.mono fun _ hp=>List.mem_cons_of_mem _ hp
variable{r cap:Nat}{e:TypeId}
theorem SV.row (hm:(r,.cells e cs)∈L)(hl:cs.length=n*sz):SV sz L (.slice (some ⟨r,0,none⟩) n cap) n cs :=
 .inr ⟨r,0,cap,_,cs,rfl,hm,rfl,eQ hl⟩
theorem SV.len (h:SV sz L v n cs):cs.length=n*sz:=by
 rcases h with ⟨_,rfl,rfl⟩|⟨r,off,cap,row,cs₀,_,_,_,hc⟩
 ·simp
 exact (c9 hc).2.2.1
theorem bp.mem {h:AW}{L:RL}{r:Nat}{row:aG}{cs:List Value}(H:bp h L)(hm:(r,row)∈L)(hc:dV row=some cs):ge h r=some cs:=by
 have:=H.get _ hm
 unfold ge
 cases row <;> simp only[dV,Option.some.injEq,reduceCtorEq]at hc <;> subst hc <;> rw[this]
theorem SV.lenB (h:SV sz L v n cs):Am.lenB v=some n:=by
 rcases h with ⟨rfl,rfl,_⟩|⟨r,off,cap,row,cs₀,rfl,_⟩ <;> rfl
theorem SV.notText (h:SV sz L v n cs):Am.notText v=true:=by
 rcases h with ⟨rfl,rfl,_⟩|⟨r,off,cap,row,cs₀,rfl,_⟩ <;> rfl
theorem SV.first {h:AW}(hs:SV sz L v n cs)(H:bp h L):b6 sz n v h=some cs:=by
 rcases hs with ⟨rfl,rfl,rfl⟩|⟨r,off,cap,row,cs₀,rfl,hm,hc,hcut⟩
 ·rfl
 simp only[b6]
 cases hb:Nat.beq n 0 with
 | true =>
  have:=be hb
  subst this
  have:cs=[]:=by have:=(c9 hcut).2.2.1;exact List.eq_nil_of_length_eq_zero (by simpa using this)
  subst this;rfl
 | false=>simp only[H.mem hm hc,hcut]
variable{xs ys:List Value}{off:Nat}
theorem IM {j:Nat}{v:Value}(h:cut xs off n=some ys)(hj:ys[j]?=some v):xs[off+j]?=some v:=by
 obtain⟨rfl,_,_,_⟩:=c9 h
 rw[List.getElem?_take]at hj
 split at hj
 ·simpa using hj
 cases hj
variable{zs:List Value}
theorem kz {o m:Nat}(h:cut xs off n=some ys)(h':cut ys o m=some zs):cut xs (off+o) m=some zs:=by
 obtain⟨rfl,h1,h2,h3⟩:=c9 h
 obtain⟨rfl,h1',h2',h3'⟩:=c9 h'
 simp only[List.length_take,List.length_drop]at h2 h2' h1' h3'
 have hl:off+o+m<=xs.length:=by omega
 have hm:m<=n-o:=by omega
 rw[eV hl,List.drop_take,List.take_take,List.drop_drop,Nat.min_eq_left hm]
theorem zz:cut xs 0 0=some []:=by cases xs <;> rfl
theorem bX(bs:List UInt8):aM (ab bs)=true:=by
 induction bs with
 | nil=>rfl
 | cons b bs ih=>simpa[ab,aM,rM] using ih
variable{bs:List UInt8}
theorem mC {j:Nat}{b:UInt8}(h:bs[j]?=some b):(ab bs)[j]?=some (.int .u8 (b.toNat:Int)):=by simp[ab,h]
theorem lF(bs:List UInt8){x:Int}{b:UInt8}(h:x=(b.toNat:Int)):ab bs++[.int .u8 x]=ab (bs++[b]):=by
 subst h;simp[ab]
section
variable{P:Program}{a a₁:ah}{o:Oper}{L L₁:RL}{t z:TypeId}{x y:Operand}{k:IntKind}{m n:Int}
theorem a8(ho:o.op=.binOp .add t x y z)(hx:aX a x=some (.int k m))(hy:aX a y=some (.int k n))(hi:qx k (m+n)=true):∀ h,aI P a o h=some (.val (.int k (m+n)) h):=by
 intro h
 simp only[aI,ho,hx,hy,fN,iH,if_true,dP hi,ret]
theorem dQ(ho:o.op=.binOp .sub t x y z)(hx:aX a x=some (.int k m))(hy:aX a y=some (.int k n))(hi:qx k (m-n)=true):∀ h,aI P a o h=some (.val (.int k (m-n)) h):=by
 intro h
 simp only[aI,ho,hx,hy,fN,iH,if_true,dP hi,ret]
theorem qa(ho:o.op=.binOp .mul t x y z)(hx:aX a x=some (.int k m))(hy:aX a y=some (.int k n))(hi:qx k (m*n)=true):∀ h,aI P a o h=some (.val (.int k (m*n)) h):=by
 intro h
 simp only[aI,ho,hx,hy,fN,iH,if_true,dP hi,ret]
theorem u7 {m n:Nat}(ho:o.op=.binOp .quo t x y z)(hx:aX a x=some (.int k (m:Int)))(hy:aX a y=some (.int k (n:Int)))(hn:n≠0)(hi:qx k ((m/n:Nat):Int)=true):∀ h,aI P a o h=some (.val (.int k ((m/n:Nat):Int)) h):=by
 intro h
 have h0:bc (n:Int) 0=false:=by rw[aC];simpa using hn
 have h1:(m:Int).tdiv (n:Int)=((m/n:Nat):Int):=by rw[Int.tdiv_eq_ediv_of_nonneg (by omega)];rfl
 simp only[aI,ho,hx,hy,fN,iH,if_true,h0,h1,dP hi,ret]
theorem u6 {m n:Nat}(ho:o.op=.binOp .rem t x y z)(hx:aX a x=some (.int k (m:Int)))(hy:aX a y=some (.int k (n:Int)))(hn:n≠0):∀ h,aI P a o h=some (.val (.int k ((m%n:Nat):Int)) h):=by
 intro h
 have h0:bc (n:Int) 0=false:=by rw[aC];simpa using hn
 have h1:(m:Int).tmod (n:Int)=((m%n:Nat):Int):=by rw[Int.tmod_eq_emod_of_nonneg (by omega)];rfl
 simp only[aI,ho,hx,hy,fN,iH,if_true,h0,h1,ret]
variable{src dst:TypeId}{k':IntKind}
theorem c8 (ho:o.op=.convert src dst x)(hx:aX a x=some (.int k n))(hs:P.underlying src=some (.int k))(hd:P.underlying dst=some (.int k'))(hi:qx k' n=true):∀ h,aI P a o h=some (.val (.int k' n) h):=by
 intro h
 simp only[aI,ho,hx,mB,hs,hd,dP hi,fx]
variable{v':Value}
theorem cW (e:∀ h,aI P a o h=some (.val v h))(hv:v=v'):∀ h,aI P a o h=some (.val v' h):=hv▸e
theorem iz (e:∀ h,bp h L->aI P a o h=some (.val v h))(hv:v=v'):∀ h,bp h L->aI P a o h=some (.val v' h):=hv▸e
theorem az {c:Call}{sz n:Nat}{v:Value}{cs:List Value}{t e:TypeId}(hs:SV sz L v n cs)(ho:o.op=.call c)(hc:c.callee=.builtin .len)(ha:ky a c.args.toList=some [v])(ht:c.argTypes[0]?=some t)(hu:P.underlying t=some (.slice e)):∀ h,aI P a o h=some (.val (.int .i64 n) h):=by
 intro h
 rcases hs with ⟨rfl,rfl,rfl⟩|⟨r,off,cap,row,cs₀,rfl,_⟩ <;> simp only[aI,ho,ha,bB,hc,sc,ht,hu,ret,goInt] <;> rfl
theorem Kj {i:Operand}{sz n j:Nat}{k:IntKind}{v:Value}{cs:List Value}(hs:SV sz L v n cs)(hj:j<n)(ho:o.op=.indexAddr t x i)(hx:aX a x=some v)(hi:aX a i=some (.int k (j:Int)))(ht:P.underlying t=some (.slice e))(hz:aB P e=some sz) :
  ∃ r off row cs₀,(r,row)∈L/\dV row=some cs₀/\(∀ m u,m<sz->cs[j*sz+m]?=some u->cs₀[off+m]?=some u)/\(∀ us,cut cs (j*sz) sz=some us->cut cs₀ off sz=some us)/\∀ h,aI P a o h=some (.val (.pointer (some ⟨r,off,none⟩)) h):=by
 rcases hs with ⟨rfl,rfl,rfl⟩|⟨r,off,cap,row,cs₀,rfl,hm,hc,hcut⟩
 ·omega
 refine⟨r,off+j*sz,row,cs₀,hm,hc,fun m u _ hu=>?_,fun us hu=>?_,bK ho hx hi ht hz hj⟩
 ·have:=IM hcut hu
  rwa [Nat.add_assoc]
 exact kz hcut hu
theorem aa {row:aG}{cs:List Value}{v:Value}(hm:(r,row)∈L)(hc:dV row=some cs)(ho:o.op=.load t x)(hx:aX a x=some (.pointer (some ⟨r,off,none⟩)))(hv:bM P t cs off=some v):∀ h,bp h L->aI P a o h=some (.val v h):=by
 intro h H
 simp only[aI,ho,hx,mw,H.mem hm hc,hv,ret]
theorem ap (ht:py P t=some false)(hv:cs[off]?=some v):bM P t cs off=some v:=by unfold bM;rw[ht];exact hv
theorem dW {vs:List Value}{off n:Nat}(ht:py P t=some true)(hs:aB P t=some n)(hv:cut cs off n=some vs):bM P t cs off=some (.agg ⟨vs⟩):=by unfold bM;rw[ht];simp only[hs,hv]
theorem jK {n:Nat}{v:Value}{bs:List UInt8}(hs:SV 1 L v n (ab bs))(ho:o.op=.convert src dst x)(hx:aX a x=some v)(h1:P.underlying src=some (.slice e))(h2:P.underlying dst=some .string)(hu:jo P e=true):∀ h,bp h L->aI P a o h=some (.val (.string ⟨⟨bs⟩⟩) h):=by
 intro h H
 rcases hs with ⟨rfl,rfl,hb⟩|⟨r,off,cap,row,cs₀,rfl,hm,hc,hcut⟩
 ·have:bs=[]:=by simpa[ab] using hb
  subst this
  exact IF ho hx h1 h2 hu h
 simp only[aI,ho,hx,mB,h1,h2,hu]
 cases hl:Nat.beq n 0 with
 | true =>
  have:=be hl
  subst this
  have:bs=[]:=by
   have:=(c9 hcut).2.2.1
   simp[ab]at this
   exact this
  subst this;rfl
 | false =>
  rw[Nat.mul_one]at hcut
  simp only[H.mem hm hc,hcut,iD,fx]
theorem d7(i:Nat){c:Call}{e:TypeId}{sz bts len n r off:Nat}{x:Value}{new old cs:List Value}(hs:SV sz L x n new)(hone:aM new=true)(ho:o.op=.call c)(hT:m7 P c=some (e,sz,bts))(ha:ky a c.args.toList=some [.slice (some ⟨r,off,none⟩) len ae,x])
  (hsm:(len+n)*bts<=1000000000000) (hsm2:len+n<=1000000000000) (hL:L[i]?=some (r,.cells e cs)) (hcut:cut cs off (len*sz)=some old) (hd:iB L i=some L₁) :
  ∀ h,bp h L->∃ r' h₁,aI P a o h=some (.val (.slice (some ⟨r',0,none⟩) (len+n) ae) h₁)/\bp h₁ ((r',.cells e (old++new))::L₁) :=
 zv i ho hT ha hs.lenB (fun h H=>hs.first H) (by rw[hone,hs.notText];rfl) hsm hsm2 hL hcut hd
def GV(e:TypeId)(sz:Nat)(F:RL)(v:Value)(n:Nat)(cs:List Value)(L:RL):Prop :=
 (v=.slice none 0 0/\n=0/\cs=[]/\L=F)∨∃ r,v=.slice (some ⟨r,0,none⟩) n ae/\cs.length=n*sz/\L=(r,.cells e cs)::F
variable{F:RL}
theorem GV.nil:GV e sz F (.slice none 0 0) 0 [] F:=.inl ⟨rfl,rfl,rfl,rfl⟩
theorem GV.of {n:Nat}{F:RL}{cs:List Value}(h:cs.length=n*sz):GV e sz F (.slice (some ⟨r,0,none⟩) n ae) n cs ((r,.cells e cs)::F):=.inr ⟨r,rfl,h,rfl⟩
theorem GV.sv {n:Nat}{F L:RL}{v:Value}{cs:List Value}(g:GV e sz F v n cs L):SV sz L v n cs:=by
 rcases g with ⟨rfl,rfl,rfl,rfl⟩|⟨r,rfl,hl,rfl⟩
 ·exact .inl ⟨rfl,rfl,rfl⟩
 exact SV.row (e:=e) (by simp) hl
theorem dz(X:RL){c:Call}{e:TypeId}{sz bts n m:Nat}{F L:RL}{v x:Value}{cs new:List Value}(g:GV e sz F v n cs L)(hs:SV sz (X++L) x m new)(hm:0<m)(hone:aM new=true)(ho:o.op=.call c)(hT:m7 P c=some (e,sz,bts))(ha:ky a c.args.toList=some [v,x])
  (hsm:(n+m)*bts<=1000000000000) (hsm2:n+m<=1000000000000) :
  ∀ h,bp h (X++L)->∃ r' h₁,aI P a o h=some (.val (.slice (some ⟨r',0,none⟩) (n+m) ae) h₁)/\bp h₁ ((r',.cells e (cs++new))::(X++F)):=by
 intro h H
 rcases g with ⟨rfl,rfl,rfl,rfl⟩|⟨r,rfl,hl,rfl⟩
 ·obtain⟨r',h₁,e₁,H₁⟩:=DO ho hT ha hs.lenB (fun h H=>hs.first H) (by rw[hone,hs.notText];rfl) (by simpa using hsm) (by simpa using hsm2) hm h H
  exact⟨r',h₁,by simpa using e₁,by simpa using H₁⟩
 have hX:(X++(r,.cells e cs)::F)[X.length]?=some (r,.cells e cs):=by simp
 have hd:∀ (X:RL),iB (X++(r,.cells e cs)::F) X.length=some (X++F):=by
  intro X
  induction X with
  | nil=>rfl
  | cons y X ih=>simp only[List.cons_append,List.length_cons,iB,ih]
 exact d7 X.length hs hone ho hT ha hsm hsm2 hX (eQ hl) (hd X) h H
variable{ops rest:List Oper}{K:ah->RL->Prop}
theorem OS.at {i:Operand}{sz n j:Nat}{k:IntKind}{v:Value}{cs:List Value}(hs:SV sz L v n cs)(hj:j<n)(hw:aw ops o a=true)(ho:o.op=.indexAddr t x i)(hx:aX a x=some v)(hi:aX a i=some (.int k (j:Int)))
  (ht:P.underlying t=some (.slice e)) (hz:aB P e=some sz) (hk:∀ r off row cs₀,(r,row)∈L->dV row=some cs₀->(∀ m u,m<sz->cs[j*sz+m]?=some u->cs₀[off+m]?=some u)->(∀ us,cut cs (j*sz) sz=some us->cut cs₀ off sz=some us) →
   ∃ a₁,aH a o.dst (.pointer (some ⟨r,off,none⟩))=some a₁/\OS P ops rest a₁ L K):OS P ops (o::rest) a L K:=by
 obtain⟨r,off,row,cs₀,h1,h2,h3,h4,h5⟩:=Kj hs hj ho hx hi ht hz
 obtain⟨a₁,ep,k'⟩:=hk r off row cs₀ h1 h2 h3 h4
 exact xP hw h5 ep k'
variable{ms:List Nat}{sched:List (Nat×Bool)}{dn:Dn}
theorem ba.at {q:Nat}{K:ah->RL->Prop}{t e:TypeId}{i:Operand}{sz n j:Nat}{k:IntKind}{v:Value}{cs:List Value}(hs:SV sz L v n cs)(hj:j<n)(hq:ops[q]?=some o)(hw:aw ops o a=true)(ho:o.op=.indexAddr t x i)(hx:aX a x=some v)(hi:aX a i=some (.int k (j:Int)))
  (ht:P.underlying t=some (.slice e)) (hz:aB P e=some sz) (hk:∀ r off row cs₀,(r,row)∈L->dV row=some cs₀->(∀ m u,m<sz->cs[j*sz+m]?=some u->cs₀[off+m]?=some u)->(∀ us,cut cs (j*sz) sz=some us->cut cs₀ off sz=some us) →
   ∃ a₁,aH a o.dst (.pointer (some ⟨r,off,none⟩))=some a₁/\ba P ops ms K sched dn a₁ L):ba P ops ms K ((q,false)::sched) dn a L:=by
 obtain⟨r,off,row,cs₀,h1,h2,h3,h4,h5⟩:=Kj hs hj ho hx hi ht hz
 obtain⟨a₁,ep,k'⟩:=hk r off row cs₀ h1 h2 h3 h4
 exact xD hq hw h5 ep k'
theorem OS.at1 {i:Operand}{n j:Nat}{k:IntKind}{v u:Value}{cs:List Value}(hs:SV 1 L v n cs)(hu:cs[j]?=some u)(hw:aw ops o a=true)(ho:o.op=.indexAddr t x i)(hx:aX a x=some v)(hi:aX a i=some (.int k (j:Int)))
  (ht:P.underlying t=some (.slice e)) (hz:aB P e=some 1) (hk:∀ r off row cs₀,(r,row)∈L->dV row=some cs₀->cs₀[off]?=some u →
   ∃ a₁,aH a o.dst (.pointer (some ⟨r,off,none⟩))=some a₁/\OS P ops rest a₁ L K):OS P ops (o::rest) a L K :=
 OS.at hs (by have:=(List.getElem?_eq_some_iff.1 hu).1;have:=hs.len;omega) hw ho hx hi ht hz fun r off row cs₀ h1 h2 h3 _=>hk r off row cs₀ h1 h2 (h3 0 u (by omega) (by rw[Nat.mul_one];exact hu))
theorem ba.at1 {q:Nat}{K:ah->RL->Prop}{t e:TypeId}{i:Operand}{n j:Nat}{k:IntKind}{v u:Value}{cs:List Value}(hs:SV 1 L v n cs)(hu:cs[j]?=some u)(hq:ops[q]?=some o)(hw:aw ops o a=true)(ho:o.op=.indexAddr t x i)(hx:aX a x=some v)(hi:aX a i=some (.int k (j:Int)))
  (ht:P.underlying t=some (.slice e)) (hz:aB P e=some 1) (hk:∀ r off row cs₀,(r,row)∈L->dV row=some cs₀->cs₀[off]?=some u →
   ∃ a₁,aH a o.dst (.pointer (some ⟨r,off,none⟩))=some a₁/\ba P ops ms K sched dn a₁ L):ba P ops ms K ((q,false)::sched) dn a L :=
 ba.at hs (by have:=(List.getElem?_eq_some_iff.1 hu).1;have:=hs.len;omega) hq hw ho hx hi ht hz fun r off row cs₀ h1 h2 h3 _=>hk r off row cs₀ h1 h2 (h3 0 u (by omega) (by rw[Nat.mul_one];exact hu))
theorem K5 {xs ys:List UInt8}(ho:o.op=.binOp .add t x y z)(hx:aX a x=some (.string ⟨⟨xs⟩⟩))(hy:aX a y=some (.string ⟨⟨ys⟩⟩))(hl:xs.length+ys.length<=9223372036854775807):∀ h,aI P a o h=some (.val (.string ⟨⟨xs++ys⟩⟩) h):=by
 intro h
 have hb:Nat.ble (xs.length+ys.length) 9223372036854775807=true:=Nat.ble_eq_true_of_le hl
 simp only[aI,ho,hx,hy,fN,iH,hb,i4,ret]
theorem Gu {s:List UInt8}{j:Nat}{b:UInt8}(ho:o.op=.index t x y)(hx:aX a x=some (.string ⟨⟨s⟩⟩))(hy:aX a y=some (.int k (j:Int)))(ht:P.underlying t=some .string)(hj:s[j]?=some b):∀ h,aI P a o h=some (.val (.int .u8 (b.toNat:Int)) h):=by
 intro h
 have hb:av 0 (j:Int)=true:=au.2 (by omega)
 simp only[aI,ho,hx,hy,wH,ht,hb,Int.toNat_natCast,hj,ret]
theorem Cz:∀ {xs:List UInt8} {off n:Nat},off+n<=xs.length->wZ xs off n=some ((xs.drop off).take n)
 | xs,0,n,h=>by
  have ht:∀ (xs:List UInt8) (n:Nat),n<=xs.length->kR xs n=some (xs.take n):=by
   intro xs
   induction xs with
   | nil=>intro n h;simp at h;subst h;rfl
   | cons x xs ih=>intro n h;cases n with
    | zero=>rfl
    | succ n=>simp only[kR,ih n (by simpa using h)];rfl
  have:wZ xs 0 n=kR xs n:=by cases xs <;> rfl
  rw[this,ht _ _ (by omega)];rfl
 | [],off+1,n,h=>by simp at h
 | x::xs,off+1,n,h=>by simp only[wZ];rw[Cz (by simp at h;omega)];rfl
variable{lo hi:Option Operand}{lo' hi':Option Value}
theorem A4 {s:List UInt8}{l u:Nat}(ho:o.op=.slice t x lo hi none)(hx:aX a x=some (.string ⟨⟨s⟩⟩))(hlo:aY a lo=some lo')(hhi:aY a hi=some hi')(bl:aU lo' 0=some l)(bu:aU hi' s.length=some u)(ht:P.underlying t=some .string)(hu:u<=s.length)(hl:l<=u) :
  ∀ h,aI P a o h=some (.val (.string ⟨⟨(s.drop l).take (u-l)⟩⟩) h):=by
 intro h
 have hm:aY a none=some none:=rfl
 have h1:Nat.ble u s.length=true:=Nat.ble_eq_true_of_le hu
 have h2:Nat.ble l u=true:=Nat.ble_eq_true_of_le hl
 simp only[aI,ho,hx,hlo,hhi,hm,cM,ht,bu,bl,h1,h2,Bool.true_and,Cz (show l+(u-l)<=s.length by omega),ret]
variable{u:Nat}
theorem DN {n l:Nat}{cs:List Value}(hs:SV sz L v n cs)(hn:∀ r off cap row cs₀,v=.slice (some ⟨r,off,none⟩) n cap->(r,row)∈L->dV row=some cs₀->(cap<ae/\n<=cap)∨(cap=ae/\∃ cs₁,row=.cells e cs₁))(ho:o.op=.slice t x lo hi none)(hx:aX a x=some v)
  (hlo:aY a lo=some lo') (hhi:aY a hi=some hi') (bl:aU lo' 0=some l) (bu:aU hi' n=some u) (ht:P.underlying t=some (.slice e)) (hz:aB P e=some sz) (hu:u<=n) (hl:l<=u) :
  ∃ v',SV sz L v' (u-l) ((cs.drop (l*sz)).take ((u-l)*sz))/\∀ h,bp h L->aI P a o h=some (.val v' h):=by
 have hm:aY a none=some none:=rfl
 have h2:Nat.ble l u=true:=Nat.ble_eq_true_of_le hl
 rcases hs with ⟨rfl,rfl,rfl⟩|⟨r,off,cap,row,cs₀,rfl,hmem,hc,hcut⟩
 ·have hu0:u=0:=by omega
  subst hu0
  have hl0:l=0:=by omega
  subst hl0
  refine⟨.slice none 0 0,.inl ⟨rfl,rfl,by simp⟩,fun h _=>?_⟩
  have hc:Nat.beq 0 ae=false:=aK (by decide)
  have h1:Nat.ble 0 (dT 0 0)=true:=rfl
  have h3:cx h e none 0=true:=by unfold cx;rw[hc];rfl
  simp only[aI,ho,hx,hlo,hhi,hm,cM,ht,bu,bl,hz,h1,h2,h3,Bool.true_and,dZ,hc,ret]
 have hlen:=(c9 hcut).2.2.1
 have hcut':cut cs₀ (off+l*sz) ((u-l)*sz)=some ((cs.drop (l*sz)).take ((u-l)*sz)):=by
  refine kz hcut (eV ?_)
  rw[hlen,←Nat.add_mul]
  exact Nat.mul_le_mul_right _ (by omega)
 rcases hn r off cap row cs₀ rfl hmem hc with ⟨hne,hcap⟩|⟨rfl,cs₁,rfl⟩
 ·refine⟨.slice (some ⟨r,off+l*sz,none⟩) (u-l) (cap-l),.inr ⟨r,_,_,row,cs₀,rfl,hmem,hc,hcut'⟩,fun h H=>?_⟩
  have hcb:Nat.beq cap ae=false:=aK (by omega)
  have h1:Nat.ble u (dT n cap)=true:=by unfold dT;rw[hcb];exact Nat.ble_eq_true_of_le (Nat.le_trans hu hcap)
  have h3:cx h e (some ⟨r,off,none⟩) cap=true:=by unfold cx;rw[hcb];exact Nat.ble_eq_true_of_le (by omega)
  simp only[aI,ho,hx,hlo,hhi,hm,cM,ht,bu,bl,hz,h1,h2,h3,Bool.true_and,dZ,hcb,ret]
 refine⟨.slice (some ⟨r,off+l*sz,none⟩) (u-l) ae,.inr ⟨r,_,_,_,cs₀,rfl,hmem,hc,hcut'⟩,fun h H=>?_⟩
 have hcb:Nat.beq ae ae=true:=bo rfl
 have h1:Nat.ble u (dT n ae)=true:=by unfold dT;rw[hcb];exact Nat.ble_eq_true_of_le hu
 have hg:bm h r=some (e,cs₁):=by unfold bm;rw[H.get _ hmem]
 have h3:cx h e (some ⟨r,off,none⟩) ae=true:=by unfold cx;rw[hcb];simp only[hg,bo rfl]
 simp only[aI,ho,hx,hlo,hhi,hm,cM,ht,bu,bl,hz,h1,h2,h3,Bool.true_and,dZ,hcb,ret]
def sk(live:List Nat):Nat->ah->ah
 | _,[]=>[]
 | i,x::xs=>(match fY live i with|true=>x|false=>.chan none)::sk live (i+1) xs
variable{ρ:cY}
theorem pu {live:List Nat}:∀ {a us:ah} {i:Nat},aF ρ a us->aF ρ (sk live i a) us
 | _,_,_,.nil=>.nil
 | _,_,i,.cons h hs=>by
  simp only[sk]
  refine .cons ?_ (pu hs)
  split
  ·exact h
  exact .any _
theorem LS.junk {rd:Option Nat}{x:Code}{a a₁:ah}{L:RL}{R:b8->ah->RL->Prop}(live:List Nat)(e:sk live 0 a=a₁)(k:jV rd P x a₁ L R):jV rd P x a L R:=by
 subst e
 exact fun h H n₀ ro ρ act w Q hrd hr hd HR hQ=>k h H n₀ ro ρ act w Q hrd (pu hr) hd HR hQ
theorem LS.mid {rd:Option Nat}{x y:Code}{a:ah}{L:RL}{R R':b8->ah->RL->Prop}(live:List Nat)(M:ah->RL->Prop)(hx:jV rd P x a L (zM (fun a' L'=>M (sk live 0 a') L') R))(hy:∀ a L,M a L->jV rd P y a L R'):jV rd P x a L (zM (fun a L=>jV rd P y a L R') R) :=
 hx.mono fun e a' L' r=>by
  cases e with
  | normal=>exact LS.junk live rfl (hy _ _ r)
  | exit id=>exact r
  | ret=>exact r
theorem LS.loopJ {rd:Option Nat}{x:Code}{a a₁:ah}{L:RL}{R:b8->ah->RL->Prop}(live:List Nat)(I:Nat->ah->RL->Prop){n:Nat}(e:sk live 0 a=a₁)(h₀:I n a₁ L)(round:∀ n a L,I n a L->jV rd P x a L (zM (fun a' L'=>∃ m,m<n/\I m (sk live 0 a') L') R)):jV rd P (.loop x) a L R:=by
 refine LS.junk live e ?_
 intro h H n₀ ro ρ act w Q hrd hr hd HR hQ
 let J:Nat->Act->World->Prop:=fun n act₁ w₁=>∃ a₁ L₁ h₁ ρ₁,I n a₁ L₁/\bp h₁ L₁/\aF ρ₁ a₁ act₁.tmps.toList/\iJ n₀ ρ₁ h₁ w₁ act₁.defers/\aJ P ρ₁ h₁ w₁/\bE ρ h w ρ₁ h₁ w₁
 refine pP J (n:=n) ⟨a₁,L,h,ρ,h₀,H,hr,hd,HR,bE.refl _ _ _⟩ ?_
 rintro n act₁ w₁ ⟨a₁,L₁,h₁,ρ₁,hI,H₁,hr₁,hd₁,HR₁,T₁⟩
 refine round n a₁ L₁ hI h₁ H₁ n₀ ro _ _ _ _ (hrd.mono T₁.le) hr₁ hd₁ HR₁ fun e a₂ h₂ ρ₂ act₂ w₂ k hr₂ hd₂ HR₂ T₂=>?_
 obtain⟨L₂,k,H₂⟩:=k
 cases e with
 | normal =>
  obtain⟨m,hm,hI₂⟩:=k
  exact⟨m,hm,_,L₂,h₂,ρ₂,hI₂,H₂,pu hr₂,hd₂,HR₂,T₁.trans T₂⟩
 | exit id=>exact hQ (.exit id) a₂ h₂ ρ₂ act₂ w₂ ⟨L₂,k,H₂⟩ hr₂ hd₂ HR₂ (T₁.trans T₂)
 | ret=>exact hQ .ret a₂ h₂ ρ₂ act₂ w₂ ⟨L₂,k,H₂⟩ hr₂ hd₂ HR₂ (T₁.trans T₂)
theorem ay.plain_eq {u:Value}(h:ay ρ v u)(hp:Am.plain v=true):u=v:=by
 cases h with
 | agg h=>rw[Array.toList_inj.1 (h.flat_eq hp)]
 | tuple h=>rw[Array.toList_inj.1 (h.flat_eq hp)]
 | iface h=>rw[h.flat_eq hp]
 | ptr _=>simp[Am.plain,lx]at hp
 | map _=>simp[Am.plain,lx]at hp
 | func _ _ _=>simp[Am.plain,lx]at hp
 | yield _=>simp[Am.plain,lx]at hp
 | slice _ _ _=>simp[Am.plain,lx]at hp
 | any _=>simp[Am.plain,lx]at hp
 | _=>rfl
def jS:List Value->Bool
 | []=>true
 | v::vs=>Am.plain v&&jS vs
theorem aF.plain_eq:∀ {vs us:List Value},aF ρ vs us->jS vs=true->us=vs
 | _,_,.nil,_=>rfl
 | _,_,.cons a b,h=>by
  simp only[jS,Bool.and_eq_true]at h
  rw[ay.plain_eq a h.1,aF.plain_eq b h.2]
theorem aF.of_plain:∀ {vs:List Value},jS vs=true->aF ρ vs vs
 | [],_=>.nil
 | v::vs,h=>by
  simp only[jS,Bool.and_eq_true]at h
  exact .cons (.of_plain h.1) (aF.of_plain h.2)
theorem bp.empty:bp AW.empty []:=⟨fun p hp=>(by cases hp),List.nodup_nil,fun p hp=>(by cases hp),by decide⟩
variable{f:FuncId}{args:List Value}
theorem CQ.still {R:Value->Prop}(c:CS P f args [] fun v _=>R v/\Am.plain v=true)(ha:jS args=true):∀ h,CQ P f args h fun v h'=>R v/\h'=h:=by
 intro h
 have c:=c AW.empty bp.empty
 refine⟨c.1,fun ρ us w hus HR=>?_⟩
 have hus':=hus.plain_eq ha
 subst hus'
 refine (c.2 (fun _=>none) us w (.of_plain ha) (uZ w)).mono ?_
 rintro en w' ⟨v,h',u,ρ',rfl,⟨L',⟨hv,hp⟩,_⟩,hvu,H',T⟩
 have hu:=hvu.plain_eq hp
 subst hu
 have keep:∀ k,k<w.heap.size->w'.heap[k]?=w.heap[k]?:=fun k hk=>T.keep k hk fun r row l hr=>(by cases hr)
 refine⟨u,h,u,ρ,rfl,⟨hv,rfl⟩,.of_plain hp,⟨fun r row hr=>?_,HR.inj,HR.fresh,HR.step⟩,⟨cY.le_refl _,T.os,T.tape,T.output,T.size,fun r row l hr ho hl _=>⟨r,row,l,hr,ho,hl,rfl⟩,fun k hk _=>keep k hk,fun _ _ e=>.inl e,⟨0,by simp⟩,rfl⟩⟩
 obtain⟨l,hl,hr'⟩:=HR.loc r row hr
 exact⟨l,hl,hr'.keep (cY.le_refl _) (keep _ hr'.lt)⟩
variable{R:Value->RL->Prop}
theorem CS.less {R':Value->RL->Prop}(c:CS P f args L R)(hr:∀ v L',R v L'->∃ L'',ar L'' L'/\R' v L''):CS P f args L R' :=
 fun h H=>(c h H).mono fun v h' ⟨L',r,H'⟩=>let ⟨L'',s,r'⟩:=hr v L' r;⟨L'',r',s.has H'⟩
theorem kY(i:Nat){x r off:Nat}{t:TypeId}{row:aG}{cs:List Value}{v:Value}(hx:a[x]?=some (.pointer (some ⟨r,off,none⟩)))(hL:L[i]?=some (r,row))(hc:dV row=some cs)(hv:bM P t cs off=some v):∀ h,bp h L->cE P a h [.cell x t]=some [v]:=by
 intro h H
 simp only[cE,hx,mw,H.read hL hc,hv]
end
end Go.Am
namespace Go.Am
section
variable{P:Program}{ρ:cY}{h:AW}{w:World}{L:RL}
theorem enter0(w:World):aJ P (fun _=>none) AW.empty w/\(∀ r row,AW.empty.get r=some row->row.own=false)/\bp AW.empty [] :=
 ⟨uZ w,fun r row hr=>(by cases hr),bp.empty⟩
variable{f:FuncId}{args us:List Value}
theorem calls_true (c:CS P f args L fun v _=>v=.bool true)(hr:aF ρ args us)(HR:aJ P ρ h w)(ro:∀ r row,h.get r=some row->row.own=false)(H:bp h L) :
  Calls P f ⟨us⟩ w fun e w'=>e=.returned (.bool true)/\RowKit.Below w.heap.size w w':=by
 refine ((c h H).2 ρ us w hr HR).mono ?_
 rintro en w' ⟨v,h',u,ρ',rfl,⟨L',rfl,_⟩,hv,H',T⟩
 cases hv
 exact⟨rfl,T.os,T.tape,T.output,T.size,fun k hk=>T.keep k hk fun r row l hr' ho=>by rw[ro r row hr']at ho;cases ho⟩
end
end Go.Am
namespace Go.Am
section
variable{P:Program}{o:Oper}{a:ah}{L L₁:RL}{x y z:Operand}{t:TypeId}
theorem f5 {r:Option Operand}{hint:Option Value}(ho:o.op=.makeMap t r)(hr:aY a r=some hint)(hm:nV P t hint=true) :
  ∀ h,bp h L->∃ q h₁,aI P a o h=some (.val (.map (some q)) h₁)/\bp h₁ ((q,.map [] 0)::L):=by
 intro h H
 obtain⟨h₁,e₁⟩:=h.new_some (.map [] 0)
 exact⟨h.next,h₁,by simp only[aI,ho,hr,hm,e₁,fG],H.new e₁⟩
theorem jM(i:Nat){k v:Value}{ok:Bool}{r clock:Nat}{es:List MapEntry}{kt et:TypeId}(ho:o.op=.lookup t x y ok)(hx:aX a x=some (.map (some r)))(hy:aX a y=some k)(ht:P.underlying t=some (.map kt et))(hk:eE P kt k=true)
  (hL:L[i]?=some (r,.map es clock)) (hf:(match b7 k es 0 with|some (some (_,v))=>some (qp ok v true)|some none=>(match mD P et with|some z=>some (qp ok z false)|none=>none)|none=>none)=some v) :
  ∀ h,bp h L->aI P a o h=some (.val v h):=by
 intro h H
 have hg:=H.at hL
 have e:fI P t (.map (some r)) k ok h=some v:=by
  unfold fI fK
  simp only[ht,hk,hg]
  exact hf
 simp only[aI,ho,hx,hy,e,ret]
theorem zt(i:Nat){c:Call}{k:Value}{r clock:Nat}{es es2:List MapEntry}{tm kt et:TypeId}(ho:o.op=.call c)(hc:c.callee=.builtin .delete)(ha:ky a c.args.toList=some [.map (some r),k])(ht:c.argTypes[0]?=some tm)(hu:P.underlying tm=some (.map kt et))(hk:eE P kt k=true)
  (hL:L[i]?=some (r,.map es clock)) (hf:(match b7 k es 0 with|some (some (j,_))=>some (dS es j)|some none=>some es|none=>none)=some es2) (hset:jx L i (r,.map es2 clock)=some L₁) :
  ∀ h,bp h L->∃ h₁,aI P a o h=some (.val (.tuple #[]) h₁)/\bp h₁ L₁:=by
 intro h H
 have hg:=H.at hL
 obtain⟨h₁,e₁⟩:=h.put_some r (some (.map es2 clock))
 have:=eN hset
 subst this
 refine⟨h₁,?_,H.put hL e₁⟩
 have e:ox P c.argTypes [.map (some r),k] h=some (.tuple #[],h₁):=by
  unfold ox
  simp only[ht,hu,hk,hg]
  cases hfb:b7 k es 0 with
  | none=>rw[hfb]at hf;cases hf
  | some w =>
   rw[hfb]at hf
   cases w with
   | none =>
    simp only[Option.some.injEq]at hf
    subst hf
    simp only[e₁]
   | some p =>
    obtain⟨j,u⟩:=p
    simp only[Option.some.injEq]at hf
    subst hf
    simp only[e₁]
 simp only[aI,ho,ha,bB,hc,e,fx]
theorem fo(i:Nat){k v:Value}{r clock clock2:Nat}{es es2:List MapEntry}{kt et:TypeId}(ho:o.op=.mapUpdate t x y z)(hx:aX a x=some (.map (some r)))(hy:aX a y=some k)(hz:aX a z=some v)(ht:P.underlying t=some (.map kt et))(hk:eE P kt k=true)
  (hL:L[i]?=some (r,.map es clock)) (hf:(match b7 k es 0 with|some (some (j,_))=>some (mK k v es j,clock)|some none=>some (pM ⟨k,v,clock⟩ es,clock+1)|none=>none)=some (es2,clock2)) (hset:jx L i (r,.map es2 clock2)=some L₁) :
  ∀ h,bp h L->∃ h₁,aI P a o h=some (.val undef h₁)/\bp h₁ L₁:=by
 intro h H
 have hg:=H.at hL
 obtain⟨h₁,e₁⟩:=h.put_some r (some (.map es2 clock2))
 have:=eN hset
 subst this
 refine⟨h₁,?_,H.put hL e₁⟩
 have e:ir P t (.map (some r)) k v h=some h₁:=by
  unfold ir
  simp only[ht,hk,hg]
  cases hfb:b7 k es 0 with
  | none=>rw[hfb]at hf;cases hf
  | some w =>
   rw[hfb]at hf
   cases w with
   | none =>
    simp only[Option.some.injEq,Prod.mk.injEq]at hf
    obtain⟨rfl,rfl⟩:=hf
    exact e₁
   | some p =>
    obtain⟨j,u⟩:=p
    simp only[Option.some.injEq,Prod.mk.injEq]at hf
    obtain⟨rfl,rfl⟩:=hf
    exact e₁
 simp only[aI,ho,hx,hy,hz,e]
variable{ops rest:List Oper}{K:ah->RL->Prop}{f:FuncId}{args:List Value}{v:Value}{a₁:ah}
theorem OS.ext (hx:LG P f args v)(hw:aw ops o a=true)(e:∀ h,aI P a o h=some (.call f args))(ep:aH a o.dst v=some a₁)(k:OS P ops rest a₁ L K):OS P ops (o::rest) a L K :=
 fun h H=>OQ.ext hx hw (e h) ep (k h H)
theorem AZ(i:Nat){src dst t' e:TypeId}{r off n:Nat}{cs:List Value}(ho:o.op=.convert src dst x)(hx:aX a x=some (.pointer (some ⟨r,off,none⟩)))(hs:P.underlying src=some (.pointer t'))(hd:P.underlying dst=some .unsafePointer)(hz:aB P t'=some (n+1))
  (hL:L[i]?=some (r,.cells e cs)) (hlt:off<cs.length):∀ h,bp h L->aI P a o h=some (.val (.pointer (some ⟨r,off,none⟩)) h):=by
 intro h H
 have h1:Nat.ble (off+1) cs.length=true:=Nat.ble_eq_true_of_le hlt
 simp only[aI,ho,hx,mB,hs,hd,hz,H.row hL,h1,fx]
theorem wV(i:Nat){src dst e:TypeId}{r n:Nat}{cs:List Value}(ho:o.op=.convert src dst x)(hx:aX a x=some (.pointer (some ⟨r,0,none⟩)))(hs:P.underlying src=some .unsafePointer)(hd:P.underlying dst=some (.pointer e))(hz:aB P e=some (n+1))
  (hL:L[i]?=some (r,.cells e cs)) (hsl:uf P e=false) (hle:n+1<=cs.length):∀ h,bp h L->aI P a o h=some (.val (.pointer (some ⟨r,0,none⟩)) h):=by
 intro h H
 have h1:Nat.ble (n+1) cs.length=true:=Nat.ble_eq_true_of_le hle
 simp only[aI,ho,hx,mB,hs,hd,hz,H.row hL,hsl,h1,Nat.beq_refl,Bool.not_false,Bool.and_self,fx]
theorem Kh {c:Call}{r off n cap:Nat}(ho:o.op=.call c)(hc:c.callee=.builtin .unsafeSliceData)(ha:ky a c.args.toList=some [.slice (some ⟨r,off,none⟩) n cap])(hn:1<=n):∀ h,aI P a o h=some (.val (.pointer (some ⟨r,off,none⟩)) h):=by
 intro h
 obtain⟨k,rfl⟩:∃ k,n=k+1:=⟨n-1,by omega⟩
 simp only[aI,ho,ha,bB,hc,Cw,ret]
theorem Gp(i:Nat){c:Call}{pt e:TypeId}{r n:Nat}{bs:List UInt8}(ho:o.op=.call c)(hc:c.callee=.builtin .unsafeString)(ha:ky a c.args.toList=some [.pointer (some ⟨r,0,none⟩),.int .i64 (n:Int)])(ht:c.argTypes[0]?=some pt)(hp:P.underlying pt=some (.pointer e))(hu:P.underlying e=some (.int .u8))(h1:oR P e=true)
  (hL:L[i]?=some (r,.cells e (ab bs))) (hn:bs.length=n) (hn1:1<=n) (hn2:(n:Int)<=9223372036854775807) (hd:iB L i=some L₁):∀ h,bp h L->∃ h₁,aI P a o h=some (.val (.string ⟨⟨bs⟩⟩) h₁)/\bp h₁ L₁:=by
 intro h H
 obtain⟨h₁,e₁⟩:=h.put_some r none
 have hb:(av 1 (n:Int)&&av (n:Int) 9223372036854775807)=true:=by rw[Bool.and_eq_true,au,au];omega
 have hcut:cut (ab bs) 0 ((n:Int)).toNat=some (ab bs):=by rw[Int.toNat_natCast];exact eQ (by rw[ao];exact hn)
 have hu8:jo P e=true:=by simp only[jo,hu]
 have hdr:=lD hd
 subst hdr
 refine⟨h₁,?_,H.drop hL e₁⟩
 simp only[aI,ho,ha,bB,hc,qj,ht,hp,H.row hL,hb,hu8,h1,Nat.beq_refl,Bool.and_self,hcut,iD,e₁,fx]
end
end Go.Am
end
section
namespace Go.Am
open Go.MapKept
section
variable{P:Program}
def YQ(P:Program)(r:Nat)(vs:List Value)(h:AW)(R:Value->AW->Prop):Prop :=
 ∀ ρ us w l,aF ρ vs us->aJ P ρ h w->ρ r=some l →
  YieldAt (fP none) 0 P l.block ⟨us⟩ w fun e w'=>∃ v h' u ρ',e=.returned u/\R v h'/\ay ρ' v u/\aJ P ρ' h' w'/\bE ρ h w ρ' h' w'
variable{r:Nat}
theorem YQ.mono {vs:List Value}{h:AW}{R R':Value->AW->Prop}(c:YQ P r vs h R)(hr:∀ v h',R v h'->R' v h'):YQ P r vs h R':=fun ρ us w l a b e=>by
 obtain⟨fn,tmps,assign,body,h1,h2⟩:=c ρ us w l a b e
 exact⟨fn,tmps,assign,body,h1,h2.mono fun e w' ⟨v,h',u,ρ',e1,e2,e3⟩=>⟨v,h',u,ρ',e1,hr _ _ e2,e3⟩⟩
variable{ops rest:List Oper}{o:Oper}
theorem OQ.yield {c:Call}{f:Operand}{a:ah}{h:AW}{K:ah->AW->Prop}{r:Nat}{vs:List Value}(hw:aw ops o a=true)(ho:o.op=.call c)(hc:c.callee=.value f)(hf:aX a f=some (.func (.yield r) #[] #[]))(ha:ky a c.args.toList=some vs)
  (hrow:∃ p,h.get r=some (.loop p)) (hy:YQ P r vs h fun v h₁=>∃ a₁,aH a o.dst v=some a₁/\OQ P ops rest a₁ h₁ K):OQ P ops (o::rest) a h K:=by
 intro ro ds opsA i ρ act w Q hops hd hr hdf H hQ
 obtain⟨hoi,hrest⟩:=gX hops hd
 simp only[List.length_cons,List.range'_succ,wpOpsIn,hoi]
 rw[←ci hr (by rw[hops];exact bL hw),hops,hw,if_pos rfl]
 obtain⟨p,hp⟩:=hrow
 obtain⟨l,hl,_⟩:=H.loc r _ hp
 have hfr:=aP hr hf
 have hargs:=om hr ha
 generalize hev:act.eval f=fv at hfr
 cases hfr with
 | @yield _ l' hl' =>
  rw[hl]at hl';simp only[Option.some.injEq]at hl';subst hl'
  obtain⟨fn,tmps,assign,body,hrun,hround⟩:=hy ρ _ w l hargs H hl
  have hex:(execOp act.eval o).run P w=.ok (.round l.block fn tmps assign body) w:=by
   simp only[execOp,ho,resolve,hc,hev,Deferred.ofValue,Sem.run_bind,Sem.run_pure,Result.andThen_ok,invoke]
   rw[←hrun]
   congr 2
   apply Array.ext'
   simp
  refine⟨fun _ _=>trivial,?_⟩
  rw[Oper.semAt_eq _ _ _ (fun c' hc'=>by rw[ho]at hc';cases hc'),hex]
  refine⟨fun hh=>(by cases hh),hround.mono ?_⟩
  rintro en w₁ ⟨v,h₁,u,ρ₁,rfl,⟨a₁,ep,k⟩,hv,H₁,T₁⟩
  exact k ro _ _ _ _ _ _ Q hops hrest (fk ep (hr.mono T₁.le) hv) (by rw[c7];exact hdf) H₁ (fun a' h' ρ' act' w' kk a b c d=>hQ a' h' ρ' act' w' kk a b c (T₁.trans d))
 | @func _ _ _ _ _ hpf=>cases hpf
def k8:ah->List Nat->List Value->Option ah
 | a,[],[]=>some a
 | a,t::ts,v::vs=>match kE a t v with
  | some a'=>k8 a' ts vs
  | none=>none
 | _,_,_=>none
variable{ρ:cY}
theorem rC:∀ {ts:List Nat} {vs us:List Value} {a a':ah} {tmps:Array Value},k8 a ts vs=some a'->aF ρ a tmps.toList->aF ρ vs us->ts.length=us.length/\aF ρ a' ((ts.zip us).foldl (fun t (p,v)=>t.setIfInBounds p v) tmps).toList
 | [],[],us,a,a',tmps,e,h,hv=>by cases hv;simp[k8]at e;subst e;exact⟨rfl,h⟩
 | [],_::_,_,_,_,_,e,_,_=>by simp[k8]at e
 | _::_,[],_,_,_,_,e,_,_=>by simp[k8]at e
 | t::ts,v::vs,us,a,a',tmps,e,h,hv=>by
  simp only[k8]at e
  split at e
  case h_2=>cases e
  rename_i a₁ e₁
  cases hv with
  | @cons _ u _ us hv hvs =>
   have h1:aF ρ a₁ (tmps.setIfInBounds t u).toList:=by
    rw[Array.toList_setIfInBounds];exact lN e₁ h hv
   obtain⟨hl,hr⟩:=rC (ts:=ts) e h1 hvs
   exact⟨by simp[hl],by simpa using hr⟩
def LP.busy(p:LP):LP:={ p with state:=.busy }
def LP.left(p:LP):b8->LP
 | .normal=>{ p with state:=.ready,pending:=none }
 | .ret=>{ p with state:=.done,pending:=some .ret }
 | .exit id=>{ p with state:=.done,pending:=some (.exit id) }
def b8.goesOn:b8->Bool
 | .normal=>true
 | _=>false
theorem YQ.mk {vs:List Value}{h:AW}{R:Value->AW->Prop}{p:LP}{a₀:ah}(hp:h.get r=some (.loop p))(hst:p.state=.ready)(ha:k8 p.slots p.params vs=some a₀)
  (hx:LQ (some r) P p.assign a₀ h fun e a₁ h₁=>e=.normal/\h₁.get r=some (.loop p)/\∃ h₂,h₁.put r (some (.loop p.busy))=some h₂ /\
   LQ (some r) P p.body a₁ h₂ fun e a₃ h₃=>h₃.get r=some (.loop p.busy)/\∃ h₄,h₃.put r (some (.loop (p.left e)))=some h₄/\R (.bool e.goesOn) h₄):YQ P r vs h R:=by
 intro ρ us w l hus H hl
 obtain⟨l',hl',fn,tmps,D,hrec,htm⟩:=H.loc r _ hp
 rw[hl]at hl';simp only[Option.some.injEq]at hl';subst hl'
 obtain⟨hlen,hrel⟩:=rC ha htm hus
 refine⟨fn,_,p.assign,p.body,run_yield hrec (by simpa using hlen.symm),?_⟩
 refine roundIn_of_wpIn (F:=fP none) trivial ?_
 have hrel':aF ρ a₀ (((⟨p.params⟩:Array Nat).zip (⟨us⟩:Array Value)).foldl (fun t (q:Nat×Value)=>t.setIfInBounds q.1 q.2) tmps).toList:=by
  have e:((⟨p.params⟩:Array Nat).zip (⟨us⟩:Array Value)).foldl (fun t (q:Nat×Value)=>t.setIfInBounds q.1 q.2) tmps=(p.params.zip us).foldl (fun t (q:Nat×Value)=>t.setIfInBounds q.1 q.2) tmps:=by
   rw[←Array.foldl_toList];simp
  rw[e];exact hrel
 refine hx w.heap.size (some l.block) ρ _ w _ (.some hl) hrel' (iJ.nil _ _ _) H ?_
 rintro e a₁ h₁ ρ₁ act₁ w₁ ⟨rfl,hg₁,h₂,hput,hbody⟩ hr₁ hd₁ H₁ T₁
 obtain⟨l₁,hl₁,fn₁,tmps₁,D₁,hrec₁,htm₁⟩:=H₁.loc r _ hg₁
 rw[T₁.le _ _ hl]at hl₁;simp only[Option.some.injEq]at hl₁;subst hl₁
 have hsame:({ state:=p.state,pending:=p.pending,fn:=fn₁,tmps:=tmps₁,params:=⟨p.params⟩,assign:=p.assign,body:=p.body,defers:=D₁ }:Loop).state=.ready:=hst
 refine⟨_,run_beginRound hrec₁ hsame,?_⟩
 obtain⟨H₂,T₂⟩:=H₁.writeRow (o1:=.loop { state:=.busy,pending:=p.pending,fn:=fn₁,tmps:=tmps₁,params:=⟨p.params⟩,assign:=p.assign,body:=p.body,defers:=D₁ }) (row1:=.loop p.busy) hg₁ rfl (T₁.le _ _ hl) hrec₁ hput
  ⟨fn₁,tmps₁,D₁,(heap_set hrec₁).1,htm₁⟩
 refine hbody w.heap.size (some l.block) ρ₁ act₁ _ _ (.some (T₁.le _ _ hl)) hr₁ (hd₁.turn T₂) H₂ ?_
 rintro e a₃ h₃ ρ₃ act₃ w₃ ⟨hg₃,h₄,hput₃,hR⟩ hr₃ hd₃ H₃ T₃
 have hl₃:=T₃.le _ _ (T₁.le _ _ hl)
 obtain⟨l₃,hl₃',fn₃,tmps₃,D₃,hrec₃,htm₃⟩:=H₃.loc r _ hg₃
 rw[hl₃]at hl₃';simp only[Option.some.injEq]at hl₃';subst hl₃'
 have fin:∀ jump:Option Code,(p.left e)={ p with state:=if jump.isNone then .ready else .done,pending:=jump }->jump.isNone=e.goesOn->∃ v w',(Instr.endRound l.block jump).run P w₃=.ok v w' /\
   ∃ v₁ h' u ρ',Ending.returned v=.returned u/\R v₁ h'/\ay ρ' v₁ u/\aJ P ρ' h' w'/\bE ρ h w ρ' h' w':=by
  intro jump hj he
  refine⟨_,_,run_endRound jump hrec₃,?_⟩
  obtain⟨H₄,T₄⟩:=H₃.writeRow (o1:=.loop { state:=if jump.isNone then .ready else .done,pending:=jump,fn:=fn₃,tmps:=tmps₃,params:=⟨p.params⟩,assign:=p.assign,body:=p.body,defers:=D₃ }) (row1:=.loop (p.left e)) hg₃ rfl hl₃ hrec₃ hput₃
   (by rw[hj];exact⟨fn₃,tmps₃,D₃,(heap_set hrec₃).1,htm₃⟩)
  exact⟨.bool e.goesOn,h₄,_,ρ₃,rfl,hR,by rw[he];exact .bool _,H₄,T₁.trans (T₂.trans (T₃.trans T₄))⟩
 cases e with
 | normal=>exact fin none rfl rfl
 | ret=>exact fin (some .ret) rfl rfl
 | exit id=>exact fin (some (.exit id)) rfl rfl
theorem aJ.putRec {h:AW}{w:World}{D:Nat}{rc:Loop}(H:aJ P ρ h w)(hD:w.heap[D]?=some (.loop rc))(ho:∀ r row l,h.get r=some row->row.own=true->ρ r=some l->l.block≠D)(o:Obj):aJ P ρ h (w.putObj D o):=by
 refine⟨fun r row hr=>?_,H.inj,H.fresh,H.step⟩
 obtain⟨l,hl,hrow⟩:=H.loc r row hr
 refine⟨l,hl,?_⟩
 by_cases e:l.block=D
 ·cases hown:row.own with
  | true=>exact absurd e (ho r row l hr hown hl)
  | false =>
   cases row with
   | ro cs =>
    refine⟨by rw[World.putObj_size];exact hrow.1,fun i v hv=>?_⟩
    obtain⟨u,hu,_⟩:=hrow.2 i v hv
    simp only[World.cell?,e,hD]at hu
    cases hu
   | _=>cases hown
 exact hrow.keep (cY.le_refl _) (World.putObj_heap_other e)
theorem aJ.laid {h:AW}{w:World}(H:aJ P ρ h w)(o:Obj):aJ P ρ h (w.alloc o)/\bE ρ h w ρ h (w.alloc o):=by
 have old:∀ k,k<w.heap.size->(w.alloc o).heap[k]?=w.heap[k]?:=fun k hk=>by
  show (w.heap.push o)[k]?=_
  rw[Array.getElem?_push_lt hk,Array.getElem?_eq_getElem hk]
 refine⟨⟨fun r row hr=>?_,H.inj,H.fresh,H.step⟩,⟨cY.le_refl _,rfl,rfl,rfl,by simp,fun r row l hr ho hl _=>⟨r,row,l,hr,ho,hl,rfl⟩,fun k hk _=>old k hk,fun _ _ e=>.inl e,⟨0,by simp⟩,rfl⟩⟩
 obtain⟨l,hl,hrow⟩:=H.loc r row hr
 exact⟨l,hl,hrow.keep (cY.le_refl _) (old _ hrow.lt)⟩
theorem iJ.push {n₀:Nat}{ρ:cY}{h:AW}{w:World}{ds:List Deferred}(M:iJ n₀ ρ h w ds)(H:aJ P ρ h w):iJ n₀ ρ h (w.alloc (.deferred (some []))) ({ target:=.collected w.heap.size,args:=#[] }::ds):=by
 have M':=M.turn (H.laid (.deferred (some []))).2
 refine⟨M'.base,fun d hd=>?_,?_⟩
 ·rcases List.mem_cons.1 hd with rfl|hd
  ·refine⟨w.heap.size,rfl,M.base,World.alloc_heap_new _ _,fun r row l hr _ hl e=>?_⟩
   obtain⟨l',hl',hrow⟩:=H.loc r row hr
   rw[hl]at hl';simp only[Option.some.injEq]at hl';subst hl'
   have:=hrow.lt;omega
  exact M'.each d hd
 rw[List.map_cons,List.nodup_cons]
 refine⟨fun hm=>?_,M.nd⟩
 obtain⟨d,hd,e⟩:=List.mem_map.1 hm
 obtain⟨D,h1,_,h3,_⟩:=M.each d hd
 rw[h1]at e
 simp only[Target.collected.injEq]at e
 have:=(Array.getElem?_eq_some_iff.1 h3).1
 omega
def LP.after(p:LP)(R:b8->ah->RL->Prop)(a:ah)(L:RL):Prop :=
 p.state≠.busy/\match p.pending with
 | none=>R .normal a L
 | some .ret=>R .ret a L
 | some (.exit id)=>R (.exit id) a L
 | _=>False
def LP.start(a:ah)(ps:List Nat)(assign body:Code):LP:={ state:=.ready,pending:=none,slots:=a,params:=ps,assign,body }
theorem LS.rangeFunc(hgo:noGo P=true){g:Operand}{ps:Array Tmp}{assign body:Code}{a:ah}{L:RL}{R:b8->ah->RL->Prop}{f:FuncId}{captured:List Value}
  (hg:aX a g=some (.func (.func f) #[] ⟨captured⟩))
  (hc:∀ r,CS P f (.func (.yield r) #[] #[]::captured) ((r,.loop (LP.start a ps.toList assign body))::L) fun v L₂=>∃ i p L₃,L₂[i]?=some (r,.loop p)/\iB L₂ i=some L₃/\p.after R a L₃):jV none P (.rangeFunc g ps assign body) a L R:=by
 intro h Hh n₀ ro ρ act w Q hrd hr hd H hQ
 cases hrd
 refine wpIn_rangeFunc fun fn _=>?_
 obtain⟨h₁,e₁⟩:=h.new_some (.loop (LP.start a ps.toList assign body))
 obtain⟨H₀,T₀⟩:=H.laid (.deferred (some []))
 have M₀:=hd.push H
 have hsz:(w.alloc (.deferred (some []))).heap.size=w.heap.size+1:=by simp
 obtain⟨H₁,T₁⟩:=H₀.new_block (w':=(w.alloc (.deferred (some []))).alloc (.loop { state:=.ready,pending:=none,fn,tmps:=act.tmps,params:=ps,assign,body,defers:=w.heap.size })) (l:=⟨w.heap.size+1,0,0,0⟩) e₁ (by simp) rfl rfl rfl (by simp) (fun k hk=>by
   show ((w.alloc (.deferred (some []))).heap.push _)[k]?=_
   rw[Array.getElem?_push_lt hk,Array.getElem?_eq_getElem hk])
  ⟨fn,act.tmps,w.heap.size,by
   have:=World.alloc_heap_new (w.alloc (.deferred (some []))) (.loop { state:=.ready,pending:=none,fn,tmps:=act.tmps,params:=ps,assign,body,defers:=w.heap.size })
   rw[hsz]at this;exact this,hr.mono (oQ (by exact H.fresh0))⟩
 have M₁:=M₀.turn T₁
 have hent:=run_enterLoop_outer (P:=P) (w:=w) fn act.tmps ps assign body
 generalize (w.alloc (.deferred (some []))).alloc (.loop { state:=.ready,pending:=none,fn,tmps:=act.tmps,params:=ps,assign,body,defers:=w.heap.size })=W₁ at H₁ T₁ M₁ hent
 have hcr:=aP hr hg
 generalize hev:act.eval g=gv at hcr
 cases hcr with
 | @func _ _ b _ d _ hb hcap =>
  have hb0:b=#[]:=by
   cases b with|mk b=>cases hb;rfl
  subst hb0
  obtain⟨⟨fd,cd,hfd,hbd⟩,hcalls⟩:=(hc h.next) h₁ (Hh.new e₁)
  refine⟨w.heap.size+1,_,W₁,{ target:=.fn (.func f) d,args:=#[.func (.yield (w.heap.size+1)) #[] #[]] },W₁,f,#[.func (.yield (w.heap.size+1)) #[] #[]]++d,W₁,hent,?_,fun _ _=>trivial,(by simp only[invoke];exact er hgo hfd hbd _ _),fun hh=>(by cases hh),eY.2 ?_⟩
  ·simp only[resolve,hev]
   simp[Deferred.ofValue,Act.eval]
  have hus:aF (kD ρ h.next ⟨w.heap.size+1,0,0,0⟩) (.func (.yield h.next) #[] #[]::captured) (#[Value.func (.yield (w.heap.size+1)) #[] #[]]++d).toList:=by
   rw[Array.toList_append]
   refine .cons (.yield (l:=⟨w.heap.size+1,0,0,0⟩) (by simp[kD])) (hcap.mono (oQ (by exact H.fresh0)))
  refine (hcalls _ _ _ hus H₁).mono ?_
  rintro en w₂ ⟨v,h₂,u,ρ₂,rfl,⟨L₂,⟨i,p,L₃,hLi,hdr,hbusy,haft⟩,Hh₂⟩,hv,H₂,T₂⟩
  have hlr:ρ₂ h.next=some ⟨w.heap.size+1,0,0,0⟩:=T₂.le _ _ (by simp[kD])
  obtain⟨l',hl',fn₂,tmps₂,D₂,hrec₂,htm₂⟩:=H₂.loc _ _ (Hh₂.at hLi)
  rw[hlr]at hl';simp only[Option.some.injEq]at hl';subst hl'
  obtain⟨h₃,e₃⟩:=h₂.put_some h.next none
  obtain⟨H₃,T₃⟩:=H₂.drop e₃
  have Hh₃:=Hh₂.drop hLi e₃
  rw[←lD hdr]at Hh₃
  refine⟨p.pending,_,run_endLoop hrec₂ hbusy,?_⟩
  have hno:∀ r row l,h₃.get r=some row->row.own=true->ρ₂ r=some l->l.block≠w.heap.size+1:=fun r row l hr ho hl e=>by
   have hg3:=(jh e₃).1 r
   rw[hr]at hg3
   split at hg3
   ·cases hg3
   rename_i hne
   exact hne (H₂.inj r h.next row _ l _ hg3.symm (Hh₂.at hLi) hl hlr e (.inl ho))
  have H₄:=H₃.putRec hrec₂ hno (.loop { state:=.exhausted,pending:=p.pending,fn:=fn₂,tmps:=tmps₂,params:=⟨p.params⟩,assign:=p.assign,body:=p.body,defers:=D₂ })
  have T₀₃:=T₀.trans (T₁.trans (T₂.trans T₃))
  have T₄:=T₀₃.putMark (D:=w.heap.size+1) (by omega) (.loop { state:=.exhausted,pending:=p.pending,fn:=fn₂,tmps:=tmps₂,params:=⟨p.params⟩,assign:=p.assign,body:=p.body,defers:=D₂ })
  have M₃:=M₁.turn (T₂.trans T₃)
  have M₄:iJ n₀ ρ₂ h₃ (w₂.putObj (w.heap.size+1) (.loop { state:=.exhausted,pending:=p.pending,fn:=fn₂,tmps:=tmps₂,params:=⟨p.params⟩,assign:=p.assign,body:=p.body,defers:=D₂ })) ({ target:=.collected w.heap.size,args:=#[] }::act.defers):=by
   refine⟨by rw[World.putObj_size];exact M₃.base,fun d hd=>?_,M₃.nd⟩
   obtain⟨D,h1,h2,h3,h4⟩:=M₃.each d hd
   refine⟨D,h1,h2,(World.putObj_heap_other fun e=>?_).trans h3,h4⟩
   subst e
   rw[hrec₂]at h3;cases h3
  have hr':aF ρ₂ a act.tmps.toList:=hr.mono T₄.le
  have out:∀ e,R e a L₃->Q e.exit' { act with defers:={ target:=.collected w.heap.size,args:=#[] }::act.defers } (w₂.putObj (w.heap.size+1) (.loop { state:=.exhausted,pending:=p.pending,fn:=fn₂,tmps:=tmps₂,params:=⟨p.params⟩,assign:=p.assign,body:=p.body,defers:=D₂ })):=fun e hR =>
   hQ e a h₃ ρ₂ _ _ ⟨L₃,hR,Hh₃⟩ hr' M₄ H₄ T₄
  revert haft out
  cases p.pending with
  | none=>exact fun haft out=>out .normal haft
  | some c =>
   cases c with
   | ret=>exact fun haft out=>wpIn_ret (out .ret haft)
   | exit id=>exact fun haft out=>wpIn_exit (out (.exit id) haft)
   | _=>exact fun haft _=>haft.elim
end
section
variable{P:Program}
def YS(P:Program)(r:Nat)(vs:List Value)(L:RL)(R:Value->RL->Prop):Prop:=∀ h,bp h L->YQ P r vs h fun v h'=>∃ L',R v L'/\bp h' L'
variable{r:Nat}
theorem YS.mono {vs:List Value}{L:RL}{R R':Value->RL->Prop}(c:YS P r vs L R)(hr:∀ v L',R v L'->R' v L'):YS P r vs L R':=fun h H=>(c h H).mono fun v h' ⟨L',e,H'⟩=>⟨L',hr _ _ e,H'⟩
theorem YS.sub {vs:List Value}{L L':RL}{R:Value->RL->Prop}(s:ar L' L)(c:YS P r vs L' R):YS P r vs L R:=fun h H=>c h (s.has H)
variable{ops rest:List Oper}{o:Oper}
theorem OS.yield {c:Call}{f:Operand}{a:ah}{L:RL}{K:ah->RL->Prop}{r:Nat}{vs:List Value}(hw:aw ops o a=true)(ho:o.op=.call c)(hc:c.callee=.value f)(hf:aX a f=some (.func (.yield r) #[] #[]))(ha:ky a c.args.toList=some vs)
  (hrow:∃ p,(r,.loop p)∈L) (hy:YS P r vs L fun v L₁=>∃ a₁,aH a o.dst v=some a₁/\OS P ops rest a₁ L₁ K):OS P ops (o::rest) a L K :=
 fun h H=>OQ.yield hw ho hc hf ha (let ⟨p,hp⟩:=hrow;⟨p,H.get _ hp⟩) ((hy h H).mono fun v h' ⟨L',⟨a₁,ep,k⟩,H'⟩=>⟨a₁,ep,k h' H'⟩)
theorem YS.mk(i:Nat){r:Nat}{vs:List Value}{L:RL}{R:Value->RL->Prop}{p:LP}{a₀:ah}(hi:L[i]?=some (r,.loop p))(hst:p.state=.ready)(ha:k8 p.slots p.params vs=some a₀)
  (hx:jV (some r) P p.assign a₀ L fun e a₁ L₁=>e=.normal/\∃ j L₂,L₁[j]?=some (r,.loop p)/\jx L₁ j (r,.loop p.busy)=some L₂ /\
   jV (some r) P p.body a₁ L₂ fun e a₃ L₃=>∃ m L₄,L₃[m]?=some (r,.loop p.busy)/\jx L₃ m (r,.loop (p.left e))=some L₄/\R (.bool e.goesOn) L₄):YS P r vs L R:=fun h H=>by
 refine YQ.mk (H.at hi) hst ha ((hx h H).mono ?_)
 rintro e a₁ h₁ ⟨L₁,⟨rfl,j,L₂,hj,hset,k⟩,H₁⟩
 obtain⟨h₂,e₂⟩:=h₁.put_some r (some (.loop p.busy))
 have H₂:=H₁.put hj e₂
 rw[←eN hset]at H₂
 refine⟨rfl,H₁.at hj,h₂,e₂,(k h₂ H₂).mono ?_⟩
 rintro e a₃ h₃ ⟨L₃,⟨m,L₄,hm,hset₃,hR⟩,H₃⟩
 obtain⟨h₄,e₄⟩:=h₃.put_some r (some (.loop (p.left e)))
 have H₄:=H₃.put hm e₄
 rw[←eN hset₃]at H₄
 exact⟨H₃.at hm,h₄,e₄,L₄,hR,H₄⟩
end
end Go.Am
end
section
namespace Go.Am
section
variable{P:Program}
def OG(P:Program)(ops:List Oper)(ms:List Nat)(K:ah->AW->Prop):Nat->List Nat->Dn->ah->AW->Prop
 | 0,pre,_,a,h=>(∀ i o,ops[i]?=some o->i∈pre)/\K a h
 | n+1,pre,dn,a,h =>
  (∃ i o,ops[i]?=some o/\i ∉ pre/\(∀ j,ahead ms i j=true->j∈pre) /\
   ((kU ops o a=true/\∃ a₁,aH a o.dst undef=some a₁/\OG P ops ms K n (i::pre) dn a₁ h) ∨
    (aw ops o a=true/\∃ v a₁,fu P a o h v/\aH a o.dst v=some a₁/\OG P ops ms K n (i::pre) ((i,a,v)::dn) a₁ h))) ∨
  ((∃ x o,ops[x]?=some o/\x ∉ pre)/\∃ W:List Nat,(∀ x o,ops[x]?=some o->x ∉ pre->x∈W∨∃ i,i∈W/\ahead ms x i=true) /\
   ∀ i,i∈W->∃ o,ops[i]?=some o/\i ∉ pre/\(∀ j,ahead ms i j=true->j∈pre)/\aw ops o a=true/\zN P a o h fun v h₁=>∃ a₁,aH a o.dst v=some a₁ /\
    (∀ e,e∈dn->ahead ms i e.1=false->∀ p,ops[e.1]?=some p->fu P e.2.1 p h₁ e.2.2)/\OG P ops ms K n (i::pre) dn a₁ h₁)
structure Mo(P:Program)(ops:List Oper)(ms:List Nat)(K:ah->AW->Prop)(a₀:ah)(S:Nat->Prop)(h:AW)(n:Nat)(pre:List Nat)(dn:Dn)(a:ah)(val:Nat->Value):Prop where
 od:OG P ops ms K n pre dn a h
 len:a.length=a₀.length
 slot:∀ j o d,j∈pre->ops[j]?=some o->o.dst=some d->a[d]?=some (val j)
 slot0:∀ t,(∀ j o,j∈pre->ops[j]?=some o->o.dst≠some t)->a[t]?=a₀[t]?
 out:∀ j,j ∉ pre->¬ S j
 closed:∀ p,p∈pre->∀ j,ahead ms p j=true->j∈pre
 pend:∀ j o,j∈pre->¬ S j->ops[j]?=some o->∃ aj,aj.length=a₀.length /\
  (∀ t,t∈dx ops o->(∀ q oq,ops[q]?=some oq->oq.dst=some t->ahead ms j q=true->aj[t]?=some (val q))/\((∀ q oq,ops[q]?=some oq->oq.dst=some t->ahead ms j q=false)->aj[t]?=a₀[t]?)) /\
  ((kU ops o aj=true/\val j=undef)∨(aw ops o aj=true/\(j,aj,val j)∈dn/\fu P aj o h (val j)))
structure Bh(ops:List Oper)(ms:List Nat):Prop where
 once:Lk ops
 back:∀ i o,ops[i]?=some o->∀ j,ahead ms i j=true->j<i
 sorted:∀ i o j q d,ops[i]?=some o->ops[j]?=some q->q.dst=some d->d∈dx ops o->j≠i->(j<i->ahead ms i j=true)/\(i<j->ahead ms j i=true)
variable{ops:List Oper}{ms:List Nat}
theorem BZ (hm:d5 ops []=some ms)(hok:((jE (iA ops)&&jR ops 0)&&ft ms ops ops 0)=true):Bh ops ms/\jR ops 0=true:=by
 simp only[Bool.and_eq_true]at hok
 obtain⟨⟨hon,hback⟩,hsort⟩:=hok
 refine⟨⟨pf hon,fun i o ho=>gY hm hback (S:=fun j=>j<i) (fun j q hj hq e he hbe=>by have:=d9 hback j q hq e he hbe;omega) i o ho (fun e he hbe=>by have:=d9 hback i o ho e he hbe;omega),fun i o j q d hi hj hd hl hne=>?_⟩,hback⟩
 have:=iI hsort i o hi j q d hj hd hl (by omega)
 simpa using this
section
variable{ops:List Oper}{ms:List Nat}{K:ah->AW->Prop}{a₀:ah}{S:Nat->Prop}{h:AW}
theorem Mo.step(hO:Bh ops ms){i n m:Nat}{o:Oper}{pre:List Nat}{dn dn':Dn}{a a₁:ah}{val:Nat->Value}{v:Value}{h':AW}{S':Nat->Prop}(M:Mo P ops ms K a₀ S h m pre dn a val)
  (hi:ops[i]?=some o) (hni:i ∉ pre) (hbe:∀ j,ahead ms i j=true->j∈pre) (ep:aH a o.dst v=some a₁) (od:OG P ops ms K n (i::pre) dn' a₁ h') (hdn:∀ e,e∈dn->e∈dn') (hS:∀ j,j≠i->(S' j↔S j))
  (hold:∀ j aj u p,¬ S j->(j,aj,u)∈dn->ops[j]?=some p->fu P aj p h u->fu P aj p h' u)
  (here:¬ S' i->(kU ops o a=true/\v=undef)∨(aw ops o a=true/\(i,a,v)∈dn'/\fu P a o h' v)) :
  Mo P ops ms K a₀ S' h' n (i::pre) dn' a₁ fun j=>if j=i then v else val j:=by
 obtain⟨hal,had,hag⟩:=uo ep
 have hpre:∀ j,j∈pre->j≠i:=fun j hm hh=>by subst hh;exact hni hm
 refine⟨od,hal.trans M.len,?_,?_,?_,?_,?_⟩
 ·rintro j p d hm hj hd
  rw[hag]
  by_cases hji:j=i
  ·subst hji;rw[hi]at hj;simp at hj;subst hj;simp[hd]
  rw[if_neg hji]
  have hm':j∈pre:=by simpa[hji] using hm
  rw[if_neg (fun hh=>hji (hO.once j i p o d hj hi hd hh))]
  exact M.slot j p d hm' hj hd
 ·intro t ht
  rw[hag,if_neg (ht i o (by simp) hi)]
  exact M.slot0 t fun j p hm hj=>ht j p (by simp[hm]) hj
 ·intro j hm hs
  simp at hm
  exact M.out j hm.2 ((hS j hm.1).1 hs)
 ·intro p hp j hj
  rcases List.mem_cons.1 hp with rfl|hp
  ·exact List.mem_cons_of_mem _ (hbe j hj)
  exact List.mem_cons_of_mem _ (M.closed p hp j hj)
 intro j p hm hs hj
 by_cases hji:j=i
 ·subst hji
  rw[hi]at hj;simp at hj;subst hj
  have hlt:∀ q,ahead ms j q=true->q≠j:=fun q hq hh=>by subst hh;exact absurd (hO.back q o hi q hq) (Nat.lt_irrefl q)
  refine⟨a,M.len,fun t ht=>⟨fun q oq hq hd hah=>?_,fun hno=>?_⟩,?_⟩
  ·rw[if_neg (hlt q hah)]
   exact M.slot q oq t (hbe q hah) hq hd
  ·exact M.slot0 t fun q oq hmq hq hd=>by
    have hne:=hpre q hmq
    obtain⟨s1,s2⟩:=hO.sorted j o q oq t hi hq hd ht hne
    rcases Nat.lt_or_gt_of_ne hne with hlt'|hgt
    ·rw[hno q oq hq hd]at s1;exact absurd (s1 hlt') (by simp)
    exact hni (M.closed q hmq j (s2 hgt))
  rw[if_pos rfl];exact here hs
 have hm':j∈pre:=by simpa[hji] using hm
 obtain⟨aj,hl,hlook,hor⟩:=M.pend j p hm' (fun hh=>hs ((hS j hji).2 hh)) hj
 refine⟨aj,hl,fun t ht=>⟨fun q oq hq hd hah=>?_,(hlook t ht).2⟩,?_⟩
 ·have hqi:q≠i:=fun hh=>by
   subst hh
   exact hni (M.closed j hm' q hah)
  rw[if_neg hqi]
  exact (hlook t ht).1 q oq hq hd hah
 rw[if_neg hji]
 rcases hor with hor|⟨h1,h2,h3⟩
 ·exact .inl hor
 exact .inr ⟨h1,hdn _ h2,hold j aj _ p (fun hh=>hs ((hS j hji).2 hh)) h2 hj h3⟩
theorem Mo.on(hO:Bh ops ms):∀ {n:Nat} {pre:List Nat} {dn:Dn} {a:ah} {val:Nat->Value},Mo P ops ms K a₀ S h n pre dn a val →
  ∃ n' pre' dn' a' val',Mo P ops ms K a₀ S h n' pre' dn' a' val'/\(∀ j,S j->val' j=val j)/\(((∀ i o,ops[i]?=some o->i∈pre')/\K a' h)∨((∃ x o,ops[x]?=some o/\x ∉ pre')/\∃ m,n'=m+1/\∃ W:List Nat,(∀ x o,ops[x]?=some o->x ∉ pre'->x∈W∨∃ i,i∈W/\ahead ms x i=true) /\
   ∀ i,i∈W->∃ o,ops[i]?=some o/\i ∉ pre'/\(∀ j,ahead ms i j=true->j∈pre')/\aw ops o a'=true/\zN P a' o h fun v h₁=>∃ a₁,aH a' o.dst v=some a₁ /\
    (∀ e,e∈dn'->ahead ms i e.1=false->∀ p,ops[e.1]?=some p->fu P e.2.1 p h₁ e.2.2)/\OG P ops ms K m (i::pre') dn' a₁ h₁)):=by
 intro n
 induction n with
 | zero=>intro pre dn a val M;exact⟨0,pre,dn,a,val,M,fun _ _=>rfl,.inl M.od⟩
 | succ n ih =>
  intro pre dn a val M
  have od:=M.od
  simp only[OG]at od
  rcases od with ⟨i,o,hi,hni,hbe,hor⟩|⟨hx,W,hW,hall⟩
  ·have hnS:∀ j,S j->j≠i:=fun j hj hh=>by subst hh;exact M.out j hni hj
   rcases hor with ⟨hw,a₁,ep,od⟩|⟨hw,v,a₁,sq,ep,od⟩
   ·obtain⟨n',pre',dn',a',val',M',hv,hp⟩:=ih (M.step hO hi hni hbe ep od (fun _ he=>he) (fun _ _=>Iff.rfl) (fun _ _ _ _ _ _ _ hh=>hh) fun _=>.inl ⟨hw,rfl⟩)
    exact⟨n',pre',dn',a',val',M',fun j hj=>by rw[hv j hj,if_neg (hnS j hj)],hp⟩
   obtain⟨n',pre',dn',a',val',M',hv,hp⟩:=ih (M.step hO hi hni hbe ep od (fun _ he=>List.mem_cons_of_mem _ he) (fun _ _=>Iff.rfl) (fun _ _ _ _ _ _ _ hh=>hh) fun _=>.inr ⟨hw,by simp,sq⟩)
   exact⟨n',pre',dn',a',val',M',fun j hj=>by rw[hv j hj,if_neg (hnS j hj)],hp⟩
  exact⟨n+1,pre,dn,a,val,M,fun _ _=>rfl,.inr ⟨hx,n,rfl,W,hW,hall⟩⟩
theorem Mo.more {S':Nat->Prop}{n:Nat}{pre:List Nat}{dn:Dn}{a:ah}{val:Nat->Value}(M:Mo P ops ms K a₀ S h n pre dn a val)(h1:∀ j,S j->S' j)(h2:∀ j,j ∉ pre->¬ S' j):Mo P ops ms K a₀ S' h n pre dn a val :=
 ⟨M.od,M.len,M.slot,M.slot0,h2,M.closed,fun j o hm hs=>M.pend j o hm fun hh=>hs (h1 j hh)⟩
end
theorem DQ(hg:noGo P=true){ro:Option Nat}{ds:List Deferred}{opsA:Array Oper}{ms:List Nat}{a₀:ah}{K:ah->AW->Prop}{ρ₀:cY}{h₀:AW}{w₀:World}{Q:Exit->Act->World->Prop}
  (hm:d5 opsA.toList []=some ms) (hO:Bh opsA.toList ms) (hback:jR opsA.toList 0=true)
  (hQ:∀ a' h' ρ' act' w',K a' h'->aF ρ' a' act'.tmps.toList->act'.defers=ds->aJ P ρ' h' w'->bE ρ₀ h₀ w₀ ρ' h' w'->Q .normal act' w') :
  ∀ (fuel:Nat) (listed:Array Bool) (act:Act) (w:World) (ρ:cY) (h:AW) (n:Nat) (pre:List Nat) (dn:Dn) (a:ah) (val:Nat->Value),listed.size=opsA.size →
   (∀ i o,dB listed i=true->opsA.toList[i]?=some o->∀ e∈o.after.toList,Region.binds .any e=true->dB listed e.on=true) →
   Mo P opsA.toList ms K a₀ (fun j=>dB listed j=true) h n pre dn a val->aJ P ρ h w->bE ρ₀ h₀ w₀ ρ h w->act.tmps.size=a₀.length->act.defers=ds →
   (∀ j o d,dB listed j=true->opsA.toList[j]?=some o->o.dst=some d->∃ u,act.tmps[d]?=some u/\ay ρ (val j) u) →
   (∀ t x,(∀ j (o:Oper),dB listed j=true->opsA.toList[j]?=some o->o.dst≠some t)->a₀[t]?=some x->∃ u,act.tmps[t]?=some u/\ay ρ x u) →
   ((List.range opsA.size).filter fun i=>!listed.getD i true).length<=fuel->wpAnyIn (fP ro) 0 P .any opsA Q fuel listed act w:=by
 have hgetD:∀ (listed:Array Bool) (i:Nat),i<listed.size->listed.getD i true=dB listed i:=fun listed i hi=>by
  unfold dB
  rw[Array.getD_eq_getD_getElem?,Array.getD_eq_getD_getElem?,Array.getElem?_eq_getElem hi];rfl
 -- when all are listed
 have final:∀ (listed:Array Bool) (act:Act) (w:World) (ρ:cY) (h:AW) (n:Nat) (pre:List Nat) (dn:Dn) (a:ah) (val:Nat->Value),(∀ i,i<opsA.size->dB listed i=true) →
   Mo P opsA.toList ms K a₀ (fun j=>dB listed j=true) h n pre dn a val->aJ P ρ h w->bE ρ₀ h₀ w₀ ρ h w->act.tmps.size=a₀.length->act.defers=ds →
   (∀ j o d,dB listed j=true->opsA.toList[j]?=some o->o.dst=some d->∃ u,act.tmps[d]?=some u/\ay ρ (val j) u) →
   (∀ t x,(∀ j (o:Oper),dB listed j=true->opsA.toList[j]?=some o->o.dst≠some t)->a₀[t]?=some x->∃ u,act.tmps[t]?=some u/\ay ρ x u)->Q .normal act w:=by
  intro listed act w ρ h n pre dn a val hall M HR T hsz hd hs1 hs0
  obtain⟨n',pre',dn',a',val',M',hveq,hhead⟩:=M.on hO
  have hs1':∀ j o d,dB listed j=true->opsA.toList[j]?=some o->o.dst=some d->∃ u,act.tmps[d]?=some u/\ay ρ (val' j) u:=fun j o d hj ho hd'=>by
   rw[hveq j hj];exact hs1 j o d hj ho hd'
  obtain⟨hin,hk⟩:(∀ i o,opsA.toList[i]?=some o->i∈pre')/\K a' h:=by
   rcases hhead with hh|⟨⟨x,o,hx,hnx⟩,_⟩
   ·exact hh
   have hlt:=(List.getElem?_eq_some_iff.1 hx).1
   exact absurd (hall x (by simpa using hlt)) (M'.out x hnx)
  refine hQ a' h ρ act w hk (aF.of_get (by have:=M'.len;simp;omega) fun t x hx=>?_) hd HR T
  rw[Array.getElem?_toList]
  by_cases hex:∃ (j:Nat) (o:Oper),opsA.toList[j]?=some o/\o.dst=some t
  ·obtain⟨j,o,hj,hdj⟩:=hex
   have:=M'.slot j o t (hin j o hj) hj hdj
   rw[this]at hx;simp at hx;subst hx
   exact hs1' j o t (hall j (by simpa using (List.getElem?_eq_some_iff.1 hj).1)) hj hdj
  rw[M'.slot0 t fun j o _ hj hdj=>hex ⟨j,o,hj,hdj⟩]at hx
  exact hs0 t x (fun j o _ hj hdj=>hex ⟨j,o,hj,hdj⟩) hx
 intro fuel
 induction fuel with
 | zero =>
  intro listed act w ρ h n pre dn a val hsize hclosed M HR T hsz hd hs1 hs0 hfuel
  have hnil:((List.range opsA.size).filter fun i=>!listed.getD i true)=[]:=List.eq_nil_of_length_eq_zero (by omega)
  have hall:∀ i,i<opsA.size->dB listed i=true:=fun i hi=>by
   have:=List.filter_eq_nil_iff.1 hnil i (by simpa using hi)
   rw[hgetD listed i (by omega)]at this
   simpa using this
  refine⟨?_,final listed act w ρ h n pre dn a val hall M HR T hsz hd hs1 hs0⟩
  unfold Region.ready
  rw[List.filter_eq_nil_iff]
  intro i hi
  rw[hgetD listed i (by simp at hi;omega),hall i (by simpa using hi)]
  simp
 | succ fuel ih =>
  intro listed act w ρ h n pre dn a val hsize hclosed M HR T hsz hd hs1 hs0 hfuel
  refine⟨fun hready=>?_,fun i hi=>?_⟩
  ·have hall:∀ i,i<opsA.size->dB listed i=true:=by
    intro i
    induction i using Nat.strongRecOn with
    | _ i ihi =>
     intro hi
     cases hb:dB listed i with
     | true=>rfl
     | false =>
      have hin:i∈Region.ready .any opsA listed:=by
       unfold Region.ready
       rw[List.mem_filter]
       refine⟨by simpa using hi,?_⟩
       rw[hgetD listed i (by omega),hb]
       have ho:opsA[i]?=some opsA[i]:=Array.getElem?_eq_getElem hi
       simp only[ho,Option.map_some,Option.getD_some,Bool.not_false,Bool.true_and]
       rw[Array.all_eq_true']
       intro e he
       cases hbe:Region.binds .any e with
       | false=>simp
       | true =>
       have hlt:=d9 hback i opsA[i] (by rw[Array.getElem?_toList];exact ho) e (by simpa using he) hbe
       have:=ihi e.on (by omega) (by omega)
       unfold dB at this
       rw[this];simp
      rw[hready]at hin
      simp at hin
   exact final listed act w ρ h n pre dn a val hall M HR T hsz hd hs1 hs0
  obtain⟨n',pre',dn',a',val',M',hveq,hhead⟩:=M.on hO
  have hs1':∀ j o d,dB listed j=true->opsA.toList[j]?=some o->o.dst=some d->∃ u,act.tmps[d]?=some u/\ay ρ (val' j) u:=fun j o d hj ho hd'=>by
   rw[hveq j hj];exact hs1 j o d hj ho hd'
  clear M hs1 hveq
  -- the operation i stands next
  unfold Region.ready at hi
  rw[List.mem_filter]at hi
  obtain⟨hin,hi⟩:=hi
  have hin:i<opsA.size:=by simpa using hin
  have ho:opsA[i]?=some opsA[i]:=Array.getElem?_eq_getElem hin
  generalize opsA[i]=o at ho
  rw[hgetD listed i (by omega),ho]at hi
  simp only[Option.map_some,Option.getD_some,Bool.and_eq_true,Bool.not_eq_true']at hi
  obtain⟨hnot,hpre⟩:=hi
  rw[Array.all_eq_true']at hpre
  have hoL:opsA.toList[i]?=some o:=by rw[Array.getElem?_toList];exact ho
  have hpreds:∀ e∈o.after.toList,Region.binds .any e=true->dB listed e.on=true:=fun e he hb=>by
   have:=hpre e (by simpa using he)
   rw[hb]at this
   simpa[dB] using this
  have hclose:=gY hm hback (S:=fun j=>dB listed j=true) hclosed
  have hbefore:∀ j,ahead ms i j=true->dB listed j=true:=hclose i o hoL hpreds
  have hafter:∀ j q,opsA.toList[j]?=some q->dB listed j=true->ahead ms j i=false:=fun j q hq hj=>by
   cases hb:ahead ms j i with
   | false=>rfl
   | true =>
    have:=hclose j q hq (hclosed j q hj hq) i hb
    rw[hnot]at this;cases this
  -- what stands in the slots
  let A:ah:=(List.range a₀.length).map fun t=>open Classical in if hx:∃ j o,dB listed j=true/\opsA.toList[j]?=some o/\o.dst=some t then val' (Classical.choose hx) else (a₀[t]?).getD undef
  have hAl:A.length=a₀.length:=by simp[A]
  have hA:∀ t,t<a₀.length->A[t]?=some (open Classical in if hx:∃ j o,dB listed j=true/\opsA.toList[j]?=some o/\o.dst=some t then val' (Classical.choose hx) else (a₀[t]?).getD undef):=fun t ht=>by
   simp only[A,List.getElem?_map]
   rw[List.getElem?_range ht];rfl
  have hA1:∀ j o t,dB listed j=true->opsA.toList[j]?=some o->o.dst=some t->t<a₀.length->A[t]?=some (val' j):=fun j o t hj hjo hjd ht=>by
   rw[hA t ht]
   have hx:∃ j o,dB listed j=true/\opsA.toList[j]?=some o/\o.dst=some t:=⟨j,o,hj,hjo,hjd⟩
   rw[dif_pos hx]
   obtain⟨p,h1,h2,h3⟩:=Classical.choose_spec hx
   rw[hO.once _ j p o t h2 hjo h3 hjd]
  have hA0:∀ t,(∀ j (o:Oper),dB listed j=true->opsA.toList[j]?=some o->o.dst≠some t)->A[t]?=a₀[t]?:=fun t hno=>by
   by_cases ht:t<a₀.length
   ·rw[hA t ht,dif_neg (fun ⟨j,o,h1,h2,h3⟩=>hno j o h1 h2 h3),List.getElem?_eq_getElem ht];rfl
   rw[List.getElem?_eq_none (by rw[hAl];exact Nat.le_of_not_lt ht),List.getElem?_eq_none (Nat.le_of_not_lt ht)]
  have hrelA:aF ρ A act.tmps.toList:=aF.of_get (by simp;omega) fun t x hx=>by
   rw[Array.getElem?_toList]
   have ht:t<a₀.length:=by have:=(List.getElem?_eq_some_iff.1 hx).1;omega
   by_cases hex:∃ j o,dB listed j=true/\opsA.toList[j]?=some o/\o.dst=some t
   ·obtain⟨j,p,h1,h2,h3⟩:=hex
    rw[hA1 j p t h1 h2 h3 ht]at hx
    simp at hx;subst hx
    exact hs1' j p t h1 h2 h3
   have hno:∀ j (o:Oper),dB listed j=true->opsA.toList[j]?=some o->o.dst≠some t:=fun j o h1 h2 h3=>hex ⟨j,o,h1,h2,h3⟩
   rw[hA0 t hno]at hx
   exact hs0 t x hno hx
  -- no other one writes what it looks at
  have hlone:∀ t,t∈dx opsA.toList o->(∀ q oq,opsA.toList[q]?=some oq->oq.dst=some t->ahead ms i q=false)->∀ j (p:Oper),dB listed j=true->opsA.toList[j]?=some p->p.dst≠some t:=fun t ht hno j p hj hjp hjd=>by
   have hne:j≠i:=fun hh=>by subst hh;rw[hnot]at hj;cases hj
   obtain⟨s1,s2⟩:=hO.sorted i o j p t hoL hjp hjd ht hne
   rcases Nat.lt_or_gt_of_ne hne with hlt|hgt
   ·rw[hno j p hjp hjd]at s1;exact absurd (s1 hlt) (by simp)
   rw[hafter j p hjp hj]at s2;exact absurd (s2 hgt) (by simp)
  -- what holds behind it
  have next:∀ (u v:Value) (w':World) (ρ':cY) (h':AW) (n':Nat) (pre':List Nat) (dn':Dn) (a':ah) (val:Nat->Value),ρ.le ρ'->ay ρ' v u->aJ P ρ' h' w'->bE ρ h w ρ' h' w'->val i=v->(∀ j,dB listed j=true->val j=val' j) →
    Mo P opsA.toList ms K a₀ (fun j=>dB (listed.setIfInBounds i true) j=true) h' n' pre' dn' a' val->wpAnyIn (fP ro) 0 P .any opsA Q fuel (listed.setIfInBounds i true) (act.put o.dst u) w':=by
   intro u v w' ρ' h' n' pre' dn' a' val le hv HR' T' hvi hvj M
   have hput:∀ t,(act.put o.dst u).tmps[t]?=if o.dst=some t then (if t<act.tmps.size then some u else none) else act.tmps[t]?:=fun t=>by
    cases hd':o.dst with
    | none=>simp[Act.put]
    | some d =>
     simp only[Act.put,Array.getElem?_setIfInBounds]
     by_cases hdt:d=t
     ·subst hdt;simp
     rw[if_neg hdt,if_neg (fun hh=>hdt (by simpa using hh))]
   refine ih _ _ w' ρ' h' n' pre' dn' a' val (by simpa using hsize) ?_ M HR' (T.trans T') ?_ (by rw[c7];exact hd) ?_ ?_ ?_
   ·intro j q hj hq e he hb
    rw[cJ (by omega)]at hj ⊢
    by_cases hji:j=i
    ·subst hji
     rw[hoL]at hq;simp at hq;subst hq
     rw[hpreds e he hb];simp
    rw[if_neg hji]at hj
    rw[hclosed j q hj hq e he hb];simp
   ·rw[←hsz]
    cases o.dst <;> simp[Act.put]
   ·intro j p d hj hp hpd
    rw[cJ (by omega)]at hj
    by_cases hji:j=i
    ·subst hji
     rw[hoL]at hp;simp at hp;subst hp
     have hlt:d<act.tmps.size:=by
      have hpp:j∈pre':=by
       by_cases hpp:j∈pre'
       ·exact hpp
       exact absurd (by rw[cJ (by omega)];simp) (M.out j hpp)
      have h1:=(List.getElem?_eq_some_iff.1 (M.slot j o d hpp hoL hpd)).1
      rw[M.len,←hsz]at h1
      exact h1
     exact⟨u,by rw[hput,if_pos hpd,if_pos hlt],by rw[hvi];exact hv⟩
    rw[if_neg hji]at hj
    obtain⟨x,hx,hr⟩:=hs1' j p d hj hp hpd
    refine⟨x,?_,by rw[hvj j hj];exact hr.mono le⟩
    rw[hput,if_neg (fun hh=>hji (hO.once j i p o d hp hoL hpd hh))]
    exact hx
   ·intro t x hno hx
    have hdt:o.dst≠some t:=hno i o (by rw[cJ (by omega)];simp) hoL
    obtain⟨y,hy,hr⟩:=hs0 t x (fun j p hj hp=>hno j p (by rw[cJ (by omega),hj];simp) hp) hx
    exact⟨y,by rw[hput,if_neg hdt];exact hy,hr.mono le⟩
   have:=A6 (l:=List.range opsA.size) (p:=fun j=>!listed.getD j true) (q:=fun j=>!(listed.setIfInBounds i true).getD j true) (fun x hx=>by
    rw[Array.getD_eq_getD_getElem?,Array.getElem?_setIfInBounds]at hx
    rw[Array.getD_eq_getD_getElem?]
    by_cases hxi:i=x
    ·subst hxi;rw[if_pos rfl,if_pos (by omega)]at hx;simp at hx
    rwa [if_neg hxi]at hx) ⟨i,by simpa using hin,by rw[hgetD listed i (by omega),hnot];rfl,by
    rw[Array.getD_eq_getD_getElem?,Array.getElem?_setIfInBounds,if_pos rfl,if_pos (by omega)];rfl⟩
   omega
  have hmono:∀ j,dB listed j=true->dB (listed.setIfInBounds i true) j=true:=fun j hj=>by rw[cJ (by omega),hj];simp
  unfold wpOpIn
  rw[ho]
  simp only
  by_cases hb:i∈pre'
  ·-- it has been put off till now
   obtain⟨aj,hl,hlook,hor⟩:=M'.pend i o hb (by rw[hnot];simp) hoL
   have hsame:∀ t,t∈dx opsA.toList o->A[t]?=aj[t]?:=fun t ht=>by
    by_cases hex:∃ q oq,opsA.toList[q]?=some oq/\oq.dst=some t/\ahead ms i q=true
    ·obtain⟨q,oq,h1,h2,h3⟩:=hex
     have e1:=(hlook t ht).1 q oq h1 h2 h3
     have hlt:t<a₀.length:=by have:=(List.getElem?_eq_some_iff.1 e1).1;omega
     rw[e1]
     exact hA1 q oq t (hbefore q h3) h1 h2 hlt
    have hno:∀ q oq,opsA.toList[q]?=some oq->oq.dst=some t->ahead ms i q=false:=fun q oq h1 h2=>by
     cases hb':ahead ms i q with
     | false=>rfl
     | true=>exact absurd ⟨q,oq,h1,h2,hb'⟩ hex
    rw[(hlook t ht).2 hno]
    exact hA0 t (hlone t ht hno)
   have M2:Mo P opsA.toList ms K a₀ (fun j=>dB (listed.setIfInBounds i true) j=true) h n' pre' dn' a' val':=M'.more hmono fun j hjp hj=>by
    rw[cJ (by omega)]at hj
    by_cases hji:j=i
    ·subst hji
     exact hjp hb
    rw[if_neg hji]at hj;exact M'.out j hjp hj
   have hopA:aI P A o h=aI P aj o h:=lS (mc hsame)
   rcases hor with ⟨hw,hv⟩|⟨hw,_,hq⟩
   ·obtain⟨hw,hsure⟩:=qR.1 hw
    rw[←ci hrelA (by rw[fe hsame];exact hsure),dJ hsame,hw,if_neg (by simp)]
    exact⟨fun _ _=>trivial,next undef undef w ρ h n' pre' dn' a' val' (cY.le_refl _) gZ HR (bE.refl _ _ _) hv (fun _ _=>rfl) M2⟩
   rw[←ci hrelA (by rw[fe hsame];exact bL hw),dJ hsame,hw,if_pos rfl]
   rcases hq with hop|⟨f,args,hop,hcq⟩|⟨hvo,r₀,off₀,hvv⟩
   ·obtain⟨n,u,w',ρ',hrun,hn,hv,HR',T'⟩:=cO hrelA HR (by rw[hopA];exact hop)
    have:=next u _ w' ρ' h n' pre' dn' a' val' T'.le hv HR' T' rfl (fun _ _=>rfl) M2
    refine⟨fun _ _=>trivial,?_⟩
    rw[Oper.semAt_eq _ _ _ (b9 hop),hrun]
    rcases hn with rfl|⟨rfl,rfl⟩ <;> exact this
   ·obtain⟨us,hus,hrun⟩:=cO hrelA HR (e:=by rw[hopA];exact hop)
    obtain⟨⟨fn,c,hf,hbd⟩,hcalls⟩:=hcq
    refine⟨fun _ _=>trivial,?_⟩
    rw[Oper.semAt_eq _ _ _ (b9 hop),hrun,er hg hf hbd]
    refine⟨fun hh=>(by cases hh),eY.2 ((hcalls ρ us w hus HR).mono ?_)⟩
    rintro en w₁ ⟨v,h₁,u,ρ₁,rfl,⟨rfl,rfl⟩,hv,H₁,T₁⟩
    exact next u _ w₁ ρ₁ h₁ n' pre' dn' a' val' T₁.le hv H₁ T₁ rfl (fun _ _=>rfl) M2
   obtain⟨t₀,el,n₀,zs,hoo,hu,hn,_,_⟩:=xy hvo
   obtain⟨u,w',ρ',hrun,hv,HR',T'⟩:=ub (r:=r₀) (off:=off₀) (zs:=zs) HR hu hn
   rw[←hvv]at hv
   have:=next u _ w' ρ' h n' pre' dn' a' val' T'.le hv HR' T' rfl (fun _ _=>rfl) M2
   refine⟨fun _ _=>trivial,?_⟩
   rw[Oper.semAt_eq _ _ _ (fun c hc=>by rw[hoo]at hc;cases hc)]
   simp only[execOp,hoo,List.map_toArray,List.map_nil,Sem.run_bind,hrun,Result.andThen_ok,Sem.run_pure]
   exact this
  -- it turns the rows
  rcases hhead with ⟨hallin,_⟩|⟨_,m,_,W,hW,hstep⟩
  ·exact absurd (hallin i o hoL) hb
  have hiW:i∈W:=(hW i o hoL hb).resolve_right fun ⟨i',hi'W,hah⟩=>by
   obtain⟨o'',_,hni',_⟩:=hstep i' hi'W
   exact M'.out i' hni' (hbefore i' hah)
  obtain⟨o',hi',hni,hbe,hw,sw⟩:=hstep i hiW
  rw[hoL]at hi';simp at hi';subst hi'
  have hsame:∀ t,t∈dx opsA.toList o->A[t]?=a'[t]?:=fun t ht=>by
   by_cases hex:∃ q oq,opsA.toList[q]?=some oq/\oq.dst=some t/\ahead ms i q=true
   ·obtain⟨q,oq,h1,h2,h3⟩:=hex
    have e1:=M'.slot q oq t (hbe q h3) h1 h2
    have hlt:t<a₀.length:=by have:=(List.getElem?_eq_some_iff.1 e1).1;have:=M'.len;omega
    rw[e1]
    exact hA1 q oq t (hbefore q h3) h1 h2 hlt
   have hno:∀ q oq,opsA.toList[q]?=some oq->oq.dst=some t->ahead ms i q=false:=fun q oq h1 h2=>by
    cases hb':ahead ms i q with
    | false=>rfl
    | true=>exact absurd ⟨q,oq,h1,h2,hb'⟩ hex
   rw[hA0 t (hlone t ht hno)]
   refine (M'.slot0 t fun j p hbj hjp hjd=>?_).symm
   have hne:j≠i:=fun hh=>by subst hh;exact hb hbj
   obtain⟨s1,s2⟩:=hO.sorted i o j p t hoL hjp hjd ht hne
   rcases Nat.lt_or_gt_of_ne hne with hlt|hgt
   ·rw[hno j p hjp hjd]at s1;exact absurd (s1 hlt) (by simp)
   exact hb (M'.closed j hbj i (s2 hgt))
  have hopA:aI P A o h=aI P a' o h:=lS (mc hsame)
  rw[←ci hrelA (by rw[fe hsame];exact bL hw),dJ hsame,hw,if_pos rfl]
  have go:∀ v h₁ u w' ρ',(∃ a₁,aH a' o.dst v=some a₁/\(∀ e,e∈dn'->ahead ms i e.1=false->∀ p,opsA.toList[e.1]?=some p->fu P e.2.1 p h₁ e.2.2)/\OG P opsA.toList ms K m (i::pre') dn' a₁ h₁) →
    ay ρ' v u->aJ P ρ' h₁ w'->bE ρ h w ρ' h₁ w'->wpAnyIn (fP ro) 0 P .any opsA Q fuel (listed.setIfInBounds i true) (act.put o.dst u) w':=by
   rintro v h₁ u w' ρ' ⟨a₁,ep,hobl,hod⟩ hv HR' T'
   have M2:=M'.step (S':=fun j=>dB (listed.setIfInBounds i true) j=true) hO hoL hni hbe ep hod (fun _ he=>he) (fun j hj=>by rw[cJ (by omega),if_neg hj]) (fun j aj u p hs hm hp _=>hobl _ hm (by
    cases hb':ahead ms i j with
    | false=>rfl
    | true=>exact absurd (hbefore j hb') hs) p hp) (fun hs=>absurd (by rw[cJ (by omega)];simp) hs)
   refine next u v w' ρ' h₁ _ _ _ _ _ T'.le hv HR' T' ?_ ?_ M2
   ·simp
   intro j hj
   have hne:j≠i:=fun hh=>by subst hh;rw[hnot]at hj;cases hj
   simp[hne]
  rcases sw with ⟨v,h₁,hop,hR⟩|⟨f,args,hop,hcq⟩
  ·obtain⟨n,u,w',ρ',hrun,hn,hv,HR',T'⟩:=cO hrelA HR (by rw[hopA];exact hop)
   have:=go v h₁ u w' ρ' hR hv HR' T'
   refine⟨fun _ _=>trivial,?_⟩
   rw[Oper.semAt_eq _ _ _ (b9 hop),hrun]
   rcases hn with rfl|⟨rfl,rfl⟩ <;> exact this
  obtain⟨us,hus,hrun⟩:=cO hrelA HR (e:=by rw[hopA];exact hop)
  obtain⟨⟨fn,c,hf,hbd⟩,hcalls⟩:=hcq
  refine⟨fun _ _=>trivial,?_⟩
  rw[Oper.semAt_eq _ _ _ (b9 hop),hrun,er hg hf hbd]
  refine⟨fun hh=>(by cases hh),eY.2 ((hcalls ρ us w hus HR).mono ?_)⟩
  rintro en w₁ ⟨v,h₁,u,ρ₁,rfl,hR,hv,H₁,T₁⟩
  exact go v h₁ u w₁ ρ₁ hR hv H₁ T₁
theorem LQ.drawn3 {rd:Option Nat}(hg:noGo P=true)(hmix:P.follows .mixedOrders=true){id:Nat}{opsA:Array Oper}{ops:List Oper}{ms:List Nat}{a:ah}{h:AW}{R:b8->ah->AW->Prop}(n:Nat)
  (hl:opsA.toList=ops) (hm:d5 ops []=some ms) (hok:((jE (iA ops)&&jR ops 0)&&ft ms ops ops 0)=true) (k:OG P ops ms (R .normal) n [] [] a h):LQ rd P (.region id opsA true) a h R:=by
 subst hl
 intro n₀ ro ρ act w Q _ hr hd H hQ
 obtain⟨hO,hback⟩:=BZ hm hok
 refine wpIn_region_any hmix ?_
 have hempty:∀ j,dB (Array.replicate opsA.size false) j=false:=fun j=>by
  unfold dB
  rw[Array.getD_eq_getD_getElem?,Array.getElem?_replicate]
  split <;> rfl
 have hw:({ w with drawn:=w.drawn+1 }:World).heap=w.heap:=rfl
 refine DQ (ρ₀:=ρ) (h₀:=h) (w₀:=w) hg hm hO hback (ds:=act.defers) (fun a' h' ρ' act' w' k' b c d t=>hQ .normal a' h' ρ' act' w' k' b (by rw[c];exact hd.turn t) d t) opsA.size _ act _ ρ h n [] [] a (fun _=>undef) (by simp) (fun i o hi=>by rw[hempty]at hi;cases hi)
  ⟨k,rfl,fun j o d hb=>(by simp at hb),fun t _=>rfl,fun j _=>by rw[hempty];simp,fun p hp=>by simp at hp,fun j o hb=>by simp at hb⟩ (H.draw hw) (bE.draw hw rfl rfl rfl (bE.refl _ _ _)) ?_ rfl (fun j o d hj=>by rw[hempty]at hj;cases hj) ?_ ?_
 ·have:=hr.length;simpa using this.symm
 ·intro t x _ hx
  obtain⟨u,hu',hv⟩:=hr.get hx
  rw[Array.getElem?_toList]at hu'
  exact⟨u,hu',hv⟩
 exact Nat.le_trans (List.length_filter_le _ _) (by simp)
end
section
variable{P:Program}{ops:List Oper}{ms:List Nat}{K:ah->RL->Prop}{n:Nat}{pre:List Nat}{dn:Dn}{a a₁:ah}{L L₁:RL}{o:Oper}{v:Value}
def ee(P:Program)(ops:List Oper)(ms:List Nat)(K:ah->RL->Prop)(n:Nat)(pre:List Nat)(dn:Dn)(a:ah)(L:RL):Prop :=
 Bh ops ms->∀ h,bp h L->∀ dn₀:Dn,(∀ e,e∈dn₀->e∈dn∨xm P ops e)->OG P ops ms (fun a' h'=>∃ L',K a' L'/\bp h' L') n pre dn₀ a h
def OT(P:Program)(ops:List Oper)(ms:List Nat)(K:ah->RL->Prop)(n:Nat)(pre:List Nat)(i:Nat)(dn:Dn)(a:ah)(L:RL):Prop :=
 Bh ops ms->∀ h,bp h L->∀ dn₀:Dn,(∀ e,e∈dn₀->e∈dn∨xm P ops e)->∃ o,ops[i]?=some o/\aw ops o a=true/\zN P a o h fun v h₁=>∃ a₁,aH a o.dst v=some a₁ /\
  (∀ e,e∈dn₀->ahead ms i e.1=false->∀ p,ops[e.1]?=some p->fu P e.2.1 p h₁ e.2.2)/\OG P ops ms (fun a' h'=>∃ L',K a' L'/\bp h' L') n (i::pre) dn₀ a₁ h₁
def uy(ops:List Oper)(ms pre:List Nat)(i:Nat):Bool:=(Nat.ble (i+1) ops.length&&!fY pre i)&&(List.range i).all fun j=>!ahead ms i j||fY pre j
variable{i:Nat}
theorem rQ (hO:Bh ops ms)(h:uy ops ms pre i=true):i ∉ pre/\∀ j,ahead ms i j=true->j∈pre:=by
 unfold uy at h
 simp only[Bool.and_eq_true]at h
 obtain⟨⟨h1,h2⟩,h3⟩:=h
 have h1:=bk h1
 refine⟨fun hm=>?_,fun j hj=>?_⟩
 ·rw[cG.2 hm]at h2;cases h2
 have:=List.all_eq_true.1 h3 j (by simpa using hO.back i _ (List.getElem?_eq_getElem (show i<ops.length by omega)) j hj)
 rw[hj]at this
 exact cG.1 (by simpa using this)
def vg(ops:List Oper)(pre:List Nat):Bool:=(List.range ops.length).all fun i=>fY pre i
theorem GF(h:vg ops pre=true):∀ i o,ops[i]?=some o->i∈pre:=fun i o hi=>by
 have:=List.all_eq_true.1 h i (by simpa using (List.getElem?_eq_some_iff.1 hi).1)
 exact cG.1 this
def Bt(ops:List Oper)(ms pre W:List Nat):Bool:=(W.all fun i=>uy ops ms pre i)&&((List.range ops.length).all fun x=>fY pre x||(fY W x||W.any fun i=>ahead ms x i))
theorem ee.nil(hd:vg ops pre=true)(k:K a L):ee P ops ms K 0 pre dn a L:=fun _ h H dn₀ _=>⟨GF hd,L,k,H⟩
theorem ee.pure(i:Nat)(hn:uy ops ms pre i=true)(hi:ops[i]?=some o)(hw:aw ops o a=true)(e:∀ h,aI P a o h=some (.val v h))(ep:aH a o.dst v=some a₁)(k:ee P ops ms K n (i::pre) dn a₁ L):ee P ops ms K (n+1) pre dn a L:=fun hO h H dn₀ hdn=>by
 obtain⟨h1,h2⟩:=rQ hO hn
 simp only[OG]
 refine .inl ⟨i,o,hi,h1,h2,.inr ⟨hw,v,a₁,.inl (e h),ep,k hO h H _ fun e' he=>?_⟩⟩
 rcases List.mem_cons.1 he with rfl|he
 ·exact .inr fun p hp h'=>by simp only at hp;rw[hi]at hp;simp at hp;subst hp;exact .inl (e h')
 exact hdn e' he
theorem ee.read(i:Nat)(hn:uy ops ms pre i=true)(hi:ops[i]?=some o)(hw:aw ops o a=true)(e:∀ h,bp h L->aI P a o h=some (.val v h))(ep:aH a o.dst v=some a₁)(k:ee P ops ms K n (i::pre) ((i,a,v)::dn) a₁ L):ee P ops ms K (n+1) pre dn a L:=fun hO h H dn₀ hdn=>by
 obtain⟨h1,h2⟩:=rQ hO hn
 simp only[OG]
 refine .inl ⟨i,o,hi,h1,h2,.inr ⟨hw,v,a₁,.inl (e h H),ep,k hO h H _ fun e' he=>?_⟩⟩
 rcases List.mem_cons.1 he with rfl|he
 ·exact .inl (by simp)
 exact (hdn e' he).imp (fun h=>List.mem_cons_of_mem _ h) id
theorem ee.turn(W:List Nat)(hW:Bt ops ms pre W=true)(hx:vg ops pre=false)(k:∀ i,i∈W->OT P ops ms K n pre i dn a L):ee P ops ms K (n+1) pre dn a L:=fun hO h H dn₀ hdn=>by
 unfold Bt at hW
 rw[Bool.and_eq_true]at hW
 obtain⟨hW1,hW2⟩:=hW
 simp only[OG]
 refine .inr ⟨?_,W,fun x o hxo hxn=>?_,fun i hi=>?_⟩
 ·unfold vg at hx
  rw[List.all_eq_false]at hx
  obtain⟨x,hx1,hx2⟩:=hx
  have hlt:x<ops.length:=by simpa using hx1
  exact⟨x,_,List.getElem?_eq_getElem hlt,fun hm=>hx2 (cG.2 hm)⟩
 ·have:=List.all_eq_true.1 hW2 x (by simpa using (List.getElem?_eq_some_iff.1 hxo).1)
  rw[Bool.or_eq_true,Bool.or_eq_true]at this
  rcases this with h1|h1|h1
  ·exact absurd (cG.1 h1) hxn
  ·exact .inl (cG.1 h1)
  obtain⟨i,hi,hah⟩:=List.any_eq_true.1 h1
  exact .inr ⟨i,hi,hah⟩
 obtain⟨h1,h2⟩:=rQ hO (List.all_eq_true.1 hW1 i hi)
 obtain⟨o,ho,hw,sw⟩:=k i hi hO h H dn₀ hdn
 exact⟨o,ho,h1,h2,hw,sw⟩
theorem ee.turn1(i:Nat)(hW:Bt ops ms pre [i]=true)(hx:vg ops pre=false)(k:OT P ops ms K n pre i dn a L):ee P ops ms K (n+1) pre dn a L :=
 ee.turn [i] hW hx fun j hj=>by rw[List.mem_singleton]at hj;subst hj;exact k
theorem ee.turn2(i j:Nat)(hW:Bt ops ms pre [i,j]=true)(hx:vg ops pre=false)(ki:OT P ops ms K n pre i dn a L)(kj:OT P ops ms K n pre j dn a L):ee P ops ms K (n+1) pre dn a L :=
 ee.turn [i,j] hW hx fun m hm=>by
  rcases List.mem_cons.1 hm with rfl|hm
  ·exact ki
  rw[List.mem_singleton]at hm;subst hm;exact kj
theorem ee.sub(s:ar L₁ L)(k:ee P ops ms K n pre dn a L₁):ee P ops ms K n pre dn a L:=fun hO h H=>k hO h (s.has H)
theorem OT.write (hi:ops[i]?=some o)(hw:aw ops o a=true)(e:∀ h,bp h L->∃ h₁,aI P a o h=some (.val v h₁)/\bp h₁ L₁)(ep:aH a o.dst v=some a₁)(hk:ai P ops ms i dn L₁)(k:ee P ops ms K n (i::pre) dn a₁ L₁):OT P ops ms K n pre i dn a L:=fun hO h H dn₀ hdn=>by
 obtain⟨h₁,e₁,H₁⟩:=e h H
 exact⟨o,hi,hw,.inl ⟨v,h₁,e₁,a₁,ep,mP hdn hk H₁,k hO h₁ H₁ dn₀ hdn⟩⟩
theorem OT.fresh {V:Nat->Value}{A:Nat->ah}{M:Nat->RL}(hi:ops[i]?=some o)(hw:aw ops o a=true)(e:∀ h,bp h L->∃ r h₁,aI P a o h=some (.val (V r) h₁)/\bp h₁ (M r))(ep:∀ r,aH a o.dst (V r)=some (A r))(hk:∀ r,ai P ops ms i dn (M r))(k:∀ r,ee P ops ms K n (i::pre) dn (A r) (M r)):OT P ops ms K n pre i dn a L:=fun hO h H dn₀ hdn=>by
 obtain⟨r,h₁,e₁,H₁⟩:=e h H
 exact⟨o,hi,hw,.inl ⟨_,h₁,e₁,A r,ep r,mP hdn (hk r) H₁,k r hO h₁ H₁ dn₀ hdn⟩⟩
variable{f:FuncId}{args:List Value}
theorem OT.call (hi:ops[i]?=some o)(hw:aw ops o a=true)(e:∀ h,aI P a o h=some (.call f args))(hc:CS P f args L fun v L₁=>∃ a₁,aH a o.dst v=some a₁/\ai P ops ms i dn L₁/\ee P ops ms K n (i::pre) dn a₁ L₁):OT P ops ms K n pre i dn a L:=fun hO h H dn₀ hdn=>by
 refine⟨o,hi,hw,.inr ⟨f,args,e h,(hc h H).mono ?_⟩⟩
 rintro v h₁ ⟨L₁,⟨a₁,ep,hk,k⟩,H₁⟩
 exact⟨a₁,ep,mP hdn hk H₁,k hO h₁ H₁ dn₀ hdn⟩
theorem LS.forked {rd:Option Nat}(hg:noGo P=true)(hmix:P.follows .mixedOrders=true){id:Nat}{opsA:Array Oper}{R:b8->ah->RL->Prop}(n:Nat)(hl:opsA.toList=ops)(hm:d5 ops []=some ms)(hok:((jE (iA ops)&&jR ops 0)&&ft ms ops ops 0)=true)(k:ee P ops ms (R .normal) n [] [] a L):jV rd P (.region id opsA true) a L R :=
 fun h H=>LQ.drawn3 hg hmix n hl hm hok (k (BZ hm hok).1 h H [] fun _ he=>(by cases he))
end
end Go.Am
end
section
namespace Go.Am
section
variable{P:Program}
variable{ρ:cY}{h₁:AW}
theorem aJ.widen {h:AW}{w:World}{r n sz:Nat}{e:TypeId}{cs:List Value}{l:jU}{c:Nat}(H:aJ P ρ h w)(hg:h.get r=some (.cells e cs))(hl:ρ r=some l)(hs:aB P e=some sz)(hc:0+c*l.esz<=l.ext)(hn:cs.length=n*sz)(hnc:n<=c)
  (hp:h.put r (some (.cells e (cs++List.replicate ((c-n)*sz) (.chan none))))=some h₁):aJ P ρ h₁ w:=by
 obtain⟨hget,hnx,hst⟩:=jh hp
 refine⟨fun m row hm=>?_,?_,by rw[hnx,hst];exact H.fresh,by rw[hst];exact H.step⟩
 ·rw[hget]at hm
  split at hm
  ·simp only[Option.some.injEq]at hm
   subst hm;subst_vars
   obtain⟨l',hl',C,f,h1,h2,h3,h4,h5,h6⟩:=H.loc _ _ hg
   rw[hl]at hl';simp only[Option.some.injEq]at hl';subst hl'
   have hesz:l.esz=sz:=by have:=h5.size;rw[hs]at this;simpa using this.symm
   have hmul:n*sz+(c-n)*sz=c*sz:=by rw[←Nat.add_mul];congr 1;omega
   rw[hesz]at hc
   refine⟨l,hl,C,f,h1,h2,by simp;omega,h4,h5,fun i v hv=>?_⟩
   by_cases hi:i<cs.length
   ·rw[List.getElem?_append_left hi]at hv;exact h6 i v hv
   rw[List.getElem?_append_right (by omega),List.getElem?_replicate]at hv
   split at hv
   ·simp only[Option.some.injEq]at hv;subst hv
    have hlt:l.base+i<C.size:=by omega
    exact⟨C[l.base+i],Array.getElem?_eq_getElem hlt,.any _⟩
   cases hv
  exact H.loc m row hm
 intro a b rowa rowb la lb ha hb hla hlb hab hown
 rw[hget]at ha hb
 have key:∀ m row,(if m=r then some (aG.cells e (cs++List.replicate ((c-n)*sz) (.chan none))) else h.get m)=some row->∃ row',h.get m=some row'/\(row.own=true->row'.own=true):=fun m row hm=>by
  split at hm
  ·subst_vars;exact⟨_,hg,fun _=>rfl⟩
  exact⟨_,hm,id⟩
 obtain⟨_,ha',oa⟩:=key _ _ ha
 obtain⟨_,hb',ob⟩:=key _ _ hb
 exact H.inj a b _ _ la lb ha' hb' hla hlb hab (hown.imp oa ob)
variable{ρ':cY}{h':AW}
theorem bE.widen {h:AW}{w w':World}{r:Nat}{row row₁:aG}(hg:h.get r=some row)(ho:row.own=true)(hp:h.put r (some row₁)=some h₁)(T:bE ρ h₁ w ρ' h' w'):bE ρ h w ρ' h' w':=by
 obtain⟨hget,hnx,hst⟩:=jh hp
 refine⟨T.le,T.os,T.tape,T.output,T.size,fun m row' l hm hmo hl hlt=>?_,fun k hk hno=>T.keep k hk fun m row' l hm hmo hl=>?_,fun m l hm=>?_,?_,by rw[T.steps,hst]⟩
 ·obtain⟨r₀,row₀,l₀,a,b,c,d⟩:=T.own m row' l hm hmo hl hlt
  rw[hget]at a
  split at a
  ·subst_vars;exact⟨_,_,l₀,hg,ho,c,d⟩
  exact⟨r₀,row₀,l₀,a,b,c,d⟩
 ·rw[hget]at hm
  split at hm
  ·subst_vars;exact hno _ _ l hg ho hl
  exact hno m row' l hm hmo hl
 ·rcases T.new m l hm with h1|⟨j,hj⟩
  ·exact .inl h1
  exact .inr ⟨j,by rw[hj,hnx,hst]⟩
 obtain⟨j,hj⟩:=T.next
 exact⟨j,by rw[hj,hnx,hst]⟩
abbrev junk(n:Nat):List Value:=List.replicate n (.chan none)
variable{f:FuncId}{r n sz:Nat}{e:TypeId}{cs args:List Value}{L:RL}{R:Value->RL->Prop}
theorem CS.reveal (hs:aB P e=some sz)(hn:cs.length=n*sz)
  (k:∀ c,n<=c->c<ae->CS P f (.slice (some ⟨r,0,none⟩) n c::args) ((r,.cells e (cs++junk ((c-n)*sz)))::L) R) (hnb:n<ae):CS P f (.slice (some ⟨r,0,none⟩) n ae::args) ((r,.cells e cs)::L) R:=by
 intro h H
 have hg:h.get r=some (.cells e cs):=H.get (r,_) (List.mem_cons_self ..)
 have put:∀ c,∃ h₁,h.put r (some (.cells e (cs++junk ((c-n)*sz))))=some h₁/\bp h₁ ((r,.cells e (cs++junk ((c-n)*sz)))::L):=fun c=>by
  obtain⟨h₁,e₁⟩:=h.put_some r (some (.cells e (cs++junk ((c-n)*sz))))
  exact⟨h₁,e₁,H.put (i:=0) rfl e₁⟩
 refine⟨?_,fun ρ us w hus HR=>?_⟩
 ·obtain⟨h₁,e₁,H₁⟩:=put n
  exact (k n (Nat.le_refl _) hnb h₁ H₁).1
 cases hus with
 | cons h1 h2 =>
 cases h1 with
 | @slice _ _ _ _ cap' a hl hc ha =>
 obtain⟨l,hlr,hrow⟩:=HR.loc r _ hg
 have hcap:∃ c,c=cap'/\c<ae/\aJ P ρ h w/\(0+c*l.esz<=l.ext):=by
  by_cases hz:cap'=0
  ·subst hz;exact⟨0,rfl,by decide,HR,by omega⟩
  obtain⟨l',e1,e2,e3⟩:=ha hz
  rw[hlr]at e1;simp only[Option.some.injEq]at e1;subst e1
  obtain⟨e3,e4⟩:=e3 rfl
  exact⟨cap',rfl,e4,HR,e3⟩
 obtain⟨c,rfl,hco,_,hext⟩:=hcap
 obtain⟨h₁,e₁,H₁⟩:=put c
 have HR₁:=HR.widen hg hlr hs hext hn hl e₁
 refine ((k c hl hco h₁ H₁).2 ρ _ w (.cons (.slice hl (fun _=>rfl) fun hz=>?_) h2) HR₁).mono ?_
 ·obtain⟨l',e1,e2,e3⟩:=ha hz
  exact⟨l',e1,e2,fun hh=>by omega⟩
 rintro en w' ⟨v,h',u,ρ',e1,e2,e3,e4,T⟩
 exact⟨v,h',u,ρ',e1,e2,e3,e4,T.widen hg rfl e₁⟩
section
variable{o:Oper}{a a₁:ah}{L L₁:RL}{x y z:Operand}{t z':TypeId}
theorem Jp {c:Call}{n cap:Nat}{base:Option Addr}{tm e:TypeId}(ho:o.op=.call c)(hc:c.callee=.builtin .cap)(ha:ky a c.args.toList=some [.slice base n cap])(ht:c.argTypes[0]?=some tm)(hu:P.underlying tm=some (.slice e))(hne:cap<ae):∀ h,aI P a o h=some (.val (.int .i64 (cap:Nat)) h):=by
 intro h
 have hb:Nat.beq cap ae=false:=aK (by omega)
 simp only[aI,ho,ha,bB,hc,IR,ht,hu,hb,ret,goInt]
theorem Ct(i:Nat){c:Call}{n cap r off:Nat}{tm e e':TypeId}{cs cs' zs:List Value}{sz:Nat}(ho:o.op=.call c)(hc:c.callee=.builtin .clear)(ha:ky a c.args.toList=some [.slice (some ⟨r,off,none⟩) n cap])(ht:c.argTypes[0]?=some tm)(hu:P.underlying tm=some (.slice e))
  (hn:1<=n) (hL:L[i]?=some (r,.cells e' cs)) (hz:dU P e=some zs) (hs:aB P e=some sz) (hzl:zs.length=sz) (hs1:1<=sz) (hone:aM (gj zs n)=true) (hlay:kO cs off (gj zs n)=some cs') (hset:jx L i (r,.cells e' cs')=some L₁) :
  ∀ h,bp h L->∃ h₁,aI P a o h=some (.val (.tuple #[]) h₁)/\bp h₁ L₁:=by
 intro h H
 obtain⟨h₁,e₁⟩:=h.put_some r (some (.cells e' cs'))
 have:=eN hset
 subst this
 have h0:Nat.beq n 0=false:=aK (by omega)
 have hz1:Nat.beq zs.length sz=true:=bo hzl
 have hs2:Nat.ble 1 sz=true:=Nat.ble_eq_true_of_le hs1
 refine⟨h₁,?_,H.put hL e₁⟩
 have e:ti P c.argTypes [.slice (some ⟨r,off,none⟩) n cap] h=some (.tuple #[],h₁):=by
  unfold ti
  simp only[ht,hu,h0,H.row hL,hz,hs,hz1,hs2,Bool.and_self,wb,hone,hlay,e₁]
 simp only[aI,ho,ha,bB,hc,e,fx]
variable{op:BinOp}
theorem K2 {b:Bool}(hop:(op=.eql/\b=false)∨(op=.neq/\b=true)){r r' off off' n:Nat}{e e' el:TypeId}{cs cs':List Value}(ho:o.op=.binOp op t x y z')(hx:aX a x=some (.pointer (some ⟨r,off,none⟩)))(hy:aX a y=some (.pointer (some ⟨r',off',none⟩)))(hu:P.underlying t=some (.pointer el))(hz:aB P el=some (n+1))
  (h1:(r,.cells e cs)∈L) (h2:(r',.cells e' cs')∈L) (hne:r≠r') (u1:jo P e=false) (u2:jo P e'=false):∀ h,bp h L->aI P a o h=some (.val (.bool b) h):=by
 intro h H
 have g1:bm h r=some (e,cs):=by unfold bm;rw[H.get _ h1]
 have g2:bm h r'=some (e',cs'):=by unfold bm;rw[H.get _ h2]
 have hb:Nat.beq r r'=false:=aK hne
 have hq:zS P 100 t (.pointer (some ⟨r,off,none⟩)) (.pointer (some ⟨r',off',none⟩))=none:=by simp only[zS,hu,hb,Bool.false_and]
 have h2':xB P t (.pointer (some ⟨r,off,none⟩)) (.pointer (some ⟨r',off',none⟩)) h=true:=by simp only[xB,hu,g1,g2,hz,hb,u1,u2,Bool.not_false,Bool.and_self]
 rcases hop with ⟨rfl,rfl⟩|⟨rfl,rfl⟩
 ·simp only[aI,ho,hx,hy,fN,iH,hq,h2',ret]
 simp only[aI,ho,hx,hy,fN,iH,hq,h2',ret]
end
def Hk(P:Program)(f:FuncId)(args:List Value)(v:Value)(h:AW):Prop :=
 ∃ fn ex,P.funcs[f]?=some fn/\(fn.name == "runtime.NumGoroutine")=false/\fn.body.isNone=true/\Extern.findNext fn=none/\Extern.find fn=some ex/\∀ (ρ:cY) us w,aF ρ args us->aJ P ρ h w->∃ u,(ex ⟨us⟩).run P w=.ok u w/\ay ρ v u
variable{ops rest:List Oper}{o:Oper}{a a₁:ah}
theorem OQ.extH {h:AW}{v:Value}{K:ah->AW->Prop}{f:FuncId}{args:List Value}(hx:Hk P f args v h)(hw:aw ops o a=true)(e:aI P a o h=some (.call f args))(ep:aH a o.dst v=some a₁)(k:OQ P ops rest a₁ h K):OQ P ops (o::rest) a h K:=by
 intro ro ds opsA i ρ act w Q ho hd hr hdf H hQ
 obtain⟨hoi,hrest⟩:=gX ho hd
 simp only[List.length_cons,List.range'_succ,wpOpsIn,hoi]
 rw[←ci hr (by rw[ho];exact bL hw),ho,hw,if_pos rfl]
 obtain⟨us,hus,hrun⟩:=cO hr H e
 obtain⟨fn,ex,hf,hname,hb,hn,he,hx⟩:=hx
 obtain⟨u,hex,hv⟩:=hx ρ us w hus H
 have hnext:=k ro _ _ _ _ _ _ Q ho hrest (fk ep hr hv) (by rw[c7];exact hdf) H hQ
 refine⟨fun _ _=>trivial,?_⟩
 rw[Oper.semAt_eq _ _ _ (b9 e),hrun,run_callFunc_extern hf hname hb hn he,hex]
 exact hnext
variable{K:ah->RL->Prop}{v:Value}
theorem OS.extH (hx:∀ h,bp h L->Hk P f args v h)(hw:aw ops o a=true)(e:∀ h,aI P a o h=some (.call f args))(ep:aH a o.dst v=some a₁)(k:OS P ops rest a₁ L K):OS P ops (o::rest) a L K :=
 fun h H=>OQ.extH (hx h H) hw (e h) ep (k h H)
theorem oj {fn:Func}{tS tR e e₁ e₂:TypeId}{L:RL}{r r' o o' n n' c c' sz:Nat}{cs cs':List Value}(hf:P.funcs[f]?=some fn)(hname:(fn.name == "runtime.NumGoroutine")=false) (hb:fn.body.isNone=true) (hn:Extern.findNext fn=none)
  (he:Extern.find fn=some (Extern.SlicesOverlaps.overlaps #[tS,tS] #[tR])) (hu:P.underlying tS=some (.slice e)) (hz:aB P e=some sz) (h1:(r,.cells e₁ cs)∈L) (h2:(r',.cells e₂ cs')∈L) (hne:r≠r') (u1:jo P e₁=false) (u2:jo P e₂=false) (hn1:1<=n) (hn2:1<=n') (hne':cs'≠[]) :
  ∀ h,bp h L->Hk P f [.slice (some ⟨r,o,none⟩) n c,.slice (some ⟨r',o',none⟩) n' c'] (.bool false) h:=by
 intro h H
 refine⟨fn,_,hf,hname,hb,hn,he,fun ρ us w hus HR=>?_⟩
 have g1:bm h r=some (e₁,cs):=by unfold bm;rw[H.get _ h1]
 have g2:bm h r'=some (e₂,cs'):=by unfold bm;rw[H.get _ h2]
 obtain⟨l,C,f1,hl,hb1,hf1,a1,a2,_⟩:=HR.at_plain g1 u1
 obtain⟨l',C',f2,hl',hb2,hf2,b1,b2,_⟩:=HR.at_plain g2 u2
 have hblk:l.block≠l'.block:=fun hh=>hne (HR.inj r r' _ _ l l' (cw g1) (cw g2) hl hl' hh (.inl rfl))
 cases hus with
 | cons p1 hus =>
 cases hus with
 | cons p2 hus =>
 cases hus
 cases p1 with
 | @slice _ _ _ _ k1 ad1 q1 q2 q3 =>
 cases p2 with
 | @slice _ _ _ _ k2 ad2 s1 s2 s3 =>
 obtain⟨l₁,t1,t2,_⟩:=q3 (by omega)
 obtain⟨l₂,t3,t4,_⟩:=s3 (by omega)
 rw[hl]at t1;rw[hl']at t3
 simp only[Option.some.injEq]at t1 t3
 subst t1;subst t3;subst t2;subst t4
 have hsa:w.shape? l.block=some (e₁,C.size):=by simp[World.shape?,hb1]
 have hsb:w.shape? l'.block=some (e₂,C'.size):=by simp[World.shape?,hb2]
 have hk:C'.size≠0:=by
  have:0<cs'.length:=List.length_pos_iff.2 hne'
  omega
 refine⟨.bool false,?_,.bool _⟩
 exact Lib.run_overlaps_apart w tS tR e hu sz (bw hz) _ _ _ _ _ _ hblk _ _ _ _ hsa hsb hk (iw hb1 hf1) (iw hb1 hf1)
end
end Go.Am
end
section
namespace Go.Proofs.YtoaojmobnbbnmaaGreat
def iM(u:Nat):List UInt8:=if u<128 then [UInt8.ofNat u] else UInt8.ofNat (u%128+128)::iM (u/128)
termination_by u
decreasing_by omega
variable{u:Nat}
theorem km (h:u<128):iM u=[UInt8.ofNat u]:=by rw[iM,if_pos h]
theorem sJ (h:128<=u):iM u=UInt8.ofNat (u%128+128)::iM (u/128):=by rw[iM,if_neg (by omega)]
theorem og(u:Nat):0<(iM u).length:=by
 by_cases h:u<128
 ·rw[km h];simp
 rw[sJ (by omega)];simp
theorem J3(u:Nat):iM u≠[]:=fun h=>by have:=og u;rw[h]at this;simp at this
variable{n:Nat}
theorem dD (h:n<256):(UInt8.ofNat n).toNat=n:=by simp;omega
variable{k:Nat}
theorem ko (hk:0<k)(h:u<128^k):(iM u).length<=k:=by
 induction k generalizing u with
 | zero=>omega
 | succ k ih =>
  by_cases hu:u<128
  ·rw[km hu];simp
  rw[sJ (by omega)]
  have hk0:0<k:=by
   rcases Nat.eq_zero_or_pos k with h0|h0
   ·subst h0;simp at h;omega
   exact h0
  have:u/128<128^k:=by rw[Nat.div_lt_iff_lt_mul (by omega)];rw[Nat.pow_succ]at h;exact h
  have:=ih hk0 this
  simp;omega
def Hm(i u:Nat):List UInt8->Nat×Nat
 | []=>(0,0)
 | c::r =>
  if i=9/\1<c.toNat then (0,0)
  else if 128<=c.toNat then Hm (i+1) (u+c.toNat%128*128^i) r
  else if c.toNat=0/\0<i then (0,0)
  else (u+c.toNat%128*128^i,i+1)
def t7(bs:List UInt8):Nat×Nat:=Hm 0 0 bs
theorem Dj:(128:Nat)^9=9223372036854775808:=by decide
theorem Gd(bs:List UInt8):∀ i u m,i<=9->u<128^i->m*128^i+u<18446744073709551616->iM m <+: bs->(i=0∨m≠0)->Hm i u bs=(m*128^i+u,i+(iM m).length):=by
 induction bs with
 | nil =>
  intro i u m _ _ _ hp _
  exact absurd (List.prefix_nil.1 hp) (J3 m)
 | cons c r ih =>
  intro i u m hi hu hm hp h0
  by_cases hlt:m<128
  ·rw[km hlt]at hp ⊢
   have hc:c=UInt8.ofNat m:=(List.cons_prefix_cons.1 hp).1.symm
   have hn:c.toNat=m:=by rw[hc,dD (by omega)]
   unfold Hm
   rw[hn,if_neg,if_neg (by omega),if_neg (by omega),Nat.mod_eq_of_lt hlt]
   ·simp[Nat.add_comm]
   rintro ⟨rfl,h⟩
   rw[Dj]at hm
   omega
  rw[sJ (by omega)]at hp ⊢
  obtain⟨hc,hp'⟩:=List.cons_prefix_cons.1 hp
  have hn:c.toNat=m%128+128:=by rw[←hc,dD (by omega)]
  have hi9:i≠9:=by
   rintro rfl
   rw[Dj]at hm
   omega
  have e:c.toNat%128=m%128:=by omega
  have hpow:128^(i+1)=128^i*128:=Nat.pow_succ ..
  have key:m/128*128^(i+1)+(u+m%128*128^i)=m*128^i+u:=by
   rw[hpow]
   have h1:m/128*(128^i*128)=(m/128*128)*128^i:=by rw[Nat.mul_comm (128^i) 128,Nat.mul_assoc]
   rw[h1]
   have h2:(m/128*128)*128^i+m%128*128^i=m*128^i:=by rw[←Nat.add_mul];congr 1;omega
   omega
  have hu':u+m%128*128^i<128^(i+1):=by
   rw[hpow]
   have:m%128*128^i<=127*128^i:=Nat.mul_le_mul_right _ (by omega)
   omega
  unfold Hm
  rw[if_neg (by omega),if_pos (by omega),e,ih (i+1) _ (m/128) (by omega) hu' (by rw[key];exact hm) hp' (.inr (by omega)),key]
  simp;omega
theorem Iv(bs:List UInt8):∀ i u,i<=9->u<128^i->Hm i u bs=(0,0) ∨
  ∃ m,iM m <+: bs/\Hm i u bs=(m*128^i+u,i+(iM m).length)/\m*128^i+u<18446744073709551616/\(i=0∨m≠0):=by
 induction bs with
 | nil=>intro i u _ _;exact .inl rfl
 | cons c r ih =>
  intro i u hi hu
  have hcb:=c.toNat_lt
  unfold Hm
  by_cases h1:i=9/\1<c.toNat
  ·rw[if_pos h1];exact .inl rfl
  rw[if_neg h1]
  have hpow:128^(i+1)=128^i*128:=Nat.pow_succ ..
  have hmul:c.toNat%128*128^i<=127*128^i:=Nat.mul_le_mul_right _ (by omega)
  have hp9:128^i<=128^9:=Nat.pow_le_pow_right (by omega) hi
  by_cases h2:128<=c.toNat
  ·rw[if_pos h2]
   have hi9:i≠9:=by omega
   rcases ih (i+1) (u+c.toNat%128*128^i) (by omega) (by rw[hpow];omega) with h|⟨m,hp,he,hlt,hm⟩
   ·exact .inl h
   right
   have hm0:m≠0:=by omega
   have hg:iM (m*128+c.toNat%128)=c::iM m:=by
    rw[sJ (by omega)]
    congr 1
    ·apply UInt8.toNat_inj.1
     rw[dD (by omega)]
     omega
    congr 1;omega
   have key:(m*128+c.toNat%128)*128^i+u=m*128^(i+1)+(u+c.toNat%128*128^i):=by
    rw[hpow,Nat.add_mul,Nat.mul_assoc,Nat.mul_comm 128 (128^i)]
    omega
   refine⟨m*128+c.toNat%128,?_,?_,by rw[key];exact hlt,.inr (by omega)⟩
   ·rw[hg];exact List.cons_prefix_cons.2 ⟨rfl,hp⟩
   rw[he,key,hg];simp;omega
  rw[if_neg h2]
  by_cases h3:c.toNat=0/\0<i
  ·rw[if_pos h3];exact .inl rfl
  rw[if_neg h3]
  right
  refine⟨c.toNat,?_,?_,?_,by omega⟩
  ·rw[km (by omega)]
   refine List.cons_prefix_cons.2 ⟨?_,List.nil_prefix⟩
   apply UInt8.toNat_inj.1
   rw[dD (by omega)]
  ·rw[km (by omega),Nat.mod_eq_of_lt (by omega)];simp[Nat.add_comm]
  rw[Dj]at hp9
  by_cases hi9:i=9
  ·subst hi9
   rw[Dj]at *
   have:c.toNat*9223372036854775808<=1*9223372036854775808:=Nat.mul_le_mul_right _ (by omega)
   omega
  have h8:128^i<=128^8:=Nat.pow_le_pow_right (by omega) (by omega)
  have:c.toNat*128^i<=127*128^8:=Nat.mul_le_mul (by omega) h8
  have e8:(128:Nat)^8=72057594037927936:=by decide
  rw[e8]at this h8
  omega
variable{bs:List UInt8}
theorem Gb (hu:u<18446744073709551616)(hp:iM u <+: bs):t7 bs=(u,(iM u).length):=by
 have:=Gd bs 0 0 u (by omega) (by simp) (by simpa using hu) hp (.inl rfl)
 simpa[t7] using this
theorem wP(bs:List UInt8):t7 bs=(0,0)∨∃ u,iM u <+: bs/\t7 bs=(u,(iM u).length)/\u<18446744073709551616:=by
 rcases Iv bs 0 0 (by omega) (by simp) with h|⟨m,hp,he,hlt,_⟩
 ·exact .inl h
 exact .inr ⟨m,hp,by simpa[t7] using he,by simpa using hlt⟩
theorem J6(bs:List UInt8):(t7 bs).1<18446744073709551616:=by
 rcases wP bs with h|⟨u,_,h,hl⟩
 ·rw[h];decide
 rw[h];exact hl
theorem Iu(bs:List UInt8):(t7 bs).2<=bs.length:=by
 rcases wP bs with h|⟨u,hp,h,hl⟩
 ·rw[h];simp
 rw[h];exact hp.length_le
theorem DG(bs:List UInt8):(t7 bs).2<=10:=by
 rcases wP bs with h|⟨u,hp,h,hl⟩
 ·rw[h];simp
 rw[h];exact ko (by omega) (by omega)
def gI(bs:List UInt8)(most:Int):Nat×Nat:=if 0<=most/\((t7 bs).1:Int)<=most/\(t7 bs).1<=2147483647 then t7 bs else (0,0)
variable{most:Int}
theorem w8 (h0:0<=most)(h1:((t7 bs).1:Int)<=most)(h2:(t7 bs).1<=2147483647):gI bs most=t7 bs:=if_pos ⟨h0,h1,h2⟩
theorem GU (h:most<0∨most<((t7 bs).1:Int)∨2147483647<(t7 bs).1):gI bs most=(0,0):=if_neg (by omega)
theorem GW(bs:List UInt8)(most:Int):(gI bs most).1<=2147483647/\(gI bs most).2<=10/\(gI bs most).2<=bs.length:=by
 unfold gI
 split
 ·exact⟨by omega,DG bs,Iu bs⟩
 simp
def ni(bs:List UInt8)(most:Int):List UInt8×Nat :=
 if (gI bs most).2=0∨bs.length<(gI bs most).2+(gI bs most).1 then ([],0)
 else ((bs.drop (gI bs most).2).take (gI bs most).1,(gI bs most).2+(gI bs most).1)
theorem EU {m hd:Nat}(h:gI bs most=(m,hd)):ni bs most=if hd=0∨bs.length<hd+m then ([],0) else ((bs.drop hd).take m,hd+m):=by
 unfold ni
 rw[h]
def pC:List UInt8->Bool×Nat
 | []=>(false,0)
 | c::_=>if 1<c.toNat then (false,0) else (c==1,1)
end Go.Proofs.YtoaojmobnbbnmaaGreat
end
