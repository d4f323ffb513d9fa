/- What the proofs lean on, part 6. -/
import Derived.Test.YtoaojmobnbbnmaaGreatN5
set_option linter.all false
set_option maxRecDepth 20000
set_option maxHeartbeats 1000000
namespace Go.Proofs.YtoaojmobnbbnmaaGreat
open Go.Am
def iT(k to:Tx):Bool:=decide (to=[])||aq k to
def KJ(fr to:Tx)(p:Pr):Bool:=qg fr p.1&&iT p.1 to
def eR(fr to:Tx)(P:List Pr):List Pr:=P.filter (KJ fr to)
section
variable{fr to:Tx}{A B P:List Pr}
theorem nG:eR fr to (A++B)=eR fr to A++eR fr to B:=List.filter_append ..
theorem EY(h:tK fr P):eR fr to P=[]:=ic fun p hp=>by
 have:qg fr p.1=false:=lU.2 (h p hp)
 unfold KJ;rw[this];rfl
theorem Ks {k k':Tx}(h:qg k k'=true)(hb:iT k to=false):iT k' to=false:=by
 unfold iT at hb ⊢
 rw[Bool.or_eq_false_iff]at hb ⊢
 refine⟨hb.1,?_⟩
 have h1:=qt.1 hb.2
 cases h2:aq k' to with
 | false=>rfl
 | true =>
  have h3:=FI h2 h1
  have h4:=lU.2 h3
  rw[h]at h4;cases h4
theorem EZ {k:Tx}(h:∀ p∈P,qg k p.1=true)(hb:iT k to=false):eR fr to P=[]:=ic fun p hp=>by
 unfold KJ;rw[Ks (h p hp) hb,Bool.and_false]
end
variable{fr:Tx}
theorem yD {to:Tx}{ks vs:List Tx}{i:Nat}(hr:rise [] ks=true)(hl:vs.length=ks.length)(h1:ag fr ks<=i)(h2:i<=ks.length)(hin:∀ j k,ag fr ks<=j->j<i->ks[j]?=some k->iT k to=true)(hout:∀ k,ks[i]?=some k->iT k to=false) :
  eR fr to (ks.zip vs)=((ks.zip vs).drop (ag fr ks)).take (i-ag fr ks):=by
 have hz:(ks.zip vs).length=ks.length:=by rw[List.length_zip];omega
 have hget:∀ (j:Nat) (p:Pr),(ks.zip vs)[j]?=some p->ks[j]?=some p.1:=fun j p hp=>by
  obtain⟨hj,rfl⟩:=List.getElem?_eq_some_iff.1 hp
  rw[List.getElem_zip]
  exact List.getElem?_eq_getElem (by omega)
 have e:ks.zip vs=(ks.zip vs).take (ag fr ks)++(((ks.zip vs).drop (ag fr ks)).take (i-ag fr ks)++(ks.zip vs).drop i):=by
  have e1:(ks.zip vs).drop i=((ks.zip vs).drop (ag fr ks)).drop (i-ag fr ks):=by rw[List.drop_drop];congr 1;omega
  rw[e1,List.take_append_drop,List.take_append_drop]
 conv=>lhs;rw[e,nG,nG]
 have a1:eR fr to ((ks.zip vs).take (ag fr ks))=[]:=EY fun p hp=>by
  obtain⟨j,hj,rfl⟩:=List.getElem_of_mem hp
  rw[List.length_take]at hj
  rw[List.getElem_take]
  exact jQ (i:=j) (by omega) (hget j _ (List.getElem?_eq_getElem (by omega)))
 have a2:eR fr to (((ks.zip vs).drop (ag fr ks)).take (i-ag fr ks))=((ks.zip vs).drop (ag fr ks)).take (i-ag fr ks):=iy fun p hp=>by
  obtain⟨j,hj,rfl⟩:=List.getElem_of_mem hp
  rw[List.length_take,List.length_drop]at hj
  rw[List.getElem_take,List.getElem_drop]
  have hg:=hget (ag fr ks+j) _ (List.getElem?_eq_getElem (by omega))
  unfold KJ
  rw[hin _ _ (by omega) (by omega) hg,Bool.and_true]
  have:=pJ (key:=fr) hr hg
  rw[decide_eq_false (by omega)]at this
  exact qt.1 this
 have a3:eR fr to ((ks.zip vs).drop i)=[]:=by
  by_cases hi:i<ks.length
  ·have hk:=List.getElem?_eq_getElem hi
   refine EZ (k:=ks[i]) (fun p hp=>?_) (hout _ hk)
   obtain⟨j,hj,rfl⟩:=List.getElem_of_mem hp
   rw[List.length_drop]at hj
   rw[List.getElem_drop]
   have hg:=hget (i+j) _ (List.getElem?_eq_getElem (by omega))
   by_cases hj0:j=0
   ·subst hj0
    simp only[Nat.add_zero]at hg ⊢
    rw[hk]at hg
    rw[cT];right;exact Option.some.inj hg
   rw[cT];left;exact dw hr hk hg (by omega)
  rw[List.drop_eq_nil_of_le (by omega)];rfl
 rw[a1,a2,a3];simp
theorem Cf:∀ {A:List Tx} {L:List (List It)},A.length=L.length->dm (fU A L)=(L.map dm).flatten
 | [],[],_=>rfl
 | [],_::_,h=>by simp at h
 | _::_,[],h=>by simp at h
 | a::A,l::L,h=>by
  have:=Cf (A:=A) (L:=L) (by simpa using h)
  simp only[fU,cL,sj,this,List.map_cons,List.flatten_cons]
def kk{h:Nat}(ts:List (Tr h)):List Pr:=(ts.map fun t=>dm (sq h t)).flatten
theorem wE {h:Nat}{a b:List (Tr h)}:kk (a++b)=kk a++kk b:=by simp[kk]
variable{h p:Nat}{ks:List Tx}
theorem AN {ts:List (Tr h)}(hl:ts.length=ks.length+1):dm (sq (h+1) (bG p ks ts))=kk ts:=by
 rw[qQ,AM (by rw[List.length_map];exact hl),List.map_map];rfl
theorem Ch {h:Nat}{ts:List (Tr h)}{f q:Nat}(hf:f<=q):kk ts=kk (ts.take f)++(kk ((ts.drop f).take (q-f))++kk (ts.drop q)):=by
 have e1:ts.drop q=(ts.drop f).drop (q-f):=by rw[List.drop_drop];congr 1;omega
 rw[e1,←wE,List.take_append_drop,←wE,List.take_append_drop]
theorem Ck {to:Tx}{h p q:Nat}{ks:List Tx}{ts:List (Tr h)}(hs:eC (sq (h+1) (bG p ks ts)))(hl:ts.length=ks.length+1)(hr:rise [] ks=true)(h1:bD fr ks<q)(h2:q<=ts.length)(hout:∀ k,ks[q-1]?=some k->q<ts.length->iT k to=false) :
  eR fr to (dm (sq (h+1) (bG p ks ts)))=eR fr to (kk ((ts.drop (bD fr ks)).take (q-bD fr ks))):=by
 have hf:=vD (key:=fr) (ks:=ks)
 rw[AN hl,Ch (f:=bD fr ks) (q:=q) (by omega),nG,nG]
 have a1:eR fr to (kk (ts.take (bD fr ks)))=[]:=by
  have hlt:(ks.take (bD fr ks)).length=(ts.take (bD fr ks)).length:=by rw[List.length_take,List.length_take];omega
  have hlt':(ks.take (bD fr ks)).length=((ts.take (bD fr ks)).map (sq h)).length:=by rw[List.length_map];exact hlt
  refine EY fun x hx=>?_
  have hks:ks=ks.take (bD fr ks)++ks.drop (bD fr ks):=(List.take_append_drop _ _).symm
  have hts:ts=ts.take (bD fr ks)++ts[bD fr ks]'(by omega)::ts.drop (bD fr ks+1):=by simp
  have hsq:=io (p:=p) (A:=ks.take (bD fr ks)) (B:=ks.drop (bD fr ks)) (L:=ts.take (bD fr ks)) (R:=ts.drop (bD fr ks+1)) (u:=ts[bD fr ks]'(by omega)) hlt
  rw[←hks,←hts]at hsq
  rw[hsq]at hs
  have hx':x∈dm (fU (ks.take (bD fr ks)) ((ts.take (bD fr ks)).map (sq h))):=by
   rw[Cf hlt',List.map_map];exact hx
  exact BS hlt' (pS hr) hs _ (qw hx')
 have a3:eR fr to (kk (ts.drop q))=[]:=by
  by_cases hq:q<ts.length
  ·have hk:ks[q-1]?=some (ks[q-1]'(by omega)):=List.getElem?_eq_getElem (by omega)
   refine EZ (k:=ks[q-1]'(by omega)) (fun x hx=>?_) (hout _ hk hq)
   have hks:ks=ks.take (q-1)++ks[q-1]'(by omega)::ks.drop q:=by
    conv=>lhs;rw[←List.take_append_drop (q-1) ks,List.drop_eq_getElem_cons (by omega)]
    rw[show q-1+1=q by omega]
   have hlt:((ts.take q).map (sq h)).length=(ks.take (q-1)).length+1:=by rw[List.length_map,List.length_take,List.length_take];omega
   have hne:(ts.drop q).map (sq h)≠[]:=by
    intro hh
    have:=congrArg List.length hh
    simp at this;omega
   have hsq:sq (h+1) (bG p ks ts)=wv (ks.take (q-1)) ((ts.take q).map (sq h))++It.S (ks[q-1]'(by omega))::wv (ks.drop q) ((ts.drop q).map (sq h)):=by
    rw[←vz hlt hne,←hks,←List.map_append,List.take_append_drop];rfl
   rw[hsq]at hs
   have h3:=(List.pairwise_cons.1 (List.pairwise_append.1 hs).2.1).1
   have hx':x∈dm (wv (ks.drop q) ((ts.drop q).map (sq h))):=by
    rw[AM (by rw[List.length_map,List.length_drop,List.length_drop];omega),List.map_map];exact hx
   exact h3 _ (qw hx')
  rw[List.drop_eq_nil_of_le (by omega)];rfl
 rw[a1,a3];simp
variable{L:RL}
theorem tw {k to:Tx}:CS Tryz.prog 168 [bb k,bb to] L fun u L'=>u=.bool (iT k to)/\L'=L:=by
 refine yF Tryz.f168 ?_
 refine yX 3 ?_
 by_cases h:to=[]
 ·subst h
  refine yX 11 ?_
  exact⟨rfl,rfl⟩
 have hb:cB to []=false:=by rw[D2,decide_eq_false h]
 refine yX 2 ?_
 refine yI hb ?_
 refine yX 8 ?_
 refine⟨?_,rfl⟩
 unfold iT
 rw[decide_eq_false h];rfl
def wi(P:List Pr):List Value:=P.flatMap fun p=>[bb p.1,bb p.2]
theorem H5(a b:List Pr):wi (a++b)=wi a++wi b:=by simp[wi]
def xi(h:Nat):Prop:=∀ (c:jt) (G X:RL) (s:fD) (rows:RL) (t:Tr h) (fr to:Tx) (v:Value) (P0:List Pr) (Y:RL),TR c G X s rows->cD s.m h t->cQ h t->eC (sq h t)->GV 124 2 [] v P0.length (wi P0) Y->P0.length+(dm (sq h t)).length<=200000000 →
 CS Tryz.prog 121 [ptr c.rt,v,.int .i64 (no h t:Nat),bb fr,bb to] (Y++rows) fun u L'=>∃ Y',L'=Y'++rows/\GV 124 2 [] u (P0++eR fr to (dm (sq h t))).length (wi (P0++eR fr to (dm (sq h t)))) Y'
set_option maxHeartbeats 4000000 in
theorem H8:xi 0:=by
 intro c G X s rows t fr to v P0 Y htr hrep hok hs hv hsz
 obtain⟨p,ks,vs,rfl⟩:=br t
 have hmt:=hrep.top
 have st:=htr.sm _ _ hmt
 have hvl:=hok.vs
 have hfl:=hok.fits
 have hmay:=bn hfl
 have hrise:=lV hmay
 obtain⟨T,es,ck,ws,wk,g,rfl,hN,hp,hgm,hmr⟩:=htr.now
 obtain⟨ra,hga,va1,va2,va3,hra,hPa⟩:=(hmr _).2 _ hmt
 have ega:(g p).getD (.pointer none)=ptr ra:=by have:=hga;simp only[mp]at this;rw[this];rfl
 have mrt:∀ Y:RL,(c.rt,bS c.rf c.rn c.rw s.root s.cnt c.root0 c.cnt0)∈Y++HD c.rf c.rb c.rt c.rn c.rw T s.root s.cnt c.root0 c.cnt0 es ck ws wk (G++X):=fun Y=>by simp
 have mmap:∀ Y:RL,(c.rn,aG.map es ck)∈Y++HD c.rf c.rb c.rt c.rn c.rw T s.root s.cnt c.root0 c.cnt0 es ck ws wk (G++X):=fun Y=>by simp
 have hXY:∀ (Y:RL) q,q∈X->q∈Y++HD c.rf c.rb c.rt c.rn c.rw T s.root s.cnt c.root0 c.cnt0 es ck ws wk (G++X):=fun Y q hq=>List.mem_append_right Y (htr.mem q hq)
 have ma:∀ Y:RL,(ra,an true va1 va2 va3)∈Y++HD c.rf c.rb c.rt c.rn c.rw T s.root s.cnt c.root0 c.cnt0 es ck ws wk (G++X):=fun Y=>hXY Y _ hra
 have Na:∀ Y:RL,NV (Y++HD c.rf c.rb c.rt c.rn c.rw T s.root s.cnt c.root0 c.cnt0 es ck ws wk (G++X)) ⟨true,ks,vs,[]⟩ va1 va2 va3:=fun Y=>hPa.nv st (hXY Y)
 have e1:=st.k
 simp only[B6]at e1 hmay hrise hfl
 have hle:=gz fr ks
 have hkv:dm (sq 0 (lf p ks vs))=ks.zip vs:=by rw[il,n0]
 rw[hkv]at hsz ⊢
 have hzl:(ks.zip vs).length=ks.length:=by rw[List.length_zip];omega
 refine yF Tryz.f121 ?_
 refine yX 8 ?_
 refine yR (aa (mrt Y) rfl rfl rfl rfl) ?_
 refine yX 1 ?_
 refine yR (cb hgm (mmap Y) rfl rfl rfl rfl (fun _=>rfl) rfl) ?_
 simp only[mp]
 rw[ega]
 refine yX 6 ?_
 refine yR (aa (ma Y) rfl rfl rfl rfl) ?_
 refine yV 1 ?_
 refine xC rfl ?_ ?_ <;> intro hc
 ·refine yX 3 ?_
  refine yR (aa (ma Y) rfl rfl rfl rfl) ?_
  refine yX 1 ?_
  refine yA yH (oK (Na Y) (by simp only;omega)) ?_
  rintro u L' ⟨rfl,rfl⟩
  refine yX 1 ?_
  rw[lZ hmay]
  simp only
  refine yV 6 ?_
  refine LS.mid [1] (fun a' L'=>∃ Y' v',L'=Y'++HD c.rf c.rb c.rt c.rn c.rw T s.root s.cnt c.root0 c.cnt0 es ck ws wk (G++X)/\GV 124 2 [] v' (P0++eR fr to (ks.zip vs)).length (wi (P0++eR fr to (ks.zip vs))) Y'/\a'=[yC,v',yC,yC,yC,yC,yC,yC,yC,yC,yC,yC,yC,yC,yC,yC,yC,yC,yC,yC,yC,yC,yC,yC,yC,yC,yC,yC,yC,yC,yC,yC,yC,yC,yC,yC,yC,yC,yC,yC,yC,yC,yC,yC,yC,yC,yC,yC,yC,yC,yC,yC,yC,yC,yC,yC,yC,yC,yC,yC,yC,yC,yC,yC,yC,yC,yC,yC,yC,yC,yC,yC,yC,yC,yC,yC,yC,yC,yC,yC,yC,yC,yC,yC,yC,yC,yC,yC,yC,yC,yC,yC,yC,yC,yC,yC,yC,yC,yC,yC,yC,yC,yC,yC,yC,yC,yC,yC,yC,yC,yC,yC,yC,yC,yC]) ?_ ?_
  ·refine yX 1 ?_
   refine LS.loopJ [1,4,11,12] (fun z a' L'=>∃ (i:Nat) (Y':RL) (v':Value),z=ks.length-i/\ag fr ks<=i/\i<=ks.length/\(∀ j k,ag fr ks<=j->j<i->ks[j]?=some k->iT k to=true)/\L'=Y'++HD c.rf c.rb c.rt c.rn c.rw T s.root s.cnt c.root0 c.cnt0 es ck ws wk (G++X) /\
    GV 124 2 [] v' (P0++((ks.zip vs).drop (ag fr ks)).take (i-ag fr ks)).length (wi (P0++((ks.zip vs).drop (ag fr ks)).take (i-ag fr ks))) Y'/\a'=[yC,v',yC,yC,bb to,yC,yC,yC,yC,yC,yC,ptr ra,.int .i64 (i:Nat),yC,yC,yC,yC,yC,yC,yC,yC,yC,yC,yC,yC,yC,yC,yC,yC,yC,yC,yC,yC,yC,yC,yC,yC,yC,yC,yC,yC,yC,yC,yC,yC,yC,yC,yC,yC,yC,yC,yC,yC,yC,yC,yC,yC,yC,yC,yC,yC,yC,yC,yC,yC,yC,yC,yC,yC,yC,yC,yC,yC,yC,yC,yC,yC,yC,yC,yC,yC,yC,yC,yC,yC,yC,yC,yC,yC,yC,yC,yC,yC,yC,yC,yC,yC,yC,yC,yC,yC,yC,yC,yC,yC,yC,yC,yC,yC,yC,yC,yC,yC,yC,yC]) (n:=ks.length-ag fr ks) rfl ⟨ag fr ks,Y,v,rfl,Nat.le_refl _,hle,fun j k h1 h2=>by omega,rfl,by simpa using hv,rfl⟩ ?_
   rintro z a' L' ⟨i,Y',v',rfl,h1,h2,hin,rfl,hv',rfl⟩
   by_cases hi:i<ks.length
   ·have hb:(!av ((ks.length:Nat):Int) ((i:Nat):Int))=true:=by rw[am,decide_eq_false (by omega)];rfl
    refine yX 5 ?_
    refine yR (aa (ma Y') rfl rfl rfl rfl) ?_
    refine yP (az (Na Y').k rfl rfl rfl rfl rfl) ?_
    refine yI hb ?_
    refine yX 4 ?_
    refine yR (aa (ma Y') rfl rfl rfl rfl) ?_
    refine yX 1 ?_
    refine OS.at1 (j:=i) ((Na Y').k) (gJ hi) rfl rfl rfl rfl rfl rfl (fun ra0 oa0 rowa0 csa0 ma0 ca0 ga0=>⟨_,rfl,?_⟩)
    refine yR (aa ma0 ca0 rfl rfl (ap rfl ga0)) ?_
    refine yX 1 ?_
    refine yA yH tw ?_
    rintro u L' ⟨rfl,rfl⟩
    refine yX 3 ?_
    cases hbel:iT ks[i] to with
    | false =>
     refine yX 1 ?_
     refine LS.exit ?_
     refine⟨Y',v',rfl,?_,rfl⟩
     rw[yD hrise hvl h1 h2 hin (fun k hk=>by rw[List.getElem?_eq_getElem hi]at hk;cases hk;exact hbel)]
     exact hv'
    | true =>
     repeat refine xQ ?_
     refine xC rfl ?_ ?_ <;> intro hc2
     ·refine yV 2 ?_
      refine LS.drawn noGo mixed [(0,false),(1,false),(2,false),(3,false),(4,false),(5,false),(6,false),(7,false),(8,false),(9,false),(10,false),(11,false),(12,false),(13,false),(14,false),(15,false),(16,true),(17,true),(18,false)] rfl rfl (by kernel_rfl) ?_
      refine yX 4 ?_
      refine xE rfl rfl (aa (ma Y') rfl rfl rfl rfl) rfl ?_
      refine yX 1 ?_
      refine ba.at1 (j:=i) ((Na Y').k) (gJ hi) rfl rfl rfl rfl rfl rfl rfl (fun ra1 oa1 rowa1 csa1 ma1 ca1 ga1=>⟨_,rfl,?_⟩)
      refine xE rfl rfl (aa ma1 ca1 rfl rfl (ap rfl ga1)) rfl ?_
      refine yX 3 ?_
      refine xE rfl rfl (aa (ma Y') rfl rfl rfl rfl) rfl ?_
      refine yX 1 ?_
      refine ba.at1 (j:=i) ((Na Y').v) (gJ (show i<vs.length by omega)) rfl rfl rfl rfl rfl rfl rfl (fun ra2 oa2 rowa2 csa2 ma2 ca2 ga2=>⟨_,rfl,?_⟩)
      refine xE rfl rfl (aa ma2 ca2 rfl rfl (ap rfl ga2)) rfl ?_
      refine yX 1 ?_
      refine ba.fresh rfl rfl (dG (fun _=>rfl) rfl) (fun _=>rfl) (fun rv=>(by repeat (first|exact ai.nil|refine ai.gone rfl ?_))) (fun rz=>?_)
      refine ba.turns rfl rfl (bH [(rz,.cells 124 [bb ks[i],bb (vs[i]'(by omega))])] (HD c.rf c.rb c.rt c.rn c.rw T s.root s.cnt c.root0 c.cnt0 es ck ws wk (G++X)) (e:=124) (sz:=2) (bts:=32) (m:=1) (new:=wi [(ks[i],vs[i]'(by omega))]) hv' (SV.row (sz:=2) (n:=1) (List.mem_cons_self ..) rfl) rfl rfl rfl rfl (by simp only[List.length_append,List.length_take,List.length_drop];omega) (by simp only[List.length_append,List.length_take,List.length_drop];omega)) (fun w L₁ hR=>?_)
      obtain⟨Y2,g2,rfl⟩:=hR
      refine⟨_,rfl,(by repeat (first|exact ai.nil|refine ai.gone rfl ?_)),?_⟩
      refine ba.sub (ar.sums2 ([(rz,.cells 124 [bb ks[i],bb (vs[i]'(by omega))])]) (A:=Y2++HD c.rf c.rb c.rt c.rn c.rw T s.root s.cnt c.root0 c.cnt0 es ck ws wk (G++X)) (B:=Y2++([(rz,.cells 124 [bb ks[i],bb (vs[i]'(by omega))])]++HD c.rf c.rb c.rt c.rn c.rw T s.root s.cnt c.root0 c.cnt0 es ck ws wk (G++X))) fun f=>by simp[HD,fm]<;>omega) ?_
      refine yX 4 ?_
      refine yP (aW (n:=1) rfl rfl rfl (ak (by omega) (by omega))) ?_
      refine yX 2 ?_
      have htk:((ks.zip vs).drop (ag fr ks)).take (i+1-ag fr ks)=((ks.zip vs).drop (ag fr ks)).take (i-ag fr ks)++[(ks[i],vs[i]'(by omega))]:=by
       rw[show i+1-ag fr ks=(i-ag fr ks)+1 by omega,List.take_succ_eq_append_getElem (by rw[List.length_drop];omega),List.getElem_drop]
       congr 1
       simp only[show ag fr ks+(i-ag fr ks)=i by omega,List.getElem_zip]
      refine⟨ks.length-(i+1),by omega,i+1,Y2,w,rfl,by omega,by omega,fun j k h3 h4 hk=>?_,rfl,?_,rfl⟩
      ·by_cases hji:j=i
       ·subst hji
        rw[List.getElem?_eq_getElem hi]at hk;cases hk;exact hbel
       exact hin j k h3 (by omega) hk
      rw[htk]
      clear htk hv'
      generalize ((ks.zip vs).drop (ag fr ks)).take (i-ag fr ks)=A at g2 ⊢
      have hl2:(P0++(A++[(ks[i],vs[i]'(by omega))])).length=(P0++A).length+1:=by simp;omega
      rw[hl2,←List.append_assoc,H5]
      exact g2
     cases hc2
   have hb:(!av ((ks.length:Nat):Int) ((i:Nat):Int))=false:=by rw[am,decide_eq_true (by omega)];rfl
   refine yX 5 ?_
   refine yR (aa (ma Y') rfl rfl rfl rfl) ?_
   refine yP (az (Na Y').k rfl rfl rfl rfl rfl) ?_
   refine yI hb ?_
   refine yX 13 ?_
   refine LS.exit ?_
   refine⟨Y',v',rfl,?_,rfl⟩
   rw[yD hrise hvl h1 h2 hin (fun k hk=>by rw[List.getElem?_eq_none (by omega)]at hk;cases hk)]
   exact hv'
  rintro a' L' ⟨Y',v',rfl,hv',rfl⟩
  refine yX 5 ?_
  exact⟨Y',rfl,hv'⟩
 cases hc
set_option maxHeartbeats 4000000 in
theorem H7 (ih:xi h):xi (h+1):=by
 intro c G X s rows t fr to v P0 Y htr hrep hok hs hv hsz
 have htr0:=htr
 obtain⟨p,ks,ts,rfl⟩:=aO t
 have hmt:=hrep.top
 have st:=htr.sm _ _ hmt
 have hlen:=hok.len
 have hmay:=bn hok.fits
 have hup:=vD (key:=fr) (ks:=ks)
 have hrise:=(cI.1 hmay).1
 have ek:=st.k
 obtain⟨T,es,ck,ws,wk,g,rfl,hN,hp,hgm,hmr⟩:=htr.now
 obtain⟨ra,hga,va1,va2,va3,hra,hPa⟩:=(hmr _).2 _ hmt
 have ega:(g p).getD (.pointer none)=ptr ra:=by have:=hga;simp only[jj]at this;rw[this];rfl
 simp only[mN]at hra hPa hmay hrise ek st
 generalize hrows:HD c.rf c.rb c.rt c.rn c.rw T s.root s.cnt c.root0 c.cnt0 es ck ws wk (G++X)=rows at htr htr0
 have mrt:∀ Y:RL,(c.rt,bS c.rf c.rn c.rw s.root s.cnt c.root0 c.cnt0)∈Y++rows:=fun Y=>by rw[←hrows];simp
 have mmap:∀ Y:RL,(c.rn,aG.map es ck)∈Y++rows:=fun Y=>by rw[←hrows];simp
 have hXY:∀ (Y:RL) q,q∈X->q∈Y++rows:=fun Y q hq=>List.mem_append_right Y (htr.mem q hq)
 have ma:∀ Y:RL,(ra,an false va1 va2 va3)∈Y++rows:=fun Y=>hXY Y _ hra
 have Na:∀ Y:RL,NV (Y++rows) ⟨false,ks,[],aV ts⟩ va1 va2 va3:=fun Y=>hPa.nv st (hXY Y)
 have hnl:=j5 ts
 refine yF Tryz.f121 ?_
 refine yX 8 ?_
 refine yR (aa (mrt Y) rfl rfl rfl rfl) ?_
 refine yX 1 ?_
 refine yR (cb hgm (mmap Y) rfl rfl rfl rfl (fun _=>rfl) rfl) ?_
 simp only[jj]
 rw[ega]
 refine yX 6 ?_
 refine yR (aa (ma Y) rfl rfl rfl rfl) ?_
 refine yX 6 ?_
 refine yA yH (yU (X:=X) (hXY Y) ⟨va1,va2,va3,hra,hPa⟩ st hmay) ?_
 rintro w L' ⟨rfl,rfl⟩
 refine yX 3 ?_
 simp only
 generalize hfd:bD fr ks=f at hup
 refine yX 4 ?_
 refine yR (aa (ma Y) rfl rfl rfl rfl) ?_
 refine yX 1 ?_
 refine OS.slicePL hPa.z (hXY Y) rfl rfl rfl rfl rfl aR rfl rfl rfl (Nat.le_refl _) (by simp only;omega) (fun vk hvk=>⟨_,rfl,?_⟩)
 have hvk':PL 3 1 X vk (ts.length-f) (bx (aV (ts.drop f))):=by
  have:=nL (cs':=bx (aV (ts.drop f))) hvk (by simp[bx]) (by simp[bx,aV,List.map_drop])
  simpa[hnl] using this
 refine yP (az (hvk'.sv.mono (hXY Y)) rfl rfl rfl rfl rfl) ?_
 refine yX 2 ?_
 have hm1:1<=ts.length-f:=by omega
 repeat refine xQ ?_
 refine LS.mid [1] (fun a' L'=>∃ (Y':RL) (v':Value),L'=Y'++rows/\GV 124 2 [] v' (P0++eR fr to (dm (sq (h+1) (bG p ks ts)))).length (wi (P0++eR fr to (dm (sq (h+1) (bG p ks ts))))) Y'/\a'=[yC,v',yC,yC,yC,yC,yC,yC,yC,yC,yC,yC,yC,yC,yC,yC,yC,yC,yC,yC,yC,yC,yC,yC,yC,yC,yC,yC,yC,yC,yC,yC,yC,yC,yC,yC,yC,yC,yC,yC,yC,yC,yC,yC,yC,yC,yC,yC,yC,yC,yC,yC,yC,yC,yC,yC,yC,yC,yC,yC,yC,yC,yC,yC,yC,yC,yC,yC,yC,yC,yC,yC,yC,yC,yC,yC,yC,yC,yC,yC,yC,yC,yC,yC,yC,yC,yC,yC,yC,yC,yC,yC,yC,yC,yC,yC,yC,yC,yC,yC,yC,yC,yC,yC,yC,yC,yC,yC,yC,yC,yC,yC,yC,yC,yC]) ?_ ?_
 ·refine yX 1 ?_
  refine LS.loopJ [0,1,3,4,11,14,83,84,85] (fun z a' L'=>∃ (j:Nat) (Y':RL) (v':Value),z=(ts.length-f)-j/\j<=ts.length-f/\L'=Y'++rows/\GV 124 2 [] v' (P0++eR fr to (kk ((ts.drop f).take j))).length (wi (P0++eR fr to (kk ((ts.drop f).take j)))) Y' /\
   a'=[ptr c.rt,v',yC,bb fr,bb to,yC,yC,yC,yC,yC,yC,ptr ra,yC,yC,.int .i64 (f:Nat),yC,yC,yC,yC,yC,yC,yC,yC,yC,yC,yC,yC,yC,yC,yC,yC,yC,yC,yC,yC,yC,yC,yC,yC,yC,yC,yC,yC,yC,yC,yC,yC,yC,yC,yC,yC,yC,yC,yC,yC,yC,yC,yC,yC,yC,yC,yC,yC,yC,yC,yC,yC,yC,yC,yC,yC,yC,yC,yC,yC,yC,yC,yC,yC,yC,yC,yC,yC,vk,.int .i64 ((ts.length-f:Nat):Int),.int .i64 (j:Nat),yC,yC,yC,yC,yC,yC,yC,yC,yC,yC,yC,yC,yC,yC,yC,yC,yC,yC,yC,yC,yC,yC,yC,yC,yC,yC,yC,yC,yC]) (n:=ts.length-f) rfl ⟨0,Y,v,rfl,by omega,rfl,by simpa[kk,eR] using hv,rfl⟩ ?_
  rintro z a' L' ⟨j,Y',v',rfl,hj,rfl,hv',rfl⟩
  by_cases hjm:j<ts.length-f
  ·have hb:(!av ((ts.length-f:Nat):Int) ((j:Nat):Int))=true:=by rw[am,decide_eq_false (by omega)];rfl
   refine yX 1 ?_
   refine yI hb ?_
   refine yV 1 ?_
   refine xC rfl ?_ ?_ <;> intro hc2
   ·refine yX 2 ?_
    have hfj:f+j<ts.length:=by omega
    have hat:(bx (aV (ts.drop f)))[j]?=some (.int .i64 ((no h ts[f+j]:Nat):Int)):=by
     simp only[bx,aV,List.map_drop,List.getElem?_drop,List.getElem?_map,List.map_map]
     rw[List.getElem?_eq_getElem hfj];rfl
    refine yX 2 ?_
    refine OS.at1 (j:=j) ((hvk'.sv.mono (hXY Y'))) (hat) rfl rfl rfl rfl rfl rfl (fun ra0 oa0 rowa0 csa0 ma0 ca0 ga0=>⟨_,rfl,?_⟩)
    refine yR (aa ma0 ca0 rfl rfl (ap rfl ga0)) ?_
    refine yV 3 ?_
    refine LS.mid [0,1,3,4,11,14,16,83,84,85,106] (fun a' L'=>L'=Y'++rows/\a'=[ptr c.rt,v',yC,bb fr,bb to,yC,yC,yC,yC,yC,yC,ptr ra,yC,yC,.int .i64 (f:Nat),yC,.int .i64 (no h ts[f+j]:Nat),yC,yC,yC,yC,yC,yC,yC,yC,yC,yC,yC,yC,yC,yC,yC,yC,yC,yC,yC,yC,yC,yC,yC,yC,yC,yC,yC,yC,yC,yC,yC,yC,yC,yC,yC,yC,yC,yC,yC,yC,yC,yC,yC,yC,yC,yC,yC,yC,yC,yC,yC,yC,yC,yC,yC,yC,yC,yC,yC,yC,yC,yC,yC,yC,yC,yC,vk,.int .i64 ((ts.length-f:Nat):Int),.int .i64 (j:Nat),yC,yC,yC,yC,yC,yC,yC,yC,yC,yC,yC,yC,yC,yC,yC,yC,yC,yC,yC,yC,.bool (decide (0<j)&&!iT (ks.getD (f+j-1) []) to),yC,yC,yC,yC,yC,yC,yC,yC]) ?_ ?_
    ·by_cases hj0:0<j
     ·have hb0:(!av ((j:Nat):Int) 0)=true:=by rw[am,decide_eq_false (by omega)];rfl
      have hkj:f+j-1<ks.length:=by omega
      refine yX 2 ?_
      refine yI hb0 ?_
      refine yX 4 ?_
      refine yR (aa (ma Y') rfl rfl rfl rfl) ?_
      refine yX 2 ?_
      refine yP (aW (m:=f) (n:=j) rfl rfl rfl (ak (by omega) (by omega))) ?_
      refine yP (A0 (m:=f+j) (n:=1) rfl rfl rfl (by omega) (ak (by omega) (by omega))) ?_
      refine OS.at1 (j:=f+j-1) ((Na Y').k) (gJ hkj) rfl rfl rfl rfl rfl rfl (fun ra0 oa0 rowa0 csa0 ma0 ca0 ga0=>⟨_,rfl,?_⟩)
      refine yR (aa ma0 ca0 rfl rfl (ap rfl ga0)) ?_
      refine yX 1 ?_
      refine yA yH tw ?_
      rintro u L' ⟨rfl,rfl⟩
      refine yX 4 ?_
      refine⟨rfl,?_⟩
      have e1:ks.getD (f+j-1) []=ks[f+j-1]:=by rw[List.getD_eq_getElem?_getD,List.getElem?_eq_getElem hkj];rfl
      rw[e1,decide_eq_true hj0,Bool.true_and];rfl
     have hb0:(!av ((j:Nat):Int) 0)=false:=by rw[am,decide_eq_true (by omega)];rfl
     refine yX 2 ?_
     refine yI hb0 ?_
     refine yX 16 ?_
     refine⟨rfl,?_⟩
     rw[decide_eq_false hj0,Bool.false_and];rfl
    rintro a' L' ⟨rfl,rfl⟩
    cases hbrk:(decide (0<j)&&!iT (ks.getD (f+j-1) []) to) with
    | true =>
     rw[Bool.and_eq_true]at hbrk
     have hj0:0<j:=of_decide_eq_true hbrk.1
     repeat refine xQ ?_
     refine xC rfl ?_ ?_ <;> intro hc3
     ·refine LS.exit ?_
      refine⟨Y',v',rfl,?_,rfl⟩
      have:=Ck (fr:=fr) (to:=to) (q:=f+j) hs hlen hrise (by rw[hfd];omega) (by omega) (fun k hk _=>by
       have e1:ks.getD (f+j-1) []=k:=by rw[List.getD_eq_getElem?_getD,hk];rfl
       rw[e1]at hbrk
       cases hbb:iT k to with
       | false=>rfl
       | true=>rw[hbb]at hbrk;exact absurd hbrk.2 (by decide))
      rw[hfd,show f+j-f=j by omega]at this
      rw[this];exact hv'
     cases hc3
    | false =>
     refine yX 2 ?_
     have htk:(ts.drop f).take (j+1)=(ts.drop f).take j++[ts[f+j]]:=by
      rw[List.take_succ_eq_append_getElem (by rw[List.length_drop];omega),List.getElem_drop]
     have hmem:ts[f+j]∈ts:=List.getElem_mem _
     have hsj:eC (sq h ts[f+j]):=by
      obtain⟨A,B,L,a,R,hA1,hA2,hA3,hA4⟩:=vO hlen hfj
      have ea:ts[f+j]=a:=by subst hA2;simp[←hA4]
      rw[ea]
      subst hA1
      subst hA2
      rw[io (by omega)]at hs
      exact List.Pairwise.sublist ((List.sublist_append_left ..).trans (List.sublist_append_right ..)) hs
     have hcount:(eR fr to (kk ((ts.drop f).take j))).length+(dm (sq h ts[f+j])).length<=(dm (sq (h+1) (bG p ks ts))).length:=by
      rw[AN hlen,Ch (ts:=ts) (f:=f) (q:=f+(j+1)) (by omega),show f+(j+1)-f=j+1 by omega,htk,wE]
      have h1:(eR fr to (kk ((ts.drop f).take j))).length<=(kk ((ts.drop f).take j)).length:=List.length_filter_le ..
      have h2:kk [ts[f+j]]=dm (sq h ts[f+j]):=by simp[kk]
      rw[h2]
      simp only[List.length_append]
      omega
     refine yX 6 ?_
     refine yA yH (ih c G X s rows ts[f+j] fr to v' (P0++eR fr to (kk ((ts.drop f).take j))) Y' htr ((bI.1 hrep).2 _ hmem) (hok.kid _ hmem) hsj hv' (by rw[List.length_append];omega)) ?_
     rintro u L' ⟨Y2,rfl,hv2⟩
     refine yX 4 ?_
     refine yP (aW (n:=1) rfl rfl rfl (ak (by omega) (by omega))) ?_
     refine yX 2 ?_
     refine⟨(ts.length-f)-(j+1),by omega,j+1,Y2,u,rfl,by omega,rfl,?_,rfl⟩
     have h2:kk [ts[f+j]]=dm (sq h ts[f+j]):=by simp[kk]
     rw[htk,wE,nG,←List.append_assoc,h2]
     exact hv2
   cases hc2
  have hb:(!av ((ts.length-f:Nat):Int) ((j:Nat):Int))=false:=by rw[am,decide_eq_true (by omega)];rfl
  refine yX 1 ?_
  refine yI hb ?_
  refine yX 2 ?_
  refine LS.exit ?_
  refine⟨Y',v',rfl,?_,rfl⟩
  have:=Ck (fr:=fr) (to:=to) (q:=ts.length) hs hlen hrise (by rw[hfd];omega) (Nat.le_refl _) (fun k hk hh=>by omega)
  rw[hfd,show ts.length-f=j by omega]at this
  rw[this];exact hv'
 rintro a' L' ⟨Y',v',rfl,hv',rfl⟩
 refine yX 5 ?_
 exact⟨Y',rfl,hv'⟩
theorem uw:∀ h,xi h
 | 0=>H8
 | h+1=>H7 (uw h)
variable{c:jt}{G X:RL}
theorem uc {s:fD}{L:RL}{ro:Nat}{fr to:Tx}{P:List Pr}(htr:TR c G X s L)(ho:(ro,bO c.rt)∈L)(hg:dI s.m s.root P)(hcnt:s.cnt=P.length)(hP:P.length<=100000000) :
  CS Tryz.prog 80 [ptr ro,bb fr,bb to] L fun u L'=>∃ Y,L'=Y++L/\GV 124 2 [] u (eR fr to P).length (wi (eR fr to P)) Y:=by
 have mrt:(c.rt,bS c.rf c.rn c.rw s.root s.cnt c.root0 c.cnt0)∈L:=by
  obtain⟨T,es,ck,ws,wk,hN,rfl,hp⟩:=htr
  simp
 refine yF Tryz.f80 ?_
 refine yX 5 ?_
 refine yA yH (By htr ho) ?_
 rintro u L' ⟨rfl,rfl⟩
 refine yX 1 ?_
 rcases hg with ⟨_,_,rfl⟩|⟨H,t,hw,hok,hs,hkv⟩
 ·rw[hcnt]
  refine yV 2 ?_
  refine xC rfl ?_ ?_ <;> intro hc
  ·refine yX 4 ?_
   exact⟨[],rfl,.inl ⟨rfl,rfl,rfl,rfl⟩⟩
  cases hc
 have hne:=si hok
 rw[hkv]at hne
 have hpos:0<P.length:=List.length_pos_iff.2 hne
 have hb:bc s.cnt 0=false:=by rw[aC];simp;omega
 have hrt:=hw.rt
 refine yI hb ?_
 refine yV 3 ?_
 refine LS.drawn noGo mixed [(0,false),(1,false),(2,false),(3,false),(4,false),(5,false),(6,false),(7,false),(8,false),(9,false),(10,false),(11,false),(12,false),(13,false),(14,true),(15,false)] rfl rfl (by kernel_rfl) ?_
 refine yX 3 ?_
 refine xE rfl rfl (aa ho rfl rfl rfl rfl) rfl ?_
 refine yX 3 ?_
 refine xE rfl rfl (aa ho rfl rfl rfl rfl) rfl ?_
 refine yX 3 ?_
 refine xE rfl rfl (iz (aa mrt rfl rfl rfl rfl) (congrArg (Value.int .i64) hrt)) rfl ?_
 refine yX 2 ?_
 refine yO rfl yH (uw H c G X s _ t fr to _ [] [] htr hw.rep hok hs (.inl ⟨rfl,rfl,rfl,rfl⟩) (by rw[hkv];simp;omega)) ?_
 rintro u L' ⟨Y,rfl,hv⟩
 rw[hkv]at hv
 refine⟨_,rfl,(by repeat (first|exact ai.nil|refine ai.gone rfl ?_)),?_⟩
 refine yX 3 ?_
 exact⟨Y,rfl,hv⟩
structure zT where
 m:da
 cnt:Nat
 lv:Nat
def pD(ks:List Tx)(to:Tx):Tx:=ks.headD to
def Hn(ks:List Tx)(fr to:Tx):Bool:=match ks with
 | []=>true
 | k::r=>qg fr k&&iT ((k::r).getLastD []) to
def mz(look:zT->Int->Tx->Tx->Option zT):List Tx->List Int->Tx->Tx->zT->Option zT
 | _,[],_,_,σ=>some σ
 | ks,z::zs,fr,to,σ=>match look σ z fr (pD ks to) with
  | none=>none
  | some σ'=>mz look ks.tail zs (pD ks to) to σ'
def dF(N:Nat)(img:Nat->List UInt8):Nat->zT->Int->Nat->Tx->Tx->Option zT
 | 0,_,_,_,_,_=>none
 | f+1,σ,z,d,fr,to =>
  if 0<=z/\z<N/\σ.m z.toNat=none then
   match eU (img z.toNat) with
   | none=>none
   | some n=>if Hn n.ks fr to=true then
     (if n.leaf=true then (if n.ks≠[]/\(σ.lv=0∨σ.lv=d) then some ⟨aD σ.m z.toNat (some n),σ.cnt+n.ks.length,d⟩ else none)
      else mz (fun σ z fr to=>dF N img f σ z (d+1) fr to) n.ks n.kids fr to ⟨aD σ.m z.toNat (some n),σ.cnt,σ.lv⟩)
    else none
  else none
def F0(fr to:Tx):It->Prop
 | .K k _=>qg fr k=true/\iT k to=true
 | .S s=>aq fr s=true/\iT s to=true
theorem FR(x:Tx):qg x x=true:=cT.2 (.inr rfl)
theorem CF {a k:Tx}(h:aq a k=true):iT a k=true:=by unfold iT;rw[h,Bool.or_true]
theorem GY {to:Tx}{ks:List Tx}(h:∀ k∈ks,qg fr k=true/\iT k to=true):Hn ks fr to=true:=by
 cases ks with
 | nil=>rfl
 | cons a r =>
  simp only[Hn,Bool.and_eq_true]
  refine⟨(h a (by simp)).1,(h _ ?_).2⟩
  have:∀ (a:Tx) (r:List Tx),(a::r).getLastD []∈a::r:=fun a r=>by
   induction r generalizing a with
   | nil=>simp[List.getLastD]
   | cons b r ih =>
    have hl:(a::b::r).getLastD []=(b::r).getLastD []:=by simp[List.getLastD]
    rw[hl]
    exact List.mem_cons_of_mem _ (ih b)
  exact this a r
structure LF(σ σ':zT)(m0:da)(P:List Nat)(lv cnt:Nat):Prop where
 new:∀ q,q∈P->σ'.m q=m0 q
 old:∀ q,q ∉ P->σ'.m q=σ.m q
 lv:σ'.lv=lv
 cnt:σ'.cnt=σ.cnt+cnt
variable{d:Nat}
theorem my {N:Nat}{img:Nat->List UInt8}{m0:da}{look:zT->Int->Tx->Tx->Option zT}(hlook:∀ (t:Tr h) σ fr to,cD m0 h t->(bJ h t).Nodup->cQ h t->eC (sq h t)->(∀ y∈sq h t,F0 fr to y)->(∀ q∈bJ h t,q<N/\σ.m q=none/\eU (img q)=m0 q)->(σ.lv=0∨σ.lv=d+h)->∃ σ',look σ (no h t:Nat) fr to=some σ'/\LF σ σ' m0 (bJ h t) (d+h) (dm (sq h t)).length) :
  ∀ {ts:List (Tr h)} {ks:List Tx} {fr to:Tx} {σ:zT},ts.length=ks.length+1->(∀ s∈ts,cD m0 h s)->(ts.flatMap (bJ h)).Nodup->(∀ s∈ts,cQ h s)->eC (wv ks (ts.map (sq h)))->(∀ y∈wv ks (ts.map (sq h)),F0 fr to y)->(∀ q∈ts.flatMap (bJ h),q<N/\σ.m q=none/\eU (img q)=m0 q)->(σ.lv=0∨σ.lv=d+h) →
   ∃ σ',mz look ks (aV ts) fr to σ=some σ'/\LF σ σ' m0 (ts.flatMap (bJ h)) (d+h) (kk ts).length
 | [],ks,fr,to,σ,hl,_,_,_,_,_,_,_=>by simp at hl
 | [t],[],fr,to,σ,hl,hr,hn,hk,hs,hb,hp,hv=>by
  have hwv:wv [] ([t].map (sq h))=sq h t:=by simp[wv,bU]
  rw[hwv]at hs hb
  obtain⟨σ',h1,g⟩:=hlook t σ fr to (hr t (by simp)) (by simpa using hn) (hk t (by simp)) hs hb (fun q hq=>hp q (by simpa using hq)) hv
  refine⟨σ',?_,⟨fun q hq=>g.new q (by simpa using hq),fun q hq=>g.old q (by simpa using hq),g.lv,by simpa[kk] using g.cnt⟩⟩
  simp only[aV,List.map_cons,List.map_nil,mz,pD,List.headD]
  rw[h1]
 | [t],k::ks,fr,to,σ,hl,_,_,_,_,_,_,_=>by simp at hl
 | t::t2::ts,[],fr,to,σ,hl,_,_,_,_,_,_,_=>by simp at hl
 | t::t2::ts,k::ks,fr,to,σ,hl,hr,hn,hk,hs,hb,hp,hv=>by
  have hwv:wv (k::ks) ((t::t2::ts).map (sq h))=sq h t++It.S k::wv ks ((t2::ts).map (sq h)):=rfl
  rw[hwv]at hs hb
  obtain⟨s1,s2,s3⟩:=List.pairwise_append.1 hs
  obtain⟨s4,s5⟩:=List.pairwise_cons.1 s2
  rw[List.flatMap_cons,List.nodup_append]at hn
  obtain⟨σ1,h1,g1⟩:=hlook t σ fr k (hr t (by simp)) hn.1 (hk t (by simp)) s1 (fun y hy=>by
   have hy1:=hb y (by simp[hy])
   have hy2:=s3 y hy (It.S k) (by simp)
   cases y with
   | K a b=>exact⟨hy1.1,CF hy2⟩
   | S a=>exact⟨hy1.1,CF hy2⟩) (fun q hq=>hp q (by rw[List.flatMap_cons];simp[hq])) hv
  have hdis:∀ q,q∈(t2::ts).flatMap (bJ h)->q ∉ bJ h t:=fun q hq hh=>hn.2.2 q hh q hq rfl
  obtain⟨σ',h2,g2⟩:=my hlook (ts:=t2::ts) (ks:=ks) (fr:=k) (to:=to) (σ:=σ1) (by simpa using hl) (fun s hs=>hr s (by simp at hs ⊢;right;exact hs)) hn.2.1 (fun s hs=>hk s (by simp at hs ⊢;right;exact hs)) s5 (fun y hy=>by
   have hy1:=hb y (by simp only[List.mem_append,List.mem_cons];exact .inr (.inr hy))
   have hy2:=s4 y hy
   cases y with
   | K a b=>exact⟨hy2,hy1.2⟩
   | S a=>exact⟨hy2,hy1.2⟩) (fun q hq=>by
    have:=hp q (by rw[List.flatMap_cons];exact List.mem_append_right _ hq)
    exact⟨this.1,by rw[g1.old q (hdis q hq)];exact this.2.1,this.2.2⟩) (.inr g1.lv)
  refine⟨σ',?_,⟨fun q hq=>?_,fun q hq=>?_,g2.lv,?_⟩⟩
  ·have hnos:aV (t::t2::ts)=((no h t:Nat):Int)::aV (t2::ts):=rfl
   rw[hnos]
   simp only[mz,pD,List.headD,List.tail_cons]
   rw[h1]
   exact h2
  ·rw[List.flatMap_cons]at hq
   rcases List.mem_append.1 hq with hq|hq
   ·have:q ∉ (t2::ts).flatMap (bJ h):=fun hh=>hdis q hh hq
    rw[g2.old q this,g1.new q hq]
   exact g2.new q hq
  ·rw[List.flatMap_cons,List.mem_append,not_or]at hq
   rw[g2.old q hq.2,g1.old q hq.1]
  rw[g2.cnt,g1.cnt]
  simp only[kk,List.map_cons,List.flatten_cons,List.length_append]
  omega
variable{ss:List (List It)}
theorem FE (h:ss.length=ks.length+1):∀ k∈ks,It.S k∈wv ks ss:=fun k hk=>(EK h).subset (List.mem_map.2 ⟨k,hk,rfl⟩)
theorem uA:∀ {ks vs:List Tx},vs.length=ks.length->∀ k∈ks,∃ v,It.K k v∈List.zipWith It.K ks vs
 | [],_,_,k,hk=>by cases hk
 | a::ks,[],h,k,hk=>by simp at h
 | a::ks,b::vs,h,k,hk=>by
  rw[List.zipWith_cons_cons]
  rcases List.mem_cons.1 hk with rfl|hk
  ·exact⟨b,by simp⟩
  obtain⟨v,hv⟩:=uA (ks:=ks) (vs:=vs) (by simpa using h) k hk
  exact⟨v,List.mem_cons_of_mem _ hv⟩
theorem mu {N:Nat}{img:Nat->List UInt8}{m0:da}:∀ {h:Nat} {t:Tr h} {f:Nat} {σ:zT} {d:Nat} {fr to:Tx},h<f->cD m0 h t->(bJ h t).Nodup->cQ h t->eC (sq h t)->(∀ y∈sq h t,F0 fr to y)->(∀ q∈bJ h t,q<N/\σ.m q=none/\eU (img q)=m0 q)->(σ.lv=0∨σ.lv=d+h) →
  ∃ σ',dF N img f σ (no h t:Nat) d fr to=some σ'/\LF σ σ' m0 (bJ h t) (d+h) (dm (sq h t)).length
 | h,t,0,_,_,_,_,hf,_,_,_,_,_,_,_=>by omega
 | 0,t,f+1,σ,d,fr,to,hf,hr,hn,hk,hs,hb,hp,hv=>by
  obtain⟨p,ks,vs,rfl⟩:=br t
  have hvl:=hk.vs
  have hne:=(B3.1 hk).2
  obtain⟨p1,p2,p3⟩:=hp p (by simp)
  have hmp:m0 p=some ⟨true,ks,vs,[]⟩:=hr.top
  have hbt:Hn ks fr to=true:=GY fun k hk=>by
   obtain⟨v,hv⟩:=uA hvl k hk
   exact hb _ hv
  refine⟨⟨aD σ.m p (some ⟨true,ks,vs,[]⟩),σ.cnt+ks.length,d⟩,?_,⟨fun q hq=>?_,fun q hq=>?_,rfl,?_⟩⟩
  ·rw[dF,if_pos ⟨by omega,by simp only[mp];omega,by simpa using p2⟩]
   simp only[mp,Int.toNat_natCast,p3,hmp]
   rw[if_pos hbt,if_pos trivial,if_pos ⟨hne,by simpa using hv⟩]
  ·have:q=p:=by simpa using hq
   subst this
   simp only[aD];rw[if_pos trivial,hmp]
  ·have:q≠p:=by simpa using hq
   simp only[aD];rw[if_neg this]
  rw[il,n0,List.length_zip,hvl];simp
 | h+1,t,f+1,σ,d,fr,to,hf,hr,hn,hk,hs,hb,hp,hv=>by
  obtain⟨p,ks,ts,rfl⟩:=aO t
  have hlen:=hk.len
  rw[bF,List.nodup_cons]at hn
  obtain⟨p1,p2,p3⟩:=hp p (by simp)
  have hmp:m0 p=some ⟨false,ks,[],aV ts⟩:=hr.top
  have hbt:Hn ks fr to=true:=GY fun k hk=>by
   have:=hb (It.S k) (FE (by rw[List.length_map];exact hlen) k hk)
   exact⟨cT.2 (.inl this.1),this.2⟩
  obtain⟨σ',h1,g⟩:=my (N:=N) (img:=img) (m0:=m0) (d:=d+1) (look:=fun σ z fr to=>dF N img f σ z (d+1) fr to) (fun t σ fr to a1 a2 a3 a4 a5 a6 a7=>mu (by omega) a1 a2 a3 a4 a5 a6 a7) (ts:=ts) (ks:=ks) (fr:=fr) (to:=to) (σ:=⟨aD σ.m p (some ⟨false,ks,[],aV ts⟩),σ.cnt,σ.lv⟩) hlen (bI.1 hr).2 hn.2 hk.kid hs hb (fun q hq=>by
   have hqp:q≠p:=fun he=>hn.1 (he▸hq)
   have:=hp q (by rw[bF];simp only[List.mem_cons];exact .inr hq)
   exact⟨this.1,by simp only[aD];rw[if_neg hqp];exact this.2.1,this.2.2⟩) (by simp only;omega)
  refine⟨σ',?_,⟨fun q hq=>?_,fun q hq=>?_,by rw[g.lv];omega,by rw[g.cnt,AN hlen]⟩⟩
  ·rw[dF,if_pos ⟨by omega,by simp only[jj];omega,by simpa using p2⟩]
   simp only[jj,Int.toNat_natCast,p3,hmp]
   rw[if_pos hbt,if_neg (by decide)]
   exact h1
  ·rw[bF]at hq
   rcases List.mem_cons.1 hq with rfl|hq
   ·rw[g.old q hn.1,hmp];simp only[aD];rw[if_pos trivial]
   exact g.new q hq
  rw[bF,List.mem_cons,not_or]at hq
  rw[g.old q hq.2]
  simp only[aD];rw[if_neg hq.1]
theorem yz:∀ {ks:List Tx} {ss:List (List It)} {y:It},y∈bU ks ss->(∃ s∈ss,y∈s)∨∃ k∈ks,y=It.S k
 | [],_,y,h=>by simp[bU]at h
 | _::_,[],y,h=>by simp[bU]at h
 | k::ks,s::ss,y,h=>by
  simp only[bU,List.mem_cons,List.mem_append]at h
  rcases h with rfl|h|h
  ·exact .inr ⟨k,by simp,rfl⟩
  ·exact .inl ⟨s,by simp,h⟩
  rcases yz h with ⟨s',h1,h2⟩|⟨k',h1,h2⟩
  ·exact .inl ⟨s',by simp[h1],h2⟩
  exact .inr ⟨k',by simp[h1],h2⟩
theorem JU {y:It}(h:y∈wv ks ss):(∃ s∈ss,y∈s)∨∃ k∈ks,y=It.S k:=by
 cases ss with
 | nil=>simp[wv]at h
 | cons s ss =>
  simp only[wv,List.mem_append]at h
  rcases h with h|h
  ·exact .inl ⟨s,by simp,h⟩
  rcases yz h with ⟨s',h1,h2⟩|h
  ·exact .inl ⟨s',by simp[h1],h2⟩
  exact .inr h
theorem JV {x:Tx}(h:1<=x.length):aq [] x=true:=by
 cases x with
 | nil=>simp at h
 | cons a r=>rfl
theorem FQ(x:Tx):qg [] x=true:=by
 cases x with
 | nil=>exact FR _
 | cons a r=>exact cT.2 (.inl rfl)
theorem xa(x:Tx):iT x []=true:=rfl
theorem FZ:∀ {h:Nat} {t:Tr h},cQ h t->∀ y∈sq h t,F0 [] [] y
 | 0,t,hk,y,hy=>by
  obtain⟨p,ks,vs,rfl⟩:=br t
  obtain⟨k,v,rfl,_⟩:=nm (P:=fun _=>True) (fun _ _=>trivial) y hy
  exact⟨FQ _,xa _⟩
 | h+1,t,hk,y,hy=>by
  obtain⟨p,ks,ts,rfl⟩:=aO t
  rw[qQ]at hy
  rcases JU hy with ⟨s,hs,hy⟩|⟨k,hk',rfl⟩
  ·obtain⟨u,hu,rfl⟩:=List.mem_map.1 hs
   exact FZ (hk.kid u hu) y hy
  exact⟨JV (dE (bn hk.fits) k hk').1,xa _⟩
theorem De {N:Nat}{img:Nat->List UInt8}{m:da}{root:Int}{P:List Pr}(hg:dI m root P)(hP:P≠[])(hd:∀ q,m q≠none->q<N)(hi:∀ q,m q≠none->eU (img q)=m q) :
  ∃ σ,dF N img (N+1) ⟨rY,0,0⟩ root 1 [] []=some σ/\σ.m=m/\σ.cnt=P.length:=by
 rcases hg with ⟨_,_,rfl⟩|⟨H,t,hw,hok,hs,hkv⟩
 ·exact absurd rfl hP
 have hH:H<N+1:=by
  have h1:=oe hok
  have h2:=pQ hw hd
  omega
 obtain⟨σ,h1,g⟩:=mu (N:=N) (img:=img) (m0:=m) (σ:=⟨rY,0,0⟩) (d:=1) (fr:=[]) (to:=[]) hH hw.rep hw.nod hok hs (FZ hok) (fun q hq=>by
  have:=hw.rep.some q hq
  exact⟨hd q this,rfl,hi q this⟩) (.inl rfl)
 rw[←hw.rt]at h1
 refine⟨σ,h1,funext fun q=>?_,by rw[g.cnt,hkv];simp⟩
 by_cases hq:q∈bJ H t
 ·exact g.new q hq
 rw[g.old q hq,hw.out q hq]
variable{v:Value}{bs:List UInt8}
theorem Bl (hv:BV L v bs):CS Tryz.prog 131 [v] L fun u L'=>Lt L bs u L':=by
 by_cases hn:bs.length<=400000000000
 ·exact Ef hv hn
 have hl:bs.length≠256:=by omega
 have hsv:=hv.sv
 suffices g:CS Tryz.prog 131 [v] L fun u L'=>eU bs=none/\u=.tuple #[j7 false (.slice none 0 0) (.slice none 0 0) (.slice none 0 0),.int .i64 4]/\∃ X,L'=X++L by
  refine g.less fun u L' h=>?_
  obtain⟨h1,h2,X,rfl⟩:=h
  exact⟨L,ar.suffix,.inl ⟨h1,h2,rfl⟩⟩
 refine yF Tryz.f131 ?_
 refine yX 1 ?_
 refine yN fun ro=>?_
 refine yX 2 ?_
 have hb0:(!bc (bs.length:Int) (256:Nat))=true:=by rw[gn,decide_eq_false hl];rfl
 have hd:eU bs=none:=by unfold eU;rw[if_neg (fun h=>hl h.1)]
 refine yX 2 ?_
 refine yP (az hsv rfl rfl rfl rfl rfl) ?_
 refine yI hb0 ?_
 refine yV 1 ?_
 refine xC rfl ?_ ?_ <;> intro hc
 ·refine yX 5 ?_
  refine xT ⟨_,cN 0 rfl rfl rfl rfl rfl,?_⟩
  exact⟨hd,rfl,[_],rfl⟩
 cases hc
theorem Cd {a b:Tx}:(!aq b a)=qg a b:=by
 cases h:aq b a with
 | true=>rw[lU.2 h];rfl
 | false=>rw[qt.1 h];rfl
theorem Ba {to:Tx}(hv:SV 1 L v ks.length (tx ks))(hn:ks.length<=1000000):CS Tryz.prog 132 [v,bb fr,bb to] L fun u L'=>u=.bool (Hn ks fr to)/\L'=L:=by
 refine yF Tryz.f132 ?_
 refine yX 3 ?_
 cases ks with
 | nil =>
  refine yX 2 ?_
  refine yP (az hv rfl rfl rfl rfl rfl) ?_
  refine yX 21 ?_
  exact⟨rfl,rfl⟩
 | cons k r =>
  have hb:bc (((k::r).length:Nat):Int) 0=false:=by rw[aC];simp;omega
  have hlast:(tx (k::r))[r.length]?=some (bb ((k::r).getLastD [])):=by
   have h1:∀ (k:Tx) (r:List Tx),(k::r)[r.length]?=some ((k::r).getLastD []):=fun k r=>by
    induction r generalizing k with
    | nil=>rfl
    | cons b r ih =>
     have hl:(k::b::r).getLastD []=(b::r).getLastD []:=by simp[List.getLastD]
     rw[hl,List.length_cons,List.getElem?_cons_succ]
     exact ih b
   have:=h1 k r
   simp only[tx,List.getElem?_map,this,Option.map_some]
  have hlen:(k::r).length=r.length+1:=rfl
  refine yX 2 ?_
  refine yP (az hv rfl rfl rfl rfl rfl) ?_
  refine yI hb ?_
  refine yX 2 ?_
  refine OS.at1 (j:=0) (hv) ((show (tx (k::r))[0]?=some (bb k) from rfl)) rfl rfl rfl rfl rfl rfl (fun ra0 oa0 rowa0 csa0 ma0 ca0 ga0=>⟨_,rfl,?_⟩)
  refine yR (aa ma0 ca0 rfl rfl (ap rfl ga0)) ?_
  refine yX 1 ?_
  cases hk:qg fr k with
  | false =>
   refine yI (Cd.trans hk) ?_
   refine yX 14 ?_
   refine⟨?_,rfl⟩
   simp only[Hn,hk,Bool.false_and];rfl
  | true =>
   refine yI (Cd.trans hk) ?_
   refine yX 3 ?_
   refine yP (az hv rfl rfl rfl rfl rfl) ?_
   refine yP (cW (dQ (n:=1) rfl rfl rfl (ak (by omega) (by omega))) (congrArg (Value.int .i64) (show (((k::r).length:Nat):Int)-1=((r.length:Nat):Int) by rw[hlen];omega))) ?_
   refine OS.at1 (j:=r.length) (hv) (hlast) rfl rfl rfl rfl rfl rfl (fun ra1 oa1 rowa1 csa1 ma1 ca1 ga1=>⟨_,rfl,?_⟩)
   refine yR (aa ma1 ca1 rfl rfl (ap rfl ga1)) ?_
   refine yX 1 ?_
   refine yA yH tw ?_
   rintro u L' ⟨rfl,rfl⟩
   refine yX 6 ?_
   refine⟨?_,rfl⟩
   simp only[Hn,hk,Bool.true_and];rfl
abbrev uO(v:Value):aG:=.cells 78 [v]
abbrev sh(r3 r5 r7 r8:Nat):aG:=.cells 181 [.func (.func 129) #[] #[ptr r3,ptr r5,ptr r7,ptr r8]]
def zO(F:RL)(v:Value)(bt:List Tx):Prop:=∃ vs:List Value,SV 1 F v bt.length vs/\∀ i,i<bt.length->∃ w,vs[i]?=some w/\BV F w (bt.getD i [])
variable{F:RL}
theorem zO.mono {F':RL}{v:Value}{bt:List Tx}(h:zO F v bt)(hm:∀ p,p∈F->p∈F'):zO F' v bt:=by
 obtain⟨vs,h1,h2⟩:=h
 refine⟨vs,h1.mono hm,fun i hi=>?_⟩
 obtain⟨w,h3,h4⟩:=h2 i hi
 exact⟨w,h3,h4.mono hm⟩
structure LN(c:jt)(G:RL)(r3 r5 r7 r8:Nat)(v:Value)(bt:List Tx):Prop where
 m3:(r3,eH c.rt)∈G
 m5:(r5,uO v)∈G
 m8:(r8,sh r3 r5 r7 r8)∈G
 im:zO G v bt
 N:bt.length=c.N
def zR(bt:List Tx):Nat->List UInt8:=fun q=>bt.getD q []
def Lr(c:jt)(G:RL)(r7:Nat)(L':RL):Prop:=∃ T root cnt es ck ws wk X' lv,L'=(r7,aS lv)::HD c.rf c.rb c.rt c.rn c.rw T root cnt c.root0 c.cnt0 es ck ws wk (G++X')
def He(c:jt)(G X:RL)(r7:Nat)(root:Int)(m:da)(o:Option zT)(u:Value)(L':RL):Prop :=
 (o=none/\u=.bool false/\Lr c G r7 L')∨∃ σ' X' rows',o=some σ'/\u=.bool true/\(∀ q,q∈X->q∈X')/\TR c G X' ⟨σ'.m,root,(σ'.cnt:Nat)⟩ rows'/\L'=(r7,aS (σ'.lv:Nat))::rows'/\cq c.N σ'.m<cq c.N m/\σ'.cnt+300*cq c.N σ'.m<=300*c.N
def CL(f:Nat):Prop:=∀ (c:jt) (G X:RL) (r3 r5 r7 r8:Nat) (v:Value) (bt:List Tx) (m:da) (root:Int) (cnt lv:Nat) (rows:RL) (z:Int) (d:Nat) (fr to:Tx),LN c G r3 r5 r7 r8 v bt->TR c G X ⟨m,root,(cnt:Nat)⟩ rows->cq c.N m<f->cnt+300*cq c.N m<=300*c.N->d+f<=1000000 →
 CS Tryz.prog 129 [.int .i64 z,.int .i64 (d:Nat),bb fr,bb to,ptr r3,ptr r5,ptr r7,ptr r8] ((r7,aS (lv:Nat))::rows) (He c G X r7 root m (dF c.N (zR bt) f ⟨m,cnt,lv⟩ z d fr to))
theorem Dr {N f:Nat}{img:Nat->List UInt8}{σ:zT}{z:Int}{d:Nat}{fr to:Tx}(h:¬ (0<=z/\z<N/\σ.m z.toNat=none)):dF N img (f+1) σ z d fr to=none:=by rw[dF,if_neg h]
theorem FK {N f:Nat}{img:Nat->List UInt8}{σ:zT}{d:Nat}{fr to:Tx}(h1:p<N)(h2:σ.m p=none)(h3:eU (img p)=none):dF N img (f+1) σ (p:Nat) d fr to=none:=by
 rw[dF,if_pos ⟨by omega,by omega,by simpa using h2⟩]
 simp only[Int.toNat_natCast,h3]
theorem Ig {N f:Nat}{img:Nat->List UInt8}{σ:zT}{d:Nat}{fr to:Tx}{n:Nd}(h1:p<N)(h2:σ.m p=none)(h3:eU (img p)=some n):dF N img (f+1) σ (p:Nat) d fr to=if Hn n.ks fr to=true then
     (if n.leaf=true then (if n.ks≠[]/\(σ.lv=0∨σ.lv=d) then some ⟨aD σ.m p (some n),σ.cnt+n.ks.length,d⟩ else none)
      else mz (fun σ z fr to=>dF N img f σ z (d+1) fr to) n.ks n.kids fr to ⟨aD σ.m p (some n),σ.cnt,σ.lv⟩)
    else none:=by
 rw[dF,if_pos ⟨by omega,by omega,by simpa using h2⟩]
 simp only[Int.toNat_natCast,h3]
variable{T:List Bool}
theorem zC {z:Int}:eX T z=0↔0<=z/\z<T.length/\cz T z.toNat=false:=by
 unfold eX
 constructor
 ·intro h
  split at h
  ·rename_i hz
   split at h
   ·cases h
   rename_i ht
   exact⟨hz.1,hz.2,by simpa using ht⟩
  cases h
 rintro ⟨h1,h2,h3⟩
 rw[if_pos ⟨h1,h2⟩,if_neg (by rw[h3];decide)]
variable{es ws:List MapEntry}{ck wk:Nat}{m m0:da}
theorem Fj (h:Pg X T es ck ws wk m m0)(hp:p<T.length):KC [p] X (T.set p true) es ck ws wk m m0 :=
 ⟨by rw[List.length_set];exact h.N,fun i hi hE=>by
  rw[List.length_set]at hi
  rw[gb hp i,if_neg (fun hh=>hE (by rw[hh];simp))]
  exact h.tk i hi (by simp),fun i hi=>by rw[List.length_set];exact h.dom i hi,fun i hi=>by rw[List.length_set];exact h.dom0 i hi,h.now,h.was,h.sm,h.sm0⟩
variable{L' M:RL}
theorem Av {X:RL}{n:Nd}{u:Value}(hB:NB n)(h:Lh M n u L'):∃ m1 m2 m3 Z,u=j7 n.leaf m1 m2 m3/\L'=Z++M/\PN Z n m1 m2 m3:=by
 obtain⟨m1,m2,m3,R1,Rb,rfl,rfl,hk,hor⟩:=h
 have b1:=hB.k;have b2:=hB.v;have b3:=hB.z
 refine⟨m1,m2,m3,R1++Rb,rfl,by rw[List.append_assoc],?_⟩
 have k1:=(hk.ol (show n.ks.length<=ae by unfold ae;omega)).pl.mono (Y:=R1++Rb) fun p hp=>List.mem_append_left _ hp
 rcases hor with ⟨_,hg,rfl,he⟩|⟨_,hg,rfl,he⟩
 ·exact⟨k1,(hg.ol (show n.vs.length<=ae by unfold ae;omega)).pl.mono (fun p hp=>List.mem_append_right _ hp),by rw[he];exact iq⟩
 exact⟨k1,by rw[he];exact iq,(hg.ol (show n.kids.length<=ae by unfold ae;omega)).pl.mono (fun p hp=>List.mem_append_right _ hp)⟩
theorem KU {n:Nd}(h:NB n):Sm n:=⟨by have:=h.k;omega,by have:=h.v;omega,by have:=h.z;omega,fun k hk=>by have:=h.kl k hk;omega,fun k hk=>by have:=h.vl k hk;omega⟩
theorem Ii:CL 0:=by
 intro c G X r3 r5 r7 r8 v bt m root cnt lv rows z d fr to hk htr hfr
 omega
set_option maxHeartbeats 8000000 in
theorem Ih {f:Nat}(ih:CL f):CL (f+1):=by
 intro c G X r3 r5 r7 r8 v bt m root cnt lv rows z d fr to hk htr hfr hcb hdb
 have hN32:=htr.N
 have hGL:=htr.memG
 obtain⟨T,es,ck,ws,wk,hN,rfl,hp⟩:=htr
 simp only at hp hN32 ⊢
 have mG:∀ q,q∈G->q∈(r7,aS (lv:Nat))::HD c.rf c.rb c.rt c.rn c.rw T root (cnt:Nat) c.root0 c.cnt0 es ck ws wk (G++X):=fun q hq=>List.mem_cons_of_mem _ (hGL q hq)
 refine yF Tryz.f129 ?_
 refine yX 4 ?_
 refine yR (aa (mG _ hk.m3) rfl rfl rfl rfl) ?_
 refine yX 3 ?_
 refine yR (aa (row:=bS c.rf c.rn c.rw root (cnt:Nat) c.root0 c.cnt0) (r:=c.rt) (by simp) rfl rfl rfl rfl) ?_
 refine yX 1 ?_
 refine OS.sub (ar.pulls [2,2] rfl) ?_
 refine yA yH (tI (by omega) z) ?_
 rintro u L' ⟨rfl,rfl⟩
 refine yX 1 ?_
 by_cases hc:0<=z/\z<c.N/\m z.toNat=none
 case' neg =>
  have hce:eX T z≠0:=fun hh=>hc (by
   obtain⟨a,b,e⟩:=zC.1 hh
   refine⟨a,by omega,?_⟩
   have:=hp.tk z.toNat (by omega) (by simp)
   rw[e]at this
   cases hm:m z.toNat with
   | none=>rfl
   | some n=>rw[hm]at this;cases this)
  have hb:(!bc (eX T z) 0)=true:=by rw[aC];simp[hce]
  refine yI hb ?_
  refine yV 1 ?_
  refine xC rfl ?_ ?_ <;> intro hc2
  ·refine yX 3 ?_
   refine LS.sub (ar.sums (A:=(r7,aS (lv:Nat))::HD c.rf c.rb c.rt c.rn c.rw (cp T z) root (cnt:Nat) c.root0 c.cnt0 es ck ws wk (G++X)) (B:=fm c.rf c.rb (cp T z) ((r7,aS (lv:Nat))::(c.rt,bS c.rf c.rn c.rw root (cnt:Nat) c.root0 c.cnt0)::(c.rn,.map es ck)::(c.rw,.map ws wk)::(G++X))) fun f=>by simp[HD,fm]<;>omega) ?_
   refine yX 1 ?_
   exact .inl ⟨Dr hc,rfl,_,_,_,_,_,_,_,X,_,rfl⟩
  cases hc2
 obtain⟨hz0,hzN,hzm⟩:=hc
 obtain⟨p,rfl⟩:∃ p:Nat,z=p:=⟨z.toNat,by omega⟩
 simp only[Int.toNat_natCast]at hzm
 have hpN:p<T.length:=by omega
 have hpN':p<c.N:=by omega
 have htk:cz T p=false:=by have:=hp.tk p hpN (by simp);rw[hzm]at this;exact this
 have hce:eX T (p:Nat)=0:=zC.2 ⟨by omega,by omega,by simpa using htk⟩
 have hcs:cp T (p:Nat)=T.set p true:=by unfold cp;rw[if_pos hce];rfl
 rw[hce,hcs]
 refine yX 4 ?_
 have h1:=Fj hp hpN
 obtain⟨vs',him1,him2⟩:=hk.im
 obtain⟨w,hw1,hw2⟩:=him2 p (by rw[hk.N];omega)
 have mG1:∀ q,q∈G->q∈fm c.rf c.rb (T.set p true) ((r7,aS (lv:Nat))::(c.rt,bS c.rf c.rn c.rw root (cnt:Nat) c.root0 c.cnt0)::(c.rn,.map es ck)::(c.rw,.map ws wk)::(G++X)):=fun q hq=>by simp[hq]
 have him3:=him1.mono mG1
 refine yX 1 ?_
 refine yR (aa (mG1 _ hk.m5) rfl rfl rfl rfl) ?_
 refine yX 1 ?_
 refine OS.at1 (j:=p) (him3) (hw1) rfl rfl rfl rfl rfl rfl (fun ra0 oa0 rowa0 csa0 ma0 ca0 ga0=>⟨_,rfl,?_⟩)
 refine yR (aa ma0 ca0 rfl rfl (ap rfl ga0)) ?_
 refine yA yH (Bl (hw2.mono mG1)) ?_
 rintro u L' hdec
 rcases hdec with ⟨hd,rfl,rfl⟩|⟨n,un,hd,hB,rfl,hrd⟩
 ·refine yX 4 ?_
  refine yN fun r13=>?_
  refine yV 15 ?_
  refine xC rfl ?_ ?_ <;> intro hc3
  ·refine yX 3 ?_
   refine LS.sub (ar.sums (A:=(r7,aS (lv:Nat))::HD c.rf c.rb c.rt c.rn c.rw (T.set p true) root (cnt:Nat) c.root0 c.cnt0 es ck ws wk (G++((r13,an false (.slice none 0 0) (.slice none 0 0) (.slice none 0 0))::X))) (B:=(r13,an false (.slice none 0 0) (.slice none 0 0) (.slice none 0 0))::fm c.rf c.rb (T.set p true) ((r7,aS (lv:Nat))::(c.rt,bS c.rf c.rn c.rw root (cnt:Nat) c.root0 c.cnt0)::(c.rn,.map es ck)::(c.rw,.map ws wk)::(G++X))) fun f=>by simp[HD,fm]<;>omega) ?_
   refine yX 1 ?_
   exact .inl ⟨FK hpN' hzm hd,rfl,_,_,_,_,_,_,_,_,_,rfl⟩
  cases hc3
 obtain⟨m1,m2,m3,Z,rfl,rfl,hPN⟩:=Av (X:=X) hB hrd
 have s1:=o9 hPN.k
 have s2:=o9 hPN.v
 have s3:=o9 hPN.z
 have b1:=hB.k;have b2:=hB.v;have b3:=hB.z
 refine yX 4 ?_
 refine yN fun r13=>?_
 refine yW (ax 0 (n:=4) rfl rfl rfl rfl rfl (dd s1 s2 s3) rfl rfl) ?_
 refine yX 2 ?_
 refine LS.sub (ar.sums (A:=HD c.rf c.rb c.rt c.rn c.rw (T.set p true) root (cnt:Nat) c.root0 c.cnt0 es ck ws wk (((r7,aS (lv:Nat))::G)++((r13,an n.leaf m1 m2 m3)::(Z++X)))) (B:=(r13,an n.leaf m1 m2 m3)::(Z++fm c.rf c.rb (T.set p true) ((r7,aS (lv:Nat))::(c.rt,bS c.rf c.rn c.rw root (cnt:Nat) c.root0 c.cnt0)::(c.rn,.map es ck)::(c.rw,.map ws wk)::(G++X)))) fun f=>by simp[HD,fm]<;>omega) ?_
 have hX1:∀ q,q∈X->q∈(r13,an n.leaf m1 m2 m3)::(Z++X):=fun q hq=>by simp[hq]
 have hZ1:∀ q,q∈Z->q∈(r13,an n.leaf m1 m2 m3)::(Z++X):=fun q hq=>by simp[hq]
 have m13:(r13,an n.leaf m1 m2 m3)∈HD c.rf c.rb c.rt c.rn c.rw (T.set p true) root (cnt:Nat) c.root0 c.cnt0 es ck ws wk (((r7,aS (lv:Nat))::G)++((r13,an n.leaf m1 m2 m3)::(Z++X))):=by simp
 have hPN1:=hPN.mono hZ1
 have hsv0:SV 1 (HD c.rf c.rb c.rt c.rn c.rw (T.set p true) root (cnt:Nat) c.root0 c.cnt0 es ck ws wk (((r7,aS (lv:Nat))::G)++((r13,an n.leaf m1 m2 m3)::(Z++X)))) m1 n.ks.length (tx n.ks):=hPN.k.sv.mono fun q hq=>by simp[hq]
 refine yX 5 ?_
 refine yR (aa m13 rfl rfl rfl rfl) ?_
 refine yX 2 ?_
 refine yA yH (Ba hsv0 (by omega)) ?_
 rintro u L' ⟨rfl,rfl⟩
 refine yX 4 ?_
 have hgo:=Ig (f:=f) (N:=c.N) (img:=zR bt) (σ:=⟨m,cnt,lv⟩) (d:=d) (fr:=fr) (to:=to) hpN' hzm hd
 cases hbt:Hn n.ks fr to with
 | false =>
  repeat refine xQ ?_
  refine xC rfl ?_ ?_ <;> intro hc3
  ·refine yX 3 ?_
   refine LS.sub (ar.sums (A:=(r7,aS (lv:Nat))::HD c.rf c.rb c.rt c.rn c.rw (T.set p true) root (cnt:Nat) c.root0 c.cnt0 es ck ws wk (G++((r13,an n.leaf m1 m2 m3)::(Z++X)))) (B:=HD c.rf c.rb c.rt c.rn c.rw (T.set p true) root (cnt:Nat) c.root0 c.cnt0 es ck ws wk (((r7,aS (lv:Nat))::G)++((r13,an n.leaf m1 m2 m3)::(Z++X)))) fun f=>by simp[HD,fm]<;>omega) ?_
   refine yX 1 ?_
   exact .inl ⟨by rw[hgo,hbt];rfl,rfl,_,_,_,_,_,_,_,_,_,rfl⟩
  cases hc3
 | true =>
  rw[if_pos hbt]at hgo
  rw[hgo]
  refine yX 3 ?_
  refine yR (aa (r:=r3) (row:=eH c.rt) (by simp[hk.m3]) rfl rfl rfl rfl) ?_
  refine yX 3 ?_
  refine yA yH (sd (G:=(r7,aS (lv:Nat))::G) (o:=some n) (h1.mono hX1) (fun i hi=>by simpa using hi) (by rw[List.length_set];exact hpN) ⟨r13,rfl,m1,m2,m3,List.mem_cons_self ..,hPN1⟩ (fun n' hn=>by cases hn;exact KU hB)) ?_
  rintro u L' ⟨T',es',ck',ws',wk',hl',hfr',rfl,hp'⟩
  refine yX 2 ?_
  refine LS.sub (ar.sums (A:=(r7,aS (lv:Nat))::HD c.rf c.rb c.rt c.rn c.rw T' root (cnt:Nat) c.root0 c.cnt0 es' ck' ws' wk' (G++((r13,an n.leaf m1 m2 m3)::(Z++X)))) (B:=HD c.rf c.rb c.rt c.rn c.rw T' root (cnt:Nat) c.root0 c.cnt0 es' ck' ws' wk' (((r7,aS (lv:Nat))::G)++((r13,an n.leaf m1 m2 m3)::(Z++X)))) fun f=>by simp[HD,fm]<;>omega) ?_
  rw[List.length_set]at hl'
  have htr1:TR c G ((r13,an n.leaf m1 m2 m3)::(Z++X)) ⟨aD m p (some n),root,(cnt:Nat)⟩ (HD c.rf c.rb c.rt c.rn c.rw T' root (cnt:Nat) c.root0 c.cnt0 es' ck' ws' wk' (G++((r13,an n.leaf m1 m2 m3)::(Z++X)))):=⟨T',es',ck',ws',wk',by rw[hl',hN],rfl,hp'⟩
  have hfm:=qz (n':=n) hpN' hzm
  have m13':∀ lv' cnt',(r13,an n.leaf m1 m2 m3)∈(r7,aS lv')::HD c.rf c.rb c.rt c.rn c.rw T' root cnt' c.root0 c.cnt0 es' ck' ws' wk' (G++((r13,an n.leaf m1 m2 m3)::(Z++X))):=fun _ _=>by simp
  have hsv1:∀ lv' cnt',SV 1 ((r7,aS lv')::HD c.rf c.rb c.rt c.rn c.rw T' root cnt' c.root0 c.cnt0 es' ck' ws' wk' (G++((r13,an n.leaf m1 m2 m3)::(Z++X)))) m1 n.ks.length (tx n.ks):=fun _ _=>hPN.k.sv.mono fun q hq=>by simp[hq]
  refine yX 2 ?_
  refine yR (aa (m13' _ _) rfl rfl rfl rfl) ?_
  refine xN ?_
  obtain⟨lf',ks,vs,kids⟩:=n
  simp only at b1 b2 b3 hPN hPN1 hsv1 hbt ⊢
  cases lf' with
  | true =>
   repeat refine xQ ?_
   refine xC rfl ?_ ?_ <;> intro hc4
   ·have hbl:bc ((lv:Nat):Int) 0=decide (lv=0):=by rw[aC];by_cases h:lv=0 <;> simp[h] <;> omega
    refine yX 2 ?_
    refine yI hbl ?_
    refine yV 1 ?_
    refine LS.mid [1,4,6,13] (fun a' L'=>L'=(r7,aS ((if lv=0 then d else lv:Nat):Int))::HD c.rf c.rb c.rt c.rn c.rw T' root (cnt:Nat) c.root0 c.cnt0 es' ck' ws' wk' (G++((r13,an true m1 m2 m3)::(Z++X)))/\a'=[yC,.int .i64 (d:Nat),yC,yC,ptr r3,yC,ptr r7,yC,yC,yC,yC,yC,yC,ptr r13,yC,yC,yC,yC,yC,yC,yC,yC,yC,yC,yC,yC,yC,yC,yC,yC,yC,yC,yC,yC,yC,yC,yC,yC,yC,yC,yC,yC,yC,yC,yC,yC,yC,yC,yC,yC,yC,yC,yC,yC,yC,yC,yC,yC,yC,yC,yC,yC,yC,yC,yC,yC,yC,yC,yC,yC,yC,yC,yC,yC,yC,yC,yC,yC,yC,yC,yC,yC,yC,yC,yC,yC,yC,yC,yC,yC,yC,yC,yC,yC,yC,yC,yC,yC,yC,yC,yC,yC,yC,yC]) ?_ ?_
    ·by_cases hl0:lv=0
     ·rw[decide_eq_true hl0,if_pos hl0]
      refine yX 5 ?_
      exact⟨rfl,rfl⟩
     rw[decide_eq_false hl0,if_neg hl0]
     refine yX 2 ?_
     exact⟨rfl,rfl⟩
    rintro a' L' ⟨rfl,rfl⟩
    generalize hlv':(if lv=0 then d else lv)=lv'
    repeat refine xQ ?_
    refine LS.drawn noGo mixed [(0,false),(1,false),(2,false),(3,false),(4,false),(5,false),(6,false),(7,false),(8,false),(9,false),(10,false),(11,false),(12,true)] rfl rfl (by kernel_rfl) ?_
    refine xE rfl rfl (aa (r:=r3) (row:=eH c.rt) (by simp[hk.m3]) rfl rfl rfl rfl) rfl ?_
    refine yX 3 ?_
    refine xE rfl rfl (aa (row:=bS c.rf c.rn c.rw root (cnt:Nat) c.root0 c.cnt0) (r:=c.rt) (by simp) rfl rfl rfl rfl) rfl ?_
    refine yX 1 ?_
    refine xE rfl rfl (aa (m13' _ _) rfl rfl rfl rfl) rfl ?_
    refine yQ rfl (az (hsv1 0 0) rfl rfl rfl rfl rfl) ?_
    refine yQ rfl (aW (m:=cnt) (n:=ks.length) rfl rfl rfl (ak (by omega) (by omega))) ?_
    refine yX 3 ?_
    refine ba.write rfl rfl (ax 3 rfl rfl rfl rfl rfl rfl rfl rfl) rfl (by repeat (first|exact ai.nil|refine ai.gone rfl ?_)) ?_
    refine yX 1 ?_
    have htr2:TR c G ((r13,an true m1 m2 m3)::(Z++X)) ⟨aD m p (some ⟨true,ks,vs,kids⟩),root,((cnt+ks.length:Nat):Int)⟩ (HD c.rf c.rb c.rt c.rn c.rw T' root ((cnt+ks.length:Nat):Int) c.root0 c.cnt0 es' ck' ws' wk' (G++((r13,an true m1 m2 m3)::(Z++X)))):=⟨T',es',ck',ws',wk',by rw[hl',hN],rfl,hp'⟩
    cases ks with
    | nil =>
     refine yX 2 ?_
     refine yR (aa (m13' _ _) rfl rfl rfl rfl) ?_
     refine yP (az (hsv1 0 0) rfl rfl rfl rfl rfl) ?_
     refine yX 9 ?_
     exact .inl ⟨by rw[if_pos rfl,if_neg (fun h=>h.1 rfl)],rfl,_,_,_,_,_,_,_,_,_,rfl⟩
    | cons k r =>
     have hb:(!av (((k::r).length:Nat):Int) 0)=true:=by rw[am,decide_eq_false (by simp only[List.length_cons];omega)];rfl
     have hbd:bc ((lv':Nat):Int) ((d:Nat):Int)=decide (lv'=d):=gn
     refine yX 2 ?_
     refine yR (aa (m13' _ _) rfl rfl rfl rfl) ?_
     refine yP (az (hsv1 0 0) rfl rfl rfl rfl rfl) ?_
     refine yI hb ?_
     refine yX 3 ?_
     refine yI hbd ?_
     refine yX 3 ?_
     by_cases hd':lv'=d
     ·have hor:lv=0∨lv=d:=by
       by_cases h0:lv=0
       ·exact .inl h0
       rw[if_neg h0]at hlv';exact .inr (by omega)
      rw[decide_eq_true hd',hd']
      refine yX 1 ?_
      refine .inr ⟨_,_,_,by rw[if_pos rfl,if_pos ⟨by simp,hor⟩],rfl,hX1,htr2,rfl,by simp only;omega,by simp only;omega⟩
     have hor:¬ (lv=0∨lv=d):=fun h=>hd' (by
      by_cases h0:lv=0
      ·rw[if_pos h0]at hlv';omega
      rw[if_neg h0]at hlv'
      rcases h with h|h
      ·exact absurd h h0
      omega)
     rw[decide_eq_false hd']
     refine yX 1 ?_
     exact .inl ⟨by rw[if_pos rfl,if_neg (fun h=>hor h.2)],rfl,_,_,_,_,_,_,_,_,_,rfl⟩
   cases hc4
  | false =>
   refine yX 2 ?_
   rw[if_neg (by decide)]
   have hX1':∀ q,q∈(r13,an false m1 m2 m3)::(Z++X)->q∈(r7,aS (lv:Nat))::HD c.rf c.rb c.rt c.rn c.rw T' root (cnt:Nat) c.root0 c.cnt0 es' ck' ws' wk' (G++((r13,an false m1 m2 m3)::(Z++X))):=fun q hq=>List.mem_cons_of_mem _ (htr1.mem q hq)
   refine yX 2 ?_
   refine yR (aa (m13' _ _) rfl rfl rfl rfl) ?_
   refine yP (az (hPN1.z.sv.mono hX1') rfl rfl rfl rfl rfl) ?_
   refine yX 2 ?_
   simp only
   repeat refine xQ ?_
   refine LS.mid [] (fun a' L'=>∃ σ' X' rows',mz (fun σ z fr to=>dF c.N (zR bt) f σ z (d+1) fr to) ks kids fr to ⟨aD m p (some ⟨false,ks,vs,kids⟩),cnt,lv⟩=some σ'/\(∀ q,q∈X->q∈X')/\TR c G X' ⟨σ'.m,root,(σ'.cnt:Nat)⟩ rows'/\L'=(r7,aS (σ'.lv:Nat))::rows'/\cq c.N σ'.m<cq c.N m/\σ'.cnt+300*cq c.N σ'.m<=300*c.N/\a'=[yC,yC,yC,yC,yC,yC,yC,yC,yC,yC,yC,yC,yC,yC,yC,yC,yC,yC,yC,yC,yC,yC,yC,yC,yC,yC,yC,yC,yC,yC,yC,yC,yC,yC,yC,yC,yC,yC,yC,yC,yC,yC,yC,yC,yC,yC,yC,yC,yC,yC,yC,yC,yC,yC,yC,yC,yC,yC,yC,yC,yC,yC,yC,yC,yC,yC,yC,yC,yC,yC,yC,yC,yC,yC,yC,yC,yC,yC,yC,yC,yC,yC,yC,yC,yC,yC,yC,yC,yC,yC,yC,yC,yC,yC,yC,yC,yC,yC,yC,yC,yC,yC,yC,yC]) ?_ ?_
   ·refine yX 1 ?_
    refine LS.loopJ [1,2,3,7,13,76,77,78] (fun z' a' L'=>∃ (j:Nat) (frj:Tx) (σ:zT) (Xj rj:RL),z'=kids.length-j/\j<=kids.length/\(∀ q,q∈(r13,an false m1 m2 m3)::(Z++X)->q∈Xj)/\TR c G Xj ⟨σ.m,root,(σ.cnt:Nat)⟩ rj/\cq c.N σ.m+1<=cq c.N m/\σ.cnt+300*cq c.N σ.m<=300*c.N /\
     mz (fun σ z fr to=>dF c.N (zR bt) f σ z (d+1) fr to) ks kids fr to ⟨aD m p (some ⟨false,ks,vs,kids⟩),cnt,lv⟩=mz (fun σ z fr to=>dF c.N (zR bt) f σ z (d+1) fr to) (ks.drop j) (kids.drop j) frj to σ/\L'=(r7,aS (σ.lv:Nat))::rj /\
     a'=[yC,.int .i64 (d:Nat),bb frj,bb to,yC,yC,yC,ptr r8,yC,yC,yC,yC,yC,ptr r13,yC,yC,yC,yC,yC,yC,yC,yC,yC,yC,yC,yC,yC,yC,yC,yC,yC,yC,yC,yC,yC,yC,yC,yC,yC,yC,yC,yC,yC,yC,yC,yC,yC,yC,yC,yC,yC,yC,yC,yC,yC,yC,yC,yC,yC,yC,yC,yC,yC,yC,yC,yC,yC,yC,yC,yC,yC,yC,yC,yC,yC,yC,m3,.int .i64 (kids.length:Nat),.int .i64 (j:Nat),yC,yC,yC,yC,yC,yC,yC,yC,yC,yC,yC,yC,yC,yC,yC,yC,yC,yC,yC,yC,yC,yC,yC,yC,yC]) (n:=kids.length) rfl ⟨0,fr,⟨aD m p (some ⟨false,ks,vs,kids⟩),cnt,lv⟩,_,_,rfl,by omega,fun _ hq=>hq,htr1,by simp only;omega,by simp only;omega,rfl,rfl,rfl⟩ ?_
    rintro z' a' L' ⟨j,frj,σ,Xj,rj,rfl,hj,hXj,htrj,hfj,hcj,hkj,rfl,rfl⟩
    have hXL:∀ q,q∈(r13,an false m1 m2 m3)::(Z++X)->q∈(r7,aS (σ.lv:Nat))::rj:=fun q hq=>List.mem_cons_of_mem _ (htrj.mem q (hXj q hq))
    have mm:=hXL (r13,an false m1 m2 m3) (List.mem_cons_self ..)
    have hsk:=hPN1.k.sv.mono hXL
    have hsz:=hPN1.z.sv.mono hXL
    simp only at hsk hsz
    by_cases hjk:j<kids.length
    ·have hb:(!av ((kids.length:Nat):Int) ((j:Nat):Int))=true:=by rw[am,decide_eq_false (by omega)];rfl
     refine yX 1 ?_
     refine yI hb ?_
     refine yV 1 ?_
     refine xC rfl ?_ ?_ <;> intro hc5
     ·refine yX 4 ?_
      refine OS.at1 (j:=j) (hsz) (iY hjk) rfl rfl rfl rfl rfl rfl (fun ra0 oa0 rowa0 csa0 ma0 ca0 ga0=>⟨_,rfl,?_⟩)
      refine yR (aa ma0 ca0 rfl rfl (ap rfl ga0)) ?_
      refine yX 7 ?_
      have hbk:(!av ((ks.length:Nat):Int) ((j:Nat):Int))=decide (j<ks.length):=by rw[am];by_cases h:j<ks.length <;> simp[h] <;> omega
      refine yX 3 ?_
      refine yR (aa mm rfl rfl rfl rfl) ?_
      refine yP (az hsk rfl rfl rfl rfl rfl) ?_
      refine yI hbk ?_
      refine yV 1 ?_
      refine LS.mid [1,2,3,7,13,16,17,76,77,78] (fun a' L'=>L'=(r7,aS (σ.lv:Nat))::rj/\a'=[yC,.int .i64 (d:Nat),bb frj,bb to,yC,yC,yC,ptr r8,yC,yC,yC,yC,yC,ptr r13,yC,yC,.int .i64 kids[j],bb (pD (ks.drop j) to),yC,yC,yC,yC,yC,yC,yC,yC,yC,yC,yC,yC,yC,yC,yC,yC,yC,yC,yC,yC,yC,yC,yC,yC,yC,yC,yC,yC,yC,yC,yC,yC,yC,yC,yC,yC,yC,yC,yC,yC,yC,yC,yC,yC,yC,yC,yC,yC,yC,yC,yC,yC,yC,yC,yC,yC,yC,yC,m3,.int .i64 (kids.length:Nat),.int .i64 (j:Nat),yC,yC,yC,yC,yC,yC,yC,yC,yC,yC,yC,yC,yC,yC,yC,yC,yC,yC,yC,yC,yC,yC,yC,yC,yC]) ?_ ?_
      ·by_cases hjs:j<ks.length
       ·have he:pD (ks.drop j) to=ks[j]:=by unfold pD;rw[List.drop_eq_getElem_cons hjs];rfl
        rw[decide_eq_true hjs,he]
        refine yX 3 ?_
        refine yR (aa mm rfl rfl rfl rfl) ?_
        refine yX 1 ?_
        refine OS.at1 (j:=j) (hsk) (gJ hjs) rfl rfl rfl rfl rfl rfl (fun ra0 oa0 rowa0 csa0 ma0 ca0 ga0=>⟨_,rfl,?_⟩)
        refine yR (aa ma0 ca0 rfl rfl (ap rfl ga0)) ?_
        refine yX 2 ?_
        exact⟨rfl,rfl⟩
       have he:pD (ks.drop j) to=to:=by unfold pD;rw[List.drop_eq_nil_of_le (by omega)];rfl
       rw[decide_eq_false hjs,he]
       refine yX 2 ?_
       exact⟨rfl,rfl⟩
      rintro a' L' ⟨rfl,rfl⟩
      have hkd:kids.drop j=kids[j]::kids.drop (j+1):=List.drop_eq_getElem_cons hjk
      rw[hkd,mz]at hkj
      refine yX 1 ?_
      refine yR (aa (List.mem_cons_of_mem _ (htrj.memG _ hk.m8)) rfl rfl rfl rfl) ?_
      refine yX 2 ?_
      refine yP (aW (n:=1) rfl rfl rfl (ak (by omega) (by omega))) ?_
      refine yX 2 ?_
      refine yA yH (ih c G Xj r3 r5 r7 r8 v bt σ.m root σ.cnt σ.lv rj kids[j] (d+1) frj (pD (ks.drop j) to) hk htrj (by omega) hcj (by omega)) ?_
      rintro u L' hpost
      rcases hpost with ⟨ho,rfl,hfail⟩|⟨σ',X',rows',ho,rfl,hX',htr',rfl,hf',hc'⟩
      ·refine yV 3 ?_
       refine xC rfl ?_ ?_ <;> intro hc6
       ·refine yX 4 ?_
        refine .inl ⟨?_,rfl,hfail⟩
        rw[hkj]
        have ho':dF c.N (zR bt) f σ kids[j] (d+1) frj (pD (ks.drop j) to)=none:=ho
        simp only[ho']
       cases hc6
      refine yX 10 ?_
      refine yP (aW (n:=1) rfl rfl rfl (ak (by omega) (by omega))) ?_
      refine yX 2 ?_
      have ho':dF c.N (zR bt) f σ kids[j] (d+1) frj (pD (ks.drop j) to)=some σ':=ho
      simp only[ho',List.tail_drop]at hkj
      exact⟨kids.length-(j+1),by omega,j+1,pD (ks.drop j) to,σ',X',rows',rfl,by omega,fun q hq=>hX' q (hXj q hq),htr',by omega,hc',hkj,rfl,rfl⟩
     cases hc5
    have hb:(!av ((kids.length:Nat):Int) ((j:Nat):Int))=false:=by rw[am,decide_eq_true (by omega)];rfl
    refine yX 1 ?_
    refine yI hb ?_
    refine yX 2 ?_
    refine LS.exit ?_
    refine⟨σ,Xj,rj,?_,fun q hq=>hXj q (hX1 q hq),htrj,rfl,by omega,hcj,rfl⟩
    have hkn:kids.drop j=[]:=List.drop_eq_nil_of_le (by omega)
    rw[hkj,hkn]
    cases ks.drop j <;> rfl
   rintro a' L' ⟨σ',X',rows',e1,e2,e3,rfl,e5,e6,rfl⟩
   refine yX 4 ?_
   exact .inr ⟨σ',X',rows',e1,rfl,e2,e3,rfl,e5,e6⟩
theorem uB:∀ f,CL f
 | 0=>Ii
 | f+1=>Ih (uB f)
theorem ar.amid {P A Q:RL}:ar A (P++(A++Q)):=⟨P++Q,List.perm_append_comm_assoc ..⟩
theorem sN {N:Nat}:cq N rY=N:=by
 have:=lY (N:=N) (m:=rY)
 have h0:((List.range N).filter fun i=>(rY i).isSome)=[]:=List.filter_eq_nil_iff.2 fun i _=>fun h=>by cases h
 rw[h0]at this
 simpa using this
variable{root0:Int}
set_option maxHeartbeats 1000000 in
theorem HV {root:Int}{L:RL}{v:Value}{bt:List Tx}(htr:TR c G X ⟨rY,root0,0⟩ L)(him:zO G v bt)(hN:bt.length=c.N) :
  CS Tryz.prog 89 [ptr c.rt,.int .i64 root,v] L fun u L'=>(dF c.N (zR bt) (c.N+1) ⟨rY,0,0⟩ root 1 [] []=none/\u=.bool false/\L'=G)∨∃ σ X',dF c.N (zR bt) (c.N+1) ⟨rY,0,0⟩ root 1 [] []=some σ/\u=.bool true/\(∀ q,q∈X->q∈X')/\TR c G X' ⟨σ.m,root,(σ.cnt:Nat)⟩ L':=by
 have hN32:=htr.N
 suffices g:CS Tryz.prog 89 [ptr c.rt,.int .i64 root,v] L fun u L'=>∃ r3 r5 r7 r8,He c ((r8,sh r3 r5 r7 r8)::(r5,uO v)::(r3,eH c.rt)::G) X r7 root rY (dF c.N (zR bt) (c.N+1) ⟨rY,0,0⟩ root 1 [] []) u L' by
  refine g.less ?_
  rintro u L' ⟨r3,r5,r7,r8,h⟩
  rcases h with ⟨h1,rfl,T,rt,cn,es,ck,ws,wk,X',lv,rfl⟩|⟨σ',X',rows',h1,rfl,h3,h4,rfl,_,_⟩
  ·exact⟨G,ar.amid (P:=[_,_,_,_,_,_,_,_,_]) (Q:=X'),.inl ⟨h1,rfl,rfl⟩⟩
  obtain⟨L1,g1,s1⟩:=TR.pops (Y:=[(r8,sh r3 r5 r7 r8),(r5,uO v),(r3,eH c.rt)]) h4
  exact⟨L1,s1.trans ar.tail,.inr ⟨σ',X',h1,rfl,h3,g1⟩⟩
 obtain⟨T,es,ck,ws,wk,hT,rfl,hp⟩:=htr
 simp only at hp ⊢
 obtain⟨vs,him1,him2⟩:=him
 have hsl:=bC him1
 have hjc:tL v=false/\v.cells.toList=[v]:=him1.one
 refine yF Tryz.f89 ?_
 refine yX 1 ?_
 refine yM (gH (v:=ptr c.rt) (cs:=[ptr c.rt]) rfl rfl rfl rfl rfl) fun r3=>?_
 refine yM (gH (v:=v) (cs:=[v]) rfl rfl hjc.1 hjc.2 rfl) fun r5=>?_
 refine yX 8 ?_
 refine yW (ax 4 rfl rfl rfl rfl rfl rfl rfl rfl) ?_
 refine yX 2 ?_
 refine yN fun r7=>?_
 refine yX 3 ?_
 refine yN fun r8=>?_
 refine yX 5 ?_
 refine LS.sub (ar.sums (A:=(r7,aS ((0:Nat):Int))::HD c.rf c.rb c.rt c.rn c.rw T root ((0:Nat):Int) c.root0 c.cnt0 es ck ws wk (((r8,sh r3 r5 r7 r8)::(r5,uO v)::(r3,eH c.rt)::G)++X)) (B:=(r8,sh r3 r5 r7 r8)::(r7,aS ((0:Nat):Int))::(r5,uO v)::(r3,eH c.rt)::HD c.rf c.rb c.rt c.rn c.rw T root ((0:Nat):Int) c.root0 c.cnt0 es ck ws wk (G++X)) fun f=>by simp[HD,fm]<;>omega) ?_
 refine yX 1 ?_
 refine yR (aa (r:=r8) (row:=sh r3 r5 r7 r8) (by simp) rfl rfl rfl rfl) ?_
 refine yX 1 ?_
 refine yA yH (uB (c.N+1) c ((r8,sh r3 r5 r7 r8)::(r5,uO v)::(r3,eH c.rt)::G) X r3 r5 r7 r8 v bt rY root 0 0 _ root 1 [] [] ⟨by simp,by simp,by simp,⟨vs,him1.mono (fun q hq=>by simp[hq]),fun i hi=>by obtain⟨w,h1,h2⟩:=him2 i hi;exact⟨w,h1,h2.mono (fun q hq=>by simp[hq])⟩⟩,hN⟩ ⟨T,es,ck,ws,wk,hT,rfl,hp⟩ (by rw[sN];omega) (by rw[sN];omega) (by omega)) ?_
 rintro u L' hpost
 refine yX 4 ?_
 exact⟨r3,r5,r7,r8,hpost⟩
def Lj(F:RL)(bt:List Tx)(root:Int)(u:Value)(L':RL):Prop :=
 ((32768<bt.length∨root < -1∨(bt.length:Int)<=root)/\u=.tuple #[.pointer none,.int .i64 1]/\L'=F) ∨
 (bt.length<=32768/\-1<=root/\root<bt.length/\((root≠-1/\dF bt.length (zR bt) (bt.length+1) ⟨rY,0,0⟩ root 1 [] []=none/\u=.tuple #[.pointer none,.int .i64 4]/\L'=F) ∨
  ∃ (ro:Nat) (c:jt) (X:RL) (m:da) (cnt:Nat),u=.tuple #[ptr ro,.int .i64 0]/\c.N=bt.length/\c.m0=m/\c.root0=root/\c.cnt0=(cnt:Nat)/\TR c ((ro,bO c.rt)::F) X ⟨m,root,(cnt:Nat)⟩ L' /\
   ((root=-1/\m=rY/\cnt=0)∨(root≠-1/\∃ σ,dF bt.length (zR bt) (bt.length+1) ⟨rY,0,0⟩ root 1 [] []=some σ/\m=σ.m/\cnt=σ.cnt))))
set_option maxHeartbeats 1000000 in
theorem EF {bt:List Tx}{root:Int}(him:zO F v bt):CS Tryz.prog 47 [.int .i64 root,v] F (Lj F bt root):=by
 have him0:=him
 obtain⟨vs,him1,him2⟩:=him
 refine yF Tryz.f47 ?_
 refine yX 4 ?_
 by_cases hN:32768<bt.length
 ·refine yX 2 ?_
  refine yP (az him1 rfl rfl rfl rfl rfl) ?_
  refine yA yH (Ae (bt.length:Nat) (.inr (by omega))) ?_
  rintro u L' ⟨rfl,rfl⟩
  refine yV 21 ?_
  refine xC rfl ?_ ?_ <;> intro hc
  ·refine yX 5 ?_
   exact .inl ⟨.inl hN,rfl,rfl⟩
  cases hc
 refine yX 2 ?_
 refine yP (az him1 rfl rfl rfl rfl rfl) ?_
 refine yA yH (HC bt.length (by omega)) ?_
 rintro u L' ⟨ro,rf,rb,rt,rn,rw',rfl,htr⟩
 refine yX 7 ?_
 have him2':SV 1 L' v bt.length vs:=him1.mono fun q hq=>htr.memG _ (List.mem_cons_of_mem _ hq)
 have hdrop:ar F L':=by
  obtain⟨T,es,ck,ws,wk,hT,rfl,hp⟩:=htr
  exact ar.amid (P:=[_,_,_,_,_,_]) (Q:=[])
 have hro:=htr.memG (ro,bO rt) (List.mem_cons_self ..)
 by_cases h1:root < -1
 ·have hb:(!av (-1) root)=true:=by rw[am,decide_eq_false (by omega)];rfl
  refine yX 5 ?_
  refine yI hb ?_
  refine yV 8 ?_
  refine xC rfl ?_ ?_ <;> intro hc
  ·refine yX 4 ?_
   refine LS.sub hdrop ?_
   refine yX 1 ?_
   exact .inl ⟨.inr (.inl h1),rfl,rfl⟩
  cases hc
 have hb:(!av (-1) root)=false:=by rw[am,decide_eq_true (by omega)];rfl
 by_cases h2:(bt.length:Int)<=root
 ·have hb2:av ((bt.length:Nat):Int) root=true:=au.2 h2
  refine yX 5 ?_
  refine yI hb ?_
  refine yX 4 ?_
  refine yP (az him2' rfl rfl rfl rfl rfl) ?_
  refine yI hb2 ?_
  refine yV 2 ?_
  refine xC rfl ?_ ?_ <;> intro hc
  ·refine yX 4 ?_
   refine LS.sub hdrop ?_
   refine yX 1 ?_
   exact .inl ⟨.inr (.inr h2),rfl,rfl⟩
  cases hc
 have hb2:av ((bt.length:Nat):Int) root=false:=by rw[am,decide_eq_false h2]
 refine yX 5 ?_
 refine yI hb ?_
 refine yX 4 ?_
 refine yP (az him2' rfl rfl rfl rfl rfl) ?_
 refine yI hb2 ?_
 refine yX 4 ?_
 by_cases h3:root=-1
 ·subst h3
  refine yX 19 ?_
  refine yA yH (oU htr (List.mem_cons_self ..)) ?_
  rintro u L2 ⟨w,rfl,htr2⟩
  refine yX 5 ?_
  exact .inr ⟨by omega,by omega,by omega,.inr ⟨ro,_,[],rY,0,rfl,rfl,rfl,rfl,rfl,htr2,.inl ⟨rfl,rfl,rfl⟩⟩⟩
 have hb3:(!bc root (-1))=true:=by rw[aC];simp[h3]
 refine yX 2 ?_
 refine yI hb3 ?_
 refine yX 4 ?_
 refine yR (aa hro rfl rfl rfl rfl) ?_
 refine yX 2 ?_
 refine yA yH (HV (c:=⟨rf,rb,rt,rn,rw',bt.length,-1,0,rY⟩) htr (him0.mono fun q hq=>List.mem_cons_of_mem _ hq) rfl) ?_
 rintro u L2 h
 rcases h with ⟨h4,rfl,rfl⟩|⟨σ,X',h4,rfl,_,htr2⟩
 ·refine yV 4 ?_
  refine xC rfl ?_ ?_ <;> intro hc
  ·refine yX 4 ?_
   refine LS.sub (ar.tail (L:=F)) ?_
   refine yX 1 ?_
   exact .inr ⟨by omega,by omega,by omega,.inl ⟨h3,h4,rfl,rfl⟩⟩
  cases hc
 refine yX 9 ?_
 refine yA yH (oU htr2 (List.mem_cons_self ..)) ?_
 rintro u L3 ⟨w,rfl,htr3⟩
 refine yX 5 ?_
 exact .inr ⟨by omega,by omega,by omega,.inr ⟨ro,_,X',σ.m,σ.cnt,rfl,rfl,rfl,rfl,rfl,htr3,.inr ⟨h3,σ,h4,rfl,rfl⟩⟩⟩
def nf(D:RL)(cs:List Value)(l:List (Nat×Tx)):Prop:=cs.length=l.length*2/\∀ i p,l[i]?=some p->∃ v,cs[i*2+0]?=some (.int .i64 (p.1:Nat))/\cs[i*2+1]?=some v/\SV 1 D v p.2.length (ab p.2)
theorem nf.mono {D D':RL}{cs:List Value}{l:List (Nat×Tx)}(h:nf D cs l)(hm:∀ p,p∈D->p∈D'):nf D' cs l :=
 ⟨h.1,fun i p hp=>let ⟨v,h1,h2,h3⟩:=h.2 i p hp;⟨v,h1,h2,h3.mono hm⟩⟩
theorem nf.nil {D:RL}:nf D [] []:=⟨rfl,fun i p h=>by simp at h⟩
theorem nf.snoc {D:RL}{cs:List Value}{l:List (Nat×Tx)}{q:Nat}{bs:Tx}{v:Value}(h:nf D cs l)(hv:SV 1 D v bs.length (ab bs)):nf D (cs++[.int .i64 (q:Nat),v]) (l++[(q,bs)]):=by
 have hl:=h.1
 refine⟨by simp;omega,fun i p hp=>?_⟩
 by_cases hi:i<l.length
 ·rw[List.getElem?_append_left hi]at hp
  obtain⟨v',h1,h2,h3⟩:=h.2 i p hp
  exact⟨v',by rw[List.getElem?_append_left (by omega)];exact h1,by rw[List.getElem?_append_left (by omega)];exact h2,h3⟩
 have hi2:i=l.length:=by
  have:=(List.getElem?_eq_some_iff.1 hp).1
  simp at this;omega
 subst hi2
 simp at hp
 subst hp
 refine⟨v,?_,?_,hv⟩
 ·rw[List.getElem?_append_right (by omega),hl];simp
 rw[List.getElem?_append_right (by omega),hl];simp
def aZ(m:da)(ks:List Nat):List (Nat×Tx):=ks.filterMap fun q=>(m q).map fun n=>(q,iR n)
theorem s9 {ks:List Nat}{q:Nat}:aZ m (ks++[q])=aZ m ks++aZ m [q]:=List.filterMap_append ..
theorem DU {ks:List Nat}:(aZ m ks).length<=ks.length:=List.length_filterMap_le ..
def tJ(m m0:da)(ks:List Nat):Prop:=ks.Pairwise (·<·)/\∀ k,k∈ks↔m k≠m0 k
variable{g:Nat->Option Value}
theorem Kr {ks:List Nat}(hw:jr X g m m0)(h:Bi g ks):tJ m m0 ks:=by
 refine⟨h.1,fun k=>?_⟩
 rw[h.2 k]
 constructor
 ·intro hk he
  exact hk ((hw k).1 he)
 intro hk
 obtain⟨v,hv,_⟩:=(hw k).2 hk
 rw[hv];simp
set_option maxHeartbeats 2000000 in
theorem GK {s:fD}{L:RL}(htr:TR c G X s L)(hfit:∀ q n,s.m q=some n->aQ n=true) :
  CS Tryz.prog 104 [ptr c.rt] L fun u L'=>∃ ks cs Y D,tJ s.m c.m0 ks/\L'=Y++(D++L)/\GV 163 2 [] u (aZ s.m ks).length cs Y/\nf D cs (aZ s.m ks):=by
 have hN32:=htr.N
 have hdom:=htr.dom
 have hsm:=htr.sm
 obtain⟨T,es,ck,ws,wk,hN,rfl,hp⟩:=htr
 have hdom0:=hp.dom0
 obtain⟨g,hgm,hmr⟩:=hp.now
 obtain⟨gw,hgw,hwr⟩:=hp.was
 generalize hrows:HD c.rf c.rb c.rt c.rn c.rw T s.root s.cnt c.root0 c.cnt0 es ck ws wk (G++X)=rows
 suffices hs:CS Tryz.prog 104 [ptr c.rt] rows fun u L'=>∃ ks cs Y D Ys x,tJ s.m c.m0 ks/\L'=Y++(D++(Ys++(x::rows)))/\GV 163 2 [] u (aZ s.m ks).length cs Y/\nf D cs (aZ s.m ks) by
  refine hs.less ?_
  rintro u L' ⟨ks,cs,Y,D,Ys,x,h1,rfl,h2,h3⟩
  refine⟨Y++(D++rows),ar.sums2 (Ys++[x]) fun f=>?_,ks,cs,Y,D,h1,rfl,h2,h3⟩
  simp only[List.map_append,List.map_cons,List.map_nil,List.sum_append,List.sum_cons,List.sum_nil];omega
 have hB0:∀ ks:List Nat,ks.Nodup->(∀ k,k∈ks->gw k≠none)->ks.length<=32768:=fun ks hnd hks=>by
  have:=dY (A:=ks) (B:=List.range c.N) hnd fun k hk=>List.mem_range.2 (by
   have hgk:=hks k hk
   by_cases hm:s.m k=none
   ·by_cases hm0:c.m0 k=none
    ·exact absurd ((hwr k).1 (by rw[hm,hm0])) hgk
    have:=hdom0 k hm0;omega
   exact hdom k hm)
  rw[List.length_range]at this
  omega
 have mrt:(c.rt,bS c.rf c.rn c.rw s.root s.cnt c.root0 c.cnt0)∈rows:=by rw[←hrows];simp
 have mrn:(c.rn,aG.map es ck)∈rows:=by rw[←hrows];simp
 have hXr:∀ q,q∈X->q∈rows:=fun q hq=>by rw[←hrows];simp[hq]
 refine yF Tryz.f104 ?_
 refine yX 10 ?_
 refine yR (aa mrt rfl rfl rfl rfl) ?_
 refine yA yH Jb ?_
 rintro u L' ⟨rb,rfl,rfl⟩
 refine yX 1 ?_
 rw[←hrows]
 refine OS.sub (ar.sums (A:=(rb,eA c.rw)::(c.rw,.map ws wk)::fm c.rf c.rb T ((c.rt,bS c.rf c.rn c.rw s.root s.cnt c.root0 c.cnt0)::(c.rn,.map es ck)::(G++X))) (B:=(rb,eA c.rw)::HD c.rf c.rb c.rt c.rn c.rw T s.root s.cnt c.root0 c.cnt0 es ck ws wk (G++X)) fun f=>by simp[HD,fm]<;>omega) ?_
 refine yA yH (D7 (B:=32768) hgw hB0 (by decide)) ?_
 rintro vk L' ⟨ks,hks,hkn,hgk⟩
 obtain⟨Ys,rfl,hgk'⟩:=hgk.split
 have hchg:=Kr hwr hks
 have hkl:ks.length<=32768:=by
  have:=dY (A:=ks) (B:=List.range c.N) (hks.1.imp fun {a b} h=>by omega) fun k hk=>List.mem_range.2 (by
   have hgk:=(hchg.2 k).1 hk
   by_cases hm:s.m k=none
   ·by_cases hm0:c.m0 k=none
    ·exact absurd (by rw[hm,hm0]) hgk
    have:=hdom0 k hm0;omega
   exact hdom k hm)
  rw[List.length_range]at this
  omega
 refine yX 1 ?_
 refine OS.sub (ar.sums (A:=Ys++((rb,eA c.rw)::HD c.rf c.rb c.rt c.rn c.rw T s.root s.cnt c.root0 c.cnt0 es ck ws wk (G++X))) (B:=Ys++((rb,eA c.rw)::(c.rw,.map ws wk)::fm c.rf c.rb T ((c.rt,bS c.rf c.rn c.rw s.root s.cnt c.root0 c.cnt0)::(c.rn,.map es ck)::(G++X)))) fun f=>by simp[HD,fm]<;>omega) ?_
 rw[hrows]
 have hgs:=hgk'.sv
 refine yP (az hgs rfl rfl rfl rfl rfl) ?_
 refine yX 2 ?_
 have hin:∀ (Y D:RL) q,q∈rows->q∈Y++(D++(Ys++((rb,eA c.rw)::rows))):=fun Y D q hq=>by simp[hq]
 have hinY:∀ (Y D:RL) q,q∈Ys->q∈Y++(D++(Ys++((rb,eA c.rw)::rows))):=fun Y D q hq=>by simp[hq]
 repeat refine xQ ?_
 refine LS.mid [3] (fun a' L'=>∃ cs Y D v,L'=Y++(D++(Ys++((rb,eA c.rw)::rows)))/\GV 163 2 [] v (aZ s.m ks).length cs Y/\nf D cs (aZ s.m ks)/\a'=[yC,yC,yC,v,yC,yC,yC,yC,yC,yC,yC,yC,yC,yC,yC,yC,yC,yC,yC,yC,yC,yC,yC,yC,yC,yC,yC,yC,yC,yC,yC,yC,yC,yC,yC,yC,yC,yC,yC,yC,yC,yC,yC]) ?_ ?_
 ·refine yX 1 ?_
  refine LS.loopJ [0,3,14,15,16] (fun z a' L'=>∃ (j:Nat) (cs:List Value) (Y D:RL) (v:Value),z=ks.length-j/\j<=ks.length/\L'=Y++(D++(Ys++((rb,eA c.rw)::rows)))/\GV 163 2 [] v (aZ s.m (ks.take j)).length cs Y/\nf D cs (aZ s.m (ks.take j)) /\
   a'=[ptr c.rt,yC,yC,v,yC,yC,yC,yC,yC,yC,yC,yC,yC,yC,vk,.int .i64 (ks.length:Nat),.int .i64 (j:Nat),yC,yC,yC,yC,yC,yC,yC,yC,yC,yC,yC,yC,yC,yC,yC,yC,yC,yC,yC,yC,yC,yC,yC,yC,yC,yC]) (n:=ks.length) rfl ⟨0,[],[],[],.slice none 0 0,rfl,by omega,rfl,.inl ⟨rfl,rfl,rfl,rfl⟩,nf.nil,rfl⟩ ?_
  rintro z a' L' ⟨j,cs,Y,D,v,rfl,hj,rfl,hv,hpr,rfl⟩
  by_cases hjk:j<ks.length
  ·have hb:(!av ((ks.length:Nat):Int) ((j:Nat):Int))=true:=by rw[am,decide_eq_false (by omega)];rfl
   have hat:(mg ks)[j]?=some (.int .i64 (ks[j]:Nat)):=by simp[mg,hjk]
   have htk:ks.take (j+1)=ks.take j++[ks[j]]:=List.take_succ_eq_append_getElem hjk
   have hdl:=DU (m:=s.m) (ks:=ks.take j)
   rw[List.length_take]at hdl
   refine yX 1 ?_
   refine yI hb ?_
   refine yV 1 ?_
   refine xC rfl ?_ ?_ <;> intro hc
   ·refine yX 3 ?_
    refine OS.at1 (j:=j) ((hgs.mono (hinY Y D))) (hat) rfl rfl rfl rfl rfl rfl (fun ra0 oa0 rowa0 csa0 ma0 ca0 ga0=>⟨_,rfl,?_⟩)
    refine yR (aa ma0 ca0 rfl rfl (ap rfl ga0)) ?_
    refine yX 6 ?_
    refine yR (aa (hin Y D _ mrt) rfl rfl rfl rfl) ?_
    refine yX 1 ?_
    refine yR (cb hgm (hin Y D _ mrn) rfl rfl rfl rfl (fun _=>rfl) rfl) ?_
    cases hm:s.m ks[j] with
    | none =>
     rw[(hmr ks[j]).1 hm]
     simp only[Option.getD]
     refine yX 9 ?_
     refine yP (aW (n:=1) rfl rfl rfl (ak (by omega) (by omega))) ?_
     refine yX 2 ?_
     have hd1:aZ s.m (ks.take (j+1))=aZ s.m (ks.take j):=by rw[htk,s9];simp[aZ,hm]
     exact⟨ks.length-(j+1),by omega,j+1,cs,Y,D,v,rfl,by omega,rfl,by rw[hd1];exact hv,by rw[hd1];exact hpr,rfl⟩
    | some n =>
     obtain⟨ra,hga,va1,va2,va3,hra,hPa⟩:=(hmr ks[j]).2 _ hm
     rw[show (g ks[j]).getD (.pointer none)=ptr ra by rw[hga];rfl]
     have hfn:=hfit _ _ hm
     have hsn:=hsm _ _ hm
     have hsk:=hsn.k
     have hlen:=qB hfn
     refine yV 6 ?_
     refine xC rfl ?_ ?_ <;> intro hc2
     ·refine yX 3 ?_
      refine yR (aa (hin Y D _ (hXr _ hra)) rfl rfl rfl rfl) ?_
      refine yA yH (Ee (hPa.nv hsn fun q hq=>hin Y D _ (hXr _ hq)) (by omega)) ?_
      rintro u L' ⟨w,rfl,hw⟩
      rcases hw with ⟨hf,_,_⟩|⟨_,r,rfl,rfl⟩
      ·rw[hf]at hfn;cases hfn
      refine yX 7 ?_
      have hrow:∀ D':RL,SV 1 ((r,ez (iR n))::D') (.slice (some ⟨r,0,none⟩) 256 256) (iR n).length (ab (iR n)):=fun D'=>by
       rw[hlen]
       exact SV.row (e:=5) (List.mem_cons_self ..) (by rw[ao,hlen])
      refine LS.sub (ar.sums (A:=Y++(((r,ez (iR n))::D)++(Ys++((rb,eA c.rw)::rows)))) (B:=(r,ez (iR n))::(Y++(D++(Ys++((rb,eA c.rw)::rows))))) fun f=>by simp[HD,fm]<;>omega) ?_
      refine yX 5 ?_
      refine yN fun rz=>?_
      refine OS.turns rfl (bH [(rz,.cells 163 [.int .i64 (ks[j]:Nat),.slice (some ⟨r,0,none⟩) 256 256])] (((r,ez (iR n))::D)++(Ys++((rb,eA c.rw)::rows))) (e:=163) (sz:=2) (bts:=32) (m:=1) (new:=[.int .i64 (ks[j]:Nat),.slice (some ⟨r,0,none⟩) 256 256]) hv (SV.row (sz:=2) (n:=1) (List.mem_cons_self ..) rfl) rfl rfl rfl rfl (by omega) (by omega)) (fun w L₁ hR=>?_)
      obtain⟨Y',g',rfl⟩:=hR
      refine yX 1 ?_
      refine OS.sub (ar.sums2 ([(rz,.cells 163 [.int .i64 (ks[j]:Nat),.slice (some ⟨r,0,none⟩) 256 256])]) (A:=Y'++(((r,ez (iR n))::D)++(Ys++((rb,eA c.rw)::rows)))) (B:=Y'++([(rz,.cells 163 [.int .i64 (ks[j]:Nat),.slice (some ⟨r,0,none⟩) 256 256])]++(((r,ez (iR n))::D)++(Ys++((rb,eA c.rw)::rows))))) fun f=>by simp[HD,fm]<;>omega) ?_
      refine yX 3 ?_
      refine yP (aW (n:=1) rfl rfl rfl (ak (by omega) (by omega))) ?_
      refine yX 2 ?_
      have hd1:aZ s.m (ks.take (j+1))=aZ s.m (ks.take j)++[(ks[j],iR n)]:=by rw[htk,s9];simp[aZ,hm]
      refine⟨ks.length-(j+1),by omega,j+1,cs++[.int .i64 (ks[j]:Nat),.slice (some ⟨r,0,none⟩) 256 256],Y',(r,ez (iR n))::D,w,rfl,by omega,rfl,?_,?_,rfl⟩
      ·rw[hd1,List.length_append];exact g'
      rw[hd1];exact (hpr.mono fun q hq=>List.mem_cons_of_mem _ hq).snoc (hrow D)
     cases hc2
   cases hc
  have hb:(!av ((ks.length:Nat):Int) ((j:Nat):Int))=false:=by rw[am,decide_eq_true (by omega)];rfl
  refine yX 1 ?_
  refine yI hb ?_
  refine yX 2 ?_
  refine LS.exit ?_
  have hjj:ks.take j=ks:=List.take_of_length_le (by omega)
  rw[hjj]at hv hpr
  exact⟨cs,Y,D,v,rfl,hv,hpr,rfl⟩
 rintro a' L' ⟨cs,Y,D,v,rfl,hv,hpr,rfl⟩
 refine yX 5 ?_
 exact⟨ks,cs,Y,D,Ys,_,hchg,rfl,hv,hpr⟩
theorem ux:∀ {h:Nat} {t:Tr h},cD m h t->cQ h t->∀ q,q∈bJ h t->∃ n,m q=some n/\aQ n=true
 | 0,t,hr,hk,q,hq=>by
  obtain⟨p,ks,vs,rfl⟩:=br t
  have:q=p:=by simpa using hq
  subst this
  exact⟨_,hr.top,hk.fits⟩
 | h+1,t,hr,hk,q,hq=>by
  obtain⟨p,ks,ts,rfl⟩:=aO t
  rw[bF]at hq
  rcases List.mem_cons.1 hq with rfl|hq
  ·exact⟨_,hr.top,hk.fits⟩
  obtain⟨u,hu,hq⟩:=List.mem_flatMap.1 hq
  exact ux ((bI.1 hr).2 u hu) (hk.kid u hu) q hq
theorem dI.fits {root:Int}{P:List Pr}(h:dI m root P):∀ q n,m q=some n->aQ n=true:=fun q n hq=>by
 rcases h with ⟨_,h2,_⟩|⟨H,t,hw,hok,hs,hkv⟩
 ·rw[h2 q]at hq;cases hq
 by_cases hp:q∈bJ H t
 ·obtain⟨n',h1,h2⟩:=ux hw.rep hok q hp
  rw[hq]at h1;cases h1;exact h2
 rw[hw.out q hp]at hq;cases hq
theorem CZ {s:fD}{L:RL}{ro:Nat}{P:List Pr}(htr:TR c G X s L)(ho:(ro,bO c.rt)∈L)(hg:dI s.m s.root P) :
  CS Tryz.prog 64 [ptr ro] L fun u L'=>∃ ks cs Y D,tJ s.m c.m0 ks/\L'=Y++(D++L)/\GV 163 2 [] u (aZ s.m ks).length cs Y/\nf D cs (aZ s.m ks):=by
 refine yF Tryz.f64 ?_
 refine yX 5 ?_
 refine yA yH (fE ho) ?_
 rintro u L' ⟨rfl,rfl⟩
 refine yX 8 ?_
 refine yR (aa ho rfl rfl rfl rfl) ?_
 refine yX 2 ?_
 refine yA yH (GK htr hg.fits) ?_
 rintro u L' ⟨ks,cs,Y,D,h1,rfl,h2,h3⟩
 refine yX 4 ?_
 exact⟨ks,cs,Y,D,h1,rfl,h2,h3⟩
section
variable{k v k':Tx}{P:List Pr}
theorem Fd:(gU k v P).length<=P.length+1:=by
 have:(P.filter fun p=>aq p.1 k).length+(P.filter fun p=>aq k p.1).length<=P.length:=by
  induction P with
  | nil=>simp
  | cons p P ih =>
   rw[List.filter_cons,List.filter_cons]
   cases h1:aq p.1 k with
   | true =>
    rw[fH h1]
    simp;omega
   | false =>
    cases h2:aq k p.1 <;> simp <;> omega
 unfold gU
 rw[List.length_append,List.length_cons]
 exact Nat.succ_le_succ this
theorem HT:eR [] [] P=P:=List.filter_eq_self.2 fun p _=>by unfold KJ;rw[FQ,xa];rfl
end
def Lp(m:da)(bt:List Tx):Prop:=∀ q,m q≠none->eU (zR bt q)=m q
theorem vh {ks:List Nat}(h:ks.Pairwise (·<·)):(aZ m ks).Pairwise fun a b=>a.1<b.1:=by
 unfold aZ
 rw[List.pairwise_filterMap]
 refine h.imp ?_
 intro a b hab x hx y hy
 obtain⟨n,hn,rfl⟩:=Option.map_eq_some_iff.1 hx
 obtain⟨n',hn',rfl⟩:=Option.map_eq_some_iff.1 hy
 exact hab
theorem pF {ks:List Nat}{p:Nat×Tx}(h:p∈aZ m ks):p.1∈ks/\∃ n,m p.1=some n/\p.2=iR n:=by
 obtain⟨q,hq,he⟩:=List.mem_filterMap.1 h
 obtain⟨n,hn,rfl⟩:=Option.map_eq_some_iff.1 he
 exact⟨hq,n,hn,rfl⟩
abbrev BC(rj:Nat)(root:Int)(ro rm rD rp:Nat)(vd vu:Value):aG:=.cells 96 [ptr rj,.int .i64 root,ptr ro,ptr rm,ptr rD,.map (some rp),vd,vu]
section
variable{L:RL}{rs rj rd rb ro rm rD rp:Nat}{root:Int}{vd vu:Value}{s:Dk}
theorem nC(h:(rs,BC rj root ro rm rD rp vd vu)∈L):CS Tryz.prog 60 [ptr rs] L fun u L'=>u=.bool false/\L'=L:=by
 refine yF Tryz.f60 ?_
 refine yX 10 ?_
 refine yR (aa h rfl rfl rfl rfl) ?_
 refine yX 5 ?_
 exact⟨rfl,rfl⟩
theorem jy:CS Tryz.prog 60 [.pointer none] L fun u L'=>u=.bool true/\L'=L:=by
 refine yF Tryz.f60 ?_
 refine yX 16 ?_
 exact⟨rfl,rfl⟩
theorem AO(h:(rj,.cells 134 [ptr rd])∈L):CS Tryz.prog 76 [ptr rj] L fun v L'=>v=ptr rd/\L'=L:=by
 refine yF Tryz.f76 ?_
 refine yX 13 ?_
 refine yR (aa h rfl rfl rfl rfl) ?_
 refine yX 3 ?_
 exact⟨rfl,rfl⟩
theorem zy(h:(rd,ov rb s)∈L):CS Tryz.prog 49 [ptr rd] L fun v L'=>v=.int .i64 (s.n:Nat)/\L'=L:=by
 refine yF Tryz.f49 ?_
 refine yX 13 ?_
 refine yR (aa h rfl rfl rfl rfl) ?_
 refine yX 4 ?_
 exact⟨rfl,rfl⟩
theorem K8(h:(rd,ov rb s)∈L):CS Tryz.prog 36 [ptr rd] L fun v L'=>v=.bool s.dead/\L'=L:=by
 refine yF Tryz.f36 ?_
 refine yX 10 ?_
 refine yR (aa h rfl rfl rfl rfl) ?_
 refine yX 4 ?_
 exact⟨rfl,rfl⟩
theorem xZ(h:(rs,BC rj root ro rm rD rp vd vu)∈L)(hj:(rj,.cells 134 [ptr rd])∈L)(hd:(rd,ov rb s)∈L):CS Tryz.prog 54 [ptr rs] L fun u L'=>u=.int .i64 (if s.dead=true then 20 else 0)/\L'=L:=by
 refine yF Tryz.f54 ?_
 refine yX 5 ?_
 refine yA yH (nC h) ?_
 rintro u L₁ ⟨rfl,e₁⟩
 subst e₁
 refine yX 8 ?_
 refine yR (aa h rfl rfl rfl rfl) ?_
 refine yA yH (AO hj) ?_
 rintro u L₁ ⟨rfl,e₁⟩
 subst e₁
 refine yX 1 ?_
 refine yA yH (K8 hd) ?_
 rintro u L₁ ⟨rfl,e₁⟩
 subst e₁
 refine yX 2 ?_
 cases hdd:s.dead with
 | true =>
  repeat refine xQ ?_
  refine xC rfl ?_ ?_ <;> intro hc
  ·refine yX 4 ?_
   exact⟨rfl,rfl⟩
  cases hc
 | false =>
  refine yX 6 ?_
  exact⟨rfl,rfl⟩
theorem fF:CS Tryz.prog 54 [.pointer none] L fun u L'=>u=.int .i64 2/\L'=L:=by
 refine yF Tryz.f54 ?_
 refine yX 5 ?_
 refine yA yH jy ?_
 rintro u L₁ ⟨rfl,e₁⟩
 subst e₁
 refine yV 2 ?_
 refine xC rfl ?_ ?_ <;> intro hc
 ·refine yX 4 ?_
  exact⟨rfl,rfl⟩
 cases hc
theorem pj:CS Tryz.prog 52 [] L fun u L'=>∃ rp,u=.agg #[.map (some rp),.slice none 0 0,.slice none 0 0]/\L'=(rp,.map [] 0)::L:=by
 suffices g:CS Tryz.prog 52 [] L fun u L'=>∃ rp x,u=.agg #[.map (some rp),.slice none 0 0,.slice none 0 0]/\L'=(rp,.map [] 0)::x::L by
  exact g.less fun u L' ⟨rp,x,h1,h2⟩=>⟨_,by rw[h2];exact ar.cons ar.tail,rp,h1,rfl⟩
 refine yF Tryz.f52 ?_
 refine yX 1 ?_
 refine yN fun r0=>?_
 refine yX 2 ?_
 refine yM (f5 rfl rfl rfl) fun rp=>?_
 refine yX 3 ?_
 refine xT ⟨_,kY 1 rfl rfl rfl rfl,?_⟩
 exact⟨rp,_,rfl,rfl⟩
end
def fL(n:Nat):Nat:=122+(n-122)/2
variable{n:Nat}
theorem kq (h:122<=n)(h2:n<=1000000):CS Tryz.prog 50 [.int .i64 (n:Nat)] L fun u L'=>u=.int .i64 (fL n:Nat)/\L'=L:=by
 refine yF Tryz.f50 ?_
 refine yX 5 ?_
 refine yP (cW (dQ (k:=.i64) (m:=((n:Nat):Int)) (n:=122) rfl rfl rfl (ak (by omega) (by omega))) (congrArg (Value.int .i64) (show ((n:Nat):Int)-122=((n-122:Nat):Int) by omega))) ?_
 refine yP (u7 (m:=n-122) (n:=2) rfl rfl rfl (by decide) (ak (by omega) (by omega))) ?_
 refine yP (aW (m:=122) rfl rfl rfl (ak (by omega) (by omega))) ?_
 refine yX 3 ?_
 exact⟨rfl,rfl⟩
def kF:Tx:=[98,97,115,116,105,111,110,32,115,116,111,114,101]
theorem yB:(tB kF).length=14:=gA (by decide)
theorem B9:tB kF=13::kF:=by kernel_rfl
def iQ(n:Nat)(root:Int):Tx:=tB kF++(cnt (n:Nat)++cnt (root+1))
def kh(n:Nat)(root:Int):Tx:=iQ n root++List.replicate (256-(iQ n root).length) 0
theorem y8(n:Nat)(root:Int):14<=(iQ n root).length/\(iQ n root).length<=34:=by
 have h1:=l8 (z:=(n:Nat))
 have h2:=l8 (z:=root+1)
 have h3:=yB
 unfold iQ
 simp only[List.length_append]
 omega
theorem sG(n:Nat)(root:Int):(kh n root).length=256:=by
 have:=y8 n root
 unfold kh
 simp only[List.length_append,List.length_replicate]
 omega
theorem p8 {root:Int}(h0:-10<=root)(h1:root<=1000000):CS Tryz.prog 108 [.int .i64 (n:Nat),.int .i64 root] L fun u L'=>∃ r,u=.slice (some ⟨r,0,none⟩) 256 256/\L'=(r,ez (kh n root))::L:=by
 suffices g:CS Tryz.prog 108 [.int .i64 (n:Nat),.int .i64 root] L fun u L'=>∃ r a b c,u=.slice (some ⟨r,0,none⟩) 256 256/\L'=a::b::c::(r,ez (kh n root))::L by
  exact g.less fun u L' ⟨r,a,b,c,h1,h2⟩=>⟨_,by rw[h2];exact ar.suffix (X:=[a,b,c]),r,h1,rfl⟩
 have hl:=y8 n root
 have hc1:=l8 (z:=(n:Nat))
 have hm:=yB
 refine yF Tryz.f108 ?_
 refine yX 4 ?_
 refine yM (f6 (l:=256) (c:=256) rfl rfl rfl dj (Nat.le_refl _) (by omega) (by omega)) fun r=>?_
 rw[iV]
 refine yX 4 ?_
 refine yA yH (xg (s:=kF) (by decide)) ?_
 rintro u L' ⟨r1,rfl,rfl⟩
 refine yX 2 ?_
 refine yA yH (jW (n:=(tB kF).length) (bs:=tB kF) (n:Nat) ja (by omega)) ?_
 rintro u L' ⟨r2,rfl,rfl⟩
 refine yX 2 ?_
 refine yP (a8 (m:=root) (n:=1) rfl rfl rfl (ak (by omega) (by omega))) ?_
 refine yA yH (jW (n:=(tB kF).length+(cnt (n:Nat)).length) (bs:=tB kF++cnt (n:Nat)) (root+1) (SV.row (List.mem_cons_self ..) (by rw[ao,List.length_append];omega)) (by omega)) ?_
 rintro u L' ⟨r3,rfl,rfl⟩
 refine yX 1 ?_
 rw[List.append_assoc]
 have hl2:(tB kF).length+(cnt (n:Nat)).length+(cnt (root+1)).length=(iQ n root).length:=by unfold iQ;simp only[List.length_append];omega
 rw[hl2]
 refine yW (Cs 3 (n:=(iQ n root).length) (N:=256) (sz:=1) (new:=ab (iQ n root)) (SV.row (List.mem_cons_self ..) (by rw[ao];unfold iQ;omega)) (by omega) (by omega) (bX _) rfl rfl rfl rfl rfl rfl rfl (uH (by simp;omega)) rfl) ?_
 refine yX 6 ?_
 have e:iQ n root++List.drop (iQ n root).length (List.replicate 256 0)=kh n root:=by unfold kh;rw[List.drop_replicate]
 rw[e]
 exact⟨r,_,_,_,rfl,rfl⟩
def fh(b:Tx)(n:Nat):Int×Bool:=if b=zeros then (-1,true) else ((lQ 32768 (lQ 32768 (kL 13 (b,false)).2).2).1-1,decide (b=kh n ((lQ 32768 (lQ 32768 (kL 13 (b,false)).2).2).1-1)))
theorem yg:fh zeros n=(-1,true):=if_pos rfl
theorem EX {root:Int}(h0:-1<=root)(h1:root<=32767)(hn:n<=32768):fh (kh n root) n=(root,true):=by
 have hne:kh n root≠zeros:=fun h=>by
  have:=congrArg (fun l:Tx=>l[0]?) h
  have e:=B9
  simp[kh,iQ,e]at this
 have h2:kL 13 (kh n root,false)=(kF,(cnt (n:Nat)++(cnt (root+1)++List.replicate (256-(iQ n root).length) 0),false)):=by
  have:=wc (most:=13) (t:=kF) (r:=cnt (n:Nat)++(cnt (root+1)++List.replicate (256-(iQ n root).length) 0)) (by decide) (by decide)
  rw[←this]
  show kL 13 (iQ n root++List.replicate (256-(iQ n root).length) 0,false)=_
  generalize List.replicate (256-(iQ n root).length) (0:UInt8)=Z
  unfold iQ
  simp only[List.append_assoc]
 have h3:=o8 (most:=32768) (z:=(n:Nat)) (r:=cnt (root+1)++List.replicate (256-(iQ n root).length) 0) (by omega) (by omega) (by omega)
 have h4:=o8 (most:=32768) (z:=root+1) (r:=List.replicate (256-(iQ n root).length) (0:UInt8)) (by omega) (by omega) (by omega)
 have e:(lQ 32768 (lQ 32768 (kL 13 (kh n root,false)).2).2).1-1=root:=by rw[h2];simp only;rw[h3];simp only;rw[h4];simp only;omega
 unfold fh
 rw[if_neg hne,e,decide_eq_true rfl]
theorem Dc {b:Value}{bs:Tx}{n:Nat}(hb:SV 1 L b 256 (ab bs)):CS Tryz.prog 87 [b,.int .i64 (n:Nat)] L fun u L'=>u=.tuple #[.int .i64 (fh bs n).1,.bool (fh bs n).2]/\L'=L:=by
 suffices g:CS Tryz.prog 87 [b,.int .i64 (n:Nat)] L fun u L'=>u=.tuple #[.int .i64 (fh bs n).1,.bool (fh bs n).2]/\∃ X,L'=X++L by
  exact g.less fun u L' ⟨h1,X,h2⟩=>⟨_,by rw[h2];exact ar.suffix,h1,rfl⟩
 have hbl:bs.length=256:=by have:=hb.len;simpa[ab] using this
 refine yF Tryz.f87 ?_
 refine yX 6 ?_
 refine yM (f6 (l:=256) (c:=256) rfl rfl rfl dj (Nat.le_refl _) (by omega) (by omega)) fun r0=>?_
 rw[iV]
 have hb0:=hb.cons (x:=(r0,.cells 5 (ab (List.replicate 256 0))))
 refine yA yH (sV (xs:=bs) (ys:=zeros) hb0 (SV.row (n:=256) (List.mem_cons_self ..) (by rw[ao,List.length_replicate]))) ?_
 rintro u L₁ ⟨rfl,e₁⟩
 subst e₁
 refine yX 2 ?_
 by_cases hz:bs=zeros
 ·rw[decide_eq_true hz]
  repeat refine xQ ?_
  refine xC rfl ?_ ?_ <;> intro hc
  ·refine yX 5 ?_
   exact⟨by unfold fh;rw[if_pos hz];rfl,[_],rfl⟩
  cases hc
 rw[decide_eq_false hz]
 refine yX 2 ?_
 have hb1:SV 1 ((r0,.cells 5 (ab (List.replicate 256 0)))::L) b bs.length (ab bs):=by rw[hbl];exact hb0
 refine yX 2 ?_
 refine yA yH (kC hb1 (by omega)) ?_
 rintro u L' ⟨r,rb,rfl,v,rfl,hv⟩
 refine yX 3 ?_
 obtain⟨M,hM⟩:∃ M:RL,M=(rb,.cells 5 (ab bs))::(r0,.cells 5 (ab (List.replicate 256 0)))::L:=⟨_,rfl⟩
 rw[←hM]at hv ⊢
 refine yX 2 ?_
 refine yA yH (T.RStr_ct (M:=M) (T:=M) (f:=false) (by decide) (by decide) (fun _ h=>h) hv (by show bs.length<=_;omega)) ?_
 rintro u L' ⟨rfl,v1,rfl,hv1⟩
 have l1:(kL 13 (bs,false)).2.1.length<=bs.length:=nt (z:=([]:Tx)) (t:=(ni bs 13).1) (k:=(ni bs 13).2) (s:=(bs,false))
 refine yX 2 ?_
 obtain⟨s1,hs1⟩:∃ s1,s1=(kL 13 (bs,false)).2:=⟨_,rfl⟩
 rw[show (tk ([]:Tx) (ni bs 13).1 (ni bs 13).2 (bs,false)).2=s1 by rw[hs1];rfl]at hv1 ⊢
 rw[←hs1]at l1
 refine yX 2 ?_
 refine yA yH (T.RCount_ct (M:=M) (T:=M) (bs:=s1.1) (f:=s1.2) (by decide) (by decide) (fun _ h=>h) hv1 (by omega)) ?_
 rintro u L' ⟨rfl,v2,rfl,hv2⟩
 have l2:=nt (z:=(0:Int)) (t:=((gI s1.1 32768).1:Int)) (k:=(gI s1.1 32768).2) (s:=s1)
 obtain⟨s2,hs2⟩:∃ s2,s2=(lQ 32768 s1).2:=⟨_,rfl⟩
 rw[show (tk (0:Int) ((gI s1.1 32768).1:Int) (gI s1.1 32768).2 s1).2=s2 by rw[hs2];rfl]at l2
 have hv2:OV M v2 s2.1:=by rw[hs2];exact hv2
 have e2:(r,aN v2 (tk (0:Int) ((gI s1.1 32768).1:Int) (gI s1.1 32768).2 (s1.1,s1.2)).2.2)=(r,aN v2 s2.2):=by rw[hs2];rfl
 rw[e2]
 refine yX 4 ?_
 refine yA yH (T.RCount_ct (M:=M) (T:=M) (bs:=s2.1) (f:=s2.2) (by decide) (by decide) (fun _ h=>h) hv2 (by omega)) ?_
 rintro u L' ⟨rfl,v3,rfl,hv3⟩
 obtain⟨z,hz3⟩:∃ z,z=(lQ 32768 s2).1:=⟨_,rfl⟩
 have hz4:=E9 (most:=32768) (s:=s2) (by decide)
 rw[←hz3]at hz4
 rw[show (tk (0:Int) ((gI s2.1 32768).1:Int) (gI s2.1 32768).2 (s2.1,s2.2)).1=z by rw[hz3];rfl]
 refine yX 1 ?_
 refine yP (dQ (m:=z) (n:=1) rfl rfl rfl (ak (by omega) (by omega))) ?_
 refine yX 7 ?_
 refine yA yH (p8 (n:=n) (root:=z-1) (by omega) (by omega)) ?_
 rintro u L' ⟨r9,rfl,rfl⟩
 refine yX 1 ?_
 refine yA yH (sV (xs:=bs) (ys:=kh n (z-1)) (hb.mono fun p hp=>by rw[hM];simp[hp]) (SV.row (n:=256) (List.mem_cons_self ..) (by rw[ao,sG]))) ?_
 rintro u L₁ ⟨rfl,e₁⟩
 subst e₁
 refine yX 5 ?_
 refine⟨?_,[_,_,_,_],by rw[hM];rfl⟩
 unfold fh
 rw[if_neg hz,←hs1,←hs2,←hz3]
 rfl
structure Sv where
 k:Tx
 d:Tx
 f:Bool
 l:List Nat
def p7(d:Tx):Bool:=decide (63<d.length)
abbrev Sv.lg(v:Sv):Bool:=p7 v.d
def Sv.id(v:Sv):Nat:=v.l.headD 0
def mh(v:Sv):Tx:=if v.lg then 1::cnt (v.id:Nat) else 0::v.d
def DL(v:Sv):Value:=.agg #[.bool v.lg,.int .i64 (if v.lg then v.id else 0:Nat),bb (if v.lg then [] else v.d)]
abbrev kH(b:Bool)(i:Int)(t:Tx):aG:=.cells 98 [.bool b,.int .i64 i,bb t]
theorem Ey {v:Sv}: CS Tryz.prog 59 [DL v] L fun u L' => u = bb (mh v) ∧ L' = L := by
  suffices g : CS Tryz.prog 59 [DL v] L fun u L' => u = bb (mh v) ∧ ∃ X, L' = X ++ L by
    exact g.less fun u L' ⟨h1, X, h2⟩ => ⟨_, by rw [h2]; exact ar.suffix, h1, rfl⟩
  unfold DL mh
  cases hl : v.lg with
  | true =>
    refine CS.mk (fn := Tryz.f59) rfl rfl rfl rfl ?_
    repeat refine xQ ?_
    refine xG rfl ?_
    refine OS.fresh rfl (dG (fun _ => rfl) rfl) (fun _ => rfl) (fun rx => ?_)
    refine xP rfl (fun _ => rfl) rfl ?_
    refine xN ?_
    repeat refine xQ ?_
    refine xG rfl ?_
    refine xP rfl (fun _ => rfl) rfl ?_
    refine xR rfl (aA 0 rfl rfl rfl rfl rfl) rfl ?_
    refine xA noGo rfl (fun _ => rfl) ((xk (n := 0) (bs := []) true (.inl ⟨rfl, rfl, rfl⟩) (by omega)).mono ?_)
    rintro u L' ⟨r1, rfl, rfl⟩
    refine ⟨_, rfl, ?_⟩
    refine xP rfl (fun _ => rfl) rfl ?_
    refine xN ?_
    repeat refine xQ ?_
    refine xG rfl ?_
    refine xP rfl (fun _ => rfl) rfl ?_
    refine xR rfl (aA 1 rfl rfl rfl rfl rfl) rfl ?_
    refine xN ?_
    repeat refine xQ ?_
    refine xC rfl (fun hc => ?_) (fun hc => ?_)
    · repeat refine xQ ?_
      refine xG rfl ?_
      refine xP rfl (fun _ => rfl) rfl ?_
      refine xP rfl (fun _ => rfl) rfl ?_
      refine xR rfl (aA 1 rfl rfl rfl rfl rfl) rfl ?_
      refine xA noGo rfl (fun _ => rfl) ((jW (n := 1) (bs := [1]) (v.id : Nat) (SV.row (List.mem_cons_self ..) rfl) (by omega)).mono ?_)
      rintro u L' ⟨r2, rfl, rfl⟩
      refine ⟨_, rfl, ?_⟩
      refine xR rfl (jK (n := 1 + (cnt (v.id : Nat)).length) (bs := 1 :: cnt (v.id : Nat)) (SV.row (List.mem_cons_self ..) (by rw [ao, List.length_cons]; omega)) rfl rfl rfl rfl rfl) rfl ?_
      refine xP rfl (fun _ => rfl) rfl ?_
      refine xN ?_
      refine xT ⟨_, fun _ _ => rfl, ?_⟩
      exact ⟨rfl, [_, _, _], rfl⟩
    · cases hc
  | false =>
    have hd : v.d.length ≤ 63 := by have : p7 v.d = false := hl
                                    unfold p7 at this; simp at this; exact this
    refine CS.mk (fn := Tryz.f59) rfl rfl rfl rfl ?_
    repeat refine xQ ?_
    refine xG rfl ?_
    refine OS.fresh rfl (dG (fun _ => rfl) rfl) (fun _ => rfl) (fun rx => ?_)
    refine xP rfl (fun _ => rfl) rfl ?_
    refine xN ?_
    repeat refine xQ ?_
    refine xG rfl ?_
    refine xP rfl (fun _ => rfl) rfl ?_
    refine xR rfl (aA 0 rfl rfl rfl rfl rfl) rfl ?_
    refine xA noGo rfl (fun _ => rfl) ((xk (n := 0) (bs := []) false (.inl ⟨rfl, rfl, rfl⟩) (by omega)).mono ?_)
    rintro u L' ⟨r1, rfl, rfl⟩
    refine ⟨_, rfl, ?_⟩
    refine xP rfl (fun _ => rfl) rfl ?_
    refine xN ?_
    repeat refine xQ ?_
    refine xG rfl ?_
    refine xP rfl (fun _ => rfl) rfl ?_
    refine xR rfl (aA 1 rfl rfl rfl rfl rfl) rfl ?_
    refine xN ?_
    repeat refine xQ ?_
    refine xC rfl (fun hc => ?_) (fun hc => ?_)
    · cases hc
    refine LS.skip ?_
    repeat refine xQ ?_
    refine xG rfl ?_
    refine xP rfl (fun _ => rfl) rfl ?_
    refine xR rfl (jK (n := 1) (bs := [0]) (SV.row (List.mem_cons_self ..) rfl) rfl rfl rfl rfl rfl) rfl ?_
    refine xP rfl (fun _ => rfl) rfl ?_
    refine xR rfl (aA 1 rfl rfl rfl rfl rfl) rfl ?_
    refine xP rfl (K5 (xs := [0]) (ys := v.d) rfl rfl rfl (by simp; omega)) rfl ?_
    refine xP rfl (fun _ => rfl) rfl ?_
    refine xN ?_
    refine xT ⟨_, fun _ _ => rfl, ?_⟩
    exact ⟨rfl, [_, _], rfl⟩
variable{r:Nat}
theorem Jd {f:Bool}{bs:List UInt8}(hv:OV M v bs):CS Tryz.prog 117 [.pointer (some ⟨r,0,none⟩)] ((r,aN v f)::M) fun v' L'=>v'=.bool (!f&&bs.isEmpty)/\L'=(r,aN v f)::M:=by
 refine yF Tryz.f117 ?_
 refine yX 5 ?_
 refine yA yH tH ?_
 rintro v' L' ⟨rfl,rfl⟩
 cases f
 ·refine yX 5 ?_
  refine yA yH (Cb hv) ?_
  rintro v' L' ⟨rfl,rfl⟩
  refine yX 6 ?_
  refine⟨?_,rfl⟩
  cases bs <;> simp[cj,aC]
  omega
 refine yX 11 ?_
 exact⟨rfl,rfl⟩
def Dz(bs:Tx):Bool×Int×Tx×Bool :=
 if (E8 (bs,false)).1=true then (true,(lQ 32768 (E8 (bs,false)).2).1,[],!(lQ 32768 (E8 (bs,false)).2).2.2&&(lQ 32768 (E8 (bs,false)).2).2.1.isEmpty)
 else (false,0,bs.drop (bs.length-(E8 (bs,false)).2.1.length),!(E8 (bs,false)).2.2)
theorem J0 {v:Sv}(hi:v.lg=true->v.id<=32768):Dz (mh v)=(v.lg,((if v.lg then v.id else 0:Nat):Int),(if v.lg then [] else v.d),true):=by
 unfold mh
 cases hl:v.lg with
 | true =>
  have e:E8 (1::cnt (v.id:Nat),false)=(true,(cnt (v.id:Nat),false)):=rfl
  have hi:=hi hl
  have h:=o8 (most:=32768) (z:=(v.id:Nat)) (r:=[]) (by omega) (by omega) (by omega)
  rw[List.append_nil]at h
  simp only[if_true,Dz,e,h]
  rfl
 | false =>
  have e:E8 (0::v.d,false)=(false,(v.d,false)):=rfl
  simp[Dz,e]
theorem sX {bs:Tx}(hn:bs.length<=100000):CS Tryz.prog 71 [bb bs] L fun u L'=>u=.tuple #[.agg #[.bool (Dz bs).1,.int .i64 (Dz bs).2.1,bb (Dz bs).2.2.1],.bool (Dz bs).2.2.2]/\L'=L:=by
 suffices g:CS Tryz.prog 71 [bb bs] L fun u L'=>u=.tuple #[.agg #[.bool (Dz bs).1,.int .i64 (Dz bs).2.1,bb (Dz bs).2.2.1],.bool (Dz bs).2.2.2]/\∃ X,L'=X++L by
  exact g.less fun u L' ⟨h1,X,h2⟩=>⟨_,by rw[h2];exact ar.suffix,h1,rfl⟩
 refine yF Tryz.f71 ?_
 refine yX 1 ?_
 refine yN fun r0=>?_
 refine yX 4 ?_
 refine yM (Cu rfl rfl rfl rfl rfl (by omega) rfl) fun rb=>?_
 refine yA yH (kC (bs:=bs) (SV.row (List.mem_cons_self ..) (by rw[ao];omega)) (by omega)) ?_
 rintro u L' ⟨r,rb2,rfl,v,rfl,hv⟩
 refine yX 3 ?_
 obtain⟨M,hM⟩:∃ M:RL,M=(rb2,.cells 5 (ab bs))::(rb,.cells 5 (ab bs))::(r0,.cells 98 (Value.agg #[.bool false,.int .i64 0,.string ⟨⟨[]⟩⟩]).cells.toList)::L:=⟨_,rfl⟩
 rw[←hM]at hv ⊢
 refine yX 2 ?_
 refine yA yH (T.RFlag_ct (M:=M) (T:=M) (f:=false) (fun _ h=>h) hv (by show bs.length<=_;omega)) ?_
 rintro u L' ⟨rfl,v1,rfl,hv1⟩
 obtain⟨⟨x,s1⟩,hx⟩:∃ x,x=E8 (bs,false):=⟨_,rfl⟩
 have e0:tk false (pC bs).1 (pC bs).2 (bs,false)=(x,s1):=by rw[hx];rfl
 have hle:=nt (z:=false) (t:=(pC bs).1) (k:=(pC bs).2) (s:=(bs,false))
 rw[e0]at hv1 hle ⊢
 simp only at hv1 hle ⊢
 unfold Dz
 rw[←hx]
 simp only
 refine yX 2 ?_
 refine yN fun r5=>?_
 refine yX 7 ?_
 cases x with
 | false =>
  repeat refine xQ ?_
  refine xC rfl ?_ ?_ <;> intro hc
  ·refine yX 5 ?_
   refine OS.sub (ar.pulls [1] rfl) ?_
   refine yA yH (CM (hv1.cons)) ?_
   rintro u L' ⟨rfl,rfl⟩
   refine yX 1 ?_
   refine yP (cW (dQ (k:=.i64) (m:=((bs.length:Nat):Int)) (n:=((s1.1.length:Nat):Int)) rfl rfl rfl (ak (by omega) (by omega))) (congrArg (Value.int .i64) (show ((bs.length:Nat):Int)-((s1.1.length:Nat):Int)=((bs.length-s1.1.length:Nat):Int) by omega))) ?_
   refine yP (A4 (l:=bs.length-s1.1.length) (u:=bs.length) rfl rfl rfl rfl aR rfl rfl (Nat.le_refl _) (by omega)) ?_
   rw[show (bs.drop (bs.length-s1.1.length)).take (bs.length-(bs.length-s1.1.length))=bs.drop (bs.length-s1.1.length) from List.take_of_length_le (by simp)]
   refine yX 3 ?_
   subst hM
   repeat refine xQ ?_
   refine LS.drawn noGo mixed [(0,false),(1,false),(2,true),(3,true),(4,false)] rfl rfl (by kernel_rfl) ?_
   refine yX 2 ?_
   refine yO rfl yH tH ?_
   rintro u L' ⟨rfl,rfl⟩
   refine⟨_,rfl,ai.cons rfl (aA 1 rfl rfl rfl rfl rfl) ai.nil,?_⟩
   refine ba.write rfl rfl (ax 4 rfl rfl rfl rfl rfl rfl rfl rfl) rfl (by repeat (first|exact ai.nil|refine ai.gone rfl ?_)) ?_
   refine yX 2 ?_
   refine xT ⟨_,cN 4 rfl rfl rfl rfl rfl,?_⟩
   exact⟨rfl,[_,_,_,_,_],rfl⟩
  cases hc
 | true =>
  refine yX 4 ?_
  refine OS.sub (ar.pulls [1] rfl) ?_
  refine yA yH (T.RCount_ct (M:=(r5,kH true 0 [])::M) (T:=M) (bs:=s1.1) (f:=s1.2) (by decide) (by decide) (fun _ h=>List.mem_cons_of_mem _ h) hv1 (by omega)) ?_
  rintro u L' ⟨rfl,v2,rfl,hv2⟩
  obtain⟨⟨z,s2⟩,hs2⟩:∃ x,x=lQ 32768 s1:=⟨_,rfl⟩
  have e2:tk (0:Int) ((gI s1.1 32768).1:Int) (gI s1.1 32768).2 (s1.1,s1.2)=(z,s2):=by rw[hs2];rfl
  rw[e2]at hv2 ⊢
  simp only at hv2 ⊢
  rw[←hs2]
  simp only
  refine yV 4 ?_
  refine LS.drawn noGo mixed [(0,false),(1,false),(2,true),(3,true),(4,false)] rfl rfl (by kernel_rfl) ?_
  refine yX 2 ?_
  refine yO rfl yH (Jd (hv2.cons)) ?_
  rintro u L' ⟨rfl,rfl⟩
  refine⟨_,rfl,ai.cons rfl (aA 1 rfl rfl rfl rfl rfl) ai.nil,?_⟩
  subst hM
  refine ba.write rfl rfl (ax 4 rfl rfl rfl rfl rfl rfl rfl rfl) rfl (by repeat (first|exact ai.nil|refine ai.gone rfl ?_)) ?_
  refine yX 2 ?_
  refine xT ⟨_,cN 4 rfl rfl rfl rfl rfl,?_⟩
  exact⟨rfl,[_,_,_,_,_],rfl⟩
theorem sW {v:Sv}(hi:v.lg=true->v.id<=32768):CS Tryz.prog 71 [bb (mh v)] L fun u L'=>u=.tuple #[DL v,.bool true]/\L'=L:=by
 refine (sX ?_).mono ?_
 ·unfold mh
  have:=l8 (z:=(v.id:Nat))
  cases hl:v.lg with
  | true=>simp;omega
  | false =>
   have:p7 v.d=false:=hl
   unfold p7 at this
   simp at this ⊢
   omega
 rintro u L' ⟨rfl,rfl⟩
 rw[J0 hi]
 exact⟨rfl,rfl⟩
def KI(v:Sv):Pr:=(v.k,mh v)
def jX(S:List Sv):List Pr:=S.map KI
def iN(v:Sv)(S:List Sv):List Sv:=S.filter (fun w=>aq w.k v.k)++v::S.filter fun w=>aq v.k w.k
def iS(k:Tx)(S:List Sv):List Sv:=S.filter fun w=>!decide (w.k=k)
def eI(S:List Sv)(k:Tx):Option Sv:=S.find? fun w=>decide (w.k=k)
def iU(S:List Sv):Prop:=S.Pairwise fun a b=>aq a.k b.k=true
def me(S:List Sv):List Sv:=S.map fun v=>{ v with f:=false }
theorem BT(v:Sv)(S:List Sv):gU v.k (mh v) (jX S)=jX (iN v S):=by
 simp[gU,jX,iN,List.filter_map,Function.comp_def,KI]
theorem H4(k:Tx)(S:List Sv):kM k (jX S)=jX (iS k S):=by
 simp only[kM,jX,iS,List.filter_map,Function.comp_def,KI]
 rfl
theorem qm(k:Tx)(S:List Sv):mU (jX S) k=(eI S k).map mh:=by
 simp only[mU,jX,eI,List.find?_map,Function.comp_def,KI,Option.map_map]
 rfl
theorem cR(S:List Sv):(jX S).length=S.length:=by simp[jX]
theorem Au(S:List Sv):jX (me S)=jX S:=by simp[jX,me,KI,mh,Sv.lg,Sv.id]
theorem wt {v w:Sv}{S:List Sv}(h:w∈iN v S):w=v∨(w∈S/\w.k≠v.k):=by
 simp only[iN,List.mem_append,List.mem_cons,List.mem_filter]at h
 rcases h with ⟨h1,h2⟩|h|⟨h1,h2⟩
 ·exact .inr ⟨h1,mr h2⟩
 ·exact .inl h
 exact .inr ⟨h1,fun e=>mr h2 e.symm⟩
theorem wu {k:Tx}{w:Sv}{S:List Sv}:w∈iS k S↔w∈S/\w.k≠k:=by simp[iS]
theorem ym {v:Sv}{S:List Sv}(h:iU S):(iN v S).Perm (v::iS v.k S):=by
 have e:(S.filter fun w=>aq w.k v.k)++S.filter (fun w=>aq v.k w.k)=iS v.k S:=by
  unfold iS
  induction S with
  | nil=>rfl
  | cons a S ih =>
   have h1:∀ b∈S,aq a.k b.k=true:=(List.pairwise_cons.1 h).1
   have ih':=ih (List.Pairwise.of_cons h)
   simp only[List.filter_cons]
   rcases nW (x:=a.k) (y:=v.k) with h2|h2|h2
   ·rw[if_pos h2,fH h2,if_neg (by simp),if_pos (by simpa using mr h2),List.cons_append,ih']
   ·rw[h2,j9,if_neg (by simp),if_neg (by simp),if_neg (by simp),ih']
   have h3:(S.filter fun w=>aq w.k v.k)=[]:=List.filter_eq_nil_iff.2 fun w hw=>by
    rw[fH (lt_trans h2 (h1 w hw))];simp
   rw[h3]at ih' ⊢
   rw[fH h2,if_neg (by simp),if_pos h2,if_pos (by simpa using fun e=>mr h2 e.symm),List.nil_append,←ih',List.nil_append]
 unfold iN
 refine List.perm_middle.trans ?_
 rw[e]
variable{S:List Sv}
theorem oh {k:Tx}{v:Sv}(h:eI S k=some v):v∈S/\v.k=k:=⟨List.mem_of_find?_eq_some h,by simpa using List.find?_some h⟩
theorem Ga {k:Tx}(h:eI S k=none):∀ v∈S,v.k≠k:=by simpa[eI] using h
theorem oy {k:Tx}(h:eI S k=none):iS k S=S:=List.filter_eq_self.2 fun w hw=>by simpa using Ga h w hw
theorem iU.nodup (h:iU S):(S.map (·.k)).Nodup:=by
 rw[List.nodup_iff_pairwise_ne,List.pairwise_map]
 exact h.imp fun h=>mr h
theorem GM (h:iU S){v:Sv}(hv:v∈S):S.Perm (v::iS v.k S):=by
 obtain⟨A,B,rfl⟩:=List.append_of_mem hv
 have hn:=h.nodup
 have e:iS v.k (A++v::B)=A++B:=by
  unfold iS
  rw[List.filter_append,List.filter_cons_of_neg (by simp)]
  rw[List.map_append,List.map_cons]at hn
  have h1:=List.nodup_append.1 hn
  rw[List.filter_eq_self.2,List.filter_eq_self.2]
  ·intro w hw
   have:=(List.nodup_cons.1 h1.2.1).1
   simp
   exact fun e=>this (e▸List.mem_map_of_mem hw)
  intro w hw
  simp
  exact fun e=>h1.2.2 w.k (List.mem_map_of_mem hw) v.k (List.mem_cons_self ..) e
 rw[e]
 exact List.perm_middle
theorem iU.put (h:iU S)(v:Sv):iU (iN v S):=by
 unfold iN iU
 rw[List.pairwise_append,List.pairwise_cons]
 refine⟨h.filter _,⟨fun w hw=>(List.mem_filter.1 hw).2,h.filter _⟩,fun a ha b hb=>?_⟩
 have h1:=(List.mem_filter.1 ha).2
 rcases List.mem_cons.1 hb with rfl|hb
 ·exact h1
 exact lt_trans h1 (List.mem_filter.1 hb).2
theorem iU.del (h:iU S)(k:Tx):iU (iS k S):=h.filter _
theorem iU.st (h:iU S):iU (me S):=by unfold iU me;rw[List.pairwise_map];exact h
theorem Fb(v:Sv)(S:List Sv):(iN v S).length<=S.length+1:=by
 have:=Fd (k:=v.k) (v:=mh v) (P:=jX S)
 rw[BT,cR,cR]at this
 exact this
theorem GN(k:Tx)(S:List Sv):(iS k S).length<=S.length:=List.length_filter_le ..
abbrev Fl(v:Sv):Bool:=v.lg&&v.f
abbrev Ol(v:Sv):Bool:=v.lg&&!v.f
def bV(V:List Sv):List (List Nat×List UInt8):=V.map fun v=>(v.l,v.d)
variable{D:List UInt8}{base:Nat}{V:List (List Nat×List UInt8)}
theorem Hd.perm {W:List (List Nat×List UInt8)}(h:Hd D base T V)(p:V.Perm W):Hd D base T W :=
 ⟨fun v hv=>h.val v (p.mem_iff.2 hv),(p.flatMap_right _).nodup_iff.1 h.nd,fun x hx=>h.tk x ((p.flatMap_right _).mem_iff.2 hx),by rw[←(p.flatMap_right _).length_eq];exact h.cnt⟩
structure js(S O G:List Sv)(U:List Nat):Prop where
 ss:iU S
 so:iU O
 of:∀ v∈O,v.f=false
 sf:∀ v∈S,v.f=false->v∈O
 gone:(O.filter (·.lg)).Perm (G++S.filter Ol)
 und:∀ v∈S,Fl v=true->v.id∈U
 key:∀ v∈S,1<=v.k.length/\v.k.length<=32/\v.d.length<=131072
 keyO:∀ v∈O,1<=v.k.length/\v.k.length<=32/\v.d.length<=131072
variable{O:List Sv}
theorem js.new (h:iU O)(hf:∀ v∈O,v.f=false)(hk:∀ v∈O,1<=v.k.length/\v.k.length<=32/\v.d.length<=131072):js O O [] [] :=
 ⟨h,h,hf,fun v hv _=>hv,by
  have:O.filter Ol=O.filter (·.lg):=List.filter_congr fun v hv=>by simp[Ol,hf v hv]
  rw[this];exact List.Perm.refl _,fun v hv h=>by simp[Fl,hf v hv]at h,hk,hk⟩
theorem wS(S:List Sv):(S.filter (·.lg)).Perm (S.filter Ol++S.filter Fl):=by
 induction S with
 | nil=>exact List.Perm.refl _
 | cons v S ih =>
  cases hl:v.lg <;> cases hf:v.f
  ·simpa[List.filter_cons,hl,hf] using ih
  ·simpa[List.filter_cons,hl,hf] using ih
  ·simpa[List.filter_cons,hl,hf] using ih.cons v
  simp[hl,hf]
  exact (ih.cons v).trans List.perm_middle.symm
theorem Lb(S:List Sv):bV ((me S).filter (·.lg))=bV (S.filter (·.lg)):=by
 simp[bV,me,List.filter_map,Function.comp_def,Sv.lg]
theorem js.done {G:List Sv}{U:List Nat}(h:js S O G U):(bV (O.filter (·.lg))++bV (S.filter Fl)).Perm (bV G++bV ((me S).filter (·.lg))):=by
 rw[Lb]
 unfold bV
 rw[←List.map_append,←List.map_append]
 refine List.Perm.map _ ?_
 refine (h.gone.append_right _).trans ?_
 rw[List.append_assoc]
 exact (wS S).symm.append_left G
theorem js.commit {G:List Sv}{U:List Nat}(h:js S O G U):js (me S) (me S) [] [] :=
 js.new h.ss.st (fun v hv=>by obtain⟨w,_,rfl⟩:=List.mem_map.1 hv;rfl) fun v hv=>by obtain⟨w,hw,rfl⟩:=List.mem_map.1 hv;exact h.key w hw
theorem js.back {G:List Sv}{U:List Nat}(h:js S O G U):js O O [] []:=js.new h.so h.of h.keyO
theorem sS {p:Sv->Bool}{S:List Sv}(h:iU S){v:Sv}(hv:v∈S):(S.filter p).Perm ((if p v then [v] else [])++(iS v.k S).filter p):=by
 have:=(GM h hv).filter p
 rw[List.filter_cons]at this
 split at this <;> rename_i hp <;> simpa[hp] using this
def sM(S G:List Sv)(k:Tx):List Sv:=match eI S k with
 | some v=>if Ol v=true then G++[v] else G
 | none=>G
theorem js.del {G:List Sv}{U:List Nat}(h:js S O G U)(k:Tx):js (iS k S) O (sM S G k) U:=by
 refine⟨h.ss.del k,h.so,h.of,fun v hv hf=>h.sf v (wu.1 hv).1 hf,?_,fun v hv=>h.und v (wu.1 hv).1,fun v hv=>h.key v (wu.1 hv).1,h.keyO⟩
 unfold sM
 cases hg:eI S k with
 | none=>rw[oy hg];exact h.gone
 | some v =>
  obtain⟨h1,rfl⟩:=oh hg
  have h2:=sS (p:=Ol) h.ss h1
  simp only
  by_cases hp:Ol v=true
  ·rw[if_pos hp]at h2 ⊢
   refine h.gone.trans ?_
   rw[List.append_assoc]
   exact h2.append_left G
  rw[if_neg hp]at h2 ⊢
  exact h.gone.trans (h2.append_left G)
theorem js.put {G:List Sv}{U:List Nat}(h:js S O G U){v:Sv}(hf:v.f=true)(hk:1<=v.k.length/\v.k.length<=32/\v.d.length<=131072):js (iN v S) O (sM S G v.k) (if v.lg then U++[v.id] else U):=by
 have hd:=h.del v.k
 refine⟨h.ss.put v,h.so,h.of,fun w hw hwf=>?_,?_,fun w hw hwl=>?_,fun w hw=>?_,h.keyO⟩
 ·rcases wt hw with rfl|⟨h1,_⟩
  ·rw[hf]at hwf;cases hwf
  exact h.sf w h1 hwf
 ·refine hd.gone.trans (List.Perm.append_left _ ?_)
  have:=((ym (v:=v) h.ss).filter Ol).symm
  rw[List.filter_cons_of_neg (by simp[Ol,hf])]at this
  exact this
 ·rcases wt hw with rfl|⟨h1,_⟩
  ·rw[if_pos (by simp[Fl]at hwl;exact hwl.1)];simp
  have:=h.und w h1 hwl
  split
  ·exact List.mem_append_left _ this
  exact this
 rcases wt hw with rfl|⟨h1,_⟩
 ·exact hk
 exact h.key w h1
theorem J7 (h:iU S){v:Sv}(hf:v.f=true):((iN v S).filter Fl).Perm ((iS v.k S).filter Fl++if v.lg then [v] else []):=by
 have:=(ym (v:=v) h).filter Fl
 rw[List.filter_cons]at this
 cases hl:v.lg
 ·simpa[Fl,hl] using this
 simp[Fl,hl,hf]at this ⊢
 exact this.trans (List.perm_append_singleton ..).symm
def lr(V:List Sv):Nat->Option Value:=fun k=>if k∈V.map Sv.id then some (.agg #[]) else none
theorem wJ:lr []=fun _=>none:=by funext k;simp[lr]
theorem Ir {V:List Sv}{v:Sv}:ij (lr V) v.id (some (.agg #[]))=lr (V++[v]):=by
 funext k
 unfold ij lr
 by_cases h:k=v.id <;> simp[h]
theorem F6 {A B:List Sv}{v:Sv}(h:((A++v::B).map Sv.id).Nodup):ij (lr (A++v::B)) v.id none=lr (A++B):=by
 funext k
 unfold ij lr
 by_cases hk:k=v.id
 ·subst hk
  rw[if_pos rfl,if_neg]
  intro hm
  rw[List.map_append,List.map_cons]at h
  have h1:=List.nodup_append.1 h
  rw[List.map_append]at hm
  rcases List.mem_append.1 hm with h2|h2
  ·exact h1.2.2 _ h2 _ (List.mem_cons_self ..) rfl
  exact (List.nodup_cons.1 h1.2.1).1 h2
 rw[if_neg hk]
 have:(k∈(A++v::B).map Sv.id)↔k∈(A++B).map Sv.id:=by
  simp only[List.map_append,List.map_cons,List.mem_append,List.mem_cons,hk,false_or]
 by_cases hm:k∈(A++B).map Sv.id
 ·rw[if_pos (this.2 hm),if_pos hm]
 rw[if_neg (fun h=>hm (this.1 h)),if_neg hm]
theorem sF {A B:List Sv}(p:A.Perm B):lr A=lr B:=by
 funext k
 unfold lr
 have:=(p.map Sv.id).mem_iff (a:=k)
 by_cases h:k∈B.map Sv.id
 ·rw[if_pos h,if_pos (this.2 h)]
 rw[if_neg h,if_neg fun hh=>h (this.1 hh)]
theorem oP {m:Nat}{v:Sv}(h:tA D base m v.l v.d):v.l[0]?=some v.id/\v.id∈v.l:=by
 have h1:=h.len
 have h2:=jG v.d.length
 cases hl:v.l with
 | nil=>rw[hl]at h1;simp at h1;omega
 | cons x l=>simp[Sv.id,hl]
theorem uP:∀ {V:List Sv} {W:List (List Nat×List UInt8)},Hd D base T (W++bV V)->(V.map Sv.id).Nodup:=by
 intro V W h
 have hn:=h.nd
 rw[List.flatMap_append]at hn
 have hn2:=(List.nodup_append.1 hn).2.1
 have hv:∀ v∈V,v.id∈v.l:=fun v hv=>(oP (h.val (v.l,v.d) (List.mem_append_right _ (List.mem_map.2 ⟨v,hv,rfl⟩)))).2
 clear h hn
 induction V with
 | nil=>exact List.nodup_nil
 | cons v V ih =>
  simp only[bV,List.map_cons,List.flatMap_cons]at hn2
  have h1:=List.nodup_append.1 hn2
  rw[List.map_cons,List.nodup_cons]
  refine⟨fun hm=>?_,ih h1.2.1 fun w hw=>hv w (List.mem_cons_of_mem _ hw)⟩
  obtain⟨w,hw,he⟩:=List.mem_map.1 hm
  refine h1.2.2 v.id (hv v (List.mem_cons_self ..)) w.id ?_ he.symm
  exact List.mem_flatMap.2 ⟨(w.l,w.d),List.mem_map.2 ⟨w,hw,rfl⟩,hv w (List.mem_cons_of_mem _ hw)⟩
end Go.Proofs.YtoaojmobnbbnmaaGreat
section
namespace Go.Am
section
variable{P:Program}{o:Oper}{a a₁:ah}{L:RL}{x y z:Operand}{t kt et:TypeId}{r ck k:Nat}{es:List MapEntry}{g:Nat->Option Value}
theorem Gt {w:Value}(hM:MP es ck g)(hm:(r,.map es ck)∈L)(ho:o.op=.lookup t x y true)(hx:aX a x=some (.map (some r)))(hy:aX a y=some (.int .i64 (k:Nat)))(ht:P.underlying t=some (.map kt et))(hk:∀ n:Int,eE P kt (.int .i64 n)=true)(hz:mD P et=some w) :
  ∀ h,bp h L->aI P a o h=some (.val (.tuple #[(g k).getD w,.bool (g k).isSome]) h):=by
 intro h H
 obtain⟨D,rfl,hD⟩:=hM
 have hg:h.get r=some (.map (D.map nj) ck):=H.get _ hm
 have e:fI P t (.map (some r)) (.int .i64 (k:Nat)) true h=some (.tuple #[(g k).getD w,.bool (g k).isSome]):=by
  unfold fI fK
  simp only[ht,hk,hg]
  cases hgk:g k with
  | none=>rw[ku (hD.no hgk)];simp only[hz];rfl
  | some v =>
   obtain⟨j,b,hj⟩:=hD.at hgk
   rw[kw hD.nk hj];rfl
 simp only[aI,ho,hx,hy,e,ret]
variable{ops:List Oper}{ms:List Nat}{sched:List (Nat×Bool)}{dn:Dn}
theorem ba.mapPut {q:Nat}{K:ah->RL->Prop}(i:Nat){v:Value}(hM:MP es ck g)(hi:ops[q]?=some o)(hw:aw ops o a=true)(ho:o.op=.mapUpdate t x y z)(hx:aX a x=some (.map (some r)))(hy:aX a y=some (.int .i64 (k:Nat)))(hz:aX a z=some v)(ht:P.underlying t=some (.map kt et))(hk:∀ n:Int,eE P kt (.int .i64 n)=true)
  (hL:L[i]?=some (r,.map es ck)) (ep:aH a o.dst undef=some a₁) (hk2:∀ es' ck',MP es' ck' (ij g k (some v))->∃ L₁,jx L i (r,.map es' ck')=some L₁/\ai P ops ms q dn L₁/\ba P ops ms K sched dn a₁ L₁):ba P ops ms K ((q,true)::sched) dn a L:=by
 obtain⟨D,rfl,hD⟩:=hM
 cases hgk:g k with
 | none =>
  obtain⟨L₁,hs,kp,k2⟩:=hk2 ((D++[(k,v,ck)]).map nj) (ck+1) ⟨_,rfl,hD.add hgk⟩
  refine ba.write hi hw (fo i ho hx hy hz ht (hk _) hL ?_ hs) ep kp k2
  rw[ku (hD.no hgk),xe,List.map_append];rfl
 | some u =>
  obtain⟨j,b,hj⟩:=hD.at hgk
  obtain⟨L₁,hs,kp,k2⟩:=hk2 ((D.set j (k,v,b)).map nj) ck ⟨_,rfl,hD.set hj⟩
  refine ba.write hi hw (fo i ho hx hy hz ht (hk _) hL ?_ hs) ep kp k2
  rw[kw (i:=0) hD.nk hj,Nat.zero_add]
  simp only[vQ hj]
end
end Go.Am
namespace Go.Proofs.YtoaojmobnbbnmaaGreat
open Go.Am
structure ii(w:jY)(s:Dk)(T:List Bool)(V:List (List Nat×List UInt8)):Prop where
 ok:Jf w s T
 h:Hd s.D w.base T V
abbrev dM(w:jY)(root:Int)(ro rp:Nat)(vd vu:Value):aG:=BC w.rj root ro w.rm w.rD rp vd vu
abbrev AL(w:jY)(rs:Nat)(row:aG)(rp:Nat)(ps:List MapEntry)(pk:Nat)(Yd Yu:RL)(s:Dk)(T:List Bool)(M:RL):RL:=(rs,row)::(rp,.map ps pk)::(Yd++(Yu++bl w s T M))
theorem ii.drop {w:jY}{s:Dk}{T:List Bool}{A B:List (List Nat×List UInt8)}{v:List Nat×List UInt8}(h:ii w s T (A++v::B)):ii w s (Z.giveL T v.1) (A++B) :=
 ⟨⟨h.ok.ok,by rw[Z.giveL_len];exact h.ok.len,h.ok.lo,by rw[Z.giveL_len];exact h.ok.hi⟩,h.h.drop⟩
theorem ii.perm {w:jY}{s:Dk}{T:List Bool}{V W:List (List Nat×List UInt8)}(h:ii w s T V)(p:V.Perm W):ii w s T W:=⟨h.ok,h.h.perm p⟩
theorem ii.val {w:jY}{s:Dk}{T:List Bool}{V:List (List Nat×List UInt8)}(h:ii w s T V){v:Sv}(hv:(v.l,v.d)∈V):tA s.D w.base T.length v.l v.d/\v.l[0]?=some v.id/\cz T v.id=true/\v.id<T.length:=by
 have h1:=h.h.val _ hv
 have h2:=oP h1
 exact⟨h1,h2.1,h.h.tk _ (List.mem_flatMap.2 ⟨_,hv,h2.2⟩),h1.lt _ h2.2⟩
variable{V:List (List Nat×List UInt8)}
theorem G7 {A B:List Sv}{v:Sv}:V++bV (A++v::B)=(V++bV A)++(v.l,v.d)::bV B:=by simp[bV]
theorem Kv {A B:List Sv}:V++bV (A++B)=(V++bV A)++bV B:=by simp[bV]
section
variable{w:jY}{rs rp pk ro:Nat}{root:Int}{vd vu:Value}{ps:List MapEntry}{Yd Yu M:RL}{s:Dk}{T:List Bool}{V:List (List Nat×List UInt8)}
set_option maxHeartbeats 1000000 in
theorem pU {A B:List Sv}{v:Sv}(hd:s.dead=false)(hD:ii w s T (V++bV (A++v::B)))(hm:MP ps pk (lr (A++v::B))) :
  CS Tryz.prog 96 [ptr rs,.int .i64 (v.id:Nat)] (AL w rs (dM w root ro rp vd vu) rp ps pk Yd Yu s T M) fun u L'=>u=.bool true/\∃ ps',MP ps' pk (lr (A++B))/\ii w s (Z.giveL T v.l) (V++bV (A++B))/\L'=AL w rs (dM w root ro rp vd vu) rp ps' pk Yd Yu s (Z.giveL T v.l) M:=by
 suffices g:CS Tryz.prog 96 [ptr rs,.int .i64 (v.id:Nat)] (AL w rs (dM w root ro rp vd vu) rp ps pk Yd Yu s T M) fun u L'=>u=.bool true/\∃ ps' x,MP ps' pk (lr (A++B))/\ii w s (Z.giveL T v.l) (V++bV (A++B))/\L'=AL w rs (dM w root ro rp vd vu) rp ps' pk Yd Yu s (Z.giveL T v.l) (x::M) by
  refine g.less fun u L' ⟨h1,ps',x,h2,h3,h4⟩=>⟨_,?_,h1,ps',h2,h3,rfl⟩
  rw[h4]
  exact ar.sums2 [x] fun f=>by simp[AL,bl,fm] <;> omega
 have hnd:=uP hD.h
 have hg:lr (A++v::B) v.id=some (.agg #[]):=by unfold lr;rw[if_pos (by simp)]
 have hvV:(v.l,v.d)∈V++bV (A++v::B):=by rw[G7];simp
 obtain⟨hV,hid,htk,_⟩:=hD.val hvV
 refine yF Tryz.f96 ?_
 refine yX 10 ?_
 refine yR (Gt (w:=.agg #[]) hm (List.mem_cons_of_mem _ (List.mem_cons_self ..)) rfl rfl rfl rfl (fun _=>rfl) rfl) ?_
 rw[hg]
 refine yX 3 ?_
 refine yN fun rx=>?_
 refine yV 6 ?_
 refine LS.mid [6] (fun a L'=>∃ ps',MP ps' pk (lr (A++B))/\ii w s (Z.giveL T v.l) (V++bV (A++B))/\L'=AL w rs (dM w root ro rp vd vu) rp ps' pk Yd Yu s (Z.giveL T v.l) ((rx,.cells 157 (Value.agg #[]).cells.toList)::M)/\a=[yC,yC,yC,yC,yC,yC,.bool true,yC,yC,yC,yC,yC,yC,yC,yC,yC,yC,yC,yC,yC,yC,yC,yC,yC,yC,yC,yC,yC,yC,yC,yC]) ?_ ?_
 ·repeat refine xQ ?_
  refine xC rfl ?_ ?_ <;> intro hc
  ·refine yX 7 ?_
   refine OS.mapDel 2 hm rfl rfl rfl rfl rfl rfl (fun _=>rfl) rfl rfl (fun ps' hps'=>⟨_,rfl,?_⟩)
   rw[F6 hnd]at hps'
   refine yX 7 ?_
   refine OS.sub (ar.sums (A:=bl w s T ((rx,.cells 157 (Value.agg #[]).cells.toList)::(rs,dM w root ro rp vd vu)::(rp,.map ps' pk)::(Yd++(Yu++M)))) fun f=>by simp[bl,fm] <;> omega) ?_
   refine yA yH (zJ hD.ok hd hV hid htk) ?_
   rintro u L' ⟨rfl,rfl⟩
   refine yX 1 ?_
   refine OS.sub (ar.sums (A:=AL w rs (dM w root ro rp vd vu) rp ps' pk Yd Yu s (Z.giveL T v.l) ((rx,.cells 157 (Value.agg #[]).cells.toList)::M)) fun f=>by simp[AL,bl,fm] <;> omega) ?_
   refine xN ?_
   refine⟨ps',hps',?_,rfl,rfl⟩
   rw[G7]at hD
   rw[Kv]
   exact hD.drop
  cases hc
 rintro a L' ⟨ps',h1,h2,rfl,rfl⟩
 refine yX 5 ?_
 exact⟨rfl,ps',_,h1,h2,rfl⟩
theorem pT {A:List Sv}{i:Nat}(hi:i ∉ A.map Sv.id)(hm:MP ps pk (lr A)) :
  CS Tryz.prog 96 [ptr rs,.int .i64 (i:Nat)] (AL w rs (dM w root ro rp vd vu) rp ps pk Yd Yu s T M) fun u L'=>u=.bool false/\L'=AL w rs (dM w root ro rp vd vu) rp ps pk Yd Yu s T M:=by
 suffices g:CS Tryz.prog 96 [ptr rs,.int .i64 (i:Nat)] (AL w rs (dM w root ro rp vd vu) rp ps pk Yd Yu s T M) fun u L'=>u=.bool false/\∃ x,L'=x::AL w rs (dM w root ro rp vd vu) rp ps pk Yd Yu s T M by
  exact g.less fun u L' ⟨h1,x,h2⟩=>⟨_,by rw[h2];exact ar.tail,h1,rfl⟩
 have hg:lr A i=none:=by unfold lr;rw[if_neg hi]
 refine yF Tryz.f96 ?_
 refine yX 10 ?_
 refine yR (Gt (w:=.agg #[]) hm (List.mem_cons_of_mem _ (List.mem_cons_self ..)) rfl rfl rfl rfl (fun _=>rfl) rfl) ?_
 rw[hg]
 refine yX 3 ?_
 refine yN fun rx=>?_
 refine yX 13 ?_
 exact⟨rfl,_,rfl⟩
end
end Go.Proofs.YtoaojmobnbbnmaaGreat
end
namespace Go.Proofs.YtoaojmobnbbnmaaGreat
open Go.Am
abbrev Ko(s:Dk)(base:Nat)(T:List Bool)(n:Nat)(data:List UInt8):Dk:=⟨s.n,iL s.D (fy base (Z.tkL T n) data),s.wr+n,s.cut,if s.cut then s.left-n else s.left,false⟩
abbrev Kn(s:Dk)(base:Nat)(T:List Bool)(n:Nat)(data:List UInt8):Dk:=⟨s.n,iL s.D ((fy base (Z.tkL T n) data).take s.left),s.wr+s.left,true,0,true⟩
theorem ii.lt {w:jY}{s:Dk}{T:List Bool}{V:List (List Nat×List UInt8)}{n:Nat}(h:ii w s T V)(hf:n<=frees T):∀ x∈Z.tkL T n,w.base+x<s.n:=fun x hx=>by
 have h1:=(Z.tkL_free hf hx).1
 have h2:=h.ok.hi
 omega
theorem ii.put {w:jY}{s:Dk}{T:List Bool}{V:List (List Nat×List UInt8)}{n:Nat}{data:List UInt8}(h:ii w s T V)(hw:s.wr<=900000)(hn:aT data.length=n)(hf:n<=frees T)(hdl:data.length<=1000000) :
  ii w (Ko s w.base T n data) (Z.tkT T n) (V++[(Z.tkL T n,data)]):=by
 have hlt:=h.lt hf
 have hfl:=Z.frees_le T
 obtain⟨h1,h2,h3,h4,h5⟩:=h.ok.ok
 have ht:=h.ok.len
 have hlen:(iL s.D (fy w.base (Z.tkL T n) data)).length=s.n*256:=lM h1 (jD hlt)
 refine⟨⟨⟨hlen,h2,h3,by show s.wr+n<=1000000;omega,?_⟩,by rw[Z.tkT_len];exact h.ok.len,h.ok.lo,by rw[Z.tkT_len];exact h.ok.hi⟩,h.h.put h1 h.ok.hi hn hf hdl⟩
 show (if s.cut then s.left-n else s.left)<=_
 split <;> omega
theorem ii.cutPut {w:jY}{s:Dk}{T:List Bool}{V:List (List Nat×List UInt8)}{n:Nat}{data:List UInt8}(h:ii w s T V)(hw:s.wr<=900000)(hf:n<=frees T)(hl:s.left<n):ii w (Kn s w.base T n data) T V:=by
 have hlt:=h.lt hf
 have hfl:=Z.frees_le T
 obtain⟨h1,h2,h3,h4,h5⟩:=h.ok.ok
 have ht:=h.ok.len
 have hfit:=jD (data:=data) hlt
 have hlen:(iL s.D ((fy w.base (Z.tkL T n) data).take s.left)).length=s.n*256:=lM h1 (fun w hw=>hfit w (List.mem_of_mem_take hw))
 exact⟨⟨⟨hlen,h2,h3,by show s.wr+s.left<=1000000;omega,Nat.zero_le _⟩,h.ok.len,h.ok.lo,h.ok.hi⟩,h.h.cutPut h1 h.ok.hi hf⟩
variable{V:List (List Nat×List UInt8)}
theorem IZ {A:List Sv}{v:Sv}:(V++bV A)++[(v.l,v.d)]=V++bV (A++[v]):=by simp[bV]
variable{T:List Bool}{n:Nat}
theorem EC (h:0<n):(Z.tkL T n)[0]?=some (ff T):=by rw[Z.tkL_at h];rfl
theorem GO {w:jY}{s:Dk}{T:List Bool}{F:RL}{V:List (List Nat×List UInt8)}{n:Nat}{data:List UInt8}(h:ii w s T V)(hw:s.wr<=900000)(hd:s.dead=false)(hdl:data.length<=1000000)(hn:aT data.length=n) :
  CS Tryz.prog 94 [ptr w.rD,bb data] (bl w s T F) fun v L'=>∃ Y,
   (frees T<n/\v=.tuple #[.int .i64 0,.int .i64 3]/\L'=bl w s T (Y++F)) ∨
   (n<=frees T/\(s.cut=true->n<=s.left)/\v=.tuple #[.int .i64 (ff T:Nat),.int .i64 0]/\L'=bl w (Ko s w.base T n data) (Z.tkT T n) (Y++F)) ∨
   (n<=frees T/\s.cut=true/\s.left<n/\v=.tuple #[.int .i64 0,.int .i64 20]/\L'=bl w (Kn s w.base T n data) T (Y++F)):=by
 subst hn
 rcases Nat.lt_or_ge (frees T) (aT data.length) with hf|hf
 ·refine (Hb h.ok.len hd hdl hf).mono ?_
  rintro v L' ⟨rfl,Y,rfl⟩
  exact⟨Y,.inl ⟨hf,rfl,rfl⟩⟩
 have hlt:=h.lt hf
 have hll:=Z.tkL_len T (aT data.length)
 refine (KB h.ok hw hd hdl hf rfl).mono ?_
 rintro v L' ⟨rfl,Y,rfl⟩
 refine⟨Y,.inr ?_⟩
 by_cases hc:s.cut=true/\s.left<aT data.length
 ·have hrun:=HQ (s:=s) (base:=w.base) (data:=data) hd hlt hc.1 (by rw[hll];exact hc.2)
  rw[hrun]
  exact .inr ⟨hf,hc.1,hc.2,rfl,rfl⟩
 have hc2:s.cut=true->aT data.length<=s.left:=fun h1=>by
  rcases Nat.lt_or_ge s.left (aT data.length) with h2|h2
  ·exact absurd ⟨h1,h2⟩ hc
  exact h2
 have hrun:=C9 (s:=s) (base:=w.base) (data:=data) hd hlt (by rw[hll];exact hc2)
 rw[hll]at hrun
 rw[hrun]
 exact .inl ⟨hf,hc2,rfl,rfl⟩
abbrev nP(rs:Nat):aG:=.cells 27 [ptr rs]
def tC(M:RL)(rs:Nat)(cu:List Value)(U:List Nat):Prop:=cu.length=U.length/\∀ (i x:Nat),U[i]?=some x->∃ r1 r2,cu[i]?=some (.func (.func 95) #[] #[ptr r1,ptr r2])/\(r1,nP rs)∈M/\(r2,aS (x:Nat))∈M
variable{M:RL}
theorem tC.mono {M':RL}{rs:Nat}{cu:List Value}{U:List Nat}(h:tC M rs cu U)(hm:∀ p,p∈M->p∈M'):tC M' rs cu U :=
 ⟨h.1,fun i x hx=>let ⟨r1,r2,a,b,c⟩:=h.2 i x hx;⟨r1,r2,a,hm _ b,hm _ c⟩⟩
variable{r1 r2:Nat}
theorem tC.add {rs x:Nat}{cu:List Value}{U:List Nat}(h:tC M rs cu U)(h1:(r1,nP rs)∈M)(h2:(r2,aS (x:Nat))∈M):tC M rs (cu++[.func (.func 95) #[] #[ptr r1,ptr r2]]) (U++[x]):=by
 refine⟨by simp[h.1],fun i y hy=>?_⟩
 rcases Nat.lt_or_ge i U.length with hi|hi
 ·rw[List.getElem?_append_left hi]at hy
  obtain⟨a,b,c,d⟩:=h.2 i y hy
  exact⟨a,b,by rw[List.getElem?_append_left (by rw[h.1];exact hi)];exact c,d⟩
 rw[List.getElem?_append_right hi]at hy
 have h0:i-U.length=0:=by
  rcases Nat.eq_zero_or_pos (i-U.length) with h|h
  ·exact h
  rw[List.getElem?_eq_none (by simp;omega)]at hy;cases hy
 rw[h0]at hy
 simp at hy
 subst hy
 exact⟨r1,r2,by rw[List.getElem?_append_right (by rw[h.1];exact hi),h.1,h0];rfl,h1,h2⟩
def lK(M:RL)(rs:Nat)(cd:List Value)(G:List Sv):Prop:=cd.length=G.length/\∀ (i:Nat) v,G[i]?=some v->∃ r1 r2 t,cd[i]?=some (.func (.func 97) #[] #[ptr r1,ptr r2])/\(r1,nP rs)∈M/\(r2,kH true (v.id:Nat) t)∈M
theorem lK.mono {M':RL}{rs:Nat}{cd:List Value}{G:List Sv}(h:lK M rs cd G)(hm:∀ p,p∈M->p∈M'):lK M' rs cd G :=
 ⟨h.1,fun i x hx=>let ⟨r1,r2,t,a,b,c⟩:=h.2 i x hx;⟨r1,r2,t,a,hm _ b,hm _ c⟩⟩
theorem lK.add {rs:Nat}{t:Tx}{v:Sv}{cd:List Value}{G:List Sv}(h:lK M rs cd G)(h1:(r1,nP rs)∈M)(h2:(r2,kH true (v.id:Nat) t)∈M):lK M rs (cd++[.func (.func 97) #[] #[ptr r1,ptr r2]]) (G++[v]):=by
 refine⟨by simp[h.1],fun i y hy=>?_⟩
 rcases Nat.lt_or_ge i G.length with hi|hi
 ·rw[List.getElem?_append_left hi]at hy
  obtain⟨a,b,t',c,d⟩:=h.2 i y hy
  exact⟨a,b,t',by rw[List.getElem?_append_left (by rw[h.1];exact hi)];exact c,d⟩
 rw[List.getElem?_append_right hi]at hy
 have h0:i-G.length=0:=by
  rcases Nat.eq_zero_or_pos (i-G.length) with h|h
  ·exact h
  rw[List.getElem?_eq_none (by simp;omega)]at hy;cases hy
 rw[h0]at hy
 simp at hy
 subst hy
 exact⟨r1,r2,t,by rw[List.getElem?_append_right (by rw[h.1];exact hi),h.1,h0];rfl,h1,h2⟩
section
variable{w:jY}{rs rp pk ro:Nat}{root:Int}{vd vu:Value}{ps:List MapEntry}{Yd Yu M:RL}{s:Dk}{T:List Bool}{V:List (List Nat×List UInt8)}
abbrev LJ:Value:=.agg #[.bool false,.int .i64 0,bb []]
def Ja(w:jY)(rs rp ro:Nat)(root:Int)(vd vu:Value)(ps:List MapEntry)(pk:Nat)(Yd Yu M:RL)(s:Dk)(T:List Bool)(V:List (List Nat×List UInt8))(Fr:List Sv)(U:List Nat)(key data:Tx)(u:Value)(Y:RL)(A:RL->RL):Prop :=
 (p7 data=false/\u=.tuple #[DL ⟨key,data,true,[]⟩,.int .i64 0]/\A=AL w rs (dM w root ro rp vd vu) rp ps pk Yd Yu s T) ∨
 (p7 data=true/\frees T<aT data.length/\u=.tuple #[LJ,.int .i64 3]/\A=AL w rs (dM w root ro rp vd vu) rp ps pk Yd Yu s T) ∨
 (p7 data=true/\aT data.length<=frees T/\(s.cut=true->aT data.length<=s.left)/\u=.tuple #[DL ⟨key,data,true,Z.tkL T (aT data.length)⟩,.int .i64 0]/\∃ ps' pk' vu' cu' Yu',MP ps' pk' (lr (Fr++[⟨key,data,true,Z.tkL T (aT data.length)⟩])) /\
  GV 1 1 [] vu' (U++[Sv.id ⟨key,data,true,Z.tkL T (aT data.length)⟩]).length cu' Yu'/\tC (Y++M) rs cu' (U++[Sv.id ⟨key,data,true,Z.tkL T (aT data.length)⟩]) /\
  ii w (Ko s w.base T (aT data.length) data) (Z.tkT T (aT data.length)) (V++bV (Fr++[⟨key,data,true,Z.tkL T (aT data.length)⟩]))/\A=AL w rs (dM w root ro rp vd vu') rp ps' pk' Yd Yu' (Ko s w.base T (aT data.length) data) (Z.tkT T (aT data.length))) ∨
 (p7 data=true/\aT data.length<=frees T/\s.cut=true/\s.left<aT data.length/\u=.tuple #[LJ,.int .i64 20]/\ii w (Kn s w.base T (aT data.length) data) T (V++bV Fr)/\A=AL w rs (dM w root ro rp vd vu) rp ps pk Yd Yu (Kn s w.base T (aT data.length) data) T)
theorem AL.out {row:aG}{Y:RL}:ar (AL w rs row rp ps pk Yd Yu s T (Y++M)) (Y++AL w rs row rp ps pk Yd Yu s T M):=ar.sums fun f=>by simp[AL,bl,fm] <;> omega
section
variable{row:aG}{x y z:Nat×aG}{Y:RL}
theorem AL.d0:ar (bl w s T ((rs,row)::(rp,.map ps pk)::(Yd++(Yu++M)))) (AL w rs row rp ps pk Yd Yu s T M):=ar.sums fun f=>by simp[AL,bl,fm] <;> omega
theorem AL.d2:ar (bl w s T (x::y::(rs,row)::(rp,.map ps pk)::(Yd++(Yu++M)))) (x::y::AL w rs row rp ps pk Yd Yu s T M):=ar.sums fun f=>by simp[AL,bl,fm] <;> omega
theorem AL.u4 {a b c d:Nat×aG}:ar ([a,b,c,d,(rs,row),(rp,.map ps pk)]++(Yu++(Yd++bl w s T M))) (a::b::c::d::AL w rs row rp ps pk Yd Yu s T M):=ar.sums fun f=>by simp[AL,bl,fm] <;> omega
theorem AL.w4 {a b c d:Nat×aG}:ar (a::b::c::d::AL w rs row rp ps pk Yd Yu s T M) (Yu++([a,b,c,d,(rs,row),(rp,.map ps pk)]++(Yd++bl w s T M))):=ar.sums fun f=>by simp[AL,bl,fm] <;> omega
theorem AL.h0:ar (AL w rs row rp ps pk Yd Yu s T M) (bl w s T ((rs,row)::(rp,.map ps pk)::(Yd++(Yu++M)))):=ar.sums fun f=>by simp[AL,bl,fm] <;> omega
theorem AL.h2:ar (x::y::AL w rs row rp ps pk Yd Yu s T (Y++M)) (bl w s T (Y++(x::y::(rs,row)::(rp,.map ps pk)::(Yd++(Yu++M))))):=ar.sums fun f=>by simp[AL,bl,fm] <;> omega
end
variable{F:RL}{Fr:List Sv}{U:List Nat}{cu:List Value}
set_option maxHeartbeats 2000000 in
theorem In {data:Tx}(key:Tx)(h:ii w s T (V++bV Fr))(hw:s.wr<=900000)(hd:s.dead=false)(hm:MP ps pk (lr Fr))(gu:GV 1 1 [] vu U.length cu Yu)(hU:tC M rs cu U)(hUl:U.length<=1000000)(hdl:data.length<=131072) :
  CS Tryz.prog 56 [ptr rs,bb data] (AL w rs (dM w root ro rp vd vu) rp ps pk Yd Yu s T (M++F)) fun u L'=>∃ Y A,Ja w rs rp ro root vd vu ps pk Yd Yu M s T V Fr U key data u Y A/\L'=A (Y++(M++F)):=by
 suffices g:CS Tryz.prog 56 [ptr rs,bb data] (AL w rs (dM w root ro rp vd vu) rp ps pk Yd Yu s T (M++F)) fun u L'=>∃ Y1 Y2 A,Ja w rs rp ro root vd vu ps pk Yd Yu M s T V Fr U key data u (Y1++Y2) A/\L'=Y1++A (Y2++(M++F)) by
  refine g.less fun u L' ⟨Y1,Y2,A,h1,h2⟩=>⟨_,?_,Y1++Y2,A,h1,rfl⟩
  rw[h2,List.append_assoc]
  rcases h1 with ⟨_,_,rfl⟩|⟨_,_,_,rfl⟩|⟨_,_,_,_,_,_,_,_,_,_,_,_,_,rfl⟩|⟨_,_,_,_,_,_,rfl⟩ <;> exact AL.out
 refine yF Tryz.f56 ?_
 refine yX 1 ?_
 refine yN fun r2=>?_
 refine yN fun r4=>?_
 refine yX 2 ?_
 cases hl:p7 data with
 | false =>
  have hd63:data.length<=63:=by unfold p7 at hl;simp at hl;exact hl
  have hb:av ((data.length:Nat):Int) 63=true:=au.2 (by omega)
  refine yX 3 ?_
  refine yI hb ?_
  refine yV 1 ?_
  refine xC rfl ?_ ?_ <;> intro hc
  ·refine yX 6 ?_
   refine xT ⟨_,cN 0 rfl rfl rfl rfl rfl,?_⟩
   refine⟨[_,_],[],_,.inl ⟨hl,?_,rfl⟩,rfl⟩
   unfold DL Sv.lg
   simp only[hl]
   rfl
  cases hc
 | true =>
  have hd63:63<data.length:=by unfold p7 at hl;simp at hl;exact hl
  have hb:av ((data.length:Nat):Int) 63=false:=by rw[am,decide_eq_false (by omega)]
  obtain⟨n,hn⟩:∃ n,aT data.length=n:=⟨_,rfl⟩
  have hn2:=jG data.length
  have hnl:=j6 (n:=data.length) (by omega)
  unfold Ja
  rw[hn]at hn2 hnl ⊢
  refine yX 3 ?_
  refine yI hb ?_
  refine yX 9 ?_
  refine OS.sub AL.d2 ?_
  refine yA yH (GO h hw hd (by omega) hn) ?_
  rintro u L' ⟨Y,⟨h1,rfl,rfl⟩|⟨h1,h2,rfl,rfl⟩|⟨h1,h2,h3,rfl,rfl⟩⟩
  ·refine yX 1 ?_
   refine OS.sub AL.h2 ?_
   refine yX 3 ?_
   refine yN fun r6=>?_
   refine yV 7 ?_
   refine xC rfl ?_ ?_ <;> intro hc
   ·refine yX 6 ?_
    refine xT ⟨_,cN 1 rfl rfl rfl rfl rfl,?_⟩
    exact⟨[_,_,_],Y,_,.inr (.inl ⟨hl,h1,rfl,rfl⟩),rfl⟩
   cases hc
  ·have hid:Sv.id ⟨key,data,true,Z.tkL T n⟩=ff T:=by
    have:=EC (T:=T) (show 0<n by omega)
    unfold Sv.id
    cases hh:Z.tkL T n with
    | nil=>rw[hh]at this;cases this
    | cons x l=>rw[hh]at this;simp at this;simpa using this
   have hD2:=h.put hw hn h1 (by omega)
   have hul:U.length*8<=100000000:=by omega
   refine yX 1 ?_
   refine OS.sub AL.h2 ?_
   refine yX 3 ?_
   refine yN fun r6=>?_
   refine yV 9 ?_
   refine LS.drawn noGo mixed [(0,false),(1,false),(2,false),(3,false),(4,false),(5,false),(6,false),(7,true)] rfl rfl (by kernel_rfl) ?_
   refine yX 7 ?_
   refine ba.mapPut 4 hm rfl rfl rfl rfl rfl rfl rfl (fun _=>rfl) rfl rfl (fun ps' pk' hps'=>⟨_,rfl,(by repeat (first|exact ai.nil|refine ai.gone rfl ?_)),?_⟩)
   have hps':MP ps' pk' (lr (Fr++[⟨key,data,true,Z.tkL T n⟩])):=by rw[←Ir,hid];exact hps'
   refine yV 1 ?_
   refine LS.drawn noGo mixed [(0,false),(1,false),(2,false),(3,false),(4,false),(5,false),(6,false),(7,true),(8,true),(9,false),(10,false),(11,false),(12,true)] rfl rfl (by kernel_rfl) ?_
   refine yX 7 ?_
   refine ba.fresh rfl rfl (dG (fun _=>rfl) rfl) (fun _=>rfl) (fun _=>ai.cons rfl (aA 4 rfl rfl rfl rfl rfl) (ai.cons rfl (aA 3 rfl rfl rfl rfl rfl) (ai.cons rfl (aA 3 rfl rfl rfl rfl rfl) ai.nil))) (fun rb=>?_)
   refine ba.sub AL.u4 ?_
   refine ba.turns rfl rfl (bH [_,_,_,_,_,_] (Yd++bl w (Ko s w.base T n data) (Z.tkT T n) (Y++(M++F))) (e:=1) (sz:=1) (bts:=8) (m:=1) gu (SV.row (sz:=1) (n:=1) (List.mem_cons_self ..) rfl) rfl rfl rfl rfl (by omega) (by omega)) (fun u L₁ hR=>?_)
   obtain⟨Yu',gu',rfl⟩:=hR
   refine⟨_,rfl,ai.gone rfl (ai.gone rfl (ai.cons rfl (aa (row:=.cells 27 (ptr rs).cells.toList) (r:=r2) (List.mem_append_right _ (List.mem_append_left _ (.tail _ (.tail _ (.tail _ (.head _)))))) rfl rfl rfl rfl) ai.nil)),?_⟩
   refine ba.sub AL.w4 ?_
   refine yX 3 ?_
   refine ba.write rfl rfl (bQ 4 (bC gu'.sv) rfl rfl rfl rfl rfl rfl rfl) rfl (by repeat (first|exact ai.nil|refine ai.gone rfl ?_)) ?_
   refine yX 7 ?_
   refine xT ⟨_,cN 2 rfl rfl rfl rfl rfl,?_⟩
   refine⟨[_,_,_,_],Y,_,.inr (.inr (.inl ⟨hl,h1,h2,?_,ps',pk',_,_,Yu',hps',?_,(hU.mono fun p hp=>?_).add (r1:=r2) (r2:=r6) ?_ ?_,?_,rfl⟩)),rfl⟩
   ·unfold DL Sv.lg
    simp only[hl,if_true,hid]
    rfl
   ·rw[List.length_append];exact gu'
   ·simp[hp]
   ·exact List.mem_append_left _ (List.mem_append_left _ (.tail _ (.tail _ (.tail _ (.head _)))))
   ·rw[hid];exact List.mem_append_left _ (List.mem_append_left _ (.tail _ (.head _)))
   rw[←IZ];exact hD2
  refine yX 1 ?_
  refine OS.sub AL.h2 ?_
  refine yX 3 ?_
  refine yN fun r6=>?_
  refine yV 7 ?_
  refine xC rfl ?_ ?_ <;> intro hc
  ·refine yX 6 ?_
   refine xT ⟨_,cN 1 rfl rfl rfl rfl rfl,?_⟩
   exact⟨[_,_,_],Y,_,.inr (.inr (.inr ⟨hl,h1,h2,h3,rfl,h.cutPut hw h1 h3,rfl⟩)),rfl⟩
  cases hc
end
section
variable{c:jt}{X L:RL}{t:fD}{g:Nat×aG}{w:jY}{rs rp pk ro:Nat}{root:Int}{vd vu:Value}{row:aG}{ps:List MapEntry}{Yd Yu M:RL}{s:Dk}{T:List Bool}{V:List (List Nat×List UInt8)}
theorem TR.ask(Z:RL)(h:TR c (Z++g::AL w rs row rp ps pk Yd Yu s T M) X t L):∃ R,ar (Z++AL w rs row rp ps pk Yd Yu s T (M++R)) L/\(∀ p,p∈X->p∈R)/\∀ row' rp' ps' pk' Yd' Yu' s' T' M',∃ L',TR c (g::AL w rs row' rp' ps' pk' Yd' Yu' s' T' M') X t L'/\ar L' (AL w rs row' rp' ps' pk' Yd' Yu' s' T' (M'++R)):=by
 obtain⟨T5,es,ck,ws,wk,hN,rfl,hp⟩:=h
 have e1:∀ (s:Dk) (T:List Bool) (M R:RL),bl w s T (M++R)=bl w s T M++R:=fun _ _ _ _=>rfl
 have e2:∀ F:RL,HD c.rf c.rb c.rt c.rn c.rw T5 t.root t.cnt c.root0 c.cnt0 es ck ws wk F=HD c.rf c.rb c.rt c.rn c.rw T5 t.root t.cnt c.root0 c.cnt0 es ck ws wk []++F:=fun _=>rfl
 refine⟨HD c.rf c.rb c.rt c.rn c.rw T5 t.root t.cnt c.root0 c.cnt0 es ck ws wk (g::X),?_,fun p hp=>by simp[hp],fun row' rp' ps' pk' Yd' Yu' s' T' M'=>⟨_,⟨T5,es,ck,ws,wk,hN,rfl,hp⟩,?_⟩⟩
 ·unfold AL
  rw[e1,e2,e2 ((Z++_)++X)]
  generalize bl w s T M=B
  generalize HD c.rf c.rb c.rt c.rn c.rw T5 t.root t.cnt c.root0 c.cnt0 es ck ws wk []=H
  refine ar.sums fun f=>?_
  simp only[List.map_append,List.map_cons,List.sum_append,List.sum_cons];omega
 unfold AL
 rw[e1,e2,e2 (g::X)]
 generalize bl w s' T' M'=B
 generalize HD c.rf c.rb c.rt c.rn c.rw T5 t.root t.cnt c.root0 c.cnt0 es ck ws wk []=H
 refine ar.sums fun f=>?_
 simp only[List.map_append,List.map_cons,List.sum_append,List.sum_cons];omega
def Gi(S:List Sv)(k:Tx):List Sv:=match eI S k with
 | some v=>if Fl v=true then [v] else []
 | none=>[]
variable{D:List UInt8}{base:Nat}{Fr:List Sv}
theorem F5 {v:Sv}(h:Hd D base T (V++bV Fr))(hv:(v.l,v.d)∈V):v.id ∉ Fr.map Sv.id:=by
 intro hm
 obtain⟨u,hu,he⟩:=List.mem_map.1 hm
 have hn:=h.nd
 rw[List.flatMap_append]at hn
 have h1:=(oP (h.val _ (List.mem_append_left _ hv))).2
 have h2:=(oP (v:=u) (h.val _ (List.mem_append_right _ (List.mem_map.2 ⟨u,hu,rfl⟩)))).2
 exact (List.nodup_append.1 hn).2.2 v.id (List.mem_flatMap.2 ⟨_,hv,h1⟩) u.id (List.mem_flatMap.2 ⟨(u.l,u.d),List.mem_map.2 ⟨u,hu,rfl⟩,h2⟩) he.symm
def KD(c:jt)(X:RL)(t:fD)(ro:Nat)(w:jY)(rs rp:Nat)(root:Int)(vu:Value)(pk:Nat)(Yu M F:RL)(s:Dk)(n:Nat)(V:List (List Nat×List UInt8))(S G Fr:List Sv)(k:Tx)(L':RL):Prop :=
 ∃ Y ps' vd' cd' Yd' T' Fr',MP ps' pk (lr Fr')/\GV 1 1 [] vd' (sM S G k).length cd' Yd'/\lK (Y++M) rs cd' (sM S G k)/\ii w s T' (V++bV Fr')/\Fr.Perm (Gi S k++Fr')/\T'.length=n /\
  TR c ((ro,bO c.rt)::AL w rs (dM w root ro rp vd' vu) rp ps' pk Yd' Yu s T' (Y++(M++F))) X t L'
variable{S:List Sv}
theorem zf (h:iU S)(k:Tx):(S.filter Fl).Perm (Gi S k++(iS k S).filter Fl):=by
 unfold Gi
 cases hg:eI S k with
 | none=>rw[oy hg];exact List.Perm.refl _
 | some v =>
  obtain⟨h1,rfl⟩:=oh hg
  exact sS h h1
theorem AL.d3 {x y z:Nat×aG}:ar ([x,y,z,(rs,row),(rp,.map ps pk)]++(Yd++(Yu++bl w s T M))) (x::y::z::AL w rs row rp ps pk Yd Yu s T M):=ar.sums fun f=>by simp[AL,bl,fm] <;> omega
theorem AL.w3 {x y z:Nat×aG}:ar (x::y::z::AL w rs row rp ps pk Yd Yu s T M) (Yd++([x,y,z,(rs,row),(rp,.map ps pk)]++(Yu++bl w s T M))):=ar.sums fun f=>by simp[AL,bl,fm] <;> omega
theorem AL.i2 {x y:Nat×aG}:ar (AL w rs row rp ps pk Yd Yu s T (x::y::M)) (x::y::AL w rs row rp ps pk Yd Yu s T M):=AL.out (Y:=[x,y])
theorem AL.o2 {x y:Nat×aG}:ar (x::y::AL w rs row rp ps pk Yd Yu s T M) (AL w rs row rp ps pk Yd Yu s T (x::y::M)):=ar.sums fun f=>by simp[AL,bl,fm] <;> omega
variable{F:RL}{O:List Sv}
set_option maxHeartbeats 2000000 in
theorem uE {G E:List Sv}{U:List Nat}{cd:List Value}{key:Tx}(htr:TR c ((ro,bO c.rt)::AL w rs (dM w root ro rp vd vu) rp ps pk Yd Yu s T (M++F)) X t L)(hg:dI t.m t.root (jX S))(hcnt:t.cnt=S.length)(ha:js S O G U)(hd:s.dead=false)(hD:ii w s T (bV (O.filter (·.lg))++bV Fr))(hm:MP ps pk (lr Fr))(hFr:Fr.Perm (S.filter Fl++E))(gd:GV 1 1 [] vd G.length cd Yd)(hG:lK M rs cd G)(hGl:G.length<=1000000) :
  CS Tryz.prog 57 [ptr rs,bb key] L fun _ L'=>KD c X t ro w rs rp root vu pk Yu M F s T.length (bV (O.filter (·.lg))) S G Fr key L':=by
 have hgl8:G.length*8<=100000000:=by omega
 have hlen:t.cnt=(jX S).length:=by rw[cR];exact hcnt
 refine yF Tryz.f57 ?_
 refine yX 1 ?_
 refine yN fun r2=>?_
 refine xN ?_
 obtain⟨L1,htr1,hs1⟩:=htr.push (r2,.cells 27 (ptr rs).cells.toList)
 refine LS.sub hs1 ?_
 have m2:=htr1.memG _ (List.mem_cons_self ..)
 have mo:=htr1.memG (ro,bO c.rt) (.tail _ (.head _))
 have ms:=htr1.memG (rs,dM w root ro rp vd vu) (.tail _ (.tail _ (.head _)))
 refine yX 1 ?_
 refine yR (aa m2 rfl rfl rfl rfl) ?_
 refine yX 2 ?_
 refine yR (aa ms rfl rfl rfl rfl) ?_
 refine yX 1 ?_
 refine yA yH (vJ htr1 mo hg hlen) ?_
 rintro u L₁ ⟨rfl,e₁⟩
 subst e₁
 refine yX 1 ?_
 have hgv:∃ v b,mT (jX S) key=.tuple #[bb v,.bool b]/\((eI S key=none/\v=[])∨∃ x,eI S key=some x/\v=mh x):=by
  unfold mT
  rw[qm]
  cases hgs:eI S key with
  | none=>exact⟨_,_,rfl,.inl ⟨rfl,rfl⟩⟩
  | some x=>exact⟨_,_,rfl,.inr ⟨x,rfl,rfl⟩⟩
 obtain⟨val,b,hv,hx⟩:=hgv
 rw[hv]
 refine yX 6 ?_
 obtain⟨L0,htr0,hs0⟩:=htr1.pop
 rcases hx with ⟨hgs,rfl⟩|⟨x,hgs,rfl⟩
 ·refine yX 2 ?_
  refine yA yH (sX (bs:=[]) (by decide)) ?_
  rintro u L₁ ⟨rfl,e₁⟩
  subst e₁
  rw[show Dz []=(false,0,[],false) from rfl]
  refine yX 4 ?_
  refine yN fun r6=>?_
  refine yX 15 ?_
  refine LS.sub (ar.trans hs0 ar.tail) ?_
  refine LS.skip ?_
  refine⟨_,fun _ _=>rfl,[],ps,vd,cd,Yd,T,Fr,hm,?_,?_,hD,?_,rfl,htr0⟩
  ·rw[show sM S G key=G by unfold sM;rw[hgs]];exact gd
  ·rw[show sM S G key=G by unfold sM;rw[hgs]];exact hG
  rw[show Gi S key=[] by unfold Gi;rw[hgs]];exact List.Perm.refl _
 obtain⟨hxS,hxk⟩:=oh hgs
 have hV:x.lg=true->(x.l,x.d)∈bV (O.filter (·.lg))++bV Fr:=fun hl=>by
  cases hf:x.f with
  | true=>exact List.mem_append_right _ (List.mem_map.2 ⟨x,hFr.mem_iff.2 (List.mem_append_left _ (List.mem_filter.2 ⟨hxS,by simp[Fl,hl,hf]⟩)),rfl⟩)
  | false=>exact List.mem_append_left _ (List.mem_map.2 ⟨x,List.mem_filter.2 ⟨ha.sf x hxS hf,hl⟩,rfl⟩)
 have hT:=hD.ok.len
 refine yX 2 ?_
 refine yA yH (sW (v:=x) (fun hl=>by have:=(hD.val (hV hl)).2.2.2;omega)) ?_
 rintro u L₁ ⟨rfl,e₁⟩
 subst e₁
 unfold DL
 cases hl:x.lg with
 | false =>
  refine yX 4 ?_
  refine yN fun r6=>?_
  refine yX 15 ?_
  refine LS.sub (ar.trans hs0 ar.tail) ?_
  refine LS.skip ?_
  refine⟨_,fun _ _=>rfl,[],ps,vd,cd,Yd,T,Fr,hm,?_,?_,hD,?_,rfl,htr0⟩
  ·rw[show sM S G key=G by unfold sM;rw[hgs];simp[Ol,hl]];exact gd
  ·rw[show sM S G key=G by unfold sM;rw[hgs];simp[Ol,hl]];exact hG
  rw[show Gi S key=[] by unfold Gi;rw[hgs];simp[Fl,hl]];exact List.Perm.refl _
 | true =>
  obtain⟨R,hs2,hXR,hback⟩:=TR.ask [_] htr1
  refine yX 4 ?_
  refine yN fun r6=>?_
  refine yX 7 ?_
  refine yR (aa (List.mem_cons_of_mem _ m2) rfl rfl rfl rfl) ?_
  refine yX 2 ?_
  refine OS.sub (ar.cons hs2) ?_
  refine OS.sub AL.i2 ?_
  simp only[if_true]
  cases hf:x.f with
  | true =>
   have hxF:x∈Fr:=hFr.mem_iff.2 (List.mem_append_left _ (List.mem_filter.2 ⟨hxS,by simp[Fl,hl,hf]⟩))
   obtain⟨A,B,rfl⟩:=List.append_of_mem hxF
   refine yA yH (pU hd hD hm) ?_
   rintro u L' ⟨rfl,ps',h1,h2,rfl⟩
   refine yX 1 ?_
   refine OS.sub AL.o2 ?_
   refine yX 3 ?_
   obtain⟨L2,h3,hs3⟩:=hback (dM w root ro rp vd vu) rp ps' pk Yd Yu s (Z.giveL T x.l) (M++F)
   refine yX 1 ?_
   refine LS.sub (hs3.trans (ar.tail.trans ar.tail)) ?_
   refine LS.skip ?_
   refine⟨_,fun _ _=>rfl,[],ps',vd,cd,Yd,Z.giveL T x.l,A++B,h1,?_,?_,h2,?_,Z.giveL_len,h3⟩
   ·rw[show sM S G key=G by unfold sM;rw[hgs];simp[Ol,hf]];exact gd
   ·rw[show sM S G key=G by unfold sM;rw[hgs];simp[Ol,hf]];exact hG
   rw[show Gi S key=[x] by unfold Gi;rw[hgs];simp[Fl,hl,hf]];exact List.perm_middle
  | false =>
   have hxO:(x.l,x.d)∈bV (O.filter (·.lg)):=List.mem_map.2 ⟨x,List.mem_filter.2 ⟨ha.sf x hxS hf,hl⟩,rfl⟩
   have hgo:sM S G key=G++[x]:=by unfold sM;rw[hgs];simp[Ol,hl,hf]
   refine yA yH (pT (F5 hD.h hxO) hm) ?_
   rintro u L' ⟨rfl,rfl⟩
   refine yX 1 ?_
   refine OS.sub AL.o2 ?_
   refine yV 3 ?_
   refine xC rfl ?_ ?_ <;> intro hc
   ·repeat refine xQ ?_
    refine LS.drawn noGo mixed [(0,false),(1,false),(2,false),(3,false),(4,false),(5,false),(6,false),(7,true),(8,true),(9,false),(10,false),(11,false),(12,true)] rfl rfl (by kernel_rfl) ?_
    refine yX 7 ?_
    refine ba.fresh rfl rfl (dG (fun _=>rfl) rfl) (fun _=>rfl) (fun _=>ai.cons rfl (aA 3 rfl rfl rfl rfl rfl) (ai.cons rfl (aA 2 rfl rfl rfl rfl rfl) (ai.cons rfl (aA 2 rfl rfl rfl rfl rfl) ai.nil))) (fun rb=>?_)
    refine ba.sub AL.d3 ?_
    refine ba.turns rfl rfl (bH [_,_,_,_,_] (Yu++bl w s T ((M++F)++R)) (e:=1) (sz:=1) (bts:=8) (m:=1) gd (SV.row (sz:=1) (n:=1) (List.mem_cons_self ..) rfl) rfl rfl rfl rfl (by omega) (by omega)) (fun u L₁ hR=>?_)
    obtain⟨Yd',gd',rfl⟩:=hR
    refine⟨_,rfl,ai.gone rfl (ai.gone rfl (ai.cons rfl (aa (row:=.cells 27 (ptr rs).cells.toList) (r:=r2) (List.mem_append_right _ (List.mem_append_left _ (.tail _ (.tail _ (.head _))))) rfl rfl rfl rfl) ai.nil)),?_⟩
    refine ba.sub AL.w3 ?_
    refine yX 3 ?_
    refine ba.write rfl rfl (bQ 3 (bC gd'.sv) rfl rfl rfl rfl rfl rfl rfl) rfl (by repeat (first|exact ai.nil|refine ai.gone rfl ?_)) ?_
    refine ba.sub (ar.trans AL.i2 ar.tail) ?_
    obtain⟨L2,h3,hs3⟩:=hback (dM w root ro rp u vu) rp ps pk Yd' Yu s T ((r6,kH true (x.id:Nat) [])::(r2,nP rs)::(M++F))
    refine ba.sub hs3 ?_
    refine yX 1 ?_
    refine⟨_,fun _ _=>rfl,[(r6,kH true (x.id:Nat) []),(r2,nP rs)],ps,u,cd++[.func (.func 97) #[] #[ptr r2,ptr r6]],Yd',T,Fr,hm,?_,?_,hD,?_,rfl,h3⟩
    ·rw[hgo,List.length_append];exact gd'
    ·rw[hgo];exact (hG.mono fun p hp=>by simp[hp]).add (r1:=r2) (r2:=r6) (t:=[]) (by simp) (by simp)
    rw[show Gi S key=[] by unfold Gi;rw[hgs];simp[Fl,hf]];exact List.Perm.refl _
   cases hc
end
section
variable{w:jY}{rs rp pk ro:Nat}{root:Int}{vd vu:Value}{row:aG}{ps:List MapEntry}{Yd Yu M:RL}{s:Dk}{T:List Bool}{V W:List (List Nat×List UInt8)}
theorem GG {t:Tx}{v:Sv}(h1:(r1,nP rs)∈M)(h2:(r2,kH true (v.id:Nat) t)∈M)(hd:s.dead=false)(hD:ii w s T ((v.l,v.d)::V)) :
  CS Tryz.prog 97 [ptr r1,ptr r2] (AL w rs (dM w root ro rp vd vu) rp ps pk Yd Yu s T M) fun _ L'=>ii w s (Z.giveL T v.l) V/\L'=AL w rs (dM w root ro rp vd vu) rp ps pk Yd Yu s (Z.giveL T v.l) M:=by
 obtain⟨hV,hid,htk,_⟩:=hD.val (List.mem_cons_self ..)
 have hm:∀ p,p∈M->p∈AL w rs (dM w root ro rp vd vu) rp ps pk Yd Yu s T M:=fun p hp=>by simp[AL,bl,fm,hp]
 refine yF Tryz.f97 ?_
 repeat refine xQ ?_
 refine LS.drawn noGo mixed [(0,false),(1,false),(2,false),(3,false),(4,false),(5,false),(6,true)] rfl rfl (by kernel_rfl) ?_
 refine xE rfl rfl (aa (hm _ h1) rfl rfl rfl rfl) rfl ?_
 refine yX 4 ?_
 refine xE rfl rfl (aa (hm _ h2) rfl rfl rfl (ap rfl rfl)) rfl ?_
 refine ba.sub AL.d0 ?_
 refine yO rfl yH (zJ hD.ok hd hV hid htk) ?_
 rintro u L' ⟨rfl,rfl⟩
 refine⟨_,rfl,(by repeat (first|exact ai.nil|refine ai.gone rfl ?_)),?_⟩
 refine ba.sub AL.h0 ?_
 refine yX 1 ?_
 exact⟨_,fun _ _=>rfl,hD.drop (A:=[]),rfl⟩
theorem Hy {A B:List Sv}{v:Sv}(h1:(r1,nP rs)∈M)(h2:(r2,aS (v.id:Nat))∈M)(hd:s.dead=false)(hD:ii w s T (V++bV (A++v::B)))(hm:MP ps pk (lr (A++v::B))) :
  CS Tryz.prog 95 [ptr r1,ptr r2] (AL w rs (dM w root ro rp vd vu) rp ps pk Yd Yu s T M) fun _ L'=>∃ ps',MP ps' pk (lr (A++B))/\ii w s (Z.giveL T v.l) (V++bV (A++B))/\L'=AL w rs (dM w root ro rp vd vu) rp ps' pk Yd Yu s (Z.giveL T v.l) M:=by
 have hmm:∀ p,p∈M->p∈AL w rs (dM w root ro rp vd vu) rp ps pk Yd Yu s T M:=fun p hp=>by simp[AL,bl,fm,hp]
 refine yF Tryz.f95 ?_
 refine yX 1 ?_
 refine yR (aa (hmm _ h1) rfl rfl rfl rfl) ?_
 refine yR (aa (hmm _ h2) rfl rfl rfl rfl) ?_
 refine yA yH (pU hd hD hm) ?_
 rintro u L' ⟨rfl,h⟩
 refine yX 2 ?_
 exact⟨_,fun _ _=>rfl,h⟩
variable{i:Nat}
theorem Hx {A:List Sv}(h1:(r1,nP rs)∈M)(h2:(r2,aS (i:Nat))∈M)(hi:i ∉ A.map Sv.id)(hm:MP ps pk (lr A)) :
  CS Tryz.prog 95 [ptr r1,ptr r2] (AL w rs (dM w root ro rp vd vu) rp ps pk Yd Yu s T M) fun _ L'=>L'=AL w rs (dM w root ro rp vd vu) rp ps pk Yd Yu s T M:=by
 have hmm:∀ p,p∈M->p∈AL w rs (dM w root ro rp vd vu) rp ps pk Yd Yu s T M:=fun p hp=>by simp[AL,bl,fm,hp]
 refine yF Tryz.f95 ?_
 refine yX 1 ?_
 refine yR (aa (hmm _ h1) rfl rfl rfl rfl) ?_
 refine yR (aa (hmm _ h2) rfl rfl rfl rfl) ?_
 refine yA yH (pT hi hm) ?_
 rintro u L' ⟨rfl,rfl⟩
 refine yX 2 ?_
 exact⟨_,fun _ _=>rfl,rfl⟩
theorem AL.fresh {rp':Nat}{row':aG}:ar (AL w rs row' rp' [] 0 [] [] s T M) ((rp',.map [] 0)::(rs,row')::(rp,.map ps pk)::(Yd++(Yu++bl w s T M))):=ar.sums2 ((rp,.map ps pk)::(Yd++Yu)) fun f=>by simp[AL,bl,fm] <;> omega
set_option maxHeartbeats 1000000 in
theorem Gl {G:List Sv}{cd:List Value}(gd:GV 1 1 [] vd G.length cd Yd)(hG:lK M rs cd G)(hGl:G.length<=1000000)(hd:s.dead=false)(hD:ii w s T (bV G++W)) :
  CS Tryz.prog 69 [ptr rs,vd] (AL w rs (dM w root ro rp vd vu) rp ps pk Yd Yu s T M) fun _ L'=>∃ T' rp',T'.length=T.length/\ii w s T' W/\L'=AL w rs (dM w root ro rp' (.slice none 0 0) (.slice none 0 0)) rp' [] 0 [] [] s T' M:=by
 have hsv:∀ T':List Bool,SV 1 (AL w rs (dM w root ro rp vd vu) rp ps pk Yd Yu s T' M) vd G.length cd:=fun T'=>gd.sv.mono fun p hp=>by simp[AL,hp]
 refine yF Tryz.f69 ?_
 refine yX 2 ?_
 refine yP (az (hsv T) rfl rfl rfl rfl rfl) ?_
 refine yX 3 ?_
 refine LS.loopJ [0,6,7,8] (fun z a L'=>∃ (i:Nat) (T':List Bool),z=G.length-i/\i<=G.length/\T'.length=T.length/\ii w s T' (bV (G.drop i)++W)/\L'=AL w rs (dM w root ro rp vd vu) rp ps pk Yd Yu s T' M/\a=[ptr rs,yC,yC,yC,yC,yC,vd,.int .i64 (G.length:Nat),.int .i64 (i:Nat),yC,yC,yC,yC,yC,yC,yC,yC,yC,yC]) (n:=G.length) rfl ⟨0,T,rfl,Nat.zero_le _,rfl,hD,rfl,rfl⟩ ?_
 rintro z a L' ⟨i,T',rfl,hi,hTl,hD',rfl,rfl⟩
 by_cases hin:i<G.length
 ·have hb:(!av ((G.length:Nat):Int) ((i:Nat):Int))=true:=by rw[am,decide_eq_false (by omega)];rfl
  obtain⟨r1,r2,t,hcd,h1,h2⟩:=hG.2 i G[i] (List.getElem?_eq_getElem hin)
  refine yX 1 ?_
  refine yI hb ?_
  refine yV 1 ?_
  refine xC rfl ?_ ?_ <;> intro hc
  ·refine yX 3 ?_
   refine OS.at1 (j:=i) (hsv T') (hcd) rfl rfl rfl rfl rfl rfl (fun ra0 oa0 rowa0 csa0 ma0 ca0 ga0=>⟨_,rfl,?_⟩)
   refine yR (aa ma0 ca0 rfl rfl (ap rfl ga0)) ?_
   refine yX 4 ?_
   rw[show G.drop i=G[i]::G.drop (i+1) from List.drop_eq_getElem_cons hin]at hD'
   refine yA yH (GG h1 h2 hd (V:=bV (G.drop (i+1))++W) hD') ?_
   rintro u L' ⟨h3,rfl⟩
   refine yX 3 ?_
   refine yP (aW (n:=1) rfl rfl rfl (ak (by omega) (by omega))) ?_
   refine yX 2 ?_
   exact⟨G.length-(i+1),by omega,i+1,_,rfl,by omega,by rw[Z.giveL_len];exact hTl,h3,rfl,rfl⟩
  cases hc
 have hb:(!av ((G.length:Nat):Int) ((i:Nat):Int))=false:=by rw[am,decide_eq_true (by omega)];rfl
 refine yX 1 ?_
 refine yI hb ?_
 refine yX 2 ?_
 refine LS.exit ?_
 refine yX 2 ?_
 refine yA yH pj ?_
 rintro u L' ⟨rp',rfl,rfl⟩
 refine yX 4 ?_
 refine OS.sub AL.fresh ?_
 refine xN ?_
 refine⟨_,fun _ _=>rfl,T',rp',hTl,?_,rfl⟩
 rw[show i=G.length by omega,List.drop_length]at hD'
 exact hD'
variable{U:List Nat}{Fr:List Sv}{cu:List Value}
set_option maxHeartbeats 1000000 in
theorem ID (gu:GV 1 1 [] vu U.length cu Yu)(hU:tC M rs cu U)(hUl:U.length<=1000000)(hd:s.dead=false)(hD:ii w s T (V++bV Fr))(hm:MP ps pk (lr Fr))(hF:∀ v∈Fr,v.id∈U) :
  CS Tryz.prog 69 [ptr rs,vu] (AL w rs (dM w root ro rp vd vu) rp ps pk Yd Yu s T M) fun _ L'=>∃ T' rp',T'.length=T.length/\ii w s T' V/\L'=AL w rs (dM w root ro rp' (.slice none 0 0) (.slice none 0 0)) rp' [] 0 [] [] s T' M:=by
 have hsv:∀ (T':List Bool) ps',SV 1 (AL w rs (dM w root ro rp vd vu) rp ps' pk Yd Yu s T' M) vu U.length cu:=fun T' ps'=>gu.sv.mono fun p hp=>by simp[AL,hp]
 refine yF Tryz.f69 ?_
 refine yX 2 ?_
 refine yP (az (hsv T ps) rfl rfl rfl rfl rfl) ?_
 refine yX 3 ?_
 refine LS.loopJ [0,6,7,8] (fun z a L'=>∃ (i:Nat) (T':List Bool) (ps':List MapEntry) (Fr':List Sv),z=U.length-i/\i<=U.length/\T'.length=T.length/\ii w s T' (V++bV Fr')/\MP ps' pk (lr Fr')/\(∀ v∈Fr',v.id∈U.drop i)/\L'=AL w rs (dM w root ro rp vd vu) rp ps' pk Yd Yu s T' M/\a=[ptr rs,yC,yC,yC,yC,yC,vu,.int .i64 (U.length:Nat),.int .i64 (i:Nat),yC,yC,yC,yC,yC,yC,yC,yC,yC,yC]) (n:=U.length) rfl ⟨0,T,ps,Fr,rfl,Nat.zero_le _,rfl,hD,hm,hF,rfl,rfl⟩ ?_
 rintro z a L' ⟨i,T',ps',Fr',rfl,hi,hTl,hD',hm',hF',rfl,rfl⟩
 by_cases hin:i<U.length
 ·have hb:(!av ((U.length:Nat):Int) ((i:Nat):Int))=true:=by rw[am,decide_eq_false (by omega)];rfl
  obtain⟨r1,r2,hcu,h1,h2⟩:=hU.2 i U[i] (List.getElem?_eq_getElem hin)
  rw[show U.drop i=U[i]::U.drop (i+1) from List.drop_eq_getElem_cons hin]at hF'
  refine yX 1 ?_
  refine yI hb ?_
  refine yV 1 ?_
  refine xC rfl ?_ ?_ <;> intro hc
  ·refine yX 3 ?_
   refine OS.at1 (j:=i) (hsv T' ps') (hcu) rfl rfl rfl rfl rfl rfl (fun ra0 oa0 rowa0 csa0 ma0 ca0 ga0=>⟨_,rfl,?_⟩)
   refine yR (aa ma0 ca0 rfl rfl (ap rfl ga0)) ?_
   refine yX 4 ?_
   by_cases hx:∃ v∈Fr',v.id=U[i]
   ·obtain⟨v,hv,hvi⟩:=hx
    obtain⟨A,B,rfl⟩:=List.append_of_mem hv
    have hnd:=uP hD'.h
    rw[←hvi]at h2
    refine yA yH (Hy h1 h2 hd hD' hm') ?_
    rintro u L' ⟨ps2,h3,h4,rfl⟩
    refine yX 3 ?_
    refine yP (aW (n:=1) rfl rfl rfl (ak (by omega) (by omega))) ?_
    refine yX 2 ?_
    refine⟨U.length-(i+1),by omega,i+1,_,ps2,A++B,rfl,by omega,by rw[Z.giveL_len];exact hTl,h4,h3,fun u hu=>?_,rfl,rfl⟩
    rcases List.mem_cons.1 (hF' u (by rcases List.mem_append.1 hu with h|h <;> simp[h])) with h|h
    ·exfalso
     rw[List.map_append,List.map_cons]at hnd
     have h5:=List.nodup_append.1 hnd
     rcases List.mem_append.1 hu with h6|h6
     ·exact h5.2.2 u.id (List.mem_map.2 ⟨u,h6,rfl⟩) v.id (List.mem_cons_self ..) (by rw[h,hvi])
     exact (List.nodup_cons.1 h5.2.1).1 (List.mem_map.2 ⟨u,h6,by rw[h,hvi]⟩)
    exact h
   have hni:U[i] ∉ Fr'.map Sv.id:=fun hh=>by
    obtain⟨v,hv,he⟩:=List.mem_map.1 hh
    exact hx ⟨v,hv,he⟩
   refine yA yH (Hx h1 h2 hni hm') ?_
   rintro u L' rfl
   refine yX 3 ?_
   refine yP (aW (n:=1) rfl rfl rfl (ak (by omega) (by omega))) ?_
   refine yX 2 ?_
   refine⟨U.length-(i+1),by omega,i+1,T',ps',Fr',rfl,by omega,hTl,hD',hm',fun u hu=>?_,rfl,rfl⟩
   rcases List.mem_cons.1 (hF' u hu) with h|h
   ·exact absurd ⟨u,hu,h⟩ hx
   exact h
  cases hc
 have hb:(!av ((U.length:Nat):Int) ((i:Nat):Int))=false:=by rw[am,decide_eq_true (by omega)];rfl
 have hF0:Fr'=[]:=by
  cases Fr' with
  | nil=>rfl
  | cons v F =>
   have:=hF' v (List.mem_cons_self ..)
   rw[List.drop_of_length_le (by omega)]at this
   cases this
 subst hF0
 refine yX 1 ?_
 refine yI hb ?_
 refine yX 2 ?_
 refine LS.exit ?_
 refine yX 2 ?_
 refine yA yH pj ?_
 rintro u L' ⟨rp',rfl,rfl⟩
 refine yX 4 ?_
 refine OS.sub AL.fresh ?_
 refine xN ?_
 refine⟨_,fun _ _=>rfl,T',rp',hTl,?_,rfl⟩
 simpa[bV] using hD'
end
structure Kf where
 rs:Nat
 ro:Nat
 w:jY
structure Qs where
 c:jt
 m:da
 root:Int
 S:List Sv
 O:List Sv
 G:List Sv
 U:List Nat
 s:Dk
 T:List Bool
abbrev Kf.al(k:Kf)(q:Qs)(rp:Nat)(ps:List MapEntry)(pk:Nat)(vd vu:Value)(Yd Yu M:RL):RL:=(k.ro,bO q.c.rt)::AL k.w k.rs (dM k.w q.c.root0 k.ro rp vd vu) rp ps pk Yd Yu q.s q.T M
def mi(k:Kf)(q:Qs)(F L:RL):Prop:=∃ X M rp ps pk vd vu cd cu Yd Yu,TR q.c (k.al q rp ps pk vd vu Yd Yu (M++F)) X ⟨q.m,q.root,(q.S.length:Nat)⟩ L/\MP ps pk (lr (q.S.filter Fl)) /\
 GV 1 1 [] vd q.G.length cd Yd/\lK M k.rs cd q.G/\GV 1 1 [] vu q.U.length cu Yu/\tC M k.rs cu q.U
def Fw(N:Nat)(m:da)(root:Int)(P:List Pr):Prop:=Eo N m P
abbrev Qs.fw(q:Qs):Prop:=Fw q.c.N q.m q.root (jX q.S)
structure oL(k:Kf)(q:Qs)(b:Nat):Prop where
 act:js q.S q.O q.G q.U
 good:dI q.m q.root (jX q.S)
 good0:dI q.c.m0 q.c.root0 (jX q.O)
 cnt0:q.c.cnt0=(q.O.length:Nat)
 dsk:ii k.w q.s q.T (bV (q.O.filter (·.lg))++bV (q.S.filter Fl))
 n:q.c.N=(q.s.n-122)/2
 base:k.w.base=122+q.c.N
 tl:k.w.base+q.T.length=q.s.n
 idle:dh q.s.D 1=zeros
 hd:fh (dh q.s.D 0) q.s.n=(q.c.root0,true)
 img:∀ p,q.c.m0 p≠none->eU (dh q.s.D (122+p))=q.c.m0 p
 sl:q.S.length<=b
 ol:q.O.length<=b
 ul:q.U.length<=b
 b:b<=100000
theorem oL.gl {k:Kf}{q:Qs}{b:Nat}(h:oL k q b):q.G.length<=b:=by
 have h1:=h.act.gone.length_eq
 have h2:=List.length_filter_le (fun v:Sv=>v.lg) q.O
 have h3:=h.ol
 rw[List.length_append]at h1
 omega
section
variable{k:Kf}{q:Qs}{F L:RL}{b:Nat}
theorem mi.mem(h:mi k q F L):∃ rp vd vu,(k.rs,dM k.w q.c.root0 k.ro rp vd vu)∈L/\(k.w.rj,.cells 134 [ptr k.w.rd])∈L/\(k.w.rd,ov k.w.rb q.s)∈L/\(k.ro,bO q.c.rt)∈L/\∀ p,p∈F->p∈L:=by
 obtain⟨X,M,rp,ps,pk,vd,vu,cd,cu,Yd,Yu,htr,h1,h2,h3,h4,h5⟩:=h
 have hm:=htr.memG
 exact⟨rp,vd,vu,hm _ (.tail _ (.head _)),hm _ (by simp[Kf.al,AL,bl]),hm _ (by simp[Kf.al,AL,bl]),hm _ (.head _),fun p hp=>hm _ (by simp[Kf.al,AL,bl,fm,hp])⟩
theorem mi.refusal(h:mi k q F L):CS Tryz.prog 54 [ptr k.rs] L fun u L'=>u=.int .i64 (if q.s.dead=true then 20 else 0)/\L'=L:=by
 obtain⟨rp,vd,vu,h1,h2,h3,_⟩:=h.mem
 exact xZ h1 h2 h3
theorem mi.frame(h:mi k q F L):∃ R,ar (F++R) L/\∀ F',∃ L',mi k q F' L'/\ar L' (F'++R):=by
 obtain⟨X,M,rp,ps,pk,vd,vu,cd,cu,Yd,Yu,htr,h1,h2,h3,h4,h5⟩:=h
 obtain⟨T5,es,ck,ws,wk,hN,rfl,hp⟩:=htr
 have e1:∀ (M R:RL),bl k.w q.s q.T (M++R)=bl k.w q.s q.T []++(M++R):=fun _ _=>rfl
 have e2:∀ F:RL,HD q.c.rf q.c.rb q.c.rt q.c.rn q.c.rw T5 q.root (q.S.length:Nat) q.c.root0 q.c.cnt0 es ck ws wk F=HD q.c.rf q.c.rb q.c.rt q.c.rn q.c.rw T5 q.root (q.S.length:Nat) q.c.root0 q.c.cnt0 es ck ws wk []++F:=fun _=>rfl
 refine⟨HD q.c.rf q.c.rb q.c.rt q.c.rn q.c.rw T5 q.root (q.S.length:Nat) q.c.root0 q.c.cnt0 es ck ws wk (k.al q rp ps pk vd vu Yd Yu M++X),?_,fun F'=>⟨_,⟨X,M,rp,ps,pk,vd,vu,cd,cu,Yd,Yu,⟨T5,es,ck,ws,wk,hN,rfl,hp⟩,h1,h2,h3,h4,h5⟩,?_⟩⟩
 ·unfold Kf.al AL
  rw[e2,e2 (_++X)]
  have e3:bl k.w q.s q.T M=bl k.w q.s q.T []++M:=rfl
  rw[e1,e3]
  generalize bl k.w q.s q.T []=B
  generalize HD q.c.rf q.c.rb q.c.rt q.c.rn q.c.rw T5 q.root (q.S.length:Nat) q.c.root0 q.c.cnt0 es ck ws wk []=H
  refine ar.sums fun f=>?_
  simp only[List.map_append,List.map_cons,List.sum_append,List.sum_cons];omega
 unfold Kf.al AL
 rw[e2,e2 (_++X)]
 have e3:bl k.w q.s q.T M=bl k.w q.s q.T []++M:=rfl
 rw[e1,e3]
 generalize bl k.w q.s q.T []=B
 generalize HD q.c.rf q.c.rb q.c.rt q.c.rn q.c.rw T5 q.root (q.S.length:Nat) q.c.root0 q.c.cnt0 es ck ws wk []=H
 refine ar.sums fun f=>?_
 simp only[List.map_append,List.map_cons,List.sum_append,List.sum_cons];omega
theorem BK {rs:Value}{e:Int}{key:Value}(hr:CS Tryz.prog 54 [rs] L fun u L'=>u=.int .i64 e/\L'=L)(he:e≠0):CS Tryz.prog 17 [rs,key] L fun u L'=>u=.tuple #[bb [],.int .i64 e]/\L'=L:=by
 refine yF Tryz.f17 ?_
 refine yX 6 ?_
 refine yA yH hr ?_
 rintro u L₁ ⟨rfl,e₁⟩
 subst e₁
 refine yX 5 ?_
 refine yI (jH he) ?_
 refine yV 1 ?_
 refine xC rfl ?_ ?_ <;> intro hc
 ·refine yX 6 ?_
  exact⟨rfl,rfl⟩
 cases hc
theorem HM {rs:Value}{e:Int}{key data:Value}(hr:CS Tryz.prog 54 [rs] L fun u L'=>u=.int .i64 e/\L'=L)(he:e≠0):CS Tryz.prog 11 [rs,key,data] L fun u L'=>u=.int .i64 e/\L'=L:=by
 refine yF Tryz.f11 ?_
 refine yX 5 ?_
 refine yA yH hr ?_
 rintro u L₁ ⟨rfl,e₁⟩
 subst e₁
 refine yX 5 ?_
 refine yI (jH he) ?_
 refine yV 1 ?_
 refine xC rfl ?_ ?_ <;> intro hc
 ·refine yX 5 ?_
  exact⟨rfl,rfl⟩
 cases hc
theorem BL {rs:Value}{e:Int}{key:Value}(hr:CS Tryz.prog 54 [rs] L fun u L'=>u=.int .i64 e/\L'=L)(he:e≠0):CS Tryz.prog 15 [rs,key] L fun u L'=>u=.int .i64 e/\L'=L:=by
 refine yF Tryz.f15 ?_
 refine yX 5 ?_
 refine yA yH hr ?_
 rintro u L₁ ⟨rfl,e₁⟩
 subst e₁
 refine yX 5 ?_
 refine yI (jH he) ?_
 refine yV 1 ?_
 refine xC rfl ?_ ?_ <;> intro hc
 ·refine yX 5 ?_
  exact⟨rfl,rfl⟩
 cases hc
theorem qV {rs:Value}{e:Int}(hr:CS Tryz.prog 54 [rs] L fun u L'=>u=.int .i64 e/\L'=L)(he:e≠0):CS Tryz.prog 16 [rs] L fun u L'=>u=.int .i64 e/\L'=L:=by
 refine yF Tryz.f16 ?_
 refine yX 5 ?_
 refine yA yH hr ?_
 rintro u L₁ ⟨rfl,e₁⟩
 subst e₁
 refine yX 5 ?_
 refine yI (jH he) ?_
 refine yV 1 ?_
 refine xC rfl ?_ ?_ <;> intro hc
 ·refine yX 5 ?_
  exact⟨rfl,rfl⟩
 cases hc
theorem ya {rs:Value}{e:Int}(hr:CS Tryz.prog 54 [rs] L fun u L'=>u=.int .i64 e/\L'=L)(he:e≠0):CS Tryz.prog 19 [rs] L fun u L'=>u=.int .i64 e/\L'=L:=by
 refine yF Tryz.f19 ?_
 refine yX 5 ?_
 refine yA yH hr ?_
 rintro u L₁ ⟨rfl,e₁⟩
 subst e₁
 refine yX 5 ?_
 refine yI (jH he) ?_
 refine yV 1 ?_
 refine xC rfl ?_ ?_ <;> intro hc
 ·refine yX 5 ?_
  exact⟨rfl,rfl⟩
 cases hc
theorem C4(h:mi k q F L):CS Tryz.prog 22 [ptr k.rs] L fun u L'=>u=.int .i64 (cq q.c.N q.m:Nat)/\L'=L:=by
 obtain⟨rp,vd,vu,h1,_,_,h4,_⟩:=h.mem
 obtain⟨X,M,_,ps,pk,_,_,cd,cu,Yd,Yu,htr,_⟩:=h
 refine yF Tryz.f22 ?_
 refine yX 5 ?_
 refine yA yH (nC h1) ?_
 rintro u L₁ ⟨rfl,e₁⟩
 subst e₁
 refine yX 8 ?_
 refine yR (aa h1 rfl rfl rfl rfl) ?_
 refine yA yH (qN htr h4) ?_
 rintro u L₁ ⟨rfl,e₁⟩
 subst e₁
 refine yX 4 ?_
 exact⟨rfl,rfl⟩
variable{rm rf:Nat}
theorem KE (hT:T.length<=32768)(hs:ar (fm rm rf T M) L)(hs2:ar L (fm rm rf T M)):CS Tryz.prog 61 [ptr rm] L fun u L'=>u=.int .i64 (frees T:Nat)/\L'=L:=by
 refine ((CO hT).sub hs).less ?_
 rintro u L' ⟨rfl,rfl⟩
 exact⟨L,hs2,rfl,rfl⟩
theorem EQ(h:mi k q F L)(hI:oL k q b):CS Tryz.prog 13 [ptr k.rs] L fun u L'=>u=.int .i64 (frees q.T:Nat)/\L'=L:=by
 obtain⟨rp,vd,vu,h1,_,_,h4,_⟩:=h.mem
 have hT:=hI.dsk.ok.len
 have hs:∃ M,ar (fm k.w.rm k.w.rf q.T M) L/\ar L (fm k.w.rm k.w.rf q.T M):=by
  obtain⟨X,M,rp,ps,pk,vd,vu,cd,cu,Yd,Yu,htr,_⟩:=h
  obtain⟨T5,es,ck,ws,wk,hN,rfl,hp⟩:=htr
  refine⟨HD q.c.rf q.c.rb q.c.rt q.c.rn q.c.rw T5 q.root (q.S.length:Nat) q.c.root0 q.c.cnt0 es ck ws wk ((k.ro,bO q.c.rt)::(k.rs,dM k.w q.c.root0 k.ro rp vd vu)::(rp,.map ps pk)::(Yd++(Yu++((k.w.rD,.cells 147 [ptr k.w.rj,.int .i64 (k.w.base:Nat),ptr k.w.rm])::jn k.w.rj k.w.rd k.w.rb q.s ((M++F)++X))))),?_,?_⟩
  ·refine ar.sums fun f=>?_
   simp only[Kf.al,AL,bl,fm,jn,dk,HD,List.map_append,List.map_cons,List.sum_append,List.sum_cons,List.append_assoc,List.cons_append];omega
  refine ar.sums fun f=>?_
  simp only[Kf.al,AL,bl,fm,jn,dk,HD,List.map_append,List.map_cons,List.sum_append,List.sum_cons,List.append_assoc,List.cons_append];omega
 obtain⟨M,hs1,hs2⟩:=hs
 refine CS.mk (fn:=Tryz.f13) rfl rfl rfl rfl ?_
 repeat refine xQ ?_
 refine xG rfl ?_
 refine xP rfl yH rfl ?_
 refine xN ?_
 repeat refine xQ ?_
 refine xG rfl ?_
 refine xP rfl yH rfl ?_
 refine xA noGo rfl (fun _=>rfl) ((nC h1).mono ?_)
 rintro u L₁ ⟨rfl,e₁⟩
 subst e₁
 refine⟨_,rfl,?_⟩
 refine xN ?_
 repeat refine xQ ?_
 refine xC rfl (fun hc=>?_) (fun hc=>?_)
 ·cases hc
 refine LS.skip ?_
 repeat refine xQ ?_
 refine xG rfl ?_
 iterate 3 refine xP rfl yH rfl ?_
 refine xR rfl (aa h1 rfl rfl rfl rfl) rfl ?_
 refine xA noGo rfl (fun _=>rfl) ((KE hT hs1 hs2).mono ?_)
 rintro u L₁ ⟨rfl,e₁⟩
 subst e₁
 refine⟨_,rfl,?_⟩
 refine xP rfl yH rfl ?_
 refine xN ?_
 refine xT ⟨_,fun _ _=>rfl,?_⟩
 exact⟨rfl,rfl⟩
end
section
variable{k:Kf}{q:Qs}{F L:RL}{b:Nat}{w:jY}{rs rp pk:Nat}{row:aG}{ps:List MapEntry}{Yd Yu M:RL}{s:Dk}{T:List Bool}
theorem AL.d1 {x:Nat×aG}:ar (bl w s T (x::(rs,row)::(rp,.map ps pk)::(Yd++(Yu++M)))) (x::AL w rs row rp ps pk Yd Yu s T M):=ar.sums fun f=>by simp[AL,bl,fm] <;> omega
theorem AL.f1 {x:Nat×aG}:ar (AL w rs row rp ps pk Yd Yu s T M) (bl w s T (x::(rs,row)::(rp,.map ps pk)::(Yd++(Yu++M)))):=ar.sums2 [x] fun f=>by simp[AL,bl,fm] <;> omega
theorem AL.i1 {x:Nat×aG}:ar (AL w rs row rp ps pk Yd Yu s T (x::M)) (x::AL w rs row rp ps pk Yd Yu s T M):=AL.out (Y:=[x])
theorem oL.inV(hI:oL k q b){x:Sv}(hx:x∈q.S)(hl:x.lg=true):(x.l,x.d)∈bV (q.O.filter (·.lg))++bV (q.S.filter Fl):=by
 cases hf:x.f with
 | true=>exact List.mem_append_right _ (List.mem_map.2 ⟨x,List.mem_filter.2 ⟨hx,by simp[Fl,hl,hf]⟩,rfl⟩)
 | false=>exact List.mem_append_left _ (List.mem_map.2 ⟨x,List.mem_filter.2 ⟨hI.act.sf x hx hf,hl⟩,rfl⟩)
theorem oL.id(hI:oL k q b){x:Sv}(hx:x∈q.S)(hl:x.lg=true):x.id<=32768:=by
 have h1:=(hI.dsk.val (hI.inV hx hl)).2.2.2
 have h2:=hI.dsk.ok.len
 omega
theorem oL.len(hI:oL k q b):((q.S.length:Nat):Int)=((jX q.S).length:Nat):=by rw[cR]
def J5(o:Option Sv):Value:=match o with
 | some v=>.tuple #[bb v.d,.int .i64 0]
 | none=>.tuple #[bb [],.int .i64 5]
set_option maxHeartbeats 1000000 in
theorem HN {key:Tx}(h:mi k q F L)(hI:oL k q b)(hd:q.s.dead=false) :
  CS Tryz.prog 17 [ptr k.rs,bb key] L fun u L'=>u=J5 (eI q.S key)/\mi k q F L':=by
 obtain⟨rp,vd,vu,ms,_,_,mo,_⟩:=h.mem
 have hcnt:=hI.len
 refine yF Tryz.f17 ?_
 refine yX 6 ?_
 refine yA yH h.refusal ?_
 rintro u L₁ ⟨rfl,e₁⟩
 subst e₁
 rw[hd]
 refine yX 9 ?_
 have h0:=h
 obtain⟨X,M,rp,ps,pk,vd,vu,cd,cu,Yd,Yu,htr,h1,h2,h3,h4,h5⟩:=h
 have hgv:mT (jX q.S) key=match eI q.S key with
   | some x=>.tuple #[bb (mh x),.bool true]
   | none=>.tuple #[bb [],.bool false]:=by
  unfold mT
  rw[qm]
  cases eI q.S key <;> rfl
 refine yX 4 ?_
 refine yR (aa ms rfl rfl rfl rfl) ?_
 refine yX 1 ?_
 refine yA yH (vJ htr mo hI.good hcnt) ?_
 rintro u L₁ ⟨rfl,e₁⟩
 subst e₁
 rw[hgv]
 cases hgs:eI q.S key with
 | none =>
  refine yV 11 ?_
  refine xC rfl ?_ ?_ <;> intro hc
  ·refine yX 5 ?_
   exact⟨rfl,h0⟩
  cases hc
 | some x =>
  obtain⟨hxS,hxk⟩:=oh hgs
  refine yX 15 ?_
  refine yA yH (sW (v:=x) (hI.id hxS)) ?_
  rintro u L₁ ⟨rfl,e₁⟩
  subst e₁
  unfold DL
  cases hl:x.lg with
  | false =>
   refine yX 4 ?_
   refine yN fun r9=>?_
   refine yV 8 ?_
   refine xC rfl ?_ ?_ <;> intro hc
   ·refine yX 6 ?_
    refine LS.sub ar.tail ?_
    refine yX 1 ?_
    exact⟨rfl,h0⟩
   cases hc
  | true =>
   obtain⟨hV,hid,htk,_⟩:=hI.dsk.val (hI.inV hxS hl)
   obtain⟨R,hs2,hXR,hback⟩:=TR.ask [] htr
   obtain⟨L2,h6,hs3⟩:=hback (dM k.w q.c.root0 k.ro rp vd vu) rp ps pk Yd Yu q.s q.T (M++F)
   refine yX 4 ?_
   refine yN fun r9=>?_
   refine yV 10 ?_
   refine LS.drawn noGo mixed [(0,false),(1,false),(2,false),(3,false),(4,false),(5,false),(6,true),(7,false),(8,false),(9,false),(10,false)] rfl rfl (by kernel_rfl) ?_
   refine yX 3 ?_
   refine xE rfl rfl (aa (List.mem_cons_of_mem _ ms) rfl rfl rfl rfl) rfl ?_
   refine yX 2 ?_
   refine ba.sub (ar.trans AL.d1 (ar.cons hs2)) ?_
   refine yO rfl yH (Hi (c:=k.w) hI.dsk.ok hd hV hid htk) ?_
   rintro u L' ⟨rfl,rfl⟩
   refine⟨_,rfl,(by repeat (first|exact ai.nil|refine ai.gone rfl ?_)),?_⟩
   refine yX 4 ?_
   refine ba.sub (hs3.trans AL.f1) ?_
   refine yX 2 ?_
   exact⟨rfl,X,M,rp,ps,pk,vd,vu,cd,cu,Yd,Yu,h6,h1,h2,h3,h4,h5⟩
end
theorem II {w:jY}{s:Dk}{T:List Bool}{V:List (List Nat×List UInt8)}{n j:Nat}{data:Tx}(h:ii w s T V)(hf:n<=frees T)(hj:j<w.base):dh (iL s.D (fy w.base (Z.tkL T n) data)) j=dh s.D j:=by
 have:=Br (c:=(Z.tkL T n).length) (data:=data) h.ok.ok.1 (h.lt hf) (j:=j) (fun x hx=>by omega)
 rw[yo]at this
 exact this
def ww(key data:Tx):Prop:=1<=key.length/\key.length<=32/\data.length<=131072
theorem Gk {v:Sv}(h:v.lg=true->v.id<=32768):(mh v).length<=64:=by
 unfold mh
 cases hl:v.lg with
 | true =>
  have:=CB (z:=(v.id:Nat)) (by have:=h hl;omega)
  simp;omega
 | false =>
  have:p7 v.d=false:=hl
  unfold p7 at this
  simp at this ⊢
  omega
def mf(s:Dk)(base:Nat)(T:List Bool)(data:Tx):Dk:=if p7 data=true then Ko s base T (aT data.length) data else s
theorem wD {s:Dk}{base:Nat}{T:List Bool}{data:Tx}:(mf s base T data).n=s.n:=by unfold mf;split <;> rfl
theorem uK {s:Dk}{base:Nat}{T:List Bool}{data:Tx}(h:s.dead=false):(mf s base T data).dead=false:=by unfold mf;split <;> first|rfl|exact h
theorem FU {w:jY}{s:Dk}{T:List Bool}{V:List (List Nat×List UInt8)}{j:Nat}{data:Tx}(h:ii w s T V)(hf:p7 data=true->aT data.length<=frees T)(hj:j<w.base):dh (mf s w.base T data).D j=dh s.D j:=by
 unfold mf
 split
 ·rename_i hl;exact II h (hf hl) hj
 rfl
variable{c:jt}{G X:RL}
theorem Hz {s:fD}{L:RL}(h:TR c G X s L):∀ i,c.m0 i≠none->i<c.N:=by
 obtain⟨T,es,ck,ws,wk,hN,rfl,hp⟩:=h
 rw[←hN];exact hp.dom0
section
variable{k:Kf}{q:Qs}{F L:RL}{b:Nat}
def Lm(k:Kf)(q:Qs)(F:RL)(key data:Tx)(r8:Nat)(v:Sv)(L:RL):Prop :=
 v.k=key/\v.d=data/\v.f=true/\∃ X M T' rp ps pk vd vu cd cu Yd Yu,(r8,kH v.lg (if v.lg then v.id else 0:Nat) (if v.lg then [] else v.d))∈M/\T'.length=q.T.length /\
  TR q.c ((k.ro,bO q.c.rt)::AL k.w k.rs (dM k.w q.c.root0 k.ro rp vd vu) rp ps pk Yd Yu (mf q.s k.w.base q.T data) T' (M++F)) X ⟨q.m,q.root,(q.S.length:Nat)⟩ L/\MP ps pk (lr (q.S.filter Fl++if v.lg then [v] else [])) /\
  GV 1 1 [] vd q.G.length cd Yd/\lK M k.rs cd q.G/\GV 1 1 [] vu (if v.lg then q.U++[v.id] else q.U).length cu Yu/\tC M k.rs cu (if v.lg then q.U++[v.id] else q.U) /\
  ii k.w (mf q.s k.w.base q.T data) T' (bV (q.O.filter (·.lg))++bV (q.S.filter Fl++if v.lg then [v] else []))
def Li(k:Kf)(q:Qs)(F:RL)(b:Nat)(key data:Tx)(u:Value)(L':RL):Prop :=
 (¬ ww key data/\u=.int .i64 1/\mi k q F L') ∨
 (ww key data/\(cq q.c.N q.m<16∨(p7 data=true/\frees q.T<aT data.length))/\u=.int .i64 3/\mi k q F L') ∨
 (ww key data/\16<=cq q.c.N q.m/\(p7 data=true->aT data.length<=frees q.T/\(q.s.cut=true->aT data.length<=q.s.left))/\u=.int .i64 0/\∃ q' v,v.k=key/\v.d=data/\v.f=true/\mi k q' F L'/\oL k q' (b+1)/\q'.S=iN v q.S/\q'.O=q.O/\q'.c=q.c/\q'.s=mf q.s k.w.base q.T data/\(q.fw->q'.fw)) ∨
 (ww key data/\16<=cq q.c.N q.m/\p7 data=true/\aT data.length<=frees q.T/\q.s.cut=true/\q.s.left<aT data.length/\u=.int .i64 20/\mi k { q with s:=Kn q.s k.w.base q.T (aT data.length) data } F L')
set_option maxHeartbeats 4000000 in
theorem ql {key data:Tx}(h:mi k q F L)(hI:oL k q b)(hb1:b+1<=100000)(hd:q.s.dead=false)(hw:q.s.wr<=900000)(hkl:key.length<=9000000000000000)(hdl:data.length<=9000000000000000) :
  CS Tryz.prog 11 [ptr k.rs,bb key,bb data] L fun u L'=>Li k q F b key data u L':=by
 obtain⟨rp0,vd0,vu0,ms,_,_,mo,_⟩:=h.mem
 have hcnt:=hI.len
 have hul:=hI.ul
 have hgl:=hI.gl
 have hsl:=hI.sl
 have hbb:=hI.b
 refine yF Tryz.f11 ?_
 refine yX 5 ?_
 refine yA yH h.refusal ?_
 rintro u L₁ ⟨rfl,e₁⟩
 subst e₁
 rw[hd]
 refine yX 9 ?_
 have h0:=h
 obtain⟨X,M,rp,ps,pk,vd,vu,cd,cu,Yd,Yu,htr,h1,h2,h3,h4,h5⟩:=h
 repeat refine xQ ?_
 refine LS.mid [0,1,2] (fun a' L'=>L'=L₁/\ww key data/\16<=cq q.c.N q.m/\a'=[ptr k.rs,bb key,bb data,yC,yC,yC,yC,yC,yC,yC,yC,yC,yC,yC,yC,yC,yC,yC,yC,yC,yC,yC,yC,yC,yC,yC,yC,yC,yC,yC,yC,yC,yC,yC,yC,yC,yC,yC,yC,yC,yC,yC,yC,yC,yC,yC,yC,yC,yC,yC,yC,yC,yC,yC,yC,yC]) ?_ ?_
 ·refine yX 1 ?_
  by_cases k0:key.length=0
  ·have hb:bc ((key.length:Nat):Int) 0=true:=by rw[k0];rfl
   refine yX 3 ?_
   refine yI hb ?_
   refine yV 12 ?_
   refine xC rfl ?_ ?_ <;> intro hc
   ·refine yX 4 ?_
    exact .inl ⟨fun h=>by have:=h.1;omega,rfl,h0⟩
   cases hc
  have hb:bc ((key.length:Nat):Int) 0=false:=by rw[aC];simp;intro hh;exact k0 (by rw[hh];rfl)
  by_cases k1:32<key.length
  ·have hb1:(!av ((key.length:Nat):Int) 32)=true:=by rw[am,decide_eq_false (by omega)];rfl
   refine yX 3 ?_
   refine yI hb ?_
   refine yX 3 ?_
   refine yI hb1 ?_
   refine yV 8 ?_
   refine xC rfl ?_ ?_ <;> intro hc
   ·refine yX 4 ?_
    exact .inl ⟨fun h=>by have:=h.2.1;omega,rfl,h0⟩
   cases hc
  have hb1:(!av ((key.length:Nat):Int) 32)=false:=by rw[am,decide_eq_true (by omega)];rfl
  by_cases k2:131072<data.length
  ·have hb2:(!av ((data.length:Nat):Int) 131072)=true:=by rw[am,decide_eq_false (by omega)];rfl
   refine yX 3 ?_
   refine yI hb ?_
   refine yX 3 ?_
   refine yI hb1 ?_
   refine yX 4 ?_
   refine yI hb2 ?_
   refine yV 3 ?_
   refine xC rfl ?_ ?_ <;> intro hc
   ·refine yX 4 ?_
    exact .inl ⟨fun h=>by have:=h.2.2;omega,rfl,h0⟩
   cases hc
  have hb2:(!av ((data.length:Nat):Int) 131072)=false:=by rw[am,decide_eq_true (by omega)];rfl
  have hmay:ww key data:=⟨by omega,by omega,by omega⟩
  refine yX 3 ?_
  refine yI hb ?_
  refine yX 3 ?_
  refine yI hb1 ?_
  refine yX 4 ?_
  refine yI hb2 ?_
  refine yX 8 ?_
  refine yR (aa ms rfl rfl rfl rfl) ?_
  refine yA yH (qN htr mo) ?_
  rintro u L₂ ⟨rfl,e₂⟩
  subst e₂
  refine yX 1 ?_
  by_cases k3:cq q.c.N q.m<16
  ·have hb3:(!av 16 ((cq q.c.N q.m:Nat):Int))=true:=by rw[am,decide_eq_false (by omega)];rfl
   refine yI hb3 ?_
   refine yV 2 ?_
   refine xC rfl ?_ ?_ <;> intro hc
   ·refine yX 4 ?_
    exact .inr (.inl ⟨hmay,.inl k3,rfl,h0⟩)
   cases hc
  have hb3:(!av 16 ((cq q.c.N q.m:Nat):Int))=false:=by rw[am,decide_eq_true (by omega)];rfl
  refine yI hb3 ?_
  refine yX 4 ?_
  exact⟨rfl,hmay,by omega,rfl⟩
 rintro a' L2 ⟨e₂,hmay,hfr,rfl⟩
 subst e₂
 obtain⟨R,hs2,hXR,hback⟩:=TR.ask [] htr
 rw[List.append_assoc]at hs2
 repeat refine xQ ?_
 refine LS.mid [0,1,8,9] (fun a' L'=>∃ r8 e,a'=[ptr k.rs,bb key,yC,yC,yC,yC,yC,yC,ptr r8,.int .i64 e,yC,yC,yC,yC,yC,yC,yC,yC,yC,yC,yC,yC,yC,yC,yC,yC,yC,yC,yC,yC,yC,yC,yC,yC,yC,yC,yC,yC,yC,yC,yC,yC,yC,yC,yC,yC,yC,yC,yC,yC,yC,yC,yC,yC,yC,yC]/\((e=0/\(p7 data=true->aT data.length<=frees q.T/\(q.s.cut=true->aT data.length<=q.s.left))/\∃ v,Lm k q F key data r8 v L')∨(e≠0/\Li k q F b key data (.int .i64 e) L'))) ?_ ?_
 ·refine yX 3 ?_
  refine OS.sub hs2 ?_
  refine yA yH (In key hI.dsk hw hd h1 h4 h5 (by omega) hmay.2.2) ?_
  rintro u L' ⟨Y,A,hlay,rfl⟩
  unfold Ja at hlay
  rcases hlay with ⟨hl,rfl,rfl⟩|⟨hl,hf,rfl,rfl⟩|⟨hl,hf,hcut,rfl,ps',pk',vu',cu',Yu',g1,g2,g3,g4,rfl⟩|⟨hl,hf,hc1,hc2,rfl,hD2,rfl⟩
  ·unfold DL
   simp only[Sv.lg,hl]
   refine yX 4 ?_
   refine yN fun r8=>?_
   refine yX 1 ?_
   obtain⟨L2,h6,hs3⟩:=hback (dM k.w q.c.root0 k.ro rp vd vu) rp ps pk Yd Yu q.s q.T (((r8,kH false (0:Nat) data)::(Y++M))++F)
   simp only[List.cons_append,List.append_assoc]at hs3
   refine OS.sub (hs3.trans AL.i1) ?_
   refine yX 2 ?_
   refine⟨r8,0,rfl,.inl ⟨rfl,fun h=>(by first|(cases h;done)|(rw[hl]at h;cases h)),⟨key,data,true,[]⟩,rfl,rfl,rfl,X,(r8,kH false (0:Nat) data)::(Y++M),q.T,rp,ps,pk,vd,vu,cd,cu,Yd,Yu,?_,rfl,?_,?_,h2,h3.mono fun p hp=>by simp[hp],?_,?_,?_⟩⟩
   ·simp[Sv.lg,hl]
   ·unfold mf;rw[hl];exact h6
   ·simpa[Sv.lg,hl] using h1
   ·simpa[Sv.lg,hl] using h4
   ·simpa[Sv.lg,hl] using h5.mono fun p hp=>(by simp[hp])
   unfold mf;simpa[Sv.lg,hl] using hI.dsk
  ·refine yX 4 ?_
   refine yN fun r8=>?_
   refine yX 1 ?_
   obtain⟨L2,h6,hs3⟩:=hback (dM k.w q.c.root0 k.ro rp vd vu) rp ps pk Yd Yu q.s q.T ((Y++M)++F)
   simp only[List.append_assoc]at hs3
   refine OS.sub (hs3.trans ar.tail) ?_
   refine yX 2 ?_
   refine⟨r8,3,rfl,.inr ⟨by decide,.inr (.inl ⟨hmay,.inr ⟨hl,hf⟩,rfl,X,Y++M,rp,ps,pk,vd,vu,cd,cu,Yd,Yu,h6,h1,h2,h3.mono fun p hp=>by simp[hp],h4,h5.mono fun p hp=>by simp[hp]⟩)⟩⟩
  ·unfold DL
   simp only[Sv.lg,hl,if_true]
   generalize hid:Sv.id ⟨key,data,true,Z.tkL q.T (aT data.length)⟩=id at g1 g2 g3 ⊢
   refine yX 4 ?_
   refine yN fun r8=>?_
   refine yX 1 ?_
   obtain⟨L2,h6,hs3⟩:=hback (dM k.w q.c.root0 k.ro rp vd vu') rp ps' pk' Yd Yu' (Ko q.s k.w.base q.T (aT data.length) data) (Z.tkT q.T (aT data.length)) (((r8,kH true (id:Nat) [])::(Y++M))++F)
   simp only[List.cons_append,List.append_assoc]at hs3
   refine OS.sub (hs3.trans AL.i1) ?_
   refine yX 2 ?_
   refine⟨r8,0,rfl,.inl ⟨rfl,fun h=>⟨hf,hcut⟩,⟨key,data,true,Z.tkL q.T (aT data.length)⟩,rfl,rfl,rfl,X,(r8,kH true (id:Nat) [])::(Y++M),Z.tkT q.T (aT data.length),rp,ps',pk',vd,vu',cd,cu',Yd,Yu',?_,Z.tkT_len _ _,?_,?_,h2,h3.mono fun p hp=>by simp[hp],?_,?_,?_⟩⟩
   ·simp[Sv.lg,hl,hid]
   ·unfold mf;rw[hl];exact h6
   ·simpa[Sv.lg,hl] using g1
   ·simpa[Sv.lg,hl,hid] using g2
   ·simpa[Sv.lg,hl,hid] using g3.mono fun p hp=>(by simp only[List.mem_cons];exact .inr hp)
   unfold mf;simpa[Sv.lg,hl] using g4
  refine yX 4 ?_
  refine yN fun r8=>?_
  refine yX 1 ?_
  obtain⟨L2,h6,hs3⟩:=hback (dM k.w q.c.root0 k.ro rp vd vu) rp ps pk Yd Yu (Kn q.s k.w.base q.T (aT data.length) data) q.T ((Y++M)++F)
  simp only[List.append_assoc]at hs3
  refine OS.sub (hs3.trans ar.tail) ?_
  refine yX 2 ?_
  exact⟨r8,20,rfl,.inr ⟨by decide,.inr (.inr (.inr ⟨hmay,hfr,hl,hf,hc1,hc2,rfl,X,Y++M,rp,ps,pk,vd,vu,cd,cu,Yd,Yu,h6,h1,h2,h3.mono fun p hp=>by simp[hp],h4,h5.mono fun p hp=>by simp[hp]⟩))⟩⟩
 rintro a' L3 ⟨r8,e,rfl,⟨rfl,hroom,v,hv⟩|⟨he,hpost⟩⟩
 rotate_left
 ·refine yX 2 ?_
  refine yI (jH he) ?_
  refine yV 1 ?_
  refine xC rfl ?_ ?_ <;> intro hc
  ·refine yX 5 ?_
   exact hpost
  cases hc
 refine yX 6 ?_
 obtain⟨rfl,rfl,hvf,X,M,T',rp,ps,pk,vd,vu,cd,cu,Yd,Yu,m8,hTl,htr,h1,h2,h3,h4,h5,hD⟩:=hv
 have hid:v.lg=true->v.id<=32768:=fun hl=>by
  rw[if_pos hl]at hD
  have h6:=(hD.val (v:=v) (by simp[bV])).2.2.2
  have h7:=hD.ok.len
  omega
 refine yX 3 ?_
 refine yA yH (uE (E:=if v.lg then [v] else []) htr hI.good rfl hI.act (uK hd) hD h1 (List.Perm.refl _) h2 h3 (by omega)) ?_
 rintro u L' ⟨Y2,ps2,vd2,cd2,Yd2,T2,Fr2,g1,g2,g3,g4,g5,g6,g7⟩
 refine yX 2 ?_
 have mo2:=g7.memG _ (.head _)
 have ms2:=g7.memG (k.rs,dM k.w q.c.root0 k.ro rp vd2 vu) (.tail _ (.head _))
 have m82:=g7.memG (r8,kH v.lg (if v.lg then v.id else 0:Nat) (if v.lg then [] else v.d)) (by simp[AL,bl,fm,m8])
 have hel:=Gk hid
 repeat refine xQ ?_
 refine LS.drawn noGo mixed [(0,false),(1,false),(2,false),(3,false),(4,false),(5,false),(6,true),(7,true),(8,false)] rfl rfl (by kernel_rfl) ?_
 refine yX 3 ?_
 refine xE rfl rfl (aa ms2 rfl rfl rfl rfl) rfl ?_
 refine yX 1 ?_
 refine xE rfl rfl (aa m82 rfl rfl rfl rfl) rfl ?_
 refine yO rfl yH (Ey (v:=v)) ?_
 rintro u L₁ ⟨rfl,e₁⟩
 subst e₁
 refine⟨_,rfl,ai.gone rfl (ai.cons rfl (aa ms2 rfl rfl rfl rfl) ai.nil),?_⟩
 refine yO rfl yH (HB g7 mo2 hI.good hcnt (by rw[cR];omega) hkl (by omega)) ?_
 rintro u L4 hput
 refine⟨_,rfl,(by repeat (first|exact ai.nil|refine ai.gone rfl ?_)),?_⟩
 rcases hput with ⟨hno,_⟩|⟨_,hlt,_⟩|⟨_,_,rfl,X2,m2,root2,hX2,htr2,hg2,hfew⟩
 ·exact absurd ⟨hmay.1,hmay.2.1,hel⟩ hno
 ·exact absurd hfr (by simp only at hlt;omega)
 refine yX 3 ?_
 have hp1:Fr2.Perm ((iN v q.S).filter Fl):=by
  have e1:=(zf hI.act.ss v.k).append_right (if v.lg then [v] else [])
  rw[List.append_assoc]at e1
  exact ((List.perm_append_left_iff _).1 (g5.symm.trans e1)).trans (J7 hI.act.ss hvf).symm
 rw[BT]at htr2 hg2 hfew
 rw[cR,←List.append_assoc]at htr2
 refine .inr (.inr (.inl ⟨hmay,hfr,hroom,rfl,⟨q.c,m2,root2,iN v q.S,q.O,sM q.S q.G v.k,if v.lg then q.U++[v.id] else q.U,mf q.s k.w.base q.T v.d,T2⟩,v,rfl,rfl,hvf,?_,?_,rfl,rfl,rfl,rfl,fun _=>hfew⟩))
 ·exact⟨X2,Y2++M,rp,ps2,pk,vd2,vu,cd2,cu,Yd2,Yu,htr2,by rw[←sF hp1];exact g1,g2,g3,h4,h5.mono fun p hp=>by simp[hp]⟩
 have hol:=fun j hj=>FU (j:=j) hI.dsk (fun hl=>(hroom hl).1) hj
 have hlo:=hI.dsk.ok.lo
 have hdom:=Hz htr
 refine⟨hI.act.put hvf ⟨hmay.1,hmay.2.1,hmay.2.2⟩,hg2,hI.good0,hI.cnt0,g4.perm ((hp1.map _).append_left _),?_,hI.base,?_,?_,?_,fun p hp=>?_,?_,?_,?_,hb1⟩
 ·rw[wD];exact hI.n
 ·rw[wD];show _+T2.length=_;rw[g6,hTl];exact hI.tl
 ·rw[hol 1 (by omega)];exact hI.idle
 ·rw[hol 0 (by omega),wD];exact hI.hd
 ·rw[hol (122+p) (by have:=hdom p hp;have:=hI.base;omega)];exact hI.img p hp
 ·have:=Fb v q.S;show (iN v q.S).length<=_;omega
 ·have:=hI.ol;show q.O.length<=_;omega
 show (if v.lg then q.U++[v.id] else q.U).length<=_
 split
 ·simp;omega
 omega
end
section
variable{k:Kf}{q:Qs}{F L:RL}{b:Nat}
set_option maxHeartbeats 2000000 in
theorem HO {key:Tx}(h:mi k q F L)(hI:oL k q b)(hd:q.s.dead=false) :
  CS Tryz.prog 15 [ptr k.rs,bb key] L fun u L'=>u=.int .i64 (if (eI q.S key).isSome then 0 else 5)/\∃ q',mi k q' F L'/\oL k q' b/\q'.S=iS key q.S/\q'.O=q.O/\q'.c=q.c/\q'.s=q.s/\(q.fw->q'.fw):=by
 have hcnt:=hI.len
 have hgl:=hI.gl
 have hsl:=hI.sl
 have hbb:=hI.b
 refine yF Tryz.f15 ?_
 refine yX 5 ?_
 refine yA yH h.refusal ?_
 rintro u L₁ ⟨rfl,e₁⟩
 subst e₁
 rw[hd]
 refine yX 9 ?_
 obtain⟨X,M,rp,ps,pk,vd,vu,cd,cu,Yd,Yu,htr,h1,h2,h3,h4,h5⟩:=h
 refine yX 3 ?_
 refine yA yH (uE (E:=[]) htr hI.good rfl hI.act hd hI.dsk h1 (by simp) h2 h3 (by omega)) ?_
 rintro u L' ⟨Y2,ps2,vd2,cd2,Yd2,T2,Fr2,g1,g2,g3,g4,g5,g6,g7⟩
 refine yX 2 ?_
 have mo2:=g7.memG _ (.head _)
 have ms2:=g7.memG (k.rs,dM k.w q.c.root0 k.ro rp vd2 vu) (.tail _ (.head _))
 have hp1:Fr2.Perm ((iS key q.S).filter Fl):=(List.perm_append_left_iff _).1 (g5.symm.trans (zf hI.act.ss key))
 have htl:=hI.tl
 have hdl:=GN key q.S
 rw[←List.append_assoc]at g7
 refine yX 4 ?_
 refine yR (aa ms2 rfl rfl rfl rfl) ?_
 refine yX 1 ?_
 refine yA yH (HE (key:=key) g7 mo2 hI.good hcnt (by rw[cR];omega)) ?_
 rintro u L4 hdel
 rcases hdel with ⟨hn,rfl,rfl⟩|⟨hn,rfl,X2,m2,root2,hX2,htr2,hg2,hfew⟩
 ·have hgs:eI q.S key=none:=by
   rw[qm]at hn
   cases hh:eI q.S key with
   | none=>rfl
   | some x=>rw[hh]at hn;cases hn
  refine yX 4 ?_
  rw[oy hgs]at hp1 ⊢
  have hgo:sM q.S q.G key=q.G:=by unfold sM;rw[hgs]
  rw[hgo]at g2 g3
  refine⟨by rw[hgs];rfl,⟨q.c,q.m,q.root,q.S,q.O,q.G,q.U,q.s,T2⟩,⟨X,Y2++M,rp,ps2,pk,vd2,vu,cd2,cu,Yd2,Yu,g7,by rw[←sF hp1];exact g1,g2,g3,h4,h5.mono fun p hp=>by simp[hp]⟩,⟨hI.act,hI.good,hI.good0,hI.cnt0,g4.perm ((hp1.map _).append_left _),hI.n,hI.base,?_,hI.idle,hI.hd,hI.img,hI.sl,hI.ol,hI.ul,hI.b⟩,rfl,rfl,rfl,rfl,id⟩
  show _+T2.length=_
  rw[g6];exact htl
 have hgs:(eI q.S key).isSome=true:=by
  rw[qm]at hn
  cases hh:eI q.S key with
  | none=>rw[hh]at hn;exact absurd rfl hn
  | some x=>rfl
 rw[H4]at htr2 hg2 hfew
 rw[cR]at htr2
 refine yX 4 ?_
 refine⟨by rw[if_pos hgs];rfl,⟨q.c,m2,root2,iS key q.S,q.O,sM q.S q.G key,q.U,q.s,T2⟩,⟨X2,Y2++M,rp,ps2,pk,vd2,vu,cd2,cu,Yd2,Yu,htr2,by rw[←sF hp1];exact g1,g2,g3,h4,h5.mono fun p hp=>by simp[hp]⟩,⟨hI.act.del key,hg2,hI.good0,hI.cnt0,g4.perm ((hp1.map _).append_left _),hI.n,hI.base,?_,hI.idle,hI.hd,hI.img,?_,hI.ol,hI.ul,hI.b⟩,rfl,rfl,rfl,rfl,fun _=>hfew⟩
 ·show _+T2.length=_
  rw[g6];exact htl
 show (iS key q.S).length<=_;omega
theorem ET(h:mi k q F L)(hI:oL k q b)(hd:q.s.dead=false) :
  CS Tryz.prog 19 [ptr k.rs] L fun u L'=>u=.int .i64 0/\∃ q',mi k q' F L'/\oL k q' b/\q'.S=q.O/\q'.O=q.O/\q'.s=q.s/\q'.m=q.c.m0/\q'.root=q.c.root0/\q'.c.N=q.c.N/\q'.c.m0=q.c.m0/\q'.c.root0=q.c.root0:=by
 have hul:=hI.ul
 have hbb:=hI.b
 obtain⟨rp0,vd0,vu0,ms,_,_,_,_⟩:=h.mem
 refine yF Tryz.f19 ?_
 refine yX 5 ?_
 refine yA yH h.refusal ?_
 rintro u L₁ ⟨rfl,e₁⟩
 subst e₁
 rw[hd]
 refine yX 9 ?_
 obtain⟨X,M,rp,ps,pk,vd,vu,cd,cu,Yd,Yu,htr,h1,h2,h3,h4,h5⟩:=h
 refine yX 4 ?_
 refine yR (aa ms rfl rfl rfl rfl) ?_
 refine yA yH (EG htr (List.mem_cons_self ..)) ?_
 rintro u L' ⟨w',rfl,htr2⟩
 refine yX 2 ?_
 have ms2:=htr2.memG (k.rs,dM k.w q.c.root0 k.ro rp vd vu) (.tail _ (.head _))
 obtain⟨R,hs2,hXR,hback⟩:=TR.ask (g:=(k.ro,bO q.c.rt)) [] htr2
 rw[List.append_assoc]at hs2
 refine yX 6 ?_
 refine yR (aa ms2 rfl rfl rfl rfl) ?_
 refine OS.sub hs2 ?_
 refine yA yH (ID h4 (h5.mono fun p hp=>by simp[hp]) (by omega) hd hI.dsk h1 fun v hv=>hI.act.und v (List.mem_filter.1 hv).1 (List.mem_filter.1 hv).2) ?_
 rintro u L' ⟨T',rp',hTl,hD,rfl⟩
 obtain⟨L2,h6,hs3⟩:=hback (dM k.w q.c.root0 k.ro rp' (.slice none 0 0) (.slice none 0 0)) rp' [] 0 [] [] q.s T' (M++F)
 rw[List.append_assoc]at hs3
 have hof:q.O.filter Fl=[]:=List.filter_eq_nil_iff.2 fun v hv=>by simp[Fl,hI.act.of v hv]
 refine yX 1 ?_
 refine OS.sub hs3 ?_
 refine yX 5 ?_
 refine⟨rfl,⟨⟨q.c.rf,q.c.rb,q.c.rt,q.c.rn,w',q.c.N,q.c.root0,q.c.cnt0,q.c.m0⟩,q.c.m0,q.c.root0,q.O,q.O,[],[],q.s,T'⟩,⟨X,M,rp',[],0,.slice none 0 0,.slice none 0 0,[],[],[],[],?_,?_,.inl ⟨rfl,rfl,rfl,rfl⟩,⟨rfl,fun i v h=>by simp at h⟩,.inl ⟨rfl,rfl,rfl,rfl⟩,⟨rfl,fun i v h=>by simp at h⟩⟩,⟨hI.act.back,hI.good0,hI.good0,hI.cnt0,?_,hI.n,hI.base,?_,hI.idle,hI.hd,hI.img,hI.ol,hI.ol,Nat.zero_le _,hI.b⟩,rfl,rfl,rfl,rfl,rfl,rfl,rfl,rfl⟩
 ·show TR _ _ _ ⟨q.c.m0,q.c.root0,((q.O.length:Nat):Int)⟩ L2
  rw[←hI.cnt0];exact h6
 ·show MP [] 0 (lr (q.O.filter Fl))
  rw[hof,wJ];exact MP.new
 ·show ii _ _ _ (_++bV (q.O.filter Fl))
  rw[hof];simpa[bV] using hD
 show _+T'.length=_
 rw[hTl];exact hI.tl
def E0(fr to:Tx)(S:List Sv):List Tx:=(eR fr to (jX S)).map (·.1)
theorem JM(P:List Pr):wi P=pw (P.map fun p=>(bb p.1,bb p.2)):=by unfold wi pw;rw[List.flatMap_map]
theorem BU {P:List Pr}{i:Nat}{p:Pr}(h:P[i]?=some p):cut (wi P) (i*2) 2=some [bb p.1,bb p.2]:=by
 rw[JM]
 exact pd (p:=(bb p.1,bb p.2)) (by rw[List.getElem?_map,h];rfl)
variable{fr:Tx}
set_option maxHeartbeats 2000000 in
theorem ES {to:Tx}(h:mi k q F L)(hI:oL k q b) :
  CS Tryz.prog 23 [ptr k.rs,bb fr,bb to] L fun u L'=>∃ Y,L'=Y++L/\GV 9 1 [] u (E0 fr to q.S).length (tx (E0 fr to q.S)) Y:=by
 have hcnt:=hI.len
 have hsl:=hI.sl
 have hbb:=hI.b
 obtain⟨rp,vd,vu,ms,_,_,mo,_⟩:=h.mem
 obtain⟨X,M,rp',ps,pk,vd',vu',cd,cu,Yd,Yu,htr,h1,h2,h3,h4,h5⟩:=h
 obtain⟨P,hP⟩:∃ P,P=eR fr to (jX q.S):=⟨_,rfl⟩
 have hPl:P.length<=100000:=by
  have:=List.length_filter_le (KJ fr to) (jX q.S)
  rw[hP,cR]at *
  unfold eR
  omega
 unfold E0
 rw[←hP]
 suffices g:CS Tryz.prog 23 [ptr k.rs,bb fr,bb to] L fun u L'=>∃ Y Z,L'=Z++(Y++L)/\GV 9 1 [] u (P.map (·.1)).length (tx (P.map (·.1))) Y by
  exact g.less fun u L' ⟨Y,Z,h1,h2⟩=>⟨_,by rw[h1];exact ar.suffix,Y,rfl,h2⟩
 refine yF Tryz.f23 ?_
 refine yX 5 ?_
 refine yA yH (nC ms) ?_
 rintro u L₁ ⟨rfl,e₁⟩
 subst e₁
 refine yX 11 ?_
 refine yR (aa ms rfl rfl rfl rfl) ?_
 refine yX 2 ?_
 refine yA yH (uc htr mo hI.good hcnt (by rw[cR];omega)) ?_
 rintro u L' ⟨Y0,rfl,g0⟩
 rw[←hP]at g0
 refine yX 1 ?_
 refine yP (az (show SV 2 (Y0++L₁) u P.length (wi P) from g0.sv.mono fun p hp=>List.mem_append_left _ hp) rfl rfl rfl rfl rfl) ?_
 refine yX 3 ?_
 refine LS.loopJ [7,18,19,20] (fun z a L'=>∃ (i:Nat) (v:Value) (Y Z:RL),z=P.length-i/\i<=P.length/\L'=Y++(Z++(Y0++L₁))/\GV 9 1 [] v ((P.take i).map (·.1)).length (tx ((P.take i).map (·.1))) Y/\a=[yC,yC,yC,yC,yC,yC,yC,v,yC,yC,yC,yC,yC,yC,yC,yC,yC,yC,u,.int .i64 (P.length:Nat),.int .i64 (i:Nat),yC,yC,yC,yC,yC,yC,yC,yC,yC,yC]) (n:=P.length) rfl ⟨0,.slice none 0 0,[],[],rfl,Nat.zero_le _,rfl,.inl ⟨rfl,rfl,rfl,rfl⟩,rfl⟩ ?_
 rintro z a L' ⟨i,v,Y,Z,rfl,hi,rfl,gv,rfl⟩
 have hsv:SV 2 (Y++(Z++(Y0++L₁))) u P.length (wi P):=g0.sv.mono fun p hp=>by simp[hp]
 by_cases hin:i<P.length
 ·have hb:(!av ((P.length:Nat):Int) ((i:Nat):Int))=true:=by rw[am,decide_eq_false (by omega)];rfl
  have hp1:=BU (List.getElem?_eq_getElem hin)
  have htl:((P.take i).map (·.1)).length=i:=by simp;omega
  rw[htl]at gv
  refine yX 1 ?_
  refine yI hb ?_
  refine yV 1 ?_
  refine xC rfl ?_ ?_ <;> intro hc
  ·refine yX 3 ?_
   refine OS.at (j:=i) hsv hin rfl rfl rfl rfl rfl rfl (fun ra oa rowa csa ma ca ga ka=>⟨_,rfl,?_⟩)
   refine yR (aa ma ca rfl rfl (dW rfl rfl (ka _ hp1))) ?_
   refine yN fun r9=>?_
   refine yX 6 ?_
   refine yN fun rb=>?_
   refine OS.turns rfl (bH [_,_] (Z++(Y0++L₁)) (e:=9) (sz:=1) (bts:=16) (m:=1) (new:=[bb P[i].1]) gv (SV.row (sz:=1) (n:=1) (List.mem_cons_self ..) rfl) rfl rfl rfl rfl (by omega) (by omega)) (fun u' L₂ hR=>?_)
   obtain⟨Y',gv',rfl⟩:=hR
   refine yX 4 ?_
   refine yP (aW (n:=1) rfl rfl rfl (ak (by omega) (by omega))) ?_
   refine yX 2 ?_
   refine⟨P.length-(i+1),by omega,i+1,u',Y',_::_::Z,rfl,by omega,rfl,?_,rfl⟩
   rw[List.take_succ_eq_append_getElem hin,List.map_append]
   rw[show ((List.take i P).map (·.1)++[P[i]].map (·.1)).length=i+1 by rw[List.length_append,htl];rfl]
   rw[show tx ((List.take i P).map (·.1)++[P[i]].map (·.1))=tx ((List.take i P).map (·.1))++[bb P[i].1] by simp[tx]]
   exact gv'
  cases hc
 have hb:(!av ((P.length:Nat):Int) ((i:Nat):Int))=false:=by rw[am,decide_eq_true (by omega)];rfl
 rw[List.take_of_length_le (by omega)]at gv
 refine yX 1 ?_
 refine yI hb ?_
 refine yX 2 ?_
 refine LS.exit ?_
 refine LS.sub (ar.sums (A:=(Z++Y0)++(Y++L₁)) fun f=>by simp only[List.map_append,List.sum_append];omega) ?_
 refine yX 5 ?_
 exact⟨Y,Z++Y0,rfl,gv⟩
end
variable{F:RL}{rd rb:Nat}
set_option maxHeartbeats 1000000 in
theorem Ip {s:Dk}{l:Value}{n:Nat}{gs:List Gw}(hl:SV 2 F l n (eF gs))(hd:jc F gs)(h256:∀ g∈gs,g.d.length<=1000000)(hn:n<=120)(hs:s.ok)(hw:s.wr<=900000) :
  CS Tryz.prog 107 [ptr rd,l] (dk rd rb s F) fun v L'=>v=.int .i64 (cr s (eS (bd gs))).1/\L'=dk rd rb (cr s (eS (bd gs))).2 F:=by
 have hlen:=sH hl
 have hbl:(bd gs).length=n:=by rw[lI];exact hlen
 refine yF Tryz.f107 ?_
 refine yX 5 ?_
 refine yP (az hl rfl rfl rfl rfl rfl) ?_
 refine yX 3 ?_
 refine LS.loopJ [0,1,8,9,10] (fun q a L'=>∃ (i:Nat) (t:Dk),q=n-i/\i<=n/\t.ok/\t.wr<=s.wr+i/\cr s (eS (bd gs))=cr t ((eS (bd gs)).drop i)/\L'=dk rd rb t F /\
  a=[ptr rd,l,yC,yC,yC,yC,yC,yC,l,.int .i64 (n:Nat),.int .i64 (i:Nat),yC,yC,yC,yC,yC,yC,yC,yC,yC,yC,yC,yC,yC,yC,yC,yC,yC,yC]) (n:=n) rfl ⟨0,s,rfl,by omega,hs,by omega,rfl,rfl,rfl⟩ ?_
 rintro q a L' ⟨i,t,rfl,hi,ht,htw,hrun,rfl,rfl⟩
 refine yV 3 ?_
 refine xC rfl ?_ ?_ <;> intro hc
 ·have hc:(i:Int)<n:=cg hc
  have hin:i<n:=by omega
  have hg:gs[i]?=some gs[i]:=List.getElem?_eq_getElem (by omega)
  have hmem:gs[i]∈gs:=List.getElem_mem (by omega)
  generalize gs[i]=g at hg hmem
  obtain⟨m,hgv⟩:=hd g hmem
  obtain⟨hok,hno⟩:=jB (wC (tz hg)) hrun
  have htok:=vB (i:=((2+i:Nat):Int)) (bs:=g.d) ht (by omega)
  have hwr:=vA (s:=t) (i:=((2+i:Nat):Int)) (bs:=g.d)
  refine yX 4 ?_
  refine OS.at (j:=i) hl.cons.cons hin rfl rfl rfl rfl rfl rfl (fun r0 o0 row0 cs0 m0 c0 g0 k0=>?_)
  refine yX 1 ?_
  refine yR (aa m0 c0 rfl rfl (dW rfl rfl (k0 _ (pd (sK hg))))) ?_
  refine yN fun rw=>?_
  refine yX 1 ?_
  refine yW (ax 0 rfl rfl rfl rfl rfl (nN hgv) rfl rfl) ?_
  refine yX 4 ?_
  refine yP (cW (a8 (k:=.i64) (m:=2) (n:=((i:Nat):Int)) rfl rfl rfl (ak (by omega) (by omega))) (congrArg (Value.int .i64) (show (2:Int)+((i:Nat):Int)=((2+i:Nat):Int) by omega))) ?_
  refine yX 2 ?_
  refine OS.sub (ar.pulls [2,2] rfl) ?_
  refine yA yH (jT ht ((2+i:Nat):Int) hgv.cons) ?_
  rintro v L' ⟨rfl,rfl⟩
  refine yX 3 ?_
  simp only at hok hno
  by_cases h0:(kP t ((2+i:Nat):Int) g.d).1=0
  ·rw[h0]
   refine yX 7 ?_
   refine OS.sub (ar.drop 2 rfl) ?_
   refine yP (a8 rfl rfl rfl (ak (by omega) (by omega))) ?_
   refine yX 2 ?_
   exact⟨n-(i+1),by omega,i+1,_,rfl,by omega,htok,by omega,hok h0,rfl,rfl⟩
  rw[hno h0]
  refine yX 2 ?_
  refine yI (jH h0) ?_
  refine yX 3 ?_
  refine OS.sub (ar.drop 2 rfl) ?_
  refine yX 4 ?_
  exact⟨rfl,rfl⟩
 have hc:(n:Int)<=i:=bz hc
 have hin:i=n:=by omega
 subst hin
 obtain⟨hok,hno⟩:=jB (w:=(1,gq (bd gs))) (by rw[←hbl];exact Dt) hrun
 have hfin:cr s (eS (bd gs))=kP t 1 (gq (bd gs)):=by
  by_cases h0:(kP t 1 (gq (bd gs))).1=0
  ·rw[hok h0,ve (by rw[ll,hbl])]
   show (0,_)=_
   rw[←h0]
  exact hno h0
 rw[hfin]
 refine LS.exit ?_
 refine yX 3 ?_
 refine yA yH (uQ hl.cons.cons (hd.mono (fun p hp=>List.mem_cons_of_mem _ (List.mem_cons_of_mem _ hp))) h256 hn) ?_
 rintro v L' ⟨rz,rfl,rfl⟩
 refine yX 1 ?_
 refine OS.sub (ar.pulls [2,2] rfl) ?_
 refine yA yH (jT ht 1 (SV.row (List.mem_cons_self ..) (by rw[ao,pB]))) ?_
 rintro v L' ⟨rfl,rfl⟩
 refine yX 2 ?_
 refine OS.sub (ar.drop 2 rfl) ?_
 refine yX 2 ?_
 exact⟨rfl,rfl⟩
noncomputable def IH(s:Dk)(ps:List (Int×List UInt8)):Int×Dk :=
 open Classical in
 if s.dead=true then (20,s) else if 120<ps.length then (3,s) else if fc s.n ps then (if ps=[] then (0,s) else cr s (qE ps)) else (1,s)
variable{rj:Nat}
set_option maxHeartbeats 1000000 in
theorem JY {s:Dk}{l:Value}{n:Nat}{gs:List Gw}(hs:s.ok)(hw:s.wr<=800000)(hl:SV 2 F l n (eF gs))(hd:jc F gs):CS Tryz.prog 65 [ptr rj,l] (jn rj rd rb s F) fun v L'=>v=.int .i64 (IH s (bd gs)).1/\L'=jn rj rd rb (IH s (bd gs)).2 F:=by
 have hlen:=sH hl
 have hbl:(bd gs).length=n:=by rw[lI];exact hlen
 unfold IH
 cases hdd:s.dead with
 | true =>
  rw[if_pos rfl]
  refine yF Tryz.f65 ?_
  refine yX 5 ?_
  refine yA yH fl ?_
  rintro v L' ⟨rfl,rfl⟩
  rw[hdd]
  refine yX 13 ?_
  exact⟨rfl,rfl⟩
 | false =>
 rw[if_neg (show ¬ (false=true) by decide)]
 refine yF Tryz.f65 ?_
 refine yX 5 ?_
 refine yA yH fl ?_
 rintro v L' ⟨rfl,rfl⟩
 rw[hdd]
 refine yX 9 ?_
 by_cases hn:120<n
 ·rw[if_pos (by omega)]
  refine yX 6 ?_
  refine yA yH (AY hl.cons.cons.cons hn) ?_
  rintro v L' ⟨rfl,rfl⟩
  refine yX 18 ?_
  exact⟨rfl,rfl⟩
 rw[if_neg (by omega)]
 refine yX 6 ?_
 refine OS.sub (ar.pulls [2,2] rfl) ?_
 refine yA yH (zm hl.cons (hd.mono (fun p hp=>List.mem_cons_of_mem _ hp)) (by omega)) ?_
 rintro v L' ⟨hv,rfl⟩
 rcases hv with ⟨rfl,hgood⟩|⟨rfl,hbad⟩
 ·rw[if_pos hgood]
  have h256:=F9 hgood
  by_cases h0:n=0
  ·have hps:bd gs=[]:=List.eq_nil_of_length_eq_zero (by omega)
   have hq:bc ((n:Nat):Int) 0=true:=by rw[aC,h0];rfl
   rw[if_pos hps]
   refine yX 1 ?_
   refine OS.sub (ar.pulls [2] rfl) ?_
   refine yX 7 ?_
   refine yP (az hl rfl rfl rfl rfl rfl) ?_
   refine yI hq ?_
   refine yX 8 ?_
   exact⟨rfl,rfl⟩
  have hps:¬ bd gs=[]:=fun h=>h0 (by rw[←hbl,h];rfl)
  have hq:bc ((n:Nat):Int) 0=false:=by rw[aC];simpa using h0
  rw[if_neg hps]
  obtain⟨ok1,wr1,n1⟩:=BM (n:=0) (ws:=eS (bd gs)) hs (by rw[ll];omega)
  rw[ll]at wr1
  have happ:cr s (qE (bd gs))=if (cr s (eS (bd gs))).1=0 then cr (cr s (eS (bd gs))).2 (gW (bd gs)) else cr s (eS (bd gs)):=pZ
  rw[happ]
  refine yX 8 ?_
  refine yP (az hl rfl rfl rfl rfl rfl) ?_
  refine yI hq ?_
  refine yX 10 ?_
  refine yA yH (Ip hl.cons (hd.mono (fun p hp=>List.mem_cons_of_mem _ hp)) h256 (by omega) hs (by omega)) ?_
  rintro v L' ⟨rfl,rfl⟩
  refine yX 3 ?_
  by_cases he:(cr s (eS (bd gs))).1=0
  ·rw[if_pos he]
   rw[he]
   refine yX 12 ?_
   refine yA yH (DJ hl.cons (hd.mono (fun p hp=>List.mem_cons_of_mem _ hp)) h256 (by omega) ok1 (by omega)) ?_
   rintro v L' ⟨rfl,rfl⟩
   refine yX 1 ?_
   refine OS.sub (ar.pulls [2] rfl) ?_
   refine yX 3 ?_
   exact⟨rfl,rfl⟩
  rw[if_neg he]
  refine yX 2 ?_
  refine yI (jH he) ?_
  refine yX 3 ?_
  refine OS.sub (ar.pulls [2] rfl) ?_
  refine yX 4 ?_
  exact⟨rfl,rfl⟩
 rw[if_neg hbad]
 refine yX 1 ?_
 refine OS.sub (ar.pulls [2] rfl) ?_
 refine yX 17 ?_
 exact⟨rfl,rfl⟩
theorem GJ {s:Dk}{ps:List (Int×List UInt8)}(hd:s.dead=false)(hg:fc s.n ps)(hl:ps.length<=120)(h0:ps≠[]):IH s ps=cr s (qE ps):=by
 unfold IH
 rw[if_neg (by simp[hd]),if_neg (by omega),if_pos hg,if_neg h0]
theorem DT {s:Dk}(hd:s.dead=false):IH s []=(0,s):=by
 unfold IH
 rw[if_neg (by simp[hd]),if_neg (by simp),if_pos ⟨fun p hp=>(by cases hp),.nil⟩,if_pos rfl]
def mS(l:List (Nat×Tx)):List (Int×Tx):=l.map fun p=>(((122+p.1:Nat):Int),p.2)
def Em(n:Nat)(root root0:Int):List (Int×Tx):=if root=root0 then [] else [(0,kh n root)]
def Bc(q:Qs)(ks:List Nat):List (Int×Tx):=mS (aZ q.m ks)++Em q.s.n q.root q.c.root0
structure LK(k:Kf)(q:Qs)(ps:List (Int×Tx)):Prop where
 good:fc q.s.n ps
 len:ps.length<=120
 low:∀ p∈ps,p.1<(k.w.base:Int)
 new:∀ D:Tx,(∀ (j:Nat) d,((j:Int),d)∈ps->dh D j=d)->(∀ j:Nat,cF q.s.n j->(j:Int) ∉ ps.map (·.1)->dh D j=dh q.s.D j)->fh (dh D 0) q.s.n=(q.root,true)/\∀ p,q.m p≠none->eU (dh D (122+p))=q.m p
theorem wM {l:List (Nat×Tx)}{z:Int}(h:z∈(mS l).map (·.1)):∃ p∈l,z=((122+p.1:Nat):Int):=by
 simp only[mS,List.map_map,List.mem_map,Function.comp]at h
 obtain⟨p,hp,rfl⟩:=h
 exact⟨p,hp,rfl⟩
variable{root0:Int}
theorem wK {root:Int}{p:Int×Tx}(h:p∈Em n root root0):p=(0,kh n root)/\root≠root0:=by
 unfold Em at h
 split at h
 ·cases h
 rename_i hne;exact⟨by simpa using h,hne⟩
theorem I1 {k:Kf}{q:Qs}{b:Nat}{ks:List Nat}(hI:oL k q b)(hdom:∀ p,q.m p≠none->p<q.c.N)(hks:tJ q.m q.c.m0 ks)(hl:(aZ q.m ks).length<=119):LK k q (Bc q ks):=by
 have hn:=hI.n
 have hbase:=hI.base
 have htl:=hI.tl
 obtain⟨h1,h2,h3,h4,h5⟩:=hI.dsk.ok.ok
 have hfit:=hI.good.fits
 have hroot:=hI.good.root
 have hrt:-1<=q.root/\q.root<=32767:=by
  by_cases hP:jX q.S=[]
  ·have:=hroot.1 hP;omega
  obtain⟨n,e1,e2⟩:=hroot.2 hP
  have:=hdom n e2
  omega
 have hmem:∀ p∈aZ q.m ks,p.1∈ks/\p.1<q.c.N/\p.2.length=256:=fun p hp=>by
  obtain⟨e1,n,e2,e3⟩:=pF hp
  exact⟨e1,hdom _ (by rw[e2];simp),by rw[e3];exact qB (hfit _ _ e2)⟩
 refine⟨⟨fun p hp=>?_,?_⟩,?_,fun p hp=>?_,fun D hD1 hD2=>⟨?_,fun p hp=>?_⟩⟩
 ·rcases List.mem_append.1 hp with hp|hp
  ·obtain⟨x,hx,rfl⟩:=List.mem_map.1 hp
   obtain⟨_,e1,e2⟩:=hmem x hx
   exact⟨.inr ⟨by simp only;omega,by simp only;omega⟩,e2⟩
  obtain⟨rfl,_⟩:=wK hp
  exact⟨.inl rfl,sG _ _⟩
 ·unfold Bc
  rw[List.map_append,List.nodup_append]
  refine⟨?_,?_,fun x hx y hy he=>?_⟩
  ·rw[List.nodup_iff_pairwise_ne]
   simp only[mS,List.map_map,List.pairwise_map]
   refine (vh hks.1).imp fun {a b} hab=>?_
   simp only[Function.comp]
   omega
  ·unfold Em;split <;> simp
  obtain⟨p,_,rfl⟩:=wM hx
  obtain⟨z,hz,rfl⟩:=List.mem_map.1 hy
  obtain⟨rfl,_⟩:=wK hz
  simp only at he
  omega
 ·have:(Em q.s.n q.root q.c.root0).length<=1:=by unfold Em;split <;> simp
  unfold Bc
  rw[List.length_append]
  have h6:(mS (aZ q.m ks)).length=(aZ q.m ks).length:=by simp[mS]
  omega
 ·rcases List.mem_append.1 hp with hp|hp
  ·obtain⟨x,hx,rfl⟩:=List.mem_map.1 hp
   have:=(hmem x hx).2.1
   simp only;omega
  obtain⟨rfl,_⟩:=wK hp
  simp only;omega
 ·by_cases hr:q.root=q.c.root0
  ·rw[hD2 0 (.inl rfl) (fun hh=>?_),hr]
   ·exact hI.hd
   unfold Bc Em at hh
   rw[if_pos hr,List.append_nil]at hh
   obtain⟨p,_,he⟩:=wM hh
   omega
  rw[hD1 0 (kh q.s.n q.root) (List.mem_append_right _ (by unfold Em;rw[if_neg hr];simp))]
  exact EX hrt.1 hrt.2 h3
 have hpN:=hdom p hp
 cases hm:q.m p with
 | none=>exact absurd hm hp
 | some n =>
  by_cases hsame:q.m p=q.c.m0 p
  ·rw[hD2 (122+p) (.inr ⟨by omega,by omega⟩) (fun hh=>?_),hI.img p (by rw[←hsame];exact hp),←hsame,hm]
   unfold Bc at hh
   rw[List.map_append]at hh
   rcases List.mem_append.1 hh with hh|hh
   ·obtain⟨x,hx,he⟩:=wM hh
    have e:x.1=p:=by omega
    exact (hks.2 p).1 (e▸(hmem x hx).1) hsame
   obtain⟨z,hz,he⟩:=List.mem_map.1 hh
   obtain⟨rfl,_⟩:=wK hz
   simp only at he
   omega
  have:(p,iR n)∈aZ q.m ks:=List.mem_filterMap.2 ⟨p,(hks.2 p).2 hsame,by rw[hm];rfl⟩
  rw[hD1 (122+p) (iR n) (List.mem_append_left _ (List.mem_map.2 ⟨_,this,rfl⟩))]
  exact IK (hfit _ _ hm)
variable{cs:List Value}
theorem La {o:Nat}{a b:Value}(h0:cs[o]?=some a)(h1:cs[o+1]?=some b):cut cs o 2=some [a,b]:=by
 obtain⟨l1,e1⟩:=List.getElem?_eq_some_iff.1 h1
 obtain⟨l0,e0⟩:=List.getElem?_eq_some_iff.1 h0
 rw[eV (by omega),List.drop_eq_getElem_cons l0,List.drop_eq_getElem_cons l1,e0,e1]
 rfl
variable{L:RL}{ro:Nat}{cnt0:Int}
theorem JE {root cnt:Int}(ho:(ro,bO c.rt)∈L)(ht:(c.rt,bS c.rf c.rn c.rw root cnt root0 cnt0)∈L):CS Tryz.prog 67 [ptr ro] L fun u L'=>u=.int .i64 root/\L'=L:=by
 refine yF Tryz.f67 ?_
 refine yX 5 ?_
 refine yA yH (fE ho) ?_
 rintro u L₁ ⟨rfl,e₁⟩
 subst e₁
 refine yX 8 ?_
 refine yR (aa ho rfl rfl rfl rfl) ?_
 refine yX 3 ?_
 refine yR (aa ht rfl rfl rfl rfl) ?_
 refine yX 3 ?_
 exact⟨rfl,rfl⟩
variable{gs:List Gw}
theorem p9 {g:Gw}:eF (gs++[g])=eF gs++[.int .i64 g.b,g.v]:=by simp[eF,gp,pw]
theorem CG {g:Gw}:bd (gs++[g])=bd gs++[(g.b,g.d)]:=by simp[bd]
theorem F7 {l:List (Nat×Tx)}{i:Nat}{p:Nat×Tx}(h:l[i]?=some p):mS (l.take (i+1))=mS (l.take i)++[(((122+p.1:Nat):Int),p.2)]:=by
 obtain⟨h1,h2⟩:=List.getElem?_eq_some_iff.1 h
 subst h2
 unfold mS
 rw[List.take_succ_eq_append_getElem h1,List.map_append]
 rfl
set_option maxHeartbeats 4000000 in
theorem F8 {D:RL}{rs rj rd rb ro rm rD rp:Nat}{root0 root cnt cnt0' root0':Int}{vd vu pv:Value}{s:Dk}{cs:List Value}{l:List (Nat×Tx)}(hs:(rs,BC rj root0 ro rm rD rp vd vu)∈L)(ho:(ro,bO c.rt)∈L)(ht:(c.rt,bS c.rf c.rn c.rw root cnt root0' cnt0')∈L)(hj:(rj,.cells 134 [ptr rd])∈L)(hd:(rd,ov rb s)∈L)(hroot:-10<=root/\root<=1000000)
  (hp:SV 2 L pv l.length cs) (hP:nf D cs l) (hn:∀ p∈l,p.1<=100000/\p.2.length=256) (hl:l.length<=100000) :
  CS Tryz.prog 66 [ptr rs,pv] L fun u L'=>∃ Y Z gs,L'=Y++(Z++L)/\GV 165 2 [] u gs.length (eF gs) Y/\jc (Z++D) gs/\bd gs=mS l++Em s.n root root0:=by
 refine yF Tryz.f66 ?_
 refine yX 8 ?_
 refine yP (az hp rfl rfl rfl rfl rfl) ?_
 refine yV 2 ?_
 refine LS.mid [0,5] (fun a' L'=>∃ v Y Z gs,L'=Y++(Z++L)/\GV 165 2 [] v gs.length (eF gs) Y/\jc (Z++D) gs/\bd gs=mS l/\a'=[ptr rs,yC,yC,yC,yC,v,yC,yC,yC,yC,yC,yC,yC,yC,yC,yC,yC,yC,yC,yC,yC,yC,yC,yC,yC,yC,yC,yC,yC,yC,yC,yC,yC,yC,yC,yC,yC,yC,yC,yC,yC,yC,yC,yC,yC,yC,yC,yC,yC]) ?_ ?_
 ·refine yX 1 ?_
  refine LS.loopJ [0,5,9,10,11] (fun z a L'=>∃ (i:Nat) (v:Value) (Y Z:RL) (gs:List Gw),z=l.length-i/\i<=l.length/\L'=Y++(Z++L)/\GV 165 2 [] v gs.length (eF gs) Y/\jc (Z++D) gs/\bd gs=mS (l.take i)/\a=[ptr rs,yC,yC,yC,yC,v,yC,yC,yC,pv,.int .i64 (l.length:Nat),.int .i64 (i:Nat),yC,yC,yC,yC,yC,yC,yC,yC,yC,yC,yC,yC,yC,yC,yC,yC,yC,yC,yC,yC,yC,yC,yC,yC,yC,yC,yC,yC,yC,yC,yC,yC,yC,yC,yC,yC,yC]) (n:=l.length) rfl ⟨0,.slice none 0 0,[],[],[],rfl,Nat.zero_le _,rfl,.inl ⟨rfl,rfl,rfl,rfl⟩,(fun x hx=>by cases hx),rfl,rfl⟩ ?_
  rintro z a L' ⟨i,v,Y,Z,gs,rfl,hi,rfl,gv,hr,hbd,rfl⟩
  have hpv:SV 2 (Y++(Z++L)) pv l.length cs:=hp.mono fun p hp=>by simp[hp]
  by_cases hin:i<l.length
  ·have hb:(!av ((l.length:Nat):Int) ((i:Nat):Int))=true:=by rw[am,decide_eq_false (by omega)];rfl
   obtain⟨x,hx⟩:∃ x,l[i]?=some x:=⟨_,List.getElem?_eq_getElem hin⟩
   obtain⟨hx1,hx2⟩:=hn x (List.mem_of_getElem? hx)
   obtain⟨dv,hc0,hc1,hdv⟩:=hP.2 i x hx
   have hcut:=La hc0 hc1
   have hgl:gs.length=i:=by
    have:=congrArg List.length hbd
    rw[lI]at this
    simp[mS]at this
    omega
   have hsl:∃ r1 o1 n1 c1,dv=.slice (some ⟨r1,o1,none⟩) n1 c1:=by
    rcases bC hdv with rfl|h
    ·exfalso
     rcases hdv with ⟨_,h,_⟩|⟨_,_,_,_,_,h,_⟩
     ·omega
     cases h
    exact h
   obtain⟨r1,o1,n1,c1,rfl⟩:=hsl
   refine yX 1 ?_
   refine yI hb ?_
   refine yV 1 ?_
   refine xC rfl ?_ ?_ <;> intro hc
   ·refine yX 3 ?_
    refine OS.at (j:=i) hpv hin rfl rfl rfl rfl rfl rfl (fun ra oa rowa csa ma ca ga ka=>⟨_,rfl,?_⟩)
    refine yR (aa ma ca rfl rfl (dW rfl rfl (ka _ hcut))) ?_
    refine yN fun r7=>?_
    refine yX 6 ?_
    refine yP (aW (m:=122) (n:=x.1) rfl rfl rfl (ak (by omega) (by omega))) ?_
    refine yX 3 ?_
    refine yN fun rb'=>?_
    refine OS.turns rfl (bH [_,_] (Z++L) (e:=165) (sz:=2) (bts:=32) (m:=1) (new:=[.int .i64 ((122+x.1:Nat):Int),.slice (some ⟨r1,o1,none⟩) n1 c1]) gv (SV.row (sz:=2) (n:=1) (List.mem_cons_self ..) rfl) rfl rfl rfl rfl (by omega) (by omega)) (fun u' L₂ hR=>?_)
    obtain⟨Y',gv',rfl⟩:=hR
    refine yX 4 ?_
    refine yP (aW (n:=1) rfl rfl rfl (ak (by omega) (by omega))) ?_
    refine yX 2 ?_
    refine⟨l.length-(i+1),by omega,i+1,u',Y',_::_::Z,gs++[⟨((122+x.1:Nat):Int),.slice (some ⟨r1,o1,none⟩) n1 c1,x.2⟩],rfl,by omega,rfl,?_,?_,?_,rfl⟩
    ·rw[p9,List.length_append];exact gv'
    ·intro g hg
     rcases List.mem_append.1 hg with hg|hg
     ·obtain⟨m,hm⟩:=hr g hg
      exact⟨m,hm.mono fun p hp=>by simp only[List.mem_append,List.mem_cons]at hp ⊢;rcases hp with h|h <;> simp[h]⟩
     rw[List.mem_singleton.1 hg]
     exact⟨_,hdv.mono fun p hp=>by simp[hp]⟩
    rw[CG,hbd,F7 hx]
   cases hc
  have hb:(!av ((l.length:Nat):Int) ((i:Nat):Int))=false:=by rw[am,decide_eq_true (by omega)];rfl
  rw[List.take_of_length_le (by omega)]at hbd
  refine yX 1 ?_
  refine yI hb ?_
  refine yX 2 ?_
  refine LS.exit ?_
  exact⟨v,Y,Z,gs,rfl,gv,hr,hbd,rfl⟩
 rintro a' L' ⟨v,Y,Z,gs,rfl,gv,hr,hbd,rfl⟩
 have hm:∀ p,p∈L->p∈Y++(Z++L):=fun p hp=>by simp[hp]
 have hgl:gs.length=l.length:=by
  have:=congrArg List.length hbd
  rw[lI]at this
  simpa[mS] using this
 refine yX 4 ?_
 refine yR (aa (hm _ hs) rfl rfl rfl rfl) ?_
 refine yA yH (JE (hm _ ho) (hm _ ht)) ?_
 rintro u L₁ ⟨rfl,e₁⟩
 subst e₁
 refine yX 3 ?_
 by_cases hrr:root=root0
 ·have hb:(!bc root root0)=false:=by rw[aC];simp[hrr]
  refine yX 5 ?_
  refine yR (aa (hm _ hs) rfl rfl rfl rfl) ?_
  refine yI hb ?_
  refine yX 8 ?_
  exact⟨Y,Z,gs,rfl,gv,hr,by rw[hbd];unfold Em;rw[if_pos hrr,List.append_nil]⟩
 have hb:(!bc root root0)=true:=by rw[aC];simp[hrr]
 refine yX 5 ?_
 refine yR (aa (hm _ hs) rfl rfl rfl rfl) ?_
 refine yI hb ?_
 refine yV 1 ?_
 refine LS.mid [5] (fun a' L'=>∃ v Y Z gs,L'=Y++(Z++L)/\GV 165 2 [] v gs.length (eF gs) Y/\jc (Z++D) gs/\bd gs=mS l++Em s.n root root0/\a'=[yC,yC,yC,yC,yC,v,yC,yC,yC,yC,yC,yC,yC,yC,yC,yC,yC,yC,yC,yC,yC,yC,yC,yC,yC,yC,yC,yC,yC,yC,yC,yC,yC,yC,yC,yC,yC,yC,yC,yC,yC,yC,yC,yC,yC,yC,yC,yC,yC]) ?_ ?_
 ·repeat refine xQ ?_
  refine xC rfl ?_ ?_ <;> intro hc
  ·refine yX 5 ?_
   refine yR (aa (hm _ hs) rfl rfl rfl rfl) ?_
   refine yA yH (AO (hm _ hj)) ?_
   rintro u L₁ ⟨rfl,e₁⟩
   subst e₁
   refine yX 1 ?_
   refine yA yH (zy (hm _ hd)) ?_
   rintro u L₁ ⟨rfl,e₁⟩
   subst e₁
   refine yX 2 ?_
   refine yA yH (p8 (n:=s.n) (root:=root) hroot.1 hroot.2) ?_
   rintro u L₁ ⟨r9,rfl,rfl⟩
   refine yX 2 ?_
   refine yN fun rb'=>?_
   refine OS.turns rfl (bH [_,_] (Z++L) (e:=165) (sz:=2) (bts:=32) (m:=1) (new:=[.int .i64 0,.slice (some ⟨r9,0,none⟩) 256 256]) gv (SV.row (sz:=2) (n:=1) (List.mem_cons_self ..) rfl) rfl rfl rfl rfl (by omega) (by omega)) (fun u' L₂ hR=>?_)
   obtain⟨Y',gv',rfl⟩:=hR
   refine yX 3 ?_
   refine⟨u',Y',_::(r9,ez (kh s.n root))::Z,gs++[⟨0,.slice (some ⟨r9,0,none⟩) 256 256,kh s.n root⟩],rfl,?_,?_,?_,rfl⟩
   ·rw[p9,List.length_append];exact gv'
   ·intro g hg
    rcases List.mem_append.1 hg with hg|hg
    ·obtain⟨m,hm⟩:=hr g hg
     exact⟨m,hm.mono fun p hp=>by simp only[List.mem_append,List.mem_cons]at hp ⊢;rcases hp with h|h <;> simp[h]⟩
    rw[List.mem_singleton.1 hg]
    exact⟨256,SV.row (e:=5) (r:=r9) (by simp) (by rw[ao,sG])⟩
   rw[CG,hbd];unfold Em;rw[if_neg hrr]
  cases hc
 rintro a' L' ⟨v,Y,Z,gs,rfl,gv,hr,hbd,rfl⟩
 refine yX 5 ?_
 exact⟨Y,Z,gs,rfl,gv,hr,hbd⟩
theorem ii.disk {w:jY}{s s':Dk}{T:List Bool}{V:List (List Nat×List UInt8)}(h:ii w s T V)(hok:s'.ok)(hn:s'.n=s.n)(hb:∀ j,w.base<=j->j<s.n->dh s'.D j=dh s.D j):ii w s' T V :=
 ⟨⟨hok,h.ok.len,h.ok.lo,by rw[hn];exact h.ok.hi⟩,⟨fun v hv=>let x:=h.h.val v hv
  ⟨x.len,x.dl,x.lt,x.rise,fun k y hy=>by
   have h1:=x.lt y (List.mem_of_getElem? hy)
   have h2:=h.ok.hi
   rw[hb _ (by omega) (by omega)];exact x.on k y hy⟩,h.h.nd,h.h.tk,h.h.cnt⟩⟩
def dq(s:Dk)(ps:List (Int×Tx)):Dk:=if ps=[] then s else ⟨s.n,iL s.D (qE ps),s.wr+(qE ps).length,s.cut,if s.cut then s.left-(qE ps).length else s.left,false⟩
def Kq(s:Dk)(ps:List (Int×Tx)):Dk:=⟨s.n,iL s.D ((qE ps).take s.left),s.wr+s.left,true,0,true⟩
theorem GH {s:Dk}{ps:List (Int×Tx)}(hd:s.dead=false)(hs:s.ok)(hg:fc s.n ps)(hl:ps.length<=120) :
  ((ps=[]∨s.cut=false∨2*ps.length+2<=s.left)/\IH s ps=(0,dq s ps))∨(ps≠[]/\s.cut=true/\s.left<2*ps.length+2/\IH s ps=(20,Kq s ps)):=by
 have hfit:=hg.fitDo hs.2.1 hl
 by_cases h0:ps=[]
 ·exact .inl ⟨.inl h0,by rw[h0,DT hd];rfl⟩
 rw[GJ hd hg hl h0]
 have e:=wW (ps:=ps)
 by_cases hc:s.cut=true/\s.left<(qE ps).length
 ·exact .inr ⟨h0,hc.1,by omega,q7 hd hfit hc.1 hc.2⟩
 have hc2:s.cut=true->(qE ps).length<=s.left:=fun h1=>by
  rcases Nat.lt_or_ge s.left (qE ps).length with h2|h2
  ·exact absurd ⟨h1,h2⟩ hc
  exact h2
 refine .inl ⟨.inr ?_,?_⟩
 ·cases hcc:s.cut with
  | false=>exact .inl rfl
  | true=>exact .inr (by have:=hc2 hcc;omega)
 rw[q8 hd hfit hc2];unfold dq;rw[if_neg h0]
theorem ou {s:Dk}{ps:List (Int×Tx)}:(dq s ps).n=s.n:=by unfold dq;split <;> rfl
theorem s8 {s:Dk}{ps:List (Int×Tx)}(h:s.dead=false):(dq s ps).dead=false:=by unfold dq;split <;> first|rfl|exact h
theorem GD {s:Dk}{ps:List (Int×Tx)}(hl:ps.length<=120):(dq s ps).wr<=s.wr+242:=by
 have e:=wW (ps:=ps)
 unfold dq;split
 ·omega
 show s.wr+(qE ps).length<=_;omega
theorem GE {s:Dk}{ps:List (Int×Tx)}(hs:s.ok)(hw:s.wr<=900000)(hg:fc s.n ps)(hl:ps.length<=120):(dq s ps).ok:=by
 have e:=wW (ps:=ps)
 have h1:=(GI hg hs.2.1 hl hs.1).1
 unfold dq;split
 ·exact hs
 refine⟨h1,hs.2.1,hs.2.2.1,?_,?_⟩
 ·show s.wr+(qE ps).length<=_;omega
 have:=hs.2.2.2.2
 show (if s.cut then _ else _)<=_
 split <;> omega
theorem DS {s:Dk}{ps:List (Int×Tx)}(hs:s.ok)(hg:fc s.n ps)(hl:ps.length<=120)(hi:dh s.D 1=zeros) :
  dh (dq s ps).D 1=zeros/\(∀ (j:Nat) d,((j:Int),d)∈ps->dh (dq s ps).D j=d)/\(∀ j:Nat,cF s.n j->(j:Int) ∉ ps.map (·.1)->dh (dq s ps).D j=dh s.D j):=by
 unfold dq;split
 ·rename_i h0;subst h0
  exact⟨hi,(fun j d h=>by cases h),fun j _ _=>rfl⟩
 exact (GI hg hs.2.1 hl hs.1).2
theorem JD {s:fD}{L:RL}(h:TR c G X s L):(c.rt,bS c.rf c.rn c.rw s.root s.cnt c.root0 c.cnt0)∈L:=by
 obtain⟨T,es,ck,ws,wk,hN,rfl,hp⟩:=h
 simp
section
variable{k:Kf}{q:Qs}{F L:RL}{b:Nat}{w:jY}{rs rp pk:Nat}{row:aG}{ps:List MapEntry}{Yd Yu M Y Z Y0 D:RL}{s:Dk}{T:List Bool}
abbrev jF(w:jY)(rs:Nat)(row:aG)(rp:Nat)(ps:List MapEntry)(pk:Nat)(Yd Yu:RL)(T:List Bool)(M Y Z Y0 D:RL):RL:=Y++(Z++(Y0++(D++((w.rD,.cells 147 [ptr w.rj,.int .i64 (w.base:Nat),ptr w.rm])::(rs,row)::(rp,.map ps pk)::(Yd++(Yu++fm w.rm w.rf T M))))))
theorem AL.j:ar (jn w.rj w.rd w.rb s (jF w rs row rp ps pk Yd Yu T M Y Z Y0 D)) (Y++(Z++(Y0++(D++AL w rs row rp ps pk Yd Yu s T M)))):=ar.sums fun f=>by
 simp only[AL,bl,fm,jn,dk,jF,List.map_append,List.map_cons,List.sum_append,List.sum_cons];omega
theorem AL.jk:ar (AL w rs row rp ps pk Yd Yu s T M) (jn w.rj w.rd w.rb s (jF w rs row rp ps pk Yd Yu T M Y Z Y0 D)):=ar.sums2 (Y++(Z++(Y0++D))) fun f=>by
 simp only[AL,bl,fm,jn,dk,jF,List.map_append,List.map_cons,List.sum_append,List.sum_cons];omega
def Je(k:Kf)(q:Qs)(F:RL)(b:Nat)(u:Value)(L':RL):Prop:=∃ ps,LK k q ps /\
 (((ps=[]∨q.s.cut=false∨2*ps.length+2<=q.s.left)/\u=.int .i64 0/\∃ q',mi k q' F L'/\oL k q' b/\q'.S=me q.S/\q'.O=me q.S/\q'.s=dq q.s ps/\q'.m=q.m/\q'.root=q.root/\q'.c.N=q.c.N/\q'.c.m0=q.m/\q'.c.root0=q.root) ∨
 (ps≠[]/\q.s.cut=true/\q.s.left<2*ps.length+2/\u=.int .i64 20/\mi k { q with s:=Kq q.s ps } F L'))
set_option maxHeartbeats 4000000 in
theorem Al(h:mi k q F L)(hI:oL k q b)(hd:q.s.dead=false)(hw:q.s.wr<=800000)(h119:∀ ks,tJ q.m q.c.m0 ks->(aZ q.m ks).length<=119) :
  CS Tryz.prog 16 [ptr k.rs] L fun u L'=>Je k q F b u L':=by
 obtain⟨rp0,vd0,vu0,ms,mj,md,mo,_⟩:=h.mem
 have hcnt:=hI.len
 have hgl:=hI.gl
 have hbb:=hI.b
 refine yF Tryz.f16 ?_
 refine yX 5 ?_
 refine yA yH h.refusal ?_
 rintro u L₁ ⟨rfl,e₁⟩
 subst e₁
 rw[hd]
 refine yX 9 ?_
 obtain⟨X,M,rp,ps,pk,vd,vu,cd,cu,Yd,Yu,htr,h1,h2,h3,h4,h5⟩:=h
 have hdom:∀ p,q.m p≠none->p<q.c.N:=htr.dom
 refine yX 4 ?_
 refine yR (aa ms rfl rfl rfl rfl) ?_
 refine yA yH (CZ htr mo hI.good) ?_
 rintro u L' ⟨ks,cs,Y0,D,hks,rfl,g0,hP⟩
 simp only at hks g0 hP
 refine yX 3 ?_
 have hlen:=h119 ks hks
 have hG:=I1 hI hdom hks hlen
 have hb:(!av (((aZ q.m ks).length:Nat):Int) 119)=false:=by rw[am,decide_eq_true (by omega)];rfl
 refine yX 2 ?_
 refine yP (az (show SV 2 (Y0++(D++L₁)) u (aZ q.m ks).length cs from g0.sv.mono fun p hp=>List.mem_append_left _ hp) rfl rfl rfl rfl rfl) ?_
 refine yI hb ?_
 refine yX 3 ?_
 obtain⟨R,hs2,hXR,hback⟩:=TR.ask [] htr
 have mm:∀ p,p∈L₁->p∈Y0++(D++L₁):=fun p hp=>by simp[hp]
 have mt:=JD htr
 have hn:=hI.n
 have hok:=hI.dsk.ok.ok
 have hrt:-10<=q.root/\q.root<=1000000:=by
  have hroot:=hI.good.root
  by_cases hP:jX q.S=[]
  ·have:=hroot.1 hP;omega
  obtain⟨n,e1,e2⟩:=hroot.2 hP
  have:=hdom n e2
  have:=hok.2.2.1
  omega
 have hmem:∀ p∈aZ q.m ks,p.1<=100000/\p.2.length=256:=fun p hp=>by
  obtain⟨e1,n,e2,e3⟩:=pF hp
  have:=hdom p.1 (by rw[e2];simp)
  have:=hok.2.2.1
  exact⟨by omega,by rw[e3];exact qB (hI.good.fits _ _ e2)⟩
 have hvd:=(bC h2.sv)
 repeat refine xQ ?_
 refine LS.drawn noGo mixed [(0,false),(1,false),(2,false),(3,false),(4,false),(5,false),(6,true),(7,true),(8,false)] rfl rfl (by kernel_rfl) ?_
 refine yX 3 ?_
 refine xE rfl rfl (aa (mm _ ms) rfl rfl rfl rfl) rfl ?_
 refine yX 2 ?_
 refine yO rfl yH (F8 (mm _ ms) (mm _ mo) (mm _ mt) (mm _ mj) (mm _ md) hrt (show SV 2 (Y0++(D++L₁)) u (aZ q.m ks).length cs from g0.sv.mono fun p hp=>List.mem_append_left _ hp) (D:=D) hP hmem (by omega)) ?_
 rintro v L₂ ⟨Y,Z,gs,rfl,gv,hr,hbd⟩
 refine⟨_,rfl,ai.cons rfl (aa (row:=dM k.w q.c.root0 k.ro rp0 vd0 vu0) (r:=k.rs) (by simp[ms]) rfl rfl rfl rfl) ai.nil,?_⟩
 refine ba.sub (ar.trans AL.j (ar.app Y (ar.app Z (ar.app Y0 (ar.app D hs2))))) ?_
 refine yO rfl yH (JY (gs:=gs) (n:=gs.length) hok hw (gv.sv.mono fun p hp=>List.mem_append_left _ hp) (hr.mono fun p hp=>by rcases List.mem_append.1 hp with h|h <;> simp[h])) ?_
 rintro v' L₂ ⟨rfl,rfl⟩
 refine⟨_,rfl,(by repeat (first|exact ai.nil|refine ai.gone rfl ?_)),?_⟩
 rw[show bd gs=Bc q ks from hbd]
 obtain⟨gps,hgps⟩:∃ gps,gps=Bc q ks:=⟨_,rfl⟩
 rw[←hgps]at hG ⊢
 rcases GH hd hok hG.good hG.len with ⟨hcase,e⟩|⟨hne,hcut,hleft,e⟩
 ·rw[e]
  simp only
  obtain⟨L2,h6,hs3⟩:=hback (dM k.w q.c.root0 k.ro rp vd vu) rp ps pk Yd Yu (dq q.s gps) q.T (M++F)
  refine ba.sub (hs3.trans AL.jk) ?_
  refine yX 8 ?_
  have ms2:=h6.memG (k.rs,dM k.w q.c.root0 k.ro rp vd vu) (.tail _ (.head _))
  have mo2:=h6.memG (k.ro,bO q.c.rt) (.head _)
  refine yX 5 ?_
  refine yR (aa ms2 rfl rfl rfl rfl) ?_
  refine yA yH (EE h6 mo2) ?_
  rintro u L₁ ⟨rfl,e₁⟩
  subst e₁
  obtain⟨T5,es,ck,ws,wk,hN,rfl,hp⟩:=h6
  refine yX 3 ?_
  refine yW (ax 6 rfl rfl rfl rfl rfl rfl rfl rfl) ?_
  refine xN ?_
  have h7:TR q.c ((k.ro,bO q.c.rt)::AL k.w k.rs (dM k.w q.root k.ro rp vd vu) rp ps pk Yd Yu (dq q.s gps) q.T (M++F)) X ⟨q.m,q.root,(q.S.length:Nat)⟩ (HD q.c.rf q.c.rb q.c.rt q.c.rn q.c.rw T5 q.root (q.S.length:Nat) q.c.root0 q.c.cnt0 es ck ws wk (((k.ro,bO q.c.rt)::AL k.w k.rs (dM k.w q.root k.ro rp vd vu) rp ps pk Yd Yu (dq q.s gps) q.T (M++F))++X)):=⟨T5,es,ck,ws,wk,hN,rfl,hp⟩
  have ms3:=h7.memG (k.rs,dM k.w q.root k.ro rp vd vu) (.tail _ (.head _))
  refine yX 4 ?_
  refine yR (aa ms3 rfl rfl rfl rfl) ?_
  refine yA yH (oU h7 (List.mem_cons_self ..)) ?_
  rintro u L' ⟨w',rfl,h8⟩
  refine yX 2 ?_
  have ms4:=h8.memG (k.rs,dM k.w q.root k.ro rp vd vu) (.tail _ (.head _))
  obtain⟨R2,hs4,_,hback2⟩:=TR.ask (g:=(k.ro,bO q.c.rt)) [] h8
  rw[List.append_assoc]at hs4
  obtain⟨e1,e2,e3⟩:=DS hok hG.good hG.len hI.idle
  have hnew:=hG.new (dq q.s gps).D e2 e3
  have hlo:=hI.dsk.ok.lo
  have hD2:ii k.w (dq q.s gps) q.T (bV q.G++bV ((me q.S).filter (·.lg))):=(hI.dsk.disk (GE hok (by omega) hG.good hG.len) ou fun j h1 h2=>e3 j (.inr ⟨by omega,by omega⟩) fun hh=>by
   obtain⟨z,hz,he⟩:=List.mem_map.1 hh
   have:=hG.low z hz
   omega).perm hI.act.done
  refine yX 6 ?_
  refine yR (aa ms4 rfl rfl rfl rfl) ?_
  refine OS.sub hs4 ?_
  refine yA yH (Gl h2 (h3.mono fun p hp=>by simp[hp]) (by omega) (s8 hd) hD2) ?_
  rintro u L' ⟨T',rp',hTl,hD,rfl⟩
  obtain⟨L5,h9,hs5⟩:=hback2 (dM k.w q.root k.ro rp' (.slice none 0 0) (.slice none 0 0)) rp' [] 0 [] [] (dq q.s gps) T' (M++F)
  rw[List.append_assoc]at hs5
  refine yX 1 ?_
  refine OS.sub hs5 ?_
  refine yX 5 ?_
  have hsf:(me q.S).filter Fl=[]:=List.filter_eq_nil_iff.2 fun v hv=>by
   obtain⟨x,_,rfl⟩:=List.mem_map.1 hv
   simp[Fl]
  have hsl:(me q.S).length=q.S.length:=by simp[me]
  refine⟨gps,hG,.inl ⟨hcase,rfl,⟨⟨q.c.rf,q.c.rb,q.c.rt,q.c.rn,w',q.c.N,q.root,(q.S.length:Nat),q.m⟩,q.m,q.root,me q.S,me q.S,[],[],dq q.s gps,T'⟩,⟨X,M,rp',[],0,.slice none 0 0,.slice none 0 0,[],[],[],[],?_,?_,.inl ⟨rfl,rfl,rfl,rfl⟩,⟨rfl,fun i v h=>by simp at h⟩,.inl ⟨rfl,rfl,rfl,rfl⟩,⟨rfl,fun i v h=>by simp at h⟩⟩,⟨hI.act.commit,?_,?_,?_,?_,?_,hI.base,?_,e1,?_,hnew.2,?_,?_,Nat.zero_le _,hI.b⟩,rfl,rfl,rfl,rfl,rfl,rfl,rfl,rfl⟩⟩
  ·show TR _ _ _ ⟨q.m,q.root,(((me q.S).length:Nat):Int)⟩ L5
   rw[hsl];exact h9
  ·show MP [] 0 (lr ((me q.S).filter Fl))
   rw[hsf,wJ];exact MP.new
  ·rw[Au];exact hI.good
  ·rw[Au];exact hI.good
  ·show _=(((me q.S).length:Nat):Int)
   rw[hsl]
  ·show ii _ _ _ (_++bV ((me q.S).filter Fl))
   rw[hsf];simpa[bV] using hD
  ·show _=((dq q.s gps).n-122)/2
   rw[ou];exact hI.n
  ·show _+T'.length=(dq q.s gps).n
   rw[hTl,ou];exact hI.tl
  ·show fh _ (dq q.s gps).n=_
   rw[ou];exact hnew.1
  ·show (me q.S).length<=_
   rw[hsl];exact hI.sl
  show (me q.S).length<=_
  rw[hsl];exact hI.sl
 rw[e]
 simp only
 obtain⟨L2,h6,hs3⟩:=hback (dM k.w q.c.root0 k.ro rp vd vu) rp ps pk Yd Yu (Kq q.s gps) q.T (M++F)
 refine ba.sub (hs3.trans AL.jk) ?_
 refine yV 6 ?_
 refine xC rfl ?_ ?_ <;> intro hc
 ·refine yX 5 ?_
  exact⟨gps,hG,.inr ⟨hne,hcut,hleft,rfl,X,M,rp,ps,pk,vd,vu,cd,cu,Yd,Yu,h6,h1,h2,h3,h4,h5⟩⟩
 cases hc
end
def jJ(D:Tx)(N:Nat):List Tx:=(List.range N).map fun i=>dh D (122+i)
theorem pA {D:Tx}{N:Nat}:(jJ D N).length=N:=by simp[jJ]
abbrev LM(r:Nat):Value:=.slice (some ⟨r,0,none⟩) 256 256
set_option maxHeartbeats 2000000 in
theorem Ce {s:Dk}(hs:s.ok)(hd:s.dead=false) :
  CS Tryz.prog 46 [ptr rj] (jn rj rd rb s F) fun u L'=>∃ Y,
   ((fh (dh s.D 0) s.n).2=false/\u=.tuple #[.int .i64 (-1),.slice none 0 0,.int .i64 4]/\L'=Y++jn rj rd rb s F) ∨
   ((fh (dh s.D 0) s.n).2=true/\∃ iv,u=.tuple #[.int .i64 (fh (dh s.D 0) s.n).1,iv,.int .i64 0]/\L'=Y++jn rj rd rb s F/\zO Y iv (jJ s.D ((s.n-122)/2))):=by
 have h3:=hs.2.2.1
 have h2:=hs.2.1
 obtain⟨N,hN⟩:∃ N,N=(s.n-122)/2:=⟨_,rfl⟩
 have hfl:fL s.n=122+N:=by unfold fL;omega
 rw[←hN]
 refine yF Tryz.f46 ?_
 refine yX 7 ?_
 refine yA yH (AO (rd:=rd) (List.mem_cons_self ..)) ?_
 rintro u L₁ ⟨rfl,e₁⟩
 subst e₁
 refine yX 1 ?_
 refine yA yH (zy (rb:=rb) (s:=s) (.tail _ (.head _))) ?_
 rintro u L₁ ⟨rfl,e₁⟩
 subst e₁
 refine yX 5 ?_
 refine yA yH (sx hs hd 0 (.inl rfl)) ?_
 rintro u L' ⟨r0,rfl,rfl⟩
 refine yX 13 ?_
 have hb0:(dh s.D 0).length=256:=l9 hs.1 (by omega)
 refine yX 3 ?_
 refine yA yH (Dc (bs:=dh s.D 0) (n:=s.n) (SV.row (n:=256) (List.mem_cons_self ..) (by rw[ao,hb0]))) ?_
 rintro u L₁ ⟨rfl,e₁⟩
 subst e₁
 obtain⟨⟨root,is⟩,hroot⟩:∃ x,x=fh (dh s.D 0) s.n:=⟨_,rfl⟩
 rw[←hroot]
 simp only
 refine yX 11 ?_
 cases is with
 | false =>
  repeat refine xQ ?_
  refine xC rfl ?_ ?_ <;> intro hc
  ·refine yX 6 ?_
   exact⟨[_],.inl ⟨rfl,rfl,rfl⟩⟩
  cases hc
 | true =>
  refine yX 9 ?_
  refine LS.loopJ [0,5,8,10,11] (fun z a L'=>∃ (i:Nat) (v:Value) (Y Z:RL) (vs:List Value),z=N-i/\i<=N/\L'=Y++(Z++jn rj rd rb s F)/\GV 40 1 [] v i vs Y/\vs.length=i/\(∀ j,j<i->∃ r,vs[j]?=some (LM r)/\(r,aG.cells 117 (ab (dh s.D (122+j))))∈Z)/\a=[ptr rj,yC,yC,yC,yC,.int .i64 (s.n:Nat),yC,yC,.int .i64 root,yC,v,.int .i64 ((122+i:Nat):Int),yC,yC,yC,yC,yC,yC,yC,yC,yC,yC,yC,yC,yC,yC,yC,yC,yC,yC,yC,yC,yC,yC,yC,yC,yC,yC,yC,yC,yC,yC,yC,yC,yC,yC,yC,yC,yC,yC,yC,yC]) (n:=N) rfl ⟨0,.slice none 0 0,[],[_],[],rfl,Nat.zero_le _,rfl,.inl ⟨rfl,rfl,rfl,rfl⟩,rfl,fun j hj=>absurd hj (Nat.not_lt_zero _),rfl⟩ ?_
  rintro z a L' ⟨i,v,Y,Z,vs,rfl,hi,rfl,gv,hvl,hvs,rfl⟩
  refine yX 3 ?_
  refine yA yH (kq (n:=s.n) (by omega) (by omega)) ?_
  rintro u L₁ ⟨rfl,e₁⟩
  subst e₁
  rw[hfl]
  by_cases hin:i<N
  ·have hb:(!av ((122+N:Nat):Int) ((122+i:Nat):Int))=true:=by rw[am,decide_eq_false (by omega)];rfl
   have hbl:(dh s.D (122+i)).length=256:=l9 hs.1 (by omega)
   refine yX 1 ?_
   refine yI hb ?_
   refine yV 1 ?_
   refine xC rfl ?_ ?_ <;> intro hc
   ·refine yX 5 ?_
    refine OS.sub (ar.sums (A:=jn rj rd rb s (Y++(Z++F))) fun f=>by simp only[jn,dk,List.map_append,List.map_cons,List.sum_append,List.sum_cons];omega) ?_
    refine yA yH (sx hs hd (122+i) (.inr ⟨by omega,by omega⟩)) ?_
    rintro u L' ⟨r1,rfl,rfl⟩
    refine yX 1 ?_
    refine OS.sub (ar.sums (A:=(r1,.cells 117 (ab (dh s.D (122+i))))::(Y++(Z++jn rj rd rb s F))) fun f=>by simp only[jn,dk,List.map_append,List.map_cons,List.sum_append,List.sum_cons];omega) ?_
    refine yX 15 ?_
    refine yN fun rb'=>?_
    refine OS.turns rfl (bH [_,_] (Z++jn rj rd rb s F) (e:=40) (sz:=1) (bts:=24) (m:=1) gv (SV.row (sz:=1) (n:=1) (List.mem_cons_self ..) rfl) rfl rfl rfl rfl (by omega) (by omega)) (fun u' L₂ hR=>?_)
    obtain⟨Y',gv',rfl⟩:=hR
    refine yX 5 ?_
    refine yP (aW (m:=122+i) (n:=1) rfl rfl rfl (ak (by omega) (by omega))) ?_
    refine yX 2 ?_
    refine⟨N-(i+1),by omega,i+1,u',Y',_::(r1,.cells 117 (ab (dh s.D (122+i))))::Z,_,rfl,by omega,rfl,gv',by simp[hvl],fun j hj=>?_,rfl⟩
    rcases Nat.lt_or_ge j i with hji|hji
    ·obtain⟨r,h1,h2⟩:=hvs j hji
     exact⟨r,by rw[List.getElem?_append_left (by omega)];exact h1,by simp[h2]⟩
    have:j=i:=by omega
    subst this
    exact⟨r1,by rw[List.getElem?_append_right (by omega),hvl,Nat.sub_self];rfl,by simp⟩
   cases hc
  have hb:(!av ((122+N:Nat):Int) ((122+i:Nat):Int))=false:=by rw[am,decide_eq_true (by omega)];rfl
  have hiN:i=N:=by omega
  subst hiN
  refine yX 1 ?_
  refine yI hb ?_
  refine yX 2 ?_
  refine LS.exit ?_
  refine yX 8 ?_
  refine⟨Y++Z,.inr ⟨rfl,v,rfl,by rw[List.append_assoc],vs,?_,fun j hj=>?_⟩⟩
  ·rw[pA];exact gv.sv.mono fun p hp=>by simp[hp]
  rw[pA]at hj
  obtain⟨r,h1,h2⟩:=hvs j hj
  have hbl:(dh s.D (122+j)).length=256:=l9 hs.1 (by omega)
  have e:(jJ s.D i).getD j []=dh s.D (122+j):=by simp[jJ,List.getD,hj]
  refine⟨_,h1,.inr ?_⟩
  rw[e,hbl]
  refine⟨SV.row (e:=117) (List.mem_append_right _ h2) (by rw[ao,hbl]),fun r' off cap he=>?_⟩
  cases he
  exact⟨by decide,Nat.le_refl _⟩
def Hl(V:List (List Nat×List UInt8))(v:List Nat×List UInt8):Prop:=∀ x∈v.1,x ∉ V.flatMap (·.1)
structure pO(w:jY)(s:Dk)(T:List Bool)(V:List (List Nat×List UInt8)):Prop where
 d:ii w s T V
 t:∀ x,cz T x=true->x∈V.flatMap (·.1)
theorem pO.init {w:jY}{s:Dk}{n:Nat}(hs:s.ok)(h1:n<=32768)(h2:121<w.base)(h3:w.base+n<=s.n):pO w s (List.replicate n false) [] :=
 ⟨⟨⟨hs,by simpa using h1,h2,by simpa using h3⟩,Hd.init ..⟩,fun x hx=>by rw[oS]at hx;cases hx⟩
theorem pO.claim {w:jY}{s:Dk}{T:List Bool}{V:List (List Nat×List UInt8)}{v:List Nat×List UInt8}(h:pO w s T V)(hv:tA s.D w.base T.length v.1 v.2)(ha:Hl V v):pO w s (dA T v.1) (V++[v]):=by
 have hnd:v.1.Nodup:=hv.rises.nodup
 have hfree:∀ x∈v.1,cz T x=false:=fun x hx=>by
  cases ht:cz T x with
  | false=>rfl
  | true=>exact absurd (h.t x ht) (ha x hx)
 have hcnt:=oA (fun x hx=>⟨hv.lt x hx,hfree x hx⟩) hnd
 have e:(V++[v]).flatMap (·.1)=V.flatMap (·.1)++v.1:=by simp
 refine⟨⟨⟨h.d.ok.ok,by rw[eW];exact h.d.ok.len,h.d.ok.lo,by rw[eW];exact h.d.ok.hi⟩,⟨fun u hu=>?_,?_,fun x hx=>?_,?_⟩⟩,fun x hx=>?_⟩
 ·rw[eW]
  rcases List.mem_append.1 hu with hu|hu
  ·exact h.d.h.val u hu
  rw[List.mem_singleton.1 hu];exact hv
 ·rw[e,List.nodup_append]
  exact⟨h.d.h.nd,hnd,fun x hx y hy he=>ha y hy (he▸hx)⟩
 ·rw[e]at hx
  rw[mY hv.lt]
  rcases List.mem_append.1 hx with hx|hx
  ·rw[h.d.h.tk x hx];rfl
  simp[hx]
 ·have:=h.d.h.cnt
  rw[e,List.length_append,eW]
  omega
 rw[mY hv.lt]at hx
 rw[e]
 rcases Bool.or_eq_true_iff.1 hx with hx|hx
 ·exact List.mem_append_left _ (h.t x hx)
 exact List.mem_append_right _ (of_decide_eq_true hx)
section
variable{w:jY}{rs rp pk ro:Nat}{root:Int}{vd vu:Value}{ps:List MapEntry}{Yd Yu M:RL}{s:Dk}{T:List Bool}{V:List (List Nat×List UInt8)}
theorem w6 {v:Sv}(hd:s.dead=false)(h:pO w s T V)(hv:tA s.D w.base T.length v.l v.d)(ha:Hl V (v.l,v.d))(hl:v.lg=true)(hm:v.d.length<=131072) :
  CS Tryz.prog 92 [ptr rs,.int .i64 (v.id:Nat)] (AL w rs (dM w root ro rp vd vu) rp ps pk Yd Yu s T M) fun u L'=>u=.bool true/\pO w s (dA T v.l) (V++[(v.l,v.d)])/\L'=AL w rs (dM w root ro rp vd vu) rp ps pk Yd Yu s (dA T v.l) M:=by
 have hid:=oP hv
 have h2:=h.claim hv ha
 have hfree:∀ x∈v.l,cz T x=false:=fun x hx=>by
  cases ht:cz T x with
  | false=>rfl
  | true=>exact absurd (h.t x ht) (ha x hx)
 obtain⟨hV2,hid2,htk2,_⟩:=h2.d.val (v:=v) (by simp)
 have hb1:(!av ((v.d.length:Nat):Int) 63)=true:=by
  have:p7 v.d=true:=hl
  unfold p7 at this
  simp at this
  rw[am,decide_eq_false (by omega)];rfl
 have hb2:av ((v.d.length:Nat):Int) 131072=true:=au.2 (by omega)
 refine yF Tryz.f92 ?_
 refine yX 9 ?_
 refine OS.sub AL.d0 ?_
 refine yA yH (D3 h.d.ok hd hv hid.1 hfree) ?_
 rintro u L' ⟨rfl,rfl⟩
 refine yX 1 ?_
 refine OS.sub AL.h0 ?_
 refine yX 10 ?_
 refine OS.sub AL.d0 ?_
 refine yA yH (Hi (c:=w) h2.d.ok hd hV2 hid2 htk2) ?_
 rintro u L' ⟨rfl,rfl⟩
 refine yX 1 ?_
 refine OS.sub AL.h0 ?_
 refine yX 12 ?_
 refine yI hb1 ?_
 refine yX 4 ?_
 refine yI hb2 ?_
 refine yX 4 ?_
 exact⟨rfl,h2,rfl⟩
end
structure Hf(D:Tx)(base m:Nat)(O:List Sv):Prop where
 val:∀ v∈O,v.lg=true->tA D base m v.l v.d
 nd:((bV (O.filter (·.lg))).flatMap (·.1)).Nodup
theorem Hf.apart {D:Tx}{base m i:Nat}{O:List Sv}{v:Sv}(h:Hf D base m O)(hv:O[i]?=some v)(hl:v.lg=true):Hl (bV ((O.take i).filter (·.lg))) (v.l,v.d):=by
 obtain⟨h1,h2⟩:=List.getElem?_eq_some_iff.1 hv
 have hn:=h.nd
 rw[←List.take_append_drop i O,List.drop_eq_getElem_cons h1,h2,List.filter_append,List.filter_cons_of_pos hl]at hn
 simp only[bV,List.map_append,List.map_cons,List.flatMap_append,List.flatMap_cons]at hn
 have h3:=List.nodup_append.1 hn
 intro x hx hm
 exact h3.2.2 x hm x (List.mem_append_left _ hx) rfl
section
variable{c:jt}{X L:RL}{t:fD}{w:jY}{rs rp pk ro:Nat}{root:Int}{vd vu:Value}{ps:List MapEntry}{Yd Yu M:RL}{s:Dk}{T:List Bool}
variable{O:List Sv}
set_option maxHeartbeats 4000000 in
theorem GS (htr:TR c ((ro,bO c.rt)::AL w rs (dM w root ro rp vd vu) rp ps pk Yd Yu s T M) X t L)(hg:dI t.m t.root (jX O))(hcnt:t.cnt=O.length)(hol:O.length<=100000)(hd:s.dead=false)(h0:pO w s T [])(hlie:Hf s.D w.base T.length O)(hkey:∀ v∈O,v.d.length<=131072) :
  CS Tryz.prog 53 [ptr rs] L fun u L'=>u=.bool true/\∃ T',T'.length=T.length/\pO w s T' (bV (O.filter (·.lg)))/\TR c ((ro,bO c.rt)::AL w rs (dM w root ro rp vd vu) rp ps pk Yd Yu s T' M) X t L':=by
 have hlen:t.cnt=(jX O).length:=by rw[cR];exact hcnt
 have mo:=htr.memG (ro,bO c.rt) (.head _)
 have ms:=htr.memG (rs,dM w root ro rp vd vu) (.tail _ (.head _))
 obtain⟨R,hs2,hXR,hback⟩:=TR.ask [] htr
 have hid:∀ v∈O,v.lg=true->v.id<=32768:=fun v hv hl=>by
  have h1:=hlie.val v hv hl
  have h2:=h1.lt _ (oP h1).2
  have h3:=h0.d.ok.len
  omega
 refine yF Tryz.f53 ?_
 refine yX 7 ?_
 refine yR (aa ms rfl rfl rfl rfl) ?_
 refine yA yH (uc htr mo hg hlen (by rw[cR];omega)) ?_
 rintro pv L' ⟨Y0,rfl,g0⟩
 rw[HT]at g0
 have hpl:(jX O).length=O.length:=cR O
 rw[hpl]at g0
 refine yX 1 ?_
 refine yP (az (show SV 2 (Y0++L) pv O.length (wi (jX O)) from g0.sv.mono fun p hp=>List.mem_append_left _ hp) rfl rfl rfl rfl rfl) ?_
 refine yX 1 ?_
 refine OS.sub (ar.trans (AL.out (Y:=Y0)) (ar.app Y0 hs2)) ?_
 refine yX 2 ?_
 refine LS.loopJ [0,11,12,13] (fun z a L'=>∃ (i:Nat) (T':List Bool),z=O.length-i/\i<=O.length/\T'.length=T.length/\pO w s T' (bV ((O.take i).filter (·.lg)))/\L'=AL w rs (dM w root ro rp vd vu) rp ps pk Yd Yu s T' (Y0++(M++R))/\a=[ptr rs,yC,yC,yC,yC,yC,yC,yC,yC,yC,yC,pv,.int .i64 (O.length:Nat),.int .i64 (i:Nat),yC,yC,yC,yC,yC,yC,yC,yC,yC,yC,yC,yC,yC,yC,yC,yC,yC,yC,yC,yC,yC,yC,yC]) (n:=O.length) rfl ⟨0,T,rfl,Nat.zero_le _,rfl,h0,rfl,rfl⟩ ?_
 rintro z a L' ⟨i,T',rfl,hi,hTl,hD,rfl,rfl⟩
 have hpv:SV 2 (AL w rs (dM w root ro rp vd vu) rp ps pk Yd Yu s T' (Y0++(M++R))) pv O.length (wi (jX O)):=g0.sv.mono fun p hp=>by simp[AL,bl,fm,hp]
 by_cases hin:i<O.length
 ·have hb:(!av ((O.length:Nat):Int) ((i:Nat):Int))=true:=by rw[am,decide_eq_false (by omega)];rfl
  obtain⟨v,hv⟩:∃ v,O[i]?=some v:=⟨_,List.getElem?_eq_getElem hin⟩
  have hvO:=List.mem_of_getElem? hv
  have hcut:=BU (P:=jX O) (i:=i) (p:=KI v) (by unfold jX;rw[List.getElem?_map,hv];rfl)
  have htk:O.take (i+1)=O.take i++[v]:=by
   obtain⟨h1,h2⟩:=List.getElem?_eq_some_iff.1 hv
   rw[List.take_succ_eq_append_getElem h1,h2]
  refine yX 1 ?_
  refine yI hb ?_
  refine yV 1 ?_
  refine xC rfl ?_ ?_ <;> intro hc
  ·refine yV 1 ?_
   refine LS.mid [0,11,12,13] (fun a L'=>∃ T',T'.length=T.length/\pO w s T' (bV ((O.take (i+1)).filter (·.lg)))/\L'=AL w rs (dM w root ro rp vd vu) rp ps pk Yd Yu s T' (Y0++(M++R))/\a=[ptr rs,yC,yC,yC,yC,yC,yC,yC,yC,yC,yC,pv,.int .i64 (O.length:Nat),.int .i64 (i:Nat),yC,yC,yC,yC,yC,yC,yC,yC,yC,yC,yC,yC,yC,yC,yC,yC,yC,yC,yC,yC,yC,yC,yC]) ?_ ?_
   ·refine yX 2 ?_
    refine OS.at (j:=i) hpv hin rfl rfl rfl rfl rfl rfl (fun ra oa rowa csa ma ca ga ka=>⟨_,rfl,?_⟩)
    refine yR (aa ma ca rfl rfl (dW rfl rfl (ka _ hcut))) ?_
    refine yN fun r4=>?_
    refine yX 5 ?_
    refine yA yH (sW (v:=v) (hid v hvO)) ?_
    rintro u L₁ ⟨rfl,e₁⟩
    subst e₁
    unfold DL
    cases hl:v.lg with
    | false =>
     refine yX 4 ?_
     refine yN fun r5=>?_
     refine yX 19 ?_
     refine LS.sub (ar.tail.trans ar.tail) ?_
     refine LS.skip ?_
     refine⟨T',hTl,?_,rfl,rfl⟩
     rw[htk,List.filter_append,List.filter_cons_of_neg (by simp[hl]),List.filter_nil,List.append_nil]
     exact hD
    | true =>
     simp only[if_true]
     refine yX 4 ?_
     refine yN fun r5=>?_
     refine yX 13 ?_
     refine OS.sub AL.i2 ?_
     refine yA yH (w6 hd hD (by rw[hTl];exact hlie.val v hvO hl) (hlie.apart hv hl) hl (hkey v hvO)) ?_
     rintro u L' ⟨rfl,hD2,rfl⟩
     refine yX 1 ?_
     refine OS.sub AL.o2 ?_
     refine yX 5 ?_
     refine LS.sub (ar.tail.trans ar.tail) ?_
     refine LS.skip ?_
     refine⟨dA T' v.l,by rw[eW];exact hTl,?_,rfl,rfl⟩
     rw[htk,List.filter_append,List.filter_cons_of_pos hl,List.filter_nil]
     simpa[bV] using hD2
   rintro a L' ⟨T2,hTl2,hD2,rfl,rfl⟩
   refine yX 1 ?_
   refine yP (aW (n:=1) rfl rfl rfl (ak (by omega) (by omega))) ?_
   refine yX 2 ?_
   exact⟨O.length-(i+1),by omega,i+1,T2,rfl,by omega,hTl2,hD2,rfl,rfl⟩
  cases hc
 have hb:(!av ((O.length:Nat):Int) ((i:Nat):Int))=false:=by rw[am,decide_eq_true (by omega)];rfl
 obtain⟨L2,h6,hs3⟩:=hback (dM w root ro rp vd vu) rp ps pk Yd Yu s T' M
 rw[List.take_of_length_le (by omega)]at hD
 refine yX 1 ?_
 refine yI hb ?_
 refine yX 2 ?_
 refine LS.exit ?_
 refine LS.sub (hs3.trans (ar.sums2 Y0 fun f=>by simp[AL,bl,fm] <;> omega)) ?_
 refine yX 4 ?_
 exact⟨rfl,T',hTl,hD,h6⟩
end
structure Ky(s:Dk)(O:List Sv)(m:da)(root:Int):Prop where
 so:iU O
 of:∀ v∈O,v.f=false
 key:∀ v∈O,1<=v.k.length/\v.k.length<=32/\v.d.length<=131072
 good:dI m root (jX O)
 dom:∀ p,m p≠none->p<(s.n-122)/2
 hd:fh (dh s.D 0) s.n=(root,true)
 img:∀ p,m p≠none->eU (dh s.D (122+p))=m p
 lie:Hf s.D (fL s.n) (s.n-fL s.n) O
theorem zb {P:List Pr}{m:da}(h:dI m (-1) P):P=[]/\m=rY:=by
 rcases h with ⟨_,h2,h3⟩|⟨H,t,hw,_⟩
 ·exact⟨h3,funext h2⟩
 have:=hw.rt
 omega
theorem J1 {D:Tx}{N p:Nat}(h:p<N):zR (jJ D N) p=dh D (122+p):=by simp[zR,jJ,List.getD,h]
theorem TR.split {s:fD}{L:RL}(h:TR c G X s L):∃ H:RL,L=H++(G++X)/\∀ G',TR c G' X s (H++(G'++X)):=by
 obtain⟨T,es,ck,ws,wk,hN,rfl,hp⟩:=h
 exact⟨HD c.rf c.rb c.rt c.rn c.rw T s.root s.cnt c.root0 c.cnt0 es ck ws wk [],rfl,fun G'=>⟨T,es,ck,ws,wk,hN,rfl,hp⟩⟩
theorem C2 {s:Dk}{O:List Sv}{m:da}{root:Int}{iv:Value}(hs:s.ok)(h:Ky s O m root)(him:zO F iv (jJ s.D ((s.n-122)/2))) :
  CS Tryz.prog 47 [.int .i64 root,iv] F fun u L'=>∃ ro c X,u=.tuple #[ptr ro,.int .i64 0]/\c.N=(s.n-122)/2/\c.m0=m/\c.root0=root/\c.cnt0=((O.length:Nat):Int)/\TR c ((ro,bO c.rt)::F) X ⟨m,root,(O.length:Nat)⟩ L':=by
 obtain⟨N,hN⟩:∃ N,N=(s.n-122)/2:=⟨_,rfl⟩
 have h3:=hs.2.2.1
 have hg:=h.good
 have hdom:=h.dom
 rw[←hN]at him hdom ⊢
 have hl:(jJ s.D N).length=N:=pA
 have himg:Lp m (jJ s.D N):=fun p hp=>by rw[J1 (hdom p hp)];exact h.img p hp
 refine (EF him).mono ?_
 have hroot:root=-1∨∃ n:Nat,root=n/\n<N:=by
  have hr:=hg.root
  by_cases hP:jX O=[]
  ·exact .inl (hr.1 hP)
  obtain⟨n,h1,h2⟩:=hr.2 hP
  exact .inr ⟨n,h1,hdom n h2⟩
 rintro u L' (⟨h1,_⟩|⟨h1,h2,h3,h4⟩)
 ·rcases hroot with h5|⟨n,h5,h6⟩ <;> omega
 have hfind:root≠-1->∃ σ,dF (jJ s.D N).length (zR (jJ s.D N)) ((jJ s.D N).length+1) ⟨rY,0,0⟩ root 1 [] []=some σ/\σ.m=m/\σ.cnt=(jX O).length:=fun hr=>by
  rw[hl]
  exact De hg (fun hP=>hr (hg.root.1 hP)) hdom himg
 rcases h4 with ⟨h5,h6,_⟩|⟨ro,c2,X2,m',cnt,rfl,hc1,hc2,hc3,hc4,htr,h5⟩
 ·obtain⟨σ,h7,_⟩:=hfind h5
  rw[h6]at h7;cases h7
 have hmc:m'=m/\cnt=(jX O).length:=by
  rcases h5 with ⟨h6,rfl,rfl⟩|⟨h6,σ,h7,rfl,rfl⟩
  ·rw[h6]at hg
   obtain⟨h7,h8⟩:=zb hg
   exact⟨h8.symm,by rw[h7];rfl⟩
  obtain⟨σ',h8,h9,h10⟩:=hfind h6
  rw[h7]at h8;cases h8
  exact⟨h9,h10⟩
 obtain⟨rfl,rfl⟩:=hmc
 rw[cR]at htr hc4
 exact⟨ro,c2,X2,rfl,by rw[hc1,hl],hc2,hc3,hc4,htr⟩
variable{b:Nat}
set_option maxHeartbeats 4000000 in
theorem ER {s:Dk}{O:List Sv}{m:da}{root:Int}(hs:s.ok)(hd:s.dead=false)(hi:dh s.D 1=zeros)(hst:Ky s O m root)(hol:O.length<=b)(hb:b<=100000)
  (hj:CS Tryz.prog 45 [ptr rd] L fun v L'=>∃ rj Y,v=.tuple #[ptr rj,.int .i64 0]/\L'=jn rj rd rb s (Y++F)) :
  CS Tryz.prog 10 [ptr rd] L fun u L'=>∃ k q,u=.tuple #[ptr k.rs,.int .i64 0]/\mi k q F L'/\oL k q b/\q.S=O/\q.O=O/\q.s=s/\q.m=m/\q.c.m0=m/\q.root=root/\q.c.root0=root/\k.w.rd=rd/\k.w.rb=rb:=by
 have hn2:=hs.2.1
 have hn3:=hs.2.2.1
 have hfl:fL s.n=122+(s.n-122)/2:=rfl
 refine yF Tryz.f10 ?_
 refine yX 6 ?_
 refine yA yH hj ?_
 rintro u L' ⟨rj,Y,rfl,rfl⟩
 refine yX 15 ?_
 refine yA yH (Ce hs hd) ?_
 rintro u L' ⟨Y1,⟨h1,_⟩|⟨_,iv,rfl,rfl,him⟩⟩
 ·rw[hst.hd]at h1;cases h1
 rw[hst.hd]
 simp only
 refine yX 18 ?_
 refine yA yH (C2 hs hst (him.mono fun p hp=>List.mem_append_left _ hp)) ?_
 rintro u L' ⟨ro,c,X,rfl,hcN,rfl,rfl,hcc,htr⟩
 refine yX 13 ?_
 have md:(rd,ov rb s)∈L':=htr.memG _ (by simp[jn,dk])
 have hsub:(((s.n:Nat):Int)-((fL s.n:Nat):Int))=((s.n-fL s.n:Nat):Int):=by omega
 refine yX 2 ?_
 refine yA yH (zy md) ?_
 rintro u L₁ ⟨rfl,e₁⟩
 subst e₁
 refine yX 2 ?_
 refine yA yH (zy md) ?_
 rintro u L₁ ⟨rfl,e₁⟩
 subst e₁
 refine yX 1 ?_
 refine yA yH (kq (n:=s.n) (by omega) (by omega)) ?_
 rintro u L₁ ⟨rfl,e₁⟩
 subst e₁
 refine yX 1 ?_
 refine yP (cW (dQ (k:=.i64) (m:=((s.n:Nat):Int)) (n:=((fL s.n:Nat):Int)) rfl rfl rfl (ak (by omega) (by omega))) (congrArg (Value.int .i64) hsub)) ?_
 refine yA yH (Hc (s.n-fL s.n) (by omega)) ?_
 rintro u L' ⟨rm,rf,rfl,rfl⟩
 refine yX 7 ?_
 obtain⟨H,hL,hH⟩:=htr.split
 have md2:(rd,ov rb s)∈fm rm rf (List.replicate (s.n-fL s.n) false) L₁:=by simp[fm,md]
 refine yX 3 ?_
 refine yA yH (zy md2) ?_
 rintro u L₂ ⟨rfl,e₂⟩
 subst e₂
 refine yX 1 ?_
 refine yA yH (kq (n:=s.n) (by omega) (by omega)) ?_
 rintro u L₂ ⟨rfl,e₂⟩
 subst e₂
 refine yX 2 ?_
 subst hL
 refine OS.sub (ar.sums (A:=jn rj rd rb s (fm rm rf (List.replicate (s.n-fL s.n) false) (H++((ro,bO c.rt)::(Y1++(Y++(F++X))))))) fun f=>by simp only[fm,jn,dk,List.map_append,List.map_cons,List.sum_append,List.sum_cons];omega) ?_
 refine yA yH (I6 (base:=fL s.n) (by omega) (by rw[List.length_replicate];omega) hn3) ?_
 rintro u L' ⟨rD,rfl,rfl⟩
 refine yX 13 ?_
 refine yA yH pj ?_
 rintro u L' ⟨rp,rfl,rfl⟩
 refine yX 2 ?_
 refine yN fun rs=>?_
 refine yX 2 ?_
 have h7:=hH ((ro,bO c.rt)::AL ⟨rD,rj,rd,rb,rm,rf,fL s.n⟩ rs (dM ⟨rD,rj,rd,rb,rm,rf,fL s.n⟩ c.root0 ro rp (.slice none 0 0) (.slice none 0 0)) rp [] 0 [] [] s (List.replicate (s.n-fL s.n) false) ((Y1++Y)++F))
 have hsb:ar (H++(((ro,bO c.rt)::AL ⟨rD,rj,rd,rb,rm,rf,fL s.n⟩ rs (dM ⟨rD,rj,rd,rb,rm,rf,fL s.n⟩ c.root0 ro rp (.slice none 0 0) (.slice none 0 0)) rp [] 0 [] [] s (List.replicate (s.n-fL s.n) false) ((Y1++Y)++F))++X)) ((rs,dM ⟨rD,rj,rd,rb,rm,rf,fL s.n⟩ c.root0 ro rp (.slice none 0 0) (.slice none 0 0))::(rp,.map [] 0)::bl ⟨rD,rj,rd,rb,rm,rf,fL s.n⟩ s (List.replicate (s.n-fL s.n) false) (H++((ro,bO c.rt)::(Y1++(Y++(F++X)))))):=ar.sums fun f=>by
  simp only[AL,bl,fm,jn,dk,List.map_append,List.map_cons,List.map_nil,List.sum_append,List.sum_cons,List.sum_nil];omega
 have h0:pO ⟨rD,rj,rd,rb,rm,rf,fL s.n⟩ s (List.replicate (s.n-fL s.n) false) []:=pO.init hs (by omega) (show 121<fL s.n by omega) (show fL s.n+(s.n-fL s.n)<=s.n by omega)
 have hlie:Hf s.D (fL s.n) (List.replicate (s.n-fL s.n) false).length O:=by rw[List.length_replicate];exact hst.lie
 refine yX 2 ?_
 refine OS.sub hsb ?_
 refine yA yH (GS h7 hst.good rfl (by omega) hd h0 hlie (fun v hv=>(hst.key v hv).2.2)) ?_
 rintro u L' ⟨rfl,T',hTl,hD,h8⟩
 refine yX 11 ?_
 have hof:O.filter Fl=[]:=List.filter_eq_nil_iff.2 fun v hv=>by simp[Fl,hst.of v hv]
 rw[List.length_replicate]at hTl
 refine⟨⟨rs,ro,⟨rD,rj,rd,rb,rm,rf,fL s.n⟩⟩,⟨c,c.m0,c.root0,O,O,[],[],s,T'⟩,rfl,⟨X,Y1++Y,rp,[],0,.slice none 0 0,.slice none 0 0,[],[],[],[],h8,?_,.inl ⟨rfl,rfl,rfl,rfl⟩,⟨rfl,fun i v h=>by simp at h⟩,.inl ⟨rfl,rfl,rfl,rfl⟩,⟨rfl,fun i v h=>by simp at h⟩⟩,⟨js.new hst.so hst.of hst.key,hst.good,hst.good,hcc,?_,hcN,?_,?_,hi,hst.hd,hst.img,hol,hol,Nat.zero_le _,hb⟩,rfl,rfl,rfl,rfl,rfl,rfl,rfl,rfl,rfl⟩
 ·show MP [] 0 (lr (O.filter Fl))
  rw[hof,wJ];exact MP.new
 ·show ii _ _ _ (_++bV (O.filter Fl))
  rw[hof];simpa[bV] using hD.d
 ·show fL s.n=122+c.N
  rw[hcN];exact hfl
 show fL s.n+T'.length=s.n
 rw[hTl];omega
theorem Af {s:Dk}(h1:512<=s.n)(hz:∀ j,j<s.n->dh s.D j=zeros):Ky s [] rY (-1) :=
 ⟨List.Pairwise.nil,fun v hv=>(by cases hv),fun v hv=>(by cases hv),.inl ⟨rfl,fun _=>rfl,rfl⟩,fun p hp=>absurd rfl hp,by rw[hz 0 (by omega)];exact yg,fun p hp=>absurd rfl hp,⟨fun v hv=>(by cases hv),List.nodup_nil⟩⟩
theorem dr (n:Nat)(c:UInt8)(hn:n<=200000):CS Tryz.prog 12 [.int .i64 (n:Nat),.int .u8 (c.toNat:Nat)] L fun u L'=>u=bb (List.replicate n c)/\L'=L:=by
 suffices g:CS Tryz.prog 12 [.int .i64 (n:Nat),.int .u8 (c.toNat:Nat)] L fun u L'=>u=bb (List.replicate n c)/\∃ x,L'=x::L by
  exact g.less fun u L' ⟨h1,x,h2⟩=>⟨L,by rw[h2];exact ar.tail,h1,rfl⟩
 refine yF Tryz.f12 ?_
 refine yX 5 ?_
 refine yM ((f6 (l:=n) (c:=n) rfl rfl rfl dj (Nat.le_refl _) (by omega) (by omega))) fun rb=>?_
 refine yX 2 ?_
 rw[iV]
 refine yX 4 ?_
 refine LS.loopJ [0,1,5,6] (fun q a L'=>∃ j:Nat,q=n-j/\j<=n/\L'=(rb,.cells 5 (ab (List.replicate j c++List.replicate (n-j) 0)))::L /\
  a=[.int .i64 (n:Nat),.int .u8 (c.toNat:Nat),yC,yC,yC,.slice (some ⟨rb,0,none⟩) n n,.int .i64 (j:Nat),yC,yC,yC,yC,yC,yC,yC,yC,yC,yC,yC,yC,yC]) (n:=n) rfl ⟨0,rfl,by omega,by simp,rfl⟩ ?_
 rintro q a L' ⟨j,rfl,hj,rfl,rfl⟩
 refine yV 5 ?_
 refine xC rfl ?_ ?_ <;> intro hc
 ·have hc:(j:Int)<n:=cg hc
  have hjn:j<n:=by omega
  refine yX 2 ?_
  have hl:(List.replicate j c++List.replicate (n-j) (0:UInt8)).length=n:=by simp;omega
  refine yX 4 ?_
  refine yP (bK (j:=j) (sz:=1) rfl rfl rfl rfl rfl hjn) ?_
  refine yW (ax 0 (n:=1) rfl rfl rfl rfl rfl rfl (pq c (by omega)) rfl) ?_
  refine yX 3 ?_
  refine yP (aW (m:=j) (n:=1) rfl rfl rfl (ak (by omega) (by omega))) ?_
  refine yX 2 ?_
  refine⟨n-(j+1),by omega,j+1,rfl,by omega,?_,rfl⟩
  congr 4
  rw[List.set_append_right _ _ (by simp),List.length_replicate,Nat.sub_self]
  obtain⟨m,hm⟩:∃ m,n-j=m+1:=⟨n-j-1,by omega⟩
  rw[hm,show n-(j+1)=m by omega,List.replicate_succ,List.set_cons_zero,List.replicate_succ',List.append_assoc]
  rfl
 have hc:=bz hc
 have hje:j=n:=by omega
 subst hje
 refine LS.exit ?_
 rw[Nat.sub_self,List.replicate_zero,List.append_nil]
 refine yX 2 ?_
 refine yR (jK (n:=j) (bs:=List.replicate j c) (SV.row (List.mem_cons_self ..) (by rw[ao,List.length_replicate];omega)) rfl rfl rfl rfl rfl) ?_
 refine yX 3 ?_
 exact⟨rfl,_,rfl⟩
def bZ(V:List Sv):Nat:=(V.map fun v=>if v.lg then aT v.d.length else 0).sum
theorem rT:∀ {V:List Sv},(∀ v∈V,v.lg=true->v.l.length=aT v.d.length)->((bV (V.filter (·.lg))).flatMap (·.1)).length=bZ V
 | [],_=>rfl
 | v::V,h=>by
  have ih:=rT (V:=V) fun u hu=>h u (List.mem_cons_of_mem _ hu)
  cases hl:v.lg with
  | true =>
   rw[List.filter_cons_of_pos hl]
   have e1:(bV (v::V.filter (·.lg))).flatMap (·.1)=v.l++(bV (V.filter (·.lg))).flatMap (·.1):=rfl
   have e2:bZ (v::V)=aT v.d.length+bZ V:=by simp[bZ,hl]
   have:=h v (List.mem_cons_self ..) hl
   rw[e1,e2,List.length_append]
   omega
  | false =>
   rw[List.filter_cons_of_neg (by simp[hl])]
   have e2:bZ (v::V)=bZ V:=by simp[bZ,hl]
   rw[e2];exact ih
theorem HS {k:Kf}{q:Qs}{b:Nat}(hI:oL k q b):frees q.T+(bZ q.O+bZ (q.S.filter (·.f)))=q.T.length:=by
 have h:=hI.dsk.h.cnt
 have hv:=hI.dsk.h.val
 have e:q.S.filter Fl=(q.S.filter (·.f)).filter (·.lg):=by rw[List.filter_filter]
 rw[List.flatMap_append,List.length_append,rT (V:=q.O) fun v hv' hl=>(hv (v.l,v.d) (List.mem_append_left _ (List.mem_map.2 ⟨v,List.mem_filter.2 ⟨hv',hl⟩,rfl⟩))).len,e,rT (V:=q.S.filter (·.f)) fun v hv' hl=>(hv (v.l,v.d) (List.mem_append_right _ (by rw[e];exact List.mem_map.2 ⟨v,List.mem_filter.2 ⟨hv',hl⟩,rfl⟩))).len]at h
 omega
theorem KP {k:Kf}{q:Qs}{b:Nat}(hI:oL k q b):q.T.length=q.s.n-fL q.s.n:=by
 have h1:=hI.tl
 have h2:=hI.base
 have h3:=hI.n
 unfold fL
 omega
theorem wQ {N:Nat}{m:da}{root:Int}{P:List Pr}(h:Fw N m root P):N<=cq N m+3*P.length:=h
theorem DV {N:Nat}{m:da}{ks:List Nat}(hk:ks.Pairwise (·<·))(hd:∀ p,m p≠none->p<N):(aZ m ks).length+cq N m<=N:=by
 have h1:=zZ (N:=N) (m:=m)
 have h2:((aZ m ks).map (·.1)).length<=(Ez N m).length:=dY (by
  rw[List.nodup_iff_pairwise_ne,List.pairwise_map]
  exact (vh hk).imp fun {a b} h=>by omega) fun x hx=>by
   obtain⟨p,hp,rfl⟩:=List.mem_map.1 hx
   obtain⟨_,n,hn,_⟩:=pF hp
   unfold Ez
   rw[List.mem_filter,List.mem_range]
   exact⟨hd _ (by rw[hn];simp),by rw[hn];rfl⟩
 rw[List.length_map]at h2
 omega
theorem mi.dom {k:Kf}{q:Qs}{F L:RL}(h:mi k q F L):∀ p,q.m p≠none->p<q.c.N:=by
 obtain⟨X,M,rp,ps,pk,vd,vu,cd,cu,Yd,Yu,htr,_⟩:=h
 exact htr.dom
theorem IA {k:Kf}{q:Qs}{F L:RL}(h:mi k q F L)(hf:q.fw)(hs:q.S.length<=39):∀ ks,tJ q.m q.c.m0 ks->(aZ q.m ks).length<=119:=fun ks hk=>by
 have h1:=DV hk.1 h.dom
 have h2:=wQ hf
 rw[cR]at h2
 omega
def W9(k:Kf)(n b w:Nat)(S O:List Sv)(F L:RL):Prop:=∃ q,mi k q F L/\oL k q b/\q.S=S/\q.O=O/\q.fw/\Fw q.c.N q.c.m0 q.c.root0 (jX q.O)/\q.s.dead=false/\q.s.cut=false/\q.s.n=n/\q.s.wr<=w
section
variable{k:Kf}{n b w:Nat}{S O:List Sv}{F L:RL}
theorem W9.tl {q:Qs}(hI:oL k q b)(hS:q.S=S)(hO:q.O=O)(hn:q.s.n=n):frees q.T+(bZ O+bZ (S.filter (·.f)))=n-fL n:=by
 have h1:=HS hI
 have h2:=KP hI
 rw[hS,hO]at h1
 rw[hn]at h2
 omega
theorem mE {key data:Tx}(h:W9 k n b w S O F L)(hm:ww key data)(hb:b+1<=100000)(hw:w<=800000)(hp:3*S.length+16<=(n-122)/2)(hr:p7 data=true->bZ O+bZ (S.filter (·.f))+aT data.length<=n-fL n) :
  CS Tryz.prog 11 [ptr k.rs,bb key,bb data] L fun u L'=>u=.int .i64 0/\∃ v,v.k=key/\v.d=data/\v.f=true/\W9 k n (b+1) (w+1000) (iN v S) O F L':=by
 obtain⟨q,h1,hI,h3,h4,h5,h6,h7,h8,h9,h10⟩:=h
 have htl:=W9.tl hI h3 h4 h9
 have hfw:=wQ h5
 rw[cR,h3,hI.n,h9]at hfw
 refine (ql h1 hI hb h7 (by omega) (by have:=hm.2.1;omega) (by have:=hm.2.2;omega)).mono ?_
 rintro u L' (⟨hno,_⟩|⟨_,hfull,_⟩|⟨_,_,hroom,rfl,q',v,e1,e2,e3,g1,g2,g3,g4,g5,g6,g7⟩|⟨_,_,_,_,hc,_⟩)
 ·exact absurd hm hno
 ·exfalso
  rcases hfull with hf|⟨hl,hf⟩
  ·rw[hI.n,h9]at hf;omega
  have:=hr hl;omega
 ·refine⟨rfl,v,e1,e2,e3,q',g1,g2,by rw[g3,h3],by rw[g4,h4],g7 h5,by rw[g5,g4];exact h6,by rw[g6];exact uK h7,?_,by rw[g6,wD];exact h9,?_⟩
  ·rw[g6];unfold mf;split <;> exact h8
  rw[g6];unfold mf;split
  ·have:=j6 (n:=data.length) (by have:=hm.2.2;omega)
   have h11:aT data.length<=1000:=by have:=hm.2.2;unfold aT;omega
   show q.s.wr+aT data.length<=_;omega
  omega
 rw[h8]at hc;cases hc
theorem Hu {key data:Tx}(h:W9 k n b w S O F L)(hm:ww key data)(hb:b+1<=100000)(hw:w<=800000)(hl:p7 data=true)(hr:n-fL n<bZ O+bZ (S.filter (·.f))+aT data.length) :
  CS Tryz.prog 11 [ptr k.rs,bb key,bb data] L fun u L'=>u=.int .i64 3/\W9 k n b w S O F L':=by
 obtain⟨q,h1,hI,h3,h4,h5,h6,h7,h8,h9,h10⟩:=h
 have htl:=W9.tl hI h3 h4 h9
 refine (ql h1 hI hb h7 (by omega) (by have:=hm.2.1;omega) (by have:=hm.2.2;omega)).mono ?_
 rintro u L' (⟨hno,_⟩|⟨_,_,rfl,g⟩|⟨_,_,hroom,_⟩|⟨_,_,_,_,hc,_⟩)
 ·exact absurd hm hno
 ·exact⟨rfl,q,g,hI,h3,h4,h5,h6,h7,h8,h9,h10⟩
 ·have:=(hroom hl).1;omega
 rw[h8]at hc;cases hc
theorem zY {key data:Tx}(h:W9 k n b w S O F L)(hm:¬ ww key data)(hb:b+1<=100000)(hw:w<=800000)(h1:key.length<=9000000000000000)(h2:data.length<=9000000000000000) :
  CS Tryz.prog 11 [ptr k.rs,bb key,bb data] L fun u L'=>u=.int .i64 1/\W9 k n b w S O F L':=by
 obtain⟨q,h1',hI,h3,h4,h5,h6,h7,h8,h9,h10⟩:=h
 refine (ql h1' hI hb h7 (by omega) h1 h2).mono ?_
 rintro u L' (⟨_,rfl,g⟩|⟨hno,_⟩|⟨hno,_⟩|⟨hno,_⟩)
 ·exact⟨rfl,q,g,hI,h3,h4,h5,h6,h7,h8,h9,h10⟩
 all_goals exact absurd hno hm
theorem zX {key:Tx}(h:W9 k n b w S O F L):CS Tryz.prog 17 [ptr k.rs,bb key] L fun u L'=>u=J5 (eI S key)/\W9 k n b w S O F L':=by
 obtain⟨q,h1,hI,h3,h4,h5,h6,h7,h8,h9,h10⟩:=h
 refine (HN h1 hI h7).mono ?_
 rintro u L' ⟨rfl,g⟩
 exact⟨by rw[h3],q,g,hI,h3,h4,h5,h6,h7,h8,h9,h10⟩
theorem Jz {key:Tx}(h:W9 k n b w S O F L):CS Tryz.prog 15 [ptr k.rs,bb key] L fun u L'=>u=.int .i64 (if (eI S key).isSome then 0 else 5)/\W9 k n b w (iS key S) O F L':=by
 obtain⟨q,h1,hI,h3,h4,h5,h6,h7,h8,h9,h10⟩:=h
 refine (HO h1 hI h7).mono ?_
 rintro u L' ⟨rfl,q',g1,g2,g3,g4,g5,g6,g7⟩
 exact⟨by rw[h3],q',g1,g2,by rw[g3,h3],by rw[g4,h4],g7 h5,by rw[g5,g4];exact h6,by rw[g6];exact h7,by rw[g6];exact h8,by rw[g6];exact h9,by rw[g6];exact h10⟩
theorem oO(h:W9 k n b w S O F L)(hw:w<=800000)(hl:S.length<=39):CS Tryz.prog 16 [ptr k.rs] L fun u L'=>u=.int .i64 0/\W9 k n b (w+300) (me S) (me S) F L':=by
 obtain⟨q,h1,hI,h3,h4,h5,h6,h7,h8,h9,h10⟩:=h
 refine (Al h1 hI h7 (by omega) (IA h1 h5 (by rw[h3];exact hl))).mono ?_
 rintro u L' ⟨ps,hG,⟨_,rfl,q',g1,g2,g3,g4,g5,g6,g7,g8,g9,g10⟩|⟨_,hc,_⟩⟩
 ·have hfw:Fw q'.c.N q.m q.root (jX (me S)):=by rw[Au,g8,←h3];exact h5
  refine⟨rfl,q',g1,g2,by rw[g3,h3],by rw[g4,h3],?_,?_,by rw[g5];exact s8 h7,?_,by rw[g5,ou];exact h9,by rw[g5];have:=GD (s:=q.s) hG.len;omega⟩
  ·unfold Qs.fw;rw[g6,g7,g3,h3];exact hfw
  ·rw[g9,g10,g4,h3];exact hfw
  rw[g5];unfold dq;split <;> exact h8
 rw[h8]at hc;cases hc
theorem Hw(h:W9 k n b w S O F L):CS Tryz.prog 19 [ptr k.rs] L fun u L'=>u=.int .i64 0/\W9 k n b w O O F L':=by
 obtain⟨q,h1,hI,h3,h4,h5,h6,h7,h8,h9,h10⟩:=h
 refine (ET h1 hI h7).mono ?_
 rintro u L' ⟨rfl,q',g1,g2,g3,g4,g5,g6,g7,g8,g9,g10⟩
 refine⟨rfl,q',g1,g2,by rw[g3,h4],by rw[g4,h4],?_,?_,by rw[g5];exact h7,by rw[g5];exact h8,by rw[g5];exact h9,by rw[g5];exact h10⟩
 ·unfold Qs.fw;rw[g6,g7,g8,g3];exact h6
 rw[g8,g9,g10,g4];exact h6
theorem Hs(h:W9 k n b w S O F L):CS Tryz.prog 13 [ptr k.rs] L fun u L'=>u=.int .i64 (n-fL n-(bZ O+bZ (S.filter (·.f))):Nat)/\L'=L:=by
 obtain⟨q,h1,hI,h3,h4,h5,h6,h7,h8,h9,h10⟩:=h
 have htl:=W9.tl hI h3 h4 h9
 refine (EQ h1 hI).mono ?_
 rintro u L' ⟨rfl,rfl⟩
 exact⟨by congr 2;omega,rfl⟩
theorem Ew(h:W9 k n b w [] O F L):CS Tryz.prog 22 [ptr k.rs] L fun u L'=>u=.int .i64 ((n-122)/2:Nat)/\L'=L:=by
 obtain⟨q,h1,hI,h3,h4,h5,h6,h7,h8,h9,h10⟩:=h
 have hg:=hI.good
 rw[h3]at hg
 have hr:=hg.root.1 rfl
 rw[hr]at hg
 have hm:=(zb hg).2
 refine (C4 h1).mono ?_
 rintro u L' ⟨rfl,rfl⟩
 exact⟨by rw[hm,sN,hI.n,h9],rfl⟩
variable{fr:Tx}
theorem Ht {to:Tx}(h:W9 k n b w S O F L):CS Tryz.prog 23 [ptr k.rs,bb fr,bb to] L fun u L'=>∃ Y,L'=Y++L/\GV 9 1 [] u (E0 fr to S).length (tx (E0 fr to S)) Y:=by
 obtain⟨q,h1,hI,h3,_⟩:=h
 rw[←h3]
 exact ES h1 hI
theorem Bs (h1:512<=n)(h2:n<=32768):CS Tryz.prog 10 [ptr rd] (dk rd rb ⟨n,List.replicate (n*256) 0,0,false,0,false⟩ F) fun u L'=>∃ k,u=.tuple #[ptr k.rs,.int .i64 0]/\k.w.rd=rd/\W9 k n 0 0 [] [] F L':=by
 have hs:(⟨n,List.replicate (n*256) 0,0,false,0,false⟩:Dk).ok:=⟨List.length_replicate ..,h1,h2,Nat.zero_le _,Nat.zero_le _⟩
 have hz:∀ j,j<n->dh (List.replicate (n*256) (0:UInt8)) j=zeros:=fun j hj=>by
  have:j*256+256<=n*256:=by omega
  unfold dh zeros
  rw[List.drop_replicate,List.take_replicate]
  congr 1;omega
 refine (ER (O:=[]) (b:=0) hs rfl (hz 1 (by omega)) (Af h1 hz) (Nat.zero_le _) (by omega) (vq hs rfl (hz 1 (by omega)))).mono ?_
 rintro u L' ⟨k,q,rfl,g1,g2,g3,g4,g5,g6,g7,g8,g9,g10,g11⟩
 refine⟨k,rfl,g10,q,g1,g2,g3,g4,?_,?_,by rw[g5],by rw[g5],by rw[g5],by rw[g5];exact Nat.le_refl _⟩
 ·unfold Qs.fw Fw Eo;rw[g6,sN];omega
 unfold Fw Eo;rw[g7,sN];omega
end
section
variable{L:RL}
theorem Ak:CS Tryz.prog 22 [.pointer none] L fun u L'=>u=.int .i64 0/\L'=L:=by
 refine yF Tryz.f22 ?_
 refine yX 5 ?_
 refine yA yH jy ?_
 rintro u L₁ ⟨rfl,e₁⟩
 subst e₁
 refine yV 2 ?_
 refine xC rfl ?_ ?_ <;> intro hc
 ·refine yX 4 ?_
  exact⟨rfl,rfl⟩
 cases hc
theorem C3:CS Tryz.prog 13 [.pointer none] L fun u L'=>u=.int .i64 0/\L'=L:=by
 refine yF Tryz.f13 ?_
 refine yX 5 ?_
 refine yA yH jy ?_
 rintro u L₁ ⟨rfl,e₁⟩
 subst e₁
 refine yV 2 ?_
 refine xC rfl ?_ ?_ <;> intro hc
 ·refine yX 4 ?_
  exact⟨rfl,rfl⟩
 cases hc
theorem C7 {a b:Value}:CS Tryz.prog 23 [.pointer none,a,b] L fun u L'=>u=.slice none 0 0/\L'=L:=by
 refine yF Tryz.f23 ?_
 refine yX 5 ?_
 refine yA yH jy ?_
 rintro u L₁ ⟨rfl,e₁⟩
 subst e₁
 refine yV 2 ?_
 refine xC rfl ?_ ?_ <;> intro hc
 ·refine yX 4 ?_
  exact⟨rfl,rfl⟩
 cases hc
abbrev Fo:Value:=.agg #[.slice none 0 0,.slice none 0 0,.slice none 0 0,.slice none 0 0]
theorem Aj:CS Tryz.prog 21 [.pointer none] L fun u L'=>u=Fo/\L'=L:=by
 suffices g:CS Tryz.prog 21 [.pointer none] L fun u L'=>u=Fo/\∃ x,L'=x::L by
  exact g.less fun u L' ⟨h1,x,h2⟩=>⟨L,by rw[h2];exact ar.tail,h1,rfl⟩
 refine yF Tryz.f21 ?_
 refine yX 1 ?_
 refine yN fun r2=>?_
 refine yX 3 ?_
 refine yA yH jy ?_
 rintro u L₁ ⟨rfl,e₁⟩
 subst e₁
 refine yV 2 ?_
 refine xC rfl ?_ ?_ <;> intro hc
 ·refine yX 4 ?_
  refine xT ⟨_,kY 0 rfl rfl rfl rfl,?_⟩
  exact⟨rfl,_,rfl⟩
 cases hc
theorem x0 {d:Value}{e:Int}(he:e≠0)(hj:CS Tryz.prog 45 [d] L fun v L'=>v=.tuple #[.pointer none,.int .i64 e]/\L'=L):CS Tryz.prog 10 [d] L fun u L'=>u=.tuple #[.pointer none,.int .i64 e]/\L'=L:=by
 refine yF Tryz.f10 ?_
 refine yX 6 ?_
 refine yA yH hj ?_
 rintro u L₁ ⟨rfl,e₁⟩
 subst e₁
 refine yX 9 ?_
 refine yI (jH he) ?_
 refine yV 1 ?_
 refine xC rfl ?_ ?_ <;> intro hc
 ·refine yX 6 ?_
  exact⟨rfl,rfl⟩
 cases hc
theorem C5:CS Tryz.prog 10 [.pointer none] L fun u L'=>u=.tuple #[.pointer none,.int .i64 2]/\L'=L :=
 x0 (by decide) (oI (by decide) (Ha _))
theorem C6 {s:Dk}(hs:s.ok)(hd:s.dead=false)(hi:dh s.D 1=zeros)(hr:(fh (dh s.D 0) s.n).2=false):CS Tryz.prog 10 [ptr rd] (dk rd rb s F) fun u L'=>u=.tuple #[.pointer none,.int .i64 4]/\L'=F:=by
 suffices g:CS Tryz.prog 10 [ptr rd] (dk rd rb s F) fun u L'=>u=.tuple #[.pointer none,.int .i64 4]/\∃ Y,L'=Y++F by
  exact g.less fun u L' ⟨h1,Y,h2⟩=>⟨F,by rw[h2];exact ar.suffix,h1,rfl⟩
 refine yF Tryz.f10 ?_
 refine yX 6 ?_
 refine yA yH (vq hs hd hi) ?_
 rintro u L' ⟨rj,Y,rfl,rfl⟩
 refine yX 15 ?_
 refine yA yH (Ce hs hd) ?_
 rintro u L' ⟨Y1,⟨_,rfl,rfl⟩|⟨h1,_⟩⟩
 rotate_left
 ·rw[hr]at h1;cases h1
 refine yV 13 ?_
 refine xC rfl ?_ ?_ <;> intro hc
 ·refine yX 6 ?_
  exact⟨rfl,Y1++((rj,.cells 134 [ptr rd])::(rd,ov rb s)::(rb,.cells 117 (ab s.D))::Y),by simp[jn,dk]⟩
 cases hc
end
theorem mi.disk {k:Kf}{q:Qs}{F L:RL}(h:mi k q F L):∃ R,ar (dk k.w.rd k.w.rb q.s R) L/\∀ s',∃ L',mi k { q with s:=s' } F L'/\ar L' (dk k.w.rd k.w.rb s' R):=by
 obtain⟨X,M,rp,ps,pk,vd,vu,cd,cu,Yd,Yu,htr,h1,h2,h3,h4,h5⟩:=h
 obtain⟨H,rfl,hH⟩:=htr.split
 refine⟨H++((k.ro,bO q.c.rt)::(k.rs,dM k.w q.c.root0 k.ro rp vd vu)::(rp,.map ps pk)::(Yd++(Yu++((k.w.rD,.cells 147 [ptr k.w.rj,.int .i64 (k.w.base:Nat),ptr k.w.rm])::(k.w.rj,.cells 134 [ptr k.w.rd])::fm k.w.rm k.w.rf q.T ((M++F)++X))))),?_,fun s'=>⟨_,⟨X,M,rp,ps,pk,vd,vu,cd,cu,Yd,Yu,hH ((k.ro,bO q.c.rt)::AL k.w k.rs (dM k.w q.c.root0 k.ro rp vd vu) rp ps pk Yd Yu s' q.T (M++F)),h1,h2,h3,h4,h5⟩,?_⟩⟩
 ·refine ar.sums fun f=>?_
  simp only[Kf.al,AL,bl,fm,jn,dk,List.map_append,List.map_cons,List.sum_append,List.sum_cons];omega
 refine ar.sums fun f=>?_
 simp only[AL,bl,fm,jn,dk,List.map_append,List.map_cons,List.sum_append,List.sum_cons];omega
theorem oL.cutAt {k:Kf}{q:Qs}{b m:Nat}{c d:Bool}(h:oL k q b)(hm:m<=9223372036854775807):oL k { q with s:=⟨q.s.n,q.s.D,q.s.wr,c,m,d⟩ } b:=by
 obtain⟨h1,h2,h3,h4,h5⟩:=h.dsk.ok.ok
 exact⟨h.act,h.good,h.good0,h.cnt0,h.dsk.disk ⟨h1,h2,h3,h4,hm⟩ rfl fun _ _ _=>rfl,h.n,h.base,h.tl,h.idle,h.hd,h.img,h.sl,h.ol,h.ul,h.b⟩
theorem jw {k:Kf}{n b w r:Nat}{S O:List Sv}{F L:RL}(h:W9 k n b w S O F L)(hr:n-fL n-(bZ O+bZ (S.filter (·.f)))=r):CS Tryz.prog 13 [ptr k.rs] L fun u L'=>u=.int .i64 (r:Nat)/\L'=L:=by
 rw[←hr];exact Hs h
theorem BQ {a v:Sv}(h:aq a.k v.k=true):iN v [a]=[a,v]:=by simp[iN,h,fH h]
theorem HZ {a v:Sv}(h:a.k=v.k):iN v [a]=[v]:=by simp[iN,h,j9]
theorem ke {c:UInt8}:p7 (List.replicate n c)=decide (63<n):=by simp[p7]
set_option maxHeartbeats 4000000 in
theorem Er:CS Tryz.prog 8 [] F fun u L'=>u=.bool true/\L'=F:=by
 suffices g:CS Tryz.prog 8 [] F fun u L'=>u=.bool true/\∃ k n b w S O,W9 k n b w S O F L' by
  refine g.less ?_
  rintro u L' ⟨h1,k,n,b,w,S,O,q,h2,_⟩
  obtain⟨R,h3,_⟩:=h2.frame
  exact⟨F,ar.trans (B:=F++R) (ar.sums2 R fun f=>by simp only[List.map_append,List.sum_append]) h3,h1,rfl⟩
 refine yF Tryz.f8 ?_
 refine yX 4 ?_
 refine yA yH (wY 512 (by decide) (by decide)) ?_
 rintro u L' ⟨rd,rb,rfl,rfl⟩
 refine yX 15 ?_
 refine yA yH (Bs (n:=512) (by decide) (by decide)) ?_
 rintro u L0 ⟨k,rfl,hk,h0⟩
 refine yX 12 ?_
 refine yA yH (Ht h0) ?_
 rintro u L' ⟨Y,rfl,gk⟩
 refine yX 1 ?_
 refine yP (az (show SV 1 (Y++L0) u 0 [] from gk.sv.mono fun p hp=>List.mem_append_left _ hp) rfl rfl rfl rfl rfl) ?_
 refine OS.sub ar.suffix ?_
 refine yX 4 ?_
 refine yA yH (Ew h0) ?_
 rintro u L₁ ⟨rfl,e₁⟩
 subst e₁
 refine yX 5 ?_
 refine yA yH (jw h0 (r:=195) rfl) ?_
 rintro u L₁ ⟨rfl,e₁⟩
 subst e₁
 refine yX 5 ?_
 refine yA yH (mE (key:=[97]) (data:=[120]) h0 ⟨by decide,by decide,by decide⟩ (by decide) (by decide) (by decide) (fun h=>by cases h)) ?_
 rintro u L1 ⟨rfl,va,a1,a2,a3,h1⟩
 have h1:W9 k 512 1 1000 [va] [] F L1:=h1
 refine yX 5 ?_
 refine yA yH (dr 300 98 (by decide)) ?_
 rintro u L₁ ⟨rfl,e₁⟩
 subst e₁
 have e300:aT (List.replicate 300 (98:UInt8)).length=3:=by rw[List.length_replicate];rfl
 have n1:bZ ([va].filter (·.f))=0:=by simp only[List.filter,a3,bZ,List.map,Sv.lg,a2];rfl
 refine yX 1 ?_
 refine yA yH (mE (key:=[98]) (data:=List.replicate 300 98) h1 ⟨by decide,by decide,by rw[List.length_replicate];decide⟩ (by decide) (by decide) (by simp) (fun _=>by rw[n1,e300];decide)) ?_
 rintro u L2 ⟨rfl,vb,b1,b2,b3,h2⟩
 rw[BQ (by rw[a1,b1];rfl)]at h2
 have n2:bZ ([va,vb].filter (·.f))=3:=by simp only[List.filter,a3,b3,bZ,List.map,Sv.lg,a2,b2,ke];rw[e300];rfl
 refine yX 5 ?_
 refine yA yH (jw h2 (r:=192) (by rw[n2];rfl)) ?_
 rintro u L₁ ⟨rfl,e₁⟩
 subst e₁
 refine yX 5 ?_
 refine yA yH (Hw h2) ?_
 rintro u L3 ⟨rfl,h3⟩
 refine yX 5 ?_
 refine yA yH (jw h3 (r:=195) rfl) ?_
 rintro u L₁ ⟨rfl,e₁⟩
 subst e₁
 refine yX 8 ?_
 refine yA yH (zX (key:=[97]) h3) ?_
 rintro u L4 ⟨rfl,h4⟩
 refine yX 12 ?_
 refine yA yH (dr 300 98 (by decide)) ?_
 rintro u L₁ ⟨rfl,e₁⟩
 subst e₁
 refine yX 1 ?_
 refine yA yH (mE (key:=[98]) (data:=List.replicate 300 98) h4 ⟨by decide,by decide,by rw[List.length_replicate];decide⟩ (by decide) (by decide) (by simp) (fun _=>by rw[e300];decide)) ?_
 rintro u L5 ⟨rfl,vc,c1,c2,c3,h5⟩
 have h5:W9 k 512 3 3000 [vc] [] F L5:=h5
 refine yX 5 ?_
 refine yA yH (oO h5 (by decide) (by simp)) ?_
 rintro u L6 ⟨rfl,h6⟩
 have h6:W9 k 512 3 3300 [{ vc with f:=false }] [{ vc with f:=false }] F L6:=h6
 refine yX 5 ?_
 have n6:bZ [{ vc with f:=false }]=3:=by simp only[bZ,List.map,Sv.lg,c2,ke];rw[e300];rfl
 refine yA yH (mE (key:=[98]) (data:=[120]) h6 ⟨by decide,by decide,by decide⟩ (by decide) (by decide) (by simp) (fun h=>by cases h)) ?_
 rintro u L7 ⟨rfl,vx,x1,x2,x3,h7⟩
 rw[HZ (by rw[x1];exact c1)]at h7
 have n7:bZ ([vx].filter (·.f))=0:=by simp only[List.filter,x3,bZ,List.map,Sv.lg,x2];rfl
 refine yX 5 ?_
 refine yA yH (jw h7 (r:=192) (by rw[n6,n7];rfl)) ?_
 rintro u L₁ ⟨rfl,e₁⟩
 subst e₁
 refine yX 5 ?_
 refine yA yH (oO h7 (by decide) (by simp)) ?_
 rintro u L8 ⟨rfl,h8⟩
 have h8:W9 k 512 4 4600 [{ vx with f:=false }] [{ vx with f:=false }] F L8:=h8
 have n8:bZ [{ vx with f:=false }]=0:=by simp only[bZ,List.map,Sv.lg,x2];rfl
 refine yX 5 ?_
 refine yA yH (jw h8 (r:=195) (by rw[n8];rfl)) ?_
 rintro u L₁ ⟨rfl,e₁⟩
 subst e₁
 refine yX 5 ?_
 refine yA yH (dr 50000 99 (by decide)) ?_
 rintro u L₁ ⟨rfl,e₁⟩
 subst e₁
 refine yX 1 ?_
 refine yA yH (Hu (key:=[99]) (data:=List.replicate 50000 99) h8 ⟨by decide,by decide,by rw[List.length_replicate];decide⟩ (by decide) (by decide) (by rw[ke];rfl) (by rw[n8,List.length_replicate];show 512-fL 512<0+bZ []+aT 50000;decide)) ?_
 rintro u L9 ⟨rfl,h9⟩
 refine yX 6 ?_
 have g9:eI [{ vx with f:=false }] [98]=some { vx with f:=false }:=by simp[eI,x1]
 refine yX 2 ?_
 refine yA yH (zX (key:=[98]) h9) ?_
 rintro u L10 ⟨rfl,h10⟩
 rw[g9]
 simp only[J5,x2]
 refine yX 17 ?_
 exact⟨rfl,k,_,_,_,_,_,h10⟩
theorem EW {b:Tx}{n:Nat}(h0:b≠zeros)(h1:b[0]?≠some 13):(fh b n).2=false:=by
 unfold fh
 rw[if_neg h0]
 refine decide_eq_false fun h=>h1 ?_
 rw[h]
 simp[kh,iQ,B9]
theorem Fc {a c v:Sv}(h1:aq a.k v.k=true)(h2:aq c.k v.k=true):iN v [a,c]=[a,c,v]:=by simp[iN,h1,h2,fH h1,fH h2]
theorem Hv {k:Kf}{n b w:Nat}{S O:List Sv}{F L:RL}{key:Tx}(h:W9 k n b w S O F L)(hk:eI S key=none):CS Tryz.prog 15 [ptr k.rs,bb key] L fun u L'=>u=.int .i64 5/\W9 k n b w S O F L':=by
 refine (Jz h).mono ?_
 rintro u L' ⟨rfl,g⟩
 rw[hk]
 rw[oy hk]at g
 exact⟨rfl,g⟩
theorem vC {k:Kf}{n b w:Nat}{S O:List Sv}{F L:RL}{key d:Tx}{v:Sv}(h:W9 k n b w S O F L)(hk:eI S key=some v)(hd:v.d=d):CS Tryz.prog 17 [ptr k.rs,bb key] L fun u L'=>u=.tuple #[bb d,.int .i64 0]/\W9 k n b w S O F L':=by
 refine (zX h).mono ?_
 rintro u L' ⟨rfl,g⟩
 rw[hk,←hd]
 exact⟨rfl,g⟩
theorem yx (n r:Nat)(h:n<=100000000000)(hr:aT n=r):CS Tryz.prog 14 [.int .i64 (n:Nat)] L fun v L'=>v=.int .i64 (r:Nat)/\L'=L:=by rw[←hr];exact qH n h
set_option maxHeartbeats 8000000 in
theorem Dp:CS Tryz.prog 3 [] F fun u _=>u=.bool true:=by
 refine yF Tryz.f3 ?_
 refine yX 4 ?_
 refine yA yH Er ?_
 rintro u F1 ⟨rfl,e₁⟩
 subst e₁
 refine yX 22 ?_
 refine yA yH (wY 2000 (by decide) (by decide)) ?_
 rintro u L' ⟨rd,rb,rfl,rfl⟩
 refine yX 9 ?_
 refine yA yH (Bs (n:=2000) (by decide) (by decide)) ?_
 rintro u L0 ⟨k,rfl,hk,h0⟩
 refine yX 7 ?_
 have e1:aT 131072=517:=by decide
 have e2:aT 64=2:=by decide
 have E1:aT (List.replicate 131072 (97:UInt8)).length=517:=by rw[List.length_replicate];exact e1
 have E2:aT (List.replicate 64 (99:UInt8)).length=2:=by rw[List.length_replicate];exact e2
 refine yX 5 ?_
 refine yA yH (zY (key:=[]) (data:=[120]) h0 (fun h=>absurd h.1 (by decide)) (by decide) (by decide) (by decide) (by decide)) ?_
 rintro u L1 ⟨rfl,h1⟩
 refine yX 5 ?_
 refine yA yH (dr 33 97 (by decide)) ?_
 rintro u L₁ ⟨rfl,e₁⟩
 subst e₁
 refine yX 1 ?_
 refine yA yH (zY (key:=List.replicate 33 97) (data:=[120]) h1 (fun h=>absurd h.2.1 (by rw[List.length_replicate];decide)) (by decide) (by decide) (by rw[List.length_replicate];decide) (by decide)) ?_
 rintro u L2 ⟨rfl,h2⟩
 refine yX 5 ?_
 refine yA yH (dr 131073 97 (by decide)) ?_
 rintro u L₁ ⟨rfl,e₁⟩
 subst e₁
 refine yX 1 ?_
 refine yA yH (zY (key:=[97]) (data:=List.replicate 131073 97) h2 (fun h=>absurd h.2.2 (by rw[List.length_replicate];decide)) (by decide) (by decide) (by decide) (by rw[List.length_replicate];decide)) ?_
 rintro u L3 ⟨rfl,h3⟩
 refine yX 5 ?_
 refine yA yH (dr 131072 97 (by decide)) ?_
 rintro u L₁ ⟨rfl,e₁⟩
 subst e₁
 refine yX 1 ?_
 refine yA yH (mE (key:=[97]) (data:=List.replicate 131072 97) h3 ⟨by decide,by decide,by rw[List.length_replicate];decide⟩ (by decide) (by decide) (by decide) (fun _=>by rw[E1];decide)) ?_
 rintro u L4 ⟨rfl,va,a1,a2,a3,h4⟩
 have h4:W9 k 2000 1 1000 [va] [] F1 L4:=h4
 have na:bZ ([va].filter (·.f))=517:=by simp only[List.filter,a3,bZ,List.map,Sv.lg,a2,ke];rw[E1];rfl
 refine yX 5 ?_
 refine yA yH (dr 32 97 (by decide)) ?_
 rintro u L₁ ⟨rfl,e₁⟩
 subst e₁
 refine yX 1 ?_
 refine yA yH (dr 63 98 (by decide)) ?_
 rintro u L₁ ⟨rfl,e₁⟩
 subst e₁
 refine yX 1 ?_
 refine yA yH (mE (key:=List.replicate 32 97) (data:=List.replicate 63 98) h4 ⟨by rw[List.length_replicate];decide,by rw[List.length_replicate];decide,by rw[List.length_replicate];decide⟩ (by decide) (by decide) (by simp) (fun h=>by rw[ke]at h;cases h)) ?_
 rintro u L5 ⟨rfl,vb,b1,b2,b3,h5⟩
 rw[BQ (by rw[a1,b1];rfl)]at h5
 have nb:bZ ([va,vb].filter (·.f))=517:=by simp only[List.filter,a3,b3,bZ,List.map,Sv.lg,a2,b2,ke];rw[E1];rfl
 refine yX 5 ?_
 refine yA yH (dr 64 99 (by decide)) ?_
 rintro u L₁ ⟨rfl,e₁⟩
 subst e₁
 refine yX 1 ?_
 refine yA yH (mE (key:=[99]) (data:=List.replicate 64 99) h5 ⟨by decide,by decide,by rw[List.length_replicate];decide⟩ (by decide) (by decide) (by simp) (fun _=>by rw[nb,E2];decide)) ?_
 rintro u L6 ⟨rfl,vc,c1,c2,c3,h6⟩
 rw[Fc (by rw[a1,c1];rfl) (by rw[b1,c1];rfl)]at h6
 have nc:bZ ([va,vb,vc].filter (·.f))=519:=by simp only[List.filter,a3,b3,c3,bZ,List.map,Sv.lg,a2,b2,c2,ke];rw[E1,E2];rfl
 refine yX 5 ?_
 refine yA yH (jw h6 (r:=420) (by rw[nc];rfl)) ?_
 rintro u L₁ ⟨rfl,e₁⟩
 subst e₁
 refine yX 1 ?_
 refine yA yH (yx 131072 517 (by decide) e1) ?_
 rintro u L₁ ⟨rfl,e₁⟩
 subst e₁
 refine yX 2 ?_
 refine yA yH (yx 64 2 (by decide) e2) ?_
 rintro u L₁ ⟨rfl,e₁⟩
 subst e₁
 refine yX 6 ?_
 refine yA yH (Hv (key:=[122]) h6 (by simp[eI,a1,b1,c1])) ?_
 rintro u L7 ⟨rfl,h7⟩
 refine yX 5 ?_
 refine yA yH (oO h7 (by decide) (by simp)) ?_
 rintro u L8 ⟨rfl,h8⟩
 refine yX 8 ?_
 refine yA yH (vC (key:=[97]) (v:={ va with f:=false }) h8 (by simp[eI,me,a1]) a2) ?_
 rintro u L9 ⟨rfl,h9⟩
 refine yX 9 ?_
 refine yA yH (dr 32 97 (by decide)) ?_
 rintro u L₁ ⟨rfl,e₁⟩
 subst e₁
 refine yX 1 ?_
 refine yA yH (vC (key:=List.replicate 32 97) (v:={ vb with f:=false }) h9 (by simp[eI,me,a1,b1]) b2) ?_
 rintro u L10 ⟨rfl,h10⟩
 refine yX 9 ?_
 refine yA yH (vC (key:=[99]) (v:={ vc with f:=false }) h10 (by simp[eI,me,a1,b1,c1]) c2) ?_
 rintro u L11 ⟨rfl,h11⟩
 refine yX 12 ?_
 refine yA yH (dr 131072 97 (by decide)) ?_
 rintro u L₁ ⟨rfl,e₁⟩
 subst e₁
 refine yX 1 ?_
 refine yI (lh (List.replicate 131072 97)) ?_
 refine yX 7 ?_
 refine yA yH (dr 63 98 (by decide)) ?_
 rintro u L₁ ⟨rfl,e₁⟩
 subst e₁
 refine yX 1 ?_
 refine yI (lh (List.replicate 63 98)) ?_
 refine yX 7 ?_
 refine yA yH (dr 64 99 (by decide)) ?_
 rintro u L₁ ⟨rfl,e₁⟩
 subst e₁
 refine yX 1 ?_
 refine yI (lh (List.replicate 64 99)) ?_
 refine yX 4 ?_
 obtain⟨q,g1,hI,g3,g4,g5,g6,g7,g8,g9,g10⟩:=h11
 obtain⟨R,d1,d2⟩:=g1.disk
 obtain⟨L12,g12,d3⟩:=d2 ⟨q.s.n,q.s.D,q.s.wr,true,0,q.s.dead⟩
 rw[hk]at d1 d3
 refine yX 2 ?_
 refine OS.sub d1 ?_
 refine yA yH (KH g7 0 (by decide)) ?_
 rintro u L' ⟨rfl,rfl⟩
 refine yX 1 ?_
 refine OS.sub d3 ?_
 refine yX 3 ?_
 refine yA yH (dr 100 100 (by decide)) ?_
 rintro u L₁ ⟨rfl,e₁⟩
 subst e₁
 have hfw:=wQ g5
 rw[cR,g3,hI.n,g9]at hfw
 have htl:=W9.tl hI g3 g4 g9
 have nz:bZ (me [va,vb,vc])=519:=by simp only[me,bZ,List.map,Sv.lg,a2,b2,c2,ke];rw[E1,E2];rfl
 rw[nz]at htl
 have htl2:frees q.T=420:=by
  have:bZ ((me [va,vb,vc]).filter (·.f))=0:=rfl
  rw[this]at htl
  have:2000-fL 2000=939:=rfl
  omega
 have e100:aT (List.replicate 100 (100:UInt8)).length=2:=by rw[List.length_replicate];rfl
 refine yX 1 ?_
 refine yA yH (ql (key:=[100]) (data:=List.replicate 100 100) g12 (hI.cutAt (m:=0) (by decide)) (by decide) g7 (by show q.s.wr<=_;omega) (by decide) (by rw[List.length_replicate];decide)) ?_
 rintro u L13 hput
 have hpost:u=.int .i64 20/\mi k { q with s:=Kn ⟨q.s.n,q.s.D,q.s.wr,true,0,q.s.dead⟩ k.w.base q.T (aT (List.replicate 100 (100:UInt8)).length) (List.replicate 100 100) } F1 L13:=by
  rcases hput with ⟨hno,_⟩|⟨_,hfull,_⟩|⟨_,_,hroom,_⟩|⟨_,_,_,_,_,_,rfl,g⟩
  ·exact absurd ⟨by decide,by decide,by rw[List.length_replicate];decide⟩ hno
  ·exfalso
   rcases hfull with hf|⟨_,hf⟩
   ·have hl:(me [va,vb,vc]).length=3:=rfl
    rw[hl]at hfw
    have:q.c.N=(q.s.n-122)/2:=hI.n
    rw[g9]at this
    simp only at hf
    rw[this]at hf
    omega
   simp only at hf
   rw[e100]at hf;omega
  ·have:=(hroom (by rw[ke];rfl)).2 rfl
   rw[e100]at this
   simp at this
  exact⟨rfl,g⟩
 obtain⟨rfl,g13⟩:=hpost
 have hr:CS Tryz.prog 54 [ptr k.rs] L13 fun u L'=>u=.int .i64 20/\L'=L13:=g13.refusal
 refine yX 5 ?_
 refine yA yH (qV hr (by decide)) ?_
 rintro u L₁ ⟨rfl,e₁⟩
 subst e₁
 refine yX 5 ?_
 refine yA yH (ya hr (by decide)) ?_
 rintro u L₁ ⟨rfl,e₁⟩
 subst e₁
 refine yX 5 ?_
 refine yA yH (BL hr (by decide)) ?_
 rintro u L₁ ⟨rfl,e₁⟩
 subst e₁
 refine yX 8 ?_
 refine yA yH (BK hr (by decide)) ?_
 rintro u L₁ ⟨rfl,e₁⟩
 subst e₁
 refine yX 7 ?_
 obtain⟨R2,d4,_⟩:=g13.disk
 rw[hk]at d4
 refine yX 2 ?_
 refine OS.sub d4 ?_
 refine yA yH (x0 (e:=20) (by decide) (oI (by decide) (D9 rfl _))) ?_
 rintro u L₁ ⟨rfl,e₁⟩
 subst e₁
 refine yX 8 ?_
 refine yA yH C5 ?_
 rintro u L₁ ⟨rfl,e₁⟩
 subst e₁
 refine yX 8 ?_
 refine yA yH (wY 512 (by decide) (by decide)) ?_
 rintro u L' ⟨rd2,rb2,rfl,rfl⟩
 refine yX 7 ?_
 have hs0:(⟨512,List.replicate (512*256) 0,0,false,0,false⟩:Dk).ok:=⟨List.length_replicate ..,by decide,by decide,by decide,by decide⟩
 have hD0:(List.replicate (512*256) (0:UInt8)).length=512*256:=List.length_replicate ..
 have hb1:(List.replicate 256 (1:UInt8)).length=256:=List.length_replicate ..
 refine yX 2 ?_
 refine yA yH (dr 256 1 (by decide)) ?_
 rintro u L₁ ⟨rfl,e₁⟩
 subst e₁
 refine yX 1 ?_
 refine yM (Cu rfl rfl rfl rfl rfl (by rw[List.length_replicate];decide) rfl) fun rbs=>?_
 refine OS.sub (ar.pulls [2,2] rfl) ?_
 refine yA yH (zL hs0 rfl (fun h=>by cases h) 0 (by decide) (bs:=List.replicate 256 1) (SV.row (n:=256) (List.mem_cons_self ..) (by rw[ao,hb1]))) ?_
 rintro u L' ⟨rfl,rfl⟩
 refine yX 5 ?_
 have hz1:dh (List.replicate (512*256) (0:UInt8)) 1=zeros:=by unfold dh;rw[List.drop_replicate,List.take_replicate];rfl
 refine yX 2 ?_
 refine yA yH (C6 (s:=⟨512,put (List.replicate (512*256) 0) 0 (List.replicate 256 1),1,false,0,false⟩) ⟨nI hD0 (by decide) hb1,by decide,by decide,by decide,by decide⟩ rfl (by rw[tq hD0 (by decide) hb1 (by decide)];exact hz1) (by rw[oC hD0 (by decide) hb1];exact EW (fun h=>by have:=congrArg (fun l:Tx=>l[0]?) h;simp at this) (by simp))) ?_
 rintro u L' ⟨rfl,rfl⟩
 refine yX 12 ?_
 refine yA yH (BK fF (by decide)) ?_
 rintro u L₁ ⟨rfl,e₁⟩
 subst e₁
 refine yX 9 ?_
 refine yA yH Aj ?_
 rintro u L₁ ⟨rfl,e₁⟩
 subst e₁
 refine yX 1 ?_
 refine yN fun r24=>?_
 refine yV 2 ?_
 refine LS.drawn noGo mixed [(0,false),(1,false),(2,false),(3,false),(4,false),(5,false),(6,false),(7,false),(8,false),(9,false),(10,false),(11,false),(12,false),(13,false),(14,false),(15,false),(16,false),(17,false),(18,false),(19,false),(20,false),(21,false),(22,false),(23,false),(24,false),(25,false),(26,false),(27,false),(28,false),(29,false),(30,false),(31,false),(32,false),(33,false),(34,false),(35,false),(36,false),(37,false),(38,false),(39,false),(40,false),(41,false),(42,false),(43,false),(44,false),(45,false),(46,false),(47,false),(48,false),(49,false),(50,false),(51,false),(52,false),(53,false),(54,false),(55,false),(56,false),(57,false),(58,false),(59,false),(60,false),(61,false),(62,false),(63,false),(64,false),(65,false),(66,false)] rfl rfl (by kernel_rfl) ?_
 refine yX 20 ?_
 refine ba.still rfl rfl (fun _=>rfl) (CQ.still ((HM fF (by decide)).mono fun u L' h=>⟨h.1,by rw[h.1];rfl⟩) rfl) rfl ?_
 refine yX 4 ?_
 refine ba.still rfl rfl (fun _=>rfl) (CQ.still ((BL fF (by decide)).mono fun u L' h=>⟨h.1,by rw[h.1];rfl⟩) rfl) rfl ?_
 refine yX 4 ?_
 refine ba.still rfl rfl (fun _=>rfl) (CQ.still ((qV fF (by decide)).mono fun u L' h=>⟨h.1,by rw[h.1];rfl⟩) rfl) rfl ?_
 refine yX 4 ?_
 refine ba.still rfl rfl (fun _=>rfl) (CQ.still ((ya fF (by decide)).mono fun u L' h=>⟨h.1,by rw[h.1];rfl⟩) rfl) rfl ?_
 refine yX 4 ?_
 refine ba.still rfl rfl (fun _=>rfl) (CQ.still ((Ak).mono fun u L' h=>⟨h.1,by rw[h.1];rfl⟩) rfl) rfl ?_
 refine yX 1 ?_
 refine ba.still rfl rfl (fun _=>rfl) (CQ.still ((C3).mono fun u L' h=>⟨h.1,by rw[h.1];rfl⟩) rfl) rfl ?_
 refine yX 2 ?_
 refine ba.still rfl rfl (fun _=>rfl) (CQ.still ((C7).mono fun u L' h=>⟨h.1,by rw[h.1];rfl⟩) rfl) rfl ?_
 refine yX 23 ?_
 rfl
end Go.Proofs.YtoaojmobnbbnmaaGreat
