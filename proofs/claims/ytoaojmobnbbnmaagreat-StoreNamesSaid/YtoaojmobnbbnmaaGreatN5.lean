/- What the proofs lean on, part 5. -/
import Derived.Test.YtoaojmobnbbnmaaGreatN4
set_option linter.all false
set_option maxRecDepth 20000
set_option maxHeartbeats 1000000
namespace Go.Proofs.YtoaojmobnbbnmaaGreat
open Go.Am
theorem JR:∀ {h:Nat} {a b:Tr h} {k:Tx},cQ h a->cQ h b->aQ (bN (nd h a) k (nd h b))=true->cQ h (uz h a k b)
 | 0,a,b,k,ha,hb,hf=>by
  obtain⟨p,ks,vs,rfl⟩:=br a
  obtain⟨p',ks',vs',rfl⟩:=br b
  refine⟨by rw[wq];exact hf,?_⟩
  show ks++ks'≠[]
  have:=(B3.1 ha).2
  simp[this]
 | h+1,a,b,k,ha,hb,hf=>by
  obtain⟨p,ks,ts,rfl⟩:=aO a
  obtain⟨p',ks',ts',rfl⟩:=aO b
  refine⟨by rw[wq];exact hf,fun s hs=>?_⟩
  have hs':s∈ts++ts':=hs
  rcases List.mem_append.1 hs' with h1|h1
  ·exact ha.kid s h1
  exact hb.kid s h1
variable{h:Nat}
theorem Ic {L R:List (Tr h)}{a b:Tr h}:(bx (aV (L++a::b::R)))[L.length+1]?=some (.int .i64 ((no h b:Nat):Int)):=by simp[bx,aV]
variable{A B:List Tx}
theorem JC {k:Tx}{j:Nat}(h:A.length=j):(tx (A++k::B))[j]?=some (bb k):=by subst h;simp[tx]
theorem Gh {N:Nat}{m:da}{pa pb p:Nat}{na nb np x y:Nd}(h1:m pa=some na)(h2:m pb=some nb)(h3:m p=some np)(hab:pa≠pb)(hap:p≠pa)(hbp:p≠pb)(d1:pa<N)(d2:pb<N)(d3:p<N) :
  cq N m<=cq N (aD (aD (aD m pa (some x)) pb none) p (some y)):=by
 have e1:=i6 (m:=m) (o:=some x) d1
 have e2:=i6 (m:=aD m pa (some x)) (o:=none) d2
 have e3:=i6 (m:=aD (aD m pa (some x)) pb none) (o:=some y) d3
 have g2:aD m pa (some x) pb=some nb:=by unfold aD;rw[if_neg (fun h=>hab h.symm),h2]
 have g3:aD (aD m pa (some x)) pb none p=some np:=by unfold aD;rw[if_neg hbp,if_neg hap,h3]
 rw[h1]at e1
 rw[g2]at e2
 rw[g3]at e3
 simp at e1 e2 e3
 omega
variable{c:jt}{G X:RL}
theorem TR.now {s:fD}{L:RL}(h:TR c G X s L):∃ T es ck ws wk g,L=HD c.rf c.rb c.rt c.rn c.rw T s.root s.cnt c.root0 c.cnt0 es ck ws wk (G++X)/\T.length=c.N/\Pg X T es ck ws wk s.m c.m0/\MP es ck g/\iK X g s.m:=by
 obtain⟨T,es,ck,ws,wk,hN,rfl,hp⟩:=h
 obtain⟨g,hg,hmr⟩:=hp.now
 exact⟨T,es,ck,ws,wk,g,rfl,hN,hp,hg,hmr⟩
set_option maxHeartbeats 4000000 in
theorem i4 (seam:G9 h):CN h:=by
 intro c G X s rows p ks ts i htr hloc hi1 hi2
 suffices g:CS Tryz.prog 224 [ptr c.rt,.int .i64 (p:Nat),.int .i64 i] rows fun u L'=>∃ x,vr c (x::G) X s p ks ts i u L' by
  exact g.less fun u L' ⟨x,hj⟩=>hj.pop
 obtain⟨T,es,ck,ws,wk,g,rfl,hN,hp,hg,hmr⟩:=htr.now
 obtain⟨r,hgr0,v1,v2,v3,hr,hP⟩:=(hmr p).2 _ hloc.top
 have hgr:(g p).getD (.pointer none)=ptr r:=by rw[hgr0];rfl
 have sp:=hp.sm _ _ hloc.top
 refine CS.mk (fn:=Tryz.f224) rfl rfl rfl rfl ?_
 repeat refine xQ ?_
 refine xG rfl ?_
 refine OS.fresh rfl (gH (v:=.int .i64 i) (cs:=[.int .i64 i]) rfl rfl rfl rfl rfl) (fun _=>rfl) (fun r5=>?_)
 refine xP rfl yH rfl ?_
 refine OS.sub ar.inQ ?_
 refine xN ?_
 have hXB:∀ q,q∈X->q∈HD c.rf c.rb c.rt c.rn c.rw T s.root s.cnt c.root0 c.cnt0 es ck ws wk ((r5,aS i)::(G++X)):=fun q hq=>by simp[hq]
 have m1:=hXB _ hr
 have N1:=hP.nv sp hXB
 simp only at N1 m1
 repeat refine xQ ?_
 refine xG rfl ?_
 iterate 4 refine xP rfl yH rfl ?_
 refine xR rfl (aA 2 rfl rfl rfl rfl rfl) rfl ?_
 refine xP rfl yH rfl ?_
 refine xR rfl (cb hg (by simp) rfl rfl rfl rfl (fun _=>rfl) rfl) rfl ?_
 rw[hgr]
 refine xP rfl yH rfl ?_
 refine xN ?_
 repeat refine xQ ?_
 refine LS.drawn noGo mixed [(0,false),(1,false),(2,false),(3,false),(4,false),(5,false),(6,false),(7,false),(8,false),(9,false),(10,false),(11,false)] rfl rfl (by kernel_rfl) ?_
 refine xE rfl rfl (aA 5 rfl rfl rfl rfl rfl) rfl ?_
 by_cases hneg:i<0
 ·have hb:(!av 0 i)=true:=by rw[am,decide_eq_false (by omega)];rfl
  refine xD rfl rfl (lB yH (hb)) rfl ?_
  refine xD rfl rfl yH rfl ?_
  iterate 8 refine xS rfl rfl rfl ?_
  refine xD rfl rfl yH rfl ?_
  refine xM ?_
  repeat refine xQ ?_
  refine xC rfl (fun hc=>?_) (fun hc=>?_)
  ·repeat refine xQ ?_
   refine xG rfl ?_
   refine xP rfl yH rfl ?_
   refine xN ?_
   refine xT ⟨_,fun _ _=>rfl,?_⟩
   exact⟨(r5,aS i),.inl ⟨rfl,⟨T,es,ck,ws,wk,hN,rfl,hp⟩,NJ.neg hneg⟩⟩
  cases hc
 have hb:(!av 0 i)=false:=by rw[am,decide_eq_true (by omega)];rfl
 refine xD rfl rfl (lB yH (hb)) rfl ?_
 refine xD rfl rfl yH rfl ?_
 refine xE rfl rfl (aA 5 rfl rfl rfl rfl rfl) rfl ?_
 refine xD rfl rfl (a8 (n:=1) rfl rfl rfl (ak (by omega) (by omega))) rfl ?_
 iterate 3 refine xD rfl rfl yH rfl ?_
 refine xE rfl rfl (aa m1 rfl rfl rfl rfl) rfl ?_
 refine xD rfl rfl (az N1.z rfl rfl rfl rfl rfl) rfl ?_
 by_cases hfar:(ts.length:Int)<=i+1
 ·have hb:av ((aV ts).length:Nat) (i+1)=true:=by rw[am,j5];exact decide_eq_true hfar
  refine xD rfl rfl (lB yH (hb)) rfl ?_
  refine xD rfl rfl yH rfl ?_
  refine xM ?_
  repeat refine xQ ?_
  refine xC rfl (fun hc=>?_) (fun hc=>?_)
  ·repeat refine xQ ?_
   refine xG rfl ?_
   refine xP rfl yH rfl ?_
   refine xN ?_
   refine xT ⟨_,fun _ _=>rfl,?_⟩
   exact⟨(r5,aS i),.inl ⟨rfl,⟨T,es,ck,ws,wk,hN,rfl,hp⟩,NJ.far hfar⟩⟩
  cases hc
 have hb:av ((aV ts).length:Nat) (i+1)=false:=by rw[am,j5];exact decide_eq_false hfar
 refine xD rfl rfl (lB yH (hb)) rfl ?_
 refine xD rfl rfl yH rfl ?_
 refine xM ?_
 repeat refine xQ ?_
 refine xC rfl (fun hc=>?_) (fun hc=>?_)
 ·cases hc
 refine LS.skip ?_
 obtain⟨j,rfl⟩:=Int.eq_ofNat_of_zero_le (show 0<=i by omega)
 have hbg:=hloc.bg (by intro hh;rw[hh]at hfar;simp at hfar;omega)
 obtain⟨A,k,B,L,a,b,R,rfl,rfl,hA,hL⟩:=EO (j:=j) (pI hbg) (by omega)
 subst hL
 have oka:=hloc.ok a (by simp)
 have okb:=hloc.ok b (by simp)
 have hma:=hloc.kid (s:=a) (by simp)
 have hmb:=hloc.kid (s:=b) (by simp)
 obtain⟨ra,hga,va1,va2,va3,hra,hPa⟩:=(hmr (no h a)).2 _ hma
 obtain⟨rb,hgb,vb1,vb2,vb3,hrb,hPb⟩:=(hmr (no h b)).2 _ hmb
 have ega:(g (no h a)).getD (.pointer none)=ptr ra:=by rw[hga];rfl
 have egb:(g (no h b)).getD (.pointer none)=ptr rb:=by rw[hgb];rfl
 have hna:=hPa.nv (dy oka.fits) hXB
 have hnb:=hPb.nv (dy okb.fits) hXB
 have mra:=hXB _ hra
 have hkl:k.length<=32:=jl hbg.may k (by simp)
 have hsm:=HJ (k:=k) oka.fits okb.fits hkl
 repeat refine xQ ?_
 refine LS.drawn noGo mixed [(0,false),(1,false),(2,false),(3,false),(4,false),(5,false),(6,false),(7,false),(8,false),(9,false),(10,false),(11,false),(12,false),(13,false),(14,false),(15,false),(16,false)] rfl rfl (by kernel_rfl) ?_
 iterate 3 refine xD rfl rfl yH rfl ?_
 refine xE rfl rfl (aa m1 rfl rfl rfl rfl) rfl ?_
 refine xE rfl rfl (aA 5 rfl rfl rfl rfl rfl) rfl ?_
 refine ba.at1 (j:=L.length) (N1.z) (AC) rfl rfl rfl rfl rfl rfl rfl (fun ra0 oa0 rowa0 csa0 ma0 ca0 ga0=>⟨_,rfl,?_⟩)
 refine xE rfl rfl (aa ma0 ca0 rfl rfl (ap rfl ga0)) rfl ?_
 iterate 3 refine xD rfl rfl yH rfl ?_
 refine xE rfl rfl (aa m1 rfl rfl rfl rfl) rfl ?_
 refine xE rfl rfl (aA 5 rfl rfl rfl rfl rfl) rfl ?_
 refine xD rfl rfl (aW (n:=1) rfl rfl rfl (ak (by omega) (by omega))) rfl ?_
 refine ba.at1 (j:=L.length+1) (N1.z) (Ic) rfl rfl rfl rfl rfl rfl rfl (fun ra1 oa1 rowa1 csa1 ma1 ca1 ga1=>⟨_,rfl,?_⟩)
 refine xE rfl rfl (aa ma1 ca1 rfl rfl (ap rfl ga1)) rfl ?_
 iterate 2 refine xD rfl rfl yH rfl ?_
 refine xM ?_
 repeat refine xQ ?_
 refine LS.mid [0,1,5,7,8,9,10] (fun a' L'=>∃ r10 w1 w2 w3 Y1 Y2 Y3,GV 9 1 [] w1 (bN (nd h a) k (nd h b)).ks.length (tx (bN (nd h a) k (nd h b)).ks) Y1/\GV 9 1 [] w2 (bN (nd h a) k (nd h b)).vs.length (tx (bN (nd h a) k (nd h b)).vs) Y2/\GV 3 1 [] w3 (bN (nd h a) k (nd h b)).kids.length (bx (bN (nd h a) k (nd h b)).kids) Y3 /\
  L'=HD c.rf c.rb c.rt c.rn c.rw T s.root s.cnt c.root0 c.cnt0 es ck ws wk (((r5,aS (L.length:Nat))::G)++((r10,an (nd h a).leaf w1 w2 w3)::(Y3++(Y2++(Y1++X)))))/\a'=[ptr c.rt,.int .i64 (p:Nat),yC,yC,yC,ptr r5,yC,ptr r,.int .i64 (no h a:Nat),.int .i64 (no h b:Nat),ptr r10,yC,yC,yC,yC,yC,yC,yC,yC,yC,yC,yC,yC,yC,yC,yC,yC,yC,yC,yC,yC,yC,yC,yC,yC,yC,yC,yC,yC,yC,yC,yC,yC,yC,yC,yC,yC,yC,yC,yC,yC,yC,yC,yC,yC,yC,yC,yC,yC,yC,yC,yC,yC,yC,yC,yC,yC,yC,yC,yC,yC,yC,yC,yC,yC,yC,yC,yC,yC,yC,yC,yC,yC,yC,yC,yC,yC,yC,yC,yC,yC,yC,yC,yC,yC,yC,yC,yC,yC,yC,yC,yC,yC]) ?_ ?_
 ·have m5:(r5,aS (L.length:Nat))∈HD c.rf c.rb c.rt c.rn c.rw T s.root s.cnt c.root0 c.cnt0 es ck ws wk ((r5,aS (L.length:Nat))::(G++X)):=by simp
  have mrt:(c.rt,bS c.rf c.rn c.rw s.root s.cnt c.root0 c.cnt0)∈HD c.rf c.rb c.rt c.rn c.rw T s.root s.cnt c.root0 c.cnt0 es ck ws wk ((r5,aS (L.length:Nat))::(G++X)):=by simp
  have mmap:(c.rn,aG.map es ck)∈HD c.rf c.rb c.rt c.rn c.rw T s.root s.cnt c.root0 c.cnt0 es ck ws wk ((r5,aS (L.length:Nat))::(G++X)):=by simp
  repeat refine xQ ?_
  refine LS.forked noGo mixed 24 rfl rfl (by kernel_rfl) ?_
  refine ee.pure 0 (by kernel_rfl) rfl rfl (fun _=>rfl) rfl ?_
  refine ee.pure 1 (by kernel_rfl) rfl rfl (fun _=>rfl) rfl ?_
  refine ee.pure 2 (by kernel_rfl) rfl rfl (fun _=>rfl) rfl ?_
  refine ee.pure 3 (by kernel_rfl) rfl rfl (fun _=>rfl) rfl ?_
  refine ee.read 4 (by kernel_rfl) rfl rfl (aa mrt rfl rfl rfl rfl) rfl ?_
  refine ee.pure 5 (by kernel_rfl) rfl rfl (fun _=>rfl) rfl ?_
  refine ee.read 6 (by kernel_rfl) rfl rfl (cb hg mmap rfl rfl rfl rfl (fun _=>rfl) rfl) rfl ?_
  rw[ega]
  refine ee.pure 7 (by kernel_rfl) rfl rfl (fun _=>rfl) rfl ?_
  refine ee.pure 8 (by kernel_rfl) rfl rfl (fun _=>rfl) rfl ?_
  refine ee.pure 9 (by kernel_rfl) rfl rfl (fun _=>rfl) rfl ?_
  refine ee.read 10 (by kernel_rfl) rfl rfl (aa m1 rfl rfl rfl rfl) rfl ?_
  refine ee.read 11 (by kernel_rfl) rfl rfl (aa m5 rfl rfl rfl rfl) rfl ?_
  refine ee.at1 (j:=L.length) 12 (by kernel_rfl) (N1.k) (JC hA) rfl rfl rfl rfl rfl rfl rfl (fun ra0 oa0 rowa0 csa0 ma0 ca0 ga0=>⟨_,rfl,?_⟩)
  refine ee.read 13 (by kernel_rfl) rfl rfl (aa ma0 ca0 rfl rfl (ap rfl ga0)) rfl ?_
  refine ee.pure 14 (by kernel_rfl) rfl rfl (fun _=>rfl) rfl ?_
  refine ee.pure 15 (by kernel_rfl) rfl rfl (fun _=>rfl) rfl ?_
  refine ee.pure 16 (by kernel_rfl) rfl rfl (fun _=>rfl) rfl ?_
  refine ee.pure 17 (by kernel_rfl) rfl rfl (fun _=>rfl) rfl ?_
  refine ee.read 18 (by kernel_rfl) rfl rfl (aa mrt rfl rfl rfl rfl) rfl ?_
  refine ee.pure 19 (by kernel_rfl) rfl rfl (fun _=>rfl) rfl ?_
  refine ee.read 20 (by kernel_rfl) rfl rfl (cb hg mmap rfl rfl rfl rfl (fun _=>rfl) rfl) rfl ?_
  rw[egb]
  refine ee.turn2 21 22 (by kernel_rfl) (by kernel_rfl) ?_ ?_
  ·refine OT.call rfl rfl (fun _=>rfl) ((uL (X:=X) hXB ⟨va1,va2,va3,hra,hPa⟩ ⟨vb1,vb2,vb3,hrb,hPb⟩ (dy oka.fits) (dy okb.fits)).mono ?_)
   rintro u L' ⟨w1,w2,w3,Y1,Y2,Y3,rfl,rfl,g1,g2,g3⟩
   have hB:∀ q,q∈HD c.rf c.rb c.rt c.rn c.rw T s.root s.cnt c.root0 c.cnt0 es ck ws wk ((r5,aS (L.length:Nat))::(G++X))->q∈Y3++(Y2++(Y1++HD c.rf c.rb c.rt c.rn c.rw T s.root s.cnt c.root0 c.cnt0 es ck ws wk ((r5,aS (L.length:Nat))::(G++X)))):=fun q hq=>List.mem_append_right Y3 (List.mem_append_right Y2 (List.mem_append_right Y1 hq))
   refine⟨_,rfl,(by repeat (first|exact ai.nil|refine ai.gone rfl ?_|refine ai.cons rfl (aa (hB _ mrt) rfl rfl rfl rfl) ?_|refine ai.cons rfl (aa (hB _ m5) rfl rfl rfl rfl) ?_|refine ai.cons rfl (aa (hB _ m1) rfl rfl rfl rfl) ?_|refine ai.cons rfl (aa (hB _ ma0) ca0 rfl rfl (ap rfl ga0)) ?_|refine ai.cons rfl (iz (cb hg (hB _ mmap) rfl rfl rfl rfl (fun _=>rfl) rfl) ega) ?_|refine ai.cons rfl (iz (cb hg (hB _ mmap) rfl rfl rfl rfl (fun _=>rfl) rfl) egb) ?_)),?_⟩
   refine ee.turn1 22 (by kernel_rfl) (by kernel_rfl) (OT.fresh rfl rfl (dG (fun _=>rfl) rfl) (fun _=>rfl) (fun r10=>?_) (fun r10=>?_))
   ·have hB:=fun q hq=>List.mem_cons_of_mem (r10,dL) (hB q hq)
    exact (by repeat (first|exact ai.nil|refine ai.gone rfl ?_|refine ai.cons rfl (aa (hB _ mrt) rfl rfl rfl rfl) ?_|refine ai.cons rfl (aa (hB _ m5) rfl rfl rfl rfl) ?_|refine ai.cons rfl (aa (hB _ m1) rfl rfl rfl rfl) ?_|refine ai.cons rfl (aa (hB _ ma0) ca0 rfl rfl (ap rfl ga0)) ?_|refine ai.cons rfl (iz (cb hg (hB _ mmap) rfl rfl rfl rfl (fun _=>rfl) rfl) ega) ?_|refine ai.cons rfl (iz (cb hg (hB _ mmap) rfl rfl rfl rfl (fun _=>rfl) rfl) egb) ?_))
   have hB:=fun q hq=>List.mem_cons_of_mem (r10,an (nd h a).leaf w1 w2 w3) (hB q hq)
   refine ee.turn1 23 (by kernel_rfl) (by kernel_rfl) (OT.write rfl rfl (ax 0 (n:=4) rfl rfl rfl rfl rfl (dd (bC g1.sv) (bC g2.sv) (bC g3.sv)) rfl rfl) rfl (by repeat (first|exact ai.nil|refine ai.gone rfl ?_|refine ai.cons rfl (aa (hB _ mrt) rfl rfl rfl rfl) ?_|refine ai.cons rfl (aa (hB _ m5) rfl rfl rfl rfl) ?_|refine ai.cons rfl (aa (hB _ m1) rfl rfl rfl rfl) ?_|refine ai.cons rfl (aa (hB _ ma0) ca0 rfl rfl (ap rfl ga0)) ?_|refine ai.cons rfl (iz (cb hg (hB _ mmap) rfl rfl rfl rfl (fun _=>rfl) rfl) ega) ?_|refine ai.cons rfl (iz (cb hg (hB _ mmap) rfl rfl rfl rfl (fun _=>rfl) rfl) egb) ?_)) ?_)
   refine ee.sub (ar.sums (A:=HD c.rf c.rb c.rt c.rn c.rw T s.root s.cnt c.root0 c.cnt0 es ck ws wk (((r5,aS (L.length:Nat))::G)++((r10,an (nd h a).leaf w1 w2 w3)::(Y3++(Y2++(Y1++X)))))) (B:=(r10,an (nd h a).leaf w1 w2 w3)::(Y3++(Y2++(Y1++HD c.rf c.rb c.rt c.rn c.rw T s.root s.cnt c.root0 c.cnt0 es ck ws wk ((r5,aS (L.length:Nat))::(G++X)))))) fun f=>by simp[HD,fm]<;>omega) ?_
   exact ee.nil (by kernel_rfl) ⟨r10,w1,w2,w3,Y1,Y2,Y3,g1,g2,g3,rfl,rfl⟩
  refine OT.fresh rfl rfl (dG (fun _=>rfl) rfl) (fun _=>rfl) (fun r10=>?_) (fun r10=>?_)
  ·have hB:=fun q (hq:q∈HD c.rf c.rb c.rt c.rn c.rw T s.root s.cnt c.root0 c.cnt0 es ck ws wk ((r5,aS (L.length:Nat))::(G++X)))=>List.mem_cons_of_mem (r10,dL) hq
   exact (by repeat (first|exact ai.nil|refine ai.gone rfl ?_|refine ai.cons rfl (aa (hB _ mrt) rfl rfl rfl rfl) ?_|refine ai.cons rfl (aa (hB _ m5) rfl rfl rfl rfl) ?_|refine ai.cons rfl (aa (hB _ m1) rfl rfl rfl rfl) ?_|refine ai.cons rfl (aa (hB _ ma0) ca0 rfl rfl (ap rfl ga0)) ?_|refine ai.cons rfl (iz (cb hg (hB _ mmap) rfl rfl rfl rfl (fun _=>rfl) rfl) ega) ?_|refine ai.cons rfl (iz (cb hg (hB _ mmap) rfl rfl rfl rfl (fun _=>rfl) rfl) egb) ?_))
  refine ee.turn1 21 (by kernel_rfl) (by kernel_rfl) (OT.call rfl rfl (fun _=>rfl) ((uL (X:=X) (fun q hq=>List.mem_cons_of_mem _ (hXB q hq)) ⟨va1,va2,va3,hra,hPa⟩ ⟨vb1,vb2,vb3,hrb,hPb⟩ (dy oka.fits) (dy okb.fits)).mono ?_))
  rintro u L' ⟨w1,w2,w3,Y1,Y2,Y3,rfl,rfl,g1,g2,g3⟩
  have hB:∀ q,q∈HD c.rf c.rb c.rt c.rn c.rw T s.root s.cnt c.root0 c.cnt0 es ck ws wk ((r5,aS (L.length:Nat))::(G++X))->q∈Y3++(Y2++(Y1++(r10,dL)::HD c.rf c.rb c.rt c.rn c.rw T s.root s.cnt c.root0 c.cnt0 es ck ws wk ((r5,aS (L.length:Nat))::(G++X)))):=fun q hq=>List.mem_append_right Y3 (List.mem_append_right Y2 (List.mem_append_right Y1 (List.mem_cons_of_mem _ hq)))
  refine⟨_,rfl,(by repeat (first|exact ai.nil|refine ai.gone rfl ?_|refine ai.cons rfl (aa (hB _ mrt) rfl rfl rfl rfl) ?_|refine ai.cons rfl (aa (hB _ m5) rfl rfl rfl rfl) ?_|refine ai.cons rfl (aa (hB _ m1) rfl rfl rfl rfl) ?_|refine ai.cons rfl (aa (hB _ ma0) ca0 rfl rfl (ap rfl ga0)) ?_|refine ai.cons rfl (iz (cb hg (hB _ mmap) rfl rfl rfl rfl (fun _=>rfl) rfl) ega) ?_|refine ai.cons rfl (iz (cb hg (hB _ mmap) rfl rfl rfl rfl (fun _=>rfl) rfl) egb) ?_)),?_⟩
  refine ee.sub (ar.sums (A:=(r10,dL)::(Y3++(Y2++(Y1++HD c.rf c.rb c.rt c.rn c.rw T s.root s.cnt c.root0 c.cnt0 es ck ws wk ((r5,aS (L.length:Nat))::(G++X)))))) (B:=Y3++(Y2++(Y1++(r10,dL)::HD c.rf c.rb c.rt c.rn c.rw T s.root s.cnt c.root0 c.cnt0 es ck ws wk ((r5,aS (L.length:Nat))::(G++X))))) fun f=>by simp[HD,fm]<;>omega) ?_
  have hB:∀ q,q∈HD c.rf c.rb c.rt c.rn c.rw T s.root s.cnt c.root0 c.cnt0 es ck ws wk ((r5,aS (L.length:Nat))::(G++X))->q∈(r10,an (nd h a).leaf w1 w2 w3)::(Y3++(Y2++(Y1++HD c.rf c.rb c.rt c.rn c.rw T s.root s.cnt c.root0 c.cnt0 es ck ws wk ((r5,aS (L.length:Nat))::(G++X))))):=fun q hq=>List.mem_cons_of_mem _ (List.mem_append_right Y3 (List.mem_append_right Y2 (List.mem_append_right Y1 hq)))
  refine ee.turn1 23 (by kernel_rfl) (by kernel_rfl) (OT.write rfl rfl (ax 0 (n:=4) rfl rfl rfl rfl rfl (dd (bC g1.sv) (bC g2.sv) (bC g3.sv)) rfl rfl) rfl (by repeat (first|exact ai.nil|refine ai.gone rfl ?_|refine ai.cons rfl (aa (hB _ mrt) rfl rfl rfl rfl) ?_|refine ai.cons rfl (aa (hB _ m5) rfl rfl rfl rfl) ?_|refine ai.cons rfl (aa (hB _ m1) rfl rfl rfl rfl) ?_|refine ai.cons rfl (aa (hB _ ma0) ca0 rfl rfl (ap rfl ga0)) ?_|refine ai.cons rfl (iz (cb hg (hB _ mmap) rfl rfl rfl rfl (fun _=>rfl) rfl) ega) ?_|refine ai.cons rfl (iz (cb hg (hB _ mmap) rfl rfl rfl rfl (fun _=>rfl) rfl) egb) ?_)) ?_)
  refine ee.sub (ar.sums (A:=HD c.rf c.rb c.rt c.rn c.rw T s.root s.cnt c.root0 c.cnt0 es ck ws wk (((r5,aS (L.length:Nat))::G)++((r10,an (nd h a).leaf w1 w2 w3)::(Y3++(Y2++(Y1++X)))))) (B:=(r10,an (nd h a).leaf w1 w2 w3)::(Y3++(Y2++(Y1++HD c.rf c.rb c.rt c.rn c.rw T s.root s.cnt c.root0 c.cnt0 es ck ws wk ((r5,aS (L.length:Nat))::(G++X)))))) fun f=>by simp[HD,fm]<;>omega) ?_
  exact ee.nil (by kernel_rfl) ⟨r10,w1,w2,w3,Y1,Y2,Y3,g1,g2,g3,rfl,rfl⟩
 rintro a' L' ⟨r10,w1,w2,w3,Y1,Y2,Y3,g1,g2,g3,rfl,rfl⟩
 have hX1:∀ q,q∈X->q∈(r10,an (nd h a).leaf w1 w2 w3)::(Y3++(Y2++(Y1++X))):=fun q hq=>by simp[hq]
 have hPJ:PN ((r10,an (nd h a).leaf w1 w2 w3)::(Y3++(Y2++(Y1++X)))) (bN (nd h a) k (nd h b)) w1 w2 w3 :=
  ⟨(g1.ol (by have:=hsm.k;unfold ae;omega)).pl.mono (fun q hq=>by simp[hq]),(g2.ol (by have:=hsm.v;unfold ae;omega)).pl.mono (fun q hq=>by simp[hq]),(g3.ol (by have:=hsm.z;unfold ae;omega)).pl.mono (fun q hq=>by simp[hq])⟩
 have hXC:∀ q,q∈(r10,an (nd h a).leaf w1 w2 w3)::(Y3++(Y2++(Y1++X)))->q∈HD c.rf c.rb c.rt c.rn c.rw T s.root s.cnt c.root0 c.cnt0 es ck ws wk (((r5,aS (L.length:Nat))::G)++((r10,an (nd h a).leaf w1 w2 w3)::(Y3++(Y2++(Y1++X))))):=fun q hq=>by
  rcases List.mem_cons.1 hq with rfl|hq
  ·simp
  simp only[List.mem_append]at hq
  simp[hq]
 have m10:=hXC _ (List.mem_cons_self ..)
 have NVJ:=hPJ.nv hsm hXC
 have mra2:=hXC _ (hX1 _ hra)
 have hna2:=hPa.nv (dy oka.fits) (fun q hq=>hXC q (hX1 q hq))
 repeat refine xQ ?_
 refine xG rfl ?_
 refine xR rfl (aa m10 rfl rfl rfl rfl) rfl ?_
 refine xA noGo rfl (fun _=>rfl) ((Jc NVJ (by have:=hsm.k;omega)).mono ?_)
 rintro u L' ⟨rfl,rfl⟩
 refine⟨_,rfl,?_⟩
 refine xP rfl yH rfl ?_
 refine xN ?_
 cases hfit:aQ (bN (nd h a) k (nd h b)) with
 | false =>
  repeat refine xQ ?_
  refine xC rfl (fun hc=>?_) (fun hc=>?_)
  ·repeat refine xQ ?_
   refine xG rfl ?_
   refine xP rfl yH rfl ?_
   refine OS.sub (ar.sums2 (((r10,an (nd h a).leaf w1 w2 w3)::(Y3++(Y2++Y1)))) (A:=HD c.rf c.rb c.rt c.rn c.rw T s.root s.cnt c.root0 c.cnt0 es ck ws wk (((r5,aS (L.length:Nat))::G)++X)) (B:=HD c.rf c.rb c.rt c.rn c.rw T s.root s.cnt c.root0 c.cnt0 es ck ws wk (((r5,aS (L.length:Nat))::G)++((r10,an (nd h a).leaf w1 w2 w3)::(Y3++(Y2++(Y1++X)))))) fun f=>by simp[HD,fm]<;>omega) ?_
   refine xN ?_
   refine xT ⟨_,fun _ _=>rfl,?_⟩
   exact⟨(r5,aS (L.length:Nat)),.inl ⟨rfl,⟨T,es,ck,ws,wk,hN,rfl,hp⟩,NJ.at hA hfit⟩⟩
  cases hc
 | true =>
  repeat refine xQ ?_
  refine xC rfl (fun hc=>?_) (fun hc=>?_)
  ·cases hc
  refine LS.skip ?_
  have mrt2:(c.rt,bS c.rf c.rn c.rw s.root s.cnt c.root0 c.cnt0)∈HD c.rf c.rb c.rt c.rn c.rw T s.root s.cnt c.root0 c.cnt0 es ck ws wk (((r5,aS (L.length:Nat))::G)++((r10,an (nd h a).leaf w1 w2 w3)::(Y3++(Y2++(Y1++X))))):=by simp
  have mmap2:(c.rn,aG.map es ck)∈HD c.rf c.rb c.rt c.rn c.rw T s.root s.cnt c.root0 c.cnt0 es ck ws wk (((r5,aS (L.length:Nat))::G)++((r10,an (nd h a).leaf w1 w2 w3)::(Y3++(Y2++(Y1++X))))):=by simp
  have hzl:(nd h a).kids.length<=2000:=(dy oka.fits).z
  repeat refine xQ ?_
  refine xG rfl ?_
  iterate 4 refine xP rfl yH rfl ?_
  refine xR rfl (aa mrt2 rfl rfl rfl rfl) rfl ?_
  refine xP rfl yH rfl ?_
  refine xR rfl (cb hg mmap2 rfl rfl rfl rfl (fun _=>rfl) rfl) rfl ?_
  rw[ega]
  iterate 2 refine xP rfl yH rfl ?_
  refine xR rfl (aa mra2 rfl rfl rfl rfl) rfl ?_
  refine xP rfl (az hna2.z rfl rfl rfl rfl rfl) rfl ?_
  refine xP rfl (dQ (n:=1) rfl rfl rfl (ak (by omega) (by omega))) rfl ?_
  refine xP rfl yH rfl ?_
  refine xN ?_
  have htr1:TR c ((r5,aS (L.length:Nat))::G) ((r10,an (nd h a).leaf w1 w2 w3)::(Y3++(Y2++(Y1++X)))) s (HD c.rf c.rb c.rt c.rn c.rw T s.root s.cnt c.root0 c.cnt0 es ck ws wk (((r5,aS (L.length:Nat))::G)++((r10,an (nd h a).leaf w1 w2 w3)::(Y3++(Y2++(Y1++X)))))):=⟨T,es,ck,ws,wk,hN,rfl,hp.mono hX1⟩
  have d1:no h a<c.N:=htr1.dom _ (by rw[hma];simp)
  have d2:no h b<c.N:=htr1.dom _ (by rw[hmb];simp)
  have d3:p<c.N:=htr1.dom _ (by rw[hloc.top];simp)
  have hnod:=hloc.nod
  simp only[bF,List.flatMap_append,List.flatMap_cons,List.nodup_cons,List.nodup_append,List.mem_append,not_or]at hnod
  have npa:p≠no h a:=fun hh=>hnod.1.2.1 (hh▸gE)
  have npb:p≠no h b:=fun hh=>hnod.1.2.2.1 (hh▸gE)
  have nab:no h a≠no h b:=fun hh=>hnod.2.2.1.2.2 (no h a) gE (no h b) (.inl gE) hh
  repeat refine xQ ?_
  refine xG rfl ?_
  iterate 4 refine xP rfl yH rfl ?_
  refine xA noGo rfl (fun _=>rfl) ((pr (o:=some (bN (nd h a) k (nd h b))) htr1 d1 ⟨r10,rfl,w1,w2,w3,List.mem_cons_self ..,hPJ⟩ (fun n hn=>by cases hn;exact hsm)).mono ?_)
  rintro u L1 h1
  refine⟨_,rfl,?_⟩
  refine xN ?_
  repeat refine xQ ?_
  refine xG rfl ?_
  iterate 4 refine xP rfl yH rfl ?_
  refine xA noGo rfl (fun _=>rfl) ((pr (o:=none) h1 d2 rfl (fun n hn=>by cases hn)).mono ?_)
  rintro u L2 h2
  refine⟨_,rfl,?_⟩
  refine xN ?_
  have hm2:(aD (aD s.m (no h a) (some (bN (nd h a) k (nd h b)))) (no h b) none) p=some ⟨false,A++k::B,[],aV (L++a::b::R)⟩:=by
   unfold aD;rw[if_neg npb,if_neg npa];exact hloc.top
  have v0:=gR.join hA hloc.rep hloc.nod oka okb
  have hfm:=Gh (N:=c.N) (x:=bN (nd h a) k (nd h b)) (y:=⟨false,A++B,[],aV (L++a::R)⟩) hma hmb hloc.top nab npa npb d1 d2 d3
  have hless:=px (h:=h) (p:=p) (B:=B) (k:=k) (R:=R) (a:=a) (b:=b) (w:=uz h a k b) hA wo
  have hnos:aV (L++uz h a k b::R)=aV (L++a::R):=by simp[aV,wo]
  have hdrop:=Du (h:=h) (B:=B) (k:=k) (R:=R) (a:=a) (b:=b) hA
  have hbg2:=(hless hbg).1
  rw[hnos]at hbg2
  repeat refine xQ ?_
  refine xG rfl ?_
  iterate 5 refine xP rfl yH rfl ?_
  refine xA noGo rfl (fun _=>rfl) ((jP (caps:=[ptr r5]) (n':=⟨false,A++B,[],aV (L++a::R)⟩) h2 hm2 hbg2.sm (hdrop▸DP (i:=L.length) (List.mem_cons_self ..) hbg.sm (by simp[aV]) (by simp;omega))).mono ?_)
  rintro u L3 ⟨X3,hX3,h3⟩
  refine⟨_,rfl,?_⟩
  refine xN ?_
  have okm:=JR (k:=k) oka okb hfit
  have hrm:=(bI.1 v0.rep).2 (uz h a k b) (by simp)
  have hnm:(bJ h (uz h a k b)).Nodup:=by
   have:=v0.chg.nd
   rw[gD,List.nodup_append,List.nodup_append]at this
   exact this.2.1.1
  repeat refine xQ ?_
  refine xG rfl ?_
  iterate 3 refine xP rfl yH rfl ?_
  refine xA noGo rfl (fun _=>rfl) ((seam c _ X3 _ L3 a b k h3 hrm hnm okm oka okb).mono ?_)
  rintro u L4 ⟨X4,m4,u4,hX4,h4,v4,ok4,fr4,td4⟩
  refine⟨_,rfl,?_⟩
  refine xN ?_
  repeat refine xQ ?_
  refine xG rfl ?_
  refine xP rfl yH rfl ?_
  refine xN ?_
  refine xT ⟨_,fun _ _=>rfl,?_⟩
  have v5:=v0.trans (v4.kid hA v0.rep v0.chg.nd)
  exact⟨(r5,aS (L.length:Nat)),.inr ⟨rfl,X4,m4,A,k,B,L,a,b,R,u4,rfl,rfl,hA,rfl,fun q hq=>hX4 q (hX3 q (hX1 q hq)),h4,v5,v4.rt.trans wo,ok4,Nat.le_trans hfm fr4,td4⟩⟩
structure tD(c:jt)(G X:RL)(s:fD){h:Nat}(p:Nat)(ks:List Tx)(ts:List (Tr h))(i:Int)(L':RL)(X':RL)(m':da)(A Y B:List Tx)(L M R:List (Tr h))(w:Tr h):Prop where
 hk:ks=A++(Y++B)
 ht:ts=L++(M++R)
 la:A.length=L.length
 lm:M.length=Y.length+1
 lo:(L.length:Int)<=i
 hi:i<L.length+M.length
 hX:∀ p,p∈X->p∈X'
 tr:TR c G X' ⟨m',s.root,s.cnt⟩ L'
 via:gR s.m m' (bG p ks ts) (bG p (A++B) (L++w::R))
 ok:cQ h w
 fr:cq c.N s.m<=cq c.N m'
 td:(∀ q∈M,nl h q)->nl h w
 less:kN ⟨false,ks,[],aV ts⟩ ⟨false,A++B,[],aV (L++w::R)⟩
variable{X':RL}
theorem tD.loc {s:fD}{h p:Nat}{ks:List Tx}{ts:List (Tr h)}{i:Int}{L':RL}{m':da}{A Y B:List Tx}{L M R:List (Tr h)}{w:Tr h}(x:tD c G X s p ks ts i L' X' m' A Y B L M R w)(hb:Bg ⟨false,ks,[],aV ts⟩)(hok:∀ q∈ts,cQ h q):jU m' p (A++B) (L++w::R):=by
 refine⟨x.via.rep,x.via.chg.nd,fun q hq=>?_,.inl (x.less hb).1⟩
 rcases List.mem_append.1 hq with h1|h1
 ·exact hok q (by rw[x.ht];simp[h1])
 rcases List.mem_cons.1 h1 with rfl|h1
 ·exact x.ok
 exact hok q (by rw[x.ht];simp[h1])
theorem tD.right {X'':RL}{s:fD}{h p:Nat}{ks:List Tx}{ts:List (Tr h)}{i:Int}{L' L'':RL}{m' m'':da}{A Y B:List Tx}{L M R:List (Tr h)}{w b w':Tr h}{k:Tx}(x:tD c G X s p ks ts i L' X' m' A Y (k::B) L M (b::R) w)
  (hX:∀ p,p∈X'->p∈X'') (htr:TR c G X'' ⟨m'',s.root,s.cnt⟩ L'') (hv:gR m' m'' (bG p (A++k::B) (L++w::b::R)) (bG p (A++B) (L++w'::R))) (hn:no h w'=no h w) (hok:cQ h w') (hf:cq c.N m'<=cq c.N m'') (htd:nl h w->nl h b->nl h w') :
  tD c G X s p ks ts i L'' X'' m'' A (Y++[k]) B L (M++[b]) R w' :=
 ⟨by rw[x.hk];simp,by rw[x.ht];simp,x.la,by simp only[List.length_append,x.lm,List.length_singleton],x.lo,by have:=x.hi;simp only[List.length_append,List.length_singleton,List.length_cons,List.length_nil];omega,fun q hq=>hX q (x.hX q hq),htr,x.via.trans hv,hok,Nat.le_trans x.fr hf,
  fun hq=>htd (x.td fun q hm=>hq q (List.mem_append_left _ hm)) (hq b (by simp)),x.less.trans (px (h:=h) (p:=p) x.la hn)⟩
theorem tD.left {X'':RL}{s:fD}{h p:Nat}{ks:List Tx}{ts:List (Tr h)}{i:Int}{L' L'':RL}{m' m'':da}{A Y B:List Tx}{L M R:List (Tr h)}{w a w':Tr h}{k:Tx}(x:tD c G X s p ks ts i L' X' m' (A++[k]) Y B (L++[a]) M R w)
  (hX:∀ p,p∈X'->p∈X'') (htr:TR c G X'' ⟨m'',s.root,s.cnt⟩ L'') (hv:gR m' m'' (bG p (A++k::B) (L++a::w::R)) (bG p (A++B) (L++w'::R))) (hn:no h w'=no h a) (hok:cQ h w') (hf:cq c.N m'<=cq c.N m'') (htd:nl h a->nl h w->nl h w') :
  tD c G X s p ks ts i L'' X'' m'' A (k::Y) B L (a::M) R w':=by
 have hla:A.length=L.length:=by have:=x.la;simpa using this
 have hl:=x.less
 have hv0:=x.via
 simp only[List.append_assoc,List.singleton_append]at hl hv0
 exact⟨by rw[x.hk];simp,by rw[x.ht];simp,hla,by simp only[List.length_cons,x.lm],by have:=x.lo;simp only[List.length_append,List.length_singleton]at this;omega,by have:=x.hi;simp only[List.length_append,List.length_singleton,List.length_cons,List.length_nil]at this ⊢;omega,fun q hq=>hX q (x.hX q hq),htr,hv0.trans hv,hok,Nat.le_trans x.fr hf,
  fun hq=>htd (hq a (by simp)) (x.td fun q hm=>hq q (List.mem_cons_of_mem _ hm)),hl.trans (px (h:=h) (p:=p) hla hn)⟩
def Lg(c:jt)(G X:RL)(s:fD){h:Nat}(p:Nat)(ks:List Tx)(ts:List (Tr h))(i:Int)(u:Value)(L':RL):Prop :=
 ∃ X' m' A Y B L M R w,tD c G X s p ks ts i L' X' m' A Y B L M R w/\u=.int .i64 (L.length:Nat)/\NJ (A++B) (L++w::R) ((L.length:Int)-1)/\NJ (A++B) (L++w::R) (L.length:Int)
def KA(h:Nat):Prop:=∀ (c:jt) (G X:RL) (s:fD) (L:RL) (p:Nat) (ks:List Tx) (ts:List (Tr h)) (i:Int),TR c G X s L->jU s.m p ks ts->0<=i->i<ts.length →
 CS Tryz.prog 189 [ptr c.rt,.int .i64 (p:Nat),.int .i64 i] L fun u L'=>Lg c G X s p ks ts i u L'
theorem uh (hj:CN h):KA h:=by
 intro c G X s rows p ks ts i htr hloc h0 h1
 have hbg:=hloc.bg (by intro hh;rw[hh]at h1;simp at h1;omega)
 have hle:=pI hbg
 have hk:=hbg.keys
 simp only at hk
 obtain⟨i,rfl⟩:=Int.eq_ofNat_of_zero_le h0
 obtain⟨A,B,L,a,R,rfl,rfl,hA,hL⟩:=vO (j:=i) hle (by omega)
 subst hL
 have w0:tD c G X s p (A++B) (L++a::R) (L.length:Nat) rows X s.m A [] B L [a] R a :=
  ⟨by simp,by simp,hA,rfl,by omega,by simp;omega,fun _ hq=>hq,htr,gR.refl hloc.rep hloc.nod,hloc.ok a (by simp),Nat.le_refl _,fun hq=>hq a (by simp),kN.refl⟩
 refine yF Tryz.f189 ?_
 refine yX 4 ?_
 refine LS.loopJ [0,1,2] (fun z a' L'=>∃ X' m' A' Y B' L1 M R' w,tD c G X s p (A++B) (L++a::R) (L.length:Nat) L' X' m' A' Y B' L1 M R' w/\z=L1.length+R'.length/\a'=[ptr c.rt,.int .i64 (p:Nat),.int .i64 (L1.length:Nat),yC,yC,yC,yC,yC,yC,yC,yC,yC,yC,yC,yC,yC,yC,yC,yC,yC,yC]) (n:=L.length+R.length) rfl ⟨X,s.m,A,[],B,L,[a],R,a,w0,rfl,rfl⟩ ?_
 rintro z a' L' ⟨X',m',A',Y,B',L1,M,R',w,hw,rfl,rfl⟩
 have hl2:=hw.loc hbg hloc.ok
 have hlen:L1.length+R'.length<=1000:=by
  have h2:=hw.ht
  have h3:=congrArg List.length h2
  simp only[List.length_append,List.length_cons]at h3 hle hk
  omega
 have hbg2:=hl2.bg (by simp)
 have hle2:=pI hbg2
 simp only[List.length_append,List.length_cons]at hle2
 have hlaw:=hw.la
 refine yX 6 ?_
 refine yA yH (hj c G X' ⟨m',s.root,s.cnt⟩ L' p _ _ (L1.length:Nat) hw.tr hl2 (by omega) (by omega)) ?_
 rintro u L2 hjp
 rcases hjp with ⟨rfl,htr2,hnj⟩|⟨rfl,X2,m2,A1,k,B1,L3,a3,b,R1,w2,e1,e2,e3,e4,e5,e6,e7,e8,e9,e10,e11⟩
 ·refine yX 8 ?_
  refine yP (dQ (n:=1) rfl rfl rfl (ak (by omega) (by omega))) ?_
  refine yA yH (hj c G X' ⟨m',s.root,s.cnt⟩ L2 p _ _ ((L1.length:Nat)-1) htr2 hl2 (by omega) (by omega)) ?_
  rintro u L3 hjp
  rcases hjp with ⟨rfl,htr3,hnj2⟩|⟨rfl,X2,m2,A1,k,B1,L4,a3,b,R1,w2,e1,e2,e3,e4,e5,e6,e7,e8,e9,e10,e11⟩
  ·refine yX 9 ?_
   exact⟨X',m',A',Y,B',L1,M,R',w,{ hw with tr:=htr3 },rfl,hnj2,hnj⟩
  refine yV 3 ?_
  refine xC rfl ?_ ?_ <;> intro hc
  ·refine yX 2 ?_
   refine yP (dQ (n:=1) rfl rfl rfl (ak (by omega) (by omega))) ?_
   refine yX 2 ?_
   have hLL:L1.length=(L4++[a3]).length:=by simp;omega
   have hAA:A'.length=(A1++[k]).length:=by simp;omega
   have e2':L1++w::R'=(L4++[a3])++b::R1:=by rw[e2];simp
   have e1':A'++B'=(A1++[k])++B1:=by rw[e1];simp
   obtain⟨rfl,g1⟩:=List.append_inj e2' hLL
   obtain⟨rfl,rfl⟩:=List.append_inj e1' hAA
   simp only[List.cons.injEq]at g1
   obtain⟨rfl,rfl⟩:=g1
   have e7':gR m' m2 (bG p (A1++k::B') (L4++a3::w::R')) (bG p (A1++B') (L4++w2::R')):=by simpa using e7
   refine⟨L4.length+R'.length,by simp <;> omega,X2,m2,A1,k::Y,B',L4,a3::M,R',w2,hw.left e5 e6 e7' e8 e9 e10 e11,rfl,?_⟩
   simp
   rfl
  cases hc
 refine yX 3 ?_
 have hLL:L1.length=L3.length:=by omega
 have hAA:A'.length=A1.length:=by omega
 obtain⟨rfl,g1⟩:=List.append_inj e2 hLL
 obtain⟨rfl,rfl⟩:=List.append_inj e1 hAA
 simp only[List.cons.injEq]at g1
 obtain⟨rfl,rfl⟩:=g1
 repeat refine xQ ?_
 refine xC rfl ?_ ?_ <;> intro hc
 ·refine LS.skip ?_
  exact⟨L1.length+R1.length,by simp,X2,m2,A',Y++[k],B1,L1,M++[b],R1,w2,hw.right e5 e6 e7 e8 e9 e10 e11,rfl,rfl⟩
 cases hc
variable{ks:List Tx}
theorem NJ.idx {ts:List (Tr h)}{j:Nat}:NJ ks ts (j:Nat)↔∀ k a b,ks[j]?=some k->ts[j]?=some a->ts[j+1]?=some b->aQ (bN (nd h a) k (nd h b))=false:=by
 constructor
 ·intro hn k a b h1 h2 h3
  obtain⟨g1,e1⟩:=List.getElem?_eq_some_iff.1 h1
  obtain⟨g2,e2⟩:=List.getElem?_eq_some_iff.1 h2
  obtain⟨g3,e3⟩:=List.getElem?_eq_some_iff.1 h3
  refine hn (ks.take j) k (ks.drop (j+1)) (ts.take j) a b (ts.drop (j+2)) ?_ ?_ (by simp;omega) (by simp;omega)
  ·subst e1;simp
  subst e2 e3;simp
 intro hi A k B L a b R h1 h2 h3 h4
 have h4:L.length=j:=by omega
 refine hi k a b ?_ ?_ ?_
 ·rw[h1,←h4,←h3];simp
 ·rw[h2,←h4];simp
 rw[h2,←h4];simp
theorem NJ.all {h:Nat}{ks:List Tx}{ts:List (Tr h)}(hn:∀ j:Nat,NJ ks ts (j:Nat)):∀ i,NJ ks ts i:=fun i=>by
 by_cases h0:i<0
 ·exact NJ.neg h0
 obtain⟨j,rfl⟩:=Int.eq_ofNat_of_zero_le (show 0<=i by omega)
 exact hn j
theorem Es {h:Nat}{A Y B:List Tx}{L M R:List (Tr h)}{w:Tr h}(la:A.length=L.length)(lm:M.length=Y.length+1)(h1:NJ (A++B) (L++w::R) ((L.length:Int)-1))(h2:NJ (A++B) (L++w::R) (L.length:Int))
  (hlo:∀ j:Nat,j+1<L.length->NJ (A++(Y++B)) (L++(M++R)) (j:Nat)) (J:Nat) (hhi:∀ j:Nat,L.length+Y.length<j->j<J+Y.length->NJ (A++(Y++B)) (L++(M++R)) (j:Nat)):∀ j:Nat,j<J->NJ (A++B) (L++w::R) (j:Nat):=fun j hJ=>by
 rcases Nat.lt_trichotomy j L.length with hj|hj|hj
 ·by_cases hj1:j+1=L.length
  ·have:((j:Nat):Int)=(L.length:Int)-1:=by omega
   rw[this];exact h1
  have hn:=NJ.idx.1 (hlo j (by omega))
  refine NJ.idx.2 fun k a b e1 e2 e3=>hn k a b ?_ ?_ ?_
  ·rw[List.getElem?_append_left (by omega)]at e1 ⊢;exact e1
  ·rw[List.getElem?_append_left (by omega)]at e2 ⊢;exact e2
  rw[List.getElem?_append_left (by omega)]at e3 ⊢;exact e3
 ·rw[hj];exact h2
 have hn:=NJ.idx.1 (hhi (j+Y.length) (by omega) (by omega))
 have f1:∀ i,L.length<i->(L++w::R)[i]?=R[i-L.length-1]?:=fun i hi=>by
  obtain⟨d,rfl⟩:∃ d,i=L.length+1+d:=⟨i-L.length-1,by omega⟩
  rw[List.getElem?_append_right (by omega),show L.length+1+d-L.length=d+1 by omega,List.getElem?_cons_succ]
  congr 1 <;> omega
 have f2:∀ i,L.length<i->(L++(M++R))[i+Y.length]?=R[i-L.length-1]?:=fun i hi=>by
  rw[List.getElem?_append_right (by omega),List.getElem?_append_right (by omega)]
  congr 1;omega
 refine NJ.idx.2 fun k a b e1 e2 e3=>hn k a b ?_ ?_ ?_
 ·rw[List.getElem?_append_right (by omega)]at e1
  rw[List.getElem?_append_right (by omega),List.getElem?_append_right (by omega)]
  rw[←e1];congr 1;omega
 ·rw[f2 j hj,←f1 j hj];exact e2
 rw[show j+Y.length+1=(j+1)+Y.length by omega,f2 (j+1) (by omega),←f1 (j+1) (by omega)];exact e3
theorem Ah (hj:CN h){c:jt}{G X:RL}{s:fD}{L:RL}{p:Nat}{ks:List Tx}{ts:List (Tr h)}{i:Int}(htr:TR c G X s L)(hloc:jU s.m p ks ts)(hi:i<0∨(ts.length:Int)<=i)(h1:-8<=i)(h2:i<=1000) :
  CS Tryz.prog 189 [ptr c.rt,.int .i64 (p:Nat),.int .i64 i] L fun u L'=>u=.int .i64 i/\TR c G X s L':=by
 have hno:∀ (L2:RL) (u:Value) (q:Int),q<=i->(i<=q+1)->vr c G X s p ks ts q u L2->u=.bool false/\TR c G X s L2:=fun L2 u q hq hq2 hp=>by
  rcases hp with ⟨rfl,h3,_⟩|⟨rfl,X2,m2,A1,k,B1,L3,a3,b,R1,w2,e1,e2,e3,e4,_⟩
  ·exact⟨rfl,h3⟩
  exfalso
  rw[e2]at hi
  simp only[List.length_append,List.length_cons]at hi
  omega
 refine yF Tryz.f189 ?_
 refine yX 4 ?_
 refine LS.loopJ [0,1,2] (fun z a' L'=>z=0/\L'=L/\a'=[ptr c.rt,.int .i64 (p:Nat),.int .i64 i,yC,yC,yC,yC,yC,yC,yC,yC,yC,yC,yC,yC,yC,yC,yC,yC,yC,yC]) (n:=0) rfl ⟨rfl,rfl,rfl⟩ ?_
 rintro z a' L' ⟨rfl,rfl,rfl⟩
 refine yX 6 ?_
 refine yA yH (hj c G X s L' p ks ts i htr hloc (by omega) (by omega)) ?_
 rintro u L2 hjp
 obtain⟨rfl,htr2⟩:=hno _ _ _ (by omega) (by omega) hjp
 refine yX 8 ?_
 refine yP (dQ (n:=1) rfl rfl rfl (ak (by omega) (by omega))) ?_
 refine yA yH (hj c G X s L2 p ks ts (i-1) htr2 hloc (by omega) (by omega)) ?_
 rintro u L3 hjp
 obtain⟨rfl,htr3⟩:=hno _ _ _ (by omega) (by omega) hjp
 refine yX 9 ?_
 exact⟨rfl,htr3⟩
theorem yY {s:fD}{L:RL}{p:Nat}{n:Nd}{i:Int}(htr:TR c G X s L)(hm:s.m p=some n)(hi:i<0)(h1:-10<=i) :
  CS Tryz.prog 224 [ptr c.rt,.int .i64 (p:Nat),.int .i64 i] L fun u L'=>u=.bool false/\TR c G X s L':=by
 obtain⟨T,es,ck,ws,wk,g,rfl,hN,hp,hg,hmr⟩:=htr.now
 obtain⟨r,hgr0,v1,v2,v3,hr,hP⟩:=(hmr p).2 _ hm
 have hgr:(g p).getD (.pointer none)=ptr r:=by rw[hgr0];rfl
 refine yF Tryz.f224 ?_
 refine yX 1 ?_
 refine yM (gH (v:=.int .i64 i) (cs:=[.int .i64 i]) rfl rfl rfl rfl rfl) fun r5=>?_
 refine yX 1 ?_
 refine OS.sub ar.inQ ?_
 refine yX 8 ?_
 refine yR (cb hg (by simp) rfl rfl rfl rfl (fun _=>rfl) rfl) ?_
 rw[hgr]
 refine yV 2 ?_
 refine LS.drawn noGo mixed [(0,false),(1,false),(2,false),(3,false),(4,false),(5,false),(6,false),(7,false),(8,false),(9,false),(10,false),(11,false)] rfl rfl (by kernel_rfl) ?_
 refine yX 1 ?_
 have hb:(!av 0 i)=true:=by rw[am,decide_eq_false (by omega)];rfl
 refine yQ rfl (lB yH (hb)) ?_
 refine yV 11 ?_
 refine xC rfl ?_ ?_ <;> intro hc
 ·refine yX 2 ?_
  refine OS.sub (ar.drop 5 rfl) ?_
  refine yX 2 ?_
  exact⟨rfl,⟨T,es,ck,ws,wk,hN,rfl,hp⟩⟩
 cases hc
theorem Ai {s:fD}{L:RL}{p:Nat}{n:Nd}{i:Int}(htr:TR c G X s L)(hm:s.m p=some n)(hi:i<0)(h1:-8<=i) :
  CS Tryz.prog 189 [ptr c.rt,.int .i64 (p:Nat),.int .i64 i] L fun u L'=>u=.int .i64 i/\TR c G X s L':=by
 refine yF Tryz.f189 ?_
 refine yX 4 ?_
 refine LS.loopJ [0,1,2] (fun z a' L'=>z=0/\L'=L/\a'=[ptr c.rt,.int .i64 (p:Nat),.int .i64 i,yC,yC,yC,yC,yC,yC,yC,yC,yC,yC,yC,yC,yC,yC,yC,yC,yC,yC]) (n:=0) rfl ⟨rfl,rfl,rfl⟩ ?_
 rintro z a' L' ⟨rfl,rfl,rfl⟩
 refine yX 6 ?_
 refine yA yH (yY htr hm hi (by omega)) ?_
 rintro u L2 ⟨rfl,htr2⟩
 refine yX 8 ?_
 refine yP (dQ (n:=1) rfl rfl rfl (ak (by omega) (by omega))) ?_
 refine yA yH (yY (i:=i-1) htr2 hm (by omega) (by omega)) ?_
 rintro u L3 ⟨rfl,htr3⟩
 refine yX 9 ?_
 exact⟨rfl,htr3⟩
theorem JH:G9 0:=by
 intro c G X s L a b k htr hrep hnod hok ha hb
 have hz:(nd 0 a).kids.length=0:=rfl
 have hno:no 0 (uz 0 a k b)=no 0 a:=rfl
 have hm:=hrep.top
 rw[hno]at hm
 refine (Ai htr hm (by rw[hz];decide) (by rw[hz];decide)).mono ?_
 rintro u L' ⟨_,h2⟩
 exact⟨X,s.m,uz 0 a k b,fun _ hq=>hq,h2,gR.refl hrep hnod,hok,Nat.le_refl _,fun _ _=>trivial⟩
theorem JG (hs:KA h):G9 (h+1):=by
 intro c G X s L a b k htr hrep hnod hok ha hb
 obtain⟨pa,ka,ta,rfl⟩:=aO a
 obtain⟨pb,kb,tb,rfl⟩:=aO b
 have la:=ha.len
 have lb:=hb.len
 have hloc:jU s.m pa (ka++k::kb) (ta++tb):=⟨hrep,hnod,fun q hq=>by
  rcases List.mem_append.1 hq with h1|h1
  ·exact ha.kid q h1
  exact hb.kid q h1,.inl (Bg.of (show aQ (nd (h+1) (uz (h+1) (bG pa ka ta) k (bG pb kb tb)))=true from hok.fits))⟩
 have hz:(nd (h+1) (bG pa ka ta)).kids.length=ta.length:=by simp[aV]
 rw[hz]
 refine (hs c G X s L pa _ _ ((ta.length:Int)-1) htr hloc (by omega) (by rw[List.length_append];omega)).mono ?_
 rintro u L' ⟨X',m',A,Y,B,L1,M,R,w,hw,rfl,n1,n2⟩
 have hl2:=hw.loc (hloc.bg (by intro hh;rw[List.append_eq_nil_iff]at hh;rw[hh.1]at la;simp at la)) hloc.ok
 refine⟨X',m',bG pa (A++B) (L1++w::R),hw.hX,hw.tr,hw.via,⟨hw.less.fits hok.fits,hl2.ok⟩,hw.fr,fun td1 td2=>?_⟩
 have hkid:∀ q∈ta++tb,nl h q:=fun q hq=>by
  rcases List.mem_append.1 hq with h1|h1
  ·exact (gc.1 td1).2 q h1
  exact (gc.1 td2).2 q h1
 have ht:=hw.ht
 have hk:=hw.hk
 rw[gc]
 refine⟨NJ.all fun j=>Es hw.la hw.lm n1 n2 (fun j hj=>?_) (j+1) (fun j' hj _=>?_) j (by omega),fun q hq=>?_⟩
 ·rw[←hk,←ht]
  have hlo:=hw.lo
  have hn:=NJ.idx.1 ((gc.1 td1).1 (j:Nat))
  refine NJ.idx.2 fun k' a b e1 e2 e3=>hn k' a b ?_ ?_ ?_
  ·rw[List.getElem?_append_left (by omega)]at e1;exact e1
  ·rw[List.getElem?_append_left (by omega)]at e2;exact e2
  rw[List.getElem?_append_left (by omega)]at e3;exact e3
 ·rw[←hk,←ht]
  have hhi:=hw.hi
  have hlm:=hw.lm
  have hn:=NJ.idx.1 ((gc.1 td2).1 ((j'-ta.length:Nat)))
  refine NJ.idx.2 fun k' a b e1 e2 e3=>hn k' a b ?_ ?_ ?_
  ·rw[List.getElem?_append_right (by omega),show j'-ka.length=(j'-ta.length)+1 by omega,List.getElem?_cons_succ]at e1;exact e1
  ·rw[List.getElem?_append_right (by omega)]at e2;exact e2
  rw[List.getElem?_append_right (by omega),show j'+1-ta.length=(j'-ta.length)+1 by omega]at e3;exact e3
 rcases List.mem_append.1 hq with h1|h1
 ·exact hkid q (by rw[ht];simp[h1])
 rcases List.mem_cons.1 h1 with rfl|h1
 ·exact hw.td fun q hq=>hkid q (by rw[ht];simp[hq])
 exact hkid q (by rw[ht];simp[h1])
theorem sn:∀ h,CN h
 | 0=>i4 JH
 | h+1=>i4 (JG (uh (sn h)))
theorem qT(h:Nat):KA h:=uh (sn h)
end Go.Proofs.YtoaojmobnbbnmaaGreat
section
namespace Go.Am
section
variable{P:Program}{o:Oper}{a:ah}{L X:RL}
variable{ops rest:List Oper}{K:ah->RL->Prop}{e t:TypeId}
theorem OS.slice3 {x y z:Operand}{k k':IntKind}{sz n u:Nat}{v:Value}{cs:List Value}(hs:PL e sz X v n cs)(hw:aw ops o a=true)(ho:o.op=.slice t x none (some y) (some z))(hx:aX a x=some v)(hy:aX a y=some (.int k (u:Nat)))(hz':aX a z=some (.int k' (u:Nat)))
  (ht:P.underlying t=some (.slice e)) (hz:aB P e=some sz) (hu:u<=n) (hub:u<=1000000000000) (kk:∀ v',PL e sz X v' u (cs.take (u*sz))->∃ a₁,aH a o.dst v'=some a₁/\OS P ops rest a₁ L K):OS P ops (o::rest) a L K:=by
 obtain⟨v',h1,h2⟩:=zp hs ho hx hy hz' ht hz hu hub
 obtain⟨a₁,ep,k⟩:=kk v' h1
 exact xP hw h2 ep k
variable{ms:List Nat}{sched:List (Nat×Bool)}{dn:Dn}
theorem ba.slice3 {q:Nat}{K:ah->RL->Prop}{e t:TypeId}{x y z:Operand}{k k':IntKind}{sz n u:Nat}{v:Value}{cs:List Value}(hs:PL e sz X v n cs)(hq:ops[q]?=some o)(hw:aw ops o a=true)(ho:o.op=.slice t x none (some y) (some z))(hx:aX a x=some v)(hy:aX a y=some (.int k (u:Nat)))(hz':aX a z=some (.int k' (u:Nat)))
  (ht:P.underlying t=some (.slice e)) (hz:aB P e=some sz) (hu:u<=n) (hub:u<=1000000000000) (kk:∀ v',PL e sz X v' u (cs.take (u*sz))->∃ a₁,aH a o.dst v'=some a₁/\ba P ops ms K sched dn a₁ L):ba P ops ms K ((q,false)::sched) dn a L:=by
 obtain⟨v',h1,h2⟩:=zp hs ho hx hy hz' ht hz hu hub
 obtain⟨a₁,ep,k⟩:=kk v' h1
 exact xD hq hw h2 ep k
variable{sz n:Nat}{v:Value}{cs:List Value}
theorem A3 {x:Operand}{lo hi:Option Operand}{lo' hi':Option Value}{l u:Nat}(hs:PL e sz X v n cs)(ho:o.op=.slice t x lo hi none)(hx:aX a x=some v)
  (hlo:aY a lo=some lo') (hhi:aY a hi=some hi') (bl:aU lo' 0=some l) (bu:aU hi' n=some u) (ht:P.underlying t=some (.slice e)) (hz:aB P e=some sz) (hu:u<=n) (hl:l<=u) :
  ∃ v',PL e sz X v' (u-l) ((cs.drop (l*sz)).take ((u-l)*sz))/\∀ L:RL,(∀ p,p∈X->p∈L)->∀ h,bp h L->aI P a o h=some (.val v' h):=by
 have hm:aY a none=some none:=rfl
 have h2:Nat.ble l u=true:=Nat.ble_eq_true_of_le hl
 rcases hs with ⟨rfl,rfl,rfl⟩|⟨r,off,cap,cs₀,rfl,hmem,hcut,hnc,hco⟩
 ·have hu0:u=0:=by omega
  subst hu0
  have hl0:l=0:=by omega
  subst hl0
  refine⟨.slice none 0 0,.inl ⟨rfl,rfl,by simp⟩,fun L hX h _=>?_⟩
  have hc:Nat.beq 0 ae=false:=aK (by decide)
  have h1:Nat.ble 0 (dT 0 0)=true:=rfl
  have h3:cx h e none 0=true:=by unfold cx;rw[hc];rfl
  simp only[aI,ho,hx,hlo,hhi,hm,cM,ht,bu,bl,hz,h1,h2,h3,Bool.true_and,dZ,hc,ret]
 have hlen:=(c9 hcut).2.2.1
 have hcut':cut cs₀ (off+l*sz) ((u-l)*sz)=some ((cs.drop (l*sz)).take ((u-l)*sz)):=by
  refine kz hcut (eV ?_)
  rw[hlen,←Nat.add_mul]
  exact Nat.mul_le_mul_right _ (by omega)
 by_cases hne:cap=ae
 ·subst hne
  refine⟨.slice (some ⟨r,off+l*sz,none⟩) (u-l) ae,.inr ⟨r,_,_,cs₀,rfl,hmem,hcut',by omega,Nat.le_refl _⟩,fun L hX h H=>?_⟩
  have hcb:Nat.beq ae ae=true:=bo rfl
  have h1:Nat.ble u (dT n ae)=true:=by unfold dT;rw[hcb];exact Nat.ble_eq_true_of_le hu
  have hg:bm h r=some (e,cs₀):=by unfold bm;rw[H.get _ (hX _ hmem)]
  have h3:cx h e (some ⟨r,off,none⟩) ae=true:=by unfold cx;rw[hcb];simp only[hg,bo rfl]
  simp only[aI,ho,hx,hlo,hhi,hm,cM,ht,bu,bl,hz,h1,h2,h3,Bool.true_and,dZ,hcb,ret]
 refine⟨.slice (some ⟨r,off+l*sz,none⟩) (u-l) (cap-l),.inr ⟨r,_,_,cs₀,rfl,hmem,hcut',by omega,by omega⟩,fun L hX h H=>?_⟩
 have hcb:Nat.beq cap ae=false:=aK hne
 have h1:Nat.ble u (dT n cap)=true:=by unfold dT;rw[hcb];exact Nat.ble_eq_true_of_le (Nat.le_trans hu hnc)
 have h3:cx h e (some ⟨r,off,none⟩) cap=true:=by unfold cx;rw[hcb];exact Nat.ble_eq_true_of_le hco
 simp only[aI,ho,hx,hlo,hhi,hm,cM,ht,bu,bl,hz,h1,h2,h3,Bool.true_and,dZ,hcb,ret]
theorem ba.slicePLa {q:Nat}{o:Oper}{a:ah}{X L:RL}{K:ah->RL->Prop}{e t:TypeId}{x:Operand}{sz n l u:Nat}{v:Value}{cs:List Value}{lo hi:Option Operand}{lo' hi':Option Value}(hs:PL e sz X v n cs)(hX:∀ p,p∈X->p∈L)(hq:ops[q]?=some o)(hw:aw ops o a=true)(ho:o.op=.slice t x lo hi none)(hx:aX a x=some v)
  (hlo:aY a lo=some lo') (hhi:aY a hi=some hi') (bl:aU lo' 0=some l) (bu:aU hi' n=some u) (ht:P.underlying t=some (.slice e)) (hz:aB P e=some sz) (hu:u<=n) (hl:l<=u)
  (k:∀ v',PL e sz X v' (u-l) ((cs.drop (l*sz)).take ((u-l)*sz))->(∀ L:RL,(∀ p,p∈X->p∈L)->∀ h,bp h L->aI P a o h=some (.val v' h))->∃ a₁,aH a o.dst v'=some a₁/\ba P ops ms K sched ((q,a,v')::dn) a₁ L):ba P ops ms K ((q,false)::sched) dn a L:=by
 obtain⟨v',h1,h2⟩:=A3 hs ho hx hlo hhi bl bu ht hz hu hl
 obtain⟨a₁,ep,k⟩:=k v' h1 h2
 exact xE hq hw (h2 L hX) ep k
theorem uk(i j:Nat){x y z r off r' off':Nat}{t t':TypeId}{row row':aG}{cs cs':List Value}{v u w:Value}(hx:a[x]?=some (.pointer (some ⟨r,off,none⟩)))(hL:L[i]?=some (r,row))(hc:dV row=some cs)(hv:bM P t cs off=some v)(hy:a[y]?=some u)
  (hz:a[z]?=some (.pointer (some ⟨r',off',none⟩))) (hL':L[j]?=some (r',row')) (hc':dV row'=some cs') (hv':bM P t' cs' off'=some w):∀ h,bp h L->cE P a h [.cell x t,.tmp y,.cell z t']=some [v,u,w]:=by
 intro h H
 simp only[cE,hx,hy,hz,mw,H.read hL hc,H.read hL' hc',hv,hv']
end
end Go.Am
namespace Go.Proofs.YtoaojmobnbbnmaaGreat
open Go.Am
variable{a:ah}{o:Oper}{i0:Operand}
theorem zu {b:Bool}(ho:o.op=.build 183 #[(0,i0)])(h0:aX a i0=some (.bool b)) :
  ∀ h,aI Tryz.prog a o h=some (.val (j7 b (.slice none 0 0) (.slice none 0 0) (.slice none 0 0)) h):=by
 intro h
 simp only[aI,ho,ew,h0];rfl
theorem Gy {i1:Operand}{b:Bool}{v1:Value}(s1:ml v1)(ho:o.op=.build 183 #[(0,i0),(1,i1)])(h0:aX a i0=some (.bool b))(h1:aX a i1=some v1) :
  ∀ h,aI Tryz.prog a o h=some (.val (j7 b v1 (.slice none 0 0) (.slice none 0 0)) h):=by
 intro h
 rcases s1 with rfl|⟨r1,o1,n1,c1,rfl⟩ <;> (simp only[aI,ho,ew,h0,h1];rfl)
theorem y1:ml (.slice none 0 0):=.inl rfl
def fB(n:Nd)(at':Nat):Nd:=⟨n.leaf,n.ks.take at',if n.leaf then n.vs.take at' else [],if n.leaf then [] else n.kids.take (at'+1)⟩
def fO(n:Nd)(at':Nat):Nd:=⟨n.leaf,n.ks.drop (if n.leaf then at' else at'+1),if n.leaf then n.vs.drop at' else [],if n.leaf then [] else n.kids.drop (at'+1)⟩
variable{X:RL}{e:TypeId}{v:Value}{u:Nat}
theorem wj {n:Nat}{cs cs':List Value}(h:PL e 1 X v u (cs.take (u*1)))(hc:cs.take u=cs'):PL e 1 X v u cs':=by
 rw[Nat.mul_one,hc]at h;exact h
variable{n:Nat}
theorem nL {l:Nat}{cs cs':List Value}(h:PL e 1 X v (n-l) ((cs.drop (l*1)).take ((n-l)*1)))(hl:cs.length=n)(hc:cs.drop l=cs'):PL e 1 X v (n-l) cs':=by
 rw[Nat.mul_one,Nat.mul_one,hc,List.take_of_length_le (by rw[←hc,List.length_drop,hl];omega)]at h;exact h
variable{sz:Nat}
theorem iq:PL e sz X (.slice none 0 0) 0 []:=.inl ⟨rfl,rfl,rfl⟩
theorem lJ.leafv {n:Nd}(h:lJ n)(hl:n.leaf=true):n.vs.length=n.ks.length:=by
 rcases h with ⟨_,h,_⟩|⟨h,_⟩
 ·exact h
 rw[hl]at h;cases h
theorem lJ.kidsz {n:Nd}(h:lJ n)(hl:n.leaf=false):n.kids.length=n.ks.length+1:=by
 rcases h with ⟨h,_⟩|⟨_,h,_⟩
 ·rw[hl]at h;cases h
 exact h
variable{L:RL}{r:Nat}
set_option maxHeartbeats 4000000 in
theorem GP {at':Nat}{n:Nd}(hX:∀ p,p∈X->p∈L)(hN:eZ X r n)(hs:Sm n)(hg:lJ n)(hat:at'<n.ks.length) :
  CS Tryz.prog 267 [ptr r,.int .i64 (at':Nat)] L fun u L'=>∃ w1 w2 w3 x1 x2 x3,u=.tuple #[j7 n.leaf w1 w2 w3,bb n.ks[at'],j7 n.leaf x1 x2 x3]/\L'=L/\PN X (fB n at') w1 w2 w3/\PN X (fO n at') x1 x2 x3:=by
 suffices g:CS Tryz.prog 267 [ptr r,.int .i64 (at':Nat)] L fun u L'=>∃ x y w1 w2 w3 x1 x2 x3,u=.tuple #[j7 n.leaf w1 w2 w3,bb n.ks[at'],j7 n.leaf x1 x2 x3]/\L'=x::y::L/\PN X (fB n at') w1 w2 w3/\PN X (fO n at') x1 x2 x3 by
  exact g.less fun u L' ⟨x,y,w1,w2,w3,x1,x2,x3,h1,h2,h3⟩=>⟨_,by rw[h2];exact ar.suffix (X:=[x,y]),w1,w2,w3,x1,x2,x3,h1,rfl,h3⟩
 obtain⟨v1,v2,v3,hr,hP⟩:=hN
 obtain⟨lf,ks,vs,kids⟩:=n
 have e1:=hs.k;have e2:=hs.v;have e3:=hs.z
 have gl:=hg.leafv;have gk:=hg.kidsz
 simp only at e1 e2 e3 hat gl gk hr
 have lk:(tx ks).length=ks.length:=by simp
 have lv:(tx vs).length=vs.length:=by simp
 have lz:(bx kids).length=kids.length:=by simp
 have hm:∀ (x y:Nat×aG) p,p∈X->p∈x::y::L:=fun x y p hp=>List.mem_cons_of_mem _ (List.mem_cons_of_mem _ (hX p hp))
 refine yF Tryz.f267 ?_
 refine yX 1 ?_
 refine yN fun r4=>?_
 refine yX 1 ?_
 refine yN fun r6=>?_
 refine xN ?_
 have m1:=hm (r6,dL) (r4,dL) _ hr
 repeat refine xQ ?_
 refine LS.drawn noGo mixed [(0,false),(1,false),(2,false),(3,false),(4,false),(5,false),(6,false),(7,false),(8,false),(9,false),(10,false),(11,false),(12,true)] rfl rfl (by kernel_rfl) ?_
 refine yX 3 ?_
 refine xE rfl rfl (aa m1 rfl rfl rfl rfl) rfl ?_
 refine yX 3 ?_
 refine xE rfl rfl (aa m1 rfl rfl rfl rfl) rfl ?_
 refine yX 2 ?_
 refine ba.slice3 hP.k rfl rfl rfl rfl rfl rfl rfl rfl (by simp only;omega) (by omega) (fun w1 hw1=>⟨_,rfl,?_⟩)
 have hk1:=wj (n:=ks.length) hw1 (cs':=tx (ks.take at')) (List.map_take ..).symm
 refine yQ rfl (Gy (bC hk1.sv) rfl rfl rfl) ?_
 refine ba.write rfl rfl (ax 1 (n:=4) rfl rfl rfl rfl rfl (dd (bC hk1.sv) y1 y1) rfl rfl) rfl (by repeat (first|exact ai.nil|refine ai.gone rfl ?_)) ?_
 refine yX 1 ?_
 have m2:=hm (r6,dL) (r4,an lf w1 (.slice none 0 0) (.slice none 0 0)) _ hr
 refine yX 4 ?_
 refine yR (aa m2 rfl rfl rfl rfl) ?_
 refine yP (zu rfl rfl) ?_
 refine yW (ax 0 (n:=4) rfl rfl rfl rfl rfl (dd y1 y1 y1) rfl rfl) ?_
 refine xN ?_
 have m3:=hm (r6,an lf (.slice none 0 0) (.slice none 0 0) (.slice none 0 0)) (r4,an lf w1 (.slice none 0 0) (.slice none 0 0)) _ hr
 refine yX 4 ?_
 refine yR (aa m3 rfl rfl rfl rfl) ?_
 refine yV 1 ?_
 refine LS.mid [0,1,4,5,6] (fun a L'=>∃ w2 w3 x1 x2 x3,PN X (fB ⟨lf,ks,vs,kids⟩ at') w1 w2 w3/\PN X (fO ⟨lf,ks,vs,kids⟩ at') x1 x2 x3/\L'=(r6,an lf x1 x2 x3)::(r4,an lf w1 w2 w3)::L/\a=[ptr r,.int .i64 (at':Nat),yC,yC,ptr r4,.string ⟨⟨[]⟩⟩,ptr r6,yC,yC,yC,yC,yC,yC,yC,yC,yC,yC,yC,yC,yC,yC,yC,yC,yC,yC,yC,yC,yC,yC,yC,yC,yC,yC,yC,yC,yC,yC,yC,yC,yC,yC,yC,yC,yC,yC,yC,yC,yC,yC,yC,yC,yC,yC,yC,yC,yC,yC,yC,yC,yC,yC,yC,yC,yC,yC,yC,yC,yC,yC,yC,yC,yC,yC,yC,yC,yC,yC,yC,yC,yC,yC,yC,yC,yC,yC]) ?_ ?_
 ·cases lf with
  | true =>
   have hvl:=gl rfl
   refine yX 5 ?_
   refine yR (aa m3 rfl rfl rfl rfl) ?_
   refine yX 2 ?_
   refine OS.slice3 hP.v rfl rfl rfl rfl rfl rfl rfl (by simp only;omega) (by omega) (fun w2 hw2=>⟨_,rfl,?_⟩)
   have hv2:=wj (n:=vs.length) hw2 (cs':=tx (vs.take at')) (List.map_take ..).symm
   refine yX 1 ?_
   refine yW (bQ 1 (bC hv2.sv) rfl rfl rfl rfl rfl rfl rfl) ?_
   refine xN ?_
   have m4:=hm (r6,an true (.slice none 0 0) (.slice none 0 0) (.slice none 0 0)) (r4,an true w1 w2 (.slice none 0 0)) _ hr
   repeat refine xQ ?_
   refine LS.drawn noGo mixed [(0,false),(1,false),(2,false),(3,false),(4,false),(5,false),(6,false),(7,false),(8,false),(9,false),(10,false),(11,false),(12,false),(13,true),(14,false),(15,true)] rfl rfl (by kernel_rfl) ?_
   refine yX 3 ?_
   refine xE rfl rfl (aa m4 rfl rfl rfl rfl) rfl ?_
   refine yX 1 ?_
   refine ba.slicePL hP.k (hm _ _) rfl rfl rfl rfl rfl rfl aR rfl rfl rfl (Nat.le_refl _) (by simp only;omega) (fun x1 hx1=>⟨_,rfl,?_⟩)
   have hxk:=nL hx1 (cs':=tx (ks.drop at')) (by simp) (List.map_drop ..).symm
   refine yX 3 ?_
   refine xE rfl rfl (aa m4 rfl rfl rfl rfl) rfl ?_
   refine yX 1 ?_
   refine ba.slicePLa hP.v (hm _ _) rfl rfl rfl rfl rfl rfl aR rfl rfl rfl (Nat.le_refl _) (by simp only;omega) (fun x2 hx2 hop=>⟨_,rfl,?_⟩)
   have m6:=hm (r6,an true x1 (.slice none 0 0) (.slice none 0 0)) (r4,an true w1 w2 (.slice none 0 0)) _ hr
   have hxv:=nL hx2 (cs':=tx (vs.drop at')) (by simp) (List.map_drop ..).symm
   refine yX 1 ?_
   refine ba.write rfl rfl (bQ 0 (bC hxk.sv) rfl rfl rfl rfl rfl rfl rfl) rfl (by repeat (first|exact ai.nil|refine ai.gone rfl ?_|refine ai.cons rfl (aa m6 rfl rfl rfl rfl) ?_|refine ai.cons rfl (hop _ (hm _ _)) ?_)) ?_
   refine yX 1 ?_
   refine ba.write rfl rfl (bQ 0 (bC hxv.sv) rfl rfl rfl rfl rfl rfl rfl) rfl (by repeat (first|exact ai.nil|refine ai.gone rfl ?_)) ?_
   refine yX 1 ?_
   refine⟨w2,.slice none 0 0,x1,x2,.slice none 0 0,⟨?_,?_,iq⟩,⟨?_,?_,iq⟩,rfl,rfl⟩
   ·show PL _ 1 X w1 (ks.take at').length _
    rw[List.length_take,Nat.min_eq_left (by omega)];exact hk1
   ·show PL _ 1 X w2 (vs.take at').length _
    rw[List.length_take,Nat.min_eq_left (by omega)];exact hv2
   ·show PL _ 1 X x1 (ks.drop at').length _
    rw[List.length_drop];exact hxk
   show PL _ 1 X x2 (vs.drop at').length _
   rw[List.length_drop];exact hxv
  | false =>
   have hkl:=gk rfl
   refine yX 5 ?_
   refine yR (aa m3 rfl rfl rfl rfl) ?_
   refine yX 1 ?_
   refine yP (aW (n:=1) rfl rfl rfl (ak (by omega) (by omega))) ?_
   refine yX 1 ?_
   refine yP (aW (n:=1) rfl rfl rfl (ak (by omega) (by omega))) ?_
   refine OS.slice3 hP.z rfl rfl rfl rfl rfl rfl rfl (by simp only;omega) (by omega) (fun w3 hw3=>⟨_,rfl,?_⟩)
   have hz3:=wj (n:=kids.length) hw3 (cs':=bx (kids.take (at'+1))) (List.map_take ..).symm
   refine yX 1 ?_
   refine yW (bQ 1 (bC hz3.sv) rfl rfl rfl rfl rfl rfl rfl) ?_
   refine xN ?_
   have m4:=hm (r6,an false (.slice none 0 0) (.slice none 0 0) (.slice none 0 0)) (r4,an false w1 (.slice none 0 0) w3) _ hr
   repeat refine xQ ?_
   refine LS.drawn noGo mixed [(0,false),(1,false),(2,false),(3,false),(4,false),(5,false),(6,false),(7,false),(8,false),(9,false),(10,false),(11,false),(12,false),(13,false),(14,false),(15,true),(16,false),(17,true)] rfl rfl (by kernel_rfl) ?_
   refine yX 3 ?_
   refine xE rfl rfl (aa m4 rfl rfl rfl rfl) rfl ?_
   refine yX 1 ?_
   refine yQ rfl (aW (n:=1) rfl rfl rfl (ak (by omega) (by omega))) ?_
   refine ba.slicePL hP.k (hm _ _) rfl rfl rfl rfl rfl rfl aR rfl rfl rfl (Nat.le_refl _) (by simp only;omega) (fun x1 hx1=>⟨_,rfl,?_⟩)
   have hxk:=nL hx1 (cs':=tx (ks.drop (at'+1))) (by simp) (List.map_drop ..).symm
   refine yX 3 ?_
   refine xE rfl rfl (aa m4 rfl rfl rfl rfl) rfl ?_
   refine yX 1 ?_
   refine yQ rfl (aW (n:=1) rfl rfl rfl (ak (by omega) (by omega))) ?_
   refine ba.slicePLa hP.z (hm _ _) rfl rfl rfl rfl rfl rfl aR rfl rfl rfl (Nat.le_refl _) (by simp only;omega) (fun x3 hx3 hop=>⟨_,rfl,?_⟩)
   have m6:=hm (r6,an false x1 (.slice none 0 0) (.slice none 0 0)) (r4,an false w1 (.slice none 0 0) w3) _ hr
   have hxz:=nL hx3 (cs':=bx (kids.drop (at'+1))) (by simp) (List.map_drop ..).symm
   refine yX 1 ?_
   refine ba.write rfl rfl (bQ 0 (bC hxk.sv) rfl rfl rfl rfl rfl rfl rfl) rfl (by repeat (first|exact ai.nil|refine ai.gone rfl ?_|refine ai.cons rfl (aa m6 rfl rfl rfl rfl) ?_|refine ai.cons rfl (hop _ (hm _ _)) ?_)) ?_
   refine yX 1 ?_
   refine ba.write rfl rfl (bQ 0 (bC hxz.sv) rfl rfl rfl rfl rfl rfl rfl) rfl (by repeat (first|exact ai.nil|refine ai.gone rfl ?_)) ?_
   refine yX 1 ?_
   refine⟨.slice none 0 0,w3,x1,.slice none 0 0,x3,⟨?_,iq,?_⟩,⟨?_,iq,?_⟩,rfl,rfl⟩
   ·show PL _ 1 X w1 (ks.take at').length _
    rw[List.length_take,Nat.min_eq_left (by omega)];exact hk1
   ·show PL _ 1 X w3 (kids.take (at'+1)).length _
    rw[List.length_take,Nat.min_eq_left (by omega)];exact hz3
   ·show PL _ 1 X x1 (ks.drop (at'+1)).length _
    rw[List.length_drop];exact hxk
   show PL _ 1 X x3 (kids.drop (at'+1)).length _
   rw[List.length_drop];exact hxz
 rintro a L' ⟨w2,w3,x1,x2,x3,hc1,hc2,rfl,rfl⟩
 have m5:=hm (r6,an lf x1 x2 x3) (r4,an lf w1 w2 w3) _ hr
 have N5:=hP.k.sv.mono (hm (r6,an lf x1 x2 x3) (r4,an lf w1 w2 w3))
 repeat refine xQ ?_
 refine LS.drawn noGo mixed [(0,false),(1,false),(2,false),(3,false),(4,false),(5,false),(6,false),(7,false),(8,false),(9,true),(10,false),(11,true)] rfl rfl (by kernel_rfl) ?_
 refine yX 4 ?_
 refine xE rfl rfl (aa m5 rfl rfl rfl rfl) rfl ?_
 refine yX 1 ?_
 refine ba.at1 (j:=at') (N5) (gJ hat) rfl rfl rfl rfl rfl rfl rfl (fun ra0 oa0 rowa0 csa0 ma0 ca0 ga0=>⟨_,rfl,?_⟩)
 refine xE rfl rfl (aa ma0 ca0 rfl rfl (ap rfl ga0)) rfl ?_
 refine yX 1 ?_
 refine ba.write rfl rfl (ax 1 (n:=4) rfl rfl rfl rfl rfl (dd (bC hc1.k.sv) (bC hc1.v.sv) (bC hc1.z.sv)) rfl rfl) rfl (by repeat (first|exact ai.nil|refine ai.gone rfl ?_|refine ai.cons rfl (aA 0 rfl rfl rfl rfl rfl) ?_|refine ai.cons rfl (aa m5 rfl rfl rfl rfl) ?_|refine ai.cons rfl (aa ma0 ca0 rfl rfl (ap rfl ga0)) ?_)) ?_
 refine yX 1 ?_
 refine ba.write rfl rfl (ax 0 (n:=4) rfl rfl rfl rfl rfl (dd (bC hc2.k.sv) (bC hc2.v.sv) (bC hc2.z.sv)) rfl rfl) rfl (by repeat (first|exact ai.nil|refine ai.gone rfl ?_)) ?_
 refine yX 1 ?_
 refine xT ⟨_,uk 1 0 (x:=4) (y:=5) (z:=6) rfl rfl rfl rfl rfl rfl rfl rfl rfl,?_⟩
 exact⟨_,_,w1,w2,w3,x1,x2,x3,rfl,rfl,hc1,hc2⟩
end Go.Proofs.YtoaojmobnbbnmaaGreat
end
namespace Go.Proofs.YtoaojmobnbbnmaaGreat
open Go.Am
def qf(n:Nd)(q:Nat):Nat:=max (gK (fB n q)) (gK (fO n q))
theorem tc {n:Nd}(hs:Sm n)(q:Nat):Sm (fB n q)/\Sm (fO n q):=by
 have e1:=hs.k;have e2:=hs.v;have e3:=hs.z
 refine⟨⟨?_,?_,?_,fun k hk=>hs.kl k (List.mem_of_mem_take hk),fun k hk=>?_⟩,⟨?_,?_,?_,fun k hk=>hs.kl k (List.mem_of_mem_drop hk),fun k hk=>?_⟩⟩
 ·show (n.ks.take q).length<=_;rw[List.length_take];omega
 ·show (if n.leaf then n.vs.take q else []).length<=_;split <;> simp <;> omega
 ·show (if n.leaf then [] else n.kids.take (q+1)).length<=_;split <;> simp <;> omega
 ·have hk':k∈(if n.leaf then n.vs.take q else []):=hk
  split at hk'
  ·exact hs.vl k (List.mem_of_mem_take hk')
  cases hk'
 ·show (n.ks.drop _).length<=_;rw[List.length_drop];omega
 ·show (if n.leaf then n.vs.drop q else []).length<=_;split <;> simp <;> omega
 ·show (if n.leaf then [] else n.kids.drop (q+1)).length<=_;split <;> simp <;> omega
 have hk':k∈(if n.leaf then n.vs.drop q else []):=hk
 split at hk'
 ·exact hs.vl k (List.mem_of_mem_drop hk')
 cases hk'
variable{X L:RL}{r:Nat}
set_option maxHeartbeats 4000000 in
theorem DE {n:Nd}(hX:∀ p,p∈X->p∈L)(hN:eZ X r n)(hs:Sm n)(hg:lJ n)(h2:2<=n.ks.length) :
  CS Tryz.prog 249 [ptr r] L fun u L'=>∃ w1 w2 w3 x1 x2 x3 b key,1<=b/\n.ks[b]?=some key/\(∀ q,1<=q->q<n.ks.length->qf n b<=qf n q)/\u=.tuple #[j7 n.leaf w1 w2 w3,bb key,j7 n.leaf x1 x2 x3]/\L'=L/\PN X (fB n b) w1 w2 w3/\PN X (fO n b) x1 x2 x3:=by
 suffices g:CS Tryz.prog 249 [ptr r] L fun u L'=>∃ x y w1 w2 w3 x1 x2 x3 b key,1<=b/\n.ks[b]?=some key/\(∀ q,1<=q->q<n.ks.length->qf n b<=qf n q)/\u=.tuple #[j7 n.leaf w1 w2 w3,bb key,j7 n.leaf x1 x2 x3]/\L'=x::y::L/\PN X (fB n b) w1 w2 w3/\PN X (fO n b) x1 x2 x3 by
  exact g.less fun u L' ⟨x,y,w1,w2,w3,x1,x2,x3,b,key,h1,h2,h3,h4,h5,h6⟩=>⟨_,by rw[h5];exact ar.suffix (X:=[x,y]),w1,w2,w3,x1,x2,x3,b,key,h1,h2,h3,h4,rfl,h6⟩
 have hN0:=hN
 obtain⟨v1,v2,v3,hr,hP⟩:=hN
 have e1:=hs.k
 have hm:∀ (A:RL) p,p∈X->p∈A++L:=fun A p hp=>List.mem_append_right A (hX p hp)
 refine CS.mk (fn:=Tryz.f249) rfl rfl rfl rfl ?_
 repeat refine xQ ?_
 refine xG rfl ?_
 refine OS.fresh rfl (dG (fun _=>rfl) rfl) (fun _=>rfl) (fun r2=>?_)
 refine xP rfl yH rfl ?_
 refine OS.fresh rfl (dG (fun _=>rfl) rfl) (fun _=>rfl) (fun r4=>?_)
 refine xN ?_
 repeat refine xQ ?_
 refine xG rfl ?_
 iterate 2 refine xP rfl yH rfl ?_
 refine xN ?_
 repeat refine xQ ?_
 refine xG rfl ?_
 refine xP rfl yH rfl ?_
 refine xN ?_
 have m1:=hm [(r4,dL),(r2,dL)] _ hr
 have N1:=hP.k.sv.mono (hm [(r4,dL),(r2,dL)])
 repeat refine xQ ?_
 refine LS.block ?_
 refine LS.loopJ [0,2,4,5,6,7] (fun z a' L'=>∃ a b l:Nat,1<=a/\a<=n.ks.length/\((b=0/\a=1/\l=0)∨(1<=b/\b<a/\l=qf n b/\∀ q,1<=q->q<a->l<=qf n q))/\z=n.ks.length-a/\L'=(r4,dL)::(r2,dL)::L/\a'=[ptr r,yC,ptr r2,yC,ptr r4,.int .i64 (b:Nat),.int .i64 (l:Nat),.int .i64 (a:Nat),yC,yC,yC,yC,yC,yC,yC,yC,yC,yC,yC,yC,yC,yC,yC,yC,yC,yC,yC,yC,yC,yC,yC,yC,yC,yC,yC,yC,yC,yC,yC,yC,yC,yC,yC,yC,yC,yC,yC,yC]) (n:=n.ks.length-1) rfl ⟨1,0,0,Nat.le_refl _,by omega,.inl ⟨rfl,rfl,rfl⟩,rfl,rfl,rfl⟩ ?_
 rintro z a' L' ⟨a,b,l,ha1,ha2,hinv,rfl,rfl,rfl⟩
 repeat refine xQ ?_
 refine xG rfl ?_
 iterate 4 refine xP rfl yH rfl ?_
 refine xR rfl (aa m1 rfl rfl rfl rfl) rfl ?_
 refine xP rfl (az N1 rfl rfl rfl rfl rfl) rfl ?_
 by_cases hend:n.ks.length<=a
 ·have hb:(!av (n.ks.length:Nat) (a:Nat))=false:=by rw[am,decide_eq_true (by omega)];rfl
  refine xP rfl (lB yH (hb)) rfl ?_
  refine xN ?_
  repeat refine xQ ?_
  refine xC rfl (fun hc=>?_) (fun hc=>?_)
  ·cases hc
  refine LS.exit ?_
  rcases hinv with ⟨rfl,rfl,rfl⟩|⟨hb1,hb2,rfl,hmin⟩
  ·omega
  have hbl:b<n.ks.length:=by omega
  repeat refine xQ ?_
  refine xG rfl ?_
  iterate 2 refine xP rfl yH rfl ?_
  refine xA noGo rfl (fun _=>rfl) ((GP (X:=X) (hm [(r4,dL),(r2,dL)]) hN0 hs hg hbl).mono ?_)
  rintro u L' ⟨w1,w2,w3,x1,x2,x3,rfl,rfl,p1,p2⟩
  refine⟨_,rfl,?_⟩
  iterate 3 refine xP rfl yH rfl ?_
  refine OS.write rfl (ax 1 (n:=4) rfl rfl rfl rfl rfl (dd (bC p1.k.sv) (bC p1.v.sv) (bC p1.z.sv)) rfl rfl) rfl ?_
  refine xP rfl yH rfl ?_
  refine OS.write rfl (ax 0 (n:=4) rfl rfl rfl rfl rfl (dd (bC p2.k.sv) (bC p2.v.sv) (bC p2.z.sv)) rfl rfl) rfl ?_
  refine xN ?_
  refine xT ⟨_,uk 1 0 (x:=2) (y:=3) (z:=4) rfl rfl rfl rfl rfl rfl rfl rfl rfl,?_⟩
  exact⟨_,_,w1,w2,w3,x1,x2,x3,b,n.ks[b],hb1,List.getElem?_eq_getElem hbl,fun q h1 h2=>hmin q h1 (by omega),rfl,rfl,p1,p2⟩
 have hb:(!av (n.ks.length:Nat) (a:Nat))=true:=by rw[am,decide_eq_false (by omega)];rfl
 refine xP rfl (lB yH (hb)) rfl ?_
 refine xN ?_
 repeat refine xQ ?_
 refine xC rfl (fun hc=>?_) (fun hc=>?_)
 ·refine LS.skip ?_
  repeat refine xQ ?_
  refine LS.block ?_
  repeat refine xQ ?_
  refine xG rfl ?_
  iterate 2 refine xP rfl yH rfl ?_
  refine xA noGo rfl (fun _=>rfl) ((GP (X:=X) (hm [(r4,dL),(r2,dL)]) hN0 hs hg (show a<n.ks.length by omega)).mono ?_)
  rintro u L' ⟨w1,w2,w3,x1,x2,x3,rfl,rfl,p1,p2⟩
  refine⟨_,rfl,?_⟩
  iterate 4 refine xP rfl yH rfl ?_
  refine OS.fresh rfl (dG (fun _=>rfl) rfl) (fun _=>rfl) (fun r8=>?_)
  refine OS.fresh rfl (dG (fun _=>rfl) rfl) (fun _=>rfl) (fun r10=>?_)
  refine OS.write rfl (ax 1 (n:=4) rfl rfl rfl rfl rfl (dd (bC p1.k.sv) (bC p1.v.sv) (bC p1.z.sv)) rfl rfl) rfl ?_
  refine xP rfl yH rfl ?_
  refine OS.write rfl (ax 0 (n:=4) rfl rfl rfl rfl rfl (dd (bC p2.k.sv) (bC p2.v.sv) (bC p2.z.sv)) rfl rfl) rfl ?_
  refine xN ?_
  have hnv1:=p1.nv (tc hs a).1 (hm [(r10,an n.leaf x1 x2 x3),(r8,an n.leaf w1 w2 w3),(r4,dL),(r2,dL)])
  have hnv2:=p2.nv (tc hs a).2 (hm [(r10,an n.leaf x1 x2 x3),(r8,an n.leaf w1 w2 w3),(r4,dL),(r2,dL)])
  repeat refine xQ ?_
  refine LS.drawn noGo mixed [(0,false),(2,false),(1,true),(3,true),(4,false),(5,false)] rfl rfl (by kernel_rfl) ?_
  refine xE rfl rfl (aA 1 rfl rfl rfl rfl rfl) rfl ?_
  refine xE rfl rfl (aA 0 rfl rfl rfl rfl rfl) rfl ?_
  refine ba.call rfl rfl (fun _=>rfl) ((qG hnv1 (by have:=(tc hs a).1.k;omega)).mono ?_)
  rintro u L' ⟨rfl,rfl⟩
  refine⟨_,rfl,(by repeat (first|exact ai.nil|refine ai.gone rfl ?_|refine ai.cons rfl (aA 0 rfl rfl rfl rfl rfl) ?_)),?_⟩
  refine ba.call rfl rfl (fun _=>rfl) ((qG hnv2 (by have:=(tc hs a).2.k;omega)).mono ?_)
  rintro u L' ⟨rfl,rfl⟩
  refine⟨_,rfl,(by repeat (first|exact ai.nil|refine ai.gone rfl ?_|refine ai.cons rfl (aA 0 rfl rfl rfl rfl rfl) ?_)),?_⟩
  refine xD rfl rfl (cW (Gs rfl rfl rfl) (congrArg (Value.int .i64) (show max ((gK (fB n a):Nat):Int) ((gK (fO n a):Nat):Int)=((qf n a:Nat):Int) by unfold qf;omega))) rfl ?_
  refine xD rfl rfl yH rfl ?_
  refine xM ?_
  rcases hinv with ⟨rfl,rfl,rfl⟩|⟨hb1,hb2,rfl,hmin⟩
  ·have hb:bc ((0:Nat):Int) 0=true:=rfl
   repeat refine xQ ?_
   refine xG rfl ?_
   refine xP rfl yH rfl ?_
   refine xP rfl (lB yH (hb)) rfl ?_
   refine xP rfl yH rfl ?_
   iterate 3 refine xK rfl rfl ?_
   refine xP rfl yH rfl ?_
   refine xN ?_
   repeat refine xQ ?_
   refine xC rfl (fun hc=>?_) (fun hc=>?_)
   ·repeat refine xQ ?_
    refine xG rfl ?_
    iterate 4 refine xP rfl yH rfl ?_
    refine OS.sub (ar.drop 0 rfl) ?_
    refine OS.sub (ar.drop 0 rfl) ?_
    refine xN ?_
    repeat refine xQ ?_
    refine xG rfl ?_
    refine xP rfl yH rfl ?_
    refine xP rfl (aW (n:=1) rfl rfl rfl (ak (by omega) (by omega))) rfl ?_
    refine xP rfl yH rfl ?_
    refine xN ?_
    refine⟨n.ks.length-(1+1),by omega,1+1,1,qf n 1,by omega,by omega,.inr ⟨Nat.le_refl _,by omega,rfl,fun q h1 h2=>?_⟩,rfl,rfl,rfl⟩
    have:q=1:=by omega
    subst this
    exact Nat.le_refl _
   cases hc
  have hb:bc ((b:Nat):Int) 0=false:=by
   have:=gn (m:=b) (n:=0)
   rw[decide_eq_false (by omega)]at this
   exact this
  repeat refine xQ ?_
  refine xG rfl ?_
  refine xP rfl yH rfl ?_
  refine xP rfl (lB yH (hb)) rfl ?_
  iterate 3 refine xP rfl yH rfl ?_
  by_cases hlt:qf n a<qf n b
  ·have hb:(!av ((qf n b:Nat):Int) ((qf n a:Nat):Int))=true:=by rw[am,decide_eq_false (by omega)];rfl
   refine xP rfl (lB yH (hb)) rfl ?_
   refine xP rfl yH rfl ?_
   refine xN ?_
   repeat refine xQ ?_
   refine xC rfl (fun hc=>?_) (fun hc=>?_)
   ·repeat refine xQ ?_
    refine xG rfl ?_
    iterate 4 refine xP rfl yH rfl ?_
    refine OS.sub (ar.drop 0 rfl) ?_
    refine OS.sub (ar.drop 0 rfl) ?_
    refine xN ?_
    repeat refine xQ ?_
    refine xG rfl ?_
    refine xP rfl yH rfl ?_
    refine xP rfl (aW (n:=1) rfl rfl rfl (ak (by omega) (by omega))) rfl ?_
    refine xP rfl yH rfl ?_
    refine xN ?_
    refine⟨n.ks.length-(a+1),by omega,a+1,a,qf n a,by omega,by omega,.inr ⟨ha1,by omega,rfl,fun q h1 h2=>?_⟩,rfl,rfl,rfl⟩
    by_cases hq:q=a
    ·subst hq;exact Nat.le_refl _
    have:=hmin q h1 (by omega);omega
   cases hc
  have hb:(!av ((qf n b:Nat):Int) ((qf n a:Nat):Int))=false:=by rw[am,decide_eq_true (by omega)];rfl
  refine xP rfl (lB yH (hb)) rfl ?_
  refine xP rfl yH rfl ?_
  refine OS.sub (ar.drop 0 rfl) ?_
  refine OS.sub (ar.drop 0 rfl) ?_
  refine xN ?_
  repeat refine xQ ?_
  refine xC rfl (fun hc=>?_) (fun hc=>?_)
  ·cases hc
  refine LS.skip ?_
  repeat refine xQ ?_
  refine xG rfl ?_
  refine xP rfl yH rfl ?_
  refine xP rfl (aW (n:=1) rfl rfl rfl (ak (by omega) (by omega))) rfl ?_
  refine xP rfl yH rfl ?_
  refine xN ?_
  refine⟨n.ks.length-(a+1),by omega,a+1,b,qf n b,by omega,by omega,.inr ⟨hb1,by omega,rfl,fun q h1 h2=>?_⟩,rfl,rfl,rfl⟩
  by_cases hq:q=a
  ·subst hq;omega
  exact hmin q h1 (by omega)
 cases hc
theorem kW {l:Tx}:∀ {ks:List Tx},rise l ks=true↔ks.Pairwise (fun a b=>aq a b=true)/\∀ k∈ks,aq l k=true/\k.length<=32
 | []=>by simp[rise]
 | k::ks=>by
  rw[fj,kW (l:=k),List.pairwise_cons]
  constructor
  ·rintro ⟨h1,h2,h3,h4⟩
   refine⟨⟨fun x hx=>(h4 x hx).1,h3⟩,fun x hx=>?_⟩
   rcases List.mem_cons.1 hx with rfl|hx
   ·exact⟨h1,h2⟩
   exact⟨lt_trans h1 (h4 x hx).1,(h4 x hx).2⟩
  rintro ⟨⟨h1,h2⟩,h3⟩
  exact⟨(h3 k (List.mem_cons_self ..)).1,(h3 k (List.mem_cons_self ..)).2,h2,fun x hx=>⟨h1 x hx,(h3 x (List.mem_cons_of_mem _ hx)).2⟩⟩
theorem re {l:Tx}{ks ks':List Tx}(h:rise l ks=true)(s:ks'.Sublist ks):rise l ks'=true:=by
 rw[kW]at h ⊢
 exact⟨h.1.sublist s,fun k hk=>h.2 k (s.subset hk)⟩
theorem rW {n:Nd}(h:bW n=true):lJ n:=by
 obtain⟨_,h⟩:=cI.1 h
 rcases h with ⟨h1,h2,h3,_⟩|⟨h1,h2,h3,_⟩
 ·exact .inl ⟨h1,h2,h3⟩
 exact .inr ⟨h1,h2,h3⟩
theorem te {n:Nd}{q:Nat}(h:bW n=true)(hq:q<n.ks.length):bW (fB n q)=true:=by
 obtain⟨h0,h⟩:=cI.1 h
 refine cI.2 ⟨re h0 (List.take_sublist ..),?_⟩
 rcases h with ⟨hl,h1,h2,h3⟩|⟨hl,h1,h2,h3⟩
 ·refine .inl ⟨hl,?_,?_,?_⟩
  ·show (if n.leaf then n.vs.take q else []).length=(n.ks.take q).length
   rw[if_pos hl,List.length_take,List.length_take,h1]
  ·show (if n.leaf then [] else n.kids.take (q+1))=[]
   rw[if_pos hl]
  show ∀ v∈(if n.leaf then n.vs.take q else []),_
  rw[if_pos hl];exact fun v hv=>h3 v (List.mem_of_mem_take hv)
 have hf:¬ (n.leaf=true):=by rw[hl];decide
 refine .inr ⟨hl,?_,?_,?_⟩
 ·show (if n.leaf then [] else n.kids.take (q+1)).length=(n.ks.take q).length+1
  rw[if_neg hf,List.length_take,List.length_take];omega
 ·show (if n.leaf then n.vs.take q else [])=[]
  rw[if_neg hf]
 show ∀ v∈(if n.leaf then [] else n.kids.take (q+1)),_
 rw[if_neg hf];exact fun v hv=>h3 v (List.mem_of_mem_take hv)
theorem oz {n:Nd}{q:Nat}(h:bW n=true)(hq:q<n.ks.length):bW (fO n q)=true:=by
 obtain⟨h0,h⟩:=cI.1 h
 refine cI.2 ⟨re h0 (List.drop_sublist ..),?_⟩
 rcases h with ⟨hl,h1,h2,h3⟩|⟨hl,h1,h2,h3⟩
 ·refine .inl ⟨hl,?_,?_,?_⟩
  ·show (if n.leaf then n.vs.drop q else []).length=(n.ks.drop (if n.leaf then q else q+1)).length
   rw[if_pos hl,if_pos hl,List.length_drop,List.length_drop,h1]
  ·show (if n.leaf then [] else n.kids.drop (q+1))=[]
   rw[if_pos hl]
  show ∀ v∈(if n.leaf then n.vs.drop q else []),_
  rw[if_pos hl];exact fun v hv=>h3 v (List.mem_of_mem_drop hv)
 have hf:¬ (n.leaf=true):=by rw[hl];decide
 refine .inr ⟨hl,?_,?_,?_⟩
 ·show (if n.leaf then [] else n.kids.drop (q+1)).length=(n.ks.drop (if n.leaf then q else q+1)).length+1
  rw[if_neg hf,if_neg hf,List.length_drop,List.length_drop];omega
 ·show (if n.leaf then n.vs.drop q else [])=[]
  rw[if_neg hf]
 show ∀ v∈(if n.leaf then [] else n.kids.drop (q+1)),_
 rw[if_neg hf];exact fun v hv=>h3 v (List.mem_of_mem_drop hv)
theorem jv:∀ {ks bs ks' bs':List Tx},ks.length=bs.length->bi (ks++ks') (bs++bs')=bi ks bs++bi ks' bs'
 | [],[],_,_,_=>rfl
 | [],_::_,_,_,h=>by simp at h
 | _::_,[],_,_,h=>by simp at h
 | k::ks,b::bs,ks',bs',h=>by
  have:=jv (ks:=ks) (bs:=bs) (ks':=ks') (bs':=bs') (by simpa using h)
  simp only[List.cons_append,bi,this,List.append_assoc]
variable{ks:List Tx}
theorem ju {bs:List Tx}{q:Nat}(h:ks.length=bs.length):(bi ks bs).length=(bi (ks.take q) (bs.take q)).length+(bi (ks.drop q) (bs.drop q)).length:=by
 have:=jv (ks:=ks.take q) (bs:=bs.take q) (ks':=ks.drop q) (bs':=bs.drop q) (by rw[List.length_take,List.length_take,h])
 rw[List.take_append_drop,List.take_append_drop]at this
 rw[this,List.length_append]
theorem CU {B:Nat}{ks bs:List Tx}{q:Nat}(h:ks.length=bs.length)(hq:q<ks.length)(h1:∀ k∈ks,(tB k).length<=33)(h2:∀ b∈bs,b.length<=B):(bi (ks.take (q+1)) (bs.take (q+1))).length<=(bi (ks.take q) (bs.take q)).length+(33+B):=by
 have e1:ks.take (q+1)=ks.take q++[ks[q]]:=by simp
 have e2:bs.take (q+1)=bs.take q++[bs[q]'(by omega)]:=by simp
 rw[e1,e2,jv (by rw[List.length_take,List.length_take,h])]
 have g1:=h1 _ (List.getElem_mem hq)
 have g2:=h2 _ (List.getElem_mem (show q<bs.length by omega))
 simp only[List.length_append,bi,List.append_nil]
 omega
theorem LI {F:Nat->Nat}{C:Nat}:∀ {n:Nat},F 0<=C->C<F n->∃ q,q<n/\F q<=C/\C<F (q+1)
 | 0,h0,h1=>by omega
 | n+1,h0,h1=>by
  by_cases h:C<F n
  ·obtain⟨q,hq,h2⟩:=LI h0 h
   exact⟨q,by omega,h2⟩
  exact⟨n,by omega,by omega,h1⟩
theorem GR {n:Nd}{q:Nat}:cC (fB n q)=(cC n).take q:=by
 unfold cC
 cases hl:n.leaf with
 | true =>
  have:(fB n q).leaf=true:=hl
  rw[this,if_pos rfl,if_pos rfl]
  show (if n.leaf then n.vs.take q else []).map tB=_
  rw[if_pos hl,List.map_take]
 | false =>
  have:(fB n q).leaf=false:=hl
  rw[this,if_neg (by decide),if_neg (by decide)]
  show (if n.leaf then [] else n.kids.take (q+1)).tail.map cnt=_
  rw[if_neg (by rw[hl];decide),←List.map_take]
  congr 1
  cases n.kids with
  | nil=>simp
  | cons z zs=>simp
theorem GQ {n:Nd}{q:Nat}:cC (fO n q)=(cC n).drop (if n.leaf then q else q+1):=by
 unfold cC
 cases hl:n.leaf with
 | true =>
  have:(fO n q).leaf=true:=hl
  rw[this,if_pos rfl,if_pos rfl]
  show (if n.leaf then n.vs.drop q else []).map tB=_
  rw[if_pos hl,List.map_drop];rfl
 | false =>
  have:(fO n q).leaf=false:=hl
  rw[this,if_neg (by decide),if_neg (by decide)]
  show (if n.leaf then [] else n.kids.drop (q+1)).tail.map cnt=_
  rw[if_neg (by rw[hl];decide)]
  show _=(n.kids.tail.map cnt).drop (q+1)
  rw[←List.map_drop]
  congr 1
  simp[List.tail_drop,List.drop_tail]
theorem CB {z:Int}(hz:0<=z/\z<=32768):(cnt z).length<=3:=by
 obtain⟨m,rfl⟩:=Int.eq_ofNat_of_zero_le hz.1
 rw[l7 (by omega)]
 exact ko (k:=3) (by omega) (by omega)
theorem Kt {n:Nd}(h:bW n=true):∀ b∈cC n,b.length<=65:=fun b hb=>by
 unfold cC at hb
 split at hb
 ·rename_i hl
  obtain⟨v,hv,rfl⟩:=List.mem_map.1 hb
  have:=(de h hl).2.2 v hv
  rw[gA (by omega)];omega
 rename_i hl
 obtain⟨v,hv,rfl⟩:=List.mem_map.1 hb
 have:=CB ((cl h (by simpa using hl)).2.2 v (List.mem_of_mem_tail hv))
 omega
theorem Cm {n:Nd}(h:bW n=true):(co n).length<=3:=by
 unfold co
 split
 ·simp
 rename_i hl
 obtain⟨g1,g2,g3⟩:=cl h (by simpa using hl)
 refine CB ?_
 cases hk:n.kids with
 | nil=>rw[hk]at g1;simp at g1
 | cons z zs=>exact g3 z (by rw[hk];exact List.mem_cons_self ..)
theorem J8 {n:Nd}{q:Nat}(hq:0<n.kids.length∨n.leaf=true):co (fB n q)=co n:=by
 unfold co
 show (if n.leaf then [] else cnt ((if n.leaf then [] else n.kids.take (q+1)).headD 0))=_
 cases hl:n.leaf with
 | true=>rfl
 | false =>
  rw[if_neg (by decide),if_neg (by decide),if_neg (by decide)]
  cases hk:n.kids with
  | nil=>simp
  | cons z zs=>simp
theorem zA {n:Nd}(hb:Bg n)(h1:256<(aE n).length)(h2:(aE n).length<=354):∃ q,1<=q/\q<n.ks.length/\qf n q<=256:=by
 have hk:=hb.keys
 have hm:=hb.may
 have hbl:=oD hm
 have hks:∀ k∈n.ks,(tB k).length<=33:=fun k hk=>by
  have:=jl hm k hk
  rw[gA (by omega)];omega
 have h65:=Kt hm
 have hf3:=Cm hm
 have hbody:=d8 (n:=n) (by omega)
 obtain⟨q,hq,g1,g2⟩:=LI (F:=fun q=>(bi (n.ks.take q) ((cC n).take q)).length) (C:=254-(co n).length) (n:=n.ks.length) (by simp[bi]) (by
  show _<(bi (n.ks.take n.ks.length) ((cC n).take n.ks.length)).length
  rw[List.take_length,List.take_of_length_le (by omega)];omega)
 have g3:=CU (q:=q) hbl.symm hq hks h65
 have hq1:1<=q:=by
  rcases Nat.eq_zero_or_pos q with h|h
  ·subst h
   simp[bi]at g3 g2
   omega
  exact h
 have hpos:0<n.kids.length∨n.leaf=true:=by
  cases hl:n.leaf with
  | true=>exact .inr rfl
  | false=>exact .inl (by have:=(cl hm hl).1;omega)
 have hL:(aE (fB n q)).length<=256:=by
  rw[d8 (by show (n.ks.take q).length<=127;rw[List.length_take];omega),J8 hpos,GR]
  show 2+(_+(bi (n.ks.take q) _).length)<=256
  omega
 have htot:=ju (q:=q) hbl.symm
 have hR:(aE (fO n q)).length<=256:=by
  rw[d8 (by show (n.ks.drop _).length<=127;rw[List.length_drop];omega),GQ]
  have hfr:=Cm (oz hm hq)
  show 2+(_+(bi (n.ks.drop _) _).length)<=256
  cases hl:n.leaf with
  | true =>
   have:(if true=true then q else q+1)=q:=rfl
   rw[this];omega
  | false =>
   have:(if false=true then q else q+1)=q+1:=rfl
   rw[this]
   have:=ju (q:=q+1) hbl.symm
   omega
 have sL:gK (fB n q)=(aE (fB n q)).length:=by unfold gK;rw[if_pos (te hm hq)]
 have sR:gK (fO n q)=(aE (fO n q)).length:=by unfold gK;rw[if_pos (oz hm hq)]
 exact⟨q,hq1,hq,by unfold qf;omega⟩
theorem gV {n:Nd}(h:bW n=true)(hs:gK n<=256):aQ n=true:=by
 unfold gK at hs
 rw[if_pos h]at hs
 unfold aQ
 rw[h,decide_eq_true hs];rfl
def gS:(h:Nat)->Tr h->Nat->Tr h
 | 0,t,q=>lf (Lf.p t) ((Lf.ks t).take q) ((Lf.vs t).take q)
 | _+1,t,q=>bG (oJ.p t) ((oJ.ks t).take q) ((oJ.ts t).take (q+1))
def fR:(h:Nat)->Tr h->Nat->Nat->Tr h
 | 0,t,q,p=>lf p ((Lf.ks t).drop q) ((Lf.vs t).drop q)
 | _+1,t,q,p=>bG p ((oJ.ks t).drop (q+1)) ((oJ.ts t).drop (q+1))
theorem B5:∀ {h:Nat} {t:Tr h} {q:Nat},nd h (gS h t q)=fB (nd h t) q
 | 0,_,_=>rfl
 | h+1,t,q=>by
  obtain⟨p,ks,ts,rfl⟩:=aO t
  show (⟨false,ks.take q,[],aV (ts.take (q+1))⟩:Nd)=_
  simp[fB,aV,List.map_take]
theorem B4:∀ {h:Nat} {t:Tr h} {q p:Nat},nd h (fR h t q p)=fO (nd h t) q
 | 0,_,_,_=>rfl
 | h+1,t,q,p'=>by
  obtain⟨p,ks,ts,rfl⟩:=aO t
  show (⟨false,ks.drop (q+1),[],aV (ts.drop (q+1))⟩:Nd)=_
  simp[fO,aV,List.map_drop]
theorem qr:∀ {h:Nat} {t:Tr h} {q:Nat},no h (gS h t q)=no h t
 | 0,_,_=>rfl
 | _+1,_,_=>rfl
theorem qq:∀ {h:Nat} {t:Tr h} {q p:Nat},no h (fR h t q p)=p
 | 0,_,_,_=>rfl
 | _+1,_,_,_=>rfl
def Ln:(h:Nat)->Tr h->Prop
 | 0,_=>True
 | h+1,t=>∀ s∈oJ.ts t,cQ h s
theorem cQ.kok:∀ {h:Nat} {t:Tr h},cQ h t->Ln h t
 | 0,_,_=>trivial
 | _+1,_,h=>h.2
theorem Jl:∀ {h:Nat} {t:Tr h},aQ (nd h t)=true->Ln h t->(nd h t).ks≠[]∨(nd h t).leaf=false->cQ h t
 | 0,t,hf,_,hne=>⟨hf,by
  rcases hne with h|h
  ·exact h
  cases h⟩
 | _+1,_,hf,hk,_=>⟨hf,hk⟩
theorem B2:∀ {h:Nat} {t:Tr h} {q:Nat},Ln h t->1<=q->q<(nd h t).ks.length->aQ (fB (nd h t) q)=true->cQ h (gS h t q)
 | 0,t,q,hk,h1,h2,hf=>by
  obtain⟨p,ks,vs,rfl⟩:=br t
  refine⟨hf,fun hh=>?_⟩
  have h2:q<ks.length:=h2
  have hl:(ks.take q).length=0:=by rw[show ks.take q=[] from hh];rfl
  rw[List.length_take]at hl
  omega
 | h+1,t,q,hk,h1,h2,hf=>⟨by rw[B5];exact hf,fun s hs=>hk s (List.mem_of_mem_take hs)⟩
theorem B0:∀ {h:Nat} {t:Tr h} {q p:Nat},Ln h t->q<(nd h t).ks.length->aQ (fO (nd h t) q)=true->cQ h (fR h t q p)
 | 0,t,q,p',hk,h2,hf=>by
  obtain⟨p,ks,vs,rfl⟩:=br t
  refine⟨hf,fun hh=>?_⟩
  have h2:q<ks.length:=h2
  have hl:(ks.drop q).length=0:=by rw[show ks.drop q=[] from hh];rfl
  rw[List.length_drop]at hl
  omega
 | h+1,t,q,p',hk,h2,hf=>⟨by rw[B4];exact hf,fun s hs=>hk s (List.mem_of_mem_drop hs)⟩
theorem SQ.ins {a b:List It}{k v:Tx}(h1:∃ k0 v0,It.K k0 v0∈a)(h2:∀ x∈a,∃ k v,x=It.K k v):SQ (a++It.K k v::b) (a++It.S k::It.K k v::b):=by
 refine⟨by simp only[dm,List.filterMap_append,List.filterMap_cons,LB],fun X Y h=>?_⟩
 unfold eC at h ⊢
 have e1:X++((a++It.K k v::b)++Y)=(X++a)++(It.K k v::(b++Y)):=by simp
 have e2:X++((a++It.S k::It.K k v::b)++Y)=(X++a)++(It.S k::It.K k v::(b++Y)):=by simp
 rw[e1,List.pairwise_append]at h
 rw[e2,List.pairwise_append]
 obtain⟨g1,g2,g3⟩:=h
 have g2':=List.pairwise_cons.1 g2
 refine⟨g1,List.pairwise_cons.2 ⟨fun y hy=>?_,g2⟩,fun x hx y hy=>?_⟩
 ·rcases List.mem_cons.1 hy with rfl|hy
  ·exact cT.2 (.inr rfl)
  have:=g2'.1 y hy
  cases y with
  | K k' v'=>exact cT.2 (.inl this)
  | S s=>exact this
 rcases List.mem_cons.1 hy with rfl|hy
 ·have hk:=g3 x hx (It.K k v) (List.mem_cons_self ..)
  cases x with
  | K k' v'=>exact hk
  | S s =>
   obtain⟨k0,v0,h0⟩:=h1
   have hxX:It.S s∈X:=by
    rcases List.mem_append.1 hx with h|h
    ·exact h
    obtain⟨k',v',he⟩:=h2 _ h;cases he
   have f1:qg s k0=true:=(List.pairwise_append.1 g1).2.2 _ hxX _ h0
   have f2:aq k0 k=true:=g3 _ (List.mem_append_right _ h0) (It.K k v) (List.mem_cons_self ..)
   show aq s k=true
   rcases cT.1 f1 with f1|f1
   ·exact lt_trans f1 f2
   rw[f1];exact f2
 exact g3 x hx y hy
theorem xp:∀ {ks vs:List Tx} {x:It},x∈List.zipWith It.K ks vs->∃ k v,x=It.K k v
 | [],_,x,h=>by simp at h
 | _::_,[],x,h=>by simp at h
 | k::ks,v::vs,x,h=>by
  rw[List.zipWith_cons_cons]at h
  rcases List.mem_cons.1 h with rfl|h
  ·exact⟨k,v,rfl⟩
  exact xp h
theorem JF:∀ {h:Nat} {t:Tr h} {q p2:Nat} {key:Tx},lJ (nd h t)->1<=q->(nd h t).ks[q]?=some key->SQ (sq h t) (sq h (gS h t q)++It.S key::sq h (fR h t q p2))
 | 0,t,q,p2,key,hg,h1,hk=>by
  obtain⟨p,ks,vs,rfl⟩:=br t
  have hv:vs.length=ks.length:=hg.leafv rfl
  obtain⟨hq,hkey⟩:=List.getElem?_eq_some_iff.1 hk
  have hq:q<ks.length:=hq
  have hkey:ks[q]=key:=hkey
  have e1:ks.drop q=key::ks.drop (q+1):=by rw[←hkey];simp
  have e2:vs.drop q=vs[q]::vs.drop (q+1):=by simp
  have e3:sq 0 (lf p ks vs)=List.zipWith It.K (ks.take q) (vs.take q)++(It.K key vs[q]::List.zipWith It.K (ks.drop (q+1)) (vs.drop (q+1))):=by
   have:=xq (ks:=ks.take q) (vs:=vs.take q) (ks':=ks.drop q) (vs':=vs.drop q) (by rw[List.length_take,List.length_take,hv])
   rw[List.take_append_drop,List.take_append_drop,e1,e2,List.zipWith_cons_cons]at this
   exact this
  have e4:sq 0 (fR 0 (lf p ks vs) q p2)=It.K key vs[q]::List.zipWith It.K (ks.drop (q+1)) (vs.drop (q+1)):=by
   show List.zipWith It.K (ks.drop q) (vs.drop q)=_
   rw[e1,e2,List.zipWith_cons_cons]
  rw[e3,e4]
  refine SQ.ins ⟨ks[0],vs[0],?_⟩ fun x hx=>xp hx
  have f1:ks.take q=ks[0]::(ks.drop 1).take (q-1):=by
   cases ks with
   | nil=>simp at hq
   | cons k ks=>obtain⟨q,rfl⟩:∃ q',q=q'+1:=⟨q-1,by omega⟩;simp
  have f2:vs.take q=vs[0]::(vs.drop 1).take (q-1):=by
   cases vs with
   | nil=>simp at hv;omega
   | cons k ks=>obtain⟨q,rfl⟩:∃ q',q=q'+1:=⟨q-1,by omega⟩;simp
  rw[f1,f2,List.zipWith_cons_cons]
  exact List.mem_cons_self ..
 | h+1,t,q,p2,key,hg,h1,hk=>by
  obtain⟨p,ks,ts,rfl⟩:=aO t
  have hz:ts.length=ks.length+1:=by have:=hg.kidsz rfl;simpa[aV] using this
  obtain⟨hq,hkey⟩:=List.getElem?_eq_some_iff.1 hk
  have hq:q<ks.length:=hq
  have hkey:ks[q]=key:=hkey
  have e1:ks=ks.take q++key::ks.drop (q+1):=by rw[←hkey];simp
  have hw:=vz (A:=ks.take q) (B:=ks.drop (q+1)) (k:=key) (L:=(ts.take (q+1)).map (sq h)) (R:=(ts.drop (q+1)).map (sq h)) (by simp;omega) (by
   intro hh
   have:=congrArg List.length hh
   simp at this
   omega)
  rw[←e1,←List.map_append,List.take_append_drop]at hw
  show SQ (wv ks (ts.map (sq h))) (wv (ks.take q) ((ts.take (q+1)).map (sq h))++It.S key::wv (ks.drop (q+1)) ((ts.drop (q+1)).map (sq h)))
  rw[hw]
  exact SQ.refl
variable{m:da}
theorem gR.seg {m1:da}{h p:Nat}{K K':List Tx}{L M M' R:List (Tr h)}(hr:cD m (h+1) (bG p K (L++(M++R))))(hn:(bJ (h+1) (bG p K (L++(M++R)))).Nodup)(hc:CT m m1 (M.flatMap (bJ h)) (M'.flatMap (bJ h)))(hrep:∀ s∈M',cD m1 h s)
  (hsq:SQ (sq (h+1) (bG p K (L++(M++R)))) (sq (h+1) (bG p K' (L++(M'++R))))):gR m (aD m1 p (some ⟨false,K',[],aV (L++(M'++R))⟩)) (bG p K (L++(M++R))) (bG p K' (L++(M'++R))):=by
 have hsome:=hr.some
 rw[bI]at hr
 have hpg:∀ (K:List Tx) (M:List (Tr h)),bJ (h+1) (bG p K (L++(M++R)))=p::(L.flatMap (bJ h)++(M.flatMap (bJ h)++R.flatMap (bJ h))):=fun K M=>by simp[bF]
 rw[hpg,List.nodup_cons]at hn
 obtain⟨hp,hn⟩:=hn
 obtain⟨c,hs⟩:=hc.lift hn (fun q hq=>hsome q (by
  rw[hpg]
  rcases hq with h|h
  ·simp[h]
  simp[h]))
 have hpm:m p≠none:=hsome p (by rw[hpg];exact List.mem_cons_self ..)
 have hpM':p ∉ L.flatMap (bJ h)++(M'.flatMap (bJ h)++R.flatMap (bJ h)):=fun hh=>by
  rcases c.new p hh with h|h
  ·exact hp h
  exact hpm h
 have hup:∀ q,q≠p->aD m1 p (some ⟨false,K',[],aV (L++(M'++R))⟩) q=m1 q:=fun q hq=>by unfold aD;rw[if_neg hq]
 refine⟨⟨by rw[hpg,List.nodup_cons];exact⟨hpM',c.nd⟩,fun q hq=>?_,fun q h1 h2=>?_,fun q h1 h2=>?_⟩,?_,hsq,rfl⟩
 ·rw[hpg]at hq ⊢
  rcases List.mem_cons.1 hq with rfl|hq
  ·exact .inl (List.mem_cons_self ..)
  exact (c.new q hq).imp (fun h=>List.mem_cons_of_mem _ h) id
 ·rw[hpg,List.mem_cons,not_or]at h1 h2
  rw[hup q h1.1,c.out q h1.2 h2.2]
 ·rw[hpg,List.mem_cons]at h1
  rw[hpg,List.mem_cons,not_or]at h2
  rcases h1 with h1|h1
  ·exact absurd h1 h2.1
  rw[hup q h2.1,c.gone q h1 h2.2]
 rw[bI]
 refine⟨by unfold aD;rw[if_pos rfl],fun s hs'=>?_⟩
 have hcon:∀ (hq:∀ q,q∈bJ h s->q∈L.flatMap (bJ h)++(M'.flatMap (bJ h)++R.flatMap (bJ h))) ,cD m1 h s->cD (aD m1 p (some ⟨false,K',[],aV (L++(M'++R))⟩)) h s:=fun hq hr=>hr.congr fun q hq'=>hup q (fun he=>hpM' (he▸hq q hq'))
 simp only[List.mem_append]at hs'
 rcases hs' with h1|h1|h1
 ·exact hcon (fun q hq=>List.mem_append_left _ (List.mem_flatMap.2 ⟨s,h1,hq⟩)) ((hr.2 s (by simp[h1])).congr fun q hq=>hs q (.inl (List.mem_flatMap.2 ⟨s,h1,hq⟩)))
 ·exact hcon (fun q hq=>List.mem_append_right _ (List.mem_append_left _ (List.mem_flatMap.2 ⟨s,h1,hq⟩))) (hrep s h1)
 exact hcon (fun q hq=>List.mem_append_right _ (List.mem_append_right _ (List.mem_flatMap.2 ⟨s,h1,hq⟩))) ((hr.2 s (by simp[h1])).congr fun q hq=>hs q (.inr (List.mem_flatMap.2 ⟨s,h1,hq⟩)))
theorem IQ:∀ {h:Nat} {t:Tr h} {m:da} {q p2:Nat},cD m h t->(bJ h t).Nodup->m p2=none->lJ (nd h t) →
  CT m (aD (aD m (no h t) (some (fB (nd h t) q))) p2 (some (fO (nd h t) q))) (bJ h t) (bJ h (gS h t q)++bJ h (fR h t q p2)) /\
  cD (aD (aD m (no h t) (some (fB (nd h t) q))) p2 (some (fO (nd h t) q))) h (gS h t q)/\cD (aD (aD m (no h t) (some (fB (nd h t) q))) p2 (some (fO (nd h t) q))) h (fR h t q p2)
 | 0,t,m,q,p2,hr,hn,hf,hg=>by
  have hne:no 0 t≠p2:=fun he=>hr.some (no 0 t) gE (by rw[he];exact hf)
  obtain⟨p,ks,vs,rfl⟩:=br t
  simp only[mp]at hne ⊢
  refine⟨⟨?_,fun x hx=>?_,fun x h1 h2=>?_,fun x h1 h2=>?_⟩,?_,?_⟩
  ·show [p,p2].Nodup
   simp[hne]
  ·have hx:x∈[p,p2]:=hx
   simp only[List.mem_cons,List.not_mem_nil,or_false]at hx
   rcases hx with rfl|rfl
   ·exact .inl (by simp)
   exact .inr hf
  ·have h1:x ∉ [p]:=h1
   have h2:x ∉ [p,p2]:=h2
   simp at h1 h2
   unfold aD
   rw[if_neg h2.2,if_neg h1]
  ·have h1:x∈[p]:=h1
   have h2:x ∉ [p,p2]:=h2
   simp at h1 h2
   exact absurd h1 h2.1
  ·show aD _ p2 _ p=_
   unfold aD
   rw[if_neg hne,if_pos rfl];rfl
  show aD _ p2 _ p2=_
  unfold aD
  rw[if_pos rfl];rfl
 | h+1,t,m,q,p2,hr,hn,hf,hg=>by
  have hsome:=hr.some
  have hne:no (h+1) t≠p2:=fun he=>hsome (no (h+1) t) gE (by rw[he];exact hf)
  obtain⟨p,ks,ts,rfl⟩:=aO t
  simp only[jj]at hne ⊢
  rw[bI]at hr
  have hsplit:ts.flatMap (bJ h)=(ts.take (q+1)).flatMap (bJ h)++(ts.drop (q+1)).flatMap (bJ h):=by rw[←List.flatMap_append,List.take_append_drop]
  have hp2:∀ x,x∈ts.flatMap (bJ h)->x≠p2:=fun x hx he=>hsome x (by rw[bF];exact List.mem_cons_of_mem _ hx) (by rw[he];exact hf)
  rw[bF,List.nodup_cons]at hn
  have hL:bJ (h+1) (gS (h+1) (bG p ks ts) q)=p::(ts.take (q+1)).flatMap (bJ h):=rfl
  have hR:bJ (h+1) (fR (h+1) (bG p ks ts) q p2)=p2::(ts.drop (q+1)).flatMap (bJ h):=rfl
  have hcon:∀ s,s∈ts->cD (aD (aD m p (some (fB (nd (h+1) (bG p ks ts)) q))) p2 (some (fO (nd (h+1) (bG p ks ts)) q))) h s:=fun s hs=>(hr.2 s hs).congr fun x hx=>by
   have hx':=List.mem_flatMap.2 ⟨s,hs,hx⟩
   have hxp:x≠p:=fun he=>hn.1 (he▸hx')
   unfold aD
   rw[if_neg (hp2 x hx'),if_neg hxp]
  rw[hL,hR,bF]
  rw[hsplit]at hn hp2 ⊢
  obtain⟨hn1,hn2⟩:=hn
  rw[List.nodup_append]at hn2
  refine⟨⟨?_,fun x hx=>?_,fun x h1 h2=>?_,fun x h1 h2=>?_⟩,?_,?_⟩
  ·rw[List.nodup_append]
   refine⟨List.nodup_cons.2 ⟨fun hh=>hn1 (List.mem_append_left _ hh),hn2.1⟩,List.nodup_cons.2 ⟨fun hh=>hp2 p2 (List.mem_append_right _ hh) rfl,hn2.2.1⟩,fun a ha b hb=>?_⟩
   rcases List.mem_cons.1 ha with rfl|ha
   ·rcases List.mem_cons.1 hb with rfl|hb
    ·exact hne
    exact fun he=>hn1 (List.mem_append_right _ (he▸hb))
   rcases List.mem_cons.1 hb with rfl|hb
   ·exact hp2 a (List.mem_append_left _ ha)
   exact hn2.2.2 a ha b hb
  ·simp only[List.mem_append,List.mem_cons]at hx ⊢
   rcases hx with (h|h)|(h|h)
   ·exact .inl (.inl h)
   ·exact .inl (.inr (.inl h))
   ·exact .inr (h▸hf)
   exact .inl (.inr (.inr h))
  ·simp only[List.mem_append,List.mem_cons,not_or]at h1 h2
   unfold aD
   rw[if_neg h2.2.1,if_neg h1.1]
  ·simp only[List.mem_append,List.mem_cons,not_or]at h1 h2
   rcases h1 with h|h|h
   ·exact absurd h h2.1.1
   ·exact absurd h h2.1.2
   exact absurd h h2.2.2
  ·refine⟨?_,fun s hs=>hcon s (List.mem_of_mem_take hs)⟩
   rw[B5]
   show aD _ p2 _ p=_
   unfold aD
   rw[if_neg hne,if_pos rfl]
  refine⟨?_,fun s hs=>hcon s (List.mem_of_mem_drop hs)⟩
  rw[B4]
  show aD _ p2 _ p2=_
  unfold aD
  rw[if_pos rfl]
variable{h p p2:Nat}
theorem gR.split {q:Nat}{A B:List Tx}{key:Tx}{L R:List (Tr h)}{t:Tr h}(hl:A.length=L.length)(hr:cD m (h+1) (bG p (A++B) (L++t::R)))(hn:(bJ (h+1) (bG p (A++B) (L++t::R))).Nodup)(hf:m p2=none)(hg:lJ (nd h t))(h1:1<=q)(hk:(nd h t).ks[q]?=some key) :
  gR m (aD (aD (aD m (no h t) (some (fB (nd h t) q))) p2 (some (fO (nd h t) q))) p (some ⟨false,A++key::B,[],aV (L++gS h t q::fR h t q p2::R)⟩)) (bG p (A++B) (L++t::R)) (bG p (A++key::B) (L++gS h t q::fR h t q p2::R)):=by
 have hrt:=(bI.1 hr).2 t (by simp)
 have hnt:(bJ h t).Nodup:=by
  rw[gD,List.nodup_append,List.nodup_append]at hn
  exact hn.2.1.1
 obtain⟨c,r1,r2⟩:=IQ (q:=q) hrt hnt hf hg
 have:=gR.seg (K:=A++B) (K':=A++key::B) (L:=L) (M:=[t]) (M':=[gS h t q,fR h t q p2]) (R:=R) hr hn (by simpa using c) (fun s hs=>by
  simp only[List.mem_cons,List.not_mem_nil,or_false]at hs
  rcases hs with rfl|rfl
  ·exact r1
  ·exact r2) (by
  show SQ (sq (h+1) (bG p (A++B) (L++t::R))) (sq (h+1) (bG p (A++key::B) (L++gS h t q::fR h t q p2::R)))
  rw[io hl,io hl]
  have e1:bU (key::B) ((fR h t q p2::R).map (sq h))=It.S key::(sq h (fR h t q p2)++bU B (R.map (sq h))):=rfl
  rw[e1]
  have h2:=(JF (p2:=p2) hg h1 hk).ctx (fU A (L.map (sq h))) (bU B (R.map (sq h)))
  simpa only [List.append_assoc,List.cons_append] using h2)
 exact this
end Go.Proofs.YtoaojmobnbbnmaaGreat
section
namespace Go.Am
theorem lq {α β:Type}{f:α->β}{l:List α}{i:Nat}{x:α}:ct (l.map f) i (f x)=(ct l i x).map f:=by simp[ct,List.map_take,List.map_drop]
end Go.Am
namespace Go.Proofs.YtoaojmobnbbnmaaGreat
open Go.Am
abbrev di(s:Tx):aG:=.cells 9 [bb s]
def JZ(n:Nd)(i:Nat)(key:Tx)(p2:Nat):Nd:=⟨n.leaf,ct n.ks i key,n.vs,ct n.kids (i+1) (p2:Int)⟩
variable{c:jt}{G X:RL}
set_option maxHeartbeats 4000000 in
theorem HI {root cnt:Int}{r5 r8 r10 i p2:Nat}{key:Tx}{n:Nd}(h5:(r5,aS (i:Nat))∈G)(h8:(r8,di key)∈G)(h10:(r10,aS (p2:Nat))∈G)(hs:Sm n)(hi:i<=n.ks.length)(hz:i+1<=n.kids.length) :
  KM c G X root cnt cnt 250 [ptr r5,ptr r8,ptr r10] n (JZ n i key p2):=by
 intro rc w1 w2 w3 Y1 Y2 Y3 T es ck ws wk g1 g2 g3
 have e1:=hs.k;have e2:=hs.v;have e3:=hs.z
 obtain⟨lf,ks,vs,kids⟩:=n
 simp only at g1 g2 g3 hi hz e1 e2 e3 ⊢
 have mG:∀ (p:Nat×aG),p∈G->p∈(rc,an lf w1 w2 w3)::HD c.rf c.rb c.rt c.rn c.rw T root cnt c.root0 c.cnt0 es ck ws wk (Y3++(Y2++(Y1++(G++X)))):=fun p hp=>by simp[hp]
 refine yF Tryz.f250 ?_
 repeat refine xQ ?_
 refine LS.drawn noGo mixed [(0,false),(1,false),(2,false),(3,false),(4,false),(5,false),(6,false),(7,true),(8,true),(9,false),(10,false),(11,true)] rfl rfl (by kernel_rfl) ?_
 refine yX 5 ?_
 refine xE rfl rfl (aa (mG _ h5) rfl rfl rfl rfl) rfl ?_
 refine xE rfl rfl (aa (mG _ h8) rfl rfl rfl rfl) rfl ?_
 refine ba.fresh rfl rfl (dG (fun _=>rfl) rfl) (fun _=>rfl) (fun rv=>(by repeat (first|exact ai.nil|refine ai.gone rfl ?_|refine ai.cons rfl (aA 1 rfl rfl rfl rfl rfl) ?_|refine ai.cons rfl (aa (List.mem_cons_of_mem _ (mG _ h5)) rfl rfl rfl rfl) ?_))) (fun rv=>?_)
 refine ba.nodup fun hnd=>?_
 have hrv:∀ p,p∈Y1->p.1≠rv:=fun p hp he=>by
  exact (List.nodup_cons.1 hnd).1 (List.mem_map.2 ⟨p,by simp[hp],he⟩)
 refine ba.sub (ar.sums (A:=Y1++((rv,di key)::(rc,an lf w1 w2 w3)::HD c.rf c.rb c.rt c.rn c.rw T root cnt c.root0 c.cnt0 es ck ws wk (Y3++(Y2++(G++X))))) (B:=(rv,di key)::(rc,an lf w1 w2 w3)::HD c.rf c.rb c.rt c.rn c.rw T root cnt c.root0 c.cnt0 es ck ws wk (Y3++(Y2++(Y1++(G++X))))) fun f=>by simp[HD,fm]<;>omega) ?_
 refine yO rfl yH (ng (x:=bb key) g1 hi (by omega) rfl (ik _) (List.mem_cons_self ..) hrv) ?_
 rintro u1 L' ⟨Y1',rfl,o1⟩
 refine⟨_,rfl,(by repeat (first|exact ai.nil|refine ai.gone rfl ?_)),?_⟩
 have o1':OL 9 1 u1 (ct ks i key).length (tx (ct ks i key)) Y1':=by
  rw[cy hi]
  have:=o1.ol
  rw[show bb key=(fun s=>bb s) key from rfl,lq]at this
  exact this
 refine ba.sub (ar.sums2 [(rv,di key)] (A:=(rc,an lf w1 w2 w3)::HD c.rf c.rb c.rt c.rn c.rw T root cnt c.root0 c.cnt0 es ck ws wk (Y3++(Y2++(Y1'++(G++X))))) (B:=Y1'++((rv,di key)::(rc,an lf w1 w2 w3)::HD c.rf c.rb c.rt c.rn c.rw T root cnt c.root0 c.cnt0 es ck ws wk (Y3++(Y2++(G++X))))) fun f=>by simp[HD,fm]<;>omega) ?_
 refine yX 2 ?_
 refine ba.write rfl rfl (bQ 0 (bC o1'.sv) rfl rfl rfl rfl rfl rfl rfl) rfl (by repeat (first|exact ai.nil|refine ai.gone rfl ?_)) ?_
 refine yX 1 ?_
 have mG2:∀ (p:Nat×aG),p∈G->p∈(rc,an lf u1 w2 w3)::HD c.rf c.rb c.rt c.rn c.rw T root cnt c.root0 c.cnt0 es ck ws wk (Y3++(Y2++(Y1'++(G++X)))):=fun p hp=>by simp[hp]
 repeat refine xQ ?_
 refine LS.drawn noGo mixed [(0,false),(1,false),(2,false),(3,false),(4,false),(5,false),(6,false),(7,false),(8,true),(9,true),(10,false),(11,false),(12,true)] rfl rfl (by kernel_rfl) ?_
 refine yX 5 ?_
 refine xE rfl rfl (aa (mG2 _ h5) rfl rfl rfl rfl) rfl ?_
 refine yQ rfl (aW (n:=1) rfl rfl rfl (ak (by omega) (by omega))) ?_
 refine xE rfl rfl (aa (mG2 _ h10) rfl rfl rfl rfl) rfl ?_
 refine ba.fresh rfl rfl (dG (fun _=>rfl) rfl) (fun _=>rfl) (fun rv=>(by repeat (first|exact ai.nil|refine ai.gone rfl ?_|refine ai.cons rfl (aA 1 rfl rfl rfl rfl rfl) ?_|refine ai.cons rfl (aa (List.mem_cons_of_mem _ (mG2 _ h5)) rfl rfl rfl rfl) ?_))) (fun rv=>?_)
 refine ba.nodup fun hnd=>?_
 have hrv:∀ p,p∈Y3->p.1≠rv:=fun p hp he=>by
  exact (List.nodup_cons.1 hnd).1 (List.mem_map.2 ⟨p,by simp[hp],he⟩)
 refine ba.sub (ar.sums (A:=Y3++((rv,aS (p2:Nat))::(rc,an lf u1 w2 w3)::HD c.rf c.rb c.rt c.rn c.rw T root cnt c.root0 c.cnt0 es ck ws wk (Y2++(Y1'++(G++X))))) (B:=(rv,aS (p2:Nat))::(rc,an lf u1 w2 w3)::HD c.rf c.rb c.rt c.rn c.rw T root cnt c.root0 c.cnt0 es ck ws wk (Y3++(Y2++(Y1'++(G++X))))) fun f=>by simp[HD,fm]<;>omega) ?_
 refine yO rfl yH (Bj (x:=.int .i64 (p2:Nat)) g3 hz (by omega) rfl (ld _) (List.mem_cons_self ..) hrv) ?_
 rintro u3 L' ⟨Y3',rfl,o3⟩
 refine⟨_,rfl,(by repeat (first|exact ai.nil|refine ai.gone rfl ?_)),?_⟩
 have o3':OL 3 1 u3 (ct kids (i+1) (p2:Int)).length (bx (ct kids (i+1) (p2:Int))) Y3':=by
  rw[cy hz]
  have:=o3.ol
  rw[show Value.int .i64 (p2:Nat)=(fun z=>Value.int .i64 z) ((p2:Nat):Int) from rfl,lq]at this
  exact this
 refine ba.sub (ar.sums2 [(rv,aS (p2:Nat))] (A:=(rc,an lf u1 w2 w3)::HD c.rf c.rb c.rt c.rn c.rw T root cnt c.root0 c.cnt0 es ck ws wk ((Y3'++(Y2++Y1'))++(G++X))) (B:=Y3'++((rv,aS (p2:Nat))::(rc,an lf u1 w2 w3)::HD c.rf c.rb c.rt c.rn c.rw T root cnt c.root0 c.cnt0 es ck ws wk (Y2++(Y1'++(G++X))))) fun f=>by simp[HD,fm]<;>omega) ?_
 refine yX 2 ?_
 refine ba.write rfl rfl (bQ 0 (bC o3'.sv) rfl rfl rfl rfl rfl rfl rfl) rfl (by repeat (first|exact ai.nil|refine ai.gone rfl ?_)) ?_
 refine yX 1 ?_
 exact⟨_,fun _ _=>rfl,u1,w2,u3,Y3'++(Y2++Y1'),rfl,⟨o1'.pl.mono (fun p hp=>by simp[hp]),(g2.ol (show vs.length<=ae by unfold ae;omega)).pl.mono (fun p hp=>by simp[hp]),o3'.pl.mono (fun p hp=>by simp[hp])⟩⟩
end Go.Proofs.YtoaojmobnbbnmaaGreat
end
namespace Go.Proofs.YtoaojmobnbbnmaaGreat
open Go.Am
variable{k:Nat}
theorem oi {N:Nat}{m:da}{n n':Nd}(h:k<N)(hm:m k=some n):cq N (aD m k (some n'))=cq N m:=by
 have:=i6 (m:=m) (o:=some n') h
 rw[hm]at this
 simp at this
 exact this
theorem qz {N:Nat}{m:da}{n':Nd}(h:k<N)(hm:m k=none):cq N (aD m k (some n'))+1=cq N m:=by
 have:=i6 (m:=m) (o:=some n') h
 rw[hm]at this
 simpa using this
variable{h:Nat}{A B:List Tx}
theorem FY {key:Tx}{L R:List (Tr h)}{t u v:Tr h}{p2:Nat}(hl:A.length=L.length)(hu:no h u=no h t)(hv:no h v=p2):JZ ⟨false,A++B,[],aV (L++t::R)⟩ L.length key p2=⟨false,A++key::B,[],aV (L++u::v::R)⟩:=by
 have e1:ct (A++B) L.length key=A++key::B:=by
  unfold ct
  rw[←hl,List.take_append_of_le_length (Nat.le_refl _),List.drop_append_of_le_length (Nat.le_refl _)]
  simp
 have e2:ct (aV (L++t::R)) (L.length+1) (p2:Int)=aV (L++u::v::R):=by
  unfold ct
  simp only[aV,List.map_append,List.map_cons,hu,hv]
  rw[List.take_append,List.drop_append,List.take_of_length_le (by simp),List.drop_eq_nil_of_le (by simp)]
  simp
 unfold JZ
 rw[e1,e2]
variable{c:jt}{G X:RL}
set_option maxHeartbeats 4000000 in
theorem xU {s:fD}{rows:RL}{h p:Nat}{A B:List Tx}{L R:List (Tr h)}{t:Tr h}(htr:TR c G X s rows)(hl:A.length=L.length)(hB:B.length=R.length)(hr:cD s.m (h+1) (bG p (A++B) (L++t::R)))(hn:(bJ (h+1) (bG p (A++B) (L++t::R))).Nodup)
  (hlen:(A++B).length<=1000) (hg:lJ (nd h t)) (h2:2<=(nd h t).ks.length) (hf:0<cq c.N s.m) :
  CS Tryz.prog 227 [ptr c.rt,.int .i64 (p:Nat),.int .i64 (L.length:Nat)] rows fun _ L'=>∃ X' m' q key p2,1<=q/\(nd h t).ks[q]?=some key/\(∀ q',1<=q'->q'<(nd h t).ks.length->qf (nd h t) q<=qf (nd h t) q')/\p2<c.N/\(∀ q,q∈X->q∈X')/\TR c G X' ⟨m',s.root,s.cnt⟩ L' /\
   gR s.m m' (bG p (A++B) (L++t::R)) (bG p (A++key::B) (L++gS h t q::fR h t q p2::R))/\cq c.N m'+1=cq c.N s.m:=by
 suffices g:CS Tryz.prog 227 [ptr c.rt,.int .i64 (p:Nat),.int .i64 (L.length:Nat)] rows fun _ L'=>∃ x1 x2 x3 x4 X' m' q key p2,1<=q/\(nd h t).ks[q]?=some key/\(∀ q',1<=q'->q'<(nd h t).ks.length->qf (nd h t) q<=qf (nd h t) q')/\p2<c.N/\(∀ q,q∈X->q∈X')/\TR c (x1::x2::x3::x4::G) X' ⟨m',s.root,s.cnt⟩ L' /\
   gR s.m m' (bG p (A++B) (L++t::R)) (bG p (A++key::B) (L++gS h t q::fR h t q p2::R))/\cq c.N m'+1=cq c.N s.m by
  refine g.less ?_
  rintro u L' ⟨x1,x2,x3,x4,X',m',q,key,p2,h1,h2,h3,h4,h5,h6,h7⟩
  obtain⟨L1,g1,s1⟩:=h6.pop
  obtain⟨L2,g2,s2⟩:=g1.pop
  obtain⟨L3,g3,s3⟩:=g2.pop
  obtain⟨L4,g4,s4⟩:=g3.pop
  exact⟨L4,s4.trans (s3.trans (s2.trans s1)),X',m',q,key,p2,h1,h2,h3,h4,h5,g4,h7⟩
 have hmp:s.m p=some ⟨false,A++B,[],aV (L++t::R)⟩:=hr.top
 have hmt:s.m (no h t)=some (nd h t):=((bI.1 hr).2 t (by simp)).top
 have hpt:p≠no h t:=fun he=>by
  rw[gD,List.nodup_append]at hn
  exact hn.2.2 p (List.mem_cons_self ..) (no h t) (List.mem_append_left _ gE) he
 have spar:=htr.sm _ _ hmp
 have st:=htr.sm _ _ hmt
 have dp:=htr.dom p (by rw[hmp];simp)
 have dt:=htr.dom _ (show s.m (no h t)≠none by rw[hmt];simp)
 obtain⟨T,es,ck,ws,wk,g,rfl,hN,hp,hgm,hmr⟩:=htr.now
 obtain⟨r,hgr0,v1,v2,v3,hr1,hP⟩:=(hmr p).2 _ hmp
 have hgr:(g p).getD (.pointer none)=ptr r:=by rw[hgr0];rfl
 obtain⟨ra,hga,va1,va2,va3,hra,hPa⟩:=(hmr (no h t)).2 _ hmt
 have ega:(g (no h t)).getD (.pointer none)=ptr ra:=by rw[hga];rfl
 refine yF Tryz.f227 ?_
 refine yX 1 ?_
 refine yM (gH (v:=.int .i64 (L.length:Nat)) (cs:=[.int .i64 (L.length:Nat)]) rfl rfl rfl rfl rfl) fun r5=>?_
 refine OS.sub ar.inQ ?_
 refine xN ?_
 have hXB:∀ q,q∈X->q∈HD c.rf c.rb c.rt c.rn c.rw T s.root s.cnt c.root0 c.cnt0 es ck ws wk ((r5,aS (L.length:Nat))::(G++X)):=fun q hq=>by simp[hq]
 have m5:(r5,aS (L.length:Nat))∈HD c.rf c.rb c.rt c.rn c.rw T s.root s.cnt c.root0 c.cnt0 es ck ws wk ((r5,aS (L.length:Nat))::(G++X)):=by simp
 have mrt:(c.rt,bS c.rf c.rn c.rw s.root s.cnt c.root0 c.cnt0)∈HD c.rf c.rb c.rt c.rn c.rw T s.root s.cnt c.root0 c.cnt0 es ck ws wk ((r5,aS (L.length:Nat))::(G++X)):=by simp
 have mmap:(c.rn,aG.map es ck)∈HD c.rf c.rb c.rt c.rn c.rw T s.root s.cnt c.root0 c.cnt0 es ck ws wk ((r5,aS (L.length:Nat))::(G++X)):=by simp
 have m1:=hXB _ hr1
 have N1:=hP.nv spar hXB
 simp only at N1 m1
 repeat refine xQ ?_
 refine LS.drawn noGo mixed [(0,false),(1,false),(2,false),(3,false),(4,false),(5,false),(6,false),(7,false),(8,false),(9,false),(10,false),(11,false),(12,false),(13,false)] rfl rfl (by kernel_rfl) ?_
 refine yX 4 ?_
 refine xE rfl rfl (aa mrt rfl rfl rfl rfl) rfl ?_
 refine yX 1 ?_
 refine xE rfl rfl (cb hgm mmap rfl rfl rfl rfl (fun _=>rfl) rfl) rfl ?_
 rw[hgr]
 refine yX 2 ?_
 refine xE rfl rfl (aa m1 rfl rfl rfl rfl) rfl ?_
 refine xE rfl rfl (aa m5 rfl rfl rfl rfl) rfl ?_
 refine ba.at1 (j:=L.length) (N1.z) (AC) rfl rfl rfl rfl rfl rfl rfl (fun ra0 oa0 rowa0 csa0 ma0 ca0 ga0=>⟨_,rfl,?_⟩)
 refine xE rfl rfl (aa ma0 ca0 rfl rfl (ap rfl ga0)) rfl ?_
 refine yX 7 ?_
 refine yR (aa mrt rfl rfl rfl rfl) ?_
 refine yX 1 ?_
 refine yR (cb hgm mmap rfl rfl rfl rfl (fun _=>rfl) rfl) ?_
 rw[ega]
 refine yA yH (DE (X:=X) hXB ⟨va1,va2,va3,hra,hPa⟩ st hg h2) ?_
 rintro u L' ⟨w1,w2,w3,x1,x2,x3,q,key,hq1,hqk,hmin,rfl,rfl,pL,pR⟩
 refine yX 5 ?_
 refine yN fun r7=>?_
 refine yN fun r8=>?_
 refine yN fun r9=>?_
 refine yW (ax 2 (n:=4) rfl rfl rfl rfl rfl (dd (bC pL.k.sv) (bC pL.v.sv) (bC pL.z.sv)) rfl rfl) ?_
 refine yX 1 ?_
 refine yW (ax 0 (n:=4) rfl rfl rfl rfl rfl (dd (bC pR.k.sv) (bC pR.v.sv) (bC pR.z.sv)) rfl rfl) ?_
 refine OS.sub (ar.sums (A:=HD c.rf c.rb c.rt c.rn c.rw T s.root s.cnt c.root0 c.cnt0 es ck ws wk (((r9,an (nd h t).leaf x1 x2 x3)::(r8,di key)::(r5,aS (L.length:Nat))::G)++((r7,an (nd h t).leaf w1 w2 w3)::X))) (B:=(r9,an (nd h t).leaf x1 x2 x3)::(r8,di key)::(r7,an (nd h t).leaf w1 w2 w3)::HD c.rf c.rb c.rt c.rn c.rw T s.root s.cnt c.root0 c.cnt0 es ck ws wk ((r5,aS (L.length:Nat))::(G++X))) fun f=>by simp[HD,fm]<;>omega) ?_
 refine xN ?_
 have hX1:∀ q,q∈X->q∈(r7,an (nd h t).leaf w1 w2 w3)::X:=fun q hq=>List.mem_cons_of_mem _ hq
 have htr1:TR c ((r9,an (nd h t).leaf x1 x2 x3)::(r8,di key)::(r5,aS (L.length:Nat))::G) ((r7,an (nd h t).leaf w1 w2 w3)::X) s (HD c.rf c.rb c.rt c.rn c.rw T s.root s.cnt c.root0 c.cnt0 es ck ws wk (((r9,an (nd h t).leaf x1 x2 x3)::(r8,di key)::(r5,aS (L.length:Nat))::G)++((r7,an (nd h t).leaf w1 w2 w3)::X))):=⟨T,es,ck,ws,wk,hN,rfl,hp.mono hX1⟩
 have scut:=tc st q
 refine yX 5 ?_
 refine yA yH (pr (o:=some (fB (nd h t) q)) htr1 dt ⟨r7,rfl,w1,w2,w3,List.mem_cons_self ..,pL.mono hX1⟩ (fun n hn=>by cases hn;exact scut.1)) ?_
 rintro u L1 h1
 refine yX 2 ?_
 have hfm1:cq c.N (aD s.m (no h t) (some (fB (nd h t) q)))=cq c.N s.m:=oi dt hmt
 have m9:=h1.memG _ (List.mem_cons_self ..)
 repeat refine xQ ?_
 refine LS.mid [0,1,5,8,10] (fun a' L'=>∃ r10 p2 x,p2<c.N/\(aD s.m (no h t) (some (fB (nd h t) q))) p2=none/\TR c ((r10,aS (p2:Nat))::(r9,an (nd h t).leaf x1 x2 x3)::(r8,di key)::(r5,aS (L.length:Nat))::G) (x::(r7,an (nd h t).leaf w1 w2 w3)::X) ⟨aD (aD s.m (no h t) (some (fB (nd h t) q))) p2 (some (fO (nd h t) q)),s.root,s.cnt⟩ L' /\
  a'=[ptr c.rt,.int .i64 (p:Nat),yC,yC,yC,ptr r5,yC,yC,ptr r8,yC,ptr r10,yC,yC,yC,yC,yC,yC,yC,yC,yC,yC,yC,yC,yC,yC,yC,yC,yC,yC,yC,yC,yC,yC,yC,yC,yC,yC,yC,yC,yC,yC,yC,yC,yC,yC,yC,yC,yC,yC,yC,yC,yC]) ?_ ?_
 ·repeat refine xQ ?_
  refine LS.forked noGo mixed 7 rfl rfl (by kernel_rfl) ?_
  refine ee.pure 0 (by kernel_rfl) rfl rfl (fun _=>rfl) rfl ?_
  refine ee.pure 1 (by kernel_rfl) rfl rfl (fun _=>rfl) rfl ?_
  refine ee.pure 2 (by kernel_rfl) rfl rfl (fun _=>rfl) rfl ?_
  refine ee.read 3 (by kernel_rfl) rfl rfl (aa m9 rfl rfl rfl rfl) rfl ?_
  refine ee.turn2 4 5 (by kernel_rfl) (by kernel_rfl) ?_ ?_
  ·refine OT.call rfl rfl (fun _=>rfl) ((xc (n:=fO (nd h t) q) h1 (by simp only;omega) (pR.mono hX1) scut.2).mono ?_)
   rintro u L2 ⟨p2,x,d2,hp2,rfl,h2⟩
   have m9':=h2.memG _ (List.mem_cons_self ..)
   refine⟨_,rfl,(by repeat (first|exact ai.nil|refine ai.gone rfl ?_|refine ai.cons rfl (aa m9' rfl rfl rfl rfl) ?_)),?_⟩
   refine ee.turn1 5 (by kernel_rfl) (by kernel_rfl) (OT.fresh rfl rfl (dG (fun _=>rfl) rfl) (fun _=>rfl) (fun r10=>(by repeat (first|exact ai.nil|refine ai.gone rfl ?_|refine ai.cons rfl (aa (List.mem_cons_of_mem _ m9') rfl rfl rfl rfl) ?_))) (fun r10=>?_))
   refine ee.turn1 6 (by kernel_rfl) (by kernel_rfl) (OT.write rfl rfl (ax 0 rfl rfl rfl rfl rfl rfl rfl rfl) rfl (by repeat (first|exact ai.nil|refine ai.gone rfl ?_|refine ai.cons rfl (aa (List.mem_cons_of_mem _ m9') rfl rfl rfl rfl) ?_)) ?_)
   obtain⟨L3,h3,s3⟩:=h2.push (r10,aS (p2:Nat))
   refine ee.sub s3 ?_
   exact ee.nil (by kernel_rfl) ⟨r10,p2,x,d2,hp2,h3,rfl⟩
  refine OT.fresh rfl rfl (dG (fun _=>rfl) rfl) (fun _=>rfl) (fun r10=>(by repeat (first|exact ai.nil|refine ai.gone rfl ?_|refine ai.cons rfl (aa (List.mem_cons_of_mem _ m9) rfl rfl rfl rfl) ?_))) (fun r10=>?_)
  obtain⟨L2,h2,s2⟩:=h1.push (r10,aS 0)
  refine ee.sub s2 ?_
  refine ee.turn1 4 (by kernel_rfl) (by kernel_rfl) (OT.call rfl rfl (fun _=>rfl) ((xc (n:=fO (nd h t) q) h2 (by simp only;omega) (pR.mono hX1) scut.2).mono ?_))
  rintro u L3 ⟨p2,x,d2,hp2,rfl,h3⟩
  have m9':=h3.memG _ (List.mem_cons_of_mem _ (List.mem_cons_self ..))
  refine⟨_,rfl,(by repeat (first|exact ai.nil|refine ai.gone rfl ?_|refine ai.cons rfl (aa m9' rfl rfl rfl rfl) ?_)),?_⟩
  obtain⟨T3,es3,ck3,ws3,wk3,hN3,rfl,hp3⟩:=h3
  have m9'':(r9,an (nd h t).leaf x1 x2 x3)∈HD c.rf c.rb c.rt c.rn c.rw T3 s.root s.cnt c.root0 c.cnt0 es3 ck3 ws3 wk3 ((r10,aS (p2:Nat))::(r9,an (nd h t).leaf x1 x2 x3)::(r8,di key)::(r5,aS (L.length:Nat))::(G++x::(r7,an (nd h t).leaf w1 w2 w3)::X)):=by simp
  refine ee.turn1 6 (by kernel_rfl) (by kernel_rfl) (OT.write rfl rfl (ax 5 rfl rfl rfl rfl rfl rfl rfl rfl) rfl (by repeat (first|exact ai.nil|refine ai.gone rfl ?_|refine ai.cons rfl (aa m9'' rfl rfl rfl rfl) ?_)) ?_)
  exact ee.nil (by kernel_rfl) ⟨r10,p2,x,d2,hp2,⟨T3,es3,ck3,ws3,wk3,hN3,rfl,hp3⟩,rfl⟩
 rintro a' L2 ⟨r10,p2,x,d2,hp2,h2t,rfl⟩
 have hp2t:p2≠no h t:=fun he=>by
  unfold aD at hp2
  rw[if_pos he]at hp2
  cases hp2
 have hp2s:s.m p2=none:=by
  unfold aD at hp2
  rw[if_neg hp2t]at hp2
  exact hp2
 have hpp2:p≠p2:=fun he=>by rw[←he,hmp]at hp2s;cases hp2s
 have hm2:aD (aD s.m (no h t) (some (fB (nd h t) q))) p2 (some (fO (nd h t) q)) p=some ⟨false,A++B,[],aV (L++t::R)⟩:=by
  unfold aD
  rw[if_neg hpp2,if_neg hpt];exact hmp
 have hins:=FY (B:=B) (key:=key) (R:=R) (t:=t) (u:=gS h t q) (v:=fR h t q p2) hl qr qq
 have hkl:key.length<=2000:=st.kl key (List.mem_of_getElem? hqk)
 have hsn:Sm ⟨false,A++key::B,[],aV (L++gS h t q::fR h t q p2::R)⟩:=by
  have:=spar.kl
  simp only[List.length_append]at hlen
  refine⟨by simp;omega,by simp,by simp[aV];omega,fun k hk=>?_,fun k hk=>by cases hk⟩
  simp only[List.mem_append,List.mem_cons]at hk
  rcases hk with hk|rfl|hk
  ·exact this k (by simp[hk])
  ·exact hkl
  exact this k (by simp[hk])
 refine yX 6 ?_
 refine yA yH (jP (caps:=[ptr r5,ptr r8,ptr r10]) (n':=⟨false,A++key::B,[],aV (L++gS h t q::fR h t q p2::R)⟩) h2t hm2 hsn (hins▸HI (i:=L.length) (key:=key) (p2:=p2) (by simp) (by simp) (by simp) spar (by simp;omega) (by simp[aV]))) ?_
 rintro u L3 ⟨X3,hX3,h3⟩
 refine yX 2 ?_
 have hfm2:cq c.N (aD (aD s.m (no h t) (some (fB (nd h t) q))) p2 (some (fO (nd h t) q)))+1=cq c.N s.m:=by
  rw[←hfm1];exact qz d2 hp2
 have hfm3:=oi (n':=⟨false,A++key::B,[],aV (L++gS h t q::fR h t q p2::R)⟩) dp hm2
 exact⟨_,fun _ _=>rfl,_,_,_,_,X3,_,q,key,p2,hq1,hqk,hmin,d2,fun y hy=>hX3 y (by simp[hy]),h3,gR.split hl hr hn hp2s hg hq1 hqk,by simp only at hfm3 ⊢;omega⟩
theorem xO:∀ {ks:List Tx} {ss:List (List It)},ks.length=ss.length->(ks.map It.S).Sublist (bU ks ss)
 | [],[],_=>by simp[bU]
 | [],_::_,h=>by simp at h
 | _::_,[],h=>by simp at h
 | k::ks,s::ss,h=>by
  have:=xO (ks:=ks) (ss:=ss) (by simpa using h)
  simp only[List.map_cons,bU]
  exact (this.trans (List.sublist_append_right ..)).cons_cons _
variable{ks:List Tx}{ss:List (List It)}
theorem EK (h:ss.length=ks.length+1):(ks.map It.S).Sublist (wv ks ss):=by
 cases ss with
 | nil=>simp at h
 | cons s ss=>exact (xO (by simpa using h.symm)).trans (List.sublist_append_right ..)
variable{p:Nat}
theorem EN {ts:List (Tr h)}(hs:eC (sq (h+1) (bG p ks ts)))(hl:ts.length=ks.length+1):ks.Pairwise fun a b=>aq a b=true:=by
 have h1:eC (ks.map It.S):=List.Pairwise.sublist (EK (by rw[List.length_map];exact hl)) hs
 unfold eC at h1
 rw[List.pairwise_map]at h1
 exact h1
theorem B8 {ts:List (Tr h)}(hs:eC (sq (h+1) (bG p ks ts)))(hl:ts.length=ks.length+1)(hk:∀ k∈ks,1<=k.length/\k.length<=32)(hp:∀ s∈ts,no h s<=32768):bW ⟨false,ks,[],aV ts⟩=true:=by
 refine cI.2 ⟨kW.2 ⟨EN hs hl,fun k hk'=>⟨?_,(hk k hk').2⟩⟩,.inr ⟨rfl,by simpa[aV] using hl,rfl,fun z hz=>?_⟩⟩
 ·have:=(hk k hk').1
  cases k with
  | nil=>simp at this
  | cons _ _=>rfl
 have hz:z∈aV ts:=hz
 obtain⟨s,hs',rfl⟩:=List.mem_map.1 hz
 have:=hp s hs'
 omega
theorem dE {n:Nd}(h:bW n=true):∀ k∈n.ks,1<=k.length/\k.length<=32:=fun k hk=>(kX (cI.1 h).1 k hk).2
theorem jI {z:Int}{zs:List Int}(h:ks.length<=127):(aE ⟨false,ks,[],z::zs⟩).length=2+((cnt z).length+(bi ks (zs.map cnt)).length):=by
 rw[d8 h];rfl
theorem FX {key:Tx}{L R:List (Tr h)}{t u v:Tr h}(hl:A.length=L.length)(hB:B.length=R.length)(hlen:(A++B).length<=126)(hkey:key.length<=32)(hu:no h u=no h t)(hv:no h v<=32768) :
  (aE ⟨false,A++key::B,[],aV (L++u::v::R)⟩).length<=(aE ⟨false,A++B,[],aV (L++t::R)⟩).length+36:=by
 have h3:=CB (z:=(no h v:Nat)) (by omega)
 have h33:(tB key).length<=33:=by rw[gA (by omega)];omega
 have hlen2:(A++key::B).length<=127:=by simp only[List.length_append,List.length_cons]at hlen ⊢;omega
 have hc:∀ l:List (Tr h),((aV l).map cnt).length=l.length:=fun l=>by simp[aV]
 have hz:(bi (key::B) ((aV (v::R)).map cnt))=tB key++(cnt (no h v:Nat)++bi B ((aV R).map cnt)):=rfl
 have hnn:∀ (l l':List (Tr h)),(aV (l++l')).map cnt=(aV l).map cnt++(aV l').map cnt:=fun l l'=>by simp[aV]
 cases L with
 | nil =>
  have hA:A=[]:=List.eq_nil_of_length_eq_zero (by simpa using hl)
  subst hA
  show (aE ⟨false,key::B,[],((no h u:Nat):Int)::aV (v::R)⟩).length<=(aE ⟨false,B,[],((no h t:Nat):Int)::aV R⟩).length+36
  rw[jI (by simpa using hlen2),jI (by simp at hlen;omega),hz,hu]
  simp only[List.length_append]
  omega
 | cons l L =>
  show (aE ⟨false,A++key::B,[],((no h l:Nat):Int)::aV (L++u::v::R)⟩).length<=(aE ⟨false,A++B,[],((no h l:Nat):Int)::aV (L++t::R)⟩).length+36
  rw[jI hlen2,jI (by omega)]
  have e1:(aV (L++u::v::R)).map cnt=(aV (L++[t])).map cnt++(aV (v::R)).map cnt:=by simp[aV,hu]
  have e2:(aV (L++t::R)).map cnt=(aV (L++[t])).map cnt++(aV R).map cnt:=by simp[aV]
  have hl2:A.length=((aV (L++[t])).map cnt).length:=by rw[hc];simp at hl ⊢;exact hl
  rw[e1,e2,jv hl2,jv hl2,hz]
  simp only[List.length_append]
  omega
theorem AX {h:Nat}{k:Tx}{B:List Tx}{R:List (Tr h)}{t r:Tr h}:kN ⟨false,k::B,[],aV (t::r::R)⟩ ⟨false,B,[],aV (r::R)⟩:=fun hb=>by
 have hk:=hb.keys
 simp only[List.length_cons]at hk
 obtain⟨h0,hor⟩:=cI.1 hb.may
 have hm:bW ⟨false,B,[],aV (r::R)⟩=true:=by
  refine cI.2 ⟨re h0 (List.sublist_cons_self ..),.inr ⟨rfl,?_,rfl,fun z hz=>?_⟩⟩
  ·have:=(cl hb.may rfl).1
   simp[aV]at this ⊢;omega
  exact (cl hb.may rfl).2.2 z (List.mem_cons_of_mem _ hz)
 have hle:(aE ⟨false,B,[],aV (r::R)⟩).length<=(aE ⟨false,k::B,[],aV (t::r::R)⟩).length:=by
  show (aE ⟨false,B,[],((no h r:Nat):Int)::aV R⟩).length<=(aE ⟨false,k::B,[],((no h t:Nat):Int)::aV (r::R)⟩).length
  rw[jI (by omega),jI (by simp;omega)]
  have hz:(bi (k::B) ((aV (r::R)).map cnt))=tB k++(cnt (no h r:Nat)++bi B ((aV R).map cnt)):=rfl
  rw[hz]
  simp only[List.length_append]
  omega
 exact⟨⟨hm,by have:=hb.le;omega⟩,hle⟩
def Kz(c:jt)(G X:RL)(s:fD){h:Nat}(p:Nat)(ks:List Tx)(ts:List (Tr h))(L':RL):Prop :=
 ∃ X' m' ks' ts',(∀ q,q∈X->q∈X')/\TR c G X' ⟨m',s.root,s.cnt⟩ L'/\gR s.m m' (bG p ks ts) (bG p ks' ts')/\jU m' p ks' ts'/\kN ⟨false,ks,[],aV ts⟩ ⟨false,ks',[],aV ts'⟩/\cq c.N s.m<=cq c.N m'/\(ts≠[]->ts'≠[])/\(ts=[]->ks'=ks/\ts'=[])
theorem qS {s:fD}{L:RL}{h p:Nat}{ks:List Tx}{ts:List (Tr h)}{i:Int}(htr:TR c G X s L)(hloc:jU s.m p ks ts)(h1:-8<=i)(h2:i<=1000) :
  CS Tryz.prog 189 [ptr c.rt,.int .i64 (p:Nat),.int .i64 i] L fun _ L'=>Kz c G X s p ks ts L':=by
 by_cases hi:i<0∨(ts.length:Int)<=i
 ·refine (Ah (sn h) htr hloc hi h1 h2).mono ?_
  rintro u L' ⟨_,h3⟩
  exact⟨X,s.m,ks,ts,fun _ hq=>hq,h3,gR.refl hloc.rep hloc.nod,hloc,kN.refl,Nat.le_refl _,id,fun h=>⟨rfl,h⟩⟩
 refine (qT h c G X s L p ks ts i htr hloc (by omega) (by omega)).mono ?_
 rintro u L' ⟨X',m',A,Y,B,L1,M,R,w,hw,_,_,_⟩
 have hne:ts≠[]:=by rintro rfl;simp at hi;omega
 exact⟨X',m',A++B,L1++w::R,hw.hX,hw.tr,hw.via,hw.loc (hloc.bg hne) hloc.ok,hw.less,hw.fr,fun _=>(by simp),fun h=>absurd h hne⟩
def KG{h:Nat}(t:Tr h):Prop:=(nd h t).vs=[]/\(nd h t).kids=[]/\(nd h t).ks=[]
theorem Cp:∀ {h:Nat} {t:Tr h},KG t->bJ h t=[no h t]
 | 0,t,_=>by
  obtain⟨p,ks,vs,rfl⟩:=br t
  rfl
 | h+1,t,he=>by
  obtain⟨p,ks,ts,rfl⟩:=aO t
  have h1:aV ts=[]:=he.2.1
  have h2:ts=[]:=by simpa[aV] using h1
  subst h2
  rfl
theorem Gm:∀ {h:Nat} {t:Tr h},KG t->sq h t=[]
 | 0,t,he=>by
  obtain⟨p,ks,vs,rfl⟩:=br t
  have h1:ks=[]:=he.2.2
  subst h1
  rfl
 | h+1,t,he=>by
  obtain⟨p,ks,ts,rfl⟩:=aO t
  have h1:aV ts=[]:=he.2.1
  have h2:ts=[]:=by simpa[aV] using h1
  subst h2
  rfl
theorem IE {t:Tr h}{m:da}(he:KG t):CT m (aD m (no h t) none) (bJ h t) []:=by
 rw[Cp he]
 refine⟨List.nodup_nil,fun q hq=>(by cases hq),fun q h1 _=>?_,fun q h1 _=>?_⟩
 ·simp at h1;unfold aD;rw[if_neg h1]
 simp at h1;unfold aD;rw[if_pos h1]
def Lz{h:Nat}(t:Tr h):Prop:=KG t∨(Bg (nd h t)/\(aE (nd h t)).length<=354/\Ln h t/\((nd h t).ks≠[]∨(nd h t).leaf=false))
theorem cQ.lz:∀ {h:Nat} {t:Tr h},cQ h t->Lz t
 | 0,t,hk=>by
  obtain⟨p,ks,vs,rfl⟩:=br t
  exact .inr ⟨Bg.of hk.fits,by have:=cA hk.fits;omega,hk.kok,.inl hk.2⟩
 | h+1,t,hk=>.inr ⟨Bg.of hk.fits,by have:=cA hk.fits;omega,hk.kok,.inr rfl⟩
theorem tv {n:Nd}(hb:Bg n)(hne:n.ks≠[]∨n.leaf=false):¬ (n.vs=[]/\n.kids=[]):=fun ⟨h1,h2⟩=>by
 rcases rW hb.may with ⟨g1,g2,g3⟩|⟨g1,g2,g3⟩
 ·rw[h1]at g2
  rcases hne with h|h
  ·exact h (List.eq_nil_of_length_eq_zero (by simpa using g2.symm))
  rw[g1]at h;cases h
 rw[h2]at g2;simp at g2
theorem gX {h:Nat}{A B:List Tx}{k:Tx}{L R:List (Tr h)}{l t:Tr h}(hl:A.length=L.length):qb ⟨false,(A++[k])++B,[],aV ((L++[l])++t::R)⟩ (L++[l]).length=⟨false,A++B,[],aV (L++l::R)⟩:=by
 have e1:((A++[k])++B).eraseIdx ((L++[l]).length-1)=A++B:=by
  have:(L++[l]).length-1=A.length:=by simp;omega
  rw[this,List.append_assoc,List.eraseIdx_append_of_length_le (Nat.le_refl _)]
  simp
 have e2:(aV ((L++[l])++t::R)).eraseIdx (L++[l]).length=aV (L++l::R):=by
  unfold aV
  rw[List.map_append,List.eraseIdx_append_of_length_le (by simp)]
  simp
 unfold qb
 rw[e1,e2]
variable{m:da}
theorem GA {L R:List (Tr h)}{t:Tr h}(hl:A.length=L.length)(hB:B.length=R.length)(hr:cD m (h+1) (bG p (A++B) (L++t::R)))(hn:(bJ (h+1) (bG p (A++B) (L++t::R))).Nodup)(he:KG t)(hb:Bg ⟨false,A++B,[],aV (L++t::R)⟩)(hok:∀ q∈L++R,cQ h q) :
  ∃ ks' ts',qb ⟨false,A++B,[],aV (L++t::R)⟩ L.length=⟨false,ks',[],aV ts'⟩/\gR m (aD (aD m (no h t) none) p (some ⟨false,ks',[],aV ts'⟩)) (bG p (A++B) (L++t::R)) (bG p ks' ts')/\(∀ q∈ts',cQ h q)/\((ks'=[]/\ts'=[])∨(Bg ⟨false,ks',[],aV ts'⟩/\(aE ⟨false,ks',[],aV ts'⟩).length<=(aE ⟨false,A++B,[],aV (L++t::R)⟩).length)):=by
 have hseg:∀ (K':List Tx),SQ (sq (h+1) (bG p (A++B) (L++t::R))) (sq (h+1) (bG p K' (L++R)))->gR m (aD (aD m (no h t) none) p (some ⟨false,K',[],aV (L++R)⟩)) (bG p (A++B) (L++t::R)) (bG p K' (L++R)):=fun K' hsq =>
  gR.seg (K:=A++B) (K':=K') (L:=L) (M:=[t]) (M':=[]) (R:=R) hr hn (by simpa using IE he) (fun s hs=>by cases hs) hsq
 have hst:=Gm he
 rcases List.eq_nil_or_concat L with rfl|⟨L,l,rfl⟩
 ·have hA:A=[]:=List.eq_nil_of_length_eq_zero (by simpa using hl)
  subst hA
  cases R with
  | nil =>
   have hBn:B=[]:=List.eq_nil_of_length_eq_zero (by simpa using hB)
   subst hBn
   refine⟨[],[],rfl,hseg [] (SQ.of ?_),fun q hq=>(by cases hq),.inl ⟨rfl,rfl⟩⟩
   show wv [] [sq h t]=wv [] []
   rw[hst];rfl
  | cons r R =>
   cases B with
   | nil=>simp at hB
   | cons k B =>
    refine⟨B,r::R,rfl,hseg B ?_,fun q hq=>hok q (by simpa using hq),.inr (AX (k:=k) (t:=t) hb)⟩
    have h1:sq (h+1) (bG p ([]++k::B) ([]++t::r::R))=sq h t++It.S k::(sq h r++bU B (R.map (sq h))):=rfl
    rw[h1,hst]
    exact SQ.drop (a:=[])
 rw[List.concat_eq_append]at *
 rcases List.eq_nil_or_concat A with rfl|⟨A,k,rfl⟩
 ·simp at hl
 rw[List.concat_eq_append]at *
 have hl':A.length=L.length:=by simpa using hl
 have hd:=gX (B:=B) (k:=k) (R:=R) (l:=l) (t:=t) hl'
 refine⟨A++B,L++l::R,hd,?_,fun q hq=>hok q (by simpa[or_assoc] using hq),.inr ?_⟩
 ·have h1:=hseg (A++B) (by
   have e2:sq (h+1) (bG p (A++B) ((L++[l])++R))=fU A (L.map (sq h))++(sq h l++bU B (R.map (sq h))):=by
    rw[List.append_assoc];exact io hl'
   rw[io (by simpa using hl),e2,hst]
   have e3:fU (A++[k]) ((L++[l]).map (sq h))=fU A (L.map (sq h))++(sq h l++[It.S k]):=by
    rw[List.map_append,rH (by simpa using hl')];rfl
   rw[e3]
   have:=SQ.drop (a:=fU A (L.map (sq h))++sq h l) (b:=bU B (R.map (sq h))) (k:=k)
   simpa only [List.append_assoc,List.cons_append,List.nil_append] using this)
  rw[List.append_assoc]at h1
  exact h1
 have h2:=j0 (n:=⟨false,(A++[k])++B,[],aV ((L++[l])++t::R)⟩) (i:=A.length) (by simp) hb
 have h3:db ⟨false,(A++[k])++B,[],aV ((L++[l])++t::R)⟩ A.length=⟨false,A++B,[],aV (L++l::R)⟩:=by
  have:=hd
  unfold qb at this
  unfold db
  have e1:(L++[l]).length-1=A.length:=by simp;omega
  have e2:(L++[l]).length=A.length+1:=by simp;omega
  rw[e1,e2]at this
  simpa using this
 rw[h3]at h2
 exact h2
theorem Ci {ts:List (Tr h)}{m:da}(hr:cD m (h+1) (bG p ks ts)){s:Tr h}(hs:s∈ts):m (no h s)=some (nd h s):=((bI.1 hr).2 s hs).top
def Jt{h:Nat}(t:Tr h):Prop:=KG t∨(aE (nd h t)).length<=256
def CJ(c:jt)(G X:RL)(s:fD){h:Nat}(sm:Prop)(p:Nat)(ks:List Tx)(ts:List (Tr h))(L':RL):Prop :=
 ∃ X' m' ks' ts',(∀ q,q∈X->q∈X')/\TR c G X' ⟨m',s.root,s.cnt⟩ L'/\gR s.m m' (bG p ks ts) (bG p ks' ts')/\(∀ q∈ts',cQ h q)/\((ks'=[]/\ts'=[])∨(Bg ⟨false,ks',[],aV ts'⟩/\(aE ⟨false,ks',[],aV ts'⟩).length<=292))/\cq c.N s.m<=cq c.N m'+1/\(sm->cq c.N s.m<=cq c.N m'/\(ts'≠[]->(aE ⟨false,ks',[],aV ts'⟩).length<=256))
theorem CJ.lz {s:fD}{h p:Nat}{ks:List Tx}{ts:List (Tr h)}{L':RL}{sm:Prop}(hm:CJ c G X s sm p ks ts L'):∃ X' m' ks' ts',(∀ q,q∈X->q∈X')/\TR c G X' ⟨m',s.root,s.cnt⟩ L'/\gR s.m m' (bG p ks ts) (bG p ks' ts')/\Lz (bG p ks' ts')/\(∀ q∈ts',cQ h q)/\cq c.N s.m<=cq c.N m'+1/\(sm->cq c.N s.m<=cq c.N m'/\Jt (bG p ks' ts')):=by
 obtain⟨X',m',ks',ts',h1,h2,h3,h4,h5,h6,h8⟩:=hm
 refine⟨X',m',ks',ts',h1,h2,h3,?_,h4,h6,fun hs=>⟨(h8 hs).1,?_⟩⟩
 rotate_left
 ·by_cases ht:ts'=[]
  ·rcases h5 with ⟨rfl,rfl⟩|⟨h5,_⟩
   ·exact .inl ⟨rfl,rfl,rfl⟩
   have:=pI h5
   rw[ht]at this
   simp at this
  exact .inr ((h8 hs).2 ht)
 rcases h5 with ⟨rfl,rfl⟩|⟨h5,h7⟩
 ·exact .inl ⟨rfl,rfl,rfl⟩
 exact .inr ⟨h5,by show (aE ⟨false,ks',[],aV ts'⟩).length<=354;omega,h4,.inr rfl⟩
set_option maxHeartbeats 4000000 in
theorem AF {s:fD}{rows:RL}{h p:Nat}{A B:List Tx}{L R:List (Tr h)}{t:Tr h}(htr:TR c G X s rows)(hl:A.length=L.length)(hB:B.length=R.length)(hr:cD s.m (h+1) (bG p (A++B) (L++t::R)))(hn:(bJ (h+1) (bG p (A++B) (L++t::R))).Nodup)
  (hfit:aQ ⟨false,A++B,[],aV (L++t::R)⟩=true) (hok:∀ q∈L++R,cQ h q) (hsrt:eC (sq (h+1) (bG p (A++B) (L++t::R)))) (hlz:Lz t) (hf:256<(aE (nd h t)).length->0<cq c.N s.m) :
  CS Tryz.prog 195 [ptr c.rt,.int .i64 (p:Nat),.int .i64 (L.length:Nat)] rows fun _ L'=>CJ c G X s (Jt t) p (A++B) (L++t::R) L':=by
 suffices g:CS Tryz.prog 195 [ptr c.rt,.int .i64 (p:Nat),.int .i64 (L.length:Nat)] rows fun _ L'=>∃ x,CJ c (x::G) X s (Jt t) p (A++B) (L++t::R) L' by
  refine g.less ?_
  rintro u L' ⟨x,X',m',ks',ts',h1,h2,h3⟩
  obtain⟨L1,g1,s1⟩:=h2.pop
  exact⟨L1,s1,X',m',ks',ts',h1,g1,h3⟩
 have hmp:s.m p=some ⟨false,A++B,[],aV (L++t::R)⟩:=hr.top
 have hmt:s.m (no h t)=some (nd h t):=Ci hr (by simp)
 have hpt:p≠no h t:=fun he=>by
  rw[gD,List.nodup_append]at hn
  exact hn.2.2 p (List.mem_cons_self ..) (no h t) (List.mem_append_left _ gE) he
 have hbp:=Bg.of hfit
 have hkp:=hbp.keys
 simp only at hkp
 have hle:=pI hbp
 have hL119:L.length<=119:=by simp only[List.length_append]at hkp;omega
 have spar:=htr.sm _ _ hmp
 have st:=htr.sm _ _ hmt
 have dp:=htr.dom p (by rw[hmp];simp)
 have dt:=htr.dom _ (show s.m (no h t)≠none by rw[hmt];simp)
 have hN32:=htr.N
 obtain⟨T,es,ck,ws,wk,g,rfl,hN,hp,hgm,hmr⟩:=htr.now
 obtain⟨r,hgr0,v1,v2,v3,hr1,hP⟩:=(hmr p).2 _ hmp
 have hgr:(g p).getD (.pointer none)=ptr r:=by rw[hgr0];rfl
 obtain⟨ra,hga,va1,va2,va3,hra,hPa⟩:=(hmr (no h t)).2 _ hmt
 have ega:(g (no h t)).getD (.pointer none)=ptr ra:=by rw[hga];rfl
 refine yF Tryz.f195 ?_
 refine yX 1 ?_
 refine yM (gH (v:=.int .i64 (L.length:Nat)) (cs:=[.int .i64 (L.length:Nat)]) rfl rfl rfl rfl rfl) fun r5=>?_
 refine OS.sub ar.inQ ?_
 refine xN ?_
 have hXB:∀ q,q∈X->q∈HD c.rf c.rb c.rt c.rn c.rw T s.root s.cnt c.root0 c.cnt0 es ck ws wk ((r5,aS (L.length:Nat))::(G++X)):=fun q hq=>by simp[hq]
 have m5:(r5,aS (L.length:Nat))∈HD c.rf c.rb c.rt c.rn c.rw T s.root s.cnt c.root0 c.cnt0 es ck ws wk ((r5,aS (L.length:Nat))::(G++X)):=by simp
 have mrt:(c.rt,bS c.rf c.rn c.rw s.root s.cnt c.root0 c.cnt0)∈HD c.rf c.rb c.rt c.rn c.rw T s.root s.cnt c.root0 c.cnt0 es ck ws wk ((r5,aS (L.length:Nat))::(G++X)):=by simp
 have mmap:(c.rn,aG.map es ck)∈HD c.rf c.rb c.rt c.rn c.rw T s.root s.cnt c.root0 c.cnt0 es ck ws wk ((r5,aS (L.length:Nat))::(G++X)):=by simp
 have m1:=hXB _ hr1
 have ma:=hXB _ hra
 have N1:=hP.nv spar hXB
 have Na:=hPa.nv st hXB
 simp only at N1 m1
 repeat refine xQ ?_
 refine LS.drawn noGo mixed [(0,false),(1,false),(2,false),(3,false),(4,false),(5,false),(6,false),(7,false),(8,false),(9,false),(10,false),(11,false),(12,false),(13,false)] rfl rfl (by kernel_rfl) ?_
 refine yX 4 ?_
 refine xE rfl rfl (aa mrt rfl rfl rfl rfl) rfl ?_
 refine yX 1 ?_
 refine xE rfl rfl (cb hgm mmap rfl rfl rfl rfl (fun _=>rfl) rfl) rfl ?_
 rw[hgr]
 refine yX 2 ?_
 refine xE rfl rfl (aa m1 rfl rfl rfl rfl) rfl ?_
 refine xE rfl rfl (aa m5 rfl rfl rfl rfl) rfl ?_
 refine ba.at1 (j:=L.length) (N1.z) (AC) rfl rfl rfl rfl rfl rfl rfl (fun ra0 oa0 rowa0 csa0 ma0 ca0 ga0=>⟨_,rfl,?_⟩)
 refine xE rfl rfl (aa ma0 ca0 rfl rfl (ap rfl ga0)) rfl ?_
 refine yX 7 ?_
 refine yR (aa mrt rfl rfl rfl rfl) ?_
 refine yX 1 ?_
 refine yR (cb hgm mmap rfl rfl rfl rfl (fun _=>rfl) rfl) ?_
 rw[ega]
 refine yX 2 ?_
 have htr1:TR c ((r5,aS (L.length:Nat))::G) X s (HD c.rf c.rb c.rt c.rn c.rw T s.root s.cnt c.root0 c.cnt0 es ck ws wk ((r5,aS (L.length:Nat))::(G++X))):=⟨T,es,ck,ws,wk,hN,rfl,hp⟩
 repeat refine xQ ?_
 refine LS.mid [0,1,5] (fun a' L'=>(∃ X1 m1 ks1 ts1,(∀ q,q∈X->q∈X1)/\TR c ((r5,aS (L.length:Nat))::G) X1 ⟨m1,s.root,s.cnt⟩ L'/\gR s.m m1 (bG p (A++B) (L++t::R)) (bG p ks1 ts1)/\(∀ q∈ts1,cQ h q)/\((ks1=[]/\ts1=[])∨(Bg ⟨false,ks1,[],aV ts1⟩/\(aE ⟨false,ks1,[],aV ts1⟩).length<=292))/\cq c.N s.m<=cq c.N m1+1/\(Jt t->cq c.N s.m<=cq c.N m1/\(ts1≠[]->(aE ⟨false,ks1,[],aV ts1⟩).length<=256)))/\a'=[ptr c.rt,.int .i64 (p:Nat),yC,yC,yC,ptr r5,yC,yC,yC,yC,yC,yC,yC,yC,yC,yC,yC,yC,yC,yC,yC,yC,yC,yC,yC,yC,yC,yC,yC,yC,yC,yC,yC,yC,yC,yC,yC,yC,yC,yC,yC,yC,yC,yC,yC,yC,yC,yC,yC,yC,yC,yC,yC,yC,yC,yC,yC,yC,yC,yC,yC]) ?_ ?_
 ·refine yX 3 ?_
  refine yA yH (sy (X:=X) hXB ⟨va1,va2,va3,hra,hPa⟩ st) ?_
  rintro u L' ⟨rfl,rfl⟩
  refine yX 3 ?_
  rcases hlz with he|⟨hb,hbl,hkok,hne⟩
  ·rw[decide_eq_true ⟨he.1,he.2.1⟩]
   repeat refine xQ ?_
   refine xC rfl ?_ ?_ <;> intro hc
   ·obtain⟨ks',ts',hdrop,hvia,hok',hor⟩:=GA hl hB hr hn he hbp hok
    refine yX 5 ?_
    refine yA yH (pr (o:=none) htr1 dt rfl (fun n hn=>by cases hn)) ?_
    rintro u L1 h1
    refine yX 2 ?_
    have hm1:aD s.m (no h t) none p=some ⟨false,A++B,[],aV (L++t::R)⟩:=by unfold aD;rw[if_neg hpt];exact hmp
    have hsn:Sm ⟨false,ks',[],aV ts'⟩:=by
     rcases hor with ⟨rfl,rfl⟩|⟨hb',_⟩
     ·exact⟨by simp,by simp,by simp[aV],fun k hk=>(by cases hk),fun k hk=>(by cases hk)⟩
     exact hb'.sm
    have hkk:A++B=[]∨L.length-1<(A++B).length:=by
     simp only[List.length_append]at hle
     by_cases h0:A++B=[]
     ·exact .inl h0
     refine .inr ?_
     have:0<(A++B).length:=List.length_pos_iff.2 h0
     simp only[List.length_append,List.length_cons]at this hle ⊢
     omega
    refine yX 6 ?_
    refine yA yH (jP (caps:=[ptr r5]) (n':=⟨false,ks',[],aV ts'⟩) h1 hm1 hsn (hdrop▸GC (i:=L.length) (List.mem_cons_self ..) spar (by simp[aV]) hkk)) ?_
    rintro u L2 ⟨X2,hX2,h2⟩
    refine yX 2 ?_
    have f1:=i6 (m:=s.m) (o:=none) dt
    rw[hmt]at f1
    have f2:=oi (n':=⟨false,ks',[],aV ts'⟩) dp hm1
    simp at f1
    refine⟨⟨X2,_,ks',ts',hX2,h2,hvia,hok',?_,by simp only;omega,fun _=>⟨by simp only;omega,fun hne=>?_⟩⟩,rfl⟩
    ·rcases hor with h|⟨h,h'⟩
     ·exact .inl h
     exact .inr ⟨h,by have:=cA hfit;omega⟩
    rcases hor with h|⟨h,h'⟩
    ·exact absurd h.2 hne
    have:=cA hfit;omega
   cases hc
  rw[decide_eq_false (tv hb hne)]
  refine yX 4 ?_
  refine yR (aa ma rfl rfl rfl rfl) ?_
  refine yA yH (qG Na (by have:=st.k;omega)) ?_
  rintro u L' ⟨rfl,rfl⟩
  refine yX 1 ?_
  rw[show xW (nd h t)=.int .i64 (gK (nd h t):Nat) from rfl,hb.size]
  by_cases hbig:256<(aE (nd h t)).length
  ·have hb1:(!av ((aE (nd h t)).length:Nat) 256)=true:=by rw[am,decide_eq_false (by omega)];rfl
   refine yI hb1 ?_
   refine yV 2 ?_
   refine xC rfl ?_ ?_ <;> intro hc
   ·obtain⟨q0,hq1,hq2,hq3⟩:=zA hb hbig hbl
    refine yX 3 ?_
    refine yR (aa m5 rfl rfl rfl rfl) ?_
    refine yA yH (xU htr1 hl hB hr hn (by omega) (rW hb.may) (by omega) (hf hbig)) ?_
    rintro u L1 ⟨X1,m1',q,key,p2,g1,g2,g3,g4,g5,g6,g7,g8⟩
    refine yX 2 ?_
    have hqk:=(List.getElem?_eq_some_iff.1 g2).1
    have hmx:=Nat.le_trans (g3 q0 hq1 hq2) hq3
    unfold qf at hmx
    have okl:cQ h (gS h t q):=B2 hkok g1 hqk (gV (te hb.may hqk) (by omega))
    have okr:cQ h (fR h t q p2):=B0 hkok hqk (gV (oz hb.may hqk) (by omega))
    have hkey:=dE hb.may key (List.mem_of_getElem? g2)
    have hpages:∀ x∈L++t::R,no h x<=32768:=fun x hx=>by
     have:=htr1.dom (no h x) (by rw[Ci hr hx];simp)
     omega
    have hmay:bW ⟨false,A++key::B,[],aV (L++gS h t q::fR h t q p2::R)⟩=true:=by
     refine B8 (g7.sv.to hsrt) (by simp at hle ⊢;omega) (fun k hk=>?_) (fun x hx=>?_)
     ·simp only[List.mem_append,List.mem_cons]at hk
      rcases hk with hk|rfl|hk
      ·exact dE hbp.may k (by simp[hk])
      ·exact hkey
      exact dE hbp.may k (by simp[hk])
     simp only[List.mem_append,List.mem_cons]at hx
     rcases hx with hx|rfl|rfl|hx
     ·exact hpages x (by simp[hx])
     ·rw[qr];exact hpages t (by simp)
     ·rw[qq];omega
     exact hpages x (by simp[hx])
    have hsz:=FX (h:=h) (key:=key) (t:=t) (u:=gS h t q) (v:=fR h t q p2) hl hB (by omega) hkey.2 qr (by rw[qq];omega)
    have hsz2:=cA hfit
    have hloc1:jU m1' p (A++key::B) (L++gS h t q::fR h t q p2::R):=⟨g7.rep,g7.chg.nd,fun x hx=>by
     simp only[List.mem_append,List.mem_cons]at hx
     rcases hx with hx|rfl|rfl|hx
     ·exact hok x (by simp[hx])
     ·exact okl
     ·exact okr
     exact hok x (by simp[hx]),.inl ⟨hmay,by omega⟩⟩
    have m5':=g6.memG _ (List.mem_cons_self ..)
    refine yX 3 ?_
    refine yR (aa m5' rfl rfl rfl rfl) ?_
    refine yP (aW (n:=1) rfl rfl rfl (ak (by omega) (by omega))) ?_
    refine yA yH (qS (i:=((L.length+1:Nat):Int)) g6 hloc1 (by omega) (by omega)) ?_
    rintro u L2 ⟨X2,m2,ks2,ts2,e1,e2,e3,e4,e5,e6,e7,e8⟩
    refine yX 2 ?_
    have hb2:=e5 ⟨hmay,by omega⟩
    refine⟨⟨X2,m2,ks2,ts2,fun y hy=>e1 y (g5 y hy),e2,g7.trans e3,e4.ok,.inr ⟨hb2.1,by omega⟩,by simp only at e6 g8 ⊢;omega,fun hsm=>?_⟩,rfl⟩
    rcases hsm with h|h
    ·exact absurd ⟨h.1,h.2.1⟩ (tv hb hne)
    omega
   cases hc
  have hb1:(!av ((aE (nd h t)).length:Nat) 256)=false:=by rw[am,decide_eq_true (by omega)];rfl
  refine yI hb1 ?_
  refine yX 4 ?_
  have okt:cQ h t:=Jl (hb.fits (by omega)) hkok hne
  refine⟨⟨X,s.m,A++B,L++t::R,fun _ hq=>hq,htr1,gR.refl hr hn,fun x hx=>?_,.inr ⟨hbp,by have:=cA hfit;omega⟩,by omega,fun _=>⟨Nat.le_refl _,fun _=>cA hfit⟩⟩,rfl⟩
  simp only[List.mem_append,List.mem_cons]at hx
  rcases hx with hx|rfl|hx
  ·exact hok x (by simp[hx])
  ·exact okt
  exact hok x (by simp[hx])
 rintro a' L1 ⟨⟨X1,m1',ks1,ts1,g1,g2,g3,g4,g5,g6,g8⟩,rfl⟩
 have hloc1:jU m1' p ks1 ts1:=⟨g3.rep,g3.chg.nd,g4,g5.symm.imp (fun h=>h.1) id⟩
 have m5':=g2.memG _ (List.mem_cons_self ..)
 refine yX 3 ?_
 refine yR (aa m5' rfl rfl rfl rfl) ?_
 refine yA yH (qS (i:=(L.length:Nat)) g2 hloc1 (by omega) (by omega)) ?_
 rintro u L2 ⟨X2,m2,ks2,ts2,e1,e2,e3,e4,e5,e6,e7,e8⟩
 refine yX 2 ?_
 refine⟨_,fun _ _=>rfl,(r5,aS (L.length:Nat)),X2,m2,ks2,ts2,fun y hy=>e1 y (g1 y hy),e2,g3.trans e3,e4.ok,?_,by simp only at e6 ⊢;omega,fun hsm=>⟨Nat.le_trans (g8 hsm).1 e6,fun hne=>?_⟩⟩
 rotate_left
 ·have hne1:ts1≠[]:=fun hh=>hne (e8 hh).2
  rcases g5 with g5|⟨g5,_⟩
  ·exact absurd g5.2 hne1
  exact Nat.le_trans (e5 g5).2 ((g8 hsm).2 hne1)
 rcases g5 with ⟨rfl,rfl⟩|⟨g5,g7⟩
 ·exact .inl (e8 rfl)
 exact .inr ⟨(e5 g5).1,by have:=(e5 g5).2;omega⟩
variable{a:ah}{o:Oper}
theorem Gx {i3:Operand}{v3:Value}(s3:ml v3)(ho:o.op=.build 183 #[(3,i3)])(h3:aX a i3=some v3) :
  ∀ h,aI Tryz.prog a o h=some (.val (j7 false (.slice none 0 0) (.slice none 0 0) v3) h):=by
 intro h
 rcases s3 with rfl|⟨r1,o1,n1,c1,rfl⟩ <;> (simp only[aI,ho,ew,h3];rfl)
structure eB(m:da)(root:Int){H:Nat}(t:Tr H):Prop where
 rep:cD m H t
 nod:(bJ H t).Nodup
 out:∀ q,q ∉ bJ H t->m q=none
 rt:root=(no H t:Nat)
variable{m':da}
theorem eB.via {root:Int}{H:Nat}{t t':Tr H}(w:eB m root t)(v:gR m m' t t'):eB m' root t':=by
 refine⟨v.rep,v.chg.nd,fun q hq=>?_,by rw[w.rt,v.rt]⟩
 by_cases h:q∈bJ H t
 ·exact v.chg.gone q h hq
 rw[v.chg.out q h hq];exact w.out q h
def tF(td:Prop)(m':da)(root':Int)(l:List It):Prop :=
 (root'=-1/\(∀ q,m' q=none)/\dm l=[])∨∃ (H':Nat) (t':Tr H'),eB m' root' t'/\cQ H' t'/\SQ l (sq H' t')/\(nd H' t').kids.length≠1/\(td->nl H' t')
theorem tF.sq {td td':Prop}{m':da}{root':Int}{l l':List It}(h:tF td m' root' l)(hs:SQ l' l)(ht:td'->td):tF td' m' root' l':=by
 rcases h with ⟨h1,h2,h3⟩|⟨H,t,h1,h2,h3,h4,h5⟩
 ·exact .inl ⟨h1,h2,by rw[hs.kv,h3]⟩
 exact .inr ⟨H,t,h1,h2,hs.trans h3,h4,fun h=>h5 (ht h)⟩
set_option maxHeartbeats 4000000 in
theorem li:∀ {H:Nat} {t:Tr H} {c:jt} {G X:RL} {s:fD} {rows:RL},TR c G X s rows->eB s.m s.root t->Lz t->(256<(aE (nd H t)).length->2<=cq c.N s.m) →
  CS Tryz.prog 190 [ptr c.rt] rows fun _ L'=>∃ X' m' root',(∀ q,q∈X->q∈X')/\TR c G X' ⟨m',root',s.cnt⟩ L'/\tF (cQ H t/\nl H t) m' root' (sq H t)/\((aE (nd H t)).length<=256->cq c.N s.m<=cq c.N m')
 | H,t,c,G,X,⟨m,root,cnt⟩,rows,htr,hw,hlz,hf=>by
  have hrt:=hw.rt
  simp only at hrt hw hf
  subst hrt
  have hmt:m (no H t)=some (nd H t):=hw.rep.top
  have st:=htr.sm _ _ hmt
  have dt:=htr.dom _ (show m (no H t)≠none by rw[hmt];simp)
  have hN32:=htr.N
  obtain⟨T,es,ck,ws,wk,g,rfl,hN,hp,hgm,hmr⟩:=htr.now
  obtain⟨ra,hga,va1,va2,va3,hra,hPa⟩:=(hmr (no H t)).2 _ hmt
  have ega:(g (no H t)).getD (.pointer none)=ptr ra:=by rw[hga];rfl
  have hXB:∀ q,q∈X->q∈HD c.rf c.rb c.rt c.rn c.rw T (no H t:Nat) cnt c.root0 c.cnt0 es ck ws wk (G++X):=fun q hq=>by simp[hq]
  have mrt:(c.rt,bS c.rf c.rn c.rw (no H t:Nat) cnt c.root0 c.cnt0)∈HD c.rf c.rb c.rt c.rn c.rw T (no H t:Nat) cnt c.root0 c.cnt0 es ck ws wk (G++X):=by simp
  have mmap:(c.rn,aG.map es ck)∈HD c.rf c.rb c.rt c.rn c.rw T (no H t:Nat) cnt c.root0 c.cnt0 es ck ws wk (G++X):=by simp
  have ma:=hXB _ hra
  have Na:=hPa.nv st hXB
  refine yF Tryz.f190 ?_
  repeat refine xQ ?_
  refine LS.drawn noGo mixed [(0,false),(1,false),(2,false),(3,false),(4,false),(5,false),(6,false),(7,false),(8,false),(9,false),(10,false),(11,false)] rfl rfl (by kernel_rfl) ?_
  refine yX 4 ?_
  refine xE rfl rfl (aa mrt rfl rfl rfl rfl) rfl ?_
  refine yX 4 ?_
  refine xE rfl rfl (aa mrt rfl rfl rfl rfl) rfl ?_
  refine xE rfl rfl (cb hgm mmap rfl rfl rfl rfl (fun _=>rfl) rfl) rfl ?_
  rw[ega]
  refine yX 5 ?_
  refine yA yH (sy (X:=X) hXB ⟨va1,va2,va3,hra,hPa⟩ st) ?_
  rintro u L' ⟨rfl,rfl⟩
  refine yX 3 ?_
  rcases hlz with he|⟨hb,hbl,hkok,hne⟩
  ·rw[decide_eq_true ⟨he.1,he.2.1⟩]
   repeat refine xQ ?_
   refine xC rfl ?_ ?_ <;> intro hc
   ·repeat refine xQ ?_
    refine LS.drawn noGo mixed [(0,false),(1,false),(2,false),(3,false),(4,false),(5,false),(6,false),(7,false),(8,true)] rfl rfl (by kernel_rfl) ?_
    refine yX 7 ?_
    refine xE rfl rfl (aa mrt rfl rfl rfl rfl) rfl ?_
    refine yO rfl yH (pr (o:=none) htr dt rfl (fun n hn=>by cases hn)) ?_
    rintro u L1 h1
    refine⟨_,rfl,(by repeat (first|exact ai.nil|refine ai.gone rfl ?_)),?_⟩
    refine yX 1 ?_
    obtain⟨T1,es1,ck1,ws1,wk1,hN1,rfl,hp1⟩:=h1
    refine yX 7 ?_
    refine⟨_,fun _ _=>rfl,X,aD m (no H t) none,-1,fun _ hq=>hq,⟨T1,es1,ck1,ws1,wk1,hN1,rfl,hp1⟩,.inl ⟨rfl,fun q=>?_,by rw[Gm he];rfl⟩,fun _=>by
     have:=i6 (m:=m) (o:=none) dt
     rw[hmt]at this
     simp at this
     simp only;omega⟩
    have hpg:=Cp he
    by_cases hq:q=no H t
    ·subst hq;unfold aD;rw[if_pos rfl]
    unfold aD;rw[if_neg hq]
    exact hw.out q (by rw[hpg];simpa using hq)
   cases hc
  rw[decide_eq_false (tv hb hne)]
  refine yX 4 ?_
  refine yR (aa ma rfl rfl rfl rfl) ?_
  refine yA yH (qG Na (by have:=st.k;omega)) ?_
  rintro u L' ⟨rfl,rfl⟩
  refine yX 1 ?_
  rw[show xW (nd H t)=.int .i64 (gK (nd H t):Nat) from rfl,hb.size]
  by_cases hbig:256<(aE (nd H t)).length
  ·have hb1:(!av ((aE (nd H t)).length:Nat) 256)=true:=by rw[am,decide_eq_false (by omega)];rfl
   refine yI hb1 ?_
   refine yV 2 ?_
   refine xC rfl ?_ ?_ <;> intro hc
   ·obtain⟨q0,hq1,hq2,hq3⟩:=zA hb hbig hbl
    have hf2:=hf hbig
    repeat refine xQ ?_
    refine LS.drawn noGo mixed [(0,false),(1,false),(2,false),(3,false),(4,false),(5,false),(6,false),(7,false),(8,false),(9,true),(10,false),(11,true),(12,false),(13,false),(14,false),(15,true)] rfl rfl (by kernel_rfl) ?_
    refine yX 8 ?_
    refine xE rfl rfl (aa mrt rfl rfl rfl rfl) rfl ?_
    refine ba.fresh rfl rfl (dG (fun _=>rfl) rfl) (fun _=>rfl) (fun rz=>(by repeat (first|exact ai.nil|refine ai.gone rfl ?_))) (fun rz=>?_)
    refine yQ rfl (Gx (.inr ⟨_,_,_,_,rfl⟩) rfl rfl) ?_
    refine ba.sub (ar.sums (A:=HD c.rf c.rb c.rt c.rn c.rw T (no H t:Nat) cnt c.root0 c.cnt0 es ck ws wk (G++((rz,aS (no H t:Nat))::X))) (B:=(rz,aS (no H t:Nat))::HD c.rf c.rb c.rt c.rn c.rw T (no H t:Nat) cnt c.root0 c.cnt0 es ck ws wk (G++X)) fun f=>by simp[HD,fm]<;>omega) ?_
    have htr2:TR c G ((rz,aS (no H t:Nat))::X) ⟨m,(no H t:Nat),cnt⟩ (HD c.rf c.rb c.rt c.rn c.rw T (no H t:Nat) cnt c.root0 c.cnt0 es ck ws wk (G++((rz,aS (no H t:Nat))::X))):=⟨T,es,ck,ws,wk,hN,rfl,hp.mono fun q hq=>List.mem_cons_of_mem _ hq⟩
    have hPN:PN ((rz,aS (no H t:Nat))::X) ⟨false,[],[],[((no H t:Nat):Int)]⟩ (.slice none 0 0) (.slice none 0 0) (.slice (some ⟨rz,0,none⟩) 1 1):=⟨iq,iq,.inr ⟨rz,0,1,[.int .i64 (no H t:Nat)],rfl,List.mem_cons_self ..,rfl,Nat.le_refl _,by decide⟩⟩
    refine yO rfl yH (xc (n:=⟨false,[],[],[((no H t:Nat):Int)]⟩) htr2 (by simp only;omega) hPN ⟨by simp,by simp,by simp,fun k hk=>(by cases hk),fun k hk=>(by cases hk)⟩) ?_
    rintro u L1 ⟨p2,x,d2,hp2,rfl,h1⟩
    refine⟨_,rfl,(by repeat (first|exact ai.nil|refine ai.gone rfl ?_)),?_⟩
    obtain⟨T1,es1,ck1,ws1,wk1,hN1,rfl,hp1⟩:=h1
    refine yX 3 ?_
    refine ba.write rfl rfl (ax 2 rfl rfl rfl rfl rfl rfl rfl rfl) rfl (by repeat (first|exact ai.nil|refine ai.gone rfl ?_)) ?_
    refine yX 1 ?_
    have hp2t:p2≠no H t:=fun he=>by simp only at hp2;rw[he,hmt]at hp2;cases hp2
    have hp2o:p2 ∉ bJ H t:=fun hh=>hw.rep.some p2 hh hp2
    have hrep1:cD (aD m p2 (some ⟨false,[],[],[((no H t:Nat):Int)]⟩)) (H+1) (bG p2 ([]++[]) ([]++t::[])):=by
     rw[bI]
     refine⟨by unfold aD;rw[if_pos rfl];rfl,fun s hs=>?_⟩
     simp only[List.nil_append,List.mem_singleton]at hs
     subst hs
     refine hw.rep.congr fun q hq=>?_
     have hne2:q≠p2:=fun he=>hp2o (he▸hq)
     unfold aD;rw[if_neg hne2]
    have hnod1:(bJ (H+1) (bG p2 ([]++[]) ([]++t::[]))).Nodup:=by
     rw[bF]
     simp only[List.nil_append,List.flatMap_cons,List.flatMap_nil,List.append_nil,List.nodup_cons]
     exact⟨hp2o,hw.nod⟩
    have htr3:TR c G (x::(rz,aS (no H t:Nat))::X) ⟨aD m p2 (some ⟨false,[],[],[((no H t:Nat):Int)]⟩),(p2:Nat),cnt⟩ (HD c.rf c.rb c.rt c.rn c.rw T1 (p2:Nat) cnt c.root0 c.cnt0 es1 ck1 ws1 wk1 (G++(x::(rz,aS (no H t:Nat))::X))):=⟨T1,es1,ck1,ws1,wk1,hN1,rfl,hp1⟩
    have hfm:=qz (n':=⟨false,[],[],[((no H t:Nat):Int)]⟩) d2 hp2
    simp only at hfm
    refine yX 6 ?_
    refine yR (aa (row:=bS c.rf c.rn c.rw (p2:Nat) cnt c.root0 c.cnt0) (r:=c.rt) (by simp) rfl rfl rfl rfl) ?_
    refine yA yH (xU (A:=[]) (B:=[]) (L:=[]) (R:=[]) (t:=t) htr3 rfl rfl hrep1 hnod1 (by simp) (rW hb.may) (by omega) (by simp only;omega)) ?_
    rintro u L2 ⟨X1,m1',q,key,p3,g1,g2,g3,g4,g5,g6,g7,g8⟩
    refine yX 2 ?_
    have hqk:=(List.getElem?_eq_some_iff.1 g2).1
    have hmx:=Nat.le_trans (g3 q0 hq1 hq2) hq3
    unfold qf at hmx
    have okl:cQ H (gS H t q):=B2 hkok g1 hqk (gV (te hb.may hqk) (by omega))
    have okr:cQ H (fR H t q p3):=B0 hkok hqk (gV (oz hb.may hqk) (by omega))
    have hkey:=dE hb.may key (List.mem_of_getElem? g2)
    have hmay:bW ⟨false,[key],[],aV [gS H t q,fR H t q p3]⟩=true:=by
     refine cI.2 ⟨kW.2 ⟨by simp,fun k hk=>?_⟩,.inr ⟨rfl,rfl,rfl,fun z hz=>?_⟩⟩
     ·simp only[List.mem_singleton]at hk
      subst hk
      refine⟨?_,hkey.2⟩
      cases k with
      | nil=>simp at hkey
      | cons _ _=>rfl
     simp only[aV,List.map_cons,List.map_nil,List.mem_cons,List.not_mem_nil,or_false,qr,qq]at hz
     rcases hz with rfl|rfl <;> omega
    have hw1:eB (aD m p2 (some ⟨false,[],[],[((no H t:Nat):Int)]⟩)) (p2:Nat) (bG p2 ([]++[]) ([]++t::[])):=by
     refine⟨hrep1,hnod1,fun q hq=>?_,rfl⟩
     rw[bF]at hq
     simp only[List.nil_append,List.flatMap_cons,List.flatMap_nil,List.append_nil,List.mem_cons,not_or]at hq
     unfold aD
     rw[if_neg hq.1]
     exact hw.out q hq.2
    have hsq0:sq (H+1) (bG p2 ([]++[]) ([]++t::[]))=sq H t:=by
     show sq H t++[]=sq H t
     simp
    refine⟨_,fun _ _=>rfl,X1,m1',(p2:Nat),fun y hy=>g5 y (by simp[hy]),g6,.inr ⟨H+1,_,hw1.via g7,⟨lP hmay (.inr ⟨rfl,by simp⟩),fun y hy=>?_⟩,hsq0▸g7.sv,by simp[aV],fun td=>?_⟩,fun hh=>absurd hh (by omega)⟩
    ·have hy':y∈[gS H t q,fR H t q p3]:=hy
     simp only[List.mem_cons,List.not_mem_nil,or_false]at hy'
     rcases hy' with rfl|rfl
     ·exact okl
     exact okr
    exfalso
    have:=cA td.1.fits
    omega
   cases hc
  have hb1:(!av ((aE (nd H t)).length:Nat) 256)=false:=by rw[am,decide_eq_true (by omega)];rfl
  have okt:cQ H t:=Jl (hb.fits (by omega)) hkok hne
  have hzl:=st.z
  refine yI hb1 ?_
  refine yX 7 ?_
  refine yR (aa ma rfl rfl rfl rfl) ?_
  refine yP (az Na.z rfl rfl rfl rfl rfl) ?_
  refine yI (gn (m:=(nd H t).kids.length) (n:=1)) ?_
  by_cases h1:(nd H t).kids.length=1
  ·rw[decide_eq_true h1]
   refine yX 2 ?_
   cases H with
   | zero=>obtain⟨p,ks,vs,rfl⟩:=br t;simp at h1
   | succ H =>
    obtain⟨p,ks,ts,rfl⟩:=aO t
    have hlen:=okt.len
    have hts:ts.length=1:=by simpa[aV] using h1
    obtain⟨k0,rfl⟩:∃ k0,ts=[k0]:=by
     cases ts with
     | nil=>simp at hts
     | cons a l =>
      cases l with
      | nil=>exact⟨a,rfl⟩
      | cons _ _=>simp at hts
    have hks:ks=[]:=by simpa using hlen
    subst hks
    repeat refine xQ ?_
    refine xC rfl ?_ ?_ <;> intro hc
    ·repeat refine xQ ?_
     refine LS.drawn noGo mixed [(0,false),(1,false),(2,false),(3,false),(4,false),(5,false),(6,false),(7,false),(8,true)] rfl rfl (by kernel_rfl) ?_
     refine yX 7 ?_
     refine xE rfl rfl (aa mrt rfl rfl rfl rfl) rfl ?_
     refine yO rfl yH (pr (o:=none) htr dt rfl (fun n hn=>by cases hn)) ?_
     rintro u L1 g1
     refine⟨_,rfl,(by repeat (first|exact ai.nil|refine ai.gone rfl ?_)),?_⟩
     refine yX 1 ?_
     obtain⟨T1,es1,ck1,ws1,wk1,hN1,rfl,hp1⟩:=g1
     have hXB1:∀ q,q∈X->q∈HD c.rf c.rb c.rt c.rn c.rw T1 (p:Nat) cnt c.root0 c.cnt0 es1 ck1 ws1 wk1 (G++X):=fun q hq=>by simp[hq]
     have ma1:=hXB1 _ hra
     have Na1:=hPa.nv st hXB1
     refine yX 5 ?_
     refine yR (aa ma1 rfl rfl rfl rfl) ?_
     refine OS.at1 (j:=0) (Na1.z) ((show (bx [((no H k0:Nat):Int)])[0]?=some (.int .i64 ((no H k0:Nat):Int)) from rfl)) rfl rfl rfl rfl rfl rfl (fun ra0 oa0 rowa0 csa0 ma0 ca0 ga0=>⟨_,rfl,?_⟩)
     refine yR (aa ma0 ca0 rfl rfl (ap rfl ga0)) ?_
     refine yX 5 ?_
     have hnod:=hw.nod
     simp only[bF,List.flatMap_cons,List.flatMap_nil,List.append_nil,List.nodup_cons]at hnod
     have hw2:eB (aD m p none) (no H k0:Nat) k0:=by
      refine⟨((bI.1 hw.rep).2 k0 (by simp)).congr fun q hq=>?_,hnod.2,fun q hq=>?_,rfl⟩
      ·have hqp:q≠p:=fun he=>hnod.1 (he▸hq)
       unfold aD;rw[if_neg hqp]
      by_cases hqp:q=p
      ·subst hqp;unfold aD;rw[if_pos rfl]
      unfold aD;rw[if_neg hqp]
      exact hw.out q (by simp[bF,hqp,hq])
     have ok0:=okt.kid k0 (by simp)
     have htr2:TR c G X ⟨aD m p none,(no H k0:Nat),cnt⟩ (HD c.rf c.rb c.rt c.rn c.rw T1 (no H k0:Nat) cnt c.root0 c.cnt0 es1 ck1 ws1 wk1 (G++X)):=⟨T1,es1,ck1,ws1,wk1,hN1,rfl,hp1⟩
     refine yX 2 ?_
     refine yA yH (li htr2 hw2 ok0.lz (fun hh=>absurd (cA ok0.fits) (by omega))) ?_
     rintro u L2 ⟨X',m',root',e1,e2,e3,e4⟩
     refine yX 2 ?_
     refine⟨_,fun _ _=>rfl,X',m',root',e1,e2,e3.sq (SQ.of ?_) fun h=>⟨ok0,(gc.1 h.2).2 k0 (by simp)⟩,fun _=>by
      have h1:=i6 (m:=m) (o:=none) dt
      rw[hmt]at h1
      simp at h1
      have h2:=e4 (cA ok0.fits)
      simp only at h2 ⊢
      have h3:cq c.N (aD m p none)=cq c.N m+1:=h1
      omega⟩
     show sq H k0++[]=sq H k0
     simp
    cases hc
  rw[decide_eq_false h1]
  refine yX 4 ?_
  exact⟨_,fun _ _=>rfl,X,m,(no H t:Nat),fun _ hq=>hq,htr,.inr ⟨H,t,hw,okt,SQ.refl,h1,fun h=>h.2⟩,fun _=>Nat.le_refl _⟩
abbrev eH(rt:Nat):aG:=.cells 141 [ptr rt]
abbrev uC(r1 r2:Nat):aG:=.cells 231 [.func (.func 188) #[] #[ptr r1,ptr r2]]
def CK(h:Nat):Prop:=∀ (c:jt) (G X:RL) (s:fD) (L:RL) (r1 r2:Nat) (t:Tr h),TR c G X s L->(r1,eH c.rt)∈G->(r2,uC r1 r2)∈G->cD s.m h t->(bJ h t).Nodup->cQ h t →
 CS Tryz.prog 188 [.int .i64 (no h t:Nat),ptr r1,ptr r2] L fun _ L'=>∃ X' m' t',(∀ q,q∈X->q∈X')/\TR c G X' ⟨m',s.root,s.cnt⟩ L'/\gR s.m m' t t'/\cQ h t'/\nl h t'/\cq c.N s.m<=cq c.N m'
theorem JX:CK 0:=by
 intro c G X s rows r1 r2 t htr h1 h2 hrep hnod hok
 have hmt:=hrep.top
 have st:=htr.sm _ _ hmt
 obtain⟨T,es,ck,ws,wk,g,rfl,hN,hp,hgm,hmr⟩:=htr.now
 obtain⟨ra,hga,va1,va2,va3,hra,hPa⟩:=(hmr (no 0 t)).2 _ hmt
 have ega:(g (no 0 t)).getD (.pointer none)=ptr ra:=by rw[hga];rfl
 have m1:=htr.memG _ h1
 have ma:=htr.mem _ hra
 have Na:=hPa.nv st htr.mem
 have hz:(nd 0 t).kids.length=0:=rfl
 refine yF Tryz.f188 ?_
 refine yX 1 ?_
 refine yR (aa m1 rfl rfl rfl rfl) ?_
 refine yX 3 ?_
 refine yR (aa (row:=bS c.rf c.rn c.rw s.root s.cnt c.root0 c.cnt0) (r:=c.rt) (by simp) rfl rfl rfl rfl) ?_
 refine yX 1 ?_
 refine yR (cb hgm (by simp) rfl rfl rfl rfl (fun _=>rfl) rfl) ?_
 rw[ega]
 refine yX 2 ?_
 refine yR (aa ma rfl rfl rfl rfl) ?_
 refine yP (az Na.z rfl rfl rfl rfl rfl) ?_
 refine yX 3 ?_
 refine LS.loopJ [0,1,2,17,18] (fun z a' L'=>z=0/\L'=HD c.rf c.rb c.rt c.rn c.rw T s.root s.cnt c.root0 c.cnt0 es ck ws wk (G++X)/\a'=[.int .i64 (no 0 t:Nat),ptr r1,ptr r2,yC,yC,yC,yC,yC,yC,yC,yC,yC,yC,yC,yC,yC,yC,.int .i64 (0:Nat),.int .i64 0,yC,yC,yC,yC,yC,yC,yC,yC,yC,yC,yC,yC,yC,yC,yC,yC,yC,yC,yC,yC,yC,yC,yC,yC,yC,yC]) (n:=0) rfl ⟨rfl,rfl,rfl⟩ ?_
 rintro z a' L' ⟨rfl,rfl,rfl⟩
 have hb:(!av ((0:Nat):Int) 0)=false:=rfl
 refine yX 1 ?_
 refine yI hb ?_
 refine yX 2 ?_
 refine LS.exit ?_
 refine yX 4 ?_
 refine LS.loopJ [0,1,2,6] (fun z a' L'=>z=0/\L'=HD c.rf c.rb c.rt c.rn c.rw T s.root s.cnt c.root0 c.cnt0 es ck ws wk (G++X)/\a'=[.int .i64 (no 0 t:Nat),ptr r1,ptr r2,yC,yC,yC,.int .i64 0,yC,yC,yC,yC,yC,yC,yC,yC,yC,yC,yC,yC,yC,yC,yC,yC,yC,yC,yC,yC,yC,yC,yC,yC,yC,yC,yC,yC,yC,yC,yC,yC,yC,yC,yC,yC,yC,yC]) (n:=0) rfl ⟨rfl,rfl,rfl⟩ ?_
 rintro z a' L' ⟨rfl,rfl,rfl⟩
 refine yX 2 ?_
 refine yR (aa m1 rfl rfl rfl rfl) ?_
 refine yX 3 ?_
 refine yR (aa (row:=bS c.rf c.rn c.rw s.root s.cnt c.root0 c.cnt0) (r:=c.rt) (by simp) rfl rfl rfl rfl) ?_
 refine yX 1 ?_
 refine yR (cb hgm (by simp) rfl rfl rfl rfl (fun _=>rfl) rfl) ?_
 rw[ega]
 refine yX 2 ?_
 refine yR (aa ma rfl rfl rfl rfl) ?_
 refine yP (az Na.z rfl rfl rfl rfl rfl) ?_
 have hb:(!av ((nd 0 t).kids.length:Nat) 0)=false:=rfl
 refine yI hb ?_
 refine yX 2 ?_
 refine LS.exit ?_
 exact⟨_,fun _ _=>rfl,X,s.m,t,fun _ hq=>hq,htr,gR.refl hrep hnod,hok,trivial,Nat.le_refl _⟩
theorem Fv {ts:List (Tr h)}{D:List (Tr h)}{j:Nat}{u:Tr h}(hj:j<ts.length)(hn:aV (D++ts.drop j)=aV ts)(hu:no h u=no h ts[j]):aV ((D++[u])++ts.drop (j+1))=aV ts:=by
 have h1:ts.drop j=ts[j]::ts.drop (j+1):=List.drop_eq_getElem_cons hj
 rw[←hn,h1]
 simp only[aV,List.map_append,List.map_cons,List.map_nil,hu,List.append_assoc,List.cons_append,List.nil_append]
set_option maxHeartbeats 4000000 in
theorem JW (ih:CK h):CK (h+1):=by
 intro c G X s rows r1 r2 t htr h1 h2 hrep hnod hok
 obtain⟨p,ks,ts,rfl⟩:=aO t
 have hlen:=hok.len
 have hbg:=Bg.of hok.fits
 have hk119:=hbg.keys
 simp only[mN]at hk119
 have hmt:=hrep.top
 have st:=htr.sm _ _ hmt
 have htr0:=htr
 obtain⟨T,es,ck,ws,wk,g,rfl,hN,hp,hgm,hmr⟩:=htr.now
 obtain⟨ra,hga,va1,va2,va3,hra,hPa⟩:=(hmr p).2 _ hmt
 have ega:(g p).getD (.pointer none)=ptr ra:=by rw[hga];rfl
 have m1:=htr.memG _ h1
 have ma:=htr.mem _ hra
 have Na:=hPa.nv st htr.mem
 simp only[mN]at Na ma hPa
 refine yF Tryz.f188 ?_
 refine yX 1 ?_
 refine yR (aa m1 rfl rfl rfl rfl) ?_
 refine yX 3 ?_
 refine yR (aa (row:=bS c.rf c.rn c.rw s.root s.cnt c.root0 c.cnt0) (r:=c.rt) (by simp) rfl rfl rfl rfl) ?_
 refine yX 1 ?_
 refine yR (cb hgm (by simp) rfl rfl rfl rfl (fun _=>rfl) rfl) ?_
 simp only[jj]
 rw[ega]
 refine yX 2 ?_
 refine yR (aa ma rfl rfl rfl rfl) ?_
 refine yP (az Na.z rfl rfl rfl rfl rfl) ?_
 refine yX 3 ?_
 refine LS.loopJ [0,1,2,16,17,18] (fun z a' L'=>∃ X' m' D,(∀ q,q∈X->q∈X')/\TR c G X' ⟨m',s.root,s.cnt⟩ L'/\D.length<=ts.length/\gR s.m m' (bG p ks ts) (bG p ks (D++ts.drop D.length))/\(∀ q∈D,cQ h q/\nl h q)/\aV (D++ts.drop D.length)=aV ts/\cq c.N s.m<=cq c.N m'/\z=ts.length-D.length/\a'=[.int .i64 (p:Nat),ptr r1,ptr r2,yC,yC,yC,yC,yC,yC,yC,yC,yC,yC,yC,yC,yC,va3,.int .i64 ((aV ts).length:Nat),.int .i64 (D.length:Nat),yC,yC,yC,yC,yC,yC,yC,yC,yC,yC,yC,yC,yC,yC,yC,yC,yC,yC,yC,yC,yC,yC,yC,yC,yC,yC]) (n:=ts.length) rfl ⟨X,s.m,[],fun _ hq=>hq,htr0,by simp,by simpa using gR.refl hrep hnod,fun q hq=>(by cases hq),by simp,Nat.le_refl _,by simp,rfl⟩ ?_
 rintro z a' L' ⟨X',m',D,hX',htr',hD,hvia,hDok,hnos,hfr,rfl,rfl⟩
 by_cases hend:ts.length<=D.length
 ·have hb:(!av ((aV ts).length:Nat) (D.length:Nat))=false:=by rw[j5,am,decide_eq_true (by omega)];rfl
  refine yX 1 ?_
  refine yI hb ?_
  refine yX 2 ?_
  refine LS.exit ?_
  have hd0:ts.drop D.length=[]:=List.drop_eq_nil_of_le hend
  rw[hd0,List.append_nil]at hvia hnos
  have hless0:kN ⟨false,ks,[],aV ts⟩ ⟨false,ks,[],aV D⟩:=by rw[hnos];exact kN.refl
  have hloc0:jU m' p ks D:=⟨hvia.rep,hvia.chg.nd,fun q hq=>(hDok q hq).1,.inl (hless0 hbg).1⟩
  refine yX 4 ?_
  refine LS.loopJ [0,1,2,6] (fun z a' L'=>∃ X2 m2 ks2 ts2 i,(∀ q,q∈X->q∈X2)/\TR c G X2 ⟨m2,s.root,s.cnt⟩ L'/\gR s.m m2 (bG p ks ts) (bG p ks2 ts2)/\jU m2 p ks2 ts2/\ts2≠[]/\kN ⟨false,ks,[],aV ts⟩ ⟨false,ks2,[],aV ts2⟩/\(∀ q∈ts2,nl h q)/\i<=ts2.length/\(∀ j:Nat,j<i->NJ ks2 ts2 (j:Nat))/\cq c.N s.m<=cq c.N m2/\z=ts2.length-i/\a'=[.int .i64 (p:Nat),ptr r1,ptr r2,yC,yC,yC,.int .i64 (i:Nat),yC,yC,yC,yC,yC,yC,yC,yC,yC,yC,yC,yC,yC,yC,yC,yC,yC,yC,yC,yC,yC,yC,yC,yC,yC,yC,yC,yC,yC,yC,yC,yC,yC,yC,yC,yC,yC,yC]) (n:=D.length) rfl ⟨X',m',ks,D,0,hX',htr',hvia,hloc0,by rintro rfl;simp at hend;rw[hend]at hlen;simp at hlen,hless0,fun q hq=>(hDok q hq).2,by omega,fun j hj=>(by omega),hfr,by omega,rfl⟩ ?_
  rintro z a' L2 ⟨X2,m2,ks2,ts2,i,hX2,htr2,hvia2,hloc2,hne2,hless2,htd2,hi2,hnj2,hfr2,rfl,rfl⟩
  have hbg2:=hloc2.bg hne2
  have hlen2:=pI hbg2
  have hk2:=hbg2.keys
  simp only at hk2
  have hm2:=hloc2.top
  have st2:=htr2.sm _ _ hm2
  have m12:=htr2.memG _ h1
  have hX2L:=htr2.mem
  have htr20:=htr2
  obtain⟨T2,es2,ck2,ws2,wk2,g2,rfl,hN2,hp2,hgm2,hmr2⟩:=htr2.now
  obtain⟨rb,hgb,vb1,vb2,vb3,hrb,hPb⟩:=(hmr2 p).2 _ hm2
  have egb:(g2 p).getD (.pointer none)=ptr rb:=by rw[hgb];rfl
  have mb:=hX2L _ hrb
  have Nb:=hPb.nv st2 hX2L
  simp only at Nb mb
  refine yX 2 ?_
  refine yR (aa m12 rfl rfl rfl rfl) ?_
  refine yX 3 ?_
  refine yR (aa (row:=bS c.rf c.rn c.rw s.root s.cnt c.root0 c.cnt0) (r:=c.rt) (by simp) rfl rfl rfl rfl) ?_
  refine yX 1 ?_
  refine yR (cb hgm2 (by simp) rfl rfl rfl rfl (fun _=>rfl) rfl) ?_
  rw[egb]
  refine yX 2 ?_
  refine yR (aa mb rfl rfl rfl rfl) ?_
  refine yP (az Nb.z rfl rfl rfl rfl rfl) ?_
  by_cases hend2:ts2.length<=i
  ·have hb:(!av ((aV ts2).length:Nat) (i:Nat))=false:=by rw[j5,am,decide_eq_true (by omega)];rfl
   refine yI hb ?_
   refine yX 2 ?_
   refine LS.exit ?_
   refine⟨_,fun _ _=>rfl,X2,m2,bG p ks2 ts2,hX2,htr20,hvia2,⟨hless2.fits hok.fits,hloc2.ok⟩,gc.2 ⟨NJ.all fun j=>?_,htd2⟩,hfr2⟩
   by_cases hj:j<i
   ·exact hnj2 j hj
   exact NJ.far (by omega)
  have hb:(!av ((aV ts2).length:Nat) (i:Nat))=true:=by rw[j5,am,decide_eq_false (by omega)];rfl
  refine yI hb ?_
  refine yV 1 ?_
  refine xC rfl ?_ ?_ <;> intro hc
  ·refine yX 3 ?_
   refine yR (aa m12 rfl rfl rfl rfl) ?_
   refine yX 2 ?_
   refine yA yH (qT h c G X2 ⟨m2,s.root,s.cnt⟩ _ p ks2 ts2 (i:Nat) htr20 hloc2 (by omega) (by omega)) ?_
   rintro u L3 ⟨X3,m3,A,Y,B,L1,M,R,w,hw,rfl,n1,n2⟩
   refine yX 3 ?_
   have hlo:=hw.lo
   have hhi:=hw.hi
   have htt:=hw.ht
   have hkk:=hw.hk
   have hlt:=congrArg List.length htt
   simp only[List.length_append]at hlt
   refine yX 2 ?_
   refine yP (aW (n:=1) rfl rfl rfl (ak (by omega) (by omega))) ?_
   refine yX 2 ?_
   refine⟨(L1++w::R).length-(L1.length+1),by simp only[List.length_append,List.length_cons];have:=hw.lm;omega,X3,m3,A++B,L1++w::R,L1.length+1,fun q hq=>hw.hX q (hX2 q hq),hw.tr,hvia2.trans hw.via,hw.loc hbg2 hloc2.ok,by simp,hless2.trans hw.less,fun q hq=>?_,by simp,?_,Nat.le_trans hfr2 hw.fr,rfl,rfl⟩
   ·rcases List.mem_append.1 hq with hq|hq
    ·exact htd2 q (by rw[htt];simp[hq])
    rcases List.mem_cons.1 hq with rfl|hq
    ·exact hw.td fun q hq=>htd2 q (by rw[htt];simp[hq])
    exact htd2 q (by rw[htt];simp[hq])
   exact Es hw.la hw.lm n1 n2 (fun j hj=>by rw[←hkk,←htt];exact hnj2 j (by omega)) (L1.length+1) (fun j g1 g2=>by omega)
  cases hc
 have hj:D.length<ts.length:=by omega
 have hb:(!av ((aV ts).length:Nat) (D.length:Nat))=true:=by rw[j5,am,decide_eq_false (by omega)];rfl
 refine yX 1 ?_
 refine yI hb ?_
 refine yV 1 ?_
 refine xC rfl ?_ ?_ <;> intro hc
 ·refine yX 2 ?_
  have hat:(bx (aV ts))[D.length]?=some (.int .i64 ((no h ts[D.length]:Nat):Int)):=by simp[bx,aV,hj]
  have Na':=hPa.z.sv.mono (fun q hq=>htr'.mem q (hX' q hq))
  simp only at Na'
  refine yX 1 ?_
  refine OS.at1 (j:=D.length) (Na') (hat) rfl rfl rfl rfl rfl rfl (fun ra0 oa0 rowa0 csa0 ma0 ca0 ga0=>⟨_,rfl,?_⟩)
  refine yR (aa ma0 ca0 rfl rfl (ap rfl ga0)) ?_
  refine yX 2 ?_
  have m2':=htr'.memG _ h2
  have hdrop:ts.drop D.length=ts[D.length]::ts.drop (D.length+1):=List.drop_eq_getElem_cons hj
  have hrj:cD m' h ts[D.length]:=(bI.1 hvia.rep).2 _ (List.mem_append_right D (by rw[hdrop];exact List.mem_cons_self ..))
  have hnj:(bJ h ts[D.length]).Nodup:=by
   have:=hvia.chg.nd
   rw[hdrop,gD,List.nodup_append,List.nodup_append]at this
   exact this.2.1.1
  refine yX 1 ?_
  refine yR (aa m2' rfl rfl rfl rfl) ?_
  refine yX 1 ?_
  refine yA yH (ih c G X' ⟨m',s.root,s.cnt⟩ L' r1 r2 ts[D.length] htr' h1 h2 hrj hnj (hok.kid _ (List.getElem_mem hj))) ?_
  rintro u L3 ⟨X3,m3,u3,e1,e2,e3,e4,e5,e6⟩
  refine yX 3 ?_
  refine yP (aW (n:=1) rfl rfl rfl (ak (by omega) (by omega))) ?_
  refine yX 2 ?_
  have hks:ks=ks.take D.length++ks.drop D.length:=(List.take_append_drop _ _).symm
  have hv2:gR m' m3 (bG p ks (D++ts.drop D.length)) (bG p ks ((D++[u3])++ts.drop (D.length+1))):=by
   have:=gR.kid (A:=ks.take D.length) (B:=ks.drop D.length) (L:=D) (R:=ts.drop (D.length+1)) (p:=p) e3 (by simp;omega) (by rw[←hks,←hdrop];exact hvia.rep) (by rw[←hks,←hdrop];exact hvia.chg.nd)
   rw[←hks,←hdrop]at this
   simpa using this
  refine⟨ts.length-(D++[u3]).length,by simp;omega,X3,m3,D++[u3],fun q hq=>e1 q (hX' q hq),e2,by simp;omega,?_,fun q hq=>?_,?_,Nat.le_trans hfr e6,rfl,?_⟩
  ·rw[List.length_append,List.length_singleton];exact hvia.trans hv2
  ·rcases List.mem_append.1 hq with hq|hq
   ·exact hDok q hq
   simp only[List.mem_singleton]at hq;subst hq;exact⟨e4,e5⟩
  ·rw[List.length_append,List.length_singleton];exact Fv hj hnos e3.rt
  rw[List.length_append,List.length_singleton];rfl
 cases hc
theorem LR:∀ h,CK h
 | 0=>JX
 | h+1=>JW (LR h)
variable{H:Nat}
theorem Bu {t:Tr H}{c:jt}{G X:RL}{s:fD}{rows:RL}(htr:TR c G X s rows)(hw:eB s.m s.root t)(hok:cQ H t) :
  CS Tryz.prog 142 [ptr c.rt] rows fun _ L'=>∃ X' m' root',(∀ q,q∈X->q∈X')/\TR c G X' ⟨m',root',s.cnt⟩ L'/\tF True m' root' (sq H t)/\cq c.N s.m<=cq c.N m':=by
 suffices g:CS Tryz.prog 142 [ptr c.rt] rows fun _ L'=>∃ x y X' m' root',(∀ q,q∈X->q∈X')/\TR c (x::y::G) X' ⟨m',root',s.cnt⟩ L'/\tF True m' root' (sq H t)/\cq c.N s.m<=cq c.N m' by
  refine g.less ?_
  rintro u L' ⟨x,y,X',m',root',h1,h2,h3,h4⟩
  obtain⟨L1,g1,s1⟩:=h2.pop
  obtain⟨L2,g2,s2⟩:=g1.pop
  exact⟨L2,s2.trans s1,X',m',root',h1,g2,h3,h4⟩
 obtain⟨T,es,ck,ws,wk,g,rfl,hN,hp,hgm,hmr⟩:=htr.now
 refine yF Tryz.f142 ?_
 refine yX 1 ?_
 refine yM (gH (v:=ptr c.rt) (cs:=[ptr c.rt]) rfl rfl rfl rfl rfl) fun r1=>?_
 refine yX 2 ?_
 refine yN fun r2=>?_
 refine yX 4 ?_
 refine OS.sub (ar.sums (A:=HD c.rf c.rb c.rt c.rn c.rw T s.root s.cnt c.root0 c.cnt0 es ck ws wk (((r2,uC r1 r2)::(r1,eH c.rt)::G)++X)) (B:=(r2,uC r1 r2)::(r1,eH c.rt)::HD c.rf c.rb c.rt c.rn c.rw T s.root s.cnt c.root0 c.cnt0 es ck ws wk (G++X)) fun f=>by simp[HD,fm]<;>omega) ?_
 refine xN ?_
 have htr1:TR c ((r2,uC r1 r2)::(r1,eH c.rt)::G) X s (HD c.rf c.rb c.rt c.rn c.rw T s.root s.cnt c.root0 c.cnt0 es ck ws wk (((r2,uC r1 r2)::(r1,eH c.rt)::G)++X)):=⟨T,es,ck,ws,wk,hN,rfl,hp⟩
 have m2:=htr1.memG (r2,uC r1 r2) (by simp)
 have m1:=htr1.memG (r1,eH c.rt) (by simp)
 have hrt:=hw.rt
 repeat refine xQ ?_
 refine LS.drawn noGo mixed [(0,false),(1,false),(2,false),(3,false),(4,false),(5,false),(6,true)] rfl rfl (by kernel_rfl) ?_
 refine xE rfl rfl (aa m2 rfl rfl rfl rfl) rfl ?_
 refine xE rfl rfl (aa m1 rfl rfl rfl rfl) rfl ?_
 refine yX 3 ?_
 refine xE rfl rfl (iz (aa (row:=bS c.rf c.rn c.rw s.root s.cnt c.root0 c.cnt0) (r:=c.rt) (by simp) rfl rfl rfl rfl) (congrArg (Value.int .i64) hrt)) rfl ?_
 refine yO rfl yH (LR H c _ X s _ r1 r2 t htr1 (by simp) (by simp) hw.rep hw.nod hok) ?_
 rintro u L1 ⟨X1,m1',t1,e1,e2,e3,e4,e5,e6⟩
 refine⟨_,rfl,(by repeat (first|exact ai.nil|refine ai.gone rfl ?_)),?_⟩
 refine yX 1 ?_
 have m1b:=e2.memG (r1,eH c.rt) (by simp)
 have hw1:=hw.via e3
 refine yX 1 ?_
 refine yR (aa m1b rfl rfl rfl rfl) ?_
 refine yA yH (li e2 hw1 e4.lz (fun hh=>absurd (cA e4.fits) (by omega))) ?_
 rintro u L2 ⟨X2,m2',root',f1,f2,f3,f4⟩
 refine yX 2 ?_
 exact⟨_,fun _ _=>rfl,_,_,X2,m2',root',fun q hq=>f1 q (e1 q hq),f2,f3.sq e3.sv fun _=>⟨e4,e5⟩,Nat.le_trans e6 (f4 (cA e4.fits))⟩
inductive Cx:Nat->Nat->Type
 | top {h:Nat}:Cx h h
 | up {h H:Nat} (p:Nat) (A B:List Tx) (L R:List (Tr h)) (c:Cx (h+1) H):Cx h H
def plug:{h H:Nat}->Cx h H->Tr h->Tr H
 | _,_,.top,t=>t
 | _,_,.up p A B L R c,t=>plug c (bG p (A++B) (L++t::R))
def zQ:{h H:Nat}->Cx h H->Prop
 | _,_,.top=>True
 | _,_,.up _ A B L R c=>A.length=L.length/\B.length=R.length/\zQ c
def steps:{h H:Nat}->Cx h H->List (Nat×Nat)
 | _,_,.top=>[]
 | _,_,.up p _ _ L _ c=>steps c++[(p,L.length)]
def dO:{h H:Nat}->Cx h H->List It
 | _,_,.top=>[]
 | h,_,.up _ A _ L _ c=>dO c++fU A (L.map (sq h))
def bP:{h H:Nat}->Cx h H->List It
 | _,_,.top=>[]
 | h,_,.up _ _ B _ R c=>bU B (R.map (sq h))++bP c
theorem eh:∀ {h H:Nat} {c:Cx h H} {t:Tr h},zQ c->sq H (plug c t)=dO c++(sq h t++bP c)
 | _,_,.top,t,_=>by simp[plug,dO,bP]
 | h,H,.up p A B L R c,t,hw=>by
  simp only[plug,dO,bP]
  rw[eh hw.2.2,io hw.1]
  simp only[List.append_assoc]
def Lw:{h H:Nat}->Cx h H->List Nat
 | _,_,.top=>[]
 | h,_,.up p _ _ L _ c=>Lw c++(p::L.flatMap (bJ h))
def Lv:{h H:Nat}->Cx h H->List Nat
 | _,_,.top=>[]
 | h,_,.up _ _ _ _ R c=>R.flatMap (bJ h)++Lv c
theorem k9:∀ {h H:Nat} {c:Cx h H} {t:Tr h},bJ H (plug c t)=Lw c++(bJ h t++Lv c)
 | _,_,.top,t=>by simp[plug,Lw,Lv]
 | h,H,.up p A B L R c,t=>by
  simp only[plug,Lw,Lv]
  rw[k9,gD]
  simp only[List.append_assoc,List.cons_append]
theorem gm:∀ {h H:Nat} {c:Cx h H} {t:Tr h} {m:da},cD m H (plug c t)->cD m h t
 | _,_,.top,t,m,hr=>hr
 | h,H,.up p A B L R c,t,m,hr=>(bI.1 (gm (c:=c) hr)).2 t (by simp)
theorem rJ {c:Cx h H}{t:Tr h}(hn:(bJ H (plug c t)).Nodup):(bJ h t).Nodup:=by
 rw[k9,List.nodup_append,List.nodup_append]at hn
 exact hn.2.1.1
theorem gR.plug:∀ {h H:Nat} {c:Cx h H} {t t':Tr h} {m m':da},gR m m' t t'->zQ c->cD m H (plug c t)->(bJ H (plug c t)).Nodup->gR m m' (plug c t) (plug c t')
 | _,_,.top,t,t',m,m',v,_,_,_=>v
 | h,H,.up p A B L R c,t,t',m,m',v,hw,hr,hn=>gR.plug (c:=c) (v.kid hw.1 (gm (c:=c) hr) (rJ (c:=c) hn)) hw.2.2 hr hn
def I8:{h H:Nat}->Cx h H->Nat->Prop
 | _,_,.top,_=>True
 | h,_,.up p A B L R c,q=>aQ ⟨false,A++B,[],aV L++((q:Nat):Int)::aV R⟩=true/\(∀ s∈L++R,cQ h s)/\I8 c p
theorem lT:∀ {h H:Nat} {c:Cx h H} {t:Tr h},cQ H (plug c t)↔I8 c (no h t)/\cQ h t
 | _,_,.top,t=>by simp[plug,I8]
 | h,H,.up p A B L R c,t=>by
  simp only[plug,I8]
  rw[lT,Fs]
  have e:aV (L++t::R)=aV L++((no h t:Nat):Int)::aV R:=by simp[aV]
  rw[e]
  constructor
  ·rintro ⟨h1,h2,h3⟩
   exact⟨⟨h2,fun s hs=>h3 s (by simp only[List.mem_append,List.mem_cons]at hs ⊢;rcases hs with h|h <;> simp[h]),h1⟩,h3 t (by simp)⟩
  rintro ⟨⟨h2,h3,h1⟩,h4⟩
  refine⟨h1,h2,fun s hs=>?_⟩
  simp only[List.mem_append,List.mem_cons]at hs
  rcases hs with h|rfl|h
  ·exact h3 s (by simp[h])
  ·exact h4
  exact h3 s (by simp[h])
theorem eC.plug {c:Cx h H}{t:Tr h}(hw:zQ c)(hs:eC (sq H (plug c t))):eC (sq h t):=by
 rw[eh hw]at hs
 exact List.Pairwise.sublist ((List.sublist_append_left ..).trans (List.sublist_append_right ..)) hs
def bD(key:Tx)(ks:List Tx):Nat:=ag key ks+(if mQ key ks=true then 1 else 0)
theorem i5 {key:Tx}{ks:List Tx}:mQ key ks=true↔ks[ag key ks]?=some key:=by unfold mQ;exact decide_eq_true_iff
theorem vD {key:Tx}{ks:List Tx}:bD key ks<=ks.length:=by
 unfold bD
 split
 ·rename_i h
  have:=(List.getElem?_eq_some_iff.1 (i5.1 h)).1
  omega
 have:=gz key ks;omega
theorem pS {l key:Tx}{ks:List Tx}(hr:rise l ks=true):∀ k∈ks.take (bD key ks),qg k key=true:=fun k hk=>by
 obtain⟨i,hi⟩:=List.mem_iff_getElem?.1 hk
 rw[List.getElem?_take]at hi
 split at hi
 case isFalse=>cases hi
 rename_i hlt
 by_cases hb:i<ag key ks
 ·exact cT.2 (.inl (jQ hb hi))
 unfold bD at hlt
 split at hlt
 ·rename_i h
  have:i=ag key ks:=by omega
  rw[this,i5.1 h]at hi
  cases hi
  exact cT.2 (.inr rfl)
 omega
theorem z6 {l key:Tx}{ks:List Tx}(hr:rise l ks=true):∀ k∈ks.drop (bD key ks),aq key k=true:=fun k hk=>by
 obtain⟨i,hi⟩:=List.mem_iff_getElem?.1 hk
 rw[List.getElem?_drop]at hi
 have h1:=pJ (key:=key) hr hi
 unfold bD at hi h1
 split at hi
 ·rename_i h
  have hk:=i5.1 h
  exact dw hr hk hi (by omega)
 rename_i h
 rw[if_neg h]at h1
 rw[decide_eq_false (by omega)]at h1
 rcases cT.1 (qt.1 h1) with h2|h2
 ·exact h2
 exfalso
 -- the key stands there,but not as the first one that is not below
 subst h2
 rcases Nat.eq_zero_or_pos i with h0|h0
 ·subst h0
  exact h (i5.2 (by simpa using hi))
 have hb:ag key ks<ks.length:=by have:=(List.getElem?_eq_some_iff.1 hi).1;omega
 have h3:=dw hr (List.getElem?_eq_getElem hb) hi (by omega)
 have h4:=lH (List.getElem?_eq_getElem hb)
 rw[h3]at h4;cases h4
variable{L:RL}{r:Nat}
theorem yU {n:Nd}{key:Tx}(hX:∀ p,p∈X->p∈L)(hN:eZ X r n)(hs:Sm n)(hm:bW n=true) :
  CS Tryz.prog 169 [ptr r,bb key] L fun u L'=>u=.int .i64 (bD key n.ks:Nat)/\L'=L:=by
 obtain⟨v1,v2,v3,hr,hP⟩:=hN
 have N1:=hP.nv hs hX
 have m1:=hX _ hr
 have e1:=hs.k
 have hb:=gz key n.ks
 refine yF Tryz.f169 ?_
 refine yX 6 ?_
 refine yR (aa m1 rfl rfl rfl rfl) ?_
 refine yX 1 ?_
 refine yA yH (oK N1 (by omega)) ?_
 rintro u L' ⟨rfl,rfl⟩
 refine yX 1 ?_
 rw[show sQ n key=.tuple #[.int .i64 (ag key n.ks:Nat),.bool (mQ key n.ks)] by unfold sQ;rw[if_pos hm]]
 refine yX 9 ?_
 cases hi:mQ key n.ks with
 | true =>
  repeat refine xQ ?_
  refine xC rfl ?_ ?_ <;> intro hc
  ·refine yX 2 ?_
   refine yP (aW (n:=1) rfl rfl rfl (ak (by omega) (by omega))) ?_
   refine yX 3 ?_
   refine⟨?_,rfl⟩
   unfold bD
   rw[if_pos hi];rfl
  cases hc
 | false =>
  refine yX 7 ?_
  refine⟨?_,rfl⟩
  unfold bD
  rw[if_neg (by rw[hi];decide)];rfl
def Bn(key:Tx):It->Prop
 | .K k _=>aq k key=true
 | .S s=>qg s key=true
def zU(key:Tx):It->Prop
 | .K k _=>aq key k=true
 | .S s=>aq key s=true
theorem FI {a b c:Tx}(h:aq a b=true)(g:qg b c=true):aq a c=true:=by
 rcases cT.1 g with g|g
 ·exact lt_trans h g
 rw[←g];exact h
theorem BS {key:Tx}{A:List Tx}{L:List (List It)}{Z:List It}(hl:A.length=L.length)(hA:∀ k∈A,qg k key=true)(hs:eC (fU A L++Z)):∀ y∈fU A L,Bn key y:=by
 rcases List.eq_nil_or_concat A with rfl|⟨A,a,rfl⟩
 ·intro y hy
  cases L <;> simp[fU]at hy
 rcases List.eq_nil_or_concat L with rfl|⟨L,l,rfl⟩
 ·simp at hl
 rw[List.concat_eq_append]at *
 rw[List.concat_eq_append]at *
 have e:fU (A++[a]) (L++[l])=(fU A L++l)++[It.S a]:=by
  rw[rH (by simpa using hl)]
  simp[fU]
 rw[e]at hs ⊢
 have ha:=hA a (by simp)
 have h1:=(List.pairwise_append.1 (List.pairwise_append.1 hs).1).2.2
 intro y hy
 rcases List.mem_append.1 hy with hy|hy
 ·have:=h1 y hy (It.S a) (by simp)
  cases y with
  | K k v=>exact FI this ha
  | S s=>exact cT.2 (.inl (FI this ha))
 simp only[List.mem_singleton]at hy
 subst hy
 exact ha
theorem Fg {key:Tx}{B:List Tx}{R:List (List It)}{Z:List It}(hB:∀ k∈B,aq key k=true)(hs:eC (Z++bU B R)):∀ y∈bU B R,zU key y:=by
 intro y hy
 cases B with
 | nil=>cases R <;> simp[bU]at hy
 | cons b B =>
  cases R with
  | nil=>simp[bU]at hy
  | cons r R =>
   have hb:=hB b (by simp)
   have h1:=List.pairwise_cons.1 (List.pairwise_append.1 hs).2.1
   rcases List.mem_cons.1 hy with rfl|hy
   ·exact hb
   have:=h1.1 y hy
   cases y with
   | K k v=>exact (show aq key k=true by
     rcases cT.1 this with g|g
     ·exact lt_trans hb g
     rw[←g];exact hb)
   | S s=>exact lt_trans hb this
theorem fQ:∀ {h H:Nat} {c:Cx h H},(steps c).length+h=H
 | _,_,.top=>by simp[steps]
 | h,H,.up p A B L R c=>by
  have:=fQ (c:=c)
  simp only[steps,List.length_append,List.length_singleton]
  omega
theorem oe:∀ {h:Nat} {t:Tr h},cQ h t->h<(bJ h t).length
 | 0,t,_=>by obtain⟨p,ks,vs,rfl⟩:=br t;simp
 | h+1,t,hk=>by
  obtain⟨p,ks,ts,rfl⟩:=aO t
  have hl:=hk.len
  cases ts with
  | nil=>simp at hl
  | cons a ts =>
   have:=oe (hk.kid a (by simp))
   rw[bF]
   simp only[List.length_cons,List.flatMap_cons,List.length_append]
   omega
theorem nO {s:fD}{L:RL}(htr:TR c G X s L){H:Nat}{t:Tr H}(hr:cD s.m H t)(hn:(bJ H t).Nodup):(bJ H t).length<=c.N:=by
 have:=dY (A:=bJ H t) (B:=List.range c.N) hn fun q hq=>List.mem_range.2 (htr.dom q (hr.some q hq))
 simpa using this
def vM(l:List (Nat×Nat)):List Value:=l.flatMap fun p=>[.int .i64 (p.1:Nat),.int .i64 (p.2:Nat)]
theorem vL(a b:List (Nat×Nat)):vM (a++b)=vM a++vM b:=by simp[vM]
theorem BE:∀ st:List (Nat×Nat),(vM st).length=st.length*2
 | []=>rfl
 | x::l=>by
  have:=BE l
  simp only[vM,List.flatMap_cons,List.length_append,List.length_cons,List.length_nil]at this ⊢
  omega
set_option maxHeartbeats 4000000 in
theorem Eu {t:Tr H}{c:jt}{G X:RL}{s:fD}{rows:RL}{key:Tx}(htr:TR c G X s rows)(hw:eB s.m s.root t)(hok:H=0∨cQ H t)(hs:eC (sq H t)) :
  CS Tryz.prog 141 [ptr c.rt,bb key] rows fun v L'=>∃ (k:Cx 0 H) (l:Tr 0) (Y:RL),plug k l=t/\zQ k/\(∀ y∈dO k,Bn key y)/\(∀ y∈bP k,zU key y)/\L'=Y++rows/\GV 243 2 [] v ((steps k).length+1) (vM (steps k++[(no 0 l,0)])) Y:=by
 have hrt:=hw.rt
 have hpl:=nO htr hw.rep hw.nod
 have hhi:H<(bJ H t).length:=hok.elim (fun h=>by subst h;obtain⟨p,ks,vs,rfl⟩:=br t;simp) oe
 have hN32:=htr.N
 obtain⟨T,es,ck,ws,wk,g,rfl,hN,hp,hgm,hmr⟩:=htr.now
 have mrt:∀ Y:RL,(c.rt,bS c.rf c.rn c.rw s.root s.cnt c.root0 c.cnt0)∈Y++HD c.rf c.rb c.rt c.rn c.rw T s.root s.cnt c.root0 c.cnt0 es ck ws wk (G++X):=fun Y=>by simp
 have mmap:∀ Y:RL,(c.rn,aG.map es ck)∈Y++HD c.rf c.rb c.rt c.rn c.rw T s.root s.cnt c.root0 c.cnt0 es ck ws wk (G++X):=fun Y=>by simp
 have hXY:∀ (Y:RL) q,q∈X->q∈Y++HD c.rf c.rb c.rt c.rn c.rw T s.root s.cnt c.root0 c.cnt0 es ck ws wk (G++X):=fun Y q hq=>List.mem_append_right Y (htr.mem q hq)
 refine yF Tryz.f141 ?_
 refine yX 11 ?_
 refine yR (iz (aa (mrt []) rfl rfl rfl rfl) (congrArg (Value.int .i64) hrt)) ?_
 refine yX 3 ?_
 refine LS.loopJ [0,1,5,6] (fun z a' L'=>∃ (k:Cx z H) (u:Tr z) (Y:RL) (v:Value),plug k u=t/\zQ k/\(∀ y∈dO k,Bn key y)/\(∀ y∈bP k,zU key y)/\L'=Y++HD c.rf c.rb c.rt c.rn c.rw T s.root s.cnt c.root0 c.cnt0 es ck ws wk (G++X)/\GV 243 2 [] v (steps k).length (vM (steps k)) Y/\a'=[ptr c.rt,bb key,yC,yC,yC,v,.int .i64 (no z u:Nat),yC,yC,yC,yC,yC,yC,yC,yC,yC,yC,yC,yC,yC,yC,yC,yC,yC,yC,yC,yC,yC,yC,yC,yC,yC,yC,yC,yC,yC,yC,yC,yC,yC,yC,yC,yC,yC,yC,yC,yC,yC,yC,yC,yC,yC,yC,yC,yC,yC,yC]) (n:=H) rfl ⟨.top,t,[],.slice none 0 0,rfl,trivial,fun y hy=>(by cases hy),fun y hy=>(by cases hy),rfl,.inl ⟨rfl,rfl,rfl,rfl⟩,rfl⟩ ?_
 rintro z a' L' ⟨k,u,Y,v,hpu,hwf,hbef,haft,rfl,hv,rfl⟩
 have hru:cD s.m z u:=gm (c:=k) (by rw[hpu];exact hw.rep)
 have hsu:eC (sq z u):=eC.plug hwf (hpu▸hs)
 have hmu:=hru.top
 have su:=htr.sm _ _ hmu
 have hst:=fQ (c:=k)
 obtain⟨ra,hga,va1,va2,va3,hra,hPa⟩:=(hmr (no z u)).2 _ hmu
 have ega:(g (no z u)).getD (.pointer none)=ptr ra:=by rw[hga];rfl
 have ma:=hXY Y _ hra
 have Na:=hPa.nv su (hXY Y)
 cases z with
 | zero =>
  have hlf:(nd 0 u).leaf=true:=rfl
  rw[hlf]at ma
  refine yX 5 ?_
  refine yR (aa (mrt Y) rfl rfl rfl rfl) ?_
  refine yX 1 ?_
  refine yR (cb hgm (mmap Y) rfl rfl rfl rfl (fun _=>rfl) rfl) ?_
  rw[ega]
  refine yX 2 ?_
  refine yR (aa ma rfl rfl rfl rfl) ?_
  refine yX 3 ?_
  refine LS.exit ?_
  refine yX 4 ?_
  refine yN fun rz=>?_
  refine OS.turns rfl (bH [(rz,.cells 243 [.int .i64 (no 0 u:Nat),.int .i64 0])] (HD c.rf c.rb c.rt c.rn c.rw T s.root s.cnt c.root0 c.cnt0 es ck ws wk (G++X)) (e:=243) (sz:=2) (bts:=16) (m:=1) (new:=vM [(no 0 u,0)]) hv (SV.row (sz:=2) (n:=1) (List.mem_cons_self ..) rfl) rfl rfl rfl rfl (by omega) (by omega)) (fun w L₁ hR=>?_)
  obtain⟨Y',g',rfl⟩:=hR
  refine yX 1 ?_
  refine OS.sub (ar.sums2 ([(rz,.cells 243 [.int .i64 (no 0 u:Nat),.int .i64 0])]) (A:=Y'++HD c.rf c.rb c.rt c.rn c.rw T s.root s.cnt c.root0 c.cnt0 es ck ws wk (G++X)) (B:=Y'++([(rz,.cells 243 [.int .i64 (no 0 u:Nat),.int .i64 0])]++HD c.rf c.rb c.rt c.rn c.rw T s.root s.cnt c.root0 c.cnt0 es ck ws wk (G++X))) fun f=>by simp[HD,fm]<;>omega) ?_
  refine yX 3 ?_
  exact⟨k,u,Y',hpu,hwf,hbef,haft,rfl,by rw[vL];exact g'⟩
 | succ h =>
  have hok0:cQ H t:=hok.elim (fun h0=>by omega) id
  have hoku:cQ (h+1) u:=(lT.1 (hpu▸hok0)).2
  obtain⟨p,ks,ts,rfl⟩:=aO u
  have hlen:=hoku.len
  have hmay:=bn hoku.fits
  have hup:=vD (key:=key) (ks:=ks)
  have hrise:=(cI.1 hmay).1
  have ek:=su.k
  simp only[mN,jj]at ma Na hmay hrise ega ek
  have hi:bD key ks<ts.length:=by omega
  have hks:ks=ks.take (bD key ks)++ks.drop (bD key ks):=(List.take_append_drop _ _).symm
  have hts:ts=ts.take (bD key ks)++ts[bD key ks]::ts.drop (bD key ks+1):=by simp
  refine yX 5 ?_
  refine yR (aa (mrt Y) rfl rfl rfl rfl) ?_
  refine yX 1 ?_
  refine yR (cb hgm (mmap Y) rfl rfl rfl rfl (fun _=>rfl) rfl) ?_
  simp only[jj]
  rw[ega]
  refine yX 2 ?_
  refine yR (aa ma rfl rfl rfl rfl) ?_
  refine yV 2 ?_
  refine xC rfl ?_ ?_ <;> intro hc
  ·refine yX 7 ?_
   refine yR (aa (mrt Y) rfl rfl rfl rfl) ?_
   refine yX 1 ?_
   refine yR (cb hgm (mmap Y) rfl rfl rfl rfl (fun _=>rfl) rfl) ?_
   rw[ega]
   refine yX 1 ?_
   refine yA yH (yU (X:=X) (hXY Y) ⟨va1,va2,va3,hra,hPa⟩ su hmay) ?_
   rintro w L' ⟨rfl,rfl⟩
   refine yX 3 ?_
   simp only[mN]
   refine yX 5 ?_
   refine yN fun rz=>?_
   refine OS.turns rfl (bH [(rz,.cells 243 [.int .i64 (p:Nat),.int .i64 (bD key ks:Nat)])] (HD c.rf c.rb c.rt c.rn c.rw T s.root s.cnt c.root0 c.cnt0 es ck ws wk (G++X)) (e:=243) (sz:=2) (bts:=16) (m:=1) (new:=vM [(p,bD key ks)]) hv (SV.row (sz:=2) (n:=1) (List.mem_cons_self ..) rfl) rfl rfl rfl rfl (by omega) (by omega)) (fun w L₁ hR=>?_)
   obtain⟨Y',g',rfl⟩:=hR
   refine yX 1 ?_
   refine OS.sub (ar.sums2 ([(rz,.cells 243 [.int .i64 (p:Nat),.int .i64 (bD key ks:Nat)])]) (A:=Y'++HD c.rf c.rb c.rt c.rn c.rw T s.root s.cnt c.root0 c.cnt0 es ck ws wk (G++X)) (B:=Y'++([(rz,.cells 243 [.int .i64 (p:Nat),.int .i64 (bD key ks:Nat)])]++HD c.rf c.rb c.rt c.rn c.rw T s.root s.cnt c.root0 c.cnt0 es ck ws wk (G++X))) fun f=>by simp[HD,fm]<;>omega) ?_
   refine yX 2 ?_
   have ma':=hXY Y' _ hra
   have Na':=hPa.nv su (hXY Y')
   simp only[mN]at ma' Na'
   have hat:(bx (aV ts))[bD key ks]?=some (.int .i64 ((no h ts[bD key ks]:Nat):Int)):=by simp[bx,aV,hi]
   refine yX 5 ?_
   refine yR (aa (mrt Y') rfl rfl rfl rfl) ?_
   refine yX 1 ?_
   refine yR (cb hgm (mmap Y') rfl rfl rfl rfl (fun _=>rfl) rfl) ?_
   rw[ega]
   refine yX 2 ?_
   refine yR (aa ma' rfl rfl rfl rfl) ?_
   refine yX 1 ?_
   refine OS.at1 (j:=bD key ks) (Na'.z) (hat) rfl rfl rfl rfl rfl rfl (fun ra0 oa0 rowa0 csa0 ma0 ca0 ga0=>⟨_,rfl,?_⟩)
   refine yR (aa ma0 ca0 rfl rfl (ap rfl ga0)) ?_
   refine yX 2 ?_
   have hlt:(ks.take (bD key ks)).length=(ts.take (bD key ks)).length:=by rw[List.length_take,List.length_take];omega
   have hsq:sq (h+1) (bG p ks ts)=fU (ks.take (bD key ks)) ((ts.take (bD key ks)).map (sq h))++(sq h ts[bD key ks]++bU (ks.drop (bD key ks)) ((ts.drop (bD key ks+1)).map (sq h))):=by
    have:=io (p:=p) (A:=ks.take (bD key ks)) (B:=ks.drop (bD key ks)) (L:=ts.take (bD key ks)) (R:=ts.drop (bD key ks+1)) (u:=ts[bD key ks]) hlt
    rw[←hks,←hts]at this
    exact this
   rw[hsq]at hsu
   have hwf':zQ (Cx.up p (ks.take (bD key ks)) (ks.drop (bD key ks)) (ts.take (bD key ks)) (ts.drop (bD key ks+1)) k):=by
    simp only[zQ]
    exact⟨hlt,by rw[List.length_drop,List.length_drop];omega,hwf⟩
   refine⟨h,by omega,.up p (ks.take (bD key ks)) (ks.drop (bD key ks)) (ts.take (bD key ks)) (ts.drop (bD key ks+1)) k,ts[bD key ks],Y',w,?_,hwf',fun y hy=>?_,fun y hy=>?_,rfl,?_,rfl⟩
   ·show plug k (bG p (ks.take (bD key ks)++ks.drop (bD key ks)) (ts.take (bD key ks)++ts[bD key ks]::ts.drop (bD key ks+1)))=t
    rw[←hks,←hts];exact hpu
   ·rcases List.mem_append.1 hy with hy|hy
    ·exact hbef y hy
    exact BS (by rw[List.length_map];exact hlt) (pS hrise) hsu y hy
   ·rcases List.mem_append.1 hy with hy|hy
    ·rw[←List.append_assoc]at hsu
     exact Fg (z6 hrise) hsu y hy
    exact haft y hy
   have hlk:(ts.take (bD key ks)).length=bD key ks:=by rw[List.length_take];omega
   simp only[steps,List.length_append,List.length_singleton,hlk]
   rw[vL];exact g'
  cases hc
variable{Y:RL}{v:Value}
theorem pp {st:List (Nat×Nat)}{p q:Nat}(hv:GV 243 2 [] v (st.length+1) (vM (st++[(p,q)])) Y)(hY:∀ x,x∈Y->x∈L)(hn:st.length<=1000000) :
  CS Tryz.prog 144 [v] L fun u L'=>u=.int .i64 (p:Nat)/\L'=L:=by
 have hs:=hv.sv.mono hY
 refine yF Tryz.f144 ?_
 refine yX 6 ?_
 refine yP (az hs rfl rfl rfl rfl rfl) ?_
 refine yP (cW (dQ (n:=1) rfl rfl rfl (ak (by omega) (by omega))) (congrArg (Value.int .i64) (show ((st.length+1:Nat):Int)-1=((st.length:Nat):Int) by omega))) ?_
 refine OS.at (j:=st.length) hs (by omega) rfl rfl rfl rfl rfl rfl (fun r off row cs₀ h1 h2 h3 h4=>⟨_,rfl,?_⟩)
 refine yX 1 ?_
 have h5:=h3 0 (.int .i64 (p:Nat)) (by omega) (by
  rw[vL]
  have hl:=BE st
  rw[List.getElem?_append_right (by omega),hl]
  simp[vM])
 refine yR (aa h1 h2 rfl rfl (ap rfl h5)) ?_
 refine yX 3 ?_
 exact⟨rfl,rfl⟩
end Go.Proofs.YtoaojmobnbbnmaaGreat
section
namespace Go.Am
section
variable{P:Program}{o:Oper}{a:ah}{x y:Operand}{t z:TypeId}
variable{el:TypeId}{r n:Nat}
theorem K4 (ho:o.op=.binOp .eql t x y z)(hx:aX a x=some (.pointer (some ⟨r,0,none⟩)))(hy:aX a y=some (.pointer (some ⟨r,0,none⟩)))(ht:P.underlying t=some (.pointer el))(hz:aB P el=some n) :
  ∀ h,aI P a o h=some (.val (.bool true) h):=by
 intro h
 have hr:(Nat.beq r r&&Nat.beq 0 0)=true:=by simp
 have e:zS P 100 t (.pointer (some ⟨r,0,none⟩)) (.pointer (some ⟨r,0,none⟩))=some true:=by
  unfold zS
  simp only[ht,hz,hr]
 simp only[aI,ho,hx,hy,fN,iH,e,ret,if_true]
end
end Go.Am
namespace Go.Proofs.YtoaojmobnbbnmaaGreat
open Go.Am
variable{X L:RL}{e:TypeId}{sz n n':Nat}{v:Value}{cs cs':List Value}
theorem wl (hnd:(L.map (·.1)).Nodup)(hX:∀ p,p∈X->p∈L)(h:PL e sz X v n cs)(h':PL e sz X v n' cs'):cs=cs':=by
 rcases h with ⟨h1,h2,h3⟩|⟨r,off,cap,cs0,h1,h2,h3,_⟩
 ·rcases h' with ⟨g1,g2,g3⟩|⟨r,off,cap,cs0,g1,_⟩
  ·rw[h3,g3]
  rw[h1]at g1;cases g1
 rcases h' with ⟨g1,g2,g3⟩|⟨r',off',cap',cs0',g1,g2,g3,_⟩
 ·rw[h1]at g1;cases g1
 rw[h1]at g1
 simp only[Value.slice.injEq,Option.some.injEq,Addr.mk.injEq]at g1
 obtain⟨⟨rfl,rfl,_⟩,rfl,rfl⟩:=g1
 have:=BN hnd (hX _ h2) (hX _ g2)
 simp only[aG.cells.injEq,true_and]at this
 subst this
 rw[h3]at g3
 exact Option.some.inj g3
theorem EA {a b:List Tx}(h:tx a=tx b):a=b:=by
 induction a generalizing b with
 | nil=>cases b with
  | nil=>rfl
  | cons _ _=>simp[tx]at h
 | cons x l ih=>cases b with
  | nil=>simp[tx]at h
  | cons y m =>
   simp only[tx,List.map_cons,List.cons.injEq]at h
   have h1:x=y:=by
    have:=h.1
    simp only[bb,Value.string.injEq]at this
    cases this
    rfl
   rw[h1,ih h.2]
theorem Ft {a b:List Int}(h:bx a=bx b):a=b:=by
 induction a generalizing b with
 | nil=>cases b with
  | nil=>rfl
  | cons _ _=>simp[bx]at h
 | cons x l ih=>cases b with
  | nil=>simp[bx]at h
  | cons y m =>
   simp only[bx,List.map_cons,List.cons.injEq,Value.int.injEq,true_and]at h
   rw[h.1,ih h.2]
variable{r:Nat}
theorem Fx {n n':Nd}(hnd:(L.map (·.1)).Nodup)(hX:∀ p,p∈X->p∈L)(h:eZ X r n)(h':eZ X r n'):n=n':=by
 obtain⟨v1,v2,v3,h1,h2⟩:=h
 obtain⟨w1,w2,w3,g1,g2⟩:=h'
 have:=BN hnd (hX _ h1) (hX _ g1)
 simp only[aG.cells.injEq,List.cons.injEq,Value.bool.injEq,true_and,and_true]at this
 obtain⟨e0,rfl,rfl,rfl⟩:=this
 have e1:=EA (wl hnd hX h2.k g2.k)
 have e2:=EA (wl hnd hX h2.v g2.v)
 have e3:=Ft (wl hnd hX h2.z g2.z)
 obtain⟨a,b,c,d⟩:=n
 obtain⟨a',b',c',d'⟩:=n'
 simp only at e0 e1 e2 e3
 rw[e0,e1,e2,e3]
end Go.Proofs.YtoaojmobnbbnmaaGreat
end
namespace Go.Proofs.YtoaojmobnbbnmaaGreat
open Go.Am
variable{h:Nat}
theorem Gn {t:Tr h}(he:KG t):(aE (nd h t)).length<=256:=by
 have h1:=he.2.2
 rw[d8 (by rw[h1];simp),h1]
 have:=zh (nd h t)
 simp only[bi,List.length_nil]
 omega
theorem xV {t:Tr h}(hs:Jt t):(aE (nd h t)).length<=256:=by
 rcases hs with h|h
 ·exact Gn h
 exact h
theorem HH {l:List (Nat×Nat)}{j p k:Nat}(h:l[j]?=some (p,k)):(vM l)[j*2+0]?=some (.int .i64 (p:Nat))/\(vM l)[j*2+1]?=some (.int .i64 (k:Nat)):=by
 induction l generalizing j with
 | nil=>simp at h
 | cons x l ih =>
  cases j with
  | zero =>
   simp only[List.getElem?_cons_zero,Option.some.injEq]at h
   subst h
   simp[vM]
  | succ j =>
   simp only[List.getElem?_cons_succ]at h
   obtain⟨h1,h2⟩:=ih h
   have e:vM (x::l)=.int .i64 (x.1:Nat)::.int .i64 (x.2:Nat)::vM l:=rfl
   rw[e]
   refine⟨?_,?_⟩
   ·rw[show (j+1)*2+0=(j*2+0)+1+1 by omega,List.getElem?_cons_succ,List.getElem?_cons_succ];exact h1
   rw[show (j+1)*2+1=(j*2+1)+1+1 by omega,List.getElem?_cons_succ,List.getElem?_cons_succ];exact h2
def Lq(m':da)(root':Int)(cnt:Int)(l:List It):Prop :=
 (root'=-1/\(∀ q,m' q=none)/\dm l=[])∨∃ (H':Nat) (t':Tr H'),eB m' root' t'/\cQ H' t'/\SQ l (sq H' t')/\(((bJ H' t').length:Int)<=3*cnt∨(nl H' t'/\(nd H' t').kids.length≠1))
variable{X:RL}{m:da}
theorem zW {root:Int}{es:List MapEntry}{ck:Nat}{g:Nat->Option Value}(hg:MP es ck g)(hm:iK X g m){H:Nat}{t:Tr H}(hw:eB m root t):es.length=(bJ H t).length:=by
 refine hg.card hw.nod fun k=>?_
 constructor
 ·intro hk hgk
  have:=hw.rep.some k hk
  cases hmk:m k with
  | none=>exact this hmk
  | some n=>obtain⟨r,h1,_⟩:=(hm k).2 n hmk;rw[hgk]at h1;cases h1
 intro hgk
 by_cases hk:k∈bJ H t
 ·exact hk
 exact absurd ((hm k).1 (hw.out k hk)) hgk
variable{H:Nat}
set_option maxHeartbeats 8000000 in
theorem B7 {k0:Cx 0 H}{l0:Tr 0}{pl:Nat}{c:jt}{G X:RL}{s:fD}{rows:RL}{v:Value}(htr:TR c G X s rows)(hv:SV 2 G v ((steps k0).length+1) (vM (steps k0++[(pl,0)])))(hw:eB s.m s.root (plug k0 l0))(hok:I8 k0 (no 0 l0))(hwf:zQ k0)(hlz:Lz l0)(hs:eC (sq H (plug k0 l0)))
  (hbud:Jt l0∨(steps k0).length+2<=cq c.N s.m) (hcnt:0<=s.cnt) (hcnt2:s.cnt<=1000000000) (hsl:(steps k0).length<=100000) :
  CS Tryz.prog 148 [ptr c.rt,v] rows fun _ L'=>∃ X' m' root',(∀ q,q∈X->q∈X')/\TR c G X' ⟨m',root',s.cnt⟩ L'/\Lq m' root' s.cnt (sq H (plug k0 l0)):=by
 have hvr:=hv.mono htr.memG
 refine yF Tryz.f148 ?_
 refine yX 2 ?_
 refine yP (az hvr rfl rfl rfl rfl rfl) ?_
 refine yP (cW (dQ (n:=2) rfl rfl rfl (ak (by omega) (by omega))) (congrArg (Value.int .i64) (show (((steps k0).length+1:Nat):Int)-2=((steps k0).length:Int)-1 by omega))) ?_
 refine yV 2 ?_
 refine LS.mid [0] (fun a' L'=>∃ X' m' t',(∀ q,q∈X->q∈X')/\TR c G X' ⟨m',s.root,s.cnt⟩ L'/\eB m' s.root (H:=H) t'/\Lz t'/\eC (sq H t')/\SQ (sq H (plug k0 l0)) (sq H t')/\(256<(aE (nd H t')).length->2<=cq c.N m')/\a'=[ptr c.rt,yC,yC,yC,yC,yC,yC,yC,yC,yC,yC,yC,yC,yC,yC,yC,yC,yC,yC,yC,yC,yC,yC,yC,yC,yC,yC,yC,yC,yC,yC,yC,yC,yC,yC,yC,yC,yC,yC,yC,yC,yC,yC,yC,yC,yC,yC,yC,yC,yC,yC,yC,yC,yC,yC,yC,yC,yC,yC,yC,yC,yC,yC,yC,yC,yC]) ?_ ?_
 ·refine yX 1 ?_
  refine LS.loopJ [0,1,4] (fun z a' L'=>∃ (h:Nat) (k:Cx h H) (u:Tr h) (X':RL) (m':da),(∀ q,q∈X->q∈X')/\TR c G X' ⟨m',s.root,s.cnt⟩ L'/\eB m' s.root (plug k u)/\I8 k (no h u)/\zQ k/\Lz u/\eC (sq H (plug k u))/\SQ (sq H (plug k0 l0)) (sq H (plug k u))/\(∃ rest,steps k0=steps k++rest)/\(Jt u∨(steps k).length+2<=cq c.N m')/\z=(steps k).length/\a'=[ptr c.rt,v,yC,yC,.int .i64 ((steps k).length-1:Int),yC,yC,yC,yC,yC,yC,yC,yC,yC,yC,yC,yC,yC,yC,yC,yC,yC,yC,yC,yC,yC,yC,yC,yC,yC,yC,yC,yC,yC,yC,yC,yC,yC,yC,yC,yC,yC,yC,yC,yC,yC,yC,yC,yC,yC,yC,yC,yC,yC,yC,yC,yC,yC,yC,yC,yC,yC,yC,yC,yC,yC]) (n:=(steps k0).length) rfl ⟨0,k0,l0,X,s.m,fun _ hq=>hq,htr,hw,hok,hwf,hlz,hs,SQ.refl,⟨[],by simp⟩,hbud,rfl,rfl⟩ ?_
  rintro z a' L1 ⟨h,k,u,X1,m1,hX1,htr1,hw1,hok1,hwf1,hlz1,hs1,hsq1,⟨rest,hrest⟩,hbud1,rfl,rfl⟩
  cases k with
  | top =>
   have hb:av 0 (((steps (Cx.top:Cx H H)).length:Int)-1)=false:=rfl
   refine yX 2 ?_
   refine yI hb ?_
   refine yX 2 ?_
   refine LS.exit ?_
   refine⟨X1,m1,u,hX1,htr1,hw1,hlz1,hs1,hsq1,fun hbig=>?_,rfl⟩
   rcases hbud1 with hb1|hb1
   ·have:=xV hb1;omega
   simp[steps]at hb1;exact hb1
  | up p A B L R c1 =>
   have hst:(steps (Cx.up p A B L R c1)).length=(steps c1).length+1:=by simp[steps]
   have hle:(steps c1).length+1<=(steps k0).length:=by rw[hrest,List.length_append,hst];omega
   have hget:(steps k0++[(pl,0)])[(steps c1).length]?=some (p,L.length):=by rw[hrest];simp[steps]
   obtain⟨hg0,hg1⟩:=HH hget
   have hi:(((steps (Cx.up p A B L R c1)).length:Int)-1)=((steps c1).length:Nat):=by rw[hst];omega
   rw[hi]
   have hb:av 0 (((steps c1).length:Nat):Int)=true:=au.2 (by omega)
   have hrp:cD m1 (h+1) (bG p (A++B) (L++u::R)):=gm (c:=c1) hw1.rep
   have hnp:(bJ (h+1) (bG p (A++B) (L++u::R))).Nodup:=rJ (c:=c1) hw1.nod
   obtain⟨hf1,hsib,hok2⟩:=hok1
   obtain⟨hlA,hlB,hwf2⟩:=hwf1
   have hnosu:aV (L++u::R)=aV L++((no h u:Nat):Int)::aV R:=by simp[aV]
   rw[←hnosu]at hf1
   have hmp:m1 p=some ⟨false,A++B,[],aV (L++u::R)⟩:=hrp.top
   have hL120:L.length<=120:=by
    have:=(Bg.of hf1).keys
    simp only[List.length_append]at this
    omega
   have hfk:256<(aE (nd h u)).length->0<cq c.N m1:=fun hbig=>by
    rcases hbud1 with hb1|hb1
    ·have:=xV hb1;omega
    omega
   have htr10:=htr1
   have hv1:=hv.mono htr1.memG
   have hX1L:=htr1.mem
   have hGL:=htr1.memG
   obtain⟨T,es,ck,ws,wk,g,rfl,hN,hp,hgm,hmr⟩:=htr1.now
   obtain⟨r,hgr0,v1,v2,v3,hr1,hP⟩:=(hmr p).2 _ hmp
   have hgr:(g p).getD (.pointer none)=ptr r:=by rw[hgr0];rfl
   refine yX 2 ?_
   refine yI hb ?_
   refine yV 1 ?_
   refine xC rfl ?_ ?_ <;> intro hc
   ·refine yV 2 ?_
    refine LS.drawn noGo mixed [(0,false),(1,false),(2,false),(3,false),(4,false),(5,false),(6,false),(7,false),(8,false),(9,false),(10,false),(11,false)] rfl rfl (by kernel_rfl) ?_
    refine yX 4 ?_
    refine xE rfl rfl (aa (row:=bS c.rf c.rn c.rw s.root s.cnt c.root0 c.cnt0) (r:=c.rt) (by simp) rfl rfl rfl rfl) rfl ?_
    refine yX 2 ?_
    refine ba.at (j:=(steps c1).length) hv1 (by omega) rfl rfl rfl rfl rfl rfl rfl (fun ra oa rowa csa q1 q2 q3 q4=>⟨_,rfl,?_⟩)
    refine yX 1 ?_
    refine xE rfl rfl (aa q1 q2 rfl rfl (ap rfl (q3 0 _ (by omega) hg0))) rfl ?_
    refine xE rfl rfl (cb hgm (by simp) rfl rfl rfl rfl (fun _=>rfl) rfl) rfl ?_
    rw[hgr]
    refine yV 2 ?_
    refine LS.drawn noGo mixed [(0,false),(1,false),(2,false),(3,false),(4,false),(5,false),(6,false),(7,false),(8,false),(9,false),(10,false),(11,true)] rfl rfl (by kernel_rfl) ?_
    refine yX 3 ?_
    refine ba.at (j:=(steps c1).length) hv1 (by omega) rfl rfl rfl rfl rfl rfl rfl (fun ra oa rowa csa q1 q2 q3 q4=>⟨_,rfl,?_⟩)
    refine yX 1 ?_
    refine xE rfl rfl (aa q1 q2 rfl rfl (ap rfl (q3 0 _ (by omega) hg0))) rfl ?_
    refine yX 2 ?_
    refine ba.at (j:=(steps c1).length) hv1 (by omega) rfl rfl rfl rfl rfl rfl rfl (fun ra oa rowa csa q1 q2 q3 q4=>⟨_,rfl,?_⟩)
    refine yX 1 ?_
    refine xE rfl rfl (aa q1 q2 rfl rfl (ap rfl (q3 1 _ (by omega) hg1))) rfl ?_
    refine yO rfl yH (AF htr10 hlA hlB hrp hnp hf1 hsib (eC.plug (c:=c1) hwf2 hs1) hlz1 hfk) ?_
    rintro w L2 hmpost
    refine⟨_,rfl,(by repeat (first|exact ai.nil|refine ai.gone rfl ?_)),?_⟩
    refine yX 1 ?_
    obtain⟨X2,m2,ks2,ts2,e1,e2,e3,e4,e5,e6,e7⟩:=hmpost.lz
    simp only at e2 e3 e6 e7
    have hvp:=gR.plug (c:=c1) e3 hwf2 hw1.rep hw1.nod
    have hw2:=hw1.via hvp
    have hs2:eC (sq H (plug c1 (bG p ks2 ts2))):=hvp.sv.to hs1
    have hmp2:m2 p=some ⟨false,ks2,[],aV ts2⟩:=e3.rep.top
    have e20:=e2
    have hv2:=hv.mono e2.memG
    have hX2L:=e2.mem
    have hr2L:=hX2L _ (e1 _ hr1)
    obtain⟨T2,es2,ck2,ws2,wk2,g2,rfl,hN2,hp2,hgm2,hmr2⟩:=e2.now
    obtain⟨r2,hgr20,x1,x2,x3,hr2,hP2⟩:=(hmr2 p).2 _ hmp2
    have hgr2:(g2 p).getD (.pointer none)=ptr r2:=by rw[hgr20];rfl
    refine LS.nodup fun hnd=>?_
    repeat refine xQ ?_
    refine LS.drawn noGo mixed [(0,false),(1,false),(2,false),(3,false),(4,false),(5,false),(6,false),(7,false),(8,false),(9,false),(10,false),(11,false),(12,false)] rfl rfl (by kernel_rfl) ?_
    refine yX 4 ?_
    refine xE rfl rfl (aa (row:=bS c.rf c.rn c.rw s.root s.cnt c.root0 c.cnt0) (r:=c.rt) (by simp) rfl rfl rfl rfl) rfl ?_
    refine yX 2 ?_
    refine ba.at (j:=(steps c1).length) hv2 (by omega) rfl rfl rfl rfl rfl rfl rfl (fun ra oa rowa csa q1 q2 q3 q4=>⟨_,rfl,?_⟩)
    refine yX 1 ?_
    refine xE rfl rfl (aa q1 q2 rfl rfl (ap rfl (q3 0 _ (by omega) hg0))) rfl ?_
    refine xE rfl rfl (cb hgm2 (by simp) rfl rfl rfl rfl (fun _=>rfl) rfl) rfl ?_
    rw[hgr2]
    refine yX 1 ?_
    by_cases hrr:r2=r
    ·subst hrr
     have hnn:=Fx hnd hX2L ⟨v1,v2,v3,e1 _ hr1,hP.mono e1⟩ ⟨x1,x2,x3,hr2,hP2⟩
     have hokt:cQ (h+1) (bG p ks2 ts2):=⟨by rw[mN,←hnn];exact hf1,e5⟩
     refine yQ rfl (K4 rfl rfl rfl rfl rfl) ?_
     refine yV 1 ?_
     refine xC rfl ?_ ?_ <;> intro hc
     ·refine LS.exit ?_
      have hokw:cQ H (plug c1 (bG p ks2 ts2)):=lT.2 ⟨hok2,hokt⟩
      exact⟨X2,m2,_,fun q hq=>e1 q (hX1 q hq),e20,hw2,hokw.lz,hs2,hsq1.trans hvp.sv,fun hbig=>absurd (cA hokw.fits) (by omega),rfl⟩
     cases hc
    refine xE rfl rfl (K2 (n:=3) (.inl ⟨rfl,rfl⟩) rfl rfl rfl rfl rfl (hX2L _ hr2) hr2L hrr rfl rfl) rfl ?_
    refine yX 5 ?_
    refine yP (dQ (n:=1) rfl rfl rfl (ak (by omega) (by omega))) ?_
    refine yX 2 ?_
    refine⟨(steps c1).length,by rw[hst];omega,h+1,c1,bG p ks2 ts2,X2,m2,fun q hq=>e1 q (hX1 q hq),e20,hw2,hok2,hwf2,e4,hs2,hsq1.trans hvp.sv,⟨(p,L.length)::rest,by rw[hrest];simp[steps]⟩,?_,rfl,rfl⟩
    rcases hbud1 with hb1|hb1
    ·exact .inl (e7 hb1).2
    exact .inr (by rw[hst]at hb1;omega)
   cases hc
 rintro a' L1 ⟨X1,m1,t1,hX1,htr1,hw1,hlz1,hs1,hsq1,hbud1,rfl⟩
 refine yX 2 ?_
 refine yA yH (li htr1 hw1 hlz1 hbud1) ?_
 rintro w L2 ⟨X2,m2,root2,e1,e2,e3,_⟩
 simp only at e2
 refine yX 2 ?_
 have e20:=e2
 obtain⟨T2,es2,ck2,ws2,wk2,g2,rfl,hN2,hp2,hgm2,hmr2⟩:=e2.now
 have hes:es2.length<=32768:=by
  have:=hgm2.card (A:=(List.range T2.length).filter fun i=>(m2 i).isSome) (List.nodup_range.filter _) fun q=>by
   rw[List.mem_filter,List.mem_range]
   constructor
   ·rintro ⟨_,h1⟩ h2
    cases hm:m2 q with
    | none=>rw[hm]at h1;cases h1
    | some n=>obtain⟨r,h3,_⟩:=(hmr2 q).2 n hm;rw[h2]at h3;cases h3
   intro hq
   have:m2 q≠none:=fun hh=>hq ((hmr2 q).1 hh)
   exact⟨hp2.dom q this,by cases hm:m2 q with
    | none=>exact absurd hm this
    | some n=>rfl⟩
  rw[this]
  refine Nat.le_trans (List.length_filter_le ..) ?_
  rw[List.length_range]
  exact hp2.N
 have e3':tF (cQ H t1/\nl H t1) m2 root2 (sq H (plug k0 l0)):=e3.sq hsq1 id
 repeat refine xQ ?_
 refine LS.drawn noGo mixed [(0,false),(1,false),(2,false),(3,false),(4,false),(5,false),(6,false),(7,false),(8,false),(9,false),(10,false),(11,false),(12,false)] rfl rfl (by kernel_rfl) ?_
 refine yX 4 ?_
 refine xE rfl rfl (aa (row:=bS c.rf c.rn c.rw root2 s.cnt c.root0 c.cnt0) (r:=c.rt) (by simp) rfl rfl rfl rfl) rfl ?_
 refine xE rfl rfl (Ke (r:=c.rn) (es:=es2) (ck:=ck2) (by simp) rfl rfl rfl rfl rfl) rfl ?_
 refine yX 4 ?_
 refine xE rfl rfl (aa (row:=bS c.rf c.rn c.rw root2 s.cnt c.root0 c.cnt0) (r:=c.rt) (by simp) rfl rfl rfl rfl) rfl ?_
 refine yQ rfl (qa (m:=3) rfl rfl rfl (ak (by omega) (by omega))) ?_
 by_cases hbig:((es2.length:Nat):Int)<=3*s.cnt
 ·have hb:(!av ((es2.length:Nat):Int) (3*s.cnt))=false:=by rw[am,decide_eq_true hbig];rfl
  refine yQ rfl (lB yH (hb)) ?_
  refine yX 3 ?_
  refine⟨_,fun _ _=>rfl,X2,m2,root2,fun q hq=>e1 q (hX1 q hq),e20,?_⟩
  rcases e3' with h|⟨H',t',h1,h2,h3,h4,h5⟩
  ·exact .inl h
  refine .inr ⟨H',t',h1,h2,h3,.inl ?_⟩
  rw[←zW hgm2 hmr2 h1];exact hbig
 have hb:(!av ((es2.length:Nat):Int) (3*s.cnt))=true:=by rw[am,decide_eq_false hbig];rfl
 refine yQ rfl (lB yH (hb)) ?_
 refine yV 1 ?_
 refine xC rfl ?_ ?_ <;> intro hc
 ·rcases e3' with ⟨h1,h2,h3⟩|⟨H',t',h1,h2,h3,h4,h5⟩
  ·exfalso
   have:=hgm2.card (A:=[]) List.nodup_nil fun q=>by
    constructor
    ·intro hq;cases hq
    intro hq;exact absurd ((hmr2 q).1 (h2 q)) hq
   rw[this]at hbig
   simp at hbig
   omega
  refine yX 2 ?_
  refine yA yH (Bu e20 h1 h2) ?_
  rintro w L3 ⟨X3,m3,root3,f1,f2,f3,_⟩
  refine yX 2 ?_
  refine⟨_,fun _ _=>rfl,X3,m3,root3,fun q hq=>f1 q (e1 q (hX1 q hq)),f2,?_⟩
  rcases f3 with ⟨g1,g2,g3⟩|⟨H3,t3,g1,g2,g3,g4,g5⟩
  ·exact .inl ⟨g1,g2,by rw[h3.kv];exact g3⟩
  exact .inr ⟨H3,t3,g1,g2,h3.trans g3,.inr ⟨g5 trivial,g4⟩⟩
 cases hc
def JT(c:Nat):List Nat->Prop
 | a::b::l=>c<=a+b/\JT c (b::l)
 | _=>True
theorem nS {c a:Nat}{l:List Nat}(h:JT c (a::l)):JT c l:=by
 cases l with
 | nil=>trivial
 | cons b l=>exact h.2
theorem FC {c:Nat}:∀ {l:List Nat},(∀ (j a b:Nat),l[j]?=some a->l[j+1]?=some b->c<=a+b)->JT c l
 | [],_=>trivial
 | [a],_=>trivial
 | a::b::l,h=>⟨h 0 a b rfl rfl,FC (l:=b::l) fun j x y h1 h2=>h (j+1) x y (by simpa using h1) (by simpa using h2)⟩
theorem Jk:∀ {l:List Nat},(∀ x∈l,1<=x)->JT 3 l->4*l.length<=3*l.sum+1
 | [],_,_=>by simp
 | [a],h,_=>by have:=h a (by simp);simp;omega
 | a::b::l,h,hn=>by
  have:=Jk (l:=l) (fun x hx=>h x (by simp[hx])) (nS (nS hn))
  have h1:3<=a+b:=hn.1
  simp only[List.length_cons,List.sum_cons]
  omega
theorem EJ:∀ {l:List Nat},(∀ x∈l,1<=x)->JT 8 l->4*l.length<=l.sum+3
 | [],_,_=>by simp
 | [a],h,_=>by have:=h a (by simp);simp;omega
 | a::b::l,h,hn=>by
  have:=EJ (l:=l) (fun x hx=>h x (by simp[hx])) (nS (nS hn))
  have h1:8<=a+b:=hn.1
  simp only[List.length_cons,List.sum_cons]
  omega
theorem sj {k:Tx}{l:List It}:dm (It.S k::l)=dm l:=rfl
theorem yT:∀ {ks:List Tx} {ss:List (List It)},ks.length=ss.length->dm (bU ks ss)=(ss.map dm).flatten
 | [],[],_=>rfl
 | [],_::_,h=>by simp at h
 | _::_,[],h=>by simp at h
 | k::ks,s::ss,h=>by
  have:=yT (ks:=ks) (ss:=ss) (by simpa using h)
  simp only[bU,sj,cL,this,List.map_cons,List.flatten_cons]
variable{ks:List Tx}{ss:List (List It)}
theorem AM (h:ss.length=ks.length+1):dm (wv ks ss)=(ss.map dm).flatten:=by
 cases ss with
 | nil=>simp at h
 | cons s ss=>simp only[wv,cL,yT (ks:=ks) (ss:=ss) (by simpa using h.symm),List.map_cons,List.flatten_cons]
def El{h:Nat}(t:Tr h):Nat:=(dm (sq h t)).length
variable{p:Nat}
theorem BR {h:Nat}{ks:List Tx}{ts:List (Tr h)}(hl:ts.length=ks.length+1):El (bG p ks ts)=(ts.map El).sum:=by
 unfold El
 rw[qQ,AM (by rw[List.length_map];exact hl),List.length_flatten]
 congr 1
 simp[Function.comp_def,El]
theorem n0:∀ {ks vs:List Tx},dm (List.zipWith It.K ks vs)=ks.zip vs
 | [],_=>by simp[dm]
 | _::_,[]=>by simp[dm]
 | k::ks,v::vs=>by
  have:=n0 (ks:=ks) (vs:=vs)
  rw[List.zipWith_cons_cons,List.zip_cons_cons,←this];rfl
theorem Fe {vs:List Tx}(h:vs.length=ks.length):El (lf p ks vs)=ks.length:=by
 unfold El
 rw[il,n0,List.length_zip,h];omega
theorem qn {ts:List (Tr h)}:(bJ (h+1) (bG p ks ts)).length=(ts.map fun t=>(bJ h t).length).sum+1:=by
 rw[bF,List.length_cons,List.length_flatMap]
def wd:{h:Nat}->Tr h->Nat
 | 0,t=>(Lf.ks t).length
 | _+1,t=>(oJ.ts t).length
theorem EM {vs:List Tx}(hs:eC (List.zipWith It.K ks vs))(hl:vs.length=ks.length):ks.Pairwise fun a b=>aq a b=true:=by
 induction ks generalizing vs with
 | nil=>exact List.Pairwise.nil
 | cons k ks ih =>
  cases vs with
  | nil=>simp at hl
  | cons v vs =>
   have h:=List.pairwise_cons.1 (show List.Pairwise Jm (It.K k v::List.zipWith It.K ks vs) from hs)
   refine List.pairwise_cons.2 ⟨fun x hx=>?_,ih h.2 (by simpa using hl)⟩
   obtain⟨i,hi,rfl⟩:=List.getElem_of_mem hx
   have hl':vs.length=ks.length:=by simpa using hl
   have hm:It.K ks[i] vs[i]∈List.zipWith It.K ks vs:=by
    refine List.mem_iff_getElem?.2 ⟨i,?_⟩
    rw[List.getElem?_zipWith,List.getElem?_eq_getElem hi,List.getElem?_eq_getElem (show i<vs.length by omega)]
   exact h.1 _ hm
theorem rV {vs:List Tx}(hs:eC (List.zipWith It.K ks vs))(hl:vs.length=ks.length)(hk:∀ k∈ks,1<=k.length/\k.length<=32)(hv:∀ v∈vs,v.length<=64):bW ⟨true,ks,vs,[]⟩=true:=by
 refine cI.2 ⟨kW.2 ⟨EM hs hl,fun k hk'=>⟨?_,(hk k hk').2⟩⟩,.inl ⟨rfl,hl,rfl,hv⟩⟩
 have:=(hk k hk').1
 cases k with
 | nil=>simp at this
 | cons _ _=>rfl
theorem yZ:∀ {h:Nat} {a b:Tr h} {k:Tx},cQ h a->cQ h b->eC (sq h a++It.S k::sq h b)->1<=k.length/\k.length<=32->bW (bN (nd h a) k (nd h b))=true
 | 0,a,b,k,ha,hb,hs,hk=>by
  have h1:=(Ag (k:=k) ha hb).to hs
  obtain⟨p,ks,vs,rfl⟩:=br a
  obtain⟨p',ks',vs',rfl⟩:=br b
  have la:=ha.vs
  have lb:=hb.vs
  refine rV (ks:=ks++ks') (vs:=vs++vs') h1 (by simp[la,lb]) (fun x hx=>?_) (fun x hx=>?_)
  ·rcases List.mem_append.1 hx with hx|hx
   ·exact dE (bn ha.fits) x hx
   exact dE (bn hb.fits) x hx
  rcases List.mem_append.1 hx with hx|hx
  ·exact (de (bn ha.fits) rfl).2.2 x hx
  exact (de (bn hb.fits) rfl).2.2 x hx
 | h+1,a,b,k,ha,hb,hs,hk=>by
  have h1:=(Ag (k:=k) ha hb).to hs
  obtain⟨p,ks,ts,rfl⟩:=aO a
  obtain⟨p',ks',ts',rfl⟩:=aO b
  have la:=ha.len
  have lb:=hb.len
  have h2:=B8 (p:=p) (ks:=ks++k::ks') (ts:=ts++ts') h1 (by simp[la,lb];omega) (fun x hx=>?_) (fun x hx=>?_)
  ·rw[←wq];exact h2
  ·simp only[List.mem_append,List.mem_cons]at hx
   rcases hx with hx|rfl|hx
   ·exact dE (bn ha.fits) x hx
   ·exact hk
   exact dE (bn hb.fits) x hx
  have hz:∀ {q:Nat} {ks:List Tx} {ts:List (Tr h)},cQ (h+1) (bG q ks ts)->∀ x∈ts,no h x<=32768:=fun {q ks ts} hk x hx=>by
   have:=(cl (bn hk.fits) rfl).2.2 ((no h x:Nat):Int) (by
    show _∈aV ts
    exact List.mem_map.2 ⟨x,hx,rfl⟩)
   omega
  rcases List.mem_append.1 hx with hx|hx
  ·exact hz ha x hx
  exact hz hb x hx
theorem Id:∀ {h:Nat} {a b:Tr h} {k:Tx},cQ h a->cQ h b->eC (sq h a++It.S k::sq h b)->1<=k.length/\k.length<=32->aQ (bN (nd h a) k (nd h b))=false->(if h=0 then 3 else 8)<=wd a+wd b
 | 0,a,b,k,ha,hb,hs,hk,hf=>by
  have hm:=yZ ha hb hs hk
  obtain⟨p,ks,vs,rfl⟩:=br a
  obtain⟨p',ks',vs',rfl⟩:=br b
  by_cases hle:(ks++ks').length<=2
  ·have:=lP hm (.inl ⟨rfl,hle⟩)
   rw[this]at hf;cases hf
  show 3<=ks.length+ks'.length
  simp at hle;omega
 | h+1,a,b,k,ha,hb,hs,hk,hf=>by
  have hm:=yZ ha hb hs hk
  obtain⟨p,ks,ts,rfl⟩:=aO a
  obtain⟨p',ks',ts',rfl⟩:=aO b
  have la:=ha.len
  have lb:=hb.len
  have hks:(bN (nd (h+1) (bG p ks ts)) k (nd (h+1) (bG p' ks' ts'))).ks=(ks++[k])++ks':=rfl
  by_cases hle:((ks++[k])++ks').length<=6
  ·have:=lP hm (.inr ⟨rfl,by rw[hks];exact hle⟩)
   rw[this]at hf;cases hf
  show 8<=ts.length+ts'.length
  simp at hle;omega
theorem vH {ts:List (Tr h)}(hok:cQ (h+1) (bG p ks ts))(ht:nl (h+1) (bG p ks ts))(hs:eC (sq (h+1) (bG p ks ts))):JT (if h=0 then 3 else 8) (ts.map wd):=by
 refine FC fun j x y hx hy=>?_
 rw[List.getElem?_map]at hx hy
 have hj:j+1<ts.length:=by
  by_cases h1:j+1<ts.length
  ·exact h1
  rw[List.getElem?_eq_none (by omega)]at hy;cases hy
 obtain⟨A,k,B,L,a,b,R,rfl,rfl,hA,hL⟩:=EO hok.len hj
 subst hL
 have ha:(L++a::b::R)[L.length]?=some a:=by simp
 have hb:(L++a::b::R)[L.length+1]?=some b:=by simp
 rw[ha]at hx
 rw[hb]at hy
 cases hx
 cases hy
 have hf:=(gc.1 ht).1 (L.length:Nat)
 have hsq:=io (p:=p) (A:=A) (B:=k::B) (L:=L) (R:=b::R) (u:=a) hA
 rw[hsq]at hs
 have h2:eC (sq h a++It.S k::sq h b):=by
  refine List.Pairwise.sublist ?_ hs
  refine (List.Sublist.append_left ?_ (sq h a)).trans (List.sublist_append_right ..)
  show (It.S k::sq h b).Sublist (It.S k::(sq h b++bU B (R.map (sq h))))
  exact (List.sublist_append_left ..).cons_cons _
 exact Id (hok.kid a (by simp)) (hok.kid b (by simp)) h2 (dE (bn hok.fits) k (by simp)) (hf.get hA rfl)
theorem oN:∀ {h:Nat} {t:Tr h},cQ h t->1<=wd t
 | 0,t,hk=>by
  obtain⟨p,ks,vs,rfl⟩:=br t
  have:=(B3.1 hk).2
  exact List.length_pos_iff.2 this
 | h+1,t,hk=>by
  obtain⟨p,ks,ts,rfl⟩:=aO t
  have:=hk.len
  show 1<=ts.length
  omega
variable{α:Type}
theorem Bz {f g e:α->Nat}{a b:Nat}:∀ {l:List α},(∀ x∈l,g x+a*(e x-1)+2<=3*f x+b)->(l.map g).sum+a*(l.map fun x=>e x-1).sum+2*l.length<=3*(l.map f).sum+b*l.length
 | [],_=>by simp
 | x::l,h=>by
  have h1:=Bz (l:=l) fun y hy=>h y (List.mem_cons_of_mem _ hy)
  have h2:=h x (List.mem_cons_self ..)
  simp only[List.map_cons,List.sum_cons,List.length_cons,Nat.mul_add,Nat.mul_succ]at h1 ⊢
  omega
theorem pm {e:α->Nat}:∀ {l:List α},(∀ x∈l,1<=e x)->(l.map fun x=>e x-1).sum+l.length=(l.map e).sum
 | [],_=>rfl
 | x::l,h=>by
  have h1:=pm (l:=l) fun y hy=>h y (List.mem_cons_of_mem _ hy)
  have h2:=h x (List.mem_cons_self ..)
  simp only[List.map_cons,List.sum_cons,List.length_cons]
  omega
theorem qO:∀ l:List α,(l.map fun _=>1).sum=l.length
 | []=>rfl
 | _::l=>by rw[List.map_cons,List.sum_cons,qO l,List.length_cons];omega
theorem Cn:∀ {h:Nat} {t:Tr (h+1)},cQ (h+1) t->nl (h+1) t->eC (sq (h+1) t)->(bJ (h+1) t).length+(h+3)*(wd t-1)+2<=3*El t+(h+1)
 | 0,t,hok,ht,hs=>by
  obtain⟨p,ks,ts,rfl⟩:=aO t
  have hl:=hok.len
  have hn:=vH hok ht hs
  have hsum:=Jk (l:=ts.map wd) (fun x hx=>by
   obtain⟨u,hu,rfl⟩:=List.mem_map.1 hx
   exact oN (hok.kid u hu)) hn
  have h1:ts.map El=ts.map wd:=List.map_congr_left fun u hu=>by
   have:=hok.kid u hu
   obtain⟨q,ks',vs',rfl⟩:=br u
   exact Fe this.vs
  have h2:(ts.map fun t=>(bJ 0 t).length).sum=ts.length:=by
   have:ts.map (fun t=>(bJ 0 t).length)=ts.map fun _=>1:=rfl
   rw[this];exact qO ts
  rw[BR hl,h1,qn,h2]
  show _+3*(ts.length-1)+2<=_
  rw[List.length_map]at hsum
  omega
 | h+1,t,hok,ht,hs=>by
  obtain⟨p,ks,ts,rfl⟩:=aO t
  have hl:=hok.len
  have hn:=vH hok ht hs
  have hp:∀ x∈ts,1<=wd x:=fun x hx=>oN (hok.kid x hx)
  have hsum:=EJ (l:=ts.map wd) (fun x hx=>by
   obtain⟨u,hu,rfl⟩:=List.mem_map.1 hx
   exact hp u hu) hn
  have hm:=pm hp
  have hsr:∀ x∈ts,eC (sq (h+1) x):=fun x hx=>by
   obtain⟨j,hj,rfl⟩:=List.getElem_of_mem hx
   obtain⟨A,B,L,a,R,rfl,rfl,hA,hL⟩:=vO hl hj
   subst hL
   have e:(L++a::R)[L.length]=a:=by simp
   rw[e]
   rw[io hA]at hs
   exact List.Pairwise.sublist ((List.sublist_append_left ..).trans (List.sublist_append_right ..)) hs
  have hall:=Bz (f:=El) (g:=fun t=>(bJ (h+1) t).length) (e:=wd) (a:=h+3) (b:=h+1) (l:=ts) fun x hx=>Cn (hok.kid x hx) ((gc.1 ht).2 x hx) (hsr x hx)
  rw[BR hl,qn]
  rw[List.length_map]at hsum
  have hx:ts.length=(ts.length-1)+1:=by omega
  generalize hd:(ts.map fun x=>wd x-1).sum=d at hall hm
  generalize (ts.map fun t=>(bJ (h+1) t).length).sum=gs at hall ⊢
  generalize (ts.map El).sum=q at hall ⊢
  show gs+1+(h+1+3)*(ts.length-1)+2<=3*q+(h+1+1)
  generalize ts.length-1=x at hx ⊢
  rw[hx]at hall hm hsum
  have h3:(h+3)*(3*x)<=(h+3)*d:=Nat.mul_le_mul_left _ (by omega)
  have e1:(h+3)*(3*x)=3*(h*x)+9*x:=by rw[Nat.add_mul,Nat.mul_left_comm];omega
  have e2:(h+1)*(x+1)=h*x+x+h+1:=by rw[Nat.add_mul,Nat.mul_add];omega
  have e3:(h+1+3)*x=h*x+4*x:=by rw[Nat.add_assoc,Nat.add_mul]
  rw[e2]at hall
  rw[e3]
  rw[e1]at h3
  omega
theorem y9:∀ {h:Nat} {t:Tr (h+1)},cQ (h+1) t->nl (h+1) t->eC (sq (h+1) t)->3^h*(wd t-1)+1<=(bJ (h+1) t).length
 | 0,t,hok,ht,hs=>by
  obtain⟨p,ks,ts,rfl⟩:=aO t
  have h2:(ts.map fun t=>(bJ 0 t).length).sum=ts.length:=by
   have:ts.map (fun t=>(bJ 0 t).length)=ts.map fun _=>1:=rfl
   rw[this];exact qO ts
  rw[qn,h2]
  show 3^0*(ts.length-1)+1<=_
  simp
 | h+1,t,hok,ht,hs=>by
  obtain⟨p,ks,ts,rfl⟩:=aO t
  have hl:=hok.len
  have hn:=vH hok ht hs
  have hp:∀ x∈ts,1<=wd x:=fun x hx=>oN (hok.kid x hx)
  have hsum:=EJ (l:=ts.map wd) (fun x hx=>by
   obtain⟨u,hu,rfl⟩:=List.mem_map.1 hx
   exact hp u hu) hn
  have hm:=pm hp
  have hsr:∀ x∈ts,eC (sq (h+1) x):=fun x hx=>by
   obtain⟨j,hj,rfl⟩:=List.getElem_of_mem hx
   obtain⟨A,B,L,a,R,rfl,rfl,hA,hL⟩:=vO hl hj
   subst hL
   have e:(L++a::R)[L.length]=a:=by simp
   rw[e]
   rw[io hA]at hs
   exact List.Pairwise.sublist ((List.sublist_append_left ..).trans (List.sublist_append_right ..)) hs
  have hall:∀ (l:List (Tr (h+1))),(∀ x∈l,x∈ts)->3^h*(l.map fun x=>wd x-1).sum<=(l.map fun t=>(bJ (h+1) t).length).sum:=fun l=>by
   induction l with
   | nil=>intro _;simp
   | cons x l ih =>
    intro hx
    have h1:=ih fun y hy=>hx y (List.mem_cons_of_mem _ hy)
    have hxm:=hx x (List.mem_cons_self ..)
    have h2:=y9 (hok.kid x hxm) ((gc.1 ht).2 x hxm) (hsr x hxm)
    simp only[List.map_cons,List.sum_cons,Nat.mul_add]
    omega
  have h1:=hall ts fun _ hx=>hx
  rw[qn]
  rw[List.length_map]at hsum
  show 3^(h+1)*(ts.length-1)+1<=_
  have h3:3^h*(3*(ts.length-1))<=3^h*(ts.map fun x=>wd x-1).sum:=Nat.mul_le_mul_left _ (by omega)
  rw[Nat.pow_succ,Nat.mul_assoc]
  omega
theorem LL {t:Tr H}(hok:cQ H t)(ht:nl H t)(hs:eC (sq H t))(h1:(nd H t).kids.length≠1):(bJ H t).length<=3*El t:=by
 cases H with
 | zero =>
  obtain⟨p,ks,vs,rfl⟩:=br t
  have hp:=oN hok
  rw[Fe hok.vs]
  have:1<=ks.length:=hp
  simp;omega
 | succ h =>
  have hp:=oN hok
  have h2:=Cn hok ht hs
  obtain⟨p,ks,ts,rfl⟩:=aO t
  have hw:wd (bG p ks ts)=ts.length:=rfl
  simp[aV]at h1
  have h3:(h+3)*1<=(h+3)*(wd (bG p ks ts)-1):=Nat.mul_le_mul_left _ (by omega)
  omega
theorem low {t:Tr H}(hok:cQ H t)(ht:nl H t)(hs:eC (sq H t))(h1:(nd H t).kids.length≠1)(hN:(bJ H t).length<=32768):H<=10:=by
 cases H with
 | zero=>omega
 | succ h =>
  have hp:=oN hok
  have h2:=y9 hok ht hs
  obtain⟨p,ks,ts,rfl⟩:=aO t
  have hw:wd (bG p ks ts)=ts.length:=rfl
  simp[aV]at h1
  have h3:3^h*1<=3^h*(wd (bG p ks ts)-1):=Nat.mul_le_mul_left _ (by omega)
  by_cases hh:h<=9
  ·omega
  have h4:3^10<=3^h:=Nat.pow_le_pow_right (by omega) (by omega)
  have:(3:Nat)^10=59049:=rfl
  omega
abbrev Pr:=Tx×Tx
def mU(P:List Pr)(k:Tx):Option Tx:=(P.find? fun p=>decide (p.1=k)).map (·.2)
def gU(k v:Tx)(P:List Pr):List Pr:=P.filter (fun p=>aq p.1 k)++(k,v)::P.filter fun p=>aq k p.1
def kM(k:Tx)(P:List Pr):List Pr:=P.filter fun p=>!decide (p.1=k)
def tK(k:Tx)(A:List Pr):Prop:=∀ p∈A,aq p.1 k=true
def zP(k:Tx)(A:List Pr):Prop:=∀ p∈A,aq k p.1=true
theorem mr {a b:Tx}(h:aq a b=true):a≠b:=fun he=>by subst he;rw[j9]at h;cases h
theorem fH {a b:Tx}(h:aq a b=true):aq b a=false:=by
 cases hb:aq b a with
 | false=>rfl
 | true=>have:=lt_trans h hb;rw[j9]at this;cases this
section
variable{k v v0:Tx}{A B:List Pr}
theorem iy {p:Pr->Bool}{A:List Pr}(h:∀ x∈A,p x=true):A.filter p=A:=List.filter_eq_self.2 h
theorem ic {p:Pr->Bool}{A:List Pr}(h:∀ x∈A,p x=false):A.filter p=[]:=List.filter_eq_nil_iff.2 fun x hx=>by rw[h x hx];decide
theorem BP(hA:tK k A)(hB:zP k B):gU k v (A++B)=A++(k,v)::B:=by
 unfold gU
 rw[List.filter_append,List.filter_append,iy hA,ic (fun x hx=>fH (hB x hx)),ic (fun x hx=>fH (hA x hx)),iy hB]
 simp
theorem BO(hA:tK k A)(hB:zP k B):gU k v (A++(k,v0)::B)=A++(k,v)::B:=by
 unfold gU
 rw[List.filter_append,List.filter_append,iy hA,ic (fun x hx=>fH (hA x hx)),List.filter_cons_of_neg (by simp[j9]),List.filter_cons_of_neg (by simp[j9]),ic (fun x hx=>fH (hB x hx)),iy hB]
 simp
theorem Cv(hA:tK k A)(hB:zP k B):kM k (A++(k,v0)::B)=A++B:=by
 unfold kM
 rw[List.filter_append,iy (fun x hx=>by simp[mr (hA x hx)]),List.filter_cons_of_neg (by simp),iy (fun x hx=>by simp[(mr (hB x hx)).symm])]
theorem wO(hA:tK k A):mU (A++(k,v0)::B) k=some v0:=by
 unfold mU
 rw[List.find?_append,List.find?_eq_none.2 (fun x hx=>by simp[mr (hA x hx)])]
 simp
theorem Is(hA:tK k A)(hB:zP k B):mU (A++B) k=none:=by
 unfold mU
 rw[List.find?_append,List.find?_eq_none.2 (fun x hx=>by simp[mr (hA x hx)]),List.find?_eq_none.2 (fun x hx=>by simp[(mr (hB x hx)).symm])]
 rfl
end
theorem qw {l:List It}{p:Pr}(h:p∈dm l):It.K p.1 p.2∈l:=by
 obtain⟨x,hx,he⟩:=List.mem_filterMap.1 h
 cases x with
 | K a b=>cases he;exact hx
 | S a=>cases he
theorem Cg {k v:Tx}{l:List It}:dm (It.K k v::l)=(k,v)::dm l:=rfl
theorem jm {key:Tx}{l:List It}(h:∀ y∈l,Bn key y):tK key (dm l):=fun p hp=>h _ (qw hp)
theorem mO {key:Tx}{l:List It}(h:∀ y∈l,zU key y):zP key (dm l):=fun p hp=>h _ (qw hp)
theorem BF {key v:Tx}{A B:List It}(hs:eC (A++B))(hA:∀ y∈A,Bn key y)(hB:∀ y∈B,zU key y):eC (A++It.K key v::B):=by
 obtain⟨h1,h2,h3⟩:=List.pairwise_append.1 hs
 refine List.pairwise_append.2 ⟨h1,List.pairwise_cons.2 ⟨fun y hy=>?_,h2⟩,fun x hx y hy=>?_⟩
 ·have:=hB y hy
  cases y <;> exact this
 rcases List.mem_cons.1 hy with rfl|hy
 ·have:=hA x hx
  cases x <;> exact this
 exact h3 x hx y hy
theorem BG {x:It}{A B:List It}(hs:eC (A++x::B)):eC (A++B):=List.Pairwise.sublist ((List.sublist_cons_self ..).append_left A) hs
structure Ll(key:Tx)(ks vs:List Tx)(i:Nat):Prop where
 le:i<=ks.length
 bef:∀ y∈List.zipWith It.K (ks.take i) (vs.take i),Bn key y
 no:mQ key ks=false->∀ y∈List.zipWith It.K (ks.drop i) (vs.drop i),zU key y
 is:mQ key ks=true->i<ks.length/\(∃ v0,vs[i]?=some v0)/\ks[i]?=some key/\∀ y∈List.zipWith It.K (ks.drop (i+1)) (vs.drop (i+1)),zU key y
theorem nm {P:Tx->Prop}:∀ {ks vs:List Tx},(∀ k∈ks,P k)->∀ y∈List.zipWith It.K ks vs,∃ k v,y=It.K k v/\P k
 | [],_,_,y,hy=>by simp at hy
 | _::_,[],_,y,hy=>by simp at hy
 | k::ks,v::vs,h,y,hy=>by
  rw[List.zipWith_cons_cons]at hy
  rcases List.mem_cons.1 hy with rfl|hy
  ·exact⟨k,v,rfl,h k (List.mem_cons_self ..)⟩
  exact nm (fun k hk=>h k (List.mem_cons_of_mem _ hk)) y hy
theorem KV {key:Tx}{ks vs:List Tx}(hr:rise [] ks=true)(hl:vs.length=ks.length):Ll key ks vs (ag key ks):=by
 have hle:=gz key ks
 refine⟨hle,fun y hy=>?_,fun hi y hy=>?_,fun hi=>?_⟩
 ·obtain⟨k,v,rfl,hk⟩:=nm (P:=fun k=>aq k key=true) (fun k hk=>by
   obtain⟨j,hj,rfl⟩:=List.getElem_of_mem hk
   rw[List.length_take]at hj
   rw[List.getElem_take]
   exact jQ (ks:=ks) (i:=j) (by omega) (List.getElem?_eq_getElem (by omega))) y hy
  exact hk
 ·obtain⟨k,v,rfl,hk⟩:=nm (P:=fun k=>aq key k=true) (fun k hk=>by
   obtain⟨j,hj,rfl⟩:=List.getElem_of_mem hk
   rw[List.length_drop]at hj
   rw[List.getElem_drop]
   have h1:aq (ks[ag key ks+j]'(by omega)) key=false:=by
    rw[pJ hr (List.getElem?_eq_getElem (by omega)),decide_eq_false (by omega)]
   rcases nW (x:=key) (y:=ks[ag key ks+j]'(by omega)) with h|h|h
   ·exact h
   ·exfalso
    have h0:ks[ag key ks]?≠some key:=fun hh=>by rw[i5.2 hh]at hi;cases hi
    by_cases hj0:j=0
    ·subst hj0;exact h0 (by rw[List.getElem?_eq_getElem (by omega)];congr 1;exact h.symm)
    have h2:=dw hr (List.getElem?_eq_getElem (show ag key ks<ks.length by omega)) (List.getElem?_eq_getElem (show ag key ks+j<ks.length by omega)) (by omega)
    rw[←h]at h2
    have h3:=lH (key:=key) (List.getElem?_eq_getElem (show ag key ks<ks.length by omega))
    rw[h2]at h3;cases h3
   rw[h1]at h;cases h) y hy
  exact hk
 have h0:=i5.1 hi
 have hlt:ag key ks<ks.length:=by
  by_cases h:ag key ks<ks.length
  ·exact h
  rw[List.getElem?_eq_none (by omega)]at h0;cases h0
 refine⟨hlt,⟨_,List.getElem?_eq_getElem (by omega)⟩,h0,fun y hy=>?_⟩
 obtain⟨k,v,rfl,hk⟩:=nm (P:=fun k=>aq key k=true) (fun k hk=>by
  obtain⟨j,hj,rfl⟩:=List.getElem_of_mem hk
  rw[List.length_drop]at hj
  rw[List.getElem_drop]
  exact dw hr h0 (List.getElem?_eq_getElem (by omega)) (by omega)) y hy
 exact hk
section
variable{key v:Tx}{ks vs:List Tx}{i:Nat}
theorem ef(i:Nat):List.zipWith It.K ks vs=List.zipWith It.K (ks.take i) (vs.take i)++List.zipWith It.K (ks.drop i) (vs.drop i):=by
 rw[List.take_zipWith.symm,List.drop_zipWith.symm,List.take_append_drop]
theorem lL(hl:vs.length=ks.length){v0:Tx}(hk:ks[i]?=some key)(hv:vs[i]?=some v0):List.zipWith It.K (ks.drop i) (vs.drop i)=It.K key v0::List.zipWith It.K (ks.drop (i+1)) (vs.drop (i+1)):=by
 obtain⟨h1,rfl⟩:=List.getElem?_eq_some_iff.1 hk
 obtain⟨h2,rfl⟩:=List.getElem?_eq_some_iff.1 hv
 rw[List.drop_eq_getElem_cons h1,List.drop_eq_getElem_cons h2,List.zipWith_cons_cons]
theorem Bq(hl:vs.length=ks.length)(hi:i<=ks.length):List.zipWith It.K (ct ks i key) (ct vs i v)=List.zipWith It.K (ks.take i) (vs.take i)++It.K key v::List.zipWith It.K (ks.drop i) (vs.drop i):=by
 unfold ct
 rw[List.zipWith_append (by simp[hl]),List.zipWith_cons_cons]
theorem Bp(hl:vs.length=ks.length)(hk:ks[i]?=some key):List.zipWith It.K ks (vs.set i v)=List.zipWith It.K (ks.take i) (vs.take i)++It.K key v::List.zipWith It.K (ks.drop (i+1)) (vs.drop (i+1)):=by
 obtain⟨h1,rfl⟩:=List.getElem?_eq_some_iff.1 hk
 rw[ef (ks:=ks) (vs:=vs.set i v) i]
 congr 1
 ·rw[List.take_set_of_le (Nat.le_refl _)]
 rw[lL (v0:=v) (by rw[List.length_set];exact hl) hk (by rw[List.getElem?_set_self (by omega)]),List.drop_set_of_lt (by omega)]
theorem Ho(hl:vs.length=ks.length)(hi:i<ks.length):List.zipWith It.K (ks.eraseIdx i) (vs.eraseIdx i)=List.zipWith It.K (ks.take i) (vs.take i)++List.zipWith It.K (ks.drop (i+1)) (vs.drop (i+1)):=by
 rw[List.eraseIdx_eq_take_drop_succ,List.eraseIdx_eq_take_drop_succ,List.zipWith_append (by simp[hl])]
theorem Jw {bs:List Tx}{b:Tx}(hl:bs.length=ks.length)(hi:i<=ks.length):(bi (ct ks i key) (ct bs i b)).length=(bi ks bs).length+((tB key).length+b.length):=by
 unfold ct
 rw[jv (by simp[hl]),ju (ks:=ks) (bs:=bs) (q:=i) hl.symm]
 simp only[List.length_append,bi]
 omega
theorem Jv {bs:List Tx}{b:Tx}(hl:bs.length=ks.length)(hi:i<ks.length):(bi ks (bs.set i b)).length<=(bi ks bs).length+b.length:=by
 rw[ju (ks:=ks) (bs:=bs.set i b) (q:=i) (by rw[List.length_set];exact hl.symm),ju (ks:=ks) (bs:=bs) (q:=i) hl.symm,List.take_set_of_le (Nat.le_refl _)]
 have h2:i<bs.length:=by omega
 rw[List.drop_eq_getElem_cons hi,List.drop_eq_getElem_cons (l:=bs) h2,List.drop_eq_getElem_cons (l:=bs.set i b) (by rw[List.length_set];exact h2),List.drop_set_of_lt (by omega)]
 simp only[bi,List.length_append,List.getElem_set_self]
 omega
end
theorem FG {α β:Type}{f:α->β}{l:List α}{i:Nat}{x:α}:(ct l i x).map f=ct (l.map f) i (f x):=lq.symm
theorem nT {α:Type}{l:List α}{i:Nat}{x y:α}(h:y∈ct l i x):y=x∨y∈l:=by
 unfold ct at h
 rcases List.mem_append.1 h with h|h
 ·exact .inr (List.mem_of_mem_take h)
 rcases List.mem_cons.1 h with h|h
 ·exact .inl h
 exact .inr (List.mem_of_mem_drop h)
theorem yy {α:Type}{l:List α}{i:Nat}{x y:α}(h:y∈l.set i x):y=x∨y∈l:=by
 rcases List.mem_or_eq_of_mem_set h with h|h
 ·exact .inr h
 exact .inl h
theorem qv {vs:List Tx}(hf:aQ ⟨true,ks,vs,[]⟩=true):ks.length<=84:=by
 have:=FV (bn hf)
 have h2:=cA hf
 simp only at this
 omega
section
variable{h H:Nat}{c:Cx 0 H}{p:Nat}{key v:Tx}{ks vs:List Tx}
theorem oE(hs:eC (sq 0 (lf p ks vs)))(hf:aQ ⟨true,ks,vs,[]⟩=true):vs.length=ks.length/\Ll key ks vs (ag key ks):=by
 have hm:=bn hf
 exact⟨(de hm rfl).1,KV (lV hm) (de hm rfl).1⟩
theorem FO(hs:eC (sq H (plug c (lf p ks vs))))(hw:zQ c)(hbef:∀ y∈dO c,Bn key y)(haft:∀ y∈bP c,zU key y)(hf:aQ ⟨true,ks,vs,[]⟩=true)(hi:mQ key ks=false)(h1:1<=key.length)(h2:key.length<=32)(h3:v.length<=64) :
  eC (sq H (plug c (lf p (ct ks (ag key ks) key) (ct vs (ag key ks) v))))/\Lz (lf p (ct ks (ag key ks) key) (ct vs (ag key ks) v))/\dm (sq H (plug c (lf p (ct ks (ag key ks) key) (ct vs (ag key ks) v))))=gU key v (dm (sq H (plug c (lf p ks vs))))/\(gU key v (dm (sq H (plug c (lf p ks vs))))).length=(dm (sq H (plug c (lf p ks vs)))).length+1:=by
 have hm:=bn hf
 obtain⟨hl,ha⟩:=oE (key:=key) (p:=p) (eC.plug hw hs) hf
 have hb:=ha.bef
 have hn:=ha.no hi
 have hle:=ha.le
 have hz:=qv hf
 rw[eh hw,il,ef (ag key ks)]at hs
 rw[eh hw,eh hw,il,il,Bq hl hle,ef (ks:=ks) (vs:=vs) (ag key ks)]
 generalize hA:List.zipWith It.K (ks.take (ag key ks)) (vs.take (ag key ks))=A at hs hb ⊢
 generalize hB:List.zipWith It.K (ks.drop (ag key ks)) (vs.drop (ag key ks))=B at hs hn ⊢
 have hpA:∀ y∈dO c++A,Bn key y:=fun y hy=>by
  rcases List.mem_append.1 hy with hy|hy
  ·exact hbef y hy
  exact hb y hy
 have hpB:∀ y∈B++bP c,zU key y:=fun y hy=>by
  rcases List.mem_append.1 hy with hy|hy
  ·exact hn y hy
  exact haft y hy
 have e1:dO c++((A++It.K key v::B)++bP c)=(dO c++A)++It.K key v::(B++bP c):=by simp
 have e2:dO c++((A++B)++bP c)=(dO c++A)++(B++bP c):=by simp
 rw[e2]at hs ⊢
 rw[e1]
 have hsn:=BF (v:=v) hs hpA hpB
 refine⟨hsn,?_,?_,?_⟩
 ·have hlen:(ct ks (ag key ks) key).length=ks.length+1:=cy hle
  have hvl:(ct vs (ag key ks) v).length=vs.length+1:=cy (by omega)
  have hso:eC (List.zipWith It.K (ct ks (ag key ks) key) (ct vs (ag key ks) v)):=by
   rw[Bq hl hle,hA,hB]
   refine List.Pairwise.sublist ?_ hsn
   have:(A++It.K key v::B).Sublist ((dO c++(A++It.K key v::B))++bP c):=(List.sublist_append_right ..).trans (List.sublist_append_left ..)
   simp only[List.append_assoc,List.cons_append]at this ⊢;exact this
  have hmay:bW ⟨true,ct ks (ag key ks) key,ct vs (ag key ks) v,[]⟩=true:=rV hso (by rw[hlen,hvl,hl]) (fun k hk=>by
   rcases nT hk with rfl|hk
   ·exact⟨h1,h2⟩
   ·exact dE hm k hk) (fun x hx=>by
   rcases nT hx with rfl|hx
   ·exact h3
   exact (de hm rfl).2.2 x hx)
  have hbl:(aE ⟨true,ct ks (ag key ks) key,ct vs (ag key ks) v,[]⟩).length<=354:=by
   rw[d8 (by simp only[hlen];omega)]
   have h256:=cA hf
   rw[d8 (by simp only;omega)]at h256
   simp only[co,cC,if_true,List.length_nil,Nat.zero_add]at h256 ⊢
   rw[FG,Jw (by simp[hl]) hle]
   have:=gA (s:=key) (by omega)
   have:=gA (s:=v) (by omega)
   omega
  exact .inr ⟨⟨hmay,by show (aE _).length<=360;exact Nat.le_trans hbl (by decide)⟩,hbl,trivial,.inl (fun hh=>by
   have:ct ks (ag key ks) key=[]:=hh
   rw[this]at hlen;simp at hlen)⟩
 ·rw[cL (a:=dO c++A),cL (a:=dO c++A),Cg,BP (jm hpA) (mO hpB)]
 rw[cL,BP (jm hpA) (mO hpB)];simp;omega
theorem uF(hs:eC (sq H (plug c (lf p ks vs))))(hw:zQ c)(hbef:∀ y∈dO c,Bn key y)(haft:∀ y∈bP c,zU key y)(hf:aQ ⟨true,ks,vs,[]⟩=true)(hi:mQ key ks=false):mU (dm (sq H (plug c (lf p ks vs)))) key=none:=by
 obtain⟨hl,ha⟩:=oE (key:=key) (p:=p) (eC.plug hw hs) hf
 have hb:=ha.bef
 have hn:=ha.no hi
 rw[eh hw,il,ef (ks:=ks) (vs:=vs) (ag key ks)]
 generalize List.zipWith It.K (ks.take (ag key ks)) (vs.take (ag key ks))=A at hb ⊢
 generalize List.zipWith It.K (ks.drop (ag key ks)) (vs.drop (ag key ks))=B at hn ⊢
 have e2:dO c++((A++B)++bP c)=(dO c++A)++(B++bP c):=by simp
 rw[e2,cL]
 refine Is (jm fun y hy=>?_) (mO fun y hy=>?_)
 ·rcases List.mem_append.1 hy with hy|hy
  ·exact hbef y hy
  exact hb y hy
 rcases List.mem_append.1 hy with hy|hy
 ·exact hn y hy
 exact haft y hy
theorem Ij(hs:eC (sq H (plug c (lf p ks vs))))(hw:zQ c)(hbef:∀ y∈dO c,Bn key y)(haft:∀ y∈bP c,zU key y)(hf:aQ ⟨true,ks,vs,[]⟩=true)(hi:mQ key ks=true):∃ v0,vs[ag key ks]?=some v0/\mU (dm (sq H (plug c (lf p ks vs)))) key=some v0:=by
 obtain⟨hl,ha⟩:=oE (key:=key) (p:=p) (eC.plug hw hs) hf
 have hb:=ha.bef
 obtain⟨hlt,⟨v0,hv0⟩,hk0,hn⟩:=ha.is hi
 refine⟨v0,hv0,?_⟩
 rw[eh hw,il,ef (ks:=ks) (vs:=vs) (ag key ks),lL hl hk0 hv0]
 generalize List.zipWith It.K (ks.take (ag key ks)) (vs.take (ag key ks))=A at hb ⊢
 generalize List.zipWith It.K (ks.drop (ag key ks+1)) (vs.drop (ag key ks+1))=B at hn ⊢
 have e2:dO c++((A++It.K key v0::B)++bP c)=(dO c++A)++It.K key v0::(B++bP c):=by simp
 rw[e2,cL,show dm (It.K key v0::(B++bP c))=(key,v0)::dm (B++bP c) from rfl]
 refine wO (jm fun y hy=>?_)
 rcases List.mem_append.1 hy with hy|hy
 ·exact hbef y hy
 exact hb y hy
theorem FN(hs:eC (sq H (plug c (lf p ks vs))))(hw:zQ c)(hbef:∀ y∈dO c,Bn key y)(haft:∀ y∈bP c,zU key y)(hf:aQ ⟨true,ks,vs,[]⟩=true)(hi:mQ key ks=true)(h3:v.length<=64) :
  eC (sq H (plug c (lf p ks (vs.set (ag key ks) v))))/\Lz (lf p ks (vs.set (ag key ks) v))/\dm (sq H (plug c (lf p ks (vs.set (ag key ks) v))))=gU key v (dm (sq H (plug c (lf p ks vs))))/\(∃ v0,vs[ag key ks]?=some v0/\mU (dm (sq H (plug c (lf p ks vs)))) key=some v0)/\(gU key v (dm (sq H (plug c (lf p ks vs))))).length=(dm (sq H (plug c (lf p ks vs)))).length:=by
 have hm:=bn hf
 obtain⟨hl,ha⟩:=oE (key:=key) (p:=p) (eC.plug hw hs) hf
 have hb:=ha.bef
 obtain⟨hlt,⟨v0,hv0⟩,hk0,hn⟩:=ha.is hi
 have hz:=qv hf
 rw[eh hw,il,ef (ag key ks),lL hl hk0 hv0]at hs
 rw[eh hw,eh hw,il,il,Bp hl hk0,ef (ks:=ks) (vs:=vs) (ag key ks),lL hl hk0 hv0]
 generalize hA:List.zipWith It.K (ks.take (ag key ks)) (vs.take (ag key ks))=A at hs hb ⊢
 generalize hB:List.zipWith It.K (ks.drop (ag key ks+1)) (vs.drop (ag key ks+1))=B at hs hn ⊢
 have hpA:∀ y∈dO c++A,Bn key y:=fun y hy=>by
  rcases List.mem_append.1 hy with hy|hy
  ·exact hbef y hy
  exact hb y hy
 have hpB:∀ y∈B++bP c,zU key y:=fun y hy=>by
  rcases List.mem_append.1 hy with hy|hy
  ·exact hn y hy
  exact haft y hy
 have e1:∀ v:Tx,dO c++((A++It.K key v::B)++bP c)=(dO c++A)++It.K key v::(B++bP c):=fun v=>by simp
 rw[e1]at hs
 rw[e1,e1]
 have hsn:=BF (v:=v) (BG hs) hpA hpB
 refine⟨hsn,?_,?_,⟨v0,hv0,?_⟩,?_⟩
 ·have hso:eC (List.zipWith It.K ks (vs.set (ag key ks) v)):=by
   rw[Bp hl hk0,hA,hB]
   refine List.Pairwise.sublist ?_ hsn
   have:(A++It.K key v::B).Sublist ((dO c++(A++It.K key v::B))++bP c):=(List.sublist_append_right ..).trans (List.sublist_append_left ..)
   simp only[List.append_assoc,List.cons_append]at this ⊢;exact this
  have hmay:bW ⟨true,ks,vs.set (ag key ks) v,[]⟩=true:=rV hso (by rw[List.length_set,hl]) (fun k hk=>dE hm k hk) (fun x hx=>by
   rcases yy hx with rfl|hx
   ·exact h3
   exact (de hm rfl).2.2 x hx)
  have hbl:(aE ⟨true,ks,vs.set (ag key ks) v,[]⟩).length<=354:=by
   rw[d8 (by simp only;omega)]
   have h256:=cA hf
   rw[d8 (by simp only;omega)]at h256
   simp only[co,cC,if_true,List.length_nil,Nat.zero_add]at h256 ⊢
   rw[List.map_set]
   have:=Jv (ks:=ks) (bs:=vs.map tB) (b:=tB v) (by simp[hl]) hlt
   have:=gA (s:=v) (by omega)
   omega
  exact .inr ⟨⟨hmay,by show (aE _).length<=360;exact Nat.le_trans hbl (by decide)⟩,hbl,trivial,.inl (fun hh=>by
   have:ks=[]:=hh
   subst this;simp at hlt)⟩
 ·rw[cL (a:=dO c++A),cL (a:=dO c++A),Cg,Cg,BO (jm hpA) (mO hpB)]
 ·rw[cL,show dm (It.K key v0::(B++bP c))=(key,v0)::dm (B++bP c) from rfl];exact wO (jm hpA)
 rw[cL,show dm (It.K key v0::(B++bP c))=(key,v0)::dm (B++bP c) from rfl,BO (jm hpA) (mO hpB)];simp
theorem FP(hs:eC (sq H (plug c (lf p ks vs))))(hw:zQ c)(hbef:∀ y∈dO c,Bn key y)(haft:∀ y∈bP c,zU key y)(hf:aQ ⟨true,ks,vs,[]⟩=true)(hi:mQ key ks=true) :
  eC (sq H (plug c (lf p (ks.eraseIdx (ag key ks)) (vs.eraseIdx (ag key ks)))))/\Lz (lf p (ks.eraseIdx (ag key ks)) (vs.eraseIdx (ag key ks)))/\Jt (lf p (ks.eraseIdx (ag key ks)) (vs.eraseIdx (ag key ks)))/\dm (sq H (plug c (lf p (ks.eraseIdx (ag key ks)) (vs.eraseIdx (ag key ks)))))=kM key (dm (sq H (plug c (lf p ks vs))))/\(∃ v0,vs[ag key ks]?=some v0/\mU (dm (sq H (plug c (lf p ks vs)))) key=some v0)/\(kM key (dm (sq H (plug c (lf p ks vs))))).length+1=(dm (sq H (plug c (lf p ks vs)))).length:=by
 have hm:=bn hf
 obtain⟨hl,ha⟩:=oE (key:=key) (p:=p) (eC.plug hw hs) hf
 have hb:=ha.bef
 obtain⟨hlt,⟨v0,hv0⟩,hk0,hn⟩:=ha.is hi
 have hz:=qv hf
 rw[eh hw,il,ef (ag key ks),lL hl hk0 hv0]at hs
 rw[eh hw,eh hw,il,il,Ho hl hlt,ef (ks:=ks) (vs:=vs) (ag key ks),lL hl hk0 hv0]
 generalize hA:List.zipWith It.K (ks.take (ag key ks)) (vs.take (ag key ks))=A at hs hb ⊢
 generalize hB:List.zipWith It.K (ks.drop (ag key ks+1)) (vs.drop (ag key ks+1))=B at hs hn ⊢
 have hpA:∀ y∈dO c++A,Bn key y:=fun y hy=>by
  rcases List.mem_append.1 hy with hy|hy
  ·exact hbef y hy
  exact hb y hy
 have hpB:∀ y∈B++bP c,zU key y:=fun y hy=>by
  rcases List.mem_append.1 hy with hy|hy
  ·exact hn y hy
  exact haft y hy
 have e1:∀ v:Tx,dO c++((A++It.K key v::B)++bP c)=(dO c++A)++It.K key v::(B++bP c):=fun v=>by simp
 have e2:dO c++((A++B)++bP c)=(dO c++A)++(B++bP c):=by simp
 rw[e1]at hs
 rw[e1,e2]
 have hL:=j0 (n:=⟨true,ks,vs,[]⟩) (i:=ag key ks) hlt (Bg.of hf)
 have hL2:=cA hf
 have hw:db ⟨true,ks,vs,[]⟩ (ag key ks)=nd 0 (lf p (ks.eraseIdx (ag key ks)) (vs.eraseIdx (ag key ks))):=rfl
 rw[hw]at hL
 refine⟨BG hs,?_,.inr (by omega),?_,⟨v0,hv0,?_⟩,?_⟩
 ·by_cases he:ks.eraseIdx (ag key ks)=[]
  ·refine .inl ⟨?_,rfl,he⟩
   show vs.eraseIdx (ag key ks)=[]
   have h1:(ks.eraseIdx (ag key ks)).length=0:=by rw[he];rfl
   rw[List.length_eraseIdx,if_pos hlt]at h1
   refine List.eq_nil_of_length_eq_zero ?_
   rw[List.length_eraseIdx,if_pos (by omega)];omega
  exact .inr ⟨hL.1,by omega,trivial,.inl he⟩
 ·rw[cL (a:=dO c++A),cL (a:=dO c++A),Cg,Cv (jm hpA) (mO hpB)]
 ·rw[cL,show dm (It.K key v0::(B++bP c))=(key,v0)::dm (B++bP c) from rfl];exact wO (jm hpA)
 rw[cL,show dm (It.K key v0::(B++bP c))=(key,v0)::dm (B++bP c) from rfl,Cv (jm hpA) (mO hpB)];simp;omega
end
def mT(P:List Pr)(key:Tx):Value:=match mU P key with
 | some v=>.tuple #[bb v,.bool true]
 | none=>.tuple #[bb [],.bool false]
theorem lZ {n:Nd}{key:Tx}(h:bW n=true):sQ n key=.tuple #[.int .i64 (ag key n.ks:Nat),.bool (mQ key n.ks)]:=by unfold sQ;rw[if_pos h]
set_option maxHeartbeats 1000000 in
theorem J4 {t:Tr H}{c:jt}{G X:RL}{s:fD}{rows:RL}{key:Tx}(htr:TR c G X s rows)(hw:eB s.m s.root t)(hok:cQ H t)(hs:eC (sq H t)) :
  CS Tryz.prog 111 [ptr c.rt,bb key] rows fun u L'=>u=mT (dm (sq H t)) key/\L'=rows:=by
 suffices g:CS Tryz.prog 111 [ptr c.rt,bb key] rows fun u L'=>u=mT (dm (sq H t)) key/\∃ Y,L'=Y++rows by
  refine g.less ?_
  rintro u L' ⟨rfl,Y,rfl⟩
  exact⟨rows,ar.suffix,rfl,rfl⟩
 have hN32:=htr.N
 have hpl:=nO htr hw.rep hw.nod
 have hhi:=oe hok
 obtain⟨T,es,ck,ws,wk,g,rfl,hN,hp,hgm,hmr⟩:=htr.now
 have mrt:∀ Y:RL,(c.rt,bS c.rf c.rn c.rw s.root s.cnt c.root0 c.cnt0)∈Y++HD c.rf c.rb c.rt c.rn c.rw T s.root s.cnt c.root0 c.cnt0 es ck ws wk (G++X):=fun Y=>by simp
 have mmap:∀ Y:RL,(c.rn,aG.map es ck)∈Y++HD c.rf c.rb c.rt c.rn c.rw T s.root s.cnt c.root0 c.cnt0 es ck ws wk (G++X):=fun Y=>by simp
 have hXY:∀ (Y:RL) q,q∈X->q∈Y++HD c.rf c.rb c.rt c.rn c.rw T s.root s.cnt c.root0 c.cnt0 es ck ws wk (G++X):=fun Y q hq=>List.mem_append_right Y (htr.mem q hq)
 refine yF Tryz.f111 ?_
 refine yV 4 ?_
 refine LS.drawn noGo mixed [(0,false),(1,false),(2,false),(3,false),(4,false),(5,false),(6,false),(7,true),(8,true),(9,false),(10,false)] rfl rfl (by kernel_rfl) ?_
 refine yX 4 ?_
 refine xE rfl rfl (aa (mrt []) rfl rfl rfl rfl) rfl ?_
 refine yX 2 ?_
 refine yO rfl yH (Eu htr hw (.inr hok) hs) ?_
 rintro v L' ⟨k,l,Y,hpu,hwf,hbef,haft,rfl,hv⟩
 refine⟨_,rfl,(by repeat (first|exact ai.nil|refine ai.gone rfl ?_|refine ai.cons rfl (aa (mrt Y) rfl rfl rfl rfl) ?_)),?_⟩
 have hst:=fQ (c:=k)
 refine yO rfl yH (pp hv (fun x hx=>List.mem_append_left _ hx) (by omega)) ?_
 rintro u L' ⟨rfl,rfl⟩
 refine⟨_,rfl,(by repeat (first|exact ai.nil|refine ai.gone rfl ?_|refine ai.cons rfl (aa (mrt Y) rfl rfl rfl rfl) ?_)),?_⟩
 subst hpu
 obtain⟨p,ks,vs,rfl⟩:=br l
 have hml:=(gm (c:=k) hw.rep).top
 have sl:=htr.sm _ _ hml
 have hfl:=((lT (c:=k)).1 hok).2.1
 obtain⟨ra,hga,va1,va2,va3,hra,hPa⟩:=(hmr p).2 _ hml
 have ega:(g p).getD (.pointer none)=ptr ra:=by rw[hga];rfl
 have ma:=hXY Y _ hra
 have Na:=hPa.nv sl (hXY Y)
 have slk:=sl.k
 simp only[B6,mp]at ma Na hfl slk
 refine xE rfl rfl (cb hgm (mmap Y) rfl rfl rfl rfl (fun _=>rfl) rfl) rfl ?_
 simp only[mp]
 rw[ega]
 refine yX 5 ?_
 refine yR (aa ma rfl rfl rfl rfl) ?_
 refine yX 1 ?_
 refine yA yH (oK Na (by simp only;omega)) ?_
 rintro u L' ⟨rfl,rfl⟩
 refine yX 1 ?_
 rw[lZ (bn hfl)]
 simp only
 refine yX 10 ?_
 cases hi:mQ key ks with
 | false =>
  repeat refine xQ ?_
  refine xC rfl ?_ ?_ <;> intro hc
  ·refine yX 5 ?_
   refine⟨?_,Y,rfl⟩
   unfold mT
   rw[uF hs hwf hbef haft hfl hi];rfl
  cases hc
 | true =>
  obtain⟨v0,hv0,hg0⟩:=Ij hs hwf hbef haft hfl hi
  have hat:(tx vs)[ag key ks]?=some (bb v0):=by simp[tx,hv0]
  refine yX 6 ?_
  refine yR (aa ma rfl rfl rfl rfl) ?_
  refine yX 1 ?_
  refine OS.at1 (j:=ag key ks) (Na.v) (hat) rfl rfl rfl rfl rfl rfl (fun ra0 oa0 rowa0 csa0 ma0 ca0 ga0=>⟨_,rfl,?_⟩)
  refine yR (aa ma0 ca0 rfl rfl (ap rfl ga0)) ?_
  refine yX 4 ?_
  refine⟨?_,Y,rfl⟩
  unfold mT
  rw[hg0];rfl
def tX(key val:Tx)(ks vs:List Tx):Nd:=if mQ key ks=true then ⟨true,ks,vs.set (ag key ks) val,[]⟩ else ⟨true,ct ks (ag key ks) key,ct vs (ag key ks) val,[]⟩
theorem JB {l:List Tx}{i:Nat}{x:Tx}:(tx l).set i (bb x)=tx (l.set i x):=by simp[tx]
variable{c:jt}{G:RL}
set_option maxHeartbeats 4000000 in
theorem HY {root cnt:Int}{r3 r4 r5:Nat}{key val:Tx}{ks vs:List Tx}(h3:(r3,eH c.rt)∈G)(h4:(r4,di key)∈G)(h5:(r5,di val)∈G)(hs:Sm ⟨true,ks,vs,[]⟩)(hm:bW ⟨true,ks,vs,[]⟩=true)(hc0:0<=cnt)(hc1:cnt<=1000000000) :
  KM c G X root cnt (if mQ key ks=true then cnt else cnt+1) 145 [ptr r4,ptr r5,ptr r3] ⟨true,ks,vs,[]⟩ (tX key val ks vs):=by
 intro rc w1 w2 w3 Y1 Y2 Y3 T es ck ws wk g1 g2 g3
 have e1:=hs.k;have e2:=hs.v;have e3:=hs.kl;have e4:=hs.vl
 have hl:=(de hm rfl).1
 have hle:=gz key ks
 simp only at g1 g2 g3 e1 e2 e3 e4 hl ⊢
 have mG:∀ (p:Nat×aG),p∈G->p∈(rc,an true w1 w2 w3)::HD c.rf c.rb c.rt c.rn c.rw T root cnt c.root0 c.cnt0 es ck ws wk (Y3++(Y2++(Y1++(G++X)))):=fun p hp=>by simp[hp]
 have N0:NV ((rc,an true w1 w2 w3)::HD c.rf c.rb c.rt c.rn c.rw T root cnt c.root0 c.cnt0 es ck ws wk (Y3++(Y2++(Y1++(G++X))))) ⟨true,ks,vs,[]⟩ w1 w2 w3:=⟨g1.sv.mono (fun p hp=>by simp[hp]),g2.sv.mono (fun p hp=>by simp[hp]),g3.sv.mono (fun p hp=>by simp[hp]),by simp only;omega,by simp only;omega,by simp,fun k hk=>by have:=e3 k hk;omega,fun k hk=>by have:=e4 k hk;omega⟩
 refine yF Tryz.f145 ?_
 repeat refine xQ ?_
 refine LS.drawn noGo mixed [(0,false),(1,false),(2,false),(3,false),(4,true),(5,false),(6,false),(7,false),(8,false),(9,false)] rfl rfl (by kernel_rfl) ?_
 refine yX 3 ?_
 refine xE rfl rfl (aa (mG _ h4) rfl rfl rfl rfl) rfl ?_
 refine yO rfl yH (oK N0 (by simp only;omega)) ?_
 rintro u L' ⟨rfl,rfl⟩
 refine⟨_,rfl,(by repeat (first|exact ai.nil|refine ai.gone rfl ?_)),?_⟩
 rw[lZ hm]
 simp only
 refine yX 9 ?_
 cases hi:mQ key ks with
 | true =>
  have hlt:ag key ks<ks.length:=by
   have h0:=i5.1 hi
   by_cases h:ag key ks<ks.length
   ·exact h
   rw[List.getElem?_eq_none (by omega)]at h0;cases h0
  rcases g2 with ⟨_,h0,_,_⟩|⟨r,rfl,hlen,rfl⟩
  ·omega
  have e5:tX key val ks vs=⟨true,ks,vs.set (ag key ks) val,[]⟩:=by unfold tX;rw[if_pos hi]
  rw[e5,if_pos rfl]
  repeat refine xQ ?_
  refine xC rfl ?_ ?_ <;> intro hc
  ·refine LS.sub (ar.sums (A:=(r,.cells 9 (tx vs))::(rc,an true w1 (.slice (some ⟨r,0,none⟩) vs.length ae) w3)::HD c.rf c.rb c.rt c.rn c.rw T root cnt c.root0 c.cnt0 es ck ws wk (Y3++(Y1++(G++X)))) (B:=(rc,an true w1 (.slice (some ⟨r,0,none⟩) vs.length ae) w3)::HD c.rf c.rb c.rt c.rn c.rw T root cnt c.root0 c.cnt0 es ck ws wk (Y3++([(r,.cells 9 (tx vs))]++(Y1++(G++X))))) fun f=>by simp[HD,fm]<;>omega) ?_
   repeat refine xQ ?_
   refine LS.drawn noGo mixed [(0,false),(1,false),(2,false),(3,false),(4,false),(5,false),(6,false),(7,true)] rfl rfl (by kernel_rfl) ?_
   refine yX 5 ?_
   refine xE rfl rfl (aa (r:=r5) (row:=di val) (by simp[h5]) rfl rfl rfl rfl) rfl ?_
   refine yQ rfl (bK (j:=ag key ks) rfl rfl rfl rfl rfl (by omega)) ?_
   refine ba.write rfl rfl (ax 0 (cs':=tx (vs.set (ag key ks) val)) rfl rfl rfl rfl rfl rfl (by rw[←JB];exact (congrArg (kO (tx vs) · [bb val]) (show 0+ag key ks*1=ag key ks by omega)).trans (iZ (by simp;omega))) rfl) rfl (by repeat (first|exact ai.nil|refine ai.gone rfl ?_)) ?_
   refine yX 1 ?_
   refine LS.sub (ar.sums (A:=(rc,an true w1 (.slice (some ⟨r,0,none⟩) vs.length ae) w3)::HD c.rf c.rb c.rt c.rn c.rw T root cnt c.root0 c.cnt0 es ck ws wk ((Y3++([(r,.cells 9 (tx (vs.set (ag key ks) val)))]++Y1))++(G++X))) (B:=(r,.cells 9 (tx (vs.set (ag key ks) val)))::(rc,an true w1 (.slice (some ⟨r,0,none⟩) vs.length ae) w3)::HD c.rf c.rb c.rt c.rn c.rw T root cnt c.root0 c.cnt0 es ck ws wk (Y3++(Y1++(G++X)))) fun f=>by simp[HD,fm]<;>omega) ?_
   refine yX 1 ?_
   refine⟨w1,.slice (some ⟨r,0,none⟩) vs.length ae,w3,Y3++([(r,.cells 9 (tx (vs.set (ag key ks) val)))]++Y1),rfl,⟨(g1.ol (show ks.length<=ae by unfold ae;omega)).pl.mono (fun p hp=>by simp[hp]),?_,(g3.ol (show ([]:List Int).length<=ae by decide)).pl.mono (fun p hp=>by simp[hp])⟩⟩
   refine .inr ⟨r,0,ae,tx (vs.set (ag key ks) val),by simp only[List.length_set],by simp,?_,by simp only[List.length_set];unfold ae;omega,Nat.le_refl _⟩
   exact eQ (by simp)
  cases hc
 | false =>
  have e5:tX key val ks vs=⟨true,ct ks (ag key ks) key,ct vs (ag key ks) val,[]⟩:=by unfold tX;rw[if_neg (by rw[hi];decide)]
  rw[e5,if_neg (by decide)]
  refine yX 2 ?_
  have hle2:ag key ks<=vs.length:=by omega
  repeat refine xQ ?_
  refine LS.drawn noGo mixed [(0,false),(1,false),(2,false),(3,false),(4,false),(5,false),(6,false),(7,true),(8,true),(9,false),(10,false),(11,true)] rfl rfl (by kernel_rfl) ?_
  refine yX 6 ?_
  refine xE rfl rfl (aa (mG _ h4) rfl rfl rfl rfl) rfl ?_
  refine ba.fresh rfl rfl (dG (fun _=>rfl) rfl) (fun _=>rfl) (fun rv=>(by repeat (first|exact ai.nil|refine ai.gone rfl ?_|refine ai.cons rfl (aA 1 rfl rfl rfl rfl rfl) ?_))) (fun rv=>?_)
  refine ba.nodup fun hnd=>?_
  have hrv:∀ p,p∈Y1->p.1≠rv:=fun p hp he=>by
   exact (List.nodup_cons.1 hnd).1 (List.mem_map.2 ⟨p,by simp[hp],he⟩)
  refine ba.sub (ar.sums (A:=Y1++((rv,di key)::(rc,an true w1 w2 w3)::HD c.rf c.rb c.rt c.rn c.rw T root cnt c.root0 c.cnt0 es ck ws wk (Y3++(Y2++(G++X))))) (B:=(rv,di key)::(rc,an true w1 w2 w3)::HD c.rf c.rb c.rt c.rn c.rw T root cnt c.root0 c.cnt0 es ck ws wk (Y3++(Y2++(Y1++(G++X))))) fun f=>by simp[HD,fm]<;>omega) ?_
  refine yO rfl yH (ng (x:=bb key) g1 hle (by omega) rfl (ik _) (List.mem_cons_self ..) hrv) ?_
  rintro u1 L' ⟨Y1',rfl,o1⟩
  refine⟨_,rfl,(by repeat (first|exact ai.nil|refine ai.gone rfl ?_)),?_⟩
  have o1':OL 9 1 u1 (ct ks (ag key ks) key).length (tx (ct ks (ag key ks) key)) Y1':=by
   rw[cy hle]
   have:=o1.ol
   rw[show bb key=(fun s=>bb s) key from rfl,lq]at this
   exact this
  refine ba.sub (ar.sums2 ([(rv,di key)]) (A:=(rc,an true w1 w2 w3)::HD c.rf c.rb c.rt c.rn c.rw T root cnt c.root0 c.cnt0 es ck ws wk (Y3++(Y2++(Y1'++(G++X))))) (B:=Y1'++((rv,di key)::(rc,an true w1 w2 w3)::HD c.rf c.rb c.rt c.rn c.rw T root cnt c.root0 c.cnt0 es ck ws wk (Y3++(Y2++(G++X))))) fun f=>by simp[HD,fm]<;>omega) ?_
  refine yX 2 ?_
  refine ba.write rfl rfl (bQ 0 (bC o1'.sv) rfl rfl rfl rfl rfl rfl rfl) rfl (by repeat (first|exact ai.nil|refine ai.gone rfl ?_)) ?_
  refine yX 1 ?_
  have mG2:∀ (p:Nat×aG),p∈G->p∈(rc,an true u1 w2 w3)::HD c.rf c.rb c.rt c.rn c.rw T root cnt c.root0 c.cnt0 es ck ws wk (Y3++(Y2++(Y1'++(G++X)))):=fun p hp=>by simp[hp]
  repeat refine xQ ?_
  refine LS.drawn noGo mixed [(0,false),(1,false),(2,false),(3,false),(4,false),(5,false),(6,false),(7,true),(8,true),(9,false),(10,false),(11,true)] rfl rfl (by kernel_rfl) ?_
  refine yX 6 ?_
  refine xE rfl rfl (aa (mG2 _ h5) rfl rfl rfl rfl) rfl ?_
  refine ba.fresh rfl rfl (dG (fun _=>rfl) rfl) (fun _=>rfl) (fun rv=>(by repeat (first|exact ai.nil|refine ai.gone rfl ?_|refine ai.cons rfl (aA 1 rfl rfl rfl rfl rfl) ?_))) (fun rv=>?_)
  refine ba.nodup fun hnd=>?_
  have hrv:∀ p,p∈Y2->p.1≠rv:=fun p hp he=>by
   exact (List.nodup_cons.1 hnd).1 (List.mem_map.2 ⟨p,by simp[hp],he⟩)
  refine ba.sub (ar.sums (A:=Y2++((rv,di val)::(rc,an true u1 w2 w3)::HD c.rf c.rb c.rt c.rn c.rw T root cnt c.root0 c.cnt0 es ck ws wk (Y3++(Y1'++(G++X))))) (B:=(rv,di val)::(rc,an true u1 w2 w3)::HD c.rf c.rb c.rt c.rn c.rw T root cnt c.root0 c.cnt0 es ck ws wk (Y3++(Y2++(Y1'++(G++X))))) fun f=>by simp[HD,fm]<;>omega) ?_
  refine yO rfl yH (ng (x:=bb val) g2 hle2 (by omega) rfl (ik _) (List.mem_cons_self ..) hrv) ?_
  rintro u2 L' ⟨Y2',rfl,o2⟩
  refine⟨_,rfl,(by repeat (first|exact ai.nil|refine ai.gone rfl ?_)),?_⟩
  have o2':OL 9 1 u2 (ct vs (ag key ks) val).length (tx (ct vs (ag key ks) val)) Y2':=by
   rw[cy hle2]
   have:=o2.ol
   rw[show bb val=(fun s=>bb s) val from rfl,lq]at this
   exact this
  refine ba.sub (ar.sums2 ([(rv,di val)]) (A:=(rc,an true u1 w2 w3)::HD c.rf c.rb c.rt c.rn c.rw T root cnt c.root0 c.cnt0 es ck ws wk ((Y3++(Y2'++Y1'))++(G++X))) (B:=Y2'++((rv,di val)::(rc,an true u1 w2 w3)::HD c.rf c.rb c.rt c.rn c.rw T root cnt c.root0 c.cnt0 es ck ws wk (Y3++(Y1'++(G++X))))) fun f=>by simp[HD,fm]<;>omega) ?_
  refine yX 2 ?_
  refine ba.write rfl rfl (bQ 0 (bC o2'.sv) rfl rfl rfl rfl rfl rfl rfl) rfl (by repeat (first|exact ai.nil|refine ai.gone rfl ?_)) ?_
  refine yX 2 ?_
  refine yR (aa (r:=r3) (row:=eH c.rt) (by simp[h3]) rfl rfl rfl rfl) ?_
  refine yX 4 ?_
  refine yP (a8 (m:=cnt) (n:=1) rfl rfl rfl (ak (by omega) (by omega))) ?_
  refine yX 5 ?_
  exact⟨_,fun _ _=>rfl,u1,u2,w3,Y3++(Y2'++Y1'),rfl,⟨o1'.pl.mono (fun p hp=>by simp[hp]),o2'.pl.mono (fun p hp=>by simp[hp]),(g3.ol (show ([]:List Int).length<=ae by decide)).pl.mono (fun p hp=>by simp[hp])⟩⟩
set_option maxHeartbeats 4000000 in
theorem IJ {root cnt:Int}{r3:Nat}{key:Tx}{ks vs:List Tx}(h3:(r3,di key)∈G)(hs:Sm ⟨true,ks,vs,[]⟩)(hm:bW ⟨true,ks,vs,[]⟩=true)(hi:mQ key ks=true) :
  KM c G X root cnt cnt 152 [ptr r3] ⟨true,ks,vs,[]⟩ ⟨true,ks.eraseIdx (ag key ks),vs.eraseIdx (ag key ks),[]⟩:=by
 intro rc w1 w2 w3 Y1 Y2 Y3 T es ck ws wk g1 g2 g3
 have e1:=hs.k;have e2:=hs.v;have e3:=hs.kl;have e4:=hs.vl
 have hl:=(de hm rfl).1
 have hlt:ag key ks<ks.length:=by
  have h0:=i5.1 hi
  by_cases h:ag key ks<ks.length
  ·exact h
  rw[List.getElem?_eq_none (by omega)]at h0;cases h0
 simp only at g1 g2 g3 e1 e2 e3 e4 hl ⊢
 have er1:(tx ks).eraseIdx (ag key ks)=tx (ks.eraseIdx (ag key ks)):=ie
 have er2:(tx vs).eraseIdx (ag key ks)=tx (vs.eraseIdx (ag key ks)):=ie
 have mG:∀ (p:Nat×aG),p∈G->p∈(rc,an true w1 w2 w3)::HD c.rf c.rb c.rt c.rn c.rw T root cnt c.root0 c.cnt0 es ck ws wk (Y3++(Y2++(Y1++(G++X)))):=fun p hp=>by simp[hp]
 have N0:NV ((rc,an true w1 w2 w3)::HD c.rf c.rb c.rt c.rn c.rw T root cnt c.root0 c.cnt0 es ck ws wk (Y3++(Y2++(Y1++(G++X))))) ⟨true,ks,vs,[]⟩ w1 w2 w3:=⟨g1.sv.mono (fun p hp=>by simp[hp]),g2.sv.mono (fun p hp=>by simp[hp]),g3.sv.mono (fun p hp=>by simp[hp]),by simp only;omega,by simp only;omega,by simp,fun k hk=>by have:=e3 k hk;omega,fun k hk=>by have:=e4 k hk;omega⟩
 refine yF Tryz.f152 ?_
 repeat refine xQ ?_
 refine LS.drawn noGo mixed [(0,false),(1,false),(2,false),(3,false),(4,true),(5,false),(6,false),(7,false),(8,false),(9,false)] rfl rfl (by kernel_rfl) ?_
 refine yX 3 ?_
 refine xE rfl rfl (aa (mG _ h3) rfl rfl rfl rfl) rfl ?_
 refine yO rfl yH (oK N0 (by simp only;omega)) ?_
 rintro u L' ⟨rfl,rfl⟩
 refine⟨_,rfl,(by repeat (first|exact ai.nil|refine ai.gone rfl ?_)),?_⟩
 rw[lZ hm]
 simp only
 refine yX 14 ?_
 refine yP (aW (n:=1) rfl rfl rfl (ak (by omega) (by omega))) ?_
 refine OS.sub (ar.sums (A:=Y1++((rc,an true w1 w2 w3)::HD c.rf c.rb c.rt c.rn c.rw T root cnt c.root0 c.cnt0 es ck ws wk (Y3++(Y2++(G++X))))) (B:=(rc,an true w1 w2 w3)::HD c.rf c.rb c.rt c.rn c.rw T root cnt c.root0 c.cnt0 es ck ws wk (Y3++(Y2++(Y1++(G++X))))) fun f=>by simp[HD,fm]<;>omega) ?_
 refine yA yH (nh g1 hlt (by omega) (ik _)) ?_
 rintro u1 L' ⟨Y1',rfl,o1⟩
 refine yX 1 ?_
 refine OS.sub (ar.sums (A:=(rc,an true w1 w2 w3)::HD c.rf c.rb c.rt c.rn c.rw T root cnt c.root0 c.cnt0 es ck ws wk (Y3++(Y2++(Y1'++(G++X))))) (B:=Y1'++((rc,an true w1 w2 w3)::HD c.rf c.rb c.rt c.rn c.rw T root cnt c.root0 c.cnt0 es ck ws wk (Y3++(Y2++(G++X))))) fun f=>by simp[HD,fm]<;>omega) ?_
 have o1':OL 9 1 u1 (ks.eraseIdx (ag key ks)).length (tx (ks.eraseIdx (ag key ks))) Y1':=by
  rw[List.length_eraseIdx,if_pos hlt,←er1]
  exact o1.ol
 refine yX 2 ?_
 refine yW (bQ 0 (bC o1'.sv) rfl rfl rfl rfl rfl rfl rfl) ?_
 refine yX 9 ?_
 refine yP (aW (n:=1) rfl rfl rfl (ak (by omega) (by omega))) ?_
 refine OS.sub (ar.sums (A:=Y2++((rc,an true u1 w2 w3)::HD c.rf c.rb c.rt c.rn c.rw T root cnt c.root0 c.cnt0 es ck ws wk (Y3++(Y1'++(G++X))))) (B:=(rc,an true u1 w2 w3)::HD c.rf c.rb c.rt c.rn c.rw T root cnt c.root0 c.cnt0 es ck ws wk (Y3++(Y2++(Y1'++(G++X))))) fun f=>by simp[HD,fm]<;>omega) ?_
 refine yA yH (nh g2 (show ag key ks<vs.length by omega) (by omega) (ik _)) ?_
 rintro u2 L' ⟨Y2',rfl,o2⟩
 refine yX 1 ?_
 refine OS.sub (ar.sums (A:=(rc,an true u1 w2 w3)::HD c.rf c.rb c.rt c.rn c.rw T root cnt c.root0 c.cnt0 es ck ws wk ((Y3++(Y2'++Y1'))++(G++X))) (B:=Y2'++((rc,an true u1 w2 w3)::HD c.rf c.rb c.rt c.rn c.rw T root cnt c.root0 c.cnt0 es ck ws wk (Y3++(Y1'++(G++X))))) fun f=>by simp[HD,fm]<;>omega) ?_
 have o2':OL 9 1 u2 (vs.eraseIdx (ag key ks)).length (tx (vs.eraseIdx (ag key ks))) Y2':=by
  rw[List.length_eraseIdx,if_pos (by omega),←er2]
  exact o2.ol
 refine yX 2 ?_
 refine yW (bQ 0 (bC o2'.sv) rfl rfl rfl rfl rfl rfl rfl) ?_
 refine xN ?_
 exact⟨_,fun _ _=>rfl,u1,u2,w3,Y3++(Y2'++Y1'),rfl,⟨o1'.pl.mono (fun p hp=>by simp[hp]),o2'.pl.mono (fun p hp=>by simp[hp]),(g3.ol (show ([]:List Int).length<=ae by decide)).pl.mono (fun p hp=>by simp[hp])⟩⟩
theorem si:∀ {h:Nat} {t:Tr h},cQ h t->dm (sq h t)≠[]
 | 0,t,hk=>by
  obtain⟨p,ks,vs,rfl⟩:=br t
  have hv:=hk.vs
  have hn:=(B3.1 hk).2
  rw[il,n0]
  cases ks with
  | nil=>exact absurd rfl hn
  | cons k ks =>
   cases vs with
   | nil=>simp at hv
   | cons v vs=>simp
 | h+1,t,hk=>by
  obtain⟨p,ks,ts,rfl⟩:=aO t
  have hl:=hk.len
  cases ts with
  | nil=>simp at hl
  | cons a ts =>
   have:=si (hk.kid a (by simp))
   rw[qQ,List.map_cons,show wv ks (sq h a::ts.map (sq h))=sq h a++bU ks (ts.map (sq h)) from rfl,cL]
   intro hh
   exact this (List.append_eq_nil_iff.1 hh).1
def dI(m:da)(root:Int)(P:List Pr):Prop :=
 (root=-1/\(∀ q,m q=none)/\P=[])∨∃ (H:Nat) (t:Tr H),eB m root t/\cQ H t/\eC (sq H t)/\dm (sq H t)=P
theorem dI.root {root:Int}{P:List Pr}(h:dI m root P):(P=[]->root=-1)/\(P≠[]->∃ n:Nat,root=n/\m n≠none):=by
 rcases h with ⟨h1,_,rfl⟩|⟨H,t,h1,h2,h3,rfl⟩
 ·exact⟨fun _=>h1,fun h=>absurd rfl h⟩
 exact⟨fun h=>absurd h (si h2),fun _=>⟨_,h1.rt,h1.rep.some _ gE⟩⟩
theorem lY {N:Nat}{m:da}:cq N m+((List.range N).filter fun i=>(m i).isSome).length=N:=by
 unfold cq frees bits
 rw[List.countP_map,←List.countP_eq_length_filter]
 have:=List.length_eq_countP_add_countP (l:=List.range N) (fun i=>(m i).isSome)
 rw[List.length_range]at this
 have e:(fun i=>!(m i).isSome)=((fun b=>!b) ∘ fun i=>(m i).isSome):=rfl
 rw[←e]
 have e2:List.countP (fun i=>!(m i).isSome) (List.range N)=List.countP (fun a=>decide (¬ (m a).isSome=true)) (List.range N):=by
  congr 1;funext i;cases (m i).isSome <;> rfl
 rw[e2]
 omega
theorem pQ {N:Nat}{m:da}{root:Int}{H:Nat}{t:Tr H}(hw:eB m root t)(hd:∀ i,m i≠none->i<N):cq N m+(bJ H t).length=N:=by
 have h1:=lY (N:=N) (m:=m)
 have h2:(bJ H t).length=((List.range N).filter fun i=>(m i).isSome).length:=yv hw.nod (List.nodup_range.filter _) fun q=>by
  rw[List.mem_filter,List.mem_range]
  constructor
  ·intro hq
   have:=hw.rep.some q hq
   exact⟨hd q this,by cases hm:m q with
    | none=>exact absurd hm this
    | some _=>rfl⟩
  rintro ⟨_,hq⟩
  by_cases hp:q∈bJ H t
  ·exact hp
  rw[hw.out q hp]at hq;cases hq
 omega
def Eo(N:Nat)(m:da)(P:List Pr):Prop:=N<=cq N m+3*P.length
theorem H0 {t:Tr H}:El t=(dm (sq H t)).length:=rfl
theorem zj {N:Nat}{m:da}{root cnt:Int}{l:List It}{P:List Pr}(h:Lq m root cnt l)(hs:eC l)(hP:dm l=P)(hc:cnt=P.length)(hd:∀ i,m i≠none->i<N):dI m root P/\Eo N m P:=by
 rcases h with ⟨h1,h2,h3⟩|⟨H,t,h1,h2,h3,h4⟩
 ·rw[h3]at hP
  subst hP
  refine⟨.inl ⟨h1,h2,rfl⟩,?_⟩
  have:=lY (N:=N) (m:=m)
  have h0:((List.range N).filter fun i=>(m i).isSome)=[]:=List.filter_eq_nil_iff.2 fun i _=>by rw[h2 i];decide
  rw[h0]at this
  unfold Eo
  simp at this ⊢;omega
 have hs':=h3.to hs
 have hkv:=h3.kv
 have hp:=pQ h1 hd
 refine⟨.inr ⟨H,t,h1,h2,hs',by rw[←hkv];exact hP⟩,?_⟩
 unfold Eo
 rcases h4 with h4|⟨h4,h5⟩
 ·omega
 have:=LL h2 h4 hs' h5
 rw[H0,←hkv,hP]at this
 omega
theorem yr:∀ {h H:Nat} {k:Cx h H} {t t':Tr h} {m m':da},cD m H (plug k t)->(bJ H (plug k t)).Nodup->cD m' h t'->no h t'=no h t->(∀ q,q ∉ bJ h t->m' q=m q)->cD m' H (plug k t')
 | _,_,.top,t,t',m,m',_,_,h1,_,_=>h1
 | h,H,.up p A B L R c,t,t',m,m',hr,hn,h1,h2,h3=>by
  have hr1:cD m (h+1) (bG p (A++B) (L++t::R)):=gm (c:=c) hr
  have hn1:(bJ (h+1) (bG p (A++B) (L++t::R))).Nodup:=rJ (c:=c) hn
  rw[gD]at hn1
  simp only[List.cons_append,List.nodup_cons,List.mem_append,not_or,List.nodup_append]at hn1
  have hpt:p ∉ bJ h t:=hn1.1.2.1
  refine yr (k:=c) (t:=bG p (A++B) (L++t::R)) (t':=bG p (A++B) (L++t'::R)) hr hn ?_ rfl fun q hq=>h3 q fun hh=>hq (by rw[gD];simp[hh])
  refine bI.2 ⟨?_,fun s hs=>?_⟩
  ·rw[h3 p hpt,(bI.1 hr1).1]
   simp[aV,h2]
  have hcase:s=t'∨s∈L∨s∈R:=by
   simp only[List.mem_append,List.mem_cons]at hs
   rcases hs with h|h|h
   ·exact .inr (.inl h)
   ·exact .inl h
   exact .inr (.inr h)
  rcases hcase with rfl|hL|hR
  ·exact h1
  ·refine ((bI.1 hr1).2 s (by simp[hL])).congr fun q hq=>h3 q fun hh=>?_
   exact hn1.2.2.2 q (List.mem_flatMap.2 ⟨s,hL,hq⟩) q (.inl hh) rfl
  refine ((bI.1 hr1).2 s (by simp[hR])).congr fun q hq=>h3 q fun hh=>?_
  exact hn1.2.2.1.2.2 q hh q (List.mem_flatMap.2 ⟨s,hR,hq⟩) rfl
theorem qJ {H:Nat}{k:Cx 0 H}{p:Nat}{ks vs ks' vs':List Tx}{m:da}{root:Int}(hw:eB m root (plug k (lf p ks vs))):eB (aD m p (some ⟨true,ks',vs',[]⟩)) root (plug k (lf p ks' vs')):=by
 have hp:bJ H (plug k (lf p ks' vs'))=bJ H (plug k (lf p ks vs)):=by rw[k9,k9];rfl
 refine⟨yr hw.rep hw.nod (t':=lf p ks' vs') ?_ rfl fun q hq=>?_,by rw[hp];exact hw.nod,fun q hq=>?_,?_⟩
 ·show aD m p _ p=_
  unfold aD;rw[if_pos rfl];rfl
 ·have:q≠p:=fun he=>hq (by rw[he];exact gE (t:=lf p ks vs))
  unfold aD;rw[if_neg this]
 ·rw[hp]at hq
  have:q≠p:=fun he=>hq (by rw[he,k9];simp)
  unfold aD;rw[if_neg this];exact hw.out q hq
 rw[hw.rt]
 cases k with
 | top=>rfl
 | up q A B L R c =>
  have:∀ {h H:Nat} (c:Cx h H) (t t':Tr h),no h t=no h t'->no H (plug c t)=no H (plug c t'):=fun {h H} c=>by
   induction c with
   | top=>exact fun t t' h=>h
   | up q A B L R c ih=>exact fun t t' h=>ih _ _ rfl
  rw[this _ _ _ (show no 0 (lf p ks' vs')=no 0 (lf p ks vs) from rfl)]
theorem TR.pushs {s:fD}{L:RL}(Y:RL)(h:TR c G X s L):∃ L',TR c (Y++G) X s L'/\ar L' (Y++L):=by
 obtain⟨T,es,ck,ws,wk,hN,rfl,hp⟩:=h
 exact⟨HD c.rf c.rb c.rt c.rn c.rw T s.root s.cnt c.root0 c.cnt0 es ck ws wk ((Y++G)++X),⟨T,es,ck,ws,wk,hN,rfl,hp⟩,ar.sums fun f=>by simp[HD,fm]<;>omega⟩
theorem TR.pops {s:fD}{L:RL}{Y:RL}(h:TR c (Y++G) X s L):∃ L',TR c G X s L'/\ar L' L:=by
 obtain⟨T,es,ck,ws,wk,hN,rfl,hp⟩:=h
 exact⟨HD c.rf c.rb c.rt c.rn c.rw T s.root s.cnt c.root0 c.cnt0 es ck ws wk (G++X),⟨T,es,ck,ws,wk,hN,rfl,hp⟩,ar.sums2 Y fun f=>by simp[HD,fm]<;>omega⟩
structure Ld(c:jt)(G X:RL)(s:fD)(L:RL)(P:List Pr)(key:Tx){H:Nat}(k:Cx 0 H)(p:Nat)(ks vs:List Tx)(v:Value):Prop where
 tr:TR c G X s L
 wh:eB s.m s.root (plug k (lf p ks vs))
 wf:zQ k
 bef:∀ y∈dO k,Bn key y
 aft:∀ y∈bP k,zU key y
 ok:I8 k p
 fits:aQ ⟨true,ks,vs,[]⟩=true
 srt:eC (sq H (plug k (lf p ks vs)))
 kv:dm (sq H (plug k (lf p ks vs)))=P
 vv:∃ Y,(∀ x,x∈Y->x∈G)/\GV 243 2 [] v ((steps k).length+1) (vM (steps k++[(p,0)])) Y
 len:(steps k).length<=100000
theorem sY:aQ ⟨true,[],[],[]⟩=true:=lP (cI.2 ⟨rfl,.inl ⟨rfl,rfl,rfl,fun v hv=>by cases hv⟩⟩) (.inl ⟨rfl,Nat.zero_le _⟩)
theorem DM {k:Cx 0 0}{l:Tr 0}{p:Nat}(h:plug k l=lf p [] []):I8 k (no 0 l)/\aQ (nd 0 l)=true:=by
 cases k with
 | top=>subst h;exact⟨trivial,sY⟩
 | up q A B L R c=>have:=fQ (c:=Cx.up q A B L R c);simp[steps]at this
theorem Ev {t:Tr H}{c:jt}{G X:RL}{s:fD}{rows:RL}{key:Tx}{P:List Pr}(htr:TR c G X s rows)(hw:eB s.m s.root t)(hok:(∃ p,H=0/\t ≍ lf p [] [])∨cQ H t)(hs:eC (sq H t))(hkv:dm (sq H t)=P) :
  CS Tryz.prog 141 [ptr c.rt,bb key] rows fun v L'=>∃ Y k p ks vs,Ld c (Y++G) X s L' P key (H:=H) k p ks vs v:=by
 have hpl:=nO htr hw.rep hw.nod
 have hN32:=htr.N
 refine (Eu (key:=key) htr hw (hok.imp (fun ⟨_,h,_⟩=>h) id) hs).less ?_
 rintro v L' ⟨k,l,Y,hpu,hwf,hbef,haft,rfl,hv⟩
 obtain⟨p,ks,vs,rfl⟩:=br l
 obtain⟨L1,h1,s1⟩:=htr.pushs Y
 subst hpu
 have hst:=fQ (c:=k)
 have hh:I8 k p/\aQ ⟨true,ks,vs,[]⟩=true:=by
  rcases hok with ⟨q,h0,ht⟩|hok
  ·subst h0
   have:=DM (eq_of_heq ht)
   simpa using this
  exact⟨(lT.1 hok).1,(lT.1 hok).2.1⟩
 have hH:H<40000:=by
  rcases hok with ⟨q,h0,ht⟩|hok
  ·omega
  have:=oe hok;omega
 exact⟨L1,s1,Y,k,p,ks,vs,h1,hw,hwf,hbef,haft,hh.1,hh.2,hs,hkv,⟨Y,fun x hx=>List.mem_append_left _ hx,by simpa using hv⟩,by omega⟩
theorem JL {key val:Tx}{ks vs:List Tx}(hf:aQ ⟨true,ks,vs,[]⟩=true)(h2:key.length<=32)(h3:val.length<=64):Sm (tX key val ks vs):=by
 have hs:=dy hf
 have hl:=(de (bn hf) rfl).1
 have hz:=qv hf
 have hle:=gz key ks
 have e3:=hs.kl
 have e4:=hs.vl
 simp only at e3 e4 hl
 unfold tX
 split
 ·refine⟨by simp only;omega,by simp only[List.length_set];omega,by simp,e3,fun k hk=>?_⟩
  rcases yy hk with rfl|hk
  ·omega
  exact e4 k hk
 refine⟨by simp only[cy hle];omega,by simp only;rw[cy (by omega)];omega,by simp,fun k hk=>?_,fun k hk=>?_⟩
 ·rcases nT hk with rfl|hk
  ·omega
  exact e3 k hk
 rcases nT hk with rfl|hk
 ·omega
 exact e4 k hk
abbrev pG(c:jt)(r3 r4 r5:Nat)(key val:Tx)(G:RL):RL:=(r5,di val)::(r4,di key)::(r3,eH c.rt)::G
set_option maxHeartbeats 4000000 in
theorem JK {s:fD}{rows:RL}{key val:Tx}{P:List Pr}(htr:TR c G X s rows)(hg:dI s.m s.root P)(hcnt:s.cnt=P.length)(h16:16<=cq c.N s.m)(hk1:1<=key.length)(hk2:key.length<=32)(hv1:val.length<=64)(hP:P.length<=100000000) :
  CS Tryz.prog 99 [ptr c.rt,bb key,bb val] rows fun _ L'=>∃ X' m' root',(∀ q,q∈X->q∈X')/\TR c G X' ⟨m',root',((gU key val P).length:Nat)⟩ L'/\dI m' root' (gU key val P)/\Eo c.N m' (gU key val P):=by
 suffices g:CS Tryz.prog 99 [ptr c.rt,bb key,bb val] rows fun _ L'=>∃ Y X' m' root',(∀ q,q∈X->q∈X')/\TR c (Y++G) X' ⟨m',root',((gU key val P).length:Nat)⟩ L'/\dI m' root' (gU key val P)/\Eo c.N m' (gU key val P) by
  refine g.less ?_
  rintro u L' ⟨Y,X',m',root',h1,h2,h3⟩
  obtain⟨L1,g1,s1⟩:=h2.pops
  exact⟨L1,s1,X',m',root',h1,g1,h3⟩
 obtain⟨m,root,cnt⟩:=s
 simp only at hg hcnt h16
 obtain⟨T,es,ck,ws,wk,hN,rfl,hp⟩:=id htr
 simp only
 refine yF Tryz.f99 ?_
 refine yX 1 ?_
 refine yM (gH (v:=ptr c.rt) (cs:=[ptr c.rt]) rfl rfl rfl rfl rfl) fun r3=>?_
 refine yM (gH (v:=bb key) (cs:=[bb key]) rfl rfl rfl rfl rfl) fun r4=>?_
 refine yM (gH (v:=bb val) (cs:=[bb val]) rfl rfl rfl rfl rfl) fun r5=>?_
 refine OS.sub (ar.sums (A:=HD c.rf c.rb c.rt c.rn c.rw T root cnt c.root0 c.cnt0 es ck ws wk (pG c r3 r4 r5 key val G++X)) (B:=(r5,di val)::(r4,di key)::(r3,eH c.rt)::HD c.rf c.rb c.rt c.rn c.rw T root cnt c.root0 c.cnt0 es ck ws wk (G++X)) fun f=>by simp[HD,fm]<;>omega) ?_
 refine xN ?_
 have htr1:TR c (pG c r3 r4 r5 key val G) X ⟨m,root,cnt⟩ (HD c.rf c.rb c.rt c.rn c.rw T root cnt c.root0 c.cnt0 es ck ws wk (pG c r3 r4 r5 key val G++X)):=⟨T,es,ck,ws,wk,hN,rfl,hp⟩
 have m3:(r3,eH c.rt)∈pG c r3 r4 r5 key val G:=by simp
 have m4:(r4,di key)∈pG c r3 r4 r5 key val G:=by simp
 have m5:(r5,di val)∈pG c r3 r4 r5 key val G:=by simp
 refine yX 1 ?_
 refine yR (aa (htr1.memG _ m3) rfl rfl rfl rfl) ?_
 refine yX 3 ?_
 refine yR (aa (row:=bS c.rf c.rn c.rw root cnt c.root0 c.cnt0) (r:=c.rt) (by simp) rfl rfl rfl rfl) ?_
 refine yV 2 ?_
 refine LS.mid [3,4,5] (fun a' L'=>∃ X1 m1 root1 H,∃ t1:Tr H,(∀ q,q∈X->q∈X1)/\TR c (pG c r3 r4 r5 key val G) X1 ⟨m1,root1,cnt⟩ L'/\eB m1 root1 t1/\((∃ p,H=0/\t1 ≍ lf p [] [])∨cQ H t1)/\eC (sq H t1)/\dm (sq H t1)=P/\15<=cq c.N m1/\(H=0∨16<=cq c.N m1)/\a'=[yC,yC,yC,ptr r3,ptr r4,ptr r5,yC,yC,yC,yC,yC,yC,yC,yC,yC,yC,yC,yC,yC,yC,yC,yC,yC,yC,yC,yC,yC,yC,yC,yC,yC,yC,yC,yC,yC,yC,yC,yC,yC,yC,yC,yC,yC]) ?_ ?_
 ·rcases hg with ⟨rfl,hem,rfl⟩|⟨H,t,hw,hok,hs,hkv⟩
  ·refine xC rfl ?_ ?_ <;> intro hc
   ·repeat refine xQ ?_
    refine LS.drawn noGo mixed [(0,false),(1,false),(2,false),(3,false),(4,false),(5,true),(6,false),(7,false),(8,false),(9,true)] rfl rfl (by kernel_rfl) ?_
    refine xE rfl rfl (aa (htr1.memG _ m3) rfl rfl rfl rfl) rfl ?_
    refine xE rfl rfl (aa (htr1.memG _ m3) rfl rfl rfl rfl) rfl ?_
    refine yX 2 ?_
    refine yQ rfl (zu rfl rfl) ?_
    refine yO rfl yH (xc (n:=⟨true,[],[],[]⟩) htr1 (by simp only;omega) ⟨iq,iq,iq⟩ (dy sY)) ?_
    rintro u L1 ⟨p,x,d1,hp1,rfl,h1⟩
    have h10:=h1
    refine⟨_,rfl,(by repeat (first|exact ai.nil|refine ai.gone rfl ?_|refine ai.cons rfl (aa (h10.memG _ m3) rfl rfl rfl rfl) ?_)),?_⟩
    obtain⟨T1,es1,ck1,ws1,wk1,hN1,rfl,hp1'⟩:=h1
    refine yX 3 ?_
    refine ba.write rfl rfl (ax 2 rfl rfl rfl rfl rfl rfl rfl rfl) rfl (by repeat (first|exact ai.nil|refine ai.gone rfl ?_)) ?_
    refine yX 1 ?_
    have hfm:=qz (n':=⟨true,[],[],[]⟩) d1 hp1
    simp only at hfm
    refine⟨_,aD m p (some ⟨true,[],[],[]⟩),(p:Nat),0,lf p [] [],fun q hq=>List.mem_cons_of_mem _ hq,⟨T1,es1,ck1,ws1,wk1,hN1,rfl,hp1'⟩,⟨?_,by simp,fun q hq=>?_,rfl⟩,.inl ⟨p,rfl,HEq.rfl⟩,List.Pairwise.nil,rfl,by omega,.inl rfl,rfl⟩
    ·show aD m p _ p=_
     unfold aD;rw[if_pos rfl];rfl
    have:q≠p:=fun he=>hq (by simp[he])
    unfold aD;rw[if_neg this];exact hem q
   cases hc
  have hrt:=hw.rt
  have hb:bc root (-1)=false:=by rw[aC];simp;omega
  refine xC rfl ?_ ?_ <;> intro hc
  ·have hc:bc root (-1)=true:=hc
   rw[hb]at hc;cases hc
  refine LS.skip ?_
  exact⟨X,m,root,H,t,fun q hq=>hq,htr1,hw,.inr hok,hs,hkv,by omega,.inr h16,rfl⟩
 rintro a' L1 ⟨X1,m1,root1,H,t1,hX1,htr2,hw1,hok1,hs1,hkv1,hf15,hf16,rfl⟩
 refine yX 1 ?_
 refine yR (aa (htr2.memG _ m3) rfl rfl rfl rfl) ?_
 refine yR (aa (htr2.memG _ m4) rfl rfl rfl rfl) ?_
 refine yA yH (Ev htr2 hw1 hok1 hs1 hkv1) ?_
 rintro v L2 ⟨Y,k,p,ks,vs,hwp⟩
 obtain⟨Yv,hYv,hvv⟩:=hwp.vv
 refine yX 3 ?_
 have hst:=fQ (c:=k)
 have hlen:=hwp.len
 refine yX 2 ?_
 refine yP (az (hvv.sv.mono fun x hx=>hwp.tr.memG _ (hYv x hx)) rfl rfl rfl rfl rfl) ?_
 refine yV 2 ?_
 refine LS.mid [3,4,5,6] (fun a' L'=>∃ Y X2 m2 root2 H,∃ (k:Cx 0 H) (p:Nat) (ks vs:List Tx) (v:Value),(∀ q,q∈X->q∈X2)/\Ld c (Y++pG c r3 r4 r5 key val G) X2 ⟨m2,root2,cnt⟩ L' P key k p ks vs v/\(steps k).length+2<=cq c.N m2/\a'=[yC,yC,yC,ptr r3,ptr r4,ptr r5,v,yC,yC,yC,yC,yC,yC,yC,yC,yC,yC,yC,yC,yC,yC,yC,yC,yC,yC,yC,yC,yC,yC,yC,yC,yC,yC,yC,yC,yC,yC,yC,yC,yC,yC,yC,yC]) ?_ ?_
 ·by_cases hbig:16<=(steps k).length+1
  ·have hb:av 16 (((steps k).length+1:Nat):Int)=true:=au.2 (by omega)
   have hokH:cQ H t1:=hok1.elim (fun ⟨q,h0,_⟩=>by omega) id
   have h16b:16<=cq c.N m1:=hf16.elim (fun h0=>by omega) id
   refine xC rfl ?_ ?_ <;> intro hc
   ·refine yX 1 ?_
    refine yR (aa (hwp.tr.memG _ (List.mem_append_right Y m3)) rfl rfl rfl rfl) ?_
    refine yA yH (Bu hwp.tr hw1 hokH) ?_
    rintro u L3 ⟨X3,m3',root3,hX3,htr3,hrp,hfr3⟩
    simp only at htr3 hfr3
    refine yX 2 ?_
    have hnd:=htr3.dom
    rcases hrp with ⟨_,_,hkn⟩|⟨H3,t3,hw3,hok3,hsq3,hk3,htd3⟩
    ·exact absurd hkn (si hokH)
    have hs3:=hsq3.to hs1
    have hpg3:=nO htr3 hw3.rep hw3.nod
    have hN3:=htr3.N
    have hlow:=low hok3 (htd3 trivial) hs3 hk3 (by omega)
    refine yX 1 ?_
    refine yR (aa (htr3.memG _ (List.mem_append_right Y m3)) rfl rfl rfl rfl) ?_
    refine yR (aa (htr3.memG _ (List.mem_append_right Y m4)) rfl rfl rfl rfl) ?_
    refine yA yH (Ev htr3 hw3 (.inr hok3) hs3 (hsq3.kv.symm.trans hkv1)) ?_
    rintro v3 L4 ⟨Y4,k4,p4,ks4,vs4,hwp4⟩
    refine yX 3 ?_
    have hst4:=fQ (c:=k4)
    exact⟨Y4++Y,X3,m3',root3,H3,k4,p4,ks4,vs4,v3,fun q hq=>hX3 q (hX1 q hq),by rw[List.append_assoc];exact hwp4,by omega,rfl⟩
   have hc:av 16 (((steps k).length+1:Nat):Int)=false:=hc
   rw[hb]at hc;cases hc
  have hb:av 16 (((steps k).length+1:Nat):Int)=false:=by rw[am,decide_eq_false (by omega)]
  refine xC rfl ?_ ?_ <;> intro hc
  ·have hc:av 16 (((steps k).length+1:Nat):Int)=true:=hc
   rw[hb]at hc;cases hc
  refine LS.skip ?_
  exact⟨Y,X1,m1,root1,H,k,p,ks,vs,v,hX1,hwp,by omega,rfl⟩
 clear hst hlen hwp hvv hYv
 rintro a' L3 ⟨Y,X2,m2,root2,H2,k,p,ks,vs,v,hX2,hwp,hbud,rfl⟩
 obtain⟨Yv,hYv,hvv⟩:=hwp.vv
 have hm:=bn hwp.fits
 have hml:=(gm (c:=k) hwp.wh.rep).top
 simp only[B6,mp]at hml
 have m3':=List.mem_append_right Y m3
 have m4':=List.mem_append_right Y m4
 have m5':=List.mem_append_right Y m5
 repeat refine xQ ?_
 refine LS.drawn noGo mixed [(0,false),(1,false),(2,false),(3,false),(5,false),(4,true),(6,true)] rfl rfl (by kernel_rfl) ?_
 refine xE rfl rfl (aa (hwp.tr.memG _ m3') rfl rfl rfl rfl) rfl ?_
 refine yX 4 ?_
 refine yO rfl yH (pp hvv (fun x hx=>hwp.tr.memG _ (hYv x hx)) (by have:=hwp.len;omega)) ?_
 rintro u L4 ⟨rfl,rfl⟩
 refine⟨_,rfl,(by repeat (first|exact ai.nil|refine ai.gone rfl ?_|refine ai.cons rfl (aa (hwp.tr.memG _ m3') rfl rfl rfl rfl) ?_)),?_⟩
 refine yO rfl yH (jP (caps:=[ptr r4,ptr r5,ptr r3]) (n':=tX key val ks vs) hwp.tr hml (JL hwp.fits hk2 hv1) (HY m3' m4' m5' (dy hwp.fits) hm (by simp only;omega) (by simp only;omega))) ?_
 rintro u L5 ⟨X5,hX5,htr5⟩
 refine⟨_,rfl,(by repeat (first|exact ai.nil|refine ai.gone rfl ?_)),?_⟩
 refine yX 1 ?_
 simp only at htr5
 have key:∃ ks' vs',tX key val ks vs=⟨true,ks',vs',[]⟩/\eC (sq H2 (plug k (lf p ks' vs')))/\Lz (lf p ks' vs')/\dm (sq H2 (plug k (lf p ks' vs')))=gU key val P/\(if mQ key ks=true then cnt else cnt+1)=((gU key val P).length:Nat):=by
  have hkv:=hwp.kv
  subst hkv
  unfold tX
  cases hi:mQ key ks with
  | true =>
   obtain⟨a1,a2,a3,_,a5⟩:=FN (v:=val) hwp.srt hwp.wf hwp.bef hwp.aft hwp.fits hi hv1
   refine⟨_,_,by rw[if_pos rfl],a1,a2,a3,?_⟩
   rw[if_pos rfl,a5];exact hcnt
  | false =>
   obtain⟨a1,a2,a3,a5⟩:=FO (v:=val) hwp.srt hwp.wf hwp.bef hwp.aft hwp.fits hi hk1 hk2 hv1
   refine⟨_,_,by rw[if_neg (by decide)],a1,a2,a3,?_⟩
   rw[if_neg (by decide),a5];omega
 obtain⟨ks',vs',e1,e2,e3,e4,e5⟩:=key
 rw[e1,e5]at htr5
 have hw5:=qJ (ks':=ks') (vs':=vs') hwp.wh
 simp only at hw5
 have hle5:(gU key val P).length<=100000001:=by
  have:(if mQ key ks=true then cnt else cnt+1)<=cnt+1:=by split <;> omega
  omega
 have hfr5:cq c.N (aD m2 p (some ⟨true,ks',vs',[]⟩))=cq c.N m2:=oi (hwp.tr.dom p (by simp only;rw[hml];simp)) hml
 refine yX 1 ?_
 refine yR (aa (htr5.memG _ m3') rfl rfl rfl rfl) ?_
 refine yX 1 ?_
 refine yA yH (B7 (pl:=p) (k0:=k) (l0:=lf p ks' vs') htr5 (hvv.sv.mono hYv) hw5 hwp.ok hwp.wf e3 e2 (.inr (by simp only;omega)) (by simp only;omega) (by simp only;omega) hwp.len) ?_
 rintro u L6 ⟨X6,m6,root6,hX6,htr6,hfin⟩
 simp only at htr6
 refine yX 2 ?_
 have hgood:=zj hfin e2 e4 rfl htr6.dom
 exact⟨_,fun _ _=>rfl,Y++[(r5,di val),(r4,di key),(r3,eH c.rt)],X6,m6,root6,fun q hq=>hX6 q (hX5 q (hX2 q hq)),by simpa using htr6,hgood⟩
set_option maxHeartbeats 4000000 in
theorem Kp {s:fD}{rows:RL}{key:Tx}{P:List Pr}(htr:TR c G X s rows)(hg:dI s.m s.root P)(hcnt:s.cnt=P.length)(hP:P.length<=100000000)(hin:mU P key≠none) :
  CS Tryz.prog 103 [ptr c.rt,bb key] rows fun _ L'=>∃ X' m' root',(∀ q,q∈X->q∈X')/\TR c G X' ⟨m',root',((kM key P).length:Nat)⟩ L'/\dI m' root' (kM key P)/\Eo c.N m' (kM key P):=by
 suffices g:CS Tryz.prog 103 [ptr c.rt,bb key] rows fun _ L'=>∃ Y X' m' root',(∀ q,q∈X->q∈X')/\TR c (Y++G) X' ⟨m',root',((kM key P).length:Nat)⟩ L'/\dI m' root' (kM key P)/\Eo c.N m' (kM key P) by
  refine g.less ?_
  rintro u L' ⟨Y,X',m',root',h1,h2,h3⟩
  obtain⟨L1,g1,s1⟩:=h2.pops
  exact⟨L1,s1,X',m',root',h1,g1,h3⟩
 obtain⟨m,root,cnt⟩:=s
 simp only at hg hcnt
 rcases hg with ⟨_,_,rfl⟩|⟨H,t,hw,hok,hs,hkv⟩
 ·exact absurd rfl hin
 obtain⟨T,es,ck,ws,wk,hN,rfl,hp⟩:=id htr
 simp only
 refine yF Tryz.f103 ?_
 refine yX 1 ?_
 refine yM (gH (v:=bb key) (cs:=[bb key]) rfl rfl rfl rfl rfl) fun r3=>?_
 refine OS.sub (ar.sums (A:=HD c.rf c.rb c.rt c.rn c.rw T root cnt c.root0 c.cnt0 es ck ws wk (((r3,di key)::G)++X)) (B:=(r3,di key)::HD c.rf c.rb c.rt c.rn c.rw T root cnt c.root0 c.cnt0 es ck ws wk (G++X)) fun f=>by simp[HD,fm]<;>omega) ?_
 refine xN ?_
 have htr1:TR c ((r3,di key)::G) X ⟨m,root,cnt⟩ (HD c.rf c.rb c.rt c.rn c.rw T root cnt c.root0 c.cnt0 es ck ws wk (((r3,di key)::G)++X)):=⟨T,es,ck,ws,wk,hN,rfl,hp⟩
 have m3:(r3,di key)∈(r3,di key)::G:=by simp
 refine yX 2 ?_
 refine yR (aa (htr1.memG _ m3) rfl rfl rfl rfl) ?_
 refine yA yH (Ev htr1 hw (.inr hok) hs hkv) ?_
 rintro v L2 ⟨Y,k,p,ks,vs,hwp⟩
 obtain⟨Yv,hYv,hvv⟩:=hwp.vv
 refine yX 3 ?_
 have hm:=bn hwp.fits
 have hml:=(gm (c:=k) hwp.wh.rep).top
 simp only[B6,mp]at hml
 have m3':=List.mem_append_right Y m3
 have hi:mQ key ks=true:=by
  cases hi:mQ key ks with
  | true=>rfl
  | false =>
   exfalso
   have:=uF hwp.srt hwp.wf hwp.bef hwp.aft hwp.fits hi
   rw[hwp.kv]at this
   exact hin this
 obtain⟨a1,a2,a2s,a3,_,a5⟩:=FP hwp.srt hwp.wf hwp.bef hwp.aft hwp.fits hi
 rw[hwp.kv]at a3 a5
 have hsm:Sm ⟨true,ks.eraseIdx (ag key ks),vs.eraseIdx (ag key ks),[]⟩:=by
  have hz:=dy hwp.fits
  have e1:=hz.k
  have e2:=hz.v
  simp only at e1 e2
  exact⟨Nat.le_trans (List.length_eraseIdx_le ..) e1,Nat.le_trans (List.length_eraseIdx_le ..) e2,by simp,fun q hq=>hz.kl q (List.mem_of_mem_eraseIdx hq),fun q hq=>hz.vl q (List.mem_of_mem_eraseIdx hq)⟩
 repeat refine xQ ?_
 refine LS.drawn noGo mixed [(0,false),(1,false),(2,false),(3,false),(5,false),(4,true),(6,true)] rfl rfl (by kernel_rfl) ?_
 refine yX 5 ?_
 refine yO rfl yH (pp hvv (fun x hx=>hwp.tr.memG _ (hYv x hx)) (by have:=hwp.len;omega)) ?_
 rintro u L4 ⟨rfl,rfl⟩
 refine⟨_,rfl,(by repeat (first|exact ai.nil|refine ai.gone rfl ?_)),?_⟩
 refine yO rfl yH (jP (caps:=[ptr r3]) (n':=⟨true,ks.eraseIdx (ag key ks),vs.eraseIdx (ag key ks),[]⟩) hwp.tr hml hsm (IJ m3' (dy hwp.fits) hm hi)) ?_
 rintro u L5 ⟨X5,hX5,htr5⟩
 refine⟨_,rfl,(by repeat (first|exact ai.nil|refine ai.gone rfl ?_)),?_⟩
 refine yX 1 ?_
 simp only at htr5
 obtain⟨T5,es5,ck5,ws5,wk5,hN5,rfl,hp5⟩:=htr5
 refine yX 6 ?_
 refine yP (cW (dQ (m:=cnt) (n:=1) rfl rfl rfl (ak (by omega) (by omega))) (congrArg (Value.int .i64) (show cnt-1=((kM key P).length:Nat) by omega))) ?_
 refine yX 5 ?_
 have htr6:TR c (Y++(r3,di key)::G) X5 ⟨aD m p (some ⟨true,ks.eraseIdx (ag key ks),vs.eraseIdx (ag key ks),[]⟩),root,((kM key P).length:Nat)⟩ (HD c.rf c.rb c.rt c.rn c.rw T5 root ((kM key P).length:Nat) c.root0 c.cnt0 es5 ck5 ws5 wk5 ((Y++(r3,di key)::G)++X5)):=⟨T5,es5,ck5,ws5,wk5,hN5,rfl,hp5⟩
 have hw5:=qJ (ks':=ks.eraseIdx (ag key ks)) (vs':=vs.eraseIdx (ag key ks)) hwp.wh
 simp only at hw5
 refine yX 3 ?_
 refine yA yH (B7 (pl:=p) (k0:=k) (l0:=lf p (ks.eraseIdx (ag key ks)) (vs.eraseIdx (ag key ks))) htr6 (hvv.sv.mono hYv) hw5 hwp.ok hwp.wf a2 a1 (.inl a2s) (by simp only;omega) (by simp only;omega) hwp.len) ?_
 rintro u L6 ⟨X6,m6,root6,hX6,htr7,hfin⟩
 simp only at htr7
 refine yX 2 ?_
 have hgood:=zj hfin a1 a3 rfl htr7.dom
 exact⟨_,fun _ _=>rfl,Y++[(r3,di key)],X6,m6,root6,fun q hq=>hX6 q (hX5 q hq),by simpa using htr7,hgood⟩
abbrev bO(rt:Nat):aG:=.cells 143 [ptr rt]
section
variable{c:jt}{G X:RL}{s:fD}{L:RL}{ro:Nat}
variable{rt:Nat}
theorem fE (h:(ro,bO rt)∈L):CS Tryz.prog 93 [ptr ro] L fun u L'=>u=.bool false/\L'=L:=by
 refine yF Tryz.f93 ?_
 refine yX 10 ?_
 refine yR (aa h rfl rfl rfl rfl) ?_
 refine yX 5 ?_
 exact⟨rfl,rfl⟩
theorem By(htr:TR c G X s L)(ho:(ro,bO c.rt)∈L):CS Tryz.prog 110 [ptr ro] L fun u L'=>u=.int .i64 s.cnt/\L'=L:=by
 obtain⟨T,es,ck,ws,wk,hN,rfl,hp⟩:=htr
 refine yF Tryz.f110 ?_
 refine yX 5 ?_
 refine yA yH (fE ho) ?_
 rintro u L' ⟨rfl,rfl⟩
 refine yX 8 ?_
 refine yR (aa ho rfl rfl rfl rfl) ?_
 refine yX 3 ?_
 refine yR (aa (row:=bS c.rf c.rn c.rw s.root s.cnt c.root0 c.cnt0) (r:=c.rt) (by simp) rfl rfl rfl rfl) ?_
 refine yX 3 ?_
 exact⟨rfl,rfl⟩
theorem EE(htr:TR c G X s L)(ho:(ro,bO c.rt)∈L):CS Tryz.prog 67 [ptr ro] L fun u L'=>u=.int .i64 s.root/\L'=L:=by
 obtain⟨T,es,ck,ws,wk,hN,rfl,hp⟩:=htr
 refine yF Tryz.f67 ?_
 refine yX 5 ?_
 refine yA yH (fE ho) ?_
 rintro u L' ⟨rfl,rfl⟩
 refine yX 8 ?_
 refine yR (aa ho rfl rfl rfl rfl) ?_
 refine yX 3 ?_
 refine yR (aa (row:=bS c.rf c.rn c.rw s.root s.cnt c.root0 c.cnt0) (r:=c.rt) (by simp) rfl rfl rfl rfl) ?_
 refine yX 3 ?_
 exact⟨rfl,rfl⟩
theorem qN(htr:TR c G X s L)(ho:(ro,bO c.rt)∈L):CS Tryz.prog 55 [ptr ro] L fun u L'=>u=.int .i64 (cq c.N s.m:Nat)/\L'=L:=by
 have hN32:=htr.N
 obtain⟨T,es,ck,ws,wk,hN,rfl,hp⟩:=htr
 have hfr:=hp.frees
 rw[hN]at hfr
 refine yF Tryz.f55 ?_
 refine yX 5 ?_
 refine yA yH (fE ho) ?_
 rintro u L' ⟨rfl,rfl⟩
 refine yX 8 ?_
 refine yR (aa ho rfl rfl rfl rfl) ?_
 refine yX 3 ?_
 refine yR (aa (row:=bS c.rf c.rn c.rw s.root s.cnt c.root0 c.cnt0) (r:=c.rt) (by simp) rfl rfl rfl rfl) ?_
 refine yA yH (CO (by omega)) ?_
 rintro u L' ⟨rfl,rfl⟩
 refine yX 4 ?_
 exact⟨by rw[hfr];rfl,rfl⟩
def Ez(N:Nat)(m:da):List Nat:=(List.range N).filter fun i=>(m i).isSome
theorem zZ {N:Nat}{m:da}:cq N m+(Ez N m).length=N:=lY
theorem oU(htr:TR c G X s L)(ho:(ro,bO c.rt)∈G):CS Tryz.prog 68 [ptr ro] L fun u L'=>∃ w,u=.int .i64 0/\TR ⟨c.rf,c.rb,c.rt,c.rn,w,c.N,s.root,s.cnt,s.m⟩ G X s L':=by
 have ho':=htr.memG _ ho
 obtain⟨T,es,ck,ws,wk,hN,rfl,hp⟩:=htr
 refine yF Tryz.f68 ?_
 refine yX 5 ?_
 refine yA yH (fE ho') ?_
 rintro u L' ⟨rfl,rfl⟩
 refine yX 8 ?_
 refine yR (aa ho' rfl rfl rfl rfl) ?_
 refine yX 2 ?_
 refine yA yH (tj (G:=G) (X:=X) hp) ?_
 rintro u L' ⟨w,rfl,hp'⟩
 refine yX 1 ?_
 refine OS.sub (ar.drop 5 rfl) ?_
 refine xN ?_
 have ho2:(ro,bO c.rt)∈HD c.rf c.rb c.rt c.rn w T s.root s.cnt c.root0 c.cnt0 es ck [] 0 (G++X):=by simp[ho]
 repeat refine xQ ?_
 refine LS.drawn noGo mixed [(0,false),(1,false),(2,false),(3,false),(4,false),(5,false),(6,false),(7,false),(8,false),(9,false),(10,false),(11,false),(12,false),(13,true)] rfl rfl (by kernel_rfl) ?_
 refine yX 3 ?_
 refine xE rfl rfl (aa ho2 rfl rfl rfl rfl) rfl ?_
 refine yX 3 ?_
 refine xE rfl rfl (aa ho2 rfl rfl rfl rfl) rfl ?_
 refine yX 2 ?_
 refine xE rfl rfl (aa (row:=bS c.rf c.rn w s.root s.cnt c.root0 c.cnt0) (r:=c.rt) (by simp) rfl rfl rfl rfl) rfl ?_
 refine yX 2 ?_
 refine ba.write rfl rfl (ax 2 rfl rfl rfl rfl rfl rfl rfl rfl) rfl (by repeat (first|exact ai.nil|refine ai.gone rfl ?_)) ?_
 refine yX 5 ?_
 exact⟨w,rfl,T,es,ck,[],0,hN,rfl,hp'⟩
theorem EG(htr:TR c G X s L)(ho:(ro,bO c.rt)∈G):CS Tryz.prog 74 [ptr ro] L fun u L'=>∃ w,u=.int .i64 0/\TR ⟨c.rf,c.rb,c.rt,c.rn,w,c.N,c.root0,c.cnt0,c.m0⟩ G X ⟨c.m0,c.root0,c.cnt0⟩ L':=by
 have ho':=htr.memG _ ho
 obtain⟨T,es,ck,ws,wk,hN,rfl,hp⟩:=htr
 refine yF Tryz.f74 ?_
 refine yX 5 ?_
 refine yA yH (fE ho') ?_
 rintro u L' ⟨rfl,rfl⟩
 refine yX 8 ?_
 refine yR (aa ho' rfl rfl rfl rfl) ?_
 refine yX 2 ?_
 refine yA yH (IY (G:=G) (X:=X) hp) ?_
 rintro u L' ⟨w,T',es',ck',hl,rfl,hp'⟩
 refine yX 2 ?_
 have ho2:(ro,bO c.rt)∈HD c.rf c.rb c.rt c.rn w T' s.root s.cnt c.root0 c.cnt0 es' ck' [] 0 (G++X):=by simp[ho]
 repeat refine xQ ?_
 refine LS.drawn noGo mixed [(0,false),(1,false),(2,false),(3,false),(4,false),(5,false),(6,false),(7,false),(8,false),(9,false),(10,false),(11,false),(12,false),(13,true)] rfl rfl (by kernel_rfl) ?_
 refine yX 3 ?_
 refine xE rfl rfl (aa ho2 rfl rfl rfl rfl) rfl ?_
 refine yX 3 ?_
 refine xE rfl rfl (aa ho2 rfl rfl rfl rfl) rfl ?_
 refine yX 2 ?_
 refine xE rfl rfl (aa (row:=bS c.rf c.rn w s.root s.cnt c.root0 c.cnt0) (r:=c.rt) (by simp) rfl rfl rfl rfl) rfl ?_
 refine yX 2 ?_
 refine ba.write rfl rfl (ax 2 rfl rfl rfl rfl rfl rfl rfl rfl) rfl (by repeat (first|exact ai.nil|refine ai.gone rfl ?_)) ?_
 refine yX 5 ?_
 exact⟨w,rfl,T',es',ck',[],0,hl.trans hN,rfl,hp'⟩
end
abbrev rY:da:=fun _=>none
variable{n:Nat}
theorem JO (hn:n<=32768):Pg [] (List.replicate n false) [] 0 [] 0 rY rY :=
 ⟨by simpa using hn,fun i hi _=>oS n i,fun i h=>absurd rfl h,fun i h=>absurd rfl h,⟨_,MP.new,fun k=>⟨fun _=>rfl,fun n h=>(by cases h)⟩⟩,⟨_,MP.new,fun k=>⟨fun _=>rfl,fun h=>absurd rfl h⟩⟩,fun i n h=>(by cases h),fun i n h=>(by cases h)⟩
variable{L:RL}
theorem yw (n:Nat)(hn:n<=32768):CS Tryz.prog 128 [.int .i64 (n:Nat)] L fun u L'=>∃ rf rb rn rw x,u=.tuple #[.agg #[ptr rf,.map (some rn),.map (some rw)],.int .i64 0]/\L'=(rw,.map [] 0)::(rn,.map [] 0)::fm rf rb (List.replicate n false) (x::L):=by
 refine yF Tryz.f128 ?_
 refine yX 1 ?_
 refine yN fun r2=>?_
 refine yX 4 ?_
 refine yA yH (Hc n hn) ?_
 rintro u L' ⟨rf,rb,rfl,rfl⟩
 refine yX 9 ?_
 refine yM (f5 rfl rfl rfl) fun rn=>?_
 refine yM (f5 rfl rfl rfl) fun rw=>?_
 refine yX 2 ?_
 refine yW (ax 4 rfl rfl rfl rfl rfl rfl rfl rfl) ?_
 refine yX 2 ?_
 refine xT ⟨_,cN 4 rfl rfl rfl rfl rfl,?_⟩
 exact⟨rf,rb,rn,rw,_,rfl,rfl⟩
theorem rS (n:Int)(h:n<0∨32768<n):CS Tryz.prog 128 [.int .i64 n] L fun u L'=>∃ rn rw Y,u=.tuple #[.agg #[.pointer none,.map (some rn),.map (some rw)],.int .i64 1]/\L'=Y++L:=by
 refine yF Tryz.f128 ?_
 refine yX 1 ?_
 refine yN fun r2=>?_
 refine yX 4 ?_
 refine yA yH (Eb n h) ?_
 rintro u L' ⟨rfl,rfl⟩
 refine yX 9 ?_
 refine yM (f5 rfl rfl rfl) fun rn=>?_
 refine yM (f5 rfl rfl rfl) fun rw=>?_
 refine yX 5 ?_
 refine xT ⟨_,cN 2 rfl rfl rfl rfl rfl,?_⟩
 exact⟨rn,rw,[_,_,_],rfl,rfl⟩
variable{F:RL}
theorem HC (n:Nat)(hn:n<=32768):CS Tryz.prog 88 [.int .i64 (n:Nat)] F fun u L'=>∃ ro rf rb rt rn rw,u=.tuple #[ptr ro,.int .i64 0]/\TR ⟨rf,rb,rt,rn,rw,n,-1,0,rY⟩ ((ro,bO rt)::F) [] ⟨rY,-1,0⟩ L':=by
 refine yF Tryz.f88 ?_
 refine yX 6 ?_
 refine yA yH (yw n hn) ?_
 rintro u L' ⟨rf,rb,rn,rw,x,rfl,rfl⟩
 refine yX 4 ?_
 refine yN fun r4=>?_
 refine yX 11 ?_
 refine yN fun r6=>?_
 refine yX 7 ?_
 refine yN fun rt=>?_
 refine yX 1 ?_
 refine yN fun ro=>?_
 refine yX 3 ?_
 refine LS.sub (ar.sums2 ([(r6,.cells 152 [.int .i64 (-1),.int .i64 0]),(r4,.cells 150 [ptr rf,.map (some rn),.map (some rw)]),x]) (A:=HD rf rb rt rn rw (List.replicate n false) (-1) 0 (-1) 0 [] 0 [] 0 (((ro,bO rt)::F)++[])) (B:=(ro,bO rt)::(rt,bS rf rn rw (-1) 0 (-1) 0)::(r6,.cells 152 [.int .i64 (-1),.int .i64 0])::(r4,.cells 150 [ptr rf,.map (some rn),.map (some rw)])::(rw,.map [] 0)::(rn,.map [] 0)::fm rf rb (List.replicate n false) (x::F)) fun f=>by simp[HD,fm]<;>omega) ?_
 refine yX 1 ?_
 exact⟨ro,rf,rb,rt,rn,rw,rfl,_,_,_,_,_,by simp,rfl,JO hn⟩
theorem Ae (n:Int)(h:n<0∨32768<n):CS Tryz.prog 88 [.int .i64 n] F fun u L'=>u=.tuple #[.pointer none,.int .i64 1]/\L'=F:=by
 suffices g:CS Tryz.prog 88 [.int .i64 n] F fun u L'=>u=.tuple #[.pointer none,.int .i64 1]/\∃ Y,L'=Y++F by
  refine g.less ?_
  rintro u L' ⟨rfl,Y,rfl⟩
  exact⟨F,ar.suffix,rfl,rfl⟩
 refine yF Tryz.f88 ?_
 refine yX 6 ?_
 refine yA yH (rS n h) ?_
 rintro u L' ⟨rn,rw,Y,rfl,rfl⟩
 refine yX 4 ?_
 refine yN fun r4=>?_
 refine yV 7 ?_
 refine xC rfl ?_ ?_ <;> intro hc
 ·refine yX 6 ?_
  exact⟨rfl,_::Y,rfl⟩
 cases hc
theorem vJ {s:fD}{L:RL}{ro:Nat}{key:Tx}{P:List Pr}(htr:TR c G X s L)(ho:(ro,bO c.rt)∈L)(hg:dI s.m s.root P)(hcnt:s.cnt=P.length):CS Tryz.prog 70 [ptr ro,bb key] L fun u L'=>u=mT P key/\L'=L:=by
 refine yF Tryz.f70 ?_
 refine yX 6 ?_
 refine yA yH (By htr ho) ?_
 rintro u L' ⟨rfl,rfl⟩
 refine yX 1 ?_
 rcases hg with ⟨_,_,rfl⟩|⟨H,t,hw,hok,hs,hkv⟩
 ·rw[hcnt]
  refine yV 2 ?_
  refine xC rfl ?_ ?_ <;> intro hc
  ·refine yX 5 ?_
   exact⟨rfl,rfl⟩
  cases hc
 have hne:=si hok
 rw[hkv]at hne
 have hpos:0<P.length:=List.length_pos_iff.2 hne
 have hb:bc s.cnt 0=false:=by rw[aC];simp;omega
 refine yI hb ?_
 refine yX 7 ?_
 refine yR (aa ho rfl rfl rfl rfl) ?_
 refine yX 1 ?_
 refine yA yH (J4 htr hw hok hs) ?_
 rintro u L' ⟨rfl,rfl⟩
 rw[hkv]
 refine yX 1 ?_
 have hv:∃ a b,mT P key=.tuple #[a,b]:=by
  unfold mT
  split <;> exact⟨_,_,rfl⟩
 obtain⟨a,b,hab⟩:=hv
 rw[hab]
 refine yX 6 ?_
 exact⟨rfl,rfl⟩
def FF(key val:Tx):Prop:=1<=key.length/\key.length<=32/\val.length<=64
def LE(c:jt)(G X:RL)(s:fD)(L:RL)(key val:Tx)(P:List Pr)(u:Value)(L':RL):Prop :=
 (¬ FF key val/\u=.int .i64 1/\L'=L)∨(FF key val/\cq c.N s.m<16/\u=.int .i64 3/\L'=L) ∨
 (FF key val/\16<=cq c.N s.m/\u=.int .i64 0/\∃ X' m' root',(∀ q,q∈X->q∈X')/\TR c G X' ⟨m',root',((gU key val P).length:Nat)⟩ L'/\dI m' root' (gU key val P)/\Eo c.N m' (gU key val P))
set_option maxHeartbeats 1000000 in
theorem HB {s:fD}{L:RL}{ro:Nat}{key val:Tx}{P:List Pr}(htr:TR c G X s L)(ho:(ro,bO c.rt)∈L)(hg:dI s.m s.root P)(hcnt:s.cnt=P.length)(hP:P.length<=100000000)(hk:key.length<=9000000000000000)(hv:val.length<=9000000000000000) :
  CS Tryz.prog 58 [ptr ro,bb key,bb val] L (LE c G X s L key val P):=by
 refine yF Tryz.f58 ?_
 refine yV 3 ?_
 refine LS.mid [0,1,2] (fun a' L'=>L'=L/\FF key val/\16<=cq c.N s.m/\a'=[ptr ro,bb key,bb val,yC,yC,yC,yC,yC,yC,yC,yC,yC,yC,yC,yC,yC,yC,yC,yC,yC,yC,yC,yC,yC,yC,yC,yC,yC,yC,yC,yC,yC,yC,yC,yC]) ?_ ?_
 ·refine yX 3 ?_
  refine yA yH (fE ho) ?_
  rintro u L' ⟨rfl,rfl⟩
  refine yX 4 ?_
  by_cases h0:key.length=0
  ·have hb:bc ((key.length:Nat):Int) 0=true:=by rw[h0];rfl
   refine yX 3 ?_
   refine yI hb ?_
   refine yV 12 ?_
   refine xC rfl ?_ ?_ <;> intro hc
   ·refine yX 4 ?_
    exact .inl ⟨fun h=>by have:=h.1;omega,rfl,rfl⟩
   cases hc
  have hb:bc ((key.length:Nat):Int) 0=false:=by rw[aC];simp;intro hh;exact h0 (by rw[hh];rfl)
  by_cases h1:32<key.length
  ·have hb1:(!av ((key.length:Nat):Int) 32)=true:=by rw[am,decide_eq_false (by omega)];rfl
   refine yX 3 ?_
   refine yI hb ?_
   refine yX 3 ?_
   refine yI hb1 ?_
   refine yV 8 ?_
   refine xC rfl ?_ ?_ <;> intro hc
   ·refine yX 4 ?_
    exact .inl ⟨fun h=>by have:=h.2.1;omega,rfl,rfl⟩
   cases hc
  have hb1:(!av ((key.length:Nat):Int) 32)=false:=by rw[am,decide_eq_true (by omega)];rfl
  by_cases h2:64<val.length
  ·have hb2:(!av ((val.length:Nat):Int) 64)=true:=by rw[am,decide_eq_false (by omega)];rfl
   refine yX 3 ?_
   refine yI hb ?_
   refine yX 3 ?_
   refine yI hb1 ?_
   refine yX 4 ?_
   refine yI hb2 ?_
   refine yV 3 ?_
   refine xC rfl ?_ ?_ <;> intro hc
   ·refine yX 4 ?_
    exact .inl ⟨fun h=>by have:=h.2.2;omega,rfl,rfl⟩
   cases hc
  have hb2:(!av ((val.length:Nat):Int) 64)=false:=by rw[am,decide_eq_true (by omega)];rfl
  have hmay:FF key val:=⟨by omega,by omega,by omega⟩
  refine yX 3 ?_
  refine yI hb ?_
  refine yX 3 ?_
  refine yI hb1 ?_
  refine yX 4 ?_
  refine yI hb2 ?_
  refine yX 6 ?_
  refine yA yH (qN htr ho) ?_
  rintro u L' ⟨rfl,rfl⟩
  refine yX 1 ?_
  by_cases h3:cq c.N s.m<16
  ·have hb3:(!av 16 ((cq c.N s.m:Nat):Int))=true:=by rw[am,decide_eq_false (by omega)];rfl
   refine yI hb3 ?_
   refine yV 2 ?_
   refine xC rfl ?_ ?_ <;> intro hc
   ·refine yX 4 ?_
    exact .inr (.inl ⟨hmay,h3,rfl,rfl⟩)
   cases hc
  have hb3:(!av 16 ((cq c.N s.m:Nat):Int))=false:=by rw[am,decide_eq_true (by omega)];rfl
  refine yI hb3 ?_
  refine yX 4 ?_
  exact⟨rfl,hmay,by omega,rfl⟩
 rintro a' L1 ⟨rfl,hmay,hfr,rfl⟩
 refine yX 4 ?_
 refine yR (aa ho rfl rfl rfl rfl) ?_
 refine yX 2 ?_
 refine yA yH (JK htr hg hcnt hfr hmay.1 hmay.2.1 hmay.2.2 hP) ?_
 rintro u L' h
 refine yX 6 ?_
 exact .inr (.inr ⟨hmay,hfr,rfl,h⟩)
def LH(c:jt)(G X:RL)(s:fD)(L:RL)(key:Tx)(P:List Pr)(u:Value)(L':RL):Prop :=
 (mU P key=none/\u=.int .i64 5/\L'=L)∨(mU P key≠none/\u=.int .i64 0/\∃ X' m' root',(∀ q,q∈X->q∈X')/\TR c G X' ⟨m',root',((kM key P).length:Nat)⟩ L'/\dI m' root' (kM key P)/\Eo c.N m' (kM key P))
theorem HE {s:fD}{L:RL}{ro:Nat}{key:Tx}{P:List Pr}(htr:TR c G X s L)(ho:(ro,bO c.rt)∈L)(hg:dI s.m s.root P)(hcnt:s.cnt=P.length)(hP:P.length<=100000000) :
  CS Tryz.prog 63 [ptr ro,bb key] L (LH c G X s L key P):=by
 refine yF Tryz.f63 ?_
 refine yX 5 ?_
 refine yA yH (fE ho) ?_
 rintro u L' ⟨rfl,rfl⟩
 refine yX 7 ?_
 refine yA yH (vJ htr ho hg hcnt) ?_
 rintro u L' ⟨rfl,rfl⟩
 refine yX 1 ?_
 cases hgk:mU P key with
 | none =>
  have hv:mT P key=.tuple #[bb [],.bool false]:=by unfold mT;rw[hgk]
  rw[hv]
  refine yV 10 ?_
  refine xC rfl ?_ ?_ <;> intro hc
  ·refine yX 4 ?_
   exact .inl ⟨hgk,rfl,rfl⟩
  cases hc
 | some v =>
  have hv:mT P key=.tuple #[bb v,.bool true]:=by unfold mT;rw[hgk]
  rw[hv]
  refine yX 16 ?_
  refine yR (aa ho rfl rfl rfl rfl) ?_
  refine yX 1 ?_
  refine yA yH (Kp htr hg hcnt hP (by rw[hgk];simp)) ?_
  rintro u L' h
  refine yX 6 ?_
  exact .inr ⟨by rw[hgk];simp,rfl,h⟩
end Go.Proofs.YtoaojmobnbbnmaaGreat
