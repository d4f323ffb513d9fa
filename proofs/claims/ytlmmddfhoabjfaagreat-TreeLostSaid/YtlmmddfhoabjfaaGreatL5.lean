/- What the proofs lean on, part 5. -/
import Derived.Test.YtlmmddfhoabjfaaGreatL4
set_option linter.unusedVariables false
set_option maxRecDepth 20000
section
namespace Go.Proofs.YtlmmddfhoabjfaaGreat
open Go.Am
def Lz {h:Nat} (t:Tr h):Prop:=Emp t∨(Bg (nd h t)/\(bodyN (nd h t)).length<=354/\Kok h t/\((nd h t).ks≠[]∨(nd h t).leaf=false))
theorem Okt.lz:∀ {h:Nat} {t:Tr h},Okt h t->Lz t
 | 0,t,hk=>by
  obtain ⟨p,ks,vs,rfl⟩:=lf_eta t
  exact .inr ⟨Bg.of hk.fits,by have:=fits_le hk.fits; omega,hk.kok,.inl hk.2⟩
 | h+1,t,hk=>.inr ⟨Bg.of hk.fits,by have:=fits_le hk.fits; omega,hk.kok,.inr rfl⟩
theorem big_full {n:Nd} (hb:Bg n) (hne:n.ks≠[]∨n.leaf=false):¬ (n.vs=[]/\n.kids=[]):=fun ⟨h1,h2⟩=>by
 rcases may_good hb.may with ⟨g1,g2,g3⟩ | ⟨g1,g2,g3⟩
 ·rw [h1] at g2
  rcases hne with h | h
  ·exact h (List.eq_nil_of_length_eq_zero (by simpa using g2.symm))
  ·rw [g1] at h; cases h
 ·rw [h2] at g2; simp at g2
theorem drop_at {h:Nat} {A B:List Tx} {k:Tx} {L R:List (Tr h)} {l t:Tr h} (hl:A.length=L.length):dropN ⟨false,(A++[k])++B,[],nos ((L++[l])++t::R)⟩ (L++[l]).length=⟨false,A++B,[],nos (L++l::R)⟩:=by
 have e1:((A++[k])++B).eraseIdx ((L++[l]).length - 1)=A++B:=by
  have:(L++[l]).length - 1=A.length:=by simp; omega
  rw [this,List.append_assoc,List.eraseIdx_append_of_length_le (Nat.le_refl _)]
  simp
 have e2:(nos ((L++[l])++t::R)).eraseIdx (L++[l]).length=nos (L++l::R):=by
  unfold nos
  rw [List.map_append,List.eraseIdx_append_of_length_le (by simp)]
  simp
 unfold dropN
 rw [e1,e2]
theorem drop_via {m:Mem} {h p:Nat} {A B:List Tx} {L R:List (Tr h)} {t:Tr h} (hl:A.length=L.length) (hB:B.length=R.length) (hr:RepT m (h+1) (inn p (A++B) (L++t::R))) (hn:(pgs (h+1) (inn p (A++B) (L++t::R))).Nodup) (he:Emp t) (hb:Bg ⟨false,A++B,[],nos (L++t::R)⟩) (hok:∀ q∈L++R,Okt h q) :
  ∃ ks' ts',dropN ⟨false,A++B,[],nos (L++t::R)⟩ L.length=⟨false,ks',[],nos ts'⟩/\Via m (updM (updM m (no h t) none) p (some ⟨false,ks',[],nos ts'⟩)) (inn p (A++B) (L++t::R)) (inn p ks' ts')/\(∀ q∈ts',Okt h q)/\((ks'=[]/\ts'=[])∨(Bg ⟨false,ks',[],nos ts'⟩/\(bodyN ⟨false,ks',[],nos ts'⟩).length<=(bodyN ⟨false,A++B,[],nos (L++t::R)⟩).length)):=by
 have hseg:∀ (K':List Tx),SQ (sq (h+1) (inn p (A++B) (L++t::R))) (sq (h+1) (inn p K' (L++R)))->Via m (updM (updM m (no h t) none) p (some ⟨false,K',[],nos (L++R)⟩)) (inn p (A++B) (L++t::R)) (inn p K' (L++R)):=fun K' hsq =>
  Via.seg (K:=A++B) (K':=K') (L:=L) (M:=[t]) (M':=[]) (R:=R) hr hn (by simpa using emp_chg he) (fun s hs=>by cases hs) hsq
 have hst:=emp_sq he
 rcases List.eq_nil_or_concat L with rfl | ⟨L,l,rfl⟩
 ·have hA:A=[]:=List.eq_nil_of_length_eq_zero (by simpa using hl)
  subst hA
  cases R with
  | nil =>
   have hBn:B=[]:=List.eq_nil_of_length_eq_zero (by simpa using hB)
   subst hBn
   refine ⟨[],[],rfl,hseg [] (SQ.of ?_),fun q hq=>(by cases hq),.inl ⟨rfl,rfl⟩⟩
   show wv [] [sq h t]=wv [] []
   rw [hst]; rfl
  | cons r R =>
   cases B with
   | nil=>simp at hB
   | cons k B =>
    refine ⟨B,r::R,rfl,hseg B ?_,fun q hq=>hok q (by simpa using hq),.inr (first_Less (k:=k) (t:=t) hb)⟩
    have h1:sq (h+1) (inn p ([]++k::B) ([]++t::r::R))=sq h t++It.S k::(sq h r++postI B (R.map (sq h))):=rfl
    rw [h1,hst]
    exact SQ.drop (a:=[])
 ·rw [List.concat_eq_append] at *
  rcases List.eq_nil_or_concat A with rfl | ⟨A,k,rfl⟩
  ·simp at hl
  rw [List.concat_eq_append] at *
  have hl':A.length=L.length:=by simpa using hl
  have hd:=drop_at (B:=B) (k:=k) (R:=R) (l:=l) (t:=t) hl'
  refine ⟨A++B,L++l::R,hd,?_,fun q hq=>hok q (by simpa [or_assoc] using hq),.inr ?_⟩
  ·have h1:=hseg (A++B) (by
    have e2:sq (h+1) (inn p (A++B) ((L++[l])++R))=preI A (L.map (sq h))++(sq h l++postI B (R.map (sq h))):=by
     rw [List.append_assoc]; exact sq_at hl'
    rw [sq_at (by simpa using hl),e2,hst]
    have e3:preI (A++[k]) ((L++[l]).map (sq h))=preI A (L.map (sq h))++(sq h l++[It.S k]):=by
     rw [List.map_append,preI_app (by simpa using hl')]; rfl
    rw [e3]
    have:=SQ.drop (a:=preI A (L.map (sq h))++sq h l) (b:=postI B (R.map (sq h))) (k:=k)
    simpa only [List.append_assoc,List.cons_append,List.nil_append] using this)
   rw [List.append_assoc] at h1
   exact h1
  ·have h2:=without_Less (n:=⟨false,(A++[k])++B,[],nos ((L++[l])++t::R)⟩) (i:=A.length) (by simp) hb
   have h3:withoutN ⟨false,(A++[k])++B,[],nos ((L++[l])++t::R)⟩ A.length=⟨false,A++B,[],nos (L++l::R)⟩:=by
    have:=hd
    unfold dropN at this
    unfold withoutN
    have e1:(L++[l]).length - 1=A.length:=by simp; omega
    have e2:(L++[l]).length=A.length+1:=by simp; omega
    rw [e1,e2] at this
    simpa using this
   rw [h3] at h2
   exact h2
end Go.Proofs.YtlmmddfhoabjfaaGreat
end
section
namespace Go.Proofs.YtlmmddfhoabjfaaGreat
open Go.Am
theorem kids_at {h p:Nat} {ks:List Tx} {ts:List (Tr h)} {m:Mem} (hr:RepT m (h+1) (inn p ks ts)) {s:Tr h} (hs:s∈ts):m (no h s)=some (nd h s):=((rep_inn.1 hr).2 s hs).top
def Sml {h:Nat} (t:Tr h):Prop:=Emp t∨(bodyN (nd h t)).length<=256
def MPost (c:Cfg) (G X:RL) (s:TSt) {h:Nat} (sm:Prop) (p:Nat) (ks:List Tx) (ts:List (Tr h)) (L':RL):Prop :=
 ∃ X' m' ks' ts',(∀ q,q∈X->q∈X')/\TR c G X' ⟨m',s.root,s.cnt⟩ L'/\Via s.m m' (inn p ks ts) (inn p ks' ts')/\(∀ q∈ts',Okt h q)/\((ks'=[]/\ts'=[])∨(Bg ⟨false,ks',[],nos ts'⟩/\(bodyN ⟨false,ks',[],nos ts'⟩).length<=292))/\frM c.N s.m<=frM c.N m'+1/\(sm->frM c.N s.m<=frM c.N m'/\(ts'≠[]->(bodyN ⟨false,ks',[],nos ts'⟩).length<=256))
theorem MPost.lz {c:Cfg} {G X:RL} {s:TSt} {h p:Nat} {ks:List Tx} {ts:List (Tr h)} {L':RL} {sm:Prop} (hm:MPost c G X s sm p ks ts L'):∃ X' m' ks' ts',(∀ q,q∈X->q∈X')/\TR c G X' ⟨m',s.root,s.cnt⟩ L'/\Via s.m m' (inn p ks ts) (inn p ks' ts')/\Lz (inn p ks' ts')/\(∀ q∈ts',Okt h q)/\frM c.N s.m<=frM c.N m'+1/\(sm->frM c.N s.m<=frM c.N m'/\Sml (inn p ks' ts')):=by
 obtain ⟨X',m',ks',ts',h1,h2,h3,h4,h5,h6,h8⟩:=hm
 refine ⟨X',m',ks',ts',h1,h2,h3,?_,h4,h6,fun hs=>⟨(h8 hs).1,?_⟩⟩
 rotate_left
 ·by_cases ht:ts'=[]
  ·rcases h5 with ⟨rfl,rfl⟩ | ⟨h5,_⟩
   ·exact .inl ⟨rfl,rfl,rfl⟩
   ·have:=bg_len h5
    rw [ht] at this
    simp at this
  ·exact .inr ((h8 hs).2 ht)
 rcases h5 with ⟨rfl,rfl⟩ | ⟨h5,h7⟩
 ·exact .inl ⟨rfl,rfl,rfl⟩
 ·exact .inr ⟨h5,by show (bodyN ⟨false,ks',[],nos ts'⟩).length<=354; omega,h4,.inr rfl⟩
set_option maxHeartbeats 4000000 in
theorem mendKid_tr {c:Cfg} {G X:RL} {s:TSt} {rows:RL} {h p:Nat} {A B:List Tx} {L R:List (Tr h)} {t:Tr h} (htr:TR c G X s rows) (hl:A.length=L.length) (hB:B.length=R.length) (hr:RepT s.m (h+1) (inn p (A++B) (L++t::R))) (hn:(pgs (h+1) (inn p (A++B) (L++t::R))).Nodup)
  (hfit:fitsN ⟨false,A++B,[],nos (L++t::R)⟩=true) (hok:∀ q∈L++R,Okt h q) (hsrt:Srt (sq (h+1) (inn p (A++B) (L++t::R)))) (hlz:Lz t) (hf:256 < (bodyN (nd h t)).length->0 < frM c.N s.m) :
  CS Tryz.prog 107 [ptr c.rt,.int .i64 (p:Nat),.int .i64 (L.length:Nat)] rows fun _ L'=>MPost c G X s (Sml t) p (A++B) (L++t::R) L':=by
 suffices g:CS Tryz.prog 107 [ptr c.rt,.int .i64 (p:Nat),.int .i64 (L.length:Nat)] rows fun _ L'=>∃ x,MPost c (x::G) X s (Sml t) p (A++B) (L++t::R) L' by
  refine g.less ?_
  rintro u L' ⟨x,X',m',ks',ts',h1,h2,h3⟩
  obtain ⟨L1,g1,s1⟩:=h2.pop
  exact ⟨L1,s1,X',m',ks',ts',h1,g1,h3⟩
 have hmp:s.m p=some ⟨false,A++B,[],nos (L++t::R)⟩:=hr.top
 have hmt:s.m (no h t)=some (nd h t):=kids_at hr (by simp)
 have hpt:p≠no h t:=fun he=>by
  rw [pgs_at,List.nodup_append] at hn
  exact hn.2.2 p (List.mem_cons_self ..) (no h t) (List.mem_append_left _ no_mem) he
 have hbp:=Bg.of hfit
 have hkp:=hbp.keys
 simp only at hkp
 have hle:=bg_len hbp
 have hL119:L.length<=119:=by simp only [List.length_append] at hkp; omega
 have spar:=htr.sm _ _ hmp
 have st:=htr.sm _ _ hmt
 have dp:=htr.dom p (by rw [hmp]; simp)
 have dt:=htr.dom _ (show s.m (no h t)≠none by rw [hmt]; simp)
 have hN32:=htr.N
 obtain ⟨T,es,ck,ws,wk,g,rfl,hN,hp,hgm,hmr⟩:=htr.now
 obtain ⟨r,hgr0,v1,v2,v3,hr1,hP⟩:=(hmr p).2 _ hmp
 have hgr:(g p).getD (.pointer none)=ptr r:=by rw [hgr0]; rfl
 obtain ⟨ra,hga,va1,va2,va3,hra,hPa⟩:=(hmr (no h t)).2 _ hmt
 have ega:(g (no h t)).getD (.pointer none)=ptr ra:=by rw [hga]; rfl
 refine CS.mk (fn:=Tryz.f107) rfl rfl rfl rfl ?_
 repeat refine xQ ?_
 refine xG rfl ?_
 refine OS.fresh rfl (e_boxV (v:=.int .i64 (L.length:Nat)) (cs:=[.int .i64 (L.length:Nat)]) rfl rfl rfl rfl rfl) (fun _=>rfl) (fun r5=>?_)
 refine OS.sub Sub.inQ ?_
 refine xN ?_
 have hXB:∀ q,q∈X->q∈HD c.rf c.rb c.rt c.rn c.rw T s.root s.cnt c.root0 c.cnt0 es ck ws wk ((r5,iRow (L.length:Nat))::(G++X)):=fun q hq=>by simp [hq]
 have m5:(r5,iRow (L.length:Nat))∈HD c.rf c.rb c.rt c.rn c.rw T s.root s.cnt c.root0 c.cnt0 es ck ws wk ((r5,iRow (L.length:Nat))::(G++X)):=by simp
 have mrt:(c.rt,trRow c.rf c.rn c.rw s.root s.cnt c.root0 c.cnt0)∈HD c.rf c.rb c.rt c.rn c.rw T s.root s.cnt c.root0 c.cnt0 es ck ws wk ((r5,iRow (L.length:Nat))::(G++X)):=by simp
 have mmap:(c.rn,ARow.map es ck)∈HD c.rf c.rb c.rt c.rn c.rw T s.root s.cnt c.root0 c.cnt0 es ck ws wk ((r5,iRow (L.length:Nat))::(G++X)):=by simp
 have m1:=hXB _ hr1
 have ma:=hXB _ hra
 have N1:=hP.nv spar hXB
 have Na:=hPa.nv st hXB
 simp only at N1 m1
 repeat refine xQ ?_
 refine LS.drawn noGo mixed [(0,false),(1,false),(2,false),(3,false),(4,false),(5,false),(6,false),(7,false),(8,false),(9,false),(10,false),(11,false),(12,false),(13,false)] rfl rfl (by kernel_rfl) ?_
 iterate 4 refine xD rfl rfl rh rfl ?_
 refine xE rfl rfl (e_loadm mrt rfl rfl rfl rfl) rfl ?_
 refine xD rfl rfl rh rfl ?_
 refine xE rfl rfl (e_get hgm mmap rfl rfl rfl rfl (fun _=>rfl) rfl) rfl ?_
 rw [hgr]
 iterate 2 refine xD rfl rfl rh rfl ?_
 refine xE rfl rfl (e_loadm m1 rfl rfl rfl rfl) rfl ?_
 refine xE rfl rfl (e_loadm m5 rfl rfl rfl rfl) rfl ?_
 refine ODS.at1 (j:=L.length) (N1.z) (nos_at) rfl rfl rfl rfl rfl rfl rfl (fun ra0 oa0 rowa0 csa0 ma0 ca0 ga0=>⟨_,rfl,?_⟩)
 refine xE rfl rfl (e_loadm ma0 ca0 rfl rfl (part_one rfl ga0)) rfl ?_
 refine xD rfl rfl rh rfl ?_
 refine xM ?_
 repeat refine xQ ?_
 refine xG rfl ?_
 iterate 4 refine xP rfl rh rfl ?_
 refine xR rfl (e_loadm mrt rfl rfl rfl rfl) rfl ?_
 refine xP rfl rh rfl ?_
 refine xR rfl (e_get hgm mmap rfl rfl rfl rfl (fun _=>rfl) rfl) rfl ?_
 rw [ega]
 refine xP rfl rh rfl ?_
 refine xN ?_
 have htr1:TR c ((r5,iRow (L.length:Nat))::G) X s (HD c.rf c.rb c.rt c.rn c.rw T s.root s.cnt c.root0 c.cnt0 es ck ws wk ((r5,iRow (L.length:Nat))::(G++X))):=⟨T,es,ck,ws,wk,hN,rfl,hp⟩
 repeat refine xQ ?_
 refine LS.mid [0,1,5] (fun a' L'=>(∃ X1 m1 ks1 ts1,(∀ q,q∈X->q∈X1)/\TR c ((r5,iRow (L.length:Nat))::G) X1 ⟨m1,s.root,s.cnt⟩ L'/\Via s.m m1 (inn p (A++B) (L++t::R)) (inn p ks1 ts1)/\(∀ q∈ts1,Okt h q)/\((ks1=[]/\ts1=[])∨(Bg ⟨false,ks1,[],nos ts1⟩/\(bodyN ⟨false,ks1,[],nos ts1⟩).length<=292))/\frM c.N s.m<=frM c.N m1+1/\(Sml t->frM c.N s.m<=frM c.N m1/\(ts1≠[]->(bodyN ⟨false,ks1,[],nos ts1⟩).length<=256)))/\a'=[ptr c.rt,.int .i64 (p:Nat),jn,jn,jn,ptr r5,jn,jn,jn,jn,jn,jn,jn,jn,jn,jn,jn,jn,jn,jn,jn,jn,jn,jn,jn,jn,jn,jn,jn,jn,jn,jn,jn,jn,jn,jn,jn,jn,jn,jn,jn,jn,jn,jn,jn,jn,jn,jn,jn,jn,jn,jn,jn,jn,jn,jn,jn,jn,jn,jn,jn]) ?_ ?_
 ·refine LS.block ?_
  repeat refine xQ ?_
  refine xG rfl ?_
  refine xP rfl rh rfl ?_
  refine xA noGo rfl (fun _=>rfl) ((isEmpty_ct (X:=X) hXB ⟨va1,va2,va3,hra,hPa⟩ st).mono ?_)
  rintro u L' ⟨rfl,rfl⟩
  refine ⟨_,rfl,?_⟩
  refine xP rfl rh rfl ?_
  refine xN ?_
  rcases hlz with he | ⟨hb,hbl,hkok,hne⟩
  ·rw [decide_eq_true ⟨he.1,he.2.1⟩]
   repeat refine xQ ?_
   refine xC rfl (fun hc=>?_) (fun hc=>?_)
   ·obtain ⟨ks',ts',hdrop,hvia,hok',hor⟩:=drop_via hl hB hr hn he hbp hok
    repeat refine xQ ?_
    refine xG rfl ?_
    iterate 4 refine xP rfl rh rfl ?_
    refine xA noGo rfl (fun _=>rfl) ((lay_tr (o:=none) htr1 dt rfl (fun n hn=>by cases hn)).mono ?_)
    rintro u L1 h1
    refine ⟨_,rfl,?_⟩
    refine xN ?_
    have hm1:updM s.m (no h t) none p=some ⟨false,A++B,[],nos (L++t::R)⟩:=by unfold updM; rw [if_neg hpt]; exact hmp
    have hsn:Sm ⟨false,ks',[],nos ts'⟩:=by
     rcases hor with ⟨rfl,rfl⟩ | ⟨hb',_⟩
     ·exact ⟨by simp,by simp,by simp [nos],fun k hk=>(by cases hk),fun k hk=>(by cases hk)⟩
     ·exact hb'.sm
    have hkk:A++B=[]∨L.length - 1 < (A++B).length:=by
     simp only [List.length_append] at hle
     by_cases h0:A++B=[]
     ·exact .inl h0
     ·refine .inr ?_
      have:0 < (A++B).length:=List.length_pos_iff.2 h0
      simp only [List.length_append,List.length_cons] at this hle ⊢
      omega
    repeat refine xQ ?_
    refine xG rfl ?_
    iterate 5 refine xP rfl rh rfl ?_
    refine xA noGo rfl (fun _=>rfl) ((change_tr (caps:=[ptr r5]) (n':=⟨false,ks',[],nos ts'⟩) h1 hm1 hsn (hdrop ▸ drop_chn (i:=L.length) (List.mem_cons_self ..) spar (by simp [nos]) hkk)).mono ?_)
    rintro u L2 ⟨X2,hX2,h2⟩
    refine ⟨_,rfl,?_⟩
    refine xN ?_
    have f1:=frM_upd (m:=s.m) (o:=none) dt
    rw [hmt] at f1
    have f2:=frM_same (n':=⟨false,ks',[],nos ts'⟩) dp hm1
    simp at f1
    refine ⟨⟨X2,_,ks',ts',hX2,h2,hvia,hok',?_,by simp only; omega,fun _=>⟨by simp only; omega,fun hne=>?_⟩⟩,rfl⟩
    ·rcases hor with h | ⟨h,h'⟩
     ·exact .inl h
     ·exact .inr ⟨h,by have:=fits_le hfit; omega⟩
    ·rcases hor with h | ⟨h,h'⟩
     ·exact absurd h.2 hne
     ·have:=fits_le hfit; omega
   ·cases hc
  ·rw [decide_eq_false (big_full hb hne)]
   repeat refine xQ ?_
   refine xC rfl (fun hc=>?_) (fun hc=>?_)
   ·cases hc
   repeat refine xQ ?_
   refine xG rfl ?_
   iterate 2 refine xP rfl rh rfl ?_
   refine xR rfl (e_loadm ma rfl rfl rfl rfl) rfl ?_
   refine xA noGo rfl (fun _=>rfl) ((Size_ct Na (by have:=st.k; omega)).mono ?_)
   rintro u L' ⟨rfl,rfl⟩
   refine ⟨_,rfl,?_⟩
   rw [show sizeV (nd h t)=.int .i64 (sizeN (nd h t):Nat) from rfl,hb.size]
   by_cases hbig:256 < (bodyN (nd h t)).length
   ·have hb1:(!ileB ((bodyN (nd h t)).length:Nat) 256)=true:=by rw [ileB_eq,decide_eq_false (by omega)]; rfl
    refine xP rfl (e_ib rh (hb1)) rfl ?_
    refine xP rfl rh rfl ?_
    refine xN ?_
    repeat refine xQ ?_
    refine xC rfl (fun hc=>?_) (fun hc=>?_)
    ·obtain ⟨q0,hq1,hq2,hq3⟩:=cut_some hb hbig hbl
     repeat refine xQ ?_
     refine xG rfl ?_
     iterate 2 refine xP rfl rh rfl ?_
     refine xR rfl (e_loadm m5 rfl rfl rfl rfl) rfl ?_
     refine xA noGo rfl (fun _=>rfl) ((split_tr htr1 hl hB hr hn (by omega) (may_good hb.may) (by omega) (hf hbig)).mono ?_)
     rintro u L1 ⟨X1,m1',q,key,p2,g1,g2,g3,g4,g5,g6,g7,g8⟩
     refine ⟨_,rfl,?_⟩
     refine xN ?_
     have hqk:=(List.getElem?_eq_some_iff.1 g2).1
     have hmx:=Nat.le_trans (g3 q0 hq1 hq2) hq3
     unfold mxN at hmx
     have okl:Okt h (splL h t q):=ok_splL hkok g1 hqk (fits_of_size (cutL_may hb.may hqk) (by omega))
     have okr:Okt h (splR h t q p2):=ok_splR hkok hqk (fits_of_size (cutR_may hb.may hqk) (by omega))
     have hkey:=may_keys hb.may key (List.mem_of_getElem? g2)
     have hpages:∀ x∈L++t::R,no h x<=32768:=fun x hx=>by
      have:=htr1.dom (no h x) (by rw [kids_at hr hx]; simp)
      omega
     have hmay:mayN ⟨false,A++key::B,[],nos (L++splL h t q::splR h t q p2::R)⟩=true:=by
      refine may_inn (g7.sv.to hsrt) (by simp at hle ⊢; omega) (fun k hk=>?_) (fun x hx=>?_)
      ·simp only [List.mem_append,List.mem_cons] at hk
       rcases hk with hk | rfl | hk
       ·exact may_keys hbp.may k (by simp [hk])
       ·exact hkey
       ·exact may_keys hbp.may k (by simp [hk])
      ·simp only [List.mem_append,List.mem_cons] at hx
       rcases hx with hx | rfl | rfl | hx
       ·exact hpages x (by simp [hx])
       ·rw [no_splL]; exact hpages t (by simp)
       ·rw [no_splR]; omega
       ·exact hpages x (by simp [hx])
     have hsz:=ins_body (h:=h) (key:=key) (t:=t) (u:=splL h t q) (v:=splR h t q p2) hl hB (by omega) hkey.2 no_splL (by rw [no_splR]; omega)
     have hsz2:=fits_le hfit
     have hloc1:Loc m1' p (A++key::B) (L++splL h t q::splR h t q p2::R):=⟨g7.rep,g7.chg.nd,fun x hx=>by
      simp only [List.mem_append,List.mem_cons] at hx
      rcases hx with hx | rfl | rfl | hx
      ·exact hok x (by simp [hx])
      ·exact okl
      ·exact okr
      ·exact hok x (by simp [hx]),.inl ⟨hmay,by omega⟩⟩
     have m5':=g6.memG _ (List.mem_cons_self ..)
     repeat refine xQ ?_
     refine xG rfl ?_
     iterate 2 refine xP rfl rh rfl ?_
     refine xR rfl (e_loadm m5' rfl rfl rfl rfl) rfl ?_
     refine xP rfl (e_addN (n:=1) rfl rfl rfl (in_i64 (by omega) (by omega))) rfl ?_
     refine xA noGo rfl (fun _=>rfl) ((settle_any (i:=((L.length+1:Nat):Int)) g6 hloc1 (by omega) (by omega)).mono ?_)
     rintro u L2 ⟨X2,m2,ks2,ts2,e1,e2,e3,e4,e5,e6,e7,e8⟩
     refine ⟨_,rfl,?_⟩
     refine xN ?_
     have hb2:=e5 ⟨hmay,by omega⟩
     refine ⟨⟨X2,m2,ks2,ts2,fun y hy=>e1 y (g5 y hy),e2,g7.trans e3,e4.ok,.inr ⟨hb2.1,by omega⟩,by simp only at e6 g8 ⊢; omega,fun hsm=>?_⟩,rfl⟩
     rcases hsm with h | h
     ·exact absurd ⟨h.1,h.2.1⟩ (big_full hb hne)
     ·omega
    ·cases hc
   ·have hb1:(!ileB ((bodyN (nd h t)).length:Nat) 256)=false:=by rw [ileB_eq,decide_eq_true (by omega)]; rfl
    refine xP rfl (e_ib rh (hb1)) rfl ?_
    refine xP rfl rh rfl ?_
    refine xN ?_
    repeat refine xQ ?_
    refine xC rfl (fun hc=>?_) (fun hc=>?_)
    ·cases hc
    refine LS.skip ?_
    have okt:Okt h t:=ok_of (hb.fits (by omega)) hkok hne
    refine ⟨⟨X,s.m,A++B,L++t::R,fun _ hq=>hq,htr1,Via.refl hr hn,fun x hx=>?_,.inr ⟨hbp,by have:=fits_le hfit; omega⟩,by omega,fun _=>⟨Nat.le_refl _,fun _=>fits_le hfit⟩⟩,rfl⟩
    simp only [List.mem_append,List.mem_cons] at hx
    rcases hx with hx | rfl | hx
    ·exact hok x (by simp [hx])
    ·exact okt
    ·exact hok x (by simp [hx])
 rintro a' L1 ⟨⟨X1,m1',ks1,ts1,g1,g2,g3,g4,g5,g6,g8⟩,rfl⟩
 have hloc1:Loc m1' p ks1 ts1:=⟨g3.rep,g3.chg.nd,g4,g5.symm.imp (fun h=>h.1) id⟩
 have m5':=g2.memG _ (List.mem_cons_self ..)
 repeat refine xQ ?_
 refine xG rfl ?_
 iterate 2 refine xP rfl rh rfl ?_
 refine xR rfl (e_loadm m5' rfl rfl rfl rfl) rfl ?_
 refine xA noGo rfl (fun _=>rfl) ((settle_any (i:=(L.length:Nat)) g2 hloc1 (by omega) (by omega)).mono ?_)
 rintro u L2 ⟨X2,m2,ks2,ts2,e1,e2,e3,e4,e5,e6,e7,e8⟩
 refine ⟨_,rfl,?_⟩
 refine xN ?_
 refine ⟨_,fun _ _=>rfl,(r5,iRow (L.length:Nat)),X2,m2,ks2,ts2,fun y hy=>e1 y (g1 y hy),e2,g3.trans e3,e4.ok,?_,by simp only at e6 ⊢; omega,fun hsm=>⟨Nat.le_trans (g8 hsm).1 e6,fun hne=>?_⟩⟩
 rotate_left
 ·have hne1:ts1≠[]:=fun hh=>hne (e8 hh).2
  rcases g5 with g5 | ⟨g5,_⟩
  ·exact absurd g5.2 hne1
  ·exact Nat.le_trans (e5 g5).2 ((g8 hsm).2 hne1)
 rcases g5 with ⟨rfl,rfl⟩ | ⟨g5,g7⟩
 ·exact .inl (e8 rfl)
 ·exact .inr ⟨(e5 g5).1,by have:=(e5 g5).2; omega⟩
end Go.Proofs.YtlmmddfhoabjfaaGreat
end
section
namespace Go.Proofs.YtlmmddfhoabjfaaGreat
open Go.Am
theorem e_build3 {a:Slots} {o:Oper} {i3:Operand} {v3:Value} (s3:IsSl v3) (ho:o.op=.build 38 #[(3,i3)]) (h3:aev a i3=some v3) :
  ∀ h,opB Tryz.prog a o h=some (.val (ndV false (.slice none 0 0) (.slice none 0 0) v3) h):=by
 intro h
 rcases s3 with rfl | ⟨r1,o1,n1,c1,rfl⟩ <;> (simp only [opB,ho,evParts,h3]; rfl)
structure Whole (m:Mem) (root:Int) {H:Nat} (t:Tr H):Prop where
 rep:RepT m H t
 nod:(pgs H t).Nodup
 out:∀ q,q ∉ pgs H t->m q=none
 rt:root=(no H t:Nat)
theorem Whole.via {m m':Mem} {root:Int} {H:Nat} {t t':Tr H} (w:Whole m root t) (v:Via m m' t t'):Whole m' root t':=by
 refine ⟨v.rep,v.chg.nd,fun q hq=>?_,by rw [w.rt,v.rt]⟩
 by_cases h:q∈pgs H t
 ·exact v.chg.gone q h hq
 ·rw [v.chg.out q h hq]; exact w.out q h
def RPost (td:Prop) (m':Mem) (root':Int) (l:List It):Prop :=
 (root'=-1/\(∀ q,m' q=none)/\kvs l=[])∨∃ (H':Nat) (t':Tr H'),Whole m' root' t'/\Okt H' t'/\SQ l (sq H' t')/\(nd H' t').kids.length≠1/\(td->Tdy H' t')
theorem RPost.sq {td td':Prop} {m':Mem} {root':Int} {l l':List It} (h:RPost td m' root' l) (hs:SQ l' l) (ht:td'->td):RPost td' m' root' l':=by
 rcases h with ⟨h1,h2,h3⟩ | ⟨H,t,h1,h2,h3,h4,h5⟩
 ·exact .inl ⟨h1,h2,by rw [hs.kv,h3]⟩
 ·exact .inr ⟨H,t,h1,h2,hs.trans h3,h4,fun h=>h5 (ht h)⟩
set_option maxHeartbeats 4000000 in
theorem mendRoot_tr:∀ {H:Nat} {t:Tr H} {c:Cfg} {G X:RL} {s:TSt} {rows:RL},TR c G X s rows->Whole s.m s.root t->Lz t->(256 < (bodyN (nd H t)).length->2<=frM c.N s.m) →
  CS Tryz.prog 102 [ptr c.rt] rows fun _ L'=>∃ X' m' root',(∀ q,q∈X->q∈X')/\TR c G X' ⟨m',root',s.cnt⟩ L'/\RPost (Okt H t/\Tdy H t) m' root' (sq H t)/\((bodyN (nd H t)).length<=256->frM c.N s.m<=frM c.N m')
 | H,t,c,G,X,⟨m,root,cnt⟩,rows,htr,hw,hlz,hf=>by
  have hrt:=hw.rt
  simp only at hrt hw hf
  subst hrt
  have hmt:m (no H t)=some (nd H t):=hw.rep.top
  have st:=htr.sm _ _ hmt
  have dt:=htr.dom _ (show m (no H t)≠none by rw [hmt]; simp)
  have hN32:=htr.N
  obtain ⟨T,es,ck,ws,wk,g,rfl,hN,hp,hgm,hmr⟩:=htr.now
  obtain ⟨ra,hga,va1,va2,va3,hra,hPa⟩:=(hmr (no H t)).2 _ hmt
  have ega:(g (no H t)).getD (.pointer none)=ptr ra:=by rw [hga]; rfl
  have hXB:∀ q,q∈X->q∈HD c.rf c.rb c.rt c.rn c.rw T (no H t:Nat) cnt c.root0 c.cnt0 es ck ws wk (G++X):=fun q hq=>by simp [hq]
  have mrt:(c.rt,trRow c.rf c.rn c.rw (no H t:Nat) cnt c.root0 c.cnt0)∈HD c.rf c.rb c.rt c.rn c.rw T (no H t:Nat) cnt c.root0 c.cnt0 es ck ws wk (G++X):=by simp
  have mmap:(c.rn,ARow.map es ck)∈HD c.rf c.rb c.rt c.rn c.rw T (no H t:Nat) cnt c.root0 c.cnt0 es ck ws wk (G++X):=by simp
  have ma:=hXB _ hra
  have Na:=hPa.nv st hXB
  refine CS.mk (fn:=Tryz.f102) rfl rfl rfl rfl ?_
  repeat refine xQ ?_
  refine LS.drawn noGo mixed [(0,false),(1,false),(2,false),(3,false),(4,false),(5,false),(6,false),(7,false),(8,false),(9,false),(10,false),(11,false)] rfl rfl (by kernel_rfl) ?_
  iterate 4 refine xD rfl rfl rh rfl ?_
  refine xE rfl rfl (e_loadm mrt rfl rfl rfl rfl) rfl ?_
  iterate 4 refine xD rfl rfl rh rfl ?_
  refine xE rfl rfl (e_loadm mrt rfl rfl rfl rfl) rfl ?_
  refine xE rfl rfl (e_get hgm mmap rfl rfl rfl rfl (fun _=>rfl) rfl) rfl ?_
  rw [ega]
  refine xD rfl rfl rh rfl ?_
  refine xM ?_
  refine LS.block ?_
  repeat refine xQ ?_
  refine xG rfl ?_
  refine xP rfl rh rfl ?_
  refine xA noGo rfl (fun _=>rfl) ((isEmpty_ct (X:=X) hXB ⟨va1,va2,va3,hra,hPa⟩ st).mono ?_)
  rintro u L' ⟨rfl,rfl⟩
  refine ⟨_,rfl,?_⟩
  refine xP rfl rh rfl ?_
  refine xN ?_
  rcases hlz with he | ⟨hb,hbl,hkok,hne⟩
  ·rw [decide_eq_true ⟨he.1,he.2.1⟩]
   repeat refine xQ ?_
   refine xC rfl (fun hc=>?_) (fun hc=>?_)
   ·repeat refine xQ ?_
    refine LS.drawn noGo mixed [(0,false),(1,false),(2,false),(3,false),(4,false),(5,false),(6,false),(7,false),(8,true)] rfl rfl (by kernel_rfl) ?_
    iterate 7 refine xD rfl rfl rh rfl ?_
    refine xE rfl rfl (e_loadm mrt rfl rfl rfl rfl) rfl ?_
    refine ODS.call rfl rfl (fun _=>rfl) ((lay_tr (o:=none) htr dt rfl (fun n hn=>by cases hn)).mono ?_)
    rintro u L1 h1
    refine ⟨_,rfl,(by repeat (first | exact Keep.nil | refine Keep.gone rfl ?_)),?_⟩
    refine xM ?_
    obtain ⟨T1,es1,ck1,ws1,wk1,hN1,rfl,hp1⟩:=h1
    repeat refine xQ ?_
    refine xG rfl ?_
    iterate 4 refine xP rfl rh rfl ?_
    refine OS.write rfl (e_store 2 rfl rfl rfl rfl rfl rfl rfl rfl) rfl ?_
    refine xN ?_
    refine ⟨_,fun _ _=>rfl,X,updM m (no H t) none,-1,fun _ hq=>hq,⟨T1,es1,ck1,ws1,wk1,hN1,rfl,hp1⟩,.inl ⟨rfl,fun q=>?_,by rw [emp_sq he]; rfl⟩,fun _=>by
     have:=frM_upd (m:=m) (o:=none) dt
     rw [hmt] at this
     simp at this
     simp only; omega⟩
    have hpg:=emp_pgs he
    by_cases hq:q=no H t
    ·subst hq; unfold updM; rw [if_pos rfl]
    ·unfold updM; rw [if_neg hq]
     exact hw.out q (by rw [hpg]; simpa using hq)
   ·cases hc
  rw [decide_eq_false (big_full hb hne)]
  repeat refine xQ ?_
  refine xC rfl (fun hc=>?_) (fun hc=>?_)
  ·cases hc
  repeat refine xQ ?_
  refine xG rfl ?_
  iterate 2 refine xP rfl rh rfl ?_
  refine xR rfl (e_loadm ma rfl rfl rfl rfl) rfl ?_
  refine xA noGo rfl (fun _=>rfl) ((Size_ct Na (by have:=st.k; omega)).mono ?_)
  rintro u L' ⟨rfl,rfl⟩
  refine ⟨_,rfl,?_⟩
  rw [show sizeV (nd H t)=.int .i64 (sizeN (nd H t):Nat) from rfl,hb.size]
  by_cases hbig:256 < (bodyN (nd H t)).length
  ·have hb1:(!ileB ((bodyN (nd H t)).length:Nat) 256)=true:=by rw [ileB_eq,decide_eq_false (by omega)]; rfl
   refine xP rfl (e_ib rh (hb1)) rfl ?_
   refine xP rfl rh rfl ?_
   refine xN ?_
   repeat refine xQ ?_
   refine xC rfl (fun hc=>?_) (fun hc=>?_)
   ·obtain ⟨q0,hq1,hq2,hq3⟩:=cut_some hb hbig hbl
    have hf2:=hf hbig
    repeat refine xQ ?_
    refine LS.drawn noGo mixed [(0,false),(1,false),(2,false),(3,false),(4,false),(5,false),(6,false),(7,false),(8,false),(9,true),(10,false),(11,true),(12,false),(13,false),(14,false),(15,true)] rfl rfl (by kernel_rfl) ?_
    iterate 8 refine xD rfl rfl rh rfl ?_
    refine xE rfl rfl (e_loadm mrt rfl rfl rfl rfl) rfl ?_
    refine ODS.fresh rfl rfl (e_new (fun _=>rfl) rfl) (fun _=>rfl) (fun rz=>(by repeat (first | exact Keep.nil | refine Keep.gone rfl ?_))) (fun rz=>?_)
    refine xD rfl rfl (e_build3 (.inr ⟨_,_,_,_,rfl⟩) rfl rfl) rfl ?_
    refine ODS.sub (Sub.sums (A:=HD c.rf c.rb c.rt c.rn c.rw T (no H t:Nat) cnt c.root0 c.cnt0 es ck ws wk (G++((rz,iRow (no H t:Nat))::X))) (B:=(rz,iRow (no H t:Nat))::HD c.rf c.rb c.rt c.rn c.rw T (no H t:Nat) cnt c.root0 c.cnt0 es ck ws wk (G++X)) fun f=>by simp [HD,fm]<;>omega) ?_
    have htr2:TR c G ((rz,iRow (no H t:Nat))::X) ⟨m,(no H t:Nat),cnt⟩ (HD c.rf c.rb c.rt c.rn c.rw T (no H t:Nat) cnt c.root0 c.cnt0 es ck ws wk (G++((rz,iRow (no H t:Nat))::X))):=⟨T,es,ck,ws,wk,hN,rfl,hp.mono fun q hq=>List.mem_cons_of_mem _ hq⟩
    have hPN:PN ((rz,iRow (no H t:Nat))::X) ⟨false,[],[],[((no H t:Nat):Int)]⟩ (.slice none 0 0) (.slice none 0 0) (.slice (some ⟨rz,0,none⟩) 1 1):=⟨pl_nil,pl_nil,.inr ⟨rz,0,1,[.int .i64 (no H t:Nat)],rfl,List.mem_cons_self ..,rfl,Nat.le_refl _,by decide⟩⟩
    refine ODS.call rfl rfl (fun _=>rfl) ((add_tr (n:=⟨false,[],[],[((no H t:Nat):Int)]⟩) htr2 (by simp only; omega) hPN ⟨by simp,by simp,by simp,fun k hk=>(by cases hk),fun k hk=>(by cases hk)⟩).mono ?_)
    rintro u L1 ⟨p2,x,d2,hp2,rfl,h1⟩
    refine ⟨_,rfl,(by repeat (first | exact Keep.nil | refine Keep.gone rfl ?_)),?_⟩
    obtain ⟨T1,es1,ck1,ws1,wk1,hN1,rfl,hp1⟩:=h1
    iterate 3 refine xD rfl rfl rh rfl ?_
    refine ODS.write rfl rfl (e_store 2 rfl rfl rfl rfl rfl rfl rfl rfl) rfl (by repeat (first | exact Keep.nil | refine Keep.gone rfl ?_)) ?_
    refine xM ?_
    have hp2t:p2≠no H t:=fun he=>by simp only at hp2; rw [he,hmt] at hp2; cases hp2
    have hp2o:p2 ∉ pgs H t:=fun hh=>hw.rep.some p2 hh hp2
    have hrep1:RepT (updM m p2 (some ⟨false,[],[],[((no H t:Nat):Int)]⟩)) (H+1) (inn p2 ([]++[]) ([]++t::[])):=by
     rw [rep_inn]
     refine ⟨by unfold updM; rw [if_pos rfl]; rfl,fun s hs=>?_⟩
     simp only [List.nil_append,List.mem_singleton] at hs
     subst hs
     refine hw.rep.congr fun q hq=>?_
     have hne2:q≠p2:=fun he=>hp2o (he ▸ hq)
     unfold updM; rw [if_neg hne2]
    have hnod1:(pgs (H+1) (inn p2 ([]++[]) ([]++t::[]))).Nodup:=by
     rw [pgs_inn]
     simp only [List.nil_append,List.flatMap_cons,List.flatMap_nil,List.append_nil,List.nodup_cons]
     exact ⟨hp2o,hw.nod⟩
    have htr3:TR c G (x::(rz,iRow (no H t:Nat))::X) ⟨updM m p2 (some ⟨false,[],[],[((no H t:Nat):Int)]⟩),(p2:Nat),cnt⟩ (HD c.rf c.rb c.rt c.rn c.rw T1 (p2:Nat) cnt c.root0 c.cnt0 es1 ck1 ws1 wk1 (G++(x::(rz,iRow (no H t:Nat))::X))):=⟨T1,es1,ck1,ws1,wk1,hN1,rfl,hp1⟩
    have hfm:=frM_new (n':=⟨false,[],[],[((no H t:Nat):Int)]⟩) d2 hp2
    simp only at hfm
    repeat refine xQ ?_
    refine xG rfl ?_
    iterate 5 refine xP rfl rh rfl ?_
    refine xR rfl (e_loadm (row:=trRow c.rf c.rn c.rw (p2:Nat) cnt c.root0 c.cnt0) (r:=c.rt) (by simp) rfl rfl rfl rfl) rfl ?_
    refine xA noGo rfl (fun _=>rfl) ((split_tr (A:=[]) (B:=[]) (L:=[]) (R:=[]) (t:=t) htr3 rfl rfl hrep1 hnod1 (by simp) (may_good hb.may) (by omega) (by simp only; omega)).mono ?_)
    rintro u L2 ⟨X1,m1',q,key,p3,g1,g2,g3,g4,g5,g6,g7,g8⟩
    refine ⟨_,rfl,?_⟩
    refine xN ?_
    have hqk:=(List.getElem?_eq_some_iff.1 g2).1
    have hmx:=Nat.le_trans (g3 q0 hq1 hq2) hq3
    unfold mxN at hmx
    have okl:Okt H (splL H t q):=ok_splL hkok g1 hqk (fits_of_size (cutL_may hb.may hqk) (by omega))
    have okr:Okt H (splR H t q p3):=ok_splR hkok hqk (fits_of_size (cutR_may hb.may hqk) (by omega))
    have hkey:=may_keys hb.may key (List.mem_of_getElem? g2)
    have hmay:mayN ⟨false,[key],[],nos [splL H t q,splR H t q p3]⟩=true:=by
     refine may_iff.2 ⟨rise_iff.2 ⟨by simp,fun k hk=>?_⟩,.inr ⟨rfl,rfl,rfl,fun z hz=>?_⟩⟩
     ·simp only [List.mem_singleton] at hk
      subst hk
      refine ⟨?_,hkey.2⟩
      cases k with
      | nil=>simp at hkey
      | cons _ _=>rfl
     ·simp only [nos,List.map_cons,List.map_nil,List.mem_cons,List.not_mem_nil,or_false,no_splL,no_splR] at hz
      rcases hz with rfl | rfl <;> omega
    have hw1:Whole (updM m p2 (some ⟨false,[],[],[((no H t:Nat):Int)]⟩)) (p2:Nat) (inn p2 ([]++[]) ([]++t::[])):=by
     refine ⟨hrep1,hnod1,fun q hq=>?_,rfl⟩
     rw [pgs_inn] at hq
     simp only [List.nil_append,List.flatMap_cons,List.flatMap_nil,List.append_nil,List.mem_cons,not_or] at hq
     unfold updM
     rw [if_neg hq.1]
     exact hw.out q hq.2
    have hsq0:sq (H+1) (inn p2 ([]++[]) ([]++t::[]))=sq H t:=by
     show sq H t++[]=sq H t
     simp
    refine ⟨_,fun _ _=>rfl,X1,m1',(p2:Nat),fun y hy=>g5 y (by simp [hy]),g6,.inr ⟨H+1,_,hw1.via g7,⟨room_fits hmay (.inr ⟨rfl,by simp⟩),fun y hy=>?_⟩,hsq0 ▸ g7.sv,by simp [nos],fun td=>?_⟩,fun hh=>absurd hh (by omega)⟩
    ·have hy':y∈[splL H t q,splR H t q p3]:=hy
     simp only [List.mem_cons,List.not_mem_nil,or_false] at hy'
     rcases hy' with rfl | rfl
     ·exact okl
     ·exact okr
    ·exfalso
     have:=fits_le td.1.fits
     omega
   ·cases hc
  have hb1:(!ileB ((bodyN (nd H t)).length:Nat) 256)=false:=by rw [ileB_eq,decide_eq_true (by omega)]; rfl
  have okt:Okt H t:=ok_of (hb.fits (by omega)) hkok hne
  have hzl:=st.z
  refine xP rfl (e_ib rh (hb1)) rfl ?_
  refine xP rfl rh rfl ?_
  refine xN ?_
  repeat refine xQ ?_
  refine xC rfl (fun hc=>?_) (fun hc=>?_)
  ·cases hc
  repeat refine xQ ?_
  refine xG rfl ?_
  iterate 3 refine xP rfl rh rfl ?_
  refine xR rfl (e_loadm ma rfl rfl rfl rfl) rfl ?_
  refine xP rfl (e_len Na.z rfl rfl rfl rfl rfl) rfl ?_
  refine xP rfl (e_ib rh ((ieqN (m:=(nd H t).kids.length) (n:=1)))) rfl ?_
  by_cases h1:(nd H t).kids.length=1
  ·rw [decide_eq_true h1]
   refine xP rfl rh rfl ?_
   refine xN ?_
   cases H with
   | zero=>obtain ⟨p,ks,vs,rfl⟩:=lf_eta t; simp at h1
   | succ H =>
    obtain ⟨p,ks,ts,rfl⟩:=inn_eta t
    have hlen:=okt.len
    have hts:ts.length=1:=by simpa [nos] using h1
    obtain ⟨k0,rfl⟩:∃ k0,ts=[k0]:=by
     cases ts with
     | nil=>simp at hts
     | cons a l =>
      cases l with
      | nil=>exact ⟨a,rfl⟩
      | cons _ _=>simp at hts
    have hks:ks=[]:=by simpa using hlen
    subst hks
    repeat refine xQ ?_
    refine xC rfl (fun hc=>?_) (fun hc=>?_)
    ·repeat refine xQ ?_
     refine LS.drawn noGo mixed [(0,false),(1,false),(2,false),(3,false),(4,false),(5,false),(6,false),(7,false),(8,true)] rfl rfl (by kernel_rfl) ?_
     iterate 7 refine xD rfl rfl rh rfl ?_
     refine xE rfl rfl (e_loadm mrt rfl rfl rfl rfl) rfl ?_
     refine ODS.call rfl rfl (fun _=>rfl) ((lay_tr (o:=none) htr dt rfl (fun n hn=>by cases hn)).mono ?_)
     rintro u L1 g1
     refine ⟨_,rfl,(by repeat (first | exact Keep.nil | refine Keep.gone rfl ?_)),?_⟩
     refine xM ?_
     obtain ⟨T1,es1,ck1,ws1,wk1,hN1,rfl,hp1⟩:=g1
     have hXB1:∀ q,q∈X->q∈HD c.rf c.rb c.rt c.rn c.rw T1 (p:Nat) cnt c.root0 c.cnt0 es1 ck1 ws1 wk1 (G++X):=fun q hq=>by simp [hq]
     have ma1:=hXB1 _ hra
     have Na1:=hPa.nv st hXB1
     repeat refine xQ ?_
     refine xG rfl ?_
     iterate 4 refine xP rfl rh rfl ?_
     refine xR rfl (e_loadm ma1 rfl rfl rfl rfl) rfl ?_
     refine OS.at1 (j:=0) (Na1.z) ((show (nums [((no H k0:Nat):Int)])[0]?=some (.int .i64 ((no H k0:Nat):Int)) from rfl)) rfl rfl rfl rfl rfl rfl (fun ra0 oa0 rowa0 csa0 ma0 ca0 ga0=>⟨_,rfl,?_⟩)
     refine xR rfl (e_loadm ma0 ca0 rfl rfl (part_one rfl ga0)) rfl ?_
     iterate 3 refine xP rfl rh rfl ?_
     refine OS.write rfl (e_store 2 rfl rfl rfl rfl rfl rfl rfl rfl) rfl ?_
     refine xN ?_
     have hnod:=hw.nod
     simp only [pgs_inn,List.flatMap_cons,List.flatMap_nil,List.append_nil,List.nodup_cons] at hnod
     have hw2:Whole (updM m p none) (no H k0:Nat) k0:=by
      refine ⟨((rep_inn.1 hw.rep).2 k0 (by simp)).congr fun q hq=>?_,hnod.2,fun q hq=>?_,rfl⟩
      ·have hqp:q≠p:=fun he=>hnod.1 (he ▸ hq)
       unfold updM; rw [if_neg hqp]
      ·by_cases hqp:q=p
       ·subst hqp; unfold updM; rw [if_pos rfl]
       ·unfold updM; rw [if_neg hqp]
        exact hw.out q (by simp [pgs_inn,hqp,hq])
     have ok0:=okt.kid k0 (by simp)
     have htr2:TR c G X ⟨updM m p none,(no H k0:Nat),cnt⟩ (HD c.rf c.rb c.rt c.rn c.rw T1 (no H k0:Nat) cnt c.root0 c.cnt0 es1 ck1 ws1 wk1 (G++X)):=⟨T1,es1,ck1,ws1,wk1,hN1,rfl,hp1⟩
     repeat refine xQ ?_
     refine xG rfl ?_
     refine xP rfl rh rfl ?_
     refine xA noGo rfl (fun _=>rfl) ((mendRoot_tr htr2 hw2 ok0.lz (fun hh=>absurd (fits_le ok0.fits) (by omega))).mono ?_)
     rintro u L2 ⟨X',m',root',e1,e2,e3,e4⟩
     refine ⟨_,rfl,?_⟩
     refine xN ?_
     refine ⟨_,fun _ _=>rfl,X',m',root',e1,e2,e3.sq (SQ.of ?_) fun h=>⟨ok0,(tdy_inn.1 h.2).2 k0 (by simp)⟩,fun _=>by
      have h1:=frM_upd (m:=m) (o:=none) dt
      rw [hmt] at h1
      simp at h1
      have h2:=e4 (fits_le ok0.fits)
      simp only at h2 ⊢
      have h3:frM c.N (updM m p none)=frM c.N m+1:=h1
      omega⟩
     show sq H k0++[]=sq H k0
     simp
    ·cases hc
  ·rw [decide_eq_false h1]
   refine xP rfl rh rfl ?_
   refine xN ?_
   repeat refine xQ ?_
   refine xC rfl (fun hc=>?_) (fun hc=>?_)
   ·cases hc
   refine LS.skip ?_
   exact ⟨_,fun _ _=>rfl,X,m,(no H t:Nat),fun _ hq=>hq,htr,.inr ⟨H,t,hw,okt,SQ.refl,h1,fun h=>h.2⟩,fun _=>Nat.le_refl _⟩
end Go.Proofs.YtlmmddfhoabjfaaGreat
end
section
namespace Go.Proofs.YtlmmddfhoabjfaaGreat
open Go.Am
abbrev tpRow (rt:Nat):ARow:=.cells 90 [ptr rt]
abbrev lkRow (r1 r2:Nat):ARow:=.cells 140 [.func (.func 100) #[] #[ptr r1,ptr r2]]
def LookP (h:Nat):Prop:=∀ (c:Cfg) (G X:RL) (s:TSt) (L:RL) (r1 r2:Nat) (t:Tr h),TR c G X s L->(r1,tpRow c.rt)∈G->(r2,lkRow r1 r2)∈G->RepT s.m h t->(pgs h t).Nodup->Okt h t →
 CS Tryz.prog 100 [.int .i64 (no h t:Nat),ptr r1,ptr r2] L fun _ L'=>∃ X' m' t',(∀ q,q∈X->q∈X')/\TR c G X' ⟨m',s.root,s.cnt⟩ L'/\Via s.m m' t t'/\Okt h t'/\Tdy h t'/\frM c.N s.m<=frM c.N m'
theorem look_0:LookP 0:=by
 intro c G X s rows r1 r2 t htr h1 h2 hrep hnod hok
 have hmt:=hrep.top
 have st:=htr.sm _ _ hmt
 obtain ⟨T,es,ck,ws,wk,g,rfl,hN,hp,hgm,hmr⟩:=htr.now
 obtain ⟨ra,hga,va1,va2,va3,hra,hPa⟩:=(hmr (no 0 t)).2 _ hmt
 have ega:(g (no 0 t)).getD (.pointer none)=ptr ra:=by rw [hga]; rfl
 have m1:=htr.memG _ h1
 have ma:=htr.mem _ hra
 have Na:=hPa.nv st htr.mem
 have hz:(nd 0 t).kids.length=0:=rfl
 refine CS.mk (fn:=Tryz.f100) rfl rfl rfl rfl ?_
 repeat refine xQ ?_
 refine xG rfl ?_
 refine xR rfl (e_loadm m1 rfl rfl rfl rfl) rfl ?_
 iterate 3 refine xP rfl rh rfl ?_
 refine xR rfl (e_loadm (row:=trRow c.rf c.rn c.rw s.root s.cnt c.root0 c.cnt0) (r:=c.rt) (by simp) rfl rfl rfl rfl) rfl ?_
 refine xP rfl rh rfl ?_
 refine xR rfl (e_get hgm (by simp) rfl rfl rfl rfl (fun _=>rfl) rfl) rfl ?_
 rw [ega]
 iterate 2 refine xP rfl rh rfl ?_
 refine xR rfl (e_loadm ma rfl rfl rfl rfl) rfl ?_
 refine xP rfl (e_len Na.z rfl rfl rfl rfl rfl) rfl ?_
 refine xP rfl rh rfl ?_
 refine xN ?_
 repeat refine xQ ?_
 refine LS.block ?_
 refine LS.loopJ [0,1,2,17,18] (fun z a' L'=>z=0/\L'=HD c.rf c.rb c.rt c.rn c.rw T s.root s.cnt c.root0 c.cnt0 es ck ws wk (G++X)/\a'=[.int .i64 (no 0 t:Nat),ptr r1,ptr r2,jn,jn,jn,jn,jn,jn,jn,jn,jn,jn,jn,jn,jn,jn,.int .i64 (0:Nat),.int .i64 0,jn,jn,jn,jn,jn,jn,jn,jn,jn,jn,jn,jn,jn,jn,jn,jn,jn,jn,jn,jn,jn,jn,jn,jn,jn,jn]) (n:=0) rfl ⟨rfl,rfl,rfl⟩ ?_
 rintro z a' L' ⟨rfl,rfl,rfl⟩
 have hb:(!ileB ((0:Nat):Int) 0)=false:=rfl
 repeat refine xQ ?_
 refine xG rfl ?_
 refine xP rfl (e_ib rh (hb)) rfl ?_
 refine xN ?_
 repeat refine xQ ?_
 refine xC rfl (fun hc=>?_) (fun hc=>?_)
 ·cases hc
 refine LS.exit ?_
 repeat refine xQ ?_
 refine xG rfl ?_
 refine xP rfl rh rfl ?_
 refine xN ?_
 repeat refine xQ ?_
 refine LS.block ?_
 refine LS.loopJ [0,1,2,6] (fun z a' L'=>z=0/\L'=HD c.rf c.rb c.rt c.rn c.rw T s.root s.cnt c.root0 c.cnt0 es ck ws wk (G++X)/\a'=[.int .i64 (no 0 t:Nat),ptr r1,ptr r2,jn,jn,jn,.int .i64 0,jn,jn,jn,jn,jn,jn,jn,jn,jn,jn,jn,jn,jn,jn,jn,jn,jn,jn,jn,jn,jn,jn,jn,jn,jn,jn,jn,jn,jn,jn,jn,jn,jn,jn,jn,jn,jn,jn]) (n:=0) rfl ⟨rfl,rfl,rfl⟩ ?_
 rintro z a' L' ⟨rfl,rfl,rfl⟩
 repeat refine xQ ?_
 refine xG rfl ?_
 refine xP rfl rh rfl ?_
 refine xR rfl (e_loadm m1 rfl rfl rfl rfl) rfl ?_
 iterate 3 refine xP rfl rh rfl ?_
 refine xR rfl (e_loadm (row:=trRow c.rf c.rn c.rw s.root s.cnt c.root0 c.cnt0) (r:=c.rt) (by simp) rfl rfl rfl rfl) rfl ?_
 refine xP rfl rh rfl ?_
 refine xR rfl (e_get hgm (by simp) rfl rfl rfl rfl (fun _=>rfl) rfl) rfl ?_
 rw [ega]
 iterate 2 refine xP rfl rh rfl ?_
 refine xR rfl (e_loadm ma rfl rfl rfl rfl) rfl ?_
 refine xP rfl (e_len Na.z rfl rfl rfl rfl rfl) rfl ?_
 have hb:(!ileB ((nd 0 t).kids.length:Nat) 0)=false:=rfl
 refine xP rfl (e_ib rh (hb)) rfl ?_
 refine xN ?_
 repeat refine xQ ?_
 refine xC rfl (fun hc=>?_) (fun hc=>?_)
 ·cases hc
 refine LS.exit ?_
 exact ⟨_,fun _ _=>rfl,X,s.m,t,fun _ hq=>hq,htr,Via.refl hrep hnod,hok,trivial,Nat.le_refl _⟩
theorem nos_take {h:Nat} {ts:List (Tr h)} {D:List (Tr h)} {j:Nat} {u:Tr h} (hj:j < ts.length) (hn:nos (D++ts.drop j)=nos ts) (hu:no h u=no h ts[j]):nos ((D++[u])++ts.drop (j+1))=nos ts:=by
 have h1:ts.drop j=ts[j]::ts.drop (j+1):=List.drop_eq_getElem_cons hj
 rw [← hn,h1]
 simp only [nos,List.map_append,List.map_cons,hu,List.append_assoc,List.cons_append,List.nil_append]
set_option maxHeartbeats 4000000 in
theorem look_s {h:Nat} (ih:LookP h):LookP (h+1):=by
 intro c G X s rows r1 r2 t htr h1 h2 hrep hnod hok
 obtain ⟨p,ks,ts,rfl⟩:=inn_eta t
 have hlen:=hok.len
 have hbg:=Bg.of hok.fits
 have hk119:=hbg.keys
 simp only [nd_inn] at hk119
 have hmt:=hrep.top
 have st:=htr.sm _ _ hmt
 have htr0:=htr
 obtain ⟨T,es,ck,ws,wk,g,rfl,hN,hp,hgm,hmr⟩:=htr.now
 obtain ⟨ra,hga,va1,va2,va3,hra,hPa⟩:=(hmr p).2 _ hmt
 have ega:(g p).getD (.pointer none)=ptr ra:=by rw [hga]; rfl
 have m1:=htr.memG _ h1
 have ma:=htr.mem _ hra
 have Na:=hPa.nv st htr.mem
 simp only [nd_inn] at Na ma hPa
 refine CS.mk (fn:=Tryz.f100) rfl rfl rfl rfl ?_
 repeat refine xQ ?_
 refine xG rfl ?_
 refine xR rfl (e_loadm m1 rfl rfl rfl rfl) rfl ?_
 iterate 3 refine xP rfl rh rfl ?_
 refine xR rfl (e_loadm (row:=trRow c.rf c.rn c.rw s.root s.cnt c.root0 c.cnt0) (r:=c.rt) (by simp) rfl rfl rfl rfl) rfl ?_
 refine xP rfl rh rfl ?_
 refine xR rfl (e_get hgm (by simp) rfl rfl rfl rfl (fun _=>rfl) rfl) rfl ?_
 simp only [no_inn]
 rw [ega]
 iterate 2 refine xP rfl rh rfl ?_
 refine xR rfl (e_loadm ma rfl rfl rfl rfl) rfl ?_
 refine xP rfl (e_len Na.z rfl rfl rfl rfl rfl) rfl ?_
 refine xP rfl rh rfl ?_
 refine xN ?_
 repeat refine xQ ?_
 refine LS.block ?_
 refine LS.loopJ [0,1,2,16,17,18] (fun z a' L'=>∃ X' m' D,(∀ q,q∈X->q∈X')/\TR c G X' ⟨m',s.root,s.cnt⟩ L'/\D.length<=ts.length/\Via s.m m' (inn p ks ts) (inn p ks (D++ts.drop D.length))/\(∀ q∈D,Okt h q/\Tdy h q)/\nos (D++ts.drop D.length)=nos ts/\frM c.N s.m<=frM c.N m'/\z=ts.length - D.length/\a'=[.int .i64 (p:Nat),ptr r1,ptr r2,jn,jn,jn,jn,jn,jn,jn,jn,jn,jn,jn,jn,jn,va3,.int .i64 ((nos ts).length:Nat),.int .i64 (D.length:Nat),jn,jn,jn,jn,jn,jn,jn,jn,jn,jn,jn,jn,jn,jn,jn,jn,jn,jn,jn,jn,jn,jn,jn,jn,jn,jn]) (n:=ts.length) rfl ⟨X,s.m,[],fun _ hq=>hq,htr0,by simp,by simpa using Via.refl hrep hnod,fun q hq=>(by cases hq),by simp,Nat.le_refl _,by simp,rfl⟩ ?_
 rintro z a' L' ⟨X',m',D,hX',htr',hD,hvia,hDok,hnos,hfr,rfl,rfl⟩
 by_cases hend:ts.length<=D.length
 ·have hb:(!ileB ((nos ts).length:Nat) (D.length:Nat))=false:=by rw [nos_len,ileB_eq,decide_eq_true (by omega)]; rfl
  repeat refine xQ ?_
  refine xG rfl ?_
  refine xP rfl (e_ib rh (hb)) rfl ?_
  refine xN ?_
  repeat refine xQ ?_
  refine xC rfl (fun hc=>?_) (fun hc=>?_)
  ·cases hc
  refine LS.exit ?_
  have hd0:ts.drop D.length=[]:=List.drop_eq_nil_of_le hend
  rw [hd0,List.append_nil] at hvia hnos
  have hless0:Less ⟨false,ks,[],nos ts⟩ ⟨false,ks,[],nos D⟩:=by rw [hnos]; exact Less.refl
  have hloc0:Loc m' p ks D:=⟨hvia.rep,hvia.chg.nd,fun q hq=>(hDok q hq).1,.inl (hless0 hbg).1⟩
  repeat refine xQ ?_
  refine xG rfl ?_
  refine xP rfl rh rfl ?_
  refine xN ?_
  repeat refine xQ ?_
  refine LS.block ?_
  refine LS.loopJ [0,1,2,6] (fun z a' L'=>∃ X2 m2 ks2 ts2 i,(∀ q,q∈X->q∈X2)/\TR c G X2 ⟨m2,s.root,s.cnt⟩ L'/\Via s.m m2 (inn p ks ts) (inn p ks2 ts2)/\Loc m2 p ks2 ts2/\ts2≠[]/\Less ⟨false,ks,[],nos ts⟩ ⟨false,ks2,[],nos ts2⟩/\(∀ q∈ts2,Tdy h q)/\i<=ts2.length/\(∀ j:Nat,j < i->NJ ks2 ts2 (j:Nat))/\frM c.N s.m<=frM c.N m2/\z=ts2.length - i/\a'=[.int .i64 (p:Nat),ptr r1,ptr r2,jn,jn,jn,.int .i64 (i:Nat),jn,jn,jn,jn,jn,jn,jn,jn,jn,jn,jn,jn,jn,jn,jn,jn,jn,jn,jn,jn,jn,jn,jn,jn,jn,jn,jn,jn,jn,jn,jn,jn,jn,jn,jn,jn,jn,jn]) (n:=D.length) rfl ⟨X',m',ks,D,0,hX',htr',hvia,hloc0,by rintro rfl; simp at hend; rw [hend] at hlen; simp at hlen,hless0,fun q hq=>(hDok q hq).2,by omega,fun j hj=>(by omega),hfr,by omega,rfl⟩ ?_
  rintro z a' L2 ⟨X2,m2,ks2,ts2,i,hX2,htr2,hvia2,hloc2,hne2,hless2,htd2,hi2,hnj2,hfr2,rfl,rfl⟩
  have hbg2:=hloc2.bg hne2
  have hlen2:=bg_len hbg2
  have hk2:=hbg2.keys
  simp only at hk2
  have hm2:=hloc2.top
  have st2:=htr2.sm _ _ hm2
  have m12:=htr2.memG _ h1
  have hX2L:=htr2.mem
  have htr20:=htr2
  obtain ⟨T2,es2,ck2,ws2,wk2,g2,rfl,hN2,hp2,hgm2,hmr2⟩:=htr2.now
  obtain ⟨rb,hgb,vb1,vb2,vb3,hrb,hPb⟩:=(hmr2 p).2 _ hm2
  have egb:(g2 p).getD (.pointer none)=ptr rb:=by rw [hgb]; rfl
  have mb:=hX2L _ hrb
  have Nb:=hPb.nv st2 hX2L
  simp only at Nb mb
  repeat refine xQ ?_
  refine xG rfl ?_
  refine xP rfl rh rfl ?_
  refine xR rfl (e_loadm m12 rfl rfl rfl rfl) rfl ?_
  iterate 3 refine xP rfl rh rfl ?_
  refine xR rfl (e_loadm (row:=trRow c.rf c.rn c.rw s.root s.cnt c.root0 c.cnt0) (r:=c.rt) (by simp) rfl rfl rfl rfl) rfl ?_
  refine xP rfl rh rfl ?_
  refine xR rfl (e_get hgm2 (by simp) rfl rfl rfl rfl (fun _=>rfl) rfl) rfl ?_
  rw [egb]
  iterate 2 refine xP rfl rh rfl ?_
  refine xR rfl (e_loadm mb rfl rfl rfl rfl) rfl ?_
  refine xP rfl (e_len Nb.z rfl rfl rfl rfl rfl) rfl ?_
  by_cases hend2:ts2.length<=i
  ·have hb:(!ileB ((nos ts2).length:Nat) (i:Nat))=false:=by rw [nos_len,ileB_eq,decide_eq_true (by omega)]; rfl
   refine xP rfl (e_ib rh (hb)) rfl ?_
   refine xN ?_
   repeat refine xQ ?_
   refine xC rfl (fun hc=>?_) (fun hc=>?_)
   ·cases hc
   refine LS.exit ?_
   refine ⟨_,fun _ _=>rfl,X2,m2,inn p ks2 ts2,hX2,htr20,hvia2,⟨hless2.fits hok.fits,hloc2.ok⟩,tdy_inn.2 ⟨NJ.all fun j=>?_,htd2⟩,hfr2⟩
   by_cases hj:j < i
   ·exact hnj2 j hj
   ·exact NJ.far (by omega)
  ·have hb:(!ileB ((nos ts2).length:Nat) (i:Nat))=true:=by rw [nos_len,ileB_eq,decide_eq_false (by omega)]; rfl
   refine xP rfl (e_ib rh (hb)) rfl ?_
   refine xN ?_
   repeat refine xQ ?_
   refine xC rfl (fun hc=>?_) (fun hc=>?_)
   ·refine LS.skip ?_
    repeat refine xQ ?_
    refine LS.block ?_
    repeat refine xQ ?_
    refine xG rfl ?_
    refine xR rfl (e_loadm m12 rfl rfl rfl rfl) rfl ?_
    iterate 2 refine xP rfl rh rfl ?_
    refine xA noGo rfl (fun _=>rfl) ((settle_all h c G X2 ⟨m2,s.root,s.cnt⟩ _ p ks2 ts2 (i:Nat) htr20 hloc2 (by omega) (by omega)).mono ?_)
    rintro u L3 ⟨X3,m3,A,Y,B,L1,M,R,w,hw,rfl,n1,n2⟩
    refine ⟨_,rfl,?_⟩
    refine xP rfl rh rfl ?_
    refine xN ?_
    have hlo:=hw.lo
    have hhi:=hw.hi
    have htt:=hw.ht
    have hkk:=hw.hk
    have hlt:=congrArg List.length htt
    simp only [List.length_append] at hlt
    repeat refine xQ ?_
    refine xG rfl ?_
    refine xP rfl rh rfl ?_
    refine xP rfl (e_addN (n:=1) rfl rfl rfl (in_i64 (by omega) (by omega))) rfl ?_
    refine xP rfl rh rfl ?_
    refine xN ?_
    refine ⟨(L1++w::R).length - (L1.length+1),by simp only [List.length_append,List.length_cons]; have:=hw.lm; omega,X3,m3,A++B,L1++w::R,L1.length+1,fun q hq=>hw.hX q (hX2 q hq),hw.tr,hvia2.trans hw.via,hw.loc hbg2 hloc2.ok,by simp,hless2.trans hw.less,fun q hq=>?_,by simp,?_,Nat.le_trans hfr2 hw.fr,rfl,rfl⟩
    ·rcases List.mem_append.1 hq with hq | hq
     ·exact htd2 q (by rw [htt]; simp [hq])
     ·rcases List.mem_cons.1 hq with rfl | hq
      ·exact hw.td fun q hq=>htd2 q (by rw [htt]; simp [hq])
      ·exact htd2 q (by rw [htt]; simp [hq])
    ·exact win_nj hw.la hw.lm n1 n2 (fun j hj=>by rw [← hkk,← htt]; exact hnj2 j (by omega)) (L1.length+1) (fun j g1 g2=>by omega)
   ·cases hc
 have hj:D.length < ts.length:=by omega
 have hb:(!ileB ((nos ts).length:Nat) (D.length:Nat))=true:=by rw [nos_len,ileB_eq,decide_eq_false (by omega)]; rfl
 repeat refine xQ ?_
 refine xG rfl ?_
 refine xP rfl (e_ib rh (hb)) rfl ?_
 refine xN ?_
 repeat refine xQ ?_
 refine xC rfl (fun hc=>?_) (fun hc=>?_)
 ·refine LS.skip ?_
  repeat refine xQ ?_
  refine LS.block ?_
  have hat:(nums (nos ts))[D.length]?=some (.int .i64 ((no h ts[D.length]:Nat):Int)):=by simp [nums,nos,hj]
  have Na':=hPa.z.sv.mono (fun q hq=>htr'.mem q (hX' q hq))
  simp only at Na'
  repeat refine xQ ?_
  refine xG rfl ?_
  refine OS.at1 (j:=D.length) (Na') (hat) rfl rfl rfl rfl rfl rfl (fun ra0 oa0 rowa0 csa0 ma0 ca0 ga0=>⟨_,rfl,?_⟩)
  refine xR rfl (e_loadm ma0 ca0 rfl rfl (part_one rfl ga0)) rfl ?_
  refine xP rfl rh rfl ?_
  refine xN ?_
  have m2':=htr'.memG _ h2
  have hdrop:ts.drop D.length=ts[D.length]::ts.drop (D.length+1):=List.drop_eq_getElem_cons hj
  have hrj:RepT m' h ts[D.length]:=(rep_inn.1 hvia.rep).2 _ (List.mem_append_right D (by rw [hdrop]; exact List.mem_cons_self ..))
  have hnj:(pgs h ts[D.length]).Nodup:=by
   have:=hvia.chg.nd
   rw [hdrop,pgs_at,List.nodup_append,List.nodup_append] at this
   exact this.2.1.1
  repeat refine xQ ?_
  refine xG rfl ?_
  refine xR rfl (e_loadm m2' rfl rfl rfl rfl) rfl ?_
  refine xP rfl rh rfl ?_
  refine xA noGo rfl (fun _=>rfl) ((ih c G X' ⟨m',s.root,s.cnt⟩ L' r1 r2 ts[D.length] htr' h1 h2 hrj hnj (hok.kid _ (List.getElem_mem hj))).mono ?_)
  rintro u L3 ⟨X3,m3,u3,e1,e2,e3,e4,e5,e6⟩
  refine ⟨_,rfl,?_⟩
  refine xN ?_
  repeat refine xQ ?_
  refine xG rfl ?_
  refine xP rfl (e_addN (n:=1) rfl rfl rfl (in_i64 (by omega) (by omega))) rfl ?_
  refine xP rfl rh rfl ?_
  refine xN ?_
  have hks:ks=ks.take D.length++ks.drop D.length:=(List.take_append_drop _ _).symm
  have hv2:Via m' m3 (inn p ks (D++ts.drop D.length)) (inn p ks ((D++[u3])++ts.drop (D.length+1))):=by
   have:=Via.kid (A:=ks.take D.length) (B:=ks.drop D.length) (L:=D) (R:=ts.drop (D.length+1)) (p:=p) e3 (by simp; omega) (by rw [← hks,← hdrop]; exact hvia.rep) (by rw [← hks,← hdrop]; exact hvia.chg.nd)
   rw [← hks,← hdrop] at this
   simpa using this
  refine ⟨ts.length - (D++[u3]).length,by simp; omega,X3,m3,D++[u3],fun q hq=>e1 q (hX' q hq),e2,by simp; omega,?_,fun q hq=>?_,?_,Nat.le_trans hfr e6,rfl,?_⟩
  ·rw [List.length_append,List.length_singleton]; exact hvia.trans hv2
  ·rcases List.mem_append.1 hq with hq | hq
   ·exact hDok q hq
   ·simp only [List.mem_singleton] at hq; subst hq; exact ⟨e4,e5⟩
  ·rw [List.length_append,List.length_singleton]; exact nos_take hj hnos e3.rt
  ·rw [List.length_append,List.length_singleton]; rfl
 ·cases hc
theorem look_all:∀ h,LookP h
 | 0=>look_0
 | h+1=>look_s (look_all h)
end Go.Proofs.YtlmmddfhoabjfaaGreat
end
section
namespace Go.Proofs.YtlmmddfhoabjfaaGreat
open Go.Am
theorem tidy_tr {H:Nat} {t:Tr H} {c:Cfg} {G X:RL} {s:TSt} {rows:RL} (htr:TR c G X s rows) (hw:Whole s.m s.root t) (hok:Okt H t) :
  CS Tryz.prog 63 [ptr c.rt] rows fun _ L'=>∃ X' m' root',(∀ q,q∈X->q∈X')/\TR c G X' ⟨m',root',s.cnt⟩ L'/\RPost True m' root' (sq H t)/\frM c.N s.m<=frM c.N m':=by
 suffices g:CS Tryz.prog 63 [ptr c.rt] rows fun _ L'=>∃ x y X' m' root',(∀ q,q∈X->q∈X')/\TR c (x::y::G) X' ⟨m',root',s.cnt⟩ L'/\RPost True m' root' (sq H t)/\frM c.N s.m<=frM c.N m' by
  refine g.less ?_
  rintro u L' ⟨x,y,X',m',root',h1,h2,h3,h4⟩
  obtain ⟨L1,g1,s1⟩:=h2.pop
  obtain ⟨L2,g2,s2⟩:=g1.pop
  exact ⟨L2,s2.trans s1,X',m',root',h1,g2,h3,h4⟩
 obtain ⟨T,es,ck,ws,wk,g,rfl,hN,hp,hgm,hmr⟩:=htr.now
 refine CS.mk (fn:=Tryz.f63) rfl rfl rfl rfl ?_
 repeat refine xQ ?_
 refine xG rfl ?_
 refine OS.fresh rfl (e_boxV (v:=ptr c.rt) (cs:=[ptr c.rt]) rfl rfl rfl rfl rfl) (fun _=>rfl) (fun r1=>?_)
 refine xN ?_
 repeat refine xQ ?_
 refine xG rfl ?_
 refine OS.fresh rfl (e_new (fun _=>rfl) rfl) (fun _=>rfl) (fun r2=>?_)
 refine xN ?_
 repeat refine xQ ?_
 refine xG rfl ?_
 refine xP rfl rh rfl ?_
 refine OS.write rfl (e_store 0 rfl rfl rfl rfl rfl rfl rfl rfl) rfl ?_
 refine OS.sub (Sub.sums (A:=HD c.rf c.rb c.rt c.rn c.rw T s.root s.cnt c.root0 c.cnt0 es ck ws wk (((r2,lkRow r1 r2)::(r1,tpRow c.rt)::G)++X)) (B:=(r2,lkRow r1 r2)::(r1,tpRow c.rt)::HD c.rf c.rb c.rt c.rn c.rw T s.root s.cnt c.root0 c.cnt0 es ck ws wk (G++X)) fun f=>by simp [HD,fm]<;>omega) ?_
 refine xN ?_
 have htr1:TR c ((r2,lkRow r1 r2)::(r1,tpRow c.rt)::G) X s (HD c.rf c.rb c.rt c.rn c.rw T s.root s.cnt c.root0 c.cnt0 es ck ws wk (((r2,lkRow r1 r2)::(r1,tpRow c.rt)::G)++X)):=⟨T,es,ck,ws,wk,hN,rfl,hp⟩
 have m2:=htr1.memG (r2,lkRow r1 r2) (by simp)
 have m1:=htr1.memG (r1,tpRow c.rt) (by simp)
 have hrt:=hw.rt
 repeat refine xQ ?_
 refine LS.drawn noGo mixed [(0,false),(1,false),(2,false),(3,false),(4,false),(5,false),(6,true)] rfl rfl (by kernel_rfl) ?_
 refine xE rfl rfl (e_loadm m2 rfl rfl rfl rfl) rfl ?_
 refine xE rfl rfl (e_loadm m1 rfl rfl rfl rfl) rfl ?_
 iterate 3 refine xD rfl rfl rh rfl ?_
 refine xE rfl rfl (e_is' (e_loadm (row:=trRow c.rf c.rn c.rw s.root s.cnt c.root0 c.cnt0) (r:=c.rt) (by simp) rfl rfl rfl rfl) (congrArg (Value.int .i64) hrt)) rfl ?_
 refine ODS.call rfl rfl (fun _=>rfl) ((look_all H c _ X s _ r1 r2 t htr1 (by simp) (by simp) hw.rep hw.nod hok).mono ?_)
 rintro u L1 ⟨X1,m1',t1,e1,e2,e3,e4,e5,e6⟩
 refine ⟨_,rfl,(by repeat (first | exact Keep.nil | refine Keep.gone rfl ?_)),?_⟩
 refine xM ?_
 have m1b:=e2.memG (r1,tpRow c.rt) (by simp)
 have hw1:=hw.via e3
 repeat refine xQ ?_
 refine xG rfl ?_
 refine xR rfl (e_loadm m1b rfl rfl rfl rfl) rfl ?_
 refine xA noGo rfl (fun _=>rfl) ((mendRoot_tr e2 hw1 e4.lz (fun hh=>absurd (fits_le e4.fits) (by omega))).mono ?_)
 rintro u L2 ⟨X2,m2',root',f1,f2,f3,f4⟩
 refine ⟨_,rfl,?_⟩
 refine xN ?_
 exact ⟨_,fun _ _=>rfl,_,_,X2,m2',root',fun q hq=>f1 q (e1 q hq),f2,f3.sq e3.sv fun _=>⟨e4,e5⟩,Nat.le_trans e6 (f4 (fits_le e4.fits))⟩
inductive Cx:Nat->Nat->Type
 | top {h:Nat}:Cx h h
 | up {h H:Nat} (p:Nat) (A B:List Tx) (L R:List (Tr h)) (c:Cx (h+1) H):Cx h H
def plug:{h H:Nat}->Cx h H->Tr h->Tr H
 | _,_,.top,t=>t
 | _,_,.up p A B L R c,t=>plug c (inn p (A++B) (L++t::R))
def wfC:{h H:Nat}->Cx h H->Prop
 | _,_,.top=>True
 | _,_,.up _ A B L R c=>A.length=L.length/\B.length=R.length/\wfC c
def steps:{h H:Nat}->Cx h H->List (Nat × Nat)
 | _,_,.top=>[]
 | _,_,.up p _ _ L _ c=>steps c++[(p,L.length)]
def preC:{h H:Nat}->Cx h H->List It
 | _,_,.top=>[]
 | h,_,.up _ A _ L _ c=>preC c++preI A (L.map (sq h))
def postC:{h H:Nat}->Cx h H->List It
 | _,_,.top=>[]
 | h,_,.up _ _ B _ R c=>postI B (R.map (sq h))++postC c
theorem sq_plug:∀ {h H:Nat} {c:Cx h H} {t:Tr h},wfC c->sq H (plug c t)=preC c++(sq h t++postC c)
 | _,_,.top,t,_=>by simp [plug,preC,postC]
 | h,H,.up p A B L R c,t,hw=>by
  simp only [plug,preC,postC]
  rw [sq_plug hw.2.2,sq_at hw.1]
  simp only [List.append_assoc]
def pgA:{h H:Nat}->Cx h H->List Nat
 | _,_,.top=>[]
 | h,_,.up p _ _ L _ c=>pgA c++(p::L.flatMap (pgs h))
def pgB:{h H:Nat}->Cx h H->List Nat
 | _,_,.top=>[]
 | h,_,.up _ _ _ _ R c=>R.flatMap (pgs h)++pgB c
theorem pgs_plug:∀ {h H:Nat} {c:Cx h H} {t:Tr h},pgs H (plug c t)=pgA c++(pgs h t++pgB c)
 | _,_,.top,t=>by simp [plug,pgA,pgB]
 | h,H,.up p A B L R c,t=>by
  simp only [plug,pgA,pgB]
  rw [pgs_plug,pgs_at]
  simp only [List.append_assoc,List.cons_append]
theorem plug_rep:∀ {h H:Nat} {c:Cx h H} {t:Tr h} {m:Mem},RepT m H (plug c t)->RepT m h t
 | _,_,.top,t,m,hr=>hr
 | h,H,.up p A B L R c,t,m,hr=>(rep_inn.1 (plug_rep (c:=c) hr)).2 t (by simp)
theorem plug_nod {h H:Nat} {c:Cx h H} {t:Tr h} (hn:(pgs H (plug c t)).Nodup):(pgs h t).Nodup:=by
 rw [pgs_plug,List.nodup_append,List.nodup_append] at hn
 exact hn.2.1.1
theorem Via.plug:∀ {h H:Nat} {c:Cx h H} {t t':Tr h} {m m':Mem},Via m m' t t'->wfC c->RepT m H (plug c t)->(pgs H (plug c t)).Nodup->Via m m' (plug c t) (plug c t')
 | _,_,.top,t,t',m,m',v,_,_,_=>v
 | h,H,.up p A B L R c,t,t',m,m',v,hw,hr,hn=>Via.plug (c:=c) (v.kid hw.1 (plug_rep (c:=c) hr) (plug_nod (c:=c) hn)) hw.2.2 hr hn
def OkC:{h H:Nat}->Cx h H->Nat->Prop
 | _,_,.top,_=>True
 | h,_,.up p A B L R c,q=>fitsN ⟨false,A++B,[],nos L++((q:Nat):Int)::nos R⟩=true/\(∀ s∈L++R,Okt h s)/\OkC c p
theorem ok_plug:∀ {h H:Nat} {c:Cx h H} {t:Tr h},Okt H (plug c t)↔OkC c (no h t)/\Okt h t
 | _,_,.top,t=>by simp [plug,OkC]
 | h,H,.up p A B L R c,t=>by
  simp only [plug,OkC]
  rw [ok_plug,ok_inn]
  have e:nos (L++t::R)=nos L++((no h t:Nat):Int)::nos R:=by simp [nos]
  rw [e]
  constructor
  ·rintro ⟨h1,h2,h3⟩
   exact ⟨⟨h2,fun s hs=>h3 s (by simp only [List.mem_append,List.mem_cons] at hs ⊢; rcases hs with h | h <;> simp [h]),h1⟩,h3 t (by simp)⟩
  ·rintro ⟨⟨h2,h3,h1⟩,h4⟩
   refine ⟨h1,h2,fun s hs=>?_⟩
   simp only [List.mem_append,List.mem_cons] at hs
   rcases hs with h | rfl | h
   ·exact h3 s (by simp [h])
   ·exact h4
   ·exact h3 s (by simp [h])
theorem Srt.plug {h H:Nat} {c:Cx h H} {t:Tr h} (hw:wfC c) (hs:Srt (sq H (plug c t))):Srt (sq h t):=by
 rw [sq_plug hw] at hs
 exact List.Pairwise.sublist ((List.sublist_append_left ..).trans (List.sublist_append_right ..)) hs
end Go.Proofs.YtlmmddfhoabjfaaGreat
end
section
namespace Go.Proofs.YtlmmddfhoabjfaaGreat
open Go.Am
def upto (key:Tx) (ks:List Tx):Nat:=belowN key ks+(if isN key ks=true then 1 else 0)
theorem isN_iff {key:Tx} {ks:List Tx}:isN key ks=true↔ks[belowN key ks]?=some key:=by unfold isN; exact decide_eq_true_iff
theorem upto_le {key:Tx} {ks:List Tx}:upto key ks<=ks.length:=by
 unfold upto
 split
 ·rename_i h
  have:=(List.getElem?_eq_some_iff.1 (isN_iff.1 h)).1
  omega
 ·have:=below_le key ks; omega
theorem upto_before {l key:Tx} {ks:List Tx} (hr:rise l ks=true):∀ k∈ks.take (upto key ks),leT k key=true:=fun k hk=>by
 obtain ⟨i,hi⟩:=List.mem_iff_getElem?.1 hk
 rw [List.getElem?_take] at hi
 split at hi
 case isFalse=>cases hi
 rename_i hlt
 by_cases hb:i < belowN key ks
 ·exact leT_iff.2 (.inl (below_lt hb hi))
 ·unfold upto at hlt
  split at hlt
  ·rename_i h
   have:i=belowN key ks:=by omega
   rw [this,isN_iff.1 h] at hi
   cases hi
   exact leT_iff.2 (.inr rfl)
  ·omega
theorem upto_after {l key:Tx} {ks:List Tx} (hr:rise l ks=true):∀ k∈ks.drop (upto key ks),bytesLt key k=true:=fun k hk=>by
 obtain ⟨i,hi⟩:=List.mem_iff_getElem?.1 hk
 rw [List.getElem?_drop] at hi
 have h1:=below_iff (key:=key) hr hi
 unfold upto at hi h1
 split at hi
 ·rename_i h
  have hk:=isN_iff.1 h
  exact rise_after hr hk hi (by omega)
 ·rename_i h
  rw [if_neg h] at h1
  rw [decide_eq_false (by omega)] at h1
  rcases leT_iff.1 (nlt_iff.1 h1) with h2 | h2
  ·exact h2
  ·exfalso
   -- the key stands there,but not as the first one that is not below
   subst h2
   rcases Nat.eq_zero_or_pos i with h0 | h0
   ·subst h0
    exact h (isN_iff.2 (by simpa using hi))
   ·have hb:belowN key ks < ks.length:=by have:=(List.getElem?_eq_some_iff.1 hi).1; omega
    have h3:=rise_after hr (List.getElem?_eq_getElem hb) hi (by omega)
    have h4:=below_at (List.getElem?_eq_getElem hb)
    rw [h3] at h4; cases h4
theorem kidOf_ct {X L:RL} {r:Nat} {n:Nd} {key:Tx} (hX:∀ p,p∈X->p∈L) (hN:NodeAt X r n) (hs:Sm n) (hm:mayN n=true) :
  CS Tryz.prog 87 [ptr r,txt key] L fun u L'=>u=.int .i64 (upto key n.ks:Nat)/\L'=L:=by
 obtain ⟨v1,v2,v3,hr,hP⟩:=hN
 have N1:=hP.nv hs hX
 have m1:=hX _ hr
 have e1:=hs.k
 have hb:=below_le key n.ks
 refine CS.mk (fn:=Tryz.f87) rfl rfl rfl rfl ?_
 repeat refine xQ ?_
 refine xG rfl ?_
 refine xP rfl rh rfl ?_
 refine xN ?_
 repeat refine xQ ?_
 refine xG rfl ?_
 iterate 2 refine xP rfl rh rfl ?_
 refine xR rfl (e_loadm m1 rfl rfl rfl rfl) rfl ?_
 refine xP rfl rh rfl ?_
 refine xA noGo rfl (fun _=>rfl) ((Find_ct N1 (by omega)).mono ?_)
 rintro u L' ⟨rfl,rfl⟩
 refine ⟨_,rfl,?_⟩
 rw [show findV n key=.tuple #[.int .i64 (belowN key n.ks:Nat),.bool (isN key n.ks)] by unfold findV; rw [if_pos hm]]
 iterate 5 refine xP rfl rh rfl ?_
 refine xN ?_
 repeat refine xQ ?_
 refine xG rfl ?_
 refine xP rfl rh rfl ?_
 refine xN ?_
 cases hi:isN key n.ks with
 | true =>
  repeat refine xQ ?_
  refine xC rfl (fun hc=>?_) (fun hc=>?_)
  ·repeat refine xQ ?_
   refine xG rfl ?_
   refine xP rfl rh rfl ?_
   refine xP rfl (e_addN (n:=1) rfl rfl rfl (in_i64 (by omega) (by omega))) rfl ?_
   refine xP rfl rh rfl ?_
   refine xN ?_
   refine xT ⟨_,fun _ _=>rfl,?_⟩
   refine ⟨?_,rfl⟩
   unfold upto
   rw [if_pos hi]; rfl
  ·cases hc
 | false =>
  repeat refine xQ ?_
  refine xC rfl (fun hc=>?_) (fun hc=>?_)
  ·cases hc
  refine LS.skip ?_
  repeat refine xQ ?_
  refine xG rfl ?_
  iterate 2 refine xP rfl rh rfl ?_
  refine xN ?_
  refine xT ⟨_,fun _ _=>rfl,?_⟩
  refine ⟨?_,rfl⟩
  unfold upto
  rw [if_neg (by rw [hi]; decide)]; rfl
def Bef (key:Tx):It->Prop
 | .K k _=>bytesLt k key=true
 | .S s=>leT s key=true
def Aft (key:Tx):It->Prop
 | .K k _=>bytesLt key k=true
 | .S s=>bytesLt key s=true
theorem lt_le {a b c:Tx} (h:bytesLt a b=true) (g:leT b c=true):bytesLt a c=true:=by
 rcases leT_iff.1 g with g | g
 ·exact lt_trans h g
 ·rw [← g]; exact h
theorem le_lt {a b c:Tx} (h:leT a b=true) (g:bytesLt b c=true):bytesLt a c=true:=by
 rcases leT_iff.1 h with h | h
 ·exact lt_trans h g
 ·rw [h]; exact g
theorem pre_bef {key:Tx} {A:List Tx} {L:List (List It)} {Z:List It} (hl:A.length=L.length) (hA:∀ k∈A,leT k key=true) (hs:Srt (preI A L++Z)):∀ y∈preI A L,Bef key y:=by
 rcases List.eq_nil_or_concat A with rfl | ⟨A,a,rfl⟩
 ·intro y hy
  cases L <;> simp [preI] at hy
 rcases List.eq_nil_or_concat L with rfl | ⟨L,l,rfl⟩
 ·simp at hl
 rw [List.concat_eq_append] at *
 rw [List.concat_eq_append] at *
 have e:preI (A++[a]) (L++[l])=(preI A L++l)++[It.S a]:=by
  rw [preI_app (by simpa using hl)]
  simp [preI]
 rw [e] at hs ⊢
 have ha:=hA a (by simp)
 have h1:=(List.pairwise_append.1 (List.pairwise_append.1 hs).1).2.2
 intro y hy
 rcases List.mem_append.1 hy with hy | hy
 ·have:=h1 y hy (It.S a) (by simp)
  cases y with
  | K k v=>exact lt_le this ha
  | S s=>exact leT_iff.2 (.inl (lt_le this ha))
 ·simp only [List.mem_singleton] at hy
  subst hy
  exact ha
theorem post_aft {key:Tx} {B:List Tx} {R:List (List It)} {Z:List It} (hB:∀ k∈B,bytesLt key k=true) (hs:Srt (Z++postI B R)):∀ y∈postI B R,Aft key y:=by
 intro y hy
 cases B with
 | nil=>cases R <;> simp [postI] at hy
 | cons b B =>
  cases R with
  | nil=>simp [postI] at hy
  | cons r R =>
   have hb:=hB b (by simp)
   have h1:=List.pairwise_cons.1 (List.pairwise_append.1 hs).2.1
   rcases List.mem_cons.1 hy with rfl | hy
   ·exact hb
   ·have:=h1.1 y hy
    cases y with
    | K k v=>exact (show bytesLt key k=true by
      rcases leT_iff.1 this with g | g
      ·exact lt_trans hb g
      ·rw [← g]; exact hb)
    | S s=>exact lt_trans hb this
theorem steps_len:∀ {h H:Nat} {c:Cx h H},(steps c).length+h=H
 | _,_,.top=>by simp [steps]
 | h,H,.up p A B L R c=>by
  have:=steps_len (c:=c)
  simp only [steps,List.length_append,List.length_singleton]
  omega
theorem high_le:∀ {h:Nat} {t:Tr h},Okt h t->h < (pgs h t).length
 | 0,t,_=>by obtain ⟨p,ks,vs,rfl⟩:=lf_eta t; simp
 | h+1,t,hk=>by
  obtain ⟨p,ks,ts,rfl⟩:=inn_eta t
  have hl:=hk.len
  cases ts with
  | nil=>simp at hl
  | cons a ts =>
   have:=high_le (hk.kid a (by simp))
   rw [pgs_inn]
   simp only [List.length_cons,List.flatMap_cons,List.length_append]
   omega
theorem pages_le {c:Cfg} {G X:RL} {s:TSt} {L:RL} (htr:TR c G X s L) {H:Nat} {t:Tr H} (hr:RepT s.m H t) (hn:(pgs H t).Nodup):(pgs H t).length<=c.N:=by
 have:=nodup_le (A:=pgs H t) (B:=List.range c.N) hn fun q hq=>List.mem_range.2 (htr.dom q (hr.some q hq))
 simpa using this
end Go.Proofs.YtlmmddfhoabjfaaGreat
end
section
namespace Go.Proofs.YtlmmddfhoabjfaaGreat
open Go.Am
def stC (l:List (Nat × Nat)):List Value:=l.flatMap fun p=>[.int .i64 (p.1:Nat),.int .i64 (p.2:Nat)]
theorem stC_app (a b:List (Nat × Nat)):stC (a++b)=stC a++stC b:=by simp [stC]
theorem stC_len:∀ st:List (Nat × Nat),(stC st).length=st.length * 2
 | []=>rfl
 | x::l=>by
  have:=stC_len l
  simp only [stC,List.flatMap_cons,List.length_append,List.length_cons,List.length_nil] at this ⊢
  omega
set_option maxHeartbeats 4000000 in
theorem way_tr {H:Nat} {t:Tr H} {c:Cfg} {G X:RL} {s:TSt} {rows:RL} {key:Tx} (htr:TR c G X s rows) (hw:Whole s.m s.root t) (hok:H=0∨Okt H t) (hs:Srt (sq H t)) :
  CS Tryz.prog 62 [ptr c.rt,txt key] rows fun v L'=>∃ (k:Cx 0 H) (l:Tr 0) (Y:RL),plug k l=t/\wfC k/\(∀ y∈preC k,Bef key y)/\(∀ y∈postC k,Aft key y)/\L'=Y++rows/\GV 150 2 [] v ((steps k).length+1) (stC (steps k++[(no 0 l,0)])) Y:=by
 have hrt:=hw.rt
 have hpl:=pages_le htr hw.rep hw.nod
 have hhi:H < (pgs H t).length:=hok.elim (fun h=>by subst h; obtain ⟨p,ks,vs,rfl⟩:=lf_eta t; simp) high_le
 have hN32:=htr.N
 obtain ⟨T,es,ck,ws,wk,g,rfl,hN,hp,hgm,hmr⟩:=htr.now
 have mrt:∀ Y:RL,(c.rt,trRow c.rf c.rn c.rw s.root s.cnt c.root0 c.cnt0)∈Y++HD c.rf c.rb c.rt c.rn c.rw T s.root s.cnt c.root0 c.cnt0 es ck ws wk (G++X):=fun Y=>by simp
 have mmap:∀ Y:RL,(c.rn,ARow.map es ck)∈Y++HD c.rf c.rb c.rt c.rn c.rw T s.root s.cnt c.root0 c.cnt0 es ck ws wk (G++X):=fun Y=>by simp
 have hXY:∀ (Y:RL) q,q∈X->q∈Y++HD c.rf c.rb c.rt c.rn c.rw T s.root s.cnt c.root0 c.cnt0 es ck ws wk (G++X):=fun Y q hq=>List.mem_append_right Y (htr.mem q hq)
 refine CS.mk (fn:=Tryz.f62) rfl rfl rfl rfl ?_
 repeat refine xQ ?_
 refine xG rfl ?_
 refine xP rfl rh rfl ?_
 refine xN ?_
 repeat refine xQ ?_
 refine xG rfl ?_
 refine xP rfl rh rfl ?_
 refine xN ?_
 repeat refine xQ ?_
 refine xG rfl ?_
 iterate 4 refine xP rfl rh rfl ?_
 refine xR rfl (e_is' (e_loadm (mrt []) rfl rfl rfl rfl) (congrArg (Value.int .i64) hrt)) rfl ?_
 refine xP rfl rh rfl ?_
 refine xN ?_
 repeat refine xQ ?_
 refine LS.block ?_
 refine LS.loopJ [0,1,5,6] (fun z a' L'=>∃ (k:Cx z H) (u:Tr z) (Y:RL) (v:Value),plug k u=t/\wfC k/\(∀ y∈preC k,Bef key y)/\(∀ y∈postC k,Aft key y)/\L'=Y++HD c.rf c.rb c.rt c.rn c.rw T s.root s.cnt c.root0 c.cnt0 es ck ws wk (G++X)/\GV 150 2 [] v (steps k).length (stC (steps k)) Y/\a'=[ptr c.rt,txt key,jn,jn,jn,v,.int .i64 (no z u:Nat),jn,jn,jn,jn,jn,jn,jn,jn,jn,jn,jn,jn,jn,jn,jn,jn,jn,jn,jn,jn,jn,jn,jn,jn,jn,jn,jn,jn,jn,jn,jn,jn,jn,jn,jn,jn,jn,jn,jn,jn,jn,jn,jn,jn,jn,jn,jn,jn,jn,jn]) (n:=H) rfl ⟨.top,t,[],.slice none 0 0,rfl,trivial,fun y hy=>(by cases hy),fun y hy=>(by cases hy),rfl,.inl ⟨rfl,rfl,rfl,rfl⟩,rfl⟩ ?_
 rintro z a' L' ⟨k,u,Y,v,hpu,hwf,hbef,haft,rfl,hv,rfl⟩
 have hru:RepT s.m z u:=plug_rep (c:=k) (by rw [hpu]; exact hw.rep)
 have hsu:Srt (sq z u):=Srt.plug hwf (hpu ▸ hs)
 have hmu:=hru.top
 have su:=htr.sm _ _ hmu
 have hst:=steps_len (c:=k)
 obtain ⟨ra,hga,va1,va2,va3,hra,hPa⟩:=(hmr (no z u)).2 _ hmu
 have ega:(g (no z u)).getD (.pointer none)=ptr ra:=by rw [hga]; rfl
 have ma:=hXY Y _ hra
 have Na:=hPa.nv su (hXY Y)
 cases z with
 | zero =>
  have hlf:(nd 0 u).leaf=true:=rfl
  rw [hlf] at ma
  repeat refine xQ ?_
  refine xG rfl ?_
  iterate 4 refine xP rfl rh rfl ?_
  refine xR rfl (e_loadm (mrt Y) rfl rfl rfl rfl) rfl ?_
  refine xP rfl rh rfl ?_
  refine xR rfl (e_get hgm (mmap Y) rfl rfl rfl rfl (fun _=>rfl) rfl) rfl ?_
  rw [ega]
  iterate 2 refine xP rfl rh rfl ?_
  refine xR rfl (e_loadm ma rfl rfl rfl rfl) rfl ?_
  refine xP rfl rh rfl ?_
  refine xN ?_
  repeat refine xQ ?_
  refine xC rfl (fun hc=>?_) (fun hc=>?_)
  ·cases hc
  refine LS.exit ?_
  repeat refine xQ ?_
  refine xG rfl ?_
  iterate 3 refine xP rfl rh rfl ?_
  refine OS.fresh rfl (e_new (fun _=>rfl) rfl) (fun _=>rfl) (fun rz=>?_)
  refine OS.turns rfl (e_appendGA [(rz,.cells 150 [.int .i64 (no 0 u:Nat),.int .i64 0])] (HD c.rf c.rb c.rt c.rn c.rw T s.root s.cnt c.root0 c.cnt0 es ck ws wk (G++X)) (e:=150) (sz:=2) (bts:=16) (m:=1) (new:=stC [(no 0 u,0)]) hv (SV.row (sz:=2) (n:=1) (List.mem_cons_self ..) rfl) rfl rfl rfl rfl (by omega) (by omega)) (fun w L₁ hR=>?_)
  obtain ⟨Y',g',rfl⟩:=hR
  refine ⟨_,rfl,?_⟩
  refine OS.sub (Sub.sums2 ([(rz,.cells 150 [.int .i64 (no 0 u:Nat),.int .i64 0])]) (A:=Y'++HD c.rf c.rb c.rt c.rn c.rw T s.root s.cnt c.root0 c.cnt0 es ck ws wk (G++X)) (B:=Y'++([(rz,.cells 150 [.int .i64 (no 0 u:Nat),.int .i64 0])]++HD c.rf c.rb c.rt c.rn c.rw T s.root s.cnt c.root0 c.cnt0 es ck ws wk (G++X))) fun f=>by simp [HD,fm]<;>omega) ?_
  refine xP rfl rh rfl ?_
  refine xN ?_
  refine xT ⟨_,fun _ _=>rfl,?_⟩
  exact ⟨k,u,Y',hpu,hwf,hbef,haft,rfl,by rw [stC_app]; exact g'⟩
 | succ h =>
  have hok0:Okt H t:=hok.elim (fun h0=>by omega) id
  have hoku:Okt (h+1) u:=(ok_plug.1 (hpu ▸ hok0)).2
  obtain ⟨p,ks,ts,rfl⟩:=inn_eta u
  have hlen:=hoku.len
  have hmay:=fits_may hoku.fits
  have hup:=upto_le (key:=key) (ks:=ks)
  have hrise:=(may_iff.1 hmay).1
  have ek:=su.k
  simp only [nd_inn,no_inn] at ma Na hmay hrise ega ek
  have hi:upto key ks < ts.length:=by omega
  have hks:ks=ks.take (upto key ks)++ks.drop (upto key ks):=(List.take_append_drop _ _).symm
  have hts:ts=ts.take (upto key ks)++ts[upto key ks]::ts.drop (upto key ks+1):=by simp
  repeat refine xQ ?_
  refine xG rfl ?_
  iterate 4 refine xP rfl rh rfl ?_
  refine xR rfl (e_loadm (mrt Y) rfl rfl rfl rfl) rfl ?_
  refine xP rfl rh rfl ?_
  refine xR rfl (e_get hgm (mmap Y) rfl rfl rfl rfl (fun _=>rfl) rfl) rfl ?_
  simp only [no_inn]
  rw [ega]
  iterate 2 refine xP rfl rh rfl ?_
  refine xR rfl (e_loadm ma rfl rfl rfl rfl) rfl ?_
  refine xP rfl rh rfl ?_
  refine xN ?_
  repeat refine xQ ?_
  refine xC rfl (fun hc=>?_) (fun hc=>?_)
  ·refine LS.skip ?_
   repeat refine xQ ?_
   refine LS.block ?_
   repeat refine xQ ?_
   refine xG rfl ?_
   iterate 4 refine xP rfl rh rfl ?_
   refine xR rfl (e_loadm (mrt Y) rfl rfl rfl rfl) rfl ?_
   refine xP rfl rh rfl ?_
   refine xR rfl (e_get hgm (mmap Y) rfl rfl rfl rfl (fun _=>rfl) rfl) rfl ?_
   rw [ega]
   refine xP rfl rh rfl ?_
   refine xA noGo rfl (fun _=>rfl) ((kidOf_ct (X:=X) (hXY Y) ⟨va1,va2,va3,hra,hPa⟩ su hmay).mono ?_)
   rintro w L' ⟨rfl,rfl⟩
   refine ⟨_,rfl,?_⟩
   refine xP rfl rh rfl ?_
   refine xN ?_
   simp only [nd_inn]
   repeat refine xQ ?_
   refine xG rfl ?_
   iterate 4 refine xP rfl rh rfl ?_
   refine OS.fresh rfl (e_new (fun _=>rfl) rfl) (fun _=>rfl) (fun rz=>?_)
   refine OS.turns rfl (e_appendGA [(rz,.cells 150 [.int .i64 (p:Nat),.int .i64 (upto key ks:Nat)])] (HD c.rf c.rb c.rt c.rn c.rw T s.root s.cnt c.root0 c.cnt0 es ck ws wk (G++X)) (e:=150) (sz:=2) (bts:=16) (m:=1) (new:=stC [(p,upto key ks)]) hv (SV.row (sz:=2) (n:=1) (List.mem_cons_self ..) rfl) rfl rfl rfl rfl (by omega) (by omega)) (fun w L₁ hR=>?_)
   obtain ⟨Y',g',rfl⟩:=hR
   refine ⟨_,rfl,?_⟩
   refine OS.sub (Sub.sums2 ([(rz,.cells 150 [.int .i64 (p:Nat),.int .i64 (upto key ks:Nat)])]) (A:=Y'++HD c.rf c.rb c.rt c.rn c.rw T s.root s.cnt c.root0 c.cnt0 es ck ws wk (G++X)) (B:=Y'++([(rz,.cells 150 [.int .i64 (p:Nat),.int .i64 (upto key ks:Nat)])]++HD c.rf c.rb c.rt c.rn c.rw T s.root s.cnt c.root0 c.cnt0 es ck ws wk (G++X))) fun f=>by simp [HD,fm]<;>omega) ?_
   refine xP rfl rh rfl ?_
   refine xN ?_
   have ma':=hXY Y' _ hra
   have Na':=hPa.nv su (hXY Y')
   simp only [nd_inn] at ma' Na'
   have hat:(nums (nos ts))[upto key ks]?=some (.int .i64 ((no h ts[upto key ks]:Nat):Int)):=by simp [nums,nos,hi]
   repeat refine xQ ?_
   refine xG rfl ?_
   iterate 4 refine xP rfl rh rfl ?_
   refine xR rfl (e_loadm (mrt Y') rfl rfl rfl rfl) rfl ?_
   refine xP rfl rh rfl ?_
   refine xR rfl (e_get hgm (mmap Y') rfl rfl rfl rfl (fun _=>rfl) rfl) rfl ?_
   rw [ega]
   iterate 2 refine xP rfl rh rfl ?_
   refine xR rfl (e_loadm ma' rfl rfl rfl rfl) rfl ?_
   refine xP rfl rh rfl ?_
   refine OS.at1 (j:=upto key ks) (Na'.z) (hat) rfl rfl rfl rfl rfl rfl (fun ra0 oa0 rowa0 csa0 ma0 ca0 ga0=>⟨_,rfl,?_⟩)
   refine xR rfl (e_loadm ma0 ca0 rfl rfl (part_one rfl ga0)) rfl ?_
   refine xP rfl rh rfl ?_
   refine xN ?_
   have hlt:(ks.take (upto key ks)).length=(ts.take (upto key ks)).length:=by rw [List.length_take,List.length_take]; omega
   have hsq:sq (h+1) (inn p ks ts)=preI (ks.take (upto key ks)) ((ts.take (upto key ks)).map (sq h))++(sq h ts[upto key ks]++postI (ks.drop (upto key ks)) ((ts.drop (upto key ks+1)).map (sq h))):=by
    have:=sq_at (p:=p) (A:=ks.take (upto key ks)) (B:=ks.drop (upto key ks)) (L:=ts.take (upto key ks)) (R:=ts.drop (upto key ks+1)) (u:=ts[upto key ks]) hlt
    rw [← hks,← hts] at this
    exact this
   rw [hsq] at hsu
   have hwf':wfC (Cx.up p (ks.take (upto key ks)) (ks.drop (upto key ks)) (ts.take (upto key ks)) (ts.drop (upto key ks+1)) k):=by
    simp only [wfC]
    exact ⟨hlt,by rw [List.length_drop,List.length_drop]; omega,hwf⟩
   refine ⟨h,by omega,.up p (ks.take (upto key ks)) (ks.drop (upto key ks)) (ts.take (upto key ks)) (ts.drop (upto key ks+1)) k,ts[upto key ks],Y',w,?_,hwf',fun y hy=>?_,fun y hy=>?_,rfl,?_,rfl⟩
   ·show plug k (inn p (ks.take (upto key ks)++ks.drop (upto key ks)) (ts.take (upto key ks)++ts[upto key ks]::ts.drop (upto key ks+1)))=t
    rw [← hks,← hts]; exact hpu
   ·rcases List.mem_append.1 hy with hy | hy
    ·exact hbef y hy
    ·exact pre_bef (by rw [List.length_map]; exact hlt) (upto_before hrise) hsu y hy
   ·rcases List.mem_append.1 hy with hy | hy
    ·rw [← List.append_assoc] at hsu
     exact post_aft (upto_after hrise) hsu y hy
    ·exact haft y hy
   ·have hlk:(ts.take (upto key ks)).length=upto key ks:=by rw [List.length_take]; omega
    simp only [steps,List.length_append,List.length_singleton,hlk]
    rw [stC_app]; exact g'
  ·cases hc
theorem leafOf_ct {L Y:RL} {v:Value} {st:List (Nat × Nat)} {p q:Nat} (hv:GV 150 2 [] v (st.length+1) (stC (st++[(p,q)])) Y) (hY:∀ x,x∈Y->x∈L) (hn:st.length<=1000000) :
  CS Tryz.prog 65 [v] L fun u L'=>u=.int .i64 (p:Nat)/\L'=L:=by
 have hs:=hv.sv.mono hY
 refine CS.mk (fn:=Tryz.f65) rfl rfl rfl rfl ?_
 repeat refine xQ ?_
 refine xG rfl ?_
 refine xP rfl rh rfl ?_
 refine xN ?_
 repeat refine xQ ?_
 refine xG rfl ?_
 iterate 2 refine xP rfl rh rfl ?_
 refine xP rfl (e_len hs rfl rfl rfl rfl rfl) rfl ?_
 refine xP rfl (e_is (e_sub (n:=1) rfl rfl rfl (in_i64 (by omega) (by omega))) (congrArg (Value.int .i64) (show ((st.length+1:Nat):Int) - 1=((st.length:Nat):Int) by omega))) rfl ?_
 refine OS.at (j:=st.length) hs (by omega) rfl rfl rfl rfl rfl rfl (fun r off row cs₀ h1 h2 h3 h4=>⟨_,rfl,?_⟩)
 refine xP rfl rh rfl ?_
 have h5:=h3 0 (.int .i64 (p:Nat)) (by omega) (by
  rw [stC_app]
  have hl:=stC_len st
  rw [List.getElem?_append_right (by omega),hl]
  simp [stC])
 refine xR rfl (e_loadm h1 h2 rfl rfl (part_one rfl h5)) rfl ?_
 refine xP rfl rh rfl ?_
 refine xN ?_
 refine xT ⟨_,fun _ _=>rfl,?_⟩
 exact ⟨rfl,rfl⟩
end Go.Proofs.YtlmmddfhoabjfaaGreat
end
section
namespace Go.Am
section
variable {P:Program} {o:Oper} {a:Slots} {x y:Operand} {t z:TypeId}
theorem e_eqp {el:TypeId} {r n:Nat} (ho:o.op=.binOp .eql t x y z) (hx:aev a x=some (.pointer (some ⟨r,0,none⟩))) (hy:aev a y=some (.pointer (some ⟨r,0,none⟩))) (ht:P.underlying t=some (.pointer el)) (hz:sizeB P el=some n) :
  ∀ h,opB P a o h=some (.val (.bool true) h):=by
 intro h
 have hr:(Nat.beq r r && Nat.beq 0 0)=true:=by simp
 have e:eqB P 100 t (.pointer (some ⟨r,0,none⟩)) (.pointer (some ⟨r,0,none⟩))=some true:=by
  unfold eqB
  simp only [ht,hz,hr]
 simp only [opB,ho,hx,hy,eqOk,binB,e,ret]
end
end Go.Am
namespace Go.Proofs.YtlmmddfhoabjfaaGreat
open Go.Am
theorem pl_same {X L:RL} {e:TypeId} {sz n n':Nat} {v:Value} {cs cs':List Value} (hnd:(L.map (·.1)).Nodup) (hX:∀ p,p∈X->p∈L) (h:PL e sz X v n cs) (h':PL e sz X v n' cs'):cs=cs':=by
 rcases h with ⟨h1,h2,h3⟩ | ⟨r,off,cap,cs0,h1,h2,h3,_⟩
 ·rcases h' with ⟨g1,g2,g3⟩ | ⟨r,off,cap,cs0,g1,_⟩
  ·rw [h3,g3]
  ·rw [h1] at g1; cases g1
 ·rcases h' with ⟨g1,g2,g3⟩ | ⟨r',off',cap',cs0',g1,g2,g3,_⟩
  ·rw [h1] at g1; cases g1
  ·rw [h1] at g1
   simp only [Value.slice.injEq,Option.some.injEq,Addr.mk.injEq] at g1
   obtain ⟨⟨rfl,rfl,_⟩,rfl,rfl⟩:=g1
   have:=row_one hnd (hX _ h2) (hX _ g2)
   simp only [ARow.cells.injEq,true_and] at this
   subst this
   rw [h3] at g3
   exact Option.some.inj g3
theorem tx_inj {a b:List Tx} (h:tx a=tx b):a=b:=by
 induction a generalizing b with
 | nil=>cases b with
  | nil=>rfl
  | cons _ _=>simp [tx] at h
 | cons x l ih=>cases b with
  | nil=>simp [tx] at h
  | cons y m =>
   simp only [tx,List.map_cons,List.cons.injEq] at h
   have h1:x=y:=by
    have:=h.1
    simp only [txt,Value.string.injEq] at this
    cases this
    rfl
   rw [h1,ih h.2]
theorem nums_inj {a b:List Int} (h:nums a=nums b):a=b:=by
 induction a generalizing b with
 | nil=>cases b with
  | nil=>rfl
  | cons _ _=>simp [nums] at h
 | cons x l ih=>cases b with
  | nil=>simp [nums] at h
  | cons y m =>
   simp only [nums,List.map_cons,List.cons.injEq,Value.int.injEq,true_and] at h
   rw [h.1,ih h.2]
theorem node_one {X L:RL} {r:Nat} {n n':Nd} (hnd:(L.map (·.1)).Nodup) (hX:∀ p,p∈X->p∈L) (h:NodeAt X r n) (h':NodeAt X r n'):n=n':=by
 obtain ⟨v1,v2,v3,h1,h2⟩:=h
 obtain ⟨w1,w2,w3,g1,g2⟩:=h'
 have:=row_one hnd (hX _ h1) (hX _ g1)
 simp only [ARow.cells.injEq,List.cons.injEq,Value.bool.injEq,true_and,and_true] at this
 obtain ⟨e0,rfl,rfl,rfl⟩:=this
 have e1:=tx_inj (pl_same hnd hX h2.k g2.k)
 have e2:=tx_inj (pl_same hnd hX h2.v g2.v)
 have e3:=nums_inj (pl_same hnd hX h2.z g2.z)
 obtain ⟨a,b,c,d⟩:=n
 obtain ⟨a',b',c',d'⟩:=n'
 simp only at e0 e1 e2 e3
 rw [e0,e1,e2,e3]
end Go.Proofs.YtlmmddfhoabjfaaGreat
end
section
namespace Go.Proofs.YtlmmddfhoabjfaaGreat
open Go.Am
theorem emp_body {h:Nat} {t:Tr h} (he:Emp t):(bodyN (nd h t)).length<=256:=by
 have h1:=he.2.2
 rw [body_len (by rw [h1]; simp),h1]
 have:=first_le (nd h t)
 simp only [zipB,List.length_nil]
 omega
theorem sml_body {h:Nat} {t:Tr h} (hs:Sml t):(bodyN (nd h t)).length<=256:=by
 rcases hs with h | h
 ·exact emp_body h
 ·exact h
theorem stC_get {l:List (Nat × Nat)} {j p k:Nat} (h:l[j]?=some (p,k)):(stC l)[j * 2+0]?=some (.int .i64 (p:Nat))/\(stC l)[j * 2+1]?=some (.int .i64 (k:Nat)):=by
 induction l generalizing j with
 | nil=>simp at h
 | cons x l ih =>
  cases j with
  | zero =>
   simp only [List.getElem?_cons_zero,Option.some.injEq] at h
   subst h
   simp [stC]
  | succ j =>
   simp only [List.getElem?_cons_succ] at h
   obtain ⟨h1,h2⟩:=ih h
   have e:stC (x::l)=.int .i64 (x.1:Nat)::.int .i64 (x.2:Nat)::stC l:=rfl
   rw [e]
   refine ⟨?_,?_⟩
   ·rw [show (j+1) * 2+0=(j * 2+0)+1+1 by omega,List.getElem?_cons_succ,List.getElem?_cons_succ]; exact h1
   ·rw [show (j+1) * 2+1=(j * 2+1)+1+1 by omega,List.getElem?_cons_succ,List.getElem?_cons_succ]; exact h2
def FinP (m':Mem) (root':Int) (cnt:Int) (l:List It):Prop :=
 (root'=-1/\(∀ q,m' q=none)/\kvs l=[])∨∃ (H':Nat) (t':Tr H'),Whole m' root' t'/\Okt H' t'/\SQ l (sq H' t')/\(((pgs H' t').length:Int)<=3 * cnt∨(Tdy H' t'/\(nd H' t').kids.length≠1))
theorem whole_card {X:RL} {m:Mem} {root:Int} {es:List MapEntry} {ck:Nat} {g:Nat->Option Value} (hg:MP es ck g) (hm:MapRep X g m) {H:Nat} {t:Tr H} (hw:Whole m root t):es.length=(pgs H t).length:=by
 refine hg.card hw.nod fun k=>?_
 constructor
 ·intro hk hgk
  have:=hw.rep.some k hk
  cases hmk:m k with
  | none=>exact this hmk
  | some n=>obtain ⟨r,h1,_⟩:=(hm k).2 n hmk; rw [hgk] at h1; cases h1
 ·intro hgk
  by_cases hk:k∈pgs H t
  ·exact hk
  ·exact absurd ((hm k).1 (hw.out k hk)) hgk
set_option maxHeartbeats 8000000 in
theorem mend_tr {H:Nat} {k0:Cx 0 H} {l0:Tr 0} {pl:Nat} {c:Cfg} {G X:RL} {s:TSt} {rows:RL} {v:Value} (htr:TR c G X s rows) (hv:SV 2 G v ((steps k0).length+1) (stC (steps k0++[(pl,0)]))) (hw:Whole s.m s.root (plug k0 l0)) (hok:OkC k0 (no 0 l0)) (hwf:wfC k0) (hlz:Lz l0) (hs:Srt (sq H (plug k0 l0)))
  (hbud:Sml l0∨(steps k0).length+2<=frM c.N s.m) (hcnt:0<=s.cnt) (hcnt2:s.cnt<=1000000000) (hsl:(steps k0).length<=100000) :
  CS Tryz.prog 69 [ptr c.rt,v] rows fun _ L'=>∃ X' m' root',(∀ q,q∈X->q∈X')/\TR c G X' ⟨m',root',s.cnt⟩ L'/\FinP m' root' s.cnt (sq H (plug k0 l0)):=by
 have hvr:=hv.mono htr.memG
 refine CS.mk (fn:=Tryz.f69) rfl rfl rfl rfl ?_
 repeat refine xQ ?_
 refine xG rfl ?_
 refine xP rfl rh rfl ?_
 refine xP rfl (e_len hvr rfl rfl rfl rfl rfl) rfl ?_
 refine xP rfl (e_is (e_sub (n:=2) rfl rfl rfl (in_i64 (by omega) (by omega))) (congrArg (Value.int .i64) (show (((steps k0).length+1:Nat):Int) - 2=((steps k0).length:Int) - 1 by omega))) rfl ?_
 refine xP rfl rh rfl ?_
 refine xN ?_
 repeat refine xQ ?_
 refine LS.mid [0] (fun a' L'=>∃ X' m' t',(∀ q,q∈X->q∈X')/\TR c G X' ⟨m',s.root,s.cnt⟩ L'/\Whole m' s.root (H:=H) t'/\Lz t'/\Srt (sq H t')/\SQ (sq H (plug k0 l0)) (sq H t')/\(256 < (bodyN (nd H t')).length->2<=frM c.N m')/\a'=[ptr c.rt,jn,jn,jn,jn,jn,jn,jn,jn,jn,jn,jn,jn,jn,jn,jn,jn,jn,jn,jn,jn,jn,jn,jn,jn,jn,jn,jn,jn,jn,jn,jn,jn,jn,jn,jn,jn,jn,jn,jn,jn,jn,jn,jn,jn,jn,jn,jn,jn,jn,jn,jn,jn,jn,jn,jn,jn,jn,jn,jn,jn,jn,jn,jn,jn,jn]) ?_ ?_
 ·refine LS.block ?_
  refine LS.loopJ [0,1,4] (fun z a' L'=>∃ (h:Nat) (k:Cx h H) (u:Tr h) (X':RL) (m':Mem),(∀ q,q∈X->q∈X')/\TR c G X' ⟨m',s.root,s.cnt⟩ L'/\Whole m' s.root (plug k u)/\OkC k (no h u)/\wfC k/\Lz u/\Srt (sq H (plug k u))/\SQ (sq H (plug k0 l0)) (sq H (plug k u))/\(∃ rest,steps k0=steps k++rest)/\(Sml u∨(steps k).length+2<=frM c.N m')/\z=(steps k).length/\a'=[ptr c.rt,v,jn,jn,.int .i64 ((steps k).length - 1:Int),jn,jn,jn,jn,jn,jn,jn,jn,jn,jn,jn,jn,jn,jn,jn,jn,jn,jn,jn,jn,jn,jn,jn,jn,jn,jn,jn,jn,jn,jn,jn,jn,jn,jn,jn,jn,jn,jn,jn,jn,jn,jn,jn,jn,jn,jn,jn,jn,jn,jn,jn,jn,jn,jn,jn,jn,jn,jn,jn,jn,jn]) (n:=(steps k0).length) rfl ⟨0,k0,l0,X,s.m,fun _ hq=>hq,htr,hw,hok,hwf,hlz,hs,SQ.refl,⟨[],by simp⟩,hbud,rfl,rfl⟩ ?_
  rintro z a' L1 ⟨h,k,u,X1,m1,hX1,htr1,hw1,hok1,hwf1,hlz1,hs1,hsq1,⟨rest,hrest⟩,hbud1,rfl,rfl⟩
  cases k with
  | top =>
   have hb:ileB 0 (((steps (Cx.top:Cx H H)).length:Int) - 1)=false:=rfl
   repeat refine xQ ?_
   refine xG rfl ?_
   refine xP rfl rh rfl ?_
   refine xP rfl (e_ib rh (hb)) rfl ?_
   refine xN ?_
   repeat refine xQ ?_
   refine xC rfl (fun hc=>?_) (fun hc=>?_)
   ·cases hc
   refine LS.exit ?_
   refine ⟨X1,m1,u,hX1,htr1,hw1,hlz1,hs1,hsq1,fun hbig=>?_,rfl⟩
   rcases hbud1 with hb1 | hb1
   ·have:=sml_body hb1; omega
   ·simp [steps] at hb1; exact hb1
  | up p A B L R c1 =>
   have hst:(steps (Cx.up p A B L R c1)).length=(steps c1).length+1:=by simp [steps]
   have hle:(steps c1).length+1<=(steps k0).length:=by rw [hrest,List.length_append,hst]; omega
   have hget:(steps k0++[(pl,0)])[(steps c1).length]?=some (p,L.length):=by rw [hrest]; simp [steps]
   obtain ⟨hg0,hg1⟩:=stC_get hget
   have hi:(((steps (Cx.up p A B L R c1)).length:Int) - 1)=((steps c1).length:Nat):=by rw [hst]; omega
   rw [hi]
   have hb:ileB 0 (((steps c1).length:Nat):Int)=true:=ileB_iff.2 (by omega)
   have hrp:RepT m1 (h+1) (inn p (A++B) (L++u::R)):=plug_rep (c:=c1) hw1.rep
   have hnp:(pgs (h+1) (inn p (A++B) (L++u::R))).Nodup:=plug_nod (c:=c1) hw1.nod
   obtain ⟨hf1,hsib,hok2⟩:=hok1
   obtain ⟨hlA,hlB,hwf2⟩:=hwf1
   have hnosu:nos (L++u::R)=nos L++((no h u:Nat):Int)::nos R:=by simp [nos]
   rw [← hnosu] at hf1
   have hmp:m1 p=some ⟨false,A++B,[],nos (L++u::R)⟩:=hrp.top
   have hL120:L.length<=120:=by
    have:=(Bg.of hf1).keys
    simp only [List.length_append] at this
    omega
   have hfk:256 < (bodyN (nd h u)).length->0 < frM c.N m1:=fun hbig=>by
    rcases hbud1 with hb1 | hb1
    ·have:=sml_body hb1; omega
    ·omega
   have htr10:=htr1
   have hv1:=hv.mono htr1.memG
   have hX1L:=htr1.mem
   have hGL:=htr1.memG
   obtain ⟨T,es,ck,ws,wk,g,rfl,hN,hp,hgm,hmr⟩:=htr1.now
   obtain ⟨r,hgr0,v1,v2,v3,hr1,hP⟩:=(hmr p).2 _ hmp
   have hgr:(g p).getD (.pointer none)=ptr r:=by rw [hgr0]; rfl
   repeat refine xQ ?_
   refine xG rfl ?_
   refine xP rfl rh rfl ?_
   refine xP rfl (e_ib rh (hb)) rfl ?_
   refine xN ?_
   repeat refine xQ ?_
   refine xC rfl (fun hc=>?_) (fun hc=>?_)
   ·refine LS.skip ?_
    repeat refine xQ ?_
    refine LS.block ?_
    repeat refine xQ ?_
    refine LS.drawn noGo mixed [(0,false),(1,false),(2,false),(3,false),(4,false),(5,false),(6,false),(7,false),(8,false),(9,false),(10,false),(11,false)] rfl rfl (by kernel_rfl) ?_
    iterate 4 refine xD rfl rfl rh rfl ?_
    refine xE rfl rfl (e_loadm (row:=trRow c.rf c.rn c.rw s.root s.cnt c.root0 c.cnt0) (r:=c.rt) (by simp) rfl rfl rfl rfl) rfl ?_
    iterate 2 refine xD rfl rfl rh rfl ?_
    refine ODS.at (j:=(steps c1).length) hv1 (by omega) rfl rfl rfl rfl rfl rfl rfl (fun ra oa rowa csa q1 q2 q3 q4=>⟨_,rfl,?_⟩)
    refine xD rfl rfl rh rfl ?_
    refine xE rfl rfl (e_loadm q1 q2 rfl rfl (part_one rfl (q3 0 _ (by omega) hg0))) rfl ?_
    refine xE rfl rfl (e_get hgm (by simp) rfl rfl rfl rfl (fun _=>rfl) rfl) rfl ?_
    rw [hgr]
    refine xD rfl rfl rh rfl ?_
    refine xM ?_
    repeat refine xQ ?_
    refine LS.drawn noGo mixed [(0,false),(1,false),(2,false),(3,false),(4,false),(5,false),(6,false),(7,false),(8,false),(9,false),(10,false),(11,true)] rfl rfl (by kernel_rfl) ?_
    iterate 3 refine xD rfl rfl rh rfl ?_
    refine ODS.at (j:=(steps c1).length) hv1 (by omega) rfl rfl rfl rfl rfl rfl rfl (fun ra oa rowa csa q1 q2 q3 q4=>⟨_,rfl,?_⟩)
    refine xD rfl rfl rh rfl ?_
    refine xE rfl rfl (e_loadm q1 q2 rfl rfl (part_one rfl (q3 0 _ (by omega) hg0))) rfl ?_
    iterate 2 refine xD rfl rfl rh rfl ?_
    refine ODS.at (j:=(steps c1).length) hv1 (by omega) rfl rfl rfl rfl rfl rfl rfl (fun ra oa rowa csa q1 q2 q3 q4=>⟨_,rfl,?_⟩)
    refine xD rfl rfl rh rfl ?_
    refine xE rfl rfl (e_loadm q1 q2 rfl rfl (part_one rfl (q3 1 _ (by omega) hg1))) rfl ?_
    refine ODS.call rfl rfl (fun _=>rfl) ((mendKid_tr htr10 hlA hlB hrp hnp hf1 hsib (Srt.plug (c:=c1) hwf2 hs1) hlz1 hfk).mono ?_)
    rintro w L2 hmpost
    refine ⟨_,rfl,(by repeat (first | exact Keep.nil | refine Keep.gone rfl ?_)),?_⟩
    refine xM ?_
    obtain ⟨X2,m2,ks2,ts2,e1,e2,e3,e4,e5,e6,e7⟩:=hmpost.lz
    simp only at e2 e3 e6 e7
    have hvp:=Via.plug (c:=c1) e3 hwf2 hw1.rep hw1.nod
    have hw2:=hw1.via hvp
    have hs2:Srt (sq H (plug c1 (inn p ks2 ts2))):=hvp.sv.to hs1
    have hmp2:m2 p=some ⟨false,ks2,[],nos ts2⟩:=e3.rep.top
    have e20:=e2
    have hv2:=hv.mono e2.memG
    have hX2L:=e2.mem
    have hr2L:=hX2L _ (e1 _ hr1)
    obtain ⟨T2,es2,ck2,ws2,wk2,g2,rfl,hN2,hp2,hgm2,hmr2⟩:=e2.now
    obtain ⟨r2,hgr20,x1,x2,x3,hr2,hP2⟩:=(hmr2 p).2 _ hmp2
    have hgr2:(g2 p).getD (.pointer none)=ptr r2:=by rw [hgr20]; rfl
    refine LS.nodup fun hnd=>?_
    repeat refine xQ ?_
    refine LS.drawn noGo mixed [(0,false),(1,false),(2,false),(3,false),(4,false),(5,false),(6,false),(7,false),(8,false),(9,false),(10,false),(11,false),(12,false)] rfl rfl (by kernel_rfl) ?_
    iterate 4 refine xD rfl rfl rh rfl ?_
    refine xE rfl rfl (e_loadm (row:=trRow c.rf c.rn c.rw s.root s.cnt c.root0 c.cnt0) (r:=c.rt) (by simp) rfl rfl rfl rfl) rfl ?_
    iterate 2 refine xD rfl rfl rh rfl ?_
    refine ODS.at (j:=(steps c1).length) hv2 (by omega) rfl rfl rfl rfl rfl rfl rfl (fun ra oa rowa csa q1 q2 q3 q4=>⟨_,rfl,?_⟩)
    refine xD rfl rfl rh rfl ?_
    refine xE rfl rfl (e_loadm q1 q2 rfl rfl (part_one rfl (q3 0 _ (by omega) hg0))) rfl ?_
    refine xE rfl rfl (e_get hgm2 (by simp) rfl rfl rfl rfl (fun _=>rfl) rfl) rfl ?_
    rw [hgr2]
    refine xD rfl rfl rh rfl ?_
    by_cases hrr:r2=r
    ·subst hrr
     have hnn:=node_one hnd hX2L ⟨v1,v2,v3,e1 _ hr1,hP.mono e1⟩ ⟨x1,x2,x3,hr2,hP2⟩
     have hokt:Okt (h+1) (inn p ks2 ts2):=⟨by rw [nd_inn,← hnn]; exact hf1,e5⟩
     refine xD rfl rfl (e_eqp rfl rfl rfl rfl rfl) rfl ?_
     refine xM ?_
     repeat refine xQ ?_
     refine xC rfl (fun hc=>?_) (fun hc=>?_)
     ·refine LS.exit ?_
      have hokw:Okt H (plug c1 (inn p ks2 ts2)):=ok_plug.2 ⟨hok2,hokt⟩
      exact ⟨X2,m2,_,fun q hq=>e1 q (hX1 q hq),e20,hw2,hokw.lz,hs2,hsq1.trans hvp.sv,fun hbig=>absurd (fits_le hokw.fits) (by omega),rfl⟩
     ·cases hc
    ·refine xE rfl rfl (e_two (n:=3) (.inl ⟨rfl,rfl⟩) rfl rfl rfl rfl rfl (hX2L _ hr2) hr2L hrr rfl rfl) rfl ?_
     refine xM ?_
     repeat refine xQ ?_
     refine xC rfl (fun hc=>?_) (fun hc=>?_)
     ·cases hc
     refine LS.skip ?_
     repeat refine xQ ?_
     refine xG rfl ?_
     refine xP rfl rh rfl ?_
     refine xP rfl (e_sub (n:=1) rfl rfl rfl (in_i64 (by omega) (by omega))) rfl ?_
     refine xP rfl rh rfl ?_
     refine xN ?_
     refine ⟨(steps c1).length,by rw [hst]; omega,h+1,c1,inn p ks2 ts2,X2,m2,fun q hq=>e1 q (hX1 q hq),e20,hw2,hok2,hwf2,e4,hs2,hsq1.trans hvp.sv,⟨(p,L.length)::rest,by rw [hrest]; simp [steps]⟩,?_,rfl,rfl⟩
     rcases hbud1 with hb1 | hb1
     ·exact .inl (e7 hb1).2
     ·exact .inr (by rw [hst] at hb1; omega)
   ·cases hc
 rintro a' L1 ⟨X1,m1,t1,hX1,htr1,hw1,hlz1,hs1,hsq1,hbud1,rfl⟩
 repeat refine xQ ?_
 refine xG rfl ?_
 refine xP rfl rh rfl ?_
 refine xA noGo rfl (fun _=>rfl) ((mendRoot_tr htr1 hw1 hlz1 hbud1).mono ?_)
 rintro w L2 ⟨X2,m2,root2,e1,e2,e3,_⟩
 simp only at e2
 refine ⟨_,rfl,?_⟩
 refine xN ?_
 have e20:=e2
 obtain ⟨T2,es2,ck2,ws2,wk2,g2,rfl,hN2,hp2,hgm2,hmr2⟩:=e2.now
 have hes:es2.length<=32768:=by
  have:=hgm2.card (A:=(List.range T2.length).filter fun i=>(m2 i).isSome) (List.nodup_range.filter _) fun q=>by
   rw [List.mem_filter,List.mem_range]
   constructor
   ·rintro ⟨_,h1⟩ h2
    cases hm:m2 q with
    | none=>rw [hm] at h1; cases h1
    | some n=>obtain ⟨r,h3,_⟩:=(hmr2 q).2 n hm; rw [h2] at h3; cases h3
   ·intro hq
    have:m2 q≠none:=fun hh=>hq ((hmr2 q).1 hh)
    exact ⟨hp2.dom q this,by cases hm:m2 q with
     | none=>exact absurd hm this
     | some n=>rfl⟩
  rw [this]
  refine Nat.le_trans (List.length_filter_le ..) ?_
  rw [List.length_range]
  exact hp2.N
 have e3':RPost (Okt H t1/\Tdy H t1) m2 root2 (sq H (plug k0 l0)):=e3.sq hsq1 id
 repeat refine xQ ?_
 refine LS.drawn noGo mixed [(0,false),(1,false),(2,false),(3,false),(4,false),(5,false),(6,false),(7,false),(8,false),(9,false),(10,false),(11,false),(12,false)] rfl rfl (by kernel_rfl) ?_
 iterate 4 refine xD rfl rfl rh rfl ?_
 refine xE rfl rfl (e_loadm (row:=trRow c.rf c.rn c.rw root2 s.cnt c.root0 c.cnt0) (r:=c.rt) (by simp) rfl rfl rfl rfl) rfl ?_
 refine xE rfl rfl (e_lenM (r:=c.rn) (es:=es2) (ck:=ck2) (by simp) rfl rfl rfl rfl rfl) rfl ?_
 iterate 4 refine xD rfl rfl rh rfl ?_
 refine xE rfl rfl (e_loadm (row:=trRow c.rf c.rn c.rw root2 s.cnt c.root0 c.cnt0) (r:=c.rt) (by simp) rfl rfl rfl rfl) rfl ?_
 refine xD rfl rfl (e_mul (m:=3) rfl rfl rfl (in_i64 (by omega) (by omega))) rfl ?_
 by_cases hbig:((es2.length:Nat):Int)<=3 * s.cnt
 ·have hb:(!ileB ((es2.length:Nat):Int) (3 * s.cnt))=false:=by rw [ileB_eq,decide_eq_true hbig]; rfl
  refine xD rfl rfl (e_ib rh (hb)) rfl ?_
  refine xM ?_
  repeat refine xQ ?_
  refine xC rfl (fun hc=>?_) (fun hc=>?_)
  ·cases hc
  refine LS.skip ?_
  refine ⟨_,fun _ _=>rfl,X2,m2,root2,fun q hq=>e1 q (hX1 q hq),e20,?_⟩
  rcases e3' with h | ⟨H',t',h1,h2,h3,h4,h5⟩
  ·exact .inl h
  ·refine .inr ⟨H',t',h1,h2,h3,.inl ?_⟩
   rw [← whole_card hgm2 hmr2 h1]; exact hbig
 ·have hb:(!ileB ((es2.length:Nat):Int) (3 * s.cnt))=true:=by rw [ileB_eq,decide_eq_false hbig]; rfl
  refine xD rfl rfl (e_ib rh (hb)) rfl ?_
  refine xM ?_
  repeat refine xQ ?_
  refine xC rfl (fun hc=>?_) (fun hc=>?_)
  ·rcases e3' with ⟨h1,h2,h3⟩ | ⟨H',t',h1,h2,h3,h4,h5⟩
   ·exfalso
    have:=hgm2.card (A:=[]) List.nodup_nil fun q=>by
     constructor
     ·intro hq; cases hq
     ·intro hq; exact absurd ((hmr2 q).1 (h2 q)) hq
    rw [this] at hbig
    simp at hbig
    omega
   ·repeat refine xQ ?_
    refine xG rfl ?_
    refine xP rfl rh rfl ?_
    refine xA noGo rfl (fun _=>rfl) ((tidy_tr e20 h1 h2).mono ?_)
    rintro w L3 ⟨X3,m3,root3,f1,f2,f3,_⟩
    refine ⟨_,rfl,?_⟩
    refine xN ?_
    refine ⟨_,fun _ _=>rfl,X3,m3,root3,fun q hq=>f1 q (e1 q (hX1 q hq)),f2,?_⟩
    rcases f3 with ⟨g1,g2,g3⟩ | ⟨H3,t3,g1,g2,g3,g4,g5⟩
    ·exact .inl ⟨g1,g2,by rw [h3.kv]; exact g3⟩
    ·exact .inr ⟨H3,t3,g1,g2,h3.trans g3,.inr ⟨g5 trivial,g4⟩⟩
  ·cases hc
end Go.Proofs.YtlmmddfhoabjfaaGreat
end
section
namespace Go.Proofs.YtlmmddfhoabjfaaGreat
open Go.Am
def nbs (c:Nat):List Nat->Prop
 | a::b::l=>c<=a+b/\nbs c (b::l)
 | _=>True
theorem nbs_tail {c a:Nat} {l:List Nat} (h:nbs c (a::l)):nbs c l:=by
 cases l with
 | nil=>trivial
 | cons b l=>exact h.2
theorem nbs_of {c:Nat}:∀ {l:List Nat},(∀ (j a b:Nat),l[j]?=some a->l[j+1]?=some b->c<=a+b)->nbs c l
 | [],_=>trivial
 | [a],_=>trivial
 | a::b::l,h=>⟨h 0 a b rfl rfl,nbs_of (l:=b::l) fun j x y h1 h2=>h (j+1) x y (by simpa using h1) (by simpa using h2)⟩
theorem sum_3:∀ {l:List Nat},(∀ x∈l,1<=x)->nbs 3 l->4 * l.length<=3 * l.sum+1
 | [],_,_=>by simp
 | [a],h,_=>by have:=h a (by simp); simp; omega
 | a::b::l,h,hn=>by
  have:=sum_3 (l:=l) (fun x hx=>h x (by simp [hx])) (nbs_tail (nbs_tail hn))
  have h1:3<=a+b:=hn.1
  simp only [List.length_cons,List.sum_cons]
  omega
theorem sum_8:∀ {l:List Nat},(∀ x∈l,1<=x)->nbs 8 l->4 * l.length<=l.sum+3
 | [],_,_=>by simp
 | [a],h,_=>by have:=h a (by simp); simp; omega
 | a::b::l,h,hn=>by
  have:=sum_8 (l:=l) (fun x hx=>h x (by simp [hx])) (nbs_tail (nbs_tail hn))
  have h1:8<=a+b:=hn.1
  simp only [List.length_cons,List.sum_cons]
  omega
theorem kvs_cons_S {k:Tx} {l:List It}:kvs (It.S k::l)=kvs l:=rfl
theorem kvs_post:∀ {ks:List Tx} {ss:List (List It)},ks.length=ss.length->kvs (postI ks ss)=(ss.map kvs).flatten
 | [],[],_=>rfl
 | [],_::_,h=>by simp at h
 | _::_,[],h=>by simp at h
 | k::ks,s::ss,h=>by
  have:=kvs_post (ks:=ks) (ss:=ss) (by simpa using h)
  simp only [postI,kvs_cons_S,kvs_app,this,List.map_cons,List.flatten_cons]
theorem kvs_wv {ks:List Tx} {ss:List (List It)} (h:ss.length=ks.length+1):kvs (wv ks ss)=(ss.map kvs).flatten:=by
 cases ss with
 | nil=>simp at h
 | cons s ss=>simp only [wv,kvs_app,kvs_post (ks:=ks) (ss:=ss) (by simpa using h.symm),List.map_cons,List.flatten_cons]
def prs {h:Nat} (t:Tr h):Nat:=(kvs (sq h t)).length
theorem prs_inn {h p:Nat} {ks:List Tx} {ts:List (Tr h)} (hl:ts.length=ks.length+1):prs (inn p ks ts)=(ts.map prs).sum:=by
 unfold prs
 rw [sq_inn,kvs_wv (by rw [List.length_map]; exact hl),List.length_flatten]
 congr 1
 simp [Function.comp_def]
theorem kvs_zip:∀ {ks vs:List Tx},kvs (List.zipWith It.K ks vs)=ks.zip vs
 | [],_=>by simp [kvs]
 | _::_,[]=>by simp [kvs]
 | k::ks,v::vs=>by
  have:=kvs_zip (ks:=ks) (vs:=vs)
  rw [List.zipWith_cons_cons,List.zip_cons_cons,← this]; rfl
theorem prs_lf {p:Nat} {ks vs:List Tx} (h:vs.length=ks.length):prs (lf p ks vs)=ks.length:=by
 unfold prs
 rw [sq_lf,kvs_zip,List.length_zip,h]; omega
theorem pgs_sum {h p:Nat} {ks:List Tx} {ts:List (Tr h)}:(pgs (h+1) (inn p ks ts)).length=(ts.map fun t=>(pgs h t).length).sum+1:=by
 rw [pgs_inn,List.length_cons,List.length_flatMap]
def wd:{h:Nat}->Tr h->Nat
 | 0,t=>(Lf.ks t).length
 | _+1,t=>(Inn.ts t).length
theorem srt_leaf {ks vs:List Tx} (hs:Srt (List.zipWith It.K ks vs)) (hl:vs.length=ks.length):ks.Pairwise fun a b=>bytesLt a b=true:=by
 induction ks generalizing vs with
 | nil=>exact List.Pairwise.nil
 | cons k ks ih =>
  cases vs with
  | nil=>simp at hl
  | cons v vs =>
   have h:=List.pairwise_cons.1 (show List.Pairwise lessI (It.K k v::List.zipWith It.K ks vs) from hs)
   refine List.pairwise_cons.2 ⟨fun x hx=>?_,ih h.2 (by simpa using hl)⟩
   obtain ⟨i,hi,rfl⟩:=List.getElem_of_mem hx
   have hl':vs.length=ks.length:=by simpa using hl
   have hm:It.K ks[i] vs[i]∈List.zipWith It.K ks vs:=by
    refine List.mem_iff_getElem?.2 ⟨i,?_⟩
    rw [List.getElem?_zipWith,List.getElem?_eq_getElem hi,List.getElem?_eq_getElem (show i < vs.length by omega)]
   exact h.1 _ hm
theorem may_leaf {ks vs:List Tx} (hs:Srt (List.zipWith It.K ks vs)) (hl:vs.length=ks.length) (hk:∀ k∈ks,1<=k.length/\k.length<=32) (hv:∀ v∈vs,v.length<=64):mayN ⟨true,ks,vs,[]⟩=true:=by
 refine may_iff.2 ⟨rise_iff.2 ⟨srt_leaf hs hl,fun k hk'=>⟨?_,(hk k hk').2⟩⟩,.inl ⟨rfl,hl,rfl,hv⟩⟩
 have:=(hk k hk').1
 cases k with
 | nil=>simp at this
 | cons _ _=>rfl
theorem join_may:∀ {h:Nat} {a b:Tr h} {k:Tx},Okt h a->Okt h b->Srt (sq h a++It.S k::sq h b)->1<=k.length/\k.length<=32->mayN (joinN (nd h a) k (nd h b))=true
 | 0,a,b,k,ha,hb,hs,hk=>by
  have h1:=(sq_mrg (k:=k) ha hb).to hs
  obtain ⟨p,ks,vs,rfl⟩:=lf_eta a
  obtain ⟨p',ks',vs',rfl⟩:=lf_eta b
  have la:=ha.vs
  have lb:=hb.vs
  refine may_leaf (ks:=ks++ks') (vs:=vs++vs') h1 (by simp [la,lb]) (fun x hx=>?_) (fun x hx=>?_)
  ·rcases List.mem_append.1 hx with hx | hx
   ·exact may_keys (fits_may ha.fits) x hx
   ·exact may_keys (fits_may hb.fits) x hx
  ·rcases List.mem_append.1 hx with hx | hx
   ·exact (may_vs (fits_may ha.fits) rfl).2.2 x hx
   ·exact (may_vs (fits_may hb.fits) rfl).2.2 x hx
 | h+1,a,b,k,ha,hb,hs,hk=>by
  have h1:=(sq_mrg (k:=k) ha hb).to hs
  obtain ⟨p,ks,ts,rfl⟩:=inn_eta a
  obtain ⟨p',ks',ts',rfl⟩:=inn_eta b
  have la:=ha.len
  have lb:=hb.len
  have h2:=may_inn (p:=p) (ks:=ks++k::ks') (ts:=ts++ts') h1 (by simp [la,lb]; omega) (fun x hx=>?_) (fun x hx=>?_)
  ·rw [← nd_mrg]; exact h2
  ·simp only [List.mem_append,List.mem_cons] at hx
   rcases hx with hx | rfl | hx
   ·exact may_keys (fits_may ha.fits) x hx
   ·exact hk
   ·exact may_keys (fits_may hb.fits) x hx
  ·have hz:∀ {q:Nat} {ks:List Tx} {ts:List (Tr h)},Okt (h+1) (inn q ks ts)->∀ x∈ts,no h x<=32768:=fun {q ks ts} hk x hx=>by
    have:=(may_kids (fits_may hk.fits) rfl).2.2 ((no h x:Nat):Int) (by
     show _∈nos ts
     exact List.mem_map.2 ⟨x,hx,rfl⟩)
    omega
   rcases List.mem_append.1 hx with hx | hx
   ·exact hz ha x hx
   ·exact hz hb x hx
theorem nj_wide:∀ {h:Nat} {a b:Tr h} {k:Tx},Okt h a->Okt h b->Srt (sq h a++It.S k::sq h b)->1<=k.length/\k.length<=32->fitsN (joinN (nd h a) k (nd h b))=false->(if h=0 then 3 else 8)<=wd a+wd b
 | 0,a,b,k,ha,hb,hs,hk,hf=>by
  have hm:=join_may ha hb hs hk
  obtain ⟨p,ks,vs,rfl⟩:=lf_eta a
  obtain ⟨p',ks',vs',rfl⟩:=lf_eta b
  by_cases hle:(ks++ks').length<=2
  ·have:=room_fits hm (.inl ⟨rfl,hle⟩)
   rw [this] at hf; cases hf
  ·show 3<=ks.length+ks'.length
   simp at hle; omega
 | h+1,a,b,k,ha,hb,hs,hk,hf=>by
  have hm:=join_may ha hb hs hk
  obtain ⟨p,ks,ts,rfl⟩:=inn_eta a
  obtain ⟨p',ks',ts',rfl⟩:=inn_eta b
  have la:=ha.len
  have lb:=hb.len
  have hks:(joinN (nd (h+1) (inn p ks ts)) k (nd (h+1) (inn p' ks' ts'))).ks=(ks++[k])++ks':=rfl
  by_cases hle:((ks++[k])++ks').length<=6
  ·have:=room_fits hm (.inr ⟨rfl,by rw [hks]; exact hle⟩)
   rw [this] at hf; cases hf
  ·show 8<=ts.length+ts'.length
   simp at hle; omega
theorem tdy_nbs {h p:Nat} {ks:List Tx} {ts:List (Tr h)} (hok:Okt (h+1) (inn p ks ts)) (ht:Tdy (h+1) (inn p ks ts)) (hs:Srt (sq (h+1) (inn p ks ts))):nbs (if h=0 then 3 else 8) (ts.map wd):=by
 refine nbs_of fun j x y hx hy=>?_
 rw [List.getElem?_map] at hx hy
 have hj:j+1 < ts.length:=by
  by_cases h1:j+1 < ts.length
  ·exact h1
  ·rw [List.getElem?_eq_none (by omega)] at hy; cases hy
 obtain ⟨A,k,B,L,a,b,R,rfl,rfl,hA,hL⟩:=split2 hok.len hj
 subst hL
 have ha:(L++a::b::R)[L.length]?=some a:=by simp
 have hb:(L++a::b::R)[L.length+1]?=some b:=by simp
 rw [ha] at hx
 rw [hb] at hy
 cases hx
 cases hy
 have hf:=(tdy_inn.1 ht).1 (L.length:Nat)
 have hsq:=sq_at (p:=p) (A:=A) (B:=k::B) (L:=L) (R:=b::R) (u:=a) hA
 rw [hsq] at hs
 have h2:Srt (sq h a++It.S k::sq h b):=by
  refine List.Pairwise.sublist ?_ hs
  refine (List.Sublist.append_left ?_ (sq h a)).trans (List.sublist_append_right ..)
  show (It.S k::sq h b).Sublist (It.S k::(sq h b++postI B (R.map (sq h))))
  exact (List.sublist_append_left ..).cons_cons _
 exact nj_wide (hok.kid a (by simp)) (hok.kid b (by simp)) h2 (may_keys (fits_may hok.fits) k (by simp)) (hf.get hA rfl)
theorem wd_pos:∀ {h:Nat} {t:Tr h},Okt h t->1<=wd t
 | 0,t,hk=>by
  obtain ⟨p,ks,vs,rfl⟩:=lf_eta t
  have:=(ok_lf.1 hk).2
  exact List.length_pos_iff.2 this
 | h+1,t,hk=>by
  obtain ⟨p,ks,ts,rfl⟩:=inn_eta t
  have:=hk.len
  show 1<=ts.length
  omega
theorem sums_le {α:Type} {f g e:α->Nat} {a b:Nat}:∀ {l:List α},(∀ x∈l,g x+a * (e x - 1)+2<=3 * f x+b)->(l.map g).sum+a * (l.map fun x=>e x - 1).sum+2 * l.length<=3 * (l.map f).sum+b * l.length
 | [],_=>by simp
 | x::l,h=>by
  have h1:=sums_le (l:=l) fun y hy=>h y (List.mem_cons_of_mem _ hy)
  have h2:=h x (List.mem_cons_self ..)
  simp only [List.map_cons,List.sum_cons,List.length_cons,Nat.mul_add,Nat.mul_succ] at h1 ⊢
  omega
theorem minus_one {α:Type} {e:α->Nat}:∀ {l:List α},(∀ x∈l,1<=e x)->(l.map fun x=>e x - 1).sum+l.length=(l.map e).sum
 | [],_=>rfl
 | x::l,h=>by
  have h1:=minus_one (l:=l) fun y hy=>h y (List.mem_cons_of_mem _ hy)
  have h2:=h x (List.mem_cons_self ..)
  simp only [List.map_cons,List.sum_cons,List.length_cons]
  omega
theorem sum_ones {α:Type}:∀ l:List α,(l.map fun _=>1).sum=l.length
 | []=>rfl
 | _::l=>by rw [List.map_cons,List.sum_cons,sum_ones l,List.length_cons]; omega
theorem few_inn:∀ {h:Nat} {t:Tr (h+1)},Okt (h+1) t->Tdy (h+1) t->Srt (sq (h+1) t)->(pgs (h+1) t).length+(h+3) * (wd t - 1)+2<=3 * prs t+(h+1)
 | 0,t,hok,ht,hs=>by
  obtain ⟨p,ks,ts,rfl⟩:=inn_eta t
  have hl:=hok.len
  have hn:=tdy_nbs hok ht hs
  have hsum:=sum_3 (l:=ts.map wd) (fun x hx=>by
   obtain ⟨u,hu,rfl⟩:=List.mem_map.1 hx
   exact wd_pos (hok.kid u hu)) hn
  have h1:ts.map prs=ts.map wd:=List.map_congr_left fun u hu=>by
   have:=hok.kid u hu
   obtain ⟨q,ks',vs',rfl⟩:=lf_eta u
   exact prs_lf this.vs
  have h2:(ts.map fun t=>(pgs 0 t).length).sum=ts.length:=by
   have:ts.map (fun t=>(pgs 0 t).length)=ts.map fun _=>1:=rfl
   rw [this]; exact sum_ones ts
  rw [prs_inn hl,h1,pgs_sum,h2]
  show _+3 * (ts.length - 1)+2<=_
  rw [List.length_map] at hsum
  omega
 | h+1,t,hok,ht,hs=>by
  obtain ⟨p,ks,ts,rfl⟩:=inn_eta t
  have hl:=hok.len
  have hn:=tdy_nbs hok ht hs
  have hp:∀ x∈ts,1<=wd x:=fun x hx=>wd_pos (hok.kid x hx)
  have hsum:=sum_8 (l:=ts.map wd) (fun x hx=>by
   obtain ⟨u,hu,rfl⟩:=List.mem_map.1 hx
   exact hp u hu) hn
  have hm:=minus_one hp
  have hsr:∀ x∈ts,Srt (sq (h+1) x):=fun x hx=>by
   obtain ⟨j,hj,rfl⟩:=List.getElem_of_mem hx
   obtain ⟨A,B,L,a,R,rfl,rfl,hA,hL⟩:=split1 hl hj
   subst hL
   have e:(L++a::R)[L.length]=a:=by simp
   rw [e]
   rw [sq_at hA] at hs
   exact List.Pairwise.sublist ((List.sublist_append_left ..).trans (List.sublist_append_right ..)) hs
  have hall:=sums_le (f:=prs) (g:=fun t=>(pgs (h+1) t).length) (e:=wd) (a:=h+3) (b:=h+1) (l:=ts) fun x hx=>few_inn (hok.kid x hx) ((tdy_inn.1 ht).2 x hx) (hsr x hx)
  rw [prs_inn hl,pgs_sum]
  rw [List.length_map] at hsum
  have hx:ts.length=(ts.length - 1)+1:=by omega
  generalize hd:(ts.map fun x=>wd x - 1).sum=d at hall hm
  generalize (ts.map fun t=>(pgs (h+1) t).length).sum=gs at hall ⊢
  generalize (ts.map prs).sum=q at hall ⊢
  show gs+1+(h+1+3) * (ts.length - 1)+2<=3 * q+(h+1+1)
  generalize ts.length - 1=x at hx ⊢
  rw [hx] at hall hm hsum
  have h3:(h+3) * (3 * x)<=(h+3) * d:=Nat.mul_le_mul_left _ (by omega)
  have e1:(h+3) * (3 * x)=3 * (h * x)+9 * x:=by rw [Nat.add_mul,Nat.mul_left_comm]; omega
  have e2:(h+1) * (x+1)=h * x+x+h+1:=by rw [Nat.add_mul,Nat.mul_add]; omega
  have e3:(h+1+3) * x=h * x+4 * x:=by rw [Nat.add_assoc,Nat.add_mul]
  rw [e2] at hall
  rw [e3]
  rw [e1] at h3
  omega
theorem grow_inn:∀ {h:Nat} {t:Tr (h+1)},Okt (h+1) t->Tdy (h+1) t->Srt (sq (h+1) t)->3 ^ h * (wd t - 1)+1<=(pgs (h+1) t).length
 | 0,t,hok,ht,hs=>by
  obtain ⟨p,ks,ts,rfl⟩:=inn_eta t
  have h2:(ts.map fun t=>(pgs 0 t).length).sum=ts.length:=by
   have:ts.map (fun t=>(pgs 0 t).length)=ts.map fun _=>1:=rfl
   rw [this]; exact sum_ones ts
  rw [pgs_sum,h2]
  show 3 ^ 0 * (ts.length - 1)+1<=_
  simp
 | h+1,t,hok,ht,hs=>by
  obtain ⟨p,ks,ts,rfl⟩:=inn_eta t
  have hl:=hok.len
  have hn:=tdy_nbs hok ht hs
  have hp:∀ x∈ts,1<=wd x:=fun x hx=>wd_pos (hok.kid x hx)
  have hsum:=sum_8 (l:=ts.map wd) (fun x hx=>by
   obtain ⟨u,hu,rfl⟩:=List.mem_map.1 hx
   exact hp u hu) hn
  have hm:=minus_one hp
  have hsr:∀ x∈ts,Srt (sq (h+1) x):=fun x hx=>by
   obtain ⟨j,hj,rfl⟩:=List.getElem_of_mem hx
   obtain ⟨A,B,L,a,R,rfl,rfl,hA,hL⟩:=split1 hl hj
   subst hL
   have e:(L++a::R)[L.length]=a:=by simp
   rw [e]
   rw [sq_at hA] at hs
   exact List.Pairwise.sublist ((List.sublist_append_left ..).trans (List.sublist_append_right ..)) hs
  have hall:∀ (l:List (Tr (h+1))),(∀ x∈l,x∈ts)->3 ^ h * (l.map fun x=>wd x - 1).sum<=(l.map fun t=>(pgs (h+1) t).length).sum:=fun l=>by
   induction l with
   | nil=>intro _; simp
   | cons x l ih =>
    intro hx
    have h1:=ih fun y hy=>hx y (List.mem_cons_of_mem _ hy)
    have hxm:=hx x (List.mem_cons_self ..)
    have h2:=grow_inn (hok.kid x hxm) ((tdy_inn.1 ht).2 x hxm) (hsr x hxm)
    simp only [List.map_cons,List.sum_cons,Nat.mul_add]
    omega
  have h1:=hall ts fun _ hx=>hx
  rw [pgs_sum]
  rw [List.length_map] at hsum
  show 3 ^ (h+1) * (ts.length - 1)+1<=_
  have h3:3 ^ h * (3 * (ts.length - 1))<=3 ^ h * (ts.map fun x=>wd x - 1).sum:=Nat.mul_le_mul_left _ (by omega)
  rw [Nat.pow_succ,Nat.mul_assoc]
  omega
theorem few {H:Nat} {t:Tr H} (hok:Okt H t) (ht:Tdy H t) (hs:Srt (sq H t)) (h1:(nd H t).kids.length≠1):(pgs H t).length<=3 * prs t:=by
 cases H with
 | zero =>
  obtain ⟨p,ks,vs,rfl⟩:=lf_eta t
  have hp:=wd_pos hok
  rw [prs_lf hok.vs]
  have:1<=ks.length:=hp
  simp; omega
 | succ h =>
  have hp:=wd_pos hok
  have h2:=few_inn hok ht hs
  obtain ⟨p,ks,ts,rfl⟩:=inn_eta t
  have hw:wd (inn p ks ts)=ts.length:=rfl
  simp [nos] at h1
  have h3:(h+3) * 1<=(h+3) * (wd (inn p ks ts) - 1):=Nat.mul_le_mul_left _ (by omega)
  omega
theorem low {H:Nat} {t:Tr H} (hok:Okt H t) (ht:Tdy H t) (hs:Srt (sq H t)) (h1:(nd H t).kids.length≠1) (hN:(pgs H t).length<=32768):H<=10:=by
 cases H with
 | zero=>omega
 | succ h =>
  have hp:=wd_pos hok
  have h2:=grow_inn hok ht hs
  obtain ⟨p,ks,ts,rfl⟩:=inn_eta t
  have hw:wd (inn p ks ts)=ts.length:=rfl
  simp [nos] at h1
  have h3:3 ^ h * 1<=3 ^ h * (wd (inn p ks ts) - 1):=Nat.mul_le_mul_left _ (by omega)
  by_cases hh:h<=9
  ·omega
  ·have h4:3 ^ 10<=3 ^ h:=Nat.pow_le_pow_right (by omega) (by omega)
   have:(3:Nat) ^ 10=59049:=rfl
   omega
end Go.Proofs.YtlmmddfhoabjfaaGreat
end
section
namespace Go.Proofs.YtlmmddfhoabjfaaGreat
open Go.Am
abbrev Pr:=Tx × Tx
def getP (P:List Pr) (k:Tx):Option Tx:=(P.find? fun p=>decide (p.1=k)).map (·.2)
def putP (k v:Tx) (P:List Pr):List Pr:=P.filter (fun p=>bytesLt p.1 k)++(k,v)::P.filter fun p=>bytesLt k p.1
def delP (k:Tx) (P:List Pr):List Pr:=P.filter fun p=>!decide (p.1=k)
def SrtP (P:List Pr):Prop:=P.Pairwise fun p q=>bytesLt p.1 q.1=true
def AllLt (k:Tx) (A:List Pr):Prop:=∀ p∈A,bytesLt p.1 k=true
def AllGt (k:Tx) (A:List Pr):Prop:=∀ p∈A,bytesLt k p.1=true
theorem lt_ne {a b:Tx} (h:bytesLt a b=true):a≠b:=fun he=>by subst he; rw [lt_irr] at h; cases h
theorem lt_asym {a b:Tx} (h:bytesLt a b=true):bytesLt b a=false:=by
 cases hb:bytesLt b a with
 | false=>rfl
 | true=>have:=lt_trans h hb; rw [lt_irr] at this; cases this
section
variable {k v v0:Tx} {A B:List Pr}
theorem filt_all {p:Pr->Bool} {A:List Pr} (h:∀ x∈A,p x=true):A.filter p=A:=List.filter_eq_self.2 h
theorem filt_none {p:Pr->Bool} {A:List Pr} (h:∀ x∈A,p x=false):A.filter p=[]:=List.filter_eq_nil_iff.2 fun x hx=>by rw [h x hx]; decide
theorem put_new (hA:AllLt k A) (hB:AllGt k B):putP k v (A++B)=A++(k,v)::B:=by
 unfold putP
 rw [List.filter_append,List.filter_append,filt_all hA,filt_none (fun x hx=>lt_asym (hB x hx)),filt_none (fun x hx=>lt_asym (hA x hx)),filt_all hB]
 simp
theorem put_old (hA:AllLt k A) (hB:AllGt k B):putP k v (A++(k,v0)::B)=A++(k,v)::B:=by
 unfold putP
 rw [List.filter_append,List.filter_append,filt_all hA,filt_none (fun x hx=>lt_asym (hA x hx)),List.filter_cons_of_neg (by simp [lt_irr]),List.filter_cons_of_neg (by simp [lt_irr]),filt_none (fun x hx=>lt_asym (hB x hx)),filt_all hB]
 simp
theorem del_old (hA:AllLt k A) (hB:AllGt k B):delP k (A++(k,v0)::B)=A++B:=by
 unfold delP
 rw [List.filter_append,filt_all (fun x hx=>by simp [lt_ne (hA x hx)]),List.filter_cons_of_neg (by simp),filt_all (fun x hx=>by simp [(lt_ne (hB x hx)).symm])]
theorem get_old (hA:AllLt k A):getP (A++(k,v0)::B) k=some v0:=by
 unfold getP
 rw [List.find?_append,List.find?_eq_none.2 (fun x hx=>by simp [lt_ne (hA x hx)])]
 simp
theorem get_new (hA:AllLt k A) (hB:AllGt k B):getP (A++B) k=none:=by
 unfold getP
 rw [List.find?_append,List.find?_eq_none.2 (fun x hx=>by simp [lt_ne (hA x hx)]),List.find?_eq_none.2 (fun x hx=>by simp [(lt_ne (hB x hx)).symm])]
 rfl
end
theorem kvs_mem {l:List It} {p:Pr} (h:p∈kvs l):It.K p.1 p.2∈l:=by
 obtain ⟨x,hx,he⟩:=List.mem_filterMap.1 h
 cases x with
 | K a b=>cases he; exact hx
 | S a=>cases he
theorem kvs_K {k v:Tx} {l:List It}:kvs (It.K k v::l)=(k,v)::kvs l:=rfl
theorem kvs_lt {key:Tx} {l:List It} (h:∀ y∈l,Bef key y):AllLt key (kvs l):=fun p hp=>h _ (kvs_mem hp)
theorem kvs_gt {key:Tx} {l:List It} (h:∀ y∈l,Aft key y):AllGt key (kvs l):=fun p hp=>h _ (kvs_mem hp)
theorem srt_kvs {l:List It} (h:Srt l):SrtP (kvs l):=by
 unfold SrtP kvs
 rw [List.pairwise_filterMap]
 refine h.imp ?_
 rintro a b hab x hx y hy
 cases a with
 | S _=>cases hx
 | K k v =>
  cases b with
  | S _=>cases hy
  | K k' v'=>cases hx; cases hy; exact hab
theorem srt_ins {key v:Tx} {A B:List It} (hs:Srt (A++B)) (hA:∀ y∈A,Bef key y) (hB:∀ y∈B,Aft key y):Srt (A++It.K key v::B):=by
 obtain ⟨h1,h2,h3⟩:=List.pairwise_append.1 hs
 refine List.pairwise_append.2 ⟨h1,List.pairwise_cons.2 ⟨fun y hy=>?_,h2⟩,fun x hx y hy=>?_⟩
 ·have:=hB y hy
  cases y <;> exact this
 ·rcases List.mem_cons.1 hy with rfl | hy
  ·have:=hA x hx
   cases x <;> exact this
  ·exact h3 x hx y hy
theorem srt_del {x:It} {A B:List It} (hs:Srt (A++x::B)):Srt (A++B):=List.Pairwise.sublist ((List.sublist_cons_self ..).append_left A) hs
structure LfAt (key:Tx) (ks vs:List Tx) (i:Nat):Prop where
 le:i<=ks.length
 bef:∀ y∈List.zipWith It.K (ks.take i) (vs.take i),Bef key y
 no:isN key ks=false->∀ y∈List.zipWith It.K (ks.drop i) (vs.drop i),Aft key y
 is:isN key ks=true->i < ks.length/\(∃ v0,vs[i]?=some v0)/\ks[i]?=some key/\∀ y∈List.zipWith It.K (ks.drop (i+1)) (vs.drop (i+1)),Aft key y
theorem zip_mem {P:Tx->Prop}:∀ {ks vs:List Tx},(∀ k∈ks,P k)->∀ y∈List.zipWith It.K ks vs,∃ k v,y=It.K k v/\P k
 | [],_,_,y,hy=>by simp at hy
 | _::_,[],_,y,hy=>by simp at hy
 | k::ks,v::vs,h,y,hy=>by
  rw [List.zipWith_cons_cons] at hy
  rcases List.mem_cons.1 hy with rfl | hy
  ·exact ⟨k,v,rfl,h k (List.mem_cons_self ..)⟩
  ·exact zip_mem (fun k hk=>h k (List.mem_cons_of_mem _ hk)) y hy
theorem lf_at {key:Tx} {ks vs:List Tx} (hr:rise [] ks=true) (hl:vs.length=ks.length):LfAt key ks vs (belowN key ks):=by
 have hle:=below_le key ks
 refine ⟨hle,fun y hy=>?_,fun hi y hy=>?_,fun hi=>?_⟩
 ·obtain ⟨k,v,rfl,hk⟩:=zip_mem (P:=fun k=>bytesLt k key=true) (fun k hk=>by
   obtain ⟨j,hj,rfl⟩:=List.getElem_of_mem hk
   rw [List.length_take] at hj
   rw [List.getElem_take]
   exact below_lt (ks:=ks) (i:=j) (by omega) (List.getElem?_eq_getElem (by omega))) y hy
  exact hk
 ·obtain ⟨k,v,rfl,hk⟩:=zip_mem (P:=fun k=>bytesLt key k=true) (fun k hk=>by
   obtain ⟨j,hj,rfl⟩:=List.getElem_of_mem hk
   rw [List.length_drop] at hj
   rw [List.getElem_drop]
   have h1:bytesLt (ks[belowN key ks+j]'(by omega)) key=false:=by
    rw [below_iff hr (List.getElem?_eq_getElem (by omega)),decide_eq_false (by omega)]
   rcases lt_total (x:=key) (y:=ks[belowN key ks+j]'(by omega)) with h | h | h
   ·exact h
   ·exfalso
    have h0:ks[belowN key ks]?≠some key:=fun hh=>by rw [isN_iff.2 hh] at hi; cases hi
    by_cases hj0:j=0
    ·subst hj0; exact h0 (by rw [List.getElem?_eq_getElem (by omega)]; congr 1; exact h.symm)
    ·have h2:=rise_after hr (List.getElem?_eq_getElem (show belowN key ks < ks.length by omega)) (List.getElem?_eq_getElem (show belowN key ks+j < ks.length by omega)) (by omega)
     rw [← h] at h2
     have h3:=below_at (key:=key) (List.getElem?_eq_getElem (show belowN key ks < ks.length by omega))
     rw [h2] at h3; cases h3
   ·rw [h1] at h; cases h) y hy
  exact hk
 ·have h0:=isN_iff.1 hi
  have hlt:belowN key ks < ks.length:=by
   by_cases h:belowN key ks < ks.length
   ·exact h
   ·rw [List.getElem?_eq_none (by omega)] at h0; cases h0
  refine ⟨hlt,⟨_,List.getElem?_eq_getElem (by omega)⟩,h0,fun y hy=>?_⟩
  obtain ⟨k,v,rfl,hk⟩:=zip_mem (P:=fun k=>bytesLt key k=true) (fun k hk=>by
   obtain ⟨j,hj,rfl⟩:=List.getElem_of_mem hk
   rw [List.length_drop] at hj
   rw [List.getElem_drop]
   exact rise_after hr h0 (List.getElem?_eq_getElem (by omega)) (by omega)) y hy
  exact hk
section
variable {key v:Tx} {ks vs:List Tx} {i:Nat}
theorem zip_split (i:Nat):List.zipWith It.K ks vs=List.zipWith It.K (ks.take i) (vs.take i)++List.zipWith It.K (ks.drop i) (vs.drop i):=by
 rw [List.take_zipWith.symm,List.drop_zipWith.symm,List.take_append_drop]
theorem zip_one (hl:vs.length=ks.length) {v0:Tx} (hk:ks[i]?=some key) (hv:vs[i]?=some v0):List.zipWith It.K (ks.drop i) (vs.drop i)=It.K key v0::List.zipWith It.K (ks.drop (i+1)) (vs.drop (i+1)):=by
 obtain ⟨h1,rfl⟩:=List.getElem?_eq_some_iff.1 hk
 obtain ⟨h2,rfl⟩:=List.getElem?_eq_some_iff.1 hv
 rw [List.drop_eq_getElem_cons h1,List.drop_eq_getElem_cons h2,List.zipWith_cons_cons]
theorem zip_ins (hl:vs.length=ks.length) (hi:i<=ks.length):List.zipWith It.K (insL ks i key) (insL vs i v)=List.zipWith It.K (ks.take i) (vs.take i)++It.K key v::List.zipWith It.K (ks.drop i) (vs.drop i):=by
 unfold insL
 rw [List.zipWith_append (by simp [hl]),List.zipWith_cons_cons]
theorem zip_set (hl:vs.length=ks.length) (hk:ks[i]?=some key):List.zipWith It.K ks (vs.set i v)=List.zipWith It.K (ks.take i) (vs.take i)++It.K key v::List.zipWith It.K (ks.drop (i+1)) (vs.drop (i+1)):=by
 obtain ⟨h1,rfl⟩:=List.getElem?_eq_some_iff.1 hk
 rw [zip_split (ks:=ks) (vs:=vs.set i v) i]
 congr 1
 ·rw [List.take_set_of_le (Nat.le_refl _)]
 ·rw [zip_one (v0:=v) (by rw [List.length_set]; exact hl) hk (by rw [List.getElem?_set_self (by omega)]),List.drop_set_of_lt (by omega)]
theorem zip_del (hl:vs.length=ks.length) (hi:i < ks.length):List.zipWith It.K (ks.eraseIdx i) (vs.eraseIdx i)=List.zipWith It.K (ks.take i) (vs.take i)++List.zipWith It.K (ks.drop (i+1)) (vs.drop (i+1)):=by
 rw [List.eraseIdx_eq_take_drop_succ,List.eraseIdx_eq_take_drop_succ,List.zipWith_append (by simp [hl])]
theorem zB_ins {bs:List Tx} {b:Tx} (hl:bs.length=ks.length) (hi:i<=ks.length):(zipB (insL ks i key) (insL bs i b)).length=(zipB ks bs).length+((tB key).length+b.length):=by
 unfold insL
 rw [zipB_app (by simp [hl]),zipB_take (ks:=ks) (bs:=bs) (q:=i) hl.symm]
 simp only [List.length_append,zipB]
 omega
theorem zB_set {bs:List Tx} {b:Tx} (hl:bs.length=ks.length) (hi:i < ks.length):(zipB ks (bs.set i b)).length<=(zipB ks bs).length+b.length:=by
 rw [zipB_take (ks:=ks) (bs:=bs.set i b) (q:=i) (by rw [List.length_set]; exact hl.symm),zipB_take (ks:=ks) (bs:=bs) (q:=i) hl.symm,List.take_set_of_le (Nat.le_refl _)]
 have h2:i < bs.length:=by omega
 rw [List.drop_eq_getElem_cons hi,List.drop_eq_getElem_cons (l:=bs) h2,List.drop_eq_getElem_cons (l:=bs.set i b) (by rw [List.length_set]; exact h2),List.drop_set_of_lt (by omega)]
 simp only [zipB,List.length_append,List.getElem_set_self]
 omega
end
theorem map_insL {α β:Type} {f:α->β} {l:List α} {i:Nat} {x:α}:(insL l i x).map f=insL (l.map f) i (f x):=insL_map.symm
theorem mem_insL {α:Type} {l:List α} {i:Nat} {x y:α} (h:y∈insL l i x):y=x∨y∈l:=by
 unfold insL at h
 rcases List.mem_append.1 h with h | h
 ·exact .inr (List.mem_of_mem_take h)
 ·rcases List.mem_cons.1 h with h | h
  ·exact .inl h
  ·exact .inr (List.mem_of_mem_drop h)
theorem mem_set' {α:Type} {l:List α} {i:Nat} {x y:α} (h:y∈l.set i x):y=x∨y∈l:=by
 rcases List.mem_or_eq_of_mem_set h with h | h
 ·exact .inr h
 ·exact .inl h
theorem leaf_sm {ks vs:List Tx} (hf:fitsN ⟨true,ks,vs,[]⟩=true):ks.length<=84:=by
 have:=keys_3 (fits_may hf)
 have h2:=fits_le hf
 simp only at this
 omega
section
variable {h H:Nat} {c:Cx 0 H} {p:Nat} {key v:Tx} {ks vs:List Tx}
theorem at_leaf (hs:Srt (sq 0 (lf p ks vs))) (hf:fitsN ⟨true,ks,vs,[]⟩=true):vs.length=ks.length/\LfAt key ks vs (belowN key ks):=by
 have hm:=fits_may hf
 exact ⟨(may_vs hm rfl).1,lf_at (mayN_rise hm) (may_vs hm rfl).1⟩
theorem leaf_ins (hs:Srt (sq H (plug c (lf p ks vs)))) (hw:wfC c) (hbef:∀ y∈preC c,Bef key y) (haft:∀ y∈postC c,Aft key y) (hf:fitsN ⟨true,ks,vs,[]⟩=true) (hi:isN key ks=false) (h1:1<=key.length) (h2:key.length<=32) (h3:v.length<=64) :
  Srt (sq H (plug c (lf p (insL ks (belowN key ks) key) (insL vs (belowN key ks) v))))/\Lz (lf p (insL ks (belowN key ks) key) (insL vs (belowN key ks) v))/\kvs (sq H (plug c (lf p (insL ks (belowN key ks) key) (insL vs (belowN key ks) v))))=putP key v (kvs (sq H (plug c (lf p ks vs))))/\(putP key v (kvs (sq H (plug c (lf p ks vs))))).length=(kvs (sq H (plug c (lf p ks vs)))).length+1:=by
 have hm:=fits_may hf
 obtain ⟨hl,ha⟩:=at_leaf (key:=key) (p:=p) (Srt.plug hw hs) hf
 have hb:=ha.bef
 have hn:=ha.no hi
 have hle:=ha.le
 have hz:=leaf_sm hf
 rw [sq_plug hw,sq_lf,zip_split (belowN key ks)] at hs
 rw [sq_plug hw,sq_plug hw,sq_lf,sq_lf,zip_ins hl hle,zip_split (ks:=ks) (vs:=vs) (belowN key ks)]
 generalize hA:List.zipWith It.K (ks.take (belowN key ks)) (vs.take (belowN key ks))=A at hs hb ⊢
 generalize hB:List.zipWith It.K (ks.drop (belowN key ks)) (vs.drop (belowN key ks))=B at hs hn ⊢
 have hpA:∀ y∈preC c++A,Bef key y:=fun y hy=>by
  rcases List.mem_append.1 hy with hy | hy
  ·exact hbef y hy
  ·exact hb y hy
 have hpB:∀ y∈B++postC c,Aft key y:=fun y hy=>by
  rcases List.mem_append.1 hy with hy | hy
  ·exact hn y hy
  ·exact haft y hy
 have e1:preC c++((A++It.K key v::B)++postC c)=(preC c++A)++It.K key v::(B++postC c):=by simp
 have e2:preC c++((A++B)++postC c)=(preC c++A)++(B++postC c):=by simp
 rw [e2] at hs ⊢
 rw [e1]
 have hsn:=srt_ins (v:=v) hs hpA hpB
 refine ⟨hsn,?_,?_,?_⟩
 ·have hlen:(insL ks (belowN key ks) key).length=ks.length+1:=insL_len hle
  have hvl:(insL vs (belowN key ks) v).length=vs.length+1:=insL_len (by omega)
  have hso:Srt (List.zipWith It.K (insL ks (belowN key ks) key) (insL vs (belowN key ks) v)):=by
   rw [zip_ins hl hle,hA,hB]
   refine List.Pairwise.sublist ?_ hsn
   have:(A++It.K key v::B).Sublist ((preC c++(A++It.K key v::B))++postC c):=(List.sublist_append_right ..).trans (List.sublist_append_left ..)
   simp only [List.append_assoc,List.cons_append] at this ⊢; exact this
  have hmay:mayN ⟨true,insL ks (belowN key ks) key,insL vs (belowN key ks) v,[]⟩=true:=may_leaf hso (by rw [hlen,hvl,hl]) (fun k hk=>by
   rcases mem_insL hk with rfl | hk
   ·exact ⟨h1,h2⟩
   ·exact may_keys hm k hk) (fun x hx=>by
   rcases mem_insL hx with rfl | hx
   ·exact h3
   ·exact (may_vs hm rfl).2.2 x hx)
  have hbl:(bodyN ⟨true,insL ks (belowN key ks) key,insL vs (belowN key ks) v,[]⟩).length<=354:=by
   rw [body_len (by simp only [hlen]; omega)]
   have h256:=fits_le hf
   rw [body_len (by simp only; omega)] at h256
   simp only [firstN,behN,if_true,List.length_nil,Nat.zero_add] at h256 ⊢
   rw [map_insL,zB_ins (by simp [hl]) hle]
   have:=tB_len (s:=key) (by omega)
   have:=tB_len (s:=v) (by omega)
   omega
  exact .inr ⟨⟨hmay,by show (bodyN _).length<=360; exact Nat.le_trans hbl (by decide)⟩,hbl,trivial,.inl (fun hh=>by
   have:insL ks (belowN key ks) key=[]:=hh
   rw [this] at hlen; simp at hlen)⟩
 ·rw [kvs_app (a:=preC c++A),kvs_app (a:=preC c++A),kvs_K,put_new (kvs_lt hpA) (kvs_gt hpB)]
 ·rw [kvs_app,put_new (kvs_lt hpA) (kvs_gt hpB)]; simp; omega
theorem leaf_none (hs:Srt (sq H (plug c (lf p ks vs)))) (hw:wfC c) (hbef:∀ y∈preC c,Bef key y) (haft:∀ y∈postC c,Aft key y) (hf:fitsN ⟨true,ks,vs,[]⟩=true) (hi:isN key ks=false):getP (kvs (sq H (plug c (lf p ks vs)))) key=none:=by
 obtain ⟨hl,ha⟩:=at_leaf (key:=key) (p:=p) (Srt.plug hw hs) hf
 have hb:=ha.bef
 have hn:=ha.no hi
 rw [sq_plug hw,sq_lf,zip_split (ks:=ks) (vs:=vs) (belowN key ks)]
 generalize List.zipWith It.K (ks.take (belowN key ks)) (vs.take (belowN key ks))=A at hb ⊢
 generalize List.zipWith It.K (ks.drop (belowN key ks)) (vs.drop (belowN key ks))=B at hn ⊢
 have e2:preC c++((A++B)++postC c)=(preC c++A)++(B++postC c):=by simp
 rw [e2,kvs_app]
 refine get_new (kvs_lt fun y hy=>?_) (kvs_gt fun y hy=>?_)
 ·rcases List.mem_append.1 hy with hy | hy
  ·exact hbef y hy
  ·exact hb y hy
 ·rcases List.mem_append.1 hy with hy | hy
  ·exact hn y hy
  ·exact haft y hy
theorem leaf_is (hs:Srt (sq H (plug c (lf p ks vs)))) (hw:wfC c) (hbef:∀ y∈preC c,Bef key y) (haft:∀ y∈postC c,Aft key y) (hf:fitsN ⟨true,ks,vs,[]⟩=true) (hi:isN key ks=true):∃ v0,vs[belowN key ks]?=some v0/\getP (kvs (sq H (plug c (lf p ks vs)))) key=some v0:=by
 obtain ⟨hl,ha⟩:=at_leaf (key:=key) (p:=p) (Srt.plug hw hs) hf
 have hb:=ha.bef
 obtain ⟨hlt,⟨v0,hv0⟩,hk0,hn⟩:=ha.is hi
 refine ⟨v0,hv0,?_⟩
 rw [sq_plug hw,sq_lf,zip_split (ks:=ks) (vs:=vs) (belowN key ks),zip_one hl hk0 hv0]
 generalize List.zipWith It.K (ks.take (belowN key ks)) (vs.take (belowN key ks))=A at hb ⊢
 generalize List.zipWith It.K (ks.drop (belowN key ks+1)) (vs.drop (belowN key ks+1))=B at hn ⊢
 have e2:preC c++((A++It.K key v0::B)++postC c)=(preC c++A)++It.K key v0::(B++postC c):=by simp
 rw [e2,kvs_app,show kvs (It.K key v0::(B++postC c))=(key,v0)::kvs (B++postC c) from rfl]
 refine get_old (kvs_lt fun y hy=>?_)
 rcases List.mem_append.1 hy with hy | hy
 ·exact hbef y hy
 ·exact hb y hy
theorem leaf_set (hs:Srt (sq H (plug c (lf p ks vs)))) (hw:wfC c) (hbef:∀ y∈preC c,Bef key y) (haft:∀ y∈postC c,Aft key y) (hf:fitsN ⟨true,ks,vs,[]⟩=true) (hi:isN key ks=true) (h3:v.length<=64) :
  Srt (sq H (plug c (lf p ks (vs.set (belowN key ks) v))))/\Lz (lf p ks (vs.set (belowN key ks) v))/\kvs (sq H (plug c (lf p ks (vs.set (belowN key ks) v))))=putP key v (kvs (sq H (plug c (lf p ks vs))))/\(∃ v0,vs[belowN key ks]?=some v0/\getP (kvs (sq H (plug c (lf p ks vs)))) key=some v0)/\(putP key v (kvs (sq H (plug c (lf p ks vs))))).length=(kvs (sq H (plug c (lf p ks vs)))).length:=by
 have hm:=fits_may hf
 obtain ⟨hl,ha⟩:=at_leaf (key:=key) (p:=p) (Srt.plug hw hs) hf
 have hb:=ha.bef
 obtain ⟨hlt,⟨v0,hv0⟩,hk0,hn⟩:=ha.is hi
 have hz:=leaf_sm hf
 rw [sq_plug hw,sq_lf,zip_split (belowN key ks),zip_one hl hk0 hv0] at hs
 rw [sq_plug hw,sq_plug hw,sq_lf,sq_lf,zip_set hl hk0,zip_split (ks:=ks) (vs:=vs) (belowN key ks),zip_one hl hk0 hv0]
 generalize hA:List.zipWith It.K (ks.take (belowN key ks)) (vs.take (belowN key ks))=A at hs hb ⊢
 generalize hB:List.zipWith It.K (ks.drop (belowN key ks+1)) (vs.drop (belowN key ks+1))=B at hs hn ⊢
 have hpA:∀ y∈preC c++A,Bef key y:=fun y hy=>by
  rcases List.mem_append.1 hy with hy | hy
  ·exact hbef y hy
  ·exact hb y hy
 have hpB:∀ y∈B++postC c,Aft key y:=fun y hy=>by
  rcases List.mem_append.1 hy with hy | hy
  ·exact hn y hy
  ·exact haft y hy
 have e1:∀ v:Tx,preC c++((A++It.K key v::B)++postC c)=(preC c++A)++It.K key v::(B++postC c):=fun v=>by simp
 rw [e1] at hs
 rw [e1,e1]
 have hsn:=srt_ins (v:=v) (srt_del hs) hpA hpB
 refine ⟨hsn,?_,?_,⟨v0,hv0,?_⟩,?_⟩
 ·have hso:Srt (List.zipWith It.K ks (vs.set (belowN key ks) v)):=by
   rw [zip_set hl hk0,hA,hB]
   refine List.Pairwise.sublist ?_ hsn
   have:(A++It.K key v::B).Sublist ((preC c++(A++It.K key v::B))++postC c):=(List.sublist_append_right ..).trans (List.sublist_append_left ..)
   simp only [List.append_assoc,List.cons_append] at this ⊢; exact this
  have hmay:mayN ⟨true,ks,vs.set (belowN key ks) v,[]⟩=true:=may_leaf hso (by rw [List.length_set,hl]) (fun k hk=>may_keys hm k hk) (fun x hx=>by
   rcases mem_set' hx with rfl | hx
   ·exact h3
   ·exact (may_vs hm rfl).2.2 x hx)
  have hbl:(bodyN ⟨true,ks,vs.set (belowN key ks) v,[]⟩).length<=354:=by
   rw [body_len (by simp only; omega)]
   have h256:=fits_le hf
   rw [body_len (by simp only; omega)] at h256
   simp only [firstN,behN,if_true,List.length_nil,Nat.zero_add] at h256 ⊢
   rw [List.map_set]
   have:=zB_set (ks:=ks) (bs:=vs.map tB) (b:=tB v) (by simp [hl]) hlt
   have:=tB_len (s:=v) (by omega)
   omega
  exact .inr ⟨⟨hmay,by show (bodyN _).length<=360; exact Nat.le_trans hbl (by decide)⟩,hbl,trivial,.inl (fun hh=>by
   have:ks=[]:=hh
   subst this; simp at hlt)⟩
 ·rw [kvs_app (a:=preC c++A),kvs_app (a:=preC c++A),kvs_K,kvs_K,put_old (kvs_lt hpA) (kvs_gt hpB)]
 ·rw [kvs_app,show kvs (It.K key v0::(B++postC c))=(key,v0)::kvs (B++postC c) from rfl]; exact get_old (kvs_lt hpA)
 ·rw [kvs_app,show kvs (It.K key v0::(B++postC c))=(key,v0)::kvs (B++postC c) from rfl,put_old (kvs_lt hpA) (kvs_gt hpB)]; simp
theorem leaf_del (hs:Srt (sq H (plug c (lf p ks vs)))) (hw:wfC c) (hbef:∀ y∈preC c,Bef key y) (haft:∀ y∈postC c,Aft key y) (hf:fitsN ⟨true,ks,vs,[]⟩=true) (hi:isN key ks=true) :
  Srt (sq H (plug c (lf p (ks.eraseIdx (belowN key ks)) (vs.eraseIdx (belowN key ks)))))/\Lz (lf p (ks.eraseIdx (belowN key ks)) (vs.eraseIdx (belowN key ks)))/\Sml (lf p (ks.eraseIdx (belowN key ks)) (vs.eraseIdx (belowN key ks)))/\kvs (sq H (plug c (lf p (ks.eraseIdx (belowN key ks)) (vs.eraseIdx (belowN key ks)))))=delP key (kvs (sq H (plug c (lf p ks vs))))/\(∃ v0,vs[belowN key ks]?=some v0/\getP (kvs (sq H (plug c (lf p ks vs)))) key=some v0)/\(delP key (kvs (sq H (plug c (lf p ks vs))))).length+1=(kvs (sq H (plug c (lf p ks vs)))).length:=by
 have hm:=fits_may hf
 obtain ⟨hl,ha⟩:=at_leaf (key:=key) (p:=p) (Srt.plug hw hs) hf
 have hb:=ha.bef
 obtain ⟨hlt,⟨v0,hv0⟩,hk0,hn⟩:=ha.is hi
 have hz:=leaf_sm hf
 rw [sq_plug hw,sq_lf,zip_split (belowN key ks),zip_one hl hk0 hv0] at hs
 rw [sq_plug hw,sq_plug hw,sq_lf,sq_lf,zip_del hl hlt,zip_split (ks:=ks) (vs:=vs) (belowN key ks),zip_one hl hk0 hv0]
 generalize hA:List.zipWith It.K (ks.take (belowN key ks)) (vs.take (belowN key ks))=A at hs hb ⊢
 generalize hB:List.zipWith It.K (ks.drop (belowN key ks+1)) (vs.drop (belowN key ks+1))=B at hs hn ⊢
 have hpA:∀ y∈preC c++A,Bef key y:=fun y hy=>by
  rcases List.mem_append.1 hy with hy | hy
  ·exact hbef y hy
  ·exact hb y hy
 have hpB:∀ y∈B++postC c,Aft key y:=fun y hy=>by
  rcases List.mem_append.1 hy with hy | hy
  ·exact hn y hy
  ·exact haft y hy
 have e1:∀ v:Tx,preC c++((A++It.K key v::B)++postC c)=(preC c++A)++It.K key v::(B++postC c):=fun v=>by simp
 have e2:preC c++((A++B)++postC c)=(preC c++A)++(B++postC c):=by simp
 rw [e1] at hs
 rw [e1,e2]
 have hL:=without_Less (n:=⟨true,ks,vs,[]⟩) (i:=belowN key ks) hlt (Bg.of hf)
 have hL2:=fits_le hf
 have hw:withoutN ⟨true,ks,vs,[]⟩ (belowN key ks)=nd 0 (lf p (ks.eraseIdx (belowN key ks)) (vs.eraseIdx (belowN key ks))):=rfl
 rw [hw] at hL
 refine ⟨srt_del hs,?_,.inr (by omega),?_,⟨v0,hv0,?_⟩,?_⟩
 ·by_cases he:ks.eraseIdx (belowN key ks)=[]
  ·refine .inl ⟨?_,rfl,he⟩
   show vs.eraseIdx (belowN key ks)=[]
   have h1:(ks.eraseIdx (belowN key ks)).length=0:=by rw [he]; rfl
   rw [List.length_eraseIdx,if_pos hlt] at h1
   refine List.eq_nil_of_length_eq_zero ?_
   rw [List.length_eraseIdx,if_pos (by omega)]; omega
  ·exact .inr ⟨hL.1,by omega,trivial,.inl he⟩
 ·rw [kvs_app (a:=preC c++A),kvs_app (a:=preC c++A),kvs_K,del_old (kvs_lt hpA) (kvs_gt hpB)]
 ·rw [kvs_app,show kvs (It.K key v0::(B++postC c))=(key,v0)::kvs (B++postC c) from rfl]; exact get_old (kvs_lt hpA)
 ·rw [kvs_app,show kvs (It.K key v0::(B++postC c))=(key,v0)::kvs (B++postC c) from rfl,del_old (kvs_lt hpA) (kvs_gt hpB)]; simp; omega
end
end Go.Proofs.YtlmmddfhoabjfaaGreat
end
section
namespace Go.Proofs.YtlmmddfhoabjfaaGreat
open Go.Am
def getV (P:List Pr) (key:Tx):Value:=match getP P key with
 | some v=>.tuple #[txt v,.bool true]
 | none=>.tuple #[txt [],.bool false]
theorem find_at {n:Nd} {key:Tx} (h:mayN n=true):findV n key=.tuple #[.int .i64 (belowN key n.ks:Nat),.bool (isN key n.ks)]:=by unfold findV; rw [if_pos h]
set_option maxHeartbeats 1000000 in
theorem get_tr {H:Nat} {t:Tr H} {c:Cfg} {G X:RL} {s:TSt} {rows:RL} {key:Tx} (htr:TR c G X s rows) (hw:Whole s.m s.root t) (hok:Okt H t) (hs:Srt (sq H t)) :
  CS Tryz.prog 48 [ptr c.rt,txt key] rows fun u L'=>u=getV (kvs (sq H t)) key/\L'=rows:=by
 suffices g:CS Tryz.prog 48 [ptr c.rt,txt key] rows fun u L'=>u=getV (kvs (sq H t)) key/\∃ Y,L'=Y++rows by
  refine g.less ?_
  rintro u L' ⟨rfl,Y,rfl⟩
  exact ⟨rows,Sub.suffix,rfl,rfl⟩
 have hN32:=htr.N
 have hpl:=pages_le htr hw.rep hw.nod
 have hhi:=high_le hok
 obtain ⟨T,es,ck,ws,wk,g,rfl,hN,hp,hgm,hmr⟩:=htr.now
 have mrt:∀ Y:RL,(c.rt,trRow c.rf c.rn c.rw s.root s.cnt c.root0 c.cnt0)∈Y++HD c.rf c.rb c.rt c.rn c.rw T s.root s.cnt c.root0 c.cnt0 es ck ws wk (G++X):=fun Y=>by simp
 have mmap:∀ Y:RL,(c.rn,ARow.map es ck)∈Y++HD c.rf c.rb c.rt c.rn c.rw T s.root s.cnt c.root0 c.cnt0 es ck ws wk (G++X):=fun Y=>by simp
 have hXY:∀ (Y:RL) q,q∈X->q∈Y++HD c.rf c.rb c.rt c.rn c.rw T s.root s.cnt c.root0 c.cnt0 es ck ws wk (G++X):=fun Y q hq=>List.mem_append_right Y (htr.mem q hq)
 refine CS.mk (fn:=Tryz.f48) rfl rfl rfl rfl ?_
 repeat refine xQ ?_
 refine xG rfl ?_
 iterate 2 refine xP rfl rh rfl ?_
 refine xN ?_
 repeat refine xQ ?_
 refine LS.drawn noGo mixed [(0,false),(1,false),(2,false),(3,false),(4,false),(5,false),(6,false),(7,true),(8,true),(9,false),(10,false)] rfl rfl (by kernel_rfl) ?_
 iterate 4 refine xD rfl rfl rh rfl ?_
 refine xE rfl rfl (e_loadm (mrt []) rfl rfl rfl rfl) rfl ?_
 iterate 2 refine xD rfl rfl rh rfl ?_
 refine ODS.call rfl rfl (fun _=>rfl) ((way_tr htr hw (.inr hok) hs).mono ?_)
 rintro v L' ⟨k,l,Y,hpu,hwf,hbef,haft,rfl,hv⟩
 refine ⟨_,rfl,(by repeat (first | exact Keep.nil | refine Keep.gone rfl ?_ | refine Keep.cons rfl (e_loadm (mrt Y) rfl rfl rfl rfl) ?_)),?_⟩
 have hst:=steps_len (c:=k)
 refine ODS.call rfl rfl (fun _=>rfl) ((leafOf_ct hv (fun x hx=>List.mem_append_left _ hx) (by omega)).mono ?_)
 rintro u L' ⟨rfl,rfl⟩
 refine ⟨_,rfl,(by repeat (first | exact Keep.nil | refine Keep.gone rfl ?_ | refine Keep.cons rfl (e_loadm (mrt Y) rfl rfl rfl rfl) ?_)),?_⟩
 subst hpu
 obtain ⟨p,ks,vs,rfl⟩:=lf_eta l
 have hml:=(plug_rep (c:=k) hw.rep).top
 have sl:=htr.sm _ _ hml
 have hfl:=((ok_plug (c:=k)).1 hok).2.1
 obtain ⟨ra,hga,va1,va2,va3,hra,hPa⟩:=(hmr p).2 _ hml
 have ega:(g p).getD (.pointer none)=ptr ra:=by rw [hga]; rfl
 have ma:=hXY Y _ hra
 have Na:=hPa.nv sl (hXY Y)
 have slk:=sl.k
 simp only [nd_lf] at ma Na hfl slk
 refine xE rfl rfl (e_get hgm (mmap Y) rfl rfl rfl rfl (fun _=>rfl) rfl) rfl ?_
 simp only [no_lf]
 rw [ega]
 refine xD rfl rfl rh rfl ?_
 refine xM ?_
 repeat refine xQ ?_
 refine xG rfl ?_
 iterate 2 refine xP rfl rh rfl ?_
 refine xR rfl (e_loadm ma rfl rfl rfl rfl) rfl ?_
 refine xP rfl rh rfl ?_
 refine xA noGo rfl (fun _=>rfl) ((Find_ct Na (by simp only; omega)).mono ?_)
 rintro u L' ⟨rfl,rfl⟩
 refine ⟨_,rfl,?_⟩
 rw [find_at (fits_may hfl)]
 simp only
 iterate 5 refine xP rfl rh rfl ?_
 refine xN ?_
 repeat refine xQ ?_
 refine xG rfl ?_
 iterate 2 refine xP rfl rh rfl ?_
 refine xN ?_
 cases hi:isN key ks with
 | false =>
  repeat refine xQ ?_
  refine xC rfl (fun hc=>?_) (fun hc=>?_)
  ·repeat refine xQ ?_
   refine xG rfl ?_
   iterate 2 refine xP rfl rh rfl ?_
   refine xN ?_
   refine xT ⟨_,fun _ _=>rfl,?_⟩
   refine ⟨?_,Y,rfl⟩
   unfold getV
   rw [leaf_none hs hwf hbef haft hfl hi]; rfl
  ·cases hc
 | true =>
  obtain ⟨v0,hv0,hg0⟩:=leaf_is hs hwf hbef haft hfl hi
  have hat:(tx vs)[belowN key ks]?=some (txt v0):=by simp [tx,hv0]
  repeat refine xQ ?_
  refine xC rfl (fun hc=>?_) (fun hc=>?_)
  ·cases hc
  refine LS.skip ?_
  repeat refine xQ ?_
  refine xG rfl ?_
  iterate 3 refine xP rfl rh rfl ?_
  refine xR rfl (e_loadm ma rfl rfl rfl rfl) rfl ?_
  refine xP rfl rh rfl ?_
  refine OS.at1 (j:=belowN key ks) (Na.v) (hat) rfl rfl rfl rfl rfl rfl (fun ra0 oa0 rowa0 csa0 ma0 ca0 ga0=>⟨_,rfl,?_⟩)
  refine xR rfl (e_loadm ma0 ca0 rfl rfl (part_one rfl ga0)) rfl ?_
  iterate 2 refine xP rfl rh rfl ?_
  refine xN ?_
  refine xT ⟨_,fun _ _=>rfl,?_⟩
  refine ⟨?_,Y,rfl⟩
  unfold getV
  rw [hg0]; rfl
def putN (key val:Tx) (ks vs:List Tx):Nd:=if isN key ks=true then ⟨true,ks,vs.set (belowN key ks) val,[]⟩ else ⟨true,insL ks (belowN key ks) key,insL vs (belowN key ks) val,[]⟩
theorem tx_set {l:List Tx} {i:Nat} {x:Tx}:(tx l).set i (txt x)=tx (l.set i x):=by simp [tx]
set_option maxHeartbeats 4000000 in
theorem put_chn {c:Cfg} {G X:RL} {root cnt:Int} {r3 r4 r5:Nat} {key val:Tx} {ks vs:List Tx} (h3:(r3,tpRow c.rt)∈G) (h4:(r4,sRow key)∈G) (h5:(r5,sRow val)∈G) (hs:Sm ⟨true,ks,vs,[]⟩) (hm:mayN ⟨true,ks,vs,[]⟩=true) (hc0:0<=cnt) (hc1:cnt<=1000000000) :
  Chn c G X root cnt (if isN key ks=true then cnt else cnt+1) 66 [ptr r4,ptr r5,ptr r3] ⟨true,ks,vs,[]⟩ (putN key val ks vs):=by
 intro rc w1 w2 w3 Y1 Y2 Y3 T es ck ws wk g1 g2 g3
 have e1:=hs.k; have e2:=hs.v; have e3:=hs.kl; have e4:=hs.vl
 have hl:=(may_vs hm rfl).1
 have hle:=below_le key ks
 simp only at g1 g2 g3 e1 e2 e3 e4 hl ⊢
 have mG:∀ (p:Nat × ARow),p∈G->p∈(rc,ndRow true w1 w2 w3)::HD c.rf c.rb c.rt c.rn c.rw T root cnt c.root0 c.cnt0 es ck ws wk (Y3++(Y2++(Y1++(G++X)))):=fun p hp=>by simp [hp]
 have N0:NV ((rc,ndRow true w1 w2 w3)::HD c.rf c.rb c.rt c.rn c.rw T root cnt c.root0 c.cnt0 es ck ws wk (Y3++(Y2++(Y1++(G++X))))) ⟨true,ks,vs,[]⟩ w1 w2 w3:=⟨g1.sv.mono (fun p hp=>by simp [hp]),g2.sv.mono (fun p hp=>by simp [hp]),g3.sv.mono (fun p hp=>by simp [hp]),by simp only; omega,by simp only; omega,by simp,fun k hk=>by have:=e3 k hk; omega,fun k hk=>by have:=e4 k hk; omega⟩
 refine CS.mk (fn:=Tryz.f66) rfl rfl rfl rfl ?_
 repeat refine xQ ?_
 refine LS.drawn noGo mixed [(0,false),(1,false),(2,false),(3,false),(4,true),(5,false),(6,false),(7,false),(8,false),(9,false)] rfl rfl (by kernel_rfl) ?_
 iterate 2 refine xD rfl rfl rh rfl ?_
 refine xE rfl rfl (e_load 0 rfl rfl rfl rfl rfl) rfl ?_
 refine xE rfl rfl (e_loadm (mG _ h4) rfl rfl rfl rfl) rfl ?_
 refine ODS.call rfl rfl (fun _=>rfl) ((Find_ct N0 (by simp only; omega)).mono ?_)
 rintro u L' ⟨rfl,rfl⟩
 refine ⟨_,rfl,(by repeat (first | exact Keep.nil | refine Keep.gone rfl ?_)),?_⟩
 rw [find_at hm]
 simp only
 iterate 5 refine xD rfl rfl rh rfl ?_
 refine xM ?_
 repeat refine xQ ?_
 refine xG rfl ?_
 refine xP rfl rh rfl ?_
 refine xN ?_
 cases hi:isN key ks with
 | true =>
  have hlt:belowN key ks < ks.length:=by
   have h0:=isN_iff.1 hi
   by_cases h:belowN key ks < ks.length
   ·exact h
   ·rw [List.getElem?_eq_none (by omega)] at h0; cases h0
  rcases g2 with ⟨_,h0,_,_⟩ | ⟨r,rfl,hlen,rfl⟩
  ·omega
  have e5:putN key val ks vs=⟨true,ks,vs.set (belowN key ks) val,[]⟩:=by unfold putN; rw [if_pos hi]
  rw [e5,if_pos rfl]
  repeat refine xQ ?_
  refine xC rfl (fun hc=>?_) (fun hc=>?_)
  ·refine LS.sub (Sub.sums (A:=(r,.cells 9 (tx vs))::(rc,ndRow true w1 (.slice (some ⟨r,0,none⟩) vs.length openCap) w3)::HD c.rf c.rb c.rt c.rn c.rw T root cnt c.root0 c.cnt0 es ck ws wk (Y3++(Y1++(G++X)))) (B:=(rc,ndRow true w1 (.slice (some ⟨r,0,none⟩) vs.length openCap) w3)::HD c.rf c.rb c.rt c.rn c.rw T root cnt c.root0 c.cnt0 es ck ws wk (Y3++([(r,.cells 9 (tx vs))]++(Y1++(G++X))))) fun f=>by simp [HD,fm]<;>omega) ?_
   repeat refine xQ ?_
   refine LS.drawn noGo mixed [(0,false),(1,false),(2,false),(3,false),(4,false),(5,false),(6,false),(7,true)] rfl rfl (by kernel_rfl) ?_
   iterate 3 refine xD rfl rfl rh rfl ?_
   refine xE rfl rfl (e_load 1 rfl rfl rfl rfl rfl) rfl ?_
   refine xD rfl rfl rh rfl ?_
   refine xE rfl rfl (e_loadm (r:=r5) (row:=sRow val) (by simp [h5]) rfl rfl rfl rfl) rfl ?_
   refine xD rfl rfl (e_index (j:=belowN key ks) rfl rfl rfl rfl rfl (by omega)) rfl ?_
   refine ODS.write rfl rfl (e_store 0 (cs':=tx (vs.set (belowN key ks) val)) rfl rfl rfl rfl rfl rfl (by rw [← tx_set]; exact (congrArg (lay (tx vs) · [txt val]) (show 0+belowN key ks * 1=belowN key ks by omega)).trans (lay_one (by simp; omega))) rfl) rfl (by repeat (first | exact Keep.nil | refine Keep.gone rfl ?_)) ?_
   refine xM ?_
   refine LS.sub (Sub.sums (A:=(rc,ndRow true w1 (.slice (some ⟨r,0,none⟩) vs.length openCap) w3)::HD c.rf c.rb c.rt c.rn c.rw T root cnt c.root0 c.cnt0 es ck ws wk ((Y3++([(r,.cells 9 (tx (vs.set (belowN key ks) val)))]++Y1))++(G++X))) (B:=(r,.cells 9 (tx (vs.set (belowN key ks) val)))::(rc,ndRow true w1 (.slice (some ⟨r,0,none⟩) vs.length openCap) w3)::HD c.rf c.rb c.rt c.rn c.rw T root cnt c.root0 c.cnt0 es ck ws wk (Y3++(Y1++(G++X)))) fun f=>by simp [HD,fm]<;>omega) ?_
   refine xT ⟨_,fun _ _=>rfl,?_⟩
   refine ⟨w1,.slice (some ⟨r,0,none⟩) vs.length openCap,w3,Y3++([(r,.cells 9 (tx (vs.set (belowN key ks) val)))]++Y1),rfl,⟨(g1.ol (show ks.length<=openCap by unfold openCap; omega)).pl.mono (fun p hp=>by simp [hp]),?_,(g3.ol (show ([]:List Int).length<=openCap by decide)).pl.mono (fun p hp=>by simp [hp])⟩⟩
   refine .inr ⟨r,0,openCap,tx (vs.set (belowN key ks) val),by simp only [List.length_set],by simp,?_,by simp only [List.length_set]; unfold openCap; omega,Nat.le_refl _⟩
   exact cut_all (by simp)
  ·cases hc
 | false =>
  have e5:putN key val ks vs=⟨true,insL ks (belowN key ks) key,insL vs (belowN key ks) val,[]⟩:=by unfold putN; rw [if_neg (by rw [hi]; decide)]
  rw [e5,if_neg (by decide)]
  repeat refine xQ ?_
  refine xC rfl (fun hc=>?_) (fun hc=>?_)
  ·cases hc
  refine LS.skip ?_
  have hle2:belowN key ks<=vs.length:=by omega
  repeat refine xQ ?_
  refine LS.drawn noGo mixed [(0,false),(1,false),(2,false),(3,false),(4,false),(5,false),(6,false),(7,true),(8,true),(9,false),(10,false),(11,true)] rfl rfl (by kernel_rfl) ?_
  iterate 4 refine xD rfl rfl rh rfl ?_
  refine xE rfl rfl (e_load 0 rfl rfl rfl rfl rfl) rfl ?_
  refine xD rfl rfl rh rfl ?_
  refine xE rfl rfl (e_loadm (mG _ h4) rfl rfl rfl rfl) rfl ?_
  refine ODS.fresh rfl rfl (e_new (fun _=>rfl) rfl) (fun _=>rfl) (fun rv=>(by repeat (first | exact Keep.nil | refine Keep.gone rfl ?_ | refine Keep.cons rfl (e_load 1 rfl rfl rfl rfl rfl) ?_))) (fun rv=>?_)
  refine ODS.nodup fun hnd=>?_
  have hrv:∀ p,p∈Y1->p.1≠rv:=fun p hp he=>by
   exact (List.nodup_cons.1 hnd).1 (List.mem_map.2 ⟨p,by simp [hp],he⟩)
  refine ODS.sub (Sub.sums (A:=Y1++((rv,sRow key)::(rc,ndRow true w1 w2 w3)::HD c.rf c.rb c.rt c.rn c.rw T root cnt c.root0 c.cnt0 es ck ws wk (Y3++(Y2++(G++X))))) (B:=(rv,sRow key)::(rc,ndRow true w1 w2 w3)::HD c.rf c.rb c.rt c.rn c.rw T root cnt c.root0 c.cnt0 es ck ws wk (Y3++(Y2++(Y1++(G++X))))) fun f=>by simp [HD,fm]<;>omega) ?_
  refine ODS.call rfl rfl (fun _=>rfl) ((InsertS_ct (x:=txt key) g1 hle (by omega) rfl (tx_one _) (List.mem_cons_self ..) hrv).mono ?_)
  rintro u1 L' ⟨Y1',rfl,o1⟩
  refine ⟨_,rfl,(by repeat (first | exact Keep.nil | refine Keep.gone rfl ?_)),?_⟩
  have o1':OL 9 1 u1 (insL ks (belowN key ks) key).length (tx (insL ks (belowN key ks) key)) Y1':=by
   rw [insL_len hle]
   have:=o1.ol
   rw [show txt key=(fun s=>txt s) key from rfl,insL_map] at this
   exact this
  refine ODS.sub (Sub.sums2 ([(rv,sRow key)]) (A:=(rc,ndRow true w1 w2 w3)::HD c.rf c.rb c.rt c.rn c.rw T root cnt c.root0 c.cnt0 es ck ws wk (Y3++(Y2++(Y1'++(G++X))))) (B:=Y1'++((rv,sRow key)::(rc,ndRow true w1 w2 w3)::HD c.rf c.rb c.rt c.rn c.rw T root cnt c.root0 c.cnt0 es ck ws wk (Y3++(Y2++(G++X))))) fun f=>by simp [HD,fm]<;>omega) ?_
  iterate 2 refine xD rfl rfl rh rfl ?_
  refine ODS.write rfl rfl (e_storeS 0 (isSl o1'.sv) rfl rfl rfl rfl rfl rfl rfl) rfl (by repeat (first | exact Keep.nil | refine Keep.gone rfl ?_)) ?_
  refine xM ?_
  have mG2:∀ (p:Nat × ARow),p∈G->p∈(rc,ndRow true u1 w2 w3)::HD c.rf c.rb c.rt c.rn c.rw T root cnt c.root0 c.cnt0 es ck ws wk (Y3++(Y2++(Y1'++(G++X)))):=fun p hp=>by simp [hp]
  repeat refine xQ ?_
  refine LS.drawn noGo mixed [(0,false),(1,false),(2,false),(3,false),(4,false),(5,false),(6,false),(7,true),(8,true),(9,false),(10,false),(11,true)] rfl rfl (by kernel_rfl) ?_
  iterate 4 refine xD rfl rfl rh rfl ?_
  refine xE rfl rfl (e_load 0 rfl rfl rfl rfl rfl) rfl ?_
  refine xD rfl rfl rh rfl ?_
  refine xE rfl rfl (e_loadm (mG2 _ h5) rfl rfl rfl rfl) rfl ?_
  refine ODS.fresh rfl rfl (e_new (fun _=>rfl) rfl) (fun _=>rfl) (fun rv=>(by repeat (first | exact Keep.nil | refine Keep.gone rfl ?_ | refine Keep.cons rfl (e_load 1 rfl rfl rfl rfl rfl) ?_))) (fun rv=>?_)
  refine ODS.nodup fun hnd=>?_
  have hrv:∀ p,p∈Y2->p.1≠rv:=fun p hp he=>by
   exact (List.nodup_cons.1 hnd).1 (List.mem_map.2 ⟨p,by simp [hp],he⟩)
  refine ODS.sub (Sub.sums (A:=Y2++((rv,sRow val)::(rc,ndRow true u1 w2 w3)::HD c.rf c.rb c.rt c.rn c.rw T root cnt c.root0 c.cnt0 es ck ws wk (Y3++(Y1'++(G++X))))) (B:=(rv,sRow val)::(rc,ndRow true u1 w2 w3)::HD c.rf c.rb c.rt c.rn c.rw T root cnt c.root0 c.cnt0 es ck ws wk (Y3++(Y2++(Y1'++(G++X))))) fun f=>by simp [HD,fm]<;>omega) ?_
  refine ODS.call rfl rfl (fun _=>rfl) ((InsertS_ct (x:=txt val) g2 hle2 (by omega) rfl (tx_one _) (List.mem_cons_self ..) hrv).mono ?_)
  rintro u2 L' ⟨Y2',rfl,o2⟩
  refine ⟨_,rfl,(by repeat (first | exact Keep.nil | refine Keep.gone rfl ?_)),?_⟩
  have o2':OL 9 1 u2 (insL vs (belowN key ks) val).length (tx (insL vs (belowN key ks) val)) Y2':=by
   rw [insL_len hle2]
   have:=o2.ol
   rw [show txt val=(fun s=>txt s) val from rfl,insL_map] at this
   exact this
  refine ODS.sub (Sub.sums2 ([(rv,sRow val)]) (A:=(rc,ndRow true u1 w2 w3)::HD c.rf c.rb c.rt c.rn c.rw T root cnt c.root0 c.cnt0 es ck ws wk ((Y3++(Y2'++Y1'))++(G++X))) (B:=Y2'++((rv,sRow val)::(rc,ndRow true u1 w2 w3)::HD c.rf c.rb c.rt c.rn c.rw T root cnt c.root0 c.cnt0 es ck ws wk (Y3++(Y1'++(G++X))))) fun f=>by simp [HD,fm]<;>omega) ?_
  iterate 2 refine xD rfl rfl rh rfl ?_
  refine ODS.write rfl rfl (e_storeS 0 (isSl o2'.sv) rfl rfl rfl rfl rfl rfl rfl) rfl (by repeat (first | exact Keep.nil | refine Keep.gone rfl ?_)) ?_
  refine xM ?_
  repeat refine xQ ?_
  refine xG rfl ?_
  refine xR rfl (e_loadm (r:=r3) (row:=tpRow c.rt) (by simp [h3]) rfl rfl rfl rfl) rfl ?_
  iterate 3 refine xP rfl rh rfl ?_
  refine xR rfl (e_load 3 rfl rfl rfl rfl rfl) rfl ?_
  refine xP rfl (e_add (m:=cnt) (n:=1) rfl rfl rfl (in_i64 (by omega) (by omega))) rfl ?_
  iterate 3 refine xP rfl rh rfl ?_
  refine OS.write rfl (e_store 3 rfl rfl rfl rfl rfl rfl rfl rfl) rfl ?_
  refine xN ?_
  exact ⟨_,fun _ _=>rfl,u1,u2,w3,Y3++(Y2'++Y1'),rfl,⟨o1'.pl.mono (fun p hp=>by simp [hp]),o2'.pl.mono (fun p hp=>by simp [hp]),(g3.ol (show ([]:List Int).length<=openCap by decide)).pl.mono (fun p hp=>by simp [hp])⟩⟩
set_option maxHeartbeats 4000000 in
theorem del_chn {c:Cfg} {G X:RL} {root cnt:Int} {r3:Nat} {key:Tx} {ks vs:List Tx} (h3:(r3,sRow key)∈G) (hs:Sm ⟨true,ks,vs,[]⟩) (hm:mayN ⟨true,ks,vs,[]⟩=true) (hi:isN key ks=true) :
  Chn c G X root cnt cnt 70 [ptr r3] ⟨true,ks,vs,[]⟩ ⟨true,ks.eraseIdx (belowN key ks),vs.eraseIdx (belowN key ks),[]⟩:=by
 intro rc w1 w2 w3 Y1 Y2 Y3 T es ck ws wk g1 g2 g3
 have e1:=hs.k; have e2:=hs.v; have e3:=hs.kl; have e4:=hs.vl
 have hl:=(may_vs hm rfl).1
 have hlt:belowN key ks < ks.length:=by
  have h0:=isN_iff.1 hi
  by_cases h:belowN key ks < ks.length
  ·exact h
  ·rw [List.getElem?_eq_none (by omega)] at h0; cases h0
 simp only at g1 g2 g3 e1 e2 e3 e4 hl ⊢
 have er1:(tx ks).eraseIdx (belowN key ks)=tx (ks.eraseIdx (belowN key ks)):=erase_map
 have er2:(tx vs).eraseIdx (belowN key ks)=tx (vs.eraseIdx (belowN key ks)):=erase_map
 have mG:∀ (p:Nat × ARow),p∈G->p∈(rc,ndRow true w1 w2 w3)::HD c.rf c.rb c.rt c.rn c.rw T root cnt c.root0 c.cnt0 es ck ws wk (Y3++(Y2++(Y1++(G++X)))):=fun p hp=>by simp [hp]
 have N0:NV ((rc,ndRow true w1 w2 w3)::HD c.rf c.rb c.rt c.rn c.rw T root cnt c.root0 c.cnt0 es ck ws wk (Y3++(Y2++(Y1++(G++X))))) ⟨true,ks,vs,[]⟩ w1 w2 w3:=⟨g1.sv.mono (fun p hp=>by simp [hp]),g2.sv.mono (fun p hp=>by simp [hp]),g3.sv.mono (fun p hp=>by simp [hp]),by simp only; omega,by simp only; omega,by simp,fun k hk=>by have:=e3 k hk; omega,fun k hk=>by have:=e4 k hk; omega⟩
 refine CS.mk (fn:=Tryz.f70) rfl rfl rfl rfl ?_
 repeat refine xQ ?_
 refine LS.drawn noGo mixed [(0,false),(1,false),(2,false),(3,false),(4,true),(5,false),(6,false),(7,false),(8,false),(9,false)] rfl rfl (by kernel_rfl) ?_
 iterate 2 refine xD rfl rfl rh rfl ?_
 refine xE rfl rfl (e_load 0 rfl rfl rfl rfl rfl) rfl ?_
 refine xE rfl rfl (e_loadm (mG _ h3) rfl rfl rfl rfl) rfl ?_
 refine ODS.call rfl rfl (fun _=>rfl) ((Find_ct N0 (by simp only; omega)).mono ?_)
 rintro u L' ⟨rfl,rfl⟩
 refine ⟨_,rfl,(by repeat (first | exact Keep.nil | refine Keep.gone rfl ?_)),?_⟩
 rw [find_at hm]
 simp only
 iterate 5 refine xD rfl rfl rh rfl ?_
 refine xM ?_
 repeat refine xQ ?_
 refine xG rfl ?_
 iterate 4 refine xP rfl rh rfl ?_
 refine xR rfl (e_load 0 rfl rfl rfl rfl rfl) rfl ?_
 iterate 2 refine xP rfl rh rfl ?_
 refine xP rfl (e_addN (n:=1) rfl rfl rfl (in_i64 (by omega) (by omega))) rfl ?_
 refine OS.sub (Sub.sums (A:=Y1++((rc,ndRow true w1 w2 w3)::HD c.rf c.rb c.rt c.rn c.rw T root cnt c.root0 c.cnt0 es ck ws wk (Y3++(Y2++(G++X))))) (B:=(rc,ndRow true w1 w2 w3)::HD c.rf c.rb c.rt c.rn c.rw T root cnt c.root0 c.cnt0 es ck ws wk (Y3++(Y2++(Y1++(G++X))))) fun f=>by simp [HD,fm]<;>omega) ?_
 refine xA noGo rfl (fun _=>rfl) ((DeleteS_ct g1 hlt (by omega) (tx_one _)).mono ?_)
 rintro u1 L' ⟨Y1',rfl,o1⟩
 refine ⟨_,rfl,?_⟩
 refine OS.sub (Sub.sums (A:=(rc,ndRow true w1 w2 w3)::HD c.rf c.rb c.rt c.rn c.rw T root cnt c.root0 c.cnt0 es ck ws wk (Y3++(Y2++(Y1'++(G++X))))) (B:=Y1'++((rc,ndRow true w1 w2 w3)::HD c.rf c.rb c.rt c.rn c.rw T root cnt c.root0 c.cnt0 es ck ws wk (Y3++(Y2++(G++X))))) fun f=>by simp [HD,fm]<;>omega) ?_
 have o1':OL 9 1 u1 (ks.eraseIdx (belowN key ks)).length (tx (ks.eraseIdx (belowN key ks))) Y1':=by
  rw [List.length_eraseIdx,if_pos hlt,← er1]
  exact o1.ol
 iterate 2 refine xP rfl rh rfl ?_
 refine OS.write rfl (e_storeS 0 (isSl o1'.sv) rfl rfl rfl rfl rfl rfl rfl) rfl ?_
 refine xN ?_
 repeat refine xQ ?_
 refine xG rfl ?_
 iterate 4 refine xP rfl rh rfl ?_
 refine xR rfl (e_load 0 rfl rfl rfl rfl rfl) rfl ?_
 iterate 2 refine xP rfl rh rfl ?_
 refine xP rfl (e_addN (n:=1) rfl rfl rfl (in_i64 (by omega) (by omega))) rfl ?_
 refine OS.sub (Sub.sums (A:=Y2++((rc,ndRow true u1 w2 w3)::HD c.rf c.rb c.rt c.rn c.rw T root cnt c.root0 c.cnt0 es ck ws wk (Y3++(Y1'++(G++X))))) (B:=(rc,ndRow true u1 w2 w3)::HD c.rf c.rb c.rt c.rn c.rw T root cnt c.root0 c.cnt0 es ck ws wk (Y3++(Y2++(Y1'++(G++X))))) fun f=>by simp [HD,fm]<;>omega) ?_
 refine xA noGo rfl (fun _=>rfl) ((DeleteS_ct g2 (show belowN key ks < vs.length by omega) (by omega) (tx_one _)).mono ?_)
 rintro u2 L' ⟨Y2',rfl,o2⟩
 refine ⟨_,rfl,?_⟩
 refine OS.sub (Sub.sums (A:=(rc,ndRow true u1 w2 w3)::HD c.rf c.rb c.rt c.rn c.rw T root cnt c.root0 c.cnt0 es ck ws wk ((Y3++(Y2'++Y1'))++(G++X))) (B:=Y2'++((rc,ndRow true u1 w2 w3)::HD c.rf c.rb c.rt c.rn c.rw T root cnt c.root0 c.cnt0 es ck ws wk (Y3++(Y1'++(G++X))))) fun f=>by simp [HD,fm]<;>omega) ?_
 have o2':OL 9 1 u2 (vs.eraseIdx (belowN key ks)).length (tx (vs.eraseIdx (belowN key ks))) Y2':=by
  rw [List.length_eraseIdx,if_pos (by omega),← er2]
  exact o2.ol
 iterate 2 refine xP rfl rh rfl ?_
 refine OS.write rfl (e_storeS 0 (isSl o2'.sv) rfl rfl rfl rfl rfl rfl rfl) rfl ?_
 refine xN ?_
 exact ⟨_,fun _ _=>rfl,u1,u2,w3,Y3++(Y2'++Y1'),rfl,⟨o1'.pl.mono (fun p hp=>by simp [hp]),o2'.pl.mono (fun p hp=>by simp [hp]),(g3.ol (show ([]:List Int).length<=openCap by decide)).pl.mono (fun p hp=>by simp [hp])⟩⟩
end Go.Proofs.YtlmmddfhoabjfaaGreat
end
section
namespace Go.Proofs.YtlmmddfhoabjfaaGreat
open Go.Am
theorem kvs_ne:∀ {h:Nat} {t:Tr h},Okt h t->kvs (sq h t)≠[]
 | 0,t,hk=>by
  obtain ⟨p,ks,vs,rfl⟩:=lf_eta t
  have hv:=hk.vs
  have hn:=(ok_lf.1 hk).2
  rw [sq_lf,kvs_zip]
  cases ks with
  | nil=>exact absurd rfl hn
  | cons k ks =>
   cases vs with
   | nil=>simp at hv
   | cons v vs=>simp
 | h+1,t,hk=>by
  obtain ⟨p,ks,ts,rfl⟩:=inn_eta t
  have hl:=hk.len
  cases ts with
  | nil=>simp at hl
  | cons a ts =>
   have:=kvs_ne (hk.kid a (by simp))
   rw [sq_inn,List.map_cons,show wv ks (sq h a::ts.map (sq h))=sq h a++postI ks (ts.map (sq h)) from rfl,kvs_app]
   intro hh
   exact this (List.append_eq_nil_iff.1 hh).1
def GoodS (m:Mem) (root:Int) (P:List Pr):Prop :=
 (root=-1/\(∀ q,m q=none)/\P=[])∨∃ (H:Nat) (t:Tr H),Whole m root t/\Okt H t/\Srt (sq H t)/\kvs (sq H t)=P
theorem GoodS.srt {m:Mem} {root:Int} {P:List Pr} (h:GoodS m root P):SrtP P:=by
 rcases h with ⟨_,_,rfl⟩ | ⟨H,t,_,_,h3,rfl⟩
 ·exact List.Pairwise.nil
 ·exact srt_kvs h3
theorem frees_sum {N:Nat} {m:Mem}:frM N m+((List.range N).filter fun i=>(m i).isSome).length=N:=by
 unfold frM frees bits
 rw [List.countP_map,← List.countP_eq_length_filter]
 have:=List.length_eq_countP_add_countP (l:=List.range N) (fun i=>(m i).isSome)
 rw [List.length_range] at this
 have e:(fun i=>!(m i).isSome)=((fun b=>!b) ∘ fun i=>(m i).isSome):=rfl
 rw [← e]
 have e2:List.countP (fun i=>!(m i).isSome) (List.range N)=List.countP (fun a=>decide (¬ (m a).isSome=true)) (List.range N):=by
  congr 1; funext i; cases (m i).isSome <;> rfl
 rw [e2]
 omega
theorem whole_frees {N:Nat} {m:Mem} {root:Int} {H:Nat} {t:Tr H} (hw:Whole m root t) (hd:∀ i,m i≠none->i < N):frM N m+(pgs H t).length=N:=by
 have h1:=frees_sum (N:=N) (m:=m)
 have h2:(pgs H t).length=((List.range N).filter fun i=>(m i).isSome).length:=nodup_eq hw.nod (List.nodup_range.filter _) fun q=>by
  rw [List.mem_filter,List.mem_range]
  constructor
  ·intro hq
   have:=hw.rep.some q hq
   exact ⟨hd q this,by cases hm:m q with
    | none=>exact absurd hm this
    | some _=>rfl⟩
  ·rintro ⟨_,hq⟩
   by_cases hp:q∈pgs H t
   ·exact hp
   ·rw [hw.out q hp] at hq; cases hq
 omega
def Few (N:Nat) (m:Mem) (P:List Pr):Prop:=N<=frM N m+3 * P.length
theorem prs_kvs {H:Nat} {t:Tr H}:prs t=(kvs (sq H t)).length:=rfl
theorem fin_good {N:Nat} {m:Mem} {root cnt:Int} {l:List It} {P:List Pr} (h:FinP m root cnt l) (hs:Srt l) (hP:kvs l=P) (hc:cnt=P.length) (hd:∀ i,m i≠none->i < N):GoodS m root P/\Few N m P:=by
 rcases h with ⟨h1,h2,h3⟩ | ⟨H,t,h1,h2,h3,h4⟩
 ·rw [h3] at hP
  subst hP
  refine ⟨.inl ⟨h1,h2,rfl⟩,?_⟩
  have:=frees_sum (N:=N) (m:=m)
  have h0:((List.range N).filter fun i=>(m i).isSome)=[]:=List.filter_eq_nil_iff.2 fun i _=>by rw [h2 i]; decide
  rw [h0] at this
  unfold Few
  simp at this ⊢; omega
 ·have hs':=h3.to hs
  have hkv:=h3.kv
  have hp:=whole_frees h1 hd
  refine ⟨.inr ⟨H,t,h1,h2,hs',by rw [← hkv]; exact hP⟩,?_⟩
  unfold Few
  rcases h4 with h4 | ⟨h4,h5⟩
  ·omega
  ·have:=few h2 h4 hs' h5
   rw [prs_kvs,← hkv,hP] at this
   omega
theorem plug_set:∀ {h H:Nat} {k:Cx h H} {t t':Tr h} {m m':Mem},RepT m H (plug k t)->(pgs H (plug k t)).Nodup->RepT m' h t'->no h t'=no h t->(∀ q,q ∉ pgs h t->m' q=m q)->RepT m' H (plug k t')
 | _,_,.top,t,t',m,m',_,_,h1,_,_=>h1
 | h,H,.up p A B L R c,t,t',m,m',hr,hn,h1,h2,h3=>by
  have hr1:RepT m (h+1) (inn p (A++B) (L++t::R)):=plug_rep (c:=c) hr
  have hn1:(pgs (h+1) (inn p (A++B) (L++t::R))).Nodup:=plug_nod (c:=c) hn
  rw [pgs_at] at hn1
  simp only [List.cons_append,List.nodup_cons,List.mem_append,not_or,List.nodup_append] at hn1
  have hpt:p ∉ pgs h t:=hn1.1.2.1
  refine plug_set (k:=c) (t:=inn p (A++B) (L++t::R)) (t':=inn p (A++B) (L++t'::R)) hr hn ?_ rfl fun q hq=>h3 q fun hh=>hq (by rw [pgs_at]; simp [hh])
  refine rep_inn.2 ⟨?_,fun s hs=>?_⟩
  ·rw [h3 p hpt,(rep_inn.1 hr1).1]
   simp [nos,h2]
  ·have hcase:s=t'∨s∈L∨s∈R:=by
    simp only [List.mem_append,List.mem_cons] at hs
    rcases hs with h | h | h
    ·exact .inr (.inl h)
    ·exact .inl h
    ·exact .inr (.inr h)
   rcases hcase with rfl | hL | hR
   ·exact h1
   ·refine ((rep_inn.1 hr1).2 s (by simp [hL])).congr fun q hq=>h3 q fun hh=>?_
    exact hn1.2.2.2 q (List.mem_flatMap.2 ⟨s,hL,hq⟩) q (.inl hh) rfl
   ·refine ((rep_inn.1 hr1).2 s (by simp [hR])).congr fun q hq=>h3 q fun hh=>?_
    exact hn1.2.2.1.2.2 q hh q (List.mem_flatMap.2 ⟨s,hR,hq⟩) rfl
theorem whole_leaf {H:Nat} {k:Cx 0 H} {p:Nat} {ks vs ks' vs':List Tx} {m:Mem} {root:Int} (hw:Whole m root (plug k (lf p ks vs))):Whole (updM m p (some ⟨true,ks',vs',[]⟩)) root (plug k (lf p ks' vs')):=by
 have hp:pgs H (plug k (lf p ks' vs'))=pgs H (plug k (lf p ks vs)):=by rw [pgs_plug,pgs_plug]; rfl
 refine ⟨plug_set hw.rep hw.nod (t':=lf p ks' vs') ?_ rfl fun q hq=>?_,by rw [hp]; exact hw.nod,fun q hq=>?_,?_⟩
 ·show updM m p _ p=_
  unfold updM; rw [if_pos rfl]; rfl
 ·have:q≠p:=fun he=>hq (by rw [he]; exact no_mem (t:=lf p ks vs))
  unfold updM; rw [if_neg this]
 ·rw [hp] at hq
  have:q≠p:=fun he=>hq (by rw [he,pgs_plug]; simp)
  unfold updM; rw [if_neg this]; exact hw.out q hq
 ·rw [hw.rt]
  cases k with
  | top=>rfl
  | up q A B L R c =>
   have:∀ {h H:Nat} (c:Cx h H) (t t':Tr h),no h t=no h t'->no H (plug c t)=no H (plug c t'):=fun {h H} c=>by
    induction c with
    | top=>exact fun t t' h=>h
    | up q A B L R c ih=>exact fun t t' h=>ih _ _ rfl
   rw [this _ _ _ (show no 0 (lf p ks' vs')=no 0 (lf p ks vs) from rfl)]
theorem TR.pushs {c:Cfg} {G X:RL} {s:TSt} {L:RL} (Y:RL) (h:TR c G X s L):∃ L',TR c (Y++G) X s L'/\Sub L' (Y++L):=by
 obtain ⟨T,es,ck,ws,wk,hN,rfl,hp⟩:=h
 exact ⟨HD c.rf c.rb c.rt c.rn c.rw T s.root s.cnt c.root0 c.cnt0 es ck ws wk ((Y++G)++X),⟨T,es,ck,ws,wk,hN,rfl,hp⟩,Sub.sums fun f=>by simp [HD,fm]<;>omega⟩
theorem TR.pops {c:Cfg} {G X:RL} {s:TSt} {L:RL} {Y:RL} (h:TR c (Y++G) X s L):∃ L',TR c G X s L'/\Sub L' L:=by
 obtain ⟨T,es,ck,ws,wk,hN,rfl,hp⟩:=h
 exact ⟨HD c.rf c.rb c.rt c.rn c.rw T s.root s.cnt c.root0 c.cnt0 es ck ws wk (G++X),⟨T,es,ck,ws,wk,hN,rfl,hp⟩,Sub.sums2 Y fun f=>by simp [HD,fm]<;>omega⟩
structure WayP (c:Cfg) (G X:RL) (s:TSt) (L:RL) (P:List Pr) (key:Tx) {H:Nat} (k:Cx 0 H) (p:Nat) (ks vs:List Tx) (v:Value):Prop where
 tr:TR c G X s L
 wh:Whole s.m s.root (plug k (lf p ks vs))
 wf:wfC k
 bef:∀ y∈preC k,Bef key y
 aft:∀ y∈postC k,Aft key y
 ok:OkC k p
 fits:fitsN ⟨true,ks,vs,[]⟩=true
 srt:Srt (sq H (plug k (lf p ks vs)))
 kv:kvs (sq H (plug k (lf p ks vs)))=P
 vv:∃ Y,(∀ x,x∈Y->x∈G)/\GV 150 2 [] v ((steps k).length+1) (stC (steps k++[(p,0)])) Y
 len:(steps k).length<=100000
theorem empty_fits:fitsN ⟨true,[],[],[]⟩=true:=room_fits (may_iff.2 ⟨rfl,.inl ⟨rfl,rfl,rfl,fun v hv=>by cases hv⟩⟩) (.inl ⟨rfl,Nat.zero_le _⟩)
theorem empty_ctx {k:Cx 0 0} {l:Tr 0} {p:Nat} (h:plug k l=lf p [] []):OkC k (no 0 l)/\fitsN (nd 0 l)=true:=by
 cases k with
 | top=>subst h; exact ⟨trivial,empty_fits⟩
 | up q A B L R c=>have:=steps_len (c:=Cx.up q A B L R c); simp [steps] at this
theorem way_p {H:Nat} {t:Tr H} {c:Cfg} {G X:RL} {s:TSt} {rows:RL} {key:Tx} {P:List Pr} (htr:TR c G X s rows) (hw:Whole s.m s.root t) (hok:(∃ p,H=0/\t ≍ lf p [] [])∨Okt H t) (hs:Srt (sq H t)) (hkv:kvs (sq H t)=P) :
  CS Tryz.prog 62 [ptr c.rt,txt key] rows fun v L'=>∃ Y k p ks vs,WayP c (Y++G) X s L' P key (H:=H) k p ks vs v:=by
 have hpl:=pages_le htr hw.rep hw.nod
 have hN32:=htr.N
 refine (way_tr (key:=key) htr hw (hok.imp (fun ⟨_,h,_⟩=>h) id) hs).less ?_
 rintro v L' ⟨k,l,Y,hpu,hwf,hbef,haft,rfl,hv⟩
 obtain ⟨p,ks,vs,rfl⟩:=lf_eta l
 obtain ⟨L1,h1,s1⟩:=htr.pushs Y
 subst hpu
 have hst:=steps_len (c:=k)
 have hh:OkC k p/\fitsN ⟨true,ks,vs,[]⟩=true:=by
  rcases hok with ⟨q,h0,ht⟩ | hok
  ·subst h0
   have:=empty_ctx (eq_of_heq ht)
   simpa using this
  ·exact ⟨(ok_plug.1 hok).1,(ok_plug.1 hok).2.1⟩
 have hH:H < 40000:=by
  rcases hok with ⟨q,h0,ht⟩ | hok
  ·omega
  ·have:=high_le hok; omega
 exact ⟨L1,s1,Y,k,p,ks,vs,h1,hw,hwf,hbef,haft,hh.1,hh.2,hs,hkv,⟨Y,fun x hx=>List.mem_append_left _ hx,by simpa using hv⟩,by omega⟩
end Go.Proofs.YtlmmddfhoabjfaaGreat
end
section
namespace Go.Proofs.YtlmmddfhoabjfaaGreat
open Go.Am
theorem put_sm {key val:Tx} {ks vs:List Tx} (hf:fitsN ⟨true,ks,vs,[]⟩=true) (h2:key.length<=32) (h3:val.length<=64):Sm (putN key val ks vs):=by
 have hs:=fits_sm hf
 have hl:=(may_vs (fits_may hf) rfl).1
 have hz:=leaf_sm hf
 have hle:=below_le key ks
 have e3:=hs.kl
 have e4:=hs.vl
 simp only at e3 e4 hl
 unfold putN
 split
 ·refine ⟨by simp only; omega,by simp only [List.length_set]; omega,by simp,e3,fun k hk=>?_⟩
  rcases mem_set' hk with rfl | hk
  ·omega
  ·exact e4 k hk
 ·refine ⟨by simp only [insL_len hle]; omega,by simp only; rw [insL_len (by omega)]; omega,by simp,fun k hk=>?_,fun k hk=>?_⟩
  ·rcases mem_insL hk with rfl | hk
   ·omega
   ·exact e3 k hk
  ·rcases mem_insL hk with rfl | hk
   ·omega
   ·exact e4 k hk
abbrev pG (c:Cfg) (r3 r4 r5:Nat) (key val:Tx) (G:RL):RL:=(r5,sRow val)::(r4,sRow key)::(r3,tpRow c.rt)::G
set_option maxHeartbeats 4000000 in
theorem put_tr {c:Cfg} {G X:RL} {s:TSt} {rows:RL} {key val:Tx} {P:List Pr} (htr:TR c G X s rows) (hg:GoodS s.m s.root P) (hcnt:s.cnt=P.length) (h16:16<=frM c.N s.m) (hk1:1<=key.length) (hk2:key.length<=32) (hv1:val.length<=64) (hP:P.length<=100000000) :
  CS Tryz.prog 44 [ptr c.rt,txt key,txt val] rows fun _ L'=>∃ X' m' root',(∀ q,q∈X->q∈X')/\TR c G X' ⟨m',root',((putP key val P).length:Nat)⟩ L'/\GoodS m' root' (putP key val P)/\Few c.N m' (putP key val P):=by
 suffices g:CS Tryz.prog 44 [ptr c.rt,txt key,txt val] rows fun _ L'=>∃ Y X' m' root',(∀ q,q∈X->q∈X')/\TR c (Y++G) X' ⟨m',root',((putP key val P).length:Nat)⟩ L'/\GoodS m' root' (putP key val P)/\Few c.N m' (putP key val P) by
  refine g.less ?_
  rintro u L' ⟨Y,X',m',root',h1,h2,h3⟩
  obtain ⟨L1,g1,s1⟩:=h2.pops
  exact ⟨L1,s1,X',m',root',h1,g1,h3⟩
 obtain ⟨m,root,cnt⟩:=s
 simp only at hg hcnt h16
 obtain ⟨T,es,ck,ws,wk,hN,rfl,hp⟩:=id htr
 simp only
 refine CS.mk (fn:=Tryz.f44) rfl rfl rfl rfl ?_
 repeat refine xQ ?_
 refine xG rfl ?_
 refine OS.fresh rfl (e_boxV (v:=ptr c.rt) (cs:=[ptr c.rt]) rfl rfl rfl rfl rfl) (fun _=>rfl) (fun r3=>?_)
 refine OS.fresh rfl (e_boxV (v:=txt key) (cs:=[txt key]) rfl rfl rfl rfl rfl) (fun _=>rfl) (fun r4=>?_)
 refine OS.fresh rfl (e_boxV (v:=txt val) (cs:=[txt val]) rfl rfl rfl rfl rfl) (fun _=>rfl) (fun r5=>?_)
 refine OS.sub (Sub.sums (A:=HD c.rf c.rb c.rt c.rn c.rw T root cnt c.root0 c.cnt0 es ck ws wk (pG c r3 r4 r5 key val G++X)) (B:=(r5,sRow val)::(r4,sRow key)::(r3,tpRow c.rt)::HD c.rf c.rb c.rt c.rn c.rw T root cnt c.root0 c.cnt0 es ck ws wk (G++X)) fun f=>by simp [HD,fm]<;>omega) ?_
 refine xN ?_
 have htr1:TR c (pG c r3 r4 r5 key val G) X ⟨m,root,cnt⟩ (HD c.rf c.rb c.rt c.rn c.rw T root cnt c.root0 c.cnt0 es ck ws wk (pG c r3 r4 r5 key val G++X)):=⟨T,es,ck,ws,wk,hN,rfl,hp⟩
 have m3:(r3,tpRow c.rt)∈pG c r3 r4 r5 key val G:=by simp
 have m4:(r4,sRow key)∈pG c r3 r4 r5 key val G:=by simp
 have m5:(r5,sRow val)∈pG c r3 r4 r5 key val G:=by simp
 repeat refine xQ ?_
 refine xG rfl ?_
 refine xR rfl (e_loadm (htr1.memG _ m3) rfl rfl rfl rfl) rfl ?_
 iterate 3 refine xP rfl rh rfl ?_
 refine xR rfl (e_loadm (row:=trRow c.rf c.rn c.rw root cnt c.root0 c.cnt0) (r:=c.rt) (by simp) rfl rfl rfl rfl) rfl ?_
 refine xP rfl rh rfl ?_
 refine xN ?_
 repeat refine xQ ?_
 refine LS.mid [3,4,5] (fun a' L'=>∃ X1 m1 root1 H,∃ t1:Tr H,(∀ q,q∈X->q∈X1)/\TR c (pG c r3 r4 r5 key val G) X1 ⟨m1,root1,cnt⟩ L'/\Whole m1 root1 t1/\((∃ p,H=0/\t1 ≍ lf p [] [])∨Okt H t1)/\Srt (sq H t1)/\kvs (sq H t1)=P/\15<=frM c.N m1/\(H=0∨16<=frM c.N m1)/\a'=[jn,jn,jn,ptr r3,ptr r4,ptr r5,jn,jn,jn,jn,jn,jn,jn,jn,jn,jn,jn,jn,jn,jn,jn,jn,jn,jn,jn,jn,jn,jn,jn,jn,jn,jn,jn,jn,jn,jn,jn,jn,jn,jn,jn,jn,jn]) ?_ ?_
 ·rcases hg with ⟨rfl,hem,rfl⟩ | ⟨H,t,hw,hok,hs,hkv⟩
  ·refine xC rfl (fun hc=>?_) (fun hc=>?_)
   ·repeat refine xQ ?_
    refine LS.drawn noGo mixed [(0,false),(1,false),(2,false),(3,false),(4,false),(5,true),(6,false),(7,false),(8,false),(9,true)] rfl rfl (by kernel_rfl) ?_
    refine xE rfl rfl (e_loadm (htr1.memG _ m3) rfl rfl rfl rfl) rfl ?_
    refine xE rfl rfl (e_loadm (htr1.memG _ m3) rfl rfl rfl rfl) rfl ?_
    iterate 2 refine xD rfl rfl rh rfl ?_
    refine xD rfl rfl (e_build0 rfl rfl) rfl ?_
    refine ODS.call rfl rfl (fun _=>rfl) ((add_tr (n:=⟨true,[],[],[]⟩) htr1 (by simp only; omega) ⟨pl_nil,pl_nil,pl_nil⟩ (fits_sm empty_fits)).mono ?_)
    rintro u L1 ⟨p,x,d1,hp1,rfl,h1⟩
    have h10:=h1
    refine ⟨_,rfl,(by repeat (first | exact Keep.nil | refine Keep.gone rfl ?_ | refine Keep.cons rfl (e_loadm (h10.memG _ m3) rfl rfl rfl rfl) ?_)),?_⟩
    obtain ⟨T1,es1,ck1,ws1,wk1,hN1,rfl,hp1'⟩:=h1
    iterate 3 refine xD rfl rfl rh rfl ?_
    refine ODS.write rfl rfl (e_store 2 rfl rfl rfl rfl rfl rfl rfl rfl) rfl (by repeat (first | exact Keep.nil | refine Keep.gone rfl ?_)) ?_
    refine xM ?_
    have hfm:=frM_new (n':=⟨true,[],[],[]⟩) d1 hp1
    simp only at hfm
    refine ⟨_,updM m p (some ⟨true,[],[],[]⟩),(p:Nat),0,lf p [] [],fun q hq=>List.mem_cons_of_mem _ hq,⟨T1,es1,ck1,ws1,wk1,hN1,rfl,hp1'⟩,⟨?_,by simp,fun q hq=>?_,rfl⟩,.inl ⟨p,rfl,HEq.rfl⟩,List.Pairwise.nil,rfl,by omega,.inl rfl,rfl⟩
    ·show updM m p _ p=_
     unfold updM; rw [if_pos rfl]; rfl
    ·have:q≠p:=fun he=>hq (by simp [he])
     unfold updM; rw [if_neg this]; exact hem q
   ·cases hc
  ·have hrt:=hw.rt
   have hb:ieqB root (-1)=false:=by rw [ieqB_eq]; simp; omega
   refine xC rfl (fun hc=>?_) (fun hc=>?_)
   ·have hc:ieqB root (-1)=true:=hc
    rw [hb] at hc; cases hc
   ·refine LS.skip ?_
    exact ⟨X,m,root,H,t,fun q hq=>hq,htr1,hw,.inr hok,hs,hkv,by omega,.inr h16,rfl⟩
 rintro a' L1 ⟨X1,m1,root1,H,t1,hX1,htr2,hw1,hok1,hs1,hkv1,hf15,hf16,rfl⟩
 repeat refine xQ ?_
 refine xG rfl ?_
 refine xR rfl (e_loadm (htr2.memG _ m3) rfl rfl rfl rfl) rfl ?_
 refine xR rfl (e_loadm (htr2.memG _ m4) rfl rfl rfl rfl) rfl ?_
 refine xA noGo rfl (fun _=>rfl) ((way_p htr2 hw1 hok1 hs1 hkv1).mono ?_)
 rintro v L2 ⟨Y,k,p,ks,vs,hwp⟩
 obtain ⟨Yv,hYv,hvv⟩:=hwp.vv
 refine ⟨_,rfl,?_⟩
 refine xP rfl rh rfl ?_
 refine xN ?_
 have hst:=steps_len (c:=k)
 have hlen:=hwp.len
 repeat refine xQ ?_
 refine xG rfl ?_
 refine xP rfl rh rfl ?_
 refine xP rfl (e_len (hvv.sv.mono fun x hx=>hwp.tr.memG _ (hYv x hx)) rfl rfl rfl rfl rfl) rfl ?_
 refine xP rfl rh rfl ?_
 refine xN ?_
 repeat refine xQ ?_
 refine LS.mid [3,4,5,6] (fun a' L'=>∃ Y X2 m2 root2 H,∃ (k:Cx 0 H) (p:Nat) (ks vs:List Tx) (v:Value),(∀ q,q∈X->q∈X2)/\WayP c (Y++pG c r3 r4 r5 key val G) X2 ⟨m2,root2,cnt⟩ L' P key k p ks vs v/\(steps k).length+2<=frM c.N m2/\a'=[jn,jn,jn,ptr r3,ptr r4,ptr r5,v,jn,jn,jn,jn,jn,jn,jn,jn,jn,jn,jn,jn,jn,jn,jn,jn,jn,jn,jn,jn,jn,jn,jn,jn,jn,jn,jn,jn,jn,jn,jn,jn,jn,jn,jn,jn]) ?_ ?_
 ·by_cases hbig:16<=(steps k).length+1
  ·have hb:ileB 16 (((steps k).length+1:Nat):Int)=true:=ileB_iff.2 (by omega)
   have hokH:Okt H t1:=hok1.elim (fun ⟨q,h0,_⟩=>by omega) id
   have h16b:16<=frM c.N m1:=hf16.elim (fun h0=>by omega) id
   refine xC rfl (fun hc=>?_) (fun hc=>?_)
   ·repeat refine xQ ?_
    refine xG rfl ?_
    refine xR rfl (e_loadm (hwp.tr.memG _ (List.mem_append_right Y m3)) rfl rfl rfl rfl) rfl ?_
    refine xA noGo rfl (fun _=>rfl) ((tidy_tr hwp.tr hw1 hokH).mono ?_)
    rintro u L3 ⟨X3,m3',root3,hX3,htr3,hrp,hfr3⟩
    simp only at htr3 hfr3
    refine ⟨_,rfl,?_⟩
    refine xN ?_
    have hnd:=htr3.dom
    rcases hrp with ⟨_,_,hkn⟩ | ⟨H3,t3,hw3,hok3,hsq3,hk3,htd3⟩
    ·exact absurd hkn (kvs_ne hokH)
    have hs3:=hsq3.to hs1
    have hpg3:=pages_le htr3 hw3.rep hw3.nod
    have hN3:=htr3.N
    have hlow:=low hok3 (htd3 trivial) hs3 hk3 (by omega)
    repeat refine xQ ?_
    refine xG rfl ?_
    refine xR rfl (e_loadm (htr3.memG _ (List.mem_append_right Y m3)) rfl rfl rfl rfl) rfl ?_
    refine xR rfl (e_loadm (htr3.memG _ (List.mem_append_right Y m4)) rfl rfl rfl rfl) rfl ?_
    refine xA noGo rfl (fun _=>rfl) ((way_p htr3 hw3 (.inr hok3) hs3 (hsq3.kv.symm.trans hkv1)).mono ?_)
    rintro v3 L4 ⟨Y4,k4,p4,ks4,vs4,hwp4⟩
    refine ⟨_,rfl,?_⟩
    refine xP rfl rh rfl ?_
    refine xN ?_
    have hst4:=steps_len (c:=k4)
    exact ⟨Y4++Y,X3,m3',root3,H3,k4,p4,ks4,vs4,v3,fun q hq=>hX3 q (hX1 q hq),by rw [List.append_assoc]; exact hwp4,by omega,rfl⟩
   ·have hc:ileB 16 (((steps k).length+1:Nat):Int)=false:=hc
    rw [hb] at hc; cases hc
  ·have hb:ileB 16 (((steps k).length+1:Nat):Int)=false:=by rw [ileB_eq,decide_eq_false (by omega)]
   refine xC rfl (fun hc=>?_) (fun hc=>?_)
   ·have hc:ileB 16 (((steps k).length+1:Nat):Int)=true:=hc
    rw [hb] at hc; cases hc
   ·refine LS.skip ?_
    exact ⟨Y,X1,m1,root1,H,k,p,ks,vs,v,hX1,hwp,by omega,rfl⟩
 clear hst hlen hwp hvv hYv
 rintro a' L3 ⟨Y,X2,m2,root2,H2,k,p,ks,vs,v,hX2,hwp,hbud,rfl⟩
 obtain ⟨Yv,hYv,hvv⟩:=hwp.vv
 have hm:=fits_may hwp.fits
 have hml:=(plug_rep (c:=k) hwp.wh.rep).top
 simp only [nd_lf,no_lf] at hml
 have m3':=List.mem_append_right Y m3
 have m4':=List.mem_append_right Y m4
 have m5':=List.mem_append_right Y m5
 repeat refine xQ ?_
 refine LS.drawn noGo mixed [(0,false),(1,false),(2,false),(3,false),(5,false),(4,true),(6,true)] rfl rfl (by kernel_rfl) ?_
 refine xE rfl rfl (e_loadm (hwp.tr.memG _ m3') rfl rfl rfl rfl) rfl ?_
 iterate 4 refine xD rfl rfl rh rfl ?_
 refine ODS.call rfl rfl (fun _=>rfl) ((leafOf_ct hvv (fun x hx=>hwp.tr.memG _ (hYv x hx)) (by have:=hwp.len; omega)).mono ?_)
 rintro u L4 ⟨rfl,rfl⟩
 refine ⟨_,rfl,(by repeat (first | exact Keep.nil | refine Keep.gone rfl ?_ | refine Keep.cons rfl (e_loadm (hwp.tr.memG _ m3') rfl rfl rfl rfl) ?_)),?_⟩
 refine ODS.call rfl rfl (fun _=>rfl) ((change_tr (caps:=[ptr r4,ptr r5,ptr r3]) (n':=putN key val ks vs) hwp.tr hml (put_sm hwp.fits hk2 hv1) (put_chn m3' m4' m5' (fits_sm hwp.fits) hm (by simp only; omega) (by simp only; omega))).mono ?_)
 rintro u L5 ⟨X5,hX5,htr5⟩
 refine ⟨_,rfl,(by repeat (first | exact Keep.nil | refine Keep.gone rfl ?_)),?_⟩
 refine xM ?_
 simp only at htr5
 have key:∃ ks' vs',putN key val ks vs=⟨true,ks',vs',[]⟩/\Srt (sq H2 (plug k (lf p ks' vs')))/\Lz (lf p ks' vs')/\kvs (sq H2 (plug k (lf p ks' vs')))=putP key val P/\(if isN key ks=true then cnt else cnt+1)=((putP key val P).length:Nat):=by
  have hkv:=hwp.kv
  subst hkv
  unfold putN
  cases hi:isN key ks with
  | true =>
   obtain ⟨a1,a2,a3,_,a5⟩:=leaf_set (v:=val) hwp.srt hwp.wf hwp.bef hwp.aft hwp.fits hi hv1
   refine ⟨_,_,by rw [if_pos rfl],a1,a2,a3,?_⟩
   rw [if_pos rfl,a5]; exact hcnt
  | false =>
   obtain ⟨a1,a2,a3,a5⟩:=leaf_ins (v:=val) hwp.srt hwp.wf hwp.bef hwp.aft hwp.fits hi hk1 hk2 hv1
   refine ⟨_,_,by rw [if_neg (by decide)],a1,a2,a3,?_⟩
   rw [if_neg (by decide),a5]; omega
 obtain ⟨ks',vs',e1,e2,e3,e4,e5⟩:=key
 rw [e1,e5] at htr5
 have hw5:=whole_leaf (ks':=ks') (vs':=vs') hwp.wh
 simp only at hw5
 have hle5:(putP key val P).length<=100000001:=by
  have:(if isN key ks=true then cnt else cnt+1)<=cnt+1:=by split <;> omega
  omega
 have hfr5:frM c.N (updM m2 p (some ⟨true,ks',vs',[]⟩))=frM c.N m2:=frM_same (hwp.tr.dom p (by simp only; rw [hml]; simp)) hml
 repeat refine xQ ?_
 refine xG rfl ?_
 refine xR rfl (e_loadm (htr5.memG _ m3') rfl rfl rfl rfl) rfl ?_
 refine xP rfl rh rfl ?_
 refine xA noGo rfl (fun _=>rfl) ((mend_tr (pl:=p) (k0:=k) (l0:=lf p ks' vs') htr5 (hvv.sv.mono hYv) hw5 hwp.ok hwp.wf e3 e2 (.inr (by simp only; omega)) (by simp only; omega) (by simp only; omega) hwp.len).mono ?_)
 rintro u L6 ⟨X6,m6,root6,hX6,htr6,hfin⟩
 simp only at htr6
 refine ⟨_,rfl,?_⟩
 refine xN ?_
 have hgood:=fin_good hfin e2 e4 rfl htr6.dom
 exact ⟨_,fun _ _=>rfl,Y++[(r5,sRow val),(r4,sRow key),(r3,tpRow c.rt)],X6,m6,root6,fun q hq=>hX6 q (hX5 q (hX2 q hq)),by simpa using htr6,hgood⟩
set_option maxHeartbeats 4000000 in
theorem del_tr {c:Cfg} {G X:RL} {s:TSt} {rows:RL} {key:Tx} {P:List Pr} (htr:TR c G X s rows) (hg:GoodS s.m s.root P) (hcnt:s.cnt=P.length) (hP:P.length<=100000000) (hin:getP P key≠none) :
  CS Tryz.prog 45 [ptr c.rt,txt key] rows fun _ L'=>∃ X' m' root',(∀ q,q∈X->q∈X')/\TR c G X' ⟨m',root',((delP key P).length:Nat)⟩ L'/\GoodS m' root' (delP key P)/\Few c.N m' (delP key P):=by
 suffices g:CS Tryz.prog 45 [ptr c.rt,txt key] rows fun _ L'=>∃ Y X' m' root',(∀ q,q∈X->q∈X')/\TR c (Y++G) X' ⟨m',root',((delP key P).length:Nat)⟩ L'/\GoodS m' root' (delP key P)/\Few c.N m' (delP key P) by
  refine g.less ?_
  rintro u L' ⟨Y,X',m',root',h1,h2,h3⟩
  obtain ⟨L1,g1,s1⟩:=h2.pops
  exact ⟨L1,s1,X',m',root',h1,g1,h3⟩
 obtain ⟨m,root,cnt⟩:=s
 simp only at hg hcnt
 rcases hg with ⟨_,_,rfl⟩ | ⟨H,t,hw,hok,hs,hkv⟩
 ·exact absurd rfl hin
 obtain ⟨T,es,ck,ws,wk,hN,rfl,hp⟩:=id htr
 simp only
 refine CS.mk (fn:=Tryz.f45) rfl rfl rfl rfl ?_
 repeat refine xQ ?_
 refine xG rfl ?_
 refine OS.fresh rfl (e_boxV (v:=txt key) (cs:=[txt key]) rfl rfl rfl rfl rfl) (fun _=>rfl) (fun r3=>?_)
 refine OS.sub (Sub.sums (A:=HD c.rf c.rb c.rt c.rn c.rw T root cnt c.root0 c.cnt0 es ck ws wk (((r3,sRow key)::G)++X)) (B:=(r3,sRow key)::HD c.rf c.rb c.rt c.rn c.rw T root cnt c.root0 c.cnt0 es ck ws wk (G++X)) fun f=>by simp [HD,fm]<;>omega) ?_
 refine xN ?_
 have htr1:TR c ((r3,sRow key)::G) X ⟨m,root,cnt⟩ (HD c.rf c.rb c.rt c.rn c.rw T root cnt c.root0 c.cnt0 es ck ws wk (((r3,sRow key)::G)++X)):=⟨T,es,ck,ws,wk,hN,rfl,hp⟩
 have m3:(r3,sRow key)∈(r3,sRow key)::G:=by simp
 repeat refine xQ ?_
 refine xG rfl ?_
 refine xP rfl rh rfl ?_
 refine xR rfl (e_loadm (htr1.memG _ m3) rfl rfl rfl rfl) rfl ?_
 refine xA noGo rfl (fun _=>rfl) ((way_p htr1 hw (.inr hok) hs hkv).mono ?_)
 rintro v L2 ⟨Y,k,p,ks,vs,hwp⟩
 obtain ⟨Yv,hYv,hvv⟩:=hwp.vv
 refine ⟨_,rfl,?_⟩
 refine xP rfl rh rfl ?_
 refine xN ?_
 have hm:=fits_may hwp.fits
 have hml:=(plug_rep (c:=k) hwp.wh.rep).top
 simp only [nd_lf,no_lf] at hml
 have m3':=List.mem_append_right Y m3
 have hi:isN key ks=true:=by
  cases hi:isN key ks with
  | true=>rfl
  | false =>
   exfalso
   have:=leaf_none hwp.srt hwp.wf hwp.bef hwp.aft hwp.fits hi
   rw [hwp.kv] at this
   exact hin this
 obtain ⟨a1,a2,a2s,a3,_,a5⟩:=leaf_del hwp.srt hwp.wf hwp.bef hwp.aft hwp.fits hi
 rw [hwp.kv] at a3 a5
 have hsm:Sm ⟨true,ks.eraseIdx (belowN key ks),vs.eraseIdx (belowN key ks),[]⟩:=by
  have hz:=fits_sm hwp.fits
  have e1:=hz.k
  have e2:=hz.v
  simp only at e1 e2
  exact ⟨Nat.le_trans (List.length_eraseIdx_le ..) e1,Nat.le_trans (List.length_eraseIdx_le ..) e2,by simp,fun q hq=>hz.kl q (List.mem_of_mem_eraseIdx hq),fun q hq=>hz.vl q (List.mem_of_mem_eraseIdx hq)⟩
 repeat refine xQ ?_
 refine LS.drawn noGo mixed [(0,false),(1,false),(2,false),(3,false),(5,false),(4,true),(6,true)] rfl rfl (by kernel_rfl) ?_
 iterate 5 refine xD rfl rfl rh rfl ?_
 refine ODS.call rfl rfl (fun _=>rfl) ((leafOf_ct hvv (fun x hx=>hwp.tr.memG _ (hYv x hx)) (by have:=hwp.len; omega)).mono ?_)
 rintro u L4 ⟨rfl,rfl⟩
 refine ⟨_,rfl,(by repeat (first | exact Keep.nil | refine Keep.gone rfl ?_)),?_⟩
 refine ODS.call rfl rfl (fun _=>rfl) ((change_tr (caps:=[ptr r3]) (n':=⟨true,ks.eraseIdx (belowN key ks),vs.eraseIdx (belowN key ks),[]⟩) hwp.tr hml hsm (del_chn m3' (fits_sm hwp.fits) hm hi)).mono ?_)
 rintro u L5 ⟨X5,hX5,htr5⟩
 refine ⟨_,rfl,(by repeat (first | exact Keep.nil | refine Keep.gone rfl ?_)),?_⟩
 refine xM ?_
 simp only at htr5
 obtain ⟨T5,es5,ck5,ws5,wk5,hN5,rfl,hp5⟩:=htr5
 repeat refine xQ ?_
 refine xG rfl ?_
 iterate 4 refine xP rfl rh rfl ?_
 refine xR rfl (e_load 2 rfl rfl rfl rfl rfl) rfl ?_
 refine xP rfl (e_is (e_sub (m:=cnt) (n:=1) rfl rfl rfl (in_i64 (by omega) (by omega))) (congrArg (Value.int .i64) (show cnt - 1=((delP key P).length:Nat) by omega))) rfl ?_
 iterate 3 refine xP rfl rh rfl ?_
 refine OS.write rfl (e_store 2 rfl rfl rfl rfl rfl rfl rfl rfl) rfl ?_
 refine xN ?_
 have htr6:TR c (Y++(r3,sRow key)::G) X5 ⟨updM m p (some ⟨true,ks.eraseIdx (belowN key ks),vs.eraseIdx (belowN key ks),[]⟩),root,((delP key P).length:Nat)⟩ (HD c.rf c.rb c.rt c.rn c.rw T5 root ((delP key P).length:Nat) c.root0 c.cnt0 es5 ck5 ws5 wk5 ((Y++(r3,sRow key)::G)++X5)):=⟨T5,es5,ck5,ws5,wk5,hN5,rfl,hp5⟩
 have hw5:=whole_leaf (ks':=ks.eraseIdx (belowN key ks)) (vs':=vs.eraseIdx (belowN key ks)) hwp.wh
 simp only at hw5
 repeat refine xQ ?_
 refine xG rfl ?_
 iterate 2 refine xP rfl rh rfl ?_
 refine xA noGo rfl (fun _=>rfl) ((mend_tr (pl:=p) (k0:=k) (l0:=lf p (ks.eraseIdx (belowN key ks)) (vs.eraseIdx (belowN key ks))) htr6 (hvv.sv.mono hYv) hw5 hwp.ok hwp.wf a2 a1 (.inl a2s) (by simp only; omega) (by simp only; omega) hwp.len).mono ?_)
 rintro u L6 ⟨X6,m6,root6,hX6,htr7,hfin⟩
 simp only at htr7
 refine ⟨_,rfl,?_⟩
 refine xN ?_
 have hgood:=fin_good hfin a1 a3 rfl htr7.dom
 exact ⟨_,fun _ _=>rfl,Y++[(r3,sRow key)],X6,m6,root6,fun q hq=>hX6 q (hX5 q hq),by simpa using htr7,hgood⟩
end Go.Proofs.YtlmmddfhoabjfaaGreat
end
section
namespace Go.Proofs.YtlmmddfhoabjfaaGreat
open Go.Am
abbrev toRow (rt:Nat):ARow:=.cells 94 [ptr rt]
section
variable {c:Cfg} {G X:RL} {s:TSt} {L:RL} {ro:Nat}
theorem tnone_ct {rt:Nat} (h:(ro,toRow rt)∈L):CS Tryz.prog 43 [ptr ro] L fun u L'=>u=.bool false/\L'=L:=by
 refine CS.mk (fn:=Tryz.f43) rfl rfl rfl rfl ?_
 repeat refine xQ ?_
 refine xG rfl ?_
 refine xP rfl rh rfl ?_
 refine xN ?_
 repeat refine xQ ?_
 refine xG rfl ?_
 iterate 6 refine xP rfl rh rfl ?_
 refine xR rfl (e_loadm h rfl rfl rfl rfl) rfl ?_
 iterate 3 refine xP rfl rh rfl ?_
 refine xN ?_
 refine xT ⟨_,fun _ _=>rfl,?_⟩
 exact ⟨rfl,rfl⟩
theorem tLen_ct (htr:TR c G X s L) (ho:(ro,toRow c.rt)∈L):CS Tryz.prog 19 [ptr ro] L fun u L'=>u=.int .i64 s.cnt/\L'=L:=by
 obtain ⟨T,es,ck,ws,wk,hN,rfl,hp⟩:=htr
 refine CS.mk (fn:=Tryz.f19) rfl rfl rfl rfl ?_
 repeat refine xQ ?_
 refine xG rfl ?_
 refine xP rfl rh rfl ?_
 refine xN ?_
 repeat refine xQ ?_
 refine xG rfl ?_
 refine xP rfl rh rfl ?_
 refine xA noGo rfl (fun _=>rfl) ((tnone_ct ho).mono ?_)
 rintro u L' ⟨rfl,rfl⟩
 refine ⟨_,rfl,?_⟩
 refine xN ?_
 repeat refine xQ ?_
 refine xC rfl (fun hc=>?_) (fun hc=>?_)
 ·cases hc
 refine LS.skip ?_
 repeat refine xQ ?_
 refine xG rfl ?_
 iterate 3 refine xP rfl rh rfl ?_
 refine xR rfl (e_loadm ho rfl rfl rfl rfl) rfl ?_
 iterate 3 refine xP rfl rh rfl ?_
 refine xR rfl (e_loadm (row:=trRow c.rf c.rn c.rw s.root s.cnt c.root0 c.cnt0) (r:=c.rt) (by simp) rfl rfl rfl rfl) rfl ?_
 refine xP rfl rh rfl ?_
 refine xN ?_
 refine xT ⟨_,fun _ _=>rfl,?_⟩
 exact ⟨rfl,rfl⟩
theorem tFree_ct (htr:TR c G X s L) (ho:(ro,toRow c.rt)∈L):CS Tryz.prog 23 [ptr ro] L fun u L'=>u=.int .i64 (frM c.N s.m:Nat)/\L'=L:=by
 have hN32:=htr.N
 obtain ⟨T,es,ck,ws,wk,hN,rfl,hp⟩:=htr
 have hfr:=hp.frees
 rw [hN] at hfr
 refine CS.mk (fn:=Tryz.f23) rfl rfl rfl rfl ?_
 repeat refine xQ ?_
 refine xG rfl ?_
 refine xP rfl rh rfl ?_
 refine xN ?_
 repeat refine xQ ?_
 refine xG rfl ?_
 refine xP rfl rh rfl ?_
 refine xA noGo rfl (fun _=>rfl) ((tnone_ct ho).mono ?_)
 rintro u L' ⟨rfl,rfl⟩
 refine ⟨_,rfl,?_⟩
 refine xN ?_
 repeat refine xQ ?_
 refine xC rfl (fun hc=>?_) (fun hc=>?_)
 ·cases hc
 refine LS.skip ?_
 repeat refine xQ ?_
 refine xG rfl ?_
 iterate 3 refine xP rfl rh rfl ?_
 refine xR rfl (e_loadm ho rfl rfl rfl rfl) rfl ?_
 iterate 3 refine xP rfl rh rfl ?_
 refine xR rfl (e_loadm (row:=trRow c.rf c.rn c.rw s.root s.cnt c.root0 c.cnt0) (r:=c.rt) (by simp) rfl rfl rfl rfl) rfl ?_
 refine xA noGo rfl (fun _=>rfl) ((Free_ct (by omega)).mono ?_)
 rintro u L' ⟨rfl,rfl⟩
 refine ⟨_,rfl,?_⟩
 refine xP rfl rh rfl ?_
 refine xN ?_
 refine xT ⟨_,fun _ _=>rfl,?_⟩
 exact ⟨by rw [hfr]; rfl,rfl⟩
theorem tClean_ct (htr:TR c G X s L) (ho:(ro,toRow c.rt)∈G):CS Tryz.prog 21 [ptr ro] L fun u L'=>∃ w,u=.int .i64 0/\TR ⟨c.rf,c.rb,c.rt,c.rn,w,c.N,s.root,s.cnt,s.m⟩ G X s L':=by
 have ho':=htr.memG _ ho
 obtain ⟨T,es,ck,ws,wk,hN,rfl,hp⟩:=htr
 refine CS.mk (fn:=Tryz.f21) rfl rfl rfl rfl ?_
 repeat refine xQ ?_
 refine xG rfl ?_
 refine xP rfl rh rfl ?_
 refine xN ?_
 repeat refine xQ ?_
 refine xG rfl ?_
 refine xP rfl rh rfl ?_
 refine xA noGo rfl (fun _=>rfl) ((tnone_ct ho').mono ?_)
 rintro u L' ⟨rfl,rfl⟩
 refine ⟨_,rfl,?_⟩
 refine xN ?_
 repeat refine xQ ?_
 refine xC rfl (fun hc=>?_) (fun hc=>?_)
 ·cases hc
 refine LS.skip ?_
 repeat refine xQ ?_
 refine xG rfl ?_
 iterate 3 refine xP rfl rh rfl ?_
 refine xR rfl (e_loadm ho' rfl rfl rfl rfl) rfl ?_
 iterate 2 refine xP rfl rh rfl ?_
 refine xA noGo rfl (fun _=>rfl) ((clean_ct (G:=G) (X:=X) hp).mono ?_)
 rintro u L' ⟨w,rfl,hp'⟩
 refine ⟨_,rfl,?_⟩
 refine OS.sub (Sub.drop 5 rfl) ?_
 refine xN ?_
 have ho2:(ro,toRow c.rt)∈HD c.rf c.rb c.rt c.rn w T s.root s.cnt c.root0 c.cnt0 es ck [] 0 (G++X):=by simp [ho]
 repeat refine xQ ?_
 refine LS.drawn noGo mixed [(0,false),(1,false),(2,false),(3,false),(4,false),(5,false),(6,false),(7,false),(8,false),(9,false),(10,false),(11,false),(12,false),(13,true)] rfl rfl (by kernel_rfl) ?_
 iterate 3 refine xD rfl rfl rh rfl ?_
 refine xE rfl rfl (e_loadm ho2 rfl rfl rfl rfl) rfl ?_
 iterate 3 refine xD rfl rfl rh rfl ?_
 refine xE rfl rfl (e_loadm ho2 rfl rfl rfl rfl) rfl ?_
 iterate 2 refine xD rfl rfl rh rfl ?_
 refine xE rfl rfl (e_loadm (row:=trRow c.rf c.rn w s.root s.cnt c.root0 c.cnt0) (r:=c.rt) (by simp) rfl rfl rfl rfl) rfl ?_
 iterate 2 refine xD rfl rfl rh rfl ?_
 refine ODS.write rfl rfl (e_store 2 rfl rfl rfl rfl rfl rfl rfl rfl) rfl (by repeat (first | exact Keep.nil | refine Keep.gone rfl ?_)) ?_
 refine xM ?_
 repeat refine xQ ?_
 refine xG rfl ?_
 refine xP rfl rh rfl ?_
 refine xN ?_
 refine xT ⟨_,fun _ _=>rfl,?_⟩
 exact ⟨w,rfl,T,es,ck,[],0,hN,rfl,hp'⟩
end
abbrev m00:Mem:=fun _=>none
theorem pg_new {n:Nat} (hn:n<=32768):Pg [] (List.replicate n false) [] 0 [] 0 m00 m00 :=
 ⟨by simpa using hn,fun i hi _=>tkn_zeros n i,fun i h=>absurd rfl h,fun i h=>absurd rfl h,⟨_,MP.new,fun k=>⟨fun _=>rfl,fun n h=>(by cases h)⟩⟩,⟨_,MP.new,fun k=>⟨fun _=>rfl,fun h=>absurd rfl h⟩⟩,fun i n h=>(by cases h),fun i n h=>(by cases h)⟩
theorem newPages_ct {L:RL} (n:Nat) (hn:n<=32768):CS Tryz.prog 41 [.int .i64 (n:Nat)] L fun u L'=>∃ rf rb rn rw x,u=.tuple #[.agg #[ptr rf,.map (some rn),.map (some rw)],.int .i64 0]/\L'=(rw,.map [] 0)::(rn,.map [] 0)::fm rf rb (List.replicate n false) (x::L):=by
 refine CS.mk (fn:=Tryz.f41) rfl rfl rfl rfl ?_
 repeat refine xQ ?_
 refine xG rfl ?_
 refine OS.fresh rfl (e_new (fun _=>rfl) rfl) (fun _=>rfl) (fun r2=>?_)
 refine xP rfl rh rfl ?_
 refine xN ?_
 repeat refine xQ ?_
 refine xG rfl ?_
 refine xP rfl rh rfl ?_
 refine xA noGo rfl (fun _=>rfl) ((New_ct n hn).mono ?_)
 rintro u L' ⟨rf,rb,rfl,rfl⟩
 refine ⟨_,rfl,?_⟩
 iterate 5 refine xP rfl rh rfl ?_
 refine xN ?_
 repeat refine xQ ?_
 refine xG rfl ?_
 refine xP rfl rh rfl ?_
 refine OS.fresh rfl (e_makeMap rfl rfl rfl) (fun _=>rfl) (fun rn=>?_)
 refine OS.fresh rfl (e_makeMap rfl rfl rfl) (fun _=>rfl) (fun rw=>?_)
 iterate 2 refine xP rfl rh rfl ?_
 refine OS.write rfl (e_store 4 rfl rfl rfl rfl rfl rfl rfl rfl) rfl ?_
 refine xP rfl rh rfl ?_
 refine xN ?_
 refine xT ⟨_,res_cell2 4 rfl rfl rfl rfl rfl,?_⟩
 exact ⟨rf,rb,rn,rw,_,rfl,rfl⟩
theorem newPages_wrong {L:RL} (n:Int) (h:n < 0∨32768 < n):CS Tryz.prog 41 [.int .i64 n] L fun u L'=>∃ rn rw Y,u=.tuple #[.agg #[.pointer none,.map (some rn),.map (some rw)],.int .i64 1]/\L'=Y++L:=by
 refine CS.mk (fn:=Tryz.f41) rfl rfl rfl rfl ?_
 repeat refine xQ ?_
 refine xG rfl ?_
 refine OS.fresh rfl (e_new (fun _=>rfl) rfl) (fun _=>rfl) (fun r2=>?_)
 refine xP rfl rh rfl ?_
 refine xN ?_
 repeat refine xQ ?_
 refine xG rfl ?_
 refine xP rfl rh rfl ?_
 refine xA noGo rfl (fun _=>rfl) ((New_wrong n h).mono ?_)
 rintro u L' ⟨rfl,rfl⟩
 refine ⟨_,rfl,?_⟩
 iterate 5 refine xP rfl rh rfl ?_
 refine xN ?_
 repeat refine xQ ?_
 refine xG rfl ?_
 refine xP rfl rh rfl ?_
 refine OS.fresh rfl (e_makeMap rfl rfl rfl) (fun _=>rfl) (fun rn=>?_)
 refine OS.fresh rfl (e_makeMap rfl rfl rfl) (fun _=>rfl) (fun rw=>?_)
 iterate 2 refine xP rfl rh rfl ?_
 refine OS.write rfl (e_store 2 rfl rfl rfl rfl rfl rfl rfl rfl) rfl ?_
 refine xP rfl rh rfl ?_
 refine xN ?_
 refine xT ⟨_,res_cell2 2 rfl rfl rfl rfl rfl,?_⟩
 exact ⟨rn,rw,[_,_,_],rfl,rfl⟩
theorem tNew_ct {F:RL} (n:Nat) (hn:n<=32768):CS Tryz.prog 9 [.int .i64 (n:Nat)] F fun u L'=>∃ ro rf rb rt rn rw,u=.tuple #[ptr ro,.int .i64 0]/\TR ⟨rf,rb,rt,rn,rw,n,-1,0,m00⟩ ((ro,toRow rt)::F) [] ⟨m00,-1,0⟩ L':=by
 refine CS.mk (fn:=Tryz.f9) rfl rfl rfl rfl ?_
 repeat refine xQ ?_
 refine xG rfl ?_
 iterate 2 refine xP rfl rh rfl ?_
 refine xN ?_
 repeat refine xQ ?_
 refine xG rfl ?_
 refine xP rfl rh rfl ?_
 refine xA noGo rfl (fun _=>rfl) ((newPages_ct n hn).mono ?_)
 rintro u L' ⟨rf,rb,rn,rw,x,rfl,rfl⟩
 refine ⟨_,rfl,?_⟩
 iterate 3 refine xP rfl rh rfl ?_
 refine OS.fresh rfl (e_new (fun _=>rfl) rfl) (fun _=>rfl) (fun r4=>?_)
 refine OS.write rfl (e_store 0 rfl rfl rfl rfl rfl rfl rfl rfl) rfl ?_
 refine xP rfl rh rfl ?_
 refine xN ?_
 repeat refine xQ ?_
 refine xG rfl ?_
 iterate 2 refine xP rfl rh rfl ?_
 refine xN ?_
 repeat refine xQ ?_
 refine xC rfl (fun hc=>?_) (fun hc=>?_)
 ·cases hc
 refine LS.skip ?_
 repeat refine xQ ?_
 refine xG rfl ?_
 refine xP rfl rh rfl ?_
 refine OS.fresh rfl (e_new (fun _=>rfl) rfl) (fun _=>rfl) (fun r6=>?_)
 refine OS.write rfl (e_store 0 rfl rfl rfl rfl rfl rfl rfl rfl) rfl ?_
 refine xN ?_
 repeat refine xQ ?_
 refine xG rfl ?_
 refine xR rfl (e_load 1 rfl rfl rfl rfl rfl) rfl ?_
 refine xR rfl (e_load 0 rfl rfl rfl rfl rfl) rfl ?_
 refine xR rfl (e_load 0 rfl rfl rfl rfl rfl) rfl ?_
 refine xP rfl rh rfl ?_
 refine OS.fresh rfl (e_new (fun _=>rfl) rfl) (fun _=>rfl) (fun rt=>?_)
 refine xP rfl rh rfl ?_
 refine OS.fresh rfl (e_new (fun _=>rfl) rfl) (fun _=>rfl) (fun ro=>?_)
 iterate 2 refine xP rfl rh rfl ?_
 refine xN ?_
 refine LS.sub (Sub.sums2 ([(r6,.cells 89 [.int .i64 (-1),.int .i64 0]),(r4,.cells 85 [ptr rf,.map (some rn),.map (some rw)]),x]) (A:=HD rf rb rt rn rw (List.replicate n false) (-1) 0 (-1) 0 [] 0 [] 0 (((ro,toRow rt)::F)++[])) (B:=(ro,toRow rt)::(rt,trRow rf rn rw (-1) 0 (-1) 0)::(r6,.cells 89 [.int .i64 (-1),.int .i64 0])::(r4,.cells 85 [ptr rf,.map (some rn),.map (some rw)])::(rw,.map [] 0)::(rn,.map [] 0)::fm rf rb (List.replicate n false) (x::F)) fun f=>by simp [HD,fm]<;>omega) ?_
 refine xT ⟨_,fun _ _=>rfl,?_⟩
 exact ⟨ro,rf,rb,rt,rn,rw,rfl,_,_,_,_,_,by simp,rfl,pg_new hn⟩
theorem tNew_wrong {F:RL} (n:Int) (h:n < 0∨32768 < n):CS Tryz.prog 9 [.int .i64 n] F fun u L'=>u=.tuple #[.pointer none,.int .i64 1]/\L'=F:=by
 suffices g:CS Tryz.prog 9 [.int .i64 n] F fun u L'=>u=.tuple #[.pointer none,.int .i64 1]/\∃ Y,L'=Y++F by
  refine g.less ?_
  rintro u L' ⟨rfl,Y,rfl⟩
  exact ⟨F,Sub.suffix,rfl,rfl⟩
 refine CS.mk (fn:=Tryz.f9) rfl rfl rfl rfl ?_
 repeat refine xQ ?_
 refine xG rfl ?_
 iterate 2 refine xP rfl rh rfl ?_
 refine xN ?_
 repeat refine xQ ?_
 refine xG rfl ?_
 refine xP rfl rh rfl ?_
 refine xA noGo rfl (fun _=>rfl) ((newPages_wrong n h).mono ?_)
 rintro u L' ⟨rn,rw,Y,rfl,rfl⟩
 refine ⟨_,rfl,?_⟩
 iterate 3 refine xP rfl rh rfl ?_
 refine OS.fresh rfl (e_new (fun _=>rfl) rfl) (fun _=>rfl) (fun r4=>?_)
 refine OS.write rfl (e_store 0 rfl rfl rfl rfl rfl rfl rfl rfl) rfl ?_
 refine xP rfl rh rfl ?_
 refine xN ?_
 repeat refine xQ ?_
 refine xG rfl ?_
 iterate 2 refine xP rfl rh rfl ?_
 refine xN ?_
 repeat refine xQ ?_
 refine xC rfl (fun hc=>?_) (fun hc=>?_)
 ·repeat refine xQ ?_
  refine xG rfl ?_
  iterate 3 refine xP rfl rh rfl ?_
  refine xN ?_
  refine xT ⟨_,fun _ _=>rfl,?_⟩
  exact ⟨rfl,_::Y,rfl⟩
 ·cases hc
theorem tGet_ct {c:Cfg} {G X:RL} {s:TSt} {L:RL} {ro:Nat} {key:Tx} {P:List Pr} (htr:TR c G X s L) (ho:(ro,toRow c.rt)∈L) (hg:GoodS s.m s.root P) (hcnt:s.cnt=P.length):CS Tryz.prog 20 [ptr ro,txt key] L fun u L'=>u=getV P key/\L'=L:=by
 refine CS.mk (fn:=Tryz.f20) rfl rfl rfl rfl ?_
 repeat refine xQ ?_
 refine xG rfl ?_
 iterate 2 refine xP rfl rh rfl ?_
 refine xN ?_
 repeat refine xQ ?_
 refine xG rfl ?_
 refine xP rfl rh rfl ?_
 refine xA noGo rfl (fun _=>rfl) ((tLen_ct htr ho).mono ?_)
 rintro u L' ⟨rfl,rfl⟩
 refine ⟨_,rfl,?_⟩
 rcases hg with ⟨_,_,rfl⟩ | ⟨H,t,hw,hok,hs,hkv⟩
 ·rw [hcnt]
  refine xP rfl rh rfl ?_
  refine xN ?_
  repeat refine xQ ?_
  refine xC rfl (fun hc=>?_) (fun hc=>?_)
  ·repeat refine xQ ?_
   refine xG rfl ?_
   iterate 2 refine xP rfl rh rfl ?_
   refine xN ?_
   refine xT ⟨_,fun _ _=>rfl,?_⟩
   exact ⟨rfl,rfl⟩
  ·cases hc
 ·have hne:=kvs_ne hok
  rw [hkv] at hne
  have hpos:0 < P.length:=List.length_pos_iff.2 hne
  have hb:ieqB s.cnt 0=false:=by rw [ieqB_eq]; simp; omega
  refine xP rfl (e_ib rh (hb)) rfl ?_
  refine xN ?_
  repeat refine xQ ?_
  refine xC rfl (fun hc=>?_) (fun hc=>?_)
  ·cases hc
  refine LS.skip ?_
  repeat refine xQ ?_
  refine xG rfl ?_
  iterate 3 refine xP rfl rh rfl ?_
  refine xR rfl (e_loadm ho rfl rfl rfl rfl) rfl ?_
  refine xP rfl rh rfl ?_
  refine xA noGo rfl (fun _=>rfl) ((get_tr htr hw hok hs).mono ?_)
  rintro u L' ⟨rfl,rfl⟩
  rw [hkv]
  refine ⟨_,rfl,?_⟩
  have hv:∃ a b,getV P key=.tuple #[a,b]:=by
   unfold getV
   split <;> exact ⟨_,_,rfl⟩
  obtain ⟨a,b,hab⟩:=hv
  rw [hab]
  iterate 4 refine xP rfl rh rfl ?_
  refine xN ?_
  refine xT ⟨_,fun _ _=>rfl,?_⟩
  exact ⟨rfl,rfl⟩
def mayP (key val:Tx):Prop:=1<=key.length/\key.length<=32/\val.length<=64
def PutR (c:Cfg) (G X:RL) (s:TSt) (L:RL) (key val:Tx) (P:List Pr) (u:Value) (L':RL):Prop :=
 (¬ mayP key val/\u=.int .i64 1/\L'=L)∨(mayP key val/\frM c.N s.m < 16/\u=.int .i64 3/\L'=L) ∨
 (mayP key val/\16<=frM c.N s.m/\u=.int .i64 0/\∃ X' m' root',(∀ q,q∈X->q∈X')/\TR c G X' ⟨m',root',((putP key val P).length:Nat)⟩ L'/\GoodS m' root' (putP key val P)/\Few c.N m' (putP key val P))
set_option maxHeartbeats 1000000 in
theorem tPut_ct {c:Cfg} {G X:RL} {s:TSt} {L:RL} {ro:Nat} {key val:Tx} {P:List Pr} (htr:TR c G X s L) (ho:(ro,toRow c.rt)∈L) (hg:GoodS s.m s.root P) (hcnt:s.cnt=P.length) (hP:P.length<=100000000) (hk:key.length<=9000000000000000) (hv:val.length<=9000000000000000) :
  CS Tryz.prog 14 [ptr ro,txt key,txt val] L (PutR c G X s L key val P):=by
 refine CS.mk (fn:=Tryz.f14) rfl rfl rfl rfl ?_
 repeat refine xQ ?_
 refine xG rfl ?_
 refine xP rfl rh rfl ?_
 refine xN ?_
 repeat refine xQ ?_
 refine LS.mid [0,1,2] (fun a' L'=>L'=L/\mayP key val/\16<=frM c.N s.m/\a'=[ptr ro,txt key,txt val,jn,jn,jn,jn,jn,jn,jn,jn,jn,jn,jn,jn,jn,jn,jn,jn,jn,jn,jn,jn,jn,jn,jn,jn,jn,jn,jn,jn,jn,jn,jn,jn]) ?_ ?_
 ·refine LS.block ?_
  repeat refine xQ ?_
  refine xG rfl ?_
  refine xP rfl rh rfl ?_
  refine xA noGo rfl (fun _=>rfl) ((tnone_ct ho).mono ?_)
  rintro u L' ⟨rfl,rfl⟩
  refine ⟨_,rfl,?_⟩
  refine xP rfl rh rfl ?_
  refine xN ?_
  repeat refine xQ ?_
  refine xC rfl (fun hc=>?_) (fun hc=>?_)
  ·cases hc
  by_cases h0:key.length=0
  ·have hb:ieqB ((key.length:Nat):Int) 0=true:=by rw [h0]; rfl
   repeat refine xQ ?_
   refine xG rfl ?_
   iterate 2 refine xP rfl rh rfl ?_
   refine xP rfl (e_ib rh (hb)) rfl ?_
   refine xP rfl rh rfl ?_
   iterate 3 refine xK rfl rfl ?_
   iterate 2 refine xP rfl rh rfl ?_
   iterate 3 refine xK rfl rfl ?_
   iterate 2 refine xP rfl rh rfl ?_
   refine xN ?_
   repeat refine xQ ?_
   refine xC rfl (fun hc=>?_) (fun hc=>?_)
   ·repeat refine xQ ?_
    refine xG rfl ?_
    refine xP rfl rh rfl ?_
    refine xN ?_
    refine xT ⟨_,fun _ _=>rfl,?_⟩
    exact .inl ⟨fun h=>by have:=h.1; omega,rfl,rfl⟩
   ·cases hc
  have hb:ieqB ((key.length:Nat):Int) 0=false:=by rw [ieqB_eq]; simp; intro hh; exact h0 (by rw [hh]; rfl)
  by_cases h1:32 < key.length
  ·have hb1:(!ileB ((key.length:Nat):Int) 32)=true:=by rw [ileB_eq,decide_eq_false (by omega)]; rfl
   repeat refine xQ ?_
   refine xG rfl ?_
   iterate 2 refine xP rfl rh rfl ?_
   refine xP rfl (e_ib rh (hb)) rfl ?_
   iterate 3 refine xP rfl rh rfl ?_
   refine xP rfl (e_ib rh (hb1)) rfl ?_
   iterate 2 refine xP rfl rh rfl ?_
   iterate 3 refine xK rfl rfl ?_
   iterate 2 refine xP rfl rh rfl ?_
   refine xN ?_
   repeat refine xQ ?_
   refine xC rfl (fun hc=>?_) (fun hc=>?_)
   ·repeat refine xQ ?_
    refine xG rfl ?_
    refine xP rfl rh rfl ?_
    refine xN ?_
    refine xT ⟨_,fun _ _=>rfl,?_⟩
    exact .inl ⟨fun h=>by have:=h.2.1; omega,rfl,rfl⟩
   ·cases hc
  have hb1:(!ileB ((key.length:Nat):Int) 32)=false:=by rw [ileB_eq,decide_eq_true (by omega)]; rfl
  by_cases h2:64 < val.length
  ·have hb2:(!ileB ((val.length:Nat):Int) 64)=true:=by rw [ileB_eq,decide_eq_false (by omega)]; rfl
   repeat refine xQ ?_
   refine xG rfl ?_
   iterate 2 refine xP rfl rh rfl ?_
   refine xP rfl (e_ib rh (hb)) rfl ?_
   iterate 3 refine xP rfl rh rfl ?_
   refine xP rfl (e_ib rh (hb1)) rfl ?_
   iterate 4 refine xP rfl rh rfl ?_
   refine xP rfl (e_ib rh (hb2)) rfl ?_
   iterate 2 refine xP rfl rh rfl ?_
   refine xN ?_
   repeat refine xQ ?_
   refine xC rfl (fun hc=>?_) (fun hc=>?_)
   ·repeat refine xQ ?_
    refine xG rfl ?_
    refine xP rfl rh rfl ?_
    refine xN ?_
    refine xT ⟨_,fun _ _=>rfl,?_⟩
    exact .inl ⟨fun h=>by have:=h.2.2; omega,rfl,rfl⟩
   ·cases hc
  have hb2:(!ileB ((val.length:Nat):Int) 64)=false:=by rw [ileB_eq,decide_eq_true (by omega)]; rfl
  have hmay:mayP key val:=⟨by omega,by omega,by omega⟩
  repeat refine xQ ?_
  refine xG rfl ?_
  iterate 2 refine xP rfl rh rfl ?_
  refine xP rfl (e_ib rh (hb)) rfl ?_
  iterate 3 refine xP rfl rh rfl ?_
  refine xP rfl (e_ib rh (hb1)) rfl ?_
  iterate 4 refine xP rfl rh rfl ?_
  refine xP rfl (e_ib rh (hb2)) rfl ?_
  iterate 2 refine xP rfl rh rfl ?_
  refine xN ?_
  repeat refine xQ ?_
  refine xC rfl (fun hc=>?_) (fun hc=>?_)
  ·cases hc
  repeat refine xQ ?_
  refine xG rfl ?_
  refine xP rfl rh rfl ?_
  refine xA noGo rfl (fun _=>rfl) ((tFree_ct htr ho).mono ?_)
  rintro u L' ⟨rfl,rfl⟩
  refine ⟨_,rfl,?_⟩
  by_cases h3:frM c.N s.m < 16
  ·have hb3:(!ileB 16 ((frM c.N s.m:Nat):Int))=true:=by rw [ileB_eq,decide_eq_false (by omega)]; rfl
   refine xP rfl (e_ib rh (hb3)) rfl ?_
   refine xP rfl rh rfl ?_
   refine xN ?_
   repeat refine xQ ?_
   refine xC rfl (fun hc=>?_) (fun hc=>?_)
   ·repeat refine xQ ?_
    refine xG rfl ?_
    refine xP rfl rh rfl ?_
    refine xN ?_
    refine xT ⟨_,fun _ _=>rfl,?_⟩
    exact .inr (.inl ⟨hmay,h3,rfl,rfl⟩)
   ·cases hc
  ·have hb3:(!ileB 16 ((frM c.N s.m:Nat):Int))=false:=by rw [ileB_eq,decide_eq_true (by omega)]; rfl
   refine xP rfl (e_ib rh (hb3)) rfl ?_
   refine xP rfl rh rfl ?_
   refine xN ?_
   repeat refine xQ ?_
   refine xC rfl (fun hc=>?_) (fun hc=>?_)
   ·cases hc
   refine LS.skip ?_
   exact ⟨rfl,hmay,by omega,rfl⟩
 rintro a' L1 ⟨rfl,hmay,hfr,rfl⟩
 repeat refine xQ ?_
 refine xG rfl ?_
 iterate 3 refine xP rfl rh rfl ?_
 refine xR rfl (e_loadm ho rfl rfl rfl rfl) rfl ?_
 iterate 2 refine xP rfl rh rfl ?_
 refine xA noGo rfl (fun _=>rfl) ((put_tr htr hg hcnt hfr hmay.1 hmay.2.1 hmay.2.2 hP).mono ?_)
 rintro u L' h
 refine ⟨_,rfl,?_⟩
 refine xN ?_
 repeat refine xQ ?_
 refine xG rfl ?_
 refine xP rfl rh rfl ?_
 refine xN ?_
 refine xT ⟨_,fun _ _=>rfl,?_⟩
 exact .inr (.inr ⟨hmay,hfr,rfl,h⟩)
def DelR (c:Cfg) (G X:RL) (s:TSt) (L:RL) (key:Tx) (P:List Pr) (u:Value) (L':RL):Prop :=
 (getP P key=none/\u=.int .i64 5/\L'=L)∨(getP P key≠none/\u=.int .i64 0/\∃ X' m' root',(∀ q,q∈X->q∈X')/\TR c G X' ⟨m',root',((delP key P).length:Nat)⟩ L'/\GoodS m' root' (delP key P)/\Few c.N m' (delP key P))
theorem tDel_ct {c:Cfg} {G X:RL} {s:TSt} {L:RL} {ro:Nat} {key:Tx} {P:List Pr} (htr:TR c G X s L) (ho:(ro,toRow c.rt)∈L) (hg:GoodS s.m s.root P) (hcnt:s.cnt=P.length) (hP:P.length<=100000000) :
  CS Tryz.prog 15 [ptr ro,txt key] L (DelR c G X s L key P):=by
 refine CS.mk (fn:=Tryz.f15) rfl rfl rfl rfl ?_
 repeat refine xQ ?_
 refine xG rfl ?_
 refine xP rfl rh rfl ?_
 refine xN ?_
 repeat refine xQ ?_
 refine xG rfl ?_
 refine xP rfl rh rfl ?_
 refine xA noGo rfl (fun _=>rfl) ((tnone_ct ho).mono ?_)
 rintro u L' ⟨rfl,rfl⟩
 refine ⟨_,rfl,?_⟩
 refine xN ?_
 repeat refine xQ ?_
 refine xC rfl (fun hc=>?_) (fun hc=>?_)
 ·cases hc
 refine LS.skip ?_
 repeat refine xQ ?_
 refine xG rfl ?_
 iterate 2 refine xP rfl rh rfl ?_
 refine xA noGo rfl (fun _=>rfl) ((tGet_ct htr ho hg hcnt).mono ?_)
 rintro u L' ⟨rfl,rfl⟩
 refine ⟨_,rfl,?_⟩
 cases hgk:getP P key with
 | none =>
  have hv:getV P key=.tuple #[txt [],.bool false]:=by unfold getV; rw [hgk]
  rw [hv]
  iterate 5 refine xP rfl rh rfl ?_
  refine xN ?_
  repeat refine xQ ?_
  refine xG rfl ?_
  iterate 2 refine xP rfl rh rfl ?_
  refine xN ?_
  repeat refine xQ ?_
  refine xC rfl (fun hc=>?_) (fun hc=>?_)
  ·repeat refine xQ ?_
   refine xG rfl ?_
   refine xP rfl rh rfl ?_
   refine xN ?_
   refine xT ⟨_,fun _ _=>rfl,?_⟩
   exact .inl ⟨hgk,rfl,rfl⟩
  ·cases hc
 | some v =>
  have hv:getV P key=.tuple #[txt v,.bool true]:=by unfold getV; rw [hgk]
  rw [hv]
  iterate 5 refine xP rfl rh rfl ?_
  refine xN ?_
  repeat refine xQ ?_
  refine xG rfl ?_
  iterate 2 refine xP rfl rh rfl ?_
  refine xN ?_
  repeat refine xQ ?_
  refine xC rfl (fun hc=>?_) (fun hc=>?_)
  ·cases hc
  refine LS.skip ?_
  repeat refine xQ ?_
  refine xG rfl ?_
  iterate 3 refine xP rfl rh rfl ?_
  refine xR rfl (e_loadm ho rfl rfl rfl rfl) rfl ?_
  refine xP rfl rh rfl ?_
  refine xA noGo rfl (fun _=>rfl) ((del_tr htr hg hcnt hP (by rw [hgk]; simp)).mono ?_)
  rintro u L' h
  refine ⟨_,rfl,?_⟩
  refine xN ?_
  repeat refine xQ ?_
  refine xG rfl ?_
  refine xP rfl rh rfl ?_
  refine xN ?_
  refine xT ⟨_,fun _ _=>rfl,?_⟩
  exact .inr ⟨by rw [hgk]; simp,rfl,h⟩
end Go.Proofs.YtlmmddfhoabjfaaGreat
end
section
namespace Go.Proofs.YtlmmddfhoabjfaaGreat
open Go.Am
def belT (k to:Tx):Bool:=decide (to=[]) || bytesLt k to
def inR (fr to:Tx) (p:Pr):Bool:=leT fr p.1 && belT p.1 to
def rngP (fr to:Tx) (P:List Pr):List Pr:=P.filter (inR fr to)
section
variable {fr to:Tx} {A B P:List Pr}
theorem rng_app:rngP fr to (A++B)=rngP fr to A++rngP fr to B:=List.filter_append ..
theorem rng_lt (h:AllLt fr P):rngP fr to P=[]:=filt_none fun p hp=>by
 have:leT fr p.1=false:=nle_iff.2 (h p hp)
 unfold inR; rw [this]; rfl
theorem bel_le {k k':Tx} (h:leT k k'=true) (hb:belT k to=false):belT k' to=false:=by
 unfold belT at hb ⊢
 rw [Bool.or_eq_false_iff] at hb ⊢
 refine ⟨hb.1,?_⟩
 have h1:=nlt_iff.1 hb.2
 cases h2:bytesLt k' to with
 | false=>rfl
 | true =>
  have h3:=lt_le h2 h1
  have h4:=nle_iff.2 h3
  rw [h] at h4; cases h4
theorem rng_ge {k:Tx} (h:∀ p∈P,leT k p.1=true) (hb:belT k to=false):rngP fr to P=[]:=filt_none fun p hp=>by
 unfold inR; rw [bel_le (h p hp) hb,Bool.and_false]
end
theorem leaf_rng {fr to:Tx} {ks vs:List Tx} {i:Nat} (hr:rise [] ks=true) (hl:vs.length=ks.length) (h1:belowN fr ks<=i) (h2:i<=ks.length) (hin:∀ j k,belowN fr ks<=j->j < i->ks[j]?=some k->belT k to=true) (hout:∀ k,ks[i]?=some k->belT k to=false) :
  rngP fr to (ks.zip vs)=((ks.zip vs).drop (belowN fr ks)).take (i - belowN fr ks):=by
 have hz:(ks.zip vs).length=ks.length:=by rw [List.length_zip]; omega
 have hget:∀ (j:Nat) (p:Pr),(ks.zip vs)[j]?=some p->ks[j]?=some p.1:=fun j p hp=>by
  obtain ⟨hj,rfl⟩:=List.getElem?_eq_some_iff.1 hp
  rw [List.getElem_zip]
  exact List.getElem?_eq_getElem (by omega)
 have e:ks.zip vs=(ks.zip vs).take (belowN fr ks)++(((ks.zip vs).drop (belowN fr ks)).take (i - belowN fr ks)++(ks.zip vs).drop i):=by
  have e1:(ks.zip vs).drop i=((ks.zip vs).drop (belowN fr ks)).drop (i - belowN fr ks):=by rw [List.drop_drop]; congr 1; omega
  rw [e1,List.take_append_drop,List.take_append_drop]
 conv=>lhs; rw [e,rng_app,rng_app]
 have a1:rngP fr to ((ks.zip vs).take (belowN fr ks))=[]:=rng_lt fun p hp=>by
  obtain ⟨j,hj,rfl⟩:=List.getElem_of_mem hp
  rw [List.length_take] at hj
  rw [List.getElem_take]
  exact below_lt (i:=j) (by omega) (hget j _ (List.getElem?_eq_getElem (by omega)))
 have a2:rngP fr to (((ks.zip vs).drop (belowN fr ks)).take (i - belowN fr ks))=((ks.zip vs).drop (belowN fr ks)).take (i - belowN fr ks):=filt_all fun p hp=>by
  obtain ⟨j,hj,rfl⟩:=List.getElem_of_mem hp
  rw [List.length_take,List.length_drop] at hj
  rw [List.getElem_take,List.getElem_drop]
  have hg:=hget (belowN fr ks+j) _ (List.getElem?_eq_getElem (by omega))
  unfold inR
  rw [hin _ _ (by omega) (by omega) hg,Bool.and_true]
  have:=below_iff (key:=fr) hr hg
  rw [decide_eq_false (by omega)] at this
  exact nlt_iff.1 this
 have a3:rngP fr to ((ks.zip vs).drop i)=[]:=by
  by_cases hi:i < ks.length
  ·have hk:=List.getElem?_eq_getElem hi
   refine rng_ge (k:=ks[i]) (fun p hp=>?_) (hout _ hk)
   obtain ⟨j,hj,rfl⟩:=List.getElem_of_mem hp
   rw [List.length_drop] at hj
   rw [List.getElem_drop]
   have hg:=hget (i+j) _ (List.getElem?_eq_getElem (by omega))
   by_cases hj0:j=0
   ·subst hj0
    simp only [Nat.add_zero] at hg ⊢
    rw [hk] at hg
    rw [leT_iff]; right; exact Option.some.inj hg
   ·rw [leT_iff]; left; exact rise_after hr hk hg (by omega)
  ·rw [List.drop_eq_nil_of_le (by omega)]; rfl
 rw [a1,a2,a3]; simp
theorem kvs_pre:∀ {A:List Tx} {L:List (List It)},A.length=L.length->kvs (preI A L)=(L.map kvs).flatten
 | [],[],_=>rfl
 | [],_::_,h=>by simp at h
 | _::_,[],h=>by simp at h
 | a::A,l::L,h=>by
  have:=kvs_pre (A:=A) (L:=L) (by simpa using h)
  simp only [preI,kvs_app,kvs_cons_S,this,List.map_cons,List.flatten_cons]
def kk {h:Nat} (ts:List (Tr h)):List Pr:=(ts.map fun t=>kvs (sq h t)).flatten
theorem kk_app {h:Nat} {a b:List (Tr h)}:kk (a++b)=kk a++kk b:=by simp [kk]
theorem kk_inn {h p:Nat} {ks:List Tx} {ts:List (Tr h)} (hl:ts.length=ks.length+1):kvs (sq (h+1) (inn p ks ts))=kk ts:=by
 rw [sq_inn,kvs_wv (by rw [List.length_map]; exact hl),List.map_map]; rfl
theorem kk_take {h:Nat} {ts:List (Tr h)} {f q:Nat} (hf:f<=q):kk ts=kk (ts.take f)++(kk ((ts.drop f).take (q - f))++kk (ts.drop q)):=by
 have e1:ts.drop q=(ts.drop f).drop (q - f):=by rw [List.drop_drop]; congr 1; omega
 rw [e1,← kk_app,List.take_append_drop,← kk_app,List.take_append_drop]
theorem inn_rng {fr to:Tx} {h p q:Nat} {ks:List Tx} {ts:List (Tr h)} (hs:Srt (sq (h+1) (inn p ks ts))) (hl:ts.length=ks.length+1) (hr:rise [] ks=true) (h1:upto fr ks < q) (h2:q<=ts.length) (hout:∀ k,ks[q - 1]?=some k->q < ts.length->belT k to=false) :
  rngP fr to (kvs (sq (h+1) (inn p ks ts)))=rngP fr to (kk ((ts.drop (upto fr ks)).take (q - upto fr ks))):=by
 have hf:=upto_le (key:=fr) (ks:=ks)
 rw [kk_inn hl,kk_take (f:=upto fr ks) (q:=q) (by omega),rng_app,rng_app]
 have a1:rngP fr to (kk (ts.take (upto fr ks)))=[]:=by
  have hlt:(ks.take (upto fr ks)).length=(ts.take (upto fr ks)).length:=by rw [List.length_take,List.length_take]; omega
  have hlt':(ks.take (upto fr ks)).length=((ts.take (upto fr ks)).map (sq h)).length:=by rw [List.length_map]; exact hlt
  refine rng_lt fun x hx=>?_
  have hks:ks=ks.take (upto fr ks)++ks.drop (upto fr ks):=(List.take_append_drop _ _).symm
  have hts:ts=ts.take (upto fr ks)++ts[upto fr ks]'(by omega)::ts.drop (upto fr ks+1):=by simp
  have hsq:=sq_at (p:=p) (A:=ks.take (upto fr ks)) (B:=ks.drop (upto fr ks)) (L:=ts.take (upto fr ks)) (R:=ts.drop (upto fr ks+1)) (u:=ts[upto fr ks]'(by omega)) hlt
  rw [← hks,← hts] at hsq
  rw [hsq] at hs
  have hx':x∈kvs (preI (ks.take (upto fr ks)) ((ts.take (upto fr ks)).map (sq h))):=by
   rw [kvs_pre hlt',List.map_map]; exact hx
  exact pre_bef hlt' (upto_before hr) hs _ (kvs_mem hx')
 have a3:rngP fr to (kk (ts.drop q))=[]:=by
  by_cases hq:q < ts.length
  ·have hk:ks[q - 1]?=some (ks[q - 1]'(by omega)):=List.getElem?_eq_getElem (by omega)
   refine rng_ge (k:=ks[q - 1]'(by omega)) (fun x hx=>?_) (hout _ hk hq)
   have hks:ks=ks.take (q - 1)++ks[q - 1]'(by omega)::ks.drop q:=by
    conv=>lhs; rw [← List.take_append_drop (q - 1) ks,List.drop_eq_getElem_cons (by omega)]
    rw [show q - 1+1=q by omega]
   have hlt:((ts.take q).map (sq h)).length=(ks.take (q - 1)).length+1:=by rw [List.length_map,List.length_take,List.length_take]; omega
   have hne:(ts.drop q).map (sq h)≠[]:=by
    intro hh
    have:=congrArg List.length hh
    simp at this; omega
   have hsq:sq (h+1) (inn p ks ts)=wv (ks.take (q - 1)) ((ts.take q).map (sq h))++It.S (ks[q - 1]'(by omega))::wv (ks.drop q) ((ts.drop q).map (sq h)):=by
    rw [← wv_join hlt hne,← hks,← List.map_append,List.take_append_drop]; rfl
   rw [hsq] at hs
   have h3:=(List.pairwise_cons.1 (List.pairwise_append.1 hs).2.1).1
   have hx':x∈kvs (wv (ks.drop q) ((ts.drop q).map (sq h))):=by
    rw [kvs_wv (by rw [List.length_map,List.length_drop,List.length_drop]; omega),List.map_map]; exact hx
   exact h3 _ (kvs_mem hx')
  ·rw [List.drop_eq_nil_of_le (by omega)]; rfl
 rw [a1,a3]; simp
end Go.Proofs.YtlmmddfhoabjfaaGreat
end
section
namespace Go.Proofs.YtlmmddfhoabjfaaGreat
open Go.Am
theorem below_ct {L:RL} {k to:Tx}:CS Tryz.prog 86 [txt k,txt to] L fun u L'=>u=.bool (belT k to)/\L'=L:=by
 refine CS.mk (fn:=Tryz.f86) rfl rfl rfl rfl ?_
 repeat refine xQ ?_
 refine xG rfl ?_
 refine xP rfl rh rfl ?_
 refine xN ?_
 by_cases h:to=[]
 ·subst h
  repeat refine xQ ?_
  refine xG rfl ?_
  iterate 3 refine xP rfl rh rfl ?_
  iterate 3 refine xK rfl rfl ?_
  iterate 2 refine xP rfl rh rfl ?_
  refine xN ?_
  refine xT ⟨_,fun _ _=>rfl,?_⟩
  exact ⟨rfl,rfl⟩
 ·have hb:bytesEq to []=false:=by rw [beqT,decide_eq_false h]
  repeat refine xQ ?_
  refine xG rfl ?_
  refine xP rfl rh rfl ?_
  refine xP rfl (e_ib rh (hb)) rfl ?_
  iterate 6 refine xP rfl rh rfl ?_
  refine xN ?_
  refine xT ⟨_,fun _ _=>rfl,?_⟩
  refine ⟨?_,rfl⟩
  unfold belT
  rw [decide_eq_false h]; rfl
def prC (P:List Pr):List Value:=P.flatMap fun p=>[txt p.1,txt p.2]
theorem prC_app (a b:List Pr):prC (a++b)=prC a++prC b:=by simp [prC]
def PairsP (h:Nat):Prop:=∀ (c:Cfg) (G X:RL) (s:TSt) (rows:RL) (t:Tr h) (fr to:Tx) (v:Value) (P0:List Pr) (Y:RL),TR c G X s rows->RepT s.m h t->Okt h t->Srt (sq h t)->GV 78 2 [] v P0.length (prC P0) Y->P0.length+(kvs (sq h t)).length<=200000000 →
 CS Tryz.prog 54 [ptr c.rt,v,.int .i64 (no h t:Nat),txt fr,txt to] (Y++rows) fun u L'=>∃ Y',L'=Y'++rows/\GV 78 2 [] u (P0++rngP fr to (kvs (sq h t))).length (prC (P0++rngP fr to (kvs (sq h t)))) Y'
set_option maxHeartbeats 4000000 in
theorem pairs_0:PairsP 0:=by
 intro c G X s rows t fr to v P0 Y htr hrep hok hs hv hsz
 obtain ⟨p,ks,vs,rfl⟩:=lf_eta t
 have hmt:=hrep.top
 have st:=htr.sm _ _ hmt
 have hvl:=hok.vs
 have hfl:=hok.fits
 have hmay:=fits_may hfl
 have hrise:=mayN_rise hmay
 obtain ⟨T,es,ck,ws,wk,g,rfl,hN,hp,hgm,hmr⟩:=htr.now
 obtain ⟨ra,hga,va1,va2,va3,hra,hPa⟩:=(hmr _).2 _ hmt
 have ega:(g p).getD (.pointer none)=ptr ra:=by have:=hga; simp only [no_lf] at this; rw [this]; rfl
 have mrt:∀ Y:RL,(c.rt,trRow c.rf c.rn c.rw s.root s.cnt c.root0 c.cnt0)∈Y++HD c.rf c.rb c.rt c.rn c.rw T s.root s.cnt c.root0 c.cnt0 es ck ws wk (G++X):=fun Y=>by simp
 have mmap:∀ Y:RL,(c.rn,ARow.map es ck)∈Y++HD c.rf c.rb c.rt c.rn c.rw T s.root s.cnt c.root0 c.cnt0 es ck ws wk (G++X):=fun Y=>by simp
 have hXY:∀ (Y:RL) q,q∈X->q∈Y++HD c.rf c.rb c.rt c.rn c.rw T s.root s.cnt c.root0 c.cnt0 es ck ws wk (G++X):=fun Y q hq=>List.mem_append_right Y (htr.mem q hq)
 have ma:∀ Y:RL,(ra,ndRow true va1 va2 va3)∈Y++HD c.rf c.rb c.rt c.rn c.rw T s.root s.cnt c.root0 c.cnt0 es ck ws wk (G++X):=fun Y=>hXY Y _ hra
 have Na:∀ Y:RL,NV (Y++HD c.rf c.rb c.rt c.rn c.rw T s.root s.cnt c.root0 c.cnt0 es ck ws wk (G++X)) ⟨true,ks,vs,[]⟩ va1 va2 va3:=fun Y=>hPa.nv st (hXY Y)
 have e1:=st.k
 simp only [nd_lf] at e1 hmay hrise hfl
 have hle:=below_le fr ks
 have hkv:kvs (sq 0 (lf p ks vs))=ks.zip vs:=by rw [sq_lf,kvs_zip]
 rw [hkv] at hsz ⊢
 have hzl:(ks.zip vs).length=ks.length:=by rw [List.length_zip]; omega
 refine CS.mk (fn:=Tryz.f54) rfl rfl rfl rfl ?_
 repeat refine xQ ?_
 refine xG rfl ?_
 refine xP rfl rh rfl ?_
 refine xN ?_
 repeat refine xQ ?_
 refine xG rfl ?_
 iterate 4 refine xP rfl rh rfl ?_
 refine xR rfl (e_loadm (mrt Y) rfl rfl rfl rfl) rfl ?_
 refine xP rfl rh rfl ?_
 refine xR rfl (e_get hgm (mmap Y) rfl rfl rfl rfl (fun _=>rfl) rfl) rfl ?_
 simp only [no_lf]
 rw [ega]
 refine xP rfl rh rfl ?_
 refine xN ?_
 repeat refine xQ ?_
 refine xG rfl ?_
 iterate 3 refine xP rfl rh rfl ?_
 refine xR rfl (e_loadm (ma Y) rfl rfl rfl rfl) rfl ?_
 refine xN ?_
 repeat refine xQ ?_
 refine xC rfl (fun hc=>?_) (fun hc=>?_)
 ·repeat refine xQ ?_
  refine xG rfl ?_
  iterate 2 refine xP rfl rh rfl ?_
  refine xR rfl (e_loadm (ma Y) rfl rfl rfl rfl) rfl ?_
  refine xP rfl rh rfl ?_
  refine xA noGo rfl (fun _=>rfl) ((Find_ct (Na Y) (by simp only; omega)).mono ?_)
  rintro u L' ⟨rfl,rfl⟩
  refine ⟨_,rfl,?_⟩
  rw [find_at hmay]
  simp only
  iterate 5 refine xP rfl rh rfl ?_
  refine xN ?_
  repeat refine xQ ?_
  refine LS.mid [1] (fun a' L'=>∃ Y' v',L'=Y'++HD c.rf c.rb c.rt c.rn c.rw T s.root s.cnt c.root0 c.cnt0 es ck ws wk (G++X)/\GV 78 2 [] v' (P0++rngP fr to (ks.zip vs)).length (prC (P0++rngP fr to (ks.zip vs))) Y'/\a'=[jn,v',jn,jn,jn,jn,jn,jn,jn,jn,jn,jn,jn,jn,jn,jn,jn,jn,jn,jn,jn,jn,jn,jn,jn,jn,jn,jn,jn,jn,jn,jn,jn,jn,jn,jn,jn,jn,jn,jn,jn,jn,jn,jn,jn,jn,jn,jn,jn,jn,jn,jn,jn,jn,jn,jn,jn,jn,jn,jn,jn,jn,jn,jn,jn,jn,jn,jn,jn,jn,jn,jn,jn,jn,jn,jn,jn,jn,jn,jn,jn,jn,jn,jn,jn,jn,jn,jn,jn,jn,jn,jn,jn,jn,jn,jn,jn,jn,jn,jn,jn,jn,jn,jn,jn,jn,jn,jn,jn,jn,jn,jn,jn,jn,jn]) ?_ ?_
  ·refine LS.block ?_
   refine LS.loopJ [1,4,11,12] (fun z a' L'=>∃ (i:Nat) (Y':RL) (v':Value),z=ks.length - i/\belowN fr ks<=i/\i<=ks.length/\(∀ j k,belowN fr ks<=j->j < i->ks[j]?=some k->belT k to=true)/\L'=Y'++HD c.rf c.rb c.rt c.rn c.rw T s.root s.cnt c.root0 c.cnt0 es ck ws wk (G++X) /\
    GV 78 2 [] v' (P0++((ks.zip vs).drop (belowN fr ks)).take (i - belowN fr ks)).length (prC (P0++((ks.zip vs).drop (belowN fr ks)).take (i - belowN fr ks))) Y'/\a'=[jn,v',jn,jn,txt to,jn,jn,jn,jn,jn,jn,ptr ra,.int .i64 (i:Nat),jn,jn,jn,jn,jn,jn,jn,jn,jn,jn,jn,jn,jn,jn,jn,jn,jn,jn,jn,jn,jn,jn,jn,jn,jn,jn,jn,jn,jn,jn,jn,jn,jn,jn,jn,jn,jn,jn,jn,jn,jn,jn,jn,jn,jn,jn,jn,jn,jn,jn,jn,jn,jn,jn,jn,jn,jn,jn,jn,jn,jn,jn,jn,jn,jn,jn,jn,jn,jn,jn,jn,jn,jn,jn,jn,jn,jn,jn,jn,jn,jn,jn,jn,jn,jn,jn,jn,jn,jn,jn,jn,jn,jn,jn,jn,jn,jn,jn,jn,jn,jn,jn]) (n:=ks.length - belowN fr ks) rfl ⟨belowN fr ks,Y,v,rfl,Nat.le_refl _,hle,fun j k h1 h2=>by omega,rfl,by simpa using hv,rfl⟩ ?_
   rintro z a' L' ⟨i,Y',v',rfl,h1,h2,hin,rfl,hv',rfl⟩
   by_cases hi:i < ks.length
   ·have hb:(!ileB ((ks.length:Nat):Int) ((i:Nat):Int))=true:=by rw [ileB_eq,decide_eq_false (by omega)]; rfl
    repeat refine xQ ?_
    refine xG rfl ?_
    iterate 4 refine xP rfl rh rfl ?_
    refine xR rfl (e_loadm (ma Y') rfl rfl rfl rfl) rfl ?_
    refine xP rfl (e_len (Na Y').k rfl rfl rfl rfl rfl) rfl ?_
    refine xP rfl (e_ib rh (hb)) rfl ?_
    iterate 4 refine xP rfl rh rfl ?_
    refine xR rfl (e_loadm (ma Y') rfl rfl rfl rfl) rfl ?_
    refine xP rfl rh rfl ?_
    refine OS.at1 (j:=i) ((Na Y').k) (tx_at hi) rfl rfl rfl rfl rfl rfl (fun ra0 oa0 rowa0 csa0 ma0 ca0 ga0=>⟨_,rfl,?_⟩)
    refine xR rfl (e_loadm ma0 ca0 rfl rfl (part_one rfl ga0)) rfl ?_
    refine xP rfl rh rfl ?_
    refine xA noGo rfl (fun _=>rfl) ((below_ct).mono ?_)
    rintro u L' ⟨rfl,rfl⟩
    refine ⟨_,rfl,?_⟩
    refine xP rfl rh rfl ?_
    refine xN ?_
    cases hbel:belT ks[i] to with
    | false =>
     repeat refine xQ ?_
     refine xC rfl (fun hc2=>?_) (fun hc2=>?_)
     ·cases hc2
     refine LS.exit ?_
     refine ⟨Y',v',rfl,?_,rfl⟩
     rw [leaf_rng hrise hvl h1 h2 hin (fun k hk=>by rw [List.getElem?_eq_getElem hi] at hk; cases hk; exact hbel)]
     exact hv'
    | true =>
     repeat refine xQ ?_
     refine xC rfl (fun hc2=>?_) (fun hc2=>?_)
     ·refine LS.skip ?_
      repeat refine xQ ?_
      refine LS.block ?_
      repeat refine xQ ?_
      refine LS.drawn noGo mixed [(0,false),(1,false),(2,false),(3,false),(4,false),(5,false),(6,false),(7,false),(8,false),(9,false),(10,false),(11,false),(12,false),(13,false),(14,false),(15,false),(16,true),(17,true),(18,false)] rfl rfl (by kernel_rfl) ?_
      iterate 4 refine xD rfl rfl rh rfl ?_
      refine xE rfl rfl (e_loadm (ma Y') rfl rfl rfl rfl) rfl ?_
      refine xD rfl rfl rh rfl ?_
      refine ODS.at1 (j:=i) ((Na Y').k) (tx_at hi) rfl rfl rfl rfl rfl rfl rfl (fun ra1 oa1 rowa1 csa1 ma1 ca1 ga1=>⟨_,rfl,?_⟩)
      refine xE rfl rfl (e_loadm ma1 ca1 rfl rfl (part_one rfl ga1)) rfl ?_
      iterate 3 refine xD rfl rfl rh rfl ?_
      refine xE rfl rfl (e_loadm (ma Y') rfl rfl rfl rfl) rfl ?_
      refine xD rfl rfl rh rfl ?_
      refine ODS.at1 (j:=i) ((Na Y').v) (tx_at (show i < vs.length by omega)) rfl rfl rfl rfl rfl rfl rfl (fun ra2 oa2 rowa2 csa2 ma2 ca2 ga2=>⟨_,rfl,?_⟩)
      refine xE rfl rfl (e_loadm ma2 ca2 rfl rfl (part_one rfl ga2)) rfl ?_
      refine xD rfl rfl rh rfl ?_
      refine ODS.fresh rfl rfl (e_new (fun _=>rfl) rfl) (fun _=>rfl) (fun rv=>(by repeat (first | exact Keep.nil | refine Keep.gone rfl ?_))) (fun rz=>?_)
      refine ODS.turns rfl rfl (e_appendGA [(rz,.cells 78 [txt ks[i],txt (vs[i]'(by omega))])] (HD c.rf c.rb c.rt c.rn c.rw T s.root s.cnt c.root0 c.cnt0 es ck ws wk (G++X)) (e:=78) (sz:=2) (bts:=32) (m:=1) (new:=prC [(ks[i],vs[i]'(by omega))]) hv' (SV.row (sz:=2) (n:=1) (List.mem_cons_self ..) rfl) rfl rfl rfl rfl (by simp only [List.length_append,List.length_take,List.length_drop]; omega) (by simp only [List.length_append,List.length_take,List.length_drop]; omega)) (fun w L₁ hR=>?_)
      obtain ⟨Y2,g2,rfl⟩:=hR
      refine ⟨_,rfl,(by repeat (first | exact Keep.nil | refine Keep.gone rfl ?_)),?_⟩
      refine ODS.sub (Sub.sums2 ([(rz,.cells 78 [txt ks[i],txt (vs[i]'(by omega))])]) (A:=Y2++HD c.rf c.rb c.rt c.rn c.rw T s.root s.cnt c.root0 c.cnt0 es ck ws wk (G++X)) (B:=Y2++([(rz,.cells 78 [txt ks[i],txt (vs[i]'(by omega))])]++HD c.rf c.rb c.rt c.rn c.rw T s.root s.cnt c.root0 c.cnt0 es ck ws wk (G++X))) fun f=>by simp [HD,fm]<;>omega) ?_
      refine xD rfl rfl rh rfl ?_
      refine xM ?_
      repeat refine xQ ?_
      refine xG rfl ?_
      refine xP rfl rh rfl ?_
      refine xP rfl (e_addN (n:=1) rfl rfl rfl (in_i64 (by omega) (by omega))) rfl ?_
      refine xP rfl rh rfl ?_
      refine xN ?_
      have htk:((ks.zip vs).drop (belowN fr ks)).take (i+1 - belowN fr ks)=((ks.zip vs).drop (belowN fr ks)).take (i - belowN fr ks)++[(ks[i],vs[i]'(by omega))]:=by
       rw [show i+1 - belowN fr ks=(i - belowN fr ks)+1 by omega,List.take_succ_eq_append_getElem (by rw [List.length_drop]; omega),List.getElem_drop]
       congr 1
       simp only [show belowN fr ks+(i - belowN fr ks)=i by omega,List.getElem_zip]
      refine ⟨ks.length - (i+1),by omega,i+1,Y2,w,rfl,by omega,by omega,fun j k h3 h4 hk=>?_,rfl,?_,rfl⟩
      ·by_cases hji:j=i
       ·subst hji
        rw [List.getElem?_eq_getElem hi] at hk; cases hk; exact hbel
       ·exact hin j k h3 (by omega) hk
      ·rw [htk]
       clear htk hv'
       generalize ((ks.zip vs).drop (belowN fr ks)).take (i - belowN fr ks)=A at g2 ⊢
       have hl2:(P0++(A++[(ks[i],vs[i]'(by omega))])).length=(P0++A).length+1:=by simp; omega
       rw [hl2,← List.append_assoc,prC_app]
       exact g2
     ·cases hc2
   ·have hb:(!ileB ((ks.length:Nat):Int) ((i:Nat):Int))=false:=by rw [ileB_eq,decide_eq_true (by omega)]; rfl
    repeat refine xQ ?_
    refine xG rfl ?_
    iterate 4 refine xP rfl rh rfl ?_
    refine xR rfl (e_loadm (ma Y') rfl rfl rfl rfl) rfl ?_
    refine xP rfl (e_len (Na Y').k rfl rfl rfl rfl rfl) rfl ?_
    refine xP rfl (e_ib rh (hb)) rfl ?_
    refine xP rfl rh rfl ?_
    iterate 9 refine xK rfl rfl ?_
    refine xP rfl rh rfl ?_
    refine xN ?_
    repeat refine xQ ?_
    refine xC rfl (fun hc2=>?_) (fun hc2=>?_)
    ·cases hc2
    refine LS.exit ?_
    refine ⟨Y',v',rfl,?_,rfl⟩
    rw [leaf_rng hrise hvl h1 h2 hin (fun k hk=>by rw [List.getElem?_eq_none (by omega)] at hk; cases hk)]
    exact hv'
  rintro a' L' ⟨Y',v',rfl,hv',rfl⟩
  repeat refine xQ ?_
  refine xG rfl ?_
  iterate 2 refine xP rfl rh rfl ?_
  refine xN ?_
  refine xT ⟨_,fun _ _=>rfl,?_⟩
  exact ⟨Y',rfl,hv'⟩
 ·cases hc
end Go.Proofs.YtlmmddfhoabjfaaGreat
end
section
namespace Go.Proofs.YtlmmddfhoabjfaaGreat
open Go.Am
set_option maxHeartbeats 4000000 in
theorem pairs_s {h:Nat} (ih:PairsP h):PairsP (h+1):=by
 intro c G X s rows t fr to v P0 Y htr hrep hok hs hv hsz
 have htr0:=htr
 obtain ⟨p,ks,ts,rfl⟩:=inn_eta t
 have hmt:=hrep.top
 have st:=htr.sm _ _ hmt
 have hlen:=hok.len
 have hmay:=fits_may hok.fits
 have hup:=upto_le (key:=fr) (ks:=ks)
 have hrise:=(may_iff.1 hmay).1
 have ek:=st.k
 obtain ⟨T,es,ck,ws,wk,g,rfl,hN,hp,hgm,hmr⟩:=htr.now
 obtain ⟨ra,hga,va1,va2,va3,hra,hPa⟩:=(hmr _).2 _ hmt
 have ega:(g p).getD (.pointer none)=ptr ra:=by have:=hga; simp only [no_inn] at this; rw [this]; rfl
 simp only [nd_inn] at hra hPa hmay hrise ek st
 generalize hrows:HD c.rf c.rb c.rt c.rn c.rw T s.root s.cnt c.root0 c.cnt0 es ck ws wk (G++X)=rows at htr htr0
 have mrt:∀ Y:RL,(c.rt,trRow c.rf c.rn c.rw s.root s.cnt c.root0 c.cnt0)∈Y++rows:=fun Y=>by rw [← hrows]; simp
 have mmap:∀ Y:RL,(c.rn,ARow.map es ck)∈Y++rows:=fun Y=>by rw [← hrows]; simp
 have hXY:∀ (Y:RL) q,q∈X->q∈Y++rows:=fun Y q hq=>List.mem_append_right Y (htr.mem q hq)
 have ma:∀ Y:RL,(ra,ndRow false va1 va2 va3)∈Y++rows:=fun Y=>hXY Y _ hra
 have Na:∀ Y:RL,NV (Y++rows) ⟨false,ks,[],nos ts⟩ va1 va2 va3:=fun Y=>hPa.nv st (hXY Y)
 have hnl:=nos_len ts
 refine CS.mk (fn:=Tryz.f54) rfl rfl rfl rfl ?_
 repeat refine xQ ?_
 refine xG rfl ?_
 refine xP rfl rh rfl ?_
 refine xN ?_
 repeat refine xQ ?_
 refine xG rfl ?_
 iterate 4 refine xP rfl rh rfl ?_
 refine xR rfl (e_loadm (mrt Y) rfl rfl rfl rfl) rfl ?_
 refine xP rfl rh rfl ?_
 refine xR rfl (e_get hgm (mmap Y) rfl rfl rfl rfl (fun _=>rfl) rfl) rfl ?_
 simp only [no_inn]
 rw [ega]
 refine xP rfl rh rfl ?_
 refine xN ?_
 repeat refine xQ ?_
 refine xG rfl ?_
 iterate 3 refine xP rfl rh rfl ?_
 refine xR rfl (e_loadm (ma Y) rfl rfl rfl rfl) rfl ?_
 refine xN ?_
 repeat refine xQ ?_
 refine xC rfl (fun hc=>?_) (fun hc=>?_)
 ·cases hc
 refine LS.skip ?_
 repeat refine xQ ?_
 refine xG rfl ?_
 iterate 2 refine xP rfl rh rfl ?_
 refine xA noGo rfl (fun _=>rfl) ((kidOf_ct (X:=X) (hXY Y) ⟨va1,va2,va3,hra,hPa⟩ st hmay).mono ?_)
 rintro w L' ⟨rfl,rfl⟩
 refine ⟨_,rfl,?_⟩
 refine xP rfl rh rfl ?_
 refine xN ?_
 simp only
 generalize hfd:upto fr ks=f at hup
 repeat refine xQ ?_
 refine xG rfl ?_
 iterate 3 refine xP rfl rh rfl ?_
 refine xR rfl (e_loadm (ma Y) rfl rfl rfl rfl) rfl ?_
 refine xP rfl rh rfl ?_
 refine OS.slicePL hPa.z (hXY Y) rfl rfl rfl rfl rfl bound_nat rfl rfl rfl (Nat.le_refl _) (by simp only; omega) (fun vk hvk=>⟨_,rfl,?_⟩)
 have hvk':PL 3 1 X vk (ts.length - f) (nums (nos (ts.drop f))):=by
  have:=pl_drop (cs':=nums (nos (ts.drop f))) hvk (by simp [nums]) (by simp [nums,nos,List.map_drop])
  simpa [hnl] using this
 refine xP rfl (e_len (hvk'.sv.mono (hXY Y)) rfl rfl rfl rfl rfl) rfl ?_
 refine xP rfl rh rfl ?_
 refine xN ?_
 have hm1:1<=ts.length - f:=by omega
 repeat refine xQ ?_
 refine LS.mid [1] (fun a' L'=>∃ (Y':RL) (v':Value),L'=Y'++rows/\GV 78 2 [] v' (P0++rngP fr to (kvs (sq (h+1) (inn p ks ts)))).length (prC (P0++rngP fr to (kvs (sq (h+1) (inn p ks ts))))) Y'/\a'=[jn,v',jn,jn,jn,jn,jn,jn,jn,jn,jn,jn,jn,jn,jn,jn,jn,jn,jn,jn,jn,jn,jn,jn,jn,jn,jn,jn,jn,jn,jn,jn,jn,jn,jn,jn,jn,jn,jn,jn,jn,jn,jn,jn,jn,jn,jn,jn,jn,jn,jn,jn,jn,jn,jn,jn,jn,jn,jn,jn,jn,jn,jn,jn,jn,jn,jn,jn,jn,jn,jn,jn,jn,jn,jn,jn,jn,jn,jn,jn,jn,jn,jn,jn,jn,jn,jn,jn,jn,jn,jn,jn,jn,jn,jn,jn,jn,jn,jn,jn,jn,jn,jn,jn,jn,jn,jn,jn,jn,jn,jn,jn,jn,jn,jn]) ?_ ?_
 ·refine LS.block ?_
  refine LS.loopJ [0,1,3,4,11,14,83,84,85] (fun z a' L'=>∃ (j:Nat) (Y':RL) (v':Value),z=(ts.length - f) - j/\j<=ts.length - f/\L'=Y'++rows/\GV 78 2 [] v' (P0++rngP fr to (kk ((ts.drop f).take j))).length (prC (P0++rngP fr to (kk ((ts.drop f).take j)))) Y' /\
   a'=[ptr c.rt,v',jn,txt fr,txt to,jn,jn,jn,jn,jn,jn,ptr ra,jn,jn,.int .i64 (f:Nat),jn,jn,jn,jn,jn,jn,jn,jn,jn,jn,jn,jn,jn,jn,jn,jn,jn,jn,jn,jn,jn,jn,jn,jn,jn,jn,jn,jn,jn,jn,jn,jn,jn,jn,jn,jn,jn,jn,jn,jn,jn,jn,jn,jn,jn,jn,jn,jn,jn,jn,jn,jn,jn,jn,jn,jn,jn,jn,jn,jn,jn,jn,jn,jn,jn,jn,jn,jn,vk,.int .i64 ((ts.length - f:Nat):Int),.int .i64 (j:Nat),jn,jn,jn,jn,jn,jn,jn,jn,jn,jn,jn,jn,jn,jn,jn,jn,jn,jn,jn,jn,jn,jn,jn,jn,jn,jn,jn,jn,jn]) (n:=ts.length - f) rfl ⟨0,Y,v,rfl,by omega,rfl,by simpa [kk,rngP] using hv,rfl⟩ ?_
  rintro z a' L' ⟨j,Y',v',rfl,hj,rfl,hv',rfl⟩
  by_cases hjm:j < ts.length - f
  ·have hb:(!ileB ((ts.length - f:Nat):Int) ((j:Nat):Int))=true:=by rw [ileB_eq,decide_eq_false (by omega)]; rfl
   repeat refine xQ ?_
   refine xG rfl ?_
   refine xP rfl (e_ib rh (hb)) rfl ?_
   refine xN ?_
   repeat refine xQ ?_
   refine xC rfl (fun hc2=>?_) (fun hc2=>?_)
   ·refine LS.skip ?_
    repeat refine xQ ?_
    refine LS.block ?_
    have hfj:f+j < ts.length:=by omega
    have hat:(nums (nos (ts.drop f)))[j]?=some (.int .i64 ((no h ts[f+j]:Nat):Int)):=by
     simp only [nums,nos,List.map_drop,List.getElem?_drop,List.getElem?_map,List.map_map]
     rw [List.getElem?_eq_getElem hfj]; rfl
    repeat refine xQ ?_
    refine xG rfl ?_
    refine xP rfl rh rfl ?_
    refine OS.at1 (j:=j) ((hvk'.sv.mono (hXY Y'))) (hat) rfl rfl rfl rfl rfl rfl (fun ra0 oa0 rowa0 csa0 ma0 ca0 ga0=>⟨_,rfl,?_⟩)
    refine xR rfl (e_loadm ma0 ca0 rfl rfl (part_one rfl ga0)) rfl ?_
    iterate 2 refine xP rfl rh rfl ?_
    refine xN ?_
    repeat refine xQ ?_
    refine LS.mid [0,1,3,4,11,14,16,83,84,85,106] (fun a' L'=>L'=Y'++rows/\a'=[ptr c.rt,v',jn,txt fr,txt to,jn,jn,jn,jn,jn,jn,ptr ra,jn,jn,.int .i64 (f:Nat),jn,.int .i64 (no h ts[f+j]:Nat),jn,jn,jn,jn,jn,jn,jn,jn,jn,jn,jn,jn,jn,jn,jn,jn,jn,jn,jn,jn,jn,jn,jn,jn,jn,jn,jn,jn,jn,jn,jn,jn,jn,jn,jn,jn,jn,jn,jn,jn,jn,jn,jn,jn,jn,jn,jn,jn,jn,jn,jn,jn,jn,jn,jn,jn,jn,jn,jn,jn,jn,jn,jn,jn,jn,jn,vk,.int .i64 ((ts.length - f:Nat):Int),.int .i64 (j:Nat),jn,jn,jn,jn,jn,jn,jn,jn,jn,jn,jn,jn,jn,jn,jn,jn,jn,jn,jn,jn,.bool (decide (0 < j) && !belT (ks.getD (f+j - 1) []) to),jn,jn,jn,jn,jn,jn,jn,jn]) ?_ ?_
    ·by_cases hj0:0 < j
     ·have hb0:(!ileB ((j:Nat):Int) 0)=true:=by rw [ileB_eq,decide_eq_false (by omega)]; rfl
      have hkj:f+j - 1 < ks.length:=by omega
      refine xG rfl ?_
      refine xP rfl rh rfl ?_
      refine xP rfl (e_ib rh (hb0)) rfl ?_
      iterate 4 refine xP rfl rh rfl ?_
      refine xR rfl (e_loadm (ma Y') rfl rfl rfl rfl) rfl ?_
      iterate 2 refine xP rfl rh rfl ?_
      refine xP rfl (e_addN (m:=f) (n:=j) rfl rfl rfl (in_i64 (by omega) (by omega))) rfl ?_
      refine xP rfl (e_subN (m:=f+j) (n:=1) rfl rfl rfl (by omega) (in_i64 (by omega) (by omega))) rfl ?_
      refine OS.at1 (j:=f+j - 1) ((Na Y').k) (tx_at hkj) rfl rfl rfl rfl rfl rfl (fun ra0 oa0 rowa0 csa0 ma0 ca0 ga0=>⟨_,rfl,?_⟩)
      refine xR rfl (e_loadm ma0 ca0 rfl rfl (part_one rfl ga0)) rfl ?_
      refine xP rfl rh rfl ?_
      refine xA noGo rfl (fun _=>rfl) ((below_ct).mono ?_)
      rintro u L' ⟨rfl,rfl⟩
      refine ⟨_,rfl,?_⟩
      iterate 2 refine xP rfl rh rfl ?_
      refine xN ?_
      refine ⟨rfl,?_⟩
      have e1:ks.getD (f+j - 1) []=ks[f+j - 1]:=by rw [List.getD_eq_getElem?_getD,List.getElem?_eq_getElem hkj]; rfl
      rw [e1,decide_eq_true hj0,Bool.true_and]; rfl
     ·have hb0:(!ileB ((j:Nat):Int) 0)=false:=by rw [ileB_eq,decide_eq_true (by omega)]; rfl
      refine xG rfl ?_
      refine xP rfl rh rfl ?_
      refine xP rfl (e_ib rh (hb0)) rfl ?_
      refine xP rfl rh rfl ?_
      iterate 13 refine xK rfl rfl ?_
      refine xP rfl rh rfl ?_
      refine xN ?_
      refine ⟨rfl,?_⟩
      rw [decide_eq_false hj0,Bool.false_and]; rfl
    rintro a' L' ⟨rfl,rfl⟩
    cases hbrk:(decide (0 < j) && !belT (ks.getD (f+j - 1) []) to) with
    | true =>
     rw [Bool.and_eq_true] at hbrk
     have hj0:0 < j:=of_decide_eq_true hbrk.1
     repeat refine xQ ?_
     refine xC rfl (fun hc3=>?_) (fun hc3=>?_)
     ·refine LS.exit ?_
      refine ⟨Y',v',rfl,?_,rfl⟩
      have:=inn_rng (fr:=fr) (to:=to) (q:=f+j) hs hlen hrise (by rw [hfd]; omega) (by omega) (fun k hk _=>by
       have e1:ks.getD (f+j - 1) []=k:=by rw [List.getD_eq_getElem?_getD,hk]; rfl
       rw [e1] at hbrk
       cases hbb:belT k to with
       | false=>rfl
       | true=>rw [hbb] at hbrk; exact absurd hbrk.2 (by decide))
      rw [hfd,show f+j - f=j by omega] at this
      rw [this]; exact hv'
     ·cases hc3
    | false =>
     repeat refine xQ ?_
     refine xC rfl (fun hc3=>?_) (fun hc3=>?_)
     ·cases hc3
     refine LS.skip ?_
     have htk:(ts.drop f).take (j+1)=(ts.drop f).take j++[ts[f+j]]:=by
      rw [List.take_succ_eq_append_getElem (by rw [List.length_drop]; omega),List.getElem_drop]
     have hmem:ts[f+j]∈ts:=List.getElem_mem _
     have hsj:Srt (sq h ts[f+j]):=by
      obtain ⟨A,B,L,a,R,hA1,hA2,hA3,hA4⟩:=split1 hlen hfj
      have ea:ts[f+j]=a:=by subst hA2; simp [← hA4]
      rw [ea]
      subst hA1
      subst hA2
      rw [sq_at (by omega)] at hs
      exact List.Pairwise.sublist ((List.sublist_append_left ..).trans (List.sublist_append_right ..)) hs
     have hcount:(rngP fr to (kk ((ts.drop f).take j))).length+(kvs (sq h ts[f+j])).length<=(kvs (sq (h+1) (inn p ks ts))).length:=by
      rw [kk_inn hlen,kk_take (ts:=ts) (f:=f) (q:=f+(j+1)) (by omega),show f+(j+1) - f=j+1 by omega,htk,kk_app]
      have h1:(rngP fr to (kk ((ts.drop f).take j))).length<=(kk ((ts.drop f).take j)).length:=List.length_filter_le ..
      have h2:kk [ts[f+j]]=kvs (sq h ts[f+j]):=by simp [kk]
      rw [h2]
      simp only [List.length_append]
      omega
     repeat refine xQ ?_
     refine xG rfl ?_
     iterate 5 refine xP rfl rh rfl ?_
     refine xA noGo rfl (fun _=>rfl) ((ih c G X s rows ts[f+j] fr to v' (P0++rngP fr to (kk ((ts.drop f).take j))) Y' htr ((rep_inn.1 hrep).2 _ hmem) (hok.kid _ hmem) hsj hv' (by rw [List.length_append]; omega)).mono ?_)
     rintro u L' ⟨Y2,rfl,hv2⟩
     refine ⟨_,rfl,?_⟩
     refine xP rfl rh rfl ?_
     refine xN ?_
     repeat refine xQ ?_
     refine xG rfl ?_
     refine xP rfl (e_addN (n:=1) rfl rfl rfl (in_i64 (by omega) (by omega))) rfl ?_
     refine xP rfl rh rfl ?_
     refine xN ?_
     refine ⟨(ts.length - f) - (j+1),by omega,j+1,Y2,u,rfl,by omega,rfl,?_,rfl⟩
     have h2:kk [ts[f+j]]=kvs (sq h ts[f+j]):=by simp [kk]
     rw [htk,kk_app,rng_app,← List.append_assoc,h2]
     exact hv2
   ·cases hc2
  ·have hb:(!ileB ((ts.length - f:Nat):Int) ((j:Nat):Int))=false:=by rw [ileB_eq,decide_eq_true (by omega)]; rfl
   repeat refine xQ ?_
   refine xG rfl ?_
   refine xP rfl (e_ib rh (hb)) rfl ?_
   refine xN ?_
   repeat refine xQ ?_
   refine xC rfl (fun hc2=>?_) (fun hc2=>?_)
   ·cases hc2
   refine LS.exit ?_
   refine ⟨Y',v',rfl,?_,rfl⟩
   have:=inn_rng (fr:=fr) (to:=to) (q:=ts.length) hs hlen hrise (by rw [hfd]; omega) (Nat.le_refl _) (fun k hk hh=>by omega)
   rw [hfd,show ts.length - f=j by omega] at this
   rw [this]; exact hv'
 rintro a' L' ⟨Y',v',rfl,hv',rfl⟩
 repeat refine xQ ?_
 refine xG rfl ?_
 iterate 2 refine xP rfl rh rfl ?_
 refine xN ?_
 refine xT ⟨_,fun _ _=>rfl,?_⟩
 exact ⟨Y',rfl,hv'⟩
theorem pairs_all:∀ h,PairsP h
 | 0=>pairs_0
 | h+1=>pairs_s (pairs_all h)
theorem tRange_ct {c:Cfg} {G X:RL} {s:TSt} {L:RL} {ro:Nat} {fr to:Tx} {P:List Pr} (htr:TR c G X s L) (ho:(ro,toRow c.rt)∈L) (hg:GoodS s.m s.root P) (hcnt:s.cnt=P.length) (hP:P.length<=100000000) :
  CS Tryz.prog 26 [ptr ro,txt fr,txt to] L fun u L'=>∃ Y,L'=Y++L/\GV 78 2 [] u (rngP fr to P).length (prC (rngP fr to P)) Y:=by
 have mrt:(c.rt,trRow c.rf c.rn c.rw s.root s.cnt c.root0 c.cnt0)∈L:=by
  obtain ⟨T,es,ck,ws,wk,hN,rfl,hp⟩:=htr
  simp
 refine CS.mk (fn:=Tryz.f26) rfl rfl rfl rfl ?_
 repeat refine xQ ?_
 refine xG rfl ?_
 refine xP rfl rh rfl ?_
 refine xN ?_
 repeat refine xQ ?_
 refine xG rfl ?_
 refine xP rfl rh rfl ?_
 refine xA noGo rfl (fun _=>rfl) ((tLen_ct htr ho).mono ?_)
 rintro u L' ⟨rfl,rfl⟩
 refine ⟨_,rfl,?_⟩
 rcases hg with ⟨_,_,rfl⟩ | ⟨H,t,hw,hok,hs,hkv⟩
 ·rw [hcnt]
  refine xP rfl rh rfl ?_
  refine xN ?_
  repeat refine xQ ?_
  refine xC rfl (fun hc=>?_) (fun hc=>?_)
  ·repeat refine xQ ?_
   refine xG rfl ?_
   refine xP rfl rh rfl ?_
   refine xN ?_
   refine xT ⟨_,fun _ _=>rfl,?_⟩
   exact ⟨[],rfl,.inl ⟨rfl,rfl,rfl,rfl⟩⟩
  ·cases hc
 ·have hne:=kvs_ne hok
  rw [hkv] at hne
  have hpos:0 < P.length:=List.length_pos_iff.2 hne
  have hb:ieqB s.cnt 0=false:=by rw [ieqB_eq]; simp; omega
  have hrt:=hw.rt
  refine xP rfl (e_ib rh (hb)) rfl ?_
  refine xN ?_
  repeat refine xQ ?_
  refine xC rfl (fun hc=>?_) (fun hc=>?_)
  ·cases hc
  refine LS.skip ?_
  repeat refine xQ ?_
  refine LS.drawn noGo mixed [(0,false),(1,false),(2,false),(3,false),(4,false),(5,false),(6,false),(7,false),(8,false),(9,false),(10,false),(11,false),(12,false),(13,false),(14,true),(15,false)] rfl rfl (by kernel_rfl) ?_
  iterate 3 refine xD rfl rfl rh rfl ?_
  refine xE rfl rfl (e_loadm ho rfl rfl rfl rfl) rfl ?_
  iterate 3 refine xD rfl rfl rh rfl ?_
  refine xE rfl rfl (e_loadm ho rfl rfl rfl rfl) rfl ?_
  iterate 3 refine xD rfl rfl rh rfl ?_
  refine xE rfl rfl (e_is' (e_loadm mrt rfl rfl rfl rfl) (congrArg (Value.int .i64) hrt)) rfl ?_
  iterate 2 refine xD rfl rfl rh rfl ?_
  refine ODS.call rfl rfl (fun _=>rfl) ((pairs_all H c G X s _ t fr to _ [] [] htr hw.rep hok hs (.inl ⟨rfl,rfl,rfl,rfl⟩) (by rw [hkv]; simp; omega)).mono ?_)
  rintro u L' ⟨Y,rfl,hv⟩
  rw [hkv] at hv
  refine ⟨_,rfl,(by repeat (first | exact Keep.nil | refine Keep.gone rfl ?_)),?_⟩
  refine xD rfl rfl rh rfl ?_
  refine xM ?_
  refine xT ⟨_,fun _ _=>rfl,?_⟩
  exact ⟨Y,rfl,hv⟩
end Go.Proofs.YtlmmddfhoabjfaaGreat
end
section
namespace Go.Proofs.YtlmmddfhoabjfaaGreat
open Go.Am
structure RSt where
 m:Mem
 cnt:Nat
 lv:Nat
def endK (ks:List Tx) (to:Tx):Tx:=ks.headD to
def btw (ks:List Tx) (fr to:Tx):Bool:=match ks with
 | []=>true
 | k::r=>leT fr k && belT ((k::r).getLastD []) to
def kidsF (look:RSt->Int->Tx->Tx->Option RSt):List Tx->List Int->Tx->Tx->RSt->Option RSt
 | _,[],_,_,σ=>some σ
 | ks,z::zs,fr,to,σ=>match look σ z fr (endK ks to) with
  | none=>none
  | some σ'=>kidsF look ks.tail zs (endK ks to) to σ'
def lookF (N:Nat) (img:Nat->List UInt8):Nat->RSt->Int->Nat->Tx->Tx->Option RSt
 | 0,_,_,_,_,_=>none
 | f+1,σ,z,d,fr,to =>
  if 0<=z/\z < N/\σ.m z.toNat=none then
   match decB (img z.toNat) with
   | none=>none
   | some n=>if btw n.ks fr to=true then
     (if n.leaf=true then (if n.ks≠[]/\(σ.lv=0∨σ.lv=d) then some ⟨updM σ.m z.toNat (some n),σ.cnt+n.ks.length,d⟩ else none)
      else kidsF (fun σ z fr to=>lookF N img f σ z (d+1) fr to) n.ks n.kids fr to ⟨updM σ.m z.toNat (some n),σ.cnt,σ.lv⟩)
    else none
  else none
def inB (fr to:Tx):It->Prop
 | .K k _=>leT fr k=true/\belT k to=true
 | .S s=>bytesLt fr s=true/\belT s to=true
theorem leT_refl (x:Tx):leT x x=true:=leT_iff.2 (.inr rfl)
theorem leT_trans {a b c:Tx} (h:leT a b=true) (g:leT b c=true):leT a c=true:=by
 rcases leT_iff.1 h with h | rfl
 ·exact leT_iff.2 (.inl (lt_le h g))
 ·exact g
theorem belT_lt {a b to:Tx} (h:bytesLt a b=true) (g:belT b to=true):belT a to=true:=by
 unfold belT at g ⊢
 rw [Bool.or_eq_true] at g ⊢
 rcases g with g | g
 ·exact .inl g
 ·exact .inr (lt_trans h g)
theorem belT_le {a b to:Tx} (h:leT a b=true) (g:belT b to=true):belT a to=true:=by
 rcases leT_iff.1 h with h | rfl
 ·exact belT_lt h g
 ·exact g
theorem belT_key {a k:Tx} (hk:1<=k.length) (h:belT a k=true):bytesLt a k=true:=by
 unfold belT at h
 rw [Bool.or_eq_true] at h
 rcases h with h | h
 ·have:=of_decide_eq_true h
  subst this; simp at hk
 ·exact h
theorem rise_last {l:Tx}:∀ {ks:List Tx},rise l ks=true->∀ k∈ks,leT k (ks.getLastD [])=true
 | [],_,k,hk=>by cases hk
 | [a],_,k,hk=>by simp at hk; subst hk; exact leT_refl _
 | a::b::r,h,k,hk=>by
  have h':=rise_cons.1 h
  have h2:=rise_cons.1 h'.2.2
  have hl:(a::b::r).getLastD []=(b::r).getLastD []:=by simp [List.getLastD]
  rw [hl]
  rcases List.mem_cons.1 hk with rfl | hk
  ·exact leT_trans (leT_iff.2 (.inl h2.1)) (rise_last h'.2.2 b (by simp))
  ·exact rise_last h'.2.2 k hk
theorem btw_all {l fr to:Tx} {ks:List Tx} (hr:rise l ks=true) (h:btw ks fr to=true):∀ k∈ks,leT fr k=true/\belT k to=true:=fun k hk=>by
 cases ks with
 | nil=>cases hk
 | cons a r =>
  simp only [btw,Bool.and_eq_true] at h
  refine ⟨?_,belT_le (rise_last hr k hk) h.2⟩
  rcases List.mem_cons.1 hk with rfl | hk
  ·exact h.1
  ·have:=(rise_all (rise_cons.1 hr).2.2 k hk).1
   exact leT_trans h.1 (leT_iff.2 (.inl this))
structure Rd (N:Nat) (σ σ':RSt) {h:Nat} (t:Tr h) (z:Int) (d:Nat) (fr to:Tx):Prop where
 no:z=(no h t:Nat)
 nod:(pgs h t).Nodup
 new:∀ q,q∈pgs h t->σ.m q=none/\q < N
 rep:RepT σ'.m h t
 old:∀ q,q ∉ pgs h t->σ'.m q=σ.m q
 ok:Okt h t
 lv:σ'.lv=d+h
 lv0:σ.lv=0∨σ.lv=d+h
 cnt:σ'.cnt=σ.cnt+(kvs (sq h t)).length
 srt:Srt (sq h t)
 inb:∀ y∈sq h t,inB fr to y
structure RdK (N:Nat) (σ σ':RSt) {h:Nat} (ts:List (Tr h)) (ks:List Tx) (zs:List Int) (d:Nat) (fr to:Tx):Prop where
 nos:zs=nos ts
 nod:(ts.flatMap (pgs h)).Nodup
 new:∀ q,q∈ts.flatMap (pgs h)->σ.m q=none/\q < N
 rep:∀ s∈ts,RepT σ'.m h s
 old:∀ q,q ∉ ts.flatMap (pgs h)->σ'.m q=σ.m q
 ok:∀ s∈ts,Okt h s
 lv:σ'.lv=d+h
 lv0:σ.lv=0∨σ.lv=d+h
 cnt:σ'.cnt=σ.cnt+(kk ts).length
 srt:Srt (wv ks (ts.map (sq h)))
 inb:∀ y∈wv ks (ts.map (sq h)),inB fr to y
theorem inB_weak {fr fr' to to':Tx} {y:It} (h:inB fr to y) (h1:leT fr' fr=true) (h2:∀ x,belT x to=true->belT x to'=true):inB fr' to' y:=by
 cases y with
 | K k v=>exact ⟨leT_trans h1 h.1,h2 _ h.2⟩
 | S s=>exact ⟨le_lt h1 h.1,h2 _ h.2⟩
theorem some_K {h:Nat} {t:Tr h} (hk:Okt h t):∃ k v,It.K k v∈sq h t:=by
 have:=kvs_ne hk
 cases hkv:kvs (sq h t) with
 | nil=>exact absurd hkv this
 | cons p l=>exact ⟨p.1,p.2,kvs_mem (by rw [hkv]; simp)⟩
theorem rd_one {N:Nat} {σ σ':RSt} {h:Nat} {t:Tr h} {z:Int} {d:Nat} {fr to:Tx} (r:Rd N σ σ' t z d fr to):RdK N σ σ' [t] [] [z] d fr to :=
 ⟨by simp [nos,r.no],by simpa using r.nod,fun q hq=>r.new q (by simpa using hq),fun s hs=>by simp at hs; subst hs; exact r.rep,fun q hq=>r.old q (by simpa using hq),fun s hs=>by simp at hs; subst hs; exact r.ok,r.lv,r.lv0,by simpa [kk] using r.cnt,by simpa [wv,postI] using r.srt,fun y hy=>r.inb y (by simpa [wv,postI] using hy)⟩
theorem rd_cons {N:Nat} {σ σ1 σ':RSt} {h:Nat} {t:Tr h} {ts:List (Tr h)} {k:Tx} {ks:List Tx} {z:Int} {zs:List Int} {d:Nat} {fr to:Tx} (hk1:1<=k.length) (hfr:leT fr k=true) (hto:belT k to=true) (r:Rd N σ σ1 t z d fr k) (rk:RdK N σ1 σ' ts ks zs d k to) (hne:ts≠[]):RdK N σ σ' (t::ts) (k::ks) (z::zs) d fr to:=by
 have hdis:∀ q,q∈pgs h t->q ∉ ts.flatMap (pgs h):=fun q hq hq2=>by
  have h1:=(rk.new q hq2).1
  exact r.rep.some q hq h1
 have hnew:∀ q,q∈ts.flatMap (pgs h)->σ.m q=none/\q < N:=fun q hq=>by
  have h1:=rk.new q hq
  have h2:q ∉ pgs h t:=fun hh=>hdis q hh hq
  exact ⟨by rw [← r.old q h2]; exact h1.1,h1.2⟩
 have hwv:wv (k::ks) ((t::ts).map (sq h))=sq h t++It.S k::wv ks (ts.map (sq h)):=by
  cases ts with
  | nil=>exact absurd rfl hne
  | cons a l=>rfl
 obtain ⟨kk0,vv0,hkv0⟩:=some_K r.ok
 have hlt:bytesLt fr k=true:=by
  have:=r.inb _ hkv0
  exact le_lt this.1 (belT_key hk1 this.2)
 have hinb:∀ y∈wv (k::ks) ((t::ts).map (sq h)),inB fr to y:=fun y hy=>by
  rw [hwv] at hy
  rcases List.mem_append.1 hy with hy | hy
  ·exact inB_weak (r.inb y hy) (leT_refl _) fun x hx=>belT_lt (belT_key hk1 hx) hto
  ·rcases List.mem_cons.1 hy with rfl | hy
   ·exact ⟨hlt,hto⟩
   ·exact inB_weak (rk.inb y hy) hfr fun x hx=>hx
 refine ⟨by simp [nos,r.no,rk.nos],?_,fun q hq=>?_,fun s hs=>?_,fun q hq=>?_,fun s hs=>?_,rk.lv,?_,?_,?_,hinb⟩
 ·rw [List.flatMap_cons,List.nodup_append]
  exact ⟨r.nod,rk.nod,fun a ha b hb he=>hdis a ha (he ▸ hb)⟩
 ·rw [List.flatMap_cons] at hq
  rcases List.mem_append.1 hq with hq | hq
  ·exact r.new q hq
  ·exact hnew q hq
 ·rcases List.mem_cons.1 hs with rfl | hs
  ·exact r.rep.congr fun q hq=>rk.old q (hdis q hq)
  ·exact rk.rep s hs
 ·rw [List.flatMap_cons,List.mem_append,not_or] at hq
  rw [rk.old q hq.2,r.old q hq.1]
 ·rcases List.mem_cons.1 hs with rfl | hs
  ·exact r.ok
  ·exact rk.ok s hs
 ·exact r.lv0
 ·rw [rk.cnt,r.cnt]; simp [kk]; omega
 ·rw [hwv]
  refine List.pairwise_append.2 ⟨r.srt,List.pairwise_cons.2 ⟨fun y hy=>?_,rk.srt⟩,fun x hx y hy=>?_⟩
  ·have:=rk.inb y hy
   cases y with
   | K a b=>exact this.1
   | S s=>exact this.1
  ·have hx':=r.inb x hx
   have hxk:∀ a,(match x with | .K b _=>b | .S b=>b)=a->bytesLt a k=true:=fun a ha=>by
    cases x with
    | K b c=>subst ha; exact belT_key hk1 hx'.2
    | S b=>subst ha; exact belT_key hk1 hx'.2
   rcases List.mem_cons.1 hy with rfl | hy
   ·cases x with
    | K b c=>exact hxk b rfl
    | S b=>exact hxk b rfl
   ·have hy':=rk.inb y hy
    cases x with
    | K b c =>
     cases y with
     | K e f=>exact lt_le (hxk b rfl) hy'.1
     | S e=>exact lt_trans (hxk b rfl) hy'.1
    | S b =>
     cases y with
     | K e f=>exact leT_iff.2 (.inl (lt_le (hxk b rfl) hy'.1))
     | S e=>exact lt_trans (hxk b rfl) hy'.1
theorem kids_sound {N d:Nat} (hd:1<=d) {look:RSt->Int->Tx->Tx->Option RSt} (hlook:∀ σ z fr to σ',look σ z fr to=some σ'->∃ h,∃ t:Tr h,Rd N σ σ' t z d fr to) :
  ∀ {ks:List Tx} {zs:List Int} {l fr to:Tx} {σ σ':RSt},zs.length=ks.length+1->rise l ks=true->(∀ k∈ks,leT fr k=true/\belT k to=true)->kidsF look ks zs fr to σ=some σ'->∃ h,∃ ts:List (Tr h),ts≠[]/\RdK N σ σ' ts ks zs d fr to
 | ks,[],l,fr,to,σ,σ',hl,_,_,_=>by simp at hl
 | [],z::zs,l,fr,to,σ,σ',hl,hr,hb,h=>by
  have hz:zs=[]:=by simpa using hl
  subst hz
  simp only [kidsF,endK,List.headD] at h
  cases hlk:look σ z fr to with
  | none=>rw [hlk] at h; cases h
  | some σ1 =>
   rw [hlk] at h
   cases h
   obtain ⟨h,t,r⟩:=hlook _ _ _ _ _ hlk
   exact ⟨h,[t],by simp,rd_one r⟩
 | k::ks,z::zs,l,fr,to,σ,σ',hl,hr,hb,h=>by
  simp only [kidsF,endK,List.headD,List.tail_cons] at h
  have hr':=rise_cons.1 hr
  have hk1:=(rise_all hr k (by simp)).2.1
  cases hlk:look σ z fr k with
  | none=>rw [hlk] at h; cases h
  | some σ1 =>
   rw [hlk] at h
   simp only at h
   obtain ⟨h1,t,r⟩:=hlook _ _ _ _ _ hlk
   obtain ⟨h2,ts,hne,rk⟩:=kids_sound hd hlook (ks:=ks) (zs:=zs) (l:=k) (fr:=k) (by simpa using hl) hr'.2.2 (fun x hx=>⟨leT_iff.2 (.inl (rise_all hr'.2.2 x hx).1),(hb x (by simp [hx])).2⟩) h
   have hh:h1=h2:=by
    have e1:=r.lv
    rcases rk.lv0 with e2 | e2
    ·omega
    ·omega
   subst hh
   exact ⟨h1,t::ts,by simp,rd_cons hk1 (hb k (by simp)).1 (hb k (by simp)).2 r rk hne⟩
theorem srt_zip:∀ {ks vs:List Tx},ks.Pairwise (fun a b=>bytesLt a b=true)->Srt (List.zipWith It.K ks vs)
 | [],_,_=>by rw [List.zipWith_nil_left]; exact List.Pairwise.nil
 | _::_,[],_=>by rw [List.zipWith_nil_right]; exact List.Pairwise.nil
 | k::ks,v::vs,h=>by
  have h':=List.pairwise_cons.1 h
  rw [List.zipWith_cons_cons]
  refine List.pairwise_cons.2 ⟨fun y hy=>?_,srt_zip h'.2⟩
  obtain ⟨a,b,rfl,hab⟩:=zip_mem (P:=fun a=>bytesLt k a=true) h'.1 y hy
  exact hab
theorem look_sound {N:Nat} {img:Nat->List UInt8}:∀ {f:Nat} {σ:RSt} {z:Int} {d:Nat} {fr to:Tx} {σ':RSt},1<=d->lookF N img f σ z d fr to=some σ'->∃ h,∃ t:Tr h,Rd N σ σ' t z d fr to
 | 0,_,_,_,_,_,_,_,h=>by simp [lookF] at h
 | f+1,σ,z,d,fr,to,σ',hd,h=>by
  rw [lookF] at h
  split at h
  case isFalse=>cases h
  rename_i hz
  obtain ⟨hz0,hzN,hzm⟩:=hz
  obtain ⟨p,rfl⟩:∃ p:Nat,z=p:=⟨z.toNat,by omega⟩
  simp only [Int.toNat_natCast] at h hzm
  split at h
  case h_1=>cases h
  rename_i n hdec
  split at h
  case isFalse=>cases h
  rename_i hbt
  have hfit:=(decB_enc hdec).1
  have hmay:=fits_may hfit
  have hrise:=mayN_rise hmay
  have hall:=btw_all hrise hbt
  obtain ⟨lf',ks,vs,kids⟩:=n
  simp only at h hall hrise
  cases lf' with
  | true =>
   rw [if_pos rfl] at h
   split at h
   case isFalse=>cases h
   rename_i hc
   obtain ⟨hne,hlv⟩:=hc
   cases h
   obtain ⟨hvl,hkids,_⟩:=may_vs hmay rfl
   simp only at hvl hkids
   subst hkids
   refine ⟨0,lf p ks vs,rfl,by simp,fun q hq=>?_,?_,fun q hq=>?_,⟨hfit,hne⟩,rfl,hlv,?_,srt_zip (rise_iff.1 hrise).1,fun y hy=>?_⟩
   ·simp only [pgs_lf,List.mem_singleton] at hq
    subst hq; exact ⟨hzm,by omega⟩
   ·show updM σ.m p _ p=_
    unfold updM; rw [if_pos rfl]; rfl
   ·have:q≠p:=by simpa using hq
    simp only [updM]; rw [if_neg this]
   ·rw [sq_lf,kvs_zip,List.length_zip,hvl]; simp
   ·obtain ⟨k,v,rfl,hk⟩:=zip_mem (P:=fun k=>leT fr k=true/\belT k to=true) hall y hy
    exact hk
  | false =>
   rw [if_neg (by decide)] at h
   obtain ⟨hkl,hvs,_⟩:=may_kids hmay rfl
   simp only at hkl hvs
   subst hvs
   obtain ⟨g,ts,hne,rk⟩:=kids_sound (d:=d+1) (by omega) (look:=fun σ z fr to=>lookF N img f σ z (d+1) fr to) (fun σ z fr to σ' hh=>look_sound (by omega) hh) hkl hrise hall h
   have hp1:p ∉ ts.flatMap (pgs g):=fun hh=>by
    have:=(rk.new p hh).1
    simp only [updM] at this
    rw [if_pos trivial] at this; cases this
   have hk:=rk.nos
   subst hk
   refine ⟨g+1,inn p ks ts,rfl,?_,fun q hq=>?_,?_,fun q hq=>?_,⟨hfit,rk.ok⟩,?_,?_,?_,rk.srt,rk.inb⟩
   ·rw [pgs_inn,List.nodup_cons]; exact ⟨hp1,rk.nod⟩
   ·rw [pgs_inn] at hq
    rcases List.mem_cons.1 hq with rfl | hq
    ·exact ⟨hzm,by omega⟩
    ·have h1:=rk.new q hq
     have hqp:q≠p:=fun he=>hp1 (he ▸ hq)
     simp only [updM] at h1
     rw [if_neg hqp] at h1
     exact h1
   ·refine rep_inn.2 ⟨?_,rk.rep⟩
    rw [rk.old p hp1]
    simp only [updM]; rw [if_pos trivial]
   ·rw [pgs_inn,List.mem_cons,not_or] at hq
    rw [rk.old q hq.2]
    simp only [updM]; rw [if_neg hq.1]
   ·rw [rk.lv]; omega
   ·have:=rk.lv0; simp only at this; omega
   ·rw [rk.cnt,kk_inn (by rw [nos_len] at hkl; exact hkl)]
end Go.Proofs.YtlmmddfhoabjfaaGreat
end
section
namespace Go.Proofs.YtlmmddfhoabjfaaGreat
open Go.Am
theorem le_nil (x:Tx):leT [] x=true:=by
 cases x with
 | nil=>exact leT_refl _
 | cons a r=>exact leT_iff.2 (.inl rfl)
theorem bel_nil (x:Tx):belT x []=true:=rfl
theorem read_is {N f:Nat} {img:Nat->List UInt8} {root:Int} {σ:RSt} (h:lookF N img f ⟨m00,0,0⟩ root 1 [] []=some σ):∃ P,GoodS σ.m root P/\P≠[]/\σ.cnt=P.length/\∀ q,σ.m q≠none->q < N:=by
 obtain ⟨H,t,r⟩:=look_sound (Nat.le_refl _) h
 refine ⟨kvs (sq H t),.inr ⟨H,t,⟨r.rep,r.nod,fun q hq=>r.old q hq,r.no⟩,r.ok,r.srt,rfl⟩,kvs_ne r.ok,by rw [r.cnt]; simp,fun q hq=>?_⟩
 by_cases hp:q∈pgs H t
 ·exact (r.new q hp).2
 ·exact absurd (r.old q hp) hq
end Go.Proofs.YtlmmddfhoabjfaaGreat
end
section
namespace Go.Proofs.YtlmmddfhoabjfaaGreat
open Go.Am
theorem Decode_any {L:RL} {v:Value} {bs:List UInt8} (hv:BV L v bs):CS Tryz.prog 58 [v] L fun u L'=>DecV L bs u L':=by
 by_cases hn:bs.length<=400000000000
 ·exact Decode_ct hv hn
 have hl:bs.length≠256:=by omega
 have hsv:=hv.sv
 suffices g:CS Tryz.prog 58 [v] L fun u L'=>decB bs=none/\u=.tuple #[ndV false (.slice none 0 0) (.slice none 0 0) (.slice none 0 0),.int .i64 4]/\∃ X,L'=X++L by
  refine g.less fun u L' h=>?_
  obtain ⟨h1,h2,X,rfl⟩:=h
  exact ⟨L,Sub.suffix,.inl ⟨h1,h2,rfl⟩⟩
 refine CS.mk (fn:=Tryz.f58) rfl rfl rfl rfl ?_
 repeat refine xQ ?_
 refine xG rfl ?_
 refine OS.fresh rfl (e_new (fun _=>rfl) rfl) (fun _=>rfl) (fun ro=>?_)
 refine xP rfl rh rfl ?_
 refine xN ?_
 have hb0:(!ieqB (bs.length:Int) (256:Nat))=true:=by rw [ieqN,decide_eq_false hl]; rfl
 have hd:decB bs=none:=by unfold decB; rw [if_neg (fun h=>hl h.1)]
 repeat refine xQ ?_
 refine xG rfl ?_
 refine xP rfl rh rfl ?_
 refine xP rfl (e_len hsv rfl rfl rfl rfl rfl) rfl ?_
 refine xP rfl (e_ib rh (hb0)) rfl ?_
 refine xN ?_
 repeat refine xQ ?_
 refine xC rfl (fun hc=>?_) (fun hc=>?_)
 ·repeat refine xQ ?_
  refine xG rfl ?_
  refine xP rfl rh rfl ?_
  refine OS.write rfl (e_store 0 rfl rfl rfl rfl rfl rfl rfl rfl) rfl ?_
  refine xP rfl rh rfl ?_
  refine xN ?_
  refine xT ⟨_,res_cell2 0 rfl rfl rfl rfl rfl,?_⟩
  exact ⟨hd,rfl,[_],rfl⟩
 ·cases hc
theorem leT_not {a b:Tx}:(!bytesLt b a)=leT a b:=by
 cases h:bytesLt b a with
 | true=>rw [nle_iff.2 h]; rfl
 | false=>rw [nlt_iff.1 h]; rfl
theorem between_ct {L:RL} {v:Value} {ks:List Tx} {fr to:Tx} (hv:SV 1 L v ks.length (tx ks)) (hn:ks.length<=1000000):CS Tryz.prog 59 [v,txt fr,txt to] L fun u L'=>u=.bool (btw ks fr to)/\L'=L:=by
 refine CS.mk (fn:=Tryz.f59) rfl rfl rfl rfl ?_
 repeat refine xQ ?_
 refine xG rfl ?_
 refine xP rfl rh rfl ?_
 refine xN ?_
 cases ks with
 | nil =>
  repeat refine xQ ?_
  refine xG rfl ?_
  refine xP rfl rh rfl ?_
  refine xP rfl (e_len hv rfl rfl rfl rfl rfl) rfl ?_
  iterate 2 refine xP rfl rh rfl ?_
  iterate 15 refine xK rfl rfl ?_
  iterate 2 refine xP rfl rh rfl ?_
  refine xN ?_
  refine xT ⟨_,fun _ _=>rfl,?_⟩
  exact ⟨rfl,rfl⟩
 | cons k r =>
  have hb:ieqB (((k::r).length:Nat):Int) 0=false:=by rw [ieqB_eq]; simp; omega
  have hlast:(tx (k::r))[r.length]?=some (txt ((k::r).getLastD [])):=by
   have h1:∀ (k:Tx) (r:List Tx),(k::r)[r.length]?=some ((k::r).getLastD []):=fun k r=>by
    induction r generalizing k with
    | nil=>rfl
    | cons b r ih =>
     have hl:(k::b::r).getLastD []=(b::r).getLastD []:=by simp [List.getLastD]
     rw [hl,List.length_cons,List.getElem?_cons_succ]
     exact ih b
   have:=h1 k r
   simp only [tx,List.getElem?_map,this,Option.map_some]
  have hlen:(k::r).length=r.length+1:=rfl
  repeat refine xQ ?_
  refine xG rfl ?_
  refine xP rfl rh rfl ?_
  refine xP rfl (e_len hv rfl rfl rfl rfl rfl) rfl ?_
  refine xP rfl (e_ib rh (hb)) rfl ?_
  iterate 2 refine xP rfl rh rfl ?_
  refine OS.at1 (j:=0) (hv) ((show (tx (k::r))[0]?=some (txt k) from rfl)) rfl rfl rfl rfl rfl rfl (fun ra0 oa0 rowa0 csa0 ma0 ca0 ga0=>⟨_,rfl,?_⟩)
  refine xR rfl (e_loadm ma0 ca0 rfl rfl (part_one rfl ga0)) rfl ?_
  refine xP rfl rh rfl ?_
  cases hk:leT fr k with
  | false =>
   refine xP rfl (e_ib rh ((leT_not.trans hk))) rfl ?_
   refine xP rfl rh rfl ?_
   iterate 8 refine xK rfl rfl ?_
   iterate 3 refine xP rfl rh rfl ?_
   refine xN ?_
   refine xT ⟨_,fun _ _=>rfl,?_⟩
   refine ⟨?_,rfl⟩
   simp only [btw,hk,Bool.false_and]; rfl
  | true =>
   refine xP rfl (e_ib rh ((leT_not.trans hk))) rfl ?_
   iterate 3 refine xP rfl rh rfl ?_
   refine xP rfl (e_len hv rfl rfl rfl rfl rfl) rfl ?_
   refine xP rfl (e_is (e_sub (n:=1) rfl rfl rfl (in_i64 (by omega) (by omega))) (congrArg (Value.int .i64) (show (((k::r).length:Nat):Int) - 1=((r.length:Nat):Int) by rw [hlen]; omega))) rfl ?_
   refine OS.at1 (j:=r.length) (hv) (hlast) rfl rfl rfl rfl rfl rfl (fun ra1 oa1 rowa1 csa1 ma1 ca1 ga1=>⟨_,rfl,?_⟩)
   refine xR rfl (e_loadm ma1 ca1 rfl rfl (part_one rfl ga1)) rfl ?_
   refine xP rfl rh rfl ?_
   refine xA noGo rfl (fun _=>rfl) ((below_ct).mono ?_)
   rintro u L' ⟨rfl,rfl⟩
   refine ⟨_,rfl,?_⟩
   iterate 3 refine xP rfl rh rfl ?_
   refine xN ?_
   refine xT ⟨_,fun _ _=>rfl,?_⟩
   refine ⟨?_,rfl⟩
   simp only [btw,hk,Bool.true_and]; rfl
abbrev imRow (v:Value):ARow:=.cells 28 [v]
abbrev l4Row (r3 r5 r7 r8:Nat):ARow:=.cells 103 [.func (.func 56) #[] #[ptr r3,ptr r5,ptr r7,ptr r8]]
def ImgR (F:RL) (v:Value) (imgs:List Tx):Prop:=∃ vs:List Value,SV 1 F v imgs.length vs/\∀ i,i < imgs.length->∃ w,vs[i]?=some w/\BV F w (imgs.getD i [])
theorem ImgR.mono {F F':RL} {v:Value} {imgs:List Tx} (h:ImgR F v imgs) (hm:∀ p,p∈F->p∈F'):ImgR F' v imgs:=by
 obtain ⟨vs,h1,h2⟩:=h
 refine ⟨vs,h1.mono hm,fun i hi=>?_⟩
 obtain ⟨w,h3,h4⟩:=h2 i hi
 exact ⟨w,h3,h4.mono hm⟩
structure LkG (c:Cfg) (G:RL) (r3 r5 r7 r8:Nat) (v:Value) (imgs:List Tx):Prop where
 m3:(r3,tpRow c.rt)∈G
 m5:(r5,imRow v)∈G
 m8:(r8,l4Row r3 r5 r7 r8)∈G
 im:ImgR G v imgs
 N:imgs.length=c.N
def imF (imgs:List Tx):Nat->List UInt8:=fun q=>imgs.getD q []
def FailL (c:Cfg) (G:RL) (r7:Nat) (L':RL):Prop:=∃ T root cnt es ck ws wk X' lv,L'=(r7,iRow lv)::HD c.rf c.rb c.rt c.rn c.rw T root cnt c.root0 c.cnt0 es ck ws wk (G++X')
def LkPost (c:Cfg) (G X:RL) (r7:Nat) (root:Int) (m:Mem) (o:Option RSt) (u:Value) (L':RL):Prop :=
 (o=none/\u=.bool false/\FailL c G r7 L')∨∃ σ' X' rows',o=some σ'/\u=.bool true/\(∀ q,q∈X->q∈X')/\TR c G X' ⟨σ'.m,root,(σ'.cnt:Nat)⟩ rows'/\L'=(r7,iRow (σ'.lv:Nat))::rows'/\frM c.N σ'.m < frM c.N m/\σ'.cnt+300 * frM c.N σ'.m<=300 * c.N
def LookC (f:Nat):Prop:=∀ (c:Cfg) (G X:RL) (r3 r5 r7 r8:Nat) (v:Value) (imgs:List Tx) (m:Mem) (root:Int) (cnt lv:Nat) (rows:RL) (z:Int) (d:Nat) (fr to:Tx),LkG c G r3 r5 r7 r8 v imgs->TR c G X ⟨m,root,(cnt:Nat)⟩ rows->frM c.N m < f->cnt+300 * frM c.N m<=300 * c.N->d+f<=1000000 →
 CS Tryz.prog 56 [.int .i64 z,.int .i64 (d:Nat),txt fr,txt to,ptr r3,ptr r5,ptr r7,ptr r8] ((r7,iRow (lv:Nat))::rows) (LkPost c G X r7 root m (lookF c.N (imF imgs) f ⟨m,cnt,lv⟩ z d fr to))
theorem look_fail {N f:Nat} {img:Nat->List UInt8} {σ:RSt} {z:Int} {d:Nat} {fr to:Tx} (h:¬ (0<=z/\z < N/\σ.m z.toNat=none)):lookF N img (f+1) σ z d fr to=none:=by rw [lookF,if_neg h]
theorem look_dec {N f p:Nat} {img:Nat->List UInt8} {σ:RSt} {d:Nat} {fr to:Tx} (h1:p < N) (h2:σ.m p=none) (h3:decB (img p)=none):lookF N img (f+1) σ (p:Nat) d fr to=none:=by
 rw [lookF,if_pos ⟨by omega,by omega,by simpa using h2⟩]
 simp only [Int.toNat_natCast,h3]
theorem look_go {N f p:Nat} {img:Nat->List UInt8} {σ:RSt} {d:Nat} {fr to:Tx} {n:Nd} (h1:p < N) (h2:σ.m p=none) (h3:decB (img p)=some n):lookF N img (f+1) σ (p:Nat) d fr to=if btw n.ks fr to=true then
     (if n.leaf=true then (if n.ks≠[]/\(σ.lv=0∨σ.lv=d) then some ⟨updM σ.m p (some n),σ.cnt+n.ks.length,d⟩ else none)
      else kidsF (fun σ z fr to=>lookF N img f σ z (d+1) fr to) n.ks n.kids fr to ⟨updM σ.m p (some n),σ.cnt,σ.lv⟩)
    else none:=by
 rw [lookF,if_pos ⟨by omega,by omega,by simpa using h2⟩]
 simp only [Int.toNat_natCast,h3]
theorem claim_ok {T:List Bool} {z:Int}:claimE T z=0↔0<=z/\z < T.length/\tkn T z.toNat=false:=by
 unfold claimE
 constructor
 ·intro h
  split at h
  ·rename_i hz
   split at h
   ·cases h
   ·rename_i ht
    exact ⟨hz.1,hz.2,by simpa using ht⟩
  ·cases h
 ·rintro ⟨h1,h2,h3⟩
  rw [if_pos ⟨h1,h2⟩,if_neg (by rw [h3]; decide)]
theorem pg_claim {X:RL} {T:List Bool} {es ws:List MapEntry} {ck wk p:Nat} {m m0:Mem} (h:Pg X T es ck ws wk m m0) (hp:p < T.length):PgE [p] X (T.set p true) es ck ws wk m m0 :=
 ⟨by rw [List.length_set]; exact h.N,fun i hi hE=>by
  rw [List.length_set] at hi
  rw [tkn_set hp i,if_neg (fun hh=>hE (by rw [hh]; simp))]
  exact h.tk i hi (by simp),fun i hi=>by rw [List.length_set]; exact h.dom i hi,fun i hi=>by rw [List.length_set]; exact h.dom0 i hi,h.now,h.was,h.sm,h.sm0⟩
theorem pn_of_read {X L' M:RL} {n:Nd} {u:Value} (hB:NB n) (h:RdN M n u L'):∃ m1 m2 m3 Z,u=ndV n.leaf m1 m2 m3/\L'=Z++M/\PN Z n m1 m2 m3:=by
 obtain ⟨m1,m2,m3,R1,Rb,rfl,rfl,hk,hor⟩:=h
 have b1:=hB.k; have b2:=hB.v; have b3:=hB.z
 refine ⟨m1,m2,m3,R1++Rb,rfl,by rw [List.append_assoc],?_⟩
 have k1:=(hk.ol (show n.ks.length<=openCap by unfold openCap; omega)).pl.mono (Y:=R1++Rb) fun p hp=>List.mem_append_left _ hp
 rcases hor with ⟨_,hg,rfl,he⟩ | ⟨_,hg,rfl,he⟩
 ·exact ⟨k1,(hg.ol (show n.vs.length<=openCap by unfold openCap; omega)).pl.mono (fun p hp=>List.mem_append_right _ hp),by rw [he]; exact pl_nil⟩
 ·exact ⟨k1,by rw [he]; exact pl_nil,(hg.ol (show n.kids.length<=openCap by unfold openCap; omega)).pl.mono (fun p hp=>List.mem_append_right _ hp)⟩
theorem nb_sm {n:Nd} (h:NB n):Sm n:=⟨by have:=h.k; omega,by have:=h.v; omega,by have:=h.z; omega,fun k hk=>by have:=h.kl k hk; omega,fun k hk=>by have:=h.vl k hk; omega⟩
end Go.Proofs.YtlmmddfhoabjfaaGreat
end
section
namespace Go.Proofs.YtlmmddfhoabjfaaGreat
open Go.Am
theorem lookC_0:LookC 0:=by
 intro c G X r3 r5 r7 r8 v imgs m root cnt lv rows z d fr to hk htr hfr
 omega
set_option maxHeartbeats 8000000 in
theorem lookC_s {f:Nat} (ih:LookC f):LookC (f+1):=by
 intro c G X r3 r5 r7 r8 v imgs m root cnt lv rows z d fr to hk htr hfr hcb hdb
 have hN32:=htr.N
 have hGL:=htr.memG
 obtain ⟨T,es,ck,ws,wk,hN,rfl,hp⟩:=htr
 simp only at hp hN32 ⊢
 have mG:∀ q,q∈G->q∈(r7,iRow (lv:Nat))::HD c.rf c.rb c.rt c.rn c.rw T root (cnt:Nat) c.root0 c.cnt0 es ck ws wk (G++X):=fun q hq=>List.mem_cons_of_mem _ (hGL q hq)
 refine CS.mk (fn:=Tryz.f56) rfl rfl rfl rfl ?_
 repeat refine xQ ?_
 refine xG rfl ?_
 refine xP rfl rh rfl ?_
 refine xN ?_
 repeat refine xQ ?_
 refine xG rfl ?_
 refine xR rfl (e_loadm (mG _ hk.m3) rfl rfl rfl rfl) rfl ?_
 iterate 3 refine xP rfl rh rfl ?_
 refine xR rfl (e_loadm (row:=trRow c.rf c.rn c.rw root (cnt:Nat) c.root0 c.cnt0) (r:=c.rt) (by simp) rfl rfl rfl rfl) rfl ?_
 refine xP rfl rh rfl ?_
 refine OS.sub (Sub.pulls [2,2] rfl) ?_
 refine xA noGo rfl (fun _=>rfl) ((Claim_ct (by omega) z).mono ?_)
 rintro u L' ⟨rfl,rfl⟩
 refine ⟨_,rfl,?_⟩
 by_cases hc:0<=z/\z < c.N/\m z.toNat=none
 case' neg =>
  have hce:claimE T z≠0:=fun hh=>hc (by
   obtain ⟨a,b,e⟩:=claim_ok.1 hh
   refine ⟨a,by omega,?_⟩
   have:=hp.tk z.toNat (by omega) (by simp)
   rw [e] at this
   cases hm:m z.toNat with
   | none=>rfl
   | some n=>rw [hm] at this; cases this)
  have hb:(!ieqB (claimE T z) 0)=true:=by rw [ieqB_eq]; simp [hce]
  refine xP rfl (e_ib rh (hb)) rfl ?_
  refine xN ?_
  repeat refine xQ ?_
  refine xC rfl (fun hc2=>?_) (fun hc2=>?_)
  ·repeat refine xQ ?_
   refine xG rfl ?_
   refine xP rfl rh rfl ?_
   refine xN ?_
   refine LS.sub (Sub.sums (A:=(r7,iRow (lv:Nat))::HD c.rf c.rb c.rt c.rn c.rw (claimS T z) root (cnt:Nat) c.root0 c.cnt0 es ck ws wk (G++X)) (B:=fm c.rf c.rb (claimS T z) ((r7,iRow (lv:Nat))::(c.rt,trRow c.rf c.rn c.rw root (cnt:Nat) c.root0 c.cnt0)::(c.rn,.map es ck)::(c.rw,.map ws wk)::(G++X))) fun f=>by simp [HD,fm]<;>omega) ?_
   refine xT ⟨_,fun _ _=>rfl,?_⟩
   exact .inl ⟨look_fail hc,rfl,_,_,_,_,_,_,_,X,_,rfl⟩
  ·cases hc2
 obtain ⟨hz0,hzN,hzm⟩:=hc
 obtain ⟨p,rfl⟩:∃ p:Nat,z=p:=⟨z.toNat,by omega⟩
 simp only [Int.toNat_natCast] at hzm
 have hpN:p < T.length:=by omega
 have hpN':p < c.N:=by omega
 have htk:tkn T p=false:=by have:=hp.tk p hpN (by simp); rw [hzm] at this; exact this
 have hce:claimE T (p:Nat)=0:=claim_ok.2 ⟨by omega,by omega,by simpa using htk⟩
 have hcs:claimS T (p:Nat)=T.set p true:=by unfold claimS; rw [if_pos hce]; rfl
 rw [hce,hcs]
 refine xP rfl rh rfl ?_
 refine xN ?_
 repeat refine xQ ?_
 refine xC rfl (fun hc2=>?_) (fun hc2=>?_)
 ·cases hc2
 refine LS.skip ?_
 have h1:=pg_claim hp hpN
 obtain ⟨vs',him1,him2⟩:=hk.im
 obtain ⟨w,hw1,hw2⟩:=him2 p (by rw [hk.N]; omega)
 have mG1:∀ q,q∈G->q∈fm c.rf c.rb (T.set p true) ((r7,iRow (lv:Nat))::(c.rt,trRow c.rf c.rn c.rw root (cnt:Nat) c.root0 c.cnt0)::(c.rn,.map es ck)::(c.rw,.map ws wk)::(G++X)):=fun q hq=>by simp [hq]
 have him3:=him1.mono mG1
 repeat refine xQ ?_
 refine xG rfl ?_
 refine xR rfl (e_loadm (mG1 _ hk.m5) rfl rfl rfl rfl) rfl ?_
 refine xP rfl rh rfl ?_
 refine OS.at1 (j:=p) (him3) (hw1) rfl rfl rfl rfl rfl rfl (fun ra0 oa0 rowa0 csa0 ma0 ca0 ga0=>⟨_,rfl,?_⟩)
 refine xR rfl (e_loadm ma0 ca0 rfl rfl (part_one rfl ga0)) rfl ?_
 refine xA noGo rfl (fun _=>rfl) ((Decode_any (hw2.mono mG1)).mono ?_)
 rintro u L' hdec
 rcases hdec with ⟨hd,rfl,rfl⟩ | ⟨n,un,hd,hB,rfl,hrd⟩
 ·refine ⟨_,rfl,?_⟩
  iterate 3 refine xP rfl rh rfl ?_
  refine OS.fresh rfl (e_new (fun _=>rfl) rfl) (fun _=>rfl) (fun r13=>?_)
  refine OS.write rfl (e_store 0 rfl rfl rfl rfl rfl rfl rfl rfl) rfl ?_
  refine xP rfl rh rfl ?_
  refine xN ?_
  repeat refine xQ ?_
  refine xG rfl ?_
  iterate 3 refine xP rfl rh rfl ?_
  iterate 6 refine xK rfl rfl ?_
  refine xP rfl rh rfl ?_
  refine xN ?_
  repeat refine xQ ?_
  refine xC rfl (fun hc3=>?_) (fun hc3=>?_)
  ·repeat refine xQ ?_
   refine xG rfl ?_
   refine xP rfl rh rfl ?_
   refine xN ?_
   refine LS.sub (Sub.sums (A:=(r7,iRow (lv:Nat))::HD c.rf c.rb c.rt c.rn c.rw (T.set p true) root (cnt:Nat) c.root0 c.cnt0 es ck ws wk (G++((r13,ndRow false (.slice none 0 0) (.slice none 0 0) (.slice none 0 0))::X))) (B:=(r13,ndRow false (.slice none 0 0) (.slice none 0 0) (.slice none 0 0))::fm c.rf c.rb (T.set p true) ((r7,iRow (lv:Nat))::(c.rt,trRow c.rf c.rn c.rw root (cnt:Nat) c.root0 c.cnt0)::(c.rn,.map es ck)::(c.rw,.map ws wk)::(G++X))) fun f=>by simp [HD,fm]<;>omega) ?_
   refine xT ⟨_,fun _ _=>rfl,?_⟩
   exact .inl ⟨look_dec hpN' hzm hd,rfl,_,_,_,_,_,_,_,_,_,rfl⟩
  ·cases hc3
 obtain ⟨m1,m2,m3,Z,rfl,rfl,hPN⟩:=pn_of_read (X:=X) hB hrd
 have s1:=pl_one hPN.k
 have s2:=pl_one hPN.v
 have s3:=pl_one hPN.z
 have b1:=hB.k; have b2:=hB.v; have b3:=hB.z
 refine ⟨_,rfl,?_⟩
 iterate 3 refine xP rfl rh rfl ?_
 refine OS.fresh rfl (e_new (fun _=>rfl) rfl) (fun _=>rfl) (fun r13=>?_)
 refine OS.write rfl (e_store 0 (n:=4) rfl rfl rfl rfl rfl (nd_one s1 s2 s3) rfl rfl) rfl ?_
 refine xP rfl rh rfl ?_
 refine xN ?_
 refine LS.sub (Sub.sums (A:=HD c.rf c.rb c.rt c.rn c.rw (T.set p true) root (cnt:Nat) c.root0 c.cnt0 es ck ws wk (((r7,iRow (lv:Nat))::G)++((r13,ndRow n.leaf m1 m2 m3)::(Z++X)))) (B:=(r13,ndRow n.leaf m1 m2 m3)::(Z++fm c.rf c.rb (T.set p true) ((r7,iRow (lv:Nat))::(c.rt,trRow c.rf c.rn c.rw root (cnt:Nat) c.root0 c.cnt0)::(c.rn,.map es ck)::(c.rw,.map ws wk)::(G++X)))) fun f=>by simp [HD,fm]<;>omega) ?_
 have hX1:∀ q,q∈X->q∈(r13,ndRow n.leaf m1 m2 m3)::(Z++X):=fun q hq=>by simp [hq]
 have hZ1:∀ q,q∈Z->q∈(r13,ndRow n.leaf m1 m2 m3)::(Z++X):=fun q hq=>by simp [hq]
 have m13:(r13,ndRow n.leaf m1 m2 m3)∈HD c.rf c.rb c.rt c.rn c.rw (T.set p true) root (cnt:Nat) c.root0 c.cnt0 es ck ws wk (((r7,iRow (lv:Nat))::G)++((r13,ndRow n.leaf m1 m2 m3)::(Z++X))):=by simp
 have hPN1:=hPN.mono hZ1
 have hsv0:SV 1 (HD c.rf c.rb c.rt c.rn c.rw (T.set p true) root (cnt:Nat) c.root0 c.cnt0 es ck ws wk (((r7,iRow (lv:Nat))::G)++((r13,ndRow n.leaf m1 m2 m3)::(Z++X)))) m1 n.ks.length (tx n.ks):=hPN.k.sv.mono fun q hq=>by simp [hq]
 repeat refine xQ ?_
 refine xG rfl ?_
 iterate 4 refine xP rfl rh rfl ?_
 refine xR rfl (e_loadm m13 rfl rfl rfl rfl) rfl ?_
 iterate 2 refine xP rfl rh rfl ?_
 refine xA noGo rfl (fun _=>rfl) ((between_ct hsv0 (by omega)).mono ?_)
 rintro u L' ⟨rfl,rfl⟩
 refine ⟨_,rfl,?_⟩
 iterate 2 refine xP rfl rh rfl ?_
 refine xN ?_
 have hgo:=look_go (f:=f) (N:=c.N) (img:=imF imgs) (σ:=⟨m,cnt,lv⟩) (d:=d) (fr:=fr) (to:=to) hpN' hzm hd
 cases hbt:btw n.ks fr to with
 | false =>
  repeat refine xQ ?_
  refine xC rfl (fun hc3=>?_) (fun hc3=>?_)
  ·repeat refine xQ ?_
   refine xG rfl ?_
   refine xP rfl rh rfl ?_
   refine xN ?_
   refine LS.sub (Sub.sums (A:=(r7,iRow (lv:Nat))::HD c.rf c.rb c.rt c.rn c.rw (T.set p true) root (cnt:Nat) c.root0 c.cnt0 es ck ws wk (G++((r13,ndRow n.leaf m1 m2 m3)::(Z++X)))) (B:=HD c.rf c.rb c.rt c.rn c.rw (T.set p true) root (cnt:Nat) c.root0 c.cnt0 es ck ws wk (((r7,iRow (lv:Nat))::G)++((r13,ndRow n.leaf m1 m2 m3)::(Z++X)))) fun f=>by simp [HD,fm]<;>omega) ?_
   refine xT ⟨_,fun _ _=>rfl,?_⟩
   exact .inl ⟨by rw [hgo,hbt]; rfl,rfl,_,_,_,_,_,_,_,_,_,rfl⟩
  ·cases hc3
 | true =>
  rw [if_pos hbt] at hgo
  rw [hgo]
  repeat refine xQ ?_
  refine xC rfl (fun hc3=>?_) (fun hc3=>?_)
  ·cases hc3
  refine LS.skip ?_
  repeat refine xQ ?_
  refine xG rfl ?_
  refine xR rfl (e_loadm (r:=r3) (row:=tpRow c.rt) (by simp [hk.m3]) rfl rfl rfl rfl) rfl ?_
  iterate 3 refine xP rfl rh rfl ?_
  refine xA noGo rfl (fun _=>rfl) ((lay_ct (G:=(r7,iRow (lv:Nat))::G) (o:=some n) (h1.mono hX1) (fun i hi=>by simpa using hi) (by rw [List.length_set]; exact hpN) ⟨r13,rfl,m1,m2,m3,List.mem_cons_self ..,hPN1⟩ (fun n' hn=>by cases hn; exact nb_sm hB)).mono ?_)
  rintro u L' ⟨T',es',ck',ws',wk',hl',hfr',rfl,hp'⟩
  refine ⟨_,rfl,?_⟩
  refine xN ?_
  refine LS.sub (Sub.sums (A:=(r7,iRow (lv:Nat))::HD c.rf c.rb c.rt c.rn c.rw T' root (cnt:Nat) c.root0 c.cnt0 es' ck' ws' wk' (G++((r13,ndRow n.leaf m1 m2 m3)::(Z++X)))) (B:=HD c.rf c.rb c.rt c.rn c.rw T' root (cnt:Nat) c.root0 c.cnt0 es' ck' ws' wk' (((r7,iRow (lv:Nat))::G)++((r13,ndRow n.leaf m1 m2 m3)::(Z++X)))) fun f=>by simp [HD,fm]<;>omega) ?_
  rw [List.length_set] at hl'
  have htr1:TR c G ((r13,ndRow n.leaf m1 m2 m3)::(Z++X)) ⟨updM m p (some n),root,(cnt:Nat)⟩ (HD c.rf c.rb c.rt c.rn c.rw T' root (cnt:Nat) c.root0 c.cnt0 es' ck' ws' wk' (G++((r13,ndRow n.leaf m1 m2 m3)::(Z++X)))):=⟨T',es',ck',ws',wk',by rw [hl',hN],rfl,hp'⟩
  have hfm:=frM_new (n':=n) hpN' hzm
  have m13':∀ lv' cnt',(r13,ndRow n.leaf m1 m2 m3)∈(r7,iRow lv')::HD c.rf c.rb c.rt c.rn c.rw T' root cnt' c.root0 c.cnt0 es' ck' ws' wk' (G++((r13,ndRow n.leaf m1 m2 m3)::(Z++X))):=fun _ _=>by simp
  have hsv1:∀ lv' cnt',SV 1 ((r7,iRow lv')::HD c.rf c.rb c.rt c.rn c.rw T' root cnt' c.root0 c.cnt0 es' ck' ws' wk' (G++((r13,ndRow n.leaf m1 m2 m3)::(Z++X)))) m1 n.ks.length (tx n.ks):=fun _ _=>hPN.k.sv.mono fun q hq=>by simp [hq]
  repeat refine xQ ?_
  refine xG rfl ?_
  refine xP rfl rh rfl ?_
  refine xR rfl (e_loadm (m13' _ _) rfl rfl rfl rfl) rfl ?_
  refine xN ?_
  obtain ⟨lf',ks,vs,kids⟩:=n
  simp only at b1 b2 b3 hPN hPN1 hsv1 hbt ⊢
  cases lf' with
  | true =>
   repeat refine xQ ?_
   refine xC rfl (fun hc4=>?_) (fun hc4=>?_)
   ·have hbl:ieqB ((lv:Nat):Int) 0=decide (lv=0):=by rw [ieqB_eq]; by_cases h:lv=0 <;> simp [h] <;> omega
    repeat refine xQ ?_
    refine xG rfl ?_
    refine xR rfl (e_load 0 rfl rfl rfl rfl rfl) rfl ?_
    refine xP rfl (e_ib rh (hbl)) rfl ?_
    refine xN ?_
    repeat refine xQ ?_
    refine LS.mid [1,4,6,13] (fun a' L'=>L'=(r7,iRow ((if lv=0 then d else lv:Nat):Int))::HD c.rf c.rb c.rt c.rn c.rw T' root (cnt:Nat) c.root0 c.cnt0 es' ck' ws' wk' (G++((r13,ndRow true m1 m2 m3)::(Z++X)))/\a'=[jn,.int .i64 (d:Nat),jn,jn,ptr r3,jn,ptr r7,jn,jn,jn,jn,jn,jn,ptr r13,jn,jn,jn,jn,jn,jn,jn,jn,jn,jn,jn,jn,jn,jn,jn,jn,jn,jn,jn,jn,jn,jn,jn,jn,jn,jn,jn,jn,jn,jn,jn,jn,jn,jn,jn,jn,jn,jn,jn,jn,jn,jn,jn,jn,jn,jn,jn,jn,jn,jn,jn,jn,jn,jn,jn,jn,jn,jn,jn,jn,jn,jn,jn,jn,jn,jn,jn,jn,jn,jn,jn,jn,jn,jn,jn,jn,jn,jn,jn,jn,jn,jn,jn,jn,jn,jn,jn,jn,jn,jn]) ?_ ?_
    ·by_cases hl0:lv=0
     ·rw [decide_eq_true hl0,if_pos hl0]
      refine xC rfl (fun hc=>?_) (fun hc=>by cases hc)
      repeat refine xQ ?_
      refine xG rfl ?_
      refine xP rfl rh rfl ?_
      refine OS.write rfl (e_store 0 rfl rfl rfl rfl rfl rfl rfl rfl) rfl ?_
      refine xN ?_
      exact ⟨rfl,rfl⟩
     ·rw [decide_eq_false hl0,if_neg hl0]
      refine xC rfl (fun hc=>by cases hc) (fun hc=>?_)
      refine LS.skip ?_
      exact ⟨rfl,rfl⟩
    rintro a' L' ⟨rfl,rfl⟩
    generalize hlv':(if lv=0 then d else lv)=lv'
    repeat refine xQ ?_
    refine LS.drawn noGo mixed [(0,false),(1,false),(2,false),(3,false),(4,false),(5,false),(6,false),(7,false),(8,false),(9,false),(10,false),(11,false),(12,true)] rfl rfl (by kernel_rfl) ?_
    refine xE rfl rfl (e_loadm (r:=r3) (row:=tpRow c.rt) (by simp [hk.m3]) rfl rfl rfl rfl) rfl ?_
    iterate 3 refine xD rfl rfl rh rfl ?_
    refine xE rfl rfl (e_loadm (row:=trRow c.rf c.rn c.rw root (cnt:Nat) c.root0 c.cnt0) (r:=c.rt) (by simp) rfl rfl rfl rfl) rfl ?_
    refine xD rfl rfl rh rfl ?_
    refine xE rfl rfl (e_loadm (m13' _ _) rfl rfl rfl rfl) rfl ?_
    refine xD rfl rfl (e_len (hsv1 0 0) rfl rfl rfl rfl rfl) rfl ?_
    refine xD rfl rfl (e_addN (m:=cnt) (n:=ks.length) rfl rfl rfl (in_i64 (by omega) (by omega))) rfl ?_
    iterate 3 refine xD rfl rfl rh rfl ?_
    refine ODS.write rfl rfl (e_store 3 rfl rfl rfl rfl rfl rfl rfl rfl) rfl (by repeat (first | exact Keep.nil | refine Keep.gone rfl ?_)) ?_
    refine xM ?_
    have htr2:TR c G ((r13,ndRow true m1 m2 m3)::(Z++X)) ⟨updM m p (some ⟨true,ks,vs,kids⟩),root,((cnt+ks.length:Nat):Int)⟩ (HD c.rf c.rb c.rt c.rn c.rw T' root ((cnt+ks.length:Nat):Int) c.root0 c.cnt0 es' ck' ws' wk' (G++((r13,ndRow true m1 m2 m3)::(Z++X)))):=⟨T',es',ck',ws',wk',by rw [hl',hN],rfl,hp'⟩
    cases ks with
    | nil =>
     repeat refine xQ ?_
     refine xG rfl ?_
     refine xP rfl rh rfl ?_
     refine xR rfl (e_loadm (m13' _ _) rfl rfl rfl rfl) rfl ?_
     refine xP rfl (e_len (hsv1 0 0) rfl rfl rfl rfl rfl) rfl ?_
     iterate 2 refine xP rfl rh rfl ?_
     iterate 3 refine xK rfl rfl ?_
     iterate 2 refine xP rfl rh rfl ?_
     refine xN ?_
     refine xT ⟨_,fun _ _=>rfl,?_⟩
     exact .inl ⟨by rw [if_pos rfl,if_neg (fun h=>h.1 rfl)],rfl,_,_,_,_,_,_,_,_,_,rfl⟩
    | cons k r =>
     have hb:(!ileB (((k::r).length:Nat):Int) 0)=true:=by rw [ileB_eq,decide_eq_false (by simp only [List.length_cons]; omega)]; rfl
     have hbd:ieqB ((lv':Nat):Int) ((d:Nat):Int)=decide (lv'=d):=ieqN
     repeat refine xQ ?_
     refine xG rfl ?_
     refine xP rfl rh rfl ?_
     refine xR rfl (e_loadm (m13' _ _) rfl rfl rfl rfl) rfl ?_
     refine xP rfl (e_len (hsv1 0 0) rfl rfl rfl rfl rfl) rfl ?_
     refine xP rfl (e_ib rh (hb)) rfl ?_
     refine xP rfl rh rfl ?_
     refine xR rfl (e_load 0 rfl rfl rfl rfl rfl) rfl ?_
     refine xP rfl rh rfl ?_
     refine xP rfl (e_ib rh (hbd)) rfl ?_
     iterate 2 refine xP rfl rh rfl ?_
     refine xN ?_
     by_cases hd':lv'=d
     ·have hor:lv=0∨lv=d:=by
       by_cases h0:lv=0
       ·exact .inl h0
       ·rw [if_neg h0] at hlv'; exact .inr (by omega)
      rw [decide_eq_true hd',hd']
      refine xT ⟨_,fun _ _=>rfl,?_⟩
      refine .inr ⟨_,_,_,by rw [if_pos rfl,if_pos ⟨by simp,hor⟩],rfl,hX1,htr2,rfl,by simp only; omega,by simp only; omega⟩
     ·have hor:¬ (lv=0∨lv=d):=fun h=>hd' (by
       by_cases h0:lv=0
       ·rw [if_pos h0] at hlv'; omega
       ·rw [if_neg h0] at hlv'
        rcases h with h | h
        ·exact absurd h h0
        ·omega)
      rw [decide_eq_false hd']
      refine xT ⟨_,fun _ _=>rfl,?_⟩
      exact .inl ⟨by rw [if_pos rfl,if_neg (fun h=>hor h.2)],rfl,_,_,_,_,_,_,_,_,_,rfl⟩
   ·cases hc4
  | false =>
   repeat refine xQ ?_
   refine xC rfl (fun hc4=>?_) (fun hc4=>?_)
   ·cases hc4
   refine LS.skip ?_
   rw [if_neg (by decide)]
   have hX1':∀ q,q∈(r13,ndRow false m1 m2 m3)::(Z++X)->q∈(r7,iRow (lv:Nat))::HD c.rf c.rb c.rt c.rn c.rw T' root (cnt:Nat) c.root0 c.cnt0 es' ck' ws' wk' (G++((r13,ndRow false m1 m2 m3)::(Z++X))):=fun q hq=>List.mem_cons_of_mem _ (htr1.mem q hq)
   repeat refine xQ ?_
   refine xG rfl ?_
   refine xP rfl rh rfl ?_
   refine xR rfl (e_loadm (m13' _ _) rfl rfl rfl rfl) rfl ?_
   refine xP rfl (e_len (hPN1.z.sv.mono hX1') rfl rfl rfl rfl rfl) rfl ?_
   refine xP rfl rh rfl ?_
   refine xN ?_
   simp only
   repeat refine xQ ?_
   refine LS.mid [] (fun a' L'=>∃ σ' X' rows',kidsF (fun σ z fr to=>lookF c.N (imF imgs) f σ z (d+1) fr to) ks kids fr to ⟨updM m p (some ⟨false,ks,vs,kids⟩),cnt,lv⟩=some σ'/\(∀ q,q∈X->q∈X')/\TR c G X' ⟨σ'.m,root,(σ'.cnt:Nat)⟩ rows'/\L'=(r7,iRow (σ'.lv:Nat))::rows'/\frM c.N σ'.m < frM c.N m/\σ'.cnt+300 * frM c.N σ'.m<=300 * c.N/\a'=[jn,jn,jn,jn,jn,jn,jn,jn,jn,jn,jn,jn,jn,jn,jn,jn,jn,jn,jn,jn,jn,jn,jn,jn,jn,jn,jn,jn,jn,jn,jn,jn,jn,jn,jn,jn,jn,jn,jn,jn,jn,jn,jn,jn,jn,jn,jn,jn,jn,jn,jn,jn,jn,jn,jn,jn,jn,jn,jn,jn,jn,jn,jn,jn,jn,jn,jn,jn,jn,jn,jn,jn,jn,jn,jn,jn,jn,jn,jn,jn,jn,jn,jn,jn,jn,jn,jn,jn,jn,jn,jn,jn,jn,jn,jn,jn,jn,jn,jn,jn,jn,jn,jn,jn]) ?_ ?_
   ·refine LS.block ?_
    refine LS.loopJ [1,2,3,7,13,76,77,78] (fun z' a' L'=>∃ (j:Nat) (frj:Tx) (σ:RSt) (Xj rj:RL),z'=kids.length - j/\j<=kids.length/\(∀ q,q∈(r13,ndRow false m1 m2 m3)::(Z++X)->q∈Xj)/\TR c G Xj ⟨σ.m,root,(σ.cnt:Nat)⟩ rj/\frM c.N σ.m+1<=frM c.N m/\σ.cnt+300 * frM c.N σ.m<=300 * c.N /\
     kidsF (fun σ z fr to=>lookF c.N (imF imgs) f σ z (d+1) fr to) ks kids fr to ⟨updM m p (some ⟨false,ks,vs,kids⟩),cnt,lv⟩=kidsF (fun σ z fr to=>lookF c.N (imF imgs) f σ z (d+1) fr to) (ks.drop j) (kids.drop j) frj to σ/\L'=(r7,iRow (σ.lv:Nat))::rj /\
     a'=[jn,.int .i64 (d:Nat),txt frj,txt to,jn,jn,jn,ptr r8,jn,jn,jn,jn,jn,ptr r13,jn,jn,jn,jn,jn,jn,jn,jn,jn,jn,jn,jn,jn,jn,jn,jn,jn,jn,jn,jn,jn,jn,jn,jn,jn,jn,jn,jn,jn,jn,jn,jn,jn,jn,jn,jn,jn,jn,jn,jn,jn,jn,jn,jn,jn,jn,jn,jn,jn,jn,jn,jn,jn,jn,jn,jn,jn,jn,jn,jn,jn,jn,m3,.int .i64 (kids.length:Nat),.int .i64 (j:Nat),jn,jn,jn,jn,jn,jn,jn,jn,jn,jn,jn,jn,jn,jn,jn,jn,jn,jn,jn,jn,jn,jn,jn,jn,jn]) (n:=kids.length) rfl ⟨0,fr,⟨updM m p (some ⟨false,ks,vs,kids⟩),cnt,lv⟩,_,_,rfl,by omega,fun _ hq=>hq,htr1,by simp only; omega,by simp only; omega,rfl,rfl,rfl⟩ ?_
    rintro z' a' L' ⟨j,frj,σ,Xj,rj,rfl,hj,hXj,htrj,hfj,hcj,hkj,rfl,rfl⟩
    have hXL:∀ q,q∈(r13,ndRow false m1 m2 m3)::(Z++X)->q∈(r7,iRow (σ.lv:Nat))::rj:=fun q hq=>List.mem_cons_of_mem _ (htrj.mem q (hXj q hq))
    have mm:=hXL (r13,ndRow false m1 m2 m3) (List.mem_cons_self ..)
    have hsk:=hPN1.k.sv.mono hXL
    have hsz:=hPN1.z.sv.mono hXL
    simp only at hsk hsz
    by_cases hjk:j < kids.length
    ·have hb:(!ileB ((kids.length:Nat):Int) ((j:Nat):Int))=true:=by rw [ileB_eq,decide_eq_false (by omega)]; rfl
     repeat refine xQ ?_
     refine xG rfl ?_
     refine xP rfl (e_ib rh (hb)) rfl ?_
     refine xN ?_
     repeat refine xQ ?_
     refine xC rfl (fun hc5=>?_) (fun hc5=>?_)
     ·refine LS.skip ?_
      repeat refine xQ ?_
      refine LS.block ?_
      repeat refine xQ ?_
      refine xG rfl ?_
      refine xP rfl rh rfl ?_
      refine OS.at1 (j:=j) (hsz) (nums_at hjk) rfl rfl rfl rfl rfl rfl (fun ra0 oa0 rowa0 csa0 ma0 ca0 ga0=>⟨_,rfl,?_⟩)
      refine xR rfl (e_loadm ma0 ca0 rfl rfl (part_one rfl ga0)) rfl ?_
      iterate 2 refine xP rfl rh rfl ?_
      refine xN ?_
      repeat refine xQ ?_
      refine xG rfl ?_
      iterate 2 refine xP rfl rh rfl ?_
      refine xN ?_
      have hbk:(!ileB ((ks.length:Nat):Int) ((j:Nat):Int))=decide (j < ks.length):=by rw [ileB_eq]; by_cases h:j < ks.length <;> simp [h] <;> omega
      repeat refine xQ ?_
      refine xG rfl ?_
      iterate 2 refine xP rfl rh rfl ?_
      refine xR rfl (e_loadm mm rfl rfl rfl rfl) rfl ?_
      refine xP rfl (e_len hsk rfl rfl rfl rfl rfl) rfl ?_
      refine xP rfl (e_ib rh (hbk)) rfl ?_
      refine xN ?_
      repeat refine xQ ?_
      refine LS.mid [1,2,3,7,13,16,17,76,77,78] (fun a' L'=>L'=(r7,iRow (σ.lv:Nat))::rj/\a'=[jn,.int .i64 (d:Nat),txt frj,txt to,jn,jn,jn,ptr r8,jn,jn,jn,jn,jn,ptr r13,jn,jn,.int .i64 kids[j],txt (endK (ks.drop j) to),jn,jn,jn,jn,jn,jn,jn,jn,jn,jn,jn,jn,jn,jn,jn,jn,jn,jn,jn,jn,jn,jn,jn,jn,jn,jn,jn,jn,jn,jn,jn,jn,jn,jn,jn,jn,jn,jn,jn,jn,jn,jn,jn,jn,jn,jn,jn,jn,jn,jn,jn,jn,jn,jn,jn,jn,jn,jn,m3,.int .i64 (kids.length:Nat),.int .i64 (j:Nat),jn,jn,jn,jn,jn,jn,jn,jn,jn,jn,jn,jn,jn,jn,jn,jn,jn,jn,jn,jn,jn,jn,jn,jn,jn]) ?_ ?_
      ·by_cases hjs:j < ks.length
       ·have he:endK (ks.drop j) to=ks[j]:=by unfold endK; rw [List.drop_eq_getElem_cons hjs]; rfl
        rw [decide_eq_true hjs,he]
        refine xC rfl (fun hc=>?_) (fun hc=>by cases hc)
        repeat refine xQ ?_
        refine xG rfl ?_
        refine xP rfl rh rfl ?_
        refine xR rfl (e_loadm mm rfl rfl rfl rfl) rfl ?_
        refine xP rfl rh rfl ?_
        refine OS.at1 (j:=j) (hsk) (tx_at hjs) rfl rfl rfl rfl rfl rfl (fun ra0 oa0 rowa0 csa0 ma0 ca0 ga0=>⟨_,rfl,?_⟩)
        refine xR rfl (e_loadm ma0 ca0 rfl rfl (part_one rfl ga0)) rfl ?_
        refine xP rfl rh rfl ?_
        refine xN ?_
        exact ⟨rfl,rfl⟩
       ·have he:endK (ks.drop j) to=to:=by unfold endK; rw [List.drop_eq_nil_of_le (by omega)]; rfl
        rw [decide_eq_false hjs,he]
        refine xC rfl (fun hc=>by cases hc) (fun hc=>?_)
        refine LS.skip ?_
        exact ⟨rfl,rfl⟩
      rintro a' L' ⟨rfl,rfl⟩
      have hkd:kids.drop j=kids[j]::kids.drop (j+1):=List.drop_eq_getElem_cons hjk
      rw [hkd,kidsF] at hkj
      repeat refine xQ ?_
      refine xG rfl ?_
      refine xR rfl (e_loadm (List.mem_cons_of_mem _ (htrj.memG _ hk.m8)) rfl rfl rfl rfl) rfl ?_
      iterate 2 refine xP rfl rh rfl ?_
      refine xP rfl (e_addN (n:=1) rfl rfl rfl (in_i64 (by omega) (by omega))) rfl ?_
      iterate 2 refine xP rfl rh rfl ?_
      refine xA noGo rfl (fun _=>rfl) ((ih c G Xj r3 r5 r7 r8 v imgs σ.m root σ.cnt σ.lv rj kids[j] (d+1) frj (endK (ks.drop j) to) hk htrj (by omega) hcj (by omega)).mono ?_)
      rintro u L' hpost
      rcases hpost with ⟨ho,rfl,hfail⟩ | ⟨σ',X',rows',ho,rfl,hX',htr',rfl,hf',hc'⟩
      ·refine ⟨_,rfl,?_⟩
       refine xP rfl rh rfl ?_
       refine xN ?_
       repeat refine xQ ?_
       refine xC rfl (fun hc6=>?_) (fun hc6=>?_)
       ·repeat refine xQ ?_
        refine xG rfl ?_
        refine xP rfl rh rfl ?_
        refine xN ?_
        refine xT ⟨_,fun _ _=>rfl,?_⟩
        refine .inl ⟨?_,rfl,hfail⟩
        rw [hkj]
        have ho':lookF c.N (imF imgs) f σ kids[j] (d+1) frj (endK (ks.drop j) to)=none:=ho
        simp only [ho']
       ·cases hc6
      ·refine ⟨_,rfl,?_⟩
       refine xP rfl rh rfl ?_
       refine xN ?_
       repeat refine xQ ?_
       refine xC rfl (fun hc6=>?_) (fun hc6=>?_)
       ·cases hc6
       refine LS.skip ?_
       repeat refine xQ ?_
       refine xG rfl ?_
       iterate 2 refine xP rfl rh rfl ?_
       refine xN ?_
       repeat refine xQ ?_
       refine xG rfl ?_
       refine xP rfl (e_addN (n:=1) rfl rfl rfl (in_i64 (by omega) (by omega))) rfl ?_
       refine xP rfl rh rfl ?_
       refine xN ?_
       have ho':lookF c.N (imF imgs) f σ kids[j] (d+1) frj (endK (ks.drop j) to)=some σ':=ho
       simp only [ho',List.tail_drop] at hkj
       exact ⟨kids.length - (j+1),by omega,j+1,endK (ks.drop j) to,σ',X',rows',rfl,by omega,fun q hq=>hX' q (hXj q hq),htr',by omega,hc',hkj,rfl,rfl⟩
     ·cases hc5
    ·have hb:(!ileB ((kids.length:Nat):Int) ((j:Nat):Int))=false:=by rw [ileB_eq,decide_eq_true (by omega)]; rfl
     repeat refine xQ ?_
     refine xG rfl ?_
     refine xP rfl (e_ib rh (hb)) rfl ?_
     refine xN ?_
     repeat refine xQ ?_
     refine xC rfl (fun hc5=>?_) (fun hc5=>?_)
     ·cases hc5
     refine LS.exit ?_
     refine ⟨σ,Xj,rj,?_,fun q hq=>hXj q (hX1 q hq),htrj,rfl,by omega,hcj,rfl⟩
     have hkn:kids.drop j=[]:=List.drop_eq_nil_of_le (by omega)
     rw [hkj,hkn]
     cases ks.drop j <;> rfl
   rintro a' L' ⟨σ',X',rows',e1,e2,e3,rfl,e5,e6,rfl⟩
   repeat refine xQ ?_
   refine xG rfl ?_
   refine xP rfl rh rfl ?_
   refine xN ?_
   refine xT ⟨_,fun _ _=>rfl,?_⟩
   exact .inr ⟨σ',X',rows',e1,rfl,e2,e3,rfl,e5,e6⟩
theorem lookC_all:∀ f,LookC f
 | 0=>lookC_0
 | f+1=>lookC_s (lookC_all f)
end Go.Proofs.YtlmmddfhoabjfaaGreat
end
section
namespace Go.Proofs.YtlmmddfhoabjfaaGreat
open Go.Am
theorem Sub.amid {P A Q:RL}:Sub A (P++(A++Q)):=⟨P++Q,List.perm_append_comm_assoc ..⟩
theorem frM_00 {N:Nat}:frM N m00=N:=by
 have:=frees_sum (N:=N) (m:=m00)
 have h0:((List.range N).filter fun i=>(m00 i).isSome)=[]:=List.filter_eq_nil_iff.2 fun i _=>fun h=>by cases h
 rw [h0] at this
 simpa using this
set_option maxHeartbeats 1000000 in
theorem read_tr {c:Cfg} {G X:RL} {root0 root:Int} {L:RL} {v:Value} {imgs:List Tx} (htr:TR c G X ⟨m00,root0,0⟩ L) (him:ImgR G v imgs) (hN:imgs.length=c.N) :
  CS Tryz.prog 42 [ptr c.rt,.int .i64 root,v] L fun u L'=>(lookF c.N (imF imgs) (c.N+1) ⟨m00,0,0⟩ root 1 [] []=none/\u=.bool false/\L'=G)∨∃ σ X',lookF c.N (imF imgs) (c.N+1) ⟨m00,0,0⟩ root 1 [] []=some σ/\u=.bool true/\(∀ q,q∈X->q∈X')/\TR c G X' ⟨σ.m,root,(σ.cnt:Nat)⟩ L':=by
 have hN32:=htr.N
 suffices g:CS Tryz.prog 42 [ptr c.rt,.int .i64 root,v] L fun u L'=>∃ r3 r5 r7 r8,LkPost c ((r8,l4Row r3 r5 r7 r8)::(r5,imRow v)::(r3,tpRow c.rt)::G) X r7 root m00 (lookF c.N (imF imgs) (c.N+1) ⟨m00,0,0⟩ root 1 [] []) u L' by
  refine g.less ?_
  rintro u L' ⟨r3,r5,r7,r8,h⟩
  rcases h with ⟨h1,rfl,T,rt,cn,es,ck,ws,wk,X',lv,rfl⟩ | ⟨σ',X',rows',h1,rfl,h3,h4,rfl,_,_⟩
  ·exact ⟨G,Sub.amid (P:=[_,_,_,_,_,_,_,_,_]) (Q:=X'),.inl ⟨h1,rfl,rfl⟩⟩
  ·obtain ⟨L1,g1,s1⟩:=TR.pops (Y:=[(r8,l4Row r3 r5 r7 r8),(r5,imRow v),(r3,tpRow c.rt)]) h4
   exact ⟨L1,s1.trans Sub.tail,.inr ⟨σ',X',h1,rfl,h3,g1⟩⟩
 obtain ⟨T,es,ck,ws,wk,hT,rfl,hp⟩:=htr
 simp only at hp ⊢
 obtain ⟨vs,him1,him2⟩:=him
 have hsl:=isSl him1
 have hjc:isJ v=false/\v.cells.toList=[v]:=him1.one
 refine CS.mk (fn:=Tryz.f42) rfl rfl rfl rfl ?_
 repeat refine xQ ?_
 refine xG rfl ?_
 refine OS.fresh rfl (e_boxV (v:=ptr c.rt) (cs:=[ptr c.rt]) rfl rfl rfl rfl rfl) (fun _=>rfl) (fun r3=>?_)
 refine OS.fresh rfl (e_boxV (v:=v) (cs:=[v]) rfl rfl hjc.1 hjc.2 rfl) (fun _=>rfl) (fun r5=>?_)
 refine xP rfl rh rfl ?_
 refine xN ?_
 repeat refine xQ ?_
 refine xG rfl ?_
 refine xR rfl (e_load 1 rfl rfl rfl rfl rfl) rfl ?_
 iterate 4 refine xP rfl rh rfl ?_
 refine OS.write rfl (e_store 4 rfl rfl rfl rfl rfl rfl rfl rfl) rfl ?_
 refine xN ?_
 repeat refine xQ ?_
 refine xG rfl ?_
 refine OS.fresh rfl (e_new (fun _=>rfl) rfl) (fun _=>rfl) (fun r7=>?_)
 refine OS.write rfl (e_store 0 rfl rfl rfl rfl rfl rfl rfl rfl) rfl ?_
 refine xN ?_
 repeat refine xQ ?_
 refine xG rfl ?_
 refine OS.fresh rfl (e_new (fun _=>rfl) rfl) (fun _=>rfl) (fun r8=>?_)
 refine xN ?_
 repeat refine xQ ?_
 refine xG rfl ?_
 refine xP rfl rh rfl ?_
 refine OS.write rfl (e_store 0 rfl rfl rfl rfl rfl rfl rfl rfl) rfl ?_
 refine xN ?_
 refine LS.sub (Sub.sums (A:=(r7,iRow ((0:Nat):Int))::HD c.rf c.rb c.rt c.rn c.rw T root ((0:Nat):Int) c.root0 c.cnt0 es ck ws wk (((r8,l4Row r3 r5 r7 r8)::(r5,imRow v)::(r3,tpRow c.rt)::G)++X)) (B:=(r8,l4Row r3 r5 r7 r8)::(r7,iRow ((0:Nat):Int))::(r5,imRow v)::(r3,tpRow c.rt)::HD c.rf c.rb c.rt c.rn c.rw T root ((0:Nat):Int) c.root0 c.cnt0 es ck ws wk (G++X)) fun f=>by simp [HD,fm]<;>omega) ?_
 repeat refine xQ ?_
 refine xG rfl ?_
 refine xR rfl (e_loadm (r:=r8) (row:=l4Row r3 r5 r7 r8) (by simp) rfl rfl rfl rfl) rfl ?_
 refine xP rfl rh rfl ?_
 refine xA noGo rfl (fun _=>rfl) ((lookC_all (c.N+1) c ((r8,l4Row r3 r5 r7 r8)::(r5,imRow v)::(r3,tpRow c.rt)::G) X r3 r5 r7 r8 v imgs m00 root 0 0 _ root 1 [] [] ⟨by simp,by simp,by simp,⟨vs,him1.mono (fun q hq=>by simp [hq]),fun i hi=>by obtain ⟨w,h1,h2⟩:=him2 i hi; exact ⟨w,h1,h2.mono (fun q hq=>by simp [hq])⟩⟩,hN⟩ ⟨T,es,ck,ws,wk,hT,rfl,hp⟩ (by rw [frM_00]; omega) (by rw [frM_00]; omega) (by omega)).mono ?_)
 rintro u L' hpost
 refine ⟨_,rfl,?_⟩
 refine xP rfl rh rfl ?_
 refine xN ?_
 refine xT ⟨_,fun _ _=>rfl,?_⟩
 exact ⟨r3,r5,r7,r8,hpost⟩
def OpenR (F:RL) (imgs:List Tx) (root:Int) (u:Value) (L':RL):Prop :=
 ((32768 < imgs.length∨root < -1∨(imgs.length:Int)<=root)/\u=.tuple #[.pointer none,.int .i64 1]/\L'=F) ∨
 (imgs.length<=32768/\-1<=root/\root < imgs.length/\((root≠-1/\lookF imgs.length (imF imgs) (imgs.length+1) ⟨m00,0,0⟩ root 1 [] []=none/\u=.tuple #[.pointer none,.int .i64 4]/\L'=F) ∨
  ∃ (ro:Nat) (c:Cfg) (X:RL) (m:Mem) (cnt:Nat),u=.tuple #[ptr ro,.int .i64 0]/\c.N=imgs.length/\c.m0=m/\c.root0=root/\c.cnt0=(cnt:Nat)/\TR c ((ro,toRow c.rt)::F) X ⟨m,root,(cnt:Nat)⟩ L' /\
   ((root=-1/\m=m00/\cnt=0)∨(root≠-1/\∃ σ,lookF imgs.length (imF imgs) (imgs.length+1) ⟨m00,0,0⟩ root 1 [] []=some σ/\m=σ.m/\cnt=σ.cnt))))
set_option maxHeartbeats 1000000 in
theorem tOpen_ct {F:RL} {v:Value} {imgs:List Tx} {root:Int} (him:ImgR F v imgs):CS Tryz.prog 10 [.int .i64 root,v] F (OpenR F imgs root):=by
 have him0:=him
 obtain ⟨vs,him1,him2⟩:=him
 refine CS.mk (fn:=Tryz.f10) rfl rfl rfl rfl ?_
 repeat refine xQ ?_
 refine xG rfl ?_
 iterate 2 refine xP rfl rh rfl ?_
 refine xN ?_
 by_cases hN:32768 < imgs.length
 ·repeat refine xQ ?_
  refine xG rfl ?_
  refine xP rfl rh rfl ?_
  refine xP rfl (e_len him1 rfl rfl rfl rfl rfl) rfl ?_
  refine xA noGo rfl (fun _=>rfl) ((tNew_wrong (imgs.length:Nat) (.inr (by omega))).mono ?_)
  rintro u L' ⟨rfl,rfl⟩
  refine ⟨_,rfl,?_⟩
  iterate 5 refine xP rfl rh rfl ?_
  refine xN ?_
  repeat refine xQ ?_
  refine xG rfl ?_
  iterate 3 refine xP rfl rh rfl ?_
  iterate 2 refine xK rfl rfl ?_
  iterate 2 refine xP rfl rh rfl ?_
  iterate 4 refine xK rfl rfl ?_
  refine xP rfl rh rfl ?_
  refine xN ?_
  repeat refine xQ ?_
  refine xC rfl (fun hc=>?_) (fun hc=>?_)
  ·repeat refine xQ ?_
   refine xG rfl ?_
   iterate 2 refine xP rfl rh rfl ?_
   refine xN ?_
   refine xT ⟨_,fun _ _=>rfl,?_⟩
   exact .inl ⟨.inl hN,rfl,rfl⟩
  ·cases hc
 repeat refine xQ ?_
 refine xG rfl ?_
 refine xP rfl rh rfl ?_
 refine xP rfl (e_len him1 rfl rfl rfl rfl rfl) rfl ?_
 refine xA noGo rfl (fun _=>rfl) ((tNew_ct imgs.length (by omega)).mono ?_)
 rintro u L' ⟨ro,rf,rb,rt,rn,rw',rfl,htr⟩
 refine ⟨_,rfl,?_⟩
 iterate 5 refine xP rfl rh rfl ?_
 refine xN ?_
 have him2':SV 1 L' v imgs.length vs:=him1.mono fun q hq=>htr.memG _ (List.mem_cons_of_mem _ hq)
 have hdrop:Sub F L':=by
  obtain ⟨T,es,ck,ws,wk,hT,rfl,hp⟩:=htr
  exact Sub.amid (P:=[_,_,_,_,_,_]) (Q:=[])
 have hro:=htr.memG (ro,toRow rt) (List.mem_cons_self ..)
 by_cases h1:root < -1
 ·have hb:(!ileB (-1) root)=true:=by rw [ileB_eq,decide_eq_false (by omega)]; rfl
  repeat refine xQ ?_
  refine xG rfl ?_
  iterate 4 refine xP rfl rh rfl ?_
  refine xP rfl (e_ib rh (hb)) rfl ?_
  iterate 2 refine xP rfl rh rfl ?_
  iterate 4 refine xK rfl rfl ?_
  refine xP rfl rh rfl ?_
  refine xN ?_
  repeat refine xQ ?_
  refine xC rfl (fun hc=>?_) (fun hc=>?_)
  ·repeat refine xQ ?_
   refine xG rfl ?_
   iterate 2 refine xP rfl rh rfl ?_
   refine xN ?_
   refine LS.sub hdrop ?_
   refine xT ⟨_,fun _ _=>rfl,?_⟩
   exact .inl ⟨.inr (.inl h1),rfl,rfl⟩
  ·cases hc
 have hb:(!ileB (-1) root)=false:=by rw [ileB_eq,decide_eq_true (by omega)]; rfl
 by_cases h2:(imgs.length:Int)<=root
 ·have hb2:ileB ((imgs.length:Nat):Int) root=true:=ileB_iff.2 h2
  repeat refine xQ ?_
  refine xG rfl ?_
  iterate 4 refine xP rfl rh rfl ?_
  refine xP rfl (e_ib rh (hb)) rfl ?_
  iterate 4 refine xP rfl rh rfl ?_
  refine xP rfl (e_len him2' rfl rfl rfl rfl rfl) rfl ?_
  refine xP rfl (e_ib rh (hb2)) rfl ?_
  refine xP rfl rh rfl ?_
  refine xN ?_
  repeat refine xQ ?_
  refine xC rfl (fun hc=>?_) (fun hc=>?_)
  ·repeat refine xQ ?_
   refine xG rfl ?_
   iterate 2 refine xP rfl rh rfl ?_
   refine xN ?_
   refine LS.sub hdrop ?_
   refine xT ⟨_,fun _ _=>rfl,?_⟩
   exact .inl ⟨.inr (.inr h2),rfl,rfl⟩
  ·cases hc
 have hb2:ileB ((imgs.length:Nat):Int) root=false:=by rw [ileB_eq,decide_eq_false h2]
 repeat refine xQ ?_
 refine xG rfl ?_
 iterate 4 refine xP rfl rh rfl ?_
 refine xP rfl (e_ib rh (hb)) rfl ?_
 iterate 4 refine xP rfl rh rfl ?_
 refine xP rfl (e_len him2' rfl rfl rfl rfl rfl) rfl ?_
 refine xP rfl (e_ib rh (hb2)) rfl ?_
 refine xP rfl rh rfl ?_
 refine xN ?_
 repeat refine xQ ?_
 refine xC rfl (fun hc=>?_) (fun hc=>?_)
 ·cases hc
 refine LS.skip ?_
 by_cases h3:root=-1
 ·subst h3
  repeat refine xQ ?_
  refine xG rfl ?_
  iterate 3 refine xP rfl rh rfl ?_
  iterate 8 refine xK rfl rfl ?_
  refine xP rfl rh rfl ?_
  refine xN ?_
  repeat refine xQ ?_
  refine xC rfl (fun hc=>?_) (fun hc=>?_)
  ·cases hc
  refine LS.skip ?_
  repeat refine xQ ?_
  refine xG rfl ?_
  iterate 2 refine xP rfl rh rfl ?_
  refine xA noGo rfl (fun _=>rfl) ((tClean_ct htr (List.mem_cons_self ..)).mono ?_)
  rintro u L2 ⟨w,rfl,htr2⟩
  refine ⟨_,rfl,?_⟩
  iterate 2 refine xP rfl rh rfl ?_
  refine xN ?_
  refine xT ⟨_,fun _ _=>rfl,?_⟩
  exact .inr ⟨by omega,by omega,by omega,.inr ⟨ro,_,[],m00,0,rfl,rfl,rfl,rfl,rfl,htr2,.inl ⟨rfl,rfl,rfl⟩⟩⟩
 ·have hb3:(!ieqB root (-1))=true:=by rw [ieqB_eq]; simp [h3]
  repeat refine xQ ?_
  refine xG rfl ?_
  refine xP rfl rh rfl ?_
  refine xP rfl (e_ib rh (hb3)) rfl ?_
  iterate 4 refine xP rfl rh rfl ?_
  refine xR rfl (e_loadm hro rfl rfl rfl rfl) rfl ?_
  iterate 2 refine xP rfl rh rfl ?_
  refine xA noGo rfl (fun _=>rfl) ((read_tr (c:=⟨rf,rb,rt,rn,rw',imgs.length,-1,0,m00⟩) htr (him0.mono fun q hq=>List.mem_cons_of_mem _ hq) rfl).mono ?_)
  rintro u L2 h
  rcases h with ⟨h4,rfl,rfl⟩ | ⟨σ,X',h4,rfl,_,htr2⟩
  ·refine ⟨_,rfl,?_⟩
   iterate 2 refine xP rfl rh rfl ?_
   refine xN ?_
   repeat refine xQ ?_
   refine xC rfl (fun hc=>?_) (fun hc=>?_)
   ·repeat refine xQ ?_
    refine xG rfl ?_
    iterate 2 refine xP rfl rh rfl ?_
    refine xN ?_
    refine LS.sub (Sub.tail (L:=F)) ?_
    refine xT ⟨_,fun _ _=>rfl,?_⟩
    exact .inr ⟨by omega,by omega,by omega,.inl ⟨h3,h4,rfl,rfl⟩⟩
   ·cases hc
  ·refine ⟨_,rfl,?_⟩
   iterate 2 refine xP rfl rh rfl ?_
   refine xN ?_
   repeat refine xQ ?_
   refine xC rfl (fun hc=>?_) (fun hc=>?_)
   ·cases hc
   refine LS.skip ?_
   repeat refine xQ ?_
   refine xG rfl ?_
   iterate 2 refine xP rfl rh rfl ?_
   refine xA noGo rfl (fun _=>rfl) ((tClean_ct htr2 (List.mem_cons_self ..)).mono ?_)
   rintro u L3 ⟨w,rfl,htr3⟩
   refine ⟨_,rfl,?_⟩
   iterate 2 refine xP rfl rh rfl ?_
   refine xN ?_
   refine xT ⟨_,fun _ _=>rfl,?_⟩
   exact .inr ⟨by omega,by omega,by omega,.inr ⟨ro,_,X',σ.m,σ.cnt,rfl,rfl,rfl,rfl,rfl,htr3,.inr ⟨h3,σ,h4,rfl,rfl⟩⟩⟩
end Go.Proofs.YtlmmddfhoabjfaaGreat
end
