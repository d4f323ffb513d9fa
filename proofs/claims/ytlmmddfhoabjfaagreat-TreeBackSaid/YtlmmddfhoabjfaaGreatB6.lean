/- What the proofs lean on, part 6. -/
import Derived.Test.YtlmmddfhoabjfaaGreatB5
set_option linter.unusedVariables false
set_option maxRecDepth 20000
section
namespace Go.Proofs.YtlmmddfhoabjfaaGreat
open Go.Am
theorem Sub.amid {P A Q:RL}:Sub A (P++(A++Q)):=⟨P++Q,List.perm_append_comm_assoc ..⟩
theorem frM_00 {N:Nat}:frM N m00=N:=by
 have:=frees_sum (N:=N) (m:=m00)
 have h0:((List.range N).filter fun i=>(m00 i).isSome)=[]:=List.filter_eq_nil_iff.2 fun i _=>fun h=>by cases h
 rw [h0] at this
 simpa using this
set_option maxHeartbeats 1000000 in
theorem read_tr {c:Cfg} {G X:RL} {root0 root:Int} {L:RL} {v:Value} {imgs:List Tx} (htr:TR c G X ⟨m00,root0,0⟩ L) (him:ImgR G v imgs) (hN:imgs.length=c.N) :
  CS Tryz.prog 42 [ptr c.rt,.int .i64 root,v] L fun u L'=>(lookF c.N (imF imgs) (c.N+1) ⟨m00,0,0⟩ root 1 [] []=none/\u=.bool false/\L'=G)∨∃ σ X',lookF c.N (imF imgs) (c.N+1) ⟨m00,0,0⟩ root 1 [] []=some σ/\u=.bool true/\(∀ q,q∈X->q∈X')/\TR c G X' ⟨σ.m,root,(σ.cnt:Nat)⟩ L':=by
 have hN32:=htr.N
 suffices g:CS Tryz.prog 42 [ptr c.rt,.int .i64 root,v] L fun u L'=>∃ r3 r5 r7 r8,LkPost c ((r8,l4Row r3 r5 r7 r8)::(r5,imRow v)::(r3,tpRow c.rt)::G) X r7 root m00 (lookF c.N (imF imgs) (c.N+1) ⟨m00,0,0⟩ root 1 [] []) u L' by
  refine g.less ?_
  rintro u L' ⟨r3,r5,r7,r8,h⟩
  rcases h with ⟨h1,rfl,T,rt,cn,es,ck,ws,wk,X',lv,rfl⟩ | ⟨σ',X',rows',h1,rfl,h3,h4,rfl,_,_⟩
  ·exact ⟨G,Sub.amid (P:=[_,_,_,_,_,_,_,_,_]) (Q:=X'),.inl ⟨h1,rfl,rfl⟩⟩
  ·obtain ⟨L1,g1,s1⟩:=TR.pops (Y:=[(r8,l4Row r3 r5 r7 r8),(r5,imRow v),(r3,tpRow c.rt)]) h4
   exact ⟨L1,s1.trans Sub.tail,.inr ⟨σ',X',h1,rfl,h3,g1⟩⟩
 obtain ⟨T,es,ck,ws,wk,hT,rfl,hp⟩:=htr
 simp only at hp ⊢
 obtain ⟨vs,him1,him2⟩:=him
 have hsl:=isSl him1
 have hjc:isJ v=false/\v.cells.toList=[v]:=him1.one
 refine CS.mk (fn:=Tryz.f42) rfl rfl rfl rfl ?_
 repeat refine xQ ?_
 refine xG rfl ?_
 refine OS.fresh rfl (e_boxV (v:=ptr c.rt) (cs:=[ptr c.rt]) rfl rfl rfl rfl rfl) (fun _=>rfl) (fun r3=>?_)
 refine OS.fresh rfl (e_boxV (v:=v) (cs:=[v]) rfl rfl hjc.1 hjc.2 rfl) (fun _=>rfl) (fun r5=>?_)
 refine xP rfl rh rfl ?_
 refine xN ?_
 repeat refine xQ ?_
 refine xG rfl ?_
 refine xR rfl (e_load 1 rfl rfl rfl rfl rfl) rfl ?_
 iterate 4 refine xP rfl rh rfl ?_
 refine OS.write rfl (e_store 4 rfl rfl rfl rfl rfl rfl rfl rfl) rfl ?_
 refine xN ?_
 repeat refine xQ ?_
 refine xG rfl ?_
 refine OS.fresh rfl (e_new (fun _=>rfl) rfl) (fun _=>rfl) (fun r7=>?_)
 refine OS.write rfl (e_store 0 rfl rfl rfl rfl rfl rfl rfl rfl) rfl ?_
 refine xN ?_
 repeat refine xQ ?_
 refine xG rfl ?_
 refine OS.fresh rfl (e_new (fun _=>rfl) rfl) (fun _=>rfl) (fun r8=>?_)
 refine xN ?_
 repeat refine xQ ?_
 refine xG rfl ?_
 refine xP rfl rh rfl ?_
 refine OS.write rfl (e_store 0 rfl rfl rfl rfl rfl rfl rfl rfl) rfl ?_
 refine xN ?_
 refine LS.sub (Sub.sums (A:=(r7,iRow ((0:Nat):Int))::HD c.rf c.rb c.rt c.rn c.rw T root ((0:Nat):Int) c.root0 c.cnt0 es ck ws wk (((r8,l4Row r3 r5 r7 r8)::(r5,imRow v)::(r3,tpRow c.rt)::G)++X)) (B:=(r8,l4Row r3 r5 r7 r8)::(r7,iRow ((0:Nat):Int))::(r5,imRow v)::(r3,tpRow c.rt)::HD c.rf c.rb c.rt c.rn c.rw T root ((0:Nat):Int) c.root0 c.cnt0 es ck ws wk (G++X)) fun f=>by simp [HD,fm]<;>omega) ?_
 repeat refine xQ ?_
 refine xG rfl ?_
 refine xR rfl (e_loadm (r:=r8) (row:=l4Row r3 r5 r7 r8) (by simp) rfl rfl rfl rfl) rfl ?_
 refine xP rfl rh rfl ?_
 refine xA noGo rfl (fun _=>rfl) ((lookC_all (c.N+1) c ((r8,l4Row r3 r5 r7 r8)::(r5,imRow v)::(r3,tpRow c.rt)::G) X r3 r5 r7 r8 v imgs m00 root 0 0 _ root 1 [] [] ⟨by simp,by simp,by simp,⟨vs,him1.mono (fun q hq=>by simp [hq]),fun i hi=>by obtain ⟨w,h1,h2⟩:=him2 i hi; exact ⟨w,h1,h2.mono (fun q hq=>by simp [hq])⟩⟩,hN⟩ ⟨T,es,ck,ws,wk,hT,rfl,hp⟩ (by rw [frM_00]; omega) (by rw [frM_00]; omega) (by omega)).mono ?_)
 rintro u L' hpost
 refine ⟨_,rfl,?_⟩
 refine xP rfl rh rfl ?_
 refine xN ?_
 refine xT ⟨_,fun _ _=>rfl,?_⟩
 exact ⟨r3,r5,r7,r8,hpost⟩
def OpenR (F:RL) (imgs:List Tx) (root:Int) (u:Value) (L':RL):Prop :=
 ((32768 < imgs.length∨root < -1∨(imgs.length:Int)<=root)/\u=.tuple #[.pointer none,.int .i64 1]/\L'=F) ∨
 (imgs.length<=32768/\-1<=root/\root < imgs.length/\((root≠-1/\lookF imgs.length (imF imgs) (imgs.length+1) ⟨m00,0,0⟩ root 1 [] []=none/\u=.tuple #[.pointer none,.int .i64 4]/\L'=F) ∨
  ∃ (ro:Nat) (c:Cfg) (X:RL) (m:Mem) (cnt:Nat),u=.tuple #[ptr ro,.int .i64 0]/\c.N=imgs.length/\c.m0=m/\c.root0=root/\c.cnt0=(cnt:Nat)/\TR c ((ro,toRow c.rt)::F) X ⟨m,root,(cnt:Nat)⟩ L' /\
   ((root=-1/\m=m00/\cnt=0)∨(root≠-1/\∃ σ,lookF imgs.length (imF imgs) (imgs.length+1) ⟨m00,0,0⟩ root 1 [] []=some σ/\m=σ.m/\cnt=σ.cnt))))
set_option maxHeartbeats 1000000 in
theorem tOpen_ct {F:RL} {v:Value} {imgs:List Tx} {root:Int} (him:ImgR F v imgs):CS Tryz.prog 10 [.int .i64 root,v] F (OpenR F imgs root):=by
 have him0:=him
 obtain ⟨vs,him1,him2⟩:=him
 refine CS.mk (fn:=Tryz.f10) rfl rfl rfl rfl ?_
 repeat refine xQ ?_
 refine xG rfl ?_
 iterate 2 refine xP rfl rh rfl ?_
 refine xN ?_
 by_cases hN:32768 < imgs.length
 ·repeat refine xQ ?_
  refine xG rfl ?_
  refine xP rfl rh rfl ?_
  refine xP rfl (e_len him1 rfl rfl rfl rfl rfl) rfl ?_
  refine xA noGo rfl (fun _=>rfl) ((tNew_wrong (imgs.length:Nat) (.inr (by omega))).mono ?_)
  rintro u L' ⟨rfl,rfl⟩
  refine ⟨_,rfl,?_⟩
  iterate 5 refine xP rfl rh rfl ?_
  refine xN ?_
  repeat refine xQ ?_
  refine xG rfl ?_
  iterate 3 refine xP rfl rh rfl ?_
  iterate 2 refine xK rfl rfl ?_
  iterate 2 refine xP rfl rh rfl ?_
  iterate 4 refine xK rfl rfl ?_
  refine xP rfl rh rfl ?_
  refine xN ?_
  repeat refine xQ ?_
  refine xC rfl (fun hc=>?_) (fun hc=>?_)
  ·repeat refine xQ ?_
   refine xG rfl ?_
   iterate 2 refine xP rfl rh rfl ?_
   refine xN ?_
   refine xT ⟨_,fun _ _=>rfl,?_⟩
   exact .inl ⟨.inl hN,rfl,rfl⟩
  ·cases hc
 repeat refine xQ ?_
 refine xG rfl ?_
 refine xP rfl rh rfl ?_
 refine xP rfl (e_len him1 rfl rfl rfl rfl rfl) rfl ?_
 refine xA noGo rfl (fun _=>rfl) ((tNew_ct imgs.length (by omega)).mono ?_)
 rintro u L' ⟨ro,rf,rb,rt,rn,rw',rfl,htr⟩
 refine ⟨_,rfl,?_⟩
 iterate 5 refine xP rfl rh rfl ?_
 refine xN ?_
 have him2':SV 1 L' v imgs.length vs:=him1.mono fun q hq=>htr.memG _ (List.mem_cons_of_mem _ hq)
 have hdrop:Sub F L':=by
  obtain ⟨T,es,ck,ws,wk,hT,rfl,hp⟩:=htr
  exact Sub.amid (P:=[_,_,_,_,_,_]) (Q:=[])
 have hro:=htr.memG (ro,toRow rt) (List.mem_cons_self ..)
 by_cases h1:root < -1
 ·have hb:(!ileB (-1) root)=true:=by rw [ileB_eq,decide_eq_false (by omega)]; rfl
  repeat refine xQ ?_
  refine xG rfl ?_
  iterate 4 refine xP rfl rh rfl ?_
  refine xP rfl (e_ib rh (hb)) rfl ?_
  iterate 2 refine xP rfl rh rfl ?_
  iterate 4 refine xK rfl rfl ?_
  refine xP rfl rh rfl ?_
  refine xN ?_
  repeat refine xQ ?_
  refine xC rfl (fun hc=>?_) (fun hc=>?_)
  ·repeat refine xQ ?_
   refine xG rfl ?_
   iterate 2 refine xP rfl rh rfl ?_
   refine xN ?_
   refine LS.sub hdrop ?_
   refine xT ⟨_,fun _ _=>rfl,?_⟩
   exact .inl ⟨.inr (.inl h1),rfl,rfl⟩
  ·cases hc
 have hb:(!ileB (-1) root)=false:=by rw [ileB_eq,decide_eq_true (by omega)]; rfl
 by_cases h2:(imgs.length:Int)<=root
 ·have hb2:ileB ((imgs.length:Nat):Int) root=true:=ileB_iff.2 h2
  repeat refine xQ ?_
  refine xG rfl ?_
  iterate 4 refine xP rfl rh rfl ?_
  refine xP rfl (e_ib rh (hb)) rfl ?_
  iterate 4 refine xP rfl rh rfl ?_
  refine xP rfl (e_len him2' rfl rfl rfl rfl rfl) rfl ?_
  refine xP rfl (e_ib rh (hb2)) rfl ?_
  refine xP rfl rh rfl ?_
  refine xN ?_
  repeat refine xQ ?_
  refine xC rfl (fun hc=>?_) (fun hc=>?_)
  ·repeat refine xQ ?_
   refine xG rfl ?_
   iterate 2 refine xP rfl rh rfl ?_
   refine xN ?_
   refine LS.sub hdrop ?_
   refine xT ⟨_,fun _ _=>rfl,?_⟩
   exact .inl ⟨.inr (.inr h2),rfl,rfl⟩
  ·cases hc
 have hb2:ileB ((imgs.length:Nat):Int) root=false:=by rw [ileB_eq,decide_eq_false h2]
 repeat refine xQ ?_
 refine xG rfl ?_
 iterate 4 refine xP rfl rh rfl ?_
 refine xP rfl (e_ib rh (hb)) rfl ?_
 iterate 4 refine xP rfl rh rfl ?_
 refine xP rfl (e_len him2' rfl rfl rfl rfl rfl) rfl ?_
 refine xP rfl (e_ib rh (hb2)) rfl ?_
 refine xP rfl rh rfl ?_
 refine xN ?_
 repeat refine xQ ?_
 refine xC rfl (fun hc=>?_) (fun hc=>?_)
 ·cases hc
 refine LS.skip ?_
 by_cases h3:root=-1
 ·subst h3
  repeat refine xQ ?_
  refine xG rfl ?_
  iterate 3 refine xP rfl rh rfl ?_
  iterate 8 refine xK rfl rfl ?_
  refine xP rfl rh rfl ?_
  refine xN ?_
  repeat refine xQ ?_
  refine xC rfl (fun hc=>?_) (fun hc=>?_)
  ·cases hc
  refine LS.skip ?_
  repeat refine xQ ?_
  refine xG rfl ?_
  iterate 2 refine xP rfl rh rfl ?_
  refine xA noGo rfl (fun _=>rfl) ((tClean_ct htr (List.mem_cons_self ..)).mono ?_)
  rintro u L2 ⟨w,rfl,htr2⟩
  refine ⟨_,rfl,?_⟩
  iterate 2 refine xP rfl rh rfl ?_
  refine xN ?_
  refine xT ⟨_,fun _ _=>rfl,?_⟩
  exact .inr ⟨by omega,by omega,by omega,.inr ⟨ro,_,[],m00,0,rfl,rfl,rfl,rfl,rfl,htr2,.inl ⟨rfl,rfl,rfl⟩⟩⟩
 ·have hb3:(!ieqB root (-1))=true:=by rw [ieqB_eq]; simp [h3]
  repeat refine xQ ?_
  refine xG rfl ?_
  refine xP rfl rh rfl ?_
  refine xP rfl (e_ib rh (hb3)) rfl ?_
  iterate 4 refine xP rfl rh rfl ?_
  refine xR rfl (e_loadm hro rfl rfl rfl rfl) rfl ?_
  iterate 2 refine xP rfl rh rfl ?_
  refine xA noGo rfl (fun _=>rfl) ((read_tr (c:=⟨rf,rb,rt,rn,rw',imgs.length,-1,0,m00⟩) htr (him0.mono fun q hq=>List.mem_cons_of_mem _ hq) rfl).mono ?_)
  rintro u L2 h
  rcases h with ⟨h4,rfl,rfl⟩ | ⟨σ,X',h4,rfl,_,htr2⟩
  ·refine ⟨_,rfl,?_⟩
   iterate 2 refine xP rfl rh rfl ?_
   refine xN ?_
   repeat refine xQ ?_
   refine xC rfl (fun hc=>?_) (fun hc=>?_)
   ·repeat refine xQ ?_
    refine xG rfl ?_
    iterate 2 refine xP rfl rh rfl ?_
    refine xN ?_
    refine LS.sub (Sub.tail (L:=F)) ?_
    refine xT ⟨_,fun _ _=>rfl,?_⟩
    exact .inr ⟨by omega,by omega,by omega,.inl ⟨h3,h4,rfl,rfl⟩⟩
   ·cases hc
  ·refine ⟨_,rfl,?_⟩
   iterate 2 refine xP rfl rh rfl ?_
   refine xN ?_
   repeat refine xQ ?_
   refine xC rfl (fun hc=>?_) (fun hc=>?_)
   ·cases hc
   refine LS.skip ?_
   repeat refine xQ ?_
   refine xG rfl ?_
   iterate 2 refine xP rfl rh rfl ?_
   refine xA noGo rfl (fun _=>rfl) ((tClean_ct htr2 (List.mem_cons_self ..)).mono ?_)
   rintro u L3 ⟨w,rfl,htr3⟩
   refine ⟨_,rfl,?_⟩
   iterate 2 refine xP rfl rh rfl ?_
   refine xN ?_
   refine xT ⟨_,fun _ _=>rfl,?_⟩
   exact .inr ⟨by omega,by omega,by omega,.inr ⟨ro,_,X',σ.m,σ.cnt,rfl,rfl,rfl,rfl,rfl,htr3,.inr ⟨h3,σ,h4,rfl,rfl⟩⟩⟩
end Go.Proofs.YtlmmddfhoabjfaaGreat
end
section
namespace Go.Proofs.YtlmmddfhoabjfaaGreat
open Go.Am
def PgsR (D:RL) (cs:List Value) (l:List (Nat × Tx)):Prop:=cs.length=l.length * 2/\∀ i p,l[i]?=some p->∃ v,cs[i * 2+0]?=some (.int .i64 (p.1:Nat))/\cs[i * 2+1]?=some v/\SV 1 D v p.2.length (byteCells p.2)
theorem PgsR.mono {D D':RL} {cs:List Value} {l:List (Nat × Tx)} (h:PgsR D cs l) (hm:∀ p,p∈D->p∈D'):PgsR D' cs l :=
 ⟨h.1,fun i p hp=>let ⟨v,h1,h2,h3⟩:=h.2 i p hp; ⟨v,h1,h2,h3.mono hm⟩⟩
theorem PgsR.nil {D:RL}:PgsR D [] []:=⟨rfl,fun i p h=>by simp at h⟩
theorem PgsR.snoc {D:RL} {cs:List Value} {l:List (Nat × Tx)} {q:Nat} {bs:Tx} {v:Value} (h:PgsR D cs l) (hv:SV 1 D v bs.length (byteCells bs)):PgsR D (cs++[.int .i64 (q:Nat),v]) (l++[(q,bs)]):=by
 have hl:=h.1
 refine ⟨by simp; omega,fun i p hp=>?_⟩
 by_cases hi:i < l.length
 ·rw [List.getElem?_append_left hi] at hp
  obtain ⟨v',h1,h2,h3⟩:=h.2 i p hp
  exact ⟨v',by rw [List.getElem?_append_left (by omega)]; exact h1,by rw [List.getElem?_append_left (by omega)]; exact h2,h3⟩
 ·have hi2:i=l.length:=by
   have:=(List.getElem?_eq_some_iff.1 hp).1
   simp at this; omega
  subst hi2
  simp at hp
  subst hp
  refine ⟨v,?_,?_,hv⟩
  ·rw [List.getElem?_append_right (by omega),hl]; simp
  ·rw [List.getElem?_append_right (by omega),hl]; simp
def dirtyOf (m:Mem) (ks:List Nat):List (Nat × Tx):=ks.filterMap fun q=>(m q).map fun n=>(q,encN n)
theorem dirty_snoc {m:Mem} {ks:List Nat} {q:Nat}:dirtyOf m (ks++[q])=dirtyOf m ks++dirtyOf m [q]:=List.filterMap_append ..
theorem dirty_len {m:Mem} {ks:List Nat}:(dirtyOf m ks).length<=ks.length:=List.length_filterMap_le ..
def ChgKs (m m0:Mem) (ks:List Nat):Prop:=ks.Pairwise (· < ·)/\∀ k,k∈ks↔m k≠m0 k
theorem chg_of {X:RL} {g:Nat->Option Value} {m m0:Mem} {ks:List Nat} (hw:WasRep X g m m0) (h:KeysOf g ks):ChgKs m m0 ks:=by
 refine ⟨h.1,fun k=>?_⟩
 rw [h.2 k]
 constructor
 ·intro hk he
  exact hk ((hw k).1 he)
 ·intro hk
  obtain ⟨v,hv,_⟩:=(hw k).2 hk
  rw [hv]; simp
set_option maxHeartbeats 2000000 in
theorem dirty_tr {c:Cfg} {G X:RL} {s:TSt} {L:RL} (htr:TR c G X s L) (hfit:∀ q n,s.m q=some n->fitsN n=true) :
  CS Tryz.prog 53 [ptr c.rt] L fun u L'=>∃ ks cs Y D,ChgKs s.m c.m0 ks/\L'=Y++(D++L)/\GV 81 2 [] u (dirtyOf s.m ks).length cs Y/\PgsR D cs (dirtyOf s.m ks):=by
 have hN32:=htr.N
 have hdom:=htr.dom
 have hsm:=htr.sm
 obtain ⟨T,es,ck,ws,wk,hN,rfl,hp⟩:=htr
 have hdom0:=hp.dom0
 obtain ⟨g,hgm,hmr⟩:=hp.now
 obtain ⟨gw,hgw,hwr⟩:=hp.was
 generalize hrows:HD c.rf c.rb c.rt c.rn c.rw T s.root s.cnt c.root0 c.cnt0 es ck ws wk (G++X)=rows
 suffices hs:CS Tryz.prog 53 [ptr c.rt] rows fun u L'=>∃ ks cs Y D Ys x,ChgKs s.m c.m0 ks/\L'=Y++(D++(Ys++(x::rows)))/\GV 81 2 [] u (dirtyOf s.m ks).length cs Y/\PgsR D cs (dirtyOf s.m ks) by
  refine hs.less ?_
  rintro u L' ⟨ks,cs,Y,D,Ys,x,h1,rfl,h2,h3⟩
  refine ⟨Y++(D++rows),Sub.sums2 (Ys++[x]) fun f=>?_,ks,cs,Y,D,h1,rfl,h2,h3⟩
  simp only [List.map_append,List.map_cons,List.map_nil,List.sum_append,List.sum_cons,List.sum_nil]; omega
 have hB0:∀ ks:List Nat,ks.Nodup->(∀ k,k∈ks->gw k≠none)->ks.length<=32768:=fun ks hnd hks=>by
  have:=nodup_le (A:=ks) (B:=List.range c.N) hnd fun k hk=>List.mem_range.2 (by
   have hgk:=hks k hk
   by_cases hm:s.m k=none
   ·by_cases hm0:c.m0 k=none
    ·exact absurd ((hwr k).1 (by rw [hm,hm0])) hgk
    ·have:=hdom0 k hm0; omega
   ·exact hdom k hm)
  rw [List.length_range] at this
  omega
 have mrt:(c.rt,trRow c.rf c.rn c.rw s.root s.cnt c.root0 c.cnt0)∈rows:=by rw [← hrows]; simp
 have mrn:(c.rn,ARow.map es ck)∈rows:=by rw [← hrows]; simp
 have hXr:∀ q,q∈X->q∈rows:=fun q hq=>by rw [← hrows]; simp [hq]
 refine CS.mk (fn:=Tryz.f53) rfl rfl rfl rfl ?_
 repeat refine xQ ?_
 refine xG rfl ?_
 refine xP rfl rh rfl ?_
 refine xN ?_
 repeat refine xQ ?_
 refine xG rfl ?_
 refine xP rfl rh rfl ?_
 refine xN ?_
 repeat refine xQ ?_
 refine xG rfl ?_
 iterate 3 refine xP rfl rh rfl ?_
 refine xR rfl (e_loadm mrt rfl rfl rfl rfl) rfl ?_
 refine xA noGo rfl (fun _=>rfl) ((Keys_ct).mono ?_)
 rintro u L' ⟨rb,rfl,rfl⟩
 refine ⟨_,rfl,?_⟩
 rw [← hrows]
 refine OS.sub (Sub.sums (A:=(rb,mbRow c.rw)::(c.rw,.map ws wk)::fm c.rf c.rb T ((c.rt,trRow c.rf c.rn c.rw s.root s.cnt c.root0 c.cnt0)::(c.rn,.map es ck)::(G++X))) (B:=(rb,mbRow c.rw)::HD c.rf c.rb c.rt c.rn c.rw T s.root s.cnt c.root0 c.cnt0 es ck ws wk (G++X)) fun f=>by simp [HD,fm]<;>omega) ?_
 refine xA noGo rfl (fun _=>rfl) ((Sorted_ct (B:=32768) hgw hB0 (by decide)).mono ?_)
 rintro vk L' ⟨ks,hks,hkn,hgk⟩
 obtain ⟨Ys,rfl,hgk'⟩:=hgk.split
 have hchg:=chg_of hwr hks
 have hkl:ks.length<=32768:=by
  have:=nodup_le (A:=ks) (B:=List.range c.N) (hks.1.imp fun {a b} h=>by omega) fun k hk=>List.mem_range.2 (by
   have hgk:=(hchg.2 k).1 hk
   by_cases hm:s.m k=none
   ·by_cases hm0:c.m0 k=none
    ·exact absurd (by rw [hm,hm0]) hgk
    ·have:=hdom0 k hm0; omega
   ·exact hdom k hm)
  rw [List.length_range] at this
  omega
 refine ⟨_,rfl,?_⟩
 refine OS.sub (Sub.sums (A:=Ys++((rb,mbRow c.rw)::HD c.rf c.rb c.rt c.rn c.rw T s.root s.cnt c.root0 c.cnt0 es ck ws wk (G++X))) (B:=Ys++((rb,mbRow c.rw)::(c.rw,.map ws wk)::fm c.rf c.rb T ((c.rt,trRow c.rf c.rn c.rw s.root s.cnt c.root0 c.cnt0)::(c.rn,.map es ck)::(G++X)))) fun f=>by simp [HD,fm]<;>omega) ?_
 rw [hrows]
 have hgs:=hgk'.sv
 refine xP rfl (e_len hgs rfl rfl rfl rfl rfl) rfl ?_
 refine xP rfl rh rfl ?_
 refine xN ?_
 have hin:∀ (Y D:RL) q,q∈rows->q∈Y++(D++(Ys++((rb,mbRow c.rw)::rows))):=fun Y D q hq=>by simp [hq]
 have hinY:∀ (Y D:RL) q,q∈Ys->q∈Y++(D++(Ys++((rb,mbRow c.rw)::rows))):=fun Y D q hq=>by simp [hq]
 repeat refine xQ ?_
 refine LS.mid [3] (fun a' L'=>∃ cs Y D v,L'=Y++(D++(Ys++((rb,mbRow c.rw)::rows)))/\GV 81 2 [] v (dirtyOf s.m ks).length cs Y/\PgsR D cs (dirtyOf s.m ks)/\a'=[jn,jn,jn,v,jn,jn,jn,jn,jn,jn,jn,jn,jn,jn,jn,jn,jn,jn,jn,jn,jn,jn,jn,jn,jn,jn,jn,jn,jn,jn,jn,jn,jn,jn,jn,jn,jn,jn,jn,jn,jn,jn,jn]) ?_ ?_
 ·refine LS.block ?_
  refine LS.loopJ [0,3,14,15,16] (fun z a' L'=>∃ (j:Nat) (cs:List Value) (Y D:RL) (v:Value),z=ks.length - j/\j<=ks.length/\L'=Y++(D++(Ys++((rb,mbRow c.rw)::rows)))/\GV 81 2 [] v (dirtyOf s.m (ks.take j)).length cs Y/\PgsR D cs (dirtyOf s.m (ks.take j)) /\
   a'=[ptr c.rt,jn,jn,v,jn,jn,jn,jn,jn,jn,jn,jn,jn,jn,vk,.int .i64 (ks.length:Nat),.int .i64 (j:Nat),jn,jn,jn,jn,jn,jn,jn,jn,jn,jn,jn,jn,jn,jn,jn,jn,jn,jn,jn,jn,jn,jn,jn,jn,jn,jn]) (n:=ks.length) rfl ⟨0,[],[],[],.slice none 0 0,rfl,by omega,rfl,.inl ⟨rfl,rfl,rfl,rfl⟩,PgsR.nil,rfl⟩ ?_
  rintro z a' L' ⟨j,cs,Y,D,v,rfl,hj,rfl,hv,hpr,rfl⟩
  by_cases hjk:j < ks.length
  ·have hb:(!ileB ((ks.length:Nat):Int) ((j:Nat):Int))=true:=by rw [ileB_eq,decide_eq_false (by omega)]; rfl
   have hat:(ints ks)[j]?=some (.int .i64 (ks[j]:Nat)):=by simp [ints,hjk]
   have htk:ks.take (j+1)=ks.take j++[ks[j]]:=List.take_succ_eq_append_getElem hjk
   have hdl:=dirty_len (m:=s.m) (ks:=ks.take j)
   rw [List.length_take] at hdl
   repeat refine xQ ?_
   refine xG rfl ?_
   refine xP rfl (e_ib rh (hb)) rfl ?_
   refine xN ?_
   repeat refine xQ ?_
   refine xC rfl (fun hc=>?_) (fun hc=>?_)
   ·refine LS.skip ?_
    repeat refine xQ ?_
    refine LS.block ?_
    repeat refine xQ ?_
    refine xG rfl ?_
    refine OS.at1 (j:=j) ((hgs.mono (hinY Y D))) (hat) rfl rfl rfl rfl rfl rfl (fun ra0 oa0 rowa0 csa0 ma0 ca0 ga0=>⟨_,rfl,?_⟩)
    refine xR rfl (e_loadm ma0 ca0 rfl rfl (part_one rfl ga0)) rfl ?_
    refine xP rfl rh rfl ?_
    refine xN ?_
    repeat refine xQ ?_
    refine xG rfl ?_
    iterate 3 refine xP rfl rh rfl ?_
    refine xR rfl (e_loadm (hin Y D _ mrt) rfl rfl rfl rfl) rfl ?_
    refine xP rfl rh rfl ?_
    refine xR rfl (e_get hgm (hin Y D _ mrn) rfl rfl rfl rfl (fun _=>rfl) rfl) rfl ?_
    cases hm:s.m ks[j] with
    | none =>
     rw [(hmr ks[j]).1 hm]
     simp only [Option.getD]
     refine xP rfl rh rfl ?_
     refine xN ?_
     repeat refine xQ ?_
     refine xG rfl ?_
     iterate 2 refine xP rfl rh rfl ?_
     refine xN ?_
     repeat refine xQ ?_
     refine xC rfl (fun hc2=>?_) (fun hc2=>?_)
     ·cases hc2
     refine LS.skip ?_
     repeat refine xQ ?_
     refine xG rfl ?_
     refine xP rfl (e_addN (n:=1) rfl rfl rfl (in_i64 (by omega) (by omega))) rfl ?_
     refine xP rfl rh rfl ?_
     refine xN ?_
     have hd1:dirtyOf s.m (ks.take (j+1))=dirtyOf s.m (ks.take j):=by rw [htk,dirty_snoc]; simp [dirtyOf,hm]
     exact ⟨ks.length - (j+1),by omega,j+1,cs,Y,D,v,rfl,by omega,rfl,by rw [hd1]; exact hv,by rw [hd1]; exact hpr,rfl⟩
    | some n =>
     obtain ⟨ra,hga,va1,va2,va3,hra,hPa⟩:=(hmr ks[j]).2 _ hm
     rw [show (g ks[j]).getD (.pointer none)=ptr ra by rw [hga]; rfl]
     have hfn:=hfit _ _ hm
     have hsn:=hsm _ _ hm
     have hsk:=hsn.k
     have hlen:=enc_len hfn
     refine xP rfl rh rfl ?_
     refine xN ?_
     repeat refine xQ ?_
     refine xG rfl ?_
     iterate 2 refine xP rfl rh rfl ?_
     refine xN ?_
     repeat refine xQ ?_
     refine xC rfl (fun hc2=>?_) (fun hc2=>?_)
     ·repeat refine xQ ?_
      refine xG rfl ?_
      iterate 2 refine xP rfl rh rfl ?_
      refine xR rfl (e_loadm (hin Y D _ (hXr _ hra)) rfl rfl rfl rfl) rfl ?_
      refine xA noGo rfl (fun _=>rfl) ((Encode_ct (hPa.nv hsn fun q hq=>hin Y D _ (hXr _ hq)) (by omega)).mono ?_)
      rintro u L' ⟨w,rfl,hw⟩
      rcases hw with ⟨hf,_,_⟩ | ⟨_,r,rfl,rfl⟩
      ·rw [hf] at hfn; cases hfn
      refine ⟨_,rfl,?_⟩
      iterate 5 refine xP rfl rh rfl ?_
      refine xN ?_
      have hrow:∀ D':RL,SV 1 ((r,bRow (encN n))::D') (.slice (some ⟨r,0,none⟩) 256 256) (encN n).length (byteCells (encN n)):=fun D'=>by
       rw [hlen]
       exact SV.row (e:=5) (List.mem_cons_self ..) (by rw [byteCells_len,hlen])
      refine LS.sub (Sub.sums (A:=Y++(((r,bRow (encN n))::D)++(Ys++((rb,mbRow c.rw)::rows)))) (B:=(r,bRow (encN n))::(Y++(D++(Ys++((rb,mbRow c.rw)::rows))))) fun f=>by simp []<;>omega) ?_
      repeat refine xQ ?_
      refine xG rfl ?_
      iterate 4 refine xP rfl rh rfl ?_
      refine OS.fresh rfl (e_new (fun _=>rfl) rfl) (fun _=>rfl) (fun rz=>?_)
      refine OS.turns rfl (e_appendGA [(rz,.cells 81 [.int .i64 (ks[j]:Nat),.slice (some ⟨r,0,none⟩) 256 256])] (((r,bRow (encN n))::D)++(Ys++((rb,mbRow c.rw)::rows))) (e:=81) (sz:=2) (bts:=32) (m:=1) (new:=[.int .i64 (ks[j]:Nat),.slice (some ⟨r,0,none⟩) 256 256]) hv (SV.row (sz:=2) (n:=1) (List.mem_cons_self ..) rfl) rfl rfl rfl rfl (by omega) (by omega)) (fun w L₁ hR=>?_)
      obtain ⟨Y',g',rfl⟩:=hR
      refine ⟨_,rfl,?_⟩
      refine OS.sub (Sub.sums2 ([(rz,.cells 81 [.int .i64 (ks[j]:Nat),.slice (some ⟨r,0,none⟩) 256 256])]) (A:=Y'++(((r,bRow (encN n))::D)++(Ys++((rb,mbRow c.rw)::rows)))) (B:=Y'++([(rz,.cells 81 [.int .i64 (ks[j]:Nat),.slice (some ⟨r,0,none⟩) 256 256])]++(((r,bRow (encN n))::D)++(Ys++((rb,mbRow c.rw)::rows))))) fun f=>by simp []<;>omega) ?_
      refine xP rfl rh rfl ?_
      refine xN ?_
      repeat refine xQ ?_
      refine xG rfl ?_
      refine xP rfl (e_addN (n:=1) rfl rfl rfl (in_i64 (by omega) (by omega))) rfl ?_
      refine xP rfl rh rfl ?_
      refine xN ?_
      have hd1:dirtyOf s.m (ks.take (j+1))=dirtyOf s.m (ks.take j)++[(ks[j],encN n)]:=by rw [htk,dirty_snoc]; simp [dirtyOf,hm]
      refine ⟨ks.length - (j+1),by omega,j+1,cs++[.int .i64 (ks[j]:Nat),.slice (some ⟨r,0,none⟩) 256 256],Y',(r,bRow (encN n))::D,w,rfl,by omega,rfl,?_,?_,rfl⟩
      ·rw [hd1,List.length_append]; exact g'
      ·rw [hd1]; exact (hpr.mono fun q hq=>List.mem_cons_of_mem _ hq).snoc (hrow D)
     ·cases hc2
   ·cases hc
  ·have hb:(!ileB ((ks.length:Nat):Int) ((j:Nat):Int))=false:=by rw [ileB_eq,decide_eq_true (by omega)]; rfl
   repeat refine xQ ?_
   refine xG rfl ?_
   refine xP rfl (e_ib rh (hb)) rfl ?_
   refine xN ?_
   repeat refine xQ ?_
   refine xC rfl (fun hc=>?_) (fun hc=>?_)
   ·cases hc
   refine LS.exit ?_
   have hjj:ks.take j=ks:=List.take_of_length_le (by omega)
   rw [hjj] at hv hpr
   exact ⟨cs,Y,D,v,rfl,hv,hpr,rfl⟩
 rintro a' L' ⟨cs,Y,D,v,rfl,hv,hpr,rfl⟩
 repeat refine xQ ?_
 refine xG rfl ?_
 iterate 2 refine xP rfl rh rfl ?_
 refine xN ?_
 refine xT ⟨_,fun _ _=>rfl,?_⟩
 exact ⟨ks,cs,Y,D,Ys,_,hchg,rfl,hv,hpr⟩
theorem page_fits {m:Mem}:∀ {h:Nat} {t:Tr h},RepT m h t->Okt h t->∀ q,q∈pgs h t->∃ n,m q=some n/\fitsN n=true
 | 0,t,hr,hk,q,hq=>by
  obtain ⟨p,ks,vs,rfl⟩:=lf_eta t
  have:q=p:=by simpa using hq
  subst this
  exact ⟨_,hr.top,hk.fits⟩
 | h+1,t,hr,hk,q,hq=>by
  obtain ⟨p,ks,ts,rfl⟩:=inn_eta t
  rw [pgs_inn] at hq
  rcases List.mem_cons.1 hq with rfl | hq
  ·exact ⟨_,hr.top,hk.fits⟩
  ·obtain ⟨u,hu,hq⟩:=List.mem_flatMap.1 hq
   exact page_fits ((rep_inn.1 hr).2 u hu) (hk.kid u hu) q hq
theorem GoodS.fits {m:Mem} {root:Int} {P:List Pr} (h:GoodS m root P):∀ q n,m q=some n->fitsN n=true:=fun q n hq=>by
 rcases h with ⟨_,h2,_⟩ | ⟨H,t,hw,hok,hs,hkv⟩
 ·rw [h2 q] at hq; cases hq
 ·by_cases hp:q∈pgs H t
  ·obtain ⟨n',h1,h2⟩:=page_fits hw.rep hok q hp
   rw [hq] at h1; cases h1; exact h2
  ·rw [hw.out q hp] at hq; cases hq
theorem tDirty_ct {c:Cfg} {G X:RL} {s:TSt} {L:RL} {ro:Nat} {P:List Pr} (htr:TR c G X s L) (ho:(ro,toRow c.rt)∈L) (hg:GoodS s.m s.root P) :
  CS Tryz.prog 25 [ptr ro] L fun u L'=>∃ ks cs Y D,ChgKs s.m c.m0 ks/\L'=Y++(D++L)/\GV 81 2 [] u (dirtyOf s.m ks).length cs Y/\PgsR D cs (dirtyOf s.m ks):=by
 refine CS.mk (fn:=Tryz.f25) rfl rfl rfl rfl ?_
 repeat refine xQ ?_
 refine xG rfl ?_
 refine xP rfl rh rfl ?_
 refine xN ?_
 repeat refine xQ ?_
 refine xG rfl ?_
 refine xP rfl rh rfl ?_
 refine xA noGo rfl (fun _=>rfl) ((tnone_ct ho).mono ?_)
 rintro u L' ⟨rfl,rfl⟩
 refine ⟨_,rfl,?_⟩
 refine xN ?_
 repeat refine xQ ?_
 refine xC rfl (fun hc=>?_) (fun hc=>?_)
 ·cases hc
 refine LS.skip ?_
 repeat refine xQ ?_
 refine xG rfl ?_
 iterate 3 refine xP rfl rh rfl ?_
 refine xR rfl (e_loadm ho rfl rfl rfl rfl) rfl ?_
 iterate 2 refine xP rfl rh rfl ?_
 refine xA noGo rfl (fun _=>rfl) ((dirty_tr htr hg.fits).mono ?_)
 rintro u L' ⟨ks,cs,Y,D,h1,rfl,h2,h3⟩
 refine ⟨_,rfl,?_⟩
 refine xP rfl rh rfl ?_
 refine xN ?_
 refine xT ⟨_,fun _ _=>rfl,?_⟩
 exact ⟨ks,cs,Y,D,h1,rfl,h2,h3⟩
theorem chg_same {m:Mem} {ks:List Nat} (h:ChgKs m m ks):ks=[]:=by
 cases ks with
 | nil=>rfl
 | cons k ks=>exact absurd rfl ((h.2 k).1 (by simp))
end Go.Proofs.YtlmmddfhoabjfaaGreat
end
section
namespace Go.Proofs.YtlmmddfhoabjfaaGreat
open Go.Am
section
variable {k v k':Tx} {P:List Pr}
theorem putP_len:(putP k v P).length<=P.length+1:=by
 have:(P.filter fun p=>bytesLt p.1 k).length+(P.filter fun p=>bytesLt k p.1).length<=P.length:=by
  induction P with
  | nil=>simp
  | cons p P ih =>
   rw [List.filter_cons,List.filter_cons]
   cases h1:bytesLt p.1 k with
   | true =>
    rw [lt_asym h1]
    simp; omega
   | false =>
    cases h2:bytesLt k p.1 <;> simp <;> omega
 unfold putP
 rw [List.length_append,List.length_cons]
 exact Nat.succ_le_succ this
theorem delP_len:(delP k P).length<=P.length:=List.length_filter_le ..
theorem rng_all:rngP [] [] P=P:=List.filter_eq_self.2 fun p _=>by unfold inR; rw [le_nil,bel_nil]; rfl
end
def ImgOk (m:Mem) (imgs:List Tx):Prop:=∀ q,m q≠none->decB (imF imgs q)=m q
def overI (imgs:List Tx):List (Nat × Tx)->List Tx
 | []=>imgs
 | p::l=>overI (imgs.set p.1 p.2) l
theorem overI_len:∀ {l:List (Nat × Tx)} {imgs:List Tx},(overI imgs l).length=imgs.length
 | [],_=>rfl
 | p::l,imgs=>by rw [overI,overI_len,List.length_set]
theorem overI_snoc:∀ {l:List (Nat × Tx)} {imgs:List Tx} {p:Nat × Tx},overI imgs (l++[p])=(overI imgs l).set p.1 p.2
 | [],_,_=>rfl
 | a::l,imgs,p=>by rw [List.cons_append,overI,overI,overI_snoc]
theorem overI_out:∀ {l:List (Nat × Tx)} {imgs:List Tx} {q:Nat},(∀ p∈l,p.1≠q)->imF (overI imgs l) q=imF imgs q
 | [],_,_,_=>rfl
 | a::l,imgs,q,h=>by
  rw [overI,overI_out fun p hp=>h p (List.mem_cons_of_mem _ hp)]
  unfold imF
  rw [List.getD_eq_getElem?_getD,List.getD_eq_getElem?_getD,List.getElem?_set_ne (h a (List.mem_cons_self ..))]
theorem overI_in:∀ {l:List (Nat × Tx)} {imgs:List Tx} {q:Nat} {b:Tx},l.Pairwise (fun a b=>a.1 < b.1)->(q,b)∈l->q < imgs.length->imF (overI imgs l) q=b
 | a::l,imgs,q,b,hs,hm,hq=>by
  have hs':=List.pairwise_cons.1 hs
  rw [overI]
  rcases List.mem_cons.1 hm with rfl | hm
  ·rw [overI_out fun p hp=>by have:=hs'.1 p hp; simp only at this; omega]
   unfold imF
   rw [List.getD_eq_getElem?_getD,List.getElem?_set_self hq]
   rfl
  ·exact overI_in hs'.2 hm (by rw [List.length_set]; exact hq)
theorem dirty_srt {m:Mem} {ks:List Nat} (h:ks.Pairwise (· < ·)):(dirtyOf m ks).Pairwise fun a b=>a.1 < b.1:=by
 unfold dirtyOf
 rw [List.pairwise_filterMap]
 refine h.imp ?_
 intro a b hab x hx y hy
 obtain ⟨n,hn,rfl⟩:=Option.map_eq_some_iff.1 hx
 obtain ⟨n',hn',rfl⟩:=Option.map_eq_some_iff.1 hy
 exact hab
theorem dirty_mem {m:Mem} {ks:List Nat} {p:Nat × Tx} (h:p∈dirtyOf m ks):p.1∈ks/\∃ n,m p.1=some n/\p.2=encN n:=by
 obtain ⟨q,hq,he⟩:=List.mem_filterMap.1 h
 obtain ⟨n,hn,rfl⟩:=Option.map_eq_some_iff.1 he
 exact ⟨hq,n,hn,rfl⟩
theorem over_ok {N:Nat} {m m0:Mem} {ks:List Nat} {imgs:List Tx} (hi:ImgOk m0 imgs) (hc:ChgKs m m0 ks) (hfit:∀ q n,m q=some n->fitsN n=true) (hd:∀ q,m q≠none->q < N) (hN:imgs.length=N):ImgOk m (overI imgs (dirtyOf m ks)):=by
 intro q hq
 by_cases hk:q∈ks
 ·obtain ⟨n,hn⟩:=Option.ne_none_iff_exists'.1 hq
  rw [overI_in (b:=encN n) (dirty_srt hc.1) (List.mem_filterMap.2 ⟨q,hk,by rw [hn]; rfl⟩) (by rw [hN]; exact hd q hq),hn]
  exact decB_of (hfit q n hn)
 ·have he:m q=m0 q:=Classical.byContradiction fun h=>hk ((hc.2 q).2 h)
  rw [overI_out fun p hp=>fun h=>hk (by have:=(dirty_mem hp).1; rwa [h] at this),he]
  exact hi q (he ▸ hq)
theorem img_00 {imgs:List Tx}:ImgOk m00 imgs:=fun q h=>absurd rfl h
end Go.Proofs.YtlmmddfhoabjfaaGreat
end
