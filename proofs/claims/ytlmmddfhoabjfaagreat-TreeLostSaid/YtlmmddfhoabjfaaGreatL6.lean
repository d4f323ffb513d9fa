/- What the proofs lean on, part 6. -/
import Derived.Test.YtlmmddfhoabjfaaGreatL5
set_option linter.unusedVariables false
set_option maxRecDepth 20000
section
namespace Go.Proofs.YtlmmddfhoabjfaaGreat
open Go.Am
def PgsR (D:RL) (cs:List Value) (l:List (Nat × Tx)):Prop:=cs.length=l.length * 2/\∀ i p,l[i]?=some p->∃ v,cs[i * 2+0]?=some (.int .i64 (p.1:Nat))/\cs[i * 2+1]?=some v/\SV 1 D v p.2.length (byteCells p.2)
theorem PgsR.mono {D D':RL} {cs:List Value} {l:List (Nat × Tx)} (h:PgsR D cs l) (hm:∀ p,p∈D->p∈D'):PgsR D' cs l :=
 ⟨h.1,fun i p hp=>let ⟨v,h1,h2,h3⟩:=h.2 i p hp; ⟨v,h1,h2,h3.mono hm⟩⟩
theorem PgsR.nil {D:RL}:PgsR D [] []:=⟨rfl,fun i p h=>by simp at h⟩
theorem PgsR.snoc {D:RL} {cs:List Value} {l:List (Nat × Tx)} {q:Nat} {bs:Tx} {v:Value} (h:PgsR D cs l) (hv:SV 1 D v bs.length (byteCells bs)):PgsR D (cs++[.int .i64 (q:Nat),v]) (l++[(q,bs)]):=by
 have hl:=h.1
 refine ⟨by simp; omega,fun i p hp=>?_⟩
 by_cases hi:i < l.length
 ·rw [List.getElem?_append_left hi] at hp
  obtain ⟨v',h1,h2,h3⟩:=h.2 i p hp
  exact ⟨v',by rw [List.getElem?_append_left (by omega)]; exact h1,by rw [List.getElem?_append_left (by omega)]; exact h2,h3⟩
 ·have hi2:i=l.length:=by
   have:=(List.getElem?_eq_some_iff.1 hp).1
   simp at this; omega
  subst hi2
  simp at hp
  subst hp
  refine ⟨v,?_,?_,hv⟩
  ·rw [List.getElem?_append_right (by omega),hl]; simp
  ·rw [List.getElem?_append_right (by omega),hl]; simp
def dirtyOf (m:Mem) (ks:List Nat):List (Nat × Tx):=ks.filterMap fun q=>(m q).map fun n=>(q,encN n)
theorem dirty_snoc {m:Mem} {ks:List Nat} {q:Nat}:dirtyOf m (ks++[q])=dirtyOf m ks++dirtyOf m [q]:=List.filterMap_append ..
theorem dirty_len {m:Mem} {ks:List Nat}:(dirtyOf m ks).length<=ks.length:=List.length_filterMap_le ..
def ChgKs (m m0:Mem) (ks:List Nat):Prop:=ks.Pairwise (· < ·)/\∀ k,k∈ks↔m k≠m0 k
theorem chg_of {X:RL} {g:Nat->Option Value} {m m0:Mem} {ks:List Nat} (hw:WasRep X g m m0) (h:KeysOf g ks):ChgKs m m0 ks:=by
 refine ⟨h.1,fun k=>?_⟩
 rw [h.2 k]
 constructor
 ·intro hk he
  exact hk ((hw k).1 he)
 ·intro hk
  obtain ⟨v,hv,_⟩:=(hw k).2 hk
  rw [hv]; simp
set_option maxHeartbeats 2000000 in
theorem dirty_tr {c:Cfg} {G X:RL} {s:TSt} {L:RL} (htr:TR c G X s L) (hfit:∀ q n,s.m q=some n->fitsN n=true) :
  CS Tryz.prog 53 [ptr c.rt] L fun u L'=>∃ ks cs Y D,ChgKs s.m c.m0 ks/\L'=Y++(D++L)/\GV 81 2 [] u (dirtyOf s.m ks).length cs Y/\PgsR D cs (dirtyOf s.m ks):=by
 have hN32:=htr.N
 have hdom:=htr.dom
 have hsm:=htr.sm
 obtain ⟨T,es,ck,ws,wk,hN,rfl,hp⟩:=htr
 have hdom0:=hp.dom0
 obtain ⟨g,hgm,hmr⟩:=hp.now
 obtain ⟨gw,hgw,hwr⟩:=hp.was
 generalize hrows:HD c.rf c.rb c.rt c.rn c.rw T s.root s.cnt c.root0 c.cnt0 es ck ws wk (G++X)=rows
 suffices hs:CS Tryz.prog 53 [ptr c.rt] rows fun u L'=>∃ ks cs Y D Ys x,ChgKs s.m c.m0 ks/\L'=Y++(D++(Ys++(x::rows)))/\GV 81 2 [] u (dirtyOf s.m ks).length cs Y/\PgsR D cs (dirtyOf s.m ks) by
  refine hs.less ?_
  rintro u L' ⟨ks,cs,Y,D,Ys,x,h1,rfl,h2,h3⟩
  refine ⟨Y++(D++rows),Sub.sums2 (Ys++[x]) fun f=>?_,ks,cs,Y,D,h1,rfl,h2,h3⟩
  simp only [List.map_append,List.map_cons,List.map_nil,List.sum_append,List.sum_cons,List.sum_nil]; omega
 have hB0:∀ ks:List Nat,ks.Nodup->(∀ k,k∈ks->gw k≠none)->ks.length<=32768:=fun ks hnd hks=>by
  have:=nodup_le (A:=ks) (B:=List.range c.N) hnd fun k hk=>List.mem_range.2 (by
   have hgk:=hks k hk
   by_cases hm:s.m k=none
   ·by_cases hm0:c.m0 k=none
    ·exact absurd ((hwr k).1 (by rw [hm,hm0])) hgk
    ·have:=hdom0 k hm0; omega
   ·exact hdom k hm)
  rw [List.length_range] at this
  omega
 have mrt:(c.rt,trRow c.rf c.rn c.rw s.root s.cnt c.root0 c.cnt0)∈rows:=by rw [← hrows]; simp
 have mrn:(c.rn,ARow.map es ck)∈rows:=by rw [← hrows]; simp
 have hXr:∀ q,q∈X->q∈rows:=fun q hq=>by rw [← hrows]; simp [hq]
 refine CS.mk (fn:=Tryz.f53) rfl rfl rfl rfl ?_
 repeat refine xQ ?_
 refine xG rfl ?_
 refine xP rfl rh rfl ?_
 refine xN ?_
 repeat refine xQ ?_
 refine xG rfl ?_
 refine xP rfl rh rfl ?_
 refine xN ?_
 repeat refine xQ ?_
 refine xG rfl ?_
 iterate 3 refine xP rfl rh rfl ?_
 refine xR rfl (e_loadm mrt rfl rfl rfl rfl) rfl ?_
 refine xA noGo rfl (fun _=>rfl) ((Keys_ct).mono ?_)
 rintro u L' ⟨rb,rfl,rfl⟩
 refine ⟨_,rfl,?_⟩
 rw [← hrows]
 refine OS.sub (Sub.sums (A:=(rb,mbRow c.rw)::(c.rw,.map ws wk)::fm c.rf c.rb T ((c.rt,trRow c.rf c.rn c.rw s.root s.cnt c.root0 c.cnt0)::(c.rn,.map es ck)::(G++X))) (B:=(rb,mbRow c.rw)::HD c.rf c.rb c.rt c.rn c.rw T s.root s.cnt c.root0 c.cnt0 es ck ws wk (G++X)) fun f=>by simp [HD,fm]<;>omega) ?_
 refine xA noGo rfl (fun _=>rfl) ((Sorted_ct (B:=32768) hgw hB0 (by decide)).mono ?_)
 rintro vk L' ⟨ks,hks,hkn,hgk⟩
 obtain ⟨Ys,rfl,hgk'⟩:=hgk.split
 have hchg:=chg_of hwr hks
 have hkl:ks.length<=32768:=by
  have:=nodup_le (A:=ks) (B:=List.range c.N) (hks.1.imp fun {a b} h=>by omega) fun k hk=>List.mem_range.2 (by
   have hgk:=(hchg.2 k).1 hk
   by_cases hm:s.m k=none
   ·by_cases hm0:c.m0 k=none
    ·exact absurd (by rw [hm,hm0]) hgk
    ·have:=hdom0 k hm0; omega
   ·exact hdom k hm)
  rw [List.length_range] at this
  omega
 refine ⟨_,rfl,?_⟩
 refine OS.sub (Sub.sums (A:=Ys++((rb,mbRow c.rw)::HD c.rf c.rb c.rt c.rn c.rw T s.root s.cnt c.root0 c.cnt0 es ck ws wk (G++X))) (B:=Ys++((rb,mbRow c.rw)::(c.rw,.map ws wk)::fm c.rf c.rb T ((c.rt,trRow c.rf c.rn c.rw s.root s.cnt c.root0 c.cnt0)::(c.rn,.map es ck)::(G++X)))) fun f=>by simp [HD,fm]<;>omega) ?_
 rw [hrows]
 have hgs:=hgk'.sv
 refine xP rfl (e_len hgs rfl rfl rfl rfl rfl) rfl ?_
 refine xP rfl rh rfl ?_
 refine xN ?_
 have hin:∀ (Y D:RL) q,q∈rows->q∈Y++(D++(Ys++((rb,mbRow c.rw)::rows))):=fun Y D q hq=>by simp [hq]
 have hinY:∀ (Y D:RL) q,q∈Ys->q∈Y++(D++(Ys++((rb,mbRow c.rw)::rows))):=fun Y D q hq=>by simp [hq]
 repeat refine xQ ?_
 refine LS.mid [3] (fun a' L'=>∃ cs Y D v,L'=Y++(D++(Ys++((rb,mbRow c.rw)::rows)))/\GV 81 2 [] v (dirtyOf s.m ks).length cs Y/\PgsR D cs (dirtyOf s.m ks)/\a'=[jn,jn,jn,v,jn,jn,jn,jn,jn,jn,jn,jn,jn,jn,jn,jn,jn,jn,jn,jn,jn,jn,jn,jn,jn,jn,jn,jn,jn,jn,jn,jn,jn,jn,jn,jn,jn,jn,jn,jn,jn,jn,jn]) ?_ ?_
 ·refine LS.block ?_
  refine LS.loopJ [0,3,14,15,16] (fun z a' L'=>∃ (j:Nat) (cs:List Value) (Y D:RL) (v:Value),z=ks.length - j/\j<=ks.length/\L'=Y++(D++(Ys++((rb,mbRow c.rw)::rows)))/\GV 81 2 [] v (dirtyOf s.m (ks.take j)).length cs Y/\PgsR D cs (dirtyOf s.m (ks.take j)) /\
   a'=[ptr c.rt,jn,jn,v,jn,jn,jn,jn,jn,jn,jn,jn,jn,jn,vk,.int .i64 (ks.length:Nat),.int .i64 (j:Nat),jn,jn,jn,jn,jn,jn,jn,jn,jn,jn,jn,jn,jn,jn,jn,jn,jn,jn,jn,jn,jn,jn,jn,jn,jn,jn]) (n:=ks.length) rfl ⟨0,[],[],[],.slice none 0 0,rfl,by omega,rfl,.inl ⟨rfl,rfl,rfl,rfl⟩,PgsR.nil,rfl⟩ ?_
  rintro z a' L' ⟨j,cs,Y,D,v,rfl,hj,rfl,hv,hpr,rfl⟩
  by_cases hjk:j < ks.length
  ·have hb:(!ileB ((ks.length:Nat):Int) ((j:Nat):Int))=true:=by rw [ileB_eq,decide_eq_false (by omega)]; rfl
   have hat:(ints ks)[j]?=some (.int .i64 (ks[j]:Nat)):=by simp [ints,hjk]
   have htk:ks.take (j+1)=ks.take j++[ks[j]]:=List.take_succ_eq_append_getElem hjk
   have hdl:=dirty_len (m:=s.m) (ks:=ks.take j)
   rw [List.length_take] at hdl
   repeat refine xQ ?_
   refine xG rfl ?_
   refine xP rfl (e_ib rh (hb)) rfl ?_
   refine xN ?_
   repeat refine xQ ?_
   refine xC rfl (fun hc=>?_) (fun hc=>?_)
   ·refine LS.skip ?_
    repeat refine xQ ?_
    refine LS.block ?_
    repeat refine xQ ?_
    refine xG rfl ?_
    refine OS.at1 (j:=j) ((hgs.mono (hinY Y D))) (hat) rfl rfl rfl rfl rfl rfl (fun ra0 oa0 rowa0 csa0 ma0 ca0 ga0=>⟨_,rfl,?_⟩)
    refine xR rfl (e_loadm ma0 ca0 rfl rfl (part_one rfl ga0)) rfl ?_
    refine xP rfl rh rfl ?_
    refine xN ?_
    repeat refine xQ ?_
    refine xG rfl ?_
    iterate 3 refine xP rfl rh rfl ?_
    refine xR rfl (e_loadm (hin Y D _ mrt) rfl rfl rfl rfl) rfl ?_
    refine xP rfl rh rfl ?_
    refine xR rfl (e_get hgm (hin Y D _ mrn) rfl rfl rfl rfl (fun _=>rfl) rfl) rfl ?_
    cases hm:s.m ks[j] with
    | none =>
     rw [(hmr ks[j]).1 hm]
     simp only [Option.getD]
     refine xP rfl rh rfl ?_
     refine xN ?_
     repeat refine xQ ?_
     refine xG rfl ?_
     iterate 2 refine xP rfl rh rfl ?_
     refine xN ?_
     repeat refine xQ ?_
     refine xC rfl (fun hc2=>?_) (fun hc2=>?_)
     ·cases hc2
     refine LS.skip ?_
     repeat refine xQ ?_
     refine xG rfl ?_
     refine xP rfl (e_addN (n:=1) rfl rfl rfl (in_i64 (by omega) (by omega))) rfl ?_
     refine xP rfl rh rfl ?_
     refine xN ?_
     have hd1:dirtyOf s.m (ks.take (j+1))=dirtyOf s.m (ks.take j):=by rw [htk,dirty_snoc]; simp [dirtyOf,hm]
     exact ⟨ks.length - (j+1),by omega,j+1,cs,Y,D,v,rfl,by omega,rfl,by rw [hd1]; exact hv,by rw [hd1]; exact hpr,rfl⟩
    | some n =>
     obtain ⟨ra,hga,va1,va2,va3,hra,hPa⟩:=(hmr ks[j]).2 _ hm
     rw [show (g ks[j]).getD (.pointer none)=ptr ra by rw [hga]; rfl]
     have hfn:=hfit _ _ hm
     have hsn:=hsm _ _ hm
     have hsk:=hsn.k
     have hlen:=enc_len hfn
     refine xP rfl rh rfl ?_
     refine xN ?_
     repeat refine xQ ?_
     refine xG rfl ?_
     iterate 2 refine xP rfl rh rfl ?_
     refine xN ?_
     repeat refine xQ ?_
     refine xC rfl (fun hc2=>?_) (fun hc2=>?_)
     ·repeat refine xQ ?_
      refine xG rfl ?_
      iterate 2 refine xP rfl rh rfl ?_
      refine xR rfl (e_loadm (hin Y D _ (hXr _ hra)) rfl rfl rfl rfl) rfl ?_
      refine xA noGo rfl (fun _=>rfl) ((Encode_ct (hPa.nv hsn fun q hq=>hin Y D _ (hXr _ hq)) (by omega)).mono ?_)
      rintro u L' ⟨w,rfl,hw⟩
      rcases hw with ⟨hf,_,_⟩ | ⟨_,r,rfl,rfl⟩
      ·rw [hf] at hfn; cases hfn
      refine ⟨_,rfl,?_⟩
      iterate 5 refine xP rfl rh rfl ?_
      refine xN ?_
      have hrow:∀ D':RL,SV 1 ((r,bRow (encN n))::D') (.slice (some ⟨r,0,none⟩) 256 256) (encN n).length (byteCells (encN n)):=fun D'=>by
       rw [hlen]
       exact SV.row (e:=5) (List.mem_cons_self ..) (by rw [byteCells_len,hlen])
      refine LS.sub (Sub.sums (A:=Y++(((r,bRow (encN n))::D)++(Ys++((rb,mbRow c.rw)::rows)))) (B:=(r,bRow (encN n))::(Y++(D++(Ys++((rb,mbRow c.rw)::rows))))) fun f=>by simp []<;>omega) ?_
      repeat refine xQ ?_
      refine xG rfl ?_
      iterate 4 refine xP rfl rh rfl ?_
      refine OS.fresh rfl (e_new (fun _=>rfl) rfl) (fun _=>rfl) (fun rz=>?_)
      refine OS.turns rfl (e_appendGA [(rz,.cells 81 [.int .i64 (ks[j]:Nat),.slice (some ⟨r,0,none⟩) 256 256])] (((r,bRow (encN n))::D)++(Ys++((rb,mbRow c.rw)::rows))) (e:=81) (sz:=2) (bts:=32) (m:=1) (new:=[.int .i64 (ks[j]:Nat),.slice (some ⟨r,0,none⟩) 256 256]) hv (SV.row (sz:=2) (n:=1) (List.mem_cons_self ..) rfl) rfl rfl rfl rfl (by omega) (by omega)) (fun w L₁ hR=>?_)
      obtain ⟨Y',g',rfl⟩:=hR
      refine ⟨_,rfl,?_⟩
      refine OS.sub (Sub.sums2 ([(rz,.cells 81 [.int .i64 (ks[j]:Nat),.slice (some ⟨r,0,none⟩) 256 256])]) (A:=Y'++(((r,bRow (encN n))::D)++(Ys++((rb,mbRow c.rw)::rows)))) (B:=Y'++([(rz,.cells 81 [.int .i64 (ks[j]:Nat),.slice (some ⟨r,0,none⟩) 256 256])]++(((r,bRow (encN n))::D)++(Ys++((rb,mbRow c.rw)::rows))))) fun f=>by simp []<;>omega) ?_
      refine xP rfl rh rfl ?_
      refine xN ?_
      repeat refine xQ ?_
      refine xG rfl ?_
      refine xP rfl (e_addN (n:=1) rfl rfl rfl (in_i64 (by omega) (by omega))) rfl ?_
      refine xP rfl rh rfl ?_
      refine xN ?_
      have hd1:dirtyOf s.m (ks.take (j+1))=dirtyOf s.m (ks.take j)++[(ks[j],encN n)]:=by rw [htk,dirty_snoc]; simp [dirtyOf,hm]
      refine ⟨ks.length - (j+1),by omega,j+1,cs++[.int .i64 (ks[j]:Nat),.slice (some ⟨r,0,none⟩) 256 256],Y',(r,bRow (encN n))::D,w,rfl,by omega,rfl,?_,?_,rfl⟩
      ·rw [hd1,List.length_append]; exact g'
      ·rw [hd1]; exact (hpr.mono fun q hq=>List.mem_cons_of_mem _ hq).snoc (hrow D)
     ·cases hc2
   ·cases hc
  ·have hb:(!ileB ((ks.length:Nat):Int) ((j:Nat):Int))=false:=by rw [ileB_eq,decide_eq_true (by omega)]; rfl
   repeat refine xQ ?_
   refine xG rfl ?_
   refine xP rfl (e_ib rh (hb)) rfl ?_
   refine xN ?_
   repeat refine xQ ?_
   refine xC rfl (fun hc=>?_) (fun hc=>?_)
   ·cases hc
   refine LS.exit ?_
   have hjj:ks.take j=ks:=List.take_of_length_le (by omega)
   rw [hjj] at hv hpr
   exact ⟨cs,Y,D,v,rfl,hv,hpr,rfl⟩
 rintro a' L' ⟨cs,Y,D,v,rfl,hv,hpr,rfl⟩
 repeat refine xQ ?_
 refine xG rfl ?_
 iterate 2 refine xP rfl rh rfl ?_
 refine xN ?_
 refine xT ⟨_,fun _ _=>rfl,?_⟩
 exact ⟨ks,cs,Y,D,Ys,_,hchg,rfl,hv,hpr⟩
theorem page_fits {m:Mem}:∀ {h:Nat} {t:Tr h},RepT m h t->Okt h t->∀ q,q∈pgs h t->∃ n,m q=some n/\fitsN n=true
 | 0,t,hr,hk,q,hq=>by
  obtain ⟨p,ks,vs,rfl⟩:=lf_eta t
  have:q=p:=by simpa using hq
  subst this
  exact ⟨_,hr.top,hk.fits⟩
 | h+1,t,hr,hk,q,hq=>by
  obtain ⟨p,ks,ts,rfl⟩:=inn_eta t
  rw [pgs_inn] at hq
  rcases List.mem_cons.1 hq with rfl | hq
  ·exact ⟨_,hr.top,hk.fits⟩
  ·obtain ⟨u,hu,hq⟩:=List.mem_flatMap.1 hq
   exact page_fits ((rep_inn.1 hr).2 u hu) (hk.kid u hu) q hq
theorem GoodS.fits {m:Mem} {root:Int} {P:List Pr} (h:GoodS m root P):∀ q n,m q=some n->fitsN n=true:=fun q n hq=>by
 rcases h with ⟨_,h2,_⟩ | ⟨H,t,hw,hok,hs,hkv⟩
 ·rw [h2 q] at hq; cases hq
 ·by_cases hp:q∈pgs H t
  ·obtain ⟨n',h1,h2⟩:=page_fits hw.rep hok q hp
   rw [hq] at h1; cases h1; exact h2
  ·rw [hw.out q hp] at hq; cases hq
theorem tDirty_ct {c:Cfg} {G X:RL} {s:TSt} {L:RL} {ro:Nat} {P:List Pr} (htr:TR c G X s L) (ho:(ro,toRow c.rt)∈L) (hg:GoodS s.m s.root P) :
  CS Tryz.prog 25 [ptr ro] L fun u L'=>∃ ks cs Y D,ChgKs s.m c.m0 ks/\L'=Y++(D++L)/\GV 81 2 [] u (dirtyOf s.m ks).length cs Y/\PgsR D cs (dirtyOf s.m ks):=by
 refine CS.mk (fn:=Tryz.f25) rfl rfl rfl rfl ?_
 repeat refine xQ ?_
 refine xG rfl ?_
 refine xP rfl rh rfl ?_
 refine xN ?_
 repeat refine xQ ?_
 refine xG rfl ?_
 refine xP rfl rh rfl ?_
 refine xA noGo rfl (fun _=>rfl) ((tnone_ct ho).mono ?_)
 rintro u L' ⟨rfl,rfl⟩
 refine ⟨_,rfl,?_⟩
 refine xN ?_
 repeat refine xQ ?_
 refine xC rfl (fun hc=>?_) (fun hc=>?_)
 ·cases hc
 refine LS.skip ?_
 repeat refine xQ ?_
 refine xG rfl ?_
 iterate 3 refine xP rfl rh rfl ?_
 refine xR rfl (e_loadm ho rfl rfl rfl rfl) rfl ?_
 iterate 2 refine xP rfl rh rfl ?_
 refine xA noGo rfl (fun _=>rfl) ((dirty_tr htr hg.fits).mono ?_)
 rintro u L' ⟨ks,cs,Y,D,h1,rfl,h2,h3⟩
 refine ⟨_,rfl,?_⟩
 refine xP rfl rh rfl ?_
 refine xN ?_
 refine xT ⟨_,fun _ _=>rfl,?_⟩
 exact ⟨ks,cs,Y,D,h1,rfl,h2,h3⟩
theorem chg_same {m:Mem} {ks:List Nat} (h:ChgKs m m ks):ks=[]:=by
 cases ks with
 | nil=>rfl
 | cons k ks=>exact absurd rfl ((h.2 k).1 (by simp))
end Go.Proofs.YtlmmddfhoabjfaaGreat
end
section
namespace Go.Proofs.YtlmmddfhoabjfaaGreat
open Go.Am
section
variable {k v k':Tx} {P:List Pr}
theorem getP_filter {f:Pr->Bool} (h:∀ p:Pr,p.1=k'->f p=true):getP (P.filter f) k'=getP P k':=by
 unfold getP
 congr 1
 induction P with
 | nil=>rfl
 | cons p P ih =>
  by_cases hp:p.1=k'
  ·rw [List.filter_cons_of_pos (h p hp),List.find?_cons_of_pos (by simp [hp]),List.find?_cons_of_pos (by simp [hp])]
  ·cases hf:f p with
   | true=>rw [List.filter_cons_of_pos hf,List.find?_cons_of_neg (by simp [hp]),List.find?_cons_of_neg (by simp [hp]),ih]
   | false=>rw [List.filter_cons_of_neg (by simp [hf]),List.find?_cons_of_neg (by simp [hp]),ih]
theorem getP_filter_no {f:Pr->Bool} (h:∀ p:Pr,p.1=k'->f p=false):getP (P.filter f) k'=none:=by
 unfold getP
 rw [List.find?_eq_none.2 fun p hp=>?_]
 ·rfl
 ·have:=(List.mem_filter.1 hp).2
  simp only [decide_eq_true_eq]
  intro he
  rw [h p he] at this
  cases this
theorem getP_app {A B:List Pr}:getP (A++B) k'=match getP A k' with | some x=>some x | none=>getP B k':=by
 unfold getP
 rw [List.find?_append]
 cases List.find? (fun p=>decide (p.1=k')) A <;> rfl
theorem getP_putP:getP (putP k v P) k'=if k'=k then some v else getP P k':=by
 unfold putP
 rw [getP_app]
 by_cases h:k'=k
 ·rw [if_pos h]
  subst h
  rw [getP_filter_no (fun p hp=>by rw [hp]; exact lt_irr _)]
  simp [getP]
 ·rw [if_neg h]
  have e:getP ((k,v)::P.filter fun p=>bytesLt k p.1) k'=getP (P.filter fun p=>bytesLt k p.1) k':=by
   unfold getP
   rw [List.find?_cons_of_neg (by simpa using fun hh=>h hh.symm)]
  rw [e]
  rcases lt_total (x:=k') (y:=k) with hl | hl | hl
  ·rw [getP_filter (fun p hp=>by rw [hp]; exact hl),getP_filter_no (fun p hp=>by rw [hp]; exact lt_asym hl)]
   cases getP P k' <;> rfl
  ·exact absurd hl h
  ·rw [getP_filter_no (fun p hp=>by rw [hp]; exact lt_asym hl),getP_filter (fun p hp=>by rw [hp]; exact hl)]
theorem getP_delP:getP (delP k P) k'=if k'=k then none else getP P k':=by
 unfold delP
 by_cases h:k'=k
 ·rw [if_pos h]
  exact getP_filter_no fun p hp=>by simp [hp,h]
 ·rw [if_neg h]
  exact getP_filter fun p hp=>by simp [hp,h]
theorem putP_len:(putP k v P).length<=P.length+1:=by
 have:(P.filter fun p=>bytesLt p.1 k).length+(P.filter fun p=>bytesLt k p.1).length<=P.length:=by
  induction P with
  | nil=>simp
  | cons p P ih =>
   rw [List.filter_cons,List.filter_cons]
   cases h1:bytesLt p.1 k with
   | true =>
    rw [lt_asym h1]
    simp; omega
   | false =>
    cases h2:bytesLt k p.1 <;> simp <;> omega
 unfold putP
 rw [List.length_append,List.length_cons]
 exact Nat.succ_le_succ this
theorem mem_getP {p:Pr} (h:p∈P):getP P p.1≠none:=fun hn=>by
 unfold getP at hn
 rw [Option.map_eq_none_iff,List.find?_eq_none] at hn
 exact hn p h (by simp)
theorem getP_at {i:Nat} {p:Pr} (hs:SrtP P) (h:P[i]?=some p):getP P p.1=some p.2:=by
 obtain ⟨hi,rfl⟩:=List.getElem?_eq_some_iff.1 h
 have e:P=P.take i++P[i]::P.drop (i+1):=by rw [List.getElem_cons_drop,List.take_append_drop]
 have hA:AllLt P[i].1 (P.take i):=fun x hx=>by
  unfold SrtP at hs
  rw [e,List.pairwise_append] at hs
  exact hs.2.2 x hx _ (List.mem_cons_self ..)
 have:=get_old (v0:=P[i].2) (B:=P.drop (i+1)) hA
 rw [← e] at this
 exact this
theorem srt_next {i:Nat} {p q:Pr} (hs:SrtP P) (hp:P[i]?=some p) (hq:P[i+1]?=some q):bytesLt p.1 q.1=true:=by
 obtain ⟨hi,rfl⟩:=List.getElem?_eq_some_iff.1 hp
 obtain ⟨hj,rfl⟩:=List.getElem?_eq_some_iff.1 hq
 exact List.pairwise_iff_getElem.1 hs i (i+1) hi hj (by omega)
theorem rng_all:rngP [] [] P=P:=List.filter_eq_self.2 fun p _=>by unfold inR; rw [le_nil,bel_nil]; rfl
end
theorem prs_le:∀ {h:Nat} {t:Tr h},Okt h t->prs t<=84 * (pgs h t).length
 | 0,t,hok=>by
  obtain ⟨p,ks,vs,rfl⟩:=lf_eta t
  have h1:=leaf_sm (ks:=ks) (vs:=vs) hok.fits
  have h2:prs (lf p ks vs)=ks.length:=prs_lf hok.vs
  have h3:(pgs 0 (lf p ks vs)).length=1:=rfl
  rw [h2,h3]
  omega
 | h+1,t,hok=>by
  obtain ⟨p,ks,ts,rfl⟩:=inn_eta t
  rw [prs_inn hok.len,pgs_sum]
  have:∀ l:List (Tr h),(∀ u∈l,Okt h u)->(l.map prs).sum<=84 * (l.map fun t=>(pgs h t).length).sum:=by
   intro l
   induction l with
   | nil=>intro _; simp
   | cons u l ih =>
    intro hl
    have h1:=prs_le (hl u (List.mem_cons_self ..))
    have h2:=ih fun x hx=>hl x (List.mem_cons_of_mem _ hx)
    simp only [List.map_cons,List.sum_cons]
    omega
  have:=this ts hok.kid
  omega
theorem good_len {N:Nat} {m:Mem} {root:Int} {P:List Pr} (hg:GoodS m root P) (hd:∀ i,m i≠none->i < N):P.length<=84 * N:=by
 rcases hg with ⟨_,_,rfl⟩ | ⟨H,t,hw,hok,hs,rfl⟩
 ·simp
 ·have h1:=prs_le hok
  have h2:=whole_frees hw hd
  unfold prs at h1
  omega
end Go.Proofs.YtlmmddfhoabjfaaGreat
end
