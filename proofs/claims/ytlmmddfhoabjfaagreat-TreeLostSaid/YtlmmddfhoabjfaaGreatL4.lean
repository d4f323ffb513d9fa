/- What the proofs lean on, part 4. -/
import Derived.Test.YtlmmddfhoabjfaaGreatL3
import Derived.Shelf.Sort.Plain
import Derived.Shelf.Slices.In.SortNone
set_option linter.unusedVariables false
set_option maxRecDepth 20000
section
namespace Go.Am
section
variable {P:Program} {o:Oper} {a:Slots} {L L₁:RL} {t e:TypeId} {x y z:Operand}
theorem e_slice3C {lo hi mx:Operand} {k1 k2 k3:IntKind} {r off n c sz l u m:Nat} (ho:o.op=.slice t x (some lo) (some hi) (some mx)) (hx:aev a x=some (.slice (some ⟨r,off,none⟩) n c)) (hlo:aev a lo=some (.int k1 (l:Nat))) (hhi:aev a hi=some (.int k2 (u:Nat))) (hmx:aev a mx=some (.int k3 (m:Nat)))
  (ht:P.underlying t=some (.slice e)) (hz:sizeB P e=some sz) (hm:m<=n) (hnc:n<=c) (hu:u<=m) (hl:l<=u) (hmb:m<=1000000000000):∀ h,opB P a o h=some (.val (.slice (some ⟨r,off+l * sz,none⟩) (u - l) (m - l)) h):=by
 intro h
 have h1:optEv a (some lo)=some (some (.int k1 (l:Nat))):=by simp only [optEv,hlo]
 have h2:optEv a (some hi)=some (some (.int k2 (u:Nat))):=by simp only [optEv,hhi]
 have h3:optEv a (some mx)=some (some (.int k3 (m:Nat))):=by simp only [optEv,hmx]
 have b1:Nat.ble m (farB n c)=true:=by
  unfold farB
  split
  ·exact Nat.ble_eq_true_of_le hm
  ·exact Nat.ble_eq_true_of_le (Nat.le_trans hm hnc)
 have b2:Nat.ble u m=true:=Nat.ble_eq_true_of_le hu
 have b3:Nat.ble l u=true:=Nat.ble_eq_true_of_le hl
 have b4:Nat.ble m 1000000000000=true:=Nat.ble_eq_true_of_le hmb
 simp only [opB,ho,hx,h1,h2,h3,sliceB,ht,bound_nat,hz,b1,b2,b3,b4,Option.isSome,Bool.and_self,moved,ret]
theorem e_appendIn (i:Nat) {c:Call} {e':TypeId} {sz bts len m r off cap r2 o2 c2:Nat} {row2:ARow} {cs cs2 new cs':List Value} (ho:o.op=.call c) (hT:appT P c=some (e,sz,bts)) (ha:evs a c.args.toList=some [.slice (some ⟨r,off,none⟩) len cap,.slice (some ⟨r2,o2,none⟩) m c2])
  (hm2:(r2,row2)∈L) (hr2:rdRow row2=some cs2) (hcut:cut cs2 o2 (m * sz)=some new) (hone:allOne new=true) (hcap:cap < openCap) (hroom:len+m<=cap) (hL:L[i]?=some (r,.cells e' cs)) (hlay:lay cs (off+len * sz) new=some cs') (hset:setL L i (r,.cells e' cs')=some L₁) :
  ∀ h,Has h L->∃ h₁,opB P a o h=some (.val (.slice (some ⟨r,off,none⟩) (len+m) cap) h₁)/\Has h₁ L₁:=by
 intro h H
 unfold appT at hT
 split at hT
 case h_2=>cases hT
 rename_i hcal
 split at hT
 case h_2=>cases hT
 rename_i st xt hst hxt
 split at hT
 case h_2=>cases hT
 rename_i e₁ xd hu1 hu2
 have hxd:(∀ k,xd=.int k->False)/\∃ i,P.info? e₁=some i/\i.size=sz:=by
  split at hT
  ·cases hT
  ·rename_i hno
   split at hT
   case h_2=>cases hT
   rename_i i hi hz
   simp at hT
   obtain ⟨rfl,rfl,rfl⟩:=hT
   exact ⟨fun k hk=>hno k hk,i,hi,rfl⟩
 obtain ⟨hno,inf,hi,rfl⟩:=hxd
 have hcb:Nat.beq cap openCap=false:=beq_false (by omega)
 have hle:Nat.ble (len+m) cap=true:=Nat.ble_eq_true_of_le hroom
 have hlen:lenB (.slice (some ⟨r2,o2,none⟩) m c2)=some m:=rfl
 have hnt:notText (.slice (some ⟨r2,o2,none⟩) m c2)=true:=rfl
 have hs:=setL_eq hset
 subst hs
 by_cases hm0:m=0
 ·subst hm0
  rw [Nat.add_zero] at hle
  have hn:new=[]:=List.eq_nil_of_length_eq_zero (by have:=(cut_eq hcut).2.2.1; simpa using this)
  subst hn
  have hcs:cs'=cs:=by
   have h1:=(lay_eq hlay).2
   rw [lay_of (by simpa using h1)] at hlay
   simpa using hlay.symm
  subst hcs
  have hLs:L.set i (r,.cells e' cs')=L:=by
   obtain ⟨hlt,he⟩:=List.getElem?_eq_some_iff.1 hL
   rw [← he]; exact List.set_getElem_self hlt
  have hf:firstB inf.size 0 (.slice (some ⟨r2,o2,none⟩) 0 c2) h=some []:=rfl
  refine ⟨h,?_,by rw [hLs]; exact H⟩
  simp only [opB,ho,ha,callOpB,hcal,appendB,hst,hxt,hu1,hu2]
  cases xd <;> first | exact (hno _ rfl).elim | skip
  all_goals simp only [hi,hlen,hf,hone,hnt,Bool.true_or,Bool.and_self,hcb,hle,ret2,Nat.add_zero]
 ·have hb0:Nat.beq m 0=false:=beq_false hm0
  obtain ⟨h₁,e₁⟩:=h.put_some r (some (.cells e' cs'))
  have hf:firstB inf.size m (.slice (some ⟨r2,o2,none⟩) m c2) h=some new:=by simp only [firstB,hb0,H.mem hm2 hr2,hcut]
  refine ⟨h₁,?_,H.put hL e₁⟩
  simp only [opB,ho,ha,callOpB,hcal,appendB,hst,hxt,hu1,hu2]
  cases xd <;> first | exact (hno _ rfl).elim | skip
  all_goals simp only [hi,hlen,hf,hone,hnt,Bool.true_or,Bool.and_self,hcb,hle,hb0,H.row hL,hlay,e₁,ret2]
end
theorem lay_close {cs J:List Value} {i n:Nat} (hn:cs.length=n) (hi:i < n):lay (cs++J) (0+i * 1) (cs.drop (i+1))=some (cs.eraseIdx i++(cs.drop (n - 1)++J)):=by
 rw [Nat.zero_add,Nat.mul_one,lay_of (by simp; omega)]
 congr 1
 rw [List.take_append_of_le_length (by omega),List.eraseIdx_eq_take_drop_succ,List.length_drop,List.drop_append_of_le_length (by omega),List.append_assoc]
 congr 3
 congr 1; omega
theorem lay_zero {E Z J:List Value} {z:Value} {k:Nat} (hE:E.length=k) (hZ:Z.length=1):lay (E++(Z++J)) (0+k * 1) [z]=some (E++z::J):=by
 rw [Nat.zero_add,Nat.mul_one,lay_of (by simp; omega)]
 congr 1
 rw [List.take_append_of_le_length (by omega),List.take_of_length_le (by omega),List.length_singleton,List.drop_append,List.drop_eq_nil_of_le (by omega),List.nil_append,show k+1 - E.length=1 by omega,List.drop_append_of_le_length (by omega),List.drop_eq_nil_of_le (by omega)]
 simp
theorem len_erase {α:Type} {l:List α} {i n:Nat} (h:l.length=n) (hi:i < n):(l.eraseIdx i).length=n - 1:=by rw [List.length_eraseIdx,if_pos (by omega),h]
end Go.Am
namespace Go.Proofs.YtlmmddfhoabjfaaGreat
open Go.Am
theorem DeleteS_ct {F Y:RL} {v:Value} {n i:Nat} {cs:List Value} (g:GV 9 1 [] v n cs Y) (hi:i < n) (hn:n<=1000000) (hone:allOne cs=true) :
  CS Tryz.prog 71 [v,.int .i64 (i:Nat),.int .i64 ((i+1:Nat):Int)] (Y++F) fun u L'=>∃ Y',L'=Y'++F/\OW 9 1 u (n - 1) (cs.eraseIdx i) Y':=by
 have hcl:cs.length=n:=by have:=g.sv.len; omega
 rcases g with ⟨rfl,rfl,rfl,rfl⟩ | ⟨r,rfl,hl,rfl⟩
 ·omega
 refine CS.reveal (sz:=1) rfl hl (fun c hnc hco=>?_) (by unfold openCap; omega)
 rw [Nat.mul_one]
 generalize hJe:junk (c - n)=J
 have hJl:J.length=c - n:=by rw [← hJe]; simp
 refine CS.mk (fn:=Tryz.f71) rfl rfl rfl rfl ?_
 repeat refine xQ ?_
 refine xG rfl ?_
 refine xP rfl rh rfl ?_
 refine xN ?_
 repeat refine xQ ?_
 refine xG rfl ?_
 iterate 5 refine xP rfl rh rfl ?_
 refine xP rfl (e_slice3C (l:=i) (u:=i+1) (m:=n) rfl rfl rfl rfl rfl rfl rfl (by omega) hnc (by omega) (by omega) (by omega)) rfl ?_
 refine xN ?_
 have hb:ieqB ((i:Nat):Int) ((i+1:Nat):Int)=false:=by rw [ieqN,decide_eq_false (by omega)]
 repeat refine xQ ?_
 refine xG rfl ?_
 iterate 2 refine xP rfl rh rfl ?_
 refine xP rfl (e_ib rh (hb)) rfl ?_
 refine xN ?_
 repeat refine xQ ?_
 refine xC rfl (fun hc=>?_) (fun hc=>?_)
 ·cases hc
 refine LS.skip ?_
 repeat refine xQ ?_
 refine xG rfl ?_
 iterate 3 refine xP rfl rh rfl ?_
 refine xN ?_
 repeat refine xQ ?_
 refine LS.drawn noGo mixed [(0,false),(1,false),(2,false),(3,false),(4,false),(5,false),(6,true),(7,false)] rfl rfl (by kernel_rfl) ?_
 iterate 2 refine xD rfl rfl rh rfl ?_
 refine xD rfl rfl (e_sliceC0 (u:=i) rfl rfl rfl rfl rfl (by omega) hco) rfl ?_
 iterate 2 refine xD rfl rfl rh rfl ?_
 refine xD rfl rfl (e_sliceC1 (l:=i+1) rfl rfl rfl rfl rfl (by omega) (by omega) hco) rfl ?_
 refine ODS.write rfl rfl (e_appendIn 0 (e:=9) (sz:=1) (bts:=16) (len:=i) (new:=cs.drop (i+1)) rfl rfl rfl (List.mem_cons_self ..) rfl (cut_tail hcl (by omega)) (allOne_drop hone) hco (by omega) rfl (lay_close hcl hi) rfl) rfl Keep.nil ?_
 rw [show i+(n - (i+1))=n - 1 by omega]
 refine xD rfl rfl rh rfl ?_
 refine xM ?_
 repeat refine xQ ?_
 refine xG rfl ?_
 iterate 4 refine xP rfl rh rfl ?_
 refine xP rfl (e_sliceC (l:=n - 1) (u:=n) rfl rfl rfl rfl bound_nat bound_nat rfl rfl hnc (by omega) hco) rfl ?_
 rw [show n - (n - 1)=1 by omega]
 refine OS.write rfl (e_clear 0 (sz:=1) (zs:=[.string ⟨⟨[]⟩⟩]) rfl rfl rfl rfl rfl (Nat.le_refl _) rfl rfl rfl rfl (Nat.le_refl _) rfl (lay_zero (z:=.string ⟨⟨[]⟩⟩) (len_erase hcl hi) (by simp; omega)) rfl) rfl ?_
 refine xN ?_
 repeat refine xQ ?_
 refine xG rfl ?_
 iterate 2 refine xP rfl rh rfl ?_
 refine xN ?_
 refine xT ⟨_,fun _ _=>rfl,?_⟩
 exact ⟨[(r,_)],rfl,⟨r,c,_,rfl,by rw [len_erase hcl hi]; omega,rfl,by omega,.inr ⟨hco,by rw [List.length_append,len_erase hcl hi,List.length_cons]; omega⟩⟩⟩
end Go.Proofs.YtlmmddfhoabjfaaGreat
end
section
namespace Go.Proofs.YtlmmddfhoabjfaaGreat
open Go.Am
theorem overlapsZ_ext {L:RL} {r r' o' n' c':Nat} {cs cs':List Value} {c:Nat} (h1:(r,.cells 3 cs)∈L) (h2:(r',.cells 3 cs')∈L) (hne:r≠r') (hn2:1<=n') (hne':cs'≠[]) :
  ∀ h,Has h L->ExtH Tryz.prog 179 [.slice (some ⟨r,0,none⟩) 1 c,.slice (some ⟨r',o',none⟩) n' c'] (.bool false) h :=
 ext_overlaps (e:=3) (sz:=1) (tS:=36) (tR:=4) (fn:=Tryz.f179) rfl (by kernel_rfl) rfl (by kernel_rfl) (by kernel_rfl) rfl rfl h1 h2 hne (by kernel_rfl) (by kernel_rfl) (Nat.le_refl _) hn2 hne'
theorem zeroZ {n:Nat}:allOne (repL [Value.int .i64 0] n)=true:=by
 rw [repL_one]
 induction n with
 | zero=>rfl
 | succ n ih=>simp only [List.replicate_succ,allOne,oneB]; exact ih
theorem InsertZ_ct {F Y:RL} {v x:Value} {n i rv:Nat} {cs:List Value} (g:GV 3 1 [] v n cs Y) (hi:i<=n) (hn:n<=1000000) (hx:oneB x=true) (hone:allOne cs=true) (hrv:(rv,.cells 3 [x])∈F) (hnd:∀ p,p∈Y->p.1≠rv) :
  CS Tryz.prog 160 [v,.int .i64 (i:Nat),.slice (some ⟨rv,0,none⟩) 1 1] (Y++F) fun u L'=>∃ Y',L'=Y'++F/\OW 3 1 u (n+1) (insL cs i x) Y':=by
 have hcl:cs.length=n:=by have:=g.sv.len; omega
 have hv1:allOne [x]=true:=by simp only [allOne,hx]
 rcases Nat.eq_or_lt_of_le hi with rfl | hlt
 ·have hpl:=(g.ol (by unfold openCap; omega)).pl
  refine CS.mk (fn:=Tryz.f160) rfl rfl rfl rfl ?_
  repeat refine xQ ?_
  refine xG rfl ?_
  refine xP rfl rh rfl ?_
  refine xN ?_
  repeat refine xQ ?_
  refine xG rfl ?_
  iterate 2 refine xP rfl rh rfl ?_
  refine OS.slicePL hpl (fun p hp=>List.mem_append_left _ hp) rfl rfl rfl rfl rfl bound_nat rfl rfl rfl (Nat.le_refl _) (Nat.le_refl _) (fun v' _=>⟨_,rfl,?_⟩)
  refine xN ?_
  repeat refine xQ ?_
  refine xG rfl ?_
  iterate 3 refine xP rfl rh rfl ?_
  refine xN ?_
  repeat refine xQ ?_
  refine xG rfl ?_
  iterate 2 refine xP rfl rh rfl ?_
  refine xN ?_
  repeat refine xQ ?_
  refine xC rfl (fun hc=>?_) (fun hc=>?_)
  ·cases hc
  refine LS.skip ?_
  repeat refine xQ ?_
  refine xG rfl ?_
  refine xP rfl rh rfl ?_
  refine xP rfl (e_len (hpl.sv.mono (L':=Y++F) (fun p hp=>List.mem_append_left _ hp)) rfl rfl rfl rfl rfl) rfl ?_
  refine xP rfl rh rfl ?_
  refine xN ?_
  have hb:ieqB ((i:Nat):Int) (i:Nat)=true:=by rw [ieqN,decide_eq_true rfl]
  repeat refine xQ ?_
  refine xG rfl ?_
  iterate 2 refine xP rfl rh rfl ?_
  refine xP rfl (e_ib rh (hb)) rfl ?_
  refine xN ?_
  repeat refine xQ ?_
  refine xC rfl (fun hc=>?_) (fun hc=>?_)
  ·repeat refine xQ ?_
   refine xG rfl ?_
   iterate 2 refine xP rfl rh rfl ?_
   refine OS.fresh rfl ((e_appendGV [] (F:=F) (e:=3) (cs:=cs) (n:=i) (m:=1) (sz:=1) (bts:=8) (new:=[x]) (GV.appendR F g) (SV.row (e:=3) (sz:=1) (n:=1) (show (rv,ARow.cells 3 [x])∈[]++(Y++F) from List.mem_append_right Y hrv) rfl) (by omega) hv1 rfl rfl rfl (by omega) (by omega))) (fun _=>rfl) (fun r2=>?_)
   refine xP rfl rh rfl ?_
   refine xN ?_
   refine xT ⟨_,fun _ _=>rfl,?_⟩
   refine ⟨[(r2,_)],rfl,⟨r2,openCap,[],rfl,by rw [insL_len (by omega)]; omega,?_,by unfold openCap; omega,.inl rfl⟩⟩
   rw [List.append_nil,← hcl,insL_end]
  ·cases hc
 ·rcases g with ⟨rfl,rfl,rfl,rfl⟩ | ⟨r,rfl,hl,rfl⟩
  ·omega
  refine CS.reveal (sz:=1) rfl hl (fun c hnc hco=>?_) (by unfold openCap; omega)
  rw [Nat.mul_one]
  have hne:rv≠r:=fun hh=>hnd _ (List.mem_cons_self ..) hh.symm
  refine CS.mk (fn:=Tryz.f160) rfl rfl rfl rfl ?_
  repeat refine xQ ?_
  refine xG rfl ?_
  refine xP rfl rh rfl ?_
  refine xN ?_
  repeat refine xQ ?_
  refine xG rfl ?_
  iterate 2 refine xP rfl rh rfl ?_
  refine xP rfl (e_sliceC (l:=i) (u:=n) rfl rfl rfl rfl bound_nat rfl rfl rfl hnc (by omega) hco) rfl ?_
  refine xN ?_
  repeat refine xQ ?_
  refine xG rfl ?_
  iterate 3 refine xP rfl rh rfl ?_
  refine xN ?_
  repeat refine xQ ?_
  refine xG rfl ?_
  iterate 2 refine xP rfl rh rfl ?_
  refine xN ?_
  repeat refine xQ ?_
  refine xC rfl (fun hc=>?_) (fun hc=>?_)
  ·cases hc
  refine LS.skip ?_
  repeat refine xQ ?_
  refine xG rfl ?_
  iterate 3 refine xP rfl rh rfl ?_
  refine xN ?_
  have hb:ieqB ((i:Nat):Int) (n:Nat)=false:=by rw [ieqN,decide_eq_false (by omega)]
  repeat refine xQ ?_
  refine xG rfl ?_
  iterate 2 refine xP rfl rh rfl ?_
  refine xP rfl (e_ib rh (hb)) rfl ?_
  refine xN ?_
  repeat refine xQ ?_
  refine xC rfl (fun hc=>?_) (fun hc=>?_)
  ·cases hc
  refine LS.skip ?_
  repeat refine xQ ?_
  refine xG rfl ?_
  iterate 2 refine xP rfl rh rfl ?_
  refine xP rfl (e_addN (m:=n) (n:=1) rfl rfl rfl (in_i64 (by omega) (by omega))) rfl ?_
  refine xP rfl rh rfl ?_
  refine xP rfl (e_cap rfl rfl rfl rfl rfl hco) rfl ?_
  refine xP rfl rh rfl ?_
  refine xN ?_
  repeat refine xQ ?_
  refine xC rfl (fun hc=>?_) (fun hc=>?_)
  ·have hcn:c=n:=by
    have h2:(!ileB ((n+1:Nat):Int) (c:Nat))=true:=hc
    rw [ileB_eq] at h2; simp at h2; omega
   subst hcn
   have hJ:junk (c - c)=[]:=by rw [Nat.sub_self]; rfl
   rw [hJ,List.append_nil]
   repeat refine xQ ?_
   refine xG rfl ?_
   iterate 2 refine xP rfl rh rfl ?_
   refine xP rfl (e_sliceC0 (u:=i) rfl rfl rfl rfl rfl (by omega) hco) rfl ?_
   iterate 2 refine xP rfl rh rfl ?_
   refine xP rfl (e_addN (m:=c) (n:=1) rfl rfl rfl (in_i64 (by omega) (by omega))) rfl ?_
   refine xP rfl rh rfl ?_
   refine xP rfl (e_subN (m:=c+1) (n:=i) rfl rfl rfl (by omega) (in_i64 (by omega) (by omega))) rfl ?_
   refine OS.fresh rfl ((e_appendZK (e:=3) (sz:=1) (bts:=8) (zs:=[.int .i64 0]) (m:=c+1 - i) (old:=cs.take i) (row:=.cells 3 cs) rfl (by kernel_rfl) rfl zeroZ (by omega) hco (by omega) (by omega) (by omega) (by omega) (List.mem_cons_self ..) rfl (by rw [cut_of (by omega)]; simp))) (fun _=>rfl) (fun r2=>?_)
   rw [show i+(c+1 - i)=c+1 by omega]
   refine xP rfl rh rfl ?_
   refine xN ?_
   have hZ:(repL [Value.int .i64 0] (c+1 - i)).length=c+1 - i:=by rw [repL_len]; simp
   generalize repL [Value.int .i64 0] (c+1 - i)=Z at hZ
   repeat refine xQ ?_
   refine xG rfl ?_
   iterate 2 refine xP rfl rh rfl ?_
   refine xR rfl (e_sliceO1 0 (l:=i) rfl rfl rfl rfl rfl (by omega) rfl) rfl ?_
   refine xP rfl rh rfl ?_
   refine OS.write rfl (e_copyG 0 (e:=3) (sz:=1) (k:=1) rfl rfl rfl rfl rfl rfl (nmin_l (by omega)) (by omega) (List.mem_cons_of_mem _ (List.mem_cons_of_mem _ hrv)) rfl rfl hv1 rfl (by rw [Nat.zero_add]; exact lay_first (by omega) (by omega)) rfl) rfl ?_
   refine xN ?_
   repeat refine xQ ?_
   refine LS.drawn noGo mixed [(0,false),(1,false),(2,false),(3,false),(4,false),(5,false),(6,false),(7,false),(8,true)] rfl rfl (by kernel_rfl) ?_
   iterate 3 refine xD rfl rfl rh rfl ?_
   refine xD rfl rfl (e_addN (m:=i) (n:=1) rfl rfl rfl (in_i64 (by omega) (by omega))) rfl ?_
   refine xE rfl rfl (e_sliceO1 0 (l:=i+1) rfl rfl rfl rfl rfl (by omega) rfl) rfl ?_
   iterate 2 refine xD rfl rfl rh rfl ?_
   refine xD rfl rfl (e_sliceC1 (l:=i) rfl rfl rfl rfl rfl hnc (by omega) hco) rfl ?_
   refine ODS.write rfl rfl (e_copyG 0 (e:=3) (sz:=1) (k:=c - i) (new:=cs.drop i) rfl rfl rfl rfl rfl rfl (nmin_l (by omega)) (by omega) (List.mem_cons_of_mem _ (List.mem_cons_self ..)) rfl (cut_tail0 hcl (by omega)) (allOne_drop hone) rfl (by rw [Nat.zero_add]; exact lay_rest (by omega) (by simp; omega)) rfl) rfl (Keep.gone rfl Keep.nil) ?_
   refine xM ?_
   repeat refine xQ ?_
   refine xG rfl ?_
   refine OS.sub (Sub.drop 1 rfl) ?_
   iterate 2 refine xP rfl rh rfl ?_
   refine xN ?_
   refine xT ⟨_,fun _ _=>rfl,?_⟩
   exact ⟨[(r2,_)],rfl,⟨r2,openCap,[],rfl,by rw [insL_len (by omega)]; omega,by rw [List.append_nil]; rfl,by unfold openCap; omega,.inl rfl⟩⟩
  ·have hcn:n+1<=c:=by
    have h2:(!ileB ((n+1:Nat):Int) (c:Nat))=false:=hc
    rw [ileB_eq] at h2; simp at h2; omega
   refine LS.skip ?_
   have hJ:1<=(junk (c - n)).length:=by simp; omega
   generalize hJe:junk (c - n)=J at hJ
   have hJl:J.length=c - n:=by rw [← hJe]; simp
   repeat refine xQ ?_
   refine xG rfl ?_
   iterate 3 refine xP rfl rh rfl ?_
   refine xP rfl (e_addN (m:=n) (n:=1) rfl rfl rfl (in_i64 (by omega) (by omega))) rfl ?_
   refine xP rfl (e_sliceC0 (u:=n+1) rfl rfl rfl rfl rfl (by omega) hco) rfl ?_
   refine xP rfl rh rfl ?_
   refine xN ?_
   repeat refine xQ ?_
   refine xG rfl ?_
   iterate 4 refine xP rfl rh rfl ?_
   refine xP rfl (e_addN (m:=i) (n:=1) rfl rfl rfl (in_i64 (by omega) (by omega))) rfl ?_
   refine xP rfl (e_sliceC1 (l:=i+1) rfl rfl rfl rfl rfl (by omega) (by omega) hco) rfl ?_
   refine OS.extH (overlapsZ_ext (cs:=[x]) (cs':=cs++J) (List.mem_cons_of_mem _ hrv) (List.mem_cons_self ..) hne (by omega) (fun hh=>by have h0:=congrArg List.length hh; rw [List.length_append,List.length_nil] at h0; omega)) rfl (fun _=>rfl) rfl ?_
   refine xP rfl rh rfl ?_
   refine xN ?_
   repeat refine xQ ?_
   refine xC rfl (fun hc2=>?_) (fun hc2=>?_)
   ·repeat refine xQ ?_
    refine LS.drawn noGo mixed [(0,false),(1,false),(2,false),(3,false),(4,false),(5,false),(6,false),(7,false),(8,true)] rfl rfl (by kernel_rfl) ?_
    iterate 3 refine xD rfl rfl rh rfl ?_
    refine xD rfl rfl (e_addN (m:=i) (n:=1) rfl rfl rfl (in_i64 (by omega) (by omega))) rfl ?_
    refine xD rfl rfl (e_sliceC1 (l:=i+1) rfl rfl rfl rfl rfl (by omega) (by omega) hco) rfl ?_
    iterate 2 refine xD rfl rfl rh rfl ?_
    refine xD rfl rfl (e_sliceC1 (l:=i) rfl rfl rfl rfl rfl (by omega) (by omega) hco) rfl ?_
    refine ODS.write rfl rfl (e_copyG 0 (e:=3) (sz:=1) (k:=n - i) (new:=cs.drop i) rfl rfl rfl rfl rfl rfl ((nmin_r (by omega)).trans (by omega)) (by omega) (List.mem_cons_self ..) rfl (cut_tail hcl (by omega)) (allOne_drop hone) rfl (by rw [Nat.zero_add]; exact lay_shift hcl (by omega) hJ) rfl) rfl Keep.nil ?_
    refine xM ?_
    repeat refine xQ ?_
    refine xG rfl ?_
    iterate 2 refine xP rfl rh rfl ?_
    refine xP rfl (e_sliceC1 (l:=i) rfl rfl rfl rfl rfl (by omega) (by omega) hco) rfl ?_
    refine xP rfl rh rfl ?_
    refine OS.write rfl (e_copyG 0 (e:=3) (sz:=1) (k:=1) rfl rfl rfl rfl rfl rfl (nmin_l (by omega)) (by omega) (List.mem_cons_of_mem _ hrv) rfl rfl hv1 rfl (by rw [Nat.zero_add]; exact lay_put hcl (by omega)) rfl) rfl ?_
    refine xN ?_
    repeat refine xQ ?_
    refine xG rfl ?_
    iterate 2 refine xP rfl rh rfl ?_
    refine xN ?_
    refine xT ⟨_,fun _ _=>rfl,?_⟩
    exact ⟨[(r,_)],rfl,⟨r,c,J.drop 1,rfl,by rw [insL_len (by omega)]; omega,rfl,by omega,.inr ⟨hco,by rw [List.length_append,insL_len (by omega),List.length_drop]; omega⟩⟩⟩
   ·cases hc2
theorem DeleteZ_ct {F Y:RL} {v:Value} {n i:Nat} {cs:List Value} (g:GV 3 1 [] v n cs Y) (hi:i < n) (hn:n<=1000000) (hone:allOne cs=true) :
  CS Tryz.prog 163 [v,.int .i64 (i:Nat),.int .i64 ((i+1:Nat):Int)] (Y++F) fun u L'=>∃ Y',L'=Y'++F/\OW 3 1 u (n - 1) (cs.eraseIdx i) Y':=by
 have hcl:cs.length=n:=by have:=g.sv.len; omega
 rcases g with ⟨rfl,rfl,rfl,rfl⟩ | ⟨r,rfl,hl,rfl⟩
 ·omega
 refine CS.reveal (sz:=1) rfl hl (fun c hnc hco=>?_) (by unfold openCap; omega)
 rw [Nat.mul_one]
 generalize hJe:junk (c - n)=J
 have hJl:J.length=c - n:=by rw [← hJe]; simp
 refine CS.mk (fn:=Tryz.f163) rfl rfl rfl rfl ?_
 repeat refine xQ ?_
 refine xG rfl ?_
 refine xP rfl rh rfl ?_
 refine xN ?_
 repeat refine xQ ?_
 refine xG rfl ?_
 iterate 5 refine xP rfl rh rfl ?_
 refine xP rfl (e_slice3C (l:=i) (u:=i+1) (m:=n) rfl rfl rfl rfl rfl rfl rfl (by omega) hnc (by omega) (by omega) (by omega)) rfl ?_
 refine xN ?_
 have hb:ieqB ((i:Nat):Int) ((i+1:Nat):Int)=false:=by rw [ieqN,decide_eq_false (by omega)]
 repeat refine xQ ?_
 refine xG rfl ?_
 iterate 2 refine xP rfl rh rfl ?_
 refine xP rfl (e_ib rh (hb)) rfl ?_
 refine xN ?_
 repeat refine xQ ?_
 refine xC rfl (fun hc=>?_) (fun hc=>?_)
 ·cases hc
 refine LS.skip ?_
 repeat refine xQ ?_
 refine xG rfl ?_
 iterate 3 refine xP rfl rh rfl ?_
 refine xN ?_
 repeat refine xQ ?_
 refine LS.drawn noGo mixed [(0,false),(1,false),(2,false),(3,false),(4,false),(5,false),(6,true),(7,false)] rfl rfl (by kernel_rfl) ?_
 iterate 2 refine xD rfl rfl rh rfl ?_
 refine xD rfl rfl (e_sliceC0 (u:=i) rfl rfl rfl rfl rfl (by omega) hco) rfl ?_
 iterate 2 refine xD rfl rfl rh rfl ?_
 refine xD rfl rfl (e_sliceC1 (l:=i+1) rfl rfl rfl rfl rfl (by omega) (by omega) hco) rfl ?_
 refine ODS.write rfl rfl (e_appendIn 0 (e:=3) (sz:=1) (bts:=8) (len:=i) (new:=cs.drop (i+1)) rfl rfl rfl (List.mem_cons_self ..) rfl (cut_tail hcl (by omega)) (allOne_drop hone) hco (by omega) rfl (lay_close hcl hi) rfl) rfl Keep.nil ?_
 rw [show i+(n - (i+1))=n - 1 by omega]
 refine xD rfl rfl rh rfl ?_
 refine xM ?_
 repeat refine xQ ?_
 refine xG rfl ?_
 iterate 4 refine xP rfl rh rfl ?_
 refine xP rfl (e_sliceC (l:=n - 1) (u:=n) rfl rfl rfl rfl bound_nat bound_nat rfl rfl hnc (by omega) hco) rfl ?_
 rw [show n - (n - 1)=1 by omega]
 refine OS.write rfl (e_clear 0 (sz:=1) (zs:=[.int .i64 0]) rfl rfl rfl rfl rfl (Nat.le_refl _) rfl rfl rfl rfl (Nat.le_refl _) rfl (lay_zero (z:=.int .i64 0) (len_erase hcl hi) (by simp; omega)) rfl) rfl ?_
 refine xN ?_
 repeat refine xQ ?_
 refine xG rfl ?_
 iterate 2 refine xP rfl rh rfl ?_
 refine xN ?_
 refine xT ⟨_,fun _ _=>rfl,?_⟩
 exact ⟨[(r,_)],rfl,⟨r,c,_,rfl,by rw [len_erase hcl hi]; omega,rfl,by omega,.inr ⟨hco,by rw [List.length_append,len_erase hcl hi,List.length_cons]; omega⟩⟩⟩
end Go.Proofs.YtlmmddfhoabjfaaGreat
end
section
namespace Go.Proofs
open Go.Shelf
def laysSortYtlmmddfhoabjfaaGreat_ren:Go.Shelf.Ren:=⟨fun | 189=>116 | 125=>144 | 257=>143 | 128=>173 | 129=>174 | 294=>164 | 295=>165 | 296=>166 | 297=>167 | 298=>168 | 299=>169 | 216=>170 | 300=>171 | 301=>172 | 328=>181 | 329=>182 | 330=>183 | 331=>184 | 332=>185 | 215=>186 | 343=>188 | n=>n,fun | 28=>36 | 3=>3 | 46=>70 | 0=>0 | 51=>202 | 53=>160 | 4=>4 | 183=>196 | 182=>195 | 131=>115 | 5=>5 | 9=>9 | 218=>209 | 222=>213 | 228=>215 | 229=>179 | n=>n,fun | n=>n⟩
theorem laysSortYtlmmddfhoabjfaaGreat:Go.Proofs.Lays.n189 Tryz.prog laysSortYtlmmddfhoabjfaaGreat_ren:={
 mixed:=by kernel_rfl
 f125:=Tryz.func144.trans (congrArg some (by kernel_rfl))
 f128:=Tryz.func173.trans (congrArg some (by kernel_rfl))
 f129:=Tryz.func174.trans (congrArg some (by kernel_rfl))
 f189:=Tryz.func116.trans (congrArg some (by kernel_rfl))
 f215:=Tryz.func186.trans (congrArg some (by kernel_rfl))
 f216:=Tryz.func170.trans (congrArg some (by kernel_rfl))
 f257:=Tryz.func143.trans (congrArg some (by kernel_rfl))
 f294:=Tryz.func164.trans (congrArg some (by kernel_rfl))
 f295:=Tryz.func165.trans (congrArg some (by kernel_rfl))
 f296:=Tryz.func166.trans (congrArg some (by kernel_rfl))
 f297:=Tryz.func167.trans (congrArg some (by kernel_rfl))
 f298:=Tryz.func168.trans (congrArg some (by kernel_rfl))
 f299:=Tryz.func169.trans (congrArg some (by kernel_rfl))
 f300:=Tryz.func171.trans (congrArg some (by kernel_rfl))
 f301:=Tryz.func172.trans (congrArg some (by kernel_rfl))
 f328:=Tryz.func181.trans (congrArg some (by kernel_rfl))
 f329:=Tryz.func182.trans (congrArg some (by kernel_rfl))
 f330:=Tryz.func183.trans (congrArg some (by kernel_rfl))
 f331:=Tryz.func184.trans (congrArg some (by kernel_rfl))
 f332:=Tryz.func185.trans (congrArg some (by kernel_rfl))
 f343:=Tryz.func188.trans (congrArg some (by kernel_rfl))
 t0:=Tryz.underlying0
 a0:=Tryz.isAgg0
 z0:=Tryz.sizeOf0
 v0:=Tryz.zeroValue0
 t3:=Tryz.underlying3
 a3:=Tryz.isAgg3
 z3:=Tryz.sizeOf3
 v3:=Tryz.zeroValue3
 t4:=Tryz.underlying4
 a4:=Tryz.isAgg4
 z4:=Tryz.sizeOf4
 v4:=Tryz.zeroValue4
 t5:=Tryz.underlying5
 a5:=Tryz.isAgg5
 z5:=Tryz.sizeOf5
 v5:=Tryz.zeroValue5
 t9:=Tryz.underlying9
 a9:=Tryz.isAgg9
 z9:=Tryz.sizeOf9
 v9:=Tryz.zeroValue9
 t28:=Tryz.underlying36
 a28:=Tryz.isAgg36
 z28:=Tryz.sizeOf36
 v28:=Tryz.zeroValue36
 t46:=Tryz.underlying70
 a46:=Tryz.isAgg70
 z46:=Tryz.sizeOf70
 v46:=Tryz.zeroValue70
 t51:=Tryz.underlying202
 a51:=Tryz.isAgg202
 z51:=Tryz.sizeOf202
 v51:=Tryz.zeroValue202
 t53:=Tryz.underlying160
 a53:=Tryz.isAgg160
 z53:=Tryz.sizeOf160
 v53:=Tryz.zeroValue160
 t131:=Tryz.underlying115
 a131:=Tryz.isAgg115
 z131:=Tryz.sizeOf115
 v131:=Tryz.zeroValue115
 t182:=Tryz.underlying195
 a182:=Tryz.isAgg195
 z182:=Tryz.sizeOf195
 v182:=Tryz.zeroValue195
 t183:=Tryz.underlying196
 a183:=Tryz.isAgg196
 z183:=Tryz.sizeOf196
 v183:=Tryz.zeroValue196
 t218:=Tryz.underlying209
 a218:=Tryz.isAgg209
 z218:=Tryz.sizeOf209
 v218:=Tryz.zeroValue209
 t222:=Tryz.underlying213
 a222:=Tryz.isAgg213
 z222:=Tryz.sizeOf213
 v222:=Tryz.zeroValue213
 t228:=Tryz.underlying215
 a228:=Tryz.isAgg215
 z228:=Tryz.sizeOf215
 v228:=Tryz.zeroValue215
 t229:=Tryz.underlying179
 a229:=Tryz.isAgg179
 z229:=Tryz.sizeOf179
 v229:=Tryz.zeroValue179 }
end Go.Proofs
namespace Go.Am
section
variable {P:Program} {ρ ρ':Env} {h h':AW} {w w₁ w':World}
theorem HRel.grown {X:Array Obj} (H:HRel P ρ h w) (hh:w'.heap=w.heap++X):HRel P ρ h w' :=
 ⟨fun r row hr=>let ⟨l,hl,x⟩:=H.loc r row hr; ⟨l,hl,x.keep (Env.le_refl _) (by rw [hh]; exact Array.getElem?_append_left x.lt)⟩,H.inj,H.fresh,H.step⟩
theorem Turn.grown {X:Array Obj} (T:Turn ρ h w ρ' h' w₁) (hh:w'.heap=w₁.heap++X) (h1:w'.os=w₁.os) (h2:w'.tape=w₁.tape) (h3:w'.output=w₁.output):Turn ρ h w ρ' h' w' :=
 ⟨T.le,h1.trans T.os,h2.trans T.tape,h3.trans T.output,by rw [hh]; have:=T.size; simp; omega,T.own,fun k hk hno=>by
  have:=T.keep k hk hno
  rw [hh,Array.getElem?_append_left (by have:=T.size; omega)]; exact this,T.new,T.next,T.steps⟩
theorem putRow_heap {α:Type} [Inhabited α] (enc:α->Value) (b off:Nat) (d:Array α) (C:Array Value) (e:TypeId) (f:Nat × Nat) (hb:w.heap[b]?=some (.cells C e f)):(Sort.putRow enc w b off d).heap=(w.setRow b (Sort.putCells enc off d C)).heap:=by
 apply Array.ext_getElem?
 intro k
 simp only [Sort.putRow,Sort.mapBlock,World.setRow,Array.getElem?_modify]
 by_cases hk:b=k
 ·subst hk
  simp only [if_true,hb,Option.map_some,Sort.onCells]
 ·simp only [if_neg hk]
end
end Go.Am
namespace Go.Proofs.YtlmmddfhoabjfaaGreat
open Go.Am
def srt (zs:List Int):List Int:=zs.mergeSort fun x y=>decide (x<=y)
theorem srt_len (zs:List Int):(srt zs).length=zs.length:=List.length_mergeSort zs
theorem Sort_ct {L:RL} {r n:Nat} {zs:List Int} (hn:zs.length=n) (hb:n<=1000000):CS Tryz.prog 116 [.slice (some ⟨r,0,none⟩) n openCap] ((r,.cells 3 (nums zs))::L) fun v L'=>v=.tuple #[]/\L'=(r,.cells 3 (nums (srt zs)))::L:=by
 intro h H
 have hg:h.get r=some (.cells 3 (nums zs)):=H.get (r,_) (List.mem_cons_self ..)
 refine ⟨⟨_,_,Tryz.func116,rfl⟩,fun ρ us w hus HR=>?_⟩
 cases hus with
 | cons h1 h2 =>
 cases h2
 cases h1 with
 | @slice _ _ _ _ cap' ad hl hc ha =>
 subst hn
 by_cases h0:zs.length=0
 ·have hz:zs=[]:=List.eq_nil_of_length_eq_zero h0
  subst hz
  refine (Any.slices_Sort_int_none laysSortYtlmmddfhoabjfaaGreat (some ad) cap' w).mono ?_
  rintro en w' ⟨rfl,rfl⟩
  exact ⟨.tuple #[],h,.tuple #[],ρ,rfl,⟨_,⟨rfl,by rw [show srt []=[] by unfold srt; simp]⟩,H⟩,.tuple .nil,HR,Turn.refl _ _ _⟩
 ·have hg':getRow h r=some (3,nums zs):=by unfold getRow; rw [hg]
  obtain ⟨l,C,f,hlr,hblk,hf,q1,q2,q3⟩:=HR.at_plain hg' (by kernel_rfl)
  obtain ⟨l',C',f',hlr',hblk',_,_,_,_,rel⟩:=HR.at_cells hg'
  rw [hlr] at hlr'; simp only [Option.some.injEq] at hlr'; subst hlr'
  rw [hblk] at hblk'; simp only [Option.some.injEq,Obj.cells.injEq,true_and] at hblk'; obtain ⟨rfl,rfl⟩:=hblk'
  obtain ⟨l₁,e1,e2,_⟩:=ha (by omega)
  rw [hlr] at e1; simp only [Option.some.injEq] at e1; subst e1; subst e2
  rw [Nat.add_zero]
  have hlen:(nums zs).length=zs.length:=by simp [nums]
  have hcell:∀ j (hj:j < zs.length),C[l.base+j]?=some (.int .i64 zs[j]):=fun j hj=>by
   obtain ⟨u,hu,hv⟩:=rel j _ (nums_at hj)
   cases hv; exact hu
  have hH:Sort.Holds (Value.int .i64) w l.block l.base zs.toArray:=fun j hj=>by
   have hj':j < zs.length:=by simpa using hj
   refine ⟨?_,frozen_off hblk hf⟩
   rw [getElem!_pos zs.toArray j hj]
   simp only [World.cell?,hblk,List.getElem_toArray]
   exact hcell j hj'
  refine (Any.slices_Sort_int laysSortYtlmmddfhoabjfaaGreat l.block l.base cap' zs w hH (Array.getElem?_eq_some_iff.1 hblk).1 (by omega)).mono ?_
  rintro en w' ⟨rfl,k,X,rfl⟩
  obtain ⟨h₁,e₁⟩:=h.put_some r (some (.cells 3 (nums (srt zs))))
  have hd:(srt zs).toArray.size=zs.length:=by simp [srt_len]
  have hC:(Sort.putCells (Value.int .i64) l.base (srt zs).toArray C).size=C.size:=by simp [Sort.putCells]
  obtain ⟨A1,A2⟩:=HR.write (C':=Sort.putCells (Value.int .i64) l.base (srt zs).toArray C) hg' hlr hblk e₁ hC (by simp [nums,srt_len]) (fun i v hv=>by
   have hi:i < (srt zs).length:=by have:=(List.getElem?_eq_some_iff.1 hv).1; simpa [nums] using this
   rw [nums_at hi] at hv
   simp only [Option.some.injEq] at hv; subst hv
   have hi':i < zs.length:=by rw [← srt_len]; exact hi
   have hlt:l.base+i < C.size:=by rw [hlen] at q1; omega
   refine ⟨.int .i64 (srt zs)[i],?_,.int _ _⟩
   simp only [Sort.putCells,Array.getElem?_mapIdx,Array.getElem?_eq_getElem hlt,Option.map_some]
   rw [if_pos ⟨by omega,by omega⟩,show l.base+i - l.base=i by omega,getElem!_pos (srt zs).toArray i (by simpa using hi)]
   simp)
  have hheap:(Sort.grow (Sort.putRow (Value.int .i64) (Sort.ahead w k) l.block l.base (srt zs).toArray) X).heap=(w.setRow l.block (Sort.putCells (Value.int .i64) l.base (srt zs).toArray C)).heap++X:=by
   show (Sort.putRow (Value.int .i64) (Sort.ahead w k) l.block l.base (srt zs).toArray).heap++X=_
   rw [putRow_heap (w:=Sort.ahead w k) (Value.int .i64) l.block l.base (srt zs).toArray C _ f hblk]
   rfl
  exact ⟨.tuple #[],h₁,.tuple #[],ρ,rfl,⟨_,⟨rfl,rfl⟩,H.put (i:=0) rfl e₁⟩,.tuple .nil,A1.grown hheap,A2.grown hheap rfl rfl rfl⟩
end Go.Proofs.YtlmmddfhoabjfaaGreat
end
section
namespace Go.Am
theorem nodup_le {α:Type} [DecidableEq α]:∀ {A B:List α},A.Nodup->(∀ x,x∈A->x∈B)->A.length<=B.length
 | [],B,_,_=>Nat.zero_le _
 | x::A,B,hn,hs=>by
  rw [List.nodup_cons] at hn
  have hx:x∈B:=hs x (List.mem_cons_self ..)
  have h1:=nodup_le (A:=A) (B:=B.erase x) hn.2 (fun y hy=>(List.mem_erase_of_ne (fun hh=>hn.1 (by rw [← hh]; exact hy))).2 (hs y (List.mem_cons_of_mem _ hy)))
  rw [List.length_erase_of_mem hx] at h1
  have:0 < B.length:=List.length_pos_of_mem hx
  simp only [List.length_cons]; omega
theorem nodup_eq {α:Type} [DecidableEq α] {A B:List α} (hA:A.Nodup) (hB:B.Nodup) (h:∀ x,x∈A↔x∈B):A.length=B.length :=
 Nat.le_antisymm (nodup_le hA fun x=>(h x).1) (nodup_le hB fun x=>(h x).2)
abbrev E3:=Nat × Value × Nat
def ent (p:E3):MapEntry:=⟨.int .i64 (p.1:Int),p.2.1,p.2.2⟩
structure MD (D:List E3) (ck:Nat) (g:Nat->Option Value):Prop where
 nk:(D.map (·.1)).Nodup
 nb:(D.map (·.2.2)).Nodup
 lt:∀ p,p∈D->p.2.2 < ck
 is:∀ k v,g k=some v↔∃ b,(k,v,b)∈D
def MP (es:List MapEntry) (ck:Nat) (g:Nat->Option Value):Prop:=∃ D,es=D.map ent/\MD D ck g
def updF (g:Nat->Option Value) (k:Nat) (v:Option Value):Nat->Option Value:=fun x=>if x=k then v else g x
theorem MP.new:MP [] 0 (fun _=>none):=⟨[],rfl,List.nodup_nil,List.nodup_nil,fun _ h=>(by cases h),fun k v=>⟨fun h=>(by cases h),fun ⟨b,h⟩=>(by cases h)⟩⟩
theorem MD.no {D:List E3} {ck k:Nat} {g:Nat->Option Value} (h:MD D ck g) (hg:g k=none):∀ p,p∈D->p.1≠k:=fun p hp hk=>by
 have:=(h.is k p.2.1).2 ⟨p.2.2,by rw [← hk]; exact hp⟩
 rw [hg] at this; cases this
theorem sameK (a b:Nat):sameKeyB (.int .i64 (a:Int)) (.int .i64 (b:Int))=some (decide (a=b)):=by
 simp only [sameKeyB,if_true,ieqB_eq]
 congr 1
 rw [Bool.eq_iff_iff]
 simp
 omega
theorem find_no {k:Nat}:∀ {D:List E3} {i:Nat},(∀ p,p∈D->p.1≠k)->findB (.int .i64 (k:Int)) (D.map ent) i=some none
 | [],i,_=>rfl
 | p::D,i,h=>by
  have hp:k≠p.1:=fun hh=>h p (List.mem_cons_self ..) hh.symm
  simp only [List.map_cons,findB,ent,sameK,decide_eq_false hp]
  exact find_no (i:=i+1) fun q hq=>h q (List.mem_cons_of_mem _ hq)
theorem find_is {k:Nat} {v:Value} {b:Nat}:∀ {D:List E3} {i j:Nat},(D.map (·.1)).Nodup->D[j]?=some (k,v,b)->findB (.int .i64 (k:Int)) (D.map ent) i=some (some (i+j,v))
 | [],i,j,_,h=>by simp at h
 | p::D,i,0,_,h=>by
  simp only [List.getElem?_cons_zero,Option.some.injEq] at h
  subst h
  simp [findB,ent,sameK]
 | p::D,i,j+1,hn,h=>by
  simp only [List.getElem?_cons_succ] at h
  rw [List.map_cons,List.nodup_cons] at hn
  have hp:k≠p.1:=fun hh=>hn.1 (by rw [← hh]; exact List.mem_map.2 ⟨_,List.mem_of_getElem? h,rfl⟩)
  simp only [List.map_cons,findB,ent,sameK,decide_eq_false hp]
  have:=find_is (i:=i+1) hn.2 h
  rw [this]; congr 3; omega
theorem setE_is {k:Nat} {v u:Value} {b:Nat}:∀ {D:List E3} {j:Nat},D[j]?=some (k,u,b)->setE (.int .i64 (k:Int)) v (D.map ent) j=(D.set j (k,v,b)).map ent
 | [],j,h=>by simp at h
 | p::D,0,h=>by
  simp only [List.getElem?_cons_zero,Option.some.injEq] at h
  subst h
  rfl
 | p::D,j+1,h=>by
  simp only [List.getElem?_cons_succ] at h
  simp only [List.map_cons,setE,List.set_cons_succ,setE_is h]
theorem addE_is {e:MapEntry}:∀ {es:List MapEntry},addE e es=es++[e]
 | []=>rfl
 | x::es=>by simp only [addE,addE_is,List.cons_append]
theorem erase_map {α β:Type} {f:α->β}:∀ {l:List α} {i:Nat},(l.map f).eraseIdx i=(l.eraseIdx i).map f
 | [],i=>by simp
 | x::l,0=>rfl
 | x::l,i+1=>by simp only [List.map_cons,List.eraseIdx_cons_succ,erase_map]
theorem dropE_is:∀ {es:List MapEntry} {j:Nat},dropE es j=es.eraseIdx j
 | [],j=>by simp [dropE]
 | x::es,0=>rfl
 | x::es,j+1=>by simp only [dropE,List.eraseIdx_cons_succ,dropE_is]
theorem MD.at {D:List E3} {ck k:Nat} {v:Value} {g:Nat->Option Value} (h:MD D ck g) (hg:g k=some v):∃ (j b:Nat),D[j]?=some (k,v,b):=by
 obtain ⟨b,hb⟩:=(h.is k v).1 hg
 obtain ⟨j,hj⟩:=List.mem_iff_getElem?.1 hb
 exact ⟨j,b,hj⟩
theorem MD.same {D:List E3} {ck i j:Nat} {g:Nat->Option Value} {p q:E3} (h:MD D ck g) (hi:D[i]?=some p) (hj:D[j]?=some q) (hk:p.1=q.1):i=j:=by
 have h1:(D.map (·.1))[i]?=some p.1:=by simp [hi]
 have h2:(D.map (·.1))[j]?=some p.1:=by simp [hj,hk]
 exact (List.getElem?_inj (List.getElem?_eq_some_iff.1 h1).1 h.nk).1 (h1.trans h2.symm)
theorem map_set_same {α β:Type} {f:α->β} {l:List α} {j:Nat} {x y:α} (h:l[j]?=some y) (he:f x=f y):(l.set j x).map f=l.map f:=by
 apply List.ext_getElem?
 intro i
 rw [List.getElem?_map,List.getElem?_set,List.getElem?_map]
 by_cases hi:j=i
 ·subst hi
  rw [if_pos rfl,if_pos (List.getElem?_eq_some_iff.1 h).1,h]
  simp [he]
 ·rw [if_neg hi]
theorem MD.set {D:List E3} {ck j k b:Nat} {u v:Value} {g:Nat->Option Value} (h:MD D ck g) (hj:D[j]?=some (k,u,b)):MD (D.set j (k,v,b)) ck (updF g k (some v)):=by
 have hlt:=(List.getElem?_eq_some_iff.1 hj).1
 refine ⟨by rw [map_set_same (x:=(k,v,b)) hj rfl]; exact h.nk,by rw [map_set_same (x:=(k,v,b)) hj rfl]; exact h.nb,fun p hp=>?_,fun x y=>?_⟩
 ·rcases List.mem_or_eq_of_mem_set hp with hp | rfl
  ·exact h.lt p hp
  ·exact h.lt (k,u,b) (List.mem_of_getElem? hj)
 ·unfold updF
  by_cases hx:x=k
  ·subst hx
   rw [if_pos rfl]
   constructor
   ·intro hh; cases hh
    exact ⟨b,List.mem_iff_getElem?.2 ⟨j,by rw [List.getElem?_set,if_pos rfl,if_pos hlt]⟩⟩
   ·rintro ⟨b',hb'⟩
    obtain ⟨i,hi⟩:=List.mem_iff_getElem?.1 hb'
    rw [List.getElem?_set] at hi
    by_cases hij:j=i
    ·rw [if_pos hij,if_pos hlt] at hi
     simp only [Option.some.injEq,Prod.mk.injEq] at hi
     rw [hi.2.1]
    ·rw [if_neg hij] at hi
     exact absurd (h.same hj hi rfl) hij
  ·rw [if_neg hx,h.is]
   constructor
   ·rintro ⟨b',hb'⟩
    obtain ⟨i,hi⟩:=List.mem_iff_getElem?.1 hb'
    refine ⟨b',List.mem_iff_getElem?.2 ⟨i,?_⟩⟩
    rw [List.getElem?_set,if_neg (fun hij=>?_)]
    ·exact hi
    ·subst hij
     rw [hj] at hi
     simp only [Option.some.injEq,Prod.mk.injEq] at hi
     exact hx hi.1.symm
   ·rintro ⟨b',hb'⟩
    rcases List.mem_or_eq_of_mem_set hb' with hb' | hb'
    ·exact ⟨b',hb'⟩
    ·simp only [Prod.mk.injEq] at hb'
     exact absurd hb'.1 hx
theorem MD.add {D:List E3} {ck k:Nat} {v:Value} {g:Nat->Option Value} (h:MD D ck g) (hg:g k=none):MD (D++[(k,v,ck)]) (ck+1) (updF g k (some v)):=by
 have hno:=h.no hg
 refine ⟨?_,?_,fun p hp=>?_,fun x y=>?_⟩
 ·rw [List.map_append,List.nodup_append]
  refine ⟨h.nk,by simp,fun a ha b hb=>?_⟩
  obtain ⟨p,hp,rfl⟩:=List.mem_map.1 ha
  simp only [List.map_cons,List.map_nil,List.mem_singleton] at hb
  subst hb
  exact hno p hp
 ·rw [List.map_append,List.nodup_append]
  refine ⟨h.nb,by simp,fun a ha b hb=>?_⟩
  obtain ⟨p,hp,rfl⟩:=List.mem_map.1 ha
  simp only [List.map_cons,List.map_nil,List.mem_singleton] at hb
  subst hb
  have:=h.lt p hp
  omega
 ·rcases List.mem_append.1 hp with hp | hp
  ·have:=h.lt p hp; omega
  ·simp only [List.mem_singleton] at hp; subst hp; simp
 ·unfold updF
  by_cases hx:x=k
  ·subst hx
   rw [if_pos rfl]
   constructor
   ·intro hh; cases hh; exact ⟨ck,by simp⟩
   ·rintro ⟨b,hb⟩
    rcases List.mem_append.1 hb with hb | hb
    ·exact absurd rfl (hno _ hb)
    ·simp only [List.mem_singleton,Prod.mk.injEq] at hb; rw [hb.2.1]
  ·rw [if_neg hx,h.is]
   constructor
   ·rintro ⟨b,hb⟩; exact ⟨b,List.mem_append_left _ hb⟩
   ·rintro ⟨b,hb⟩
    rcases List.mem_append.1 hb with hb | hb
    ·exact ⟨b,hb⟩
    ·simp only [List.mem_singleton,Prod.mk.injEq] at hb; exact absurd hb.1 hx
theorem MD.drop {D:List E3} {ck j k b:Nat} {u:Value} {g:Nat->Option Value} (h:MD D ck g) (hj:D[j]?=some (k,u,b)):MD (D.eraseIdx j) ck (updF g k none):=by
 refine ⟨h.nk.sublist ((List.eraseIdx_sublist ..).map _),h.nb.sublist ((List.eraseIdx_sublist ..).map _),fun p hp=>h.lt p (List.mem_of_mem_eraseIdx hp),fun x y=>?_⟩
 unfold updF
 by_cases hx:x=k
 ·subst hx
  rw [if_pos rfl]
  constructor
  ·intro hh; cases hh
  ·rintro ⟨b',hb'⟩
   rw [List.mem_eraseIdx_iff_getElem?] at hb'
   obtain ⟨i,hij,hi⟩:=hb'
   exact absurd (h.same hi hj rfl) hij
 ·rw [if_neg hx,h.is]
  constructor
  ·rintro ⟨b',hb'⟩
   obtain ⟨i,hi⟩:=List.mem_iff_getElem?.1 hb'
   refine ⟨b',?_⟩
   rw [List.mem_eraseIdx_iff_getElem?]
   refine ⟨i,fun hij=>?_,hi⟩
   subst hij
   rw [hj] at hi
   simp only [Option.some.injEq,Prod.mk.injEq] at hi
   exact hx hi.1.symm
  ·rintro ⟨b',hb'⟩; exact ⟨b',List.mem_of_mem_eraseIdx hb'⟩
theorem updF_same {g:Nat->Option Value} {k:Nat} (h:g k=none):updF g k none=g:=by
 funext x; unfold updF; split
 ·subst_vars; exact h.symm
 ·rfl
theorem MP.card {es:List MapEntry} {ck:Nat} {g:Nat->Option Value} {A:List Nat} (h:MP es ck g) (hA:A.Nodup) (hm:∀ k,k∈A↔g k≠none):es.length=A.length:=by
 obtain ⟨D,rfl,hD⟩:=h
 rw [show (D.map ent).length=(D.map (·.1)).length by simp]
 refine nodup_eq hD.nk hA fun k=>?_
 rw [hm]
 constructor
 ·intro hk
  obtain ⟨p,hp,rfl⟩:=List.mem_map.1 hk
  rw [(hD.is p.1 p.2.1).2 ⟨p.2.2,hp⟩]; simp
 ·intro hk
  cases hg:g k with
  | none=>exact absurd hg hk
  | some v =>
   obtain ⟨b,hb⟩:=(hD.is k v).1 hg
   exact List.mem_map.2 ⟨_,hb,rfl⟩
section
variable {P:Program} {o:Oper} {a:Slots} {L:RL} {x y z:Operand} {t kt et:TypeId} {r ck k:Nat} {es:List MapEntry} {g:Nat->Option Value}
theorem e_get (hM:MP es ck g) (hm:(r,.map es ck)∈L) (ho:o.op=.lookup t x y false) (hx:aev a x=some (.map (some r))) (hy:aev a y=some (.int .i64 (k:Nat))) (ht:P.underlying t=some (.map kt et)) (hk:∀ n:Int,isKeyB P kt (.int .i64 n)=true) (hz:zeroVB P et=some (.pointer none)) :
  ∀ h,Has h L->opB P a o h=some (.val ((g k).getD (.pointer none)) h):=by
 intro h H
 obtain ⟨D,rfl,hD⟩:=hM
 have hg:h.get r=some (.map (D.map ent) ck):=H.get _ hm
 have e:lookupB P t (.map (some r)) (.int .i64 (k:Nat)) false h=some ((g k).getD (.pointer none)):=by
  unfold lookupB entriesB
  simp only [ht,hk,hg]
  cases hgk:g k with
  | none=>rw [find_no (hD.no hgk)]; simp only [hz]; rfl
  | some v =>
   obtain ⟨j,b,hj⟩:=hD.at hgk
   rw [find_is hD.nk hj]; rfl
 simp only [opB,ho,hx,hy,e,ret]
theorem e_get2 (hM:MP es ck g) (hm:(r,.map es ck)∈L) (ho:o.op=.lookup t x y true) (hx:aev a x=some (.map (some r))) (hy:aev a y=some (.int .i64 (k:Nat))) (ht:P.underlying t=some (.map kt et)) (hk:∀ n:Int,isKeyB P kt (.int .i64 n)=true) (hz:zeroVB P et=some (.pointer none)) :
  ∀ h,Has h L->opB P a o h=some (.val (.tuple #[(g k).getD (.pointer none),.bool (g k).isSome]) h):=by
 intro h H
 obtain ⟨D,rfl,hD⟩:=hM
 have hg:h.get r=some (.map (D.map ent) ck):=H.get _ hm
 have e:lookupB P t (.map (some r)) (.int .i64 (k:Nat)) true h=some (.tuple #[(g k).getD (.pointer none),.bool (g k).isSome]):=by
  unfold lookupB entriesB
  simp only [ht,hk,hg]
  cases hgk:g k with
  | none=>rw [find_no (hD.no hgk)]; simp only [hz]; rfl
  | some v =>
   obtain ⟨j,b,hj⟩:=hD.at hgk
   rw [find_is hD.nk hj]; rfl
 simp only [opB,ho,hx,hy,e,ret]
theorem e_lenM {c:Call} {tm:TypeId} (hm:(r,.map es ck)∈L) (ho:o.op=.call c) (hc:c.callee=.builtin .len) (ha:evs a c.args.toList=some [.map (some r)]) (ht:c.argTypes[0]?=some tm) (hu:P.underlying tm=some (.map kt et)) :
  ∀ h,Has h L->opB P a o h=some (.val (.int .i64 (es.length:Nat)) h):=by
 intro h H
 have hg:h.get r=some (.map es ck):=H.get _ hm
 simp only [opB,ho,ha,callOpB,hc,lenOpB,lenMapB,entriesB,ht,hu,hg,ret,goInt]
theorem OS.mapPut {ops rest:List Oper} {K:Slots->RL->Prop} {a₁:Slots} (i:Nat) {v:Value} (hM:MP es ck g) (hw:wantedB ops o a=true) (ho:o.op=.mapUpdate t x y z) (hx:aev a x=some (.map (some r))) (hy:aev a y=some (.int .i64 (k:Nat))) (hz:aev a z=some v) (ht:P.underlying t=some (.map kt et)) (hk:∀ n:Int,isKeyB P kt (.int .i64 n)=true)
  (hL:L[i]?=some (r,.map es ck)) (ep:putAt a o.dst undef=some a₁) (hk2:∀ es' ck',MP es' ck' (updF g k (some v))->∃ L₁,setL L i (r,.map es' ck')=some L₁/\OS P ops rest a₁ L₁ K):OS P ops (o::rest) a L K:=by
 obtain ⟨D,rfl,hD⟩:=hM
 cases hgk:g k with
 | none =>
  obtain ⟨L₁,hs,k2⟩:=hk2 ((D++[(k,v,ck)]).map ent) (ck+1) ⟨_,rfl,hD.add hgk⟩
  refine OS.write hw (e_mapUpdate i ho hx hy hz ht (hk _) hL ?_ hs) ep k2
  rw [find_no (hD.no hgk),addE_is,List.map_append]; rfl
 | some u =>
  obtain ⟨j,b,hj⟩:=hD.at hgk
  obtain ⟨L₁,hs,k2⟩:=hk2 ((D.set j (k,v,b)).map ent) ck ⟨_,rfl,hD.set hj⟩
  refine OS.write hw (e_mapUpdate i ho hx hy hz ht (hk _) hL ?_ hs) ep k2
  rw [find_is (i:=0) hD.nk hj,Nat.zero_add]
  simp only [setE_is hj]
theorem OS.mapDel {ops rest:List Oper} {K:Slots->RL->Prop} {a₁:Slots} (i:Nat) {c:Call} {tm:TypeId} (hM:MP es ck g) (hw:wantedB ops o a=true) (ho:o.op=.call c) (hc:c.callee=.builtin .delete) (ha:evs a c.args.toList=some [.map (some r),.int .i64 (k:Nat)]) (ht:c.argTypes[0]?=some tm) (hu:P.underlying tm=some (.map kt et)) (hk:∀ n:Int,isKeyB P kt (.int .i64 n)=true)
  (hL:L[i]?=some (r,.map es ck)) (ep:putAt a o.dst (.tuple #[])=some a₁) (hk2:∀ es',MP es' ck (updF g k none)->∃ L₁,setL L i (r,.map es' ck)=some L₁/\OS P ops rest a₁ L₁ K):OS P ops (o::rest) a L K:=by
 obtain ⟨D,rfl,hD⟩:=hM
 cases hgk:g k with
 | none =>
  obtain ⟨L₁,hs,k2⟩:=hk2 (D.map ent) ⟨_,rfl,by rw [updF_same hgk]; exact hD⟩
  refine OS.write hw (e_delete i ho hc ha ht hu (hk _) hL ?_ hs) ep k2
  rw [find_no (hD.no hgk)]
 | some u =>
  obtain ⟨j,b,hj⟩:=hD.at hgk
  obtain ⟨L₁,hs,k2⟩:=hk2 ((D.eraseIdx j).map ent) ⟨_,rfl,hD.drop hj⟩
  refine OS.write hw (e_delete i ho hc ha ht hu (hk _) hL ?_ hs) ep k2
  rw [find_is (i:=0) hD.nk hj,Nat.zero_add]
  simp only [dropE_is,erase_map]
end
end Go.Am
end
section
namespace Go.Am
section
variable {P:Program} {o:Oper} {a:Slots} {L L₁:RL} {x y z:Operand} {t:TypeId}
theorem e_rangem {r clock:Nat} {es:List MapEntry} {kt et:TypeId} (hm:(r,.map es clock)∈L) (ho:o.op=.range t x) (hx:aev a x=some (.map (some r))) (ht:P.underlying t=some (.map kt et)) :
  ∀ h,Has h L->∃ q h₁,opB P a o h=some (.val (.pointer (some ⟨q,0,none⟩)) h₁)/\Has h₁ ((q,.iter r clock [] clock)::L):=by
 intro h H
 obtain ⟨h₁,e₁⟩:=h.new_some (.iter r clock [] clock)
 refine ⟨h.next,h₁,?_,H.new e₁⟩
 have hg:h.get r=some (.map es clock):=H.get _ hm
 simp only [opB,ho,hx,rangeB,ht,hg,e₁,retRow,ptrTo]
theorem e_entrym (i:Nat) {r m since clock n:Nat} {seen:List Nat} {es:List MapEntry} {e:MapEntry} (hm:(m,.map es clock)∈L) (ho:o.op=.entry x) (hx:aev a x=some (.pointer (some ⟨r,0,none⟩))) (hL:L[i]?=some (r,.iter m since (seen++[n]) clock)) (hb:bornB n es=some e) :
  ∀ h,Has h L->opB P a o h=some (.val (.tuple #[e.key,e.val]) h):=by
 intro h H
 have h1:=H.at hL
 have h2:h.get m=some (.map es clock):=H.get _ hm
 have h3:lastN (seen++[n])=some n:=by rw [lastN_eq]; simp
 have h4:Nat.beq clock clock=true:=beq_true rfl
 simp only [opB,ho,hx,entryB,h1,h2,h3,h4,hb,ret]
theorem OS.nextm {ops rest:List Oper} {K:Slots->RL->Prop} (i:Nat) {r m since last clock:Nat} {seen:List Nat} {es:List MapEntry} (hM:(m,.map es clock)∈L) (hw:wantedB ops o a=true) (ho:o.op=.next x false) (hx:aev a x=some (.pointer (some ⟨r,0,none⟩)))
  (hL:L[i]?=some (r,.iter m since seen last)) (hold:∀ e∈es,e.born < since) (hsl:since<=last)
  (kdone:(∀ e∈es,e.born∈seen)->∃ a₁,putAt a o.dst (.tuple #[.bool false])=some a₁/\OS P ops rest a₁ L K)
  (kstep:∀ e∈es,e.born ∉ seen->∃ a₁,putAt a o.dst (.tuple #[.bool true,e.key,e.val])=some a₁/\∃ L₁,setL L i (r,.iter m since (seen++[e.born]) clock)=some L₁/\OS P ops rest a₁ L₁ K):OS P ops (o::rest) a L K:=fun h H =>
 OQ.next hw ho hx (H.at hL) (H.get _ hM) hold hsl (fun hd=>let ⟨a₁,e,k⟩:=kdone hd; ⟨a₁,e,k h H⟩) (fun e he hn=>by
  obtain ⟨a₁,ep,L₁,hs,k⟩:=kstep e he hn
  obtain ⟨h₁,e₁⟩:=h.put_some r (some (.iter m since (seen++[e.born]) clock))
  have:=setL_eq hs
  subst this
  exact ⟨a₁,h₁,ep,e₁,k h₁ (H.put hL e₁)⟩)
theorem bornB_of:∀ {es:List MapEntry} {e:MapEntry},(∀ (i j:Nat) (e e':MapEntry),es[i]?=some e->es[j]?=some e'->e.born=e'.born->i=j)->e∈es->bornB e.born es=some e
 | [],e,_,he=>by cases he
 | x::es,e,hu,he=>by
  simp only [bornB]
  cases hb:Nat.beq x.born e.born with
  | true =>
   have hb:=of_beq hb
   obtain ⟨j,hj,hje⟩:=List.getElem_of_mem he
   have:=hu 0 j x e rfl (by rw [List.getElem?_eq_getElem hj,hje]) hb
   subst this
   simp at hje
   simp [hje]
  | false =>
   rcases List.mem_cons.1 he with rfl | he
   ·rw [beq_true rfl] at hb; cases hb
   ·exact bornB_of (fun i j e e' h1 h2 h3=>by have:=hu (i+1) (j+1) e e' (by simpa using h1) (by simpa using h2) h3; omega) he
end
theorem inj_map {α β:Type} {f:α->β}:∀ {l:List α},(l.map f).Nodup->∀ {x y:α},x∈l->y∈l->f x=f y->x=y
 | [],_,x,_,hx,_,_=>by cases hx
 | a::l,hn,x,y,hx,hy,he=>by
  rw [List.map_cons,List.nodup_cons] at hn
  rcases List.mem_cons.1 hx with h1 | h1
  ·rcases List.mem_cons.1 hy with h2 | h2
   ·rw [h1,h2]
   ·subst h1; exact absurd (List.mem_map.2 ⟨y,h2,he.symm⟩) hn.1
  ·rcases List.mem_cons.1 hy with h2 | h2
   ·subst h2; exact absurd (List.mem_map.2 ⟨x,h1,he⟩) hn.1
   ·exact inj_map hn.2 h1 h2 he
theorem born_is {D:List E3} (hb:(D.map (·.2.2)).Nodup) {p:E3} (hp:p∈D):bornB p.2.2 (D.map ent)=some (ent p):=by
 refine bornB_of (e:=ent p) (fun i j e e' h1 h2 h3=>?_) (List.mem_map.2 ⟨p,hp,rfl⟩)
 rw [List.getElem?_map] at h1 h2
 have h4:(D.map (·.2.2))[i]?=some e.born:=by
  rw [List.getElem?_map]
  cases hd:D[i]? with
  | none=>rw [hd] at h1; cases h1
  | some q=>rw [hd] at h1; simp only [Option.map_some,Option.some.injEq] at h1 ⊢; rw [← h1]; rfl
 have h5:(D.map (·.2.2))[j]?=some e.born:=by
  rw [List.getElem?_map,h3]
  cases hd:D[j]? with
  | none=>rw [hd] at h2; cases h2
  | some q=>rw [hd] at h2; simp only [Option.map_some,Option.some.injEq] at h2 ⊢; rw [← h2]; rfl
 exact (List.getElem?_inj (List.getElem?_eq_some_iff.1 h4).1 hb).1 (h4.trans h5.symm)
end Go.Am
namespace Go.Proofs.YtlmmddfhoabjfaaGreat
open Go.Am
abbrev mbRow (rm:Nat):ARow:=.cells 83 [.map (some rm)]
theorem Keys_ct {L:RL} {rm:Nat}:CS Tryz.prog 85 [.map (some rm)] L fun u L'=>∃ rb,u=.func (.func 117) #[] #[ptr rb]/\L'=(rb,mbRow rm)::L:=by
 refine CS.mk (fn:=Tryz.f85) rfl rfl rfl rfl ?_
 repeat refine xQ ?_
 refine xG rfl ?_
 refine OS.fresh rfl (e_new (fun _=>rfl) rfl) (fun _=>rfl) (fun rb=>?_)
 refine xP rfl rh rfl ?_
 refine xN ?_
 repeat refine xQ ?_
 refine xG rfl ?_
 iterate 2 refine xP rfl rh rfl ?_
 refine xN ?_
 refine xT ⟨_,fun _ _=>rfl,?_⟩
 exact ⟨rb,rfl,rfl⟩
theorem Keys1_ct {rb rm r ck:Nat} {es:List MapEntry} {g:Nat->Option Value} {G:RL} (hM:MP es ck g) (J:List Nat->RL->Prop) (hr:∀ ks G,J ks G->∃ p,(r,.loop p)∈G) (h0:J [] G)
  (hyes:∀ ks k G X,J ks G->g k≠none->k ∉ ks->ks.Nodup->(∀ k,k∈ks->g k≠none)->YS Tryz.prog r [.int .i64 (k:Nat)] (G++X) fun v L'=>∃ G',v=.bool true/\L'=G'++X/\J (ks++[k]) G') :
  CS Tryz.prog 117 [.func (.yield r) #[] #[],ptr rb] ((rb,mbRow rm)::(rm,.map es ck)::G) fun v L'=>∃ ks G',J ks G'/\ks.Nodup/\(∀ k,k∈ks↔g k≠none)/\L'=(rb,mbRow rm)::(rm,.map es ck)::G':=by
 obtain ⟨D,rfl,hD⟩:=hM
 have hg:∀ k,g k≠none↔∃ p,p∈D/\p.1=k:=fun k=>by
  constructor
  ·intro hk
   cases hgk:g k with
   | none=>exact absurd hgk hk
   | some v=>obtain ⟨b,hb⟩:=(hD.is k v).1 hgk; exact ⟨_,hb,rfl⟩
  ·rintro ⟨p,hp,rfl⟩
   rw [(hD.is p.1 p.2.1).2 ⟨p.2.2,hp⟩]; simp
 refine CS.mk (fn:=Tryz.f117) rfl rfl rfl rfl ?_
 repeat refine xQ ?_
 refine xG rfl ?_
 refine xR rfl (e_load 0 rfl rfl rfl rfl rfl) rfl ?_
 refine OS.fresh rfl ((e_rangem (List.mem_cons_of_mem _ (List.mem_cons_self ..)) rfl rfl rfl)) (fun _=>rfl) (fun q=>?_)
 refine xN ?_
 repeat refine xQ ?_
 refine LS.block ?_
 refine LS.loopJ [0,1,5] (fun m a L'=>∃ ks sb last G',m=D.length - ks.length/\J ks G'/\ks.Nodup/\(∀ k,k∈ks->∃ p,p∈D/\p.1=k)/\(∀ p,p∈D->(p.2.2∈sb↔p.1∈ks))/\ck<=last /\
  L'=(q,.iter rm ck sb last)::(rb,mbRow rm)::(rm,.map (D.map ent) ck)::G'/\a=[.func (.yield r) #[] #[],ptr rb,jn,jn,jn,ptr q,jn,jn,jn,jn,jn,jn,jn,jn]) (n:=D.length) rfl ⟨[],[],ck,G,rfl,h0,List.nodup_nil,fun k hk=>(by cases hk),fun p hp=>by simp,Nat.le_refl _,rfl,rfl⟩ ?_
 rintro m a L' ⟨ks,sb,last,G1,rfl,hJ,hn,hin,hsb,hck,rfl,rfl⟩
 have hle:ks.length<=D.length:=by
  have:=nodup_le (A:=ks) (B:=D.map (·.1)) hn (fun k hk=>let ⟨p,hp,he⟩:=hin k hk; List.mem_map.2 ⟨p,hp,he⟩)
  simpa using this
 repeat refine xQ ?_
 refine xG rfl ?_
 refine OS.nextm 0 (List.mem_cons_of_mem _ (List.mem_cons_of_mem _ (List.mem_cons_self ..))) rfl rfl rfl rfl (fun e he=>?_) hck (fun hdone=>⟨_,rfl,?_⟩) (fun e he hnb=>?_)
 ·obtain ⟨p,hp,rfl⟩:=List.mem_map.1 he
  exact hD.lt p hp
 ·refine xP rfl rh rfl ?_
  refine OS.sub (Sub.drop 0 rfl) ?_
  refine xN ?_
  repeat refine xQ ?_
  refine xC rfl (fun hc=>?_) (fun hc=>?_)
  ·cases hc
  refine LS.exit ?_
  refine ⟨_,fun _ _=>rfl,ks,G1,hJ,hn,fun k=>?_,rfl⟩
  rw [hg]
  exact ⟨hin k,fun ⟨p,hp,hk⟩=>by rw [← hk]; exact (hsb p hp).1 (hdone _ (List.mem_map.2 ⟨p,hp,rfl⟩))⟩
 ·obtain ⟨p,hp,rfl⟩:=List.mem_map.1 he
  have hpk:p.1 ∉ ks:=fun hh=>hnb ((hsb p hp).2 hh)
  refine ⟨_,rfl,_,rfl,?_⟩
  refine xP rfl rh rfl ?_
  refine xN ?_
  repeat refine xQ ?_
  refine xC rfl (fun hc=>?_) (fun hc=>?_)
  ·refine LS.skip ?_
   repeat refine xQ ?_
   refine LS.block ?_
   repeat refine xQ ?_
   refine xG rfl ?_
   refine xR rfl (e_entrym 0 (e:=ent p) (List.mem_cons_of_mem _ (List.mem_cons_of_mem _ (List.mem_cons_self ..))) rfl rfl rfl (born_is hD.nb hp)) rfl ?_
   iterate 2 refine xP rfl rh rfl ?_
   refine xN ?_
   obtain ⟨lp,hlp⟩:=hr ks G1 hJ
   repeat refine xQ ?_
   refine xG rfl ?_
   iterate 2 refine xP rfl rh rfl ?_
   refine OS.yield rfl rfl rfl rfl rfl ⟨lp,by simp [hlp]⟩ (YS.sub (L':=G1++[_,_,_]) (Sub.rot (X:=[_,_,_])) ((hyes ks p.1 G1 [_,_,_] hJ ((hg _).2 ⟨p,hp,rfl⟩) hpk hn (fun k hk=>(hg k).2 (hin k hk))).mono ?_))
   rintro v L' ⟨G',rfl,rfl,hJ'⟩
   refine ⟨_,rfl,?_⟩
   refine OS.sub (Sub.rot (G:=[_,_,_]) (X:=G')) ?_
   refine xP rfl rh rfl ?_
   refine xN ?_
   repeat refine xQ ?_
   refine xC rfl (fun hc2=>?_) (fun hc2=>?_)
   ·cases hc2
   refine LS.skip ?_
   have hn':(ks++[p.1]).Nodup:=by
    rw [List.nodup_append]
    exact ⟨hn,by simp,fun a ha b hb=>by simp only [List.mem_singleton] at hb; subst hb; exact fun hh=>hpk (hh ▸ ha)⟩
   have hin':∀ k,k∈ks++[p.1]->∃ p,p∈D/\p.1=k:=fun k hk=>by
    rcases List.mem_append.1 hk with hk | hk
    ·exact hin k hk
    ·simp only [List.mem_singleton] at hk; exact ⟨p,hp,hk.symm⟩
   have hle':(ks++[p.1]).length<=D.length:=by
    have:=nodup_le (A:=ks++[p.1]) (B:=D.map (·.1)) hn' (fun k hk=>let ⟨p,hp,he⟩:=hin' k hk; List.mem_map.2 ⟨p,hp,he⟩)
    simpa using this
   simp only [List.length_append,List.length_singleton] at hle'
   refine ⟨D.length - (ks++[p.1]).length,by simp only [List.length_append,List.length_singleton]; omega,ks++[p.1],sb++[p.2.2],ck,G',rfl,hJ',hn',hin',fun p' hp'=>?_,Nat.le_refl _,rfl,rfl⟩
   simp only [List.mem_append,List.mem_singleton]
   rw [hsb p' hp']
   constructor
   ·rintro (h | h)
    ·exact .inl h
    ·exact .inr (by rw [inj_map hD.nb hp' hp h])
   ·rintro (h | h)
    ·exact .inl h
    ·exact .inr (by rw [inj_map hD.nk hp' hp h])
  ·cases hc
def KeysOf (g:Nat->Option Value) (l:List Nat):Prop:=l.Pairwise (· < ·)/\∀ k,k∈l↔g k≠none
theorem Collect_ct {F:RL} {rb rm ck:Nat} {es:List MapEntry} {g:Nat->Option Value} {B:Nat} (hM:MP es ck g) (hB:∀ ks:List Nat,ks.Nodup->(∀ k,k∈ks->g k≠none)->ks.length<=B) (hB2:B<=1000000) :
  CS Tryz.prog 142 [.slice none 0 0,.func (.func 117) #[] #[ptr rb]] ((rb,mbRow rm)::(rm,.map es ck)::F) fun u L'=>∃ ks,ks.Nodup/\(∀ k,k∈ks↔g k≠none)/\(ks=[]->u=.slice none 0 0)/\GV 3 1 ((rb,mbRow rm)::(rm,.map es ck)::F) u ks.length (ints ks) L':=by
 refine CS.mk (fn:=Tryz.f142) rfl rfl rfl rfl ?_
 repeat refine xQ ?_
 refine xG rfl ?_
 refine OS.fresh rfl (e_new (fun _=>rfl) rfl) (fun _=>rfl) (fun rl=>?_)
 refine xP rfl rh rfl ?_
 refine xN ?_
 repeat refine xQ ?_
 refine xG rfl ?_
 refine xP rfl rh rfl ?_
 refine xN ?_
 repeat refine xQ ?_
 refine LS.block ?_
 refine LS.rangeFunc noGo rfl (fun r=>?_)
 generalize hp0:LP.start _ _ _ _=p0
 refine CS.sub (Sub.pulls [3,3] rfl) ?_
 refine (Keys1_ct (G:=(r,.loop p0)::(rl,.cells 36 [.slice none 0 0])::F) hM (fun ks G=>∃ lv Lx,G=(r,.loop p0)::(rl,.cells 36 [lv])::Lx/\(ks=[]->lv=.slice none 0 0)/\GV 3 1 F lv ks.length (ints ks) Lx)
  (fun k G ⟨lv,Lx,hG,_⟩=>⟨p0,by rw [hG]; simp⟩) ⟨.slice none 0 0,F,rfl,fun _=>rfl,.nil⟩ ?_).mono ?_
 ·rintro ks k G X ⟨lv,Lx,rfl,hnl,hg⟩ hk hkn hnd hall
  have hl:=hB ks hnd hall
  have hgX:=hg.appendR X
  subst hp0
  refine YS.mk 0 rfl rfl rfl ?_
  refine xG rfl ?_
  refine xP rfl rh rfl ?_
  refine xN ?_
  refine ⟨rfl,0,_,rfl,rfl,?_⟩
  repeat refine xQ ?_
  refine LS.block ?_
  repeat refine xQ ?_
  refine xG rfl ?_
  refine xR rfl (e_load 1 rfl rfl rfl rfl (part_one rfl rfl)) rfl ?_
  refine xP rfl rh rfl ?_
  refine OS.fresh rfl (e_new (fun _=>rfl) rfl) (fun _=>rfl) (fun rn=>?_)
  refine OS.fresh rfl (e_appendGV [_,_,_] (m:=1) (sz:=1) (bts:=8) hgX (SV.row (sz:=1) (n:=1) (List.mem_cons_self ..) rfl) (by omega) rfl rfl rfl rfl (by omega) (by omega)) (fun _=>rfl) (fun r2=>?_)
  refine OS.write rfl (e_store 3 (n:=1) (cs':=[.slice (some ⟨r2,0,none⟩) (ks.length+1) openCap]) rfl rfl rfl rfl rfl rfl rfl rfl) rfl ?_
  refine OS.sub (Sub.drop 1 rfl) ?_
  refine OS.sub (Sub.pulls [2,2] rfl) ?_
  refine xN ?_
  refine ⟨0,_,rfl,rfl,(r,.loop _)::(rl,.cells 36 [.slice (some ⟨r2,0,none⟩) (ks.length+1) openCap])::(r2,.cells 3 (ints (ks++[k])))::F,rfl,?_,_,(r2,.cells 3 (ints (ks++[k])))::F,rfl,fun hh=>by simp at hh,?_⟩
  ·rw [ints_snoc]; rfl
  ·rw [List.length_append]
   exact GV.of (by rw [ints_len]; simp)
 ·rintro v L' ⟨ks,G',⟨lv,Lx,rfl,hnl,hg⟩,hnd,hks,rfl⟩
  refine ⟨2,p0,_,rfl,rfl,by subst hp0; simp [LP.start],?_⟩
  have hpend:p0.pending=none:=by subst hp0; rfl
  rw [hpend]
  show LSr _ _ _ _ _ _
  repeat refine xQ ?_
  refine xG rfl ?_
  refine xR rfl (e_load 2 rfl rfl rfl rfl (part_one rfl rfl)) rfl ?_
  refine xP rfl rh rfl ?_
  refine OS.sub (Sub.drop 2 rfl) ?_
  refine xN ?_
  rcases hg with ⟨rfl,h0,h1,rfl⟩ | ⟨r2,rfl,hl,rfl⟩
  ·refine xT ⟨_,fun _ _=>rfl,?_⟩
   exact ⟨ks,hnd,hks,fun _=>rfl,.inl ⟨rfl,h0,h1,rfl⟩⟩
  ·refine LS.sub (Sub.pulls [2] rfl) ?_
   refine xT ⟨_,fun _ _=>rfl,?_⟩
   exact ⟨ks,hnd,hks,hnl,.inr ⟨r2,rfl,hl,rfl⟩⟩
theorem SortNil_ct {L:RL}:CS Tryz.prog 116 [.slice none 0 0] L fun v L'=>v=.tuple #[]/\L'=L:=by
 intro h H
 refine ⟨⟨_,_,Tryz.func116,rfl⟩,fun ρ us w hus HR=>?_⟩
 cases hus with
 | cons h1 h2 =>
 cases h2
 cases h1
 refine (Any.slices_Sort_int_none laysSortYtlmmddfhoabjfaaGreat none 0 w).mono ?_
 rintro en w' ⟨rfl,rfl⟩
 exact ⟨.tuple #[],h,.tuple #[],ρ,rfl,⟨_,⟨rfl,rfl⟩,H⟩,.tuple .nil,HR,Turn.refl _ _ _⟩
theorem ints_nums (l:List Nat):ints l=nums (l.map fun (k:Nat)=>(k:Int)):=by simp [ints,nums]
theorem Sorted_ct {F:RL} {rb rm ck:Nat} {es:List MapEntry} {g:Nat->Option Value} {B:Nat} (hM:MP es ck g) (hB:∀ ks:List Nat,ks.Nodup->(∀ k,k∈ks->g k≠none)->ks.length<=B) (hB2:B<=1000000) :
  CS Tryz.prog 84 [.func (.func 117) #[] #[ptr rb]] ((rb,mbRow rm)::(rm,.map es ck)::F) fun u L'=>∃ ks,KeysOf g ks/\(ks=[]->u=.slice none 0 0)/\GV 3 1 ((rb,mbRow rm)::(rm,.map es ck)::F) u ks.length (ints ks) L':=by
 have key:∀ ks:List Nat,ks.Nodup->(∀ k,k∈ks↔g k≠none)->∃ l,KeysOf g l/\l.length=ks.length/\ints l=nums (srt (ks.map fun (k:Nat)=>(k:Int))):=fun ks hnd hks=>by
  have hp:(srt (ks.map fun (k:Nat)=>(k:Int))).Perm (ks.map fun (k:Nat)=>(k:Int)):=List.mergeSort_perm _ _
  have hs:(srt (ks.map fun (k:Nat)=>(k:Int))).Pairwise (fun a b=>decide (a<=b)=true):=List.pairwise_mergeSort (le:=fun (x y:Int)=>decide (x<=y)) (fun a b c h1 h2=>by simp at h1 h2 ⊢; omega) (fun a b=>by simp; omega) _
  have hnn:∀ z∈srt (ks.map fun (k:Nat)=>(k:Int)),0<=z:=fun z hz=>by
   obtain ⟨k,_,rfl⟩:=List.mem_map.1 (hp.mem_iff.1 hz)
   omega
  have hnd':(srt (ks.map fun (k:Nat)=>(k:Int))).Nodup:=hp.nodup_iff.2 (List.Pairwise.map _ (fun a b h hh=>h (Int.ofNat_inj.1 hh)) hnd)
  generalize srt (ks.map fun (k:Nat)=>(k:Int))=S at hp hs hnn hnd'
  have hST:S=(S.map Int.toNat).map fun (k:Nat)=>(k:Int):=by
   rw [List.map_map]
   conv=>lhs; rw [← List.map_id S]
   refine List.map_congr_left fun z hz=>?_
   have:=hnn z hz
   simp only [id,Function.comp]; omega
  refine ⟨S.map Int.toNat,⟨?_,fun k=>?_⟩,by have:=hp.length_eq; simpa using this,by rw [ints_nums,← hST]⟩
  ·have h3:S.Pairwise (fun a b=>a < b):=(hs.and hnd').imp fun {a b} ⟨h1,h2⟩=>by simp at h1; omega
   rw [List.pairwise_map]
   refine (List.pairwise_iff_forall_sublist.2 fun {a b} hab=>?_)
   have h4:=List.pairwise_iff_forall_sublist.1 h3 hab
   have h5:=hnn a (hab.subset (by simp))
   have h6:=hnn b (hab.subset (by simp))
   omega
  ·rw [← hks]
   constructor
   ·intro hk
    obtain ⟨z,hz,rfl⟩:=List.mem_map.1 hk
    obtain ⟨m,hm,rfl⟩:=List.mem_map.1 (hp.mem_iff.1 hz)
    simpa using hm
   ·intro hk
    exact List.mem_map.2 ⟨(k:Int),hp.mem_iff.2 (List.mem_map.2 ⟨k,hk,rfl⟩),by simp⟩
 refine CS.mk (fn:=Tryz.f84) rfl rfl rfl rfl ?_
 repeat refine xQ ?_
 refine xG rfl ?_
 refine xP rfl rh rfl ?_
 refine xN ?_
 repeat refine xQ ?_
 refine xG rfl ?_
 refine xP rfl rh rfl ?_
 refine xA noGo rfl (fun _=>rfl) ?_
 refine CS.mono (R:=fun u L'=>∃ ks,ks.Nodup/\(∀ k,k∈ks↔g k≠none)/\(ks=[]->u=.slice none 0 0)/\GV 3 1 ((rb,mbRow rm)::(rm,.map es ck)::F) u ks.length (ints ks) L') ?_ ?_
 ·refine CS.mk (fn:=Tryz.f115) rfl rfl rfl rfl ?_
  repeat refine xQ ?_
  refine xG rfl ?_
  refine xP rfl rh rfl ?_
  refine xN ?_
  repeat refine xQ ?_
  refine xG rfl ?_
  refine xP rfl rh rfl ?_
  refine xA noGo rfl (fun _=>rfl) ((Collect_ct hM hB hB2).mono ?_)
  rintro u L' ⟨ks,hnd,hks,hnl,hg⟩
  refine ⟨_,rfl,?_⟩
  refine xP rfl rh rfl ?_
  refine xN ?_
  refine xT ⟨_,fun _ _=>rfl,?_⟩
  exact ⟨ks,hnd,hks,hnl,hg⟩
 rintro u L' ⟨ks,hnd,hks,hnl,hg⟩
 refine ⟨_,rfl,?_⟩
 refine xP rfl rh rfl ?_
 refine xN ?_
 obtain ⟨l,hl,hll,hli⟩:=key ks hnd hks
 have hkb:=hB ks hnd (fun k hk=>(hks k).1 hk)
 rcases hg with ⟨rfl,h0,h1,rfl⟩ | ⟨r2,rfl,hlen,rfl⟩
 ·have hk0:ks=[]:=List.eq_nil_of_length_eq_zero h0
  subst hk0
  have hl0:l=[]:=List.eq_nil_of_length_eq_zero hll
  subst hl0
  repeat refine xQ ?_
  refine xG rfl ?_
  refine xP rfl rh rfl ?_
  refine xA noGo rfl (fun _=>rfl) ((SortNil_ct).mono ?_)
  rintro v L' ⟨rfl,rfl⟩
  refine ⟨_,rfl,?_⟩
  refine xN ?_
  repeat refine xQ ?_
  refine xG rfl ?_
  iterate 2 refine xP rfl rh rfl ?_
  refine xN ?_
  refine xT ⟨_,fun _ _=>rfl,?_⟩
  exact ⟨[],hl,fun _=>rfl,.inl ⟨rfl,rfl,rfl,rfl⟩⟩
 ·repeat refine xQ ?_
  refine xG rfl ?_
  refine xP rfl rh rfl ?_
  rw [ints_nums]
  refine xA noGo rfl (fun _=>rfl) ((Sort_ct (n:=ks.length) (zs:=ks.map fun (k:Nat)=>(k:Int)) (by simp) (by omega)).mono ?_)
  rintro v L' ⟨rfl,rfl⟩
  rw [← hli]
  refine ⟨_,rfl,?_⟩
  refine xN ?_
  repeat refine xQ ?_
  refine xG rfl ?_
  iterate 2 refine xP rfl rh rfl ?_
  refine xN ?_
  refine xT ⟨_,fun _ _=>rfl,?_⟩
  exact ⟨l,hl,fun hh=>hnl (List.eq_nil_of_length_eq_zero (by rw [← hll,hh]; rfl)),.inr ⟨r2,by rw [hll]; rfl,by rw [ints_len]; omega,rfl⟩⟩
end Go.Proofs.YtlmmddfhoabjfaaGreat
end
section
namespace Go.Am
theorem ODS.sub {P:Program} {ops:List Oper} {ms:List Nat} {K:Slots->RL->Prop} {sched:List (Nat × Bool)} {dn:Dn} {a:Slots} {L L₁:RL} (s:Sub L₁ L) (k:ODS P ops ms K sched dn a L₁):ODS P ops ms K sched dn a L:=fun h H=>k h (s.has H)
theorem Sub.front3 {x:Nat × ARow} {A B C L:RL}:Sub (x::(A++(B++(C++L)))) (A++(B++(C++x::L))):=⟨[],by
 have:=List.perm_middle (a:=x) (l₁:=A++(B++C)) (l₂:=L)
 simpa [List.append_assoc] using this⟩
end Go.Am
namespace Go.Proofs.YtlmmddfhoabjfaaGreat
open Go.Am
structure Sm (n:Nd):Prop where
 k:n.ks.length<=2000
 v:n.vs.length<=2000
 z:n.kids.length<=2000
 kl:∀ k∈n.ks,k.length<=2000
 vl:∀ k∈n.vs,k.length<=2000
structure PN (X:RL) (n:Nd) (v1 v2 v3:Value):Prop where
 k:PL 9 1 X v1 n.ks.length (tx n.ks)
 v:PL 9 1 X v2 n.vs.length (tx n.vs)
 z:PL 3 1 X v3 n.kids.length (nums n.kids)
theorem PN.mono {X Y:RL} {n:Nd} {v1 v2 v3:Value} (h:PN X n v1 v2 v3) (hm:∀ p,p∈X->p∈Y):PN Y n v1 v2 v3:=⟨h.k.mono hm,h.v.mono hm,h.z.mono hm⟩
theorem PN.nv {X L:RL} {n:Nd} {v1 v2 v3:Value} (h:PN X n v1 v2 v3) (hs:Sm n) (hm:∀ p,p∈X->p∈L):NV L n v1 v2 v3 :=
 ⟨h.k.sv.mono hm,h.v.sv.mono hm,h.z.sv.mono hm,by have:=hs.k; omega,by have:=hs.v; omega,by have:=hs.z; omega,fun k hk=>by have:=hs.kl k hk; omega,fun k hk=>by have:=hs.vl k hk; omega⟩
def NodeAt (X:RL) (r:Nat) (n:Nd):Prop:=∃ v1 v2 v3,(r,ndRow n.leaf v1 v2 v3)∈X/\PN X n v1 v2 v3
theorem NodeAt.mono {X Y:RL} {r:Nat} {n:Nd} (h:NodeAt X r n) (hm:∀ p,p∈X->p∈Y):NodeAt Y r n:=by
 obtain ⟨v1,v2,v3,h1,h2⟩:=h
 exact ⟨v1,v2,v3,hm _ h1,h2.mono hm⟩
def PRep (X:RL) (v:Value):Option Nd->Prop
 | none=>v=.pointer none
 | some n=>∃ r,v=ptr r/\NodeAt X r n
theorem PRep.mono {X Y:RL} {v:Value} {o:Option Nd} (h:PRep X v o) (hm:∀ p,p∈X->p∈Y):PRep Y v o:=by
 cases o with
 | none=>exact h
 | some n=>obtain ⟨r,h1,h2⟩:=h; exact ⟨r,h1,h2.mono hm⟩
theorem pl_one {e:TypeId} {sz n:Nat} {X:RL} {v:Value} {cs:List Value} (h:PL e sz X v n cs):IsSl v:=isSl h.sv
set_option maxHeartbeats 2000000 in
theorem same_ct {X L:RL} {va vb:Value} {a b:Option Nd} (hX:∀ p,p∈X->p∈L) (ha:PRep X va a) (hb:PRep X vb b) (sa:∀ n,a=some n->Sm n) (sb:∀ n,b=some n->Sm n) (d:Decidable (a=b)) :
  CS Tryz.prog 97 [va,vb] L fun u L'=>u=.bool (@decide (a=b) d)/\L'=L:=by
 cases a with
 | none =>
  cases ha
  cases b with
  | none =>
   cases hb
   refine CS.mk (fn:=Tryz.f97) rfl rfl rfl rfl ?_
   repeat refine xQ ?_
   refine xG rfl ?_
   refine xP rfl rh rfl ?_
   refine xN ?_
   repeat refine xQ ?_
   refine xG rfl ?_
   iterate 3 refine xP rfl rh rfl ?_
   iterate 2 refine xK rfl rfl ?_
   refine xP rfl rh rfl ?_
   refine xN ?_
   repeat refine xQ ?_
   refine xC rfl (fun hc=>?_) (fun hc=>?_)
   ·repeat refine xQ ?_
    refine xG rfl ?_
    iterate 4 refine xP rfl rh rfl ?_
    refine xN ?_
    refine xT ⟨_,fun _ _=>rfl,?_⟩
    exact ⟨by rw [decide_eq_true rfl]; rfl,rfl⟩
   ·cases hc
  | some n =>
   obtain ⟨r,rfl,hN⟩:=hb
   refine CS.mk (fn:=Tryz.f97) rfl rfl rfl rfl ?_
   repeat refine xQ ?_
   refine xG rfl ?_
   refine xP rfl rh rfl ?_
   refine xN ?_
   repeat refine xQ ?_
   refine xG rfl ?_
   iterate 3 refine xP rfl rh rfl ?_
   iterate 2 refine xK rfl rfl ?_
   refine xP rfl rh rfl ?_
   refine xN ?_
   repeat refine xQ ?_
   refine xC rfl (fun hc=>?_) (fun hc=>?_)
   ·repeat refine xQ ?_
    refine xG rfl ?_
    iterate 4 refine xP rfl rh rfl ?_
    refine xN ?_
    refine xT ⟨_,fun _ _=>rfl,?_⟩
    exact ⟨by rw [decide_eq_false (by simp)]; rfl,rfl⟩
   ·cases hc
 | some n =>
  obtain ⟨r,rfl,v1,v2,v3,hr,hP⟩:=ha
  cases b with
  | none =>
   cases hb
   refine CS.mk (fn:=Tryz.f97) rfl rfl rfl rfl ?_
   repeat refine xQ ?_
   refine xG rfl ?_
   refine xP rfl rh rfl ?_
   refine xN ?_
   repeat refine xQ ?_
   refine xG rfl ?_
   iterate 6 refine xP rfl rh rfl ?_
   refine xN ?_
   repeat refine xQ ?_
   refine xC rfl (fun hc=>?_) (fun hc=>?_)
   ·repeat refine xQ ?_
    refine xG rfl ?_
    iterate 4 refine xP rfl rh rfl ?_
    refine xN ?_
    refine xT ⟨_,fun _ _=>rfl,?_⟩
    exact ⟨by rw [decide_eq_false (by simp)]; rfl,rfl⟩
   ·cases hc
  | some n2 =>
   obtain ⟨r2,rfl,w1,w2,w3,hr2,hP2⟩:=hb
   have s1:=sa n rfl
   have s2:=sb n2 rfl
   have N1:=hP.nv s1 hX
   have N2:=hP2.nv s2 hX
   have m1:=hX _ hr
   have m2:=hX _ hr2
   obtain ⟨lf,ks,vs,kids⟩:=n
   obtain ⟨lf2,ks2,vs2,kids2⟩:=n2
   have e1:=s1.k; have e2:=s1.v; have e3:=s1.z; have f1:=s2.k; have f2:=s2.v; have f3:=s2.z
   simp only at e1 e2 e3 f1 f2 f3 m1 m2
   have cK:=EqualS_ct N1.k N2.k (by simp only; omega) (by simp only; omega)
   have cV:=EqualS_ct N1.v N2.v (by simp only; omega) (by simp only; omega)
   have cZ:=EqualZ_ct N1.z N2.z (by simp only; omega) (by simp only; omega)
   simp only at cK cV cZ
   have hiff:((some (⟨lf,ks,vs,kids⟩:Nd))=some ⟨lf2,ks2,vs2,kids2⟩)↔(lf=lf2/\ks=ks2/\vs=vs2/\kids=kids2):=by simp
   refine CS.mk (fn:=Tryz.f97) rfl rfl rfl rfl ?_
   repeat refine xQ ?_
   refine xG rfl ?_
   refine xP rfl rh rfl ?_
   refine xN ?_
   repeat refine xQ ?_
   refine xG rfl ?_
   iterate 6 refine xP rfl rh rfl ?_
   refine xN ?_
   repeat refine xQ ?_
   refine xC rfl (fun hc=>?_) (fun hc=>?_)
   ·cases hc
   refine LS.skip ?_
   repeat refine xQ ?_
   refine LS.drawn noGo mixed [(0,false),(1,false),(2,false),(3,false),(4,false),(5,false),(6,false),(7,false),(8,false),(9,false),(10,false),(11,false),(12,false),(13,false),(14,false),(15,false),(16,false),(17,false),(18,true),(19,false),(20,false),(21,false),(22,false),(23,false),(24,false),(25,false),(26,false),(27,false),(28,false),(29,true),(30,false),(31,false),(32,false),(33,false),(34,false),(35,false),(36,false),(37,false),(38,false),(39,false),(40,true),(41,false),(42,false)] rfl rfl (by kernel_rfl) ?_
   iterate 3 refine xD rfl rfl rh rfl ?_
   refine xE rfl rfl (e_loadm m1 rfl rfl rfl rfl) rfl ?_
   iterate 3 refine xD rfl rfl rh rfl ?_
   refine xE rfl rfl (e_loadm m2 rfl rfl rfl rfl) rfl ?_
   by_cases h1:lf=lf2
   ·have hb1:(lf == lf2)=true:=by simpa using h1
    refine xD rfl rfl (e_ib rh (hb1)) rfl ?_
    iterate 4 refine xD rfl rfl rh rfl ?_
    refine xE rfl rfl (e_loadm m1 rfl rfl rfl rfl) rfl ?_
    iterate 3 refine xD rfl rfl rh rfl ?_
    refine xE rfl rfl (e_loadm m2 rfl rfl rfl rfl) rfl ?_
    refine ODS.call rfl rfl (fun _=>rfl) ((cK).mono ?_)
    rintro u L' ⟨rfl,rfl⟩
    refine ⟨_,rfl,(by repeat (first | exact Keep.nil | refine Keep.gone rfl ?_)),?_⟩
    by_cases h2:ks=ks2
    ·rw [decide_eq_true h2]
     iterate 5 refine xD rfl rfl rh rfl ?_
     refine xE rfl rfl (e_loadm m1 rfl rfl rfl rfl) rfl ?_
     iterate 3 refine xD rfl rfl rh rfl ?_
     refine xE rfl rfl (e_loadm m2 rfl rfl rfl rfl) rfl ?_
     refine ODS.call rfl rfl (fun _=>rfl) ((cV).mono ?_)
     rintro u L' ⟨rfl,rfl⟩
     refine ⟨_,rfl,(by repeat (first | exact Keep.nil | refine Keep.gone rfl ?_)),?_⟩
     by_cases h3:vs=vs2
     ·rw [decide_eq_true h3]
      iterate 5 refine xD rfl rfl rh rfl ?_
      refine xE rfl rfl (e_loadm m1 rfl rfl rfl rfl) rfl ?_
      iterate 3 refine xD rfl rfl rh rfl ?_
      refine xE rfl rfl (e_loadm m2 rfl rfl rfl rfl) rfl ?_
      refine ODS.call rfl rfl (fun _=>rfl) ((cZ).mono ?_)
      rintro u L' ⟨rfl,rfl⟩
      refine ⟨_,rfl,(by repeat (first | exact Keep.nil | refine Keep.gone rfl ?_)),?_⟩
      iterate 2 refine xD rfl rfl rh rfl ?_
      refine xM ?_
      refine xT ⟨_,fun _ _=>rfl,?_⟩
      refine ⟨?_,rfl⟩
      by_cases h4:kids=kids2
      ·rw [decide_eq_true h4,decide_eq_true (hiff.2 ⟨h1,h2,h3,h4⟩)]; rfl
      ·rw [decide_eq_false h4,decide_eq_false (fun hh=>h4 (hiff.1 hh).2.2.2)]; rfl
     ·rw [decide_eq_false h3]
      iterate 2 refine xD rfl rfl rh rfl ?_
      iterate 9 refine xS rfl rfl rfl ?_
      iterate 2 refine xD rfl rfl rh rfl ?_
      refine xM ?_
      refine xT ⟨_,fun _ _=>rfl,?_⟩
      exact ⟨by rw [decide_eq_false (fun hh=>h3 (hiff.1 hh).2.2.1)]; rfl,rfl⟩
    ·rw [decide_eq_false h2]
     iterate 2 refine xD rfl rfl rh rfl ?_
     iterate 9 refine xS rfl rfl rfl ?_
     iterate 2 refine xD rfl rfl rh rfl ?_
     iterate 9 refine xS rfl rfl rfl ?_
     iterate 2 refine xD rfl rfl rh rfl ?_
     refine xM ?_
     refine xT ⟨_,fun _ _=>rfl,?_⟩
     exact ⟨by rw [decide_eq_false (fun hh=>h2 (hiff.1 hh).2.1)]; rfl,rfl⟩
   ·have hb1:(lf == lf2)=false:=by simpa using h1
    refine xD rfl rfl (e_ib rh (hb1)) rfl ?_
    refine xD rfl rfl rh rfl ?_
    iterate 9 refine xS rfl rfl rfl ?_
    iterate 2 refine xD rfl rfl rh rfl ?_
    iterate 9 refine xS rfl rfl rfl ?_
    iterate 2 refine xD rfl rfl rh rfl ?_
    iterate 9 refine xS rfl rfl rfl ?_
    iterate 2 refine xD rfl rfl rh rfl ?_
    refine xM ?_
    refine xT ⟨_,fun _ _=>rfl,?_⟩
    exact ⟨by rw [decide_eq_false (fun hh=>h1 (hiff.1 hh).1)]; rfl,rfl⟩
theorem e_buildN {a:Slots} {o:Oper} {i0 i1 i2 i3:Operand} {b:Bool} {v1 v2 v3:Value} (s1:IsSl v1) (s2:IsSl v2) (s3:IsSl v3) (ho:o.op=.build 38 #[(0,i0),(1,i1),(2,i2),(3,i3)]) (h0:aev a i0=some (.bool b)) (h1:aev a i1=some v1) (h2:aev a i2=some v2) (h3:aev a i3=some v3) :
  ∀ h,opB Tryz.prog a o h=some (.val (ndV b v1 v2 v3) h):=by
 intro h
 rcases s1 with rfl | ⟨r1,o1,n1,c1,rfl⟩ <;> rcases s2 with rfl | ⟨r2,o2,n2,c2,rfl⟩ <;> rcases s3 with rfl | ⟨r3,o3,n3,c3,rfl⟩ <;> (simp only [opB,ho,evParts,h0,h1,h2,h3]; rfl)
theorem copied_ct {X L:RL} {r:Nat} {n:Nd} (hX:∀ p,p∈X->p∈L) (hN:NodeAt X r n) (hs:Sm n) :
  CS Tryz.prog 103 [ptr r] L fun u L'=>∃ w1 w2 w3 Y1 Y2 Y3,u=ndV n.leaf w1 w2 w3/\L'=Y3++(Y2++(Y1++L))/\GV 9 1 [] w1 n.ks.length (tx n.ks) Y1/\GV 9 1 [] w2 n.vs.length (tx n.vs) Y2/\GV 3 1 [] w3 n.kids.length (nums n.kids) Y3:=by
 suffices g:CS Tryz.prog 103 [ptr r] L fun u L'=>∃ x w1 w2 w3 Y1 Y2 Y3,u=ndV n.leaf w1 w2 w3/\L'=x::(Y3++(Y2++(Y1++L)))/\GV 9 1 [] w1 n.ks.length (tx n.ks) Y1/\GV 9 1 [] w2 n.vs.length (tx n.vs) Y2/\GV 3 1 [] w3 n.kids.length (nums n.kids) Y3 by
  exact g.less fun u L' ⟨x,w1,w2,w3,Y1,Y2,Y3,h1,h2,h3⟩=>⟨_,by rw [h2]; exact Sub.tail,w1,w2,w3,Y1,Y2,Y3,h1,rfl,h3⟩
 obtain ⟨v1,v2,v3,hr,hP⟩:=hN
 have m1:=hX _ hr
 have N1:=hP.nv hs hX
 obtain ⟨lf,ks,vs,kids⟩:=n
 have e1:=hs.k; have e2:=hs.v; have e3:=hs.z
 simp only at e1 e2 e3 m1
 refine CS.mk (fn:=Tryz.f103) rfl rfl rfl rfl ?_
 repeat refine xQ ?_
 refine xG rfl ?_
 refine OS.fresh rfl (e_new (fun _=>rfl) rfl) (fun _=>rfl) (fun rc=>?_)
 refine xN ?_
 have m1':=List.mem_cons_of_mem (rc,ndRow false (.slice none 0 0) (.slice none 0 0) (.slice none 0 0)) m1
 repeat refine xQ ?_
 refine LS.drawn noGo mixed [(0,false),(1,false),(2,false),(3,false),(4,false),(5,false),(6,false),(7,false),(9,false),(10,false),(11,false),(12,false),(14,false),(15,false),(16,false),(17,false),(8,true),(13,true),(18,true),(19,false),(20,true)] rfl rfl (by kernel_rfl) ?_
 iterate 3 refine xD rfl rfl rh rfl ?_
 refine xE rfl rfl (e_loadm m1' rfl rfl rfl rfl) rfl ?_
 iterate 3 refine xD rfl rfl rh rfl ?_
 refine xE rfl rfl (e_loadm m1' rfl rfl rfl rfl) rfl ?_
 iterate 3 refine xD rfl rfl rh rfl ?_
 refine xE rfl rfl (e_loadm m1' rfl rfl rfl rfl) rfl ?_
 iterate 3 refine xD rfl rfl rh rfl ?_
 refine xE rfl rfl (e_loadm m1' rfl rfl rfl rfl) rfl ?_
 refine ODS.call rfl rfl (fun _=>rfl) ((CloneS_ct (N1.k.cons) (tx_one _) (by simp only; omega)).mono ?_)
 rintro w1 L' ⟨Y1,rfl,g1⟩
 have m2:=List.mem_append_right Y1 m1'
 refine ⟨_,rfl,(by repeat (first | exact Keep.nil | refine Keep.gone rfl ?_ | refine Keep.cons rfl (e_loadm m2 rfl rfl rfl rfl) ?_)),?_⟩
 refine ODS.call rfl rfl (fun _=>rfl) ((CloneS_ct ((N1.v.cons (x:=(rc,ndRow false (.slice none 0 0) (.slice none 0 0) (.slice none 0 0)))).mono (fun p hp=>List.mem_append_right Y1 hp)) (tx_one _) (by simp only; omega)).mono ?_)
 rintro w2 L' ⟨Y2,rfl,g2⟩
 have m3:=List.mem_append_right Y2 m2
 refine ⟨_,rfl,(by repeat (first | exact Keep.nil | refine Keep.gone rfl ?_ | refine Keep.cons rfl (e_loadm m3 rfl rfl rfl rfl) ?_)),?_⟩
 refine ODS.call rfl rfl (fun _=>rfl) ((CloneZ_ct (((N1.z.cons (x:=(rc,ndRow false (.slice none 0 0) (.slice none 0 0) (.slice none 0 0)))).mono (fun p hp=>List.mem_append_right Y1 hp)).mono (fun p hp=>List.mem_append_right Y2 hp)) (nums_one _) (by simp only; omega)).mono ?_)
 rintro w3 L' ⟨Y3,rfl,g3⟩
 have m4:=List.mem_append_right Y3 m3
 refine ⟨_,rfl,(by repeat (first | exact Keep.nil | refine Keep.gone rfl ?_ | refine Keep.cons rfl (e_loadm m4 rfl rfl rfl rfl) ?_)),?_⟩
 have s1:=isSl g1.sv
 have s2:=isSl g2.sv
 have s3:=isSl g3.sv
 refine xD rfl rfl (e_buildN s1 s2 s3 rfl rfl rfl rfl rfl) rfl ?_
 refine ODS.sub Sub.front3 ?_
 refine ODS.write rfl rfl (e_store 0 (n:=4) rfl rfl rfl rfl rfl (nd_one s1 s2 s3) rfl rfl) rfl (by repeat (first | exact Keep.nil | refine Keep.gone rfl ?_)) ?_
 refine xM ?_
 refine xT ⟨_,res_cell (x:=2) 0 rfl rfl rfl rfl,?_⟩
 exact ⟨_,w1,w2,w3,Y1,Y2,Y3,rfl,rfl,g1,g2,g3⟩
end Go.Proofs.YtlmmddfhoabjfaaGreat
end
section
namespace Go.Proofs.YtlmmddfhoabjfaaGreat
open Go.Am
abbrev Mem:=Nat->Option Nd
def updM (m:Mem) (k:Nat) (o:Option Nd):Mem:=fun x=>if x=k then o else m x
def MapRep (X:RL) (g:Nat->Option Value) (m:Mem):Prop:=∀ k,(m k=none->g k=none)/\(∀ n,m k=some n->∃ r,g k=some (ptr r)/\NodeAt X r n)
def WasRep (X:RL) (g:Nat->Option Value) (m m0:Mem):Prop:=∀ k,(m k=m0 k->g k=none)/\(m k≠m0 k->∃ v,g k=some v/\PRep X v (m0 k))
structure PgE (E:List Nat) (X:RL) (T:List Bool) (es:List MapEntry) (ck:Nat) (ws:List MapEntry) (wk:Nat) (m m0:Mem):Prop where
 N:T.length<=32768
 tk:∀ i,i < T.length->i ∉ E->tkn T i=(m i).isSome
 dom:∀ i,m i≠none->i < T.length
 dom0:∀ i,m0 i≠none->i < T.length
 now:∃ g,MP es ck g/\MapRep X g m
 was:∃ g,MP ws wk g/\WasRep X g m m0
 sm:∀ i n,m i=some n->Sm n
 sm0:∀ i n,m0 i=some n->Sm n
abbrev Pg (X:RL) (T:List Bool) (es:List MapEntry) (ck:Nat) (ws:List MapEntry) (wk:Nat) (m m0:Mem):Prop:=PgE [] X T es ck ws wk m m0
abbrev trRow (rf rn rw:Nat) (root cnt root0 cnt0:Int):ARow:=.cells 92 [ptr rf,.map (some rn),.map (some rw),.int .i64 root,.int .i64 cnt,.int .i64 root0,.int .i64 cnt0]
abbrev HD (rf rb rt rn rw:Nat) (T:List Bool) (root cnt root0 cnt0:Int) (es:List MapEntry) (ck:Nat) (ws:List MapEntry) (wk:Nat) (Z:RL):RL :=
 fm rf rb T ((rt,trRow rf rn rw root cnt root0 cnt0)::(rn,.map es ck)::(rw,.map ws wk)::Z)
theorem PRep.of_map {X:RL} {g:Nat->Option Value} {m:Mem} (h:MapRep X g m) (k:Nat):PRep X ((g k).getD (.pointer none)) (m k):=by
 cases hm:m k with
 | none=>rw [(h k).1 hm]; rfl
 | some n=>obtain ⟨r,h1,h2⟩:=(h k).2 n hm; rw [h1]; exact ⟨r,rfl,h2⟩
theorem MapRep.mono {X Y:RL} {g:Nat->Option Value} {m:Mem} (h:MapRep X g m) (hm:∀ p,p∈X->p∈Y):MapRep Y g m:=fun k=>⟨(h k).1,fun n hn=>let ⟨r,h1,h2⟩:=(h k).2 n hn; ⟨r,h1,h2.mono hm⟩⟩
theorem WasRep.mono {X Y:RL} {g:Nat->Option Value} {m m0:Mem} (h:WasRep X g m m0) (hm:∀ p,p∈X->p∈Y):WasRep Y g m m0:=fun k=>⟨(h k).1,fun hn=>let ⟨r,h1,h2⟩:=(h k).2 hn; ⟨r,h1,h2.mono hm⟩⟩
theorem PgE.mono {E:List Nat} {X Y:RL} {T:List Bool} {es ws:List MapEntry} {ck wk:Nat} {m m0:Mem} (h:PgE E X T es ck ws wk m m0) (hm:∀ p,p∈X->p∈Y):PgE E Y T es ck ws wk m m0 :=
 ⟨h.N,h.tk,h.dom,h.dom0,let ⟨g,a,b⟩:=h.now; ⟨g,a,b.mono hm⟩,let ⟨g,a,b⟩:=h.was; ⟨g,a,b.mono hm⟩,h.sm,h.sm0⟩
theorem tkn_drop {T:List Bool} {j i:Nat} (hj:j < T.length):tkn (dropS T (j:Nat)) i=if i=j then false else tkn T i:=by
 unfold dropS dropE
 rw [if_pos (show 0<=((j:Nat):Int)/\((j:Nat):Int) < T.length by omega),Int.toNat_natCast]
 cases ht:tkn T j with
 | true=>simp only [if_true]; exact tkn_set hj i
 | false =>
  simp only [Bool.false_eq_true,if_false]
  rw [if_neg (by decide)]
  by_cases h:i=j
  ·subst h; simp [ht]
  ·rw [if_neg h]
theorem drop_len {T:List Bool} {j:Int}:(dropS T j).length=T.length:=by unfold dropS; split <;> simp
theorem tkn_claim {T:List Bool} {j i:Nat} (hj:j < T.length):tkn (claimS T (j:Nat)) i=if i=j then true else tkn T i:=by
 unfold claimS claimE
 rw [if_pos (show 0<=((j:Nat):Int)/\((j:Nat):Int) < T.length by omega),Int.toNat_natCast]
 cases ht:tkn T j with
 | false=>simp only [Bool.false_eq_true,if_false,if_true]; exact tkn_set hj i
 | true =>
  simp only [if_true]
  rw [if_neg (by decide)]
  by_cases h:i=j
  ·subst h; simp [ht]
  ·rw [if_neg h]
theorem claim_len {T:List Bool} {j:Int}:(claimS T j).length=T.length:=by unfold claimS; split <;> simp
theorem frees_set:∀ {T:List Bool} {j:Nat} {b:Bool},j < T.length->frees (T.set j b)+(if b then 1 else 0)=frees T+(if tkn T j then 1 else 0)
 | [],j,b,h=>by simp at h
 | t::T,0,b,_=>by cases t <;> cases b <;> simp [frees,tkn]
 | t::T,j+1,b,h=>by
  have:=frees_set (T:=T) (j:=j) (b:=b) (by simpa using h)
  have h2:tkn (t::T) (j+1)=tkn T j:=by simp [tkn]
  rw [h2]
  cases t <;> simp only [List.set_cons_succ,frees,List.countP_cons] at this ⊢ <;> simp at this ⊢ <;> omega
theorem frees_drop {T:List Bool} {j:Nat} (hj:j < T.length):frees (dropS T (j:Nat))+0=frees T+(if tkn T j then 1 else 0):=by
 unfold dropS dropE
 rw [if_pos (show 0<=((j:Nat):Int)/\((j:Nat):Int) < T.length by omega),Int.toNat_natCast]
 cases ht:tkn T j with
 | true =>
  have:=frees_set (b:=false) hj
  rw [ht] at this
  simpa using this
 | false =>
  simp only [Bool.false_eq_true,if_false]
  rw [if_neg (by decide)]
theorem frees_claim {T:List Bool} {j:Nat} (hj:j < T.length):frees (claimS T (j:Nat))+1=frees T+(if tkn T j then 1 else 0):=by
 unfold claimS claimE
 rw [if_pos (show 0<=((j:Nat):Int)/\((j:Nat):Int) < T.length by omega),Int.toNat_natCast]
 cases ht:tkn T j with
 | false =>
  have:=frees_set (b:=true) hj
  rw [ht] at this
  simpa using this
 | true =>
  simp only [if_true]
  rw [if_neg (by decide)]
theorem map_put {X:RL} {g:Nat->Option Value} {m:Mem} {k r:Nat} {n:Nd} (h:MapRep X g m) (hN:NodeAt X r n):MapRep X (updF g k (some (ptr r))) (updM m k (some n)):=fun x=>by
 unfold updF updM
 by_cases hx:x=k
 ·rw [if_pos hx,if_pos hx]
  exact ⟨fun hh=>(by cases hh),fun n' hn'=>by cases hn'; exact ⟨r,rfl,hN⟩⟩
 ·rw [if_neg hx,if_neg hx]; exact h x
theorem map_del {X:RL} {g:Nat->Option Value} {m:Mem} {k:Nat} (h:MapRep X g m):MapRep X (updF g k none) (updM m k none):=fun x=>by
 unfold updF updM
 by_cases hx:x=k
 ·rw [if_pos hx,if_pos hx]
  exact ⟨fun _=>rfl,fun n' hn'=>by cases hn'⟩
 ·rw [if_neg hx,if_neg hx]; exact h x
theorem was_put {X:RL} {g:Nat->Option Value} {m m0:Mem} {k:Nat} {v:Value} {o:Option Nd} (h:WasRep X g m m0) (hv:PRep X v (m0 k)) (ho:m0 k≠o):WasRep X (updF g k (some v)) (updM m k o) m0:=fun x=>by
 unfold updF updM
 by_cases hx:x=k
 ·subst hx
  rw [if_pos rfl,if_pos rfl]
  exact ⟨fun hh=>absurd hh.symm ho,fun _=>⟨v,rfl,hv⟩⟩
 ·rw [if_neg hx,if_neg hx]; exact h x
theorem was_del {X:RL} {g:Nat->Option Value} {m m0:Mem} {k:Nat} {o:Option Nd} (h:WasRep X g m m0) (ho:m0 k=o):WasRep X (updF g k none) (updM m k o) m0:=fun x=>by
 unfold updF updM
 by_cases hx:x=k
 ·subst hx
  rw [if_pos rfl,if_pos rfl]
  exact ⟨fun _=>rfl,fun hh=>absurd ho.symm hh⟩
 ·rw [if_neg hx,if_neg hx]; exact h x
theorem lay_ct {E:List Nat} {G X:RL} {rf rb rt rn rw no:Nat} {T:List Bool} {root cnt root0 cnt0:Int} {es ws:List MapEntry} {ck wk:Nat} {m m0:Mem} {v:Value} {o:Option Nd} (h:PgE E X T es ck ws wk m m0) (hE:∀ i,i∈E->i=no) (hno:no < T.length) (hv:PRep X v o) (so:∀ n,o=some n->Sm n) :
  CS Tryz.prog 60 [ptr rt,.int .i64 (no:Nat),v] (HD rf rb rt rn rw T root cnt root0 cnt0 es ck ws wk (G++X)) fun u L'=>∃ T' es' ck' ws' wk',T'.length=T.length/\frees T'+(if o.isSome then 1 else 0)=frees T+(if tkn T no then 1 else 0)/\L'=HD rf rb rt rn rw T' root cnt root0 cnt0 es' ck' ws' wk' (G++X)/\Pg X T' es' ck' ws' wk' (updM m no o) m0:=by
 obtain ⟨hN,htk,hdom,hdom0,⟨g,hg,hm⟩,⟨gw,hgw,hw⟩,hsm,hsm0⟩:=h
 have hX:∀ (T:List Bool) (es:List MapEntry) (ck:Nat) (ws:List MapEntry) (wk:Nat),∀ p,p∈X->p∈HD rf rb rt rn rw T root cnt root0 cnt0 es ck ws wk (G++X):=fun _ _ _ _ _ p hp=>by simp [hp]
 refine CS.mk (fn:=Tryz.f60) rfl rfl rfl rfl ?_
 repeat refine xQ ?_
 refine xG rfl ?_
 iterate 3 refine xP rfl rh rfl ?_
 refine xR rfl (e_load 2 rfl rfl rfl rfl rfl) rfl ?_
 refine xP rfl rh rfl ?_
 refine xR rfl (e_get2 hgw (by simp) rfl rfl rfl rfl (fun _=>rfl) rfl) rfl ?_
 iterate 5 refine xP rfl rh rfl ?_
 refine xN ?_
 repeat refine xQ ?_
 refine xG rfl ?_
 iterate 2 refine xP rfl rh rfl ?_
 refine xN ?_
 repeat refine xQ ?_
 refine LS.mid [0,1,2,6] (fun a L'=>∃ va,PRep X va (m0 no)/\L'=HD rf rb rt rn rw T root cnt root0 cnt0 es ck ws wk (G++X)/\a=[ptr rt,.int .i64 (no:Nat),v,jn,jn,jn,va,jn,jn,jn,jn,jn,jn,jn,jn,jn,jn,jn,jn,jn,jn,jn,jn,jn,jn,jn,jn,jn,jn,jn,jn,jn,jn,jn,jn,jn,jn,jn,jn,jn,jn,jn,jn,jn,jn,jn,jn,jn,jn,jn,jn,jn,jn,jn,jn,jn,jn,jn,jn,jn,jn,jn,jn,jn]) ?_ ?_
 ·by_cases hch:m no=m0 no
  ·rw [(hw no).1 hch]
   refine xC rfl (fun hc=>?_) (fun hc=>by cases hc)
   repeat refine xQ ?_
   refine xG rfl ?_
   iterate 3 refine xP rfl rh rfl ?_
   refine xR rfl (e_load 2 rfl rfl rfl rfl rfl) rfl ?_
   refine xP rfl rh rfl ?_
   refine xR rfl (e_get hg (by simp) rfl rfl rfl rfl (fun _=>rfl) rfl) rfl ?_
   refine xP rfl rh rfl ?_
   refine xN ?_
   exact ⟨_,by rw [← hch]; exact PRep.of_map hm no,rfl,rfl⟩
  ·obtain ⟨va,h1,h2⟩:=(hw no).2 hch
   rw [h1]
   refine xC rfl (fun hc=>by cases hc) (fun hc=>?_)
   refine LS.skip ?_
   exact ⟨va,h2,rfl,rfl⟩
 rintro a L' ⟨va,hva,rfl,rfl⟩
 have d:Decidable (m0 no=o):=Classical.propDecidable _
 repeat refine xQ ?_
 refine xG rfl ?_
 iterate 2 refine xP rfl rh rfl ?_
 refine xA noGo rfl (fun _=>rfl) ((same_ct (hX T es ck ws wk) hva hv (fun n hn=>hsm0 no n hn) so d).mono ?_)
 rintro u L' ⟨rfl,rfl⟩
 refine ⟨_,rfl,?_⟩
 refine xN ?_
 repeat refine xQ ?_
 refine LS.mid [0,1,2] (fun a L'=>∃ ws' wk' gw',MP ws' wk' gw'/\WasRep X gw' (updM m no o) m0/\L'=HD rf rb rt rn rw T root cnt root0 cnt0 es ck ws' wk' (G++X)/\a=[ptr rt,.int .i64 (no:Nat),v,jn,jn,jn,jn,jn,jn,jn,jn,jn,jn,jn,jn,jn,jn,jn,jn,jn,jn,jn,jn,jn,jn,jn,jn,jn,jn,jn,jn,jn,jn,jn,jn,jn,jn,jn,jn,jn,jn,jn,jn,jn,jn,jn,jn,jn,jn,jn,jn,jn,jn,jn,jn,jn,jn,jn,jn,jn,jn,jn,jn,jn]) ?_ ?_
 ·by_cases hs:m0 no=o
  ·rw [decide_eq_true hs]
   refine xC rfl (fun hc=>?_) (fun hc=>by cases hc)
   repeat refine xQ ?_
   refine xG rfl ?_
   iterate 3 refine xP rfl rh rfl ?_
   refine xR rfl (e_load 2 rfl rfl rfl rfl rfl) rfl ?_
   refine xP rfl rh rfl ?_
   refine OS.mapDel 4 hgw rfl rfl rfl rfl rfl rfl (fun _=>rfl) rfl rfl (fun ws' hws'=>⟨_,rfl,?_⟩)
   refine xN ?_
   exact ⟨ws',wk,_,hws',was_del hw hs,rfl,rfl⟩
  ·rw [decide_eq_false hs]
   refine xC rfl (fun hc=>by cases hc) (fun hc=>?_)
   repeat refine xQ ?_
   refine xG rfl ?_
   iterate 3 refine xP rfl rh rfl ?_
   refine xR rfl (e_load 2 rfl rfl rfl rfl rfl) rfl ?_
   iterate 2 refine xP rfl rh rfl ?_
   refine OS.mapPut 4 hgw rfl rfl rfl rfl rfl rfl (fun _=>rfl) rfl rfl (fun ws' wk' hws'=>⟨_,rfl,?_⟩)
   refine xN ?_
   exact ⟨ws',wk',_,hws',was_put hw hva hs,rfl,rfl⟩
 rintro a L' ⟨ws',wk',gw',hgw',hw',rfl,rfl⟩
 cases o with
 | none =>
  have hvn:v=.pointer none:=hv
  subst hvn
  repeat refine xQ ?_
  refine xG rfl ?_
  iterate 2 refine xP rfl rh rfl ?_
  refine xN ?_
  repeat refine xQ ?_
  refine xC rfl (fun hc=>?_) (fun hc=>?_)
  ·repeat refine xQ ?_
   refine xG rfl ?_
   iterate 3 refine xP rfl rh rfl ?_
   refine xR rfl (e_load 2 rfl rfl rfl rfl rfl) rfl ?_
   refine xP rfl rh rfl ?_
   refine OS.mapDel 3 hg rfl rfl rfl rfl rfl rfl (fun _=>rfl) rfl rfl (fun es' hes'=>⟨_,rfl,?_⟩)
   refine xN ?_
   repeat refine xQ ?_
   refine xG rfl ?_
   iterate 3 refine xP rfl rh rfl ?_
   refine xR rfl (e_load 2 rfl rfl rfl rfl rfl) rfl ?_
   refine xP rfl rh rfl ?_
   refine xA noGo rfl (fun _=>rfl) ((Drop_ct hN (no:Nat)).mono ?_)
   rintro u L' ⟨rfl,rfl⟩
   refine ⟨_,rfl,?_⟩
   refine xN ?_
   refine xT ⟨_,fun _ _=>rfl,?_⟩
   refine ⟨dropS T (no:Nat),es',ck,ws',wk',drop_len,frees_drop hno,rfl,⟨by rw [drop_len]; exact hN,fun i hi _=>?_,fun i hi=>?_,fun i hi=>by rw [drop_len]; exact hdom0 i hi,⟨_,hes',map_del hm⟩,⟨gw',hgw',hw'⟩,fun i n hn=>?_,hsm0⟩⟩
   ·rw [drop_len] at hi
    rw [tkn_drop hno]
    unfold updM
    by_cases h:i=no
    ·rw [if_pos h,if_pos h]; rfl
    ·rw [if_neg h,if_neg h]; exact htk i hi (fun hh=>h (hE i hh))
   ·rw [drop_len]
    unfold updM at hi
    split at hi
    ·exact absurd rfl hi
    ·exact hdom i hi
   ·unfold updM at hn
    split at hn
    ·cases hn
    ·exact hsm i n hn
  ·cases hc
 | some n =>
  obtain ⟨r,rfl,hNA⟩:=hv
  repeat refine xQ ?_
  refine xG rfl ?_
  iterate 2 refine xP rfl rh rfl ?_
  refine xN ?_
  repeat refine xQ ?_
  refine xC rfl (fun hc=>?_) (fun hc=>?_)
  ·cases hc
  refine LS.skip ?_
  repeat refine xQ ?_
  refine xG rfl ?_
  iterate 3 refine xP rfl rh rfl ?_
  refine xR rfl (e_load 2 rfl rfl rfl rfl rfl) rfl ?_
  iterate 2 refine xP rfl rh rfl ?_
  refine OS.mapPut 3 hg rfl rfl rfl rfl rfl rfl (fun _=>rfl) rfl rfl (fun es' ck' hes'=>⟨_,rfl,?_⟩)
  refine xN ?_
  repeat refine xQ ?_
  refine xG rfl ?_
  iterate 3 refine xP rfl rh rfl ?_
  refine xR rfl (e_load 2 rfl rfl rfl rfl rfl) rfl ?_
  refine xP rfl rh rfl ?_
  refine xA noGo rfl (fun _=>rfl) ((Claim_ct hN (no:Nat)).mono ?_)
  rintro u L' ⟨rfl,rfl⟩
  refine ⟨_,rfl,?_⟩
  refine xN ?_
  refine ⟨_,fun _ _=>rfl,claimS T (no:Nat),es',ck',ws',wk',claim_len,frees_claim hno,rfl,⟨by rw [claim_len]; exact hN,fun i hi _=>?_,fun i hi=>?_,fun i hi=>by rw [claim_len]; exact hdom0 i hi,⟨_,hes',map_put hm hNA⟩,⟨gw',hgw',hw'⟩,fun i n' hn=>?_,hsm0⟩⟩
  ·rw [claim_len] at hi
   rw [tkn_claim hno]
   unfold updM
   by_cases h:i=no
   ·rw [if_pos h,if_pos h]; rfl
   ·rw [if_neg h,if_neg h]; exact htk i hi (fun hh=>h (hE i hh))
  ·rw [claim_len]
   unfold updM at hi
   split at hi
   ·subst_vars; exact hno
   ·exact hdom i hi
  ·unfold updM at hn
   split at hn
   ·cases hn; exact so n rfl
   ·exact hsm i n' hn
end Go.Proofs.YtlmmddfhoabjfaaGreat
end
section
namespace Go.Am
theorem Sub.in5 {a b c d e x:Nat × ARow} {G X:RL}:Sub (a::b::c::d::e::(G++x::X)) (x::a::b::c::d::e::(G++X)):=⟨[],by
 have:=(List.perm_middle (a:=x) (l₁:=a::b::c::d::e::G) (l₂:=X)).symm
 simpa using this⟩
theorem Sub.inQ {a b c d e x:Nat × ARow} {Z:RL}:Sub (a::b::c::d::e::x::Z) (x::a::b::c::d::e::Z):=⟨[],by
 have:=(List.perm_middle (a:=x) (l₁:=[a,b,c,d,e]) (l₂:=Z)).symm
 simpa using this⟩
theorem Sub.inH {a b c d e x:Nat × ARow} {A B C Z:RL}:Sub (x::a::b::c::d::e::(A++(B++(C++Z)))) (x::(A++(B++(C++a::b::c::d::e::Z)))):=⟨[],by
 have h1:(A++(B++(C++a::b::c::d::e::Z))).Perm (a::b::c::d::e::(A++(B++(C++Z)))):=by
  have h2:((A++(B++C))++([a,b,c,d,e]++Z)).Perm (([a,b,c,d,e]++(A++(B++C)))++Z):=by
   rw [← List.append_assoc]
   exact List.Perm.append_right Z List.perm_append_comm
  simpa [List.append_assoc] using h2
 simpa using h1.cons x⟩
theorem Sub.inP {a b c d e x:Nat × ARow} {Z G X:RL}:Sub (a::b::c::d::e::(G++x::(Z++X))) (x::a::b::c::d::e::(Z++(G++X))):=⟨[],by
 have h1:(x::(Z++(G++X))).Perm (G++x::(Z++X)):=by
  have h2:((x::Z)++G++X).Perm (G++(x::Z)++X):=List.Perm.append_right X List.perm_append_comm
  simpa [List.append_assoc] using h2
 have h3:(x::([a,b,c,d,e]++(Z++(G++X)))).Perm ([a,b,c,d,e]++x::(Z++(G++X))):=List.perm_middle.symm
 have h4:=h3.trans (List.Perm.append_left [a,b,c,d,e] h1)
 simpa using h4⟩
section
variable {P:Program} {o:Oper} {a:Slots} {L:RL}
theorem e_boxV {e:TypeId} {x:Operand} {v:Value} {cs:List Value} (ho:o.op=.box e x) (hx:aev a x=some v) (hj:isJ v=false) (hc:v.cells.toList=cs) (hs:(sizeB P e).isSome=true):∀ h,Has h L->∃ r h₁,opB P a o h=some (.val (ptrTo r) h₁)/\Has h₁ ((r,.cells e cs)::L) :=
 e_new (fun _=>by simp only [opB,ho,hx,hj,hc]) hs
end
end Go.Am
namespace Go.Proofs.YtlmmddfhoabjfaaGreat
open Go.Am
theorem ff_lt {T:List Bool} (h:0 < frees T):ff T < T.length:=by
 rcases Nat.lt_or_ge (ff T) T.length with h1 | h1
 ·exact h1
 ·have h2:∀ t,t∈T->t=true:=fun t ht=>by
   obtain ⟨i,hi,rfl⟩:=List.getElem_of_mem ht
   have:=ff_ahead (T:=T) (i:=i) (by omega)
   unfold tkn at this
   rw [List.getElem?_eq_getElem hi] at this
   simpa using this
  have h3:frees T=0:=by
   unfold frees
   rw [List.countP_eq_zero]
   intro t ht
   rw [h2 t ht]; simp
  omega
theorem nd_cells {X:RL} {n:Nd} {v1 v2 v3:Value} (h:PN X n v1 v2 v3):(ndV n.leaf v1 v2 v3).cells.toList=[.bool n.leaf,v1,v2,v3]:=by
 rcases pl_one h.k with rfl | ⟨r1,o1,n1,c1,rfl⟩ <;> rcases pl_one h.v with rfl | ⟨r2,o2,n2,c2,rfl⟩ <;> rcases pl_one h.z with rfl | ⟨r3,o3,n3,c3,rfl⟩ <;> rfl
theorem add_ct {G X:RL} {rf rb rt rn rw:Nat} {T:List Bool} {root cnt root0 cnt0:Int} {es ws:List MapEntry} {ck wk:Nat} {m m0:Mem} {n:Nd} {v1 v2 v3:Value} (h:Pg X T es ck ws wk m m0) (hf:0 < frees T) (hP:PN X n v1 v2 v3) (hs:Sm n) :
  CS Tryz.prog 61 [ptr rt,ndV n.leaf v1 v2 v3] (HD rf rb rt rn rw T root cnt root0 cnt0 es ck ws wk (G++X)) fun u L'=>∃ no T' es' ck' ws' wk' x,no < T.length/\m no=none/\u=.int .i64 (no:Nat)/\T'.length=T.length/\frees T'+1=frees T/\L'=HD rf rb rt rn rw T' root cnt root0 cnt0 es' ck' ws' wk' (G++x::X)/\Pg (x::X) T' es' ck' ws' wk' (updM m no (some n)) m0:=by
 have hff:=ff_lt hf
 have hno:m (ff T)=none:=by
  have h1:=h.tk (ff T) hff (by simp)
  rw [ff_here hff] at h1
  cases hm:m (ff T) with
  | none=>rfl
  | some n=>rw [hm] at h1; cases h1
 have hN:=h.N
 refine CS.mk (fn:=Tryz.f61) rfl rfl rfl rfl ?_
 repeat refine xQ ?_
 refine xG rfl ?_
 refine OS.fresh rfl (e_boxV (v:=ndV n.leaf v1 v2 v3) (cs:=[.bool n.leaf,v1,v2,v3]) rfl rfl rfl (nd_cells hP) rfl) (fun _=>rfl) (fun x=>?_)
 refine xP rfl rh rfl ?_
 refine xN ?_
 refine LS.sub Sub.in5 ?_
 have hX:∀ p,p∈X->p∈(x,ndRow n.leaf v1 v2 v3)::X:=fun p hp=>List.mem_cons_of_mem _ hp
 have h2:PgE [ff T] ((x,ndRow n.leaf v1 v2 v3)::X) (T.set (ff T) true) es ck ws wk m m0:=by
  have h1:=h.mono hX
  refine ⟨by rw [List.length_set]; exact h1.N,fun i hi hE=>?_,fun i hi=>by rw [List.length_set]; exact h1.dom i hi,fun i hi=>by rw [List.length_set]; exact h1.dom0 i hi,h1.now,h1.was,h1.sm,h1.sm0⟩
  rw [List.length_set] at hi
  rw [tkn_set hff i,if_neg (fun hh=>hE (by rw [hh]; simp))]
  exact h1.tk i hi (by simp)
 repeat refine xQ ?_
 refine xG rfl ?_
 iterate 3 refine xP rfl rh rfl ?_
 refine xR rfl (e_load 2 rfl rfl rfl rfl rfl) rfl ?_
 refine xA noGo rfl (fun _=>rfl) ((Take_ct hN).mono ?_)
 rintro u L' ⟨rfl,rfl⟩
 have e1:takeI T=ff T:=by unfold takeI; rw [if_pos hff]
 have e2:takeS T=T.set (ff T) true:=by unfold takeS; rw [if_pos hff]
 rw [e1,e2]
 refine ⟨_,rfl,?_⟩
 iterate 5 refine xP rfl rh rfl ?_
 refine xN ?_
 repeat refine xQ ?_
 refine xG rfl ?_
 iterate 2 refine xP rfl rh rfl ?_
 refine xA noGo rfl (fun _=>rfl) ((lay_ct (o:=some n) h2 (fun i hi=>by simpa using hi) (by rw [List.length_set]; exact hff) ⟨x,rfl,v1,v2,v3,List.mem_cons_self ..,hP.mono hX⟩ (fun n' hn=>by cases hn; exact hs)).mono ?_)
 rintro u L' ⟨T',es',ck',ws',wk',hl,hfr,rfl,hp⟩
 refine ⟨_,rfl,?_⟩
 refine xN ?_
 repeat refine xQ ?_
 refine xG rfl ?_
 iterate 2 refine xP rfl rh rfl ?_
 refine xN ?_
 refine xT ⟨_,fun _ _=>rfl,?_⟩
 rw [List.length_set] at hl
 have hfs:=frees_set (b:=true) hff
 rw [ff_here hff] at hfs
 rw [tkn_set hff,if_pos rfl] at hfr
 simp at hfs hfr
 exact ⟨ff T,T',es',ck',ws',wk',_,hff,hno,rfl,hl,by omega,rfl,hp⟩
theorem clean_ct {G X:RL} {rf rb rt rn rw:Nat} {T:List Bool} {root cnt root0 cnt0:Int} {es ws:List MapEntry} {ck wk:Nat} {m m0:Mem} (h:Pg X T es ck ws wk m m0) :
  CS Tryz.prog 49 [ptr rt] (HD rf rb rt rn rw T root cnt root0 cnt0 es ck ws wk (G++X)) fun u L'=>∃ rw',L'=HD rf rb rt rn rw' T root cnt root0 cnt0 es ck [] 0 ((rw,.map ws wk)::(G++X))/\Pg X T es ck [] 0 m m:=by
 refine CS.mk (fn:=Tryz.f49) rfl rfl rfl rfl ?_
 repeat refine xQ ?_
 refine xG rfl ?_
 refine xP rfl rh rfl ?_
 refine OS.fresh rfl (e_makeMap rfl rfl rfl) (fun _=>rfl) (fun rq=>?_)
 iterate 2 refine xP rfl rh rfl ?_
 refine OS.write rfl (e_store 3 rfl rfl rfl rfl rfl rfl rfl rfl) rfl ?_
 refine OS.sub (Sub.pulls [5,1,5,5,5,5] rfl) ?_
 refine xN ?_
 exact ⟨_,fun _ _=>rfl,rq,rfl,⟨h.N,h.tk,h.dom,h.dom,h.now,⟨_,MP.new,fun k=>⟨fun _=>rfl,fun hh=>absurd rfl hh⟩⟩,h.sm,h.sm⟩⟩
theorem change_ct {G X:RL} {rf rb rt rn rw no f:Nat} {caps:List Value} {T:List Bool} {root cnt cnt' root0 cnt0:Int} {es ws:List MapEntry} {ck wk:Nat} {m m0:Mem} {n n':Nd} (h:Pg X T es ck ws wk m m0) (hm:m no=some n) (hs':Sm n')
  (hf:∀ rc w1 w2 w3 Y1 Y2 Y3,GV 9 1 [] w1 n.ks.length (tx n.ks) Y1->GV 9 1 [] w2 n.vs.length (tx n.vs) Y2->GV 3 1 [] w3 n.kids.length (nums n.kids) Y3 →
   CS Tryz.prog f (ptr rc::caps) ((rc,ndRow n.leaf w1 w2 w3)::HD rf rb rt rn rw T root cnt root0 cnt0 es ck ws wk (Y3++(Y2++(Y1++(G++X))))) fun _ L'=>∃ w1' w2' w3' Z,L'=(rc,ndRow n'.leaf w1' w2' w3')::HD rf rb rt rn rw T root cnt' root0 cnt0 es ck ws wk (Z++(G++X))/\PN Z n' w1' w2' w3') :
  CS Tryz.prog 64 [ptr rt,.int .i64 (no:Nat),.func (.func f) #[] caps.toArray] (HD rf rb rt rn rw T root cnt root0 cnt0 es ck ws wk (G++X)) fun u L'=>∃ T' es' ck' ws' wk' X',(∀ p,p∈X->p∈X')/\T'.length=T.length/\frees T'=frees T/\L'=HD rf rb rt rn rw T' root cnt' root0 cnt0 es' ck' ws' wk' (G++X')/\Pg X' T' es' ck' ws' wk' (updM m no (some n')) m0:=by
 have hno:no < T.length:=h.dom no (by rw [hm]; simp)
 have htk:tkn T no=true:=by rw [h.tk no hno (by simp),hm]; rfl
 obtain ⟨g,hg,hmr⟩:=h.now
 obtain ⟨r,hgn,hN⟩:=(hmr no).2 n hm
 have hgv:(g no).getD (.pointer none)=ptr r:=by rw [hgn]; rfl
 refine CS.mk (fn:=Tryz.f64) rfl rfl rfl rfl ?_
 repeat refine xQ ?_
 refine xG rfl ?_
 iterate 3 refine xP rfl rh rfl ?_
 refine xR rfl (e_load 2 rfl rfl rfl rfl rfl) rfl ?_
 refine xP rfl rh rfl ?_
 refine xR rfl (e_get hg (by simp) rfl rfl rfl rfl (fun _=>rfl) rfl) rfl ?_
 rw [hgv]
 refine xA noGo rfl (fun _=>rfl) ((copied_ct (X:=X) (fun p hp=>by simp [hp]) hN (h.sm no n hm)).mono ?_)
 rintro u L' ⟨w1,w2,w3,Y1,Y2,Y3,rfl,rfl,g1,g2,g3⟩
 refine ⟨_,rfl,?_⟩
 refine OS.fresh rfl (e_new (fun _=>rfl) rfl) (fun _=>rfl) (fun rc=>?_)
 have s1:=isSl g1.sv
 have s2:=isSl g2.sv
 have s3:=isSl g3.sv
 refine OS.write rfl (e_store 0 (n:=4) rfl rfl rfl rfl rfl (nd_one s1 s2 s3) rfl rfl) rfl ?_
 refine OS.sub Sub.inH ?_
 refine xN ?_
 repeat refine xQ ?_
 refine xG rfl ?_
 refine xP rfl rh rfl ?_
 refine xA noGo rfl (fun _=>rfl) ((hf rc w1 w2 w3 Y1 Y2 Y3 g1 g2 g3).mono ?_)
 rintro u L' ⟨w1',w2',w3',Z,rfl,hP⟩
 refine ⟨_,rfl,?_⟩
 refine OS.sub Sub.inP ?_
 refine xN ?_
 have hX:∀ p,p∈X->p∈(rc,ndRow n'.leaf w1' w2' w3')::(Z++X):=fun p hp=>by simp [hp]
 repeat refine xQ ?_
 refine xG rfl ?_
 iterate 2 refine xP rfl rh rfl ?_
 refine xA noGo rfl (fun _=>rfl) ((lay_ct (o:=some n') (h.mono hX) (fun i hi=>by simp at hi) hno ⟨rc,rfl,w1',w2',w3',List.mem_cons_self ..,hP.mono (fun p hp=>by simp [hp])⟩ (fun n2 hn=>by cases hn; exact hs')).mono ?_)
 rintro u L' ⟨T',es',ck',ws',wk',hl,hfr,rfl,hp⟩
 refine ⟨_,rfl,?_⟩
 refine xN ?_
 refine ⟨_,fun _ _=>rfl,T',es',ck',ws',wk',_,hX,hl,?_,rfl,hp⟩
 rw [htk] at hfr
 simpa using hfr
end Go.Proofs.YtlmmddfhoabjfaaGreat
end
section
namespace Go.Proofs.YtlmmddfhoabjfaaGreat
open Go.Am
abbrev Tx:=List UInt8
structure Lf where
 p:Nat
 ks:List Tx
 vs:List Tx
structure Inn (α:Type) where
 p:Nat
 ks:List Tx
 ts:List α
def Tr:Nat->Type
 | 0=>Lf
 | h+1=>Inn (Tr h)
def lf (p:Nat) (ks vs:List Tx):Tr 0:=(⟨p,ks,vs⟩:Lf)
def inn {h:Nat} (p:Nat) (ks:List Tx) (ts:List (Tr h)):Tr (h+1):=(⟨p,ks,ts⟩:Inn (Tr h))
def no:(h:Nat)->Tr h->Nat
 | 0,t=>Lf.p t
 | _+1,t=>Inn.p t
def nos {h:Nat} (ts:List (Tr h)):List Int:=ts.map fun s=>((no h s:Nat):Int)
def nd:(h:Nat)->Tr h->Nd
 | 0,t=>⟨true,Lf.ks t,Lf.vs t,[]⟩
 | h+1,t=>⟨false,Inn.ks t,[],nos (Inn.ts t)⟩
def pgs:(h:Nat)->Tr h->List Nat
 | 0,t=>[Lf.p t]
 | h+1,t=>Inn.p t::(Inn.ts t).flatMap (pgs h)
theorem lf_eta (t:Tr 0):∃ p ks vs,t=lf p ks vs:=⟨Lf.p t,Lf.ks t,Lf.vs t,rfl⟩
theorem inn_eta {h:Nat} (t:Tr (h+1)):∃ p ks ts,t=inn p ks ts:=⟨Inn.p t,Inn.ks t,Inn.ts t,rfl⟩
@[simp] theorem no_lf {p : Nat} {ks vs : List Tx} : no 0 (lf p ks vs) = p := rfl
@[simp] theorem no_inn {h p : Nat} {ks : List Tx} {ts : List (Tr h)} : no (h + 1) (inn p ks ts) = p := rfl
@[simp] theorem nd_lf {p : Nat} {ks vs : List Tx} : nd 0 (lf p ks vs) = ⟨true, ks, vs, []⟩ := rfl
@[simp] theorem nd_inn {h p : Nat} {ks : List Tx} {ts : List (Tr h)} : nd (h + 1) (inn p ks ts) = ⟨false, ks, [], nos ts⟩ := rfl
@[simp] theorem pgs_lf {p : Nat} {ks vs : List Tx} : pgs 0 (lf p ks vs) = [p] := rfl
@[simp] theorem pgs_inn {h p : Nat} {ks : List Tx} {ts : List (Tr h)} : pgs (h + 1) (inn p ks ts) = p :: ts.flatMap (pgs h) := rfl
theorem no_mem:∀ {h:Nat} {t:Tr h},no h t∈pgs h t
 | 0,t=>by obtain ⟨p,ks,vs,rfl⟩:=lf_eta t; simp
 | h+1,t=>by obtain ⟨p,ks,ts,rfl⟩:=inn_eta t; simp
inductive It
 | K (k v:Tx)
 | S (k:Tx)
def kvI:It->Option (Tx × Tx)
 | .K k v=>some (k,v)
 | .S _=>none
def kvs (l:List It):List (Tx × Tx):=l.filterMap kvI
def preI:List Tx->List (List It)->List It
 | k::ks,s::ss=>s++It.S k::preI ks ss
 | _,_=>[]
def postI:List Tx->List (List It)->List It
 | k::ks,s::ss=>It.S k::(s++postI ks ss)
 | _,_=>[]
def wv (ks:List Tx):List (List It)->List It
 | []=>[]
 | s::ss=>s++postI ks ss
def sq:(h:Nat)->Tr h->List It
 | 0,t=>List.zipWith It.K (Lf.ks t) (Lf.vs t)
 | h+1,t=>wv (Inn.ks t) ((Inn.ts t).map (sq h))
@[simp] theorem sq_lf {p : Nat} {ks vs : List Tx} : sq 0 (lf p ks vs) = List.zipWith It.K ks vs := rfl
theorem sq_inn {h p:Nat} {ks:List Tx} {ts:List (Tr h)}:sq (h+1) (inn p ks ts)=wv ks (ts.map (sq h)):=rfl
theorem postI_app:∀ {A B:List Tx} {L R:List (List It)},A.length=L.length->postI (A++B) (L++R)=postI A L++postI B R
 | [],B,[],R,_=>rfl
 | [],_,_::_,_,h=>by simp at h
 | _::_,_,[],_,h=>by simp at h
 | a::A,B,l::L,R,h=>by
  have:=postI_app (A:=A) (B:=B) (L:=L) (R:=R) (by simpa using h)
  simp only [List.cons_append,postI,this,List.append_assoc]
theorem wv_at:∀ {A B:List Tx} {L R:List (List It)} {s:List It},A.length=L.length->wv (A++B) (L++s::R)=preI A L++(s++postI B R)
 | [],B,[],R,s,_=>rfl
 | [],_,_::_,_,_,h=>by simp at h
 | _::_,_,[],_,_,h=>by simp at h
 | a::A,B,l::L,R,s,h=>by
  have h1:=wv_at (A:=A) (B:=B) (L:=L) (R:=R) (s:=s) (by simpa using h)
  simp only [List.cons_append,wv,preI,List.append_assoc]
  cases L with
  | nil =>
   cases A with
   | nil=>simp only [List.nil_append,postI,preI]
   | cons _ _=>simp at h
  | cons l2 L =>
   cases A with
   | nil=>simp at h
   | cons a2 A =>
    simp only [List.cons_append,wv,preI,List.append_assoc,postI] at h1 ⊢
    rw [h1]
theorem sq_at {h p:Nat} {A B:List Tx} {L R:List (Tr h)} {u:Tr h} (hl:A.length=L.length):sq (h+1) (inn p (A++B) (L++u::R))=preI A (L.map (sq h))++(sq h u++postI B (R.map (sq h))):=by
 rw [sq_inn,List.map_append,List.map_cons,wv_at (by simpa using hl)]
theorem preI_app:∀ {A B:List Tx} {L R:List (List It)},A.length=L.length->preI (A++B) (L++R)=preI A L++preI B R
 | [],B,[],R,_=>rfl
 | [],_,_::_,_,h=>by simp at h
 | _::_,_,[],_,h=>by simp at h
 | a::A,B,l::L,R,h=>by
  have:=preI_app (A:=A) (B:=B) (L:=L) (R:=R) (by simpa using h)
  simp only [List.cons_append,preI,this,List.append_assoc]
def lessI:It->It->Prop
 | .K k _,.K k' _=>bytesLt k k'=true
 | .K k _,.S s=>bytesLt k s=true
 | .S s,.K k _=>leT s k=true
 | .S s,.S s'=>bytesLt s s'=true
def Srt (l:List It):Prop:=l.Pairwise lessI
structure SQ (a b:List It):Prop where
 kv:kvs a=kvs b
 srt:∀ X Y,Srt (X++(a++Y))->Srt (X++(b++Y))
theorem SQ.refl {a:List It}:SQ a a:=⟨rfl,fun _ _ h=>h⟩
theorem SQ.trans {a b c:List It} (h:SQ a b) (g:SQ b c):SQ a c:=⟨h.kv.trans g.kv,fun X Y hh=>g.srt X Y (h.srt X Y hh)⟩
theorem kvs_app {a b:List It}:kvs (a++b)=kvs a++kvs b:=by simp [kvs]
theorem SQ.ctx {a b:List It} (X Y:List It) (h:SQ a b):SQ (X++(a++Y)) (X++(b++Y)) :=
 ⟨by simp only [kvs_app,h.kv],fun U V hh=>by
  have:=h.srt (U++X) (Y++V) (by simpa only [List.append_assoc] using hh)
  simpa only [List.append_assoc] using this⟩
theorem SQ.to {a b:List It} (h:SQ a b) (s:Srt a):Srt b:=by
 have:=h.srt [] [] (by simpa using s)
 simpa using this
theorem SQ.drop {a b:List It} {k:Tx}:SQ (a++It.S k::b) (a++b) :=
 ⟨by simp only [kvs,List.filterMap_append,List.filterMap_cons,kvI],fun X Y h=>List.Pairwise.sublist (by
  simp only [List.append_assoc,List.cons_append]
  exact List.Sublist.append_left (List.Sublist.append_left (List.sublist_cons_self ..) a) X) h⟩
theorem SQ.of {a b:List It} (h:a=b):SQ a b:=by subst h; exact SQ.refl
def RepT (m:Mem):(h:Nat)->Tr h->Prop
 | 0,t=>m (no 0 t)=some (nd 0 t)
 | h+1,t=>m (no (h+1) t)=some (nd (h+1) t)/\∀ s∈Inn.ts t,RepT m h s
theorem RepT.top {m:Mem}:∀ {h:Nat} {t:Tr h},RepT m h t->m (no h t)=some (nd h t)
 | 0,_,h=>h
 | _+1,_,h=>h.1
theorem rep_inn {m:Mem} {h p:Nat} {ks:List Tx} {ts:List (Tr h)}:RepT m (h+1) (inn p ks ts)↔m p=some ⟨false,ks,[],nos ts⟩/\∀ s∈ts,RepT m h s:=Iff.rfl
theorem RepT.congr {m m':Mem}:∀ {h:Nat} {t:Tr h},RepT m h t->(∀ q,q∈pgs h t->m' q=m q)->RepT m' h t
 | 0,t,h,g=>by
  obtain ⟨p,ks,vs,rfl⟩:=lf_eta t
  have h1:m p=some ⟨true,ks,vs,[]⟩:=h
  show m' p=some ⟨true,ks,vs,[]⟩
  rw [g p (by simp),h1]
 | h+1,t,hr,g=>by
  obtain ⟨p,ks,ts,rfl⟩:=inn_eta t
  rw [rep_inn] at hr ⊢
  refine ⟨by rw [g p (by simp)]; exact hr.1,fun s hs=>(hr.2 s hs).congr fun q hq=>g q ?_⟩
  rw [pgs_inn]
  exact List.mem_cons_of_mem _ (List.mem_flatMap.2 ⟨s,hs,hq⟩)
def Okt:(h:Nat)->Tr h->Prop
 | 0,t=>fitsN (nd 0 t)=true/\Lf.ks t≠[]
 | h+1,t=>fitsN (nd (h+1) t)=true/\∀ s∈Inn.ts t,Okt h s
theorem ok_inn {h p:Nat} {ks:List Tx} {ts:List (Tr h)}:Okt (h+1) (inn p ks ts)↔fitsN ⟨false,ks,[],nos ts⟩=true/\∀ s∈ts,Okt h s:=Iff.rfl
theorem ok_lf {p:Nat} {ks vs:List Tx}:Okt 0 (lf p ks vs)↔fitsN ⟨true,ks,vs,[]⟩=true/\ks≠[]:=Iff.rfl
theorem Okt.fits:∀ {h:Nat} {t:Tr h},Okt h t->fitsN (nd h t)=true
 | 0,_,h=>h.1
 | _+1,_,h=>h.1
theorem fits_may {n:Nd} (h:fitsN n=true):mayN n=true:=by unfold fitsN at h; simp at h; exact h.1
theorem fits_le {n:Nd} (h:fitsN n=true):(bodyN n).length<=256:=by unfold fitsN at h; simp at h; exact h.2
theorem fits_sm {n:Nd} (h:fitsN n=true):Sm n:=by
 have hk:=keys_256 h
 have hm:=fits_may h
 cases hl:n.leaf with
 | true =>
  obtain ⟨h1,h2,h3⟩:=may_vs hm hl
  exact ⟨by omega,by omega,by rw [h2]; simp,fun k hk=>by have:=may_ks hm k hk; omega,fun k hk=>by have:=h3 k hk; omega⟩
 | false =>
  obtain ⟨h1,h2,h3⟩:=may_kids hm hl
  exact ⟨by omega,by rw [h2]; simp,by omega,fun k hk=>by have:=may_ks hm k hk; omega,fun k hk=>by rw [h2] at hk; cases hk⟩
theorem nos_len {h:Nat} (ts:List (Tr h)):(nos ts).length=ts.length:=by simp [nos]
theorem Okt.len {h p:Nat} {ks:List Tx} {ts:List (Tr h)} (hk:Okt (h+1) (inn p ks ts)):ts.length=ks.length+1:=by
 have:=(may_kids (fits_may hk.fits) rfl).1
 simpa [nos] using this
theorem Okt.kid {h p:Nat} {ks:List Tx} {ts:List (Tr h)} (hk:Okt (h+1) (inn p ks ts)):∀ s∈ts,Okt h s:=(ok_inn.1 hk).2
theorem Okt.vs {p:Nat} {ks vs:List Tx} (hk:Okt 0 (lf p ks vs)):vs.length=ks.length:=(may_vs (fits_may hk.fits) rfl).1
end Go.Proofs.YtlmmddfhoabjfaaGreat
end
section
namespace Go.Proofs.YtlmmddfhoabjfaaGreat
open Go.Am
theorem zip_3:∀ {ks bs:List Tx},ks.length=bs.length->(∀ k∈ks,1<=k.length)->(∀ b∈bs,1<=b.length)->3 * ks.length<=(zipB ks bs).length
 | [],_,_,_,_=>by simp
 | _::_,[],h,_,_=>by simp at h
 | k::ks,b::bs,h,h1,h2=>by
  have:=zip_3 (ks:=ks) (bs:=bs) (by simpa using h) (fun k hk=>h1 k (List.mem_cons_of_mem _ hk)) (fun k hk=>h2 k (List.mem_cons_of_mem _ hk))
  have g1:=h1 k (List.mem_cons_self ..)
  have g2:=h2 b (List.mem_cons_self ..)
  have g3:=grp_nz k.length
  simp only [zipB,tB,List.length_append,List.length_cons]
  omega
theorem cnt_pos {z:Int} (h:0<=z/\z<=32768):1<=(cnt z).length:=by
 unfold cnt
 rw [if_pos (by omega)]
 exact grp_pos _
theorem beh_pos {n:Nd} (h:mayN n=true):∀ b∈behN n,1<=b.length:=fun b hb=>by
 unfold behN at hb
 split at hb
 ·obtain ⟨v,_,rfl⟩:=List.mem_map.1 hb; exact tB_pos v
 ·rename_i hl
  obtain ⟨v,hv,rfl⟩:=List.mem_map.1 hb
  exact cnt_pos ((may_kids h (by simpa using hl)).2.2 v (List.mem_of_mem_tail hv))
theorem keys_3 {n:Nd} (h:mayN n=true):3 * n.ks.length+2<=(bodyN n).length:=by
 have h1:=zip_3 (beh_len h).symm (fun k hk=>(rise_all (may_iff.1 h).1 k hk).2.1) (beh_pos h)
 have h2:=grp_pos n.ks.length
 unfold bodyN headN
 simp only [List.length_append,List.length_cons,List.length_nil]
 omega
structure Bg (n:Nd):Prop where
 may:mayN n=true
 le:(bodyN n).length<=360
theorem Bg.keys {n:Nd} (h:Bg n):n.ks.length<=119:=by have:=keys_3 h.may; have:=h.le; omega
theorem Bg.of {n:Nd} (h:fitsN n=true):Bg n:=⟨fits_may h,by have:=fits_le h; omega⟩
theorem Bg.fits {n:Nd} (h:Bg n) (hl:(bodyN n).length<=256):fitsN n=true:=by unfold fitsN; rw [h.may,decide_eq_true hl]; rfl
theorem Bg.size {n:Nd} (h:Bg n):sizeN n=(bodyN n).length:=by unfold sizeN; rw [if_pos h.may]
theorem Bg.sm {n:Nd} (h:Bg n):Sm n:=by
 have hk:=h.keys
 have hm:=h.may
 cases hl:n.leaf with
 | true =>
  obtain ⟨h1,h2,h3⟩:=may_vs hm hl
  exact ⟨by omega,by omega,by rw [h2]; simp,fun k hk=>by have:=may_ks hm k hk; omega,fun k hk=>by have:=h3 k hk; omega⟩
 | false =>
  obtain ⟨h1,h2,h3⟩:=may_kids hm hl
  exact ⟨by omega,by rw [h2]; simp,by omega,fun k hk=>by have:=may_ks hm k hk; omega,fun k hk=>by rw [h2] at hk; cases hk⟩
theorem body_len {n:Nd} (h:n.ks.length<=127):(bodyN n).length=2+((firstN n).length+(zipB n.ks (behN n)).length):=by
 unfold bodyN headN
 simp only [List.length_append,List.length_cons,List.length_nil]
 rw [grp_lt (by omega)]
 simp
def Less (n n':Nd):Prop:=Bg n->Bg n'/\(bodyN n').length<=(bodyN n).length
theorem Less.refl {n:Nd}:Less n n:=fun h=>⟨h,Nat.le_refl _⟩
theorem Less.trans {a b c:Nd} (h:Less a b) (g:Less b c):Less a c:=fun ha=>let ⟨hb,h1⟩:=h ha; let ⟨hc,h2⟩:=g hb; ⟨hc,Nat.le_trans h2 h1⟩
theorem Less.fits {a b:Nd} (h:Less a b) (ha:fitsN a=true):fitsN b=true:=by
 obtain ⟨h1,h2⟩:=h (Bg.of ha)
 exact h1.fits (by have:=fits_le ha; omega)
theorem without_Less {n:Nd} {i:Nat} (hi:i < n.ks.length):Less n (withoutN n i):=fun h=>by
 have hk:=h.keys
 have hw:=without_may h.may hi
 obtain ⟨hb,hf⟩:=without_beh (i:=i) h.may
 have he:(n.ks.eraseIdx i).length+1=n.ks.length:=by rw [List.length_eraseIdx,if_pos hi]; omega
 have hlt:(bodyN (withoutN n i)).length<=(bodyN n).length:=by
  rw [body_len (n:=n) (by omega),body_len (n:=withoutN n i) (by show (n.ks.eraseIdx i).length<=127; omega),hb,hf]
  have h1:=zip_erase hi (beh_len h.may).symm
  show 2+(_+(zipB (n.ks.eraseIdx i) ((behN n).eraseIdx i)).length)<=_
  omega
 exact ⟨⟨hw,by have:=h.le; omega⟩,hlt⟩
structure Chg (m m':Mem) (P P':List Nat):Prop where
 nd:P'.Nodup
 new:∀ q,q∈P'->q∈P∨m q=none
 out:∀ q,q ∉ P->q ∉ P'->m' q=m q
 gone:∀ q,q∈P->q ∉ P'->m' q=none
theorem Chg.refl {m:Mem} {P:List Nat} (h:P.Nodup):Chg m m P P:=⟨h,fun q hq=>.inl hq,fun _ _ _=>rfl,fun q h1 h2=>absurd h1 h2⟩
theorem Chg.trans {m m1 m2:Mem} {P P1 P2:List Nat} (a:Chg m m1 P P1) (b:Chg m1 m2 P1 P2):Chg m m2 P P2:=by
 refine ⟨b.nd,fun q hq=>?_,fun q h1 h2=>?_,fun q h1 h2=>?_⟩
 ·rcases b.new q hq with h | h
  ·exact a.new q h
  ·by_cases hp:q∈P
   ·exact .inl hp
   ·by_cases hp1:q∈P1
    ·exact a.new q hp1
    ·rw [a.out q hp hp1] at h; exact .inr h
 ·by_cases hp:q∈P1
  ·rcases a.new q hp with h | h
   ·exact absurd h h1
   ·rw [b.gone q hp h2,h]
  ·rw [b.out q hp h2,a.out q h1 hp]
 ·by_cases hp:q∈P1
  ·exact b.gone q hp h2
  ·rw [b.out q hp h2,a.gone q h1 hp]
theorem Chg.lift {m m':Mem} {A P P' B:List Nat} (c:Chg m m' P P') (hn:(A++(P++B)).Nodup) (hm:∀ q,q∈A∨q∈B->m q≠none):Chg m m' (A++(P++B)) (A++(P'++B))/\∀ q,q∈A∨q∈B->m' q=m q:=by
 rw [List.nodup_append,List.nodup_append] at hn
 obtain ⟨hA,⟨hP,hB,hPB⟩,hAX⟩:=hn
 have hout:∀ q,q∈A∨q∈B->q ∉ P/\q ∉ P':=fun q hq=>by
  have h1:q ∉ P:=fun hp=>by
   rcases hq with h | h
   ·exact hAX q h q (List.mem_append_left _ hp) rfl
   ·exact hPB q hp q h rfl
  refine ⟨h1,fun hp=>?_⟩
  rcases c.new q hp with h | h
  ·exact h1 h
  ·exact hm q hq h
 refine ⟨⟨?_,fun q hq=>?_,fun q h1 h2=>?_,fun q h1 h2=>?_⟩,fun q hq=>c.out q (hout q hq).1 (hout q hq).2⟩
 ·rw [List.nodup_append,List.nodup_append]
  refine ⟨hA,⟨c.nd,hB,fun a ha b hb he=>(hout b (.inr hb)).2 (he ▸ ha)⟩,fun a ha b hb he=>?_⟩
  rcases List.mem_append.1 hb with h | h
  ·exact (hout a (.inl ha)).2 (he ▸ h)
  ·exact hAX a ha b (List.mem_append_right _ h) he
 ·simp only [List.mem_append] at hq ⊢
  rcases hq with h | h | h
  ·exact .inl (.inl h)
  ·rcases c.new q h with h | h
   ·exact .inl (.inr (.inl h))
   ·exact .inr h
  ·exact .inl (.inr (.inr h))
 ·simp only [List.mem_append,not_or] at h1 h2
  exact c.out q h1.2.1 h2.2.1
 ·simp only [List.mem_append,not_or] at h1 h2
  rcases h1 with h | h | h
  ·exact absurd h h2.1
  ·exact c.gone q h h2.2.1
  ·exact absurd h h2.2.2
theorem RepT.some {m:Mem}:∀ {h:Nat} {t:Tr h},RepT m h t->∀ q,q∈pgs h t->m q≠none
 | 0,t,hr,q,hq=>by
  obtain ⟨p,ks,vs,rfl⟩:=lf_eta t
  simp only [pgs_lf,List.mem_singleton] at hq
  subst hq
  have h1:m q=Option.some ⟨true,ks,vs,[]⟩:=hr
  rw [h1]; simp
 | h+1,t,hr,q,hq=>by
  obtain ⟨p,ks,ts,rfl⟩:=inn_eta t
  rw [rep_inn] at hr
  rw [pgs_inn] at hq
  rcases List.mem_cons.1 hq with rfl | hq
  ·rw [hr.1]; simp
  ·obtain ⟨s,hs,hq⟩:=List.mem_flatMap.1 hq
   exact (hr.2 s hs).some q hq
theorem pgs_at {h p:Nat} {ks:List Tx} {L R:List (Tr h)} {u:Tr h}:pgs (h+1) (inn p ks (L++u::R))=(p::L.flatMap (pgs h))++(pgs h u++R.flatMap (pgs h)):=by
 simp [pgs_inn]
structure Via (m m':Mem) {h:Nat} (t t':Tr h):Prop where
 chg:Chg m m' (pgs h t) (pgs h t')
 rep:RepT m' h t'
 sv:SQ (sq h t) (sq h t')
 rt:no h t'=no h t
theorem Via.refl {m:Mem} {h:Nat} {t:Tr h} (hr:RepT m h t) (hn:(pgs h t).Nodup):Via m m t t:=⟨Chg.refl hn,hr,SQ.refl,rfl⟩
theorem Via.trans {m m1 m2:Mem} {h:Nat} {t t1 t2:Tr h} (a:Via m m1 t t1) (b:Via m1 m2 t1 t2):Via m m2 t t2:=⟨a.chg.trans b.chg,b.rep,a.sv.trans b.sv,b.rt.trans a.rt⟩
theorem Via.kid {m m':Mem} {h p:Nat} {A B:List Tx} {L R:List (Tr h)} {u u':Tr h} (v:Via m m' u u') (hl:A.length=L.length) (hr:RepT m (h+1) (inn p (A++B) (L++u::R))) (hn:(pgs (h+1) (inn p (A++B) (L++u::R))).Nodup) :
  Via m m' (inn p (A++B) (L++u::R)) (inn p (A++B) (L++u'::R)):=by
 have hr':=hr
 rw [rep_inn] at hr
 rw [pgs_at] at hn
 have hsome:∀ q,q∈p::L.flatMap (pgs h)∨q∈R.flatMap (pgs h)->m q≠none:=fun q hq=>hr'.some q (by
  rw [pgs_at]
  rcases hq with hq | hq
  ·exact List.mem_append_left _ hq
  ·exact List.mem_append_right _ (List.mem_append_right _ hq))
 obtain ⟨c,hs⟩:=v.chg.lift hn hsome
 refine ⟨by rw [pgs_at,pgs_at]; exact c,?_,?_,rfl⟩
 ·rw [rep_inn]
  refine ⟨?_,fun s hs'=>?_⟩
  ·rw [hs p (.inl (List.mem_cons_self ..)),hr.1]
   simp [nos,v.rt]
  ·rcases List.mem_append.1 hs' with h1 | h1
   ·exact (hr.2 s (List.mem_append_left _ h1)).congr fun q hq=>hs q (.inl (List.mem_cons_of_mem _ (List.mem_flatMap.2 ⟨s,h1,hq⟩)))
   ·rcases List.mem_cons.1 h1 with rfl | h1
    ·exact v.rep
    ·exact (hr.2 s (List.mem_append_right _ (List.mem_cons_of_mem _ h1))).congr fun q hq=>hs q (.inr (List.mem_flatMap.2 ⟨s,h1,hq⟩))
 ·rw [sq_at hl,sq_at hl]
  exact v.sv.ctx _ _
def mrg:(h:Nat)->Tr h->Tx->Tr h->Tr h
 | 0,a,_,b=>lf (Lf.p a) (Lf.ks a++Lf.ks b) (Lf.vs a++Lf.vs b)
 | _+1,a,k,b=>inn (Inn.p a) (Inn.ks a++k::Inn.ks b) (Inn.ts a++Inn.ts b)
def joinN (l:Nd) (k:Tx) (r:Nd):Nd:=⟨l.leaf,(if l.leaf then l.ks else l.ks++[k])++r.ks,l.vs++r.vs,l.kids++r.kids⟩
theorem no_mrg:∀ {h:Nat} {a b:Tr h} {k:Tx},no h (mrg h a k b)=no h a
 | 0,_,_,_=>rfl
 | _+1,_,_,_=>rfl
theorem nd_mrg:∀ {h:Nat} {a b:Tr h} {k:Tx},nd h (mrg h a k b)=joinN (nd h a) k (nd h b)
 | 0,a,b,k=>by
  obtain ⟨p,ks,vs,rfl⟩:=lf_eta a
  obtain ⟨p',ks',vs',rfl⟩:=lf_eta b
  rfl
 | h+1,a,b,k=>by
  obtain ⟨p,ks,ts,rfl⟩:=inn_eta a
  obtain ⟨p',ks',ts',rfl⟩:=inn_eta b
  show (⟨false,ks++k::ks',[],nos (ts++ts')⟩:Nd)=_
  simp [joinN,nos]
theorem postI_join:∀ {A:List Tx} {L:List (List It)} {k:Tx} {B:List Tx} {R:List (List It)},A.length=L.length->R≠[]->postI (A++k::B) (L++R)=postI A L++It.S k::wv B R
 | [],[],k,B,R,_,hR=>by
  cases R with
  | nil=>exact absurd rfl hR
  | cons s R=>rfl
 | [],_::_,_,_,_,h,_=>by simp at h
 | _::_,[],_,_,_,h,_=>by simp at h
 | a::A,l::L,k,B,R,h,hR=>by
  have:=postI_join (A:=A) (L:=L) (k:=k) (B:=B) (R:=R) (by simpa using h) hR
  simp only [List.cons_append,postI,this,List.append_assoc]
theorem wv_join {A B:List Tx} {L R:List (List It)} {k:Tx} (hl:L.length=A.length+1) (hR:R≠[]):wv (A++k::B) (L++R)=wv A L++It.S k::wv B R:=by
 cases L with
 | nil=>simp at hl
 | cons s L =>
  have:=postI_join (A:=A) (L:=L) (k:=k) (B:=B) (R:=R) (by simp at hl; omega) hR
  simp only [List.cons_append,wv,this,List.append_assoc]
theorem zipK_app {ks vs ks' vs':List Tx} (h:ks.length=vs.length):List.zipWith It.K (ks++ks') (vs++vs')=List.zipWith It.K ks vs++List.zipWith It.K ks' vs':=List.zipWith_append h
theorem sq_mrg:∀ {h:Nat} {a b:Tr h} {k:Tx},Okt h a->Okt h b->SQ (sq h a++It.S k::sq h b) (sq h (mrg h a k b))
 | 0,a,b,k,ha,hb=>by
  obtain ⟨p,ks,vs,rfl⟩:=lf_eta a
  obtain ⟨p',ks',vs',rfl⟩:=lf_eta b
  have h1:sq 0 (mrg 0 (lf p ks vs) k (lf p' ks' vs'))=sq 0 (lf p ks vs)++sq 0 (lf p' ks' vs'):=zipK_app ha.vs.symm
  rw [h1]
  exact SQ.drop
 | h+1,a,b,k,ha,hb=>by
  obtain ⟨p,ks,ts,rfl⟩:=inn_eta a
  obtain ⟨p',ks',ts',rfl⟩:=inn_eta b
  have h1:sq (h+1) (mrg (h+1) (inn p ks ts) k (inn p' ks' ts'))=sq (h+1) (inn p ks ts)++It.S k::sq (h+1) (inn p' ks' ts'):=by
   show wv (ks++k::ks') ((ts++ts').map (sq h))=_
   rw [List.map_append,wv_join (by simpa using ha.len) (by have:=hb.len; cases ts' with | nil=>simp at this | cons _ _=>simp)]
   rfl
  rw [h1]
  exact SQ.refl
theorem pgs_mrg:∀ {h:Nat} {a b:Tr h} {k:Tx} {q:Nat},(pgs h b).Nodup->(q∈pgs h (mrg h a k b)↔q∈pgs h a∨(q∈pgs h b/\q≠no h b))
 | 0,a,b,k,q,_=>by
  obtain ⟨p,ks,vs,rfl⟩:=lf_eta a
  obtain ⟨p',ks',vs',rfl⟩:=lf_eta b
  show q∈[p]↔_
  simp only [pgs_lf,no_lf,List.mem_singleton]
  constructor
  ·exact fun h=>.inl h
  ·rintro (h | ⟨h,h2⟩)
   ·exact h
   ·exact absurd h h2
 | h+1,a,b,k,q,hn=>by
  obtain ⟨p,ks,ts,rfl⟩:=inn_eta a
  obtain ⟨p',ks',ts',rfl⟩:=inn_eta b
  show q∈p::(ts++ts').flatMap (pgs h)↔_
  rw [pgs_inn,List.nodup_cons] at hn
  simp only [pgs_inn,no_inn,List.mem_cons,List.flatMap_append,List.mem_append]
  constructor
  ·rintro (h | h | h)
   ·exact .inl (.inl h)
   ·exact .inl (.inr h)
   ·exact .inr ⟨.inr h,fun he=>hn.1 (he ▸ h)⟩
  ·rintro ((h | h) | ⟨h | h,h2⟩)
   ·exact .inl h
   ·exact .inr (.inl h)
   ·exact absurd h h2
   ·exact .inr (.inr h)
theorem sub_mrg:∀ {h:Nat} {a b:Tr h} {k:Tx},(pgs h (mrg h a k b)).Sublist (pgs h a++pgs h b)
 | 0,a,b,k=>by
  obtain ⟨p,ks,vs,rfl⟩:=lf_eta a
  obtain ⟨p',ks',vs',rfl⟩:=lf_eta b
  show [p].Sublist ([p]++[p'])
  simp
 | h+1,a,b,k=>by
  obtain ⟨p,ks,ts,rfl⟩:=inn_eta a
  obtain ⟨p',ks',ts',rfl⟩:=inn_eta b
  show (p::(ts++ts').flatMap (pgs h)).Sublist _
  simp only [pgs_inn,List.flatMap_append,List.cons_append]
  exact ((List.Sublist.refl _).append (List.sublist_cons_self ..)).cons_cons p
theorem Via.join {m:Mem} {h p:Nat} {A B:List Tx} {k:Tx} {L R:List (Tr h)} {a b:Tr h} (hl:A.length=L.length) (hr:RepT m (h+1) (inn p (A++k::B) (L++a::b::R))) (hn:(pgs (h+1) (inn p (A++k::B) (L++a::b::R))).Nodup) (ha:Okt h a) (hb:Okt h b) :
  Via m (updM (updM (updM m (no h a) (some (joinN (nd h a) k (nd h b)))) (no h b) none) p (some ⟨false,A++B,[],nos (L++a::R)⟩)) (inn p (A++k::B) (L++a::b::R)) (inn p (A++B) (L++mrg h a k b::R)):=by
 rw [rep_inn] at hr
 have hn0:=hn
 simp only [pgs_inn,List.flatMap_append,List.flatMap_cons,List.nodup_cons,List.nodup_append,List.mem_append,not_or] at hn
 obtain ⟨⟨hpL,hpa,hpb,hpR⟩,hL,⟨hna,⟨hnb,hnR,hbR⟩,haX⟩,hLX⟩:=hn
 have hab:∀ q,q∈pgs h a->q ∉ pgs h b:=fun q h1 h2=>haX q h1 q (.inl h2) rfl
 have haR:∀ q,q∈pgs h a->q ∉ R.flatMap (pgs h):=fun q h1 h2=>haX q h1 q (.inr h2) rfl
 have hLa:∀ q,q∈L.flatMap (pgs h)->q ∉ pgs h a:=fun q h1 h2=>hLX q h1 q (.inl h2) rfl
 have hLb:∀ q,q∈L.flatMap (pgs h)->q ∉ pgs h b:=fun q h1 h2=>hLX q h1 q (.inr (.inl h2)) rfl
 have hRb:∀ q,q∈pgs h b->q ∉ R.flatMap (pgs h):=fun q h1 h2=>hbR q h1 q h2 rfl
 -- what is not among the three pages is as it was
 have hsame:∀ q,q≠no h a->q≠no h b->q≠p->updM (updM (updM m (no h a) (some (joinN (nd h a) k (nd h b)))) (no h b) none) p (some ⟨false,A++B,[],nos (L++a::R)⟩) q=m q:=fun q h1 h2 h3=>by
  unfold updM; rw [if_neg h3,if_neg h2,if_neg h1]
 have ea:=no_mem (t:=a)
 have eb:=no_mem (t:=b)
 refine ⟨⟨?_,fun q hq=>.inl ?_,fun q h1 h2=>?_,fun q h1 h2=>?_⟩,?_,?_,rfl⟩
 ·refine List.Sublist.nodup ?_ hn0
  simp only [pgs_inn,List.flatMap_append,List.flatMap_cons]
  refine List.Sublist.cons_cons p ((List.Sublist.refl _).append ?_)
  rw [← List.append_assoc]
  exact sub_mrg.append (List.Sublist.refl _)
 ·simp only [pgs_inn,List.flatMap_append,List.flatMap_cons,List.mem_cons,List.mem_append,pgs_mrg hnb] at hq ⊢
  rcases hq with h | h | (h | ⟨h,_⟩) | h
  ·exact .inl h
  ·exact .inr (.inl h)
  ·exact .inr (.inr (.inl h))
  ·exact .inr (.inr (.inr (.inl h)))
  ·exact .inr (.inr (.inr (.inr h)))
 ·simp only [pgs_inn,List.flatMap_append,List.flatMap_cons,List.mem_cons,List.mem_append,not_or] at h1
  obtain ⟨g0,g1,g2,g3,g4⟩:=h1
  exact hsame q (fun he=>g2 (he ▸ ea)) (fun he=>g3 (he ▸ eb)) g0
 ·simp only [pgs_inn,List.flatMap_append,List.flatMap_cons,List.mem_cons,List.mem_append,not_or,pgs_mrg hnb,not_and,Classical.not_not] at h1 h2
  obtain ⟨g0,g1,⟨g2,g3⟩,g4⟩:=h2
  rcases h1 with h | h | h | h | h
  ·exact absurd h g0
  ·exact absurd h g1
  ·exact absurd h g2
  ·have he:=g3 h
   unfold updM
   rw [if_neg g0,if_pos he]
  ·exact absurd h g4
 ·rw [rep_inn]
  refine ⟨by unfold updM; rw [if_pos rfl]; simp [nos,no_mrg],fun s hs=>?_⟩
  have hother:∀ s,s∈L∨s∈R->∀ q,q∈pgs h s->updM (updM (updM m (no h a) (some (joinN (nd h a) k (nd h b)))) (no h b) none) p (some ⟨false,A++B,[],nos (L++a::R)⟩) q=m q:=fun s hs q hq=>by
   rcases hs with hs | hs
   ·have hqL:=List.mem_flatMap.2 ⟨s,hs,hq⟩
    exact hsame q (fun he=>hLa q hqL (he ▸ ea)) (fun he=>hLb q hqL (he ▸ eb)) (fun he=>hpL (he ▸ hqL))
   ·have hqR:=List.mem_flatMap.2 ⟨s,hs,hq⟩
    exact hsame q (fun he=>haR _ ea (he ▸ hqR)) (fun he=>hRb _ eb (he ▸ hqR)) (fun he=>hpR (he ▸ hqR))
  have hav:updM (updM (updM m (no h a) (some (joinN (nd h a) k (nd h b)))) (no h b) none) p (some ⟨false,A++B,[],nos (L++a::R)⟩) (no h a)=some (joinN (nd h a) k (nd h b)):=by
   have e1:no h a≠p:=fun he=>hpa (he ▸ ea)
   have e2:no h a≠no h b:=fun he=>hab _ ea (by rw [he]; exact eb)
   unfold updM
   rw [if_neg e1,if_neg e2,if_pos rfl]
  rcases List.mem_append.1 hs with h1 | h1
  ·exact (hr.2 s (List.mem_append_left _ h1)).congr (hother s (.inl h1))
  ·rcases List.mem_cons.1 h1 with rfl | h1
   ·have ra:=hr.2 a (by simp)
    have rb:=hr.2 b (by simp)
    clear hs h1
    cases h with
    | zero =>
     obtain ⟨pa,ks,vs,rfl⟩:=lf_eta a
     obtain ⟨pb,ks',vs',rfl⟩:=lf_eta b
     exact hav
    | succ h =>
     obtain ⟨pa,ks,ts,rfl⟩:=inn_eta a
     obtain ⟨pb,ks',ts',rfl⟩:=inn_eta b
     refine ⟨?_,fun s hs=>?_⟩
     ·rw [nd_mrg]; exact hav
     ·have hs':s∈ts++ts':=hs
      rw [rep_inn] at ra rb
      simp only [pgs_inn,no_inn,List.nodup_cons,List.mem_cons,not_or] at *
      rcases List.mem_append.1 hs' with h1 | h1
      ·refine (ra.2 s h1).congr fun q hq=>?_
       have hq':=List.mem_flatMap.2 ⟨s,h1,hq⟩
       exact hsame q (fun he=>hna.1 (he ▸ hq')) (fun he=>(hab q (.inr hq')).1 he) (fun he=>hpa.2 (he ▸ hq'))
      ·refine (rb.2 s h1).congr fun q hq=>?_
       have hq':=List.mem_flatMap.2 ⟨s,h1,hq⟩
       exact hsame q (fun he=>(hab pa (.inl rfl)).2 (he ▸ hq')) (fun he=>hnb.1 (he ▸ hq')) (fun he=>hpb.2 (he ▸ hq'))
   ·exact (hr.2 s (List.mem_append_right _ (List.mem_cons_of_mem _ (List.mem_cons_of_mem _ h1)))).congr (hother s (.inr h1))
 ·rw [sq_at hl,sq_at hl]
  have h1:postI (k::B) ((b::R).map (sq h))=It.S k::(sq h b++postI B (R.map (sq h))):=rfl
  rw [h1]
  have h2:=(sq_mrg (k:=k) ha hb).ctx (preI A (L.map (sq h))) (postI B (R.map (sq h)))
  simpa only [List.append_assoc,List.cons_append] using h2
end Go.Proofs.YtlmmddfhoabjfaaGreat
end
section
namespace Go.Am
theorem count_sum [BEq (Nat × ARow)] [LawfulBEq (Nat × ARow)] (x:Nat × ARow):∀ l:RL,l.count x=(l.map fun y=>if y == x then 1 else 0).sum
 | []=>rfl
 | y::l=>by rw [List.count_cons,count_sum x l,List.map_cons,List.sum_cons]; omega
theorem Sub.sums2 (D:RL) {A B:RL} (h:∀ f:Nat × ARow->Nat,(B.map f).sum=(A.map f).sum+(D.map f).sum):Sub A B:=by
 classical
 refine ⟨D,?_⟩
 letI:BEq (Nat × ARow):=⟨fun a b=>decide (a=b)⟩
 haveI:LawfulBEq (Nat × ARow):={ eq_of_beq:=fun h=>of_decide_eq_true h,rfl:=decide_eq_true rfl }
 rw [List.perm_iff_count]
 intro x
 rw [List.count_append,count_sum,count_sum,count_sum]
 exact h _
theorem Sub.sums {A B:RL} (h:∀ f:Nat × ARow->Nat,(B.map f).sum=(A.map f).sum):Sub A B:=Sub.sums2 [] fun f=>by rw [h f]; simp
section
variable {P:Program} {o:Oper} {a:Slots} {L:RL}
theorem e_appendGA (X F:RL) {c:Call} {e:TypeId} {sz bts n m:Nat} {Y:RL} {v x:Value} {cs new:List Value} (g:GV e sz [] v n cs Y) (hs:SV sz (X++(Y++F)) x m new) (hone:allOne new=true) (ho:o.op=.call c) (hT:appT P c=some (e,sz,bts)) (ha:evs a c.args.toList=some [v,x])
  (hsm:(n+m) * bts<=1000000000000) (hsm2:n+m<=1000000000000) :
  ∀ h,Has h (X++(Y++F))->∃ u h₁ L₁,opB P a o h=some (.val u h₁)/\Has h₁ L₁/\∃ Y',GV e sz [] u (n+m) (cs++new) Y'/\L₁=Y'++(X++F):=by
 intro h H
 rcases Nat.eq_zero_or_pos m with rfl | hm
 ·have hnew:new=[]:=by have:=hs.len; simpa using this
  subst hnew
  rcases g with ⟨rfl,rfl,rfl,rfl⟩ | ⟨r,rfl,hl,rfl⟩
  ·refine ⟨.slice none 0 0,h,X++F,?_,by simpa using H,[],.inl ⟨rfl,rfl,rfl,rfl⟩,rfl⟩
   have hn:=hs.lenB
   have hf:=hs.first H
   have hone':(allOne ([]:List Value) && (notText x || Nat.beq sz 1))=true:=by rw [hone,hs.notText]; rfl
   unfold appT at hT
   split at hT
   case h_2=>cases hT
   rename_i hcal
   split at hT
   case h_2=>cases hT
   rename_i st xt hst hxt
   split at hT
   case h_2=>cases hT
   rename_i e' xd hu1 hu2
   have hxd:(∀ k,xd=.int k->False)/\∃ i,P.info? e'=some i/\i.size=sz:=by
    split at hT
    ·cases hT
    ·rename_i hno
     split at hT
     case h_2=>cases hT
     rename_i i hi hz
     simp at hT
     obtain ⟨rfl,rfl,rfl⟩:=hT
     exact ⟨fun k hk=>hno k hk,i,hi,rfl⟩
   obtain ⟨hno,i,hi,rfl⟩:=hxd
   have b1:Nat.beq 0 openCap=false:=beq_false (by decide)
   have b2:Nat.ble (0+0) 0=true:=rfl
   simp only [opB,ho,ha,callOpB,hcal,appendB,hst,hxt,hu1,hu2]
   cases xd <;> first | exact (hno _ rfl).elim | skip
   all_goals simp only [hi,hn,hf,hone',b1,ret2]
  ·have hX:(X++(r,.cells e cs)::F)[X.length]?=some (r,.cells e cs):=by simp
   have hd:∀ (X:RL),dropL (X++(r,.cells e cs)::F) X.length=some (X++F):=by
    intro X
    induction X with
    | nil=>rfl
    | cons y X ih=>simp only [List.cons_append,List.length_cons,dropL,ih]
   obtain ⟨r',h₁,e₁,H₁⟩:=e_appendSV X.length hs hone ho hT ha hsm hsm2 hX (cut_all hl) (hd X) h H
   exact ⟨_,h₁,_,e₁,H₁,[(r',.cells e (cs++[]))],GV.of (by simpa using hl),rfl⟩
 ·obtain ⟨r',h₁,e₁,H₁⟩:=e_appendGV X (GV.appendR F g) (by simpa using hs) hm hone ho hT ha hsm hsm2 h (by simpa using H)
  have hl:(cs++new).length=(n+m) * sz:=by
   have h1:new.length=m * sz:=hs.len
   have h2:cs.length=n * sz:=g.sv.len
   rw [List.length_append,h1,h2,Nat.add_mul]
  exact ⟨_,h₁,_,e₁,H₁,[(r',.cells e (cs++new))],GV.of hl,rfl⟩
end
end Go.Am
namespace Go.Proofs.YtlmmddfhoabjfaaGreat
open Go.Am
def bits (N:Nat) (m:Mem):List Bool:=(List.range N).map fun i=>(m i).isSome
theorem bits_len {N:Nat} {m:Mem}:(bits N m).length=N:=by simp [bits]
theorem bits_tkn {N i:Nat} {m:Mem} (h:i < N):tkn (bits N m) i=(m i).isSome:=by simp [tkn,bits,h]
def frM (N:Nat) (m:Mem):Nat:=frees (bits N m)
theorem bits_of {T:List Bool} {m:Mem} (h:∀ i,i < T.length->tkn T i=(m i).isSome):T=bits T.length m:=by
 apply List.ext_getElem (by rw [bits_len])
 intro i h1 h2
 have:=h i h1
 unfold tkn at this
 rw [List.getElem?_eq_getElem h1] at this
 simp only [Option.getD_some] at this
 simp [bits,this]
theorem bits_upd {N k:Nat} {m:Mem} {o:Option Nd}:bits N (updM m k o)=(bits N m).set k o.isSome:=by
 apply List.ext_getElem (by simp [bits])
 intro i h1 h2
 rw [List.getElem_set]
 simp only [bits,List.getElem_map,List.getElem_range,updM]
 by_cases h:i=k
 ·subst h; simp
 ·rw [if_neg h,if_neg (fun hh=>h hh.symm)]
theorem frM_upd {N k:Nat} {m:Mem} {o:Option Nd} (h:k < N):frM N (updM m k o)+(if o.isSome then 1 else 0)=frM N m+(if (m k).isSome then 1 else 0):=by
 unfold frM
 rw [bits_upd]
 have:=frees_set (T:=bits N m) (j:=k) (b:=o.isSome) (by rw [bits_len]; exact h)
 rw [bits_tkn h] at this
 exact this
structure Cfg where
 rf:Nat
 rb:Nat
 rt:Nat
 rn:Nat
 rw:Nat
 N:Nat
 root0:Int
 cnt0:Int
 m0:Mem
structure TSt where
 m:Mem
 root:Int
 cnt:Int
def TR (c:Cfg) (G X:RL) (s:TSt) (L:RL):Prop:=∃ T es ck ws wk,T.length=c.N/\L=HD c.rf c.rb c.rt c.rn c.rw T s.root s.cnt c.root0 c.cnt0 es ck ws wk (G++X)/\Pg X T es ck ws wk s.m c.m0
theorem Pg.frees {X:RL} {T:List Bool} {es ws:List MapEntry} {ck wk:Nat} {m m0:Mem} (h:Pg X T es ck ws wk m m0):frees T=frM T.length m:=by
 unfold frM
 rw [← bits_of fun i hi=>h.tk i hi (by simp)]
theorem TR.mem {c:Cfg} {G X:RL} {s:TSt} {L:RL} (h:TR c G X s L):∀ p,p∈X->p∈L:=by
 obtain ⟨T,es,ck,ws,wk,hN,rfl,hp⟩:=h
 exact fun p hp=>by simp [hp]
theorem TR.memG {c:Cfg} {G X:RL} {s:TSt} {L:RL} (h:TR c G X s L):∀ p,p∈G->p∈L:=by
 obtain ⟨T,es,ck,ws,wk,hN,rfl,hp⟩:=h
 exact fun p hp=>by simp [hp]
theorem TR.dom {c:Cfg} {G X:RL} {s:TSt} {L:RL} (h:TR c G X s L):∀ i,s.m i≠none->i < c.N:=by
 obtain ⟨T,es,ck,ws,wk,hN,rfl,hp⟩:=h
 rw [← hN]; exact hp.dom
theorem TR.N {c:Cfg} {G X:RL} {s:TSt} {L:RL} (h:TR c G X s L):c.N<=32768:=by
 obtain ⟨T,es,ck,ws,wk,hN,rfl,hp⟩:=h
 rw [← hN]; exact hp.N
theorem TR.sm {c:Cfg} {G X:RL} {s:TSt} {L:RL} (h:TR c G X s L):∀ i n,s.m i=some n->Sm n:=by
 obtain ⟨T,es,ck,ws,wk,hN,rfl,hp⟩:=h
 exact hp.sm
theorem TR.push {c:Cfg} {G X:RL} {s:TSt} {L:RL} (x:Nat × ARow) (h:TR c G X s L):∃ L',TR c (x::G) X s L'/\Sub L' (x::L):=by
 obtain ⟨T,es,ck,ws,wk,hN,rfl,hp⟩:=h
 exact ⟨_,⟨T,es,ck,ws,wk,hN,rfl,hp⟩,Sub.inQ⟩
theorem Sub.outQ {a b c d e x:Nat × ARow} {Z:RL}:Sub (x::a::b::c::d::e::Z) (a::b::c::d::e::x::Z):=⟨[],by
 have:=List.perm_middle (a:=x) (l₁:=[a,b,c,d,e]) (l₂:=Z)
 simpa using this⟩
theorem TR.pop {c:Cfg} {G X:RL} {s:TSt} {L:RL} {x:Nat × ARow} (h:TR c (x::G) X s L):∃ L',TR c G X s L'/\Sub L' L:=by
 obtain ⟨T,es,ck,ws,wk,hN,rfl,hp⟩:=h
 exact ⟨_,⟨T,es,ck,ws,wk,hN,rfl,hp⟩,Sub.trans Sub.tail Sub.outQ⟩
theorem lay_tr {c:Cfg} {G X:RL} {s:TSt} {L:RL} {no:Nat} {v:Value} {o:Option Nd} (h:TR c G X s L) (hno:no < c.N) (hv:PRep X v o) (so:∀ n,o=some n->Sm n) :
  CS Tryz.prog 60 [ptr c.rt,.int .i64 (no:Nat),v] L fun u L'=>TR c G X ⟨updM s.m no o,s.root,s.cnt⟩ L':=by
 obtain ⟨T,es,ck,ws,wk,hN,rfl,hp⟩:=h
 refine (lay_ct (G:=G) hp (fun i hi=>by simp at hi) (by rw [hN]; exact hno) hv so).mono ?_
 rintro u L' ⟨T',es',ck',ws',wk',hl,_,rfl,hp'⟩
 exact ⟨T',es',ck',ws',wk',by rw [hl,hN],rfl,hp'⟩
theorem add_tr {c:Cfg} {G X:RL} {s:TSt} {L:RL} {n:Nd} {v1 v2 v3:Value} (h:TR c G X s L) (hf:0 < frM c.N s.m) (hP:PN X n v1 v2 v3) (hs:Sm n) :
  CS Tryz.prog 61 [ptr c.rt,ndV n.leaf v1 v2 v3] L fun u L'=>∃ no x,no < c.N/\s.m no=none/\u=.int .i64 (no:Nat)/\TR c G (x::X) ⟨updM s.m no (some n),s.root,s.cnt⟩ L':=by
 obtain ⟨T,es,ck,ws,wk,hN,rfl,hp⟩:=h
 rw [← hN,← hp.frees] at hf
 refine (add_ct (G:=G) hp hf hP hs).mono ?_
 rintro u L' ⟨no,T',es',ck',ws',wk',x,h1,h2,h3,h4,_,rfl,hp'⟩
 exact ⟨no,x,by rw [← hN]; exact h1,h2,h3,T',es',ck',ws',wk',by rw [h4,hN],rfl,hp'⟩
end Go.Proofs.YtlmmddfhoabjfaaGreat
end
section
namespace Go.Proofs.YtlmmddfhoabjfaaGreat
open Go.Am
theorem e_storeS {P:Program} {o:Oper} {a:Slots} {L L₁:RL} (i:Nat) {t:TypeId} {x y:Operand} {r off:Nat} {e:TypeId} {cs cs':List Value} {v:Value} (hs:IsSl v) (ho:o.op=.store t x y) (hx:aev a x=some (.pointer (some ⟨r,off,none⟩))) (hy:aev a y=some v) (hL:L[i]?=some (r,.cells e cs)) (hn:sizeB P t=some 1)
  (hlay:lay cs off [v]=some cs') (hset:setL L i (r,.cells e cs')=some L₁):∀ h,Has h L->∃ h₁,opB P a o h=some (.val undef h₁)/\Has h₁ L₁:=by
 refine e_store i ho hx hy hL hn ?_ ?_ hset
 ·rcases hs with rfl | ⟨r1,o1,n1,c1,rfl⟩ <;> rfl
 ·rcases hs with rfl | ⟨r1,o1,n1,c1,rfl⟩ <;> exact hlay
abbrev zRow:ARow:=ndRow false (.slice none 0 0) (.slice none 0 0) (.slice none 0 0)
theorem tx_app (a b:List Tx):tx (a++b)=tx a++tx b:=by simp [tx]
theorem nums_app (a b:List Int):nums (a++b)=nums a++nums b:=by simp [nums]
set_option maxHeartbeats 2000000 in
theorem joined_ct {X L:RL} {r1 r2:Nat} {l r:Nd} {key:Tx} (hX:∀ p,p∈X->p∈L) (hA:NodeAt X r1 l) (hB:NodeAt X r2 r) (sA:Sm l) (sB:Sm r) :
  CS Tryz.prog 155 [ptr r1,txt key,ptr r2] L fun u L'=>∃ w1 w2 w3 Y1 Y2 Y3,u=ndV l.leaf w1 w2 w3/\L'=Y3++(Y2++(Y1++L))/\GV 9 1 [] w1 (joinN l key r).ks.length (tx (joinN l key r).ks) Y1/\GV 9 1 [] w2 (joinN l key r).vs.length (tx (joinN l key r).vs) Y2/\GV 3 1 [] w3 (joinN l key r).kids.length (nums (joinN l key r).kids) Y3:=by
 suffices g:CS Tryz.prog 155 [ptr r1,txt key,ptr r2] L fun u L'=>∃ x y w1 w2 w3 Y1 Y2 Y3,u=ndV l.leaf w1 w2 w3/\L'=x::y::(Y3++(Y2++(Y1++L)))/\GV 9 1 [] w1 (joinN l key r).ks.length (tx (joinN l key r).ks) Y1/\GV 9 1 [] w2 (joinN l key r).vs.length (tx (joinN l key r).vs) Y2/\GV 3 1 [] w3 (joinN l key r).kids.length (nums (joinN l key r).kids) Y3 by
  exact g.less fun u L' ⟨x,y,w1,w2,w3,Y1,Y2,Y3,h1,h2,h3⟩=>⟨_,by rw [h2]; exact Sub.suffix (X:=[x,y]),w1,w2,w3,Y1,Y2,Y3,h1,rfl,h3⟩
 have e1:=sA.k; have e2:=sA.v; have e3:=sA.z
 have f1:=sB.k; have f2:=sB.v; have f3:=sB.z
 obtain ⟨v1,v2,v3,hr,hP⟩:=hB
 have NB:=hP.nv sB hX
 have m2:=hX _ hr
 refine CS.mk (fn:=Tryz.f155) rfl rfl rfl rfl ?_
 repeat refine xQ ?_
 refine xG rfl ?_
 refine OS.fresh rfl (e_new (fun _=>rfl) rfl) (fun _=>rfl) (fun r6=>?_)
 refine xN ?_
 have m2a:=List.mem_cons_of_mem (r6,zRow) m2
 repeat refine xQ ?_
 refine xG rfl ?_
 refine xP rfl rh rfl ?_
 refine xA noGo rfl (fun _=>rfl) ((copied_ct (X:=X) (fun p hp=>List.mem_cons_of_mem _ (hX p hp)) hA sA).mono ?_)
 rintro u L' ⟨w1,w2,w3,Y1,Y2,Y3,rfl,rfl,g1,g2,g3⟩
 refine ⟨_,rfl,?_⟩
 refine OS.fresh rfl (e_new (fun _=>rfl) rfl) (fun _=>rfl) (fun r7=>?_)
 have s1:=isSl g1.sv
 have s2:=isSl g2.sv
 have s3:=isSl g3.sv
 refine OS.write rfl (e_store 0 (n:=4) rfl rfl rfl rfl rfl (nd_one s1 s2 s3) rfl rfl) rfl ?_
 refine OS.sub (Sub.sums (A:=(r7,ndRow l.leaf w1 w2 w3)::(r6,zRow)::(Y1++(Y2++(Y3++L)))) (B:=(r7,ndRow l.leaf w1 w2 w3)::(Y3++(Y2++(Y1++(r6,zRow)::L)))) fun f=>by simp []<;>omega) ?_
 refine xN ?_
 repeat refine xQ ?_
 refine xG rfl ?_
 refine xP rfl rh rfl ?_
 refine xR rfl (e_load 0 rfl rfl rfl rfl rfl) rfl ?_
 refine xP rfl rh rfl ?_
 refine xN ?_
 repeat refine xQ ?_
 refine LS.mid [0,1,2,6,7] (fun a L'=>∃ w1 Y1,GV 9 1 [] w1 (if l.leaf then l.ks else l.ks++[key]).length (tx (if l.leaf then l.ks else l.ks++[key])) Y1/\L'=(r7,ndRow l.leaf w1 w2 w3)::(r6,zRow)::(Y1++(Y2++(Y3++L)))/\a=[ptr r1,txt key,ptr r2,jn,jn,jn,ptr r6,ptr r7,jn,jn,jn,jn,jn,jn,jn,jn,jn,jn,jn,jn,jn,jn,jn,jn,jn,jn,jn,jn,jn,jn,jn,jn,jn,jn,jn,jn,jn,jn,jn,jn,jn,jn,jn,jn]) ?_ ?_
 ·cases hl:l.leaf with
  | true =>
   refine xC rfl (fun hc=>by cases hc) (fun hc=>?_)
   refine LS.skip ?_
   exact ⟨w1,Y1,by rw [if_pos rfl]; exact g1,rfl,rfl⟩
  | false =>
   refine xC rfl (fun hc=>?_) (fun hc=>by cases hc)
   repeat refine xQ ?_
   refine xG rfl ?_
   refine xP rfl rh rfl ?_
   refine xR rfl (e_load 0 rfl rfl rfl rfl rfl) rfl ?_
   refine xP rfl rh rfl ?_
   refine OS.fresh rfl (e_new (fun _=>rfl) rfl) (fun _=>rfl) (fun rk=>?_)
   refine OS.turns rfl (e_appendGA [_,_,_] (Y2++(Y3++L)) (e:=9) (sz:=1) (bts:=16) (m:=1) (new:=tx [key]) g1 (SV.row (sz:=1) (n:=1) (List.mem_cons_self ..) rfl) rfl rfl rfl rfl (by omega) (by omega)) (fun u L₁ hR=>?_)
   obtain ⟨Y',g',rfl⟩:=hR
   refine ⟨_,rfl,?_⟩
   refine xP rfl rh rfl ?_
   refine OS.sub (Sub.sums2 ([(rk,.cells 9 [txt key])]) (A:=(r7,ndRow false w1 w2 w3)::(r6,zRow)::(Y'++(Y2++(Y3++L)))) (B:=Y'++((rk,.cells 9 [txt key])::(r7,ndRow false w1 w2 w3)::(r6,zRow)::(Y2++(Y3++L)))) fun f=>by simp []<;>omega) ?_
   refine OS.write rfl (e_storeS 0 (isSl g'.sv) rfl rfl rfl rfl rfl rfl rfl) rfl ?_
   refine xN ?_
   exact ⟨u,Y',by rw [if_neg (by decide),tx_app,List.length_append]; exact g',rfl,rfl⟩
 clear s1 g1
 rintro a L' ⟨w1,Y1,g1,rfl,rfl⟩
 have hK:(joinN l key r).ks=(if l.leaf then l.ks else l.ks++[key])++r.ks:=rfl
 have hV:(joinN l key r).vs=l.vs++r.vs:=rfl
 have hZ:(joinN l key r).kids=l.kids++r.kids:=rfl
 have hlen:(if l.leaf then l.ks else l.ks++[key]).length<=2001:=by split <;> (try simp only [List.length_append,List.length_cons,List.length_nil]) <;> omega
 generalize (if l.leaf then l.ks else l.ks++[key])=K1 at g1 hK hlen ⊢
 have hm:∀ (A:RL) (p:Nat × ARow),p∈L->p∈(r7,ndRow l.leaf w1 w2 w3)::(r6,zRow)::(Y1++(Y2++(Y3++L))):=fun A p hp=>by simp [hp]
 repeat refine xQ ?_
 refine LS.drawn noGo mixed [(0,false),(1,false),(2,false),(3,false),(4,false),(5,false),(6,true),(7,false),(8,true)] rfl rfl (by kernel_rfl) ?_
 refine xD rfl rfl rh rfl ?_
 refine xE rfl rfl (e_load 0 rfl rfl rfl rfl rfl) rfl ?_
 iterate 3 refine xD rfl rfl rh rfl ?_
 refine xE rfl rfl (e_loadm (hm [] _ m2) rfl rfl rfl rfl) rfl ?_
 refine ODS.turns rfl rfl (e_appendGA [_,_] (Y2++(Y3++L)) (e:=9) (sz:=1) (bts:=16) g1 (NB.k.mono (hm [])) (tx_one _) rfl rfl rfl (by omega) (by omega)) (fun u1 L₁ hR=>?_)
 obtain ⟨Y1',g1',rfl⟩:=hR
 refine ⟨_,rfl,(by repeat (first | exact Keep.nil | refine Keep.gone rfl ?_)),?_⟩
 refine ODS.sub (Sub.sums (A:=(r7,ndRow l.leaf w1 w2 w3)::(r6,zRow)::(Y2++(Y1'++(Y3++L)))) (B:=Y1'++((r7,ndRow l.leaf w1 w2 w3)::(r6,zRow)::(Y2++(Y3++L)))) fun f=>by simp []<;>omega) ?_
 refine xD rfl rfl rh rfl ?_
 refine ODS.write rfl rfl (e_storeS 0 (isSl g1'.sv) rfl rfl rfl rfl rfl rfl rfl) rfl (by repeat (first | exact Keep.nil | refine Keep.gone rfl ?_)) ?_
 refine xM ?_
 have hm2:∀ p,p∈L->p∈(r7,ndRow l.leaf u1 w2 w3)::(r6,zRow)::(Y2++(Y1'++(Y3++L))):=fun p hp=>by simp [hp]
 repeat refine xQ ?_
 refine LS.drawn noGo mixed [(0,false),(1,false),(2,false),(3,false),(4,false),(5,false),(6,true),(7,false),(8,true)] rfl rfl (by kernel_rfl) ?_
 refine xD rfl rfl rh rfl ?_
 refine xE rfl rfl (e_load 0 rfl rfl rfl rfl rfl) rfl ?_
 iterate 3 refine xD rfl rfl rh rfl ?_
 refine xE rfl rfl (e_loadm (hm2 _ m2) rfl rfl rfl rfl) rfl ?_
 refine ODS.turns rfl rfl (e_appendGA [_,_] (Y1'++(Y3++L)) (e:=9) (sz:=1) (bts:=16) g2 (NB.v.mono hm2) (tx_one _) rfl rfl rfl (by omega) (by omega)) (fun u2 L₁ hR=>?_)
 obtain ⟨Y2',g2',rfl⟩:=hR
 refine ⟨_,rfl,(by repeat (first | exact Keep.nil | refine Keep.gone rfl ?_)),?_⟩
 refine ODS.sub (Sub.sums (A:=(r7,ndRow l.leaf u1 w2 w3)::(r6,zRow)::(Y3++(Y2'++(Y1'++L)))) (B:=Y2'++((r7,ndRow l.leaf u1 w2 w3)::(r6,zRow)::(Y1'++(Y3++L)))) fun f=>by simp []<;>omega) ?_
 refine xD rfl rfl rh rfl ?_
 refine ODS.write rfl rfl (e_storeS 0 (isSl g2'.sv) rfl rfl rfl rfl rfl rfl rfl) rfl (by repeat (first | exact Keep.nil | refine Keep.gone rfl ?_)) ?_
 refine xM ?_
 have hm3:∀ p,p∈L->p∈(r7,ndRow l.leaf u1 u2 w3)::(r6,zRow)::(Y3++(Y2'++(Y1'++L))):=fun p hp=>by simp [hp]
 repeat refine xQ ?_
 refine LS.drawn noGo mixed [(0,false),(1,false),(2,false),(3,false),(4,false),(5,false),(6,true),(7,false),(8,true)] rfl rfl (by kernel_rfl) ?_
 refine xD rfl rfl rh rfl ?_
 refine xE rfl rfl (e_load 0 rfl rfl rfl rfl rfl) rfl ?_
 iterate 3 refine xD rfl rfl rh rfl ?_
 refine xE rfl rfl (e_loadm (hm3 _ m2) rfl rfl rfl rfl) rfl ?_
 refine ODS.turns rfl rfl (e_appendGA [_,_] (Y2'++(Y1'++L)) (e:=3) (sz:=1) (bts:=8) g3 (NB.z.mono hm3) (nums_one _) rfl rfl rfl (by omega) (by omega)) (fun u3 L₁ hR=>?_)
 obtain ⟨Y3',g3',rfl⟩:=hR
 refine ⟨_,rfl,(by repeat (first | exact Keep.nil | refine Keep.gone rfl ?_)),?_⟩
 refine ODS.sub (Sub.sums (A:=(r7,ndRow l.leaf u1 u2 w3)::(r6,zRow)::(Y3'++(Y2'++(Y1'++L)))) (B:=Y3'++((r7,ndRow l.leaf u1 u2 w3)::(r6,zRow)::(Y2'++(Y1'++L)))) fun f=>by simp []<;>omega) ?_
 refine xD rfl rfl rh rfl ?_
 refine ODS.write rfl rfl (e_storeS 0 (isSl g3'.sv) rfl rfl rfl rfl rfl rfl rfl) rfl (by repeat (first | exact Keep.nil | refine Keep.gone rfl ?_)) ?_
 refine xM ?_
 repeat refine xQ ?_
 refine xG rfl ?_
 refine xR rfl (e_load 0 rfl rfl rfl rfl rfl) rfl ?_
 refine OS.write rfl (e_store 1 (n:=4) rfl rfl rfl rfl rfl (nd_one (isSl g1'.sv) (isSl g2'.sv) (isSl g3'.sv)) rfl rfl) rfl ?_
 refine xN ?_
 refine xT ⟨_,res_cell (x:=6) 1 rfl rfl rfl rfl,?_⟩
 exact ⟨_,_,u1,u2,u3,Y1',Y2',Y3',rfl,rfl,by rw [hK,tx_app,List.length_append]; exact g1',by rw [hV,tx_app,List.length_append]; exact g2',by rw [hZ,nums_app,List.length_append]; exact g3'⟩
end Go.Proofs.YtlmmddfhoabjfaaGreat
end
section
namespace Go.Am
section
variable {P:Program} {o:Oper} {a:Slots} {L:RL}
theorem e_max {c:Call} {k:IntKind} {x y:Int} (ho:o.op=.call c) (hc:c.callee=.builtin .max) (ha:evs a c.args.toList=some [.int k x,.int k y]):∀ h,opB P a o h=some (.val (.int k (max x y)) h):=by
 intro h
 by_cases hxy:y<=x
 ·have:ileB y x=true:=ileB_iff.2 hxy
  simp only [opB,ho,ha,callOpB,hc,minB,if_true,this,ret]
  rw [show max x y=x by omega]
 ·have:ileB y x=false:=by rw [ileB_eq]; simpa using hxy
  simp only [opB,ho,ha,callOpB,hc,minB,if_true,this,ret]
  rw [show max x y=y by omega]
theorem ODS.nodup {ops:List Oper} {ms:List Nat} {sched:List (Nat × Bool)} {dn:Dn} {K:Slots->RL->Prop} (k:(L.map (·.1)).Nodup->ODS P ops ms K sched dn a L):ODS P ops ms K sched dn a L:=fun h H=>k H.nd h H
theorem LS.nodup {rd:Option Nat} {c:Code} {R:AExit->Slots->RL->Prop} (k:(L.map (·.1)).Nodup->LSr rd P c a L R):LSr rd P c a L R:=fun h H=>k H.nd h H
end
end Go.Am
namespace Go.Proofs.YtlmmddfhoabjfaaGreat
open Go.Am
theorem row_one {L:RL} (hn:(L.map (·.1)).Nodup) {r:Nat} {x y:ARow} (hx:(r,x)∈L) (hy:(r,y)∈L):x=y:=by
 have:=inj_map hn hx hy rfl
 exact (Prod.mk.inj this).2
theorem isEmpty_ct {X L:RL} {r:Nat} {n:Nd} (hX:∀ p,p∈X->p∈L) (hN:NodeAt X r n) (hs:Sm n) :
  CS Tryz.prog 132 [ptr r] L fun u L'=>u=.bool (decide (n.vs=[]/\n.kids=[]))/\L'=L:=by
 obtain ⟨v1,v2,v3,hr,hP⟩:=hN
 have N1:=hP.nv hs hX
 have m1:=hX _ hr
 refine CS.mk (fn:=Tryz.f132) rfl rfl rfl rfl ?_
 repeat refine xQ ?_
 refine xG rfl ?_
 refine xP rfl rh rfl ?_
 refine xN ?_
 repeat refine xQ ?_
 refine xG rfl ?_
 iterate 3 refine xP rfl rh rfl ?_
 refine xR rfl (e_loadm m1 rfl rfl rfl rfl) rfl ?_
 refine xP rfl (e_len N1.v rfl rfl rfl rfl rfl) rfl ?_
 refine xP rfl (e_ib rh ((ieqN (m:=n.vs.length) (n:=0)))) rfl ?_
 by_cases h1:n.vs.length=0
 ·rw [decide_eq_true h1]
  iterate 4 refine xP rfl rh rfl ?_
  refine xR rfl (e_loadm m1 rfl rfl rfl rfl) rfl ?_
  refine xP rfl (e_len N1.z rfl rfl rfl rfl rfl) rfl ?_
  refine xP rfl (e_ib rh ((ieqN (m:=n.kids.length) (n:=0)))) rfl ?_
  iterate 2 refine xP rfl rh rfl ?_
  refine xN ?_
  refine xT ⟨_,fun _ _=>rfl,?_⟩
  have h2:n.vs=[]:=List.eq_nil_of_length_eq_zero h1
  exact ⟨congrArg Value.bool (by simp [h2]),rfl⟩
 ·rw [decide_eq_false h1]
  refine xP rfl rh rfl ?_
  iterate 6 refine xK rfl rfl ?_
  iterate 2 refine xP rfl rh rfl ?_
  refine xN ?_
  refine xT ⟨_,fun _ _=>rfl,?_⟩
  have h2:n.vs≠[]:=fun hh=>h1 (by rw [hh]; rfl)
  exact ⟨congrArg Value.bool (by simp [h2]),rfl⟩
def dropN (n:Nd) (i:Nat):Nd:=⟨n.leaf,n.ks.eraseIdx (i - 1),n.vs,n.kids.eraseIdx i⟩
theorem dropKid_ct {F Y1 Y3:RL} {rc i:Nat} {lf:Bool} {w1 w2 w3:Value} {ks:List Tx} {kids:List Int} (s2:IsSl w2) (g1:GV 9 1 [] w1 ks.length (tx ks) Y1) (g3:GV 3 1 [] w3 kids.length (nums kids) Y3) (hi:i < kids.length) (hk:ks=[]∨i - 1 < ks.length) (n1:ks.length<=100000) (n3:kids.length<=100000) :
  CS Tryz.prog 141 [ptr rc,.int .i64 (i:Nat)] ((rc,ndRow lf w1 w2 w3)::(Y1++(Y3++F))) fun _ L'=>∃ w1' w3' Y1' Y3',L'=(rc,ndRow lf w1' w2 w3')::(Y1'++(Y3'++F))/\OL 9 1 w1' (ks.eraseIdx (i - 1)).length (tx (ks.eraseIdx (i - 1))) Y1'/\OL 3 1 w3' (kids.eraseIdx i).length (nums (kids.eraseIdx i)) Y3':=by
 have er3:(nums kids).eraseIdx i=nums (kids.eraseIdx i):=erase_map
 have er1:(tx ks).eraseIdx (i - 1)=tx (ks.eraseIdx (i - 1)):=erase_map
 refine CS.mk (fn:=Tryz.f141) rfl rfl rfl rfl ?_
 repeat refine xQ ?_
 refine xG rfl ?_
 iterate 4 refine xP rfl rh rfl ?_
 refine xR rfl (e_load 0 rfl rfl rfl rfl rfl) rfl ?_
 iterate 2 refine xP rfl rh rfl ?_
 refine xP rfl (e_addN (n:=1) rfl rfl rfl (in_i64 (by omega) (by omega))) rfl ?_
 refine OS.sub (Sub.sums (A:=Y3++((rc,ndRow lf w1 w2 w3)::(Y1++F))) (B:=(rc,ndRow lf w1 w2 w3)::(Y1++(Y3++F))) fun f=>by simp []<;>omega) ?_
 refine xA noGo rfl (fun _=>rfl) ((DeleteZ_ct g3 hi (by omega) (nums_one _)).mono ?_)
 rintro u3 L' ⟨Y3',rfl,o3⟩
 refine ⟨_,rfl,?_⟩
 refine OS.sub (Sub.sums (A:=(rc,ndRow lf w1 w2 w3)::(Y1++(Y3'++F))) (B:=Y3'++((rc,ndRow lf w1 w2 w3)::(Y1++F))) fun f=>by simp []<;>omega) ?_
 have o3':OL 3 1 u3 (kids.eraseIdx i).length (nums (kids.eraseIdx i)) Y3':=by
  rw [List.length_eraseIdx,if_pos hi,← er3]
  exact o3.ol
 iterate 2 refine xP rfl rh rfl ?_
 refine OS.write rfl (e_storeS 0 (isSl o3'.sv) rfl rfl rfl rfl rfl rfl rfl) rfl ?_
 refine xN ?_
 repeat refine xQ ?_
 refine xG rfl ?_
 iterate 3 refine xP rfl rh rfl ?_
 refine xR rfl (e_load 0 rfl rfl rfl rfl rfl) rfl ?_
 refine xP rfl (e_len g1.sv rfl rfl rfl rfl rfl) rfl ?_
 rcases Nat.eq_zero_or_pos ks.length with h0 | h0
 ·have hb:(!ileB (ks.length:Nat) 0)=false:=by rw [h0]; rfl
  refine xP rfl (e_ib rh (hb)) rfl ?_
  refine xN ?_
  repeat refine xQ ?_
  refine xC rfl (fun hc=>?_) (fun hc=>?_)
  ·cases hc
  refine LS.skip ?_
  have h1:ks=[]:=List.eq_nil_of_length_eq_zero h0
  subst h1
  exact ⟨_,fun _ _=>rfl,w1,u3,Y1,Y3',rfl,g1.ol (by decide),o3'⟩
 ·have hb:(!ileB (ks.length:Nat) 0)=true:=by rw [ileB_eq,decide_eq_false (by omega)]; rfl
  have hi1:i - 1 < ks.length:=by
   rcases hk with h | h
   ·rw [h] at h0; simp at h0
   ·exact h
  refine xP rfl (e_ib rh (hb)) rfl ?_
  refine xN ?_
  repeat refine xQ ?_
  refine xC rfl (fun hc=>?_) (fun hc=>?_)
  ·repeat refine xQ ?_
   refine xG rfl ?_
   refine xP rfl rh rfl ?_
   refine xP rfl (e_sub (n:=1) rfl rfl rfl (in_i64 (by omega) (by omega))) rfl ?_
   refine xP rfl (e_is (e_max rfl rfl rfl) (congrArg (Value.int .i64) (show max ((i:Nat) - 1:Int) 0=((i - 1:Nat):Int) by omega))) rfl ?_
   refine xP rfl rh rfl ?_
   refine xN ?_
   repeat refine xQ ?_
   refine xG rfl ?_
   iterate 4 refine xP rfl rh rfl ?_
   refine xR rfl (e_load 0 rfl rfl rfl rfl rfl) rfl ?_
   iterate 2 refine xP rfl rh rfl ?_
   refine xP rfl (e_addN (n:=1) rfl rfl rfl (in_i64 (by omega) (by omega))) rfl ?_
   refine OS.sub (Sub.sums (A:=Y1++((rc,ndRow lf w1 w2 u3)::(Y3'++F))) (B:=(rc,ndRow lf w1 w2 u3)::(Y1++(Y3'++F))) fun f=>by simp []<;>omega) ?_
   refine xA noGo rfl (fun _=>rfl) ((DeleteS_ct g1 hi1 (by omega) (tx_one _)).mono ?_)
   rintro u1 L' ⟨Y1',rfl,o1⟩
   refine ⟨_,rfl,?_⟩
   refine OS.sub (Sub.sums (A:=(rc,ndRow lf w1 w2 u3)::(Y1'++(Y3'++F))) (B:=Y1'++((rc,ndRow lf w1 w2 u3)::(Y3'++F))) fun f=>by simp []<;>omega) ?_
   have o1':OL 9 1 u1 (ks.eraseIdx (i - 1)).length (tx (ks.eraseIdx (i - 1))) Y1':=by
    rw [List.length_eraseIdx,if_pos hi1,← er1]
    exact o1.ol
   iterate 2 refine xP rfl rh rfl ?_
   refine OS.write rfl (e_storeS 0 (isSl o1'.sv) rfl rfl rfl rfl rfl rfl rfl) rfl ?_
   refine xN ?_
   exact ⟨_,fun _ _=>rfl,u1,u3,Y1',Y3',rfl,o1',o3'⟩
  ·cases hc
abbrev iRow (z:Int):ARow:=.cells 3 [.int .i64 z]
def Chn (c:Cfg) (G X:RL) (root cnt cnt':Int) (f:Nat) (caps:List Value) (n n':Nd):Prop :=
 ∀ rc w1 w2 w3 Y1 Y2 Y3 T es ck ws wk,GV 9 1 [] w1 n.ks.length (tx n.ks) Y1->GV 9 1 [] w2 n.vs.length (tx n.vs) Y2->GV 3 1 [] w3 n.kids.length (nums n.kids) Y3 →
  CS Tryz.prog f (ptr rc::caps) ((rc,ndRow n.leaf w1 w2 w3)::HD c.rf c.rb c.rt c.rn c.rw T root cnt c.root0 c.cnt0 es ck ws wk (Y3++(Y2++(Y1++(G++X))))) fun _ L'=>∃ w1' w2' w3' Z,L'=(rc,ndRow n'.leaf w1' w2' w3')::HD c.rf c.rb c.rt c.rn c.rw T root cnt' c.root0 c.cnt0 es ck ws wk (Z++(G++X))/\PN Z n' w1' w2' w3'
theorem change_tr {c:Cfg} {G X:RL} {s:TSt} {L:RL} {no f:Nat} {caps:List Value} {n n':Nd} {cnt':Int} (h:TR c G X s L) (hm:s.m no=some n) (hs':Sm n') (hf:Chn c G X s.root s.cnt cnt' f caps n n') :
  CS Tryz.prog 64 [ptr c.rt,.int .i64 (no:Nat),.func (.func f) #[] caps.toArray] L fun u L'=>∃ X',(∀ p,p∈X->p∈X')/\TR c G X' ⟨updM s.m no (some n'),s.root,cnt'⟩ L':=by
 obtain ⟨T,es,ck,ws,wk,hN,rfl,hp⟩:=h
 refine (change_ct (G:=G) (cnt':=cnt') hp hm hs' fun rc w1 w2 w3 Y1 Y2 Y3 g1 g2 g3=>hf rc w1 w2 w3 Y1 Y2 Y3 T es ck ws wk g1 g2 g3).mono ?_
 rintro u L' ⟨T',es',ck',ws',wk',X',hX,hl,_,rfl,hp'⟩
 exact ⟨X',hX,T',es',ck',ws',wk',by rw [hl,hN],rfl,hp'⟩
theorem drop_chn {c:Cfg} {G X:RL} {root cnt:Int} {r5 i:Nat} {n:Nd} (hG:(r5,iRow (i:Nat))∈G) (hs:Sm n) (hi:i < n.kids.length) (hk:n.ks=[]∨i - 1 < n.ks.length):Chn c G X root cnt cnt 140 [ptr r5] n (dropN n i):=by
 intro rc w1 w2 w3 Y1 Y2 Y3 T es ck ws wk g1 g2 g3
 have e1:=hs.k; have e2:=hs.v; have e3:=hs.z
 obtain ⟨lf,ks,vs,kids⟩:=n
 simp only at g1 g2 g3 hi hk e1 e2 e3 ⊢
 refine CS.mk (fn:=Tryz.f140) rfl rfl rfl rfl ?_
 repeat refine xQ ?_
 refine xG rfl ?_
 refine xP rfl rh rfl ?_
 refine xR rfl (e_loadm (r:=r5) (row:=iRow (i:Nat)) (by simp [hG]) rfl rfl rfl rfl) rfl ?_
 refine OS.sub (Sub.sums (A:=(rc,ndRow lf w1 w2 w3)::(Y1++(Y3++HD c.rf c.rb c.rt c.rn c.rw T root cnt c.root0 c.cnt0 es ck ws wk (Y2++(G++X))))) (B:=(rc,ndRow lf w1 w2 w3)::HD c.rf c.rb c.rt c.rn c.rw T root cnt c.root0 c.cnt0 es ck ws wk (Y3++(Y2++(Y1++(G++X))))) fun f=>by simp [HD,fm]<;>omega) ?_
 refine xA noGo rfl (fun _=>rfl) ((dropKid_ct (isSl g2.sv) g1 g3 hi hk (by omega) (by omega)).mono ?_)
 rintro u L' ⟨w1',w3',Y1',Y3',rfl,o1,o3⟩
 refine ⟨_,rfl,?_⟩
 refine OS.sub (Sub.sums (A:=(rc,ndRow lf w1' w2 w3')::HD c.rf c.rb c.rt c.rn c.rw T root cnt c.root0 c.cnt0 es ck ws wk ((Y3'++(Y2++Y1'))++(G++X))) (B:=(rc,ndRow lf w1' w2 w3')::(Y1'++(Y3'++HD c.rf c.rb c.rt c.rn c.rw T root cnt c.root0 c.cnt0 es ck ws wk (Y2++(G++X))))) fun f=>by simp [HD,fm]<;>omega) ?_
 refine xN ?_
 exact ⟨_,fun _ _=>rfl,w1',w2,w3',Y3'++(Y2++Y1'),rfl,⟨o1.pl.mono (fun p hp=>by simp [hp]),(g2.ol (show vs.length<=openCap by unfold openCap; omega)).pl.mono (fun p hp=>by simp [hp]),o3.pl.mono (fun p hp=>by simp [hp])⟩⟩
theorem drop1_chn {c:Cfg} {G X:RL} {root cnt:Int} {r5 i:Nat} {n:Nd} (hG:(r5,iRow (i:Nat))∈G) (hs:Sm n) (hi:i+1 < n.kids.length) (hk:i < n.ks.length):Chn c G X root cnt cnt 157 [ptr r5] n (dropN n (i+1)):=by
 intro rc w1 w2 w3 Y1 Y2 Y3 T es ck ws wk g1 g2 g3
 have e1:=hs.k; have e2:=hs.v; have e3:=hs.z
 obtain ⟨lf,ks,vs,kids⟩:=n
 simp only at g1 g2 g3 hi hk e1 e2 e3 ⊢
 refine CS.mk (fn:=Tryz.f157) rfl rfl rfl rfl ?_
 repeat refine xQ ?_
 refine xG rfl ?_
 refine xP rfl rh rfl ?_
 refine xR rfl (e_loadm (r:=r5) (row:=iRow (i:Nat)) (by simp [hG]) rfl rfl rfl rfl) rfl ?_
 refine xP rfl (e_addN (n:=1) rfl rfl rfl (in_i64 (by omega) (by omega))) rfl ?_
 refine OS.sub (Sub.sums (A:=(rc,ndRow lf w1 w2 w3)::(Y1++(Y3++HD c.rf c.rb c.rt c.rn c.rw T root cnt c.root0 c.cnt0 es ck ws wk (Y2++(G++X))))) (B:=(rc,ndRow lf w1 w2 w3)::HD c.rf c.rb c.rt c.rn c.rw T root cnt c.root0 c.cnt0 es ck ws wk (Y3++(Y2++(Y1++(G++X))))) fun f=>by simp [HD,fm]<;>omega) ?_
 refine xA noGo rfl (fun _=>rfl) ((dropKid_ct (isSl g2.sv) g1 g3 hi (.inr (by omega)) (by omega) (by omega)).mono ?_)
 rintro u L' ⟨w1',w3',Y1',Y3',rfl,o1,o3⟩
 refine ⟨_,rfl,?_⟩
 refine OS.sub (Sub.sums (A:=(rc,ndRow lf w1' w2 w3')::HD c.rf c.rb c.rt c.rn c.rw T root cnt c.root0 c.cnt0 es ck ws wk ((Y3'++(Y2++Y1'))++(G++X))) (B:=(rc,ndRow lf w1' w2 w3')::(Y1'++(Y3'++HD c.rf c.rb c.rt c.rn c.rw T root cnt c.root0 c.cnt0 es ck ws wk (Y2++(G++X))))) fun f=>by simp [HD,fm]<;>omega) ?_
 refine xN ?_
 exact ⟨_,fun _ _=>rfl,w1',w2,w3',Y3'++(Y2++Y1'),rfl,⟨o1.pl.mono (fun p hp=>by simp [hp]),(g2.ol (show vs.length<=openCap by unfold openCap; omega)).pl.mono (fun p hp=>by simp [hp]),o3.pl.mono (fun p hp=>by simp [hp])⟩⟩
end Go.Proofs.YtlmmddfhoabjfaaGreat
end
section
namespace Go.Am
section
variable {P:Program} {ops:List Oper} {ms:List Nat} {K:Slots->RL->Prop} {n:Nat} {pre:List Nat} {dn:Dn} {a a₁:Slots} {L L₁:RL} {o:Oper} {v:Value} {x y:Operand}
theorem OGS.at1 {t e:TypeId} {i:Operand} {m j:Nat} {k:IntKind} {u:Value} {cs:List Value} (q:Nat) (hn:nextB ops ms pre q=true) (hs:SV 1 L v m cs) (hu:cs[j]?=some u) (hq:ops[q]?=some o) (hw:wantedB ops o a=true) (ho:o.op=.indexAddr t x i) (hx:aev a x=some v) (hi:aev a i=some (.int k (j:Int)))
  (ht:P.underlying t=some (.slice e)) (hz:sizeB P e=some 1) (hk:∀ r off row cs₀,(r,row)∈L->rdRow row=some cs₀->cs₀[off]?=some u →
   ∃ a₁,putAt a o.dst (.pointer (some ⟨r,off,none⟩))=some a₁/\OGS P ops ms K n (q::pre) dn a₁ L):OGS P ops ms K (n+1) pre dn a L:=by
 obtain ⟨r,off,row,cs₀,h1,h2,h3,h4,h5⟩:=e_at hs (by have:=(List.getElem?_eq_some_iff.1 hu).1; have:=hs.len; omega) ho hx hi ht hz
 obtain ⟨a₁,ep,k'⟩:=hk r off row cs₀ h1 h2 (h3 0 u (by omega) (by rw [Nat.mul_one]; exact hu))
 exact OGS.pure q hn hq hw h5 ep k'
end
end Go.Am
namespace Go.Proofs.YtlmmddfhoabjfaaGreat
open Go.Am
def NJ {h:Nat} (ks:List Tx) (ts:List (Tr h)) (i:Int):Prop:=∀ A k B L a b R,ks=A++k::B->ts=L++a::b::R->A.length=L.length->(L.length:Int)=i->fitsN (joinN (nd h a) k (nd h b))=false
theorem NJ.neg {h:Nat} {ks:List Tx} {ts:List (Tr h)} {i:Int} (hi:i < 0):NJ ks ts i:=fun A k B L a b R _ _ _ h4=>by omega
theorem NJ.far {h:Nat} {ks:List Tx} {ts:List (Tr h)} {i:Int} (hi:(ts.length:Int)<=i+1):NJ ks ts i:=fun A k B L a b R _ h2 _ h4=>by
 rw [h2] at hi
 simp only [List.length_append,List.length_cons] at hi
 omega
theorem NJ.at {h:Nat} {A B:List Tx} {k:Tx} {L R:List (Tr h)} {a b:Tr h} (hl:A.length=L.length) (hf:fitsN (joinN (nd h a) k (nd h b))=false):NJ (A++k::B) (L++a::b::R) (L.length:Nat):=fun A' k' B' L' a' b' R' h1 h2 h3 h4=>by
 have e1:L.length=L'.length:=by omega
 obtain ⟨e2,e3⟩:=List.append_inj h2 e1
 obtain ⟨e4,e5⟩:=List.append_inj h1 (by omega)
 simp only [List.cons.injEq] at e3 e5
 obtain ⟨rfl,rfl,rfl⟩:=e3
 obtain ⟨rfl,rfl⟩:=e5
 exact hf
theorem NJ.get {h:Nat} {A B:List Tx} {k:Tx} {L R:List (Tr h)} {a b:Tr h} {i:Int} (hj:NJ (A++k::B) (L++a::b::R) i) (hl:A.length=L.length) (hi:(L.length:Int)=i):fitsN (joinN (nd h a) k (nd h b))=false:=hj A k B L a b R rfl rfl hl hi
def Tdy:(h:Nat)->Tr h->Prop
 | 0,_=>True
 | h+1,t=>(∀ i,NJ (Inn.ks t) (Inn.ts t) i)/\∀ s∈Inn.ts t,Tdy h s
theorem tdy_inn {h p:Nat} {ks:List Tx} {ts:List (Tr h)}:Tdy (h+1) (inn p ks ts)↔(∀ i,NJ ks ts i)/\∀ s∈ts,Tdy h s:=Iff.rfl
theorem split2 {h:Nat} {ks:List Tx} {ts:List (Tr h)} {j:Nat} (hl:ts.length=ks.length+1) (hj:j+1 < ts.length):∃ A k B L a b R,ks=A++k::B/\ts=L++a::b::R/\A.length=j/\L.length=j:=by
 refine ⟨ks.take j,ks[j]'(by omega),ks.drop (j+1),ts.take j,ts[j]'(by omega),ts[j+1]'(by omega),ts.drop (j+2),?_,?_,by simp; omega,by simp; omega⟩
 ·simp
 ·simp
theorem split1 {h:Nat} {ks:List Tx} {ts:List (Tr h)} {j:Nat} (hl:ts.length=ks.length+1) (hj:j < ts.length):∃ A B L a R,ks=A++B/\ts=L++a::R/\A.length=j/\L.length=j :=
 ⟨ks.take j,ks.drop j,ts.take j,ts[j]'(by omega),ts.drop (j+1),by simp,by simp,by simp; omega,by simp; omega⟩
structure Loc (m:Mem) {h:Nat} (p:Nat) (ks:List Tx) (ts:List (Tr h)):Prop where
 rep:RepT m (h+1) (inn p ks ts)
 nod:(pgs (h+1) (inn p ks ts)).Nodup
 ok:∀ s∈ts,Okt h s
 len:Bg ⟨false,ks,[],nos ts⟩∨(ks=[]/\ts=[])
theorem Loc.top {m:Mem} {h p:Nat} {ks:List Tx} {ts:List (Tr h)} (l:Loc m p ks ts):m p=some ⟨false,ks,[],nos ts⟩:=l.rep.top
theorem Loc.bg {m:Mem} {h p:Nat} {ks:List Tx} {ts:List (Tr h)} (l:Loc m p ks ts) (ht:ts≠[]):Bg ⟨false,ks,[],nos ts⟩:=by
 rcases l.len with h1 | h1
 ·exact h1
 ·exact absurd h1.2 ht
theorem bg_len {h:Nat} {ks:List Tx} {ts:List (Tr h)} (hb:Bg ⟨false,ks,[],nos ts⟩):ts.length=ks.length+1:=by
 have:=(may_kids hb.may rfl).1
 simpa [nos] using this
theorem Loc.kid {m:Mem} {h p:Nat} {ks:List Tx} {ts:List (Tr h)} (l:Loc m p ks ts) {s:Tr h} (hs:s∈ts):m (no h s)=some (nd h s):=((rep_inn.1 l.rep).2 s hs).top
theorem join_Less {h p:Nat} {A B:List Tx} {k:Tx} {L R:List (Tr h)} {a b w:Tr h} (hl:A.length=L.length) (hw:no h w=no h a):Less ⟨false,A++k::B,[],nos (L++a::b::R)⟩ ⟨false,A++B,[],nos (L++w::R)⟩:=by
 have h1:=without_Less (n:=⟨false,A++k::B,[],nos (L++a::b::R)⟩) (i:=A.length) (by simp)
 have h2:withoutN ⟨false,A++k::B,[],nos (L++a::b::R)⟩ A.length=⟨false,A++B,[],nos (L++w::R)⟩:=by
  have e1:(A++k::B).eraseIdx A.length=A++B:=by
   rw [List.eraseIdx_append_of_length_le (Nat.le_refl _)]; simp
  have e2:(nos (L++a::b::R)).eraseIdx (A.length+1)=nos (L++w::R):=by
   simp only [nos,List.map_append,List.map_cons]
   rw [List.eraseIdx_append_of_length_le (by simp; omega),hl]
   simp [hw]
  unfold withoutN
  simp only [e1,e2,List.eraseIdx_nil]
 rw [h2] at h1
 exact h1
theorem join_drop {h:Nat} {A B:List Tx} {k:Tx} {L R:List (Tr h)} {a b:Tr h} (hl:A.length=L.length):dropN ⟨false,A++k::B,[],nos (L++a::b::R)⟩ (L.length+1)=⟨false,A++B,[],nos (L++a::R)⟩:=by
 have e1:(A++k::B).eraseIdx L.length=A++B:=by
  rw [← hl,List.eraseIdx_append_of_length_le (Nat.le_refl _)]; simp
 have e2:(nos (L++a::b::R)).eraseIdx (L.length+1)=nos (L++a::R):=by
  simp only [nos,List.map_append,List.map_cons]
  rw [List.eraseIdx_append_of_length_le (by simp)]
  simp
 unfold dropN
 simp only [Nat.add_sub_cancel,e1,e2]
theorem sm_join {l r:Nd} {k:Tx} (hl:fitsN l=true) (hr:fitsN r=true) (hk:k.length<=32):Sm (joinN l k r):=by
 have sl:=fits_sm hl; have sr:=fits_sm hr
 have kl:=keys_256 hl; have kr:=keys_256 hr
 have h1:∀ {n:Nd},fitsN n=true->n.vs.length<=256/\n.kids.length<=257:=fun {n} h=>by
  have hk:=keys_256 h
  cases hf:n.leaf with
  | true=>obtain ⟨g1,g2,_⟩:=may_vs (fits_may h) hf; exact ⟨by omega,by rw [g2]; simp⟩
  | false=>obtain ⟨g1,g2,_⟩:=may_kids (fits_may h) hf; exact ⟨by rw [g2]; simp,by omega⟩
 obtain ⟨v1,z1⟩:=h1 hl
 obtain ⟨v2,z2⟩:=h1 hr
 have hks:(joinN l k r).ks=(if l.leaf then l.ks else l.ks++[k])++r.ks:=rfl
 refine ⟨?_,?_,?_,fun x hx=>?_,fun x hx=>?_⟩
 ·rw [hks]
  split <;> simp only [List.length_append,List.length_cons,List.length_nil] <;> omega
 ·show (l.vs++r.vs).length<=_; rw [List.length_append]; omega
 ·show (l.kids++r.kids).length<=_; rw [List.length_append]; omega
 ·rw [hks] at hx
  rcases List.mem_append.1 hx with hx | hx
  ·split at hx
   ·exact sl.kl x hx
   ·rcases List.mem_append.1 hx with hx | hx
    ·exact sl.kl x hx
    ·simp only [List.mem_singleton] at hx; subst hx; omega
  ·exact sr.kl x hx
 ·rcases List.mem_append.1 hx with hx | hx
  ·exact sl.vl x hx
  ·exact sr.vl x hx
def JPost (c:Cfg) (G X:RL) (s:TSt) {h:Nat} (p:Nat) (ks:List Tx) (ts:List (Tr h)) (i:Int) (u:Value) (L':RL):Prop :=
 (u=.bool false/\TR c G X s L'/\NJ ks ts i) ∨
 (u=.bool true/\∃ X' m' A k B L a b R w,ks=A++k::B/\ts=L++a::b::R/\A.length=L.length/\(L.length:Int)=i/\(∀ p,p∈X->p∈X')/\TR c G X' ⟨m',s.root,s.cnt⟩ L'/\Via s.m m' (inn p ks ts) (inn p (A++B) (L++w::R))/\no h w=no h a/\Okt h w/\frM c.N s.m<=frM c.N m'/\(Tdy h a->Tdy h b->Tdy h w))
theorem JPost.pop {c:Cfg} {G X:RL} {s:TSt} {h p:Nat} {ks:List Tx} {ts:List (Tr h)} {i:Int} {u:Value} {L':RL} {x:Nat × ARow} (j:JPost c (x::G) X s p ks ts i u L'):∃ L'',Sub L'' L'/\JPost c G X s p ks ts i u L'':=by
 rcases j with ⟨h1,h2,h3⟩ | ⟨h1,X',m',A,k,B,L,a,b,R,w,g1,g2,g3,g4,g5,g6,g7⟩
 ·obtain ⟨L'',h4,h5⟩:=h2.pop
  exact ⟨L'',h5,.inl ⟨h1,h4,h3⟩⟩
 ·obtain ⟨L'',h4,h5⟩:=g6.pop
  exact ⟨L'',h5,.inr ⟨h1,X',m',A,k,B,L,a,b,R,w,g1,g2,g3,g4,g5,h4,g7⟩⟩
def JoinP (h:Nat):Prop:=∀ (c:Cfg) (G X:RL) (s:TSt) (L:RL) (p:Nat) (ks:List Tx) (ts:List (Tr h)) (i:Int),TR c G X s L->Loc s.m p ks ts->-10<=i->i<=100000 →
 CS Tryz.prog 131 [ptr c.rt,.int .i64 (p:Nat),.int .i64 i] L fun u L'=>JPost c G X s p ks ts i u L'
def SeamP (h:Nat):Prop:=∀ (c:Cfg) (G X:RL) (s:TSt) (L:RL) (a b:Tr h) (k:Tx),TR c G X s L->RepT s.m h (mrg h a k b)->(pgs h (mrg h a k b)).Nodup->Okt h (mrg h a k b)->Okt h a->Okt h b →
 CS Tryz.prog 101 [ptr c.rt,.int .i64 (no h a:Nat),.int .i64 (((nd h a).kids.length:Nat) - 1:Int)] L fun _ L'=>∃ X' m' u',(∀ p,p∈X->p∈X')/\TR c G X' ⟨m',s.root,s.cnt⟩ L'/\Via s.m m' (mrg h a k b) u'/\Okt h u'/\frM c.N s.m<=frM c.N m'/\(Tdy h a->Tdy h b->Tdy h u')
theorem nos_at {h:Nat} {L R:List (Tr h)} {a:Tr h}:(nums (nos (L++a::R)))[L.length]?=some (.int .i64 ((no h a:Nat):Int)):=by simp [nums,nos]
end Go.Proofs.YtlmmddfhoabjfaaGreat
end
section
namespace Go.Proofs.YtlmmddfhoabjfaaGreat
open Go.Am
theorem ok_mrg:∀ {h:Nat} {a b:Tr h} {k:Tx},Okt h a->Okt h b->fitsN (joinN (nd h a) k (nd h b))=true->Okt h (mrg h a k b)
 | 0,a,b,k,ha,hb,hf=>by
  obtain ⟨p,ks,vs,rfl⟩:=lf_eta a
  obtain ⟨p',ks',vs',rfl⟩:=lf_eta b
  refine ⟨by rw [nd_mrg]; exact hf,?_⟩
  show ks++ks'≠[]
  have:=(ok_lf.1 ha).2
  simp [this]
 | h+1,a,b,k,ha,hb,hf=>by
  obtain ⟨p,ks,ts,rfl⟩:=inn_eta a
  obtain ⟨p',ks',ts',rfl⟩:=inn_eta b
  refine ⟨by rw [nd_mrg]; exact hf,fun s hs=>?_⟩
  have hs':s∈ts++ts':=hs
  rcases List.mem_append.1 hs' with h1 | h1
  ·exact ha.kid s h1
  ·exact hb.kid s h1
theorem nos_at2 {h:Nat} {L R:List (Tr h)} {a b:Tr h}:(nums (nos (L++a::b::R)))[L.length+1]?=some (.int .i64 ((no h b:Nat):Int)):=by simp [nums,nos]
theorem tx_mid {A B:List Tx} {k:Tx} {j:Nat} (h:A.length=j):(tx (A++k::B))[j]?=some (txt k):=by subst h; simp [tx]
theorem frM_join {N:Nat} {m:Mem} {pa pb p:Nat} {na nb np x y:Nd} (h1:m pa=some na) (h2:m pb=some nb) (h3:m p=some np) (hab:pa≠pb) (hap:p≠pa) (hbp:p≠pb) (d1:pa < N) (d2:pb < N) (d3:p < N) :
  frM N m<=frM N (updM (updM (updM m pa (some x)) pb none) p (some y)):=by
 have e1:=frM_upd (m:=m) (o:=some x) d1
 have e2:=frM_upd (m:=updM m pa (some x)) (o:=none) d2
 have e3:=frM_upd (m:=updM (updM m pa (some x)) pb none) (o:=some y) d3
 have g2:updM m pa (some x) pb=some nb:=by unfold updM; rw [if_neg (fun h=>hab h.symm),h2]
 have g3:updM (updM m pa (some x)) pb none p=some np:=by unfold updM; rw [if_neg hbp,if_neg hap,h3]
 rw [h1] at e1
 rw [g2] at e2
 rw [g3] at e3
 simp at e1 e2 e3
 omega
theorem TR.now {c:Cfg} {G X:RL} {s:TSt} {L:RL} (h:TR c G X s L):∃ T es ck ws wk g,L=HD c.rf c.rb c.rt c.rn c.rw T s.root s.cnt c.root0 c.cnt0 es ck ws wk (G++X)/\T.length=c.N/\Pg X T es ck ws wk s.m c.m0/\MP es ck g/\MapRep X g s.m:=by
 obtain ⟨T,es,ck,ws,wk,hN,rfl,hp⟩:=h
 obtain ⟨g,hg,hmr⟩:=hp.now
 exact ⟨T,es,ck,ws,wk,g,rfl,hN,hp,hg,hmr⟩
set_option maxHeartbeats 4000000 in
theorem join_of {h:Nat} (seam:SeamP h):JoinP h:=by
 intro c G X s rows p ks ts i htr hloc hi1 hi2
 suffices g:CS Tryz.prog 131 [ptr c.rt,.int .i64 (p:Nat),.int .i64 i] rows fun u L'=>∃ x,JPost c (x::G) X s p ks ts i u L' by
  exact g.less fun u L' ⟨x,hj⟩=>hj.pop
 obtain ⟨T,es,ck,ws,wk,g,rfl,hN,hp,hg,hmr⟩:=htr.now
 obtain ⟨r,hgr0,v1,v2,v3,hr,hP⟩:=(hmr p).2 _ hloc.top
 have hgr:(g p).getD (.pointer none)=ptr r:=by rw [hgr0]; rfl
 have sp:=hp.sm _ _ hloc.top
 refine CS.mk (fn:=Tryz.f131) rfl rfl rfl rfl ?_
 repeat refine xQ ?_
 refine xG rfl ?_
 refine OS.fresh rfl (e_boxV (v:=.int .i64 i) (cs:=[.int .i64 i]) rfl rfl rfl rfl rfl) (fun _=>rfl) (fun r5=>?_)
 refine xP rfl rh rfl ?_
 refine OS.sub Sub.inQ ?_
 refine xN ?_
 have hXB:∀ q,q∈X->q∈HD c.rf c.rb c.rt c.rn c.rw T s.root s.cnt c.root0 c.cnt0 es ck ws wk ((r5,iRow i)::(G++X)):=fun q hq=>by simp [hq]
 have m1:=hXB _ hr
 have N1:=hP.nv sp hXB
 simp only at N1 m1
 repeat refine xQ ?_
 refine xG rfl ?_
 iterate 4 refine xP rfl rh rfl ?_
 refine xR rfl (e_load 2 rfl rfl rfl rfl rfl) rfl ?_
 refine xP rfl rh rfl ?_
 refine xR rfl (e_get hg (by simp) rfl rfl rfl rfl (fun _=>rfl) rfl) rfl ?_
 rw [hgr]
 refine xP rfl rh rfl ?_
 refine xN ?_
 repeat refine xQ ?_
 refine LS.drawn noGo mixed [(0,false),(1,false),(2,false),(3,false),(4,false),(5,false),(6,false),(7,false),(8,false),(9,false),(10,false),(11,false)] rfl rfl (by kernel_rfl) ?_
 refine xE rfl rfl (e_load 5 rfl rfl rfl rfl rfl) rfl ?_
 by_cases hneg:i < 0
 ·have hb:(!ileB 0 i)=true:=by rw [ileB_eq,decide_eq_false (by omega)]; rfl
  refine xD rfl rfl (e_ib rh (hb)) rfl ?_
  refine xD rfl rfl rh rfl ?_
  iterate 8 refine xS rfl rfl rfl ?_
  refine xD rfl rfl rh rfl ?_
  refine xM ?_
  repeat refine xQ ?_
  refine xC rfl (fun hc=>?_) (fun hc=>?_)
  ·repeat refine xQ ?_
   refine xG rfl ?_
   refine xP rfl rh rfl ?_
   refine xN ?_
   refine xT ⟨_,fun _ _=>rfl,?_⟩
   exact ⟨(r5,iRow i),.inl ⟨rfl,⟨T,es,ck,ws,wk,hN,rfl,hp⟩,NJ.neg hneg⟩⟩
  ·cases hc
 have hb:(!ileB 0 i)=false:=by rw [ileB_eq,decide_eq_true (by omega)]; rfl
 refine xD rfl rfl (e_ib rh (hb)) rfl ?_
 refine xD rfl rfl rh rfl ?_
 refine xE rfl rfl (e_load 5 rfl rfl rfl rfl rfl) rfl ?_
 refine xD rfl rfl (e_add (n:=1) rfl rfl rfl (in_i64 (by omega) (by omega))) rfl ?_
 iterate 3 refine xD rfl rfl rh rfl ?_
 refine xE rfl rfl (e_loadm m1 rfl rfl rfl rfl) rfl ?_
 refine xD rfl rfl (e_len N1.z rfl rfl rfl rfl rfl) rfl ?_
 by_cases hfar:(ts.length:Int)<=i+1
 ·have hb:ileB ((nos ts).length:Nat) (i+1)=true:=by rw [ileB_eq,nos_len]; exact decide_eq_true hfar
  refine xD rfl rfl (e_ib rh (hb)) rfl ?_
  refine xD rfl rfl rh rfl ?_
  refine xM ?_
  repeat refine xQ ?_
  refine xC rfl (fun hc=>?_) (fun hc=>?_)
  ·repeat refine xQ ?_
   refine xG rfl ?_
   refine xP rfl rh rfl ?_
   refine xN ?_
   refine xT ⟨_,fun _ _=>rfl,?_⟩
   exact ⟨(r5,iRow i),.inl ⟨rfl,⟨T,es,ck,ws,wk,hN,rfl,hp⟩,NJ.far hfar⟩⟩
  ·cases hc
 have hb:ileB ((nos ts).length:Nat) (i+1)=false:=by rw [ileB_eq,nos_len]; exact decide_eq_false hfar
 refine xD rfl rfl (e_ib rh (hb)) rfl ?_
 refine xD rfl rfl rh rfl ?_
 refine xM ?_
 repeat refine xQ ?_
 refine xC rfl (fun hc=>?_) (fun hc=>?_)
 ·cases hc
 refine LS.skip ?_
 obtain ⟨j,rfl⟩:=Int.eq_ofNat_of_zero_le (show 0<=i by omega)
 have hbg:=hloc.bg (by intro hh; rw [hh] at hfar; simp at hfar; omega)
 obtain ⟨A,k,B,L,a,b,R,rfl,rfl,hA,hL⟩:=split2 (j:=j) (bg_len hbg) (by omega)
 subst hL
 have oka:=hloc.ok a (by simp)
 have okb:=hloc.ok b (by simp)
 have hma:=hloc.kid (s:=a) (by simp)
 have hmb:=hloc.kid (s:=b) (by simp)
 obtain ⟨ra,hga,va1,va2,va3,hra,hPa⟩:=(hmr (no h a)).2 _ hma
 obtain ⟨rb,hgb,vb1,vb2,vb3,hrb,hPb⟩:=(hmr (no h b)).2 _ hmb
 have ega:(g (no h a)).getD (.pointer none)=ptr ra:=by rw [hga]; rfl
 have egb:(g (no h b)).getD (.pointer none)=ptr rb:=by rw [hgb]; rfl
 have hna:=hPa.nv (fits_sm oka.fits) hXB
 have hnb:=hPb.nv (fits_sm okb.fits) hXB
 have mra:=hXB _ hra
 have hkl:k.length<=32:=may_ks hbg.may k (by simp)
 have hsm:=sm_join (k:=k) oka.fits okb.fits hkl
 repeat refine xQ ?_
 refine LS.drawn noGo mixed [(0,false),(1,false),(2,false),(3,false),(4,false),(5,false),(6,false),(7,false),(8,false),(9,false),(10,false),(11,false),(12,false),(13,false),(14,false),(15,false),(16,false)] rfl rfl (by kernel_rfl) ?_
 iterate 3 refine xD rfl rfl rh rfl ?_
 refine xE rfl rfl (e_loadm m1 rfl rfl rfl rfl) rfl ?_
 refine xE rfl rfl (e_load 5 rfl rfl rfl rfl rfl) rfl ?_
 refine ODS.at1 (j:=L.length) (N1.z) (nos_at) rfl rfl rfl rfl rfl rfl rfl (fun ra0 oa0 rowa0 csa0 ma0 ca0 ga0=>⟨_,rfl,?_⟩)
 refine xE rfl rfl (e_loadm ma0 ca0 rfl rfl (part_one rfl ga0)) rfl ?_
 iterate 3 refine xD rfl rfl rh rfl ?_
 refine xE rfl rfl (e_loadm m1 rfl rfl rfl rfl) rfl ?_
 refine xE rfl rfl (e_load 5 rfl rfl rfl rfl rfl) rfl ?_
 refine xD rfl rfl (e_addN (n:=1) rfl rfl rfl (in_i64 (by omega) (by omega))) rfl ?_
 refine ODS.at1 (j:=L.length+1) (N1.z) (nos_at2) rfl rfl rfl rfl rfl rfl rfl (fun ra1 oa1 rowa1 csa1 ma1 ca1 ga1=>⟨_,rfl,?_⟩)
 refine xE rfl rfl (e_loadm ma1 ca1 rfl rfl (part_one rfl ga1)) rfl ?_
 iterate 2 refine xD rfl rfl rh rfl ?_
 refine xM ?_
 repeat refine xQ ?_
 refine LS.mid [0,1,5,7,8,9,10] (fun a' L'=>∃ r10 w1 w2 w3 Y1 Y2 Y3,GV 9 1 [] w1 (joinN (nd h a) k (nd h b)).ks.length (tx (joinN (nd h a) k (nd h b)).ks) Y1/\GV 9 1 [] w2 (joinN (nd h a) k (nd h b)).vs.length (tx (joinN (nd h a) k (nd h b)).vs) Y2/\GV 3 1 [] w3 (joinN (nd h a) k (nd h b)).kids.length (nums (joinN (nd h a) k (nd h b)).kids) Y3 /\
  L'=HD c.rf c.rb c.rt c.rn c.rw T s.root s.cnt c.root0 c.cnt0 es ck ws wk (((r5,iRow (L.length:Nat))::G)++((r10,ndRow (nd h a).leaf w1 w2 w3)::(Y3++(Y2++(Y1++X)))))/\a'=[ptr c.rt,.int .i64 (p:Nat),jn,jn,jn,ptr r5,jn,ptr r,.int .i64 (no h a:Nat),.int .i64 (no h b:Nat),ptr r10,jn,jn,jn,jn,jn,jn,jn,jn,jn,jn,jn,jn,jn,jn,jn,jn,jn,jn,jn,jn,jn,jn,jn,jn,jn,jn,jn,jn,jn,jn,jn,jn,jn,jn,jn,jn,jn,jn,jn,jn,jn,jn,jn,jn,jn,jn,jn,jn,jn,jn,jn,jn,jn,jn,jn,jn,jn,jn,jn,jn,jn,jn,jn,jn,jn,jn,jn,jn,jn,jn,jn,jn,jn,jn,jn,jn,jn,jn,jn,jn,jn,jn,jn,jn,jn,jn,jn,jn,jn,jn,jn,jn]) ?_ ?_
 ·have m5:(r5,iRow (L.length:Nat))∈HD c.rf c.rb c.rt c.rn c.rw T s.root s.cnt c.root0 c.cnt0 es ck ws wk ((r5,iRow (L.length:Nat))::(G++X)):=by simp
  have mrt:(c.rt,trRow c.rf c.rn c.rw s.root s.cnt c.root0 c.cnt0)∈HD c.rf c.rb c.rt c.rn c.rw T s.root s.cnt c.root0 c.cnt0 es ck ws wk ((r5,iRow (L.length:Nat))::(G++X)):=by simp
  have mmap:(c.rn,ARow.map es ck)∈HD c.rf c.rb c.rt c.rn c.rw T s.root s.cnt c.root0 c.cnt0 es ck ws wk ((r5,iRow (L.length:Nat))::(G++X)):=by simp
  repeat refine xQ ?_
  refine LS.forked noGo mixed 24 rfl rfl (by kernel_rfl) ?_
  refine OGS.pure 0 (by kernel_rfl) rfl rfl (fun _=>rfl) rfl ?_
  refine OGS.pure 1 (by kernel_rfl) rfl rfl (fun _=>rfl) rfl ?_
  refine OGS.pure 2 (by kernel_rfl) rfl rfl (fun _=>rfl) rfl ?_
  refine OGS.pure 3 (by kernel_rfl) rfl rfl (fun _=>rfl) rfl ?_
  refine OGS.read 4 (by kernel_rfl) rfl rfl (e_loadm mrt rfl rfl rfl rfl) rfl ?_
  refine OGS.pure 5 (by kernel_rfl) rfl rfl (fun _=>rfl) rfl ?_
  refine OGS.read 6 (by kernel_rfl) rfl rfl (e_get hg mmap rfl rfl rfl rfl (fun _=>rfl) rfl) rfl ?_
  rw [ega]
  refine OGS.pure 7 (by kernel_rfl) rfl rfl (fun _=>rfl) rfl ?_
  refine OGS.pure 8 (by kernel_rfl) rfl rfl (fun _=>rfl) rfl ?_
  refine OGS.pure 9 (by kernel_rfl) rfl rfl (fun _=>rfl) rfl ?_
  refine OGS.read 10 (by kernel_rfl) rfl rfl (e_loadm m1 rfl rfl rfl rfl) rfl ?_
  refine OGS.read 11 (by kernel_rfl) rfl rfl (e_loadm m5 rfl rfl rfl rfl) rfl ?_
  refine OGS.at1 (j:=L.length) 12 (by kernel_rfl) (N1.k) (tx_mid hA) rfl rfl rfl rfl rfl rfl rfl (fun ra0 oa0 rowa0 csa0 ma0 ca0 ga0=>⟨_,rfl,?_⟩)
  refine OGS.read 13 (by kernel_rfl) rfl rfl (e_loadm ma0 ca0 rfl rfl (part_one rfl ga0)) rfl ?_
  refine OGS.pure 14 (by kernel_rfl) rfl rfl (fun _=>rfl) rfl ?_
  refine OGS.pure 15 (by kernel_rfl) rfl rfl (fun _=>rfl) rfl ?_
  refine OGS.pure 16 (by kernel_rfl) rfl rfl (fun _=>rfl) rfl ?_
  refine OGS.pure 17 (by kernel_rfl) rfl rfl (fun _=>rfl) rfl ?_
  refine OGS.read 18 (by kernel_rfl) rfl rfl (e_loadm mrt rfl rfl rfl rfl) rfl ?_
  refine OGS.pure 19 (by kernel_rfl) rfl rfl (fun _=>rfl) rfl ?_
  refine OGS.read 20 (by kernel_rfl) rfl rfl (e_get hg mmap rfl rfl rfl rfl (fun _=>rfl) rfl) rfl ?_
  rw [egb]
  refine OGS.turn2 21 22 (by kernel_rfl) (by kernel_rfl) ?_ ?_
  ·refine OT.call rfl rfl (fun _=>rfl) ((joined_ct (X:=X) hXB ⟨va1,va2,va3,hra,hPa⟩ ⟨vb1,vb2,vb3,hrb,hPb⟩ (fits_sm oka.fits) (fits_sm okb.fits)).mono ?_)
   rintro u L' ⟨w1,w2,w3,Y1,Y2,Y3,rfl,rfl,g1,g2,g3⟩
   have hB:∀ q,q∈HD c.rf c.rb c.rt c.rn c.rw T s.root s.cnt c.root0 c.cnt0 es ck ws wk ((r5,iRow (L.length:Nat))::(G++X))->q∈Y3++(Y2++(Y1++HD c.rf c.rb c.rt c.rn c.rw T s.root s.cnt c.root0 c.cnt0 es ck ws wk ((r5,iRow (L.length:Nat))::(G++X)))):=fun q hq=>List.mem_append_right Y3 (List.mem_append_right Y2 (List.mem_append_right Y1 hq))
   refine ⟨_,rfl,(by repeat (first | exact Keep.nil | refine Keep.gone rfl ?_ | refine Keep.cons rfl (e_loadm (hB _ mrt) rfl rfl rfl rfl) ?_ | refine Keep.cons rfl (e_loadm (hB _ m5) rfl rfl rfl rfl) ?_ | refine Keep.cons rfl (e_loadm (hB _ m1) rfl rfl rfl rfl) ?_ | refine Keep.cons rfl (e_loadm (hB _ ma0) ca0 rfl rfl (part_one rfl ga0)) ?_ | refine Keep.cons rfl (e_is' (e_get hg (hB _ mmap) rfl rfl rfl rfl (fun _=>rfl) rfl) ega) ?_ | refine Keep.cons rfl (e_is' (e_get hg (hB _ mmap) rfl rfl rfl rfl (fun _=>rfl) rfl) egb) ?_)),?_⟩
   refine OGS.turn1 22 (by kernel_rfl) (by kernel_rfl) (OT.fresh rfl rfl (e_new (fun _=>rfl) rfl) (fun _=>rfl) (fun r10=>?_) (fun r10=>?_))
   ·have hB:=fun q hq=>List.mem_cons_of_mem (r10,zRow) (hB q hq)
    exact (by repeat (first | exact Keep.nil | refine Keep.gone rfl ?_ | refine Keep.cons rfl (e_loadm (hB _ mrt) rfl rfl rfl rfl) ?_ | refine Keep.cons rfl (e_loadm (hB _ m5) rfl rfl rfl rfl) ?_ | refine Keep.cons rfl (e_loadm (hB _ m1) rfl rfl rfl rfl) ?_ | refine Keep.cons rfl (e_loadm (hB _ ma0) ca0 rfl rfl (part_one rfl ga0)) ?_ | refine Keep.cons rfl (e_is' (e_get hg (hB _ mmap) rfl rfl rfl rfl (fun _=>rfl) rfl) ega) ?_ | refine Keep.cons rfl (e_is' (e_get hg (hB _ mmap) rfl rfl rfl rfl (fun _=>rfl) rfl) egb) ?_))
   have hB:=fun q hq=>List.mem_cons_of_mem (r10,ndRow (nd h a).leaf w1 w2 w3) (hB q hq)
   refine OGS.turn1 23 (by kernel_rfl) (by kernel_rfl) (OT.write rfl rfl (e_store 0 (n:=4) rfl rfl rfl rfl rfl (nd_one (isSl g1.sv) (isSl g2.sv) (isSl g3.sv)) rfl rfl) rfl (by repeat (first | exact Keep.nil | refine Keep.gone rfl ?_ | refine Keep.cons rfl (e_loadm (hB _ mrt) rfl rfl rfl rfl) ?_ | refine Keep.cons rfl (e_loadm (hB _ m5) rfl rfl rfl rfl) ?_ | refine Keep.cons rfl (e_loadm (hB _ m1) rfl rfl rfl rfl) ?_ | refine Keep.cons rfl (e_loadm (hB _ ma0) ca0 rfl rfl (part_one rfl ga0)) ?_ | refine Keep.cons rfl (e_is' (e_get hg (hB _ mmap) rfl rfl rfl rfl (fun _=>rfl) rfl) ega) ?_ | refine Keep.cons rfl (e_is' (e_get hg (hB _ mmap) rfl rfl rfl rfl (fun _=>rfl) rfl) egb) ?_)) ?_)
   refine OGS.sub (Sub.sums (A:=HD c.rf c.rb c.rt c.rn c.rw T s.root s.cnt c.root0 c.cnt0 es ck ws wk (((r5,iRow (L.length:Nat))::G)++((r10,ndRow (nd h a).leaf w1 w2 w3)::(Y3++(Y2++(Y1++X)))))) (B:=(r10,ndRow (nd h a).leaf w1 w2 w3)::(Y3++(Y2++(Y1++HD c.rf c.rb c.rt c.rn c.rw T s.root s.cnt c.root0 c.cnt0 es ck ws wk ((r5,iRow (L.length:Nat))::(G++X)))))) fun f=>by simp [HD,fm]<;>omega) ?_
   exact OGS.nil (by kernel_rfl) ⟨r10,w1,w2,w3,Y1,Y2,Y3,g1,g2,g3,rfl,rfl⟩
  ·refine OT.fresh rfl rfl (e_new (fun _=>rfl) rfl) (fun _=>rfl) (fun r10=>?_) (fun r10=>?_)
   ·have hB:=fun q (hq:q∈HD c.rf c.rb c.rt c.rn c.rw T s.root s.cnt c.root0 c.cnt0 es ck ws wk ((r5,iRow (L.length:Nat))::(G++X)))=>List.mem_cons_of_mem (r10,zRow) hq
    exact (by repeat (first | exact Keep.nil | refine Keep.gone rfl ?_ | refine Keep.cons rfl (e_loadm (hB _ mrt) rfl rfl rfl rfl) ?_ | refine Keep.cons rfl (e_loadm (hB _ m5) rfl rfl rfl rfl) ?_ | refine Keep.cons rfl (e_loadm (hB _ m1) rfl rfl rfl rfl) ?_ | refine Keep.cons rfl (e_loadm (hB _ ma0) ca0 rfl rfl (part_one rfl ga0)) ?_ | refine Keep.cons rfl (e_is' (e_get hg (hB _ mmap) rfl rfl rfl rfl (fun _=>rfl) rfl) ega) ?_ | refine Keep.cons rfl (e_is' (e_get hg (hB _ mmap) rfl rfl rfl rfl (fun _=>rfl) rfl) egb) ?_))
   refine OGS.turn1 21 (by kernel_rfl) (by kernel_rfl) (OT.call rfl rfl (fun _=>rfl) ((joined_ct (X:=X) (fun q hq=>List.mem_cons_of_mem _ (hXB q hq)) ⟨va1,va2,va3,hra,hPa⟩ ⟨vb1,vb2,vb3,hrb,hPb⟩ (fits_sm oka.fits) (fits_sm okb.fits)).mono ?_))
   rintro u L' ⟨w1,w2,w3,Y1,Y2,Y3,rfl,rfl,g1,g2,g3⟩
   have hB:∀ q,q∈HD c.rf c.rb c.rt c.rn c.rw T s.root s.cnt c.root0 c.cnt0 es ck ws wk ((r5,iRow (L.length:Nat))::(G++X))->q∈Y3++(Y2++(Y1++(r10,zRow)::HD c.rf c.rb c.rt c.rn c.rw T s.root s.cnt c.root0 c.cnt0 es ck ws wk ((r5,iRow (L.length:Nat))::(G++X)))):=fun q hq=>List.mem_append_right Y3 (List.mem_append_right Y2 (List.mem_append_right Y1 (List.mem_cons_of_mem _ hq)))
   refine ⟨_,rfl,(by repeat (first | exact Keep.nil | refine Keep.gone rfl ?_ | refine Keep.cons rfl (e_loadm (hB _ mrt) rfl rfl rfl rfl) ?_ | refine Keep.cons rfl (e_loadm (hB _ m5) rfl rfl rfl rfl) ?_ | refine Keep.cons rfl (e_loadm (hB _ m1) rfl rfl rfl rfl) ?_ | refine Keep.cons rfl (e_loadm (hB _ ma0) ca0 rfl rfl (part_one rfl ga0)) ?_ | refine Keep.cons rfl (e_is' (e_get hg (hB _ mmap) rfl rfl rfl rfl (fun _=>rfl) rfl) ega) ?_ | refine Keep.cons rfl (e_is' (e_get hg (hB _ mmap) rfl rfl rfl rfl (fun _=>rfl) rfl) egb) ?_)),?_⟩
   refine OGS.sub (Sub.sums (A:=(r10,zRow)::(Y3++(Y2++(Y1++HD c.rf c.rb c.rt c.rn c.rw T s.root s.cnt c.root0 c.cnt0 es ck ws wk ((r5,iRow (L.length:Nat))::(G++X)))))) (B:=Y3++(Y2++(Y1++(r10,zRow)::HD c.rf c.rb c.rt c.rn c.rw T s.root s.cnt c.root0 c.cnt0 es ck ws wk ((r5,iRow (L.length:Nat))::(G++X))))) fun f=>by simp [HD,fm]<;>omega) ?_
   have hB:∀ q,q∈HD c.rf c.rb c.rt c.rn c.rw T s.root s.cnt c.root0 c.cnt0 es ck ws wk ((r5,iRow (L.length:Nat))::(G++X))->q∈(r10,ndRow (nd h a).leaf w1 w2 w3)::(Y3++(Y2++(Y1++HD c.rf c.rb c.rt c.rn c.rw T s.root s.cnt c.root0 c.cnt0 es ck ws wk ((r5,iRow (L.length:Nat))::(G++X))))):=fun q hq=>List.mem_cons_of_mem _ (List.mem_append_right Y3 (List.mem_append_right Y2 (List.mem_append_right Y1 hq)))
   refine OGS.turn1 23 (by kernel_rfl) (by kernel_rfl) (OT.write rfl rfl (e_store 0 (n:=4) rfl rfl rfl rfl rfl (nd_one (isSl g1.sv) (isSl g2.sv) (isSl g3.sv)) rfl rfl) rfl (by repeat (first | exact Keep.nil | refine Keep.gone rfl ?_ | refine Keep.cons rfl (e_loadm (hB _ mrt) rfl rfl rfl rfl) ?_ | refine Keep.cons rfl (e_loadm (hB _ m5) rfl rfl rfl rfl) ?_ | refine Keep.cons rfl (e_loadm (hB _ m1) rfl rfl rfl rfl) ?_ | refine Keep.cons rfl (e_loadm (hB _ ma0) ca0 rfl rfl (part_one rfl ga0)) ?_ | refine Keep.cons rfl (e_is' (e_get hg (hB _ mmap) rfl rfl rfl rfl (fun _=>rfl) rfl) ega) ?_ | refine Keep.cons rfl (e_is' (e_get hg (hB _ mmap) rfl rfl rfl rfl (fun _=>rfl) rfl) egb) ?_)) ?_)
   refine OGS.sub (Sub.sums (A:=HD c.rf c.rb c.rt c.rn c.rw T s.root s.cnt c.root0 c.cnt0 es ck ws wk (((r5,iRow (L.length:Nat))::G)++((r10,ndRow (nd h a).leaf w1 w2 w3)::(Y3++(Y2++(Y1++X)))))) (B:=(r10,ndRow (nd h a).leaf w1 w2 w3)::(Y3++(Y2++(Y1++HD c.rf c.rb c.rt c.rn c.rw T s.root s.cnt c.root0 c.cnt0 es ck ws wk ((r5,iRow (L.length:Nat))::(G++X)))))) fun f=>by simp [HD,fm]<;>omega) ?_
   exact OGS.nil (by kernel_rfl) ⟨r10,w1,w2,w3,Y1,Y2,Y3,g1,g2,g3,rfl,rfl⟩
 rintro a' L' ⟨r10,w1,w2,w3,Y1,Y2,Y3,g1,g2,g3,rfl,rfl⟩
 have hX1:∀ q,q∈X->q∈(r10,ndRow (nd h a).leaf w1 w2 w3)::(Y3++(Y2++(Y1++X))):=fun q hq=>by simp [hq]
 have hPJ:PN ((r10,ndRow (nd h a).leaf w1 w2 w3)::(Y3++(Y2++(Y1++X)))) (joinN (nd h a) k (nd h b)) w1 w2 w3 :=
  ⟨(g1.ol (by have:=hsm.k; unfold openCap; omega)).pl.mono (fun q hq=>by simp [hq]),(g2.ol (by have:=hsm.v; unfold openCap; omega)).pl.mono (fun q hq=>by simp [hq]),(g3.ol (by have:=hsm.z; unfold openCap; omega)).pl.mono (fun q hq=>by simp [hq])⟩
 have hXC:∀ q,q∈(r10,ndRow (nd h a).leaf w1 w2 w3)::(Y3++(Y2++(Y1++X)))->q∈HD c.rf c.rb c.rt c.rn c.rw T s.root s.cnt c.root0 c.cnt0 es ck ws wk (((r5,iRow (L.length:Nat))::G)++((r10,ndRow (nd h a).leaf w1 w2 w3)::(Y3++(Y2++(Y1++X))))):=fun q hq=>by
  rcases List.mem_cons.1 hq with rfl | hq
  ·simp
  ·simp only [List.mem_append] at hq
   simp [hq]
 have m10:=hXC _ (List.mem_cons_self ..)
 have NVJ:=hPJ.nv hsm hXC
 have mra2:=hXC _ (hX1 _ hra)
 have hna2:=hPa.nv (fits_sm oka.fits) (fun q hq=>hXC q (hX1 q hq))
 repeat refine xQ ?_
 refine xG rfl ?_
 refine xR rfl (e_loadm m10 rfl rfl rfl rfl) rfl ?_
 refine xA noGo rfl (fun _=>rfl) ((Fits_ct NVJ (by have:=hsm.k; omega)).mono ?_)
 rintro u L' ⟨rfl,rfl⟩
 refine ⟨_,rfl,?_⟩
 refine xP rfl rh rfl ?_
 refine xN ?_
 cases hfit:fitsN (joinN (nd h a) k (nd h b)) with
 | false =>
  repeat refine xQ ?_
  refine xC rfl (fun hc=>?_) (fun hc=>?_)
  ·repeat refine xQ ?_
   refine xG rfl ?_
   refine xP rfl rh rfl ?_
   refine OS.sub (Sub.sums2 (((r10,ndRow (nd h a).leaf w1 w2 w3)::(Y3++(Y2++Y1)))) (A:=HD c.rf c.rb c.rt c.rn c.rw T s.root s.cnt c.root0 c.cnt0 es ck ws wk (((r5,iRow (L.length:Nat))::G)++X)) (B:=HD c.rf c.rb c.rt c.rn c.rw T s.root s.cnt c.root0 c.cnt0 es ck ws wk (((r5,iRow (L.length:Nat))::G)++((r10,ndRow (nd h a).leaf w1 w2 w3)::(Y3++(Y2++(Y1++X)))))) fun f=>by simp [HD,fm]<;>omega) ?_
   refine xN ?_
   refine xT ⟨_,fun _ _=>rfl,?_⟩
   exact ⟨(r5,iRow (L.length:Nat)),.inl ⟨rfl,⟨T,es,ck,ws,wk,hN,rfl,hp⟩,NJ.at hA hfit⟩⟩
  ·cases hc
 | true =>
  repeat refine xQ ?_
  refine xC rfl (fun hc=>?_) (fun hc=>?_)
  ·cases hc
  refine LS.skip ?_
  have mrt2:(c.rt,trRow c.rf c.rn c.rw s.root s.cnt c.root0 c.cnt0)∈HD c.rf c.rb c.rt c.rn c.rw T s.root s.cnt c.root0 c.cnt0 es ck ws wk (((r5,iRow (L.length:Nat))::G)++((r10,ndRow (nd h a).leaf w1 w2 w3)::(Y3++(Y2++(Y1++X))))):=by simp
  have mmap2:(c.rn,ARow.map es ck)∈HD c.rf c.rb c.rt c.rn c.rw T s.root s.cnt c.root0 c.cnt0 es ck ws wk (((r5,iRow (L.length:Nat))::G)++((r10,ndRow (nd h a).leaf w1 w2 w3)::(Y3++(Y2++(Y1++X))))):=by simp
  have hzl:(nd h a).kids.length<=2000:=(fits_sm oka.fits).z
  repeat refine xQ ?_
  refine xG rfl ?_
  iterate 4 refine xP rfl rh rfl ?_
  refine xR rfl (e_loadm mrt2 rfl rfl rfl rfl) rfl ?_
  refine xP rfl rh rfl ?_
  refine xR rfl (e_get hg mmap2 rfl rfl rfl rfl (fun _=>rfl) rfl) rfl ?_
  rw [ega]
  iterate 2 refine xP rfl rh rfl ?_
  refine xR rfl (e_loadm mra2 rfl rfl rfl rfl) rfl ?_
  refine xP rfl (e_len hna2.z rfl rfl rfl rfl rfl) rfl ?_
  refine xP rfl (e_sub (n:=1) rfl rfl rfl (in_i64 (by omega) (by omega))) rfl ?_
  refine xP rfl rh rfl ?_
  refine xN ?_
  have htr1:TR c ((r5,iRow (L.length:Nat))::G) ((r10,ndRow (nd h a).leaf w1 w2 w3)::(Y3++(Y2++(Y1++X)))) s (HD c.rf c.rb c.rt c.rn c.rw T s.root s.cnt c.root0 c.cnt0 es ck ws wk (((r5,iRow (L.length:Nat))::G)++((r10,ndRow (nd h a).leaf w1 w2 w3)::(Y3++(Y2++(Y1++X)))))):=⟨T,es,ck,ws,wk,hN,rfl,hp.mono hX1⟩
  have d1:no h a < c.N:=htr1.dom _ (by rw [hma]; simp)
  have d2:no h b < c.N:=htr1.dom _ (by rw [hmb]; simp)
  have d3:p < c.N:=htr1.dom _ (by rw [hloc.top]; simp)
  have hnod:=hloc.nod
  simp only [pgs_inn,List.flatMap_append,List.flatMap_cons,List.nodup_cons,List.nodup_append,List.mem_append,not_or] at hnod
  have npa:p≠no h a:=fun hh=>hnod.1.2.1 (hh ▸ no_mem)
  have npb:p≠no h b:=fun hh=>hnod.1.2.2.1 (hh ▸ no_mem)
  have nab:no h a≠no h b:=fun hh=>hnod.2.2.1.2.2 (no h a) no_mem (no h b) (.inl no_mem) hh
  repeat refine xQ ?_
  refine xG rfl ?_
  iterate 4 refine xP rfl rh rfl ?_
  refine xA noGo rfl (fun _=>rfl) ((lay_tr (o:=some (joinN (nd h a) k (nd h b))) htr1 d1 ⟨r10,rfl,w1,w2,w3,List.mem_cons_self ..,hPJ⟩ (fun n hn=>by cases hn; exact hsm)).mono ?_)
  rintro u L1 h1
  refine ⟨_,rfl,?_⟩
  refine xN ?_
  repeat refine xQ ?_
  refine xG rfl ?_
  iterate 4 refine xP rfl rh rfl ?_
  refine xA noGo rfl (fun _=>rfl) ((lay_tr (o:=none) h1 d2 rfl (fun n hn=>by cases hn)).mono ?_)
  rintro u L2 h2
  refine ⟨_,rfl,?_⟩
  refine xN ?_
  have hm2:(updM (updM s.m (no h a) (some (joinN (nd h a) k (nd h b)))) (no h b) none) p=some ⟨false,A++k::B,[],nos (L++a::b::R)⟩:=by
   unfold updM; rw [if_neg npb,if_neg npa]; exact hloc.top
  have v0:=Via.join hA hloc.rep hloc.nod oka okb
  have hfm:=frM_join (N:=c.N) (x:=joinN (nd h a) k (nd h b)) (y:=⟨false,A++B,[],nos (L++a::R)⟩) hma hmb hloc.top nab npa npb d1 d2 d3
  have hless:=join_Less (h:=h) (p:=p) (B:=B) (k:=k) (R:=R) (a:=a) (b:=b) (w:=mrg h a k b) hA no_mrg
  have hnos:nos (L++mrg h a k b::R)=nos (L++a::R):=by simp [nos,no_mrg]
  have hdrop:=join_drop (h:=h) (B:=B) (k:=k) (R:=R) (a:=a) (b:=b) hA
  have hbg2:=(hless hbg).1
  rw [hnos] at hbg2
  repeat refine xQ ?_
  refine xG rfl ?_
  iterate 5 refine xP rfl rh rfl ?_
  refine xA noGo rfl (fun _=>rfl) ((change_tr (caps:=[ptr r5]) (n':=⟨false,A++B,[],nos (L++a::R)⟩) h2 hm2 hbg2.sm (hdrop ▸ drop1_chn (i:=L.length) (List.mem_cons_self ..) hbg.sm (by simp [nos]) (by simp; omega))).mono ?_)
  rintro u L3 ⟨X3,hX3,h3⟩
  refine ⟨_,rfl,?_⟩
  refine xN ?_
  have okm:=ok_mrg (k:=k) oka okb hfit
  have hrm:=(rep_inn.1 v0.rep).2 (mrg h a k b) (by simp)
  have hnm:(pgs h (mrg h a k b)).Nodup:=by
   have:=v0.chg.nd
   rw [pgs_at,List.nodup_append,List.nodup_append] at this
   exact this.2.1.1
  repeat refine xQ ?_
  refine xG rfl ?_
  iterate 3 refine xP rfl rh rfl ?_
  refine xA noGo rfl (fun _=>rfl) ((seam c _ X3 _ L3 a b k h3 hrm hnm okm oka okb).mono ?_)
  rintro u L4 ⟨X4,m4,u4,hX4,h4,v4,ok4,fr4,td4⟩
  refine ⟨_,rfl,?_⟩
  refine xN ?_
  repeat refine xQ ?_
  refine xG rfl ?_
  refine xP rfl rh rfl ?_
  refine xN ?_
  refine xT ⟨_,fun _ _=>rfl,?_⟩
  have v5:=v0.trans (v4.kid hA v0.rep v0.chg.nd)
  exact ⟨(r5,iRow (L.length:Nat)),.inr ⟨rfl,X4,m4,A,k,B,L,a,b,R,u4,rfl,rfl,hA,rfl,fun q hq=>hX4 q (hX3 q (hX1 q hq)),h4,v5,v4.rt.trans no_mrg,ok4,Nat.le_trans hfm fr4,td4⟩⟩
end Go.Proofs.YtlmmddfhoabjfaaGreat
end
section
namespace Go.Proofs.YtlmmddfhoabjfaaGreat
open Go.Am
structure SWin (c:Cfg) (G X:RL) (s:TSt) {h:Nat} (p:Nat) (ks:List Tx) (ts:List (Tr h)) (i:Int) (L':RL) (X':RL) (m':Mem) (A Y B:List Tx) (L M R:List (Tr h)) (w:Tr h):Prop where
 hk:ks=A++(Y++B)
 ht:ts=L++(M++R)
 la:A.length=L.length
 lm:M.length=Y.length+1
 lo:(L.length:Int)<=i
 hi:i < L.length+M.length
 hX:∀ p,p∈X->p∈X'
 tr:TR c G X' ⟨m',s.root,s.cnt⟩ L'
 via:Via s.m m' (inn p ks ts) (inn p (A++B) (L++w::R))
 ok:Okt h w
 fr:frM c.N s.m<=frM c.N m'
 td:(∀ q∈M,Tdy h q)->Tdy h w
 less:Less ⟨false,ks,[],nos ts⟩ ⟨false,A++B,[],nos (L++w::R)⟩
theorem SWin.loc {c:Cfg} {G X X':RL} {s:TSt} {h p:Nat} {ks:List Tx} {ts:List (Tr h)} {i:Int} {L':RL} {m':Mem} {A Y B:List Tx} {L M R:List (Tr h)} {w:Tr h} (x:SWin c G X s p ks ts i L' X' m' A Y B L M R w) (hb:Bg ⟨false,ks,[],nos ts⟩) (hok:∀ q∈ts,Okt h q):Loc m' p (A++B) (L++w::R):=by
 refine ⟨x.via.rep,x.via.chg.nd,fun q hq=>?_,.inl (x.less hb).1⟩
 rcases List.mem_append.1 hq with h1 | h1
 ·exact hok q (by rw [x.ht]; simp [h1])
 ·rcases List.mem_cons.1 h1 with rfl | h1
  ·exact x.ok
  ·exact hok q (by rw [x.ht]; simp [h1])
theorem SWin.right {c:Cfg} {G X X' X'':RL} {s:TSt} {h p:Nat} {ks:List Tx} {ts:List (Tr h)} {i:Int} {L' L'':RL} {m' m'':Mem} {A Y B:List Tx} {L M R:List (Tr h)} {w b w':Tr h} {k:Tx} (x:SWin c G X s p ks ts i L' X' m' A Y (k::B) L M (b::R) w)
  (hX:∀ p,p∈X'->p∈X'') (htr:TR c G X'' ⟨m'',s.root,s.cnt⟩ L'') (hv:Via m' m'' (inn p (A++k::B) (L++w::b::R)) (inn p (A++B) (L++w'::R))) (hn:no h w'=no h w) (hok:Okt h w') (hf:frM c.N m'<=frM c.N m'') (htd:Tdy h w->Tdy h b->Tdy h w') :
  SWin c G X s p ks ts i L'' X'' m'' A (Y++[k]) B L (M++[b]) R w' :=
 ⟨by rw [x.hk]; simp,by rw [x.ht]; simp,x.la,by simp only [List.length_append,x.lm,List.length_singleton],x.lo,by have:=x.hi; simp only [List.length_append,List.length_cons,List.length_nil]; omega,fun q hq=>hX q (x.hX q hq),htr,x.via.trans hv,hok,Nat.le_trans x.fr hf,
  fun hq=>htd (x.td fun q hm=>hq q (List.mem_append_left _ hm)) (hq b (by simp)),x.less.trans (join_Less (h:=h) (p:=p) x.la hn)⟩
theorem SWin.left {c:Cfg} {G X X' X'':RL} {s:TSt} {h p:Nat} {ks:List Tx} {ts:List (Tr h)} {i:Int} {L' L'':RL} {m' m'':Mem} {A Y B:List Tx} {L M R:List (Tr h)} {w a w':Tr h} {k:Tx} (x:SWin c G X s p ks ts i L' X' m' (A++[k]) Y B (L++[a]) M R w)
  (hX:∀ p,p∈X'->p∈X'') (htr:TR c G X'' ⟨m'',s.root,s.cnt⟩ L'') (hv:Via m' m'' (inn p (A++k::B) (L++a::w::R)) (inn p (A++B) (L++w'::R))) (hn:no h w'=no h a) (hok:Okt h w') (hf:frM c.N m'<=frM c.N m'') (htd:Tdy h a->Tdy h w->Tdy h w') :
  SWin c G X s p ks ts i L'' X'' m'' A (k::Y) B L (a::M) R w':=by
 have hla:A.length=L.length:=by have:=x.la; simpa using this
 have hl:=x.less
 have hv0:=x.via
 simp only [List.append_assoc,List.singleton_append] at hl hv0
 exact ⟨by rw [x.hk]; simp,by rw [x.ht]; simp,hla,by simp only [List.length_cons,x.lm],by have:=x.lo; simp only [List.length_append,List.length_singleton] at this; omega,by have:=x.hi; simp only [List.length_append,List.length_cons,List.length_nil] at this ⊢; omega,fun q hq=>hX q (x.hX q hq),htr,hv0.trans hv,hok,Nat.le_trans x.fr hf,
  fun hq=>htd (hq a (by simp)) (x.td fun q hm=>hq q (List.mem_cons_of_mem _ hm)),hl.trans (join_Less (h:=h) (p:=p) hla hn)⟩
def SPost (c:Cfg) (G X:RL) (s:TSt) {h:Nat} (p:Nat) (ks:List Tx) (ts:List (Tr h)) (i:Int) (u:Value) (L':RL):Prop :=
 ∃ X' m' A Y B L M R w,SWin c G X s p ks ts i L' X' m' A Y B L M R w/\u=.int .i64 (L.length:Nat)/\NJ (A++B) (L++w::R) ((L.length:Int) - 1)/\NJ (A++B) (L++w::R) (L.length:Int)
def SetP (h:Nat):Prop:=∀ (c:Cfg) (G X:RL) (s:TSt) (L:RL) (p:Nat) (ks:List Tx) (ts:List (Tr h)) (i:Int),TR c G X s L->Loc s.m p ks ts->0<=i->i < ts.length →
 CS Tryz.prog 101 [ptr c.rt,.int .i64 (p:Nat),.int .i64 i] L fun u L'=>SPost c G X s p ks ts i u L'
theorem settle_of {h:Nat} (hj:JoinP h):SetP h:=by
 intro c G X s rows p ks ts i htr hloc h0 h1
 have hbg:=hloc.bg (by intro hh; rw [hh] at h1; simp at h1; omega)
 have hle:=bg_len hbg
 have hk:=hbg.keys
 simp only at hk
 obtain ⟨i,rfl⟩:=Int.eq_ofNat_of_zero_le h0
 obtain ⟨A,B,L,a,R,rfl,rfl,hA,hL⟩:=split1 (j:=i) hle (by omega)
 subst hL
 have w0:SWin c G X s p (A++B) (L++a::R) (L.length:Nat) rows X s.m A [] B L [a] R a :=
  ⟨by simp,by simp,hA,rfl,by omega,by simp; omega,fun _ hq=>hq,htr,Via.refl hloc.rep hloc.nod,hloc.ok a (by simp),Nat.le_refl _,fun hq=>hq a (by simp),Less.refl⟩
 refine CS.mk (fn:=Tryz.f101) rfl rfl rfl rfl ?_
 repeat refine xQ ?_
 refine xG rfl ?_
 refine xP rfl rh rfl ?_
 refine xN ?_
 repeat refine xQ ?_
 refine LS.block ?_
 refine LS.loopJ [0,1,2] (fun z a' L'=>∃ X' m' A' Y B' L1 M R' w,SWin c G X s p (A++B) (L++a::R) (L.length:Nat) L' X' m' A' Y B' L1 M R' w/\z=L1.length+R'.length/\a'=[ptr c.rt,.int .i64 (p:Nat),.int .i64 (L1.length:Nat),jn,jn,jn,jn,jn,jn,jn,jn,jn,jn,jn,jn,jn,jn,jn,jn,jn,jn]) (n:=L.length+R.length) rfl ⟨X,s.m,A,[],B,L,[a],R,a,w0,rfl,rfl⟩ ?_
 rintro z a' L' ⟨X',m',A',Y,B',L1,M,R',w,hw,rfl,rfl⟩
 have hl2:=hw.loc hbg hloc.ok
 have hlen:L1.length+R'.length<=1000:=by
  have h2:=hw.ht
  have h3:=congrArg List.length h2
  simp only [List.length_append,List.length_cons] at h3 hle hk
  omega
 have hbg2:=hl2.bg (by simp)
 have hle2:=bg_len hbg2
 simp only [List.length_append,List.length_cons] at hle2
 have hlaw:=hw.la
 repeat refine xQ ?_
 refine LS.block ?_
 repeat refine xQ ?_
 refine LS.block ?_
 repeat refine xQ ?_
 refine xG rfl ?_
 iterate 3 refine xP rfl rh rfl ?_
 refine xA noGo rfl (fun _=>rfl) ((hj c G X' ⟨m',s.root,s.cnt⟩ L' p _ _ (L1.length:Nat) hw.tr hl2 (by omega) (by omega)).mono ?_)
 rintro u L2 hjp
 rcases hjp with ⟨rfl,htr2,hnj⟩ | ⟨rfl,X2,m2,A1,k,B1,L3,a3,b,R1,w2,e1,e2,e3,e4,e5,e6,e7,e8,e9,e10,e11⟩
 ·refine ⟨_,rfl,?_⟩
  refine xP rfl rh rfl ?_
  refine xN ?_
  repeat refine xQ ?_
  refine xC rfl (fun hc=>?_) (fun hc=>?_)
  ·cases hc
  repeat refine xQ ?_
  refine xG rfl ?_
  iterate 3 refine xP rfl rh rfl ?_
  refine xP rfl (e_sub (n:=1) rfl rfl rfl (in_i64 (by omega) (by omega))) rfl ?_
  refine xA noGo rfl (fun _=>rfl) ((hj c G X' ⟨m',s.root,s.cnt⟩ L2 p _ _ ((L1.length:Nat) - 1) htr2 hl2 (by omega) (by omega)).mono ?_)
  rintro u L3 hjp
  rcases hjp with ⟨rfl,htr3,hnj2⟩ | ⟨rfl,X2,m2,A1,k,B1,L4,a3,b,R1,w2,e1,e2,e3,e4,e5,e6,e7,e8,e9,e10,e11⟩
  ·refine ⟨_,rfl,?_⟩
   refine xP rfl rh rfl ?_
   refine xN ?_
   repeat refine xQ ?_
   refine xC rfl (fun hc=>?_) (fun hc=>?_)
   ·cases hc
   repeat refine xQ ?_
   refine xG rfl ?_
   iterate 2 refine xP rfl rh rfl ?_
   refine xN ?_
   refine xT ⟨_,fun _ _=>rfl,?_⟩
   exact ⟨X',m',A',Y,B',L1,M,R',w,{ hw with tr:=htr3 },rfl,hnj2,hnj⟩
  ·refine ⟨_,rfl,?_⟩
   refine xP rfl rh rfl ?_
   refine xN ?_
   repeat refine xQ ?_
   refine xC rfl (fun hc=>?_) (fun hc=>?_)
   ·repeat refine xQ ?_
    refine xG rfl ?_
    refine xP rfl rh rfl ?_
    refine xP rfl (e_sub (n:=1) rfl rfl rfl (in_i64 (by omega) (by omega))) rfl ?_
    refine xP rfl rh rfl ?_
    refine xN ?_
    have hLL:L1.length=(L4++[a3]).length:=by simp; omega
    have hAA:A'.length=(A1++[k]).length:=by simp; omega
    have e2':L1++w::R'=(L4++[a3])++b::R1:=by rw [e2]; simp
    have e1':A'++B'=(A1++[k])++B1:=by rw [e1]; simp
    obtain ⟨rfl,g1⟩:=List.append_inj e2' hLL
    obtain ⟨rfl,rfl⟩:=List.append_inj e1' hAA
    simp only [List.cons.injEq] at g1
    obtain ⟨rfl,rfl⟩:=g1
    have e7':Via m' m2 (inn p (A1++k::B') (L4++a3::w::R')) (inn p (A1++B') (L4++w2::R')):=by simpa using e7
    refine ⟨L4.length+R'.length,by simp <;> omega,X2,m2,A1,k::Y,B',L4,a3::M,R',w2,hw.left e5 e6 e7' e8 e9 e10 e11,rfl,?_⟩
    simp
    rfl
   ·cases hc
 ·refine ⟨_,rfl,?_⟩
  refine xP rfl rh rfl ?_
  refine xN ?_
  have hLL:L1.length=L3.length:=by omega
  have hAA:A'.length=A1.length:=by omega
  obtain ⟨rfl,g1⟩:=List.append_inj e2 hLL
  obtain ⟨rfl,rfl⟩:=List.append_inj e1 hAA
  simp only [List.cons.injEq] at g1
  obtain ⟨rfl,rfl⟩:=g1
  repeat refine xQ ?_
  refine xC rfl (fun hc=>?_) (fun hc=>?_)
  ·refine LS.skip ?_
   exact ⟨L1.length+R1.length,by simp,X2,m2,A',Y++[k],B1,L1,M++[b],R1,w2,hw.right e5 e6 e7 e8 e9 e10 e11,rfl,rfl⟩
  ·cases hc
end Go.Proofs.YtlmmddfhoabjfaaGreat
end
section
namespace Go.Proofs.YtlmmddfhoabjfaaGreat
open Go.Am
theorem NJ.idx {h:Nat} {ks:List Tx} {ts:List (Tr h)} {j:Nat}:NJ ks ts (j:Nat)↔∀ k a b,ks[j]?=some k->ts[j]?=some a->ts[j+1]?=some b->fitsN (joinN (nd h a) k (nd h b))=false:=by
 constructor
 ·intro hn k a b h1 h2 h3
  obtain ⟨g1,e1⟩:=List.getElem?_eq_some_iff.1 h1
  obtain ⟨g2,e2⟩:=List.getElem?_eq_some_iff.1 h2
  obtain ⟨g3,e3⟩:=List.getElem?_eq_some_iff.1 h3
  refine hn (ks.take j) k (ks.drop (j+1)) (ts.take j) a b (ts.drop (j+2)) ?_ ?_ (by simp; omega) (by simp; omega)
  ·subst e1; simp
  ·subst e2 e3; simp
 ·intro hi A k B L a b R h1 h2 h3 h4
  have h4:L.length=j:=by omega
  refine hi k a b ?_ ?_ ?_
  ·rw [h1,← h4,← h3]; simp
  ·rw [h2,← h4]; simp
  ·rw [h2,← h4]; simp
theorem NJ.all {h:Nat} {ks:List Tx} {ts:List (Tr h)} (hn:∀ j:Nat,NJ ks ts (j:Nat)):∀ i,NJ ks ts i:=fun i=>by
 by_cases h0:i < 0
 ·exact NJ.neg h0
 ·obtain ⟨j,rfl⟩:=Int.eq_ofNat_of_zero_le (show 0<=i by omega)
  exact hn j
theorem win_nj {h:Nat} {A Y B:List Tx} {L M R:List (Tr h)} {w:Tr h} (la:A.length=L.length) (lm:M.length=Y.length+1) (h1:NJ (A++B) (L++w::R) ((L.length:Int) - 1)) (h2:NJ (A++B) (L++w::R) (L.length:Int))
  (hlo:∀ j:Nat,j+1 < L.length->NJ (A++(Y++B)) (L++(M++R)) (j:Nat)) (J:Nat) (hhi:∀ j:Nat,L.length+Y.length < j->j < J+Y.length->NJ (A++(Y++B)) (L++(M++R)) (j:Nat)):∀ j:Nat,j < J->NJ (A++B) (L++w::R) (j:Nat):=fun j hJ=>by
 rcases Nat.lt_trichotomy j L.length with hj | hj | hj
 ·by_cases hj1:j+1=L.length
  ·have:((j:Nat):Int)=(L.length:Int) - 1:=by omega
   rw [this]; exact h1
  ·have hn:=NJ.idx.1 (hlo j (by omega))
   refine NJ.idx.2 fun k a b e1 e2 e3=>hn k a b ?_ ?_ ?_
   ·rw [List.getElem?_append_left (by omega)] at e1 ⊢; exact e1
   ·rw [List.getElem?_append_left (by omega)] at e2 ⊢; exact e2
   ·rw [List.getElem?_append_left (by omega)] at e3 ⊢; exact e3
 ·rw [hj]; exact h2
 ·have hn:=NJ.idx.1 (hhi (j+Y.length) (by omega) (by omega))
  have f1:∀ i,L.length < i->(L++w::R)[i]?=R[i - L.length - 1]?:=fun i hi=>by
   obtain ⟨d,rfl⟩:∃ d,i=L.length+1+d:=⟨i - L.length - 1,by omega⟩
   rw [List.getElem?_append_right (by omega),show L.length+1+d - L.length=d+1 by omega,List.getElem?_cons_succ]
   congr 1 <;> omega
  have f2:∀ i,L.length < i->(L++(M++R))[i+Y.length]?=R[i - L.length - 1]?:=fun i hi=>by
   rw [List.getElem?_append_right (by omega),List.getElem?_append_right (by omega)]
   congr 1; omega
  refine NJ.idx.2 fun k a b e1 e2 e3=>hn k a b ?_ ?_ ?_
  ·rw [List.getElem?_append_right (by omega)] at e1
   rw [List.getElem?_append_right (by omega),List.getElem?_append_right (by omega)]
   rw [← e1]; congr 1; omega
  ·rw [f2 j hj,← f1 j hj]; exact e2
  ·rw [show j+Y.length+1=(j+1)+Y.length by omega,f2 (j+1) (by omega),← f1 (j+1) (by omega)]; exact e3
theorem settle_out {h:Nat} (hj:JoinP h) {c:Cfg} {G X:RL} {s:TSt} {L:RL} {p:Nat} {ks:List Tx} {ts:List (Tr h)} {i:Int} (htr:TR c G X s L) (hloc:Loc s.m p ks ts) (hi:i < 0∨(ts.length:Int)<=i) (h1:-8<=i) (h2:i<=1000) :
  CS Tryz.prog 101 [ptr c.rt,.int .i64 (p:Nat),.int .i64 i] L fun u L'=>u=.int .i64 i/\TR c G X s L':=by
 have hno:∀ (L2:RL) (u:Value) (q:Int),q<=i->(i<=q+1)->JPost c G X s p ks ts q u L2->u=.bool false/\TR c G X s L2:=fun L2 u q hq hq2 hp=>by
  rcases hp with ⟨rfl,h3,_⟩ | ⟨rfl,X2,m2,A1,k,B1,L3,a3,b,R1,w2,e1,e2,e3,e4,_⟩
  ·exact ⟨rfl,h3⟩
  ·exfalso
   rw [e2] at hi
   simp only [List.length_append,List.length_cons] at hi
   omega
 refine CS.mk (fn:=Tryz.f101) rfl rfl rfl rfl ?_
 repeat refine xQ ?_
 refine xG rfl ?_
 refine xP rfl rh rfl ?_
 refine xN ?_
 repeat refine xQ ?_
 refine LS.block ?_
 refine LS.loopJ [0,1,2] (fun z a' L'=>z=0/\L'=L/\a'=[ptr c.rt,.int .i64 (p:Nat),.int .i64 i,jn,jn,jn,jn,jn,jn,jn,jn,jn,jn,jn,jn,jn,jn,jn,jn,jn,jn]) (n:=0) rfl ⟨rfl,rfl,rfl⟩ ?_
 rintro z a' L' ⟨rfl,rfl,rfl⟩
 repeat refine xQ ?_
 refine LS.block ?_
 repeat refine xQ ?_
 refine LS.block ?_
 repeat refine xQ ?_
 refine xG rfl ?_
 iterate 3 refine xP rfl rh rfl ?_
 refine xA noGo rfl (fun _=>rfl) ((hj c G X s L' p ks ts i htr hloc (by omega) (by omega)).mono ?_)
 rintro u L2 hjp
 obtain ⟨rfl,htr2⟩:=hno _ _ _ (by omega) (by omega) hjp
 refine ⟨_,rfl,?_⟩
 refine xP rfl rh rfl ?_
 refine xN ?_
 repeat refine xQ ?_
 refine xC rfl (fun hc=>?_) (fun hc=>?_)
 ·cases hc
 repeat refine xQ ?_
 refine xG rfl ?_
 iterate 3 refine xP rfl rh rfl ?_
 refine xP rfl (e_sub (n:=1) rfl rfl rfl (in_i64 (by omega) (by omega))) rfl ?_
 refine xA noGo rfl (fun _=>rfl) ((hj c G X s L2 p ks ts (i - 1) htr2 hloc (by omega) (by omega)).mono ?_)
 rintro u L3 hjp
 obtain ⟨rfl,htr3⟩:=hno _ _ _ (by omega) (by omega) hjp
 refine ⟨_,rfl,?_⟩
 refine xP rfl rh rfl ?_
 refine xN ?_
 repeat refine xQ ?_
 refine xC rfl (fun hc=>?_) (fun hc=>?_)
 ·cases hc
 repeat refine xQ ?_
 refine xG rfl ?_
 iterate 2 refine xP rfl rh rfl ?_
 refine xN ?_
 refine xT ⟨_,fun _ _=>rfl,?_⟩
 exact ⟨rfl,htr3⟩
theorem join_neg {c:Cfg} {G X:RL} {s:TSt} {L:RL} {p:Nat} {n:Nd} {i:Int} (htr:TR c G X s L) (hm:s.m p=some n) (hi:i < 0) (h1:-10<=i) :
  CS Tryz.prog 131 [ptr c.rt,.int .i64 (p:Nat),.int .i64 i] L fun u L'=>u=.bool false/\TR c G X s L':=by
 obtain ⟨T,es,ck,ws,wk,g,rfl,hN,hp,hg,hmr⟩:=htr.now
 obtain ⟨r,hgr0,v1,v2,v3,hr,hP⟩:=(hmr p).2 _ hm
 have hgr:(g p).getD (.pointer none)=ptr r:=by rw [hgr0]; rfl
 refine CS.mk (fn:=Tryz.f131) rfl rfl rfl rfl ?_
 repeat refine xQ ?_
 refine xG rfl ?_
 refine OS.fresh rfl (e_boxV (v:=.int .i64 i) (cs:=[.int .i64 i]) rfl rfl rfl rfl rfl) (fun _=>rfl) (fun r5=>?_)
 refine xP rfl rh rfl ?_
 refine OS.sub Sub.inQ ?_
 refine xN ?_
 repeat refine xQ ?_
 refine xG rfl ?_
 iterate 4 refine xP rfl rh rfl ?_
 refine xR rfl (e_load 2 rfl rfl rfl rfl rfl) rfl ?_
 refine xP rfl rh rfl ?_
 refine xR rfl (e_get hg (by simp) rfl rfl rfl rfl (fun _=>rfl) rfl) rfl ?_
 rw [hgr]
 refine xP rfl rh rfl ?_
 refine xN ?_
 repeat refine xQ ?_
 refine LS.drawn noGo mixed [(0,false),(1,false),(2,false),(3,false),(4,false),(5,false),(6,false),(7,false),(8,false),(9,false),(10,false),(11,false)] rfl rfl (by kernel_rfl) ?_
 refine xE rfl rfl (e_load 5 rfl rfl rfl rfl rfl) rfl ?_
 have hb:(!ileB 0 i)=true:=by rw [ileB_eq,decide_eq_false (by omega)]; rfl
 refine xD rfl rfl (e_ib rh (hb)) rfl ?_
 refine xD rfl rfl rh rfl ?_
 iterate 8 refine xS rfl rfl rfl ?_
 refine xD rfl rfl rh rfl ?_
 refine xM ?_
 repeat refine xQ ?_
 refine xC rfl (fun hc=>?_) (fun hc=>?_)
 ·repeat refine xQ ?_
  refine xG rfl ?_
  refine xP rfl rh rfl ?_
  refine OS.sub (Sub.drop 5 rfl) ?_
  refine xN ?_
  refine xT ⟨_,fun _ _=>rfl,?_⟩
  exact ⟨rfl,⟨T,es,ck,ws,wk,hN,rfl,hp⟩⟩
 ·cases hc
theorem settle_neg {c:Cfg} {G X:RL} {s:TSt} {L:RL} {p:Nat} {n:Nd} {i:Int} (htr:TR c G X s L) (hm:s.m p=some n) (hi:i < 0) (h1:-8<=i) :
  CS Tryz.prog 101 [ptr c.rt,.int .i64 (p:Nat),.int .i64 i] L fun u L'=>u=.int .i64 i/\TR c G X s L':=by
 refine CS.mk (fn:=Tryz.f101) rfl rfl rfl rfl ?_
 repeat refine xQ ?_
 refine xG rfl ?_
 refine xP rfl rh rfl ?_
 refine xN ?_
 repeat refine xQ ?_
 refine LS.block ?_
 refine LS.loopJ [0,1,2] (fun z a' L'=>z=0/\L'=L/\a'=[ptr c.rt,.int .i64 (p:Nat),.int .i64 i,jn,jn,jn,jn,jn,jn,jn,jn,jn,jn,jn,jn,jn,jn,jn,jn,jn,jn]) (n:=0) rfl ⟨rfl,rfl,rfl⟩ ?_
 rintro z a' L' ⟨rfl,rfl,rfl⟩
 repeat refine xQ ?_
 refine LS.block ?_
 repeat refine xQ ?_
 refine LS.block ?_
 repeat refine xQ ?_
 refine xG rfl ?_
 iterate 3 refine xP rfl rh rfl ?_
 refine xA noGo rfl (fun _=>rfl) ((join_neg htr hm hi (by omega)).mono ?_)
 rintro u L2 ⟨rfl,htr2⟩
 refine ⟨_,rfl,?_⟩
 refine xP rfl rh rfl ?_
 refine xN ?_
 repeat refine xQ ?_
 refine xC rfl (fun hc=>?_) (fun hc=>?_)
 ·cases hc
 repeat refine xQ ?_
 refine xG rfl ?_
 iterate 3 refine xP rfl rh rfl ?_
 refine xP rfl (e_sub (n:=1) rfl rfl rfl (in_i64 (by omega) (by omega))) rfl ?_
 refine xA noGo rfl (fun _=>rfl) ((join_neg (i:=i - 1) htr2 hm (by omega) (by omega)).mono ?_)
 rintro u L3 ⟨rfl,htr3⟩
 refine ⟨_,rfl,?_⟩
 refine xP rfl rh rfl ?_
 refine xN ?_
 repeat refine xQ ?_
 refine xC rfl (fun hc=>?_) (fun hc=>?_)
 ·cases hc
 repeat refine xQ ?_
 refine xG rfl ?_
 iterate 2 refine xP rfl rh rfl ?_
 refine xN ?_
 refine xT ⟨_,fun _ _=>rfl,?_⟩
 exact ⟨rfl,htr3⟩
theorem seam_0:SeamP 0:=by
 intro c G X s L a b k htr hrep hnod hok ha hb
 have hz:(nd 0 a).kids.length=0:=rfl
 have hno:no 0 (mrg 0 a k b)=no 0 a:=rfl
 have hm:=hrep.top
 rw [hno] at hm
 refine (settle_neg htr hm (by rw [hz]; decide) (by rw [hz]; decide)).mono ?_
 rintro u L' ⟨_,h2⟩
 exact ⟨X,s.m,mrg 0 a k b,fun _ hq=>hq,h2,Via.refl hrep hnod,hok,Nat.le_refl _,fun _ _=>trivial⟩
theorem seam_s {h:Nat} (hs:SetP h):SeamP (h+1):=by
 intro c G X s L a b k htr hrep hnod hok ha hb
 obtain ⟨pa,ka,ta,rfl⟩:=inn_eta a
 obtain ⟨pb,kb,tb,rfl⟩:=inn_eta b
 have la:=ha.len
 have lb:=hb.len
 have hloc:Loc s.m pa (ka++k::kb) (ta++tb):=⟨hrep,hnod,fun q hq=>by
  rcases List.mem_append.1 hq with h1 | h1
  ·exact ha.kid q h1
  ·exact hb.kid q h1,.inl (Bg.of (show fitsN (nd (h+1) (mrg (h+1) (inn pa ka ta) k (inn pb kb tb)))=true from hok.fits))⟩
 have hz:(nd (h+1) (inn pa ka ta)).kids.length=ta.length:=by simp [nos]
 rw [hz]
 refine (hs c G X s L pa _ _ ((ta.length:Int) - 1) htr hloc (by omega) (by rw [List.length_append]; omega)).mono ?_
 rintro u L' ⟨X',m',A,Y,B,L1,M,R,w,hw,rfl,n1,n2⟩
 have hl2:=hw.loc (hloc.bg (by intro hh; rw [List.append_eq_nil_iff] at hh; rw [hh.1] at la; simp at la)) hloc.ok
 refine ⟨X',m',inn pa (A++B) (L1++w::R),hw.hX,hw.tr,hw.via,⟨hw.less.fits hok.fits,hl2.ok⟩,hw.fr,fun td1 td2=>?_⟩
 have hkid:∀ q∈ta++tb,Tdy h q:=fun q hq=>by
  rcases List.mem_append.1 hq with h1 | h1
  ·exact (tdy_inn.1 td1).2 q h1
  ·exact (tdy_inn.1 td2).2 q h1
 have ht:=hw.ht
 have hk:=hw.hk
 rw [tdy_inn]
 refine ⟨NJ.all fun j=>win_nj hw.la hw.lm n1 n2 (fun j hj=>?_) (j+1) (fun j' hj _=>?_) j (by omega),fun q hq=>?_⟩
 ·rw [← hk,← ht]
  have hlo:=hw.lo
  have hn:=NJ.idx.1 ((tdy_inn.1 td1).1 (j:Nat))
  refine NJ.idx.2 fun k' a b e1 e2 e3=>hn k' a b ?_ ?_ ?_
  ·rw [List.getElem?_append_left (by omega)] at e1; exact e1
  ·rw [List.getElem?_append_left (by omega)] at e2; exact e2
  ·rw [List.getElem?_append_left (by omega)] at e3; exact e3
 ·rw [← hk,← ht]
  have hhi:=hw.hi
  have hlm:=hw.lm
  have hn:=NJ.idx.1 ((tdy_inn.1 td2).1 ((j' - ta.length:Nat)))
  refine NJ.idx.2 fun k' a b e1 e2 e3=>hn k' a b ?_ ?_ ?_
  ·rw [List.getElem?_append_right (by omega),show j' - ka.length=(j' - ta.length)+1 by omega,List.getElem?_cons_succ] at e1; exact e1
  ·rw [List.getElem?_append_right (by omega)] at e2; exact e2
  ·rw [List.getElem?_append_right (by omega),show j'+1 - ta.length=(j' - ta.length)+1 by omega] at e3; exact e3
 ·rcases List.mem_append.1 hq with h1 | h1
  ·exact hkid q (by rw [ht]; simp [h1])
  ·rcases List.mem_cons.1 h1 with rfl | h1
   ·exact hw.td fun q hq=>hkid q (by rw [ht]; simp [hq])
   ·exact hkid q (by rw [ht]; simp [h1])
theorem join_all:∀ h,JoinP h
 | 0=>join_of seam_0
 | h+1=>join_of (seam_s (settle_of (join_all h)))
theorem settle_all (h:Nat):SetP h:=settle_of (join_all h)
end Go.Proofs.YtlmmddfhoabjfaaGreat
end
section
namespace Go.Am
section
variable {P:Program} {o:Oper} {a:Slots} {L X:RL}
theorem OS.slice3 {ops rest:List Oper} {K:Slots->RL->Prop} {e t:TypeId} {x y z:Operand} {k k':IntKind} {sz n u:Nat} {v:Value} {cs:List Value} (hs:PL e sz X v n cs) (hw:wantedB ops o a=true) (ho:o.op=.slice t x none (some y) (some z)) (hx:aev a x=some v) (hy:aev a y=some (.int k (u:Nat))) (hz':aev a z=some (.int k' (u:Nat)))
  (ht:P.underlying t=some (.slice e)) (hz:sizeB P e=some sz) (hu:u<=n) (hub:u<=1000000000000) (kk:∀ v',PL e sz X v' u (cs.take (u * sz))->∃ a₁,putAt a o.dst v'=some a₁/\OS P ops rest a₁ L K):OS P ops (o::rest) a L K:=by
 obtain ⟨v',h1,h2⟩:=e_slice3 hs ho hx hy hz' ht hz hu hub
 obtain ⟨a₁,ep,k⟩:=kk v' h1
 exact xP hw h2 ep k
theorem ODS.slice3 {ops:List Oper} {ms:List Nat} {sched:List (Nat × Bool)} {dn:Dn} {q:Nat} {K:Slots->RL->Prop} {e t:TypeId} {x y z:Operand} {k k':IntKind} {sz n u:Nat} {v:Value} {cs:List Value} (hs:PL e sz X v n cs) (hq:ops[q]?=some o) (hw:wantedB ops o a=true) (ho:o.op=.slice t x none (some y) (some z)) (hx:aev a x=some v) (hy:aev a y=some (.int k (u:Nat))) (hz':aev a z=some (.int k' (u:Nat)))
  (ht:P.underlying t=some (.slice e)) (hz:sizeB P e=some sz) (hu:u<=n) (hub:u<=1000000000000) (kk:∀ v',PL e sz X v' u (cs.take (u * sz))->∃ a₁,putAt a o.dst v'=some a₁/\ODS P ops ms K sched dn a₁ L):ODS P ops ms K ((q,false)::sched) dn a L:=by
 obtain ⟨v',h1,h2⟩:=e_slice3 hs ho hx hy hz' ht hz hu hub
 obtain ⟨a₁,ep,k⟩:=kk v' h1
 exact xD hq hw h2 ep k
theorem e_slicePLa {e:TypeId} {sz n:Nat} {v:Value} {cs:List Value} {X:RL} {o:Oper} {a:Slots} {t:TypeId} {x:Operand} {lo hi:Option Operand} {lo' hi':Option Value} {l u:Nat} (hs:PL e sz X v n cs) (ho:o.op=.slice t x lo hi none) (hx:aev a x=some v)
  (hlo:optEv a lo=some lo') (hhi:optEv a hi=some hi') (bl:boundB lo' 0=some l) (bu:boundB hi' n=some u) (ht:P.underlying t=some (.slice e)) (hz:sizeB P e=some sz) (hu:u<=n) (hl:l<=u) :
  ∃ v',PL e sz X v' (u - l) ((cs.drop (l * sz)).take ((u - l) * sz))/\∀ L:RL,(∀ p,p∈X->p∈L)->∀ h,Has h L->opB P a o h=some (.val v' h):=by
 have hm:optEv a none=some none:=rfl
 have h2:Nat.ble l u=true:=Nat.ble_eq_true_of_le hl
 rcases hs with ⟨rfl,rfl,rfl⟩ | ⟨r,off,cap,cs₀,rfl,hmem,hcut,hnc,hco⟩
 ·have hu0:u=0:=by omega
  subst hu0
  have hl0:l=0:=by omega
  subst hl0
  refine ⟨.slice none 0 0,.inl ⟨rfl,rfl,by simp⟩,fun L hX h _=>?_⟩
  have hc:Nat.beq 0 openCap=false:=beq_false (by decide)
  have h1:Nat.ble 0 (farB 0 0)=true:=rfl
  have h3:rowOk h e none 0=true:=by unfold rowOk; rw [hc]; rfl
  simp only [opB,ho,hx,hlo,hhi,hm,sliceB,ht,bu,bl,hz,h1,h2,h3,Bool.true_and,moved,hc,ret]
 ·have hlen:=(cut_eq hcut).2.2.1
  have hcut':cut cs₀ (off+l * sz) ((u - l) * sz)=some ((cs.drop (l * sz)).take ((u - l) * sz)):=by
   refine cut_cut hcut (cut_of ?_)
   rw [hlen,← Nat.add_mul]
   exact Nat.mul_le_mul_right _ (by omega)
  by_cases hne:cap=openCap
  ·subst hne
   refine ⟨.slice (some ⟨r,off+l * sz,none⟩) (u - l) openCap,.inr ⟨r,_,_,cs₀,rfl,hmem,hcut',by omega,Nat.le_refl _⟩,fun L hX h H=>?_⟩
   have hcb:Nat.beq openCap openCap=true:=beq_true rfl
   have h1:Nat.ble u (farB n openCap)=true:=by unfold farB; rw [hcb]; exact Nat.ble_eq_true_of_le hu
   have hg:getRow h r=some (e,cs₀):=by unfold getRow; rw [H.get _ (hX _ hmem)]
   have h3:rowOk h e (some ⟨r,off,none⟩) openCap=true:=by unfold rowOk; rw [hcb]; simp only [hg,beq_true rfl]
   simp only [opB,ho,hx,hlo,hhi,hm,sliceB,ht,bu,bl,hz,h1,h2,h3,Bool.true_and,moved,hcb,ret]
  ·refine ⟨.slice (some ⟨r,off+l * sz,none⟩) (u - l) (cap - l),.inr ⟨r,_,_,cs₀,rfl,hmem,hcut',by omega,by omega⟩,fun L hX h H=>?_⟩
   have hcb:Nat.beq cap openCap=false:=beq_false hne
   have h1:Nat.ble u (farB n cap)=true:=by unfold farB; rw [hcb]; exact Nat.ble_eq_true_of_le (Nat.le_trans hu hnc)
   have h3:rowOk h e (some ⟨r,off,none⟩) cap=true:=by unfold rowOk; rw [hcb]; exact Nat.ble_eq_true_of_le hco
   simp only [opB,ho,hx,hlo,hhi,hm,sliceB,ht,bu,bl,hz,h1,h2,h3,Bool.true_and,moved,hcb,ret]
theorem ODS.slicePLa {ops:List Oper} {ms:List Nat} {sched:List (Nat × Bool)} {dn:Dn} {q:Nat} {o:Oper} {a:Slots} {X L:RL} {K:Slots->RL->Prop} {e t:TypeId} {x:Operand} {sz n l u:Nat} {v:Value} {cs:List Value} {lo hi:Option Operand} {lo' hi':Option Value} (hs:PL e sz X v n cs) (hX:∀ p,p∈X->p∈L) (hq:ops[q]?=some o) (hw:wantedB ops o a=true) (ho:o.op=.slice t x lo hi none) (hx:aev a x=some v)
  (hlo:optEv a lo=some lo') (hhi:optEv a hi=some hi') (bl:boundB lo' 0=some l) (bu:boundB hi' n=some u) (ht:P.underlying t=some (.slice e)) (hz:sizeB P e=some sz) (hu:u<=n) (hl:l<=u)
  (k:∀ v',PL e sz X v' (u - l) ((cs.drop (l * sz)).take ((u - l) * sz))->(∀ L:RL,(∀ p,p∈X->p∈L)->∀ h,Has h L->opB P a o h=some (.val v' h))->∃ a₁,putAt a o.dst v'=some a₁/\ODS P ops ms K sched ((q,a,v')::dn) a₁ L):ODS P ops ms K ((q,false)::sched) dn a L:=by
 obtain ⟨v',h1,h2⟩:=e_slicePLa hs ho hx hlo hhi bl bu ht hz hu hl
 obtain ⟨a₁,ep,k⟩:=k v' h1 h2
 exact xE hq hw (h2 L hX) ep k
theorem res_cell3 (i j:Nat) {x y z r off r' off':Nat} {t t':TypeId} {row row':ARow} {cs cs':List Value} {v u w:Value} (hx:a[x]?=some (.pointer (some ⟨r,off,none⟩))) (hL:L[i]?=some (r,row)) (hc:rdRow row=some cs) (hv:partB P t cs off=some v) (hy:a[y]?=some u)
  (hz:a[z]?=some (.pointer (some ⟨r',off',none⟩))) (hL':L[j]?=some (r',row')) (hc':rdRow row'=some cs') (hv':partB P t' cs' off'=some w):∀ h,Has h L->resultsB P a h [.cell x t,.tmp y,.cell z t']=some [v,u,w]:=by
 intro h H
 simp only [resultsB,hx,hy,hz,loadB,H.read hL hc,H.read hL' hc',hv,hv']
end
end Go.Am
namespace Go.Proofs.YtlmmddfhoabjfaaGreat
open Go.Am
theorem e_build0 {a:Slots} {o:Oper} {i0:Operand} {b:Bool} (ho:o.op=.build 38 #[(0,i0)]) (h0:aev a i0=some (.bool b)) :
  ∀ h,opB Tryz.prog a o h=some (.val (ndV b (.slice none 0 0) (.slice none 0 0) (.slice none 0 0)) h):=by
 intro h
 simp only [opB,ho,evParts,h0]; rfl
theorem e_build1 {a:Slots} {o:Oper} {i0 i1:Operand} {b:Bool} {v1:Value} (s1:IsSl v1) (ho:o.op=.build 38 #[(0,i0),(1,i1)]) (h0:aev a i0=some (.bool b)) (h1:aev a i1=some v1) :
  ∀ h,opB Tryz.prog a o h=some (.val (ndV b v1 (.slice none 0 0) (.slice none 0 0)) h):=by
 intro h
 rcases s1 with rfl | ⟨r1,o1,n1,c1,rfl⟩ <;> (simp only [opB,ho,evParts,h0,h1]; rfl)
theorem isSl0:IsSl (.slice none 0 0):=.inl rfl
def cutL (n:Nd) (at':Nat):Nd:=⟨n.leaf,n.ks.take at',if n.leaf then n.vs.take at' else [],if n.leaf then [] else n.kids.take (at'+1)⟩
def cutR (n:Nd) (at':Nat):Nd:=⟨n.leaf,n.ks.drop (if n.leaf then at' else at'+1),if n.leaf then n.vs.drop at' else [],if n.leaf then [] else n.kids.drop (at'+1)⟩
theorem pl_take {X:RL} {e:TypeId} {v:Value} {n u:Nat} {cs cs':List Value} (h:PL e 1 X v u (cs.take (u * 1))) (hc:cs.take u=cs'):PL e 1 X v u cs':=by
 rw [Nat.mul_one,hc] at h; exact h
theorem pl_drop {X:RL} {e:TypeId} {v:Value} {n l:Nat} {cs cs':List Value} (h:PL e 1 X v (n - l) ((cs.drop (l * 1)).take ((n - l) * 1))) (hl:cs.length=n) (hc:cs.drop l=cs'):PL e 1 X v (n - l) cs':=by
 rw [Nat.mul_one,Nat.mul_one,hc,List.take_of_length_le (by rw [← hc,List.length_drop,hl]; omega)] at h; exact h
theorem pl_nil {X:RL} {e:TypeId} {sz:Nat}:PL e sz X (.slice none 0 0) 0 []:=.inl ⟨rfl,rfl,rfl⟩
theorem GoodN.leafv {n:Nd} (h:GoodN n) (hl:n.leaf=true):n.vs.length=n.ks.length:=by
 rcases h with ⟨_,h,_⟩ | ⟨h,_⟩
 ·exact h
 ·rw [hl] at h; cases h
theorem GoodN.kidsz {n:Nd} (h:GoodN n) (hl:n.leaf=false):n.kids.length=n.ks.length+1:=by
 rcases h with ⟨h,_⟩ | ⟨_,h,_⟩
 ·rw [hl] at h; cases h
 ·exact h
set_option maxHeartbeats 4000000 in
theorem cut_ct {X L:RL} {r at':Nat} {n:Nd} (hX:∀ p,p∈X->p∈L) (hN:NodeAt X r n) (hs:Sm n) (hg:GoodN n) (hat:at' < n.ks.length) :
  CS Tryz.prog 178 [ptr r,.int .i64 (at':Nat)] L fun u L'=>∃ w1 w2 w3 x1 x2 x3,u=.tuple #[ndV n.leaf w1 w2 w3,txt n.ks[at'],ndV n.leaf x1 x2 x3]/\L'=L/\PN X (cutL n at') w1 w2 w3/\PN X (cutR n at') x1 x2 x3:=by
 suffices g:CS Tryz.prog 178 [ptr r,.int .i64 (at':Nat)] L fun u L'=>∃ x y w1 w2 w3 x1 x2 x3,u=.tuple #[ndV n.leaf w1 w2 w3,txt n.ks[at'],ndV n.leaf x1 x2 x3]/\L'=x::y::L/\PN X (cutL n at') w1 w2 w3/\PN X (cutR n at') x1 x2 x3 by
  exact g.less fun u L' ⟨x,y,w1,w2,w3,x1,x2,x3,h1,h2,h3⟩=>⟨_,by rw [h2]; exact Sub.suffix (X:=[x,y]),w1,w2,w3,x1,x2,x3,h1,rfl,h3⟩
 obtain ⟨v1,v2,v3,hr,hP⟩:=hN
 obtain ⟨lf,ks,vs,kids⟩:=n
 have e1:=hs.k; have e2:=hs.v; have e3:=hs.z
 have gl:=hg.leafv; have gk:=hg.kidsz
 simp only at e1 e2 e3 hat gl gk hr
 have lk:(tx ks).length=ks.length:=by simp
 have lv:(tx vs).length=vs.length:=by simp
 have lz:(nums kids).length=kids.length:=by simp
 have hm:∀ (x y:Nat × ARow) p,p∈X->p∈x::y::L:=fun x y p hp=>List.mem_cons_of_mem _ (List.mem_cons_of_mem _ (hX p hp))
 refine CS.mk (fn:=Tryz.f178) rfl rfl rfl rfl ?_
 repeat refine xQ ?_
 refine xG rfl ?_
 refine OS.fresh rfl (e_new (fun _=>rfl) rfl) (fun _=>rfl) (fun r4=>?_)
 refine xP rfl rh rfl ?_
 refine OS.fresh rfl (e_new (fun _=>rfl) rfl) (fun _=>rfl) (fun r6=>?_)
 refine xN ?_
 have m1:=hm (r6,zRow) (r4,zRow) _ hr
 repeat refine xQ ?_
 refine LS.drawn noGo mixed [(0,false),(1,false),(2,false),(3,false),(4,false),(5,false),(6,false),(7,false),(8,false),(9,false),(10,false),(11,false),(12,true)] rfl rfl (by kernel_rfl) ?_
 iterate 3 refine xD rfl rfl rh rfl ?_
 refine xE rfl rfl (e_loadm m1 rfl rfl rfl rfl) rfl ?_
 iterate 3 refine xD rfl rfl rh rfl ?_
 refine xE rfl rfl (e_loadm m1 rfl rfl rfl rfl) rfl ?_
 iterate 2 refine xD rfl rfl rh rfl ?_
 refine ODS.slice3 hP.k rfl rfl rfl rfl rfl rfl rfl rfl (by simp only; omega) (by omega) (fun w1 hw1=>⟨_,rfl,?_⟩)
 have hk1:=pl_take (n:=ks.length) hw1 (cs':=tx (ks.take at')) (List.map_take ..).symm
 refine xD rfl rfl (e_build1 (isSl hk1.sv) rfl rfl rfl) rfl ?_
 refine ODS.write rfl rfl (e_store 1 (n:=4) rfl rfl rfl rfl rfl (nd_one (isSl hk1.sv) isSl0 isSl0) rfl rfl) rfl (by repeat (first | exact Keep.nil | refine Keep.gone rfl ?_)) ?_
 refine xM ?_
 have m2:=hm (r6,zRow) (r4,ndRow lf w1 (.slice none 0 0) (.slice none 0 0)) _ hr
 repeat refine xQ ?_
 refine xG rfl ?_
 iterate 3 refine xP rfl rh rfl ?_
 refine xR rfl (e_loadm m2 rfl rfl rfl rfl) rfl ?_
 refine xP rfl (e_build0 rfl rfl) rfl ?_
 refine OS.write rfl (e_store 0 (n:=4) rfl rfl rfl rfl rfl (nd_one isSl0 isSl0 isSl0) rfl rfl) rfl ?_
 refine xN ?_
 have m3:=hm (r6,ndRow lf (.slice none 0 0) (.slice none 0 0) (.slice none 0 0)) (r4,ndRow lf w1 (.slice none 0 0) (.slice none 0 0)) _ hr
 repeat refine xQ ?_
 refine xG rfl ?_
 iterate 3 refine xP rfl rh rfl ?_
 refine xR rfl (e_loadm m3 rfl rfl rfl rfl) rfl ?_
 refine xN ?_
 repeat refine xQ ?_
 refine LS.mid [0,1,4,5,6] (fun a L'=>∃ w2 w3 x1 x2 x3,PN X (cutL ⟨lf,ks,vs,kids⟩ at') w1 w2 w3/\PN X (cutR ⟨lf,ks,vs,kids⟩ at') x1 x2 x3/\L'=(r6,ndRow lf x1 x2 x3)::(r4,ndRow lf w1 w2 w3)::L/\a=[ptr r,.int .i64 (at':Nat),jn,jn,ptr r4,.string ⟨⟨[]⟩⟩,ptr r6,jn,jn,jn,jn,jn,jn,jn,jn,jn,jn,jn,jn,jn,jn,jn,jn,jn,jn,jn,jn,jn,jn,jn,jn,jn,jn,jn,jn,jn,jn,jn,jn,jn,jn,jn,jn,jn,jn,jn,jn,jn,jn,jn,jn,jn,jn,jn,jn,jn,jn,jn,jn,jn,jn,jn,jn,jn,jn,jn,jn,jn,jn,jn,jn,jn,jn,jn,jn,jn,jn,jn,jn,jn,jn,jn,jn,jn,jn]) ?_ ?_
 ·cases lf with
  | true =>
   have hvl:=gl rfl
   refine xC rfl (fun hc=>?_) (fun hc=>by cases hc)
   repeat refine xQ ?_
   refine xG rfl ?_
   iterate 3 refine xP rfl rh rfl ?_
   refine xR rfl (e_loadm m3 rfl rfl rfl rfl) rfl ?_
   iterate 2 refine xP rfl rh rfl ?_
   refine OS.slice3 hP.v rfl rfl rfl rfl rfl rfl rfl (by simp only; omega) (by omega) (fun w2 hw2=>⟨_,rfl,?_⟩)
   have hv2:=pl_take (n:=vs.length) hw2 (cs':=tx (vs.take at')) (List.map_take ..).symm
   refine xP rfl rh rfl ?_
   refine OS.write rfl (e_storeS 1 (isSl hv2.sv) rfl rfl rfl rfl rfl rfl rfl) rfl ?_
   refine xN ?_
   have m4:=hm (r6,ndRow true (.slice none 0 0) (.slice none 0 0) (.slice none 0 0)) (r4,ndRow true w1 w2 (.slice none 0 0)) _ hr
   repeat refine xQ ?_
   refine LS.drawn noGo mixed [(0,false),(1,false),(2,false),(3,false),(4,false),(5,false),(6,false),(7,false),(8,false),(9,false),(10,false),(11,false),(12,false),(13,true),(14,false),(15,true)] rfl rfl (by kernel_rfl) ?_
   iterate 3 refine xD rfl rfl rh rfl ?_
   refine xE rfl rfl (e_loadm m4 rfl rfl rfl rfl) rfl ?_
   refine xD rfl rfl rh rfl ?_
   refine ODS.slicePL hP.k (hm _ _) rfl rfl rfl rfl rfl rfl bound_nat rfl rfl rfl (Nat.le_refl _) (by simp only; omega) (fun x1 hx1=>⟨_,rfl,?_⟩)
   have hxk:=pl_drop hx1 (cs':=tx (ks.drop at')) (by simp) (List.map_drop ..).symm
   iterate 3 refine xD rfl rfl rh rfl ?_
   refine xE rfl rfl (e_loadm m4 rfl rfl rfl rfl) rfl ?_
   refine xD rfl rfl rh rfl ?_
   refine ODS.slicePLa hP.v (hm _ _) rfl rfl rfl rfl rfl rfl bound_nat rfl rfl rfl (Nat.le_refl _) (by simp only; omega) (fun x2 hx2 hop=>⟨_,rfl,?_⟩)
   have m6:=hm (r6,ndRow true x1 (.slice none 0 0) (.slice none 0 0)) (r4,ndRow true w1 w2 (.slice none 0 0)) _ hr
   have hxv:=pl_drop hx2 (cs':=tx (vs.drop at')) (by simp) (List.map_drop ..).symm
   refine xD rfl rfl rh rfl ?_
   refine ODS.write rfl rfl (e_storeS 0 (isSl hxk.sv) rfl rfl rfl rfl rfl rfl rfl) rfl (by repeat (first | exact Keep.nil | refine Keep.gone rfl ?_ | refine Keep.cons rfl (e_loadm m6 rfl rfl rfl rfl) ?_ | refine Keep.cons rfl (hop _ (hm _ _)) ?_)) ?_
   refine xD rfl rfl rh rfl ?_
   refine ODS.write rfl rfl (e_storeS 0 (isSl hxv.sv) rfl rfl rfl rfl rfl rfl rfl) rfl (by repeat (first | exact Keep.nil | refine Keep.gone rfl ?_)) ?_
   refine xM ?_
   refine ⟨w2,.slice none 0 0,x1,x2,.slice none 0 0,⟨?_,?_,pl_nil⟩,⟨?_,?_,pl_nil⟩,rfl,rfl⟩
   ·show PL _ 1 X w1 (ks.take at').length _
    rw [List.length_take,Nat.min_eq_left (by omega)]; exact hk1
   ·show PL _ 1 X w2 (vs.take at').length _
    rw [List.length_take,Nat.min_eq_left (by omega)]; exact hv2
   ·show PL _ 1 X x1 (ks.drop at').length _
    rw [List.length_drop]; exact hxk
   ·show PL _ 1 X x2 (vs.drop at').length _
    rw [List.length_drop]; exact hxv
  | false =>
   have hkl:=gk rfl
   refine xC rfl (fun hc=>by cases hc) (fun hc=>?_)
   repeat refine xQ ?_
   refine xG rfl ?_
   iterate 3 refine xP rfl rh rfl ?_
   refine xR rfl (e_loadm m3 rfl rfl rfl rfl) rfl ?_
   refine xP rfl rh rfl ?_
   refine xP rfl (e_addN (n:=1) rfl rfl rfl (in_i64 (by omega) (by omega))) rfl ?_
   refine xP rfl rh rfl ?_
   refine xP rfl (e_addN (n:=1) rfl rfl rfl (in_i64 (by omega) (by omega))) rfl ?_
   refine OS.slice3 hP.z rfl rfl rfl rfl rfl rfl rfl (by simp only; omega) (by omega) (fun w3 hw3=>⟨_,rfl,?_⟩)
   have hz3:=pl_take (n:=kids.length) hw3 (cs':=nums (kids.take (at'+1))) (List.map_take ..).symm
   refine xP rfl rh rfl ?_
   refine OS.write rfl (e_storeS 1 (isSl hz3.sv) rfl rfl rfl rfl rfl rfl rfl) rfl ?_
   refine xN ?_
   have m4:=hm (r6,ndRow false (.slice none 0 0) (.slice none 0 0) (.slice none 0 0)) (r4,ndRow false w1 (.slice none 0 0) w3) _ hr
   repeat refine xQ ?_
   refine LS.drawn noGo mixed [(0,false),(1,false),(2,false),(3,false),(4,false),(5,false),(6,false),(7,false),(8,false),(9,false),(10,false),(11,false),(12,false),(13,false),(14,false),(15,true),(16,false),(17,true)] rfl rfl (by kernel_rfl) ?_
   iterate 3 refine xD rfl rfl rh rfl ?_
   refine xE rfl rfl (e_loadm m4 rfl rfl rfl rfl) rfl ?_
   refine xD rfl rfl rh rfl ?_
   refine xD rfl rfl (e_addN (n:=1) rfl rfl rfl (in_i64 (by omega) (by omega))) rfl ?_
   refine ODS.slicePL hP.k (hm _ _) rfl rfl rfl rfl rfl rfl bound_nat rfl rfl rfl (Nat.le_refl _) (by simp only; omega) (fun x1 hx1=>⟨_,rfl,?_⟩)
   have hxk:=pl_drop hx1 (cs':=tx (ks.drop (at'+1))) (by simp) (List.map_drop ..).symm
   iterate 3 refine xD rfl rfl rh rfl ?_
   refine xE rfl rfl (e_loadm m4 rfl rfl rfl rfl) rfl ?_
   refine xD rfl rfl rh rfl ?_
   refine xD rfl rfl (e_addN (n:=1) rfl rfl rfl (in_i64 (by omega) (by omega))) rfl ?_
   refine ODS.slicePLa hP.z (hm _ _) rfl rfl rfl rfl rfl rfl bound_nat rfl rfl rfl (Nat.le_refl _) (by simp only; omega) (fun x3 hx3 hop=>⟨_,rfl,?_⟩)
   have m6:=hm (r6,ndRow false x1 (.slice none 0 0) (.slice none 0 0)) (r4,ndRow false w1 (.slice none 0 0) w3) _ hr
   have hxz:=pl_drop hx3 (cs':=nums (kids.drop (at'+1))) (by simp) (List.map_drop ..).symm
   refine xD rfl rfl rh rfl ?_
   refine ODS.write rfl rfl (e_storeS 0 (isSl hxk.sv) rfl rfl rfl rfl rfl rfl rfl) rfl (by repeat (first | exact Keep.nil | refine Keep.gone rfl ?_ | refine Keep.cons rfl (e_loadm m6 rfl rfl rfl rfl) ?_ | refine Keep.cons rfl (hop _ (hm _ _)) ?_)) ?_
   refine xD rfl rfl rh rfl ?_
   refine ODS.write rfl rfl (e_storeS 0 (isSl hxz.sv) rfl rfl rfl rfl rfl rfl rfl) rfl (by repeat (first | exact Keep.nil | refine Keep.gone rfl ?_)) ?_
   refine xM ?_
   refine ⟨.slice none 0 0,w3,x1,.slice none 0 0,x3,⟨?_,pl_nil,?_⟩,⟨?_,pl_nil,?_⟩,rfl,rfl⟩
   ·show PL _ 1 X w1 (ks.take at').length _
    rw [List.length_take,Nat.min_eq_left (by omega)]; exact hk1
   ·show PL _ 1 X w3 (kids.take (at'+1)).length _
    rw [List.length_take,Nat.min_eq_left (by omega)]; exact hz3
   ·show PL _ 1 X x1 (ks.drop (at'+1)).length _
    rw [List.length_drop]; exact hxk
   ·show PL _ 1 X x3 (kids.drop (at'+1)).length _
    rw [List.length_drop]; exact hxz
 rintro a L' ⟨w2,w3,x1,x2,x3,hc1,hc2,rfl,rfl⟩
 have m5:=hm (r6,ndRow lf x1 x2 x3) (r4,ndRow lf w1 w2 w3) _ hr
 have N5:=hP.k.sv.mono (hm (r6,ndRow lf x1 x2 x3) (r4,ndRow lf w1 w2 w3))
 repeat refine xQ ?_
 refine LS.drawn noGo mixed [(0,false),(1,false),(2,false),(3,false),(4,false),(5,false),(6,false),(7,false),(8,false),(9,true),(10,false),(11,true)] rfl rfl (by kernel_rfl) ?_
 refine xE rfl rfl (e_load 1 rfl rfl rfl rfl rfl) rfl ?_
 iterate 3 refine xD rfl rfl rh rfl ?_
 refine xE rfl rfl (e_loadm m5 rfl rfl rfl rfl) rfl ?_
 refine xD rfl rfl rh rfl ?_
 refine ODS.at1 (j:=at') (N5) (tx_at hat) rfl rfl rfl rfl rfl rfl rfl (fun ra0 oa0 rowa0 csa0 ma0 ca0 ga0=>⟨_,rfl,?_⟩)
 refine xE rfl rfl (e_loadm ma0 ca0 rfl rfl (part_one rfl ga0)) rfl ?_
 refine xE rfl rfl (e_load 0 rfl rfl rfl rfl rfl) rfl ?_
 refine ODS.write rfl rfl (e_store 1 (n:=4) rfl rfl rfl rfl rfl (nd_one (isSl hc1.k.sv) (isSl hc1.v.sv) (isSl hc1.z.sv)) rfl rfl) rfl (by repeat (first | exact Keep.nil | refine Keep.gone rfl ?_ | refine Keep.cons rfl (e_load 0 rfl rfl rfl rfl rfl) ?_ | refine Keep.cons rfl (e_loadm m5 rfl rfl rfl rfl) ?_ | refine Keep.cons rfl (e_loadm ma0 ca0 rfl rfl (part_one rfl ga0)) ?_)) ?_
 refine xD rfl rfl rh rfl ?_
 refine ODS.write rfl rfl (e_store 0 (n:=4) rfl rfl rfl rfl rfl (nd_one (isSl hc2.k.sv) (isSl hc2.v.sv) (isSl hc2.z.sv)) rfl rfl) rfl (by repeat (first | exact Keep.nil | refine Keep.gone rfl ?_)) ?_
 refine xM ?_
 refine xT ⟨_,res_cell3 1 0 (x:=4) (y:=5) (z:=6) rfl rfl rfl rfl rfl rfl rfl rfl rfl,?_⟩
 exact ⟨_,_,w1,w2,w3,x1,x2,x3,rfl,rfl,hc1,hc2⟩
end Go.Proofs.YtlmmddfhoabjfaaGreat
end
section
namespace Go.Proofs.YtlmmddfhoabjfaaGreat
open Go.Am
def mxN (n:Nd) (q:Nat):Nat:=max (sizeN (cutL n q)) (sizeN (cutR n q))
theorem cut_sm {n:Nd} (hs:Sm n) (q:Nat):Sm (cutL n q)/\Sm (cutR n q):=by
 have e1:=hs.k; have e2:=hs.v; have e3:=hs.z
 refine ⟨⟨?_,?_,?_,fun k hk=>hs.kl k (List.mem_of_mem_take hk),fun k hk=>?_⟩,⟨?_,?_,?_,fun k hk=>hs.kl k (List.mem_of_mem_drop hk),fun k hk=>?_⟩⟩
 ·show (n.ks.take q).length<=_; rw [List.length_take]; omega
 ·show (if n.leaf then n.vs.take q else []).length<=_; split <;> simp <;> omega
 ·show (if n.leaf then [] else n.kids.take (q+1)).length<=_; split <;> simp <;> omega
 ·have hk':k∈(if n.leaf then n.vs.take q else []):=hk
  split at hk'
  ·exact hs.vl k (List.mem_of_mem_take hk')
  ·cases hk'
 ·show (n.ks.drop _).length<=_; rw [List.length_drop]; omega
 ·show (if n.leaf then n.vs.drop q else []).length<=_; split <;> simp <;> omega
 ·show (if n.leaf then [] else n.kids.drop (q+1)).length<=_; split <;> simp <;> omega
 ·have hk':k∈(if n.leaf then n.vs.drop q else []):=hk
  split at hk'
  ·exact hs.vl k (List.mem_of_mem_drop hk')
  ·cases hk'
set_option maxHeartbeats 4000000 in
theorem halves_ct {X L:RL} {r:Nat} {n:Nd} (hX:∀ p,p∈X->p∈L) (hN:NodeAt X r n) (hs:Sm n) (hg:GoodN n) (h2:2<=n.ks.length) :
  CS Tryz.prog 158 [ptr r] L fun u L'=>∃ w1 w2 w3 x1 x2 x3 b key,1<=b/\n.ks[b]?=some key/\(∀ q,1<=q->q < n.ks.length->mxN n b<=mxN n q)/\u=.tuple #[ndV n.leaf w1 w2 w3,txt key,ndV n.leaf x1 x2 x3]/\L'=L/\PN X (cutL n b) w1 w2 w3/\PN X (cutR n b) x1 x2 x3:=by
 suffices g:CS Tryz.prog 158 [ptr r] L fun u L'=>∃ x y w1 w2 w3 x1 x2 x3 b key,1<=b/\n.ks[b]?=some key/\(∀ q,1<=q->q < n.ks.length->mxN n b<=mxN n q)/\u=.tuple #[ndV n.leaf w1 w2 w3,txt key,ndV n.leaf x1 x2 x3]/\L'=x::y::L/\PN X (cutL n b) w1 w2 w3/\PN X (cutR n b) x1 x2 x3 by
  exact g.less fun u L' ⟨x,y,w1,w2,w3,x1,x2,x3,b,key,h1,h2,h3,h4,h5,h6⟩=>⟨_,by rw [h5]; exact Sub.suffix (X:=[x,y]),w1,w2,w3,x1,x2,x3,b,key,h1,h2,h3,h4,rfl,h6⟩
 have hN0:=hN
 obtain ⟨v1,v2,v3,hr,hP⟩:=hN
 have e1:=hs.k
 have hm:∀ (A:RL) p,p∈X->p∈A++L:=fun A p hp=>List.mem_append_right A (hX p hp)
 refine CS.mk (fn:=Tryz.f158) rfl rfl rfl rfl ?_
 repeat refine xQ ?_
 refine xG rfl ?_
 refine OS.fresh rfl (e_new (fun _=>rfl) rfl) (fun _=>rfl) (fun r2=>?_)
 refine xP rfl rh rfl ?_
 refine OS.fresh rfl (e_new (fun _=>rfl) rfl) (fun _=>rfl) (fun r4=>?_)
 refine xN ?_
 repeat refine xQ ?_
 refine xG rfl ?_
 iterate 2 refine xP rfl rh rfl ?_
 refine xN ?_
 repeat refine xQ ?_
 refine xG rfl ?_
 refine xP rfl rh rfl ?_
 refine xN ?_
 have m1:=hm [(r4,zRow),(r2,zRow)] _ hr
 have N1:=hP.k.sv.mono (hm [(r4,zRow),(r2,zRow)])
 repeat refine xQ ?_
 refine LS.block ?_
 refine LS.loopJ [0,2,4,5,6,7] (fun z a' L'=>∃ a b l:Nat,1<=a/\a<=n.ks.length/\((b=0/\a=1/\l=0)∨(1<=b/\b < a/\l=mxN n b/\∀ q,1<=q->q < a->l<=mxN n q))/\z=n.ks.length - a/\L'=(r4,zRow)::(r2,zRow)::L/\a'=[ptr r,jn,ptr r2,jn,ptr r4,.int .i64 (b:Nat),.int .i64 (l:Nat),.int .i64 (a:Nat),jn,jn,jn,jn,jn,jn,jn,jn,jn,jn,jn,jn,jn,jn,jn,jn,jn,jn,jn,jn,jn,jn,jn,jn,jn,jn,jn,jn,jn,jn,jn,jn,jn,jn,jn,jn,jn,jn,jn,jn]) (n:=n.ks.length - 1) rfl ⟨1,0,0,Nat.le_refl _,by omega,.inl ⟨rfl,rfl,rfl⟩,rfl,rfl,rfl⟩ ?_
 rintro z a' L' ⟨a,b,l,ha1,ha2,hinv,rfl,rfl,rfl⟩
 repeat refine xQ ?_
 refine xG rfl ?_
 iterate 4 refine xP rfl rh rfl ?_
 refine xR rfl (e_loadm m1 rfl rfl rfl rfl) rfl ?_
 refine xP rfl (e_len N1 rfl rfl rfl rfl rfl) rfl ?_
 by_cases hend:n.ks.length<=a
 ·have hb:(!ileB (n.ks.length:Nat) (a:Nat))=false:=by rw [ileB_eq,decide_eq_true (by omega)]; rfl
  refine xP rfl (e_ib rh (hb)) rfl ?_
  refine xN ?_
  repeat refine xQ ?_
  refine xC rfl (fun hc=>?_) (fun hc=>?_)
  ·cases hc
  refine LS.exit ?_
  rcases hinv with ⟨rfl,rfl,rfl⟩ | ⟨hb1,hb2,rfl,hmin⟩
  ·omega
  have hbl:b < n.ks.length:=by omega
  repeat refine xQ ?_
  refine xG rfl ?_
  iterate 2 refine xP rfl rh rfl ?_
  refine xA noGo rfl (fun _=>rfl) ((cut_ct (X:=X) (hm [(r4,zRow),(r2,zRow)]) hN0 hs hg hbl).mono ?_)
  rintro u L' ⟨w1,w2,w3,x1,x2,x3,rfl,rfl,p1,p2⟩
  refine ⟨_,rfl,?_⟩
  iterate 3 refine xP rfl rh rfl ?_
  refine OS.write rfl (e_store 1 (n:=4) rfl rfl rfl rfl rfl (nd_one (isSl p1.k.sv) (isSl p1.v.sv) (isSl p1.z.sv)) rfl rfl) rfl ?_
  refine xP rfl rh rfl ?_
  refine OS.write rfl (e_store 0 (n:=4) rfl rfl rfl rfl rfl (nd_one (isSl p2.k.sv) (isSl p2.v.sv) (isSl p2.z.sv)) rfl rfl) rfl ?_
  refine xN ?_
  refine xT ⟨_,res_cell3 1 0 (x:=2) (y:=3) (z:=4) rfl rfl rfl rfl rfl rfl rfl rfl rfl,?_⟩
  exact ⟨_,_,w1,w2,w3,x1,x2,x3,b,n.ks[b],hb1,List.getElem?_eq_getElem hbl,fun q h1 h2=>hmin q h1 (by omega),rfl,rfl,p1,p2⟩
 have hb:(!ileB (n.ks.length:Nat) (a:Nat))=true:=by rw [ileB_eq,decide_eq_false (by omega)]; rfl
 refine xP rfl (e_ib rh (hb)) rfl ?_
 refine xN ?_
 repeat refine xQ ?_
 refine xC rfl (fun hc=>?_) (fun hc=>?_)
 ·refine LS.skip ?_
  repeat refine xQ ?_
  refine LS.block ?_
  repeat refine xQ ?_
  refine xG rfl ?_
  iterate 2 refine xP rfl rh rfl ?_
  refine xA noGo rfl (fun _=>rfl) ((cut_ct (X:=X) (hm [(r4,zRow),(r2,zRow)]) hN0 hs hg (show a < n.ks.length by omega)).mono ?_)
  rintro u L' ⟨w1,w2,w3,x1,x2,x3,rfl,rfl,p1,p2⟩
  refine ⟨_,rfl,?_⟩
  iterate 4 refine xP rfl rh rfl ?_
  refine OS.fresh rfl (e_new (fun _=>rfl) rfl) (fun _=>rfl) (fun r8=>?_)
  refine OS.fresh rfl (e_new (fun _=>rfl) rfl) (fun _=>rfl) (fun r10=>?_)
  refine OS.write rfl (e_store 1 (n:=4) rfl rfl rfl rfl rfl (nd_one (isSl p1.k.sv) (isSl p1.v.sv) (isSl p1.z.sv)) rfl rfl) rfl ?_
  refine xP rfl rh rfl ?_
  refine OS.write rfl (e_store 0 (n:=4) rfl rfl rfl rfl rfl (nd_one (isSl p2.k.sv) (isSl p2.v.sv) (isSl p2.z.sv)) rfl rfl) rfl ?_
  refine xN ?_
  have hnv1:=p1.nv (cut_sm hs a).1 (hm [(r10,ndRow n.leaf x1 x2 x3),(r8,ndRow n.leaf w1 w2 w3),(r4,zRow),(r2,zRow)])
  have hnv2:=p2.nv (cut_sm hs a).2 (hm [(r10,ndRow n.leaf x1 x2 x3),(r8,ndRow n.leaf w1 w2 w3),(r4,zRow),(r2,zRow)])
  repeat refine xQ ?_
  refine LS.drawn noGo mixed [(0,false),(2,false),(1,true),(3,true),(4,false),(5,false)] rfl rfl (by kernel_rfl) ?_
  refine xE rfl rfl (e_load 1 rfl rfl rfl rfl rfl) rfl ?_
  refine xE rfl rfl (e_load 0 rfl rfl rfl rfl rfl) rfl ?_
  refine ODS.call rfl rfl (fun _=>rfl) ((Size_ct hnv1 (by have:=(cut_sm hs a).1.k; omega)).mono ?_)
  rintro u L' ⟨rfl,rfl⟩
  refine ⟨_,rfl,(by repeat (first | exact Keep.nil | refine Keep.gone rfl ?_ | refine Keep.cons rfl (e_load 0 rfl rfl rfl rfl rfl) ?_)),?_⟩
  refine ODS.call rfl rfl (fun _=>rfl) ((Size_ct hnv2 (by have:=(cut_sm hs a).2.k; omega)).mono ?_)
  rintro u L' ⟨rfl,rfl⟩
  refine ⟨_,rfl,(by repeat (first | exact Keep.nil | refine Keep.gone rfl ?_ | refine Keep.cons rfl (e_load 0 rfl rfl rfl rfl rfl) ?_)),?_⟩
  refine xD rfl rfl (e_is (e_max rfl rfl rfl) (congrArg (Value.int .i64) (show max ((sizeN (cutL n a):Nat):Int) ((sizeN (cutR n a):Nat):Int)=((mxN n a:Nat):Int) by unfold mxN; omega))) rfl ?_
  refine xD rfl rfl rh rfl ?_
  refine xM ?_
  rcases hinv with ⟨rfl,rfl,rfl⟩ | ⟨hb1,hb2,rfl,hmin⟩
  ·have hb:ieqB ((0:Nat):Int) 0=true:=rfl
   repeat refine xQ ?_
   refine xG rfl ?_
   refine xP rfl rh rfl ?_
   refine xP rfl (e_ib rh (hb)) rfl ?_
   refine xP rfl rh rfl ?_
   iterate 3 refine xK rfl rfl ?_
   refine xP rfl rh rfl ?_
   refine xN ?_
   repeat refine xQ ?_
   refine xC rfl (fun hc=>?_) (fun hc=>?_)
   ·repeat refine xQ ?_
    refine xG rfl ?_
    iterate 4 refine xP rfl rh rfl ?_
    refine OS.sub (Sub.drop 0 rfl) ?_
    refine OS.sub (Sub.drop 0 rfl) ?_
    refine xN ?_
    repeat refine xQ ?_
    refine xG rfl ?_
    refine xP rfl rh rfl ?_
    refine xP rfl (e_addN (n:=1) rfl rfl rfl (in_i64 (by omega) (by omega))) rfl ?_
    refine xP rfl rh rfl ?_
    refine xN ?_
    refine ⟨n.ks.length - (1+1),by omega,1+1,1,mxN n 1,by omega,by omega,.inr ⟨Nat.le_refl _,by omega,rfl,fun q h1 h2=>?_⟩,rfl,rfl,rfl⟩
    have:q=1:=by omega
    subst this
    exact Nat.le_refl _
   ·cases hc
  ·have hb:ieqB ((b:Nat):Int) 0=false:=by
    have:=ieqN (m:=b) (n:=0)
    rw [decide_eq_false (by omega)] at this
    exact this
   repeat refine xQ ?_
   refine xG rfl ?_
   refine xP rfl rh rfl ?_
   refine xP rfl (e_ib rh (hb)) rfl ?_
   iterate 3 refine xP rfl rh rfl ?_
   by_cases hlt:mxN n a < mxN n b
   ·have hb:(!ileB ((mxN n b:Nat):Int) ((mxN n a:Nat):Int))=true:=by rw [ileB_eq,decide_eq_false (by omega)]; rfl
    refine xP rfl (e_ib rh (hb)) rfl ?_
    refine xP rfl rh rfl ?_
    refine xN ?_
    repeat refine xQ ?_
    refine xC rfl (fun hc=>?_) (fun hc=>?_)
    ·repeat refine xQ ?_
     refine xG rfl ?_
     iterate 4 refine xP rfl rh rfl ?_
     refine OS.sub (Sub.drop 0 rfl) ?_
     refine OS.sub (Sub.drop 0 rfl) ?_
     refine xN ?_
     repeat refine xQ ?_
     refine xG rfl ?_
     refine xP rfl rh rfl ?_
     refine xP rfl (e_addN (n:=1) rfl rfl rfl (in_i64 (by omega) (by omega))) rfl ?_
     refine xP rfl rh rfl ?_
     refine xN ?_
     refine ⟨n.ks.length - (a+1),by omega,a+1,a,mxN n a,by omega,by omega,.inr ⟨ha1,by omega,rfl,fun q h1 h2=>?_⟩,rfl,rfl,rfl⟩
     by_cases hq:q=a
     ·subst hq; exact Nat.le_refl _
     ·have:=hmin q h1 (by omega); omega
    ·cases hc
   ·have hb:(!ileB ((mxN n b:Nat):Int) ((mxN n a:Nat):Int))=false:=by rw [ileB_eq,decide_eq_true (by omega)]; rfl
    refine xP rfl (e_ib rh (hb)) rfl ?_
    refine xP rfl rh rfl ?_
    refine OS.sub (Sub.drop 0 rfl) ?_
    refine OS.sub (Sub.drop 0 rfl) ?_
    refine xN ?_
    repeat refine xQ ?_
    refine xC rfl (fun hc=>?_) (fun hc=>?_)
    ·cases hc
    ·refine LS.skip ?_
     repeat refine xQ ?_
     refine xG rfl ?_
     refine xP rfl rh rfl ?_
     refine xP rfl (e_addN (n:=1) rfl rfl rfl (in_i64 (by omega) (by omega))) rfl ?_
     refine xP rfl rh rfl ?_
     refine xN ?_
     refine ⟨n.ks.length - (a+1),by omega,a+1,b,mxN n b,by omega,by omega,.inr ⟨hb1,by omega,rfl,fun q h1 h2=>?_⟩,rfl,rfl,rfl⟩
     by_cases hq:q=a
     ·subst hq; omega
     ·exact hmin q h1 (by omega)
 ·cases hc
end Go.Proofs.YtlmmddfhoabjfaaGreat
end
section
namespace Go.Proofs.YtlmmddfhoabjfaaGreat
open Go.Am
theorem rise_iff {l:Tx}:∀ {ks:List Tx},rise l ks=true↔ks.Pairwise (fun a b=>bytesLt a b=true)/\∀ k∈ks,bytesLt l k=true/\k.length<=32
 | []=>by simp [rise]
 | k::ks=>by
  rw [rise_cons,rise_iff (l:=k),List.pairwise_cons]
  constructor
  ·rintro ⟨h1,h2,h3,h4⟩
   refine ⟨⟨fun x hx=>(h4 x hx).1,h3⟩,fun x hx=>?_⟩
   rcases List.mem_cons.1 hx with rfl | hx
   ·exact ⟨h1,h2⟩
   ·exact ⟨lt_trans h1 (h4 x hx).1,(h4 x hx).2⟩
  ·rintro ⟨⟨h1,h2⟩,h3⟩
   exact ⟨(h3 k (List.mem_cons_self ..)).1,(h3 k (List.mem_cons_self ..)).2,h2,fun x hx=>⟨h1 x hx,(h3 x (List.mem_cons_of_mem _ hx)).2⟩⟩
theorem rise_sub {l:Tx} {ks ks':List Tx} (h:rise l ks=true) (s:ks'.Sublist ks):rise l ks'=true:=by
 rw [rise_iff] at h ⊢
 exact ⟨h.1.sublist s,fun k hk=>h.2 k (s.subset hk)⟩
theorem may_good {n:Nd} (h:mayN n=true):GoodN n:=by
 obtain ⟨_,h⟩:=may_iff.1 h
 rcases h with ⟨h1,h2,h3,_⟩ | ⟨h1,h2,h3,_⟩
 ·exact .inl ⟨h1,h2,h3⟩
 ·exact .inr ⟨h1,h2,h3⟩
theorem cutL_may {n:Nd} {q:Nat} (h:mayN n=true) (hq:q < n.ks.length):mayN (cutL n q)=true:=by
 obtain ⟨h0,h⟩:=may_iff.1 h
 refine may_iff.2 ⟨rise_sub h0 (List.take_sublist ..),?_⟩
 rcases h with ⟨hl,h1,h2,h3⟩ | ⟨hl,h1,h2,h3⟩
 ·refine .inl ⟨hl,?_,?_,?_⟩
  ·show (if n.leaf then n.vs.take q else []).length=(n.ks.take q).length
   rw [if_pos hl,List.length_take,List.length_take,h1]
  ·show (if n.leaf then [] else n.kids.take (q+1))=[]
   rw [if_pos hl]
  ·show ∀ v∈(if n.leaf then n.vs.take q else []),_
   rw [if_pos hl]; exact fun v hv=>h3 v (List.mem_of_mem_take hv)
 ·have hf:¬ (n.leaf=true):=by rw [hl]; decide
  refine .inr ⟨hl,?_,?_,?_⟩
  ·show (if n.leaf then [] else n.kids.take (q+1)).length=(n.ks.take q).length+1
   rw [if_neg hf,List.length_take,List.length_take]; omega
  ·show (if n.leaf then n.vs.take q else [])=[]
   rw [if_neg hf]
  ·show ∀ v∈(if n.leaf then [] else n.kids.take (q+1)),_
   rw [if_neg hf]; exact fun v hv=>h3 v (List.mem_of_mem_take hv)
theorem cutR_may {n:Nd} {q:Nat} (h:mayN n=true) (hq:q < n.ks.length):mayN (cutR n q)=true:=by
 obtain ⟨h0,h⟩:=may_iff.1 h
 refine may_iff.2 ⟨rise_sub h0 (List.drop_sublist ..),?_⟩
 rcases h with ⟨hl,h1,h2,h3⟩ | ⟨hl,h1,h2,h3⟩
 ·refine .inl ⟨hl,?_,?_,?_⟩
  ·show (if n.leaf then n.vs.drop q else []).length=(n.ks.drop (if n.leaf then q else q+1)).length
   rw [if_pos hl,if_pos hl,List.length_drop,List.length_drop,h1]
  ·show (if n.leaf then [] else n.kids.drop (q+1))=[]
   rw [if_pos hl]
  ·show ∀ v∈(if n.leaf then n.vs.drop q else []),_
   rw [if_pos hl]; exact fun v hv=>h3 v (List.mem_of_mem_drop hv)
 ·have hf:¬ (n.leaf=true):=by rw [hl]; decide
  refine .inr ⟨hl,?_,?_,?_⟩
  ·show (if n.leaf then [] else n.kids.drop (q+1)).length=(n.ks.drop (if n.leaf then q else q+1)).length+1
   rw [if_neg hf,if_neg hf,List.length_drop,List.length_drop]; omega
  ·show (if n.leaf then n.vs.drop q else [])=[]
   rw [if_neg hf]
  ·show ∀ v∈(if n.leaf then [] else n.kids.drop (q+1)),_
   rw [if_neg hf]; exact fun v hv=>h3 v (List.mem_of_mem_drop hv)
theorem zipB_app:∀ {ks bs ks' bs':List Tx},ks.length=bs.length->zipB (ks++ks') (bs++bs')=zipB ks bs++zipB ks' bs'
 | [],[],_,_,_=>rfl
 | [],_::_,_,_,h=>by simp at h
 | _::_,[],_,_,h=>by simp at h
 | k::ks,b::bs,ks',bs',h=>by
  have:=zipB_app (ks:=ks) (bs:=bs) (ks':=ks') (bs':=bs') (by simpa using h)
  simp only [List.cons_append,zipB,this,List.append_assoc]
theorem zipB_take {ks bs:List Tx} {q:Nat} (h:ks.length=bs.length):(zipB ks bs).length=(zipB (ks.take q) (bs.take q)).length+(zipB (ks.drop q) (bs.drop q)).length:=by
 have:=zipB_app (ks:=ks.take q) (bs:=bs.take q) (ks':=ks.drop q) (bs':=bs.drop q) (by rw [List.length_take,List.length_take,h])
 rw [List.take_append_drop,List.take_append_drop] at this
 rw [this,List.length_append]
theorem zipB_step {B:Nat} {ks bs:List Tx} {q:Nat} (h:ks.length=bs.length) (hq:q < ks.length) (h1:∀ k∈ks,(tB k).length<=33) (h2:∀ b∈bs,b.length<=B):(zipB (ks.take (q+1)) (bs.take (q+1))).length<=(zipB (ks.take q) (bs.take q)).length+(33+B):=by
 have e1:ks.take (q+1)=ks.take q++[ks[q]]:=by simp
 have e2:bs.take (q+1)=bs.take q++[bs[q]'(by omega)]:=by simp
 rw [e1,e2,zipB_app (by rw [List.length_take,List.length_take,h])]
 have g1:=h1 _ (List.getElem_mem hq)
 have g2:=h2 _ (List.getElem_mem (show q < bs.length by omega))
 simp only [List.length_append,zipB,List.append_nil]
 omega
theorem ivt {F:Nat->Nat} {C:Nat}:∀ {n:Nat},F 0<=C->C < F n->∃ q,q < n/\F q<=C/\C < F (q+1)
 | 0,h0,h1=>by omega
 | n+1,h0,h1=>by
  by_cases h:C < F n
  ·obtain ⟨q,hq,h2⟩:=ivt h0 h
   exact ⟨q,by omega,h2⟩
  ·exact ⟨n,by omega,by omega,h1⟩
theorem cutL_beh {n:Nd} {q:Nat}:behN (cutL n q)=(behN n).take q:=by
 unfold behN
 cases hl:n.leaf with
 | true =>
  have:(cutL n q).leaf=true:=hl
  rw [this,if_pos rfl,if_pos rfl]
  show (if n.leaf then n.vs.take q else []).map tB=_
  rw [if_pos hl,List.map_take]
 | false =>
  have:(cutL n q).leaf=false:=hl
  rw [this,if_neg (by decide),if_neg (by decide)]
  show (if n.leaf then [] else n.kids.take (q+1)).tail.map cnt=_
  rw [if_neg (by rw [hl]; decide),← List.map_take]
  congr 1
  cases n.kids with
  | nil=>simp
  | cons z zs=>simp
theorem cutR_beh {n:Nd} {q:Nat}:behN (cutR n q)=(behN n).drop (if n.leaf then q else q+1):=by
 unfold behN
 cases hl:n.leaf with
 | true =>
  have:(cutR n q).leaf=true:=hl
  rw [this,if_pos rfl,if_pos rfl]
  show (if n.leaf then n.vs.drop q else []).map tB=_
  rw [if_pos hl,List.map_drop]; rfl
 | false =>
  have:(cutR n q).leaf=false:=hl
  rw [this,if_neg (by decide),if_neg (by decide)]
  show (if n.leaf then [] else n.kids.drop (q+1)).tail.map cnt=_
  rw [if_neg (by rw [hl]; decide)]
  show _=(n.kids.tail.map cnt).drop (q+1)
  rw [← List.map_drop]
  congr 1
  simp [List.tail_drop,List.drop_tail]
theorem cnt_3 {z:Int} (hz:0<=z/\z<=32768):(cnt z).length<=3:=by
 obtain ⟨m,rfl⟩:=Int.eq_ofNat_of_zero_le hz.1
 rw [cnt_nat (by omega)]
 exact grp_len (k:=3) (by omega) (by omega)
theorem beh_65 {n:Nd} (h:mayN n=true):∀ b∈behN n,b.length<=65:=fun b hb=>by
 unfold behN at hb
 split at hb
 ·rename_i hl
  obtain ⟨v,hv,rfl⟩:=List.mem_map.1 hb
  have:=(may_vs h hl).2.2 v hv
  rw [tB_len (by omega)]; omega
 ·rename_i hl
  obtain ⟨v,hv,rfl⟩:=List.mem_map.1 hb
  have:=cnt_3 ((may_kids h (by simpa using hl)).2.2 v (List.mem_of_mem_tail hv))
  omega
theorem first_3 {n:Nd} (h:mayN n=true):(firstN n).length<=3:=by
 unfold firstN
 split
 ·simp
 ·rename_i hl
  obtain ⟨g1,g2,g3⟩:=may_kids h (by simpa using hl)
  refine cnt_3 ?_
  cases hk:n.kids with
  | nil=>rw [hk] at g1; simp at g1
  | cons z zs=>exact g3 z (by rw [hk]; exact List.mem_cons_self ..)
theorem firstL {n:Nd} {q:Nat} (hq:0 < n.kids.length∨n.leaf=true):firstN (cutL n q)=firstN n:=by
 unfold firstN
 show (if n.leaf then [] else cnt ((if n.leaf then [] else n.kids.take (q+1)).headD 0))=_
 cases hl:n.leaf with
 | true=>rfl
 | false =>
  rw [if_neg (by decide),if_neg (by decide),if_neg (by decide)]
  cases hk:n.kids with
  | nil=>simp
  | cons z zs=>simp
theorem cut_some {n:Nd} (hb:Bg n) (h1:256 < (bodyN n).length) (h2:(bodyN n).length<=354):∃ q,1<=q/\q < n.ks.length/\mxN n q<=256:=by
 have hk:=hb.keys
 have hm:=hb.may
 have hbl:=beh_len hm
 have hks:∀ k∈n.ks,(tB k).length<=33:=fun k hk=>by
  have:=may_ks hm k hk
  rw [tB_len (by omega)]; omega
 have h65:=beh_65 hm
 have hf3:=first_3 hm
 have hbody:=body_len (n:=n) (by omega)
 obtain ⟨q,hq,g1,g2⟩:=ivt (F:=fun q=>(zipB (n.ks.take q) ((behN n).take q)).length) (C:=254 - (firstN n).length) (n:=n.ks.length) (by simp [zipB]) (by
  show _ < (zipB (n.ks.take n.ks.length) ((behN n).take n.ks.length)).length
  rw [List.take_length,List.take_of_length_le (by omega)]; omega)
 have g3:=zipB_step (q:=q) hbl.symm hq hks h65
 have hq1:1<=q:=by
  rcases Nat.eq_zero_or_pos q with h | h
  ·subst h
   simp [zipB] at g3 g2
   omega
  ·exact h
 have hpos:0 < n.kids.length∨n.leaf=true:=by
  cases hl:n.leaf with
  | true=>exact .inr rfl
  | false=>exact .inl (by have:=(may_kids hm hl).1; omega)
 have hL:(bodyN (cutL n q)).length<=256:=by
  rw [body_len (by show (n.ks.take q).length<=127; rw [List.length_take]; omega),firstL hpos,cutL_beh]
  show 2+(_+(zipB (n.ks.take q) _).length)<=256
  omega
 have htot:=zipB_take (q:=q) hbl.symm
 have hR:(bodyN (cutR n q)).length<=256:=by
  rw [body_len (by show (n.ks.drop _).length<=127; rw [List.length_drop]; omega),cutR_beh]
  have hfr:=first_3 (cutR_may hm hq)
  show 2+(_+(zipB (n.ks.drop _) _).length)<=256
  cases hl:n.leaf with
  | true =>
   have:(if true=true then q else q+1)=q:=rfl
   rw [this]; omega
  | false =>
   have:(if false=true then q else q+1)=q+1:=rfl
   rw [this]
   have:=zipB_take (q:=q+1) hbl.symm
   omega
 have sL:sizeN (cutL n q)=(bodyN (cutL n q)).length:=by unfold sizeN; rw [if_pos (cutL_may hm hq)]
 have sR:sizeN (cutR n q)=(bodyN (cutR n q)).length:=by unfold sizeN; rw [if_pos (cutR_may hm hq)]
 exact ⟨q,hq1,hq,by unfold mxN; omega⟩
theorem fits_of_size {n:Nd} (h:mayN n=true) (hs:sizeN n<=256):fitsN n=true:=by
 unfold sizeN at hs
 rw [if_pos h] at hs
 unfold fitsN
 rw [h,decide_eq_true hs]; rfl
def splL:(h:Nat)->Tr h->Nat->Tr h
 | 0,t,q=>lf (Lf.p t) ((Lf.ks t).take q) ((Lf.vs t).take q)
 | _+1,t,q=>inn (Inn.p t) ((Inn.ks t).take q) ((Inn.ts t).take (q+1))
def splR:(h:Nat)->Tr h->Nat->Nat->Tr h
 | 0,t,q,p=>lf p ((Lf.ks t).drop q) ((Lf.vs t).drop q)
 | _+1,t,q,p=>inn p ((Inn.ks t).drop (q+1)) ((Inn.ts t).drop (q+1))
theorem nd_splL:∀ {h:Nat} {t:Tr h} {q:Nat},nd h (splL h t q)=cutL (nd h t) q
 | 0,_,_=>rfl
 | h+1,t,q=>by
  obtain ⟨p,ks,ts,rfl⟩:=inn_eta t
  show (⟨false,ks.take q,[],nos (ts.take (q+1))⟩:Nd)=_
  simp [cutL,nos,List.map_take]
theorem nd_splR:∀ {h:Nat} {t:Tr h} {q p:Nat},nd h (splR h t q p)=cutR (nd h t) q
 | 0,_,_,_=>rfl
 | h+1,t,q,p'=>by
  obtain ⟨p,ks,ts,rfl⟩:=inn_eta t
  show (⟨false,ks.drop (q+1),[],nos (ts.drop (q+1))⟩:Nd)=_
  simp [cutR,nos,List.map_drop]
theorem no_splL:∀ {h:Nat} {t:Tr h} {q:Nat},no h (splL h t q)=no h t
 | 0,_,_=>rfl
 | _+1,_,_=>rfl
theorem no_splR:∀ {h:Nat} {t:Tr h} {q p:Nat},no h (splR h t q p)=p
 | 0,_,_,_=>rfl
 | _+1,_,_,_=>rfl
def Kok:(h:Nat)->Tr h->Prop
 | 0,_=>True
 | h+1,t=>∀ s∈Inn.ts t,Okt h s
theorem Okt.kok:∀ {h:Nat} {t:Tr h},Okt h t->Kok h t
 | 0,_,_=>trivial
 | _+1,_,h=>h.2
theorem ok_of:∀ {h:Nat} {t:Tr h},fitsN (nd h t)=true->Kok h t->(nd h t).ks≠[]∨(nd h t).leaf=false->Okt h t
 | 0,t,hf,_,hne=>⟨hf,by
  rcases hne with h | h
  ·exact h
  ·cases h⟩
 | _+1,_,hf,hk,_=>⟨hf,hk⟩
theorem ok_splL:∀ {h:Nat} {t:Tr h} {q:Nat},Kok h t->1<=q->q < (nd h t).ks.length->fitsN (cutL (nd h t) q)=true->Okt h (splL h t q)
 | 0,t,q,hk,h1,h2,hf=>by
  obtain ⟨p,ks,vs,rfl⟩:=lf_eta t
  refine ⟨hf,fun hh=>?_⟩
  have h2:q < ks.length:=h2
  have hl:(ks.take q).length=0:=by rw [show ks.take q=[] from hh]; rfl
  rw [List.length_take] at hl
  omega
 | h+1,t,q,hk,h1,h2,hf=>⟨by rw [nd_splL]; exact hf,fun s hs=>hk s (List.mem_of_mem_take hs)⟩
theorem ok_splR:∀ {h:Nat} {t:Tr h} {q p:Nat},Kok h t->q < (nd h t).ks.length->fitsN (cutR (nd h t) q)=true->Okt h (splR h t q p)
 | 0,t,q,p',hk,h2,hf=>by
  obtain ⟨p,ks,vs,rfl⟩:=lf_eta t
  refine ⟨hf,fun hh=>?_⟩
  have h2:q < ks.length:=h2
  have hl:(ks.drop q).length=0:=by rw [show ks.drop q=[] from hh]; rfl
  rw [List.length_drop] at hl
  omega
 | h+1,t,q,p',hk,h2,hf=>⟨by rw [nd_splR]; exact hf,fun s hs=>hk s (List.mem_of_mem_drop hs)⟩
end Go.Proofs.YtlmmddfhoabjfaaGreat
end
section
namespace Go.Proofs.YtlmmddfhoabjfaaGreat
open Go.Am
theorem SQ.ins {a b:List It} {k v:Tx} (h1:∃ k0 v0,It.K k0 v0∈a) (h2:∀ x∈a,∃ k v,x=It.K k v):SQ (a++It.K k v::b) (a++It.S k::It.K k v::b):=by
 refine ⟨by simp only [kvs,List.filterMap_append,List.filterMap_cons,kvI],fun X Y h=>?_⟩
 unfold Srt at h ⊢
 have e1:X++((a++It.K k v::b)++Y)=(X++a)++(It.K k v::(b++Y)):=by simp
 have e2:X++((a++It.S k::It.K k v::b)++Y)=(X++a)++(It.S k::It.K k v::(b++Y)):=by simp
 rw [e1,List.pairwise_append] at h
 rw [e2,List.pairwise_append]
 obtain ⟨g1,g2,g3⟩:=h
 have g2':=List.pairwise_cons.1 g2
 refine ⟨g1,List.pairwise_cons.2 ⟨fun y hy=>?_,g2⟩,fun x hx y hy=>?_⟩
 ·rcases List.mem_cons.1 hy with rfl | hy
  ·exact leT_iff.2 (.inr rfl)
  ·have:=g2'.1 y hy
   cases y with
   | K k' v'=>exact leT_iff.2 (.inl this)
   | S s=>exact this
 ·rcases List.mem_cons.1 hy with rfl | hy
  ·have hk:=g3 x hx (It.K k v) (List.mem_cons_self ..)
   cases x with
   | K k' v'=>exact hk
   | S s =>
    obtain ⟨k0,v0,h0⟩:=h1
    have hxX:It.S s∈X:=by
     rcases List.mem_append.1 hx with h | h
     ·exact h
     ·obtain ⟨k',v',he⟩:=h2 _ h; cases he
    have f1:leT s k0=true:=(List.pairwise_append.1 g1).2.2 _ hxX _ h0
    have f2:bytesLt k0 k=true:=g3 _ (List.mem_append_right _ h0) (It.K k v) (List.mem_cons_self ..)
    show bytesLt s k=true
    rcases leT_iff.1 f1 with f1 | f1
    ·exact lt_trans f1 f2
    ·rw [f1]; exact f2
  ·exact g3 x hx y hy
theorem zipK_mem:∀ {ks vs:List Tx} {x:It},x∈List.zipWith It.K ks vs->∃ k v,x=It.K k v
 | [],_,x,h=>by simp at h
 | _::_,[],x,h=>by simp at h
 | k::ks,v::vs,x,h=>by
  rw [List.zipWith_cons_cons] at h
  rcases List.mem_cons.1 h with rfl | h
  ·exact ⟨k,v,rfl⟩
  ·exact zipK_mem h
theorem sq_spl:∀ {h:Nat} {t:Tr h} {q p2:Nat} {key:Tx},GoodN (nd h t)->1<=q->(nd h t).ks[q]?=some key->SQ (sq h t) (sq h (splL h t q)++It.S key::sq h (splR h t q p2))
 | 0,t,q,p2,key,hg,h1,hk=>by
  obtain ⟨p,ks,vs,rfl⟩:=lf_eta t
  have hv:vs.length=ks.length:=hg.leafv rfl
  obtain ⟨hq,hkey⟩:=List.getElem?_eq_some_iff.1 hk
  have hq:q < ks.length:=hq
  have hkey:ks[q]=key:=hkey
  have e1:ks.drop q=key::ks.drop (q+1):=by rw [← hkey]; simp
  have e2:vs.drop q=vs[q]::vs.drop (q+1):=by simp
  have e3:sq 0 (lf p ks vs)=List.zipWith It.K (ks.take q) (vs.take q)++(It.K key vs[q]::List.zipWith It.K (ks.drop (q+1)) (vs.drop (q+1))):=by
   have:=zipK_app (ks:=ks.take q) (vs:=vs.take q) (ks':=ks.drop q) (vs':=vs.drop q) (by rw [List.length_take,List.length_take,hv])
   rw [List.take_append_drop,List.take_append_drop,e1,e2,List.zipWith_cons_cons] at this
   exact this
  have e4:sq 0 (splR 0 (lf p ks vs) q p2)=It.K key vs[q]::List.zipWith It.K (ks.drop (q+1)) (vs.drop (q+1)):=by
   show List.zipWith It.K (ks.drop q) (vs.drop q)=_
   rw [e1,e2,List.zipWith_cons_cons]
  rw [e3,e4]
  refine SQ.ins ⟨ks[0],vs[0],?_⟩ fun x hx=>zipK_mem hx
  have f1:ks.take q=ks[0]::(ks.drop 1).take (q - 1):=by
   cases ks with
   | nil=>simp at hq
   | cons k ks=>obtain ⟨q,rfl⟩:∃ q',q=q'+1:=⟨q - 1,by omega⟩; simp
  have f2:vs.take q=vs[0]::(vs.drop 1).take (q - 1):=by
   cases vs with
   | nil=>simp at hv; omega
   | cons k ks=>obtain ⟨q,rfl⟩:∃ q',q=q'+1:=⟨q - 1,by omega⟩; simp
  rw [f1,f2,List.zipWith_cons_cons]
  exact List.mem_cons_self ..
 | h+1,t,q,p2,key,hg,h1,hk=>by
  obtain ⟨p,ks,ts,rfl⟩:=inn_eta t
  have hz:ts.length=ks.length+1:=by have:=hg.kidsz rfl; simpa [nos] using this
  obtain ⟨hq,hkey⟩:=List.getElem?_eq_some_iff.1 hk
  have hq:q < ks.length:=hq
  have hkey:ks[q]=key:=hkey
  have e1:ks=ks.take q++key::ks.drop (q+1):=by rw [← hkey]; simp
  have hw:=wv_join (A:=ks.take q) (B:=ks.drop (q+1)) (k:=key) (L:=(ts.take (q+1)).map (sq h)) (R:=(ts.drop (q+1)).map (sq h)) (by simp; omega) (by
   intro hh
   have:=congrArg List.length hh
   simp at this
   omega)
  rw [← e1,← List.map_append,List.take_append_drop] at hw
  show SQ (wv ks (ts.map (sq h))) (wv (ks.take q) ((ts.take (q+1)).map (sq h))++It.S key::wv (ks.drop (q+1)) ((ts.drop (q+1)).map (sq h)))
  rw [hw]
  exact SQ.refl
theorem Via.seg {m m1:Mem} {h p:Nat} {K K':List Tx} {L M M' R:List (Tr h)} (hr:RepT m (h+1) (inn p K (L++(M++R)))) (hn:(pgs (h+1) (inn p K (L++(M++R)))).Nodup) (hc:Chg m m1 (M.flatMap (pgs h)) (M'.flatMap (pgs h))) (hrep:∀ s∈M',RepT m1 h s)
  (hsq:SQ (sq (h+1) (inn p K (L++(M++R)))) (sq (h+1) (inn p K' (L++(M'++R))))):Via m (updM m1 p (some ⟨false,K',[],nos (L++(M'++R))⟩)) (inn p K (L++(M++R))) (inn p K' (L++(M'++R))):=by
 have hsome:=hr.some
 rw [rep_inn] at hr
 have hpg:∀ (K:List Tx) (M:List (Tr h)),pgs (h+1) (inn p K (L++(M++R)))=p::(L.flatMap (pgs h)++(M.flatMap (pgs h)++R.flatMap (pgs h))):=fun K M=>by simp [pgs_inn]
 rw [hpg,List.nodup_cons] at hn
 obtain ⟨hp,hn⟩:=hn
 obtain ⟨c,hs⟩:=hc.lift hn (fun q hq=>hsome q (by
  rw [hpg]
  rcases hq with h | h
  ·simp [h]
  ·simp [h]))
 have hpm:m p≠none:=hsome p (by rw [hpg]; exact List.mem_cons_self ..)
 have hpM':p ∉ L.flatMap (pgs h)++(M'.flatMap (pgs h)++R.flatMap (pgs h)):=fun hh=>by
  rcases c.new p hh with h | h
  ·exact hp h
  ·exact hpm h
 have hup:∀ q,q≠p->updM m1 p (some ⟨false,K',[],nos (L++(M'++R))⟩) q=m1 q:=fun q hq=>by unfold updM; rw [if_neg hq]
 refine ⟨⟨by rw [hpg,List.nodup_cons]; exact ⟨hpM',c.nd⟩,fun q hq=>?_,fun q h1 h2=>?_,fun q h1 h2=>?_⟩,?_,hsq,rfl⟩
 ·rw [hpg] at hq ⊢
  rcases List.mem_cons.1 hq with rfl | hq
  ·exact .inl (List.mem_cons_self ..)
  ·exact (c.new q hq).imp (fun h=>List.mem_cons_of_mem _ h) id
 ·rw [hpg,List.mem_cons,not_or] at h1 h2
  rw [hup q h1.1,c.out q h1.2 h2.2]
 ·rw [hpg,List.mem_cons] at h1
  rw [hpg,List.mem_cons,not_or] at h2
  rcases h1 with h1 | h1
  ·exact absurd h1 h2.1
  ·rw [hup q h2.1,c.gone q h1 h2.2]
 ·rw [rep_inn]
  refine ⟨by unfold updM; rw [if_pos rfl],fun s hs'=>?_⟩
  have hcon:∀ (hq:∀ q,q∈pgs h s->q∈L.flatMap (pgs h)++(M'.flatMap (pgs h)++R.flatMap (pgs h))) ,RepT m1 h s->RepT (updM m1 p (some ⟨false,K',[],nos (L++(M'++R))⟩)) h s:=fun hq hr=>hr.congr fun q hq'=>hup q (fun he=>hpM' (he ▸ hq q hq'))
  simp only [List.mem_append] at hs'
  rcases hs' with h1 | h1 | h1
  ·exact hcon (fun q hq=>List.mem_append_left _ (List.mem_flatMap.2 ⟨s,h1,hq⟩)) ((hr.2 s (by simp [h1])).congr fun q hq=>hs q (.inl (List.mem_flatMap.2 ⟨s,h1,hq⟩)))
  ·exact hcon (fun q hq=>List.mem_append_right _ (List.mem_append_left _ (List.mem_flatMap.2 ⟨s,h1,hq⟩))) (hrep s h1)
  ·exact hcon (fun q hq=>List.mem_append_right _ (List.mem_append_right _ (List.mem_flatMap.2 ⟨s,h1,hq⟩))) ((hr.2 s (by simp [h1])).congr fun q hq=>hs q (.inr (List.mem_flatMap.2 ⟨s,h1,hq⟩)))
theorem chg_spl:∀ {h:Nat} {t:Tr h} {m:Mem} {q p2:Nat},RepT m h t->(pgs h t).Nodup->m p2=none->GoodN (nd h t) →
  Chg m (updM (updM m (no h t) (some (cutL (nd h t) q))) p2 (some (cutR (nd h t) q))) (pgs h t) (pgs h (splL h t q)++pgs h (splR h t q p2)) /\
  RepT (updM (updM m (no h t) (some (cutL (nd h t) q))) p2 (some (cutR (nd h t) q))) h (splL h t q)/\RepT (updM (updM m (no h t) (some (cutL (nd h t) q))) p2 (some (cutR (nd h t) q))) h (splR h t q p2)
 | 0,t,m,q,p2,hr,hn,hf,hg=>by
  have hne:no 0 t≠p2:=fun he=>hr.some (no 0 t) no_mem (by rw [he]; exact hf)
  obtain ⟨p,ks,vs,rfl⟩:=lf_eta t
  simp only [no_lf] at hne ⊢
  refine ⟨⟨?_,fun x hx=>?_,fun x h1 h2=>?_,fun x h1 h2=>?_⟩,?_,?_⟩
  ·show [p,p2].Nodup
   simp [hne]
  ·have hx:x∈[p,p2]:=hx
   simp only [List.mem_cons,List.not_mem_nil,or_false] at hx
   rcases hx with rfl | rfl
   ·exact .inl (by simp)
   ·exact .inr hf
  ·have h1:x ∉ [p]:=h1
   have h2:x ∉ [p,p2]:=h2
   simp at h1 h2
   unfold updM
   rw [if_neg h2.2,if_neg h1]
  ·have h1:x∈[p]:=h1
   have h2:x ∉ [p,p2]:=h2
   simp at h1 h2
   exact absurd h1 h2.1
  ·show updM _ p2 _ p=_
   unfold updM
   rw [if_neg hne,if_pos rfl]; rfl
  ·show updM _ p2 _ p2=_
   unfold updM
   rw [if_pos rfl]; rfl
 | h+1,t,m,q,p2,hr,hn,hf,hg=>by
  have hsome:=hr.some
  have hne:no (h+1) t≠p2:=fun he=>hsome (no (h+1) t) no_mem (by rw [he]; exact hf)
  obtain ⟨p,ks,ts,rfl⟩:=inn_eta t
  simp only [no_inn] at hne ⊢
  rw [rep_inn] at hr
  have hsplit:ts.flatMap (pgs h)=(ts.take (q+1)).flatMap (pgs h)++(ts.drop (q+1)).flatMap (pgs h):=by rw [← List.flatMap_append,List.take_append_drop]
  have hp2:∀ x,x∈ts.flatMap (pgs h)->x≠p2:=fun x hx he=>hsome x (by rw [pgs_inn]; exact List.mem_cons_of_mem _ hx) (by rw [he]; exact hf)
  rw [pgs_inn,List.nodup_cons] at hn
  have hL:pgs (h+1) (splL (h+1) (inn p ks ts) q)=p::(ts.take (q+1)).flatMap (pgs h):=rfl
  have hR:pgs (h+1) (splR (h+1) (inn p ks ts) q p2)=p2::(ts.drop (q+1)).flatMap (pgs h):=rfl
  have hcon:∀ s,s∈ts->RepT (updM (updM m p (some (cutL (nd (h+1) (inn p ks ts)) q))) p2 (some (cutR (nd (h+1) (inn p ks ts)) q))) h s:=fun s hs=>(hr.2 s hs).congr fun x hx=>by
   have hx':=List.mem_flatMap.2 ⟨s,hs,hx⟩
   have hxp:x≠p:=fun he=>hn.1 (he ▸ hx')
   unfold updM
   rw [if_neg (hp2 x hx'),if_neg hxp]
  rw [hL,hR,pgs_inn]
  rw [hsplit] at hn hp2 ⊢
  obtain ⟨hn1,hn2⟩:=hn
  rw [List.nodup_append] at hn2
  refine ⟨⟨?_,fun x hx=>?_,fun x h1 h2=>?_,fun x h1 h2=>?_⟩,?_,?_⟩
  ·rw [List.nodup_append]
   refine ⟨List.nodup_cons.2 ⟨fun hh=>hn1 (List.mem_append_left _ hh),hn2.1⟩,List.nodup_cons.2 ⟨fun hh=>hp2 p2 (List.mem_append_right _ hh) rfl,hn2.2.1⟩,fun a ha b hb=>?_⟩
   rcases List.mem_cons.1 ha with rfl | ha
   ·rcases List.mem_cons.1 hb with rfl | hb
    ·exact hne
    ·exact fun he=>hn1 (List.mem_append_right _ (he ▸ hb))
   ·rcases List.mem_cons.1 hb with rfl | hb
    ·exact hp2 a (List.mem_append_left _ ha)
    ·exact hn2.2.2 a ha b hb
  ·simp only [List.mem_append,List.mem_cons] at hx ⊢
   rcases hx with (h | h) | (h | h)
   ·exact .inl (.inl h)
   ·exact .inl (.inr (.inl h))
   ·exact .inr (h ▸ hf)
   ·exact .inl (.inr (.inr h))
  ·simp only [List.mem_append,List.mem_cons,not_or] at h1 h2
   unfold updM
   rw [if_neg h2.2.1,if_neg h1.1]
  ·simp only [List.mem_append,List.mem_cons,not_or] at h1 h2
   rcases h1 with h | h | h
   ·exact absurd h h2.1.1
   ·exact absurd h h2.1.2
   ·exact absurd h h2.2.2
  ·refine ⟨?_,fun s hs=>hcon s (List.mem_of_mem_take hs)⟩
   rw [nd_splL]
   show updM _ p2 _ p=_
   unfold updM
   rw [if_neg hne,if_pos rfl]
  ·refine ⟨?_,fun s hs=>hcon s (List.mem_of_mem_drop hs)⟩
   rw [nd_splR]
   show updM _ p2 _ p2=_
   unfold updM
   rw [if_pos rfl]
theorem Via.split {m:Mem} {h p q p2:Nat} {A B:List Tx} {key:Tx} {L R:List (Tr h)} {t:Tr h} (hl:A.length=L.length) (hr:RepT m (h+1) (inn p (A++B) (L++t::R))) (hn:(pgs (h+1) (inn p (A++B) (L++t::R))).Nodup) (hf:m p2=none) (hg:GoodN (nd h t)) (h1:1<=q) (hk:(nd h t).ks[q]?=some key) :
  Via m (updM (updM (updM m (no h t) (some (cutL (nd h t) q))) p2 (some (cutR (nd h t) q))) p (some ⟨false,A++key::B,[],nos (L++splL h t q::splR h t q p2::R)⟩)) (inn p (A++B) (L++t::R)) (inn p (A++key::B) (L++splL h t q::splR h t q p2::R)):=by
 have hrt:=(rep_inn.1 hr).2 t (by simp)
 have hnt:(pgs h t).Nodup:=by
  rw [pgs_at,List.nodup_append,List.nodup_append] at hn
  exact hn.2.1.1
 obtain ⟨c,r1,r2⟩:=chg_spl (q:=q) hrt hnt hf hg
 have:=Via.seg (K:=A++B) (K':=A++key::B) (L:=L) (M:=[t]) (M':=[splL h t q,splR h t q p2]) (R:=R) hr hn (by simpa using c) (fun s hs=>by
  simp only [List.mem_cons,List.not_mem_nil,or_false] at hs
  rcases hs with rfl | rfl
  ·exact r1
  ·exact r2) (by
  show SQ (sq (h+1) (inn p (A++B) (L++t::R))) (sq (h+1) (inn p (A++key::B) (L++splL h t q::splR h t q p2::R)))
  rw [sq_at hl,sq_at hl]
  have e1:postI (key::B) ((splR h t q p2::R).map (sq h))=It.S key::(sq h (splR h t q p2)++postI B (R.map (sq h))):=rfl
  rw [e1]
  have h2:=(sq_spl (p2:=p2) hg h1 hk).ctx (preI A (L.map (sq h))) (postI B (R.map (sq h)))
  simpa only [List.append_assoc,List.cons_append] using h2)
 exact this
end Go.Proofs.YtlmmddfhoabjfaaGreat
end
section
namespace Go.Am
theorem insL_map {α β:Type} {f:α->β} {l:List α} {i:Nat} {x:α}:insL (l.map f) i (f x)=(insL l i x).map f:=by simp [insL,List.map_take,List.map_drop]
end Go.Am
namespace Go.Proofs.YtlmmddfhoabjfaaGreat
open Go.Am
abbrev sRow (s:Tx):ARow:=.cells 9 [txt s]
def insN (n:Nd) (i:Nat) (key:Tx) (p2:Nat):Nd:=⟨n.leaf,insL n.ks i key,n.vs,insL n.kids (i+1) (p2:Int)⟩
set_option maxHeartbeats 4000000 in
theorem spl_chn {c:Cfg} {G X:RL} {root cnt:Int} {r5 r8 r10 i p2:Nat} {key:Tx} {n:Nd} (h5:(r5,iRow (i:Nat))∈G) (h8:(r8,sRow key)∈G) (h10:(r10,iRow (p2:Nat))∈G) (hs:Sm n) (hi:i<=n.ks.length) (hz:i+1<=n.kids.length) :
  Chn c G X root cnt cnt 159 [ptr r5,ptr r8,ptr r10] n (insN n i key p2):=by
 intro rc w1 w2 w3 Y1 Y2 Y3 T es ck ws wk g1 g2 g3
 have e1:=hs.k; have e2:=hs.v; have e3:=hs.z
 obtain ⟨lf,ks,vs,kids⟩:=n
 simp only at g1 g2 g3 hi hz e1 e2 e3 ⊢
 have mG:∀ (p:Nat × ARow),p∈G->p∈(rc,ndRow lf w1 w2 w3)::HD c.rf c.rb c.rt c.rn c.rw T root cnt c.root0 c.cnt0 es ck ws wk (Y3++(Y2++(Y1++(G++X)))):=fun p hp=>by simp [hp]
 refine CS.mk (fn:=Tryz.f159) rfl rfl rfl rfl ?_
 repeat refine xQ ?_
 refine LS.drawn noGo mixed [(0,false),(1,false),(2,false),(3,false),(4,false),(5,false),(6,false),(7,true),(8,true),(9,false),(10,false),(11,true)] rfl rfl (by kernel_rfl) ?_
 iterate 4 refine xD rfl rfl rh rfl ?_
 refine xE rfl rfl (e_load 0 rfl rfl rfl rfl rfl) rfl ?_
 refine xE rfl rfl (e_loadm (mG _ h5) rfl rfl rfl rfl) rfl ?_
 refine xE rfl rfl (e_loadm (mG _ h8) rfl rfl rfl rfl) rfl ?_
 refine ODS.fresh rfl rfl (e_new (fun _=>rfl) rfl) (fun _=>rfl) (fun rv=>(by repeat (first | exact Keep.nil | refine Keep.gone rfl ?_ | refine Keep.cons rfl (e_load 1 rfl rfl rfl rfl rfl) ?_ | refine Keep.cons rfl (e_loadm (List.mem_cons_of_mem _ (mG _ h5)) rfl rfl rfl rfl) ?_))) (fun rv=>?_)
 refine ODS.nodup fun hnd=>?_
 have hrv:∀ p,p∈Y1->p.1≠rv:=fun p hp he=>by
  exact (List.nodup_cons.1 hnd).1 (List.mem_map.2 ⟨p,by simp [hp],he⟩)
 refine ODS.sub (Sub.sums (A:=Y1++((rv,sRow key)::(rc,ndRow lf w1 w2 w3)::HD c.rf c.rb c.rt c.rn c.rw T root cnt c.root0 c.cnt0 es ck ws wk (Y3++(Y2++(G++X))))) (B:=(rv,sRow key)::(rc,ndRow lf w1 w2 w3)::HD c.rf c.rb c.rt c.rn c.rw T root cnt c.root0 c.cnt0 es ck ws wk (Y3++(Y2++(Y1++(G++X))))) fun f=>by simp [HD,fm]<;>omega) ?_
 refine ODS.call rfl rfl (fun _=>rfl) ((InsertS_ct (x:=txt key) g1 hi (by omega) rfl (tx_one _) (List.mem_cons_self ..) hrv).mono ?_)
 rintro u1 L' ⟨Y1',rfl,o1⟩
 refine ⟨_,rfl,(by repeat (first | exact Keep.nil | refine Keep.gone rfl ?_)),?_⟩
 have o1':OL 9 1 u1 (insL ks i key).length (tx (insL ks i key)) Y1':=by
  rw [insL_len hi]
  have:=o1.ol
  rw [show txt key=(fun s=>txt s) key from rfl,insL_map] at this
  exact this
 refine ODS.sub (Sub.sums2 [(rv,sRow key)] (A:=(rc,ndRow lf w1 w2 w3)::HD c.rf c.rb c.rt c.rn c.rw T root cnt c.root0 c.cnt0 es ck ws wk (Y3++(Y2++(Y1'++(G++X))))) (B:=Y1'++((rv,sRow key)::(rc,ndRow lf w1 w2 w3)::HD c.rf c.rb c.rt c.rn c.rw T root cnt c.root0 c.cnt0 es ck ws wk (Y3++(Y2++(G++X))))) fun f=>by simp [HD,fm]<;>omega) ?_
 iterate 2 refine xD rfl rfl rh rfl ?_
 refine ODS.write rfl rfl (e_storeS 0 (isSl o1'.sv) rfl rfl rfl rfl rfl rfl rfl) rfl (by repeat (first | exact Keep.nil | refine Keep.gone rfl ?_)) ?_
 refine xM ?_
 have mG2:∀ (p:Nat × ARow),p∈G->p∈(rc,ndRow lf u1 w2 w3)::HD c.rf c.rb c.rt c.rn c.rw T root cnt c.root0 c.cnt0 es ck ws wk (Y3++(Y2++(Y1'++(G++X)))):=fun p hp=>by simp [hp]
 repeat refine xQ ?_
 refine LS.drawn noGo mixed [(0,false),(1,false),(2,false),(3,false),(4,false),(5,false),(6,false),(7,false),(8,true),(9,true),(10,false),(11,false),(12,true)] rfl rfl (by kernel_rfl) ?_
 iterate 4 refine xD rfl rfl rh rfl ?_
 refine xE rfl rfl (e_load 0 rfl rfl rfl rfl rfl) rfl ?_
 refine xE rfl rfl (e_loadm (mG2 _ h5) rfl rfl rfl rfl) rfl ?_
 refine xD rfl rfl (e_addN (n:=1) rfl rfl rfl (in_i64 (by omega) (by omega))) rfl ?_
 refine xE rfl rfl (e_loadm (mG2 _ h10) rfl rfl rfl rfl) rfl ?_
 refine ODS.fresh rfl rfl (e_new (fun _=>rfl) rfl) (fun _=>rfl) (fun rv=>(by repeat (first | exact Keep.nil | refine Keep.gone rfl ?_ | refine Keep.cons rfl (e_load 1 rfl rfl rfl rfl rfl) ?_ | refine Keep.cons rfl (e_loadm (List.mem_cons_of_mem _ (mG2 _ h5)) rfl rfl rfl rfl) ?_))) (fun rv=>?_)
 refine ODS.nodup fun hnd=>?_
 have hrv:∀ p,p∈Y3->p.1≠rv:=fun p hp he=>by
  exact (List.nodup_cons.1 hnd).1 (List.mem_map.2 ⟨p,by simp [hp],he⟩)
 refine ODS.sub (Sub.sums (A:=Y3++((rv,iRow (p2:Nat))::(rc,ndRow lf u1 w2 w3)::HD c.rf c.rb c.rt c.rn c.rw T root cnt c.root0 c.cnt0 es ck ws wk (Y2++(Y1'++(G++X))))) (B:=(rv,iRow (p2:Nat))::(rc,ndRow lf u1 w2 w3)::HD c.rf c.rb c.rt c.rn c.rw T root cnt c.root0 c.cnt0 es ck ws wk (Y3++(Y2++(Y1'++(G++X))))) fun f=>by simp [HD,fm]<;>omega) ?_
 refine ODS.call rfl rfl (fun _=>rfl) ((InsertZ_ct (x:=.int .i64 (p2:Nat)) g3 hz (by omega) rfl (nums_one _) (List.mem_cons_self ..) hrv).mono ?_)
 rintro u3 L' ⟨Y3',rfl,o3⟩
 refine ⟨_,rfl,(by repeat (first | exact Keep.nil | refine Keep.gone rfl ?_)),?_⟩
 have o3':OL 3 1 u3 (insL kids (i+1) (p2:Int)).length (nums (insL kids (i+1) (p2:Int))) Y3':=by
  rw [insL_len hz]
  have:=o3.ol
  rw [show Value.int .i64 (p2:Nat)=(fun z=>Value.int .i64 z) ((p2:Nat):Int) from rfl,insL_map] at this
  exact this
 refine ODS.sub (Sub.sums2 [(rv,iRow (p2:Nat))] (A:=(rc,ndRow lf u1 w2 w3)::HD c.rf c.rb c.rt c.rn c.rw T root cnt c.root0 c.cnt0 es ck ws wk ((Y3'++(Y2++Y1'))++(G++X))) (B:=Y3'++((rv,iRow (p2:Nat))::(rc,ndRow lf u1 w2 w3)::HD c.rf c.rb c.rt c.rn c.rw T root cnt c.root0 c.cnt0 es ck ws wk (Y2++(Y1'++(G++X))))) fun f=>by simp [HD,fm]<;>omega) ?_
 iterate 2 refine xD rfl rfl rh rfl ?_
 refine ODS.write rfl rfl (e_storeS 0 (isSl o3'.sv) rfl rfl rfl rfl rfl rfl rfl) rfl (by repeat (first | exact Keep.nil | refine Keep.gone rfl ?_)) ?_
 refine xM ?_
 exact ⟨_,fun _ _=>rfl,u1,w2,u3,Y3'++(Y2++Y1'),rfl,⟨o1'.pl.mono (fun p hp=>by simp [hp]),(g2.ol (show vs.length<=openCap by unfold openCap; omega)).pl.mono (fun p hp=>by simp [hp]),o3'.pl.mono (fun p hp=>by simp [hp])⟩⟩
end Go.Proofs.YtlmmddfhoabjfaaGreat
end
section
namespace Go.Proofs.YtlmmddfhoabjfaaGreat
open Go.Am
theorem frM_same {N k:Nat} {m:Mem} {n n':Nd} (h:k < N) (hm:m k=some n):frM N (updM m k (some n'))=frM N m:=by
 have:=frM_upd (m:=m) (o:=some n') h
 rw [hm] at this
 simp at this
 exact this
theorem frM_new {N k:Nat} {m:Mem} {n':Nd} (h:k < N) (hm:m k=none):frM N (updM m k (some n'))+1=frM N m:=by
 have:=frM_upd (m:=m) (o:=some n') h
 rw [hm] at this
 simpa using this
theorem insN_nos {h:Nat} {A B:List Tx} {key:Tx} {L R:List (Tr h)} {t u v:Tr h} {p2:Nat} (hl:A.length=L.length) (hu:no h u=no h t) (hv:no h v=p2):insN ⟨false,A++B,[],nos (L++t::R)⟩ L.length key p2=⟨false,A++key::B,[],nos (L++u::v::R)⟩:=by
 have e1:insL (A++B) L.length key=A++key::B:=by
  unfold insL
  rw [← hl,List.take_append_of_le_length (Nat.le_refl _),List.drop_append_of_le_length (Nat.le_refl _)]
  simp
 have e2:insL (nos (L++t::R)) (L.length+1) (p2:Int)=nos (L++u::v::R):=by
  unfold insL
  simp only [nos,List.map_append,List.map_cons,hu,hv]
  rw [List.take_append,List.drop_append,List.take_of_length_le (by simp),List.drop_eq_nil_of_le (by simp)]
  simp
 unfold insN
 rw [e1,e2]
set_option maxHeartbeats 4000000 in
theorem split_tr {c:Cfg} {G X:RL} {s:TSt} {rows:RL} {h p:Nat} {A B:List Tx} {L R:List (Tr h)} {t:Tr h} (htr:TR c G X s rows) (hl:A.length=L.length) (hB:B.length=R.length) (hr:RepT s.m (h+1) (inn p (A++B) (L++t::R))) (hn:(pgs (h+1) (inn p (A++B) (L++t::R))).Nodup)
  (hlen:(A++B).length<=1000) (hg:GoodN (nd h t)) (h2:2<=(nd h t).ks.length) (hf:0 < frM c.N s.m) :
  CS Tryz.prog 134 [ptr c.rt,.int .i64 (p:Nat),.int .i64 (L.length:Nat)] rows fun _ L'=>∃ X' m' q key p2,1<=q/\(nd h t).ks[q]?=some key/\(∀ q',1<=q'->q' < (nd h t).ks.length->mxN (nd h t) q<=mxN (nd h t) q')/\p2 < c.N/\(∀ q,q∈X->q∈X')/\TR c G X' ⟨m',s.root,s.cnt⟩ L' /\
   Via s.m m' (inn p (A++B) (L++t::R)) (inn p (A++key::B) (L++splL h t q::splR h t q p2::R))/\frM c.N m'+1=frM c.N s.m:=by
 suffices g:CS Tryz.prog 134 [ptr c.rt,.int .i64 (p:Nat),.int .i64 (L.length:Nat)] rows fun _ L'=>∃ x1 x2 x3 x4 X' m' q key p2,1<=q/\(nd h t).ks[q]?=some key/\(∀ q',1<=q'->q' < (nd h t).ks.length->mxN (nd h t) q<=mxN (nd h t) q')/\p2 < c.N/\(∀ q,q∈X->q∈X')/\TR c (x1::x2::x3::x4::G) X' ⟨m',s.root,s.cnt⟩ L' /\
   Via s.m m' (inn p (A++B) (L++t::R)) (inn p (A++key::B) (L++splL h t q::splR h t q p2::R))/\frM c.N m'+1=frM c.N s.m by
  refine g.less ?_
  rintro u L' ⟨x1,x2,x3,x4,X',m',q,key,p2,h1,h2,h3,h4,h5,h6,h7⟩
  obtain ⟨L1,g1,s1⟩:=h6.pop
  obtain ⟨L2,g2,s2⟩:=g1.pop
  obtain ⟨L3,g3,s3⟩:=g2.pop
  obtain ⟨L4,g4,s4⟩:=g3.pop
  exact ⟨L4,s4.trans (s3.trans (s2.trans s1)),X',m',q,key,p2,h1,h2,h3,h4,h5,g4,h7⟩
 have hmp:s.m p=some ⟨false,A++B,[],nos (L++t::R)⟩:=hr.top
 have hmt:s.m (no h t)=some (nd h t):=((rep_inn.1 hr).2 t (by simp)).top
 have hpt:p≠no h t:=fun he=>by
  rw [pgs_at,List.nodup_append] at hn
  exact hn.2.2 p (List.mem_cons_self ..) (no h t) (List.mem_append_left _ no_mem) he
 have spar:=htr.sm _ _ hmp
 have st:=htr.sm _ _ hmt
 have dp:=htr.dom p (by rw [hmp]; simp)
 have dt:=htr.dom _ (show s.m (no h t)≠none by rw [hmt]; simp)
 obtain ⟨T,es,ck,ws,wk,g,rfl,hN,hp,hgm,hmr⟩:=htr.now
 obtain ⟨r,hgr0,v1,v2,v3,hr1,hP⟩:=(hmr p).2 _ hmp
 have hgr:(g p).getD (.pointer none)=ptr r:=by rw [hgr0]; rfl
 obtain ⟨ra,hga,va1,va2,va3,hra,hPa⟩:=(hmr (no h t)).2 _ hmt
 have ega:(g (no h t)).getD (.pointer none)=ptr ra:=by rw [hga]; rfl
 refine CS.mk (fn:=Tryz.f134) rfl rfl rfl rfl ?_
 repeat refine xQ ?_
 refine xG rfl ?_
 refine OS.fresh rfl (e_boxV (v:=.int .i64 (L.length:Nat)) (cs:=[.int .i64 (L.length:Nat)]) rfl rfl rfl rfl rfl) (fun _=>rfl) (fun r5=>?_)
 refine OS.sub Sub.inQ ?_
 refine xN ?_
 have hXB:∀ q,q∈X->q∈HD c.rf c.rb c.rt c.rn c.rw T s.root s.cnt c.root0 c.cnt0 es ck ws wk ((r5,iRow (L.length:Nat))::(G++X)):=fun q hq=>by simp [hq]
 have m5:(r5,iRow (L.length:Nat))∈HD c.rf c.rb c.rt c.rn c.rw T s.root s.cnt c.root0 c.cnt0 es ck ws wk ((r5,iRow (L.length:Nat))::(G++X)):=by simp
 have mrt:(c.rt,trRow c.rf c.rn c.rw s.root s.cnt c.root0 c.cnt0)∈HD c.rf c.rb c.rt c.rn c.rw T s.root s.cnt c.root0 c.cnt0 es ck ws wk ((r5,iRow (L.length:Nat))::(G++X)):=by simp
 have mmap:(c.rn,ARow.map es ck)∈HD c.rf c.rb c.rt c.rn c.rw T s.root s.cnt c.root0 c.cnt0 es ck ws wk ((r5,iRow (L.length:Nat))::(G++X)):=by simp
 have m1:=hXB _ hr1
 have N1:=hP.nv spar hXB
 simp only at N1 m1
 repeat refine xQ ?_
 refine LS.drawn noGo mixed [(0,false),(1,false),(2,false),(3,false),(4,false),(5,false),(6,false),(7,false),(8,false),(9,false),(10,false),(11,false),(12,false),(13,false)] rfl rfl (by kernel_rfl) ?_
 iterate 4 refine xD rfl rfl rh rfl ?_
 refine xE rfl rfl (e_loadm mrt rfl rfl rfl rfl) rfl ?_
 refine xD rfl rfl rh rfl ?_
 refine xE rfl rfl (e_get hgm mmap rfl rfl rfl rfl (fun _=>rfl) rfl) rfl ?_
 rw [hgr]
 iterate 2 refine xD rfl rfl rh rfl ?_
 refine xE rfl rfl (e_loadm m1 rfl rfl rfl rfl) rfl ?_
 refine xE rfl rfl (e_loadm m5 rfl rfl rfl rfl) rfl ?_
 refine ODS.at1 (j:=L.length) (N1.z) (nos_at) rfl rfl rfl rfl rfl rfl rfl (fun ra0 oa0 rowa0 csa0 ma0 ca0 ga0=>⟨_,rfl,?_⟩)
 refine xE rfl rfl (e_loadm ma0 ca0 rfl rfl (part_one rfl ga0)) rfl ?_
 refine xD rfl rfl rh rfl ?_
 refine xM ?_
 repeat refine xQ ?_
 refine xG rfl ?_
 iterate 4 refine xP rfl rh rfl ?_
 refine xR rfl (e_loadm mrt rfl rfl rfl rfl) rfl ?_
 refine xP rfl rh rfl ?_
 refine xR rfl (e_get hgm mmap rfl rfl rfl rfl (fun _=>rfl) rfl) rfl ?_
 rw [ega]
 refine xA noGo rfl (fun _=>rfl) ((halves_ct (X:=X) hXB ⟨va1,va2,va3,hra,hPa⟩ st hg h2).mono ?_)
 rintro u L' ⟨w1,w2,w3,x1,x2,x3,q,key,hq1,hqk,hmin,rfl,rfl,pL,pR⟩
 refine ⟨_,rfl,?_⟩
 iterate 4 refine xP rfl rh rfl ?_
 refine OS.fresh rfl (e_new (fun _=>rfl) rfl) (fun _=>rfl) (fun r7=>?_)
 refine OS.fresh rfl (e_new (fun _=>rfl) rfl) (fun _=>rfl) (fun r8=>?_)
 refine OS.fresh rfl (e_new (fun _=>rfl) rfl) (fun _=>rfl) (fun r9=>?_)
 refine OS.write rfl (e_store 2 (n:=4) rfl rfl rfl rfl rfl (nd_one (isSl pL.k.sv) (isSl pL.v.sv) (isSl pL.z.sv)) rfl rfl) rfl ?_
 refine OS.write rfl (e_store 1 rfl rfl rfl rfl rfl rfl rfl rfl) rfl ?_
 refine OS.write rfl (e_store 0 (n:=4) rfl rfl rfl rfl rfl (nd_one (isSl pR.k.sv) (isSl pR.v.sv) (isSl pR.z.sv)) rfl rfl) rfl ?_
 refine OS.sub (Sub.sums (A:=HD c.rf c.rb c.rt c.rn c.rw T s.root s.cnt c.root0 c.cnt0 es ck ws wk (((r9,ndRow (nd h t).leaf x1 x2 x3)::(r8,sRow key)::(r5,iRow (L.length:Nat))::G)++((r7,ndRow (nd h t).leaf w1 w2 w3)::X))) (B:=(r9,ndRow (nd h t).leaf x1 x2 x3)::(r8,sRow key)::(r7,ndRow (nd h t).leaf w1 w2 w3)::HD c.rf c.rb c.rt c.rn c.rw T s.root s.cnt c.root0 c.cnt0 es ck ws wk ((r5,iRow (L.length:Nat))::(G++X))) fun f=>by simp [HD,fm]<;>omega) ?_
 refine xN ?_
 have hX1:∀ q,q∈X->q∈(r7,ndRow (nd h t).leaf w1 w2 w3)::X:=fun q hq=>List.mem_cons_of_mem _ hq
 have htr1:TR c ((r9,ndRow (nd h t).leaf x1 x2 x3)::(r8,sRow key)::(r5,iRow (L.length:Nat))::G) ((r7,ndRow (nd h t).leaf w1 w2 w3)::X) s (HD c.rf c.rb c.rt c.rn c.rw T s.root s.cnt c.root0 c.cnt0 es ck ws wk (((r9,ndRow (nd h t).leaf x1 x2 x3)::(r8,sRow key)::(r5,iRow (L.length:Nat))::G)++((r7,ndRow (nd h t).leaf w1 w2 w3)::X))):=⟨T,es,ck,ws,wk,hN,rfl,hp.mono hX1⟩
 have scut:=cut_sm st q
 repeat refine xQ ?_
 refine xG rfl ?_
 iterate 4 refine xP rfl rh rfl ?_
 refine xA noGo rfl (fun _=>rfl) ((lay_tr (o:=some (cutL (nd h t) q)) htr1 dt ⟨r7,rfl,w1,w2,w3,List.mem_cons_self ..,pL.mono hX1⟩ (fun n hn=>by cases hn; exact scut.1)).mono ?_)
 rintro u L1 h1
 refine ⟨_,rfl,?_⟩
 refine xN ?_
 have hfm1:frM c.N (updM s.m (no h t) (some (cutL (nd h t) q)))=frM c.N s.m:=frM_same dt hmt
 have m9:=h1.memG _ (List.mem_cons_self ..)
 repeat refine xQ ?_
 refine LS.mid [0,1,5,8,10] (fun a' L'=>∃ r10 p2 x,p2 < c.N/\(updM s.m (no h t) (some (cutL (nd h t) q))) p2=none/\TR c ((r10,iRow (p2:Nat))::(r9,ndRow (nd h t).leaf x1 x2 x3)::(r8,sRow key)::(r5,iRow (L.length:Nat))::G) (x::(r7,ndRow (nd h t).leaf w1 w2 w3)::X) ⟨updM (updM s.m (no h t) (some (cutL (nd h t) q))) p2 (some (cutR (nd h t) q)),s.root,s.cnt⟩ L' /\
  a'=[ptr c.rt,.int .i64 (p:Nat),jn,jn,jn,ptr r5,jn,jn,ptr r8,jn,ptr r10,jn,jn,jn,jn,jn,jn,jn,jn,jn,jn,jn,jn,jn,jn,jn,jn,jn,jn,jn,jn,jn,jn,jn,jn,jn,jn,jn,jn,jn,jn,jn,jn,jn,jn,jn,jn,jn,jn,jn,jn,jn]) ?_ ?_
 ·repeat refine xQ ?_
  refine LS.forked noGo mixed 7 rfl rfl (by kernel_rfl) ?_
  refine OGS.pure 0 (by kernel_rfl) rfl rfl (fun _=>rfl) rfl ?_
  refine OGS.pure 1 (by kernel_rfl) rfl rfl (fun _=>rfl) rfl ?_
  refine OGS.pure 2 (by kernel_rfl) rfl rfl (fun _=>rfl) rfl ?_
  refine OGS.read 3 (by kernel_rfl) rfl rfl (e_loadm m9 rfl rfl rfl rfl) rfl ?_
  refine OGS.turn2 4 5 (by kernel_rfl) (by kernel_rfl) ?_ ?_
  ·refine OT.call rfl rfl (fun _=>rfl) ((add_tr (n:=cutR (nd h t) q) h1 (by simp only; omega) (pR.mono hX1) scut.2).mono ?_)
   rintro u L2 ⟨p2,x,d2,hp2,rfl,h2⟩
   have m9':=h2.memG _ (List.mem_cons_self ..)
   refine ⟨_,rfl,(by repeat (first | exact Keep.nil | refine Keep.gone rfl ?_ | refine Keep.cons rfl (e_loadm m9' rfl rfl rfl rfl) ?_)),?_⟩
   refine OGS.turn1 5 (by kernel_rfl) (by kernel_rfl) (OT.fresh rfl rfl (e_new (fun _=>rfl) rfl) (fun _=>rfl) (fun r10=>(by repeat (first | exact Keep.nil | refine Keep.gone rfl ?_ | refine Keep.cons rfl (e_loadm (List.mem_cons_of_mem _ m9') rfl rfl rfl rfl) ?_))) (fun r10=>?_))
   refine OGS.turn1 6 (by kernel_rfl) (by kernel_rfl) (OT.write rfl rfl (e_store 0 rfl rfl rfl rfl rfl rfl rfl rfl) rfl (by repeat (first | exact Keep.nil | refine Keep.gone rfl ?_ | refine Keep.cons rfl (e_loadm (List.mem_cons_of_mem _ m9') rfl rfl rfl rfl) ?_)) ?_)
   obtain ⟨L3,h3,s3⟩:=h2.push (r10,iRow (p2:Nat))
   refine OGS.sub s3 ?_
   exact OGS.nil (by kernel_rfl) ⟨r10,p2,x,d2,hp2,h3,rfl⟩
  ·refine OT.fresh rfl rfl (e_new (fun _=>rfl) rfl) (fun _=>rfl) (fun r10=>(by repeat (first | exact Keep.nil | refine Keep.gone rfl ?_ | refine Keep.cons rfl (e_loadm (List.mem_cons_of_mem _ m9) rfl rfl rfl rfl) ?_))) (fun r10=>?_)
   obtain ⟨L2,h2,s2⟩:=h1.push (r10,iRow 0)
   refine OGS.sub s2 ?_
   refine OGS.turn1 4 (by kernel_rfl) (by kernel_rfl) (OT.call rfl rfl (fun _=>rfl) ((add_tr (n:=cutR (nd h t) q) h2 (by simp only; omega) (pR.mono hX1) scut.2).mono ?_))
   rintro u L3 ⟨p2,x,d2,hp2,rfl,h3⟩
   have m9':=h3.memG _ (List.mem_cons_of_mem _ (List.mem_cons_self ..))
   refine ⟨_,rfl,(by repeat (first | exact Keep.nil | refine Keep.gone rfl ?_ | refine Keep.cons rfl (e_loadm m9' rfl rfl rfl rfl) ?_)),?_⟩
   obtain ⟨T3,es3,ck3,ws3,wk3,hN3,rfl,hp3⟩:=h3
   have m9'':(r9,ndRow (nd h t).leaf x1 x2 x3)∈HD c.rf c.rb c.rt c.rn c.rw T3 s.root s.cnt c.root0 c.cnt0 es3 ck3 ws3 wk3 ((r10,iRow (p2:Nat))::(r9,ndRow (nd h t).leaf x1 x2 x3)::(r8,sRow key)::(r5,iRow (L.length:Nat))::(G++x::(r7,ndRow (nd h t).leaf w1 w2 w3)::X)):=by simp
   refine OGS.turn1 6 (by kernel_rfl) (by kernel_rfl) (OT.write rfl rfl (e_store 5 rfl rfl rfl rfl rfl rfl rfl rfl) rfl (by repeat (first | exact Keep.nil | refine Keep.gone rfl ?_ | refine Keep.cons rfl (e_loadm m9'' rfl rfl rfl rfl) ?_)) ?_)
   exact OGS.nil (by kernel_rfl) ⟨r10,p2,x,d2,hp2,⟨T3,es3,ck3,ws3,wk3,hN3,rfl,hp3⟩,rfl⟩
 rintro a' L2 ⟨r10,p2,x,d2,hp2,h2t,rfl⟩
 have hp2t:p2≠no h t:=fun he=>by
  unfold updM at hp2
  rw [if_pos he] at hp2
  cases hp2
 have hp2s:s.m p2=none:=by
  unfold updM at hp2
  rw [if_neg hp2t] at hp2
  exact hp2
 have hpp2:p≠p2:=fun he=>by rw [← he,hmp] at hp2s; cases hp2s
 have hm2:updM (updM s.m (no h t) (some (cutL (nd h t) q))) p2 (some (cutR (nd h t) q)) p=some ⟨false,A++B,[],nos (L++t::R)⟩:=by
  unfold updM
  rw [if_neg hpp2,if_neg hpt]; exact hmp
 have hins:=insN_nos (B:=B) (key:=key) (R:=R) (t:=t) (u:=splL h t q) (v:=splR h t q p2) hl no_splL no_splR
 have hkl:key.length<=2000:=st.kl key (List.mem_of_getElem? hqk)
 have hsn:Sm ⟨false,A++key::B,[],nos (L++splL h t q::splR h t q p2::R)⟩:=by
  have:=spar.kl
  simp only [List.length_append] at hlen
  refine ⟨by simp; omega,by simp,by simp [nos]; omega,fun k hk=>?_,fun k hk=>by cases hk⟩
  simp only [List.mem_append,List.mem_cons] at hk
  rcases hk with hk | rfl | hk
  ·exact this k (by simp [hk])
  ·exact hkl
  ·exact this k (by simp [hk])
 repeat refine xQ ?_
 refine xG rfl ?_
 iterate 5 refine xP rfl rh rfl ?_
 refine xA noGo rfl (fun _=>rfl) ((change_tr (caps:=[ptr r5,ptr r8,ptr r10]) (n':=⟨false,A++key::B,[],nos (L++splL h t q::splR h t q p2::R)⟩) h2t hm2 hsn (hins ▸ spl_chn (i:=L.length) (key:=key) (p2:=p2) (by simp) (by simp) (by simp) spar (by simp; omega) (by simp [nos]))).mono ?_)
 rintro u L3 ⟨X3,hX3,h3⟩
 refine ⟨_,rfl,?_⟩
 refine xN ?_
 have hfm2:frM c.N (updM (updM s.m (no h t) (some (cutL (nd h t) q))) p2 (some (cutR (nd h t) q)))+1=frM c.N s.m:=by
  rw [← hfm1]; exact frM_new d2 hp2
 have hfm3:=frM_same (n':=⟨false,A++key::B,[],nos (L++splL h t q::splR h t q p2::R)⟩) dp hm2
 exact ⟨_,fun _ _=>rfl,_,_,_,_,X3,_,q,key,p2,hq1,hqk,hmin,d2,fun y hy=>hX3 y (by simp [hy]),h3,Via.split hl hr hn hp2s hg hq1 hqk,by simp only at hfm3 ⊢; omega⟩
end Go.Proofs.YtlmmddfhoabjfaaGreat
end
section
namespace Go.Proofs.YtlmmddfhoabjfaaGreat
open Go.Am
theorem sub_post:∀ {ks:List Tx} {ss:List (List It)},ks.length=ss.length->(ks.map It.S).Sublist (postI ks ss)
 | [],[],_=>by simp [postI]
 | [],_::_,h=>by simp at h
 | _::_,[],h=>by simp at h
 | k::ks,s::ss,h=>by
  have:=sub_post (ks:=ks) (ss:=ss) (by simpa using h)
  simp only [List.map_cons,postI]
  exact (this.trans (List.sublist_append_right ..)).cons_cons _
theorem sub_wv {ks:List Tx} {ss:List (List It)} (h:ss.length=ks.length+1):(ks.map It.S).Sublist (wv ks ss):=by
 cases ss with
 | nil=>simp at h
 | cons s ss=>exact (sub_post (by simpa using h.symm)).trans (List.sublist_append_right ..)
theorem srt_keys {h p:Nat} {ks:List Tx} {ts:List (Tr h)} (hs:Srt (sq (h+1) (inn p ks ts))) (hl:ts.length=ks.length+1):ks.Pairwise fun a b=>bytesLt a b=true:=by
 have h1:Srt (ks.map It.S):=List.Pairwise.sublist (sub_wv (by rw [List.length_map]; exact hl)) hs
 unfold Srt at h1
 rw [List.pairwise_map] at h1
 exact h1
theorem may_inn {h p:Nat} {ks:List Tx} {ts:List (Tr h)} (hs:Srt (sq (h+1) (inn p ks ts))) (hl:ts.length=ks.length+1) (hk:∀ k∈ks,1<=k.length/\k.length<=32) (hp:∀ s∈ts,no h s<=32768):mayN ⟨false,ks,[],nos ts⟩=true:=by
 refine may_iff.2 ⟨rise_iff.2 ⟨srt_keys hs hl,fun k hk'=>⟨?_,(hk k hk').2⟩⟩,.inr ⟨rfl,by simpa [nos] using hl,rfl,fun z hz=>?_⟩⟩
 ·have:=(hk k hk').1
  cases k with
  | nil=>simp at this
  | cons _ _=>rfl
 ·have hz:z∈nos ts:=hz
  obtain ⟨s,hs',rfl⟩:=List.mem_map.1 hz
  have:=hp s hs'
  omega
theorem may_keys {n:Nd} (h:mayN n=true):∀ k∈n.ks,1<=k.length/\k.length<=32:=fun k hk=>(rise_all (may_iff.1 h).1 k hk).2
theorem inn_body {ks:List Tx} {z:Int} {zs:List Int} (h:ks.length<=127):(bodyN ⟨false,ks,[],z::zs⟩).length=2+((cnt z).length+(zipB ks (zs.map cnt)).length):=by
 rw [body_len h]; rfl
theorem ins_body {h:Nat} {A B:List Tx} {key:Tx} {L R:List (Tr h)} {t u v:Tr h} (hl:A.length=L.length) (hB:B.length=R.length) (hlen:(A++B).length<=126) (hkey:key.length<=32) (hu:no h u=no h t) (hv:no h v<=32768) :
  (bodyN ⟨false,A++key::B,[],nos (L++u::v::R)⟩).length<=(bodyN ⟨false,A++B,[],nos (L++t::R)⟩).length+36:=by
 have h3:=cnt_3 (z:=(no h v:Nat)) (by omega)
 have h33:(tB key).length<=33:=by rw [tB_len (by omega)]; omega
 have hlen2:(A++key::B).length<=127:=by simp only [List.length_append,List.length_cons] at hlen ⊢; omega
 have hc:∀ l:List (Tr h),((nos l).map cnt).length=l.length:=fun l=>by simp [nos]
 have hz:(zipB (key::B) ((nos (v::R)).map cnt))=tB key++(cnt (no h v:Nat)++zipB B ((nos R).map cnt)):=rfl
 have hnn:∀ (l l':List (Tr h)),(nos (l++l')).map cnt=(nos l).map cnt++(nos l').map cnt:=fun l l'=>by simp [nos]
 cases L with
 | nil =>
  have hA:A=[]:=List.eq_nil_of_length_eq_zero (by simpa using hl)
  subst hA
  show (bodyN ⟨false,key::B,[],((no h u:Nat):Int)::nos (v::R)⟩).length<=(bodyN ⟨false,B,[],((no h t:Nat):Int)::nos R⟩).length+36
  rw [inn_body (by simpa using hlen2),inn_body (by simp at hlen; omega),hz,hu]
  simp only [List.length_append]
  omega
 | cons l L =>
  show (bodyN ⟨false,A++key::B,[],((no h l:Nat):Int)::nos (L++u::v::R)⟩).length<=(bodyN ⟨false,A++B,[],((no h l:Nat):Int)::nos (L++t::R)⟩).length+36
  rw [inn_body hlen2,inn_body (by omega)]
  have e1:(nos (L++u::v::R)).map cnt=(nos (L++[t])).map cnt++(nos (v::R)).map cnt:=by simp [nos,hu]
  have e2:(nos (L++t::R)).map cnt=(nos (L++[t])).map cnt++(nos R).map cnt:=by simp [nos]
  have hl2:A.length=((nos (L++[t])).map cnt).length:=by rw [hc]; simp at hl ⊢; exact hl
  rw [e1,e2,zipB_app hl2,zipB_app hl2,hz]
  simp only [List.length_append]
  omega
theorem first_Less {h:Nat} {k:Tx} {B:List Tx} {R:List (Tr h)} {t r:Tr h}:Less ⟨false,k::B,[],nos (t::r::R)⟩ ⟨false,B,[],nos (r::R)⟩:=fun hb=>by
 have hk:=hb.keys
 simp only [List.length_cons] at hk
 obtain ⟨h0,hor⟩:=may_iff.1 hb.may
 have hm:mayN ⟨false,B,[],nos (r::R)⟩=true:=by
  refine may_iff.2 ⟨rise_sub h0 (List.sublist_cons_self ..),.inr ⟨rfl,?_,rfl,fun z hz=>?_⟩⟩
  ·have:=(may_kids hb.may rfl).1
   simp [nos] at this ⊢; omega
  ·exact (may_kids hb.may rfl).2.2 z (List.mem_cons_of_mem _ hz)
 have hle:(bodyN ⟨false,B,[],nos (r::R)⟩).length<=(bodyN ⟨false,k::B,[],nos (t::r::R)⟩).length:=by
  show (bodyN ⟨false,B,[],((no h r:Nat):Int)::nos R⟩).length<=(bodyN ⟨false,k::B,[],((no h t:Nat):Int)::nos (r::R)⟩).length
  rw [inn_body (by omega),inn_body (by simp; omega)]
  have hz:(zipB (k::B) ((nos (r::R)).map cnt))=tB k++(cnt (no h r:Nat)++zipB B ((nos R).map cnt)):=rfl
  rw [hz]
  simp only [List.length_append]
  omega
 exact ⟨⟨hm,by have:=hb.le; omega⟩,hle⟩
def StPost (c:Cfg) (G X:RL) (s:TSt) {h:Nat} (p:Nat) (ks:List Tx) (ts:List (Tr h)) (L':RL):Prop :=
 ∃ X' m' ks' ts',(∀ q,q∈X->q∈X')/\TR c G X' ⟨m',s.root,s.cnt⟩ L'/\Via s.m m' (inn p ks ts) (inn p ks' ts')/\Loc m' p ks' ts'/\Less ⟨false,ks,[],nos ts⟩ ⟨false,ks',[],nos ts'⟩/\frM c.N s.m<=frM c.N m'/\(ts≠[]->ts'≠[])/\(ts=[]->ks'=ks/\ts'=[])
theorem settle_any {c:Cfg} {G X:RL} {s:TSt} {L:RL} {h p:Nat} {ks:List Tx} {ts:List (Tr h)} {i:Int} (htr:TR c G X s L) (hloc:Loc s.m p ks ts) (h1:-8<=i) (h2:i<=1000) :
  CS Tryz.prog 101 [ptr c.rt,.int .i64 (p:Nat),.int .i64 i] L fun _ L'=>StPost c G X s p ks ts L':=by
 by_cases hi:i < 0∨(ts.length:Int)<=i
 ·refine (settle_out (join_all h) htr hloc hi h1 h2).mono ?_
  rintro u L' ⟨_,h3⟩
  exact ⟨X,s.m,ks,ts,fun _ hq=>hq,h3,Via.refl hloc.rep hloc.nod,hloc,Less.refl,Nat.le_refl _,id,fun h=>⟨rfl,h⟩⟩
 ·refine (settle_all h c G X s L p ks ts i htr hloc (by omega) (by omega)).mono ?_
  rintro u L' ⟨X',m',A,Y,B,L1,M,R,w,hw,_,_,_⟩
  have hne:ts≠[]:=by rintro rfl; simp at hi; omega
  exact ⟨X',m',A++B,L1++w::R,hw.hX,hw.tr,hw.via,hw.loc (hloc.bg hne) hloc.ok,hw.less,hw.fr,fun _=>(by simp),fun h=>absurd h hne⟩
def Emp {h:Nat} (t:Tr h):Prop:=(nd h t).vs=[]/\(nd h t).kids=[]/\(nd h t).ks=[]
theorem emp_pgs:∀ {h:Nat} {t:Tr h},Emp t->pgs h t=[no h t]
 | 0,t,_=>by
  obtain ⟨p,ks,vs,rfl⟩:=lf_eta t
  rfl
 | h+1,t,he=>by
  obtain ⟨p,ks,ts,rfl⟩:=inn_eta t
  have h1:nos ts=[]:=he.2.1
  have h2:ts=[]:=by simpa [nos] using h1
  subst h2
  rfl
theorem emp_sq:∀ {h:Nat} {t:Tr h},Emp t->sq h t=[]
 | 0,t,he=>by
  obtain ⟨p,ks,vs,rfl⟩:=lf_eta t
  have h1:ks=[]:=he.2.2
  subst h1
  rfl
 | h+1,t,he=>by
  obtain ⟨p,ks,ts,rfl⟩:=inn_eta t
  have h1:nos ts=[]:=he.2.1
  have h2:ts=[]:=by simpa [nos] using h1
  subst h2
  rfl
theorem emp_chg {h:Nat} {t:Tr h} {m:Mem} (he:Emp t):Chg m (updM m (no h t) none) (pgs h t) []:=by
 rw [emp_pgs he]
 refine ⟨List.nodup_nil,fun q hq=>(by cases hq),fun q h1 _=>?_,fun q h1 _=>?_⟩
 ·simp at h1; unfold updM; rw [if_neg h1]
 ·simp at h1; unfold updM; rw [if_pos h1]
end Go.Proofs.YtlmmddfhoabjfaaGreat
end
