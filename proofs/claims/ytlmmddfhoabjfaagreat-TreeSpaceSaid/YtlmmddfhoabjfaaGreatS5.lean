/- What the proofs lean on, part 5. -/
import Derived.Test.YtlmmddfhoabjfaaGreatS4
set_option linter.unusedVariables false
set_option maxRecDepth 20000
section
namespace Go.Proofs.YtlmmddfhoabjfaaGreat
open Go.Am
abbrev Pr:=Tx × Tx
def getP (P:List Pr) (k:Tx):Option Tx:=(P.find? fun p=>decide (p.1=k)).map (·.2)
def putP (k v:Tx) (P:List Pr):List Pr:=P.filter (fun p=>bytesLt p.1 k)++(k,v)::P.filter fun p=>bytesLt k p.1
def delP (k:Tx) (P:List Pr):List Pr:=P.filter fun p=>!decide (p.1=k)
def AllLt (k:Tx) (A:List Pr):Prop:=∀ p∈A,bytesLt p.1 k=true
def AllGt (k:Tx) (A:List Pr):Prop:=∀ p∈A,bytesLt k p.1=true
theorem lt_ne {a b:Tx} (h:bytesLt a b=true):a≠b:=fun he=>by subst he; rw [lt_irr] at h; cases h
theorem lt_asym {a b:Tx} (h:bytesLt a b=true):bytesLt b a=false:=by
 cases hb:bytesLt b a with
 | false=>rfl
 | true=>have:=lt_trans h hb; rw [lt_irr] at this; cases this
section
variable {k v v0:Tx} {A B:List Pr}
theorem filt_all {p:Pr->Bool} {A:List Pr} (h:∀ x∈A,p x=true):A.filter p=A:=List.filter_eq_self.2 h
theorem filt_none {p:Pr->Bool} {A:List Pr} (h:∀ x∈A,p x=false):A.filter p=[]:=List.filter_eq_nil_iff.2 fun x hx=>by rw [h x hx]; decide
theorem put_new (hA:AllLt k A) (hB:AllGt k B):putP k v (A++B)=A++(k,v)::B:=by
 unfold putP
 rw [List.filter_append,List.filter_append,filt_all hA,filt_none (fun x hx=>lt_asym (hB x hx)),filt_none (fun x hx=>lt_asym (hA x hx)),filt_all hB]
 simp
theorem put_old (hA:AllLt k A) (hB:AllGt k B):putP k v (A++(k,v0)::B)=A++(k,v)::B:=by
 unfold putP
 rw [List.filter_append,List.filter_append,filt_all hA,filt_none (fun x hx=>lt_asym (hA x hx)),List.filter_cons_of_neg (by simp [lt_irr]),List.filter_cons_of_neg (by simp [lt_irr]),filt_none (fun x hx=>lt_asym (hB x hx)),filt_all hB]
 simp
theorem del_old (hA:AllLt k A) (hB:AllGt k B):delP k (A++(k,v0)::B)=A++B:=by
 unfold delP
 rw [List.filter_append,filt_all (fun x hx=>by simp [lt_ne (hA x hx)]),List.filter_cons_of_neg (by simp),filt_all (fun x hx=>by simp [(lt_ne (hB x hx)).symm])]
theorem get_old (hA:AllLt k A):getP (A++(k,v0)::B) k=some v0:=by
 unfold getP
 rw [List.find?_append,List.find?_eq_none.2 (fun x hx=>by simp [lt_ne (hA x hx)])]
 simp
theorem get_new (hA:AllLt k A) (hB:AllGt k B):getP (A++B) k=none:=by
 unfold getP
 rw [List.find?_append,List.find?_eq_none.2 (fun x hx=>by simp [lt_ne (hA x hx)]),List.find?_eq_none.2 (fun x hx=>by simp [(lt_ne (hB x hx)).symm])]
 rfl
end
theorem kvs_mem {l:List It} {p:Pr} (h:p∈kvs l):It.K p.1 p.2∈l:=by
 obtain ⟨x,hx,he⟩:=List.mem_filterMap.1 h
 cases x with
 | K a b=>cases he; exact hx
 | S a=>cases he
theorem kvs_K {k v:Tx} {l:List It}:kvs (It.K k v::l)=(k,v)::kvs l:=rfl
theorem kvs_lt {key:Tx} {l:List It} (h:∀ y∈l,Bef key y):AllLt key (kvs l):=fun p hp=>h _ (kvs_mem hp)
theorem kvs_gt {key:Tx} {l:List It} (h:∀ y∈l,Aft key y):AllGt key (kvs l):=fun p hp=>h _ (kvs_mem hp)
theorem srt_ins {key v:Tx} {A B:List It} (hs:Srt (A++B)) (hA:∀ y∈A,Bef key y) (hB:∀ y∈B,Aft key y):Srt (A++It.K key v::B):=by
 obtain ⟨h1,h2,h3⟩:=List.pairwise_append.1 hs
 refine List.pairwise_append.2 ⟨h1,List.pairwise_cons.2 ⟨fun y hy=>?_,h2⟩,fun x hx y hy=>?_⟩
 ·have:=hB y hy
  cases y <;> exact this
 ·rcases List.mem_cons.1 hy with rfl | hy
  ·have:=hA x hx
   cases x <;> exact this
  ·exact h3 x hx y hy
theorem srt_del {x:It} {A B:List It} (hs:Srt (A++x::B)):Srt (A++B):=List.Pairwise.sublist ((List.sublist_cons_self ..).append_left A) hs
structure LfAt (key:Tx) (ks vs:List Tx) (i:Nat):Prop where
 le:i<=ks.length
 bef:∀ y∈List.zipWith It.K (ks.take i) (vs.take i),Bef key y
 no:isN key ks=false->∀ y∈List.zipWith It.K (ks.drop i) (vs.drop i),Aft key y
 is:isN key ks=true->i < ks.length/\(∃ v0,vs[i]?=some v0)/\ks[i]?=some key/\∀ y∈List.zipWith It.K (ks.drop (i+1)) (vs.drop (i+1)),Aft key y
theorem zip_mem {P:Tx->Prop}:∀ {ks vs:List Tx},(∀ k∈ks,P k)->∀ y∈List.zipWith It.K ks vs,∃ k v,y=It.K k v/\P k
 | [],_,_,y,hy=>by simp at hy
 | _::_,[],_,y,hy=>by simp at hy
 | k::ks,v::vs,h,y,hy=>by
  rw [List.zipWith_cons_cons] at hy
  rcases List.mem_cons.1 hy with rfl | hy
  ·exact ⟨k,v,rfl,h k (List.mem_cons_self ..)⟩
  ·exact zip_mem (fun k hk=>h k (List.mem_cons_of_mem _ hk)) y hy
theorem lf_at {key:Tx} {ks vs:List Tx} (hr:rise [] ks=true) (hl:vs.length=ks.length):LfAt key ks vs (belowN key ks):=by
 have hle:=below_le key ks
 refine ⟨hle,fun y hy=>?_,fun hi y hy=>?_,fun hi=>?_⟩
 ·obtain ⟨k,v,rfl,hk⟩:=zip_mem (P:=fun k=>bytesLt k key=true) (fun k hk=>by
   obtain ⟨j,hj,rfl⟩:=List.getElem_of_mem hk
   rw [List.length_take] at hj
   rw [List.getElem_take]
   exact below_lt (ks:=ks) (i:=j) (by omega) (List.getElem?_eq_getElem (by omega))) y hy
  exact hk
 ·obtain ⟨k,v,rfl,hk⟩:=zip_mem (P:=fun k=>bytesLt key k=true) (fun k hk=>by
   obtain ⟨j,hj,rfl⟩:=List.getElem_of_mem hk
   rw [List.length_drop] at hj
   rw [List.getElem_drop]
   have h1:bytesLt (ks[belowN key ks+j]'(by omega)) key=false:=by
    rw [below_iff hr (List.getElem?_eq_getElem (by omega)),decide_eq_false (by omega)]
   rcases lt_total (x:=key) (y:=ks[belowN key ks+j]'(by omega)) with h | h | h
   ·exact h
   ·exfalso
    have h0:ks[belowN key ks]?≠some key:=fun hh=>by rw [isN_iff.2 hh] at hi; cases hi
    by_cases hj0:j=0
    ·subst hj0; exact h0 (by rw [List.getElem?_eq_getElem (by omega)]; congr 1; exact h.symm)
    ·have h2:=rise_after hr (List.getElem?_eq_getElem (show belowN key ks < ks.length by omega)) (List.getElem?_eq_getElem (show belowN key ks+j < ks.length by omega)) (by omega)
     rw [← h] at h2
     have h3:=below_at (key:=key) (List.getElem?_eq_getElem (show belowN key ks < ks.length by omega))
     rw [h2] at h3; cases h3
   ·rw [h1] at h; cases h) y hy
  exact hk
 ·have h0:=isN_iff.1 hi
  have hlt:belowN key ks < ks.length:=by
   by_cases h:belowN key ks < ks.length
   ·exact h
   ·rw [List.getElem?_eq_none (by omega)] at h0; cases h0
  refine ⟨hlt,⟨_,List.getElem?_eq_getElem (by omega)⟩,h0,fun y hy=>?_⟩
  obtain ⟨k,v,rfl,hk⟩:=zip_mem (P:=fun k=>bytesLt key k=true) (fun k hk=>by
   obtain ⟨j,hj,rfl⟩:=List.getElem_of_mem hk
   rw [List.length_drop] at hj
   rw [List.getElem_drop]
   exact rise_after hr h0 (List.getElem?_eq_getElem (by omega)) (by omega)) y hy
  exact hk
section
variable {key v:Tx} {ks vs:List Tx} {i:Nat}
theorem zip_split (i:Nat):List.zipWith It.K ks vs=List.zipWith It.K (ks.take i) (vs.take i)++List.zipWith It.K (ks.drop i) (vs.drop i):=by
 rw [List.take_zipWith.symm,List.drop_zipWith.symm,List.take_append_drop]
theorem zip_one (hl:vs.length=ks.length) {v0:Tx} (hk:ks[i]?=some key) (hv:vs[i]?=some v0):List.zipWith It.K (ks.drop i) (vs.drop i)=It.K key v0::List.zipWith It.K (ks.drop (i+1)) (vs.drop (i+1)):=by
 obtain ⟨h1,rfl⟩:=List.getElem?_eq_some_iff.1 hk
 obtain ⟨h2,rfl⟩:=List.getElem?_eq_some_iff.1 hv
 rw [List.drop_eq_getElem_cons h1,List.drop_eq_getElem_cons h2,List.zipWith_cons_cons]
theorem zip_ins (hl:vs.length=ks.length) (hi:i<=ks.length):List.zipWith It.K (insL ks i key) (insL vs i v)=List.zipWith It.K (ks.take i) (vs.take i)++It.K key v::List.zipWith It.K (ks.drop i) (vs.drop i):=by
 unfold insL
 rw [List.zipWith_append (by simp [hl]),List.zipWith_cons_cons]
theorem zip_set (hl:vs.length=ks.length) (hk:ks[i]?=some key):List.zipWith It.K ks (vs.set i v)=List.zipWith It.K (ks.take i) (vs.take i)++It.K key v::List.zipWith It.K (ks.drop (i+1)) (vs.drop (i+1)):=by
 obtain ⟨h1,rfl⟩:=List.getElem?_eq_some_iff.1 hk
 rw [zip_split (ks:=ks) (vs:=vs.set i v) i]
 congr 1
 ·rw [List.take_set_of_le (Nat.le_refl _)]
 ·rw [zip_one (v0:=v) (by rw [List.length_set]; exact hl) hk (by rw [List.getElem?_set_self (by omega)]),List.drop_set_of_lt (by omega)]
theorem zip_del (hl:vs.length=ks.length) (hi:i < ks.length):List.zipWith It.K (ks.eraseIdx i) (vs.eraseIdx i)=List.zipWith It.K (ks.take i) (vs.take i)++List.zipWith It.K (ks.drop (i+1)) (vs.drop (i+1)):=by
 rw [List.eraseIdx_eq_take_drop_succ,List.eraseIdx_eq_take_drop_succ,List.zipWith_append (by simp [hl])]
theorem zB_ins {bs:List Tx} {b:Tx} (hl:bs.length=ks.length) (hi:i<=ks.length):(zipB (insL ks i key) (insL bs i b)).length=(zipB ks bs).length+((tB key).length+b.length):=by
 unfold insL
 rw [zipB_app (by simp [hl]),zipB_take (ks:=ks) (bs:=bs) (q:=i) hl.symm]
 simp only [List.length_append,zipB]
 omega
theorem zB_set {bs:List Tx} {b:Tx} (hl:bs.length=ks.length) (hi:i < ks.length):(zipB ks (bs.set i b)).length<=(zipB ks bs).length+b.length:=by
 rw [zipB_take (ks:=ks) (bs:=bs.set i b) (q:=i) (by rw [List.length_set]; exact hl.symm),zipB_take (ks:=ks) (bs:=bs) (q:=i) hl.symm,List.take_set_of_le (Nat.le_refl _)]
 have h2:i < bs.length:=by omega
 rw [List.drop_eq_getElem_cons hi,List.drop_eq_getElem_cons (l:=bs) h2,List.drop_eq_getElem_cons (l:=bs.set i b) (by rw [List.length_set]; exact h2),List.drop_set_of_lt (by omega)]
 simp only [zipB,List.length_append,List.getElem_set_self]
 omega
end
theorem map_insL {α β:Type} {f:α->β} {l:List α} {i:Nat} {x:α}:(insL l i x).map f=insL (l.map f) i (f x):=insL_map.symm
theorem mem_insL {α:Type} {l:List α} {i:Nat} {x y:α} (h:y∈insL l i x):y=x∨y∈l:=by
 unfold insL at h
 rcases List.mem_append.1 h with h | h
 ·exact .inr (List.mem_of_mem_take h)
 ·rcases List.mem_cons.1 h with h | h
  ·exact .inl h
  ·exact .inr (List.mem_of_mem_drop h)
theorem mem_set' {α:Type} {l:List α} {i:Nat} {x y:α} (h:y∈l.set i x):y=x∨y∈l:=by
 rcases List.mem_or_eq_of_mem_set h with h | h
 ·exact .inr h
 ·exact .inl h
theorem leaf_sm {ks vs:List Tx} (hf:fitsN ⟨true,ks,vs,[]⟩=true):ks.length<=84:=by
 have:=keys_3 (fits_may hf)
 have h2:=fits_le hf
 simp only at this
 omega
section
variable {h H:Nat} {c:Cx 0 H} {p:Nat} {key v:Tx} {ks vs:List Tx}
theorem at_leaf (hs:Srt (sq 0 (lf p ks vs))) (hf:fitsN ⟨true,ks,vs,[]⟩=true):vs.length=ks.length/\LfAt key ks vs (belowN key ks):=by
 have hm:=fits_may hf
 exact ⟨(may_vs hm rfl).1,lf_at (mayN_rise hm) (may_vs hm rfl).1⟩
theorem leaf_ins (hs:Srt (sq H (plug c (lf p ks vs)))) (hw:wfC c) (hbef:∀ y∈preC c,Bef key y) (haft:∀ y∈postC c,Aft key y) (hf:fitsN ⟨true,ks,vs,[]⟩=true) (hi:isN key ks=false) (h1:1<=key.length) (h2:key.length<=32) (h3:v.length<=64) :
  Srt (sq H (plug c (lf p (insL ks (belowN key ks) key) (insL vs (belowN key ks) v))))/\Lz (lf p (insL ks (belowN key ks) key) (insL vs (belowN key ks) v))/\kvs (sq H (plug c (lf p (insL ks (belowN key ks) key) (insL vs (belowN key ks) v))))=putP key v (kvs (sq H (plug c (lf p ks vs))))/\(putP key v (kvs (sq H (plug c (lf p ks vs))))).length=(kvs (sq H (plug c (lf p ks vs)))).length+1:=by
 have hm:=fits_may hf
 obtain ⟨hl,ha⟩:=at_leaf (key:=key) (p:=p) (Srt.plug hw hs) hf
 have hb:=ha.bef
 have hn:=ha.no hi
 have hle:=ha.le
 have hz:=leaf_sm hf
 rw [sq_plug hw,sq_lf,zip_split (belowN key ks)] at hs
 rw [sq_plug hw,sq_plug hw,sq_lf,sq_lf,zip_ins hl hle,zip_split (ks:=ks) (vs:=vs) (belowN key ks)]
 generalize hA:List.zipWith It.K (ks.take (belowN key ks)) (vs.take (belowN key ks))=A at hs hb ⊢
 generalize hB:List.zipWith It.K (ks.drop (belowN key ks)) (vs.drop (belowN key ks))=B at hs hn ⊢
 have hpA:∀ y∈preC c++A,Bef key y:=fun y hy=>by
  rcases List.mem_append.1 hy with hy | hy
  ·exact hbef y hy
  ·exact hb y hy
 have hpB:∀ y∈B++postC c,Aft key y:=fun y hy=>by
  rcases List.mem_append.1 hy with hy | hy
  ·exact hn y hy
  ·exact haft y hy
 have e1:preC c++((A++It.K key v::B)++postC c)=(preC c++A)++It.K key v::(B++postC c):=by simp
 have e2:preC c++((A++B)++postC c)=(preC c++A)++(B++postC c):=by simp
 rw [e2] at hs ⊢
 rw [e1]
 have hsn:=srt_ins (v:=v) hs hpA hpB
 refine ⟨hsn,?_,?_,?_⟩
 ·have hlen:(insL ks (belowN key ks) key).length=ks.length+1:=insL_len hle
  have hvl:(insL vs (belowN key ks) v).length=vs.length+1:=insL_len (by omega)
  have hso:Srt (List.zipWith It.K (insL ks (belowN key ks) key) (insL vs (belowN key ks) v)):=by
   rw [zip_ins hl hle,hA,hB]
   refine List.Pairwise.sublist ?_ hsn
   have:(A++It.K key v::B).Sublist ((preC c++(A++It.K key v::B))++postC c):=(List.sublist_append_right ..).trans (List.sublist_append_left ..)
   simp only [List.append_assoc,List.cons_append] at this ⊢; exact this
  have hmay:mayN ⟨true,insL ks (belowN key ks) key,insL vs (belowN key ks) v,[]⟩=true:=may_leaf hso (by rw [hlen,hvl,hl]) (fun k hk=>by
   rcases mem_insL hk with rfl | hk
   ·exact ⟨h1,h2⟩
   ·exact may_keys hm k hk) (fun x hx=>by
   rcases mem_insL hx with rfl | hx
   ·exact h3
   ·exact (may_vs hm rfl).2.2 x hx)
  have hbl:(bodyN ⟨true,insL ks (belowN key ks) key,insL vs (belowN key ks) v,[]⟩).length<=354:=by
   rw [body_len (by simp only [hlen]; omega)]
   have h256:=fits_le hf
   rw [body_len (by simp only; omega)] at h256
   simp only [firstN,behN,if_true,List.length_nil,Nat.zero_add] at h256 ⊢
   rw [map_insL,zB_ins (by simp [hl]) hle]
   have:=tB_len (s:=key) (by omega)
   have:=tB_len (s:=v) (by omega)
   omega
  exact .inr ⟨⟨hmay,by show (bodyN _).length<=360; exact Nat.le_trans hbl (by decide)⟩,hbl,trivial,.inl (fun hh=>by
   have:insL ks (belowN key ks) key=[]:=hh
   rw [this] at hlen; simp at hlen)⟩
 ·rw [kvs_app (a:=preC c++A),kvs_app (a:=preC c++A),kvs_K,put_new (kvs_lt hpA) (kvs_gt hpB)]
 ·rw [kvs_app,put_new (kvs_lt hpA) (kvs_gt hpB)]; simp; omega
theorem leaf_none (hs:Srt (sq H (plug c (lf p ks vs)))) (hw:wfC c) (hbef:∀ y∈preC c,Bef key y) (haft:∀ y∈postC c,Aft key y) (hf:fitsN ⟨true,ks,vs,[]⟩=true) (hi:isN key ks=false):getP (kvs (sq H (plug c (lf p ks vs)))) key=none:=by
 obtain ⟨hl,ha⟩:=at_leaf (key:=key) (p:=p) (Srt.plug hw hs) hf
 have hb:=ha.bef
 have hn:=ha.no hi
 rw [sq_plug hw,sq_lf,zip_split (ks:=ks) (vs:=vs) (belowN key ks)]
 generalize List.zipWith It.K (ks.take (belowN key ks)) (vs.take (belowN key ks))=A at hb ⊢
 generalize List.zipWith It.K (ks.drop (belowN key ks)) (vs.drop (belowN key ks))=B at hn ⊢
 have e2:preC c++((A++B)++postC c)=(preC c++A)++(B++postC c):=by simp
 rw [e2,kvs_app]
 refine get_new (kvs_lt fun y hy=>?_) (kvs_gt fun y hy=>?_)
 ·rcases List.mem_append.1 hy with hy | hy
  ·exact hbef y hy
  ·exact hb y hy
 ·rcases List.mem_append.1 hy with hy | hy
  ·exact hn y hy
  ·exact haft y hy
theorem leaf_is (hs:Srt (sq H (plug c (lf p ks vs)))) (hw:wfC c) (hbef:∀ y∈preC c,Bef key y) (haft:∀ y∈postC c,Aft key y) (hf:fitsN ⟨true,ks,vs,[]⟩=true) (hi:isN key ks=true):∃ v0,vs[belowN key ks]?=some v0/\getP (kvs (sq H (plug c (lf p ks vs)))) key=some v0:=by
 obtain ⟨hl,ha⟩:=at_leaf (key:=key) (p:=p) (Srt.plug hw hs) hf
 have hb:=ha.bef
 obtain ⟨hlt,⟨v0,hv0⟩,hk0,hn⟩:=ha.is hi
 refine ⟨v0,hv0,?_⟩
 rw [sq_plug hw,sq_lf,zip_split (ks:=ks) (vs:=vs) (belowN key ks),zip_one hl hk0 hv0]
 generalize List.zipWith It.K (ks.take (belowN key ks)) (vs.take (belowN key ks))=A at hb ⊢
 generalize List.zipWith It.K (ks.drop (belowN key ks+1)) (vs.drop (belowN key ks+1))=B at hn ⊢
 have e2:preC c++((A++It.K key v0::B)++postC c)=(preC c++A)++It.K key v0::(B++postC c):=by simp
 rw [e2,kvs_app,show kvs (It.K key v0::(B++postC c))=(key,v0)::kvs (B++postC c) from rfl]
 refine get_old (kvs_lt fun y hy=>?_)
 rcases List.mem_append.1 hy with hy | hy
 ·exact hbef y hy
 ·exact hb y hy
theorem leaf_set (hs:Srt (sq H (plug c (lf p ks vs)))) (hw:wfC c) (hbef:∀ y∈preC c,Bef key y) (haft:∀ y∈postC c,Aft key y) (hf:fitsN ⟨true,ks,vs,[]⟩=true) (hi:isN key ks=true) (h3:v.length<=64) :
  Srt (sq H (plug c (lf p ks (vs.set (belowN key ks) v))))/\Lz (lf p ks (vs.set (belowN key ks) v))/\kvs (sq H (plug c (lf p ks (vs.set (belowN key ks) v))))=putP key v (kvs (sq H (plug c (lf p ks vs))))/\(∃ v0,vs[belowN key ks]?=some v0/\getP (kvs (sq H (plug c (lf p ks vs)))) key=some v0)/\(putP key v (kvs (sq H (plug c (lf p ks vs))))).length=(kvs (sq H (plug c (lf p ks vs)))).length:=by
 have hm:=fits_may hf
 obtain ⟨hl,ha⟩:=at_leaf (key:=key) (p:=p) (Srt.plug hw hs) hf
 have hb:=ha.bef
 obtain ⟨hlt,⟨v0,hv0⟩,hk0,hn⟩:=ha.is hi
 have hz:=leaf_sm hf
 rw [sq_plug hw,sq_lf,zip_split (belowN key ks),zip_one hl hk0 hv0] at hs
 rw [sq_plug hw,sq_plug hw,sq_lf,sq_lf,zip_set hl hk0,zip_split (ks:=ks) (vs:=vs) (belowN key ks),zip_one hl hk0 hv0]
 generalize hA:List.zipWith It.K (ks.take (belowN key ks)) (vs.take (belowN key ks))=A at hs hb ⊢
 generalize hB:List.zipWith It.K (ks.drop (belowN key ks+1)) (vs.drop (belowN key ks+1))=B at hs hn ⊢
 have hpA:∀ y∈preC c++A,Bef key y:=fun y hy=>by
  rcases List.mem_append.1 hy with hy | hy
  ·exact hbef y hy
  ·exact hb y hy
 have hpB:∀ y∈B++postC c,Aft key y:=fun y hy=>by
  rcases List.mem_append.1 hy with hy | hy
  ·exact hn y hy
  ·exact haft y hy
 have e1:∀ v:Tx,preC c++((A++It.K key v::B)++postC c)=(preC c++A)++It.K key v::(B++postC c):=fun v=>by simp
 rw [e1] at hs
 rw [e1,e1]
 have hsn:=srt_ins (v:=v) (srt_del hs) hpA hpB
 refine ⟨hsn,?_,?_,⟨v0,hv0,?_⟩,?_⟩
 ·have hso:Srt (List.zipWith It.K ks (vs.set (belowN key ks) v)):=by
   rw [zip_set hl hk0,hA,hB]
   refine List.Pairwise.sublist ?_ hsn
   have:(A++It.K key v::B).Sublist ((preC c++(A++It.K key v::B))++postC c):=(List.sublist_append_right ..).trans (List.sublist_append_left ..)
   simp only [List.append_assoc,List.cons_append] at this ⊢; exact this
  have hmay:mayN ⟨true,ks,vs.set (belowN key ks) v,[]⟩=true:=may_leaf hso (by rw [List.length_set,hl]) (fun k hk=>may_keys hm k hk) (fun x hx=>by
   rcases mem_set' hx with rfl | hx
   ·exact h3
   ·exact (may_vs hm rfl).2.2 x hx)
  have hbl:(bodyN ⟨true,ks,vs.set (belowN key ks) v,[]⟩).length<=354:=by
   rw [body_len (by simp only; omega)]
   have h256:=fits_le hf
   rw [body_len (by simp only; omega)] at h256
   simp only [firstN,behN,if_true,List.length_nil,Nat.zero_add] at h256 ⊢
   rw [List.map_set]
   have:=zB_set (ks:=ks) (bs:=vs.map tB) (b:=tB v) (by simp [hl]) hlt
   have:=tB_len (s:=v) (by omega)
   omega
  exact .inr ⟨⟨hmay,by show (bodyN _).length<=360; exact Nat.le_trans hbl (by decide)⟩,hbl,trivial,.inl (fun hh=>by
   have:ks=[]:=hh
   subst this; simp at hlt)⟩
 ·rw [kvs_app (a:=preC c++A),kvs_app (a:=preC c++A),kvs_K,kvs_K,put_old (kvs_lt hpA) (kvs_gt hpB)]
 ·rw [kvs_app,show kvs (It.K key v0::(B++postC c))=(key,v0)::kvs (B++postC c) from rfl]; exact get_old (kvs_lt hpA)
 ·rw [kvs_app,show kvs (It.K key v0::(B++postC c))=(key,v0)::kvs (B++postC c) from rfl,put_old (kvs_lt hpA) (kvs_gt hpB)]; simp
theorem leaf_del (hs:Srt (sq H (plug c (lf p ks vs)))) (hw:wfC c) (hbef:∀ y∈preC c,Bef key y) (haft:∀ y∈postC c,Aft key y) (hf:fitsN ⟨true,ks,vs,[]⟩=true) (hi:isN key ks=true) :
  Srt (sq H (plug c (lf p (ks.eraseIdx (belowN key ks)) (vs.eraseIdx (belowN key ks)))))/\Lz (lf p (ks.eraseIdx (belowN key ks)) (vs.eraseIdx (belowN key ks)))/\Sml (lf p (ks.eraseIdx (belowN key ks)) (vs.eraseIdx (belowN key ks)))/\kvs (sq H (plug c (lf p (ks.eraseIdx (belowN key ks)) (vs.eraseIdx (belowN key ks)))))=delP key (kvs (sq H (plug c (lf p ks vs))))/\(∃ v0,vs[belowN key ks]?=some v0/\getP (kvs (sq H (plug c (lf p ks vs)))) key=some v0)/\(delP key (kvs (sq H (plug c (lf p ks vs))))).length+1=(kvs (sq H (plug c (lf p ks vs)))).length:=by
 have hm:=fits_may hf
 obtain ⟨hl,ha⟩:=at_leaf (key:=key) (p:=p) (Srt.plug hw hs) hf
 have hb:=ha.bef
 obtain ⟨hlt,⟨v0,hv0⟩,hk0,hn⟩:=ha.is hi
 have hz:=leaf_sm hf
 rw [sq_plug hw,sq_lf,zip_split (belowN key ks),zip_one hl hk0 hv0] at hs
 rw [sq_plug hw,sq_plug hw,sq_lf,sq_lf,zip_del hl hlt,zip_split (ks:=ks) (vs:=vs) (belowN key ks),zip_one hl hk0 hv0]
 generalize hA:List.zipWith It.K (ks.take (belowN key ks)) (vs.take (belowN key ks))=A at hs hb ⊢
 generalize hB:List.zipWith It.K (ks.drop (belowN key ks+1)) (vs.drop (belowN key ks+1))=B at hs hn ⊢
 have hpA:∀ y∈preC c++A,Bef key y:=fun y hy=>by
  rcases List.mem_append.1 hy with hy | hy
  ·exact hbef y hy
  ·exact hb y hy
 have hpB:∀ y∈B++postC c,Aft key y:=fun y hy=>by
  rcases List.mem_append.1 hy with hy | hy
  ·exact hn y hy
  ·exact haft y hy
 have e1:∀ v:Tx,preC c++((A++It.K key v::B)++postC c)=(preC c++A)++It.K key v::(B++postC c):=fun v=>by simp
 have e2:preC c++((A++B)++postC c)=(preC c++A)++(B++postC c):=by simp
 rw [e1] at hs
 rw [e1,e2]
 have hL:=without_Less (n:=⟨true,ks,vs,[]⟩) (i:=belowN key ks) hlt (Bg.of hf)
 have hL2:=fits_le hf
 have hw:withoutN ⟨true,ks,vs,[]⟩ (belowN key ks)=nd 0 (lf p (ks.eraseIdx (belowN key ks)) (vs.eraseIdx (belowN key ks))):=rfl
 rw [hw] at hL
 refine ⟨srt_del hs,?_,.inr (by omega),?_,⟨v0,hv0,?_⟩,?_⟩
 ·by_cases he:ks.eraseIdx (belowN key ks)=[]
  ·refine .inl ⟨?_,rfl,he⟩
   show vs.eraseIdx (belowN key ks)=[]
   have h1:(ks.eraseIdx (belowN key ks)).length=0:=by rw [he]; rfl
   rw [List.length_eraseIdx,if_pos hlt] at h1
   refine List.eq_nil_of_length_eq_zero ?_
   rw [List.length_eraseIdx,if_pos (by omega)]; omega
  ·exact .inr ⟨hL.1,by omega,trivial,.inl he⟩
 ·rw [kvs_app (a:=preC c++A),kvs_app (a:=preC c++A),kvs_K,del_old (kvs_lt hpA) (kvs_gt hpB)]
 ·rw [kvs_app,show kvs (It.K key v0::(B++postC c))=(key,v0)::kvs (B++postC c) from rfl]; exact get_old (kvs_lt hpA)
 ·rw [kvs_app,show kvs (It.K key v0::(B++postC c))=(key,v0)::kvs (B++postC c) from rfl,del_old (kvs_lt hpA) (kvs_gt hpB)]; simp; omega
end
end Go.Proofs.YtlmmddfhoabjfaaGreat
end
section
namespace Go.Proofs.YtlmmddfhoabjfaaGreat
open Go.Am
def getV (P:List Pr) (key:Tx):Value:=match getP P key with
 | some v=>.tuple #[txt v,.bool true]
 | none=>.tuple #[txt [],.bool false]
theorem find_at {n:Nd} {key:Tx} (h:mayN n=true):findV n key=.tuple #[.int .i64 (belowN key n.ks:Nat),.bool (isN key n.ks)]:=by unfold findV; rw [if_pos h]
set_option maxHeartbeats 1000000 in
theorem get_tr {H:Nat} {t:Tr H} {c:Cfg} {G X:RL} {s:TSt} {rows:RL} {key:Tx} (htr:TR c G X s rows) (hw:Whole s.m s.root t) (hok:Okt H t) (hs:Srt (sq H t)) :
  CS Tryz.prog 48 [ptr c.rt,txt key] rows fun u L'=>u=getV (kvs (sq H t)) key/\L'=rows:=by
 suffices g:CS Tryz.prog 48 [ptr c.rt,txt key] rows fun u L'=>u=getV (kvs (sq H t)) key/\∃ Y,L'=Y++rows by
  refine g.less ?_
  rintro u L' ⟨rfl,Y,rfl⟩
  exact ⟨rows,Sub.suffix,rfl,rfl⟩
 have hN32:=htr.N
 have hpl:=pages_le htr hw.rep hw.nod
 have hhi:=high_le hok
 obtain ⟨T,es,ck,ws,wk,g,rfl,hN,hp,hgm,hmr⟩:=htr.now
 have mrt:∀ Y:RL,(c.rt,trRow c.rf c.rn c.rw s.root s.cnt c.root0 c.cnt0)∈Y++HD c.rf c.rb c.rt c.rn c.rw T s.root s.cnt c.root0 c.cnt0 es ck ws wk (G++X):=fun Y=>by simp
 have mmap:∀ Y:RL,(c.rn,ARow.map es ck)∈Y++HD c.rf c.rb c.rt c.rn c.rw T s.root s.cnt c.root0 c.cnt0 es ck ws wk (G++X):=fun Y=>by simp
 have hXY:∀ (Y:RL) q,q∈X->q∈Y++HD c.rf c.rb c.rt c.rn c.rw T s.root s.cnt c.root0 c.cnt0 es ck ws wk (G++X):=fun Y q hq=>List.mem_append_right Y (htr.mem q hq)
 refine CS.mk (fn:=Tryz.f48) rfl rfl rfl rfl ?_
 repeat refine xQ ?_
 refine xG rfl ?_
 iterate 2 refine xP rfl rh rfl ?_
 refine xN ?_
 repeat refine xQ ?_
 refine LS.drawn noGo mixed [(0,false),(1,false),(2,false),(3,false),(4,false),(5,false),(6,false),(7,true),(8,true),(9,false),(10,false)] rfl rfl (by kernel_rfl) ?_
 iterate 4 refine xD rfl rfl rh rfl ?_
 refine xE rfl rfl (e_loadm (mrt []) rfl rfl rfl rfl) rfl ?_
 iterate 2 refine xD rfl rfl rh rfl ?_
 refine ODS.call rfl rfl (fun _=>rfl) ((way_tr htr hw (.inr hok) hs).mono ?_)
 rintro v L' ⟨k,l,Y,hpu,hwf,hbef,haft,rfl,hv⟩
 refine ⟨_,rfl,(by repeat (first | exact Keep.nil | refine Keep.gone rfl ?_ | refine Keep.cons rfl (e_loadm (mrt Y) rfl rfl rfl rfl) ?_)),?_⟩
 have hst:=steps_len (c:=k)
 refine ODS.call rfl rfl (fun _=>rfl) ((leafOf_ct hv (fun x hx=>List.mem_append_left _ hx) (by omega)).mono ?_)
 rintro u L' ⟨rfl,rfl⟩
 refine ⟨_,rfl,(by repeat (first | exact Keep.nil | refine Keep.gone rfl ?_ | refine Keep.cons rfl (e_loadm (mrt Y) rfl rfl rfl rfl) ?_)),?_⟩
 subst hpu
 obtain ⟨p,ks,vs,rfl⟩:=lf_eta l
 have hml:=(plug_rep (c:=k) hw.rep).top
 have sl:=htr.sm _ _ hml
 have hfl:=((ok_plug (c:=k)).1 hok).2.1
 obtain ⟨ra,hga,va1,va2,va3,hra,hPa⟩:=(hmr p).2 _ hml
 have ega:(g p).getD (.pointer none)=ptr ra:=by rw [hga]; rfl
 have ma:=hXY Y _ hra
 have Na:=hPa.nv sl (hXY Y)
 have slk:=sl.k
 simp only [nd_lf,no_lf] at ma Na hfl slk
 refine xE rfl rfl (e_get hgm (mmap Y) rfl rfl rfl rfl (fun _=>rfl) rfl) rfl ?_
 simp only [no_lf]
 rw [ega]
 refine xD rfl rfl rh rfl ?_
 refine xM ?_
 repeat refine xQ ?_
 refine xG rfl ?_
 iterate 2 refine xP rfl rh rfl ?_
 refine xR rfl (e_loadm ma rfl rfl rfl rfl) rfl ?_
 refine xP rfl rh rfl ?_
 refine xA noGo rfl (fun _=>rfl) ((Find_ct Na (by simp only; omega)).mono ?_)
 rintro u L' ⟨rfl,rfl⟩
 refine ⟨_,rfl,?_⟩
 rw [find_at (fits_may hfl)]
 simp only
 iterate 5 refine xP rfl rh rfl ?_
 refine xN ?_
 repeat refine xQ ?_
 refine xG rfl ?_
 iterate 2 refine xP rfl rh rfl ?_
 refine xN ?_
 cases hi:isN key ks with
 | false =>
  repeat refine xQ ?_
  refine xC rfl (fun hc=>?_) (fun hc=>?_)
  ·repeat refine xQ ?_
   refine xG rfl ?_
   iterate 2 refine xP rfl rh rfl ?_
   refine xN ?_
   refine xT ⟨_,fun _ _=>rfl,?_⟩
   refine ⟨?_,Y,rfl⟩
   unfold getV
   rw [leaf_none hs hwf hbef haft hfl hi]; rfl
  ·cases hc
 | true =>
  obtain ⟨v0,hv0,hg0⟩:=leaf_is hs hwf hbef haft hfl hi
  have hat:(tx vs)[belowN key ks]?=some (txt v0):=by simp [tx,hv0]
  repeat refine xQ ?_
  refine xC rfl (fun hc=>?_) (fun hc=>?_)
  ·cases hc
  refine LS.skip ?_
  repeat refine xQ ?_
  refine xG rfl ?_
  iterate 3 refine xP rfl rh rfl ?_
  refine xR rfl (e_loadm ma rfl rfl rfl rfl) rfl ?_
  refine xP rfl rh rfl ?_
  refine OS.at1 (j:=belowN key ks) (Na.v) (hat) rfl rfl rfl rfl rfl rfl (fun ra0 oa0 rowa0 csa0 ma0 ca0 ga0=>⟨_,rfl,?_⟩)
  refine xR rfl (e_loadm ma0 ca0 rfl rfl (part_one rfl ga0)) rfl ?_
  iterate 2 refine xP rfl rh rfl ?_
  refine xN ?_
  refine xT ⟨_,fun _ _=>rfl,?_⟩
  refine ⟨?_,Y,rfl⟩
  unfold getV
  rw [hg0]; rfl
def putN (key val:Tx) (ks vs:List Tx):Nd:=if isN key ks=true then ⟨true,ks,vs.set (belowN key ks) val,[]⟩ else ⟨true,insL ks (belowN key ks) key,insL vs (belowN key ks) val,[]⟩
theorem tx_set {l:List Tx} {i:Nat} {x:Tx}:(tx l).set i (txt x)=tx (l.set i x):=by simp [tx]
set_option maxHeartbeats 4000000 in
theorem put_chn {c:Cfg} {G X:RL} {root cnt:Int} {r3 r4 r5:Nat} {key val:Tx} {ks vs:List Tx} (h3:(r3,tpRow c.rt)∈G) (h4:(r4,sRow key)∈G) (h5:(r5,sRow val)∈G) (hs:Sm ⟨true,ks,vs,[]⟩) (hm:mayN ⟨true,ks,vs,[]⟩=true) (hc0:0<=cnt) (hc1:cnt<=1000000000) :
  Chn c G X root cnt (if isN key ks=true then cnt else cnt+1) 66 [ptr r4,ptr r5,ptr r3] ⟨true,ks,vs,[]⟩ (putN key val ks vs):=by
 intro rc w1 w2 w3 Y1 Y2 Y3 T es ck ws wk g1 g2 g3
 have e1:=hs.k; have e2:=hs.v; have e3:=hs.kl; have e4:=hs.vl
 have hl:=(may_vs hm rfl).1
 have hle:=below_le key ks
 simp only at g1 g2 g3 e1 e2 e3 e4 hl ⊢
 have mG:∀ (p:Nat × ARow),p∈G->p∈(rc,ndRow true w1 w2 w3)::HD c.rf c.rb c.rt c.rn c.rw T root cnt c.root0 c.cnt0 es ck ws wk (Y3++(Y2++(Y1++(G++X)))):=fun p hp=>by simp [hp]
 have N0:NV ((rc,ndRow true w1 w2 w3)::HD c.rf c.rb c.rt c.rn c.rw T root cnt c.root0 c.cnt0 es ck ws wk (Y3++(Y2++(Y1++(G++X))))) ⟨true,ks,vs,[]⟩ w1 w2 w3:=⟨g1.sv.mono (fun p hp=>by simp [hp]),g2.sv.mono (fun p hp=>by simp [hp]),g3.sv.mono (fun p hp=>by simp [hp]),by simp only; omega,by simp only; omega,by simp,fun k hk=>by have:=e3 k hk; omega,fun k hk=>by have:=e4 k hk; omega⟩
 refine CS.mk (fn:=Tryz.f66) rfl rfl rfl rfl ?_
 repeat refine xQ ?_
 refine LS.drawn noGo mixed [(0,false),(1,false),(2,false),(3,false),(4,true),(5,false),(6,false),(7,false),(8,false),(9,false)] rfl rfl (by kernel_rfl) ?_
 iterate 2 refine xD rfl rfl rh rfl ?_
 refine xE rfl rfl (e_load 0 rfl rfl rfl rfl rfl) rfl ?_
 refine xE rfl rfl (e_loadm (mG _ h4) rfl rfl rfl rfl) rfl ?_
 refine ODS.call rfl rfl (fun _=>rfl) ((Find_ct N0 (by simp only; omega)).mono ?_)
 rintro u L' ⟨rfl,rfl⟩
 refine ⟨_,rfl,(by repeat (first | exact Keep.nil | refine Keep.gone rfl ?_)),?_⟩
 rw [find_at hm]
 simp only
 iterate 5 refine xD rfl rfl rh rfl ?_
 refine xM ?_
 repeat refine xQ ?_
 refine xG rfl ?_
 refine xP rfl rh rfl ?_
 refine xN ?_
 cases hi:isN key ks with
 | true =>
  have hlt:belowN key ks < ks.length:=by
   have h0:=isN_iff.1 hi
   by_cases h:belowN key ks < ks.length
   ·exact h
   ·rw [List.getElem?_eq_none (by omega)] at h0; cases h0
  rcases g2 with ⟨_,h0,_,_⟩ | ⟨r,rfl,hlen,rfl⟩
  ·omega
  have e5:putN key val ks vs=⟨true,ks,vs.set (belowN key ks) val,[]⟩:=by unfold putN; rw [if_pos hi]
  rw [e5,if_pos rfl]
  repeat refine xQ ?_
  refine xC rfl (fun hc=>?_) (fun hc=>?_)
  ·refine LS.sub (Sub.sums (A:=(r,.cells 9 (tx vs))::(rc,ndRow true w1 (.slice (some ⟨r,0,none⟩) vs.length openCap) w3)::HD c.rf c.rb c.rt c.rn c.rw T root cnt c.root0 c.cnt0 es ck ws wk (Y3++(Y1++(G++X)))) (B:=(rc,ndRow true w1 (.slice (some ⟨r,0,none⟩) vs.length openCap) w3)::HD c.rf c.rb c.rt c.rn c.rw T root cnt c.root0 c.cnt0 es ck ws wk (Y3++([(r,.cells 9 (tx vs))]++(Y1++(G++X))))) fun f=>by simp [HD,fm]<;>omega) ?_
   repeat refine xQ ?_
   refine LS.drawn noGo mixed [(0,false),(1,false),(2,false),(3,false),(4,false),(5,false),(6,false),(7,true)] rfl rfl (by kernel_rfl) ?_
   iterate 3 refine xD rfl rfl rh rfl ?_
   refine xE rfl rfl (e_load 1 rfl rfl rfl rfl rfl) rfl ?_
   refine xD rfl rfl rh rfl ?_
   refine xE rfl rfl (e_loadm (r:=r5) (row:=sRow val) (by simp [h5]) rfl rfl rfl rfl) rfl ?_
   refine xD rfl rfl (e_index (j:=belowN key ks) rfl rfl rfl rfl rfl (by omega)) rfl ?_
   refine ODS.write rfl rfl (e_store 0 (cs':=tx (vs.set (belowN key ks) val)) rfl rfl rfl rfl rfl rfl (by rw [← tx_set]; exact (congrArg (lay (tx vs) · [txt val]) (show 0+belowN key ks * 1=belowN key ks by omega)).trans (lay_one (by simp; omega))) rfl) rfl (by repeat (first | exact Keep.nil | refine Keep.gone rfl ?_)) ?_
   refine xM ?_
   refine LS.sub (Sub.sums (A:=(rc,ndRow true w1 (.slice (some ⟨r,0,none⟩) vs.length openCap) w3)::HD c.rf c.rb c.rt c.rn c.rw T root cnt c.root0 c.cnt0 es ck ws wk ((Y3++([(r,.cells 9 (tx (vs.set (belowN key ks) val)))]++Y1))++(G++X))) (B:=(r,.cells 9 (tx (vs.set (belowN key ks) val)))::(rc,ndRow true w1 (.slice (some ⟨r,0,none⟩) vs.length openCap) w3)::HD c.rf c.rb c.rt c.rn c.rw T root cnt c.root0 c.cnt0 es ck ws wk (Y3++(Y1++(G++X)))) fun f=>by simp [HD,fm]<;>omega) ?_
   refine xT ⟨_,fun _ _=>rfl,?_⟩
   refine ⟨w1,.slice (some ⟨r,0,none⟩) vs.length openCap,w3,Y3++([(r,.cells 9 (tx (vs.set (belowN key ks) val)))]++Y1),rfl,⟨(g1.ol (show ks.length<=openCap by unfold openCap; omega)).pl.mono (fun p hp=>by simp [hp]),?_,(g3.ol (show ([]:List Int).length<=openCap by decide)).pl.mono (fun p hp=>by simp [hp])⟩⟩
   refine .inr ⟨r,0,openCap,tx (vs.set (belowN key ks) val),by simp only [List.length_set],by simp,?_,by simp only [List.length_set]; unfold openCap; omega,Nat.le_refl _⟩
   exact cut_all (by simp)
  ·cases hc
 | false =>
  have e5:putN key val ks vs=⟨true,insL ks (belowN key ks) key,insL vs (belowN key ks) val,[]⟩:=by unfold putN; rw [if_neg (by rw [hi]; decide)]
  rw [e5,if_neg (by decide)]
  repeat refine xQ ?_
  refine xC rfl (fun hc=>?_) (fun hc=>?_)
  ·cases hc
  refine LS.skip ?_
  have hle2:belowN key ks<=vs.length:=by omega
  repeat refine xQ ?_
  refine LS.drawn noGo mixed [(0,false),(1,false),(2,false),(3,false),(4,false),(5,false),(6,false),(7,true),(8,true),(9,false),(10,false),(11,true)] rfl rfl (by kernel_rfl) ?_
  iterate 4 refine xD rfl rfl rh rfl ?_
  refine xE rfl rfl (e_load 0 rfl rfl rfl rfl rfl) rfl ?_
  refine xD rfl rfl rh rfl ?_
  refine xE rfl rfl (e_loadm (mG _ h4) rfl rfl rfl rfl) rfl ?_
  refine ODS.fresh rfl rfl (e_new (fun _=>rfl) rfl) (fun _=>rfl) (fun rv=>(by repeat (first | exact Keep.nil | refine Keep.gone rfl ?_ | refine Keep.cons rfl (e_load 1 rfl rfl rfl rfl rfl) ?_))) (fun rv=>?_)
  refine ODS.nodup fun hnd=>?_
  have hrv:∀ p,p∈Y1->p.1≠rv:=fun p hp he=>by
   exact (List.nodup_cons.1 hnd).1 (List.mem_map.2 ⟨p,by simp [hp],he⟩)
  refine ODS.sub (Sub.sums (A:=Y1++((rv,sRow key)::(rc,ndRow true w1 w2 w3)::HD c.rf c.rb c.rt c.rn c.rw T root cnt c.root0 c.cnt0 es ck ws wk (Y3++(Y2++(G++X))))) (B:=(rv,sRow key)::(rc,ndRow true w1 w2 w3)::HD c.rf c.rb c.rt c.rn c.rw T root cnt c.root0 c.cnt0 es ck ws wk (Y3++(Y2++(Y1++(G++X))))) fun f=>by simp [HD,fm]<;>omega) ?_
  refine ODS.call rfl rfl (fun _=>rfl) ((InsertS_ct (x:=txt key) g1 hle (by omega) rfl (tx_one _) (List.mem_cons_self ..) hrv).mono ?_)
  rintro u1 L' ⟨Y1',rfl,o1⟩
  refine ⟨_,rfl,(by repeat (first | exact Keep.nil | refine Keep.gone rfl ?_)),?_⟩
  have o1':OL 9 1 u1 (insL ks (belowN key ks) key).length (tx (insL ks (belowN key ks) key)) Y1':=by
   rw [insL_len hle]
   have:=o1.ol
   rw [show txt key=(fun s=>txt s) key from rfl,insL_map] at this
   exact this
  refine ODS.sub (Sub.sums2 ([(rv,sRow key)]) (A:=(rc,ndRow true w1 w2 w3)::HD c.rf c.rb c.rt c.rn c.rw T root cnt c.root0 c.cnt0 es ck ws wk (Y3++(Y2++(Y1'++(G++X))))) (B:=Y1'++((rv,sRow key)::(rc,ndRow true w1 w2 w3)::HD c.rf c.rb c.rt c.rn c.rw T root cnt c.root0 c.cnt0 es ck ws wk (Y3++(Y2++(G++X))))) fun f=>by simp [HD,fm]<;>omega) ?_
  iterate 2 refine xD rfl rfl rh rfl ?_
  refine ODS.write rfl rfl (e_storeS 0 (isSl o1'.sv) rfl rfl rfl rfl rfl rfl rfl) rfl (by repeat (first | exact Keep.nil | refine Keep.gone rfl ?_)) ?_
  refine xM ?_
  have mG2:∀ (p:Nat × ARow),p∈G->p∈(rc,ndRow true u1 w2 w3)::HD c.rf c.rb c.rt c.rn c.rw T root cnt c.root0 c.cnt0 es ck ws wk (Y3++(Y2++(Y1'++(G++X)))):=fun p hp=>by simp [hp]
  repeat refine xQ ?_
  refine LS.drawn noGo mixed [(0,false),(1,false),(2,false),(3,false),(4,false),(5,false),(6,false),(7,true),(8,true),(9,false),(10,false),(11,true)] rfl rfl (by kernel_rfl) ?_
  iterate 4 refine xD rfl rfl rh rfl ?_
  refine xE rfl rfl (e_load 0 rfl rfl rfl rfl rfl) rfl ?_
  refine xD rfl rfl rh rfl ?_
  refine xE rfl rfl (e_loadm (mG2 _ h5) rfl rfl rfl rfl) rfl ?_
  refine ODS.fresh rfl rfl (e_new (fun _=>rfl) rfl) (fun _=>rfl) (fun rv=>(by repeat (first | exact Keep.nil | refine Keep.gone rfl ?_ | refine Keep.cons rfl (e_load 1 rfl rfl rfl rfl rfl) ?_))) (fun rv=>?_)
  refine ODS.nodup fun hnd=>?_
  have hrv:∀ p,p∈Y2->p.1≠rv:=fun p hp he=>by
   exact (List.nodup_cons.1 hnd).1 (List.mem_map.2 ⟨p,by simp [hp],he⟩)
  refine ODS.sub (Sub.sums (A:=Y2++((rv,sRow val)::(rc,ndRow true u1 w2 w3)::HD c.rf c.rb c.rt c.rn c.rw T root cnt c.root0 c.cnt0 es ck ws wk (Y3++(Y1'++(G++X))))) (B:=(rv,sRow val)::(rc,ndRow true u1 w2 w3)::HD c.rf c.rb c.rt c.rn c.rw T root cnt c.root0 c.cnt0 es ck ws wk (Y3++(Y2++(Y1'++(G++X))))) fun f=>by simp [HD,fm]<;>omega) ?_
  refine ODS.call rfl rfl (fun _=>rfl) ((InsertS_ct (x:=txt val) g2 hle2 (by omega) rfl (tx_one _) (List.mem_cons_self ..) hrv).mono ?_)
  rintro u2 L' ⟨Y2',rfl,o2⟩
  refine ⟨_,rfl,(by repeat (first | exact Keep.nil | refine Keep.gone rfl ?_)),?_⟩
  have o2':OL 9 1 u2 (insL vs (belowN key ks) val).length (tx (insL vs (belowN key ks) val)) Y2':=by
   rw [insL_len hle2]
   have:=o2.ol
   rw [show txt val=(fun s=>txt s) val from rfl,insL_map] at this
   exact this
  refine ODS.sub (Sub.sums2 ([(rv,sRow val)]) (A:=(rc,ndRow true u1 w2 w3)::HD c.rf c.rb c.rt c.rn c.rw T root cnt c.root0 c.cnt0 es ck ws wk ((Y3++(Y2'++Y1'))++(G++X))) (B:=Y2'++((rv,sRow val)::(rc,ndRow true u1 w2 w3)::HD c.rf c.rb c.rt c.rn c.rw T root cnt c.root0 c.cnt0 es ck ws wk (Y3++(Y1'++(G++X))))) fun f=>by simp [HD,fm]<;>omega) ?_
  iterate 2 refine xD rfl rfl rh rfl ?_
  refine ODS.write rfl rfl (e_storeS 0 (isSl o2'.sv) rfl rfl rfl rfl rfl rfl rfl) rfl (by repeat (first | exact Keep.nil | refine Keep.gone rfl ?_)) ?_
  refine xM ?_
  repeat refine xQ ?_
  refine xG rfl ?_
  refine xR rfl (e_loadm (r:=r3) (row:=tpRow c.rt) (by simp [h3]) rfl rfl rfl rfl) rfl ?_
  iterate 3 refine xP rfl rh rfl ?_
  refine xR rfl (e_load 3 rfl rfl rfl rfl rfl) rfl ?_
  refine xP rfl (e_add (m:=cnt) (n:=1) rfl rfl rfl (in_i64 (by omega) (by omega))) rfl ?_
  iterate 3 refine xP rfl rh rfl ?_
  refine OS.write rfl (e_store 3 rfl rfl rfl rfl rfl rfl rfl rfl) rfl ?_
  refine xN ?_
  exact ⟨_,fun _ _=>rfl,u1,u2,w3,Y3++(Y2'++Y1'),rfl,⟨o1'.pl.mono (fun p hp=>by simp [hp]),o2'.pl.mono (fun p hp=>by simp [hp]),(g3.ol (show ([]:List Int).length<=openCap by decide)).pl.mono (fun p hp=>by simp [hp])⟩⟩
set_option maxHeartbeats 4000000 in
theorem del_chn {c:Cfg} {G X:RL} {root cnt:Int} {r3:Nat} {key:Tx} {ks vs:List Tx} (h3:(r3,sRow key)∈G) (hs:Sm ⟨true,ks,vs,[]⟩) (hm:mayN ⟨true,ks,vs,[]⟩=true) (hi:isN key ks=true) :
  Chn c G X root cnt cnt 70 [ptr r3] ⟨true,ks,vs,[]⟩ ⟨true,ks.eraseIdx (belowN key ks),vs.eraseIdx (belowN key ks),[]⟩:=by
 intro rc w1 w2 w3 Y1 Y2 Y3 T es ck ws wk g1 g2 g3
 have e1:=hs.k; have e2:=hs.v; have e3:=hs.kl; have e4:=hs.vl
 have hl:=(may_vs hm rfl).1
 have hlt:belowN key ks < ks.length:=by
  have h0:=isN_iff.1 hi
  by_cases h:belowN key ks < ks.length
  ·exact h
  ·rw [List.getElem?_eq_none (by omega)] at h0; cases h0
 simp only at g1 g2 g3 e1 e2 e3 e4 hl ⊢
 have er1:(tx ks).eraseIdx (belowN key ks)=tx (ks.eraseIdx (belowN key ks)):=erase_map
 have er2:(tx vs).eraseIdx (belowN key ks)=tx (vs.eraseIdx (belowN key ks)):=erase_map
 have mG:∀ (p:Nat × ARow),p∈G->p∈(rc,ndRow true w1 w2 w3)::HD c.rf c.rb c.rt c.rn c.rw T root cnt c.root0 c.cnt0 es ck ws wk (Y3++(Y2++(Y1++(G++X)))):=fun p hp=>by simp [hp]
 have N0:NV ((rc,ndRow true w1 w2 w3)::HD c.rf c.rb c.rt c.rn c.rw T root cnt c.root0 c.cnt0 es ck ws wk (Y3++(Y2++(Y1++(G++X))))) ⟨true,ks,vs,[]⟩ w1 w2 w3:=⟨g1.sv.mono (fun p hp=>by simp [hp]),g2.sv.mono (fun p hp=>by simp [hp]),g3.sv.mono (fun p hp=>by simp [hp]),by simp only; omega,by simp only; omega,by simp,fun k hk=>by have:=e3 k hk; omega,fun k hk=>by have:=e4 k hk; omega⟩
 refine CS.mk (fn:=Tryz.f70) rfl rfl rfl rfl ?_
 repeat refine xQ ?_
 refine LS.drawn noGo mixed [(0,false),(1,false),(2,false),(3,false),(4,true),(5,false),(6,false),(7,false),(8,false),(9,false)] rfl rfl (by kernel_rfl) ?_
 iterate 2 refine xD rfl rfl rh rfl ?_
 refine xE rfl rfl (e_load 0 rfl rfl rfl rfl rfl) rfl ?_
 refine xE rfl rfl (e_loadm (mG _ h3) rfl rfl rfl rfl) rfl ?_
 refine ODS.call rfl rfl (fun _=>rfl) ((Find_ct N0 (by simp only; omega)).mono ?_)
 rintro u L' ⟨rfl,rfl⟩
 refine ⟨_,rfl,(by repeat (first | exact Keep.nil | refine Keep.gone rfl ?_)),?_⟩
 rw [find_at hm]
 simp only
 iterate 5 refine xD rfl rfl rh rfl ?_
 refine xM ?_
 repeat refine xQ ?_
 refine xG rfl ?_
 iterate 4 refine xP rfl rh rfl ?_
 refine xR rfl (e_load 0 rfl rfl rfl rfl rfl) rfl ?_
 iterate 2 refine xP rfl rh rfl ?_
 refine xP rfl (e_addN (n:=1) rfl rfl rfl (in_i64 (by omega) (by omega))) rfl ?_
 refine OS.sub (Sub.sums (A:=Y1++((rc,ndRow true w1 w2 w3)::HD c.rf c.rb c.rt c.rn c.rw T root cnt c.root0 c.cnt0 es ck ws wk (Y3++(Y2++(G++X))))) (B:=(rc,ndRow true w1 w2 w3)::HD c.rf c.rb c.rt c.rn c.rw T root cnt c.root0 c.cnt0 es ck ws wk (Y3++(Y2++(Y1++(G++X))))) fun f=>by simp [HD,fm]<;>omega) ?_
 refine xA noGo rfl (fun _=>rfl) ((DeleteS_ct g1 hlt (by omega) (tx_one _)).mono ?_)
 rintro u1 L' ⟨Y1',rfl,o1⟩
 refine ⟨_,rfl,?_⟩
 refine OS.sub (Sub.sums (A:=(rc,ndRow true w1 w2 w3)::HD c.rf c.rb c.rt c.rn c.rw T root cnt c.root0 c.cnt0 es ck ws wk (Y3++(Y2++(Y1'++(G++X))))) (B:=Y1'++((rc,ndRow true w1 w2 w3)::HD c.rf c.rb c.rt c.rn c.rw T root cnt c.root0 c.cnt0 es ck ws wk (Y3++(Y2++(G++X))))) fun f=>by simp [HD,fm]<;>omega) ?_
 have o1':OL 9 1 u1 (ks.eraseIdx (belowN key ks)).length (tx (ks.eraseIdx (belowN key ks))) Y1':=by
  rw [List.length_eraseIdx,if_pos hlt,← er1]
  exact o1.ol
 iterate 2 refine xP rfl rh rfl ?_
 refine OS.write rfl (e_storeS 0 (isSl o1'.sv) rfl rfl rfl rfl rfl rfl rfl) rfl ?_
 refine xN ?_
 repeat refine xQ ?_
 refine xG rfl ?_
 iterate 4 refine xP rfl rh rfl ?_
 refine xR rfl (e_load 0 rfl rfl rfl rfl rfl) rfl ?_
 iterate 2 refine xP rfl rh rfl ?_
 refine xP rfl (e_addN (n:=1) rfl rfl rfl (in_i64 (by omega) (by omega))) rfl ?_
 refine OS.sub (Sub.sums (A:=Y2++((rc,ndRow true u1 w2 w3)::HD c.rf c.rb c.rt c.rn c.rw T root cnt c.root0 c.cnt0 es ck ws wk (Y3++(Y1'++(G++X))))) (B:=(rc,ndRow true u1 w2 w3)::HD c.rf c.rb c.rt c.rn c.rw T root cnt c.root0 c.cnt0 es ck ws wk (Y3++(Y2++(Y1'++(G++X))))) fun f=>by simp [HD,fm]<;>omega) ?_
 refine xA noGo rfl (fun _=>rfl) ((DeleteS_ct g2 (show belowN key ks < vs.length by omega) (by omega) (tx_one _)).mono ?_)
 rintro u2 L' ⟨Y2',rfl,o2⟩
 refine ⟨_,rfl,?_⟩
 refine OS.sub (Sub.sums (A:=(rc,ndRow true u1 w2 w3)::HD c.rf c.rb c.rt c.rn c.rw T root cnt c.root0 c.cnt0 es ck ws wk ((Y3++(Y2'++Y1'))++(G++X))) (B:=Y2'++((rc,ndRow true u1 w2 w3)::HD c.rf c.rb c.rt c.rn c.rw T root cnt c.root0 c.cnt0 es ck ws wk (Y3++(Y1'++(G++X))))) fun f=>by simp [HD,fm]<;>omega) ?_
 have o2':OL 9 1 u2 (vs.eraseIdx (belowN key ks)).length (tx (vs.eraseIdx (belowN key ks))) Y2':=by
  rw [List.length_eraseIdx,if_pos (by omega),← er2]
  exact o2.ol
 iterate 2 refine xP rfl rh rfl ?_
 refine OS.write rfl (e_storeS 0 (isSl o2'.sv) rfl rfl rfl rfl rfl rfl rfl) rfl ?_
 refine xN ?_
 exact ⟨_,fun _ _=>rfl,u1,u2,w3,Y3++(Y2'++Y1'),rfl,⟨o1'.pl.mono (fun p hp=>by simp [hp]),o2'.pl.mono (fun p hp=>by simp [hp]),(g3.ol (show ([]:List Int).length<=openCap by decide)).pl.mono (fun p hp=>by simp [hp])⟩⟩
end Go.Proofs.YtlmmddfhoabjfaaGreat
end
section
namespace Go.Proofs.YtlmmddfhoabjfaaGreat
open Go.Am
theorem kvs_ne:∀ {h:Nat} {t:Tr h},Okt h t->kvs (sq h t)≠[]
 | 0,t,hk=>by
  obtain ⟨p,ks,vs,rfl⟩:=lf_eta t
  have hv:=hk.vs
  have hn:=(ok_lf.1 hk).2
  rw [sq_lf,kvs_zip]
  cases ks with
  | nil=>exact absurd rfl hn
  | cons k ks =>
   cases vs with
   | nil=>simp at hv
   | cons v vs=>simp
 | h+1,t,hk=>by
  obtain ⟨p,ks,ts,rfl⟩:=inn_eta t
  have hl:=hk.len
  cases ts with
  | nil=>simp at hl
  | cons a ts =>
   have:=kvs_ne (hk.kid a (by simp))
   rw [sq_inn,List.map_cons,show wv ks (sq h a::ts.map (sq h))=sq h a++postI ks (ts.map (sq h)) from rfl,kvs_app]
   intro hh
   exact this (List.append_eq_nil_iff.1 hh).1
def GoodS (m:Mem) (root:Int) (P:List Pr):Prop :=
 (root=-1/\(∀ q,m q=none)/\P=[])∨∃ (H:Nat) (t:Tr H),Whole m root t/\Okt H t/\Srt (sq H t)/\kvs (sq H t)=P
theorem GoodS.root {m:Mem} {root:Int} {P:List Pr} (h:GoodS m root P):(P=[]->root=-1)/\(P≠[]->∃ n:Nat,root=n/\m n≠none):=by
 rcases h with ⟨h1,_,rfl⟩ | ⟨H,t,h1,h2,h3,rfl⟩
 ·exact ⟨fun _=>h1,fun h=>absurd rfl h⟩
 ·exact ⟨fun h=>absurd h (kvs_ne h2),fun _=>⟨_,h1.rt,h1.rep.some _ no_mem⟩⟩
theorem frees_sum {N:Nat} {m:Mem}:frM N m+((List.range N).filter fun i=>(m i).isSome).length=N:=by
 unfold frM frees bits
 rw [List.countP_map,← List.countP_eq_length_filter]
 have:=List.length_eq_countP_add_countP (l:=List.range N) (fun i=>(m i).isSome)
 rw [List.length_range] at this
 have e:(fun i=>!(m i).isSome)=((fun b=>!b) ∘ fun i=>(m i).isSome):=rfl
 rw [← e]
 have e2:List.countP (fun i=>!(m i).isSome) (List.range N)=List.countP (fun a=>decide (¬ (m a).isSome=true)) (List.range N):=by
  congr 1; funext i; cases (m i).isSome <;> rfl
 rw [e2]
 omega
theorem whole_frees {N:Nat} {m:Mem} {root:Int} {H:Nat} {t:Tr H} (hw:Whole m root t) (hd:∀ i,m i≠none->i < N):frM N m+(pgs H t).length=N:=by
 have h1:=frees_sum (N:=N) (m:=m)
 have h2:(pgs H t).length=((List.range N).filter fun i=>(m i).isSome).length:=nodup_eq hw.nod (List.nodup_range.filter _) fun q=>by
  rw [List.mem_filter,List.mem_range]
  constructor
  ·intro hq
   have:=hw.rep.some q hq
   exact ⟨hd q this,by cases hm:m q with
    | none=>exact absurd hm this
    | some _=>rfl⟩
  ·rintro ⟨_,hq⟩
   by_cases hp:q∈pgs H t
   ·exact hp
   ·rw [hw.out q hp] at hq; cases hq
 omega
def Few (N:Nat) (m:Mem) (P:List Pr):Prop:=N<=frM N m+3 * P.length
theorem prs_kvs {H:Nat} {t:Tr H}:prs t=(kvs (sq H t)).length:=rfl
theorem fin_good {N:Nat} {m:Mem} {root cnt:Int} {l:List It} {P:List Pr} (h:FinP m root cnt l) (hs:Srt l) (hP:kvs l=P) (hc:cnt=P.length) (hd:∀ i,m i≠none->i < N):GoodS m root P/\Few N m P:=by
 rcases h with ⟨h1,h2,h3⟩ | ⟨H,t,h1,h2,h3,h4⟩
 ·rw [h3] at hP
  subst hP
  refine ⟨.inl ⟨h1,h2,rfl⟩,?_⟩
  have:=frees_sum (N:=N) (m:=m)
  have h0:((List.range N).filter fun i=>(m i).isSome)=[]:=List.filter_eq_nil_iff.2 fun i _=>by rw [h2 i]; decide
  rw [h0] at this
  unfold Few
  simp at this ⊢; omega
 ·have hs':=h3.to hs
  have hkv:=h3.kv
  have hp:=whole_frees h1 hd
  refine ⟨.inr ⟨H,t,h1,h2,hs',by rw [← hkv]; exact hP⟩,?_⟩
  unfold Few
  rcases h4 with h4 | ⟨h4,h5⟩
  ·omega
  ·have:=few h2 h4 hs' h5
   rw [prs_kvs,← hkv,hP] at this
   omega
theorem plug_set:∀ {h H:Nat} {k:Cx h H} {t t':Tr h} {m m':Mem},RepT m H (plug k t)->(pgs H (plug k t)).Nodup->RepT m' h t'->no h t'=no h t->(∀ q,q ∉ pgs h t->m' q=m q)->RepT m' H (plug k t')
 | _,_,.top,t,t',m,m',_,_,h1,_,_=>h1
 | h,H,.up p A B L R c,t,t',m,m',hr,hn,h1,h2,h3=>by
  have hr1:RepT m (h+1) (inn p (A++B) (L++t::R)):=plug_rep (c:=c) hr
  have hn1:(pgs (h+1) (inn p (A++B) (L++t::R))).Nodup:=plug_nod (c:=c) hn
  rw [pgs_at] at hn1
  simp only [List.cons_append,List.nodup_cons,List.mem_append,not_or,List.nodup_append] at hn1
  have hpt:p ∉ pgs h t:=hn1.1.2.1
  refine plug_set (k:=c) (t:=inn p (A++B) (L++t::R)) (t':=inn p (A++B) (L++t'::R)) hr hn ?_ rfl fun q hq=>h3 q fun hh=>hq (by rw [pgs_at]; simp [hh])
  refine rep_inn.2 ⟨?_,fun s hs=>?_⟩
  ·rw [h3 p hpt,(rep_inn.1 hr1).1]
   simp [nos,h2]
  ·have hcase:s=t'∨s∈L∨s∈R:=by
    simp only [List.mem_append,List.mem_cons] at hs
    rcases hs with h | h | h
    ·exact .inr (.inl h)
    ·exact .inl h
    ·exact .inr (.inr h)
   rcases hcase with rfl | hL | hR
   ·exact h1
   ·refine ((rep_inn.1 hr1).2 s (by simp [hL])).congr fun q hq=>h3 q fun hh=>?_
    exact hn1.2.2.2 q (List.mem_flatMap.2 ⟨s,hL,hq⟩) q (.inl hh) rfl
   ·refine ((rep_inn.1 hr1).2 s (by simp [hR])).congr fun q hq=>h3 q fun hh=>?_
    exact hn1.2.2.1.2.2 q hh q (List.mem_flatMap.2 ⟨s,hR,hq⟩) rfl
theorem whole_leaf {H:Nat} {k:Cx 0 H} {p:Nat} {ks vs ks' vs':List Tx} {m:Mem} {root:Int} (hw:Whole m root (plug k (lf p ks vs))):Whole (updM m p (some ⟨true,ks',vs',[]⟩)) root (plug k (lf p ks' vs')):=by
 have hp:pgs H (plug k (lf p ks' vs'))=pgs H (plug k (lf p ks vs)):=by rw [pgs_plug,pgs_plug]; rfl
 refine ⟨plug_set hw.rep hw.nod (t':=lf p ks' vs') ?_ rfl fun q hq=>?_,by rw [hp]; exact hw.nod,fun q hq=>?_,?_⟩
 ·show updM m p _ p=_
  unfold updM; rw [if_pos rfl]; rfl
 ·have:q≠p:=fun he=>hq (by rw [he]; exact no_mem (t:=lf p ks vs))
  unfold updM; rw [if_neg this]
 ·rw [hp] at hq
  have:q≠p:=fun he=>hq (by rw [he,pgs_plug]; simp)
  unfold updM; rw [if_neg this]; exact hw.out q hq
 ·rw [hw.rt]
  cases k with
  | top=>rfl
  | up q A B L R c =>
   have:∀ {h H:Nat} (c:Cx h H) (t t':Tr h),no h t=no h t'->no H (plug c t)=no H (plug c t'):=fun {h H} c=>by
    induction c with
    | top=>exact fun t t' h=>h
    | up q A B L R c ih=>exact fun t t' h=>ih _ _ rfl
   rw [this _ _ _ (show no 0 (lf p ks' vs')=no 0 (lf p ks vs) from rfl)]
theorem TR.pushs {c:Cfg} {G X:RL} {s:TSt} {L:RL} (Y:RL) (h:TR c G X s L):∃ L',TR c (Y++G) X s L'/\Sub L' (Y++L):=by
 obtain ⟨T,es,ck,ws,wk,hN,rfl,hp⟩:=h
 exact ⟨HD c.rf c.rb c.rt c.rn c.rw T s.root s.cnt c.root0 c.cnt0 es ck ws wk ((Y++G)++X),⟨T,es,ck,ws,wk,hN,rfl,hp⟩,Sub.sums fun f=>by simp [HD,fm]<;>omega⟩
theorem TR.pops {c:Cfg} {G X:RL} {s:TSt} {L:RL} {Y:RL} (h:TR c (Y++G) X s L):∃ L',TR c G X s L'/\Sub L' L:=by
 obtain ⟨T,es,ck,ws,wk,hN,rfl,hp⟩:=h
 exact ⟨HD c.rf c.rb c.rt c.rn c.rw T s.root s.cnt c.root0 c.cnt0 es ck ws wk (G++X),⟨T,es,ck,ws,wk,hN,rfl,hp⟩,Sub.sums2 Y fun f=>by simp [HD,fm]<;>omega⟩
structure WayP (c:Cfg) (G X:RL) (s:TSt) (L:RL) (P:List Pr) (key:Tx) {H:Nat} (k:Cx 0 H) (p:Nat) (ks vs:List Tx) (v:Value):Prop where
 tr:TR c G X s L
 wh:Whole s.m s.root (plug k (lf p ks vs))
 wf:wfC k
 bef:∀ y∈preC k,Bef key y
 aft:∀ y∈postC k,Aft key y
 ok:OkC k p
 fits:fitsN ⟨true,ks,vs,[]⟩=true
 srt:Srt (sq H (plug k (lf p ks vs)))
 kv:kvs (sq H (plug k (lf p ks vs)))=P
 vv:∃ Y,(∀ x,x∈Y->x∈G)/\GV 150 2 [] v ((steps k).length+1) (stC (steps k++[(p,0)])) Y
 len:(steps k).length<=100000
theorem empty_fits:fitsN ⟨true,[],[],[]⟩=true:=room_fits (may_iff.2 ⟨rfl,.inl ⟨rfl,rfl,rfl,fun v hv=>by cases hv⟩⟩) (.inl ⟨rfl,Nat.zero_le _⟩)
theorem empty_ctx {k:Cx 0 0} {l:Tr 0} {p:Nat} (h:plug k l=lf p [] []):OkC k (no 0 l)/\fitsN (nd 0 l)=true:=by
 cases k with
 | top=>subst h; exact ⟨trivial,empty_fits⟩
 | up q A B L R c=>have:=steps_len (c:=Cx.up q A B L R c); simp [steps] at this
theorem way_p {H:Nat} {t:Tr H} {c:Cfg} {G X:RL} {s:TSt} {rows:RL} {key:Tx} {P:List Pr} (htr:TR c G X s rows) (hw:Whole s.m s.root t) (hok:(∃ p,H=0/\t ≍ lf p [] [])∨Okt H t) (hs:Srt (sq H t)) (hkv:kvs (sq H t)=P) :
  CS Tryz.prog 62 [ptr c.rt,txt key] rows fun v L'=>∃ Y k p ks vs,WayP c (Y++G) X s L' P key (H:=H) k p ks vs v:=by
 have hpl:=pages_le htr hw.rep hw.nod
 have hN32:=htr.N
 refine (way_tr (key:=key) htr hw (hok.imp (fun ⟨_,h,_⟩=>h) id) hs).less ?_
 rintro v L' ⟨k,l,Y,hpu,hwf,hbef,haft,rfl,hv⟩
 obtain ⟨p,ks,vs,rfl⟩:=lf_eta l
 obtain ⟨L1,h1,s1⟩:=htr.pushs Y
 subst hpu
 have hst:=steps_len (c:=k)
 have hh:OkC k p/\fitsN ⟨true,ks,vs,[]⟩=true:=by
  rcases hok with ⟨q,h0,ht⟩ | hok
  ·subst h0
   have:=empty_ctx (eq_of_heq ht)
   simpa using this
  ·exact ⟨(ok_plug.1 hok).1,(ok_plug.1 hok).2.1⟩
 have hH:H < 40000:=by
  rcases hok with ⟨q,h0,ht⟩ | hok
  ·omega
  ·have:=high_le hok; omega
 exact ⟨L1,s1,Y,k,p,ks,vs,h1,hw,hwf,hbef,haft,hh.1,hh.2,hs,hkv,⟨Y,fun x hx=>List.mem_append_left _ hx,by simpa using hv⟩,by omega⟩
end Go.Proofs.YtlmmddfhoabjfaaGreat
end
section
namespace Go.Proofs.YtlmmddfhoabjfaaGreat
open Go.Am
theorem put_sm {key val:Tx} {ks vs:List Tx} (hf:fitsN ⟨true,ks,vs,[]⟩=true) (h2:key.length<=32) (h3:val.length<=64):Sm (putN key val ks vs):=by
 have hs:=fits_sm hf
 have hl:=(may_vs (fits_may hf) rfl).1
 have hz:=leaf_sm hf
 have hle:=below_le key ks
 have e3:=hs.kl
 have e4:=hs.vl
 simp only at e3 e4 hl
 unfold putN
 split
 ·refine ⟨by simp only; omega,by simp only [List.length_set]; omega,by simp,e3,fun k hk=>?_⟩
  rcases mem_set' hk with rfl | hk
  ·omega
  ·exact e4 k hk
 ·refine ⟨by simp only [insL_len hle]; omega,by simp only; rw [insL_len (by omega)]; omega,by simp,fun k hk=>?_,fun k hk=>?_⟩
  ·rcases mem_insL hk with rfl | hk
   ·omega
   ·exact e3 k hk
  ·rcases mem_insL hk with rfl | hk
   ·omega
   ·exact e4 k hk
abbrev pG (c:Cfg) (r3 r4 r5:Nat) (key val:Tx) (G:RL):RL:=(r5,sRow val)::(r4,sRow key)::(r3,tpRow c.rt)::G
set_option maxHeartbeats 4000000 in
theorem put_tr {c:Cfg} {G X:RL} {s:TSt} {rows:RL} {key val:Tx} {P:List Pr} (htr:TR c G X s rows) (hg:GoodS s.m s.root P) (hcnt:s.cnt=P.length) (h16:16<=frM c.N s.m) (hk1:1<=key.length) (hk2:key.length<=32) (hv1:val.length<=64) (hP:P.length<=100000000) :
  CS Tryz.prog 44 [ptr c.rt,txt key,txt val] rows fun _ L'=>∃ X' m' root',(∀ q,q∈X->q∈X')/\TR c G X' ⟨m',root',((putP key val P).length:Nat)⟩ L'/\GoodS m' root' (putP key val P)/\Few c.N m' (putP key val P):=by
 suffices g:CS Tryz.prog 44 [ptr c.rt,txt key,txt val] rows fun _ L'=>∃ Y X' m' root',(∀ q,q∈X->q∈X')/\TR c (Y++G) X' ⟨m',root',((putP key val P).length:Nat)⟩ L'/\GoodS m' root' (putP key val P)/\Few c.N m' (putP key val P) by
  refine g.less ?_
  rintro u L' ⟨Y,X',m',root',h1,h2,h3⟩
  obtain ⟨L1,g1,s1⟩:=h2.pops
  exact ⟨L1,s1,X',m',root',h1,g1,h3⟩
 obtain ⟨m,root,cnt⟩:=s
 simp only at hg hcnt h16
 obtain ⟨T,es,ck,ws,wk,hN,rfl,hp⟩:=id htr
 simp only
 refine CS.mk (fn:=Tryz.f44) rfl rfl rfl rfl ?_
 repeat refine xQ ?_
 refine xG rfl ?_
 refine OS.fresh rfl (e_boxV (v:=ptr c.rt) (cs:=[ptr c.rt]) rfl rfl rfl rfl rfl) (fun _=>rfl) (fun r3=>?_)
 refine OS.fresh rfl (e_boxV (v:=txt key) (cs:=[txt key]) rfl rfl rfl rfl rfl) (fun _=>rfl) (fun r4=>?_)
 refine OS.fresh rfl (e_boxV (v:=txt val) (cs:=[txt val]) rfl rfl rfl rfl rfl) (fun _=>rfl) (fun r5=>?_)
 refine OS.sub (Sub.sums (A:=HD c.rf c.rb c.rt c.rn c.rw T root cnt c.root0 c.cnt0 es ck ws wk (pG c r3 r4 r5 key val G++X)) (B:=(r5,sRow val)::(r4,sRow key)::(r3,tpRow c.rt)::HD c.rf c.rb c.rt c.rn c.rw T root cnt c.root0 c.cnt0 es ck ws wk (G++X)) fun f=>by simp [HD,fm]<;>omega) ?_
 refine xN ?_
 have htr1:TR c (pG c r3 r4 r5 key val G) X ⟨m,root,cnt⟩ (HD c.rf c.rb c.rt c.rn c.rw T root cnt c.root0 c.cnt0 es ck ws wk (pG c r3 r4 r5 key val G++X)):=⟨T,es,ck,ws,wk,hN,rfl,hp⟩
 have m3:(r3,tpRow c.rt)∈pG c r3 r4 r5 key val G:=by simp
 have m4:(r4,sRow key)∈pG c r3 r4 r5 key val G:=by simp
 have m5:(r5,sRow val)∈pG c r3 r4 r5 key val G:=by simp
 repeat refine xQ ?_
 refine xG rfl ?_
 refine xR rfl (e_loadm (htr1.memG _ m3) rfl rfl rfl rfl) rfl ?_
 iterate 3 refine xP rfl rh rfl ?_
 refine xR rfl (e_loadm (row:=trRow c.rf c.rn c.rw root cnt c.root0 c.cnt0) (r:=c.rt) (by simp) rfl rfl rfl rfl) rfl ?_
 refine xP rfl rh rfl ?_
 refine xN ?_
 repeat refine xQ ?_
 refine LS.mid [3,4,5] (fun a' L'=>∃ X1 m1 root1 H,∃ t1:Tr H,(∀ q,q∈X->q∈X1)/\TR c (pG c r3 r4 r5 key val G) X1 ⟨m1,root1,cnt⟩ L'/\Whole m1 root1 t1/\((∃ p,H=0/\t1 ≍ lf p [] [])∨Okt H t1)/\Srt (sq H t1)/\kvs (sq H t1)=P/\15<=frM c.N m1/\(H=0∨16<=frM c.N m1)/\a'=[jn,jn,jn,ptr r3,ptr r4,ptr r5,jn,jn,jn,jn,jn,jn,jn,jn,jn,jn,jn,jn,jn,jn,jn,jn,jn,jn,jn,jn,jn,jn,jn,jn,jn,jn,jn,jn,jn,jn,jn,jn,jn,jn,jn,jn,jn]) ?_ ?_
 ·rcases hg with ⟨rfl,hem,rfl⟩ | ⟨H,t,hw,hok,hs,hkv⟩
  ·refine xC rfl (fun hc=>?_) (fun hc=>?_)
   ·repeat refine xQ ?_
    refine LS.drawn noGo mixed [(0,false),(1,false),(2,false),(3,false),(4,false),(5,true),(6,false),(7,false),(8,false),(9,true)] rfl rfl (by kernel_rfl) ?_
    refine xE rfl rfl (e_loadm (htr1.memG _ m3) rfl rfl rfl rfl) rfl ?_
    refine xE rfl rfl (e_loadm (htr1.memG _ m3) rfl rfl rfl rfl) rfl ?_
    iterate 2 refine xD rfl rfl rh rfl ?_
    refine xD rfl rfl (e_build0 rfl rfl) rfl ?_
    refine ODS.call rfl rfl (fun _=>rfl) ((add_tr (n:=⟨true,[],[],[]⟩) htr1 (by simp only; omega) ⟨pl_nil,pl_nil,pl_nil⟩ (fits_sm empty_fits)).mono ?_)
    rintro u L1 ⟨p,x,d1,hp1,rfl,h1⟩
    have h10:=h1
    refine ⟨_,rfl,(by repeat (first | exact Keep.nil | refine Keep.gone rfl ?_ | refine Keep.cons rfl (e_loadm (h10.memG _ m3) rfl rfl rfl rfl) ?_)),?_⟩
    obtain ⟨T1,es1,ck1,ws1,wk1,hN1,rfl,hp1'⟩:=h1
    iterate 3 refine xD rfl rfl rh rfl ?_
    refine ODS.write rfl rfl (e_store 2 rfl rfl rfl rfl rfl rfl rfl rfl) rfl (by repeat (first | exact Keep.nil | refine Keep.gone rfl ?_)) ?_
    refine xM ?_
    have hfm:=frM_new (n':=⟨true,[],[],[]⟩) d1 hp1
    simp only at hfm
    refine ⟨_,updM m p (some ⟨true,[],[],[]⟩),(p:Nat),0,lf p [] [],fun q hq=>List.mem_cons_of_mem _ hq,⟨T1,es1,ck1,ws1,wk1,hN1,rfl,hp1'⟩,⟨?_,by simp,fun q hq=>?_,rfl⟩,.inl ⟨p,rfl,HEq.rfl⟩,List.Pairwise.nil,rfl,by omega,.inl rfl,rfl⟩
    ·show updM m p _ p=_
     unfold updM; rw [if_pos rfl]; rfl
    ·have:q≠p:=fun he=>hq (by simp [he])
     unfold updM; rw [if_neg this]; exact hem q
   ·cases hc
  ·have hrt:=hw.rt
   have hb:ieqB root (-1)=false:=by rw [ieqB_eq]; simp; omega
   refine xC rfl (fun hc=>?_) (fun hc=>?_)
   ·have hc:ieqB root (-1)=true:=hc
    rw [hb] at hc; cases hc
   ·refine LS.skip ?_
    exact ⟨X,m,root,H,t,fun q hq=>hq,htr1,hw,.inr hok,hs,hkv,by omega,.inr h16,rfl⟩
 rintro a' L1 ⟨X1,m1,root1,H,t1,hX1,htr2,hw1,hok1,hs1,hkv1,hf15,hf16,rfl⟩
 repeat refine xQ ?_
 refine xG rfl ?_
 refine xR rfl (e_loadm (htr2.memG _ m3) rfl rfl rfl rfl) rfl ?_
 refine xR rfl (e_loadm (htr2.memG _ m4) rfl rfl rfl rfl) rfl ?_
 refine xA noGo rfl (fun _=>rfl) ((way_p htr2 hw1 hok1 hs1 hkv1).mono ?_)
 rintro v L2 ⟨Y,k,p,ks,vs,hwp⟩
 obtain ⟨Yv,hYv,hvv⟩:=hwp.vv
 refine ⟨_,rfl,?_⟩
 refine xP rfl rh rfl ?_
 refine xN ?_
 have hst:=steps_len (c:=k)
 have hlen:=hwp.len
 repeat refine xQ ?_
 refine xG rfl ?_
 refine xP rfl rh rfl ?_
 refine xP rfl (e_len (hvv.sv.mono fun x hx=>hwp.tr.memG _ (hYv x hx)) rfl rfl rfl rfl rfl) rfl ?_
 refine xP rfl rh rfl ?_
 refine xN ?_
 repeat refine xQ ?_
 refine LS.mid [3,4,5,6] (fun a' L'=>∃ Y X2 m2 root2 H,∃ (k:Cx 0 H) (p:Nat) (ks vs:List Tx) (v:Value),(∀ q,q∈X->q∈X2)/\WayP c (Y++pG c r3 r4 r5 key val G) X2 ⟨m2,root2,cnt⟩ L' P key k p ks vs v/\(steps k).length+2<=frM c.N m2/\a'=[jn,jn,jn,ptr r3,ptr r4,ptr r5,v,jn,jn,jn,jn,jn,jn,jn,jn,jn,jn,jn,jn,jn,jn,jn,jn,jn,jn,jn,jn,jn,jn,jn,jn,jn,jn,jn,jn,jn,jn,jn,jn,jn,jn,jn,jn]) ?_ ?_
 ·by_cases hbig:16<=(steps k).length+1
  ·have hb:ileB 16 (((steps k).length+1:Nat):Int)=true:=ileB_iff.2 (by omega)
   have hokH:Okt H t1:=hok1.elim (fun ⟨q,h0,_⟩=>by omega) id
   have h16b:16<=frM c.N m1:=hf16.elim (fun h0=>by omega) id
   refine xC rfl (fun hc=>?_) (fun hc=>?_)
   ·repeat refine xQ ?_
    refine xG rfl ?_
    refine xR rfl (e_loadm (hwp.tr.memG _ (List.mem_append_right Y m3)) rfl rfl rfl rfl) rfl ?_
    refine xA noGo rfl (fun _=>rfl) ((tidy_tr hwp.tr hw1 hokH).mono ?_)
    rintro u L3 ⟨X3,m3',root3,hX3,htr3,hrp,hfr3⟩
    simp only at htr3 hfr3
    refine ⟨_,rfl,?_⟩
    refine xN ?_
    have hnd:=htr3.dom
    rcases hrp with ⟨_,_,hkn⟩ | ⟨H3,t3,hw3,hok3,hsq3,hk3,htd3⟩
    ·exact absurd hkn (kvs_ne hokH)
    have hs3:=hsq3.to hs1
    have hpg3:=pages_le htr3 hw3.rep hw3.nod
    have hN3:=htr3.N
    have hlow:=low hok3 (htd3 trivial) hs3 hk3 (by omega)
    repeat refine xQ ?_
    refine xG rfl ?_
    refine xR rfl (e_loadm (htr3.memG _ (List.mem_append_right Y m3)) rfl rfl rfl rfl) rfl ?_
    refine xR rfl (e_loadm (htr3.memG _ (List.mem_append_right Y m4)) rfl rfl rfl rfl) rfl ?_
    refine xA noGo rfl (fun _=>rfl) ((way_p htr3 hw3 (.inr hok3) hs3 (hsq3.kv.symm.trans hkv1)).mono ?_)
    rintro v3 L4 ⟨Y4,k4,p4,ks4,vs4,hwp4⟩
    refine ⟨_,rfl,?_⟩
    refine xP rfl rh rfl ?_
    refine xN ?_
    have hst4:=steps_len (c:=k4)
    exact ⟨Y4++Y,X3,m3',root3,H3,k4,p4,ks4,vs4,v3,fun q hq=>hX3 q (hX1 q hq),by rw [List.append_assoc]; exact hwp4,by omega,rfl⟩
   ·have hc:ileB 16 (((steps k).length+1:Nat):Int)=false:=hc
    rw [hb] at hc; cases hc
  ·have hb:ileB 16 (((steps k).length+1:Nat):Int)=false:=by rw [ileB_eq,decide_eq_false (by omega)]
   refine xC rfl (fun hc=>?_) (fun hc=>?_)
   ·have hc:ileB 16 (((steps k).length+1:Nat):Int)=true:=hc
    rw [hb] at hc; cases hc
   ·refine LS.skip ?_
    exact ⟨Y,X1,m1,root1,H,k,p,ks,vs,v,hX1,hwp,by omega,rfl⟩
 clear hst hlen hwp hvv hYv
 rintro a' L3 ⟨Y,X2,m2,root2,H2,k,p,ks,vs,v,hX2,hwp,hbud,rfl⟩
 obtain ⟨Yv,hYv,hvv⟩:=hwp.vv
 have hm:=fits_may hwp.fits
 have hml:=(plug_rep (c:=k) hwp.wh.rep).top
 simp only [nd_lf,no_lf] at hml
 have m3':=List.mem_append_right Y m3
 have m4':=List.mem_append_right Y m4
 have m5':=List.mem_append_right Y m5
 repeat refine xQ ?_
 refine LS.drawn noGo mixed [(0,false),(1,false),(2,false),(3,false),(5,false),(4,true),(6,true)] rfl rfl (by kernel_rfl) ?_
 refine xE rfl rfl (e_loadm (hwp.tr.memG _ m3') rfl rfl rfl rfl) rfl ?_
 iterate 4 refine xD rfl rfl rh rfl ?_
 refine ODS.call rfl rfl (fun _=>rfl) ((leafOf_ct hvv (fun x hx=>hwp.tr.memG _ (hYv x hx)) (by have:=hwp.len; omega)).mono ?_)
 rintro u L4 ⟨rfl,rfl⟩
 refine ⟨_,rfl,(by repeat (first | exact Keep.nil | refine Keep.gone rfl ?_ | refine Keep.cons rfl (e_loadm (hwp.tr.memG _ m3') rfl rfl rfl rfl) ?_)),?_⟩
 refine ODS.call rfl rfl (fun _=>rfl) ((change_tr (caps:=[ptr r4,ptr r5,ptr r3]) (n':=putN key val ks vs) hwp.tr hml (put_sm hwp.fits hk2 hv1) (put_chn m3' m4' m5' (fits_sm hwp.fits) hm (by simp only; omega) (by simp only; omega))).mono ?_)
 rintro u L5 ⟨X5,hX5,htr5⟩
 refine ⟨_,rfl,(by repeat (first | exact Keep.nil | refine Keep.gone rfl ?_)),?_⟩
 refine xM ?_
 simp only at htr5
 have key:∃ ks' vs',putN key val ks vs=⟨true,ks',vs',[]⟩/\Srt (sq H2 (plug k (lf p ks' vs')))/\Lz (lf p ks' vs')/\kvs (sq H2 (plug k (lf p ks' vs')))=putP key val P/\(if isN key ks=true then cnt else cnt+1)=((putP key val P).length:Nat):=by
  have hkv:=hwp.kv
  subst hkv
  unfold putN
  cases hi:isN key ks with
  | true =>
   obtain ⟨a1,a2,a3,_,a5⟩:=leaf_set (v:=val) hwp.srt hwp.wf hwp.bef hwp.aft hwp.fits hi hv1
   refine ⟨_,_,by rw [if_pos rfl],a1,a2,a3,?_⟩
   rw [if_pos rfl,a5]; exact hcnt
  | false =>
   obtain ⟨a1,a2,a3,a5⟩:=leaf_ins (v:=val) hwp.srt hwp.wf hwp.bef hwp.aft hwp.fits hi hk1 hk2 hv1
   refine ⟨_,_,by rw [if_neg (by decide)],a1,a2,a3,?_⟩
   rw [if_neg (by decide),a5]; omega
 obtain ⟨ks',vs',e1,e2,e3,e4,e5⟩:=key
 rw [e1,e5] at htr5
 have hw5:=whole_leaf (ks':=ks') (vs':=vs') hwp.wh
 simp only at hw5
 have hle5:(putP key val P).length<=100000001:=by
  have:(if isN key ks=true then cnt else cnt+1)<=cnt+1:=by split <;> omega
  omega
 have hfr5:frM c.N (updM m2 p (some ⟨true,ks',vs',[]⟩))=frM c.N m2:=frM_same (hwp.tr.dom p (by simp only; rw [hml]; simp)) hml
 repeat refine xQ ?_
 refine xG rfl ?_
 refine xR rfl (e_loadm (htr5.memG _ m3') rfl rfl rfl rfl) rfl ?_
 refine xP rfl rh rfl ?_
 refine xA noGo rfl (fun _=>rfl) ((mend_tr (pl:=p) (k0:=k) (l0:=lf p ks' vs') htr5 (hvv.sv.mono hYv) hw5 hwp.ok hwp.wf e3 e2 (.inr (by simp only; omega)) (by simp only; omega) (by simp only; omega) hwp.len).mono ?_)
 rintro u L6 ⟨X6,m6,root6,hX6,htr6,hfin⟩
 simp only at htr6
 refine ⟨_,rfl,?_⟩
 refine xN ?_
 have hgood:=fin_good hfin e2 e4 rfl htr6.dom
 exact ⟨_,fun _ _=>rfl,Y++[(r5,sRow val),(r4,sRow key),(r3,tpRow c.rt)],X6,m6,root6,fun q hq=>hX6 q (hX5 q (hX2 q hq)),by simpa using htr6,hgood⟩
set_option maxHeartbeats 4000000 in
theorem del_tr {c:Cfg} {G X:RL} {s:TSt} {rows:RL} {key:Tx} {P:List Pr} (htr:TR c G X s rows) (hg:GoodS s.m s.root P) (hcnt:s.cnt=P.length) (hP:P.length<=100000000) (hin:getP P key≠none) :
  CS Tryz.prog 45 [ptr c.rt,txt key] rows fun _ L'=>∃ X' m' root',(∀ q,q∈X->q∈X')/\TR c G X' ⟨m',root',((delP key P).length:Nat)⟩ L'/\GoodS m' root' (delP key P)/\Few c.N m' (delP key P):=by
 suffices g:CS Tryz.prog 45 [ptr c.rt,txt key] rows fun _ L'=>∃ Y X' m' root',(∀ q,q∈X->q∈X')/\TR c (Y++G) X' ⟨m',root',((delP key P).length:Nat)⟩ L'/\GoodS m' root' (delP key P)/\Few c.N m' (delP key P) by
  refine g.less ?_
  rintro u L' ⟨Y,X',m',root',h1,h2,h3⟩
  obtain ⟨L1,g1,s1⟩:=h2.pops
  exact ⟨L1,s1,X',m',root',h1,g1,h3⟩
 obtain ⟨m,root,cnt⟩:=s
 simp only at hg hcnt
 rcases hg with ⟨_,_,rfl⟩ | ⟨H,t,hw,hok,hs,hkv⟩
 ·exact absurd rfl hin
 obtain ⟨T,es,ck,ws,wk,hN,rfl,hp⟩:=id htr
 simp only
 refine CS.mk (fn:=Tryz.f45) rfl rfl rfl rfl ?_
 repeat refine xQ ?_
 refine xG rfl ?_
 refine OS.fresh rfl (e_boxV (v:=txt key) (cs:=[txt key]) rfl rfl rfl rfl rfl) (fun _=>rfl) (fun r3=>?_)
 refine OS.sub (Sub.sums (A:=HD c.rf c.rb c.rt c.rn c.rw T root cnt c.root0 c.cnt0 es ck ws wk (((r3,sRow key)::G)++X)) (B:=(r3,sRow key)::HD c.rf c.rb c.rt c.rn c.rw T root cnt c.root0 c.cnt0 es ck ws wk (G++X)) fun f=>by simp [HD,fm]<;>omega) ?_
 refine xN ?_
 have htr1:TR c ((r3,sRow key)::G) X ⟨m,root,cnt⟩ (HD c.rf c.rb c.rt c.rn c.rw T root cnt c.root0 c.cnt0 es ck ws wk (((r3,sRow key)::G)++X)):=⟨T,es,ck,ws,wk,hN,rfl,hp⟩
 have m3:(r3,sRow key)∈(r3,sRow key)::G:=by simp
 repeat refine xQ ?_
 refine xG rfl ?_
 refine xP rfl rh rfl ?_
 refine xR rfl (e_loadm (htr1.memG _ m3) rfl rfl rfl rfl) rfl ?_
 refine xA noGo rfl (fun _=>rfl) ((way_p htr1 hw (.inr hok) hs hkv).mono ?_)
 rintro v L2 ⟨Y,k,p,ks,vs,hwp⟩
 obtain ⟨Yv,hYv,hvv⟩:=hwp.vv
 refine ⟨_,rfl,?_⟩
 refine xP rfl rh rfl ?_
 refine xN ?_
 have hm:=fits_may hwp.fits
 have hml:=(plug_rep (c:=k) hwp.wh.rep).top
 simp only [nd_lf,no_lf] at hml
 have m3':=List.mem_append_right Y m3
 have hi:isN key ks=true:=by
  cases hi:isN key ks with
  | true=>rfl
  | false =>
   exfalso
   have:=leaf_none hwp.srt hwp.wf hwp.bef hwp.aft hwp.fits hi
   rw [hwp.kv] at this
   exact hin this
 obtain ⟨a1,a2,a2s,a3,_,a5⟩:=leaf_del hwp.srt hwp.wf hwp.bef hwp.aft hwp.fits hi
 rw [hwp.kv] at a3 a5
 have hsm:Sm ⟨true,ks.eraseIdx (belowN key ks),vs.eraseIdx (belowN key ks),[]⟩:=by
  have hz:=fits_sm hwp.fits
  have e1:=hz.k
  have e2:=hz.v
  simp only at e1 e2
  exact ⟨Nat.le_trans (List.length_eraseIdx_le ..) e1,Nat.le_trans (List.length_eraseIdx_le ..) e2,by simp,fun q hq=>hz.kl q (List.mem_of_mem_eraseIdx hq),fun q hq=>hz.vl q (List.mem_of_mem_eraseIdx hq)⟩
 repeat refine xQ ?_
 refine LS.drawn noGo mixed [(0,false),(1,false),(2,false),(3,false),(5,false),(4,true),(6,true)] rfl rfl (by kernel_rfl) ?_
 iterate 5 refine xD rfl rfl rh rfl ?_
 refine ODS.call rfl rfl (fun _=>rfl) ((leafOf_ct hvv (fun x hx=>hwp.tr.memG _ (hYv x hx)) (by have:=hwp.len; omega)).mono ?_)
 rintro u L4 ⟨rfl,rfl⟩
 refine ⟨_,rfl,(by repeat (first | exact Keep.nil | refine Keep.gone rfl ?_)),?_⟩
 refine ODS.call rfl rfl (fun _=>rfl) ((change_tr (caps:=[ptr r3]) (n':=⟨true,ks.eraseIdx (belowN key ks),vs.eraseIdx (belowN key ks),[]⟩) hwp.tr hml hsm (del_chn m3' (fits_sm hwp.fits) hm hi)).mono ?_)
 rintro u L5 ⟨X5,hX5,htr5⟩
 refine ⟨_,rfl,(by repeat (first | exact Keep.nil | refine Keep.gone rfl ?_)),?_⟩
 refine xM ?_
 simp only at htr5
 obtain ⟨T5,es5,ck5,ws5,wk5,hN5,rfl,hp5⟩:=htr5
 repeat refine xQ ?_
 refine xG rfl ?_
 iterate 4 refine xP rfl rh rfl ?_
 refine xR rfl (e_load 2 rfl rfl rfl rfl rfl) rfl ?_
 refine xP rfl (e_is (e_sub (m:=cnt) (n:=1) rfl rfl rfl (in_i64 (by omega) (by omega))) (congrArg (Value.int .i64) (show cnt - 1=((delP key P).length:Nat) by omega))) rfl ?_
 iterate 3 refine xP rfl rh rfl ?_
 refine OS.write rfl (e_store 2 rfl rfl rfl rfl rfl rfl rfl rfl) rfl ?_
 refine xN ?_
 have htr6:TR c (Y++(r3,sRow key)::G) X5 ⟨updM m p (some ⟨true,ks.eraseIdx (belowN key ks),vs.eraseIdx (belowN key ks),[]⟩),root,((delP key P).length:Nat)⟩ (HD c.rf c.rb c.rt c.rn c.rw T5 root ((delP key P).length:Nat) c.root0 c.cnt0 es5 ck5 ws5 wk5 ((Y++(r3,sRow key)::G)++X5)):=⟨T5,es5,ck5,ws5,wk5,hN5,rfl,hp5⟩
 have hw5:=whole_leaf (ks':=ks.eraseIdx (belowN key ks)) (vs':=vs.eraseIdx (belowN key ks)) hwp.wh
 simp only at hw5
 repeat refine xQ ?_
 refine xG rfl ?_
 iterate 2 refine xP rfl rh rfl ?_
 refine xA noGo rfl (fun _=>rfl) ((mend_tr (pl:=p) (k0:=k) (l0:=lf p (ks.eraseIdx (belowN key ks)) (vs.eraseIdx (belowN key ks))) htr6 (hvv.sv.mono hYv) hw5 hwp.ok hwp.wf a2 a1 (.inl a2s) (by simp only; omega) (by simp only; omega) hwp.len).mono ?_)
 rintro u L6 ⟨X6,m6,root6,hX6,htr7,hfin⟩
 simp only at htr7
 refine ⟨_,rfl,?_⟩
 refine xN ?_
 have hgood:=fin_good hfin a1 a3 rfl htr7.dom
 exact ⟨_,fun _ _=>rfl,Y++[(r3,sRow key)],X6,m6,root6,fun q hq=>hX6 q (hX5 q hq),by simpa using htr7,hgood⟩
end Go.Proofs.YtlmmddfhoabjfaaGreat
end
section
namespace Go.Proofs.YtlmmddfhoabjfaaGreat
open Go.Am
abbrev toRow (rt:Nat):ARow:=.cells 94 [ptr rt]
section
variable {c:Cfg} {G X:RL} {s:TSt} {L:RL} {ro:Nat}
theorem tnone_ct {rt:Nat} (h:(ro,toRow rt)∈L):CS Tryz.prog 43 [ptr ro] L fun u L'=>u=.bool false/\L'=L:=by
 refine CS.mk (fn:=Tryz.f43) rfl rfl rfl rfl ?_
 repeat refine xQ ?_
 refine xG rfl ?_
 refine xP rfl rh rfl ?_
 refine xN ?_
 repeat refine xQ ?_
 refine xG rfl ?_
 iterate 6 refine xP rfl rh rfl ?_
 refine xR rfl (e_loadm h rfl rfl rfl rfl) rfl ?_
 iterate 3 refine xP rfl rh rfl ?_
 refine xN ?_
 refine xT ⟨_,fun _ _=>rfl,?_⟩
 exact ⟨rfl,rfl⟩
theorem tLen_ct (htr:TR c G X s L) (ho:(ro,toRow c.rt)∈L):CS Tryz.prog 19 [ptr ro] L fun u L'=>u=.int .i64 s.cnt/\L'=L:=by
 obtain ⟨T,es,ck,ws,wk,hN,rfl,hp⟩:=htr
 refine CS.mk (fn:=Tryz.f19) rfl rfl rfl rfl ?_
 repeat refine xQ ?_
 refine xG rfl ?_
 refine xP rfl rh rfl ?_
 refine xN ?_
 repeat refine xQ ?_
 refine xG rfl ?_
 refine xP rfl rh rfl ?_
 refine xA noGo rfl (fun _=>rfl) ((tnone_ct ho).mono ?_)
 rintro u L' ⟨rfl,rfl⟩
 refine ⟨_,rfl,?_⟩
 refine xN ?_
 repeat refine xQ ?_
 refine xC rfl (fun hc=>?_) (fun hc=>?_)
 ·cases hc
 refine LS.skip ?_
 repeat refine xQ ?_
 refine xG rfl ?_
 iterate 3 refine xP rfl rh rfl ?_
 refine xR rfl (e_loadm ho rfl rfl rfl rfl) rfl ?_
 iterate 3 refine xP rfl rh rfl ?_
 refine xR rfl (e_loadm (row:=trRow c.rf c.rn c.rw s.root s.cnt c.root0 c.cnt0) (r:=c.rt) (by simp) rfl rfl rfl rfl) rfl ?_
 refine xP rfl rh rfl ?_
 refine xN ?_
 refine xT ⟨_,fun _ _=>rfl,?_⟩
 exact ⟨rfl,rfl⟩
theorem tRoot_ct (htr:TR c G X s L) (ho:(ro,toRow c.rt)∈L):CS Tryz.prog 13 [ptr ro] L fun u L'=>u=.int .i64 s.root/\L'=L:=by
 obtain ⟨T,es,ck,ws,wk,hN,rfl,hp⟩:=htr
 refine CS.mk (fn:=Tryz.f13) rfl rfl rfl rfl ?_
 repeat refine xQ ?_
 refine xG rfl ?_
 refine xP rfl rh rfl ?_
 refine xN ?_
 repeat refine xQ ?_
 refine xG rfl ?_
 refine xP rfl rh rfl ?_
 refine xA noGo rfl (fun _=>rfl) ((tnone_ct ho).mono ?_)
 rintro u L' ⟨rfl,rfl⟩
 refine ⟨_,rfl,?_⟩
 refine xN ?_
 repeat refine xQ ?_
 refine xC rfl (fun hc=>?_) (fun hc=>?_)
 ·cases hc
 refine LS.skip ?_
 repeat refine xQ ?_
 refine xG rfl ?_
 iterate 3 refine xP rfl rh rfl ?_
 refine xR rfl (e_loadm ho rfl rfl rfl rfl) rfl ?_
 iterate 3 refine xP rfl rh rfl ?_
 refine xR rfl (e_loadm (row:=trRow c.rf c.rn c.rw s.root s.cnt c.root0 c.cnt0) (r:=c.rt) (by simp) rfl rfl rfl rfl) rfl ?_
 refine xP rfl rh rfl ?_
 refine xN ?_
 refine xT ⟨_,fun _ _=>rfl,?_⟩
 exact ⟨rfl,rfl⟩
theorem tFree_ct (htr:TR c G X s L) (ho:(ro,toRow c.rt)∈L):CS Tryz.prog 23 [ptr ro] L fun u L'=>u=.int .i64 (frM c.N s.m:Nat)/\L'=L:=by
 have hN32:=htr.N
 obtain ⟨T,es,ck,ws,wk,hN,rfl,hp⟩:=htr
 have hfr:=hp.frees
 rw [hN] at hfr
 refine CS.mk (fn:=Tryz.f23) rfl rfl rfl rfl ?_
 repeat refine xQ ?_
 refine xG rfl ?_
 refine xP rfl rh rfl ?_
 refine xN ?_
 repeat refine xQ ?_
 refine xG rfl ?_
 refine xP rfl rh rfl ?_
 refine xA noGo rfl (fun _=>rfl) ((tnone_ct ho).mono ?_)
 rintro u L' ⟨rfl,rfl⟩
 refine ⟨_,rfl,?_⟩
 refine xN ?_
 repeat refine xQ ?_
 refine xC rfl (fun hc=>?_) (fun hc=>?_)
 ·cases hc
 refine LS.skip ?_
 repeat refine xQ ?_
 refine xG rfl ?_
 iterate 3 refine xP rfl rh rfl ?_
 refine xR rfl (e_loadm ho rfl rfl rfl rfl) rfl ?_
 iterate 3 refine xP rfl rh rfl ?_
 refine xR rfl (e_loadm (row:=trRow c.rf c.rn c.rw s.root s.cnt c.root0 c.cnt0) (r:=c.rt) (by simp) rfl rfl rfl rfl) rfl ?_
 refine xA noGo rfl (fun _=>rfl) ((Free_ct (by omega)).mono ?_)
 rintro u L' ⟨rfl,rfl⟩
 refine ⟨_,rfl,?_⟩
 refine xP rfl rh rfl ?_
 refine xN ?_
 refine xT ⟨_,fun _ _=>rfl,?_⟩
 exact ⟨by rw [hfr]; rfl,rfl⟩
def usedL (N:Nat) (m:Mem):List Nat:=(List.range N).filter fun i=>(m i).isSome
theorem lst_bits {N:Nat} {m:Mem}:lst' (bits N m)=usedL N m:=by
 unfold lst' usedL
 rw [bits_len]
 refine List.filter_congr fun i hi=>?_
 exact bits_tkn (List.mem_range.1 hi)
theorem used_frees {N:Nat} {m:Mem}:frM N m+(usedL N m).length=N:=frees_sum
theorem tUsed_ct (htr:TR c G X s L) (ho:(ro,toRow c.rt)∈L):CS Tryz.prog 24 [ptr ro] L fun u L'=>∃ Y,L'=Y++L/\GV 3 1 [] u (usedL c.N s.m).length (ints (usedL c.N s.m)) Y:=by
 have hN32:=htr.N
 obtain ⟨T,es,ck,ws,wk,hN,rfl,hp⟩:=htr
 have hbt:T=bits c.N s.m:=by
  have:=bits_of (T:=T) (m:=s.m) fun i hi=>hp.tk i hi (by simp)
  rw [hN] at this; exact this
 refine CS.mk (fn:=Tryz.f24) rfl rfl rfl rfl ?_
 repeat refine xQ ?_
 refine xG rfl ?_
 refine xP rfl rh rfl ?_
 refine xN ?_
 repeat refine xQ ?_
 refine xG rfl ?_
 refine xP rfl rh rfl ?_
 refine xA noGo rfl (fun _=>rfl) ((tnone_ct ho).mono ?_)
 rintro u L' ⟨rfl,rfl⟩
 refine ⟨_,rfl,?_⟩
 refine xN ?_
 repeat refine xQ ?_
 refine xC rfl (fun hc=>?_) (fun hc=>?_)
 ·cases hc
 refine LS.skip ?_
 repeat refine xQ ?_
 refine xG rfl ?_
 iterate 3 refine xP rfl rh rfl ?_
 refine xR rfl (e_loadm ho rfl rfl rfl rfl) rfl ?_
 iterate 3 refine xP rfl rh rfl ?_
 refine xR rfl (e_loadm (row:=trRow c.rf c.rn c.rw s.root s.cnt c.root0 c.cnt0) (r:=c.rt) (by simp) rfl rfl rfl rfl) rfl ?_
 refine xA noGo rfl (fun _=>rfl) ((List_ct (by omega)).mono ?_)
 rintro u L' hg
 obtain ⟨Y,rfl,hg'⟩:=hg.split
 refine ⟨_,rfl,?_⟩
 refine xP rfl rh rfl ?_
 refine xN ?_
 refine xT ⟨_,fun _ _=>rfl,?_⟩
 refine ⟨Y,rfl,?_⟩
 rw [← lst_bits,← hbt]; exact hg'
end
abbrev m00:Mem:=fun _=>none
theorem pg_new {n:Nat} (hn:n<=32768):Pg [] (List.replicate n false) [] 0 [] 0 m00 m00 :=
 ⟨by simpa using hn,fun i hi _=>tkn_zeros n i,fun i h=>absurd rfl h,fun i h=>absurd rfl h,⟨_,MP.new,fun k=>⟨fun _=>rfl,fun n h=>(by cases h)⟩⟩,⟨_,MP.new,fun k=>⟨fun _=>rfl,fun h=>absurd rfl h⟩⟩,fun i n h=>(by cases h),fun i n h=>(by cases h)⟩
theorem newPages_ct {L:RL} (n:Nat) (hn:n<=32768):CS Tryz.prog 41 [.int .i64 (n:Nat)] L fun u L'=>∃ rf rb rn rw x,u=.tuple #[.agg #[ptr rf,.map (some rn),.map (some rw)],.int .i64 0]/\L'=(rw,.map [] 0)::(rn,.map [] 0)::fm rf rb (List.replicate n false) (x::L):=by
 refine CS.mk (fn:=Tryz.f41) rfl rfl rfl rfl ?_
 repeat refine xQ ?_
 refine xG rfl ?_
 refine OS.fresh rfl (e_new (fun _=>rfl) rfl) (fun _=>rfl) (fun r2=>?_)
 refine xP rfl rh rfl ?_
 refine xN ?_
 repeat refine xQ ?_
 refine xG rfl ?_
 refine xP rfl rh rfl ?_
 refine xA noGo rfl (fun _=>rfl) ((New_ct n hn).mono ?_)
 rintro u L' ⟨rf,rb,rfl,rfl⟩
 refine ⟨_,rfl,?_⟩
 iterate 5 refine xP rfl rh rfl ?_
 refine xN ?_
 repeat refine xQ ?_
 refine xG rfl ?_
 refine xP rfl rh rfl ?_
 refine OS.fresh rfl (e_makeMap rfl rfl rfl) (fun _=>rfl) (fun rn=>?_)
 refine OS.fresh rfl (e_makeMap rfl rfl rfl) (fun _=>rfl) (fun rw=>?_)
 iterate 2 refine xP rfl rh rfl ?_
 refine OS.write rfl (e_store 4 rfl rfl rfl rfl rfl rfl rfl rfl) rfl ?_
 refine xP rfl rh rfl ?_
 refine xN ?_
 refine xT ⟨_,res_cell2 4 rfl rfl rfl rfl rfl,?_⟩
 exact ⟨rf,rb,rn,rw,_,rfl,rfl⟩
theorem tNew_ct {F:RL} (n:Nat) (hn:n<=32768):CS Tryz.prog 9 [.int .i64 (n:Nat)] F fun u L'=>∃ ro rf rb rt rn rw,u=.tuple #[ptr ro,.int .i64 0]/\TR ⟨rf,rb,rt,rn,rw,n,-1,0,m00⟩ ((ro,toRow rt)::F) [] ⟨m00,-1,0⟩ L':=by
 refine CS.mk (fn:=Tryz.f9) rfl rfl rfl rfl ?_
 repeat refine xQ ?_
 refine xG rfl ?_
 iterate 2 refine xP rfl rh rfl ?_
 refine xN ?_
 repeat refine xQ ?_
 refine xG rfl ?_
 refine xP rfl rh rfl ?_
 refine xA noGo rfl (fun _=>rfl) ((newPages_ct n hn).mono ?_)
 rintro u L' ⟨rf,rb,rn,rw,x,rfl,rfl⟩
 refine ⟨_,rfl,?_⟩
 iterate 3 refine xP rfl rh rfl ?_
 refine OS.fresh rfl (e_new (fun _=>rfl) rfl) (fun _=>rfl) (fun r4=>?_)
 refine OS.write rfl (e_store 0 rfl rfl rfl rfl rfl rfl rfl rfl) rfl ?_
 refine xP rfl rh rfl ?_
 refine xN ?_
 repeat refine xQ ?_
 refine xG rfl ?_
 iterate 2 refine xP rfl rh rfl ?_
 refine xN ?_
 repeat refine xQ ?_
 refine xC rfl (fun hc=>?_) (fun hc=>?_)
 ·cases hc
 refine LS.skip ?_
 repeat refine xQ ?_
 refine xG rfl ?_
 refine xP rfl rh rfl ?_
 refine OS.fresh rfl (e_new (fun _=>rfl) rfl) (fun _=>rfl) (fun r6=>?_)
 refine OS.write rfl (e_store 0 rfl rfl rfl rfl rfl rfl rfl rfl) rfl ?_
 refine xN ?_
 repeat refine xQ ?_
 refine xG rfl ?_
 refine xR rfl (e_load 1 rfl rfl rfl rfl rfl) rfl ?_
 refine xR rfl (e_load 0 rfl rfl rfl rfl rfl) rfl ?_
 refine xR rfl (e_load 0 rfl rfl rfl rfl rfl) rfl ?_
 refine xP rfl rh rfl ?_
 refine OS.fresh rfl (e_new (fun _=>rfl) rfl) (fun _=>rfl) (fun rt=>?_)
 refine xP rfl rh rfl ?_
 refine OS.fresh rfl (e_new (fun _=>rfl) rfl) (fun _=>rfl) (fun ro=>?_)
 iterate 2 refine xP rfl rh rfl ?_
 refine xN ?_
 refine LS.sub (Sub.sums2 ([(r6,.cells 89 [.int .i64 (-1),.int .i64 0]),(r4,.cells 85 [ptr rf,.map (some rn),.map (some rw)]),x]) (A:=HD rf rb rt rn rw (List.replicate n false) (-1) 0 (-1) 0 [] 0 [] 0 (((ro,toRow rt)::F)++[])) (B:=(ro,toRow rt)::(rt,trRow rf rn rw (-1) 0 (-1) 0)::(r6,.cells 89 [.int .i64 (-1),.int .i64 0])::(r4,.cells 85 [ptr rf,.map (some rn),.map (some rw)])::(rw,.map [] 0)::(rn,.map [] 0)::fm rf rb (List.replicate n false) (x::F)) fun f=>by simp [HD,fm]<;>omega) ?_
 refine xT ⟨_,fun _ _=>rfl,?_⟩
 exact ⟨ro,rf,rb,rt,rn,rw,rfl,_,_,_,_,_,by simp,rfl,pg_new hn⟩
theorem tGet_ct {c:Cfg} {G X:RL} {s:TSt} {L:RL} {ro:Nat} {key:Tx} {P:List Pr} (htr:TR c G X s L) (ho:(ro,toRow c.rt)∈L) (hg:GoodS s.m s.root P) (hcnt:s.cnt=P.length):CS Tryz.prog 20 [ptr ro,txt key] L fun u L'=>u=getV P key/\L'=L:=by
 refine CS.mk (fn:=Tryz.f20) rfl rfl rfl rfl ?_
 repeat refine xQ ?_
 refine xG rfl ?_
 iterate 2 refine xP rfl rh rfl ?_
 refine xN ?_
 repeat refine xQ ?_
 refine xG rfl ?_
 refine xP rfl rh rfl ?_
 refine xA noGo rfl (fun _=>rfl) ((tLen_ct htr ho).mono ?_)
 rintro u L' ⟨rfl,rfl⟩
 refine ⟨_,rfl,?_⟩
 rcases hg with ⟨_,_,rfl⟩ | ⟨H,t,hw,hok,hs,hkv⟩
 ·rw [hcnt]
  refine xP rfl rh rfl ?_
  refine xN ?_
  repeat refine xQ ?_
  refine xC rfl (fun hc=>?_) (fun hc=>?_)
  ·repeat refine xQ ?_
   refine xG rfl ?_
   iterate 2 refine xP rfl rh rfl ?_
   refine xN ?_
   refine xT ⟨_,fun _ _=>rfl,?_⟩
   exact ⟨rfl,rfl⟩
  ·cases hc
 ·have hne:=kvs_ne hok
  rw [hkv] at hne
  have hpos:0 < P.length:=List.length_pos_iff.2 hne
  have hb:ieqB s.cnt 0=false:=by rw [ieqB_eq]; simp; omega
  refine xP rfl (e_ib rh (hb)) rfl ?_
  refine xN ?_
  repeat refine xQ ?_
  refine xC rfl (fun hc=>?_) (fun hc=>?_)
  ·cases hc
  refine LS.skip ?_
  repeat refine xQ ?_
  refine xG rfl ?_
  iterate 3 refine xP rfl rh rfl ?_
  refine xR rfl (e_loadm ho rfl rfl rfl rfl) rfl ?_
  refine xP rfl rh rfl ?_
  refine xA noGo rfl (fun _=>rfl) ((get_tr htr hw hok hs).mono ?_)
  rintro u L' ⟨rfl,rfl⟩
  rw [hkv]
  refine ⟨_,rfl,?_⟩
  have hv:∃ a b,getV P key=.tuple #[a,b]:=by
   unfold getV
   split <;> exact ⟨_,_,rfl⟩
  obtain ⟨a,b,hab⟩:=hv
  rw [hab]
  iterate 4 refine xP rfl rh rfl ?_
  refine xN ?_
  refine xT ⟨_,fun _ _=>rfl,?_⟩
  exact ⟨rfl,rfl⟩
def mayP (key val:Tx):Prop:=1<=key.length/\key.length<=32/\val.length<=64
def PutR (c:Cfg) (G X:RL) (s:TSt) (L:RL) (key val:Tx) (P:List Pr) (u:Value) (L':RL):Prop :=
 (¬ mayP key val/\u=.int .i64 1/\L'=L)∨(mayP key val/\frM c.N s.m < 16/\u=.int .i64 3/\L'=L) ∨
 (mayP key val/\16<=frM c.N s.m/\u=.int .i64 0/\∃ X' m' root',(∀ q,q∈X->q∈X')/\TR c G X' ⟨m',root',((putP key val P).length:Nat)⟩ L'/\GoodS m' root' (putP key val P)/\Few c.N m' (putP key val P))
set_option maxHeartbeats 1000000 in
theorem tPut_ct {c:Cfg} {G X:RL} {s:TSt} {L:RL} {ro:Nat} {key val:Tx} {P:List Pr} (htr:TR c G X s L) (ho:(ro,toRow c.rt)∈L) (hg:GoodS s.m s.root P) (hcnt:s.cnt=P.length) (hP:P.length<=100000000) (hk:key.length<=9000000000000000) (hv:val.length<=9000000000000000) :
  CS Tryz.prog 14 [ptr ro,txt key,txt val] L (PutR c G X s L key val P):=by
 refine CS.mk (fn:=Tryz.f14) rfl rfl rfl rfl ?_
 repeat refine xQ ?_
 refine xG rfl ?_
 refine xP rfl rh rfl ?_
 refine xN ?_
 repeat refine xQ ?_
 refine LS.mid [0,1,2] (fun a' L'=>L'=L/\mayP key val/\16<=frM c.N s.m/\a'=[ptr ro,txt key,txt val,jn,jn,jn,jn,jn,jn,jn,jn,jn,jn,jn,jn,jn,jn,jn,jn,jn,jn,jn,jn,jn,jn,jn,jn,jn,jn,jn,jn,jn,jn,jn,jn]) ?_ ?_
 ·refine LS.block ?_
  repeat refine xQ ?_
  refine xG rfl ?_
  refine xP rfl rh rfl ?_
  refine xA noGo rfl (fun _=>rfl) ((tnone_ct ho).mono ?_)
  rintro u L' ⟨rfl,rfl⟩
  refine ⟨_,rfl,?_⟩
  refine xP rfl rh rfl ?_
  refine xN ?_
  repeat refine xQ ?_
  refine xC rfl (fun hc=>?_) (fun hc=>?_)
  ·cases hc
  by_cases h0:key.length=0
  ·have hb:ieqB ((key.length:Nat):Int) 0=true:=by rw [h0]; rfl
   repeat refine xQ ?_
   refine xG rfl ?_
   iterate 2 refine xP rfl rh rfl ?_
   refine xP rfl (e_ib rh (hb)) rfl ?_
   refine xP rfl rh rfl ?_
   iterate 3 refine xK rfl rfl ?_
   iterate 2 refine xP rfl rh rfl ?_
   iterate 3 refine xK rfl rfl ?_
   iterate 2 refine xP rfl rh rfl ?_
   refine xN ?_
   repeat refine xQ ?_
   refine xC rfl (fun hc=>?_) (fun hc=>?_)
   ·repeat refine xQ ?_
    refine xG rfl ?_
    refine xP rfl rh rfl ?_
    refine xN ?_
    refine xT ⟨_,fun _ _=>rfl,?_⟩
    exact .inl ⟨fun h=>by have:=h.1; omega,rfl,rfl⟩
   ·cases hc
  have hb:ieqB ((key.length:Nat):Int) 0=false:=by rw [ieqB_eq]; simp; intro hh; exact h0 (by rw [hh]; rfl)
  by_cases h1:32 < key.length
  ·have hb1:(!ileB ((key.length:Nat):Int) 32)=true:=by rw [ileB_eq,decide_eq_false (by omega)]; rfl
   repeat refine xQ ?_
   refine xG rfl ?_
   iterate 2 refine xP rfl rh rfl ?_
   refine xP rfl (e_ib rh (hb)) rfl ?_
   iterate 3 refine xP rfl rh rfl ?_
   refine xP rfl (e_ib rh (hb1)) rfl ?_
   iterate 2 refine xP rfl rh rfl ?_
   iterate 3 refine xK rfl rfl ?_
   iterate 2 refine xP rfl rh rfl ?_
   refine xN ?_
   repeat refine xQ ?_
   refine xC rfl (fun hc=>?_) (fun hc=>?_)
   ·repeat refine xQ ?_
    refine xG rfl ?_
    refine xP rfl rh rfl ?_
    refine xN ?_
    refine xT ⟨_,fun _ _=>rfl,?_⟩
    exact .inl ⟨fun h=>by have:=h.2.1; omega,rfl,rfl⟩
   ·cases hc
  have hb1:(!ileB ((key.length:Nat):Int) 32)=false:=by rw [ileB_eq,decide_eq_true (by omega)]; rfl
  by_cases h2:64 < val.length
  ·have hb2:(!ileB ((val.length:Nat):Int) 64)=true:=by rw [ileB_eq,decide_eq_false (by omega)]; rfl
   repeat refine xQ ?_
   refine xG rfl ?_
   iterate 2 refine xP rfl rh rfl ?_
   refine xP rfl (e_ib rh (hb)) rfl ?_
   iterate 3 refine xP rfl rh rfl ?_
   refine xP rfl (e_ib rh (hb1)) rfl ?_
   iterate 4 refine xP rfl rh rfl ?_
   refine xP rfl (e_ib rh (hb2)) rfl ?_
   iterate 2 refine xP rfl rh rfl ?_
   refine xN ?_
   repeat refine xQ ?_
   refine xC rfl (fun hc=>?_) (fun hc=>?_)
   ·repeat refine xQ ?_
    refine xG rfl ?_
    refine xP rfl rh rfl ?_
    refine xN ?_
    refine xT ⟨_,fun _ _=>rfl,?_⟩
    exact .inl ⟨fun h=>by have:=h.2.2; omega,rfl,rfl⟩
   ·cases hc
  have hb2:(!ileB ((val.length:Nat):Int) 64)=false:=by rw [ileB_eq,decide_eq_true (by omega)]; rfl
  have hmay:mayP key val:=⟨by omega,by omega,by omega⟩
  repeat refine xQ ?_
  refine xG rfl ?_
  iterate 2 refine xP rfl rh rfl ?_
  refine xP rfl (e_ib rh (hb)) rfl ?_
  iterate 3 refine xP rfl rh rfl ?_
  refine xP rfl (e_ib rh (hb1)) rfl ?_
  iterate 4 refine xP rfl rh rfl ?_
  refine xP rfl (e_ib rh (hb2)) rfl ?_
  iterate 2 refine xP rfl rh rfl ?_
  refine xN ?_
  repeat refine xQ ?_
  refine xC rfl (fun hc=>?_) (fun hc=>?_)
  ·cases hc
  repeat refine xQ ?_
  refine xG rfl ?_
  refine xP rfl rh rfl ?_
  refine xA noGo rfl (fun _=>rfl) ((tFree_ct htr ho).mono ?_)
  rintro u L' ⟨rfl,rfl⟩
  refine ⟨_,rfl,?_⟩
  by_cases h3:frM c.N s.m < 16
  ·have hb3:(!ileB 16 ((frM c.N s.m:Nat):Int))=true:=by rw [ileB_eq,decide_eq_false (by omega)]; rfl
   refine xP rfl (e_ib rh (hb3)) rfl ?_
   refine xP rfl rh rfl ?_
   refine xN ?_
   repeat refine xQ ?_
   refine xC rfl (fun hc=>?_) (fun hc=>?_)
   ·repeat refine xQ ?_
    refine xG rfl ?_
    refine xP rfl rh rfl ?_
    refine xN ?_
    refine xT ⟨_,fun _ _=>rfl,?_⟩
    exact .inr (.inl ⟨hmay,h3,rfl,rfl⟩)
   ·cases hc
  ·have hb3:(!ileB 16 ((frM c.N s.m:Nat):Int))=false:=by rw [ileB_eq,decide_eq_true (by omega)]; rfl
   refine xP rfl (e_ib rh (hb3)) rfl ?_
   refine xP rfl rh rfl ?_
   refine xN ?_
   repeat refine xQ ?_
   refine xC rfl (fun hc=>?_) (fun hc=>?_)
   ·cases hc
   refine LS.skip ?_
   exact ⟨rfl,hmay,by omega,rfl⟩
 rintro a' L1 ⟨rfl,hmay,hfr,rfl⟩
 repeat refine xQ ?_
 refine xG rfl ?_
 iterate 3 refine xP rfl rh rfl ?_
 refine xR rfl (e_loadm ho rfl rfl rfl rfl) rfl ?_
 iterate 2 refine xP rfl rh rfl ?_
 refine xA noGo rfl (fun _=>rfl) ((put_tr htr hg hcnt hfr hmay.1 hmay.2.1 hmay.2.2 hP).mono ?_)
 rintro u L' h
 refine ⟨_,rfl,?_⟩
 refine xN ?_
 repeat refine xQ ?_
 refine xG rfl ?_
 refine xP rfl rh rfl ?_
 refine xN ?_
 refine xT ⟨_,fun _ _=>rfl,?_⟩
 exact .inr (.inr ⟨hmay,hfr,rfl,h⟩)
def DelR (c:Cfg) (G X:RL) (s:TSt) (L:RL) (key:Tx) (P:List Pr) (u:Value) (L':RL):Prop :=
 (getP P key=none/\u=.int .i64 5/\L'=L)∨(getP P key≠none/\u=.int .i64 0/\∃ X' m' root',(∀ q,q∈X->q∈X')/\TR c G X' ⟨m',root',((delP key P).length:Nat)⟩ L'/\GoodS m' root' (delP key P)/\Few c.N m' (delP key P))
theorem tDel_ct {c:Cfg} {G X:RL} {s:TSt} {L:RL} {ro:Nat} {key:Tx} {P:List Pr} (htr:TR c G X s L) (ho:(ro,toRow c.rt)∈L) (hg:GoodS s.m s.root P) (hcnt:s.cnt=P.length) (hP:P.length<=100000000) :
  CS Tryz.prog 15 [ptr ro,txt key] L (DelR c G X s L key P):=by
 refine CS.mk (fn:=Tryz.f15) rfl rfl rfl rfl ?_
 repeat refine xQ ?_
 refine xG rfl ?_
 refine xP rfl rh rfl ?_
 refine xN ?_
 repeat refine xQ ?_
 refine xG rfl ?_
 refine xP rfl rh rfl ?_
 refine xA noGo rfl (fun _=>rfl) ((tnone_ct ho).mono ?_)
 rintro u L' ⟨rfl,rfl⟩
 refine ⟨_,rfl,?_⟩
 refine xN ?_
 repeat refine xQ ?_
 refine xC rfl (fun hc=>?_) (fun hc=>?_)
 ·cases hc
 refine LS.skip ?_
 repeat refine xQ ?_
 refine xG rfl ?_
 iterate 2 refine xP rfl rh rfl ?_
 refine xA noGo rfl (fun _=>rfl) ((tGet_ct htr ho hg hcnt).mono ?_)
 rintro u L' ⟨rfl,rfl⟩
 refine ⟨_,rfl,?_⟩
 cases hgk:getP P key with
 | none =>
  have hv:getV P key=.tuple #[txt [],.bool false]:=by unfold getV; rw [hgk]
  rw [hv]
  iterate 5 refine xP rfl rh rfl ?_
  refine xN ?_
  repeat refine xQ ?_
  refine xG rfl ?_
  iterate 2 refine xP rfl rh rfl ?_
  refine xN ?_
  repeat refine xQ ?_
  refine xC rfl (fun hc=>?_) (fun hc=>?_)
  ·repeat refine xQ ?_
   refine xG rfl ?_
   refine xP rfl rh rfl ?_
   refine xN ?_
   refine xT ⟨_,fun _ _=>rfl,?_⟩
   exact .inl ⟨hgk,rfl,rfl⟩
  ·cases hc
 | some v =>
  have hv:getV P key=.tuple #[txt v,.bool true]:=by unfold getV; rw [hgk]
  rw [hv]
  iterate 5 refine xP rfl rh rfl ?_
  refine xN ?_
  repeat refine xQ ?_
  refine xG rfl ?_
  iterate 2 refine xP rfl rh rfl ?_
  refine xN ?_
  repeat refine xQ ?_
  refine xC rfl (fun hc=>?_) (fun hc=>?_)
  ·cases hc
  refine LS.skip ?_
  repeat refine xQ ?_
  refine xG rfl ?_
  iterate 3 refine xP rfl rh rfl ?_
  refine xR rfl (e_loadm ho rfl rfl rfl rfl) rfl ?_
  refine xP rfl rh rfl ?_
  refine xA noGo rfl (fun _=>rfl) ((del_tr htr hg hcnt hP (by rw [hgk]; simp)).mono ?_)
  rintro u L' h
  refine ⟨_,rfl,?_⟩
  refine xN ?_
  repeat refine xQ ?_
  refine xG rfl ?_
  refine xP rfl rh rfl ?_
  refine xN ?_
  refine xT ⟨_,fun _ _=>rfl,?_⟩
  exact .inr ⟨by rw [hgk]; simp,rfl,h⟩
end Go.Proofs.YtlmmddfhoabjfaaGreat
end
section
namespace Go.Proofs.YtlmmddfhoabjfaaGreat
open Go.Am
def kk {h:Nat} (ts:List (Tr h)):List Pr:=(ts.map fun t=>kvs (sq h t)).flatten
end Go.Proofs.YtlmmddfhoabjfaaGreat
end
section
namespace Go.Proofs.YtlmmddfhoabjfaaGreat
open Go.Am
theorem frM_00 {N:Nat}:frM N m00=N:=by
 have:=frees_sum (N:=N) (m:=m00)
 have h0:((List.range N).filter fun i=>(m00 i).isSome)=[]:=List.filter_eq_nil_iff.2 fun i _=>fun h=>by cases h
 rw [h0] at this
 simpa using this
end Go.Proofs.YtlmmddfhoabjfaaGreat
end
section
namespace Go.Proofs.YtlmmddfhoabjfaaGreat
open Go.Am
section
variable {k v k':Tx} {P:List Pr}
theorem getP_filter {f:Pr->Bool} (h:∀ p:Pr,p.1=k'->f p=true):getP (P.filter f) k'=getP P k':=by
 unfold getP
 congr 1
 induction P with
 | nil=>rfl
 | cons p P ih =>
  by_cases hp:p.1=k'
  ·rw [List.filter_cons_of_pos (h p hp),List.find?_cons_of_pos (by simp [hp]),List.find?_cons_of_pos (by simp [hp])]
  ·cases hf:f p with
   | true=>rw [List.filter_cons_of_pos hf,List.find?_cons_of_neg (by simp [hp]),List.find?_cons_of_neg (by simp [hp]),ih]
   | false=>rw [List.filter_cons_of_neg (by simp [hf]),List.find?_cons_of_neg (by simp [hp]),ih]
theorem getP_filter_no {f:Pr->Bool} (h:∀ p:Pr,p.1=k'->f p=false):getP (P.filter f) k'=none:=by
 unfold getP
 rw [List.find?_eq_none.2 fun p hp=>?_]
 ·rfl
 ·have:=(List.mem_filter.1 hp).2
  simp only [decide_eq_true_eq]
  intro he
  rw [h p he] at this
  cases this
theorem getP_app {A B:List Pr}:getP (A++B) k'=match getP A k' with | some x=>some x | none=>getP B k':=by
 unfold getP
 rw [List.find?_append]
 cases List.find? (fun p=>decide (p.1=k')) A <;> rfl
theorem getP_putP:getP (putP k v P) k'=if k'=k then some v else getP P k':=by
 unfold putP
 rw [getP_app]
 by_cases h:k'=k
 ·rw [if_pos h]
  subst h
  rw [getP_filter_no (fun p hp=>by rw [hp]; exact lt_irr _)]
  simp [getP]
 ·rw [if_neg h]
  have e:getP ((k,v)::P.filter fun p=>bytesLt k p.1) k'=getP (P.filter fun p=>bytesLt k p.1) k':=by
   unfold getP
   rw [List.find?_cons_of_neg (by simpa using fun hh=>h hh.symm)]
  rw [e]
  rcases lt_total (x:=k') (y:=k) with hl | hl | hl
  ·rw [getP_filter (fun p hp=>by rw [hp]; exact hl),getP_filter_no (fun p hp=>by rw [hp]; exact lt_asym hl)]
   cases getP P k' <;> rfl
  ·exact absurd hl h
  ·rw [getP_filter_no (fun p hp=>by rw [hp]; exact lt_asym hl),getP_filter (fun p hp=>by rw [hp]; exact hl)]
theorem getP_delP:getP (delP k P) k'=if k'=k then none else getP P k':=by
 unfold delP
 by_cases h:k'=k
 ·rw [if_pos h]
  exact getP_filter_no fun p hp=>by simp [hp,h]
 ·rw [if_neg h]
  exact getP_filter fun p hp=>by simp [hp,h]
theorem putP_len:(putP k v P).length<=P.length+1:=by
 have:(P.filter fun p=>bytesLt p.1 k).length+(P.filter fun p=>bytesLt k p.1).length<=P.length:=by
  induction P with
  | nil=>simp
  | cons p P ih =>
   rw [List.filter_cons,List.filter_cons]
   cases h1:bytesLt p.1 k with
   | true =>
    rw [lt_asym h1]
    simp; omega
   | false =>
    cases h2:bytesLt k p.1 <;> simp <;> omega
 unfold putP
 rw [List.length_append,List.length_cons]
 exact Nat.succ_le_succ this
theorem delP_len:(delP k P).length<=P.length:=List.length_filter_le ..
theorem mem_getP {p:Pr} (h:p∈P):getP P p.1≠none:=fun hn=>by
 unfold getP at hn
 rw [Option.map_eq_none_iff,List.find?_eq_none] at hn
 exact hn p h (by simp)
theorem delP_none (h:getP P k=none):delP k P=P:=List.filter_eq_self.2 fun p hp=>by
 by_cases he:p.1=k
 ·subst he; exact absurd h (mem_getP hp)
 ·simp [he]
end
end Go.Proofs.YtlmmddfhoabjfaaGreat
end
