/- What the proofs lean on, part 4. -/
import Derived.Test.YtlmmddfhoabjfaaGreatS3
set_option linter.unusedVariables false
set_option maxRecDepth 20000
section
namespace Go.Am
theorem count_sum [BEq (Nat × ARow)] [LawfulBEq (Nat × ARow)] (x:Nat × ARow):∀ l:RL,l.count x=(l.map fun y=>if y == x then 1 else 0).sum
 | []=>rfl
 | y::l=>by rw [List.count_cons,count_sum x l,List.map_cons,List.sum_cons]; omega
theorem Sub.sums2 (D:RL) {A B:RL} (h:∀ f:Nat × ARow->Nat,(B.map f).sum=(A.map f).sum+(D.map f).sum):Sub A B:=by
 classical
 refine ⟨D,?_⟩
 letI:BEq (Nat × ARow):=⟨fun a b=>decide (a=b)⟩
 haveI:LawfulBEq (Nat × ARow):={ eq_of_beq:=fun h=>of_decide_eq_true h,rfl:=decide_eq_true rfl }
 rw [List.perm_iff_count]
 intro x
 rw [List.count_append,count_sum,count_sum,count_sum]
 exact h _
theorem Sub.sums {A B:RL} (h:∀ f:Nat × ARow->Nat,(B.map f).sum=(A.map f).sum):Sub A B:=Sub.sums2 [] fun f=>by rw [h f]; simp
section
variable {P:Program} {o:Oper} {a:Slots} {L:RL}
theorem e_appendGA (X F:RL) {c:Call} {e:TypeId} {sz bts n m:Nat} {Y:RL} {v x:Value} {cs new:List Value} (g:GV e sz [] v n cs Y) (hs:SV sz (X++(Y++F)) x m new) (hone:allOne new=true) (ho:o.op=.call c) (hT:appT P c=some (e,sz,bts)) (ha:evs a c.args.toList=some [v,x])
  (hsm:(n+m) * bts<=1000000000000) (hsm2:n+m<=1000000000000) :
  ∀ h,Has h (X++(Y++F))->∃ u h₁ L₁,opB P a o h=some (.val u h₁)/\Has h₁ L₁/\∃ Y',GV e sz [] u (n+m) (cs++new) Y'/\L₁=Y'++(X++F):=by
 intro h H
 rcases Nat.eq_zero_or_pos m with rfl | hm
 ·have hnew:new=[]:=by have:=hs.len; simpa using this
  subst hnew
  rcases g with ⟨rfl,rfl,rfl,rfl⟩ | ⟨r,rfl,hl,rfl⟩
  ·refine ⟨.slice none 0 0,h,X++F,?_,by simpa using H,[],.inl ⟨rfl,rfl,rfl,rfl⟩,rfl⟩
   have hn:=hs.lenB
   have hf:=hs.first H
   have hone':(allOne ([]:List Value) && (notText x || Nat.beq sz 1))=true:=by rw [hone,hs.notText]; rfl
   unfold appT at hT
   split at hT
   case h_2=>cases hT
   rename_i hcal
   split at hT
   case h_2=>cases hT
   rename_i st xt hst hxt
   split at hT
   case h_2=>cases hT
   rename_i e' xd hu1 hu2
   have hxd:(∀ k,xd=.int k->False)/\∃ i,P.info? e'=some i/\i.size=sz:=by
    split at hT
    ·cases hT
    ·rename_i hno
     split at hT
     case h_2=>cases hT
     rename_i i hi hz
     simp at hT
     obtain ⟨rfl,rfl,rfl⟩:=hT
     exact ⟨fun k hk=>hno k hk,i,hi,rfl⟩
   obtain ⟨hno,i,hi,rfl⟩:=hxd
   have b1:Nat.beq 0 openCap=false:=beq_false (by decide)
   have b2:Nat.ble (0+0) 0=true:=rfl
   simp only [opB,ho,ha,callOpB,hcal,appendB,hst,hxt,hu1,hu2]
   cases xd <;> first | exact (hno _ rfl).elim | skip
   all_goals simp only [hi,hn,hf,hone',b1,b2,beq_true rfl,ret2]
  ·have hX:(X++(r,.cells e cs)::F)[X.length]?=some (r,.cells e cs):=by simp
   have hd:∀ (X:RL),dropL (X++(r,.cells e cs)::F) X.length=some (X++F):=by
    intro X
    induction X with
    | nil=>rfl
    | cons y X ih=>simp only [List.cons_append,List.length_cons,dropL,ih]
   obtain ⟨r',h₁,e₁,H₁⟩:=e_appendSV X.length hs hone ho hT ha hsm hsm2 hX (cut_all hl) (hd X) h H
   exact ⟨_,h₁,_,e₁,H₁,[(r',.cells e (cs++[]))],GV.of (by simpa using hl),rfl⟩
 ·obtain ⟨r',h₁,e₁,H₁⟩:=e_appendGV X (GV.appendR F g) (by simpa using hs) hm hone ho hT ha hsm hsm2 h (by simpa using H)
  have hl:(cs++new).length=(n+m) * sz:=by
   have h1:new.length=m * sz:=hs.len
   have h2:cs.length=n * sz:=g.sv.len
   rw [List.length_append,h1,h2,Nat.add_mul]
  exact ⟨_,h₁,_,e₁,H₁,[(r',.cells e (cs++new))],GV.of hl,rfl⟩
end
end Go.Am
namespace Go.Proofs.YtlmmddfhoabjfaaGreat
open Go.Am
def bits (N:Nat) (m:Mem):List Bool:=(List.range N).map fun i=>(m i).isSome
theorem bits_len {N:Nat} {m:Mem}:(bits N m).length=N:=by simp [bits]
theorem bits_tkn {N i:Nat} {m:Mem} (h:i < N):tkn (bits N m) i=(m i).isSome:=by simp [tkn,bits,h]
def frM (N:Nat) (m:Mem):Nat:=frees (bits N m)
theorem bits_of {T:List Bool} {m:Mem} (h:∀ i,i < T.length->tkn T i=(m i).isSome):T=bits T.length m:=by
 apply List.ext_getElem (by rw [bits_len])
 intro i h1 h2
 have:=h i h1
 unfold tkn at this
 rw [List.getElem?_eq_getElem h1] at this
 simp only [Option.getD_some] at this
 simp [bits,this]
theorem bits_upd {N k:Nat} {m:Mem} {o:Option Nd}:bits N (updM m k o)=(bits N m).set k o.isSome:=by
 apply List.ext_getElem (by simp [bits])
 intro i h1 h2
 rw [List.getElem_set]
 simp only [bits,List.getElem_map,List.getElem_range,updM]
 by_cases h:i=k
 ·subst h; simp
 ·rw [if_neg h,if_neg (fun hh=>h hh.symm)]
theorem frM_upd {N k:Nat} {m:Mem} {o:Option Nd} (h:k < N):frM N (updM m k o)+(if o.isSome then 1 else 0)=frM N m+(if (m k).isSome then 1 else 0):=by
 unfold frM
 rw [bits_upd]
 have:=frees_set (T:=bits N m) (j:=k) (b:=o.isSome) (by rw [bits_len]; exact h)
 rw [bits_tkn h] at this
 exact this
structure Cfg where
 rf:Nat
 rb:Nat
 rt:Nat
 rn:Nat
 rw:Nat
 N:Nat
 root0:Int
 cnt0:Int
 m0:Mem
structure TSt where
 m:Mem
 root:Int
 cnt:Int
def TR (c:Cfg) (G X:RL) (s:TSt) (L:RL):Prop:=∃ T es ck ws wk,T.length=c.N/\L=HD c.rf c.rb c.rt c.rn c.rw T s.root s.cnt c.root0 c.cnt0 es ck ws wk (G++X)/\Pg X T es ck ws wk s.m c.m0
theorem Pg.frees {X:RL} {T:List Bool} {es ws:List MapEntry} {ck wk:Nat} {m m0:Mem} (h:Pg X T es ck ws wk m m0):frees T=frM T.length m:=by
 unfold frM
 rw [← bits_of fun i hi=>h.tk i hi (by simp)]
theorem TR.mem {c:Cfg} {G X:RL} {s:TSt} {L:RL} (h:TR c G X s L):∀ p,p∈X->p∈L:=by
 obtain ⟨T,es,ck,ws,wk,hN,rfl,hp⟩:=h
 exact fun p hp=>by simp [hp]
theorem TR.memG {c:Cfg} {G X:RL} {s:TSt} {L:RL} (h:TR c G X s L):∀ p,p∈G->p∈L:=by
 obtain ⟨T,es,ck,ws,wk,hN,rfl,hp⟩:=h
 exact fun p hp=>by simp [hp]
theorem TR.dom {c:Cfg} {G X:RL} {s:TSt} {L:RL} (h:TR c G X s L):∀ i,s.m i≠none->i < c.N:=by
 obtain ⟨T,es,ck,ws,wk,hN,rfl,hp⟩:=h
 rw [← hN]; exact hp.dom
theorem TR.N {c:Cfg} {G X:RL} {s:TSt} {L:RL} (h:TR c G X s L):c.N<=32768:=by
 obtain ⟨T,es,ck,ws,wk,hN,rfl,hp⟩:=h
 rw [← hN]; exact hp.N
theorem TR.sm {c:Cfg} {G X:RL} {s:TSt} {L:RL} (h:TR c G X s L):∀ i n,s.m i=some n->Sm n:=by
 obtain ⟨T,es,ck,ws,wk,hN,rfl,hp⟩:=h
 exact hp.sm
theorem TR.push {c:Cfg} {G X:RL} {s:TSt} {L:RL} (x:Nat × ARow) (h:TR c G X s L):∃ L',TR c (x::G) X s L'/\Sub L' (x::L):=by
 obtain ⟨T,es,ck,ws,wk,hN,rfl,hp⟩:=h
 exact ⟨_,⟨T,es,ck,ws,wk,hN,rfl,hp⟩,Sub.inQ⟩
theorem Sub.outQ {a b c d e x:Nat × ARow} {Z:RL}:Sub (x::a::b::c::d::e::Z) (a::b::c::d::e::x::Z):=⟨[],by
 have:=List.perm_middle (a:=x) (l₁:=[a,b,c,d,e]) (l₂:=Z)
 simpa using this⟩
theorem TR.pop {c:Cfg} {G X:RL} {s:TSt} {L:RL} {x:Nat × ARow} (h:TR c (x::G) X s L):∃ L',TR c G X s L'/\Sub L' L:=by
 obtain ⟨T,es,ck,ws,wk,hN,rfl,hp⟩:=h
 exact ⟨_,⟨T,es,ck,ws,wk,hN,rfl,hp⟩,Sub.trans Sub.tail Sub.outQ⟩
theorem lay_tr {c:Cfg} {G X:RL} {s:TSt} {L:RL} {no:Nat} {v:Value} {o:Option Nd} (h:TR c G X s L) (hno:no < c.N) (hv:PRep X v o) (so:∀ n,o=some n->Sm n) :
  CS Tryz.prog 60 [ptr c.rt,.int .i64 (no:Nat),v] L fun u L'=>TR c G X ⟨updM s.m no o,s.root,s.cnt⟩ L':=by
 obtain ⟨T,es,ck,ws,wk,hN,rfl,hp⟩:=h
 refine (lay_ct (G:=G) hp (fun i hi=>by simp at hi) (by rw [hN]; exact hno) hv so).mono ?_
 rintro u L' ⟨T',es',ck',ws',wk',hl,_,rfl,hp'⟩
 exact ⟨T',es',ck',ws',wk',by rw [hl,hN],rfl,hp'⟩
theorem add_tr {c:Cfg} {G X:RL} {s:TSt} {L:RL} {n:Nd} {v1 v2 v3:Value} (h:TR c G X s L) (hf:0 < frM c.N s.m) (hP:PN X n v1 v2 v3) (hs:Sm n) :
  CS Tryz.prog 61 [ptr c.rt,ndV n.leaf v1 v2 v3] L fun u L'=>∃ no x,no < c.N/\s.m no=none/\u=.int .i64 (no:Nat)/\TR c G (x::X) ⟨updM s.m no (some n),s.root,s.cnt⟩ L':=by
 obtain ⟨T,es,ck,ws,wk,hN,rfl,hp⟩:=h
 rw [← hN,← hp.frees] at hf
 refine (add_ct (G:=G) hp hf hP hs).mono ?_
 rintro u L' ⟨no,T',es',ck',ws',wk',x,h1,h2,h3,h4,_,rfl,hp'⟩
 exact ⟨no,x,by rw [← hN]; exact h1,h2,h3,T',es',ck',ws',wk',by rw [h4,hN],rfl,hp'⟩
end Go.Proofs.YtlmmddfhoabjfaaGreat
end
section
namespace Go.Proofs.YtlmmddfhoabjfaaGreat
open Go.Am
theorem e_storeS {P:Program} {o:Oper} {a:Slots} {L L₁:RL} (i:Nat) {t:TypeId} {x y:Operand} {r off:Nat} {e:TypeId} {cs cs':List Value} {v:Value} (hs:IsSl v) (ho:o.op=.store t x y) (hx:aev a x=some (.pointer (some ⟨r,off,none⟩))) (hy:aev a y=some v) (hL:L[i]?=some (r,.cells e cs)) (hn:sizeB P t=some 1)
  (hlay:lay cs off [v]=some cs') (hset:setL L i (r,.cells e cs')=some L₁):∀ h,Has h L->∃ h₁,opB P a o h=some (.val undef h₁)/\Has h₁ L₁:=by
 refine e_store i ho hx hy hL hn ?_ ?_ hset
 ·rcases hs with rfl | ⟨r1,o1,n1,c1,rfl⟩ <;> rfl
 ·rcases hs with rfl | ⟨r1,o1,n1,c1,rfl⟩ <;> exact hlay
abbrev zRow:ARow:=ndRow false (.slice none 0 0) (.slice none 0 0) (.slice none 0 0)
theorem tx_app (a b:List Tx):tx (a++b)=tx a++tx b:=by simp [tx]
theorem nums_app (a b:List Int):nums (a++b)=nums a++nums b:=by simp [nums]
set_option maxHeartbeats 2000000 in
theorem joined_ct {X L:RL} {r1 r2:Nat} {l r:Nd} {key:Tx} (hX:∀ p,p∈X->p∈L) (hA:NodeAt X r1 l) (hB:NodeAt X r2 r) (sA:Sm l) (sB:Sm r) :
  CS Tryz.prog 155 [ptr r1,txt key,ptr r2] L fun u L'=>∃ w1 w2 w3 Y1 Y2 Y3,u=ndV l.leaf w1 w2 w3/\L'=Y3++(Y2++(Y1++L))/\GV 9 1 [] w1 (joinN l key r).ks.length (tx (joinN l key r).ks) Y1/\GV 9 1 [] w2 (joinN l key r).vs.length (tx (joinN l key r).vs) Y2/\GV 3 1 [] w3 (joinN l key r).kids.length (nums (joinN l key r).kids) Y3:=by
 suffices g:CS Tryz.prog 155 [ptr r1,txt key,ptr r2] L fun u L'=>∃ x y w1 w2 w3 Y1 Y2 Y3,u=ndV l.leaf w1 w2 w3/\L'=x::y::(Y3++(Y2++(Y1++L)))/\GV 9 1 [] w1 (joinN l key r).ks.length (tx (joinN l key r).ks) Y1/\GV 9 1 [] w2 (joinN l key r).vs.length (tx (joinN l key r).vs) Y2/\GV 3 1 [] w3 (joinN l key r).kids.length (nums (joinN l key r).kids) Y3 by
  exact g.less fun u L' ⟨x,y,w1,w2,w3,Y1,Y2,Y3,h1,h2,h3⟩=>⟨_,by rw [h2]; exact Sub.suffix (X:=[x,y]),w1,w2,w3,Y1,Y2,Y3,h1,rfl,h3⟩
 have e1:=sA.k; have e2:=sA.v; have e3:=sA.z
 have f1:=sB.k; have f2:=sB.v; have f3:=sB.z
 obtain ⟨v1,v2,v3,hr,hP⟩:=hB
 have NB:=hP.nv sB hX
 have m2:=hX _ hr
 refine CS.mk (fn:=Tryz.f155) rfl rfl rfl rfl ?_
 repeat refine xQ ?_
 refine xG rfl ?_
 refine OS.fresh rfl (e_new (fun _=>rfl) rfl) (fun _=>rfl) (fun r6=>?_)
 refine xN ?_
 have m2a:=List.mem_cons_of_mem (r6,zRow) m2
 repeat refine xQ ?_
 refine xG rfl ?_
 refine xP rfl rh rfl ?_
 refine xA noGo rfl (fun _=>rfl) ((copied_ct (X:=X) (fun p hp=>List.mem_cons_of_mem _ (hX p hp)) hA sA).mono ?_)
 rintro u L' ⟨w1,w2,w3,Y1,Y2,Y3,rfl,rfl,g1,g2,g3⟩
 refine ⟨_,rfl,?_⟩
 refine OS.fresh rfl (e_new (fun _=>rfl) rfl) (fun _=>rfl) (fun r7=>?_)
 have s1:=isSl g1.sv
 have s2:=isSl g2.sv
 have s3:=isSl g3.sv
 refine OS.write rfl (e_store 0 (n:=4) rfl rfl rfl rfl rfl (nd_one s1 s2 s3) rfl rfl) rfl ?_
 refine OS.sub (Sub.sums (A:=(r7,ndRow l.leaf w1 w2 w3)::(r6,zRow)::(Y1++(Y2++(Y3++L)))) (B:=(r7,ndRow l.leaf w1 w2 w3)::(Y3++(Y2++(Y1++(r6,zRow)::L)))) fun f=>by simp [HD,fm]<;>omega) ?_
 refine xN ?_
 repeat refine xQ ?_
 refine xG rfl ?_
 refine xP rfl rh rfl ?_
 refine xR rfl (e_load 0 rfl rfl rfl rfl rfl) rfl ?_
 refine xP rfl rh rfl ?_
 refine xN ?_
 repeat refine xQ ?_
 refine LS.mid [0,1,2,6,7] (fun a L'=>∃ w1 Y1,GV 9 1 [] w1 (if l.leaf then l.ks else l.ks++[key]).length (tx (if l.leaf then l.ks else l.ks++[key])) Y1/\L'=(r7,ndRow l.leaf w1 w2 w3)::(r6,zRow)::(Y1++(Y2++(Y3++L)))/\a=[ptr r1,txt key,ptr r2,jn,jn,jn,ptr r6,ptr r7,jn,jn,jn,jn,jn,jn,jn,jn,jn,jn,jn,jn,jn,jn,jn,jn,jn,jn,jn,jn,jn,jn,jn,jn,jn,jn,jn,jn,jn,jn,jn,jn,jn,jn,jn,jn]) ?_ ?_
 ·cases hl:l.leaf with
  | true =>
   refine xC rfl (fun hc=>by cases hc) (fun hc=>?_)
   refine LS.skip ?_
   exact ⟨w1,Y1,by rw [if_pos rfl]; exact g1,rfl,rfl⟩
  | false =>
   refine xC rfl (fun hc=>?_) (fun hc=>by cases hc)
   repeat refine xQ ?_
   refine xG rfl ?_
   refine xP rfl rh rfl ?_
   refine xR rfl (e_load 0 rfl rfl rfl rfl rfl) rfl ?_
   refine xP rfl rh rfl ?_
   refine OS.fresh rfl (e_new (fun _=>rfl) rfl) (fun _=>rfl) (fun rk=>?_)
   refine OS.turns rfl (e_appendGA [_,_,_] (Y2++(Y3++L)) (e:=9) (sz:=1) (bts:=16) (m:=1) (new:=tx [key]) g1 (SV.row (sz:=1) (n:=1) (List.mem_cons_self ..) rfl) rfl rfl rfl rfl (by omega) (by omega)) (fun u L₁ hR=>?_)
   obtain ⟨Y',g',rfl⟩:=hR
   refine ⟨_,rfl,?_⟩
   refine xP rfl rh rfl ?_
   refine OS.sub (Sub.sums2 ([(rk,.cells 9 [txt key])]) (A:=(r7,ndRow false w1 w2 w3)::(r6,zRow)::(Y'++(Y2++(Y3++L)))) (B:=Y'++((rk,.cells 9 [txt key])::(r7,ndRow false w1 w2 w3)::(r6,zRow)::(Y2++(Y3++L)))) fun f=>by simp [HD,fm]<;>omega) ?_
   refine OS.write rfl (e_storeS 0 (isSl g'.sv) rfl rfl rfl rfl rfl rfl rfl) rfl ?_
   refine xN ?_
   exact ⟨u,Y',by rw [if_neg (by decide),tx_app,List.length_append]; exact g',rfl,rfl⟩
 clear s1 g1
 rintro a L' ⟨w1,Y1,g1,rfl,rfl⟩
 have hK:(joinN l key r).ks=(if l.leaf then l.ks else l.ks++[key])++r.ks:=rfl
 have hV:(joinN l key r).vs=l.vs++r.vs:=rfl
 have hZ:(joinN l key r).kids=l.kids++r.kids:=rfl
 have hlen:(if l.leaf then l.ks else l.ks++[key]).length<=2001:=by split <;> (try simp only [List.length_append,List.length_cons,List.length_nil]) <;> omega
 generalize (if l.leaf then l.ks else l.ks++[key])=K1 at g1 hK hlen ⊢
 have hm:∀ (A:RL) (p:Nat × ARow),p∈L->p∈(r7,ndRow l.leaf w1 w2 w3)::(r6,zRow)::(Y1++(Y2++(Y3++L))):=fun A p hp=>by simp [hp]
 repeat refine xQ ?_
 refine LS.drawn noGo mixed [(0,false),(1,false),(2,false),(3,false),(4,false),(5,false),(6,true),(7,false),(8,true)] rfl rfl (by kernel_rfl) ?_
 refine xD rfl rfl rh rfl ?_
 refine xE rfl rfl (e_load 0 rfl rfl rfl rfl rfl) rfl ?_
 iterate 3 refine xD rfl rfl rh rfl ?_
 refine xE rfl rfl (e_loadm (hm [] _ m2) rfl rfl rfl rfl) rfl ?_
 refine ODS.turns rfl rfl (e_appendGA [_,_] (Y2++(Y3++L)) (e:=9) (sz:=1) (bts:=16) g1 (NB.k.mono (hm [])) (tx_one _) rfl rfl rfl (by omega) (by omega)) (fun u1 L₁ hR=>?_)
 obtain ⟨Y1',g1',rfl⟩:=hR
 refine ⟨_,rfl,(by repeat (first | exact Keep.nil | refine Keep.gone rfl ?_)),?_⟩
 refine ODS.sub (Sub.sums (A:=(r7,ndRow l.leaf w1 w2 w3)::(r6,zRow)::(Y2++(Y1'++(Y3++L)))) (B:=Y1'++((r7,ndRow l.leaf w1 w2 w3)::(r6,zRow)::(Y2++(Y3++L)))) fun f=>by simp [HD,fm]<;>omega) ?_
 refine xD rfl rfl rh rfl ?_
 refine ODS.write rfl rfl (e_storeS 0 (isSl g1'.sv) rfl rfl rfl rfl rfl rfl rfl) rfl (by repeat (first | exact Keep.nil | refine Keep.gone rfl ?_)) ?_
 refine xM ?_
 have hm2:∀ p,p∈L->p∈(r7,ndRow l.leaf u1 w2 w3)::(r6,zRow)::(Y2++(Y1'++(Y3++L))):=fun p hp=>by simp [hp]
 repeat refine xQ ?_
 refine LS.drawn noGo mixed [(0,false),(1,false),(2,false),(3,false),(4,false),(5,false),(6,true),(7,false),(8,true)] rfl rfl (by kernel_rfl) ?_
 refine xD rfl rfl rh rfl ?_
 refine xE rfl rfl (e_load 0 rfl rfl rfl rfl rfl) rfl ?_
 iterate 3 refine xD rfl rfl rh rfl ?_
 refine xE rfl rfl (e_loadm (hm2 _ m2) rfl rfl rfl rfl) rfl ?_
 refine ODS.turns rfl rfl (e_appendGA [_,_] (Y1'++(Y3++L)) (e:=9) (sz:=1) (bts:=16) g2 (NB.v.mono hm2) (tx_one _) rfl rfl rfl (by omega) (by omega)) (fun u2 L₁ hR=>?_)
 obtain ⟨Y2',g2',rfl⟩:=hR
 refine ⟨_,rfl,(by repeat (first | exact Keep.nil | refine Keep.gone rfl ?_)),?_⟩
 refine ODS.sub (Sub.sums (A:=(r7,ndRow l.leaf u1 w2 w3)::(r6,zRow)::(Y3++(Y2'++(Y1'++L)))) (B:=Y2'++((r7,ndRow l.leaf u1 w2 w3)::(r6,zRow)::(Y1'++(Y3++L)))) fun f=>by simp [HD,fm]<;>omega) ?_
 refine xD rfl rfl rh rfl ?_
 refine ODS.write rfl rfl (e_storeS 0 (isSl g2'.sv) rfl rfl rfl rfl rfl rfl rfl) rfl (by repeat (first | exact Keep.nil | refine Keep.gone rfl ?_)) ?_
 refine xM ?_
 have hm3:∀ p,p∈L->p∈(r7,ndRow l.leaf u1 u2 w3)::(r6,zRow)::(Y3++(Y2'++(Y1'++L))):=fun p hp=>by simp [hp]
 repeat refine xQ ?_
 refine LS.drawn noGo mixed [(0,false),(1,false),(2,false),(3,false),(4,false),(5,false),(6,true),(7,false),(8,true)] rfl rfl (by kernel_rfl) ?_
 refine xD rfl rfl rh rfl ?_
 refine xE rfl rfl (e_load 0 rfl rfl rfl rfl rfl) rfl ?_
 iterate 3 refine xD rfl rfl rh rfl ?_
 refine xE rfl rfl (e_loadm (hm3 _ m2) rfl rfl rfl rfl) rfl ?_
 refine ODS.turns rfl rfl (e_appendGA [_,_] (Y2'++(Y1'++L)) (e:=3) (sz:=1) (bts:=8) g3 (NB.z.mono hm3) (nums_one _) rfl rfl rfl (by omega) (by omega)) (fun u3 L₁ hR=>?_)
 obtain ⟨Y3',g3',rfl⟩:=hR
 refine ⟨_,rfl,(by repeat (first | exact Keep.nil | refine Keep.gone rfl ?_)),?_⟩
 refine ODS.sub (Sub.sums (A:=(r7,ndRow l.leaf u1 u2 w3)::(r6,zRow)::(Y3'++(Y2'++(Y1'++L)))) (B:=Y3'++((r7,ndRow l.leaf u1 u2 w3)::(r6,zRow)::(Y2'++(Y1'++L)))) fun f=>by simp [HD,fm]<;>omega) ?_
 refine xD rfl rfl rh rfl ?_
 refine ODS.write rfl rfl (e_storeS 0 (isSl g3'.sv) rfl rfl rfl rfl rfl rfl rfl) rfl (by repeat (first | exact Keep.nil | refine Keep.gone rfl ?_)) ?_
 refine xM ?_
 repeat refine xQ ?_
 refine xG rfl ?_
 refine xR rfl (e_load 0 rfl rfl rfl rfl rfl) rfl ?_
 refine OS.write rfl (e_store 1 (n:=4) rfl rfl rfl rfl rfl (nd_one (isSl g1'.sv) (isSl g2'.sv) (isSl g3'.sv)) rfl rfl) rfl ?_
 refine xN ?_
 refine xT ⟨_,res_cell (x:=6) 1 rfl rfl rfl rfl,?_⟩
 exact ⟨_,_,u1,u2,u3,Y1',Y2',Y3',rfl,rfl,by rw [hK,tx_app,List.length_append]; exact g1',by rw [hV,tx_app,List.length_append]; exact g2',by rw [hZ,nums_app,List.length_append]; exact g3'⟩
end Go.Proofs.YtlmmddfhoabjfaaGreat
end
section
namespace Go.Am
section
variable {P:Program} {o:Oper} {a:Slots} {L:RL}
theorem e_max {c:Call} {k:IntKind} {x y:Int} (ho:o.op=.call c) (hc:c.callee=.builtin .max) (ha:evs a c.args.toList=some [.int k x,.int k y]):∀ h,opB P a o h=some (.val (.int k (max x y)) h):=by
 intro h
 by_cases hxy:y<=x
 ·have:ileB y x=true:=ileB_iff.2 hxy
  simp only [opB,ho,ha,callOpB,hc,minB,if_true,this,ret]
  rw [show max x y=x by omega]
 ·have:ileB y x=false:=by rw [ileB_eq]; simpa using hxy
  simp only [opB,ho,ha,callOpB,hc,minB,if_true,this,ret]
  rw [show max x y=y by omega]
theorem ODS.nodup {ops:List Oper} {ms:List Nat} {sched:List (Nat × Bool)} {dn:Dn} {K:Slots->RL->Prop} (k:(L.map (·.1)).Nodup->ODS P ops ms K sched dn a L):ODS P ops ms K sched dn a L:=fun h H=>k H.nd h H
theorem LS.nodup {rd:Option Nat} {c:Code} {R:AExit->Slots->RL->Prop} (k:(L.map (·.1)).Nodup->LSr rd P c a L R):LSr rd P c a L R:=fun h H=>k H.nd h H
end
end Go.Am
namespace Go.Proofs.YtlmmddfhoabjfaaGreat
open Go.Am
theorem row_one {L:RL} (hn:(L.map (·.1)).Nodup) {r:Nat} {x y:ARow} (hx:(r,x)∈L) (hy:(r,y)∈L):x=y:=by
 have:=inj_map hn hx hy rfl
 exact (Prod.mk.inj this).2
theorem isEmpty_ct {X L:RL} {r:Nat} {n:Nd} (hX:∀ p,p∈X->p∈L) (hN:NodeAt X r n) (hs:Sm n) :
  CS Tryz.prog 132 [ptr r] L fun u L'=>u=.bool (decide (n.vs=[]/\n.kids=[]))/\L'=L:=by
 obtain ⟨v1,v2,v3,hr,hP⟩:=hN
 have N1:=hP.nv hs hX
 have m1:=hX _ hr
 refine CS.mk (fn:=Tryz.f132) rfl rfl rfl rfl ?_
 repeat refine xQ ?_
 refine xG rfl ?_
 refine xP rfl rh rfl ?_
 refine xN ?_
 repeat refine xQ ?_
 refine xG rfl ?_
 iterate 3 refine xP rfl rh rfl ?_
 refine xR rfl (e_loadm m1 rfl rfl rfl rfl) rfl ?_
 refine xP rfl (e_len N1.v rfl rfl rfl rfl rfl) rfl ?_
 refine xP rfl (e_ib rh ((ieqN (m:=n.vs.length) (n:=0)))) rfl ?_
 by_cases h1:n.vs.length=0
 ·rw [decide_eq_true h1]
  iterate 4 refine xP rfl rh rfl ?_
  refine xR rfl (e_loadm m1 rfl rfl rfl rfl) rfl ?_
  refine xP rfl (e_len N1.z rfl rfl rfl rfl rfl) rfl ?_
  refine xP rfl (e_ib rh ((ieqN (m:=n.kids.length) (n:=0)))) rfl ?_
  iterate 2 refine xP rfl rh rfl ?_
  refine xN ?_
  refine xT ⟨_,fun _ _=>rfl,?_⟩
  have h2:n.vs=[]:=List.eq_nil_of_length_eq_zero h1
  exact ⟨congrArg Value.bool (by simp [h2]),rfl⟩
 ·rw [decide_eq_false h1]
  refine xP rfl rh rfl ?_
  iterate 6 refine xK rfl rfl ?_
  iterate 2 refine xP rfl rh rfl ?_
  refine xN ?_
  refine xT ⟨_,fun _ _=>rfl,?_⟩
  have h2:n.vs≠[]:=fun hh=>h1 (by rw [hh]; rfl)
  exact ⟨congrArg Value.bool (by simp [h2]),rfl⟩
def dropN (n:Nd) (i:Nat):Nd:=⟨n.leaf,n.ks.eraseIdx (i - 1),n.vs,n.kids.eraseIdx i⟩
theorem dropKid_ct {F Y1 Y3:RL} {rc i:Nat} {lf:Bool} {w1 w2 w3:Value} {ks:List Tx} {kids:List Int} (s2:IsSl w2) (g1:GV 9 1 [] w1 ks.length (tx ks) Y1) (g3:GV 3 1 [] w3 kids.length (nums kids) Y3) (hi:i < kids.length) (hk:ks=[]∨i - 1 < ks.length) (n1:ks.length<=100000) (n3:kids.length<=100000) :
  CS Tryz.prog 141 [ptr rc,.int .i64 (i:Nat)] ((rc,ndRow lf w1 w2 w3)::(Y1++(Y3++F))) fun _ L'=>∃ w1' w3' Y1' Y3',L'=(rc,ndRow lf w1' w2 w3')::(Y1'++(Y3'++F))/\OL 9 1 w1' (ks.eraseIdx (i - 1)).length (tx (ks.eraseIdx (i - 1))) Y1'/\OL 3 1 w3' (kids.eraseIdx i).length (nums (kids.eraseIdx i)) Y3':=by
 have er3:(nums kids).eraseIdx i=nums (kids.eraseIdx i):=erase_map
 have er1:(tx ks).eraseIdx (i - 1)=tx (ks.eraseIdx (i - 1)):=erase_map
 refine CS.mk (fn:=Tryz.f141) rfl rfl rfl rfl ?_
 repeat refine xQ ?_
 refine xG rfl ?_
 iterate 4 refine xP rfl rh rfl ?_
 refine xR rfl (e_load 0 rfl rfl rfl rfl rfl) rfl ?_
 iterate 2 refine xP rfl rh rfl ?_
 refine xP rfl (e_addN (n:=1) rfl rfl rfl (in_i64 (by omega) (by omega))) rfl ?_
 refine OS.sub (Sub.sums (A:=Y3++((rc,ndRow lf w1 w2 w3)::(Y1++F))) (B:=(rc,ndRow lf w1 w2 w3)::(Y1++(Y3++F))) fun f=>by simp [HD,fm]<;>omega) ?_
 refine xA noGo rfl (fun _=>rfl) ((DeleteZ_ct g3 hi (by omega) (nums_one _)).mono ?_)
 rintro u3 L' ⟨Y3',rfl,o3⟩
 refine ⟨_,rfl,?_⟩
 refine OS.sub (Sub.sums (A:=(rc,ndRow lf w1 w2 w3)::(Y1++(Y3'++F))) (B:=Y3'++((rc,ndRow lf w1 w2 w3)::(Y1++F))) fun f=>by simp [HD,fm]<;>omega) ?_
 have o3':OL 3 1 u3 (kids.eraseIdx i).length (nums (kids.eraseIdx i)) Y3':=by
  rw [List.length_eraseIdx,if_pos hi,← er3]
  exact o3.ol
 iterate 2 refine xP rfl rh rfl ?_
 refine OS.write rfl (e_storeS 0 (isSl o3'.sv) rfl rfl rfl rfl rfl rfl rfl) rfl ?_
 refine xN ?_
 repeat refine xQ ?_
 refine xG rfl ?_
 iterate 3 refine xP rfl rh rfl ?_
 refine xR rfl (e_load 0 rfl rfl rfl rfl rfl) rfl ?_
 refine xP rfl (e_len g1.sv rfl rfl rfl rfl rfl) rfl ?_
 rcases Nat.eq_zero_or_pos ks.length with h0 | h0
 ·have hb:(!ileB (ks.length:Nat) 0)=false:=by rw [h0]; rfl
  refine xP rfl (e_ib rh (hb)) rfl ?_
  refine xN ?_
  repeat refine xQ ?_
  refine xC rfl (fun hc=>?_) (fun hc=>?_)
  ·cases hc
  refine LS.skip ?_
  have h1:ks=[]:=List.eq_nil_of_length_eq_zero h0
  subst h1
  exact ⟨_,fun _ _=>rfl,w1,u3,Y1,Y3',rfl,g1.ol (by decide),o3'⟩
 ·have hb:(!ileB (ks.length:Nat) 0)=true:=by rw [ileB_eq,decide_eq_false (by omega)]; rfl
  have hi1:i - 1 < ks.length:=by
   rcases hk with h | h
   ·rw [h] at h0; simp at h0
   ·exact h
  refine xP rfl (e_ib rh (hb)) rfl ?_
  refine xN ?_
  repeat refine xQ ?_
  refine xC rfl (fun hc=>?_) (fun hc=>?_)
  ·repeat refine xQ ?_
   refine xG rfl ?_
   refine xP rfl rh rfl ?_
   refine xP rfl (e_sub (n:=1) rfl rfl rfl (in_i64 (by omega) (by omega))) rfl ?_
   refine xP rfl (e_is (e_max rfl rfl rfl) (congrArg (Value.int .i64) (show max ((i:Nat) - 1:Int) 0=((i - 1:Nat):Int) by omega))) rfl ?_
   refine xP rfl rh rfl ?_
   refine xN ?_
   repeat refine xQ ?_
   refine xG rfl ?_
   iterate 4 refine xP rfl rh rfl ?_
   refine xR rfl (e_load 0 rfl rfl rfl rfl rfl) rfl ?_
   iterate 2 refine xP rfl rh rfl ?_
   refine xP rfl (e_addN (n:=1) rfl rfl rfl (in_i64 (by omega) (by omega))) rfl ?_
   refine OS.sub (Sub.sums (A:=Y1++((rc,ndRow lf w1 w2 u3)::(Y3'++F))) (B:=(rc,ndRow lf w1 w2 u3)::(Y1++(Y3'++F))) fun f=>by simp [HD,fm]<;>omega) ?_
   refine xA noGo rfl (fun _=>rfl) ((DeleteS_ct g1 hi1 (by omega) (tx_one _)).mono ?_)
   rintro u1 L' ⟨Y1',rfl,o1⟩
   refine ⟨_,rfl,?_⟩
   refine OS.sub (Sub.sums (A:=(rc,ndRow lf w1 w2 u3)::(Y1'++(Y3'++F))) (B:=Y1'++((rc,ndRow lf w1 w2 u3)::(Y3'++F))) fun f=>by simp [HD,fm]<;>omega) ?_
   have o1':OL 9 1 u1 (ks.eraseIdx (i - 1)).length (tx (ks.eraseIdx (i - 1))) Y1':=by
    rw [List.length_eraseIdx,if_pos hi1,← er1]
    exact o1.ol
   iterate 2 refine xP rfl rh rfl ?_
   refine OS.write rfl (e_storeS 0 (isSl o1'.sv) rfl rfl rfl rfl rfl rfl rfl) rfl ?_
   refine xN ?_
   exact ⟨_,fun _ _=>rfl,u1,u3,Y1',Y3',rfl,o1',o3'⟩
  ·cases hc
abbrev iRow (z:Int):ARow:=.cells 3 [.int .i64 z]
def Chn (c:Cfg) (G X:RL) (root cnt cnt':Int) (f:Nat) (caps:List Value) (n n':Nd):Prop :=
 ∀ rc w1 w2 w3 Y1 Y2 Y3 T es ck ws wk,GV 9 1 [] w1 n.ks.length (tx n.ks) Y1->GV 9 1 [] w2 n.vs.length (tx n.vs) Y2->GV 3 1 [] w3 n.kids.length (nums n.kids) Y3 →
  CS Tryz.prog f (ptr rc::caps) ((rc,ndRow n.leaf w1 w2 w3)::HD c.rf c.rb c.rt c.rn c.rw T root cnt c.root0 c.cnt0 es ck ws wk (Y3++(Y2++(Y1++(G++X))))) fun _ L'=>∃ w1' w2' w3' Z,L'=(rc,ndRow n'.leaf w1' w2' w3')::HD c.rf c.rb c.rt c.rn c.rw T root cnt' c.root0 c.cnt0 es ck ws wk (Z++(G++X))/\PN Z n' w1' w2' w3'
theorem change_tr {c:Cfg} {G X:RL} {s:TSt} {L:RL} {no f:Nat} {caps:List Value} {n n':Nd} {cnt':Int} (h:TR c G X s L) (hm:s.m no=some n) (hs':Sm n') (hf:Chn c G X s.root s.cnt cnt' f caps n n') :
  CS Tryz.prog 64 [ptr c.rt,.int .i64 (no:Nat),.func (.func f) #[] caps.toArray] L fun u L'=>∃ X',(∀ p,p∈X->p∈X')/\TR c G X' ⟨updM s.m no (some n'),s.root,cnt'⟩ L':=by
 obtain ⟨T,es,ck,ws,wk,hN,rfl,hp⟩:=h
 refine (change_ct (G:=G) (cnt':=cnt') hp hm hs' fun rc w1 w2 w3 Y1 Y2 Y3 g1 g2 g3=>hf rc w1 w2 w3 Y1 Y2 Y3 T es ck ws wk g1 g2 g3).mono ?_
 rintro u L' ⟨T',es',ck',ws',wk',X',hX,hl,_,rfl,hp'⟩
 exact ⟨X',hX,T',es',ck',ws',wk',by rw [hl,hN],rfl,hp'⟩
theorem drop_chn {c:Cfg} {G X:RL} {root cnt:Int} {r5 i:Nat} {n:Nd} (hG:(r5,iRow (i:Nat))∈G) (hs:Sm n) (hi:i < n.kids.length) (hk:n.ks=[]∨i - 1 < n.ks.length):Chn c G X root cnt cnt 140 [ptr r5] n (dropN n i):=by
 intro rc w1 w2 w3 Y1 Y2 Y3 T es ck ws wk g1 g2 g3
 have e1:=hs.k; have e2:=hs.v; have e3:=hs.z
 obtain ⟨lf,ks,vs,kids⟩:=n
 simp only at g1 g2 g3 hi hk e1 e2 e3 ⊢
 refine CS.mk (fn:=Tryz.f140) rfl rfl rfl rfl ?_
 repeat refine xQ ?_
 refine xG rfl ?_
 refine xP rfl rh rfl ?_
 refine xR rfl (e_loadm (r:=r5) (row:=iRow (i:Nat)) (by simp [hG]) rfl rfl rfl rfl) rfl ?_
 refine OS.sub (Sub.sums (A:=(rc,ndRow lf w1 w2 w3)::(Y1++(Y3++HD c.rf c.rb c.rt c.rn c.rw T root cnt c.root0 c.cnt0 es ck ws wk (Y2++(G++X))))) (B:=(rc,ndRow lf w1 w2 w3)::HD c.rf c.rb c.rt c.rn c.rw T root cnt c.root0 c.cnt0 es ck ws wk (Y3++(Y2++(Y1++(G++X))))) fun f=>by simp [HD,fm]<;>omega) ?_
 refine xA noGo rfl (fun _=>rfl) ((dropKid_ct (isSl g2.sv) g1 g3 hi hk (by omega) (by omega)).mono ?_)
 rintro u L' ⟨w1',w3',Y1',Y3',rfl,o1,o3⟩
 refine ⟨_,rfl,?_⟩
 refine OS.sub (Sub.sums (A:=(rc,ndRow lf w1' w2 w3')::HD c.rf c.rb c.rt c.rn c.rw T root cnt c.root0 c.cnt0 es ck ws wk ((Y3'++(Y2++Y1'))++(G++X))) (B:=(rc,ndRow lf w1' w2 w3')::(Y1'++(Y3'++HD c.rf c.rb c.rt c.rn c.rw T root cnt c.root0 c.cnt0 es ck ws wk (Y2++(G++X))))) fun f=>by simp [HD,fm]<;>omega) ?_
 refine xN ?_
 exact ⟨_,fun _ _=>rfl,w1',w2,w3',Y3'++(Y2++Y1'),rfl,⟨o1.pl.mono (fun p hp=>by simp [hp]),(g2.ol (show vs.length<=openCap by unfold openCap; omega)).pl.mono (fun p hp=>by simp [hp]),o3.pl.mono (fun p hp=>by simp [hp])⟩⟩
theorem drop1_chn {c:Cfg} {G X:RL} {root cnt:Int} {r5 i:Nat} {n:Nd} (hG:(r5,iRow (i:Nat))∈G) (hs:Sm n) (hi:i+1 < n.kids.length) (hk:i < n.ks.length):Chn c G X root cnt cnt 157 [ptr r5] n (dropN n (i+1)):=by
 intro rc w1 w2 w3 Y1 Y2 Y3 T es ck ws wk g1 g2 g3
 have e1:=hs.k; have e2:=hs.v; have e3:=hs.z
 obtain ⟨lf,ks,vs,kids⟩:=n
 simp only at g1 g2 g3 hi hk e1 e2 e3 ⊢
 refine CS.mk (fn:=Tryz.f157) rfl rfl rfl rfl ?_
 repeat refine xQ ?_
 refine xG rfl ?_
 refine xP rfl rh rfl ?_
 refine xR rfl (e_loadm (r:=r5) (row:=iRow (i:Nat)) (by simp [hG]) rfl rfl rfl rfl) rfl ?_
 refine xP rfl (e_addN (n:=1) rfl rfl rfl (in_i64 (by omega) (by omega))) rfl ?_
 refine OS.sub (Sub.sums (A:=(rc,ndRow lf w1 w2 w3)::(Y1++(Y3++HD c.rf c.rb c.rt c.rn c.rw T root cnt c.root0 c.cnt0 es ck ws wk (Y2++(G++X))))) (B:=(rc,ndRow lf w1 w2 w3)::HD c.rf c.rb c.rt c.rn c.rw T root cnt c.root0 c.cnt0 es ck ws wk (Y3++(Y2++(Y1++(G++X))))) fun f=>by simp [HD,fm]<;>omega) ?_
 refine xA noGo rfl (fun _=>rfl) ((dropKid_ct (isSl g2.sv) g1 g3 hi (.inr (by omega)) (by omega) (by omega)).mono ?_)
 rintro u L' ⟨w1',w3',Y1',Y3',rfl,o1,o3⟩
 refine ⟨_,rfl,?_⟩
 refine OS.sub (Sub.sums (A:=(rc,ndRow lf w1' w2 w3')::HD c.rf c.rb c.rt c.rn c.rw T root cnt c.root0 c.cnt0 es ck ws wk ((Y3'++(Y2++Y1'))++(G++X))) (B:=(rc,ndRow lf w1' w2 w3')::(Y1'++(Y3'++HD c.rf c.rb c.rt c.rn c.rw T root cnt c.root0 c.cnt0 es ck ws wk (Y2++(G++X))))) fun f=>by simp [HD,fm]<;>omega) ?_
 refine xN ?_
 exact ⟨_,fun _ _=>rfl,w1',w2,w3',Y3'++(Y2++Y1'),rfl,⟨o1.pl.mono (fun p hp=>by simp [hp]),(g2.ol (show vs.length<=openCap by unfold openCap; omega)).pl.mono (fun p hp=>by simp [hp]),o3.pl.mono (fun p hp=>by simp [hp])⟩⟩
end Go.Proofs.YtlmmddfhoabjfaaGreat
end
section
namespace Go.Am
section
variable {P:Program} {ops:List Oper} {ms:List Nat} {K:Slots->RL->Prop} {n:Nat} {pre:List Nat} {dn:Dn} {a a₁:Slots} {L L₁:RL} {o:Oper} {v:Value} {x y:Operand}
theorem OGS.at1 {t e:TypeId} {i:Operand} {m j:Nat} {k:IntKind} {u:Value} {cs:List Value} (q:Nat) (hn:nextB ops ms pre q=true) (hs:SV 1 L v m cs) (hu:cs[j]?=some u) (hq:ops[q]?=some o) (hw:wantedB ops o a=true) (ho:o.op=.indexAddr t x i) (hx:aev a x=some v) (hi:aev a i=some (.int k (j:Int)))
  (ht:P.underlying t=some (.slice e)) (hz:sizeB P e=some 1) (hk:∀ r off row cs₀,(r,row)∈L->rdRow row=some cs₀->cs₀[off]?=some u →
   ∃ a₁,putAt a o.dst (.pointer (some ⟨r,off,none⟩))=some a₁/\OGS P ops ms K n (q::pre) dn a₁ L):OGS P ops ms K (n+1) pre dn a L:=by
 obtain ⟨r,off,row,cs₀,h1,h2,h3,h4,h5⟩:=e_at hs (by have:=(List.getElem?_eq_some_iff.1 hu).1; have:=hs.len; omega) ho hx hi ht hz
 obtain ⟨a₁,ep,k'⟩:=hk r off row cs₀ h1 h2 (h3 0 u (by omega) (by rw [Nat.mul_one]; exact hu))
 exact OGS.pure q hn hq hw h5 ep k'
end
end Go.Am
namespace Go.Proofs.YtlmmddfhoabjfaaGreat
open Go.Am
def NJ {h:Nat} (ks:List Tx) (ts:List (Tr h)) (i:Int):Prop:=∀ A k B L a b R,ks=A++k::B->ts=L++a::b::R->A.length=L.length->(L.length:Int)=i->fitsN (joinN (nd h a) k (nd h b))=false
theorem NJ.neg {h:Nat} {ks:List Tx} {ts:List (Tr h)} {i:Int} (hi:i < 0):NJ ks ts i:=fun A k B L a b R _ _ _ h4=>by omega
theorem NJ.far {h:Nat} {ks:List Tx} {ts:List (Tr h)} {i:Int} (hi:(ts.length:Int)<=i+1):NJ ks ts i:=fun A k B L a b R _ h2 _ h4=>by
 rw [h2] at hi
 simp only [List.length_append,List.length_cons] at hi
 omega
theorem NJ.at {h:Nat} {A B:List Tx} {k:Tx} {L R:List (Tr h)} {a b:Tr h} (hl:A.length=L.length) (hf:fitsN (joinN (nd h a) k (nd h b))=false):NJ (A++k::B) (L++a::b::R) (L.length:Nat):=fun A' k' B' L' a' b' R' h1 h2 h3 h4=>by
 have e1:L.length=L'.length:=by omega
 obtain ⟨e2,e3⟩:=List.append_inj h2 e1
 obtain ⟨e4,e5⟩:=List.append_inj h1 (by omega)
 simp only [List.cons.injEq] at e3 e5
 obtain ⟨rfl,rfl,rfl⟩:=e3
 obtain ⟨rfl,rfl⟩:=e5
 exact hf
theorem NJ.get {h:Nat} {A B:List Tx} {k:Tx} {L R:List (Tr h)} {a b:Tr h} {i:Int} (hj:NJ (A++k::B) (L++a::b::R) i) (hl:A.length=L.length) (hi:(L.length:Int)=i):fitsN (joinN (nd h a) k (nd h b))=false:=hj A k B L a b R rfl rfl hl hi
def Tdy:(h:Nat)->Tr h->Prop
 | 0,_=>True
 | h+1,t=>(∀ i,NJ (Inn.ks t) (Inn.ts t) i)/\∀ s∈Inn.ts t,Tdy h s
theorem tdy_inn {h p:Nat} {ks:List Tx} {ts:List (Tr h)}:Tdy (h+1) (inn p ks ts)↔(∀ i,NJ ks ts i)/\∀ s∈ts,Tdy h s:=Iff.rfl
theorem split2 {h:Nat} {ks:List Tx} {ts:List (Tr h)} {j:Nat} (hl:ts.length=ks.length+1) (hj:j+1 < ts.length):∃ A k B L a b R,ks=A++k::B/\ts=L++a::b::R/\A.length=j/\L.length=j:=by
 refine ⟨ks.take j,ks[j]'(by omega),ks.drop (j+1),ts.take j,ts[j]'(by omega),ts[j+1]'(by omega),ts.drop (j+2),?_,?_,by simp; omega,by simp; omega⟩
 ·simp
 ·simp
theorem split1 {h:Nat} {ks:List Tx} {ts:List (Tr h)} {j:Nat} (hl:ts.length=ks.length+1) (hj:j < ts.length):∃ A B L a R,ks=A++B/\ts=L++a::R/\A.length=j/\L.length=j :=
 ⟨ks.take j,ks.drop j,ts.take j,ts[j]'(by omega),ts.drop (j+1),by simp,by simp,by simp; omega,by simp; omega⟩
structure Loc (m:Mem) {h:Nat} (p:Nat) (ks:List Tx) (ts:List (Tr h)):Prop where
 rep:RepT m (h+1) (inn p ks ts)
 nod:(pgs (h+1) (inn p ks ts)).Nodup
 ok:∀ s∈ts,Okt h s
 len:Bg ⟨false,ks,[],nos ts⟩∨(ks=[]/\ts=[])
theorem Loc.top {m:Mem} {h p:Nat} {ks:List Tx} {ts:List (Tr h)} (l:Loc m p ks ts):m p=some ⟨false,ks,[],nos ts⟩:=l.rep.top
theorem Loc.bg {m:Mem} {h p:Nat} {ks:List Tx} {ts:List (Tr h)} (l:Loc m p ks ts) (ht:ts≠[]):Bg ⟨false,ks,[],nos ts⟩:=by
 rcases l.len with h1 | h1
 ·exact h1
 ·exact absurd h1.2 ht
theorem bg_len {h:Nat} {ks:List Tx} {ts:List (Tr h)} (hb:Bg ⟨false,ks,[],nos ts⟩):ts.length=ks.length+1:=by
 have:=(may_kids hb.may rfl).1
 simpa [nos] using this
theorem Loc.kid {m:Mem} {h p:Nat} {ks:List Tx} {ts:List (Tr h)} (l:Loc m p ks ts) {s:Tr h} (hs:s∈ts):m (no h s)=some (nd h s):=((rep_inn.1 l.rep).2 s hs).top
theorem join_Less {h p:Nat} {A B:List Tx} {k:Tx} {L R:List (Tr h)} {a b w:Tr h} (hl:A.length=L.length) (hw:no h w=no h a):Less ⟨false,A++k::B,[],nos (L++a::b::R)⟩ ⟨false,A++B,[],nos (L++w::R)⟩:=by
 have h1:=without_Less (n:=⟨false,A++k::B,[],nos (L++a::b::R)⟩) (i:=A.length) (by simp)
 have h2:withoutN ⟨false,A++k::B,[],nos (L++a::b::R)⟩ A.length=⟨false,A++B,[],nos (L++w::R)⟩:=by
  have e1:(A++k::B).eraseIdx A.length=A++B:=by
   rw [List.eraseIdx_append_of_length_le (Nat.le_refl _)]; simp
  have e2:(nos (L++a::b::R)).eraseIdx (A.length+1)=nos (L++w::R):=by
   simp only [nos,List.map_append,List.map_cons]
   rw [List.eraseIdx_append_of_length_le (by simp; omega),hl]
   simp [hw]
  unfold withoutN
  simp only [e1,e2,List.eraseIdx_nil]
 rw [h2] at h1
 exact h1
theorem join_drop {h:Nat} {A B:List Tx} {k:Tx} {L R:List (Tr h)} {a b:Tr h} (hl:A.length=L.length):dropN ⟨false,A++k::B,[],nos (L++a::b::R)⟩ (L.length+1)=⟨false,A++B,[],nos (L++a::R)⟩:=by
 have e1:(A++k::B).eraseIdx L.length=A++B:=by
  rw [← hl,List.eraseIdx_append_of_length_le (Nat.le_refl _)]; simp
 have e2:(nos (L++a::b::R)).eraseIdx (L.length+1)=nos (L++a::R):=by
  simp only [nos,List.map_append,List.map_cons]
  rw [List.eraseIdx_append_of_length_le (by simp)]
  simp
 unfold dropN
 simp only [Nat.add_sub_cancel,e1,e2]
theorem sm_join {l r:Nd} {k:Tx} (hl:fitsN l=true) (hr:fitsN r=true) (hk:k.length<=32):Sm (joinN l k r):=by
 have sl:=fits_sm hl; have sr:=fits_sm hr
 have kl:=keys_256 hl; have kr:=keys_256 hr
 have h1:∀ {n:Nd},fitsN n=true->n.vs.length<=256/\n.kids.length<=257:=fun {n} h=>by
  have hk:=keys_256 h
  cases hf:n.leaf with
  | true=>obtain ⟨g1,g2,_⟩:=may_vs (fits_may h) hf; exact ⟨by omega,by rw [g2]; simp⟩
  | false=>obtain ⟨g1,g2,_⟩:=may_kids (fits_may h) hf; exact ⟨by rw [g2]; simp,by omega⟩
 obtain ⟨v1,z1⟩:=h1 hl
 obtain ⟨v2,z2⟩:=h1 hr
 have hks:(joinN l k r).ks=(if l.leaf then l.ks else l.ks++[k])++r.ks:=rfl
 refine ⟨?_,?_,?_,fun x hx=>?_,fun x hx=>?_⟩
 ·rw [hks]
  split <;> simp only [List.length_append,List.length_cons,List.length_nil] <;> omega
 ·show (l.vs++r.vs).length<=_; rw [List.length_append]; omega
 ·show (l.kids++r.kids).length<=_; rw [List.length_append]; omega
 ·rw [hks] at hx
  rcases List.mem_append.1 hx with hx | hx
  ·split at hx
   ·exact sl.kl x hx
   ·rcases List.mem_append.1 hx with hx | hx
    ·exact sl.kl x hx
    ·simp only [List.mem_singleton] at hx; subst hx; omega
  ·exact sr.kl x hx
 ·rcases List.mem_append.1 hx with hx | hx
  ·exact sl.vl x hx
  ·exact sr.vl x hx
def JPost (c:Cfg) (G X:RL) (s:TSt) {h:Nat} (p:Nat) (ks:List Tx) (ts:List (Tr h)) (i:Int) (u:Value) (L':RL):Prop :=
 (u=.bool false/\TR c G X s L'/\NJ ks ts i) ∨
 (u=.bool true/\∃ X' m' A k B L a b R w,ks=A++k::B/\ts=L++a::b::R/\A.length=L.length/\(L.length:Int)=i/\(∀ p,p∈X->p∈X')/\TR c G X' ⟨m',s.root,s.cnt⟩ L'/\Via s.m m' (inn p ks ts) (inn p (A++B) (L++w::R))/\no h w=no h a/\Okt h w/\frM c.N s.m<=frM c.N m'/\(Tdy h a->Tdy h b->Tdy h w))
theorem JPost.pop {c:Cfg} {G X:RL} {s:TSt} {h p:Nat} {ks:List Tx} {ts:List (Tr h)} {i:Int} {u:Value} {L':RL} {x:Nat × ARow} (j:JPost c (x::G) X s p ks ts i u L'):∃ L'',Sub L'' L'/\JPost c G X s p ks ts i u L'':=by
 rcases j with ⟨h1,h2,h3⟩ | ⟨h1,X',m',A,k,B,L,a,b,R,w,g1,g2,g3,g4,g5,g6,g7⟩
 ·obtain ⟨L'',h4,h5⟩:=h2.pop
  exact ⟨L'',h5,.inl ⟨h1,h4,h3⟩⟩
 ·obtain ⟨L'',h4,h5⟩:=g6.pop
  exact ⟨L'',h5,.inr ⟨h1,X',m',A,k,B,L,a,b,R,w,g1,g2,g3,g4,g5,h4,g7⟩⟩
def JoinP (h:Nat):Prop:=∀ (c:Cfg) (G X:RL) (s:TSt) (L:RL) (p:Nat) (ks:List Tx) (ts:List (Tr h)) (i:Int),TR c G X s L->Loc s.m p ks ts->-10<=i->i<=100000 →
 CS Tryz.prog 131 [ptr c.rt,.int .i64 (p:Nat),.int .i64 i] L fun u L'=>JPost c G X s p ks ts i u L'
def SeamP (h:Nat):Prop:=∀ (c:Cfg) (G X:RL) (s:TSt) (L:RL) (a b:Tr h) (k:Tx),TR c G X s L->RepT s.m h (mrg h a k b)->(pgs h (mrg h a k b)).Nodup->Okt h (mrg h a k b)->Okt h a->Okt h b →
 CS Tryz.prog 101 [ptr c.rt,.int .i64 (no h a:Nat),.int .i64 (((nd h a).kids.length:Nat) - 1:Int)] L fun _ L'=>∃ X' m' u',(∀ p,p∈X->p∈X')/\TR c G X' ⟨m',s.root,s.cnt⟩ L'/\Via s.m m' (mrg h a k b) u'/\Okt h u'/\frM c.N s.m<=frM c.N m'/\(Tdy h a->Tdy h b->Tdy h u')
theorem nos_at {h:Nat} {L R:List (Tr h)} {a:Tr h}:(nums (nos (L++a::R)))[L.length]?=some (.int .i64 ((no h a:Nat):Int)):=by simp [nums,nos]
end Go.Proofs.YtlmmddfhoabjfaaGreat
end
section
namespace Go.Proofs.YtlmmddfhoabjfaaGreat
open Go.Am
theorem ok_mrg:∀ {h:Nat} {a b:Tr h} {k:Tx},Okt h a->Okt h b->fitsN (joinN (nd h a) k (nd h b))=true->Okt h (mrg h a k b)
 | 0,a,b,k,ha,hb,hf=>by
  obtain ⟨p,ks,vs,rfl⟩:=lf_eta a
  obtain ⟨p',ks',vs',rfl⟩:=lf_eta b
  refine ⟨by rw [nd_mrg]; exact hf,?_⟩
  show ks++ks'≠[]
  have:=(ok_lf.1 ha).2
  simp [this]
 | h+1,a,b,k,ha,hb,hf=>by
  obtain ⟨p,ks,ts,rfl⟩:=inn_eta a
  obtain ⟨p',ks',ts',rfl⟩:=inn_eta b
  refine ⟨by rw [nd_mrg]; exact hf,fun s hs=>?_⟩
  have hs':s∈ts++ts':=hs
  rcases List.mem_append.1 hs' with h1 | h1
  ·exact ha.kid s h1
  ·exact hb.kid s h1
theorem nos_at2 {h:Nat} {L R:List (Tr h)} {a b:Tr h}:(nums (nos (L++a::b::R)))[L.length+1]?=some (.int .i64 ((no h b:Nat):Int)):=by simp [nums,nos]
theorem tx_mid {A B:List Tx} {k:Tx} {j:Nat} (h:A.length=j):(tx (A++k::B))[j]?=some (txt k):=by subst h; simp [tx]
theorem frM_join {N:Nat} {m:Mem} {pa pb p:Nat} {na nb np x y:Nd} (h1:m pa=some na) (h2:m pb=some nb) (h3:m p=some np) (hab:pa≠pb) (hap:p≠pa) (hbp:p≠pb) (d1:pa < N) (d2:pb < N) (d3:p < N) :
  frM N m<=frM N (updM (updM (updM m pa (some x)) pb none) p (some y)):=by
 have e1:=frM_upd (m:=m) (o:=some x) d1
 have e2:=frM_upd (m:=updM m pa (some x)) (o:=none) d2
 have e3:=frM_upd (m:=updM (updM m pa (some x)) pb none) (o:=some y) d3
 have g2:updM m pa (some x) pb=some nb:=by unfold updM; rw [if_neg (fun h=>hab h.symm),h2]
 have g3:updM (updM m pa (some x)) pb none p=some np:=by unfold updM; rw [if_neg hbp,if_neg hap,h3]
 rw [h1] at e1
 rw [g2] at e2
 rw [g3] at e3
 simp at e1 e2 e3
 omega
theorem TR.now {c:Cfg} {G X:RL} {s:TSt} {L:RL} (h:TR c G X s L):∃ T es ck ws wk g,L=HD c.rf c.rb c.rt c.rn c.rw T s.root s.cnt c.root0 c.cnt0 es ck ws wk (G++X)/\T.length=c.N/\Pg X T es ck ws wk s.m c.m0/\MP es ck g/\MapRep X g s.m:=by
 obtain ⟨T,es,ck,ws,wk,hN,rfl,hp⟩:=h
 obtain ⟨g,hg,hmr⟩:=hp.now
 exact ⟨T,es,ck,ws,wk,g,rfl,hN,hp,hg,hmr⟩
set_option maxHeartbeats 4000000 in
theorem join_of {h:Nat} (seam:SeamP h):JoinP h:=by
 intro c G X s rows p ks ts i htr hloc hi1 hi2
 suffices g:CS Tryz.prog 131 [ptr c.rt,.int .i64 (p:Nat),.int .i64 i] rows fun u L'=>∃ x,JPost c (x::G) X s p ks ts i u L' by
  exact g.less fun u L' ⟨x,hj⟩=>hj.pop
 obtain ⟨T,es,ck,ws,wk,g,rfl,hN,hp,hg,hmr⟩:=htr.now
 obtain ⟨r,hgr0,v1,v2,v3,hr,hP⟩:=(hmr p).2 _ hloc.top
 have hgr:(g p).getD (.pointer none)=ptr r:=by rw [hgr0]; rfl
 have sp:=hp.sm _ _ hloc.top
 refine CS.mk (fn:=Tryz.f131) rfl rfl rfl rfl ?_
 repeat refine xQ ?_
 refine xG rfl ?_
 refine OS.fresh rfl (e_boxV (v:=.int .i64 i) (cs:=[.int .i64 i]) rfl rfl rfl rfl rfl) (fun _=>rfl) (fun r5=>?_)
 refine xP rfl rh rfl ?_
 refine OS.sub Sub.inQ ?_
 refine xN ?_
 have hXB:∀ q,q∈X->q∈HD c.rf c.rb c.rt c.rn c.rw T s.root s.cnt c.root0 c.cnt0 es ck ws wk ((r5,iRow i)::(G++X)):=fun q hq=>by simp [hq]
 have m1:=hXB _ hr
 have N1:=hP.nv sp hXB
 simp only at N1 m1
 repeat refine xQ ?_
 refine xG rfl ?_
 iterate 4 refine xP rfl rh rfl ?_
 refine xR rfl (e_load 2 rfl rfl rfl rfl rfl) rfl ?_
 refine xP rfl rh rfl ?_
 refine xR rfl (e_get hg (by simp) rfl rfl rfl rfl (fun _=>rfl) rfl) rfl ?_
 rw [hgr]
 refine xP rfl rh rfl ?_
 refine xN ?_
 repeat refine xQ ?_
 refine LS.drawn noGo mixed [(0,false),(1,false),(2,false),(3,false),(4,false),(5,false),(6,false),(7,false),(8,false),(9,false),(10,false),(11,false)] rfl rfl (by kernel_rfl) ?_
 refine xE rfl rfl (e_load 5 rfl rfl rfl rfl rfl) rfl ?_
 by_cases hneg:i < 0
 ·have hb:(!ileB 0 i)=true:=by rw [ileB_eq,decide_eq_false (by omega)]; rfl
  refine xD rfl rfl (e_ib rh (hb)) rfl ?_
  refine xD rfl rfl rh rfl ?_
  iterate 8 refine xS rfl rfl rfl ?_
  refine xD rfl rfl rh rfl ?_
  refine xM ?_
  repeat refine xQ ?_
  refine xC rfl (fun hc=>?_) (fun hc=>?_)
  ·repeat refine xQ ?_
   refine xG rfl ?_
   refine xP rfl rh rfl ?_
   refine xN ?_
   refine xT ⟨_,fun _ _=>rfl,?_⟩
   exact ⟨(r5,iRow i),.inl ⟨rfl,⟨T,es,ck,ws,wk,hN,rfl,hp⟩,NJ.neg hneg⟩⟩
  ·cases hc
 have hb:(!ileB 0 i)=false:=by rw [ileB_eq,decide_eq_true (by omega)]; rfl
 refine xD rfl rfl (e_ib rh (hb)) rfl ?_
 refine xD rfl rfl rh rfl ?_
 refine xE rfl rfl (e_load 5 rfl rfl rfl rfl rfl) rfl ?_
 refine xD rfl rfl (e_add (n:=1) rfl rfl rfl (in_i64 (by omega) (by omega))) rfl ?_
 iterate 3 refine xD rfl rfl rh rfl ?_
 refine xE rfl rfl (e_loadm m1 rfl rfl rfl rfl) rfl ?_
 refine xD rfl rfl (e_len N1.z rfl rfl rfl rfl rfl) rfl ?_
 by_cases hfar:(ts.length:Int)<=i+1
 ·have hb:ileB ((nos ts).length:Nat) (i+1)=true:=by rw [ileB_eq,nos_len]; exact decide_eq_true hfar
  refine xD rfl rfl (e_ib rh (hb)) rfl ?_
  refine xD rfl rfl rh rfl ?_
  refine xM ?_
  repeat refine xQ ?_
  refine xC rfl (fun hc=>?_) (fun hc=>?_)
  ·repeat refine xQ ?_
   refine xG rfl ?_
   refine xP rfl rh rfl ?_
   refine xN ?_
   refine xT ⟨_,fun _ _=>rfl,?_⟩
   exact ⟨(r5,iRow i),.inl ⟨rfl,⟨T,es,ck,ws,wk,hN,rfl,hp⟩,NJ.far hfar⟩⟩
  ·cases hc
 have hb:ileB ((nos ts).length:Nat) (i+1)=false:=by rw [ileB_eq,nos_len]; exact decide_eq_false hfar
 refine xD rfl rfl (e_ib rh (hb)) rfl ?_
 refine xD rfl rfl rh rfl ?_
 refine xM ?_
 repeat refine xQ ?_
 refine xC rfl (fun hc=>?_) (fun hc=>?_)
 ·cases hc
 refine LS.skip ?_
 obtain ⟨j,rfl⟩:=Int.eq_ofNat_of_zero_le (show 0<=i by omega)
 have hbg:=hloc.bg (by intro hh; rw [hh] at hfar; simp at hfar; omega)
 obtain ⟨A,k,B,L,a,b,R,rfl,rfl,hA,hL⟩:=split2 (j:=j) (bg_len hbg) (by omega)
 subst hL
 have oka:=hloc.ok a (by simp)
 have okb:=hloc.ok b (by simp)
 have hma:=hloc.kid (s:=a) (by simp)
 have hmb:=hloc.kid (s:=b) (by simp)
 obtain ⟨ra,hga,va1,va2,va3,hra,hPa⟩:=(hmr (no h a)).2 _ hma
 obtain ⟨rb,hgb,vb1,vb2,vb3,hrb,hPb⟩:=(hmr (no h b)).2 _ hmb
 have ega:(g (no h a)).getD (.pointer none)=ptr ra:=by rw [hga]; rfl
 have egb:(g (no h b)).getD (.pointer none)=ptr rb:=by rw [hgb]; rfl
 have hna:=hPa.nv (fits_sm oka.fits) hXB
 have hnb:=hPb.nv (fits_sm okb.fits) hXB
 have mra:=hXB _ hra
 have hkl:k.length<=32:=may_ks hbg.may k (by simp)
 have hsm:=sm_join (k:=k) oka.fits okb.fits hkl
 repeat refine xQ ?_
 refine LS.drawn noGo mixed [(0,false),(1,false),(2,false),(3,false),(4,false),(5,false),(6,false),(7,false),(8,false),(9,false),(10,false),(11,false),(12,false),(13,false),(14,false),(15,false),(16,false)] rfl rfl (by kernel_rfl) ?_
 iterate 3 refine xD rfl rfl rh rfl ?_
 refine xE rfl rfl (e_loadm m1 rfl rfl rfl rfl) rfl ?_
 refine xE rfl rfl (e_load 5 rfl rfl rfl rfl rfl) rfl ?_
 refine ODS.at1 (j:=L.length) (N1.z) (nos_at) rfl rfl rfl rfl rfl rfl rfl (fun ra0 oa0 rowa0 csa0 ma0 ca0 ga0=>⟨_,rfl,?_⟩)
 refine xE rfl rfl (e_loadm ma0 ca0 rfl rfl (part_one rfl ga0)) rfl ?_
 iterate 3 refine xD rfl rfl rh rfl ?_
 refine xE rfl rfl (e_loadm m1 rfl rfl rfl rfl) rfl ?_
 refine xE rfl rfl (e_load 5 rfl rfl rfl rfl rfl) rfl ?_
 refine xD rfl rfl (e_addN (n:=1) rfl rfl rfl (in_i64 (by omega) (by omega))) rfl ?_
 refine ODS.at1 (j:=L.length+1) (N1.z) (nos_at2) rfl rfl rfl rfl rfl rfl rfl (fun ra1 oa1 rowa1 csa1 ma1 ca1 ga1=>⟨_,rfl,?_⟩)
 refine xE rfl rfl (e_loadm ma1 ca1 rfl rfl (part_one rfl ga1)) rfl ?_
 iterate 2 refine xD rfl rfl rh rfl ?_
 refine xM ?_
 repeat refine xQ ?_
 refine LS.mid [0,1,5,7,8,9,10] (fun a' L'=>∃ r10 w1 w2 w3 Y1 Y2 Y3,GV 9 1 [] w1 (joinN (nd h a) k (nd h b)).ks.length (tx (joinN (nd h a) k (nd h b)).ks) Y1/\GV 9 1 [] w2 (joinN (nd h a) k (nd h b)).vs.length (tx (joinN (nd h a) k (nd h b)).vs) Y2/\GV 3 1 [] w3 (joinN (nd h a) k (nd h b)).kids.length (nums (joinN (nd h a) k (nd h b)).kids) Y3 /\
  L'=HD c.rf c.rb c.rt c.rn c.rw T s.root s.cnt c.root0 c.cnt0 es ck ws wk (((r5,iRow (L.length:Nat))::G)++((r10,ndRow (nd h a).leaf w1 w2 w3)::(Y3++(Y2++(Y1++X)))))/\a'=[ptr c.rt,.int .i64 (p:Nat),jn,jn,jn,ptr r5,jn,ptr r,.int .i64 (no h a:Nat),.int .i64 (no h b:Nat),ptr r10,jn,jn,jn,jn,jn,jn,jn,jn,jn,jn,jn,jn,jn,jn,jn,jn,jn,jn,jn,jn,jn,jn,jn,jn,jn,jn,jn,jn,jn,jn,jn,jn,jn,jn,jn,jn,jn,jn,jn,jn,jn,jn,jn,jn,jn,jn,jn,jn,jn,jn,jn,jn,jn,jn,jn,jn,jn,jn,jn,jn,jn,jn,jn,jn,jn,jn,jn,jn,jn,jn,jn,jn,jn,jn,jn,jn,jn,jn,jn,jn,jn,jn,jn,jn,jn,jn,jn,jn,jn,jn,jn,jn]) ?_ ?_
 ·have m5:(r5,iRow (L.length:Nat))∈HD c.rf c.rb c.rt c.rn c.rw T s.root s.cnt c.root0 c.cnt0 es ck ws wk ((r5,iRow (L.length:Nat))::(G++X)):=by simp
  have mrt:(c.rt,trRow c.rf c.rn c.rw s.root s.cnt c.root0 c.cnt0)∈HD c.rf c.rb c.rt c.rn c.rw T s.root s.cnt c.root0 c.cnt0 es ck ws wk ((r5,iRow (L.length:Nat))::(G++X)):=by simp
  have mmap:(c.rn,ARow.map es ck)∈HD c.rf c.rb c.rt c.rn c.rw T s.root s.cnt c.root0 c.cnt0 es ck ws wk ((r5,iRow (L.length:Nat))::(G++X)):=by simp
  repeat refine xQ ?_
  refine LS.forked noGo mixed 24 rfl rfl (by kernel_rfl) ?_
  refine OGS.pure 0 (by kernel_rfl) rfl rfl (fun _=>rfl) rfl ?_
  refine OGS.pure 1 (by kernel_rfl) rfl rfl (fun _=>rfl) rfl ?_
  refine OGS.pure 2 (by kernel_rfl) rfl rfl (fun _=>rfl) rfl ?_
  refine OGS.pure 3 (by kernel_rfl) rfl rfl (fun _=>rfl) rfl ?_
  refine OGS.read 4 (by kernel_rfl) rfl rfl (e_loadm mrt rfl rfl rfl rfl) rfl ?_
  refine OGS.pure 5 (by kernel_rfl) rfl rfl (fun _=>rfl) rfl ?_
  refine OGS.read 6 (by kernel_rfl) rfl rfl (e_get hg mmap rfl rfl rfl rfl (fun _=>rfl) rfl) rfl ?_
  rw [ega]
  refine OGS.pure 7 (by kernel_rfl) rfl rfl (fun _=>rfl) rfl ?_
  refine OGS.pure 8 (by kernel_rfl) rfl rfl (fun _=>rfl) rfl ?_
  refine OGS.pure 9 (by kernel_rfl) rfl rfl (fun _=>rfl) rfl ?_
  refine OGS.read 10 (by kernel_rfl) rfl rfl (e_loadm m1 rfl rfl rfl rfl) rfl ?_
  refine OGS.read 11 (by kernel_rfl) rfl rfl (e_loadm m5 rfl rfl rfl rfl) rfl ?_
  refine OGS.at1 (j:=L.length) 12 (by kernel_rfl) (N1.k) (tx_mid hA) rfl rfl rfl rfl rfl rfl rfl (fun ra0 oa0 rowa0 csa0 ma0 ca0 ga0=>⟨_,rfl,?_⟩)
  refine OGS.read 13 (by kernel_rfl) rfl rfl (e_loadm ma0 ca0 rfl rfl (part_one rfl ga0)) rfl ?_
  refine OGS.pure 14 (by kernel_rfl) rfl rfl (fun _=>rfl) rfl ?_
  refine OGS.pure 15 (by kernel_rfl) rfl rfl (fun _=>rfl) rfl ?_
  refine OGS.pure 16 (by kernel_rfl) rfl rfl (fun _=>rfl) rfl ?_
  refine OGS.pure 17 (by kernel_rfl) rfl rfl (fun _=>rfl) rfl ?_
  refine OGS.read 18 (by kernel_rfl) rfl rfl (e_loadm mrt rfl rfl rfl rfl) rfl ?_
  refine OGS.pure 19 (by kernel_rfl) rfl rfl (fun _=>rfl) rfl ?_
  refine OGS.read 20 (by kernel_rfl) rfl rfl (e_get hg mmap rfl rfl rfl rfl (fun _=>rfl) rfl) rfl ?_
  rw [egb]
  refine OGS.turn2 21 22 (by kernel_rfl) (by kernel_rfl) ?_ ?_
  ·refine OT.call rfl rfl (fun _=>rfl) ((joined_ct (X:=X) hXB ⟨va1,va2,va3,hra,hPa⟩ ⟨vb1,vb2,vb3,hrb,hPb⟩ (fits_sm oka.fits) (fits_sm okb.fits)).mono ?_)
   rintro u L' ⟨w1,w2,w3,Y1,Y2,Y3,rfl,rfl,g1,g2,g3⟩
   have hB:∀ q,q∈HD c.rf c.rb c.rt c.rn c.rw T s.root s.cnt c.root0 c.cnt0 es ck ws wk ((r5,iRow (L.length:Nat))::(G++X))->q∈Y3++(Y2++(Y1++HD c.rf c.rb c.rt c.rn c.rw T s.root s.cnt c.root0 c.cnt0 es ck ws wk ((r5,iRow (L.length:Nat))::(G++X)))):=fun q hq=>List.mem_append_right Y3 (List.mem_append_right Y2 (List.mem_append_right Y1 hq))
   refine ⟨_,rfl,(by repeat (first | exact Keep.nil | refine Keep.gone rfl ?_ | refine Keep.cons rfl (e_loadm (hB _ mrt) rfl rfl rfl rfl) ?_ | refine Keep.cons rfl (e_loadm (hB _ m5) rfl rfl rfl rfl) ?_ | refine Keep.cons rfl (e_loadm (hB _ m1) rfl rfl rfl rfl) ?_ | refine Keep.cons rfl (e_loadm (hB _ ma0) ca0 rfl rfl (part_one rfl ga0)) ?_ | refine Keep.cons rfl (e_is' (e_get hg (hB _ mmap) rfl rfl rfl rfl (fun _=>rfl) rfl) ega) ?_ | refine Keep.cons rfl (e_is' (e_get hg (hB _ mmap) rfl rfl rfl rfl (fun _=>rfl) rfl) egb) ?_)),?_⟩
   refine OGS.turn1 22 (by kernel_rfl) (by kernel_rfl) (OT.fresh rfl rfl (e_new (fun _=>rfl) rfl) (fun _=>rfl) (fun r10=>?_) (fun r10=>?_))
   ·have hB:=fun q hq=>List.mem_cons_of_mem (r10,zRow) (hB q hq)
    exact (by repeat (first | exact Keep.nil | refine Keep.gone rfl ?_ | refine Keep.cons rfl (e_loadm (hB _ mrt) rfl rfl rfl rfl) ?_ | refine Keep.cons rfl (e_loadm (hB _ m5) rfl rfl rfl rfl) ?_ | refine Keep.cons rfl (e_loadm (hB _ m1) rfl rfl rfl rfl) ?_ | refine Keep.cons rfl (e_loadm (hB _ ma0) ca0 rfl rfl (part_one rfl ga0)) ?_ | refine Keep.cons rfl (e_is' (e_get hg (hB _ mmap) rfl rfl rfl rfl (fun _=>rfl) rfl) ega) ?_ | refine Keep.cons rfl (e_is' (e_get hg (hB _ mmap) rfl rfl rfl rfl (fun _=>rfl) rfl) egb) ?_))
   have hB:=fun q hq=>List.mem_cons_of_mem (r10,ndRow (nd h a).leaf w1 w2 w3) (hB q hq)
   refine OGS.turn1 23 (by kernel_rfl) (by kernel_rfl) (OT.write rfl rfl (e_store 0 (n:=4) rfl rfl rfl rfl rfl (nd_one (isSl g1.sv) (isSl g2.sv) (isSl g3.sv)) rfl rfl) rfl (by repeat (first | exact Keep.nil | refine Keep.gone rfl ?_ | refine Keep.cons rfl (e_loadm (hB _ mrt) rfl rfl rfl rfl) ?_ | refine Keep.cons rfl (e_loadm (hB _ m5) rfl rfl rfl rfl) ?_ | refine Keep.cons rfl (e_loadm (hB _ m1) rfl rfl rfl rfl) ?_ | refine Keep.cons rfl (e_loadm (hB _ ma0) ca0 rfl rfl (part_one rfl ga0)) ?_ | refine Keep.cons rfl (e_is' (e_get hg (hB _ mmap) rfl rfl rfl rfl (fun _=>rfl) rfl) ega) ?_ | refine Keep.cons rfl (e_is' (e_get hg (hB _ mmap) rfl rfl rfl rfl (fun _=>rfl) rfl) egb) ?_)) ?_)
   refine OGS.sub (Sub.sums (A:=HD c.rf c.rb c.rt c.rn c.rw T s.root s.cnt c.root0 c.cnt0 es ck ws wk (((r5,iRow (L.length:Nat))::G)++((r10,ndRow (nd h a).leaf w1 w2 w3)::(Y3++(Y2++(Y1++X)))))) (B:=(r10,ndRow (nd h a).leaf w1 w2 w3)::(Y3++(Y2++(Y1++HD c.rf c.rb c.rt c.rn c.rw T s.root s.cnt c.root0 c.cnt0 es ck ws wk ((r5,iRow (L.length:Nat))::(G++X)))))) fun f=>by simp [HD,fm]<;>omega) ?_
   exact OGS.nil (by kernel_rfl) ⟨r10,w1,w2,w3,Y1,Y2,Y3,g1,g2,g3,rfl,rfl⟩
  ·refine OT.fresh rfl rfl (e_new (fun _=>rfl) rfl) (fun _=>rfl) (fun r10=>?_) (fun r10=>?_)
   ·have hB:=fun q (hq:q∈HD c.rf c.rb c.rt c.rn c.rw T s.root s.cnt c.root0 c.cnt0 es ck ws wk ((r5,iRow (L.length:Nat))::(G++X)))=>List.mem_cons_of_mem (r10,zRow) hq
    exact (by repeat (first | exact Keep.nil | refine Keep.gone rfl ?_ | refine Keep.cons rfl (e_loadm (hB _ mrt) rfl rfl rfl rfl) ?_ | refine Keep.cons rfl (e_loadm (hB _ m5) rfl rfl rfl rfl) ?_ | refine Keep.cons rfl (e_loadm (hB _ m1) rfl rfl rfl rfl) ?_ | refine Keep.cons rfl (e_loadm (hB _ ma0) ca0 rfl rfl (part_one rfl ga0)) ?_ | refine Keep.cons rfl (e_is' (e_get hg (hB _ mmap) rfl rfl rfl rfl (fun _=>rfl) rfl) ega) ?_ | refine Keep.cons rfl (e_is' (e_get hg (hB _ mmap) rfl rfl rfl rfl (fun _=>rfl) rfl) egb) ?_))
   refine OGS.turn1 21 (by kernel_rfl) (by kernel_rfl) (OT.call rfl rfl (fun _=>rfl) ((joined_ct (X:=X) (fun q hq=>List.mem_cons_of_mem _ (hXB q hq)) ⟨va1,va2,va3,hra,hPa⟩ ⟨vb1,vb2,vb3,hrb,hPb⟩ (fits_sm oka.fits) (fits_sm okb.fits)).mono ?_))
   rintro u L' ⟨w1,w2,w3,Y1,Y2,Y3,rfl,rfl,g1,g2,g3⟩
   have hB:∀ q,q∈HD c.rf c.rb c.rt c.rn c.rw T s.root s.cnt c.root0 c.cnt0 es ck ws wk ((r5,iRow (L.length:Nat))::(G++X))->q∈Y3++(Y2++(Y1++(r10,zRow)::HD c.rf c.rb c.rt c.rn c.rw T s.root s.cnt c.root0 c.cnt0 es ck ws wk ((r5,iRow (L.length:Nat))::(G++X)))):=fun q hq=>List.mem_append_right Y3 (List.mem_append_right Y2 (List.mem_append_right Y1 (List.mem_cons_of_mem _ hq)))
   refine ⟨_,rfl,(by repeat (first | exact Keep.nil | refine Keep.gone rfl ?_ | refine Keep.cons rfl (e_loadm (hB _ mrt) rfl rfl rfl rfl) ?_ | refine Keep.cons rfl (e_loadm (hB _ m5) rfl rfl rfl rfl) ?_ | refine Keep.cons rfl (e_loadm (hB _ m1) rfl rfl rfl rfl) ?_ | refine Keep.cons rfl (e_loadm (hB _ ma0) ca0 rfl rfl (part_one rfl ga0)) ?_ | refine Keep.cons rfl (e_is' (e_get hg (hB _ mmap) rfl rfl rfl rfl (fun _=>rfl) rfl) ega) ?_ | refine Keep.cons rfl (e_is' (e_get hg (hB _ mmap) rfl rfl rfl rfl (fun _=>rfl) rfl) egb) ?_)),?_⟩
   refine OGS.sub (Sub.sums (A:=(r10,zRow)::(Y3++(Y2++(Y1++HD c.rf c.rb c.rt c.rn c.rw T s.root s.cnt c.root0 c.cnt0 es ck ws wk ((r5,iRow (L.length:Nat))::(G++X)))))) (B:=Y3++(Y2++(Y1++(r10,zRow)::HD c.rf c.rb c.rt c.rn c.rw T s.root s.cnt c.root0 c.cnt0 es ck ws wk ((r5,iRow (L.length:Nat))::(G++X))))) fun f=>by simp [HD,fm]<;>omega) ?_
   have hB:∀ q,q∈HD c.rf c.rb c.rt c.rn c.rw T s.root s.cnt c.root0 c.cnt0 es ck ws wk ((r5,iRow (L.length:Nat))::(G++X))->q∈(r10,ndRow (nd h a).leaf w1 w2 w3)::(Y3++(Y2++(Y1++HD c.rf c.rb c.rt c.rn c.rw T s.root s.cnt c.root0 c.cnt0 es ck ws wk ((r5,iRow (L.length:Nat))::(G++X))))):=fun q hq=>List.mem_cons_of_mem _ (List.mem_append_right Y3 (List.mem_append_right Y2 (List.mem_append_right Y1 hq)))
   refine OGS.turn1 23 (by kernel_rfl) (by kernel_rfl) (OT.write rfl rfl (e_store 0 (n:=4) rfl rfl rfl rfl rfl (nd_one (isSl g1.sv) (isSl g2.sv) (isSl g3.sv)) rfl rfl) rfl (by repeat (first | exact Keep.nil | refine Keep.gone rfl ?_ | refine Keep.cons rfl (e_loadm (hB _ mrt) rfl rfl rfl rfl) ?_ | refine Keep.cons rfl (e_loadm (hB _ m5) rfl rfl rfl rfl) ?_ | refine Keep.cons rfl (e_loadm (hB _ m1) rfl rfl rfl rfl) ?_ | refine Keep.cons rfl (e_loadm (hB _ ma0) ca0 rfl rfl (part_one rfl ga0)) ?_ | refine Keep.cons rfl (e_is' (e_get hg (hB _ mmap) rfl rfl rfl rfl (fun _=>rfl) rfl) ega) ?_ | refine Keep.cons rfl (e_is' (e_get hg (hB _ mmap) rfl rfl rfl rfl (fun _=>rfl) rfl) egb) ?_)) ?_)
   refine OGS.sub (Sub.sums (A:=HD c.rf c.rb c.rt c.rn c.rw T s.root s.cnt c.root0 c.cnt0 es ck ws wk (((r5,iRow (L.length:Nat))::G)++((r10,ndRow (nd h a).leaf w1 w2 w3)::(Y3++(Y2++(Y1++X)))))) (B:=(r10,ndRow (nd h a).leaf w1 w2 w3)::(Y3++(Y2++(Y1++HD c.rf c.rb c.rt c.rn c.rw T s.root s.cnt c.root0 c.cnt0 es ck ws wk ((r5,iRow (L.length:Nat))::(G++X)))))) fun f=>by simp [HD,fm]<;>omega) ?_
   exact OGS.nil (by kernel_rfl) ⟨r10,w1,w2,w3,Y1,Y2,Y3,g1,g2,g3,rfl,rfl⟩
 rintro a' L' ⟨r10,w1,w2,w3,Y1,Y2,Y3,g1,g2,g3,rfl,rfl⟩
 have hX1:∀ q,q∈X->q∈(r10,ndRow (nd h a).leaf w1 w2 w3)::(Y3++(Y2++(Y1++X))):=fun q hq=>by simp [hq]
 have hPJ:PN ((r10,ndRow (nd h a).leaf w1 w2 w3)::(Y3++(Y2++(Y1++X)))) (joinN (nd h a) k (nd h b)) w1 w2 w3 :=
  ⟨(g1.ol (by have:=hsm.k; unfold openCap; omega)).pl.mono (fun q hq=>by simp [hq]),(g2.ol (by have:=hsm.v; unfold openCap; omega)).pl.mono (fun q hq=>by simp [hq]),(g3.ol (by have:=hsm.z; unfold openCap; omega)).pl.mono (fun q hq=>by simp [hq])⟩
 have hXC:∀ q,q∈(r10,ndRow (nd h a).leaf w1 w2 w3)::(Y3++(Y2++(Y1++X)))->q∈HD c.rf c.rb c.rt c.rn c.rw T s.root s.cnt c.root0 c.cnt0 es ck ws wk (((r5,iRow (L.length:Nat))::G)++((r10,ndRow (nd h a).leaf w1 w2 w3)::(Y3++(Y2++(Y1++X))))):=fun q hq=>by
  rcases List.mem_cons.1 hq with rfl | hq
  ·simp
  ·simp only [List.mem_append] at hq
   simp [hq]
 have m10:=hXC _ (List.mem_cons_self ..)
 have NVJ:=hPJ.nv hsm hXC
 have mra2:=hXC _ (hX1 _ hra)
 have hna2:=hPa.nv (fits_sm oka.fits) (fun q hq=>hXC q (hX1 q hq))
 repeat refine xQ ?_
 refine xG rfl ?_
 refine xR rfl (e_loadm m10 rfl rfl rfl rfl) rfl ?_
 refine xA noGo rfl (fun _=>rfl) ((Fits_ct NVJ (by have:=hsm.k; omega)).mono ?_)
 rintro u L' ⟨rfl,rfl⟩
 refine ⟨_,rfl,?_⟩
 refine xP rfl rh rfl ?_
 refine xN ?_
 cases hfit:fitsN (joinN (nd h a) k (nd h b)) with
 | false =>
  repeat refine xQ ?_
  refine xC rfl (fun hc=>?_) (fun hc=>?_)
  ·repeat refine xQ ?_
   refine xG rfl ?_
   refine xP rfl rh rfl ?_
   refine OS.sub (Sub.sums2 (((r10,ndRow (nd h a).leaf w1 w2 w3)::(Y3++(Y2++Y1)))) (A:=HD c.rf c.rb c.rt c.rn c.rw T s.root s.cnt c.root0 c.cnt0 es ck ws wk (((r5,iRow (L.length:Nat))::G)++X)) (B:=HD c.rf c.rb c.rt c.rn c.rw T s.root s.cnt c.root0 c.cnt0 es ck ws wk (((r5,iRow (L.length:Nat))::G)++((r10,ndRow (nd h a).leaf w1 w2 w3)::(Y3++(Y2++(Y1++X)))))) fun f=>by simp [HD,fm]<;>omega) ?_
   refine xN ?_
   refine xT ⟨_,fun _ _=>rfl,?_⟩
   exact ⟨(r5,iRow (L.length:Nat)),.inl ⟨rfl,⟨T,es,ck,ws,wk,hN,rfl,hp⟩,NJ.at hA hfit⟩⟩
  ·cases hc
 | true =>
  repeat refine xQ ?_
  refine xC rfl (fun hc=>?_) (fun hc=>?_)
  ·cases hc
  refine LS.skip ?_
  have mrt2:(c.rt,trRow c.rf c.rn c.rw s.root s.cnt c.root0 c.cnt0)∈HD c.rf c.rb c.rt c.rn c.rw T s.root s.cnt c.root0 c.cnt0 es ck ws wk (((r5,iRow (L.length:Nat))::G)++((r10,ndRow (nd h a).leaf w1 w2 w3)::(Y3++(Y2++(Y1++X))))):=by simp
  have mmap2:(c.rn,ARow.map es ck)∈HD c.rf c.rb c.rt c.rn c.rw T s.root s.cnt c.root0 c.cnt0 es ck ws wk (((r5,iRow (L.length:Nat))::G)++((r10,ndRow (nd h a).leaf w1 w2 w3)::(Y3++(Y2++(Y1++X))))):=by simp
  have hzl:(nd h a).kids.length<=2000:=(fits_sm oka.fits).z
  repeat refine xQ ?_
  refine xG rfl ?_
  iterate 4 refine xP rfl rh rfl ?_
  refine xR rfl (e_loadm mrt2 rfl rfl rfl rfl) rfl ?_
  refine xP rfl rh rfl ?_
  refine xR rfl (e_get hg mmap2 rfl rfl rfl rfl (fun _=>rfl) rfl) rfl ?_
  rw [ega]
  iterate 2 refine xP rfl rh rfl ?_
  refine xR rfl (e_loadm mra2 rfl rfl rfl rfl) rfl ?_
  refine xP rfl (e_len hna2.z rfl rfl rfl rfl rfl) rfl ?_
  refine xP rfl (e_sub (n:=1) rfl rfl rfl (in_i64 (by omega) (by omega))) rfl ?_
  refine xP rfl rh rfl ?_
  refine xN ?_
  have htr1:TR c ((r5,iRow (L.length:Nat))::G) ((r10,ndRow (nd h a).leaf w1 w2 w3)::(Y3++(Y2++(Y1++X)))) s (HD c.rf c.rb c.rt c.rn c.rw T s.root s.cnt c.root0 c.cnt0 es ck ws wk (((r5,iRow (L.length:Nat))::G)++((r10,ndRow (nd h a).leaf w1 w2 w3)::(Y3++(Y2++(Y1++X)))))):=⟨T,es,ck,ws,wk,hN,rfl,hp.mono hX1⟩
  have d1:no h a < c.N:=htr1.dom _ (by rw [hma]; simp)
  have d2:no h b < c.N:=htr1.dom _ (by rw [hmb]; simp)
  have d3:p < c.N:=htr1.dom _ (by rw [hloc.top]; simp)
  have hnod:=hloc.nod
  simp only [pgs_inn,List.flatMap_append,List.flatMap_cons,List.nodup_cons,List.nodup_append,List.mem_append,not_or] at hnod
  have npa:p≠no h a:=fun hh=>hnod.1.2.1 (hh ▸ no_mem)
  have npb:p≠no h b:=fun hh=>hnod.1.2.2.1 (hh ▸ no_mem)
  have nab:no h a≠no h b:=fun hh=>hnod.2.2.1.2.2 (no h a) no_mem (no h b) (.inl no_mem) hh
  repeat refine xQ ?_
  refine xG rfl ?_
  iterate 4 refine xP rfl rh rfl ?_
  refine xA noGo rfl (fun _=>rfl) ((lay_tr (o:=some (joinN (nd h a) k (nd h b))) htr1 d1 ⟨r10,rfl,w1,w2,w3,List.mem_cons_self ..,hPJ⟩ (fun n hn=>by cases hn; exact hsm)).mono ?_)
  rintro u L1 h1
  refine ⟨_,rfl,?_⟩
  refine xN ?_
  repeat refine xQ ?_
  refine xG rfl ?_
  iterate 4 refine xP rfl rh rfl ?_
  refine xA noGo rfl (fun _=>rfl) ((lay_tr (o:=none) h1 d2 rfl (fun n hn=>by cases hn)).mono ?_)
  rintro u L2 h2
  refine ⟨_,rfl,?_⟩
  refine xN ?_
  have hm2:(updM (updM s.m (no h a) (some (joinN (nd h a) k (nd h b)))) (no h b) none) p=some ⟨false,A++k::B,[],nos (L++a::b::R)⟩:=by
   unfold updM; rw [if_neg npb,if_neg npa]; exact hloc.top
  have v0:=Via.join hA hloc.rep hloc.nod oka okb
  have hfm:=frM_join (N:=c.N) (x:=joinN (nd h a) k (nd h b)) (y:=⟨false,A++B,[],nos (L++a::R)⟩) hma hmb hloc.top nab npa npb d1 d2 d3
  have hless:=join_Less (h:=h) (p:=p) (B:=B) (k:=k) (R:=R) (a:=a) (b:=b) (w:=mrg h a k b) hA no_mrg
  have hnos:nos (L++mrg h a k b::R)=nos (L++a::R):=by simp [nos,no_mrg]
  have hdrop:=join_drop (h:=h) (B:=B) (k:=k) (R:=R) (a:=a) (b:=b) hA
  have hbg2:=(hless hbg).1
  rw [hnos] at hbg2
  repeat refine xQ ?_
  refine xG rfl ?_
  iterate 5 refine xP rfl rh rfl ?_
  refine xA noGo rfl (fun _=>rfl) ((change_tr (caps:=[ptr r5]) (n':=⟨false,A++B,[],nos (L++a::R)⟩) h2 hm2 hbg2.sm (hdrop ▸ drop1_chn (i:=L.length) (List.mem_cons_self ..) hbg.sm (by simp [nos]) (by simp; omega))).mono ?_)
  rintro u L3 ⟨X3,hX3,h3⟩
  refine ⟨_,rfl,?_⟩
  refine xN ?_
  have okm:=ok_mrg (k:=k) oka okb hfit
  have hrm:=(rep_inn.1 v0.rep).2 (mrg h a k b) (by simp)
  have hnm:(pgs h (mrg h a k b)).Nodup:=by
   have:=v0.chg.nd
   rw [pgs_at,List.nodup_append,List.nodup_append] at this
   exact this.2.1.1
  repeat refine xQ ?_
  refine xG rfl ?_
  iterate 3 refine xP rfl rh rfl ?_
  refine xA noGo rfl (fun _=>rfl) ((seam c _ X3 _ L3 a b k h3 hrm hnm okm oka okb).mono ?_)
  rintro u L4 ⟨X4,m4,u4,hX4,h4,v4,ok4,fr4,td4⟩
  refine ⟨_,rfl,?_⟩
  refine xN ?_
  repeat refine xQ ?_
  refine xG rfl ?_
  refine xP rfl rh rfl ?_
  refine xN ?_
  refine xT ⟨_,fun _ _=>rfl,?_⟩
  have v5:=v0.trans (v4.kid hA v0.rep v0.chg.nd)
  exact ⟨(r5,iRow (L.length:Nat)),.inr ⟨rfl,X4,m4,A,k,B,L,a,b,R,u4,rfl,rfl,hA,rfl,fun q hq=>hX4 q (hX3 q (hX1 q hq)),h4,v5,v4.rt.trans no_mrg,ok4,Nat.le_trans hfm fr4,td4⟩⟩
end Go.Proofs.YtlmmddfhoabjfaaGreat
end
section
namespace Go.Proofs.YtlmmddfhoabjfaaGreat
open Go.Am
structure SWin (c:Cfg) (G X:RL) (s:TSt) {h:Nat} (p:Nat) (ks:List Tx) (ts:List (Tr h)) (i:Int) (L':RL) (X':RL) (m':Mem) (A Y B:List Tx) (L M R:List (Tr h)) (w:Tr h):Prop where
 hk:ks=A++(Y++B)
 ht:ts=L++(M++R)
 la:A.length=L.length
 lm:M.length=Y.length+1
 lo:(L.length:Int)<=i
 hi:i < L.length+M.length
 hX:∀ p,p∈X->p∈X'
 tr:TR c G X' ⟨m',s.root,s.cnt⟩ L'
 via:Via s.m m' (inn p ks ts) (inn p (A++B) (L++w::R))
 ok:Okt h w
 fr:frM c.N s.m<=frM c.N m'
 td:(∀ q∈M,Tdy h q)->Tdy h w
 less:Less ⟨false,ks,[],nos ts⟩ ⟨false,A++B,[],nos (L++w::R)⟩
theorem SWin.loc {c:Cfg} {G X X':RL} {s:TSt} {h p:Nat} {ks:List Tx} {ts:List (Tr h)} {i:Int} {L':RL} {m':Mem} {A Y B:List Tx} {L M R:List (Tr h)} {w:Tr h} (x:SWin c G X s p ks ts i L' X' m' A Y B L M R w) (hb:Bg ⟨false,ks,[],nos ts⟩) (hok:∀ q∈ts,Okt h q):Loc m' p (A++B) (L++w::R):=by
 refine ⟨x.via.rep,x.via.chg.nd,fun q hq=>?_,.inl (x.less hb).1⟩
 rcases List.mem_append.1 hq with h1 | h1
 ·exact hok q (by rw [x.ht]; simp [h1])
 ·rcases List.mem_cons.1 h1 with rfl | h1
  ·exact x.ok
  ·exact hok q (by rw [x.ht]; simp [h1])
theorem SWin.right {c:Cfg} {G X X' X'':RL} {s:TSt} {h p:Nat} {ks:List Tx} {ts:List (Tr h)} {i:Int} {L' L'':RL} {m' m'':Mem} {A Y B:List Tx} {L M R:List (Tr h)} {w b w':Tr h} {k:Tx} (x:SWin c G X s p ks ts i L' X' m' A Y (k::B) L M (b::R) w)
  (hX:∀ p,p∈X'->p∈X'') (htr:TR c G X'' ⟨m'',s.root,s.cnt⟩ L'') (hv:Via m' m'' (inn p (A++k::B) (L++w::b::R)) (inn p (A++B) (L++w'::R))) (hn:no h w'=no h w) (hok:Okt h w') (hf:frM c.N m'<=frM c.N m'') (htd:Tdy h w->Tdy h b->Tdy h w') :
  SWin c G X s p ks ts i L'' X'' m'' A (Y++[k]) B L (M++[b]) R w' :=
 ⟨by rw [x.hk]; simp,by rw [x.ht]; simp,x.la,by simp only [List.length_append,x.lm,List.length_singleton],x.lo,by have:=x.hi; simp only [List.length_append,List.length_singleton,List.length_cons,List.length_nil]; omega,fun q hq=>hX q (x.hX q hq),htr,x.via.trans hv,hok,Nat.le_trans x.fr hf,
  fun hq=>htd (x.td fun q hm=>hq q (List.mem_append_left _ hm)) (hq b (by simp)),x.less.trans (join_Less (h:=h) (p:=p) x.la hn)⟩
theorem SWin.left {c:Cfg} {G X X' X'':RL} {s:TSt} {h p:Nat} {ks:List Tx} {ts:List (Tr h)} {i:Int} {L' L'':RL} {m' m'':Mem} {A Y B:List Tx} {L M R:List (Tr h)} {w a w':Tr h} {k:Tx} (x:SWin c G X s p ks ts i L' X' m' (A++[k]) Y B (L++[a]) M R w)
  (hX:∀ p,p∈X'->p∈X'') (htr:TR c G X'' ⟨m'',s.root,s.cnt⟩ L'') (hv:Via m' m'' (inn p (A++k::B) (L++a::w::R)) (inn p (A++B) (L++w'::R))) (hn:no h w'=no h a) (hok:Okt h w') (hf:frM c.N m'<=frM c.N m'') (htd:Tdy h a->Tdy h w->Tdy h w') :
  SWin c G X s p ks ts i L'' X'' m'' A (k::Y) B L (a::M) R w':=by
 have hla:A.length=L.length:=by have:=x.la; simpa using this
 have hl:=x.less
 have hv0:=x.via
 simp only [List.append_assoc,List.singleton_append] at hl hv0
 exact ⟨by rw [x.hk]; simp,by rw [x.ht]; simp,hla,by simp only [List.length_cons,x.lm],by have:=x.lo; simp only [List.length_append,List.length_singleton] at this; omega,by have:=x.hi; simp only [List.length_append,List.length_singleton,List.length_cons,List.length_nil] at this ⊢; omega,fun q hq=>hX q (x.hX q hq),htr,hv0.trans hv,hok,Nat.le_trans x.fr hf,
  fun hq=>htd (hq a (by simp)) (x.td fun q hm=>hq q (List.mem_cons_of_mem _ hm)),hl.trans (join_Less (h:=h) (p:=p) hla hn)⟩
def SPost (c:Cfg) (G X:RL) (s:TSt) {h:Nat} (p:Nat) (ks:List Tx) (ts:List (Tr h)) (i:Int) (u:Value) (L':RL):Prop :=
 ∃ X' m' A Y B L M R w,SWin c G X s p ks ts i L' X' m' A Y B L M R w/\u=.int .i64 (L.length:Nat)/\NJ (A++B) (L++w::R) ((L.length:Int) - 1)/\NJ (A++B) (L++w::R) (L.length:Int)
def SetP (h:Nat):Prop:=∀ (c:Cfg) (G X:RL) (s:TSt) (L:RL) (p:Nat) (ks:List Tx) (ts:List (Tr h)) (i:Int),TR c G X s L->Loc s.m p ks ts->0<=i->i < ts.length →
 CS Tryz.prog 101 [ptr c.rt,.int .i64 (p:Nat),.int .i64 i] L fun u L'=>SPost c G X s p ks ts i u L'
theorem settle_of {h:Nat} (hj:JoinP h):SetP h:=by
 intro c G X s rows p ks ts i htr hloc h0 h1
 have hbg:=hloc.bg (by intro hh; rw [hh] at h1; simp at h1; omega)
 have hle:=bg_len hbg
 have hk:=hbg.keys
 simp only at hk
 obtain ⟨i,rfl⟩:=Int.eq_ofNat_of_zero_le h0
 obtain ⟨A,B,L,a,R,rfl,rfl,hA,hL⟩:=split1 (j:=i) hle (by omega)
 subst hL
 have w0:SWin c G X s p (A++B) (L++a::R) (L.length:Nat) rows X s.m A [] B L [a] R a :=
  ⟨by simp,by simp,hA,rfl,by omega,by simp; omega,fun _ hq=>hq,htr,Via.refl hloc.rep hloc.nod,hloc.ok a (by simp),Nat.le_refl _,fun hq=>hq a (by simp),Less.refl⟩
 refine CS.mk (fn:=Tryz.f101) rfl rfl rfl rfl ?_
 repeat refine xQ ?_
 refine xG rfl ?_
 refine xP rfl rh rfl ?_
 refine xN ?_
 repeat refine xQ ?_
 refine LS.block ?_
 refine LS.loopJ [0,1,2] (fun z a' L'=>∃ X' m' A' Y B' L1 M R' w,SWin c G X s p (A++B) (L++a::R) (L.length:Nat) L' X' m' A' Y B' L1 M R' w/\z=L1.length+R'.length/\a'=[ptr c.rt,.int .i64 (p:Nat),.int .i64 (L1.length:Nat),jn,jn,jn,jn,jn,jn,jn,jn,jn,jn,jn,jn,jn,jn,jn,jn,jn,jn]) (n:=L.length+R.length) rfl ⟨X,s.m,A,[],B,L,[a],R,a,w0,rfl,rfl⟩ ?_
 rintro z a' L' ⟨X',m',A',Y,B',L1,M,R',w,hw,rfl,rfl⟩
 have hl2:=hw.loc hbg hloc.ok
 have hlen:L1.length+R'.length<=1000:=by
  have h2:=hw.ht
  have h3:=congrArg List.length h2
  simp only [List.length_append,List.length_cons] at h3 hle hk
  omega
 have hbg2:=hl2.bg (by simp)
 have hle2:=bg_len hbg2
 simp only [List.length_append,List.length_cons] at hle2
 have hlaw:=hw.la
 repeat refine xQ ?_
 refine LS.block ?_
 repeat refine xQ ?_
 refine LS.block ?_
 repeat refine xQ ?_
 refine xG rfl ?_
 iterate 3 refine xP rfl rh rfl ?_
 refine xA noGo rfl (fun _=>rfl) ((hj c G X' ⟨m',s.root,s.cnt⟩ L' p _ _ (L1.length:Nat) hw.tr hl2 (by omega) (by omega)).mono ?_)
 rintro u L2 hjp
 rcases hjp with ⟨rfl,htr2,hnj⟩ | ⟨rfl,X2,m2,A1,k,B1,L3,a3,b,R1,w2,e1,e2,e3,e4,e5,e6,e7,e8,e9,e10,e11⟩
 ·refine ⟨_,rfl,?_⟩
  refine xP rfl rh rfl ?_
  refine xN ?_
  repeat refine xQ ?_
  refine xC rfl (fun hc=>?_) (fun hc=>?_)
  ·cases hc
  repeat refine xQ ?_
  refine xG rfl ?_
  iterate 3 refine xP rfl rh rfl ?_
  refine xP rfl (e_sub (n:=1) rfl rfl rfl (in_i64 (by omega) (by omega))) rfl ?_
  refine xA noGo rfl (fun _=>rfl) ((hj c G X' ⟨m',s.root,s.cnt⟩ L2 p _ _ ((L1.length:Nat) - 1) htr2 hl2 (by omega) (by omega)).mono ?_)
  rintro u L3 hjp
  rcases hjp with ⟨rfl,htr3,hnj2⟩ | ⟨rfl,X2,m2,A1,k,B1,L4,a3,b,R1,w2,e1,e2,e3,e4,e5,e6,e7,e8,e9,e10,e11⟩
  ·refine ⟨_,rfl,?_⟩
   refine xP rfl rh rfl ?_
   refine xN ?_
   repeat refine xQ ?_
   refine xC rfl (fun hc=>?_) (fun hc=>?_)
   ·cases hc
   repeat refine xQ ?_
   refine xG rfl ?_
   iterate 2 refine xP rfl rh rfl ?_
   refine xN ?_
   refine xT ⟨_,fun _ _=>rfl,?_⟩
   exact ⟨X',m',A',Y,B',L1,M,R',w,{ hw with tr:=htr3 },rfl,hnj2,hnj⟩
  ·refine ⟨_,rfl,?_⟩
   refine xP rfl rh rfl ?_
   refine xN ?_
   repeat refine xQ ?_
   refine xC rfl (fun hc=>?_) (fun hc=>?_)
   ·repeat refine xQ ?_
    refine xG rfl ?_
    refine xP rfl rh rfl ?_
    refine xP rfl (e_sub (n:=1) rfl rfl rfl (in_i64 (by omega) (by omega))) rfl ?_
    refine xP rfl rh rfl ?_
    refine xN ?_
    have hLL:L1.length=(L4++[a3]).length:=by simp; omega
    have hAA:A'.length=(A1++[k]).length:=by simp; omega
    have e2':L1++w::R'=(L4++[a3])++b::R1:=by rw [e2]; simp
    have e1':A'++B'=(A1++[k])++B1:=by rw [e1]; simp
    obtain ⟨rfl,g1⟩:=List.append_inj e2' hLL
    obtain ⟨rfl,rfl⟩:=List.append_inj e1' hAA
    simp only [List.cons.injEq] at g1
    obtain ⟨rfl,rfl⟩:=g1
    have e7':Via m' m2 (inn p (A1++k::B') (L4++a3::w::R')) (inn p (A1++B') (L4++w2::R')):=by simpa using e7
    refine ⟨L4.length+R'.length,by simp <;> omega,X2,m2,A1,k::Y,B',L4,a3::M,R',w2,hw.left e5 e6 e7' e8 e9 e10 e11,rfl,?_⟩
    simp
    rfl
   ·cases hc
 ·refine ⟨_,rfl,?_⟩
  refine xP rfl rh rfl ?_
  refine xN ?_
  have hLL:L1.length=L3.length:=by omega
  have hAA:A'.length=A1.length:=by omega
  obtain ⟨rfl,g1⟩:=List.append_inj e2 hLL
  obtain ⟨rfl,rfl⟩:=List.append_inj e1 hAA
  simp only [List.cons.injEq] at g1
  obtain ⟨rfl,rfl⟩:=g1
  repeat refine xQ ?_
  refine xC rfl (fun hc=>?_) (fun hc=>?_)
  ·refine LS.skip ?_
   exact ⟨L1.length+R1.length,by simp,X2,m2,A',Y++[k],B1,L1,M++[b],R1,w2,hw.right e5 e6 e7 e8 e9 e10 e11,rfl,rfl⟩
  ·cases hc
end Go.Proofs.YtlmmddfhoabjfaaGreat
end
section
namespace Go.Proofs.YtlmmddfhoabjfaaGreat
open Go.Am
theorem NJ.idx {h:Nat} {ks:List Tx} {ts:List (Tr h)} {j:Nat}:NJ ks ts (j:Nat)↔∀ k a b,ks[j]?=some k->ts[j]?=some a->ts[j+1]?=some b->fitsN (joinN (nd h a) k (nd h b))=false:=by
 constructor
 ·intro hn k a b h1 h2 h3
  obtain ⟨g1,e1⟩:=List.getElem?_eq_some_iff.1 h1
  obtain ⟨g2,e2⟩:=List.getElem?_eq_some_iff.1 h2
  obtain ⟨g3,e3⟩:=List.getElem?_eq_some_iff.1 h3
  refine hn (ks.take j) k (ks.drop (j+1)) (ts.take j) a b (ts.drop (j+2)) ?_ ?_ (by simp; omega) (by simp; omega)
  ·subst e1; simp
  ·subst e2 e3; simp
 ·intro hi A k B L a b R h1 h2 h3 h4
  have h4:L.length=j:=by omega
  refine hi k a b ?_ ?_ ?_
  ·rw [h1,← h4,← h3]; simp
  ·rw [h2,← h4]; simp
  ·rw [h2,← h4]; simp
theorem NJ.all {h:Nat} {ks:List Tx} {ts:List (Tr h)} (hn:∀ j:Nat,NJ ks ts (j:Nat)):∀ i,NJ ks ts i:=fun i=>by
 by_cases h0:i < 0
 ·exact NJ.neg h0
 ·obtain ⟨j,rfl⟩:=Int.eq_ofNat_of_zero_le (show 0<=i by omega)
  exact hn j
theorem win_nj {h:Nat} {A Y B:List Tx} {L M R:List (Tr h)} {w:Tr h} (la:A.length=L.length) (lm:M.length=Y.length+1) (h1:NJ (A++B) (L++w::R) ((L.length:Int) - 1)) (h2:NJ (A++B) (L++w::R) (L.length:Int))
  (hlo:∀ j:Nat,j+1 < L.length->NJ (A++(Y++B)) (L++(M++R)) (j:Nat)) (J:Nat) (hhi:∀ j:Nat,L.length+Y.length < j->j < J+Y.length->NJ (A++(Y++B)) (L++(M++R)) (j:Nat)):∀ j:Nat,j < J->NJ (A++B) (L++w::R) (j:Nat):=fun j hJ=>by
 rcases Nat.lt_trichotomy j L.length with hj | hj | hj
 ·by_cases hj1:j+1=L.length
  ·have:((j:Nat):Int)=(L.length:Int) - 1:=by omega
   rw [this]; exact h1
  ·have hn:=NJ.idx.1 (hlo j (by omega))
   refine NJ.idx.2 fun k a b e1 e2 e3=>hn k a b ?_ ?_ ?_
   ·rw [List.getElem?_append_left (by omega)] at e1 ⊢; exact e1
   ·rw [List.getElem?_append_left (by omega)] at e2 ⊢; exact e2
   ·rw [List.getElem?_append_left (by omega)] at e3 ⊢; exact e3
 ·rw [hj]; exact h2
 ·have hn:=NJ.idx.1 (hhi (j+Y.length) (by omega) (by omega))
  have f1:∀ i,L.length < i->(L++w::R)[i]?=R[i - L.length - 1]?:=fun i hi=>by
   obtain ⟨d,rfl⟩:∃ d,i=L.length+1+d:=⟨i - L.length - 1,by omega⟩
   rw [List.getElem?_append_right (by omega),show L.length+1+d - L.length=d+1 by omega,List.getElem?_cons_succ]
   congr 1 <;> omega
  have f2:∀ i,L.length < i->(L++(M++R))[i+Y.length]?=R[i - L.length - 1]?:=fun i hi=>by
   rw [List.getElem?_append_right (by omega),List.getElem?_append_right (by omega)]
   congr 1; omega
  refine NJ.idx.2 fun k a b e1 e2 e3=>hn k a b ?_ ?_ ?_
  ·rw [List.getElem?_append_right (by omega)] at e1
   rw [List.getElem?_append_right (by omega),List.getElem?_append_right (by omega)]
   rw [← e1]; congr 1; omega
  ·rw [f2 j hj,← f1 j hj]; exact e2
  ·rw [show j+Y.length+1=(j+1)+Y.length by omega,f2 (j+1) (by omega),← f1 (j+1) (by omega)]; exact e3
theorem settle_out {h:Nat} (hj:JoinP h) {c:Cfg} {G X:RL} {s:TSt} {L:RL} {p:Nat} {ks:List Tx} {ts:List (Tr h)} {i:Int} (htr:TR c G X s L) (hloc:Loc s.m p ks ts) (hi:i < 0∨(ts.length:Int)<=i) (h1:-8<=i) (h2:i<=1000) :
  CS Tryz.prog 101 [ptr c.rt,.int .i64 (p:Nat),.int .i64 i] L fun u L'=>u=.int .i64 i/\TR c G X s L':=by
 have hno:∀ (L2:RL) (u:Value) (q:Int),q<=i->(i<=q+1)->JPost c G X s p ks ts q u L2->u=.bool false/\TR c G X s L2:=fun L2 u q hq hq2 hp=>by
  rcases hp with ⟨rfl,h3,_⟩ | ⟨rfl,X2,m2,A1,k,B1,L3,a3,b,R1,w2,e1,e2,e3,e4,_⟩
  ·exact ⟨rfl,h3⟩
  ·exfalso
   rw [e2] at hi
   simp only [List.length_append,List.length_cons] at hi
   omega
 refine CS.mk (fn:=Tryz.f101) rfl rfl rfl rfl ?_
 repeat refine xQ ?_
 refine xG rfl ?_
 refine xP rfl rh rfl ?_
 refine xN ?_
 repeat refine xQ ?_
 refine LS.block ?_
 refine LS.loopJ [0,1,2] (fun z a' L'=>z=0/\L'=L/\a'=[ptr c.rt,.int .i64 (p:Nat),.int .i64 i,jn,jn,jn,jn,jn,jn,jn,jn,jn,jn,jn,jn,jn,jn,jn,jn,jn,jn]) (n:=0) rfl ⟨rfl,rfl,rfl⟩ ?_
 rintro z a' L' ⟨rfl,rfl,rfl⟩
 repeat refine xQ ?_
 refine LS.block ?_
 repeat refine xQ ?_
 refine LS.block ?_
 repeat refine xQ ?_
 refine xG rfl ?_
 iterate 3 refine xP rfl rh rfl ?_
 refine xA noGo rfl (fun _=>rfl) ((hj c G X s L' p ks ts i htr hloc (by omega) (by omega)).mono ?_)
 rintro u L2 hjp
 obtain ⟨rfl,htr2⟩:=hno _ _ _ (by omega) (by omega) hjp
 refine ⟨_,rfl,?_⟩
 refine xP rfl rh rfl ?_
 refine xN ?_
 repeat refine xQ ?_
 refine xC rfl (fun hc=>?_) (fun hc=>?_)
 ·cases hc
 repeat refine xQ ?_
 refine xG rfl ?_
 iterate 3 refine xP rfl rh rfl ?_
 refine xP rfl (e_sub (n:=1) rfl rfl rfl (in_i64 (by omega) (by omega))) rfl ?_
 refine xA noGo rfl (fun _=>rfl) ((hj c G X s L2 p ks ts (i - 1) htr2 hloc (by omega) (by omega)).mono ?_)
 rintro u L3 hjp
 obtain ⟨rfl,htr3⟩:=hno _ _ _ (by omega) (by omega) hjp
 refine ⟨_,rfl,?_⟩
 refine xP rfl rh rfl ?_
 refine xN ?_
 repeat refine xQ ?_
 refine xC rfl (fun hc=>?_) (fun hc=>?_)
 ·cases hc
 repeat refine xQ ?_
 refine xG rfl ?_
 iterate 2 refine xP rfl rh rfl ?_
 refine xN ?_
 refine xT ⟨_,fun _ _=>rfl,?_⟩
 exact ⟨rfl,htr3⟩
theorem join_neg {c:Cfg} {G X:RL} {s:TSt} {L:RL} {p:Nat} {n:Nd} {i:Int} (htr:TR c G X s L) (hm:s.m p=some n) (hi:i < 0) (h1:-10<=i) :
  CS Tryz.prog 131 [ptr c.rt,.int .i64 (p:Nat),.int .i64 i] L fun u L'=>u=.bool false/\TR c G X s L':=by
 obtain ⟨T,es,ck,ws,wk,g,rfl,hN,hp,hg,hmr⟩:=htr.now
 obtain ⟨r,hgr0,v1,v2,v3,hr,hP⟩:=(hmr p).2 _ hm
 have hgr:(g p).getD (.pointer none)=ptr r:=by rw [hgr0]; rfl
 refine CS.mk (fn:=Tryz.f131) rfl rfl rfl rfl ?_
 repeat refine xQ ?_
 refine xG rfl ?_
 refine OS.fresh rfl (e_boxV (v:=.int .i64 i) (cs:=[.int .i64 i]) rfl rfl rfl rfl rfl) (fun _=>rfl) (fun r5=>?_)
 refine xP rfl rh rfl ?_
 refine OS.sub Sub.inQ ?_
 refine xN ?_
 repeat refine xQ ?_
 refine xG rfl ?_
 iterate 4 refine xP rfl rh rfl ?_
 refine xR rfl (e_load 2 rfl rfl rfl rfl rfl) rfl ?_
 refine xP rfl rh rfl ?_
 refine xR rfl (e_get hg (by simp) rfl rfl rfl rfl (fun _=>rfl) rfl) rfl ?_
 rw [hgr]
 refine xP rfl rh rfl ?_
 refine xN ?_
 repeat refine xQ ?_
 refine LS.drawn noGo mixed [(0,false),(1,false),(2,false),(3,false),(4,false),(5,false),(6,false),(7,false),(8,false),(9,false),(10,false),(11,false)] rfl rfl (by kernel_rfl) ?_
 refine xE rfl rfl (e_load 5 rfl rfl rfl rfl rfl) rfl ?_
 have hb:(!ileB 0 i)=true:=by rw [ileB_eq,decide_eq_false (by omega)]; rfl
 refine xD rfl rfl (e_ib rh (hb)) rfl ?_
 refine xD rfl rfl rh rfl ?_
 iterate 8 refine xS rfl rfl rfl ?_
 refine xD rfl rfl rh rfl ?_
 refine xM ?_
 repeat refine xQ ?_
 refine xC rfl (fun hc=>?_) (fun hc=>?_)
 ·repeat refine xQ ?_
  refine xG rfl ?_
  refine xP rfl rh rfl ?_
  refine OS.sub (Sub.drop 5 rfl) ?_
  refine xN ?_
  refine xT ⟨_,fun _ _=>rfl,?_⟩
  exact ⟨rfl,⟨T,es,ck,ws,wk,hN,rfl,hp⟩⟩
 ·cases hc
theorem settle_neg {c:Cfg} {G X:RL} {s:TSt} {L:RL} {p:Nat} {n:Nd} {i:Int} (htr:TR c G X s L) (hm:s.m p=some n) (hi:i < 0) (h1:-8<=i) :
  CS Tryz.prog 101 [ptr c.rt,.int .i64 (p:Nat),.int .i64 i] L fun u L'=>u=.int .i64 i/\TR c G X s L':=by
 refine CS.mk (fn:=Tryz.f101) rfl rfl rfl rfl ?_
 repeat refine xQ ?_
 refine xG rfl ?_
 refine xP rfl rh rfl ?_
 refine xN ?_
 repeat refine xQ ?_
 refine LS.block ?_
 refine LS.loopJ [0,1,2] (fun z a' L'=>z=0/\L'=L/\a'=[ptr c.rt,.int .i64 (p:Nat),.int .i64 i,jn,jn,jn,jn,jn,jn,jn,jn,jn,jn,jn,jn,jn,jn,jn,jn,jn,jn]) (n:=0) rfl ⟨rfl,rfl,rfl⟩ ?_
 rintro z a' L' ⟨rfl,rfl,rfl⟩
 repeat refine xQ ?_
 refine LS.block ?_
 repeat refine xQ ?_
 refine LS.block ?_
 repeat refine xQ ?_
 refine xG rfl ?_
 iterate 3 refine xP rfl rh rfl ?_
 refine xA noGo rfl (fun _=>rfl) ((join_neg htr hm hi (by omega)).mono ?_)
 rintro u L2 ⟨rfl,htr2⟩
 refine ⟨_,rfl,?_⟩
 refine xP rfl rh rfl ?_
 refine xN ?_
 repeat refine xQ ?_
 refine xC rfl (fun hc=>?_) (fun hc=>?_)
 ·cases hc
 repeat refine xQ ?_
 refine xG rfl ?_
 iterate 3 refine xP rfl rh rfl ?_
 refine xP rfl (e_sub (n:=1) rfl rfl rfl (in_i64 (by omega) (by omega))) rfl ?_
 refine xA noGo rfl (fun _=>rfl) ((join_neg (i:=i - 1) htr2 hm (by omega) (by omega)).mono ?_)
 rintro u L3 ⟨rfl,htr3⟩
 refine ⟨_,rfl,?_⟩
 refine xP rfl rh rfl ?_
 refine xN ?_
 repeat refine xQ ?_
 refine xC rfl (fun hc=>?_) (fun hc=>?_)
 ·cases hc
 repeat refine xQ ?_
 refine xG rfl ?_
 iterate 2 refine xP rfl rh rfl ?_
 refine xN ?_
 refine xT ⟨_,fun _ _=>rfl,?_⟩
 exact ⟨rfl,htr3⟩
theorem seam_0:SeamP 0:=by
 intro c G X s L a b k htr hrep hnod hok ha hb
 have hz:(nd 0 a).kids.length=0:=rfl
 have hno:no 0 (mrg 0 a k b)=no 0 a:=rfl
 have hm:=hrep.top
 rw [hno] at hm
 refine (settle_neg htr hm (by rw [hz]; decide) (by rw [hz]; decide)).mono ?_
 rintro u L' ⟨_,h2⟩
 exact ⟨X,s.m,mrg 0 a k b,fun _ hq=>hq,h2,Via.refl hrep hnod,hok,Nat.le_refl _,fun _ _=>trivial⟩
theorem seam_s {h:Nat} (hs:SetP h):SeamP (h+1):=by
 intro c G X s L a b k htr hrep hnod hok ha hb
 obtain ⟨pa,ka,ta,rfl⟩:=inn_eta a
 obtain ⟨pb,kb,tb,rfl⟩:=inn_eta b
 have la:=ha.len
 have lb:=hb.len
 have hloc:Loc s.m pa (ka++k::kb) (ta++tb):=⟨hrep,hnod,fun q hq=>by
  rcases List.mem_append.1 hq with h1 | h1
  ·exact ha.kid q h1
  ·exact hb.kid q h1,.inl (Bg.of (show fitsN (nd (h+1) (mrg (h+1) (inn pa ka ta) k (inn pb kb tb)))=true from hok.fits))⟩
 have hz:(nd (h+1) (inn pa ka ta)).kids.length=ta.length:=by simp [nos]
 rw [hz]
 refine (hs c G X s L pa _ _ ((ta.length:Int) - 1) htr hloc (by omega) (by rw [List.length_append]; omega)).mono ?_
 rintro u L' ⟨X',m',A,Y,B,L1,M,R,w,hw,rfl,n1,n2⟩
 have hl2:=hw.loc (hloc.bg (by intro hh; rw [List.append_eq_nil_iff] at hh; rw [hh.1] at la; simp at la)) hloc.ok
 refine ⟨X',m',inn pa (A++B) (L1++w::R),hw.hX,hw.tr,hw.via,⟨hw.less.fits hok.fits,hl2.ok⟩,hw.fr,fun td1 td2=>?_⟩
 have hkid:∀ q∈ta++tb,Tdy h q:=fun q hq=>by
  rcases List.mem_append.1 hq with h1 | h1
  ·exact (tdy_inn.1 td1).2 q h1
  ·exact (tdy_inn.1 td2).2 q h1
 have ht:=hw.ht
 have hk:=hw.hk
 rw [tdy_inn]
 refine ⟨NJ.all fun j=>win_nj hw.la hw.lm n1 n2 (fun j hj=>?_) (j+1) (fun j' hj _=>?_) j (by omega),fun q hq=>?_⟩
 ·rw [← hk,← ht]
  have hlo:=hw.lo
  have hn:=NJ.idx.1 ((tdy_inn.1 td1).1 (j:Nat))
  refine NJ.idx.2 fun k' a b e1 e2 e3=>hn k' a b ?_ ?_ ?_
  ·rw [List.getElem?_append_left (by omega)] at e1; exact e1
  ·rw [List.getElem?_append_left (by omega)] at e2; exact e2
  ·rw [List.getElem?_append_left (by omega)] at e3; exact e3
 ·rw [← hk,← ht]
  have hhi:=hw.hi
  have hlm:=hw.lm
  have hn:=NJ.idx.1 ((tdy_inn.1 td2).1 ((j' - ta.length:Nat)))
  refine NJ.idx.2 fun k' a b e1 e2 e3=>hn k' a b ?_ ?_ ?_
  ·rw [List.getElem?_append_right (by omega),show j' - ka.length=(j' - ta.length)+1 by omega,List.getElem?_cons_succ] at e1; exact e1
  ·rw [List.getElem?_append_right (by omega)] at e2; exact e2
  ·rw [List.getElem?_append_right (by omega),show j'+1 - ta.length=(j' - ta.length)+1 by omega] at e3; exact e3
 ·rcases List.mem_append.1 hq with h1 | h1
  ·exact hkid q (by rw [ht]; simp [h1])
  ·rcases List.mem_cons.1 h1 with rfl | h1
   ·exact hw.td fun q hq=>hkid q (by rw [ht]; simp [hq])
   ·exact hkid q (by rw [ht]; simp [h1])
theorem join_all:∀ h,JoinP h
 | 0=>join_of seam_0
 | h+1=>join_of (seam_s (settle_of (join_all h)))
theorem settle_all (h:Nat):SetP h:=settle_of (join_all h)
end Go.Proofs.YtlmmddfhoabjfaaGreat
end
section
namespace Go.Am
section
variable {P:Program} {o:Oper} {a:Slots} {L X:RL}
theorem OS.slice3 {ops rest:List Oper} {K:Slots->RL->Prop} {e t:TypeId} {x y z:Operand} {k k':IntKind} {sz n u:Nat} {v:Value} {cs:List Value} (hs:PL e sz X v n cs) (hw:wantedB ops o a=true) (ho:o.op=.slice t x none (some y) (some z)) (hx:aev a x=some v) (hy:aev a y=some (.int k (u:Nat))) (hz':aev a z=some (.int k' (u:Nat)))
  (ht:P.underlying t=some (.slice e)) (hz:sizeB P e=some sz) (hu:u<=n) (hub:u<=1000000000000) (kk:∀ v',PL e sz X v' u (cs.take (u * sz))->∃ a₁,putAt a o.dst v'=some a₁/\OS P ops rest a₁ L K):OS P ops (o::rest) a L K:=by
 obtain ⟨v',h1,h2⟩:=e_slice3 hs ho hx hy hz' ht hz hu hub
 obtain ⟨a₁,ep,k⟩:=kk v' h1
 exact xP hw h2 ep k
theorem ODS.slice3 {ops:List Oper} {ms:List Nat} {sched:List (Nat × Bool)} {dn:Dn} {q:Nat} {K:Slots->RL->Prop} {e t:TypeId} {x y z:Operand} {k k':IntKind} {sz n u:Nat} {v:Value} {cs:List Value} (hs:PL e sz X v n cs) (hq:ops[q]?=some o) (hw:wantedB ops o a=true) (ho:o.op=.slice t x none (some y) (some z)) (hx:aev a x=some v) (hy:aev a y=some (.int k (u:Nat))) (hz':aev a z=some (.int k' (u:Nat)))
  (ht:P.underlying t=some (.slice e)) (hz:sizeB P e=some sz) (hu:u<=n) (hub:u<=1000000000000) (kk:∀ v',PL e sz X v' u (cs.take (u * sz))->∃ a₁,putAt a o.dst v'=some a₁/\ODS P ops ms K sched dn a₁ L):ODS P ops ms K ((q,false)::sched) dn a L:=by
 obtain ⟨v',h1,h2⟩:=e_slice3 hs ho hx hy hz' ht hz hu hub
 obtain ⟨a₁,ep,k⟩:=kk v' h1
 exact xD hq hw h2 ep k
theorem e_slicePLa {e:TypeId} {sz n:Nat} {v:Value} {cs:List Value} {X:RL} {o:Oper} {a:Slots} {t:TypeId} {x:Operand} {lo hi:Option Operand} {lo' hi':Option Value} {l u:Nat} (hs:PL e sz X v n cs) (ho:o.op=.slice t x lo hi none) (hx:aev a x=some v)
  (hlo:optEv a lo=some lo') (hhi:optEv a hi=some hi') (bl:boundB lo' 0=some l) (bu:boundB hi' n=some u) (ht:P.underlying t=some (.slice e)) (hz:sizeB P e=some sz) (hu:u<=n) (hl:l<=u) :
  ∃ v',PL e sz X v' (u - l) ((cs.drop (l * sz)).take ((u - l) * sz))/\∀ L:RL,(∀ p,p∈X->p∈L)->∀ h,Has h L->opB P a o h=some (.val v' h):=by
 have hm:optEv a none=some none:=rfl
 have h2:Nat.ble l u=true:=Nat.ble_eq_true_of_le hl
 rcases hs with ⟨rfl,rfl,rfl⟩ | ⟨r,off,cap,cs₀,rfl,hmem,hcut,hnc,hco⟩
 ·have hu0:u=0:=by omega
  subst hu0
  have hl0:l=0:=by omega
  subst hl0
  refine ⟨.slice none 0 0,.inl ⟨rfl,rfl,by simp⟩,fun L hX h _=>?_⟩
  have hc:Nat.beq 0 openCap=false:=beq_false (by decide)
  have h1:Nat.ble 0 (farB 0 0)=true:=rfl
  have h3:rowOk h e none 0=true:=by unfold rowOk; rw [hc]; rfl
  simp only [opB,ho,hx,hlo,hhi,hm,sliceB,ht,bu,bl,hz,h1,h2,h3,Bool.true_and,moved,hc,ret]
 ·have hlen:=(cut_eq hcut).2.2.1
  have hcut':cut cs₀ (off+l * sz) ((u - l) * sz)=some ((cs.drop (l * sz)).take ((u - l) * sz)):=by
   refine cut_cut hcut (cut_of ?_)
   rw [hlen,← Nat.add_mul]
   exact Nat.mul_le_mul_right _ (by omega)
  by_cases hne:cap=openCap
  ·subst hne
   refine ⟨.slice (some ⟨r,off+l * sz,none⟩) (u - l) openCap,.inr ⟨r,_,_,cs₀,rfl,hmem,hcut',by omega,Nat.le_refl _⟩,fun L hX h H=>?_⟩
   have hcb:Nat.beq openCap openCap=true:=beq_true rfl
   have h1:Nat.ble u (farB n openCap)=true:=by unfold farB; rw [hcb]; exact Nat.ble_eq_true_of_le hu
   have hg:getRow h r=some (e,cs₀):=by unfold getRow; rw [H.get _ (hX _ hmem)]
   have h3:rowOk h e (some ⟨r,off,none⟩) openCap=true:=by unfold rowOk; rw [hcb]; simp only [hg,beq_true rfl]
   simp only [opB,ho,hx,hlo,hhi,hm,sliceB,ht,bu,bl,hz,h1,h2,h3,Bool.true_and,moved,hcb,ret]
  ·refine ⟨.slice (some ⟨r,off+l * sz,none⟩) (u - l) (cap - l),.inr ⟨r,_,_,cs₀,rfl,hmem,hcut',by omega,by omega⟩,fun L hX h H=>?_⟩
   have hcb:Nat.beq cap openCap=false:=beq_false hne
   have h1:Nat.ble u (farB n cap)=true:=by unfold farB; rw [hcb]; exact Nat.ble_eq_true_of_le (Nat.le_trans hu hnc)
   have h3:rowOk h e (some ⟨r,off,none⟩) cap=true:=by unfold rowOk; rw [hcb]; exact Nat.ble_eq_true_of_le hco
   simp only [opB,ho,hx,hlo,hhi,hm,sliceB,ht,bu,bl,hz,h1,h2,h3,Bool.true_and,moved,hcb,ret]
theorem ODS.slicePLa {ops:List Oper} {ms:List Nat} {sched:List (Nat × Bool)} {dn:Dn} {q:Nat} {o:Oper} {a:Slots} {X L:RL} {K:Slots->RL->Prop} {e t:TypeId} {x:Operand} {sz n l u:Nat} {v:Value} {cs:List Value} {lo hi:Option Operand} {lo' hi':Option Value} (hs:PL e sz X v n cs) (hX:∀ p,p∈X->p∈L) (hq:ops[q]?=some o) (hw:wantedB ops o a=true) (ho:o.op=.slice t x lo hi none) (hx:aev a x=some v)
  (hlo:optEv a lo=some lo') (hhi:optEv a hi=some hi') (bl:boundB lo' 0=some l) (bu:boundB hi' n=some u) (ht:P.underlying t=some (.slice e)) (hz:sizeB P e=some sz) (hu:u<=n) (hl:l<=u)
  (k:∀ v',PL e sz X v' (u - l) ((cs.drop (l * sz)).take ((u - l) * sz))->(∀ L:RL,(∀ p,p∈X->p∈L)->∀ h,Has h L->opB P a o h=some (.val v' h))->∃ a₁,putAt a o.dst v'=some a₁/\ODS P ops ms K sched ((q,a,v')::dn) a₁ L):ODS P ops ms K ((q,false)::sched) dn a L:=by
 obtain ⟨v',h1,h2⟩:=e_slicePLa hs ho hx hlo hhi bl bu ht hz hu hl
 obtain ⟨a₁,ep,k⟩:=k v' h1 h2
 exact xE hq hw (h2 L hX) ep k
theorem res_cell3 (i j:Nat) {x y z r off r' off':Nat} {t t':TypeId} {row row':ARow} {cs cs':List Value} {v u w:Value} (hx:a[x]?=some (.pointer (some ⟨r,off,none⟩))) (hL:L[i]?=some (r,row)) (hc:rdRow row=some cs) (hv:partB P t cs off=some v) (hy:a[y]?=some u)
  (hz:a[z]?=some (.pointer (some ⟨r',off',none⟩))) (hL':L[j]?=some (r',row')) (hc':rdRow row'=some cs') (hv':partB P t' cs' off'=some w):∀ h,Has h L->resultsB P a h [.cell x t,.tmp y,.cell z t']=some [v,u,w]:=by
 intro h H
 simp only [resultsB,hx,hy,hz,loadB,H.read hL hc,H.read hL' hc',hv,hv']
end
end Go.Am
namespace Go.Proofs.YtlmmddfhoabjfaaGreat
open Go.Am
theorem e_build0 {a:Slots} {o:Oper} {i0:Operand} {b:Bool} (ho:o.op=.build 38 #[(0,i0)]) (h0:aev a i0=some (.bool b)) :
  ∀ h,opB Tryz.prog a o h=some (.val (ndV b (.slice none 0 0) (.slice none 0 0) (.slice none 0 0)) h):=by
 intro h
 simp only [opB,ho,evParts,h0]; rfl
theorem e_build1 {a:Slots} {o:Oper} {i0 i1:Operand} {b:Bool} {v1:Value} (s1:IsSl v1) (ho:o.op=.build 38 #[(0,i0),(1,i1)]) (h0:aev a i0=some (.bool b)) (h1:aev a i1=some v1) :
  ∀ h,opB Tryz.prog a o h=some (.val (ndV b v1 (.slice none 0 0) (.slice none 0 0)) h):=by
 intro h
 rcases s1 with rfl | ⟨r1,o1,n1,c1,rfl⟩ <;> (simp only [opB,ho,evParts,h0,h1]; rfl)
theorem isSl0:IsSl (.slice none 0 0):=.inl rfl
def cutL (n:Nd) (at':Nat):Nd:=⟨n.leaf,n.ks.take at',if n.leaf then n.vs.take at' else [],if n.leaf then [] else n.kids.take (at'+1)⟩
def cutR (n:Nd) (at':Nat):Nd:=⟨n.leaf,n.ks.drop (if n.leaf then at' else at'+1),if n.leaf then n.vs.drop at' else [],if n.leaf then [] else n.kids.drop (at'+1)⟩
theorem pl_take {X:RL} {e:TypeId} {v:Value} {n u:Nat} {cs cs':List Value} (h:PL e 1 X v u (cs.take (u * 1))) (hc:cs.take u=cs'):PL e 1 X v u cs':=by
 rw [Nat.mul_one,hc] at h; exact h
theorem pl_drop {X:RL} {e:TypeId} {v:Value} {n l:Nat} {cs cs':List Value} (h:PL e 1 X v (n - l) ((cs.drop (l * 1)).take ((n - l) * 1))) (hl:cs.length=n) (hc:cs.drop l=cs'):PL e 1 X v (n - l) cs':=by
 rw [Nat.mul_one,Nat.mul_one,hc,List.take_of_length_le (by rw [← hc,List.length_drop,hl]; omega)] at h; exact h
theorem pl_nil {X:RL} {e:TypeId} {sz:Nat}:PL e sz X (.slice none 0 0) 0 []:=.inl ⟨rfl,rfl,rfl⟩
theorem GoodN.leafv {n:Nd} (h:GoodN n) (hl:n.leaf=true):n.vs.length=n.ks.length:=by
 rcases h with ⟨_,h,_⟩ | ⟨h,_⟩
 ·exact h
 ·rw [hl] at h; cases h
theorem GoodN.kidsz {n:Nd} (h:GoodN n) (hl:n.leaf=false):n.kids.length=n.ks.length+1:=by
 rcases h with ⟨h,_⟩ | ⟨_,h,_⟩
 ·rw [hl] at h; cases h
 ·exact h
set_option maxHeartbeats 4000000 in
theorem cut_ct {X L:RL} {r at':Nat} {n:Nd} (hX:∀ p,p∈X->p∈L) (hN:NodeAt X r n) (hs:Sm n) (hg:GoodN n) (hat:at' < n.ks.length) :
  CS Tryz.prog 178 [ptr r,.int .i64 (at':Nat)] L fun u L'=>∃ w1 w2 w3 x1 x2 x3,u=.tuple #[ndV n.leaf w1 w2 w3,txt n.ks[at'],ndV n.leaf x1 x2 x3]/\L'=L/\PN X (cutL n at') w1 w2 w3/\PN X (cutR n at') x1 x2 x3:=by
 suffices g:CS Tryz.prog 178 [ptr r,.int .i64 (at':Nat)] L fun u L'=>∃ x y w1 w2 w3 x1 x2 x3,u=.tuple #[ndV n.leaf w1 w2 w3,txt n.ks[at'],ndV n.leaf x1 x2 x3]/\L'=x::y::L/\PN X (cutL n at') w1 w2 w3/\PN X (cutR n at') x1 x2 x3 by
  exact g.less fun u L' ⟨x,y,w1,w2,w3,x1,x2,x3,h1,h2,h3⟩=>⟨_,by rw [h2]; exact Sub.suffix (X:=[x,y]),w1,w2,w3,x1,x2,x3,h1,rfl,h3⟩
 obtain ⟨v1,v2,v3,hr,hP⟩:=hN
 obtain ⟨lf,ks,vs,kids⟩:=n
 have e1:=hs.k; have e2:=hs.v; have e3:=hs.z
 have gl:=hg.leafv; have gk:=hg.kidsz
 simp only at e1 e2 e3 hat gl gk hr
 have lk:(tx ks).length=ks.length:=by simp
 have lv:(tx vs).length=vs.length:=by simp
 have lz:(nums kids).length=kids.length:=by simp
 have hm:∀ (x y:Nat × ARow) p,p∈X->p∈x::y::L:=fun x y p hp=>List.mem_cons_of_mem _ (List.mem_cons_of_mem _ (hX p hp))
 refine CS.mk (fn:=Tryz.f178) rfl rfl rfl rfl ?_
 repeat refine xQ ?_
 refine xG rfl ?_
 refine OS.fresh rfl (e_new (fun _=>rfl) rfl) (fun _=>rfl) (fun r4=>?_)
 refine xP rfl rh rfl ?_
 refine OS.fresh rfl (e_new (fun _=>rfl) rfl) (fun _=>rfl) (fun r6=>?_)
 refine xN ?_
 have m1:=hm (r6,zRow) (r4,zRow) _ hr
 repeat refine xQ ?_
 refine LS.drawn noGo mixed [(0,false),(1,false),(2,false),(3,false),(4,false),(5,false),(6,false),(7,false),(8,false),(9,false),(10,false),(11,false),(12,true)] rfl rfl (by kernel_rfl) ?_
 iterate 3 refine xD rfl rfl rh rfl ?_
 refine xE rfl rfl (e_loadm m1 rfl rfl rfl rfl) rfl ?_
 iterate 3 refine xD rfl rfl rh rfl ?_
 refine xE rfl rfl (e_loadm m1 rfl rfl rfl rfl) rfl ?_
 iterate 2 refine xD rfl rfl rh rfl ?_
 refine ODS.slice3 hP.k rfl rfl rfl rfl rfl rfl rfl rfl (by simp only; omega) (by omega) (fun w1 hw1=>⟨_,rfl,?_⟩)
 have hk1:=pl_take (n:=ks.length) hw1 (cs':=tx (ks.take at')) (List.map_take ..).symm
 refine xD rfl rfl (e_build1 (isSl hk1.sv) rfl rfl rfl) rfl ?_
 refine ODS.write rfl rfl (e_store 1 (n:=4) rfl rfl rfl rfl rfl (nd_one (isSl hk1.sv) isSl0 isSl0) rfl rfl) rfl (by repeat (first | exact Keep.nil | refine Keep.gone rfl ?_)) ?_
 refine xM ?_
 have m2:=hm (r6,zRow) (r4,ndRow lf w1 (.slice none 0 0) (.slice none 0 0)) _ hr
 repeat refine xQ ?_
 refine xG rfl ?_
 iterate 3 refine xP rfl rh rfl ?_
 refine xR rfl (e_loadm m2 rfl rfl rfl rfl) rfl ?_
 refine xP rfl (e_build0 rfl rfl) rfl ?_
 refine OS.write rfl (e_store 0 (n:=4) rfl rfl rfl rfl rfl (nd_one isSl0 isSl0 isSl0) rfl rfl) rfl ?_
 refine xN ?_
 have m3:=hm (r6,ndRow lf (.slice none 0 0) (.slice none 0 0) (.slice none 0 0)) (r4,ndRow lf w1 (.slice none 0 0) (.slice none 0 0)) _ hr
 repeat refine xQ ?_
 refine xG rfl ?_
 iterate 3 refine xP rfl rh rfl ?_
 refine xR rfl (e_loadm m3 rfl rfl rfl rfl) rfl ?_
 refine xN ?_
 repeat refine xQ ?_
 refine LS.mid [0,1,4,5,6] (fun a L'=>∃ w2 w3 x1 x2 x3,PN X (cutL ⟨lf,ks,vs,kids⟩ at') w1 w2 w3/\PN X (cutR ⟨lf,ks,vs,kids⟩ at') x1 x2 x3/\L'=(r6,ndRow lf x1 x2 x3)::(r4,ndRow lf w1 w2 w3)::L/\a=[ptr r,.int .i64 (at':Nat),jn,jn,ptr r4,.string ⟨⟨[]⟩⟩,ptr r6,jn,jn,jn,jn,jn,jn,jn,jn,jn,jn,jn,jn,jn,jn,jn,jn,jn,jn,jn,jn,jn,jn,jn,jn,jn,jn,jn,jn,jn,jn,jn,jn,jn,jn,jn,jn,jn,jn,jn,jn,jn,jn,jn,jn,jn,jn,jn,jn,jn,jn,jn,jn,jn,jn,jn,jn,jn,jn,jn,jn,jn,jn,jn,jn,jn,jn,jn,jn,jn,jn,jn,jn,jn,jn,jn,jn,jn,jn]) ?_ ?_
 ·cases lf with
  | true =>
   have hvl:=gl rfl
   refine xC rfl (fun hc=>?_) (fun hc=>by cases hc)
   repeat refine xQ ?_
   refine xG rfl ?_
   iterate 3 refine xP rfl rh rfl ?_
   refine xR rfl (e_loadm m3 rfl rfl rfl rfl) rfl ?_
   iterate 2 refine xP rfl rh rfl ?_
   refine OS.slice3 hP.v rfl rfl rfl rfl rfl rfl rfl (by simp only; omega) (by omega) (fun w2 hw2=>⟨_,rfl,?_⟩)
   have hv2:=pl_take (n:=vs.length) hw2 (cs':=tx (vs.take at')) (List.map_take ..).symm
   refine xP rfl rh rfl ?_
   refine OS.write rfl (e_storeS 1 (isSl hv2.sv) rfl rfl rfl rfl rfl rfl rfl) rfl ?_
   refine xN ?_
   have m4:=hm (r6,ndRow true (.slice none 0 0) (.slice none 0 0) (.slice none 0 0)) (r4,ndRow true w1 w2 (.slice none 0 0)) _ hr
   repeat refine xQ ?_
   refine LS.drawn noGo mixed [(0,false),(1,false),(2,false),(3,false),(4,false),(5,false),(6,false),(7,false),(8,false),(9,false),(10,false),(11,false),(12,false),(13,true),(14,false),(15,true)] rfl rfl (by kernel_rfl) ?_
   iterate 3 refine xD rfl rfl rh rfl ?_
   refine xE rfl rfl (e_loadm m4 rfl rfl rfl rfl) rfl ?_
   refine xD rfl rfl rh rfl ?_
   refine ODS.slicePL hP.k (hm _ _) rfl rfl rfl rfl rfl rfl bound_nat rfl rfl rfl (Nat.le_refl _) (by simp only; omega) (fun x1 hx1=>⟨_,rfl,?_⟩)
   have hxk:=pl_drop hx1 (cs':=tx (ks.drop at')) (by simp) (List.map_drop ..).symm
   iterate 3 refine xD rfl rfl rh rfl ?_
   refine xE rfl rfl (e_loadm m4 rfl rfl rfl rfl) rfl ?_
   refine xD rfl rfl rh rfl ?_
   refine ODS.slicePLa hP.v (hm _ _) rfl rfl rfl rfl rfl rfl bound_nat rfl rfl rfl (Nat.le_refl _) (by simp only; omega) (fun x2 hx2 hop=>⟨_,rfl,?_⟩)
   have m6:=hm (r6,ndRow true x1 (.slice none 0 0) (.slice none 0 0)) (r4,ndRow true w1 w2 (.slice none 0 0)) _ hr
   have hxv:=pl_drop hx2 (cs':=tx (vs.drop at')) (by simp) (List.map_drop ..).symm
   refine xD rfl rfl rh rfl ?_
   refine ODS.write rfl rfl (e_storeS 0 (isSl hxk.sv) rfl rfl rfl rfl rfl rfl rfl) rfl (by repeat (first | exact Keep.nil | refine Keep.gone rfl ?_ | refine Keep.cons rfl (e_loadm m6 rfl rfl rfl rfl) ?_ | refine Keep.cons rfl (hop _ (hm _ _)) ?_)) ?_
   refine xD rfl rfl rh rfl ?_
   refine ODS.write rfl rfl (e_storeS 0 (isSl hxv.sv) rfl rfl rfl rfl rfl rfl rfl) rfl (by repeat (first | exact Keep.nil | refine Keep.gone rfl ?_)) ?_
   refine xM ?_
   refine ⟨w2,.slice none 0 0,x1,x2,.slice none 0 0,⟨?_,?_,pl_nil⟩,⟨?_,?_,pl_nil⟩,rfl,rfl⟩
   ·show PL _ 1 X w1 (ks.take at').length _
    rw [List.length_take,Nat.min_eq_left (by omega)]; exact hk1
   ·show PL _ 1 X w2 (vs.take at').length _
    rw [List.length_take,Nat.min_eq_left (by omega)]; exact hv2
   ·show PL _ 1 X x1 (ks.drop at').length _
    rw [List.length_drop]; exact hxk
   ·show PL _ 1 X x2 (vs.drop at').length _
    rw [List.length_drop]; exact hxv
  | false =>
   have hkl:=gk rfl
   refine xC rfl (fun hc=>by cases hc) (fun hc=>?_)
   repeat refine xQ ?_
   refine xG rfl ?_
   iterate 3 refine xP rfl rh rfl ?_
   refine xR rfl (e_loadm m3 rfl rfl rfl rfl) rfl ?_
   refine xP rfl rh rfl ?_
   refine xP rfl (e_addN (n:=1) rfl rfl rfl (in_i64 (by omega) (by omega))) rfl ?_
   refine xP rfl rh rfl ?_
   refine xP rfl (e_addN (n:=1) rfl rfl rfl (in_i64 (by omega) (by omega))) rfl ?_
   refine OS.slice3 hP.z rfl rfl rfl rfl rfl rfl rfl (by simp only; omega) (by omega) (fun w3 hw3=>⟨_,rfl,?_⟩)
   have hz3:=pl_take (n:=kids.length) hw3 (cs':=nums (kids.take (at'+1))) (List.map_take ..).symm
   refine xP rfl rh rfl ?_
   refine OS.write rfl (e_storeS 1 (isSl hz3.sv) rfl rfl rfl rfl rfl rfl rfl) rfl ?_
   refine xN ?_
   have m4:=hm (r6,ndRow false (.slice none 0 0) (.slice none 0 0) (.slice none 0 0)) (r4,ndRow false w1 (.slice none 0 0) w3) _ hr
   repeat refine xQ ?_
   refine LS.drawn noGo mixed [(0,false),(1,false),(2,false),(3,false),(4,false),(5,false),(6,false),(7,false),(8,false),(9,false),(10,false),(11,false),(12,false),(13,false),(14,false),(15,true),(16,false),(17,true)] rfl rfl (by kernel_rfl) ?_
   iterate 3 refine xD rfl rfl rh rfl ?_
   refine xE rfl rfl (e_loadm m4 rfl rfl rfl rfl) rfl ?_
   refine xD rfl rfl rh rfl ?_
   refine xD rfl rfl (e_addN (n:=1) rfl rfl rfl (in_i64 (by omega) (by omega))) rfl ?_
   refine ODS.slicePL hP.k (hm _ _) rfl rfl rfl rfl rfl rfl bound_nat rfl rfl rfl (Nat.le_refl _) (by simp only; omega) (fun x1 hx1=>⟨_,rfl,?_⟩)
   have hxk:=pl_drop hx1 (cs':=tx (ks.drop (at'+1))) (by simp) (List.map_drop ..).symm
   iterate 3 refine xD rfl rfl rh rfl ?_
   refine xE rfl rfl (e_loadm m4 rfl rfl rfl rfl) rfl ?_
   refine xD rfl rfl rh rfl ?_
   refine xD rfl rfl (e_addN (n:=1) rfl rfl rfl (in_i64 (by omega) (by omega))) rfl ?_
   refine ODS.slicePLa hP.z (hm _ _) rfl rfl rfl rfl rfl rfl bound_nat rfl rfl rfl (Nat.le_refl _) (by simp only; omega) (fun x3 hx3 hop=>⟨_,rfl,?_⟩)
   have m6:=hm (r6,ndRow false x1 (.slice none 0 0) (.slice none 0 0)) (r4,ndRow false w1 (.slice none 0 0) w3) _ hr
   have hxz:=pl_drop hx3 (cs':=nums (kids.drop (at'+1))) (by simp) (List.map_drop ..).symm
   refine xD rfl rfl rh rfl ?_
   refine ODS.write rfl rfl (e_storeS 0 (isSl hxk.sv) rfl rfl rfl rfl rfl rfl rfl) rfl (by repeat (first | exact Keep.nil | refine Keep.gone rfl ?_ | refine Keep.cons rfl (e_loadm m6 rfl rfl rfl rfl) ?_ | refine Keep.cons rfl (hop _ (hm _ _)) ?_)) ?_
   refine xD rfl rfl rh rfl ?_
   refine ODS.write rfl rfl (e_storeS 0 (isSl hxz.sv) rfl rfl rfl rfl rfl rfl rfl) rfl (by repeat (first | exact Keep.nil | refine Keep.gone rfl ?_)) ?_
   refine xM ?_
   refine ⟨.slice none 0 0,w3,x1,.slice none 0 0,x3,⟨?_,pl_nil,?_⟩,⟨?_,pl_nil,?_⟩,rfl,rfl⟩
   ·show PL _ 1 X w1 (ks.take at').length _
    rw [List.length_take,Nat.min_eq_left (by omega)]; exact hk1
   ·show PL _ 1 X w3 (kids.take (at'+1)).length _
    rw [List.length_take,Nat.min_eq_left (by omega)]; exact hz3
   ·show PL _ 1 X x1 (ks.drop (at'+1)).length _
    rw [List.length_drop]; exact hxk
   ·show PL _ 1 X x3 (kids.drop (at'+1)).length _
    rw [List.length_drop]; exact hxz
 rintro a L' ⟨w2,w3,x1,x2,x3,hc1,hc2,rfl,rfl⟩
 have m5:=hm (r6,ndRow lf x1 x2 x3) (r4,ndRow lf w1 w2 w3) _ hr
 have N5:=hP.k.sv.mono (hm (r6,ndRow lf x1 x2 x3) (r4,ndRow lf w1 w2 w3))
 repeat refine xQ ?_
 refine LS.drawn noGo mixed [(0,false),(1,false),(2,false),(3,false),(4,false),(5,false),(6,false),(7,false),(8,false),(9,true),(10,false),(11,true)] rfl rfl (by kernel_rfl) ?_
 refine xE rfl rfl (e_load 1 rfl rfl rfl rfl rfl) rfl ?_
 iterate 3 refine xD rfl rfl rh rfl ?_
 refine xE rfl rfl (e_loadm m5 rfl rfl rfl rfl) rfl ?_
 refine xD rfl rfl rh rfl ?_
 refine ODS.at1 (j:=at') (N5) (tx_at hat) rfl rfl rfl rfl rfl rfl rfl (fun ra0 oa0 rowa0 csa0 ma0 ca0 ga0=>⟨_,rfl,?_⟩)
 refine xE rfl rfl (e_loadm ma0 ca0 rfl rfl (part_one rfl ga0)) rfl ?_
 refine xE rfl rfl (e_load 0 rfl rfl rfl rfl rfl) rfl ?_
 refine ODS.write rfl rfl (e_store 1 (n:=4) rfl rfl rfl rfl rfl (nd_one (isSl hc1.k.sv) (isSl hc1.v.sv) (isSl hc1.z.sv)) rfl rfl) rfl (by repeat (first | exact Keep.nil | refine Keep.gone rfl ?_ | refine Keep.cons rfl (e_load 0 rfl rfl rfl rfl rfl) ?_ | refine Keep.cons rfl (e_loadm m5 rfl rfl rfl rfl) ?_ | refine Keep.cons rfl (e_loadm ma0 ca0 rfl rfl (part_one rfl ga0)) ?_)) ?_
 refine xD rfl rfl rh rfl ?_
 refine ODS.write rfl rfl (e_store 0 (n:=4) rfl rfl rfl rfl rfl (nd_one (isSl hc2.k.sv) (isSl hc2.v.sv) (isSl hc2.z.sv)) rfl rfl) rfl (by repeat (first | exact Keep.nil | refine Keep.gone rfl ?_)) ?_
 refine xM ?_
 refine xT ⟨_,res_cell3 1 0 (x:=4) (y:=5) (z:=6) rfl rfl rfl rfl rfl rfl rfl rfl rfl,?_⟩
 exact ⟨_,_,w1,w2,w3,x1,x2,x3,rfl,rfl,hc1,hc2⟩
end Go.Proofs.YtlmmddfhoabjfaaGreat
end
section
namespace Go.Proofs.YtlmmddfhoabjfaaGreat
open Go.Am
def mxN (n:Nd) (q:Nat):Nat:=max (sizeN (cutL n q)) (sizeN (cutR n q))
theorem cut_sm {n:Nd} (hs:Sm n) (q:Nat):Sm (cutL n q)/\Sm (cutR n q):=by
 have e1:=hs.k; have e2:=hs.v; have e3:=hs.z
 refine ⟨⟨?_,?_,?_,fun k hk=>hs.kl k (List.mem_of_mem_take hk),fun k hk=>?_⟩,⟨?_,?_,?_,fun k hk=>hs.kl k (List.mem_of_mem_drop hk),fun k hk=>?_⟩⟩
 ·show (n.ks.take q).length<=_; rw [List.length_take]; omega
 ·show (if n.leaf then n.vs.take q else []).length<=_; split <;> simp <;> omega
 ·show (if n.leaf then [] else n.kids.take (q+1)).length<=_; split <;> simp <;> omega
 ·have hk':k∈(if n.leaf then n.vs.take q else []):=hk
  split at hk'
  ·exact hs.vl k (List.mem_of_mem_take hk')
  ·cases hk'
 ·show (n.ks.drop _).length<=_; rw [List.length_drop]; omega
 ·show (if n.leaf then n.vs.drop q else []).length<=_; split <;> simp <;> omega
 ·show (if n.leaf then [] else n.kids.drop (q+1)).length<=_; split <;> simp <;> omega
 ·have hk':k∈(if n.leaf then n.vs.drop q else []):=hk
  split at hk'
  ·exact hs.vl k (List.mem_of_mem_drop hk')
  ·cases hk'
set_option maxHeartbeats 4000000 in
theorem halves_ct {X L:RL} {r:Nat} {n:Nd} (hX:∀ p,p∈X->p∈L) (hN:NodeAt X r n) (hs:Sm n) (hg:GoodN n) (h2:2<=n.ks.length) :
  CS Tryz.prog 158 [ptr r] L fun u L'=>∃ w1 w2 w3 x1 x2 x3 b key,1<=b/\n.ks[b]?=some key/\(∀ q,1<=q->q < n.ks.length->mxN n b<=mxN n q)/\u=.tuple #[ndV n.leaf w1 w2 w3,txt key,ndV n.leaf x1 x2 x3]/\L'=L/\PN X (cutL n b) w1 w2 w3/\PN X (cutR n b) x1 x2 x3:=by
 suffices g:CS Tryz.prog 158 [ptr r] L fun u L'=>∃ x y w1 w2 w3 x1 x2 x3 b key,1<=b/\n.ks[b]?=some key/\(∀ q,1<=q->q < n.ks.length->mxN n b<=mxN n q)/\u=.tuple #[ndV n.leaf w1 w2 w3,txt key,ndV n.leaf x1 x2 x3]/\L'=x::y::L/\PN X (cutL n b) w1 w2 w3/\PN X (cutR n b) x1 x2 x3 by
  exact g.less fun u L' ⟨x,y,w1,w2,w3,x1,x2,x3,b,key,h1,h2,h3,h4,h5,h6⟩=>⟨_,by rw [h5]; exact Sub.suffix (X:=[x,y]),w1,w2,w3,x1,x2,x3,b,key,h1,h2,h3,h4,rfl,h6⟩
 have hN0:=hN
 obtain ⟨v1,v2,v3,hr,hP⟩:=hN
 have e1:=hs.k
 have hm:∀ (A:RL) p,p∈X->p∈A++L:=fun A p hp=>List.mem_append_right A (hX p hp)
 refine CS.mk (fn:=Tryz.f158) rfl rfl rfl rfl ?_
 repeat refine xQ ?_
 refine xG rfl ?_
 refine OS.fresh rfl (e_new (fun _=>rfl) rfl) (fun _=>rfl) (fun r2=>?_)
 refine xP rfl rh rfl ?_
 refine OS.fresh rfl (e_new (fun _=>rfl) rfl) (fun _=>rfl) (fun r4=>?_)
 refine xN ?_
 repeat refine xQ ?_
 refine xG rfl ?_
 iterate 2 refine xP rfl rh rfl ?_
 refine xN ?_
 repeat refine xQ ?_
 refine xG rfl ?_
 refine xP rfl rh rfl ?_
 refine xN ?_
 have m1:=hm [(r4,zRow),(r2,zRow)] _ hr
 have N1:=hP.k.sv.mono (hm [(r4,zRow),(r2,zRow)])
 repeat refine xQ ?_
 refine LS.block ?_
 refine LS.loopJ [0,2,4,5,6,7] (fun z a' L'=>∃ a b l:Nat,1<=a/\a<=n.ks.length/\((b=0/\a=1/\l=0)∨(1<=b/\b < a/\l=mxN n b/\∀ q,1<=q->q < a->l<=mxN n q))/\z=n.ks.length - a/\L'=(r4,zRow)::(r2,zRow)::L/\a'=[ptr r,jn,ptr r2,jn,ptr r4,.int .i64 (b:Nat),.int .i64 (l:Nat),.int .i64 (a:Nat),jn,jn,jn,jn,jn,jn,jn,jn,jn,jn,jn,jn,jn,jn,jn,jn,jn,jn,jn,jn,jn,jn,jn,jn,jn,jn,jn,jn,jn,jn,jn,jn,jn,jn,jn,jn,jn,jn,jn,jn]) (n:=n.ks.length - 1) rfl ⟨1,0,0,Nat.le_refl _,by omega,.inl ⟨rfl,rfl,rfl⟩,rfl,rfl,rfl⟩ ?_
 rintro z a' L' ⟨a,b,l,ha1,ha2,hinv,rfl,rfl,rfl⟩
 repeat refine xQ ?_
 refine xG rfl ?_
 iterate 4 refine xP rfl rh rfl ?_
 refine xR rfl (e_loadm m1 rfl rfl rfl rfl) rfl ?_
 refine xP rfl (e_len N1 rfl rfl rfl rfl rfl) rfl ?_
 by_cases hend:n.ks.length<=a
 ·have hb:(!ileB (n.ks.length:Nat) (a:Nat))=false:=by rw [ileB_eq,decide_eq_true (by omega)]; rfl
  refine xP rfl (e_ib rh (hb)) rfl ?_
  refine xN ?_
  repeat refine xQ ?_
  refine xC rfl (fun hc=>?_) (fun hc=>?_)
  ·cases hc
  refine LS.exit ?_
  rcases hinv with ⟨rfl,rfl,rfl⟩ | ⟨hb1,hb2,rfl,hmin⟩
  ·omega
  have hbl:b < n.ks.length:=by omega
  repeat refine xQ ?_
  refine xG rfl ?_
  iterate 2 refine xP rfl rh rfl ?_
  refine xA noGo rfl (fun _=>rfl) ((cut_ct (X:=X) (hm [(r4,zRow),(r2,zRow)]) hN0 hs hg hbl).mono ?_)
  rintro u L' ⟨w1,w2,w3,x1,x2,x3,rfl,rfl,p1,p2⟩
  refine ⟨_,rfl,?_⟩
  iterate 3 refine xP rfl rh rfl ?_
  refine OS.write rfl (e_store 1 (n:=4) rfl rfl rfl rfl rfl (nd_one (isSl p1.k.sv) (isSl p1.v.sv) (isSl p1.z.sv)) rfl rfl) rfl ?_
  refine xP rfl rh rfl ?_
  refine OS.write rfl (e_store 0 (n:=4) rfl rfl rfl rfl rfl (nd_one (isSl p2.k.sv) (isSl p2.v.sv) (isSl p2.z.sv)) rfl rfl) rfl ?_
  refine xN ?_
  refine xT ⟨_,res_cell3 1 0 (x:=2) (y:=3) (z:=4) rfl rfl rfl rfl rfl rfl rfl rfl rfl,?_⟩
  exact ⟨_,_,w1,w2,w3,x1,x2,x3,b,n.ks[b],hb1,List.getElem?_eq_getElem hbl,fun q h1 h2=>hmin q h1 (by omega),rfl,rfl,p1,p2⟩
 have hb:(!ileB (n.ks.length:Nat) (a:Nat))=true:=by rw [ileB_eq,decide_eq_false (by omega)]; rfl
 refine xP rfl (e_ib rh (hb)) rfl ?_
 refine xN ?_
 repeat refine xQ ?_
 refine xC rfl (fun hc=>?_) (fun hc=>?_)
 ·refine LS.skip ?_
  repeat refine xQ ?_
  refine LS.block ?_
  repeat refine xQ ?_
  refine xG rfl ?_
  iterate 2 refine xP rfl rh rfl ?_
  refine xA noGo rfl (fun _=>rfl) ((cut_ct (X:=X) (hm [(r4,zRow),(r2,zRow)]) hN0 hs hg (show a < n.ks.length by omega)).mono ?_)
  rintro u L' ⟨w1,w2,w3,x1,x2,x3,rfl,rfl,p1,p2⟩
  refine ⟨_,rfl,?_⟩
  iterate 4 refine xP rfl rh rfl ?_
  refine OS.fresh rfl (e_new (fun _=>rfl) rfl) (fun _=>rfl) (fun r8=>?_)
  refine OS.fresh rfl (e_new (fun _=>rfl) rfl) (fun _=>rfl) (fun r10=>?_)
  refine OS.write rfl (e_store 1 (n:=4) rfl rfl rfl rfl rfl (nd_one (isSl p1.k.sv) (isSl p1.v.sv) (isSl p1.z.sv)) rfl rfl) rfl ?_
  refine xP rfl rh rfl ?_
  refine OS.write rfl (e_store 0 (n:=4) rfl rfl rfl rfl rfl (nd_one (isSl p2.k.sv) (isSl p2.v.sv) (isSl p2.z.sv)) rfl rfl) rfl ?_
  refine xN ?_
  have hnv1:=p1.nv (cut_sm hs a).1 (hm [(r10,ndRow n.leaf x1 x2 x3),(r8,ndRow n.leaf w1 w2 w3),(r4,zRow),(r2,zRow)])
  have hnv2:=p2.nv (cut_sm hs a).2 (hm [(r10,ndRow n.leaf x1 x2 x3),(r8,ndRow n.leaf w1 w2 w3),(r4,zRow),(r2,zRow)])
  repeat refine xQ ?_
  refine LS.drawn noGo mixed [(0,false),(2,false),(1,true),(3,true),(4,false),(5,false)] rfl rfl (by kernel_rfl) ?_
  refine xE rfl rfl (e_load 1 rfl rfl rfl rfl rfl) rfl ?_
  refine xE rfl rfl (e_load 0 rfl rfl rfl rfl rfl) rfl ?_
  refine ODS.call rfl rfl (fun _=>rfl) ((Size_ct hnv1 (by have:=(cut_sm hs a).1.k; omega)).mono ?_)
  rintro u L' ⟨rfl,rfl⟩
  refine ⟨_,rfl,(by repeat (first | exact Keep.nil | refine Keep.gone rfl ?_ | refine Keep.cons rfl (e_load 0 rfl rfl rfl rfl rfl) ?_)),?_⟩
  refine ODS.call rfl rfl (fun _=>rfl) ((Size_ct hnv2 (by have:=(cut_sm hs a).2.k; omega)).mono ?_)
  rintro u L' ⟨rfl,rfl⟩
  refine ⟨_,rfl,(by repeat (first | exact Keep.nil | refine Keep.gone rfl ?_ | refine Keep.cons rfl (e_load 0 rfl rfl rfl rfl rfl) ?_)),?_⟩
  refine xD rfl rfl (e_is (e_max rfl rfl rfl) (congrArg (Value.int .i64) (show max ((sizeN (cutL n a):Nat):Int) ((sizeN (cutR n a):Nat):Int)=((mxN n a:Nat):Int) by unfold mxN; omega))) rfl ?_
  refine xD rfl rfl rh rfl ?_
  refine xM ?_
  rcases hinv with ⟨rfl,rfl,rfl⟩ | ⟨hb1,hb2,rfl,hmin⟩
  ·have hb:ieqB ((0:Nat):Int) 0=true:=rfl
   repeat refine xQ ?_
   refine xG rfl ?_
   refine xP rfl rh rfl ?_
   refine xP rfl (e_ib rh (hb)) rfl ?_
   refine xP rfl rh rfl ?_
   iterate 3 refine xK rfl rfl ?_
   refine xP rfl rh rfl ?_
   refine xN ?_
   repeat refine xQ ?_
   refine xC rfl (fun hc=>?_) (fun hc=>?_)
   ·repeat refine xQ ?_
    refine xG rfl ?_
    iterate 4 refine xP rfl rh rfl ?_
    refine OS.sub (Sub.drop 0 rfl) ?_
    refine OS.sub (Sub.drop 0 rfl) ?_
    refine xN ?_
    repeat refine xQ ?_
    refine xG rfl ?_
    refine xP rfl rh rfl ?_
    refine xP rfl (e_addN (n:=1) rfl rfl rfl (in_i64 (by omega) (by omega))) rfl ?_
    refine xP rfl rh rfl ?_
    refine xN ?_
    refine ⟨n.ks.length - (1+1),by omega,1+1,1,mxN n 1,by omega,by omega,.inr ⟨Nat.le_refl _,by omega,rfl,fun q h1 h2=>?_⟩,rfl,rfl,rfl⟩
    have:q=1:=by omega
    subst this
    exact Nat.le_refl _
   ·cases hc
  ·have hb:ieqB ((b:Nat):Int) 0=false:=by
    have:=ieqN (m:=b) (n:=0)
    rw [decide_eq_false (by omega)] at this
    exact this
   repeat refine xQ ?_
   refine xG rfl ?_
   refine xP rfl rh rfl ?_
   refine xP rfl (e_ib rh (hb)) rfl ?_
   iterate 3 refine xP rfl rh rfl ?_
   by_cases hlt:mxN n a < mxN n b
   ·have hb:(!ileB ((mxN n b:Nat):Int) ((mxN n a:Nat):Int))=true:=by rw [ileB_eq,decide_eq_false (by omega)]; rfl
    refine xP rfl (e_ib rh (hb)) rfl ?_
    refine xP rfl rh rfl ?_
    refine xN ?_
    repeat refine xQ ?_
    refine xC rfl (fun hc=>?_) (fun hc=>?_)
    ·repeat refine xQ ?_
     refine xG rfl ?_
     iterate 4 refine xP rfl rh rfl ?_
     refine OS.sub (Sub.drop 0 rfl) ?_
     refine OS.sub (Sub.drop 0 rfl) ?_
     refine xN ?_
     repeat refine xQ ?_
     refine xG rfl ?_
     refine xP rfl rh rfl ?_
     refine xP rfl (e_addN (n:=1) rfl rfl rfl (in_i64 (by omega) (by omega))) rfl ?_
     refine xP rfl rh rfl ?_
     refine xN ?_
     refine ⟨n.ks.length - (a+1),by omega,a+1,a,mxN n a,by omega,by omega,.inr ⟨ha1,by omega,rfl,fun q h1 h2=>?_⟩,rfl,rfl,rfl⟩
     by_cases hq:q=a
     ·subst hq; exact Nat.le_refl _
     ·have:=hmin q h1 (by omega); omega
    ·cases hc
   ·have hb:(!ileB ((mxN n b:Nat):Int) ((mxN n a:Nat):Int))=false:=by rw [ileB_eq,decide_eq_true (by omega)]; rfl
    refine xP rfl (e_ib rh (hb)) rfl ?_
    refine xP rfl rh rfl ?_
    refine OS.sub (Sub.drop 0 rfl) ?_
    refine OS.sub (Sub.drop 0 rfl) ?_
    refine xN ?_
    repeat refine xQ ?_
    refine xC rfl (fun hc=>?_) (fun hc=>?_)
    ·cases hc
    ·refine LS.skip ?_
     repeat refine xQ ?_
     refine xG rfl ?_
     refine xP rfl rh rfl ?_
     refine xP rfl (e_addN (n:=1) rfl rfl rfl (in_i64 (by omega) (by omega))) rfl ?_
     refine xP rfl rh rfl ?_
     refine xN ?_
     refine ⟨n.ks.length - (a+1),by omega,a+1,b,mxN n b,by omega,by omega,.inr ⟨hb1,by omega,rfl,fun q h1 h2=>?_⟩,rfl,rfl,rfl⟩
     by_cases hq:q=a
     ·subst hq; omega
     ·exact hmin q h1 (by omega)
 ·cases hc
end Go.Proofs.YtlmmddfhoabjfaaGreat
end
section
namespace Go.Proofs.YtlmmddfhoabjfaaGreat
open Go.Am
theorem rise_iff {l:Tx}:∀ {ks:List Tx},rise l ks=true↔ks.Pairwise (fun a b=>bytesLt a b=true)/\∀ k∈ks,bytesLt l k=true/\k.length<=32
 | []=>by simp [rise]
 | k::ks=>by
  rw [rise_cons,rise_iff (l:=k),List.pairwise_cons]
  constructor
  ·rintro ⟨h1,h2,h3,h4⟩
   refine ⟨⟨fun x hx=>(h4 x hx).1,h3⟩,fun x hx=>?_⟩
   rcases List.mem_cons.1 hx with rfl | hx
   ·exact ⟨h1,h2⟩
   ·exact ⟨lt_trans h1 (h4 x hx).1,(h4 x hx).2⟩
  ·rintro ⟨⟨h1,h2⟩,h3⟩
   exact ⟨(h3 k (List.mem_cons_self ..)).1,(h3 k (List.mem_cons_self ..)).2,h2,fun x hx=>⟨h1 x hx,(h3 x (List.mem_cons_of_mem _ hx)).2⟩⟩
theorem rise_sub {l:Tx} {ks ks':List Tx} (h:rise l ks=true) (s:ks'.Sublist ks):rise l ks'=true:=by
 rw [rise_iff] at h ⊢
 exact ⟨h.1.sublist s,fun k hk=>h.2 k (s.subset hk)⟩
theorem may_good {n:Nd} (h:mayN n=true):GoodN n:=by
 obtain ⟨_,h⟩:=may_iff.1 h
 rcases h with ⟨h1,h2,h3,_⟩ | ⟨h1,h2,h3,_⟩
 ·exact .inl ⟨h1,h2,h3⟩
 ·exact .inr ⟨h1,h2,h3⟩
theorem cutL_may {n:Nd} {q:Nat} (h:mayN n=true) (hq:q < n.ks.length):mayN (cutL n q)=true:=by
 obtain ⟨h0,h⟩:=may_iff.1 h
 refine may_iff.2 ⟨rise_sub h0 (List.take_sublist ..),?_⟩
 rcases h with ⟨hl,h1,h2,h3⟩ | ⟨hl,h1,h2,h3⟩
 ·refine .inl ⟨hl,?_,?_,?_⟩
  ·show (if n.leaf then n.vs.take q else []).length=(n.ks.take q).length
   rw [if_pos hl,List.length_take,List.length_take,h1]
  ·show (if n.leaf then [] else n.kids.take (q+1))=[]
   rw [if_pos hl]
  ·show ∀ v∈(if n.leaf then n.vs.take q else []),_
   rw [if_pos hl]; exact fun v hv=>h3 v (List.mem_of_mem_take hv)
 ·have hf:¬ (n.leaf=true):=by rw [hl]; decide
  refine .inr ⟨hl,?_,?_,?_⟩
  ·show (if n.leaf then [] else n.kids.take (q+1)).length=(n.ks.take q).length+1
   rw [if_neg hf,List.length_take,List.length_take]; omega
  ·show (if n.leaf then n.vs.take q else [])=[]
   rw [if_neg hf]
  ·show ∀ v∈(if n.leaf then [] else n.kids.take (q+1)),_
   rw [if_neg hf]; exact fun v hv=>h3 v (List.mem_of_mem_take hv)
theorem cutR_may {n:Nd} {q:Nat} (h:mayN n=true) (hq:q < n.ks.length):mayN (cutR n q)=true:=by
 obtain ⟨h0,h⟩:=may_iff.1 h
 refine may_iff.2 ⟨rise_sub h0 (List.drop_sublist ..),?_⟩
 rcases h with ⟨hl,h1,h2,h3⟩ | ⟨hl,h1,h2,h3⟩
 ·refine .inl ⟨hl,?_,?_,?_⟩
  ·show (if n.leaf then n.vs.drop q else []).length=(n.ks.drop (if n.leaf then q else q+1)).length
   rw [if_pos hl,if_pos hl,List.length_drop,List.length_drop,h1]
  ·show (if n.leaf then [] else n.kids.drop (q+1))=[]
   rw [if_pos hl]
  ·show ∀ v∈(if n.leaf then n.vs.drop q else []),_
   rw [if_pos hl]; exact fun v hv=>h3 v (List.mem_of_mem_drop hv)
 ·have hf:¬ (n.leaf=true):=by rw [hl]; decide
  refine .inr ⟨hl,?_,?_,?_⟩
  ·show (if n.leaf then [] else n.kids.drop (q+1)).length=(n.ks.drop (if n.leaf then q else q+1)).length+1
   rw [if_neg hf,if_neg hf,List.length_drop,List.length_drop]; omega
  ·show (if n.leaf then n.vs.drop q else [])=[]
   rw [if_neg hf]
  ·show ∀ v∈(if n.leaf then [] else n.kids.drop (q+1)),_
   rw [if_neg hf]; exact fun v hv=>h3 v (List.mem_of_mem_drop hv)
theorem zipB_app:∀ {ks bs ks' bs':List Tx},ks.length=bs.length->zipB (ks++ks') (bs++bs')=zipB ks bs++zipB ks' bs'
 | [],[],_,_,_=>rfl
 | [],_::_,_,_,h=>by simp at h
 | _::_,[],_,_,h=>by simp at h
 | k::ks,b::bs,ks',bs',h=>by
  have:=zipB_app (ks:=ks) (bs:=bs) (ks':=ks') (bs':=bs') (by simpa using h)
  simp only [List.cons_append,zipB,this,List.append_assoc]
theorem zipB_take {ks bs:List Tx} {q:Nat} (h:ks.length=bs.length):(zipB ks bs).length=(zipB (ks.take q) (bs.take q)).length+(zipB (ks.drop q) (bs.drop q)).length:=by
 have:=zipB_app (ks:=ks.take q) (bs:=bs.take q) (ks':=ks.drop q) (bs':=bs.drop q) (by rw [List.length_take,List.length_take,h])
 rw [List.take_append_drop,List.take_append_drop] at this
 rw [this,List.length_append]
theorem zipB_step {B:Nat} {ks bs:List Tx} {q:Nat} (h:ks.length=bs.length) (hq:q < ks.length) (h1:∀ k∈ks,(tB k).length<=33) (h2:∀ b∈bs,b.length<=B):(zipB (ks.take (q+1)) (bs.take (q+1))).length<=(zipB (ks.take q) (bs.take q)).length+(33+B):=by
 have e1:ks.take (q+1)=ks.take q++[ks[q]]:=by simp
 have e2:bs.take (q+1)=bs.take q++[bs[q]'(by omega)]:=by simp
 rw [e1,e2,zipB_app (by rw [List.length_take,List.length_take,h])]
 have g1:=h1 _ (List.getElem_mem hq)
 have g2:=h2 _ (List.getElem_mem (show q < bs.length by omega))
 simp only [List.length_append,zipB,List.append_nil]
 omega
theorem ivt {F:Nat->Nat} {C:Nat}:∀ {n:Nat},F 0<=C->C < F n->∃ q,q < n/\F q<=C/\C < F (q+1)
 | 0,h0,h1=>by omega
 | n+1,h0,h1=>by
  by_cases h:C < F n
  ·obtain ⟨q,hq,h2⟩:=ivt h0 h
   exact ⟨q,by omega,h2⟩
  ·exact ⟨n,by omega,by omega,h1⟩
theorem cutL_beh {n:Nd} {q:Nat}:behN (cutL n q)=(behN n).take q:=by
 unfold behN
 cases hl:n.leaf with
 | true =>
  have:(cutL n q).leaf=true:=hl
  rw [this,if_pos rfl,if_pos rfl]
  show (if n.leaf then n.vs.take q else []).map tB=_
  rw [if_pos hl,List.map_take]
 | false =>
  have:(cutL n q).leaf=false:=hl
  rw [this,if_neg (by decide),if_neg (by decide)]
  show (if n.leaf then [] else n.kids.take (q+1)).tail.map cnt=_
  rw [if_neg (by rw [hl]; decide),← List.map_take]
  congr 1
  cases n.kids with
  | nil=>simp
  | cons z zs=>simp
theorem cutR_beh {n:Nd} {q:Nat}:behN (cutR n q)=(behN n).drop (if n.leaf then q else q+1):=by
 unfold behN
 cases hl:n.leaf with
 | true =>
  have:(cutR n q).leaf=true:=hl
  rw [this,if_pos rfl,if_pos rfl]
  show (if n.leaf then n.vs.drop q else []).map tB=_
  rw [if_pos hl,List.map_drop]; rfl
 | false =>
  have:(cutR n q).leaf=false:=hl
  rw [this,if_neg (by decide),if_neg (by decide)]
  show (if n.leaf then [] else n.kids.drop (q+1)).tail.map cnt=_
  rw [if_neg (by rw [hl]; decide)]
  show _=(n.kids.tail.map cnt).drop (q+1)
  rw [← List.map_drop]
  congr 1
  simp [List.tail_drop,List.drop_tail]
theorem cnt_3 {z:Int} (hz:0<=z/\z<=32768):(cnt z).length<=3:=by
 obtain ⟨m,rfl⟩:=Int.eq_ofNat_of_zero_le hz.1
 rw [cnt_nat (by omega)]
 exact grp_len (k:=3) (by omega) (by omega)
theorem beh_65 {n:Nd} (h:mayN n=true):∀ b∈behN n,b.length<=65:=fun b hb=>by
 unfold behN at hb
 split at hb
 ·rename_i hl
  obtain ⟨v,hv,rfl⟩:=List.mem_map.1 hb
  have:=(may_vs h hl).2.2 v hv
  rw [tB_len (by omega)]; omega
 ·rename_i hl
  obtain ⟨v,hv,rfl⟩:=List.mem_map.1 hb
  have:=cnt_3 ((may_kids h (by simpa using hl)).2.2 v (List.mem_of_mem_tail hv))
  omega
theorem first_3 {n:Nd} (h:mayN n=true):(firstN n).length<=3:=by
 unfold firstN
 split
 ·simp
 ·rename_i hl
  obtain ⟨g1,g2,g3⟩:=may_kids h (by simpa using hl)
  refine cnt_3 ?_
  cases hk:n.kids with
  | nil=>rw [hk] at g1; simp at g1
  | cons z zs=>exact g3 z (by rw [hk]; exact List.mem_cons_self ..)
theorem firstL {n:Nd} {q:Nat} (hq:0 < n.kids.length∨n.leaf=true):firstN (cutL n q)=firstN n:=by
 unfold firstN
 show (if n.leaf then [] else cnt ((if n.leaf then [] else n.kids.take (q+1)).headD 0))=_
 cases hl:n.leaf with
 | true=>rfl
 | false =>
  rw [if_neg (by decide),if_neg (by decide),if_neg (by decide)]
  cases hk:n.kids with
  | nil=>simp
  | cons z zs=>simp
theorem cut_some {n:Nd} (hb:Bg n) (h1:256 < (bodyN n).length) (h2:(bodyN n).length<=354):∃ q,1<=q/\q < n.ks.length/\mxN n q<=256:=by
 have hk:=hb.keys
 have hm:=hb.may
 have hbl:=beh_len hm
 have hks:∀ k∈n.ks,(tB k).length<=33:=fun k hk=>by
  have:=may_ks hm k hk
  rw [tB_len (by omega)]; omega
 have h65:=beh_65 hm
 have hf3:=first_3 hm
 have hbody:=body_len (n:=n) (by omega)
 obtain ⟨q,hq,g1,g2⟩:=ivt (F:=fun q=>(zipB (n.ks.take q) ((behN n).take q)).length) (C:=254 - (firstN n).length) (n:=n.ks.length) (by simp [zipB]) (by
  show _ < (zipB (n.ks.take n.ks.length) ((behN n).take n.ks.length)).length
  rw [List.take_length,List.take_of_length_le (by omega)]; omega)
 have g3:=zipB_step (q:=q) hbl.symm hq hks h65
 have hq1:1<=q:=by
  rcases Nat.eq_zero_or_pos q with h | h
  ·subst h
   simp [zipB] at g3 g2
   omega
  ·exact h
 have hpos:0 < n.kids.length∨n.leaf=true:=by
  cases hl:n.leaf with
  | true=>exact .inr rfl
  | false=>exact .inl (by have:=(may_kids hm hl).1; omega)
 have hL:(bodyN (cutL n q)).length<=256:=by
  rw [body_len (by show (n.ks.take q).length<=127; rw [List.length_take]; omega),firstL hpos,cutL_beh]
  show 2+(_+(zipB (n.ks.take q) _).length)<=256
  omega
 have htot:=zipB_take (q:=q) hbl.symm
 have hR:(bodyN (cutR n q)).length<=256:=by
  rw [body_len (by show (n.ks.drop _).length<=127; rw [List.length_drop]; omega),cutR_beh]
  have hfr:=first_3 (cutR_may hm hq)
  show 2+(_+(zipB (n.ks.drop _) _).length)<=256
  cases hl:n.leaf with
  | true =>
   have:(if true=true then q else q+1)=q:=rfl
   rw [this]; omega
  | false =>
   have:(if false=true then q else q+1)=q+1:=rfl
   rw [this]
   have:=zipB_take (q:=q+1) hbl.symm
   omega
 have sL:sizeN (cutL n q)=(bodyN (cutL n q)).length:=by unfold sizeN; rw [if_pos (cutL_may hm hq)]
 have sR:sizeN (cutR n q)=(bodyN (cutR n q)).length:=by unfold sizeN; rw [if_pos (cutR_may hm hq)]
 exact ⟨q,hq1,hq,by unfold mxN; omega⟩
theorem fits_of_size {n:Nd} (h:mayN n=true) (hs:sizeN n<=256):fitsN n=true:=by
 unfold sizeN at hs
 rw [if_pos h] at hs
 unfold fitsN
 rw [h,decide_eq_true hs]; rfl
def splL:(h:Nat)->Tr h->Nat->Tr h
 | 0,t,q=>lf (Lf.p t) ((Lf.ks t).take q) ((Lf.vs t).take q)
 | _+1,t,q=>inn (Inn.p t) ((Inn.ks t).take q) ((Inn.ts t).take (q+1))
def splR:(h:Nat)->Tr h->Nat->Nat->Tr h
 | 0,t,q,p=>lf p ((Lf.ks t).drop q) ((Lf.vs t).drop q)
 | _+1,t,q,p=>inn p ((Inn.ks t).drop (q+1)) ((Inn.ts t).drop (q+1))
theorem nd_splL:∀ {h:Nat} {t:Tr h} {q:Nat},nd h (splL h t q)=cutL (nd h t) q
 | 0,_,_=>rfl
 | h+1,t,q=>by
  obtain ⟨p,ks,ts,rfl⟩:=inn_eta t
  show (⟨false,ks.take q,[],nos (ts.take (q+1))⟩:Nd)=_
  simp [cutL,nos,List.map_take]
theorem nd_splR:∀ {h:Nat} {t:Tr h} {q p:Nat},nd h (splR h t q p)=cutR (nd h t) q
 | 0,_,_,_=>rfl
 | h+1,t,q,p'=>by
  obtain ⟨p,ks,ts,rfl⟩:=inn_eta t
  show (⟨false,ks.drop (q+1),[],nos (ts.drop (q+1))⟩:Nd)=_
  simp [cutR,nos,List.map_drop]
theorem no_splL:∀ {h:Nat} {t:Tr h} {q:Nat},no h (splL h t q)=no h t
 | 0,_,_=>rfl
 | _+1,_,_=>rfl
theorem no_splR:∀ {h:Nat} {t:Tr h} {q p:Nat},no h (splR h t q p)=p
 | 0,_,_,_=>rfl
 | _+1,_,_,_=>rfl
def Kok:(h:Nat)->Tr h->Prop
 | 0,_=>True
 | h+1,t=>∀ s∈Inn.ts t,Okt h s
theorem Okt.kok:∀ {h:Nat} {t:Tr h},Okt h t->Kok h t
 | 0,_,_=>trivial
 | _+1,_,h=>h.2
theorem ok_of:∀ {h:Nat} {t:Tr h},fitsN (nd h t)=true->Kok h t->(nd h t).ks≠[]∨(nd h t).leaf=false->Okt h t
 | 0,t,hf,_,hne=>⟨hf,by
  rcases hne with h | h
  ·exact h
  ·cases h⟩
 | _+1,_,hf,hk,_=>⟨hf,hk⟩
theorem ok_splL:∀ {h:Nat} {t:Tr h} {q:Nat},Kok h t->1<=q->q < (nd h t).ks.length->fitsN (cutL (nd h t) q)=true->Okt h (splL h t q)
 | 0,t,q,hk,h1,h2,hf=>by
  obtain ⟨p,ks,vs,rfl⟩:=lf_eta t
  refine ⟨hf,fun hh=>?_⟩
  have h2:q < ks.length:=h2
  have hl:(ks.take q).length=0:=by rw [show ks.take q=[] from hh]; rfl
  rw [List.length_take] at hl
  omega
 | h+1,t,q,hk,h1,h2,hf=>⟨by rw [nd_splL]; exact hf,fun s hs=>hk s (List.mem_of_mem_take hs)⟩
theorem ok_splR:∀ {h:Nat} {t:Tr h} {q p:Nat},Kok h t->q < (nd h t).ks.length->fitsN (cutR (nd h t) q)=true->Okt h (splR h t q p)
 | 0,t,q,p',hk,h2,hf=>by
  obtain ⟨p,ks,vs,rfl⟩:=lf_eta t
  refine ⟨hf,fun hh=>?_⟩
  have h2:q < ks.length:=h2
  have hl:(ks.drop q).length=0:=by rw [show ks.drop q=[] from hh]; rfl
  rw [List.length_drop] at hl
  omega
 | h+1,t,q,p',hk,h2,hf=>⟨by rw [nd_splR]; exact hf,fun s hs=>hk s (List.mem_of_mem_drop hs)⟩
end Go.Proofs.YtlmmddfhoabjfaaGreat
end
section
namespace Go.Proofs.YtlmmddfhoabjfaaGreat
open Go.Am
theorem SQ.ins {a b:List It} {k v:Tx} (h1:∃ k0 v0,It.K k0 v0∈a) (h2:∀ x∈a,∃ k v,x=It.K k v):SQ (a++It.K k v::b) (a++It.S k::It.K k v::b):=by
 refine ⟨by simp only [kvs,List.filterMap_append,List.filterMap_cons,kvI],fun X Y h=>?_⟩
 unfold Srt at h ⊢
 have e1:X++((a++It.K k v::b)++Y)=(X++a)++(It.K k v::(b++Y)):=by simp
 have e2:X++((a++It.S k::It.K k v::b)++Y)=(X++a)++(It.S k::It.K k v::(b++Y)):=by simp
 rw [e1,List.pairwise_append] at h
 rw [e2,List.pairwise_append]
 obtain ⟨g1,g2,g3⟩:=h
 have g2':=List.pairwise_cons.1 g2
 refine ⟨g1,List.pairwise_cons.2 ⟨fun y hy=>?_,g2⟩,fun x hx y hy=>?_⟩
 ·rcases List.mem_cons.1 hy with rfl | hy
  ·exact leT_iff.2 (.inr rfl)
  ·have:=g2'.1 y hy
   cases y with
   | K k' v'=>exact leT_iff.2 (.inl this)
   | S s=>exact this
 ·rcases List.mem_cons.1 hy with rfl | hy
  ·have hk:=g3 x hx (It.K k v) (List.mem_cons_self ..)
   cases x with
   | K k' v'=>exact hk
   | S s =>
    obtain ⟨k0,v0,h0⟩:=h1
    have hxX:It.S s∈X:=by
     rcases List.mem_append.1 hx with h | h
     ·exact h
     ·obtain ⟨k',v',he⟩:=h2 _ h; cases he
    have f1:leT s k0=true:=(List.pairwise_append.1 g1).2.2 _ hxX _ h0
    have f2:bytesLt k0 k=true:=g3 _ (List.mem_append_right _ h0) (It.K k v) (List.mem_cons_self ..)
    show bytesLt s k=true
    rcases leT_iff.1 f1 with f1 | f1
    ·exact lt_trans f1 f2
    ·rw [f1]; exact f2
  ·exact g3 x hx y hy
theorem zipK_mem:∀ {ks vs:List Tx} {x:It},x∈List.zipWith It.K ks vs->∃ k v,x=It.K k v
 | [],_,x,h=>by simp at h
 | _::_,[],x,h=>by simp at h
 | k::ks,v::vs,x,h=>by
  rw [List.zipWith_cons_cons] at h
  rcases List.mem_cons.1 h with rfl | h
  ·exact ⟨k,v,rfl⟩
  ·exact zipK_mem h
theorem sq_spl:∀ {h:Nat} {t:Tr h} {q p2:Nat} {key:Tx},GoodN (nd h t)->1<=q->(nd h t).ks[q]?=some key->SQ (sq h t) (sq h (splL h t q)++It.S key::sq h (splR h t q p2))
 | 0,t,q,p2,key,hg,h1,hk=>by
  obtain ⟨p,ks,vs,rfl⟩:=lf_eta t
  have hv:vs.length=ks.length:=hg.leafv rfl
  obtain ⟨hq,hkey⟩:=List.getElem?_eq_some_iff.1 hk
  have hq:q < ks.length:=hq
  have hkey:ks[q]=key:=hkey
  have e1:ks.drop q=key::ks.drop (q+1):=by rw [← hkey]; simp
  have e2:vs.drop q=vs[q]::vs.drop (q+1):=by simp
  have e3:sq 0 (lf p ks vs)=List.zipWith It.K (ks.take q) (vs.take q)++(It.K key vs[q]::List.zipWith It.K (ks.drop (q+1)) (vs.drop (q+1))):=by
   have:=zipK_app (ks:=ks.take q) (vs:=vs.take q) (ks':=ks.drop q) (vs':=vs.drop q) (by rw [List.length_take,List.length_take,hv])
   rw [List.take_append_drop,List.take_append_drop,e1,e2,List.zipWith_cons_cons] at this
   exact this
  have e4:sq 0 (splR 0 (lf p ks vs) q p2)=It.K key vs[q]::List.zipWith It.K (ks.drop (q+1)) (vs.drop (q+1)):=by
   show List.zipWith It.K (ks.drop q) (vs.drop q)=_
   rw [e1,e2,List.zipWith_cons_cons]
  rw [e3,e4]
  refine SQ.ins ⟨ks[0],vs[0],?_⟩ fun x hx=>zipK_mem hx
  have f1:ks.take q=ks[0]::(ks.drop 1).take (q - 1):=by
   cases ks with
   | nil=>simp at hq
   | cons k ks=>obtain ⟨q,rfl⟩:∃ q',q=q'+1:=⟨q - 1,by omega⟩; simp
  have f2:vs.take q=vs[0]::(vs.drop 1).take (q - 1):=by
   cases vs with
   | nil=>simp at hv; omega
   | cons k ks=>obtain ⟨q,rfl⟩:∃ q',q=q'+1:=⟨q - 1,by omega⟩; simp
  rw [f1,f2,List.zipWith_cons_cons]
  exact List.mem_cons_self ..
 | h+1,t,q,p2,key,hg,h1,hk=>by
  obtain ⟨p,ks,ts,rfl⟩:=inn_eta t
  have hz:ts.length=ks.length+1:=by have:=hg.kidsz rfl; simpa [nos] using this
  obtain ⟨hq,hkey⟩:=List.getElem?_eq_some_iff.1 hk
  have hq:q < ks.length:=hq
  have hkey:ks[q]=key:=hkey
  have e1:ks=ks.take q++key::ks.drop (q+1):=by rw [← hkey]; simp
  have hw:=wv_join (A:=ks.take q) (B:=ks.drop (q+1)) (k:=key) (L:=(ts.take (q+1)).map (sq h)) (R:=(ts.drop (q+1)).map (sq h)) (by simp; omega) (by
   intro hh
   have:=congrArg List.length hh
   simp at this
   omega)
  rw [← e1,← List.map_append,List.take_append_drop] at hw
  show SQ (wv ks (ts.map (sq h))) (wv (ks.take q) ((ts.take (q+1)).map (sq h))++It.S key::wv (ks.drop (q+1)) ((ts.drop (q+1)).map (sq h)))
  rw [hw]
  exact SQ.refl
theorem Via.seg {m m1:Mem} {h p:Nat} {K K':List Tx} {L M M' R:List (Tr h)} (hr:RepT m (h+1) (inn p K (L++(M++R)))) (hn:(pgs (h+1) (inn p K (L++(M++R)))).Nodup) (hc:Chg m m1 (M.flatMap (pgs h)) (M'.flatMap (pgs h))) (hrep:∀ s∈M',RepT m1 h s)
  (hsq:SQ (sq (h+1) (inn p K (L++(M++R)))) (sq (h+1) (inn p K' (L++(M'++R))))):Via m (updM m1 p (some ⟨false,K',[],nos (L++(M'++R))⟩)) (inn p K (L++(M++R))) (inn p K' (L++(M'++R))):=by
 have hsome:=hr.some
 rw [rep_inn] at hr
 have hpg:∀ (K:List Tx) (M:List (Tr h)),pgs (h+1) (inn p K (L++(M++R)))=p::(L.flatMap (pgs h)++(M.flatMap (pgs h)++R.flatMap (pgs h))):=fun K M=>by simp [pgs_inn]
 rw [hpg,List.nodup_cons] at hn
 obtain ⟨hp,hn⟩:=hn
 obtain ⟨c,hs⟩:=hc.lift hn (fun q hq=>hsome q (by
  rw [hpg]
  rcases hq with h | h
  ·simp [h]
  ·simp [h]))
 have hpm:m p≠none:=hsome p (by rw [hpg]; exact List.mem_cons_self ..)
 have hpM':p ∉ L.flatMap (pgs h)++(M'.flatMap (pgs h)++R.flatMap (pgs h)):=fun hh=>by
  rcases c.new p hh with h | h
  ·exact hp h
  ·exact hpm h
 have hup:∀ q,q≠p->updM m1 p (some ⟨false,K',[],nos (L++(M'++R))⟩) q=m1 q:=fun q hq=>by unfold updM; rw [if_neg hq]
 refine ⟨⟨by rw [hpg,List.nodup_cons]; exact ⟨hpM',c.nd⟩,fun q hq=>?_,fun q h1 h2=>?_,fun q h1 h2=>?_⟩,?_,hsq,rfl⟩
 ·rw [hpg] at hq ⊢
  rcases List.mem_cons.1 hq with rfl | hq
  ·exact .inl (List.mem_cons_self ..)
  ·exact (c.new q hq).imp (fun h=>List.mem_cons_of_mem _ h) id
 ·rw [hpg,List.mem_cons,not_or] at h1 h2
  rw [hup q h1.1,c.out q h1.2 h2.2]
 ·rw [hpg,List.mem_cons] at h1
  rw [hpg,List.mem_cons,not_or] at h2
  rcases h1 with h1 | h1
  ·exact absurd h1 h2.1
  ·rw [hup q h2.1,c.gone q h1 h2.2]
 ·rw [rep_inn]
  refine ⟨by unfold updM; rw [if_pos rfl],fun s hs'=>?_⟩
  have hcon:∀ (hq:∀ q,q∈pgs h s->q∈L.flatMap (pgs h)++(M'.flatMap (pgs h)++R.flatMap (pgs h))) ,RepT m1 h s->RepT (updM m1 p (some ⟨false,K',[],nos (L++(M'++R))⟩)) h s:=fun hq hr=>hr.congr fun q hq'=>hup q (fun he=>hpM' (he ▸ hq q hq'))
  simp only [List.mem_append] at hs'
  rcases hs' with h1 | h1 | h1
  ·exact hcon (fun q hq=>List.mem_append_left _ (List.mem_flatMap.2 ⟨s,h1,hq⟩)) ((hr.2 s (by simp [h1])).congr fun q hq=>hs q (.inl (List.mem_flatMap.2 ⟨s,h1,hq⟩)))
  ·exact hcon (fun q hq=>List.mem_append_right _ (List.mem_append_left _ (List.mem_flatMap.2 ⟨s,h1,hq⟩))) (hrep s h1)
  ·exact hcon (fun q hq=>List.mem_append_right _ (List.mem_append_right _ (List.mem_flatMap.2 ⟨s,h1,hq⟩))) ((hr.2 s (by simp [h1])).congr fun q hq=>hs q (.inr (List.mem_flatMap.2 ⟨s,h1,hq⟩)))
theorem chg_spl:∀ {h:Nat} {t:Tr h} {m:Mem} {q p2:Nat},RepT m h t->(pgs h t).Nodup->m p2=none->GoodN (nd h t) →
  Chg m (updM (updM m (no h t) (some (cutL (nd h t) q))) p2 (some (cutR (nd h t) q))) (pgs h t) (pgs h (splL h t q)++pgs h (splR h t q p2)) /\
  RepT (updM (updM m (no h t) (some (cutL (nd h t) q))) p2 (some (cutR (nd h t) q))) h (splL h t q)/\RepT (updM (updM m (no h t) (some (cutL (nd h t) q))) p2 (some (cutR (nd h t) q))) h (splR h t q p2)
 | 0,t,m,q,p2,hr,hn,hf,hg=>by
  have hne:no 0 t≠p2:=fun he=>hr.some (no 0 t) no_mem (by rw [he]; exact hf)
  obtain ⟨p,ks,vs,rfl⟩:=lf_eta t
  simp only [no_lf] at hne ⊢
  refine ⟨⟨?_,fun x hx=>?_,fun x h1 h2=>?_,fun x h1 h2=>?_⟩,?_,?_⟩
  ·show [p,p2].Nodup
   simp [hne]
  ·have hx:x∈[p,p2]:=hx
   simp only [List.mem_cons,List.not_mem_nil,or_false] at hx
   rcases hx with rfl | rfl
   ·exact .inl (by simp)
   ·exact .inr hf
  ·have h1:x ∉ [p]:=h1
   have h2:x ∉ [p,p2]:=h2
   simp at h1 h2
   unfold updM
   rw [if_neg h2.2,if_neg h1]
  ·have h1:x∈[p]:=h1
   have h2:x ∉ [p,p2]:=h2
   simp at h1 h2
   exact absurd h1 h2.1
  ·show updM _ p2 _ p=_
   unfold updM
   rw [if_neg hne,if_pos rfl]; rfl
  ·show updM _ p2 _ p2=_
   unfold updM
   rw [if_pos rfl]; rfl
 | h+1,t,m,q,p2,hr,hn,hf,hg=>by
  have hsome:=hr.some
  have hne:no (h+1) t≠p2:=fun he=>hsome (no (h+1) t) no_mem (by rw [he]; exact hf)
  obtain ⟨p,ks,ts,rfl⟩:=inn_eta t
  simp only [no_inn] at hne ⊢
  rw [rep_inn] at hr
  have hsplit:ts.flatMap (pgs h)=(ts.take (q+1)).flatMap (pgs h)++(ts.drop (q+1)).flatMap (pgs h):=by rw [← List.flatMap_append,List.take_append_drop]
  have hp2:∀ x,x∈ts.flatMap (pgs h)->x≠p2:=fun x hx he=>hsome x (by rw [pgs_inn]; exact List.mem_cons_of_mem _ hx) (by rw [he]; exact hf)
  rw [pgs_inn,List.nodup_cons] at hn
  have hL:pgs (h+1) (splL (h+1) (inn p ks ts) q)=p::(ts.take (q+1)).flatMap (pgs h):=rfl
  have hR:pgs (h+1) (splR (h+1) (inn p ks ts) q p2)=p2::(ts.drop (q+1)).flatMap (pgs h):=rfl
  have hcon:∀ s,s∈ts->RepT (updM (updM m p (some (cutL (nd (h+1) (inn p ks ts)) q))) p2 (some (cutR (nd (h+1) (inn p ks ts)) q))) h s:=fun s hs=>(hr.2 s hs).congr fun x hx=>by
   have hx':=List.mem_flatMap.2 ⟨s,hs,hx⟩
   have hxp:x≠p:=fun he=>hn.1 (he ▸ hx')
   unfold updM
   rw [if_neg (hp2 x hx'),if_neg hxp]
  rw [hL,hR,pgs_inn]
  rw [hsplit] at hn hp2 ⊢
  obtain ⟨hn1,hn2⟩:=hn
  rw [List.nodup_append] at hn2
  refine ⟨⟨?_,fun x hx=>?_,fun x h1 h2=>?_,fun x h1 h2=>?_⟩,?_,?_⟩
  ·rw [List.nodup_append]
   refine ⟨List.nodup_cons.2 ⟨fun hh=>hn1 (List.mem_append_left _ hh),hn2.1⟩,List.nodup_cons.2 ⟨fun hh=>hp2 p2 (List.mem_append_right _ hh) rfl,hn2.2.1⟩,fun a ha b hb=>?_⟩
   rcases List.mem_cons.1 ha with rfl | ha
   ·rcases List.mem_cons.1 hb with rfl | hb
    ·exact hne
    ·exact fun he=>hn1 (List.mem_append_right _ (he ▸ hb))
   ·rcases List.mem_cons.1 hb with rfl | hb
    ·exact hp2 a (List.mem_append_left _ ha)
    ·exact hn2.2.2 a ha b hb
  ·simp only [List.mem_append,List.mem_cons] at hx ⊢
   rcases hx with (h | h) | (h | h)
   ·exact .inl (.inl h)
   ·exact .inl (.inr (.inl h))
   ·exact .inr (h ▸ hf)
   ·exact .inl (.inr (.inr h))
  ·simp only [List.mem_append,List.mem_cons,not_or] at h1 h2
   unfold updM
   rw [if_neg h2.2.1,if_neg h1.1]
  ·simp only [List.mem_append,List.mem_cons,not_or] at h1 h2
   rcases h1 with h | h | h
   ·exact absurd h h2.1.1
   ·exact absurd h h2.1.2
   ·exact absurd h h2.2.2
  ·refine ⟨?_,fun s hs=>hcon s (List.mem_of_mem_take hs)⟩
   rw [nd_splL]
   show updM _ p2 _ p=_
   unfold updM
   rw [if_neg hne,if_pos rfl]
  ·refine ⟨?_,fun s hs=>hcon s (List.mem_of_mem_drop hs)⟩
   rw [nd_splR]
   show updM _ p2 _ p2=_
   unfold updM
   rw [if_pos rfl]
theorem Via.split {m:Mem} {h p q p2:Nat} {A B:List Tx} {key:Tx} {L R:List (Tr h)} {t:Tr h} (hl:A.length=L.length) (hr:RepT m (h+1) (inn p (A++B) (L++t::R))) (hn:(pgs (h+1) (inn p (A++B) (L++t::R))).Nodup) (hf:m p2=none) (hg:GoodN (nd h t)) (h1:1<=q) (hk:(nd h t).ks[q]?=some key) :
  Via m (updM (updM (updM m (no h t) (some (cutL (nd h t) q))) p2 (some (cutR (nd h t) q))) p (some ⟨false,A++key::B,[],nos (L++splL h t q::splR h t q p2::R)⟩)) (inn p (A++B) (L++t::R)) (inn p (A++key::B) (L++splL h t q::splR h t q p2::R)):=by
 have hrt:=(rep_inn.1 hr).2 t (by simp)
 have hnt:(pgs h t).Nodup:=by
  rw [pgs_at,List.nodup_append,List.nodup_append] at hn
  exact hn.2.1.1
 obtain ⟨c,r1,r2⟩:=chg_spl (q:=q) hrt hnt hf hg
 have:=Via.seg (K:=A++B) (K':=A++key::B) (L:=L) (M:=[t]) (M':=[splL h t q,splR h t q p2]) (R:=R) hr hn (by simpa using c) (fun s hs=>by
  simp only [List.mem_cons,List.not_mem_nil,or_false] at hs
  rcases hs with rfl | rfl
  ·exact r1
  ·exact r2) (by
  show SQ (sq (h+1) (inn p (A++B) (L++t::R))) (sq (h+1) (inn p (A++key::B) (L++splL h t q::splR h t q p2::R)))
  rw [sq_at hl,sq_at hl]
  have e1:postI (key::B) ((splR h t q p2::R).map (sq h))=It.S key::(sq h (splR h t q p2)++postI B (R.map (sq h))):=rfl
  rw [e1]
  have h2:=(sq_spl (p2:=p2) hg h1 hk).ctx (preI A (L.map (sq h))) (postI B (R.map (sq h)))
  simpa only [List.append_assoc,List.cons_append] using h2)
 exact this
end Go.Proofs.YtlmmddfhoabjfaaGreat
end
section
namespace Go.Am
theorem insL_map {α β:Type} {f:α->β} {l:List α} {i:Nat} {x:α}:insL (l.map f) i (f x)=(insL l i x).map f:=by simp [insL,List.map_take,List.map_drop]
end Go.Am
namespace Go.Proofs.YtlmmddfhoabjfaaGreat
open Go.Am
abbrev sRow (s:Tx):ARow:=.cells 9 [txt s]
def insN (n:Nd) (i:Nat) (key:Tx) (p2:Nat):Nd:=⟨n.leaf,insL n.ks i key,n.vs,insL n.kids (i+1) (p2:Int)⟩
set_option maxHeartbeats 4000000 in
theorem spl_chn {c:Cfg} {G X:RL} {root cnt:Int} {r5 r8 r10 i p2:Nat} {key:Tx} {n:Nd} (h5:(r5,iRow (i:Nat))∈G) (h8:(r8,sRow key)∈G) (h10:(r10,iRow (p2:Nat))∈G) (hs:Sm n) (hi:i<=n.ks.length) (hz:i+1<=n.kids.length) :
  Chn c G X root cnt cnt 159 [ptr r5,ptr r8,ptr r10] n (insN n i key p2):=by
 intro rc w1 w2 w3 Y1 Y2 Y3 T es ck ws wk g1 g2 g3
 have e1:=hs.k; have e2:=hs.v; have e3:=hs.z
 obtain ⟨lf,ks,vs,kids⟩:=n
 simp only at g1 g2 g3 hi hz e1 e2 e3 ⊢
 have mG:∀ (p:Nat × ARow),p∈G->p∈(rc,ndRow lf w1 w2 w3)::HD c.rf c.rb c.rt c.rn c.rw T root cnt c.root0 c.cnt0 es ck ws wk (Y3++(Y2++(Y1++(G++X)))):=fun p hp=>by simp [hp]
 refine CS.mk (fn:=Tryz.f159) rfl rfl rfl rfl ?_
 repeat refine xQ ?_
 refine LS.drawn noGo mixed [(0,false),(1,false),(2,false),(3,false),(4,false),(5,false),(6,false),(7,true),(8,true),(9,false),(10,false),(11,true)] rfl rfl (by kernel_rfl) ?_
 iterate 4 refine xD rfl rfl rh rfl ?_
 refine xE rfl rfl (e_load 0 rfl rfl rfl rfl rfl) rfl ?_
 refine xE rfl rfl (e_loadm (mG _ h5) rfl rfl rfl rfl) rfl ?_
 refine xE rfl rfl (e_loadm (mG _ h8) rfl rfl rfl rfl) rfl ?_
 refine ODS.fresh rfl rfl (e_new (fun _=>rfl) rfl) (fun _=>rfl) (fun rv=>(by repeat (first | exact Keep.nil | refine Keep.gone rfl ?_ | refine Keep.cons rfl (e_load 1 rfl rfl rfl rfl rfl) ?_ | refine Keep.cons rfl (e_loadm (List.mem_cons_of_mem _ (mG _ h5)) rfl rfl rfl rfl) ?_))) (fun rv=>?_)
 refine ODS.nodup fun hnd=>?_
 have hrv:∀ p,p∈Y1->p.1≠rv:=fun p hp he=>by
  exact (List.nodup_cons.1 hnd).1 (List.mem_map.2 ⟨p,by simp [hp],he⟩)
 refine ODS.sub (Sub.sums (A:=Y1++((rv,sRow key)::(rc,ndRow lf w1 w2 w3)::HD c.rf c.rb c.rt c.rn c.rw T root cnt c.root0 c.cnt0 es ck ws wk (Y3++(Y2++(G++X))))) (B:=(rv,sRow key)::(rc,ndRow lf w1 w2 w3)::HD c.rf c.rb c.rt c.rn c.rw T root cnt c.root0 c.cnt0 es ck ws wk (Y3++(Y2++(Y1++(G++X))))) fun f=>by simp [HD,fm]<;>omega) ?_
 refine ODS.call rfl rfl (fun _=>rfl) ((InsertS_ct (x:=txt key) g1 hi (by omega) rfl (tx_one _) (List.mem_cons_self ..) hrv).mono ?_)
 rintro u1 L' ⟨Y1',rfl,o1⟩
 refine ⟨_,rfl,(by repeat (first | exact Keep.nil | refine Keep.gone rfl ?_)),?_⟩
 have o1':OL 9 1 u1 (insL ks i key).length (tx (insL ks i key)) Y1':=by
  rw [insL_len hi]
  have:=o1.ol
  rw [show txt key=(fun s=>txt s) key from rfl,insL_map] at this
  exact this
 refine ODS.sub (Sub.sums2 [(rv,sRow key)] (A:=(rc,ndRow lf w1 w2 w3)::HD c.rf c.rb c.rt c.rn c.rw T root cnt c.root0 c.cnt0 es ck ws wk (Y3++(Y2++(Y1'++(G++X))))) (B:=Y1'++((rv,sRow key)::(rc,ndRow lf w1 w2 w3)::HD c.rf c.rb c.rt c.rn c.rw T root cnt c.root0 c.cnt0 es ck ws wk (Y3++(Y2++(G++X))))) fun f=>by simp [HD,fm]<;>omega) ?_
 iterate 2 refine xD rfl rfl rh rfl ?_
 refine ODS.write rfl rfl (e_storeS 0 (isSl o1'.sv) rfl rfl rfl rfl rfl rfl rfl) rfl (by repeat (first | exact Keep.nil | refine Keep.gone rfl ?_)) ?_
 refine xM ?_
 have mG2:∀ (p:Nat × ARow),p∈G->p∈(rc,ndRow lf u1 w2 w3)::HD c.rf c.rb c.rt c.rn c.rw T root cnt c.root0 c.cnt0 es ck ws wk (Y3++(Y2++(Y1'++(G++X)))):=fun p hp=>by simp [hp]
 repeat refine xQ ?_
 refine LS.drawn noGo mixed [(0,false),(1,false),(2,false),(3,false),(4,false),(5,false),(6,false),(7,false),(8,true),(9,true),(10,false),(11,false),(12,true)] rfl rfl (by kernel_rfl) ?_
 iterate 4 refine xD rfl rfl rh rfl ?_
 refine xE rfl rfl (e_load 0 rfl rfl rfl rfl rfl) rfl ?_
 refine xE rfl rfl (e_loadm (mG2 _ h5) rfl rfl rfl rfl) rfl ?_
 refine xD rfl rfl (e_addN (n:=1) rfl rfl rfl (in_i64 (by omega) (by omega))) rfl ?_
 refine xE rfl rfl (e_loadm (mG2 _ h10) rfl rfl rfl rfl) rfl ?_
 refine ODS.fresh rfl rfl (e_new (fun _=>rfl) rfl) (fun _=>rfl) (fun rv=>(by repeat (first | exact Keep.nil | refine Keep.gone rfl ?_ | refine Keep.cons rfl (e_load 1 rfl rfl rfl rfl rfl) ?_ | refine Keep.cons rfl (e_loadm (List.mem_cons_of_mem _ (mG2 _ h5)) rfl rfl rfl rfl) ?_))) (fun rv=>?_)
 refine ODS.nodup fun hnd=>?_
 have hrv:∀ p,p∈Y3->p.1≠rv:=fun p hp he=>by
  exact (List.nodup_cons.1 hnd).1 (List.mem_map.2 ⟨p,by simp [hp],he⟩)
 refine ODS.sub (Sub.sums (A:=Y3++((rv,iRow (p2:Nat))::(rc,ndRow lf u1 w2 w3)::HD c.rf c.rb c.rt c.rn c.rw T root cnt c.root0 c.cnt0 es ck ws wk (Y2++(Y1'++(G++X))))) (B:=(rv,iRow (p2:Nat))::(rc,ndRow lf u1 w2 w3)::HD c.rf c.rb c.rt c.rn c.rw T root cnt c.root0 c.cnt0 es ck ws wk (Y3++(Y2++(Y1'++(G++X))))) fun f=>by simp [HD,fm]<;>omega) ?_
 refine ODS.call rfl rfl (fun _=>rfl) ((InsertZ_ct (x:=.int .i64 (p2:Nat)) g3 hz (by omega) rfl (nums_one _) (List.mem_cons_self ..) hrv).mono ?_)
 rintro u3 L' ⟨Y3',rfl,o3⟩
 refine ⟨_,rfl,(by repeat (first | exact Keep.nil | refine Keep.gone rfl ?_)),?_⟩
 have o3':OL 3 1 u3 (insL kids (i+1) (p2:Int)).length (nums (insL kids (i+1) (p2:Int))) Y3':=by
  rw [insL_len hz]
  have:=o3.ol
  rw [show Value.int .i64 (p2:Nat)=(fun z=>Value.int .i64 z) ((p2:Nat):Int) from rfl,insL_map] at this
  exact this
 refine ODS.sub (Sub.sums2 [(rv,iRow (p2:Nat))] (A:=(rc,ndRow lf u1 w2 w3)::HD c.rf c.rb c.rt c.rn c.rw T root cnt c.root0 c.cnt0 es ck ws wk ((Y3'++(Y2++Y1'))++(G++X))) (B:=Y3'++((rv,iRow (p2:Nat))::(rc,ndRow lf u1 w2 w3)::HD c.rf c.rb c.rt c.rn c.rw T root cnt c.root0 c.cnt0 es ck ws wk (Y2++(Y1'++(G++X))))) fun f=>by simp [HD,fm]<;>omega) ?_
 iterate 2 refine xD rfl rfl rh rfl ?_
 refine ODS.write rfl rfl (e_storeS 0 (isSl o3'.sv) rfl rfl rfl rfl rfl rfl rfl) rfl (by repeat (first | exact Keep.nil | refine Keep.gone rfl ?_)) ?_
 refine xM ?_
 exact ⟨_,fun _ _=>rfl,u1,w2,u3,Y3'++(Y2++Y1'),rfl,⟨o1'.pl.mono (fun p hp=>by simp [hp]),(g2.ol (show vs.length<=openCap by unfold openCap; omega)).pl.mono (fun p hp=>by simp [hp]),o3'.pl.mono (fun p hp=>by simp [hp])⟩⟩
end Go.Proofs.YtlmmddfhoabjfaaGreat
end
section
namespace Go.Proofs.YtlmmddfhoabjfaaGreat
open Go.Am
theorem frM_same {N k:Nat} {m:Mem} {n n':Nd} (h:k < N) (hm:m k=some n):frM N (updM m k (some n'))=frM N m:=by
 have:=frM_upd (m:=m) (o:=some n') h
 rw [hm] at this
 simp at this
 exact this
theorem frM_new {N k:Nat} {m:Mem} {n':Nd} (h:k < N) (hm:m k=none):frM N (updM m k (some n'))+1=frM N m:=by
 have:=frM_upd (m:=m) (o:=some n') h
 rw [hm] at this
 simpa using this
theorem insN_nos {h:Nat} {A B:List Tx} {key:Tx} {L R:List (Tr h)} {t u v:Tr h} {p2:Nat} (hl:A.length=L.length) (hu:no h u=no h t) (hv:no h v=p2):insN ⟨false,A++B,[],nos (L++t::R)⟩ L.length key p2=⟨false,A++key::B,[],nos (L++u::v::R)⟩:=by
 have e1:insL (A++B) L.length key=A++key::B:=by
  unfold insL
  rw [← hl,List.take_append_of_le_length (Nat.le_refl _),List.drop_append_of_le_length (Nat.le_refl _)]
  simp
 have e2:insL (nos (L++t::R)) (L.length+1) (p2:Int)=nos (L++u::v::R):=by
  unfold insL
  simp only [nos,List.map_append,List.map_cons,hu,hv]
  rw [List.take_append,List.drop_append,List.take_of_length_le (by simp),List.drop_eq_nil_of_le (by simp)]
  simp
 unfold insN
 rw [e1,e2]
set_option maxHeartbeats 4000000 in
theorem split_tr {c:Cfg} {G X:RL} {s:TSt} {rows:RL} {h p:Nat} {A B:List Tx} {L R:List (Tr h)} {t:Tr h} (htr:TR c G X s rows) (hl:A.length=L.length) (hB:B.length=R.length) (hr:RepT s.m (h+1) (inn p (A++B) (L++t::R))) (hn:(pgs (h+1) (inn p (A++B) (L++t::R))).Nodup)
  (hlen:(A++B).length<=1000) (hg:GoodN (nd h t)) (h2:2<=(nd h t).ks.length) (hf:0 < frM c.N s.m) :
  CS Tryz.prog 134 [ptr c.rt,.int .i64 (p:Nat),.int .i64 (L.length:Nat)] rows fun _ L'=>∃ X' m' q key p2,1<=q/\(nd h t).ks[q]?=some key/\(∀ q',1<=q'->q' < (nd h t).ks.length->mxN (nd h t) q<=mxN (nd h t) q')/\p2 < c.N/\(∀ q,q∈X->q∈X')/\TR c G X' ⟨m',s.root,s.cnt⟩ L' /\
   Via s.m m' (inn p (A++B) (L++t::R)) (inn p (A++key::B) (L++splL h t q::splR h t q p2::R))/\frM c.N m'+1=frM c.N s.m:=by
 suffices g:CS Tryz.prog 134 [ptr c.rt,.int .i64 (p:Nat),.int .i64 (L.length:Nat)] rows fun _ L'=>∃ x1 x2 x3 x4 X' m' q key p2,1<=q/\(nd h t).ks[q]?=some key/\(∀ q',1<=q'->q' < (nd h t).ks.length->mxN (nd h t) q<=mxN (nd h t) q')/\p2 < c.N/\(∀ q,q∈X->q∈X')/\TR c (x1::x2::x3::x4::G) X' ⟨m',s.root,s.cnt⟩ L' /\
   Via s.m m' (inn p (A++B) (L++t::R)) (inn p (A++key::B) (L++splL h t q::splR h t q p2::R))/\frM c.N m'+1=frM c.N s.m by
  refine g.less ?_
  rintro u L' ⟨x1,x2,x3,x4,X',m',q,key,p2,h1,h2,h3,h4,h5,h6,h7⟩
  obtain ⟨L1,g1,s1⟩:=h6.pop
  obtain ⟨L2,g2,s2⟩:=g1.pop
  obtain ⟨L3,g3,s3⟩:=g2.pop
  obtain ⟨L4,g4,s4⟩:=g3.pop
  exact ⟨L4,s4.trans (s3.trans (s2.trans s1)),X',m',q,key,p2,h1,h2,h3,h4,h5,g4,h7⟩
 have hmp:s.m p=some ⟨false,A++B,[],nos (L++t::R)⟩:=hr.top
 have hmt:s.m (no h t)=some (nd h t):=((rep_inn.1 hr).2 t (by simp)).top
 have hpt:p≠no h t:=fun he=>by
  rw [pgs_at,List.nodup_append] at hn
  exact hn.2.2 p (List.mem_cons_self ..) (no h t) (List.mem_append_left _ no_mem) he
 have spar:=htr.sm _ _ hmp
 have st:=htr.sm _ _ hmt
 have dp:=htr.dom p (by rw [hmp]; simp)
 have dt:=htr.dom _ (show s.m (no h t)≠none by rw [hmt]; simp)
 obtain ⟨T,es,ck,ws,wk,g,rfl,hN,hp,hgm,hmr⟩:=htr.now
 obtain ⟨r,hgr0,v1,v2,v3,hr1,hP⟩:=(hmr p).2 _ hmp
 have hgr:(g p).getD (.pointer none)=ptr r:=by rw [hgr0]; rfl
 obtain ⟨ra,hga,va1,va2,va3,hra,hPa⟩:=(hmr (no h t)).2 _ hmt
 have ega:(g (no h t)).getD (.pointer none)=ptr ra:=by rw [hga]; rfl
 refine CS.mk (fn:=Tryz.f134) rfl rfl rfl rfl ?_
 repeat refine xQ ?_
 refine xG rfl ?_
 refine OS.fresh rfl (e_boxV (v:=.int .i64 (L.length:Nat)) (cs:=[.int .i64 (L.length:Nat)]) rfl rfl rfl rfl rfl) (fun _=>rfl) (fun r5=>?_)
 refine OS.sub Sub.inQ ?_
 refine xN ?_
 have hXB:∀ q,q∈X->q∈HD c.rf c.rb c.rt c.rn c.rw T s.root s.cnt c.root0 c.cnt0 es ck ws wk ((r5,iRow (L.length:Nat))::(G++X)):=fun q hq=>by simp [hq]
 have m5:(r5,iRow (L.length:Nat))∈HD c.rf c.rb c.rt c.rn c.rw T s.root s.cnt c.root0 c.cnt0 es ck ws wk ((r5,iRow (L.length:Nat))::(G++X)):=by simp
 have mrt:(c.rt,trRow c.rf c.rn c.rw s.root s.cnt c.root0 c.cnt0)∈HD c.rf c.rb c.rt c.rn c.rw T s.root s.cnt c.root0 c.cnt0 es ck ws wk ((r5,iRow (L.length:Nat))::(G++X)):=by simp
 have mmap:(c.rn,ARow.map es ck)∈HD c.rf c.rb c.rt c.rn c.rw T s.root s.cnt c.root0 c.cnt0 es ck ws wk ((r5,iRow (L.length:Nat))::(G++X)):=by simp
 have m1:=hXB _ hr1
 have N1:=hP.nv spar hXB
 simp only at N1 m1
 repeat refine xQ ?_
 refine LS.drawn noGo mixed [(0,false),(1,false),(2,false),(3,false),(4,false),(5,false),(6,false),(7,false),(8,false),(9,false),(10,false),(11,false),(12,false),(13,false)] rfl rfl (by kernel_rfl) ?_
 iterate 4 refine xD rfl rfl rh rfl ?_
 refine xE rfl rfl (e_loadm mrt rfl rfl rfl rfl) rfl ?_
 refine xD rfl rfl rh rfl ?_
 refine xE rfl rfl (e_get hgm mmap rfl rfl rfl rfl (fun _=>rfl) rfl) rfl ?_
 rw [hgr]
 iterate 2 refine xD rfl rfl rh rfl ?_
 refine xE rfl rfl (e_loadm m1 rfl rfl rfl rfl) rfl ?_
 refine xE rfl rfl (e_loadm m5 rfl rfl rfl rfl) rfl ?_
 refine ODS.at1 (j:=L.length) (N1.z) (nos_at) rfl rfl rfl rfl rfl rfl rfl (fun ra0 oa0 rowa0 csa0 ma0 ca0 ga0=>⟨_,rfl,?_⟩)
 refine xE rfl rfl (e_loadm ma0 ca0 rfl rfl (part_one rfl ga0)) rfl ?_
 refine xD rfl rfl rh rfl ?_
 refine xM ?_
 repeat refine xQ ?_
 refine xG rfl ?_
 iterate 4 refine xP rfl rh rfl ?_
 refine xR rfl (e_loadm mrt rfl rfl rfl rfl) rfl ?_
 refine xP rfl rh rfl ?_
 refine xR rfl (e_get hgm mmap rfl rfl rfl rfl (fun _=>rfl) rfl) rfl ?_
 rw [ega]
 refine xA noGo rfl (fun _=>rfl) ((halves_ct (X:=X) hXB ⟨va1,va2,va3,hra,hPa⟩ st hg h2).mono ?_)
 rintro u L' ⟨w1,w2,w3,x1,x2,x3,q,key,hq1,hqk,hmin,rfl,rfl,pL,pR⟩
 refine ⟨_,rfl,?_⟩
 iterate 4 refine xP rfl rh rfl ?_
 refine OS.fresh rfl (e_new (fun _=>rfl) rfl) (fun _=>rfl) (fun r7=>?_)
 refine OS.fresh rfl (e_new (fun _=>rfl) rfl) (fun _=>rfl) (fun r8=>?_)
 refine OS.fresh rfl (e_new (fun _=>rfl) rfl) (fun _=>rfl) (fun r9=>?_)
 refine OS.write rfl (e_store 2 (n:=4) rfl rfl rfl rfl rfl (nd_one (isSl pL.k.sv) (isSl pL.v.sv) (isSl pL.z.sv)) rfl rfl) rfl ?_
 refine OS.write rfl (e_store 1 rfl rfl rfl rfl rfl rfl rfl rfl) rfl ?_
 refine OS.write rfl (e_store 0 (n:=4) rfl rfl rfl rfl rfl (nd_one (isSl pR.k.sv) (isSl pR.v.sv) (isSl pR.z.sv)) rfl rfl) rfl ?_
 refine OS.sub (Sub.sums (A:=HD c.rf c.rb c.rt c.rn c.rw T s.root s.cnt c.root0 c.cnt0 es ck ws wk (((r9,ndRow (nd h t).leaf x1 x2 x3)::(r8,sRow key)::(r5,iRow (L.length:Nat))::G)++((r7,ndRow (nd h t).leaf w1 w2 w3)::X))) (B:=(r9,ndRow (nd h t).leaf x1 x2 x3)::(r8,sRow key)::(r7,ndRow (nd h t).leaf w1 w2 w3)::HD c.rf c.rb c.rt c.rn c.rw T s.root s.cnt c.root0 c.cnt0 es ck ws wk ((r5,iRow (L.length:Nat))::(G++X))) fun f=>by simp [HD,fm]<;>omega) ?_
 refine xN ?_
 have hX1:∀ q,q∈X->q∈(r7,ndRow (nd h t).leaf w1 w2 w3)::X:=fun q hq=>List.mem_cons_of_mem _ hq
 have htr1:TR c ((r9,ndRow (nd h t).leaf x1 x2 x3)::(r8,sRow key)::(r5,iRow (L.length:Nat))::G) ((r7,ndRow (nd h t).leaf w1 w2 w3)::X) s (HD c.rf c.rb c.rt c.rn c.rw T s.root s.cnt c.root0 c.cnt0 es ck ws wk (((r9,ndRow (nd h t).leaf x1 x2 x3)::(r8,sRow key)::(r5,iRow (L.length:Nat))::G)++((r7,ndRow (nd h t).leaf w1 w2 w3)::X))):=⟨T,es,ck,ws,wk,hN,rfl,hp.mono hX1⟩
 have scut:=cut_sm st q
 repeat refine xQ ?_
 refine xG rfl ?_
 iterate 4 refine xP rfl rh rfl ?_
 refine xA noGo rfl (fun _=>rfl) ((lay_tr (o:=some (cutL (nd h t) q)) htr1 dt ⟨r7,rfl,w1,w2,w3,List.mem_cons_self ..,pL.mono hX1⟩ (fun n hn=>by cases hn; exact scut.1)).mono ?_)
 rintro u L1 h1
 refine ⟨_,rfl,?_⟩
 refine xN ?_
 have hfm1:frM c.N (updM s.m (no h t) (some (cutL (nd h t) q)))=frM c.N s.m:=frM_same dt hmt
 have m9:=h1.memG _ (List.mem_cons_self ..)
 repeat refine xQ ?_
 refine LS.mid [0,1,5,8,10] (fun a' L'=>∃ r10 p2 x,p2 < c.N/\(updM s.m (no h t) (some (cutL (nd h t) q))) p2=none/\TR c ((r10,iRow (p2:Nat))::(r9,ndRow (nd h t).leaf x1 x2 x3)::(r8,sRow key)::(r5,iRow (L.length:Nat))::G) (x::(r7,ndRow (nd h t).leaf w1 w2 w3)::X) ⟨updM (updM s.m (no h t) (some (cutL (nd h t) q))) p2 (some (cutR (nd h t) q)),s.root,s.cnt⟩ L' /\
  a'=[ptr c.rt,.int .i64 (p:Nat),jn,jn,jn,ptr r5,jn,jn,ptr r8,jn,ptr r10,jn,jn,jn,jn,jn,jn,jn,jn,jn,jn,jn,jn,jn,jn,jn,jn,jn,jn,jn,jn,jn,jn,jn,jn,jn,jn,jn,jn,jn,jn,jn,jn,jn,jn,jn,jn,jn,jn,jn,jn,jn]) ?_ ?_
 ·repeat refine xQ ?_
  refine LS.forked noGo mixed 7 rfl rfl (by kernel_rfl) ?_
  refine OGS.pure 0 (by kernel_rfl) rfl rfl (fun _=>rfl) rfl ?_
  refine OGS.pure 1 (by kernel_rfl) rfl rfl (fun _=>rfl) rfl ?_
  refine OGS.pure 2 (by kernel_rfl) rfl rfl (fun _=>rfl) rfl ?_
  refine OGS.read 3 (by kernel_rfl) rfl rfl (e_loadm m9 rfl rfl rfl rfl) rfl ?_
  refine OGS.turn2 4 5 (by kernel_rfl) (by kernel_rfl) ?_ ?_
  ·refine OT.call rfl rfl (fun _=>rfl) ((add_tr (n:=cutR (nd h t) q) h1 (by simp only; omega) (pR.mono hX1) scut.2).mono ?_)
   rintro u L2 ⟨p2,x,d2,hp2,rfl,h2⟩
   have m9':=h2.memG _ (List.mem_cons_self ..)
   refine ⟨_,rfl,(by repeat (first | exact Keep.nil | refine Keep.gone rfl ?_ | refine Keep.cons rfl (e_loadm m9' rfl rfl rfl rfl) ?_)),?_⟩
   refine OGS.turn1 5 (by kernel_rfl) (by kernel_rfl) (OT.fresh rfl rfl (e_new (fun _=>rfl) rfl) (fun _=>rfl) (fun r10=>(by repeat (first | exact Keep.nil | refine Keep.gone rfl ?_ | refine Keep.cons rfl (e_loadm (List.mem_cons_of_mem _ m9') rfl rfl rfl rfl) ?_))) (fun r10=>?_))
   refine OGS.turn1 6 (by kernel_rfl) (by kernel_rfl) (OT.write rfl rfl (e_store 0 rfl rfl rfl rfl rfl rfl rfl rfl) rfl (by repeat (first | exact Keep.nil | refine Keep.gone rfl ?_ | refine Keep.cons rfl (e_loadm (List.mem_cons_of_mem _ m9') rfl rfl rfl rfl) ?_)) ?_)
   obtain ⟨L3,h3,s3⟩:=h2.push (r10,iRow (p2:Nat))
   refine OGS.sub s3 ?_
   exact OGS.nil (by kernel_rfl) ⟨r10,p2,x,d2,hp2,h3,rfl⟩
  ·refine OT.fresh rfl rfl (e_new (fun _=>rfl) rfl) (fun _=>rfl) (fun r10=>(by repeat (first | exact Keep.nil | refine Keep.gone rfl ?_ | refine Keep.cons rfl (e_loadm (List.mem_cons_of_mem _ m9) rfl rfl rfl rfl) ?_))) (fun r10=>?_)
   obtain ⟨L2,h2,s2⟩:=h1.push (r10,iRow 0)
   refine OGS.sub s2 ?_
   refine OGS.turn1 4 (by kernel_rfl) (by kernel_rfl) (OT.call rfl rfl (fun _=>rfl) ((add_tr (n:=cutR (nd h t) q) h2 (by simp only; omega) (pR.mono hX1) scut.2).mono ?_))
   rintro u L3 ⟨p2,x,d2,hp2,rfl,h3⟩
   have m9':=h3.memG _ (List.mem_cons_of_mem _ (List.mem_cons_self ..))
   refine ⟨_,rfl,(by repeat (first | exact Keep.nil | refine Keep.gone rfl ?_ | refine Keep.cons rfl (e_loadm m9' rfl rfl rfl rfl) ?_)),?_⟩
   obtain ⟨T3,es3,ck3,ws3,wk3,hN3,rfl,hp3⟩:=h3
   have m9'':(r9,ndRow (nd h t).leaf x1 x2 x3)∈HD c.rf c.rb c.rt c.rn c.rw T3 s.root s.cnt c.root0 c.cnt0 es3 ck3 ws3 wk3 ((r10,iRow (p2:Nat))::(r9,ndRow (nd h t).leaf x1 x2 x3)::(r8,sRow key)::(r5,iRow (L.length:Nat))::(G++x::(r7,ndRow (nd h t).leaf w1 w2 w3)::X)):=by simp
   refine OGS.turn1 6 (by kernel_rfl) (by kernel_rfl) (OT.write rfl rfl (e_store 5 rfl rfl rfl rfl rfl rfl rfl rfl) rfl (by repeat (first | exact Keep.nil | refine Keep.gone rfl ?_ | refine Keep.cons rfl (e_loadm m9'' rfl rfl rfl rfl) ?_)) ?_)
   exact OGS.nil (by kernel_rfl) ⟨r10,p2,x,d2,hp2,⟨T3,es3,ck3,ws3,wk3,hN3,rfl,hp3⟩,rfl⟩
 rintro a' L2 ⟨r10,p2,x,d2,hp2,h2t,rfl⟩
 have hp2t:p2≠no h t:=fun he=>by
  unfold updM at hp2
  rw [if_pos he] at hp2
  cases hp2
 have hp2s:s.m p2=none:=by
  unfold updM at hp2
  rw [if_neg hp2t] at hp2
  exact hp2
 have hpp2:p≠p2:=fun he=>by rw [← he,hmp] at hp2s; cases hp2s
 have hm2:updM (updM s.m (no h t) (some (cutL (nd h t) q))) p2 (some (cutR (nd h t) q)) p=some ⟨false,A++B,[],nos (L++t::R)⟩:=by
  unfold updM
  rw [if_neg hpp2,if_neg hpt]; exact hmp
 have hins:=insN_nos (B:=B) (key:=key) (R:=R) (t:=t) (u:=splL h t q) (v:=splR h t q p2) hl no_splL no_splR
 have hkl:key.length<=2000:=st.kl key (List.mem_of_getElem? hqk)
 have hsn:Sm ⟨false,A++key::B,[],nos (L++splL h t q::splR h t q p2::R)⟩:=by
  have:=spar.kl
  simp only [List.length_append] at hlen
  refine ⟨by simp; omega,by simp,by simp [nos]; omega,fun k hk=>?_,fun k hk=>by cases hk⟩
  simp only [List.mem_append,List.mem_cons] at hk
  rcases hk with hk | rfl | hk
  ·exact this k (by simp [hk])
  ·exact hkl
  ·exact this k (by simp [hk])
 repeat refine xQ ?_
 refine xG rfl ?_
 iterate 5 refine xP rfl rh rfl ?_
 refine xA noGo rfl (fun _=>rfl) ((change_tr (caps:=[ptr r5,ptr r8,ptr r10]) (n':=⟨false,A++key::B,[],nos (L++splL h t q::splR h t q p2::R)⟩) h2t hm2 hsn (hins ▸ spl_chn (i:=L.length) (key:=key) (p2:=p2) (by simp) (by simp) (by simp) spar (by simp; omega) (by simp [nos]))).mono ?_)
 rintro u L3 ⟨X3,hX3,h3⟩
 refine ⟨_,rfl,?_⟩
 refine xN ?_
 have hfm2:frM c.N (updM (updM s.m (no h t) (some (cutL (nd h t) q))) p2 (some (cutR (nd h t) q)))+1=frM c.N s.m:=by
  rw [← hfm1]; exact frM_new d2 hp2
 have hfm3:=frM_same (n':=⟨false,A++key::B,[],nos (L++splL h t q::splR h t q p2::R)⟩) dp hm2
 exact ⟨_,fun _ _=>rfl,_,_,_,_,X3,_,q,key,p2,hq1,hqk,hmin,d2,fun y hy=>hX3 y (by simp [hy]),h3,Via.split hl hr hn hp2s hg hq1 hqk,by simp only at hfm3 ⊢; omega⟩
end Go.Proofs.YtlmmddfhoabjfaaGreat
end
section
namespace Go.Proofs.YtlmmddfhoabjfaaGreat
open Go.Am
theorem sub_post:∀ {ks:List Tx} {ss:List (List It)},ks.length=ss.length->(ks.map It.S).Sublist (postI ks ss)
 | [],[],_=>by simp [postI]
 | [],_::_,h=>by simp at h
 | _::_,[],h=>by simp at h
 | k::ks,s::ss,h=>by
  have:=sub_post (ks:=ks) (ss:=ss) (by simpa using h)
  simp only [List.map_cons,postI]
  exact (this.trans (List.sublist_append_right ..)).cons_cons _
theorem sub_wv {ks:List Tx} {ss:List (List It)} (h:ss.length=ks.length+1):(ks.map It.S).Sublist (wv ks ss):=by
 cases ss with
 | nil=>simp at h
 | cons s ss=>exact (sub_post (by simpa using h.symm)).trans (List.sublist_append_right ..)
theorem srt_keys {h p:Nat} {ks:List Tx} {ts:List (Tr h)} (hs:Srt (sq (h+1) (inn p ks ts))) (hl:ts.length=ks.length+1):ks.Pairwise fun a b=>bytesLt a b=true:=by
 have h1:Srt (ks.map It.S):=List.Pairwise.sublist (sub_wv (by rw [List.length_map]; exact hl)) hs
 unfold Srt at h1
 rw [List.pairwise_map] at h1
 exact h1
theorem may_inn {h p:Nat} {ks:List Tx} {ts:List (Tr h)} (hs:Srt (sq (h+1) (inn p ks ts))) (hl:ts.length=ks.length+1) (hk:∀ k∈ks,1<=k.length/\k.length<=32) (hp:∀ s∈ts,no h s<=32768):mayN ⟨false,ks,[],nos ts⟩=true:=by
 refine may_iff.2 ⟨rise_iff.2 ⟨srt_keys hs hl,fun k hk'=>⟨?_,(hk k hk').2⟩⟩,.inr ⟨rfl,by simpa [nos] using hl,rfl,fun z hz=>?_⟩⟩
 ·have:=(hk k hk').1
  cases k with
  | nil=>simp at this
  | cons _ _=>rfl
 ·have hz:z∈nos ts:=hz
  obtain ⟨s,hs',rfl⟩:=List.mem_map.1 hz
  have:=hp s hs'
  omega
theorem may_keys {n:Nd} (h:mayN n=true):∀ k∈n.ks,1<=k.length/\k.length<=32:=fun k hk=>(rise_all (may_iff.1 h).1 k hk).2
theorem inn_body {ks:List Tx} {z:Int} {zs:List Int} (h:ks.length<=127):(bodyN ⟨false,ks,[],z::zs⟩).length=2+((cnt z).length+(zipB ks (zs.map cnt)).length):=by
 rw [body_len h]; rfl
theorem ins_body {h:Nat} {A B:List Tx} {key:Tx} {L R:List (Tr h)} {t u v:Tr h} (hl:A.length=L.length) (hB:B.length=R.length) (hlen:(A++B).length<=126) (hkey:key.length<=32) (hu:no h u=no h t) (hv:no h v<=32768) :
  (bodyN ⟨false,A++key::B,[],nos (L++u::v::R)⟩).length<=(bodyN ⟨false,A++B,[],nos (L++t::R)⟩).length+36:=by
 have h3:=cnt_3 (z:=(no h v:Nat)) (by omega)
 have h33:(tB key).length<=33:=by rw [tB_len (by omega)]; omega
 have hlen2:(A++key::B).length<=127:=by simp only [List.length_append,List.length_cons] at hlen ⊢; omega
 have hc:∀ l:List (Tr h),((nos l).map cnt).length=l.length:=fun l=>by simp [nos]
 have hz:(zipB (key::B) ((nos (v::R)).map cnt))=tB key++(cnt (no h v:Nat)++zipB B ((nos R).map cnt)):=rfl
 have hnn:∀ (l l':List (Tr h)),(nos (l++l')).map cnt=(nos l).map cnt++(nos l').map cnt:=fun l l'=>by simp [nos]
 cases L with
 | nil =>
  have hA:A=[]:=List.eq_nil_of_length_eq_zero (by simpa using hl)
  subst hA
  show (bodyN ⟨false,key::B,[],((no h u:Nat):Int)::nos (v::R)⟩).length<=(bodyN ⟨false,B,[],((no h t:Nat):Int)::nos R⟩).length+36
  rw [inn_body (by simpa using hlen2),inn_body (by simp at hlen; omega),hz,hu]
  simp only [List.length_append]
  omega
 | cons l L =>
  show (bodyN ⟨false,A++key::B,[],((no h l:Nat):Int)::nos (L++u::v::R)⟩).length<=(bodyN ⟨false,A++B,[],((no h l:Nat):Int)::nos (L++t::R)⟩).length+36
  rw [inn_body hlen2,inn_body (by omega)]
  have e1:(nos (L++u::v::R)).map cnt=(nos (L++[t])).map cnt++(nos (v::R)).map cnt:=by simp [nos,hu]
  have e2:(nos (L++t::R)).map cnt=(nos (L++[t])).map cnt++(nos R).map cnt:=by simp [nos]
  have hl2:A.length=((nos (L++[t])).map cnt).length:=by rw [hc]; simp at hl ⊢; exact hl
  rw [e1,e2,zipB_app hl2,zipB_app hl2,hz]
  simp only [List.length_append]
  omega
theorem first_Less {h:Nat} {k:Tx} {B:List Tx} {R:List (Tr h)} {t r:Tr h}:Less ⟨false,k::B,[],nos (t::r::R)⟩ ⟨false,B,[],nos (r::R)⟩:=fun hb=>by
 have hk:=hb.keys
 simp only [List.length_cons] at hk
 obtain ⟨h0,hor⟩:=may_iff.1 hb.may
 have hm:mayN ⟨false,B,[],nos (r::R)⟩=true:=by
  refine may_iff.2 ⟨rise_sub h0 (List.sublist_cons_self ..),.inr ⟨rfl,?_,rfl,fun z hz=>?_⟩⟩
  ·have:=(may_kids hb.may rfl).1
   simp [nos] at this ⊢; omega
  ·exact (may_kids hb.may rfl).2.2 z (List.mem_cons_of_mem _ hz)
 have hle:(bodyN ⟨false,B,[],nos (r::R)⟩).length<=(bodyN ⟨false,k::B,[],nos (t::r::R)⟩).length:=by
  show (bodyN ⟨false,B,[],((no h r:Nat):Int)::nos R⟩).length<=(bodyN ⟨false,k::B,[],((no h t:Nat):Int)::nos (r::R)⟩).length
  rw [inn_body (by omega),inn_body (by simp; omega)]
  have hz:(zipB (k::B) ((nos (r::R)).map cnt))=tB k++(cnt (no h r:Nat)++zipB B ((nos R).map cnt)):=rfl
  rw [hz]
  simp only [List.length_append]
  omega
 exact ⟨⟨hm,by have:=hb.le; omega⟩,hle⟩
def StPost (c:Cfg) (G X:RL) (s:TSt) {h:Nat} (p:Nat) (ks:List Tx) (ts:List (Tr h)) (L':RL):Prop :=
 ∃ X' m' ks' ts',(∀ q,q∈X->q∈X')/\TR c G X' ⟨m',s.root,s.cnt⟩ L'/\Via s.m m' (inn p ks ts) (inn p ks' ts')/\Loc m' p ks' ts'/\Less ⟨false,ks,[],nos ts⟩ ⟨false,ks',[],nos ts'⟩/\frM c.N s.m<=frM c.N m'/\(ts≠[]->ts'≠[])/\(ts=[]->ks'=ks/\ts'=[])
theorem settle_any {c:Cfg} {G X:RL} {s:TSt} {L:RL} {h p:Nat} {ks:List Tx} {ts:List (Tr h)} {i:Int} (htr:TR c G X s L) (hloc:Loc s.m p ks ts) (h1:-8<=i) (h2:i<=1000) :
  CS Tryz.prog 101 [ptr c.rt,.int .i64 (p:Nat),.int .i64 i] L fun _ L'=>StPost c G X s p ks ts L':=by
 by_cases hi:i < 0∨(ts.length:Int)<=i
 ·refine (settle_out (join_all h) htr hloc hi h1 h2).mono ?_
  rintro u L' ⟨_,h3⟩
  exact ⟨X,s.m,ks,ts,fun _ hq=>hq,h3,Via.refl hloc.rep hloc.nod,hloc,Less.refl,Nat.le_refl _,id,fun h=>⟨rfl,h⟩⟩
 ·refine (settle_all h c G X s L p ks ts i htr hloc (by omega) (by omega)).mono ?_
  rintro u L' ⟨X',m',A,Y,B,L1,M,R,w,hw,_,_,_⟩
  have hne:ts≠[]:=by rintro rfl; simp at hi; omega
  exact ⟨X',m',A++B,L1++w::R,hw.hX,hw.tr,hw.via,hw.loc (hloc.bg hne) hloc.ok,hw.less,hw.fr,fun _=>(by simp),fun h=>absurd h hne⟩
def Emp {h:Nat} (t:Tr h):Prop:=(nd h t).vs=[]/\(nd h t).kids=[]/\(nd h t).ks=[]
theorem emp_pgs:∀ {h:Nat} {t:Tr h},Emp t->pgs h t=[no h t]
 | 0,t,_=>by
  obtain ⟨p,ks,vs,rfl⟩:=lf_eta t
  rfl
 | h+1,t,he=>by
  obtain ⟨p,ks,ts,rfl⟩:=inn_eta t
  have h1:nos ts=[]:=he.2.1
  have h2:ts=[]:=by simpa [nos] using h1
  subst h2
  rfl
theorem emp_sq:∀ {h:Nat} {t:Tr h},Emp t->sq h t=[]
 | 0,t,he=>by
  obtain ⟨p,ks,vs,rfl⟩:=lf_eta t
  have h1:ks=[]:=he.2.2
  subst h1
  rfl
 | h+1,t,he=>by
  obtain ⟨p,ks,ts,rfl⟩:=inn_eta t
  have h1:nos ts=[]:=he.2.1
  have h2:ts=[]:=by simpa [nos] using h1
  subst h2
  rfl
theorem emp_chg {h:Nat} {t:Tr h} {m:Mem} (he:Emp t):Chg m (updM m (no h t) none) (pgs h t) []:=by
 rw [emp_pgs he]
 refine ⟨List.nodup_nil,fun q hq=>(by cases hq),fun q h1 _=>?_,fun q h1 _=>?_⟩
 ·simp at h1; unfold updM; rw [if_neg h1]
 ·simp at h1; unfold updM; rw [if_pos h1]
end Go.Proofs.YtlmmddfhoabjfaaGreat
end
section
namespace Go.Proofs.YtlmmddfhoabjfaaGreat
open Go.Am
def Lz {h:Nat} (t:Tr h):Prop:=Emp t∨(Bg (nd h t)/\(bodyN (nd h t)).length<=354/\Kok h t/\((nd h t).ks≠[]∨(nd h t).leaf=false))
theorem Okt.lz:∀ {h:Nat} {t:Tr h},Okt h t->Lz t
 | 0,t,hk=>by
  obtain ⟨p,ks,vs,rfl⟩:=lf_eta t
  exact .inr ⟨Bg.of hk.fits,by have:=fits_le hk.fits; omega,hk.kok,.inl hk.2⟩
 | h+1,t,hk=>.inr ⟨Bg.of hk.fits,by have:=fits_le hk.fits; omega,hk.kok,.inr rfl⟩
theorem big_full {n:Nd} (hb:Bg n) (hne:n.ks≠[]∨n.leaf=false):¬ (n.vs=[]/\n.kids=[]):=fun ⟨h1,h2⟩=>by
 rcases may_good hb.may with ⟨g1,g2,g3⟩ | ⟨g1,g2,g3⟩
 ·rw [h1] at g2
  rcases hne with h | h
  ·exact h (List.eq_nil_of_length_eq_zero (by simpa using g2.symm))
  ·rw [g1] at h; cases h
 ·rw [h2] at g2; simp at g2
theorem drop_at {h:Nat} {A B:List Tx} {k:Tx} {L R:List (Tr h)} {l t:Tr h} (hl:A.length=L.length):dropN ⟨false,(A++[k])++B,[],nos ((L++[l])++t::R)⟩ (L++[l]).length=⟨false,A++B,[],nos (L++l::R)⟩:=by
 have e1:((A++[k])++B).eraseIdx ((L++[l]).length - 1)=A++B:=by
  have:(L++[l]).length - 1=A.length:=by simp; omega
  rw [this,List.append_assoc,List.eraseIdx_append_of_length_le (Nat.le_refl _)]
  simp
 have e2:(nos ((L++[l])++t::R)).eraseIdx (L++[l]).length=nos (L++l::R):=by
  unfold nos
  rw [List.map_append,List.eraseIdx_append_of_length_le (by simp)]
  simp
 unfold dropN
 rw [e1,e2]
theorem drop_via {m:Mem} {h p:Nat} {A B:List Tx} {L R:List (Tr h)} {t:Tr h} (hl:A.length=L.length) (hB:B.length=R.length) (hr:RepT m (h+1) (inn p (A++B) (L++t::R))) (hn:(pgs (h+1) (inn p (A++B) (L++t::R))).Nodup) (he:Emp t) (hb:Bg ⟨false,A++B,[],nos (L++t::R)⟩) (hok:∀ q∈L++R,Okt h q) :
  ∃ ks' ts',dropN ⟨false,A++B,[],nos (L++t::R)⟩ L.length=⟨false,ks',[],nos ts'⟩/\Via m (updM (updM m (no h t) none) p (some ⟨false,ks',[],nos ts'⟩)) (inn p (A++B) (L++t::R)) (inn p ks' ts')/\(∀ q∈ts',Okt h q)/\((ks'=[]/\ts'=[])∨(Bg ⟨false,ks',[],nos ts'⟩/\(bodyN ⟨false,ks',[],nos ts'⟩).length<=(bodyN ⟨false,A++B,[],nos (L++t::R)⟩).length)):=by
 have hseg:∀ (K':List Tx),SQ (sq (h+1) (inn p (A++B) (L++t::R))) (sq (h+1) (inn p K' (L++R)))->Via m (updM (updM m (no h t) none) p (some ⟨false,K',[],nos (L++R)⟩)) (inn p (A++B) (L++t::R)) (inn p K' (L++R)):=fun K' hsq =>
  Via.seg (K:=A++B) (K':=K') (L:=L) (M:=[t]) (M':=[]) (R:=R) hr hn (by simpa using emp_chg he) (fun s hs=>by cases hs) hsq
 have hst:=emp_sq he
 rcases List.eq_nil_or_concat L with rfl | ⟨L,l,rfl⟩
 ·have hA:A=[]:=List.eq_nil_of_length_eq_zero (by simpa using hl)
  subst hA
  cases R with
  | nil =>
   have hBn:B=[]:=List.eq_nil_of_length_eq_zero (by simpa using hB)
   subst hBn
   refine ⟨[],[],rfl,hseg [] (SQ.of ?_),fun q hq=>(by cases hq),.inl ⟨rfl,rfl⟩⟩
   show wv [] [sq h t]=wv [] []
   rw [hst]; rfl
  | cons r R =>
   cases B with
   | nil=>simp at hB
   | cons k B =>
    refine ⟨B,r::R,rfl,hseg B ?_,fun q hq=>hok q (by simpa using hq),.inr (first_Less (k:=k) (t:=t) hb)⟩
    have h1:sq (h+1) (inn p ([]++k::B) ([]++t::r::R))=sq h t++It.S k::(sq h r++postI B (R.map (sq h))):=rfl
    rw [h1,hst]
    exact SQ.drop (a:=[])
 ·rw [List.concat_eq_append] at *
  rcases List.eq_nil_or_concat A with rfl | ⟨A,k,rfl⟩
  ·simp at hl
  rw [List.concat_eq_append] at *
  have hl':A.length=L.length:=by simpa using hl
  have hd:=drop_at (B:=B) (k:=k) (R:=R) (l:=l) (t:=t) hl'
  refine ⟨A++B,L++l::R,hd,?_,fun q hq=>hok q (by simpa [or_assoc] using hq),.inr ?_⟩
  ·have h1:=hseg (A++B) (by
    have e2:sq (h+1) (inn p (A++B) ((L++[l])++R))=preI A (L.map (sq h))++(sq h l++postI B (R.map (sq h))):=by
     rw [List.append_assoc]; exact sq_at hl'
    rw [sq_at (by simpa using hl),e2,hst]
    have e3:preI (A++[k]) ((L++[l]).map (sq h))=preI A (L.map (sq h))++(sq h l++[It.S k]):=by
     rw [List.map_append,preI_app (by simpa using hl')]; rfl
    rw [e3]
    have:=SQ.drop (a:=preI A (L.map (sq h))++sq h l) (b:=postI B (R.map (sq h))) (k:=k)
    simpa only [List.append_assoc,List.cons_append,List.nil_append] using this)
   rw [List.append_assoc] at h1
   exact h1
  ·have h2:=without_Less (n:=⟨false,(A++[k])++B,[],nos ((L++[l])++t::R)⟩) (i:=A.length) (by simp) hb
   have h3:withoutN ⟨false,(A++[k])++B,[],nos ((L++[l])++t::R)⟩ A.length=⟨false,A++B,[],nos (L++l::R)⟩:=by
    have:=hd
    unfold dropN at this
    unfold withoutN
    have e1:(L++[l]).length - 1=A.length:=by simp; omega
    have e2:(L++[l]).length=A.length+1:=by simp; omega
    rw [e1,e2] at this
    simpa using this
   rw [h3] at h2
   exact h2
end Go.Proofs.YtlmmddfhoabjfaaGreat
end
section
namespace Go.Proofs.YtlmmddfhoabjfaaGreat
open Go.Am
theorem kids_at {h p:Nat} {ks:List Tx} {ts:List (Tr h)} {m:Mem} (hr:RepT m (h+1) (inn p ks ts)) {s:Tr h} (hs:s∈ts):m (no h s)=some (nd h s):=((rep_inn.1 hr).2 s hs).top
def Sml {h:Nat} (t:Tr h):Prop:=Emp t∨(bodyN (nd h t)).length<=256
def MPost (c:Cfg) (G X:RL) (s:TSt) {h:Nat} (sm:Prop) (p:Nat) (ks:List Tx) (ts:List (Tr h)) (L':RL):Prop :=
 ∃ X' m' ks' ts',(∀ q,q∈X->q∈X')/\TR c G X' ⟨m',s.root,s.cnt⟩ L'/\Via s.m m' (inn p ks ts) (inn p ks' ts')/\(∀ q∈ts',Okt h q)/\((ks'=[]/\ts'=[])∨(Bg ⟨false,ks',[],nos ts'⟩/\(bodyN ⟨false,ks',[],nos ts'⟩).length<=292))/\frM c.N s.m<=frM c.N m'+1/\(sm->frM c.N s.m<=frM c.N m'/\(ts'≠[]->(bodyN ⟨false,ks',[],nos ts'⟩).length<=256))
theorem MPost.lz {c:Cfg} {G X:RL} {s:TSt} {h p:Nat} {ks:List Tx} {ts:List (Tr h)} {L':RL} {sm:Prop} (hm:MPost c G X s sm p ks ts L'):∃ X' m' ks' ts',(∀ q,q∈X->q∈X')/\TR c G X' ⟨m',s.root,s.cnt⟩ L'/\Via s.m m' (inn p ks ts) (inn p ks' ts')/\Lz (inn p ks' ts')/\(∀ q∈ts',Okt h q)/\frM c.N s.m<=frM c.N m'+1/\(sm->frM c.N s.m<=frM c.N m'/\Sml (inn p ks' ts')):=by
 obtain ⟨X',m',ks',ts',h1,h2,h3,h4,h5,h6,h8⟩:=hm
 refine ⟨X',m',ks',ts',h1,h2,h3,?_,h4,h6,fun hs=>⟨(h8 hs).1,?_⟩⟩
 rotate_left
 ·by_cases ht:ts'=[]
  ·rcases h5 with ⟨rfl,rfl⟩ | ⟨h5,_⟩
   ·exact .inl ⟨rfl,rfl,rfl⟩
   ·have:=bg_len h5
    rw [ht] at this
    simp at this
  ·exact .inr ((h8 hs).2 ht)
 rcases h5 with ⟨rfl,rfl⟩ | ⟨h5,h7⟩
 ·exact .inl ⟨rfl,rfl,rfl⟩
 ·exact .inr ⟨h5,by show (bodyN ⟨false,ks',[],nos ts'⟩).length<=354; omega,h4,.inr rfl⟩
set_option maxHeartbeats 4000000 in
theorem mendKid_tr {c:Cfg} {G X:RL} {s:TSt} {rows:RL} {h p:Nat} {A B:List Tx} {L R:List (Tr h)} {t:Tr h} (htr:TR c G X s rows) (hl:A.length=L.length) (hB:B.length=R.length) (hr:RepT s.m (h+1) (inn p (A++B) (L++t::R))) (hn:(pgs (h+1) (inn p (A++B) (L++t::R))).Nodup)
  (hfit:fitsN ⟨false,A++B,[],nos (L++t::R)⟩=true) (hok:∀ q∈L++R,Okt h q) (hsrt:Srt (sq (h+1) (inn p (A++B) (L++t::R)))) (hlz:Lz t) (hf:256 < (bodyN (nd h t)).length->0 < frM c.N s.m) :
  CS Tryz.prog 107 [ptr c.rt,.int .i64 (p:Nat),.int .i64 (L.length:Nat)] rows fun _ L'=>MPost c G X s (Sml t) p (A++B) (L++t::R) L':=by
 suffices g:CS Tryz.prog 107 [ptr c.rt,.int .i64 (p:Nat),.int .i64 (L.length:Nat)] rows fun _ L'=>∃ x,MPost c (x::G) X s (Sml t) p (A++B) (L++t::R) L' by
  refine g.less ?_
  rintro u L' ⟨x,X',m',ks',ts',h1,h2,h3⟩
  obtain ⟨L1,g1,s1⟩:=h2.pop
  exact ⟨L1,s1,X',m',ks',ts',h1,g1,h3⟩
 have hmp:s.m p=some ⟨false,A++B,[],nos (L++t::R)⟩:=hr.top
 have hmt:s.m (no h t)=some (nd h t):=kids_at hr (by simp)
 have hpt:p≠no h t:=fun he=>by
  rw [pgs_at,List.nodup_append] at hn
  exact hn.2.2 p (List.mem_cons_self ..) (no h t) (List.mem_append_left _ no_mem) he
 have hbp:=Bg.of hfit
 have hkp:=hbp.keys
 simp only at hkp
 have hle:=bg_len hbp
 have hL119:L.length<=119:=by simp only [List.length_append] at hkp; omega
 have spar:=htr.sm _ _ hmp
 have st:=htr.sm _ _ hmt
 have dp:=htr.dom p (by rw [hmp]; simp)
 have dt:=htr.dom _ (show s.m (no h t)≠none by rw [hmt]; simp)
 have hN32:=htr.N
 obtain ⟨T,es,ck,ws,wk,g,rfl,hN,hp,hgm,hmr⟩:=htr.now
 obtain ⟨r,hgr0,v1,v2,v3,hr1,hP⟩:=(hmr p).2 _ hmp
 have hgr:(g p).getD (.pointer none)=ptr r:=by rw [hgr0]; rfl
 obtain ⟨ra,hga,va1,va2,va3,hra,hPa⟩:=(hmr (no h t)).2 _ hmt
 have ega:(g (no h t)).getD (.pointer none)=ptr ra:=by rw [hga]; rfl
 refine CS.mk (fn:=Tryz.f107) rfl rfl rfl rfl ?_
 repeat refine xQ ?_
 refine xG rfl ?_
 refine OS.fresh rfl (e_boxV (v:=.int .i64 (L.length:Nat)) (cs:=[.int .i64 (L.length:Nat)]) rfl rfl rfl rfl rfl) (fun _=>rfl) (fun r5=>?_)
 refine OS.sub Sub.inQ ?_
 refine xN ?_
 have hXB:∀ q,q∈X->q∈HD c.rf c.rb c.rt c.rn c.rw T s.root s.cnt c.root0 c.cnt0 es ck ws wk ((r5,iRow (L.length:Nat))::(G++X)):=fun q hq=>by simp [hq]
 have m5:(r5,iRow (L.length:Nat))∈HD c.rf c.rb c.rt c.rn c.rw T s.root s.cnt c.root0 c.cnt0 es ck ws wk ((r5,iRow (L.length:Nat))::(G++X)):=by simp
 have mrt:(c.rt,trRow c.rf c.rn c.rw s.root s.cnt c.root0 c.cnt0)∈HD c.rf c.rb c.rt c.rn c.rw T s.root s.cnt c.root0 c.cnt0 es ck ws wk ((r5,iRow (L.length:Nat))::(G++X)):=by simp
 have mmap:(c.rn,ARow.map es ck)∈HD c.rf c.rb c.rt c.rn c.rw T s.root s.cnt c.root0 c.cnt0 es ck ws wk ((r5,iRow (L.length:Nat))::(G++X)):=by simp
 have m1:=hXB _ hr1
 have ma:=hXB _ hra
 have N1:=hP.nv spar hXB
 have Na:=hPa.nv st hXB
 simp only at N1 m1
 repeat refine xQ ?_
 refine LS.drawn noGo mixed [(0,false),(1,false),(2,false),(3,false),(4,false),(5,false),(6,false),(7,false),(8,false),(9,false),(10,false),(11,false),(12,false),(13,false)] rfl rfl (by kernel_rfl) ?_
 iterate 4 refine xD rfl rfl rh rfl ?_
 refine xE rfl rfl (e_loadm mrt rfl rfl rfl rfl) rfl ?_
 refine xD rfl rfl rh rfl ?_
 refine xE rfl rfl (e_get hgm mmap rfl rfl rfl rfl (fun _=>rfl) rfl) rfl ?_
 rw [hgr]
 iterate 2 refine xD rfl rfl rh rfl ?_
 refine xE rfl rfl (e_loadm m1 rfl rfl rfl rfl) rfl ?_
 refine xE rfl rfl (e_loadm m5 rfl rfl rfl rfl) rfl ?_
 refine ODS.at1 (j:=L.length) (N1.z) (nos_at) rfl rfl rfl rfl rfl rfl rfl (fun ra0 oa0 rowa0 csa0 ma0 ca0 ga0=>⟨_,rfl,?_⟩)
 refine xE rfl rfl (e_loadm ma0 ca0 rfl rfl (part_one rfl ga0)) rfl ?_
 refine xD rfl rfl rh rfl ?_
 refine xM ?_
 repeat refine xQ ?_
 refine xG rfl ?_
 iterate 4 refine xP rfl rh rfl ?_
 refine xR rfl (e_loadm mrt rfl rfl rfl rfl) rfl ?_
 refine xP rfl rh rfl ?_
 refine xR rfl (e_get hgm mmap rfl rfl rfl rfl (fun _=>rfl) rfl) rfl ?_
 rw [ega]
 refine xP rfl rh rfl ?_
 refine xN ?_
 have htr1:TR c ((r5,iRow (L.length:Nat))::G) X s (HD c.rf c.rb c.rt c.rn c.rw T s.root s.cnt c.root0 c.cnt0 es ck ws wk ((r5,iRow (L.length:Nat))::(G++X))):=⟨T,es,ck,ws,wk,hN,rfl,hp⟩
 repeat refine xQ ?_
 refine LS.mid [0,1,5] (fun a' L'=>(∃ X1 m1 ks1 ts1,(∀ q,q∈X->q∈X1)/\TR c ((r5,iRow (L.length:Nat))::G) X1 ⟨m1,s.root,s.cnt⟩ L'/\Via s.m m1 (inn p (A++B) (L++t::R)) (inn p ks1 ts1)/\(∀ q∈ts1,Okt h q)/\((ks1=[]/\ts1=[])∨(Bg ⟨false,ks1,[],nos ts1⟩/\(bodyN ⟨false,ks1,[],nos ts1⟩).length<=292))/\frM c.N s.m<=frM c.N m1+1/\(Sml t->frM c.N s.m<=frM c.N m1/\(ts1≠[]->(bodyN ⟨false,ks1,[],nos ts1⟩).length<=256)))/\a'=[ptr c.rt,.int .i64 (p:Nat),jn,jn,jn,ptr r5,jn,jn,jn,jn,jn,jn,jn,jn,jn,jn,jn,jn,jn,jn,jn,jn,jn,jn,jn,jn,jn,jn,jn,jn,jn,jn,jn,jn,jn,jn,jn,jn,jn,jn,jn,jn,jn,jn,jn,jn,jn,jn,jn,jn,jn,jn,jn,jn,jn,jn,jn,jn,jn,jn,jn]) ?_ ?_
 ·refine LS.block ?_
  repeat refine xQ ?_
  refine xG rfl ?_
  refine xP rfl rh rfl ?_
  refine xA noGo rfl (fun _=>rfl) ((isEmpty_ct (X:=X) hXB ⟨va1,va2,va3,hra,hPa⟩ st).mono ?_)
  rintro u L' ⟨rfl,rfl⟩
  refine ⟨_,rfl,?_⟩
  refine xP rfl rh rfl ?_
  refine xN ?_
  rcases hlz with he | ⟨hb,hbl,hkok,hne⟩
  ·rw [decide_eq_true ⟨he.1,he.2.1⟩]
   repeat refine xQ ?_
   refine xC rfl (fun hc=>?_) (fun hc=>?_)
   ·obtain ⟨ks',ts',hdrop,hvia,hok',hor⟩:=drop_via hl hB hr hn he hbp hok
    repeat refine xQ ?_
    refine xG rfl ?_
    iterate 4 refine xP rfl rh rfl ?_
    refine xA noGo rfl (fun _=>rfl) ((lay_tr (o:=none) htr1 dt rfl (fun n hn=>by cases hn)).mono ?_)
    rintro u L1 h1
    refine ⟨_,rfl,?_⟩
    refine xN ?_
    have hm1:updM s.m (no h t) none p=some ⟨false,A++B,[],nos (L++t::R)⟩:=by unfold updM; rw [if_neg hpt]; exact hmp
    have hsn:Sm ⟨false,ks',[],nos ts'⟩:=by
     rcases hor with ⟨rfl,rfl⟩ | ⟨hb',_⟩
     ·exact ⟨by simp,by simp,by simp [nos],fun k hk=>(by cases hk),fun k hk=>(by cases hk)⟩
     ·exact hb'.sm
    have hkk:A++B=[]∨L.length - 1 < (A++B).length:=by
     simp only [List.length_append] at hle
     by_cases h0:A++B=[]
     ·exact .inl h0
     ·refine .inr ?_
      have:0 < (A++B).length:=List.length_pos_iff.2 h0
      simp only [List.length_append,List.length_cons] at this hle ⊢
      omega
    repeat refine xQ ?_
    refine xG rfl ?_
    iterate 5 refine xP rfl rh rfl ?_
    refine xA noGo rfl (fun _=>rfl) ((change_tr (caps:=[ptr r5]) (n':=⟨false,ks',[],nos ts'⟩) h1 hm1 hsn (hdrop ▸ drop_chn (i:=L.length) (List.mem_cons_self ..) spar (by simp [nos]) hkk)).mono ?_)
    rintro u L2 ⟨X2,hX2,h2⟩
    refine ⟨_,rfl,?_⟩
    refine xN ?_
    have f1:=frM_upd (m:=s.m) (o:=none) dt
    rw [hmt] at f1
    have f2:=frM_same (n':=⟨false,ks',[],nos ts'⟩) dp hm1
    simp at f1
    refine ⟨⟨X2,_,ks',ts',hX2,h2,hvia,hok',?_,by simp only; omega,fun _=>⟨by simp only; omega,fun hne=>?_⟩⟩,rfl⟩
    ·rcases hor with h | ⟨h,h'⟩
     ·exact .inl h
     ·exact .inr ⟨h,by have:=fits_le hfit; omega⟩
    ·rcases hor with h | ⟨h,h'⟩
     ·exact absurd h.2 hne
     ·have:=fits_le hfit; omega
   ·cases hc
  ·rw [decide_eq_false (big_full hb hne)]
   repeat refine xQ ?_
   refine xC rfl (fun hc=>?_) (fun hc=>?_)
   ·cases hc
   repeat refine xQ ?_
   refine xG rfl ?_
   iterate 2 refine xP rfl rh rfl ?_
   refine xR rfl (e_loadm ma rfl rfl rfl rfl) rfl ?_
   refine xA noGo rfl (fun _=>rfl) ((Size_ct Na (by have:=st.k; omega)).mono ?_)
   rintro u L' ⟨rfl,rfl⟩
   refine ⟨_,rfl,?_⟩
   rw [show sizeV (nd h t)=.int .i64 (sizeN (nd h t):Nat) from rfl,hb.size]
   by_cases hbig:256 < (bodyN (nd h t)).length
   ·have hb1:(!ileB ((bodyN (nd h t)).length:Nat) 256)=true:=by rw [ileB_eq,decide_eq_false (by omega)]; rfl
    refine xP rfl (e_ib rh (hb1)) rfl ?_
    refine xP rfl rh rfl ?_
    refine xN ?_
    repeat refine xQ ?_
    refine xC rfl (fun hc=>?_) (fun hc=>?_)
    ·obtain ⟨q0,hq1,hq2,hq3⟩:=cut_some hb hbig hbl
     repeat refine xQ ?_
     refine xG rfl ?_
     iterate 2 refine xP rfl rh rfl ?_
     refine xR rfl (e_loadm m5 rfl rfl rfl rfl) rfl ?_
     refine xA noGo rfl (fun _=>rfl) ((split_tr htr1 hl hB hr hn (by omega) (may_good hb.may) (by omega) (hf hbig)).mono ?_)
     rintro u L1 ⟨X1,m1',q,key,p2,g1,g2,g3,g4,g5,g6,g7,g8⟩
     refine ⟨_,rfl,?_⟩
     refine xN ?_
     have hqk:=(List.getElem?_eq_some_iff.1 g2).1
     have hmx:=Nat.le_trans (g3 q0 hq1 hq2) hq3
     unfold mxN at hmx
     have okl:Okt h (splL h t q):=ok_splL hkok g1 hqk (fits_of_size (cutL_may hb.may hqk) (by omega))
     have okr:Okt h (splR h t q p2):=ok_splR hkok hqk (fits_of_size (cutR_may hb.may hqk) (by omega))
     have hkey:=may_keys hb.may key (List.mem_of_getElem? g2)
     have hpages:∀ x∈L++t::R,no h x<=32768:=fun x hx=>by
      have:=htr1.dom (no h x) (by rw [kids_at hr hx]; simp)
      omega
     have hmay:mayN ⟨false,A++key::B,[],nos (L++splL h t q::splR h t q p2::R)⟩=true:=by
      refine may_inn (g7.sv.to hsrt) (by simp at hle ⊢; omega) (fun k hk=>?_) (fun x hx=>?_)
      ·simp only [List.mem_append,List.mem_cons] at hk
       rcases hk with hk | rfl | hk
       ·exact may_keys hbp.may k (by simp [hk])
       ·exact hkey
       ·exact may_keys hbp.may k (by simp [hk])
      ·simp only [List.mem_append,List.mem_cons] at hx
       rcases hx with hx | rfl | rfl | hx
       ·exact hpages x (by simp [hx])
       ·rw [no_splL]; exact hpages t (by simp)
       ·rw [no_splR]; omega
       ·exact hpages x (by simp [hx])
     have hsz:=ins_body (h:=h) (key:=key) (t:=t) (u:=splL h t q) (v:=splR h t q p2) hl hB (by omega) hkey.2 no_splL (by rw [no_splR]; omega)
     have hsz2:=fits_le hfit
     have hloc1:Loc m1' p (A++key::B) (L++splL h t q::splR h t q p2::R):=⟨g7.rep,g7.chg.nd,fun x hx=>by
      simp only [List.mem_append,List.mem_cons] at hx
      rcases hx with hx | rfl | rfl | hx
      ·exact hok x (by simp [hx])
      ·exact okl
      ·exact okr
      ·exact hok x (by simp [hx]),.inl ⟨hmay,by omega⟩⟩
     have m5':=g6.memG _ (List.mem_cons_self ..)
     repeat refine xQ ?_
     refine xG rfl ?_
     iterate 2 refine xP rfl rh rfl ?_
     refine xR rfl (e_loadm m5' rfl rfl rfl rfl) rfl ?_
     refine xP rfl (e_addN (n:=1) rfl rfl rfl (in_i64 (by omega) (by omega))) rfl ?_
     refine xA noGo rfl (fun _=>rfl) ((settle_any (i:=((L.length+1:Nat):Int)) g6 hloc1 (by omega) (by omega)).mono ?_)
     rintro u L2 ⟨X2,m2,ks2,ts2,e1,e2,e3,e4,e5,e6,e7,e8⟩
     refine ⟨_,rfl,?_⟩
     refine xN ?_
     have hb2:=e5 ⟨hmay,by omega⟩
     refine ⟨⟨X2,m2,ks2,ts2,fun y hy=>e1 y (g5 y hy),e2,g7.trans e3,e4.ok,.inr ⟨hb2.1,by omega⟩,by simp only at e6 g8 ⊢; omega,fun hsm=>?_⟩,rfl⟩
     rcases hsm with h | h
     ·exact absurd ⟨h.1,h.2.1⟩ (big_full hb hne)
     ·omega
    ·cases hc
   ·have hb1:(!ileB ((bodyN (nd h t)).length:Nat) 256)=false:=by rw [ileB_eq,decide_eq_true (by omega)]; rfl
    refine xP rfl (e_ib rh (hb1)) rfl ?_
    refine xP rfl rh rfl ?_
    refine xN ?_
    repeat refine xQ ?_
    refine xC rfl (fun hc=>?_) (fun hc=>?_)
    ·cases hc
    refine LS.skip ?_
    have okt:Okt h t:=ok_of (hb.fits (by omega)) hkok hne
    refine ⟨⟨X,s.m,A++B,L++t::R,fun _ hq=>hq,htr1,Via.refl hr hn,fun x hx=>?_,.inr ⟨hbp,by have:=fits_le hfit; omega⟩,by omega,fun _=>⟨Nat.le_refl _,fun _=>fits_le hfit⟩⟩,rfl⟩
    simp only [List.mem_append,List.mem_cons] at hx
    rcases hx with hx | rfl | hx
    ·exact hok x (by simp [hx])
    ·exact okt
    ·exact hok x (by simp [hx])
 rintro a' L1 ⟨⟨X1,m1',ks1,ts1,g1,g2,g3,g4,g5,g6,g8⟩,rfl⟩
 have hloc1:Loc m1' p ks1 ts1:=⟨g3.rep,g3.chg.nd,g4,g5.symm.imp (fun h=>h.1) id⟩
 have m5':=g2.memG _ (List.mem_cons_self ..)
 repeat refine xQ ?_
 refine xG rfl ?_
 iterate 2 refine xP rfl rh rfl ?_
 refine xR rfl (e_loadm m5' rfl rfl rfl rfl) rfl ?_
 refine xA noGo rfl (fun _=>rfl) ((settle_any (i:=(L.length:Nat)) g2 hloc1 (by omega) (by omega)).mono ?_)
 rintro u L2 ⟨X2,m2,ks2,ts2,e1,e2,e3,e4,e5,e6,e7,e8⟩
 refine ⟨_,rfl,?_⟩
 refine xN ?_
 refine ⟨_,fun _ _=>rfl,(r5,iRow (L.length:Nat)),X2,m2,ks2,ts2,fun y hy=>e1 y (g1 y hy),e2,g3.trans e3,e4.ok,?_,by simp only at e6 ⊢; omega,fun hsm=>⟨Nat.le_trans (g8 hsm).1 e6,fun hne=>?_⟩⟩
 rotate_left
 ·have hne1:ts1≠[]:=fun hh=>hne (e8 hh).2
  rcases g5 with g5 | ⟨g5,_⟩
  ·exact absurd g5.2 hne1
  ·exact Nat.le_trans (e5 g5).2 ((g8 hsm).2 hne1)
 rcases g5 with ⟨rfl,rfl⟩ | ⟨g5,g7⟩
 ·exact .inl (e8 rfl)
 ·exact .inr ⟨(e5 g5).1,by have:=(e5 g5).2; omega⟩
end Go.Proofs.YtlmmddfhoabjfaaGreat
end
section
namespace Go.Proofs.YtlmmddfhoabjfaaGreat
open Go.Am
theorem e_build3 {a:Slots} {o:Oper} {i3:Operand} {v3:Value} (s3:IsSl v3) (ho:o.op=.build 38 #[(3,i3)]) (h3:aev a i3=some v3) :
  ∀ h,opB Tryz.prog a o h=some (.val (ndV false (.slice none 0 0) (.slice none 0 0) v3) h):=by
 intro h
 rcases s3 with rfl | ⟨r1,o1,n1,c1,rfl⟩ <;> (simp only [opB,ho,evParts,h3]; rfl)
structure Whole (m:Mem) (root:Int) {H:Nat} (t:Tr H):Prop where
 rep:RepT m H t
 nod:(pgs H t).Nodup
 out:∀ q,q ∉ pgs H t->m q=none
 rt:root=(no H t:Nat)
theorem Whole.via {m m':Mem} {root:Int} {H:Nat} {t t':Tr H} (w:Whole m root t) (v:Via m m' t t'):Whole m' root t':=by
 refine ⟨v.rep,v.chg.nd,fun q hq=>?_,by rw [w.rt,v.rt]⟩
 by_cases h:q∈pgs H t
 ·exact v.chg.gone q h hq
 ·rw [v.chg.out q h hq]; exact w.out q h
def RPost (td:Prop) (m':Mem) (root':Int) (l:List It):Prop :=
 (root'=-1/\(∀ q,m' q=none)/\kvs l=[])∨∃ (H':Nat) (t':Tr H'),Whole m' root' t'/\Okt H' t'/\SQ l (sq H' t')/\(nd H' t').kids.length≠1/\(td->Tdy H' t')
theorem RPost.sq {td td':Prop} {m':Mem} {root':Int} {l l':List It} (h:RPost td m' root' l) (hs:SQ l' l) (ht:td'->td):RPost td' m' root' l':=by
 rcases h with ⟨h1,h2,h3⟩ | ⟨H,t,h1,h2,h3,h4,h5⟩
 ·exact .inl ⟨h1,h2,by rw [hs.kv,h3]⟩
 ·exact .inr ⟨H,t,h1,h2,hs.trans h3,h4,fun h=>h5 (ht h)⟩
set_option maxHeartbeats 4000000 in
theorem mendRoot_tr:∀ {H:Nat} {t:Tr H} {c:Cfg} {G X:RL} {s:TSt} {rows:RL},TR c G X s rows->Whole s.m s.root t->Lz t->(256 < (bodyN (nd H t)).length->2<=frM c.N s.m) →
  CS Tryz.prog 102 [ptr c.rt] rows fun _ L'=>∃ X' m' root',(∀ q,q∈X->q∈X')/\TR c G X' ⟨m',root',s.cnt⟩ L'/\RPost (Okt H t/\Tdy H t) m' root' (sq H t)/\((bodyN (nd H t)).length<=256->frM c.N s.m<=frM c.N m')
 | H,t,c,G,X,⟨m,root,cnt⟩,rows,htr,hw,hlz,hf=>by
  have hrt:=hw.rt
  simp only at hrt hw hf
  subst hrt
  have hmt:m (no H t)=some (nd H t):=hw.rep.top
  have st:=htr.sm _ _ hmt
  have dt:=htr.dom _ (show m (no H t)≠none by rw [hmt]; simp)
  have hN32:=htr.N
  obtain ⟨T,es,ck,ws,wk,g,rfl,hN,hp,hgm,hmr⟩:=htr.now
  obtain ⟨ra,hga,va1,va2,va3,hra,hPa⟩:=(hmr (no H t)).2 _ hmt
  have ega:(g (no H t)).getD (.pointer none)=ptr ra:=by rw [hga]; rfl
  have hXB:∀ q,q∈X->q∈HD c.rf c.rb c.rt c.rn c.rw T (no H t:Nat) cnt c.root0 c.cnt0 es ck ws wk (G++X):=fun q hq=>by simp [hq]
  have mrt:(c.rt,trRow c.rf c.rn c.rw (no H t:Nat) cnt c.root0 c.cnt0)∈HD c.rf c.rb c.rt c.rn c.rw T (no H t:Nat) cnt c.root0 c.cnt0 es ck ws wk (G++X):=by simp
  have mmap:(c.rn,ARow.map es ck)∈HD c.rf c.rb c.rt c.rn c.rw T (no H t:Nat) cnt c.root0 c.cnt0 es ck ws wk (G++X):=by simp
  have ma:=hXB _ hra
  have Na:=hPa.nv st hXB
  refine CS.mk (fn:=Tryz.f102) rfl rfl rfl rfl ?_
  repeat refine xQ ?_
  refine LS.drawn noGo mixed [(0,false),(1,false),(2,false),(3,false),(4,false),(5,false),(6,false),(7,false),(8,false),(9,false),(10,false),(11,false)] rfl rfl (by kernel_rfl) ?_
  iterate 4 refine xD rfl rfl rh rfl ?_
  refine xE rfl rfl (e_loadm mrt rfl rfl rfl rfl) rfl ?_
  iterate 4 refine xD rfl rfl rh rfl ?_
  refine xE rfl rfl (e_loadm mrt rfl rfl rfl rfl) rfl ?_
  refine xE rfl rfl (e_get hgm mmap rfl rfl rfl rfl (fun _=>rfl) rfl) rfl ?_
  rw [ega]
  refine xD rfl rfl rh rfl ?_
  refine xM ?_
  refine LS.block ?_
  repeat refine xQ ?_
  refine xG rfl ?_
  refine xP rfl rh rfl ?_
  refine xA noGo rfl (fun _=>rfl) ((isEmpty_ct (X:=X) hXB ⟨va1,va2,va3,hra,hPa⟩ st).mono ?_)
  rintro u L' ⟨rfl,rfl⟩
  refine ⟨_,rfl,?_⟩
  refine xP rfl rh rfl ?_
  refine xN ?_
  rcases hlz with he | ⟨hb,hbl,hkok,hne⟩
  ·rw [decide_eq_true ⟨he.1,he.2.1⟩]
   repeat refine xQ ?_
   refine xC rfl (fun hc=>?_) (fun hc=>?_)
   ·repeat refine xQ ?_
    refine LS.drawn noGo mixed [(0,false),(1,false),(2,false),(3,false),(4,false),(5,false),(6,false),(7,false),(8,true)] rfl rfl (by kernel_rfl) ?_
    iterate 7 refine xD rfl rfl rh rfl ?_
    refine xE rfl rfl (e_loadm mrt rfl rfl rfl rfl) rfl ?_
    refine ODS.call rfl rfl (fun _=>rfl) ((lay_tr (o:=none) htr dt rfl (fun n hn=>by cases hn)).mono ?_)
    rintro u L1 h1
    refine ⟨_,rfl,(by repeat (first | exact Keep.nil | refine Keep.gone rfl ?_)),?_⟩
    refine xM ?_
    obtain ⟨T1,es1,ck1,ws1,wk1,hN1,rfl,hp1⟩:=h1
    repeat refine xQ ?_
    refine xG rfl ?_
    iterate 4 refine xP rfl rh rfl ?_
    refine OS.write rfl (e_store 2 rfl rfl rfl rfl rfl rfl rfl rfl) rfl ?_
    refine xN ?_
    refine ⟨_,fun _ _=>rfl,X,updM m (no H t) none,-1,fun _ hq=>hq,⟨T1,es1,ck1,ws1,wk1,hN1,rfl,hp1⟩,.inl ⟨rfl,fun q=>?_,by rw [emp_sq he]; rfl⟩,fun _=>by
     have:=frM_upd (m:=m) (o:=none) dt
     rw [hmt] at this
     simp at this
     simp only; omega⟩
    have hpg:=emp_pgs he
    by_cases hq:q=no H t
    ·subst hq; unfold updM; rw [if_pos rfl]
    ·unfold updM; rw [if_neg hq]
     exact hw.out q (by rw [hpg]; simpa using hq)
   ·cases hc
  rw [decide_eq_false (big_full hb hne)]
  repeat refine xQ ?_
  refine xC rfl (fun hc=>?_) (fun hc=>?_)
  ·cases hc
  repeat refine xQ ?_
  refine xG rfl ?_
  iterate 2 refine xP rfl rh rfl ?_
  refine xR rfl (e_loadm ma rfl rfl rfl rfl) rfl ?_
  refine xA noGo rfl (fun _=>rfl) ((Size_ct Na (by have:=st.k; omega)).mono ?_)
  rintro u L' ⟨rfl,rfl⟩
  refine ⟨_,rfl,?_⟩
  rw [show sizeV (nd H t)=.int .i64 (sizeN (nd H t):Nat) from rfl,hb.size]
  by_cases hbig:256 < (bodyN (nd H t)).length
  ·have hb1:(!ileB ((bodyN (nd H t)).length:Nat) 256)=true:=by rw [ileB_eq,decide_eq_false (by omega)]; rfl
   refine xP rfl (e_ib rh (hb1)) rfl ?_
   refine xP rfl rh rfl ?_
   refine xN ?_
   repeat refine xQ ?_
   refine xC rfl (fun hc=>?_) (fun hc=>?_)
   ·obtain ⟨q0,hq1,hq2,hq3⟩:=cut_some hb hbig hbl
    have hf2:=hf hbig
    repeat refine xQ ?_
    refine LS.drawn noGo mixed [(0,false),(1,false),(2,false),(3,false),(4,false),(5,false),(6,false),(7,false),(8,false),(9,true),(10,false),(11,true),(12,false),(13,false),(14,false),(15,true)] rfl rfl (by kernel_rfl) ?_
    iterate 8 refine xD rfl rfl rh rfl ?_
    refine xE rfl rfl (e_loadm mrt rfl rfl rfl rfl) rfl ?_
    refine ODS.fresh rfl rfl (e_new (fun _=>rfl) rfl) (fun _=>rfl) (fun rz=>(by repeat (first | exact Keep.nil | refine Keep.gone rfl ?_))) (fun rz=>?_)
    refine xD rfl rfl (e_build3 (.inr ⟨_,_,_,_,rfl⟩) rfl rfl) rfl ?_
    refine ODS.sub (Sub.sums (A:=HD c.rf c.rb c.rt c.rn c.rw T (no H t:Nat) cnt c.root0 c.cnt0 es ck ws wk (G++((rz,iRow (no H t:Nat))::X))) (B:=(rz,iRow (no H t:Nat))::HD c.rf c.rb c.rt c.rn c.rw T (no H t:Nat) cnt c.root0 c.cnt0 es ck ws wk (G++X)) fun f=>by simp [HD,fm]<;>omega) ?_
    have htr2:TR c G ((rz,iRow (no H t:Nat))::X) ⟨m,(no H t:Nat),cnt⟩ (HD c.rf c.rb c.rt c.rn c.rw T (no H t:Nat) cnt c.root0 c.cnt0 es ck ws wk (G++((rz,iRow (no H t:Nat))::X))):=⟨T,es,ck,ws,wk,hN,rfl,hp.mono fun q hq=>List.mem_cons_of_mem _ hq⟩
    have hPN:PN ((rz,iRow (no H t:Nat))::X) ⟨false,[],[],[((no H t:Nat):Int)]⟩ (.slice none 0 0) (.slice none 0 0) (.slice (some ⟨rz,0,none⟩) 1 1):=⟨pl_nil,pl_nil,.inr ⟨rz,0,1,[.int .i64 (no H t:Nat)],rfl,List.mem_cons_self ..,rfl,Nat.le_refl _,by decide⟩⟩
    refine ODS.call rfl rfl (fun _=>rfl) ((add_tr (n:=⟨false,[],[],[((no H t:Nat):Int)]⟩) htr2 (by simp only; omega) hPN ⟨by simp,by simp,by simp,fun k hk=>(by cases hk),fun k hk=>(by cases hk)⟩).mono ?_)
    rintro u L1 ⟨p2,x,d2,hp2,rfl,h1⟩
    refine ⟨_,rfl,(by repeat (first | exact Keep.nil | refine Keep.gone rfl ?_)),?_⟩
    obtain ⟨T1,es1,ck1,ws1,wk1,hN1,rfl,hp1⟩:=h1
    iterate 3 refine xD rfl rfl rh rfl ?_
    refine ODS.write rfl rfl (e_store 2 rfl rfl rfl rfl rfl rfl rfl rfl) rfl (by repeat (first | exact Keep.nil | refine Keep.gone rfl ?_)) ?_
    refine xM ?_
    have hp2t:p2≠no H t:=fun he=>by simp only at hp2; rw [he,hmt] at hp2; cases hp2
    have hp2o:p2 ∉ pgs H t:=fun hh=>hw.rep.some p2 hh hp2
    have hrep1:RepT (updM m p2 (some ⟨false,[],[],[((no H t:Nat):Int)]⟩)) (H+1) (inn p2 ([]++[]) ([]++t::[])):=by
     rw [rep_inn]
     refine ⟨by unfold updM; rw [if_pos rfl]; rfl,fun s hs=>?_⟩
     simp only [List.nil_append,List.mem_singleton] at hs
     subst hs
     refine hw.rep.congr fun q hq=>?_
     have hne2:q≠p2:=fun he=>hp2o (he ▸ hq)
     unfold updM; rw [if_neg hne2]
    have hnod1:(pgs (H+1) (inn p2 ([]++[]) ([]++t::[]))).Nodup:=by
     rw [pgs_inn]
     simp only [List.nil_append,List.flatMap_cons,List.flatMap_nil,List.append_nil,List.nodup_cons]
     exact ⟨hp2o,hw.nod⟩
    have htr3:TR c G (x::(rz,iRow (no H t:Nat))::X) ⟨updM m p2 (some ⟨false,[],[],[((no H t:Nat):Int)]⟩),(p2:Nat),cnt⟩ (HD c.rf c.rb c.rt c.rn c.rw T1 (p2:Nat) cnt c.root0 c.cnt0 es1 ck1 ws1 wk1 (G++(x::(rz,iRow (no H t:Nat))::X))):=⟨T1,es1,ck1,ws1,wk1,hN1,rfl,hp1⟩
    have hfm:=frM_new (n':=⟨false,[],[],[((no H t:Nat):Int)]⟩) d2 hp2
    simp only at hfm
    repeat refine xQ ?_
    refine xG rfl ?_
    iterate 5 refine xP rfl rh rfl ?_
    refine xR rfl (e_loadm (row:=trRow c.rf c.rn c.rw (p2:Nat) cnt c.root0 c.cnt0) (r:=c.rt) (by simp) rfl rfl rfl rfl) rfl ?_
    refine xA noGo rfl (fun _=>rfl) ((split_tr (A:=[]) (B:=[]) (L:=[]) (R:=[]) (t:=t) htr3 rfl rfl hrep1 hnod1 (by simp) (may_good hb.may) (by omega) (by simp only; omega)).mono ?_)
    rintro u L2 ⟨X1,m1',q,key,p3,g1,g2,g3,g4,g5,g6,g7,g8⟩
    refine ⟨_,rfl,?_⟩
    refine xN ?_
    have hqk:=(List.getElem?_eq_some_iff.1 g2).1
    have hmx:=Nat.le_trans (g3 q0 hq1 hq2) hq3
    unfold mxN at hmx
    have okl:Okt H (splL H t q):=ok_splL hkok g1 hqk (fits_of_size (cutL_may hb.may hqk) (by omega))
    have okr:Okt H (splR H t q p3):=ok_splR hkok hqk (fits_of_size (cutR_may hb.may hqk) (by omega))
    have hkey:=may_keys hb.may key (List.mem_of_getElem? g2)
    have hmay:mayN ⟨false,[key],[],nos [splL H t q,splR H t q p3]⟩=true:=by
     refine may_iff.2 ⟨rise_iff.2 ⟨by simp,fun k hk=>?_⟩,.inr ⟨rfl,rfl,rfl,fun z hz=>?_⟩⟩
     ·simp only [List.mem_singleton] at hk
      subst hk
      refine ⟨?_,hkey.2⟩
      cases k with
      | nil=>simp at hkey
      | cons _ _=>rfl
     ·simp only [nos,List.map_cons,List.map_nil,List.mem_cons,List.not_mem_nil,or_false,no_splL,no_splR] at hz
      rcases hz with rfl | rfl <;> omega
    have hw1:Whole (updM m p2 (some ⟨false,[],[],[((no H t:Nat):Int)]⟩)) (p2:Nat) (inn p2 ([]++[]) ([]++t::[])):=by
     refine ⟨hrep1,hnod1,fun q hq=>?_,rfl⟩
     rw [pgs_inn] at hq
     simp only [List.nil_append,List.flatMap_cons,List.flatMap_nil,List.append_nil,List.mem_cons,not_or] at hq
     unfold updM
     rw [if_neg hq.1]
     exact hw.out q hq.2
    have hsq0:sq (H+1) (inn p2 ([]++[]) ([]++t::[]))=sq H t:=by
     show sq H t++[]=sq H t
     simp
    refine ⟨_,fun _ _=>rfl,X1,m1',(p2:Nat),fun y hy=>g5 y (by simp [hy]),g6,.inr ⟨H+1,_,hw1.via g7,⟨room_fits hmay (.inr ⟨rfl,by simp⟩),fun y hy=>?_⟩,hsq0 ▸ g7.sv,by simp [nos],fun td=>?_⟩,fun hh=>absurd hh (by omega)⟩
    ·have hy':y∈[splL H t q,splR H t q p3]:=hy
     simp only [List.mem_cons,List.not_mem_nil,or_false] at hy'
     rcases hy' with rfl | rfl
     ·exact okl
     ·exact okr
    ·exfalso
     have:=fits_le td.1.fits
     omega
   ·cases hc
  have hb1:(!ileB ((bodyN (nd H t)).length:Nat) 256)=false:=by rw [ileB_eq,decide_eq_true (by omega)]; rfl
  have okt:Okt H t:=ok_of (hb.fits (by omega)) hkok hne
  have hzl:=st.z
  refine xP rfl (e_ib rh (hb1)) rfl ?_
  refine xP rfl rh rfl ?_
  refine xN ?_
  repeat refine xQ ?_
  refine xC rfl (fun hc=>?_) (fun hc=>?_)
  ·cases hc
  repeat refine xQ ?_
  refine xG rfl ?_
  iterate 3 refine xP rfl rh rfl ?_
  refine xR rfl (e_loadm ma rfl rfl rfl rfl) rfl ?_
  refine xP rfl (e_len Na.z rfl rfl rfl rfl rfl) rfl ?_
  refine xP rfl (e_ib rh ((ieqN (m:=(nd H t).kids.length) (n:=1)))) rfl ?_
  by_cases h1:(nd H t).kids.length=1
  ·rw [decide_eq_true h1]
   refine xP rfl rh rfl ?_
   refine xN ?_
   cases H with
   | zero=>obtain ⟨p,ks,vs,rfl⟩:=lf_eta t; simp at h1
   | succ H =>
    obtain ⟨p,ks,ts,rfl⟩:=inn_eta t
    have hlen:=okt.len
    have hts:ts.length=1:=by simpa [nos] using h1
    obtain ⟨k0,rfl⟩:∃ k0,ts=[k0]:=by
     cases ts with
     | nil=>simp at hts
     | cons a l =>
      cases l with
      | nil=>exact ⟨a,rfl⟩
      | cons _ _=>simp at hts
    have hks:ks=[]:=by simpa using hlen
    subst hks
    repeat refine xQ ?_
    refine xC rfl (fun hc=>?_) (fun hc=>?_)
    ·repeat refine xQ ?_
     refine LS.drawn noGo mixed [(0,false),(1,false),(2,false),(3,false),(4,false),(5,false),(6,false),(7,false),(8,true)] rfl rfl (by kernel_rfl) ?_
     iterate 7 refine xD rfl rfl rh rfl ?_
     refine xE rfl rfl (e_loadm mrt rfl rfl rfl rfl) rfl ?_
     refine ODS.call rfl rfl (fun _=>rfl) ((lay_tr (o:=none) htr dt rfl (fun n hn=>by cases hn)).mono ?_)
     rintro u L1 g1
     refine ⟨_,rfl,(by repeat (first | exact Keep.nil | refine Keep.gone rfl ?_)),?_⟩
     refine xM ?_
     obtain ⟨T1,es1,ck1,ws1,wk1,hN1,rfl,hp1⟩:=g1
     have hXB1:∀ q,q∈X->q∈HD c.rf c.rb c.rt c.rn c.rw T1 (p:Nat) cnt c.root0 c.cnt0 es1 ck1 ws1 wk1 (G++X):=fun q hq=>by simp [hq]
     have ma1:=hXB1 _ hra
     have Na1:=hPa.nv st hXB1
     repeat refine xQ ?_
     refine xG rfl ?_
     iterate 4 refine xP rfl rh rfl ?_
     refine xR rfl (e_loadm ma1 rfl rfl rfl rfl) rfl ?_
     refine OS.at1 (j:=0) (Na1.z) ((show (nums [((no H k0:Nat):Int)])[0]?=some (.int .i64 ((no H k0:Nat):Int)) from rfl)) rfl rfl rfl rfl rfl rfl (fun ra0 oa0 rowa0 csa0 ma0 ca0 ga0=>⟨_,rfl,?_⟩)
     refine xR rfl (e_loadm ma0 ca0 rfl rfl (part_one rfl ga0)) rfl ?_
     iterate 3 refine xP rfl rh rfl ?_
     refine OS.write rfl (e_store 2 rfl rfl rfl rfl rfl rfl rfl rfl) rfl ?_
     refine xN ?_
     have hnod:=hw.nod
     simp only [pgs_inn,List.flatMap_cons,List.flatMap_nil,List.append_nil,List.nodup_cons] at hnod
     have hw2:Whole (updM m p none) (no H k0:Nat) k0:=by
      refine ⟨((rep_inn.1 hw.rep).2 k0 (by simp)).congr fun q hq=>?_,hnod.2,fun q hq=>?_,rfl⟩
      ·have hqp:q≠p:=fun he=>hnod.1 (he ▸ hq)
       unfold updM; rw [if_neg hqp]
      ·by_cases hqp:q=p
       ·subst hqp; unfold updM; rw [if_pos rfl]
       ·unfold updM; rw [if_neg hqp]
        exact hw.out q (by simp [pgs_inn,hqp,hq])
     have ok0:=okt.kid k0 (by simp)
     have htr2:TR c G X ⟨updM m p none,(no H k0:Nat),cnt⟩ (HD c.rf c.rb c.rt c.rn c.rw T1 (no H k0:Nat) cnt c.root0 c.cnt0 es1 ck1 ws1 wk1 (G++X)):=⟨T1,es1,ck1,ws1,wk1,hN1,rfl,hp1⟩
     repeat refine xQ ?_
     refine xG rfl ?_
     refine xP rfl rh rfl ?_
     refine xA noGo rfl (fun _=>rfl) ((mendRoot_tr htr2 hw2 ok0.lz (fun hh=>absurd (fits_le ok0.fits) (by omega))).mono ?_)
     rintro u L2 ⟨X',m',root',e1,e2,e3,e4⟩
     refine ⟨_,rfl,?_⟩
     refine xN ?_
     refine ⟨_,fun _ _=>rfl,X',m',root',e1,e2,e3.sq (SQ.of ?_) fun h=>⟨ok0,(tdy_inn.1 h.2).2 k0 (by simp)⟩,fun _=>by
      have h1:=frM_upd (m:=m) (o:=none) dt
      rw [hmt] at h1
      simp at h1
      have h2:=e4 (fits_le ok0.fits)
      simp only at h2 ⊢
      have h3:frM c.N (updM m p none)=frM c.N m+1:=h1
      omega⟩
     show sq H k0++[]=sq H k0
     simp
    ·cases hc
  ·rw [decide_eq_false h1]
   refine xP rfl rh rfl ?_
   refine xN ?_
   repeat refine xQ ?_
   refine xC rfl (fun hc=>?_) (fun hc=>?_)
   ·cases hc
   refine LS.skip ?_
   exact ⟨_,fun _ _=>rfl,X,m,(no H t:Nat),fun _ hq=>hq,htr,.inr ⟨H,t,hw,okt,SQ.refl,h1,fun h=>h.2⟩,fun _=>Nat.le_refl _⟩
end Go.Proofs.YtlmmddfhoabjfaaGreat
end
section
namespace Go.Proofs.YtlmmddfhoabjfaaGreat
open Go.Am
abbrev tpRow (rt:Nat):ARow:=.cells 90 [ptr rt]
abbrev lkRow (r1 r2:Nat):ARow:=.cells 140 [.func (.func 100) #[] #[ptr r1,ptr r2]]
def LookP (h:Nat):Prop:=∀ (c:Cfg) (G X:RL) (s:TSt) (L:RL) (r1 r2:Nat) (t:Tr h),TR c G X s L->(r1,tpRow c.rt)∈G->(r2,lkRow r1 r2)∈G->RepT s.m h t->(pgs h t).Nodup->Okt h t →
 CS Tryz.prog 100 [.int .i64 (no h t:Nat),ptr r1,ptr r2] L fun _ L'=>∃ X' m' t',(∀ q,q∈X->q∈X')/\TR c G X' ⟨m',s.root,s.cnt⟩ L'/\Via s.m m' t t'/\Okt h t'/\Tdy h t'/\frM c.N s.m<=frM c.N m'
theorem look_0:LookP 0:=by
 intro c G X s rows r1 r2 t htr h1 h2 hrep hnod hok
 have hmt:=hrep.top
 have st:=htr.sm _ _ hmt
 obtain ⟨T,es,ck,ws,wk,g,rfl,hN,hp,hgm,hmr⟩:=htr.now
 obtain ⟨ra,hga,va1,va2,va3,hra,hPa⟩:=(hmr (no 0 t)).2 _ hmt
 have ega:(g (no 0 t)).getD (.pointer none)=ptr ra:=by rw [hga]; rfl
 have m1:=htr.memG _ h1
 have ma:=htr.mem _ hra
 have Na:=hPa.nv st htr.mem
 have hz:(nd 0 t).kids.length=0:=rfl
 refine CS.mk (fn:=Tryz.f100) rfl rfl rfl rfl ?_
 repeat refine xQ ?_
 refine xG rfl ?_
 refine xR rfl (e_loadm m1 rfl rfl rfl rfl) rfl ?_
 iterate 3 refine xP rfl rh rfl ?_
 refine xR rfl (e_loadm (row:=trRow c.rf c.rn c.rw s.root s.cnt c.root0 c.cnt0) (r:=c.rt) (by simp) rfl rfl rfl rfl) rfl ?_
 refine xP rfl rh rfl ?_
 refine xR rfl (e_get hgm (by simp) rfl rfl rfl rfl (fun _=>rfl) rfl) rfl ?_
 rw [ega]
 iterate 2 refine xP rfl rh rfl ?_
 refine xR rfl (e_loadm ma rfl rfl rfl rfl) rfl ?_
 refine xP rfl (e_len Na.z rfl rfl rfl rfl rfl) rfl ?_
 refine xP rfl rh rfl ?_
 refine xN ?_
 repeat refine xQ ?_
 refine LS.block ?_
 refine LS.loopJ [0,1,2,17,18] (fun z a' L'=>z=0/\L'=HD c.rf c.rb c.rt c.rn c.rw T s.root s.cnt c.root0 c.cnt0 es ck ws wk (G++X)/\a'=[.int .i64 (no 0 t:Nat),ptr r1,ptr r2,jn,jn,jn,jn,jn,jn,jn,jn,jn,jn,jn,jn,jn,jn,.int .i64 (0:Nat),.int .i64 0,jn,jn,jn,jn,jn,jn,jn,jn,jn,jn,jn,jn,jn,jn,jn,jn,jn,jn,jn,jn,jn,jn,jn,jn,jn,jn]) (n:=0) rfl ⟨rfl,rfl,rfl⟩ ?_
 rintro z a' L' ⟨rfl,rfl,rfl⟩
 have hb:(!ileB ((0:Nat):Int) 0)=false:=rfl
 repeat refine xQ ?_
 refine xG rfl ?_
 refine xP rfl (e_ib rh (hb)) rfl ?_
 refine xN ?_
 repeat refine xQ ?_
 refine xC rfl (fun hc=>?_) (fun hc=>?_)
 ·cases hc
 refine LS.exit ?_
 repeat refine xQ ?_
 refine xG rfl ?_
 refine xP rfl rh rfl ?_
 refine xN ?_
 repeat refine xQ ?_
 refine LS.block ?_
 refine LS.loopJ [0,1,2,6] (fun z a' L'=>z=0/\L'=HD c.rf c.rb c.rt c.rn c.rw T s.root s.cnt c.root0 c.cnt0 es ck ws wk (G++X)/\a'=[.int .i64 (no 0 t:Nat),ptr r1,ptr r2,jn,jn,jn,.int .i64 0,jn,jn,jn,jn,jn,jn,jn,jn,jn,jn,jn,jn,jn,jn,jn,jn,jn,jn,jn,jn,jn,jn,jn,jn,jn,jn,jn,jn,jn,jn,jn,jn,jn,jn,jn,jn,jn,jn]) (n:=0) rfl ⟨rfl,rfl,rfl⟩ ?_
 rintro z a' L' ⟨rfl,rfl,rfl⟩
 repeat refine xQ ?_
 refine xG rfl ?_
 refine xP rfl rh rfl ?_
 refine xR rfl (e_loadm m1 rfl rfl rfl rfl) rfl ?_
 iterate 3 refine xP rfl rh rfl ?_
 refine xR rfl (e_loadm (row:=trRow c.rf c.rn c.rw s.root s.cnt c.root0 c.cnt0) (r:=c.rt) (by simp) rfl rfl rfl rfl) rfl ?_
 refine xP rfl rh rfl ?_
 refine xR rfl (e_get hgm (by simp) rfl rfl rfl rfl (fun _=>rfl) rfl) rfl ?_
 rw [ega]
 iterate 2 refine xP rfl rh rfl ?_
 refine xR rfl (e_loadm ma rfl rfl rfl rfl) rfl ?_
 refine xP rfl (e_len Na.z rfl rfl rfl rfl rfl) rfl ?_
 have hb:(!ileB ((nd 0 t).kids.length:Nat) 0)=false:=rfl
 refine xP rfl (e_ib rh (hb)) rfl ?_
 refine xN ?_
 repeat refine xQ ?_
 refine xC rfl (fun hc=>?_) (fun hc=>?_)
 ·cases hc
 refine LS.exit ?_
 exact ⟨_,fun _ _=>rfl,X,s.m,t,fun _ hq=>hq,htr,Via.refl hrep hnod,hok,trivial,Nat.le_refl _⟩
theorem nos_take {h:Nat} {ts:List (Tr h)} {D:List (Tr h)} {j:Nat} {u:Tr h} (hj:j < ts.length) (hn:nos (D++ts.drop j)=nos ts) (hu:no h u=no h ts[j]):nos ((D++[u])++ts.drop (j+1))=nos ts:=by
 have h1:ts.drop j=ts[j]::ts.drop (j+1):=List.drop_eq_getElem_cons hj
 rw [← hn,h1]
 simp only [nos,List.map_append,List.map_cons,List.map_nil,hu,List.append_assoc,List.cons_append,List.nil_append]
set_option maxHeartbeats 4000000 in
theorem look_s {h:Nat} (ih:LookP h):LookP (h+1):=by
 intro c G X s rows r1 r2 t htr h1 h2 hrep hnod hok
 obtain ⟨p,ks,ts,rfl⟩:=inn_eta t
 have hlen:=hok.len
 have hbg:=Bg.of hok.fits
 have hk119:=hbg.keys
 simp only [nd_inn] at hk119
 have hmt:=hrep.top
 have st:=htr.sm _ _ hmt
 have htr0:=htr
 obtain ⟨T,es,ck,ws,wk,g,rfl,hN,hp,hgm,hmr⟩:=htr.now
 obtain ⟨ra,hga,va1,va2,va3,hra,hPa⟩:=(hmr p).2 _ hmt
 have ega:(g p).getD (.pointer none)=ptr ra:=by rw [hga]; rfl
 have m1:=htr.memG _ h1
 have ma:=htr.mem _ hra
 have Na:=hPa.nv st htr.mem
 simp only [nd_inn] at Na ma hPa
 refine CS.mk (fn:=Tryz.f100) rfl rfl rfl rfl ?_
 repeat refine xQ ?_
 refine xG rfl ?_
 refine xR rfl (e_loadm m1 rfl rfl rfl rfl) rfl ?_
 iterate 3 refine xP rfl rh rfl ?_
 refine xR rfl (e_loadm (row:=trRow c.rf c.rn c.rw s.root s.cnt c.root0 c.cnt0) (r:=c.rt) (by simp) rfl rfl rfl rfl) rfl ?_
 refine xP rfl rh rfl ?_
 refine xR rfl (e_get hgm (by simp) rfl rfl rfl rfl (fun _=>rfl) rfl) rfl ?_
 simp only [no_inn]
 rw [ega]
 iterate 2 refine xP rfl rh rfl ?_
 refine xR rfl (e_loadm ma rfl rfl rfl rfl) rfl ?_
 refine xP rfl (e_len Na.z rfl rfl rfl rfl rfl) rfl ?_
 refine xP rfl rh rfl ?_
 refine xN ?_
 repeat refine xQ ?_
 refine LS.block ?_
 refine LS.loopJ [0,1,2,16,17,18] (fun z a' L'=>∃ X' m' D,(∀ q,q∈X->q∈X')/\TR c G X' ⟨m',s.root,s.cnt⟩ L'/\D.length<=ts.length/\Via s.m m' (inn p ks ts) (inn p ks (D++ts.drop D.length))/\(∀ q∈D,Okt h q/\Tdy h q)/\nos (D++ts.drop D.length)=nos ts/\frM c.N s.m<=frM c.N m'/\z=ts.length - D.length/\a'=[.int .i64 (p:Nat),ptr r1,ptr r2,jn,jn,jn,jn,jn,jn,jn,jn,jn,jn,jn,jn,jn,va3,.int .i64 ((nos ts).length:Nat),.int .i64 (D.length:Nat),jn,jn,jn,jn,jn,jn,jn,jn,jn,jn,jn,jn,jn,jn,jn,jn,jn,jn,jn,jn,jn,jn,jn,jn,jn,jn]) (n:=ts.length) rfl ⟨X,s.m,[],fun _ hq=>hq,htr0,by simp,by simpa using Via.refl hrep hnod,fun q hq=>(by cases hq),by simp,Nat.le_refl _,by simp,rfl⟩ ?_
 rintro z a' L' ⟨X',m',D,hX',htr',hD,hvia,hDok,hnos,hfr,rfl,rfl⟩
 by_cases hend:ts.length<=D.length
 ·have hb:(!ileB ((nos ts).length:Nat) (D.length:Nat))=false:=by rw [nos_len,ileB_eq,decide_eq_true (by omega)]; rfl
  repeat refine xQ ?_
  refine xG rfl ?_
  refine xP rfl (e_ib rh (hb)) rfl ?_
  refine xN ?_
  repeat refine xQ ?_
  refine xC rfl (fun hc=>?_) (fun hc=>?_)
  ·cases hc
  refine LS.exit ?_
  have hd0:ts.drop D.length=[]:=List.drop_eq_nil_of_le hend
  rw [hd0,List.append_nil] at hvia hnos
  have hless0:Less ⟨false,ks,[],nos ts⟩ ⟨false,ks,[],nos D⟩:=by rw [hnos]; exact Less.refl
  have hloc0:Loc m' p ks D:=⟨hvia.rep,hvia.chg.nd,fun q hq=>(hDok q hq).1,.inl (hless0 hbg).1⟩
  repeat refine xQ ?_
  refine xG rfl ?_
  refine xP rfl rh rfl ?_
  refine xN ?_
  repeat refine xQ ?_
  refine LS.block ?_
  refine LS.loopJ [0,1,2,6] (fun z a' L'=>∃ X2 m2 ks2 ts2 i,(∀ q,q∈X->q∈X2)/\TR c G X2 ⟨m2,s.root,s.cnt⟩ L'/\Via s.m m2 (inn p ks ts) (inn p ks2 ts2)/\Loc m2 p ks2 ts2/\ts2≠[]/\Less ⟨false,ks,[],nos ts⟩ ⟨false,ks2,[],nos ts2⟩/\(∀ q∈ts2,Tdy h q)/\i<=ts2.length/\(∀ j:Nat,j < i->NJ ks2 ts2 (j:Nat))/\frM c.N s.m<=frM c.N m2/\z=ts2.length - i/\a'=[.int .i64 (p:Nat),ptr r1,ptr r2,jn,jn,jn,.int .i64 (i:Nat),jn,jn,jn,jn,jn,jn,jn,jn,jn,jn,jn,jn,jn,jn,jn,jn,jn,jn,jn,jn,jn,jn,jn,jn,jn,jn,jn,jn,jn,jn,jn,jn,jn,jn,jn,jn,jn,jn]) (n:=D.length) rfl ⟨X',m',ks,D,0,hX',htr',hvia,hloc0,by rintro rfl; simp at hend; rw [hend] at hlen; simp at hlen,hless0,fun q hq=>(hDok q hq).2,by omega,fun j hj=>(by omega),hfr,by omega,rfl⟩ ?_
  rintro z a' L2 ⟨X2,m2,ks2,ts2,i,hX2,htr2,hvia2,hloc2,hne2,hless2,htd2,hi2,hnj2,hfr2,rfl,rfl⟩
  have hbg2:=hloc2.bg hne2
  have hlen2:=bg_len hbg2
  have hk2:=hbg2.keys
  simp only at hk2
  have hm2:=hloc2.top
  have st2:=htr2.sm _ _ hm2
  have m12:=htr2.memG _ h1
  have hX2L:=htr2.mem
  have htr20:=htr2
  obtain ⟨T2,es2,ck2,ws2,wk2,g2,rfl,hN2,hp2,hgm2,hmr2⟩:=htr2.now
  obtain ⟨rb,hgb,vb1,vb2,vb3,hrb,hPb⟩:=(hmr2 p).2 _ hm2
  have egb:(g2 p).getD (.pointer none)=ptr rb:=by rw [hgb]; rfl
  have mb:=hX2L _ hrb
  have Nb:=hPb.nv st2 hX2L
  simp only at Nb mb
  repeat refine xQ ?_
  refine xG rfl ?_
  refine xP rfl rh rfl ?_
  refine xR rfl (e_loadm m12 rfl rfl rfl rfl) rfl ?_
  iterate 3 refine xP rfl rh rfl ?_
  refine xR rfl (e_loadm (row:=trRow c.rf c.rn c.rw s.root s.cnt c.root0 c.cnt0) (r:=c.rt) (by simp) rfl rfl rfl rfl) rfl ?_
  refine xP rfl rh rfl ?_
  refine xR rfl (e_get hgm2 (by simp) rfl rfl rfl rfl (fun _=>rfl) rfl) rfl ?_
  rw [egb]
  iterate 2 refine xP rfl rh rfl ?_
  refine xR rfl (e_loadm mb rfl rfl rfl rfl) rfl ?_
  refine xP rfl (e_len Nb.z rfl rfl rfl rfl rfl) rfl ?_
  by_cases hend2:ts2.length<=i
  ·have hb:(!ileB ((nos ts2).length:Nat) (i:Nat))=false:=by rw [nos_len,ileB_eq,decide_eq_true (by omega)]; rfl
   refine xP rfl (e_ib rh (hb)) rfl ?_
   refine xN ?_
   repeat refine xQ ?_
   refine xC rfl (fun hc=>?_) (fun hc=>?_)
   ·cases hc
   refine LS.exit ?_
   refine ⟨_,fun _ _=>rfl,X2,m2,inn p ks2 ts2,hX2,htr20,hvia2,⟨hless2.fits hok.fits,hloc2.ok⟩,tdy_inn.2 ⟨NJ.all fun j=>?_,htd2⟩,hfr2⟩
   by_cases hj:j < i
   ·exact hnj2 j hj
   ·exact NJ.far (by omega)
  ·have hb:(!ileB ((nos ts2).length:Nat) (i:Nat))=true:=by rw [nos_len,ileB_eq,decide_eq_false (by omega)]; rfl
   refine xP rfl (e_ib rh (hb)) rfl ?_
   refine xN ?_
   repeat refine xQ ?_
   refine xC rfl (fun hc=>?_) (fun hc=>?_)
   ·refine LS.skip ?_
    repeat refine xQ ?_
    refine LS.block ?_
    repeat refine xQ ?_
    refine xG rfl ?_
    refine xR rfl (e_loadm m12 rfl rfl rfl rfl) rfl ?_
    iterate 2 refine xP rfl rh rfl ?_
    refine xA noGo rfl (fun _=>rfl) ((settle_all h c G X2 ⟨m2,s.root,s.cnt⟩ _ p ks2 ts2 (i:Nat) htr20 hloc2 (by omega) (by omega)).mono ?_)
    rintro u L3 ⟨X3,m3,A,Y,B,L1,M,R,w,hw,rfl,n1,n2⟩
    refine ⟨_,rfl,?_⟩
    refine xP rfl rh rfl ?_
    refine xN ?_
    have hlo:=hw.lo
    have hhi:=hw.hi
    have htt:=hw.ht
    have hkk:=hw.hk
    have hlt:=congrArg List.length htt
    simp only [List.length_append] at hlt
    repeat refine xQ ?_
    refine xG rfl ?_
    refine xP rfl rh rfl ?_
    refine xP rfl (e_addN (n:=1) rfl rfl rfl (in_i64 (by omega) (by omega))) rfl ?_
    refine xP rfl rh rfl ?_
    refine xN ?_
    refine ⟨(L1++w::R).length - (L1.length+1),by simp only [List.length_append,List.length_cons]; have:=hw.lm; omega,X3,m3,A++B,L1++w::R,L1.length+1,fun q hq=>hw.hX q (hX2 q hq),hw.tr,hvia2.trans hw.via,hw.loc hbg2 hloc2.ok,by simp,hless2.trans hw.less,fun q hq=>?_,by simp,?_,Nat.le_trans hfr2 hw.fr,rfl,rfl⟩
    ·rcases List.mem_append.1 hq with hq | hq
     ·exact htd2 q (by rw [htt]; simp [hq])
     ·rcases List.mem_cons.1 hq with rfl | hq
      ·exact hw.td fun q hq=>htd2 q (by rw [htt]; simp [hq])
      ·exact htd2 q (by rw [htt]; simp [hq])
    ·exact win_nj hw.la hw.lm n1 n2 (fun j hj=>by rw [← hkk,← htt]; exact hnj2 j (by omega)) (L1.length+1) (fun j g1 g2=>by omega)
   ·cases hc
 have hj:D.length < ts.length:=by omega
 have hb:(!ileB ((nos ts).length:Nat) (D.length:Nat))=true:=by rw [nos_len,ileB_eq,decide_eq_false (by omega)]; rfl
 repeat refine xQ ?_
 refine xG rfl ?_
 refine xP rfl (e_ib rh (hb)) rfl ?_
 refine xN ?_
 repeat refine xQ ?_
 refine xC rfl (fun hc=>?_) (fun hc=>?_)
 ·refine LS.skip ?_
  repeat refine xQ ?_
  refine LS.block ?_
  have hat:(nums (nos ts))[D.length]?=some (.int .i64 ((no h ts[D.length]:Nat):Int)):=by simp [nums,nos,hj]
  have Na':=hPa.z.sv.mono (fun q hq=>htr'.mem q (hX' q hq))
  simp only at Na'
  repeat refine xQ ?_
  refine xG rfl ?_
  refine OS.at1 (j:=D.length) (Na') (hat) rfl rfl rfl rfl rfl rfl (fun ra0 oa0 rowa0 csa0 ma0 ca0 ga0=>⟨_,rfl,?_⟩)
  refine xR rfl (e_loadm ma0 ca0 rfl rfl (part_one rfl ga0)) rfl ?_
  refine xP rfl rh rfl ?_
  refine xN ?_
  have m2':=htr'.memG _ h2
  have hdrop:ts.drop D.length=ts[D.length]::ts.drop (D.length+1):=List.drop_eq_getElem_cons hj
  have hrj:RepT m' h ts[D.length]:=(rep_inn.1 hvia.rep).2 _ (List.mem_append_right D (by rw [hdrop]; exact List.mem_cons_self ..))
  have hnj:(pgs h ts[D.length]).Nodup:=by
   have:=hvia.chg.nd
   rw [hdrop,pgs_at,List.nodup_append,List.nodup_append] at this
   exact this.2.1.1
  repeat refine xQ ?_
  refine xG rfl ?_
  refine xR rfl (e_loadm m2' rfl rfl rfl rfl) rfl ?_
  refine xP rfl rh rfl ?_
  refine xA noGo rfl (fun _=>rfl) ((ih c G X' ⟨m',s.root,s.cnt⟩ L' r1 r2 ts[D.length] htr' h1 h2 hrj hnj (hok.kid _ (List.getElem_mem hj))).mono ?_)
  rintro u L3 ⟨X3,m3,u3,e1,e2,e3,e4,e5,e6⟩
  refine ⟨_,rfl,?_⟩
  refine xN ?_
  repeat refine xQ ?_
  refine xG rfl ?_
  refine xP rfl (e_addN (n:=1) rfl rfl rfl (in_i64 (by omega) (by omega))) rfl ?_
  refine xP rfl rh rfl ?_
  refine xN ?_
  have hks:ks=ks.take D.length++ks.drop D.length:=(List.take_append_drop _ _).symm
  have hv2:Via m' m3 (inn p ks (D++ts.drop D.length)) (inn p ks ((D++[u3])++ts.drop (D.length+1))):=by
   have:=Via.kid (A:=ks.take D.length) (B:=ks.drop D.length) (L:=D) (R:=ts.drop (D.length+1)) (p:=p) e3 (by simp; omega) (by rw [← hks,← hdrop]; exact hvia.rep) (by rw [← hks,← hdrop]; exact hvia.chg.nd)
   rw [← hks,← hdrop] at this
   simpa using this
  refine ⟨ts.length - (D++[u3]).length,by simp; omega,X3,m3,D++[u3],fun q hq=>e1 q (hX' q hq),e2,by simp; omega,?_,fun q hq=>?_,?_,Nat.le_trans hfr e6,rfl,?_⟩
  ·rw [List.length_append,List.length_singleton]; exact hvia.trans hv2
  ·rcases List.mem_append.1 hq with hq | hq
   ·exact hDok q hq
   ·simp only [List.mem_singleton] at hq; subst hq; exact ⟨e4,e5⟩
  ·rw [List.length_append,List.length_singleton]; exact nos_take hj hnos e3.rt
  ·rw [List.length_append,List.length_singleton]; rfl
 ·cases hc
theorem look_all:∀ h,LookP h
 | 0=>look_0
 | h+1=>look_s (look_all h)
end Go.Proofs.YtlmmddfhoabjfaaGreat
end
section
namespace Go.Proofs.YtlmmddfhoabjfaaGreat
open Go.Am
theorem tidy_tr {H:Nat} {t:Tr H} {c:Cfg} {G X:RL} {s:TSt} {rows:RL} (htr:TR c G X s rows) (hw:Whole s.m s.root t) (hok:Okt H t) :
  CS Tryz.prog 63 [ptr c.rt] rows fun _ L'=>∃ X' m' root',(∀ q,q∈X->q∈X')/\TR c G X' ⟨m',root',s.cnt⟩ L'/\RPost True m' root' (sq H t)/\frM c.N s.m<=frM c.N m':=by
 suffices g:CS Tryz.prog 63 [ptr c.rt] rows fun _ L'=>∃ x y X' m' root',(∀ q,q∈X->q∈X')/\TR c (x::y::G) X' ⟨m',root',s.cnt⟩ L'/\RPost True m' root' (sq H t)/\frM c.N s.m<=frM c.N m' by
  refine g.less ?_
  rintro u L' ⟨x,y,X',m',root',h1,h2,h3,h4⟩
  obtain ⟨L1,g1,s1⟩:=h2.pop
  obtain ⟨L2,g2,s2⟩:=g1.pop
  exact ⟨L2,s2.trans s1,X',m',root',h1,g2,h3,h4⟩
 obtain ⟨T,es,ck,ws,wk,g,rfl,hN,hp,hgm,hmr⟩:=htr.now
 refine CS.mk (fn:=Tryz.f63) rfl rfl rfl rfl ?_
 repeat refine xQ ?_
 refine xG rfl ?_
 refine OS.fresh rfl (e_boxV (v:=ptr c.rt) (cs:=[ptr c.rt]) rfl rfl rfl rfl rfl) (fun _=>rfl) (fun r1=>?_)
 refine xN ?_
 repeat refine xQ ?_
 refine xG rfl ?_
 refine OS.fresh rfl (e_new (fun _=>rfl) rfl) (fun _=>rfl) (fun r2=>?_)
 refine xN ?_
 repeat refine xQ ?_
 refine xG rfl ?_
 refine xP rfl rh rfl ?_
 refine OS.write rfl (e_store 0 rfl rfl rfl rfl rfl rfl rfl rfl) rfl ?_
 refine OS.sub (Sub.sums (A:=HD c.rf c.rb c.rt c.rn c.rw T s.root s.cnt c.root0 c.cnt0 es ck ws wk (((r2,lkRow r1 r2)::(r1,tpRow c.rt)::G)++X)) (B:=(r2,lkRow r1 r2)::(r1,tpRow c.rt)::HD c.rf c.rb c.rt c.rn c.rw T s.root s.cnt c.root0 c.cnt0 es ck ws wk (G++X)) fun f=>by simp [HD,fm]<;>omega) ?_
 refine xN ?_
 have htr1:TR c ((r2,lkRow r1 r2)::(r1,tpRow c.rt)::G) X s (HD c.rf c.rb c.rt c.rn c.rw T s.root s.cnt c.root0 c.cnt0 es ck ws wk (((r2,lkRow r1 r2)::(r1,tpRow c.rt)::G)++X)):=⟨T,es,ck,ws,wk,hN,rfl,hp⟩
 have m2:=htr1.memG (r2,lkRow r1 r2) (by simp)
 have m1:=htr1.memG (r1,tpRow c.rt) (by simp)
 have hrt:=hw.rt
 repeat refine xQ ?_
 refine LS.drawn noGo mixed [(0,false),(1,false),(2,false),(3,false),(4,false),(5,false),(6,true)] rfl rfl (by kernel_rfl) ?_
 refine xE rfl rfl (e_loadm m2 rfl rfl rfl rfl) rfl ?_
 refine xE rfl rfl (e_loadm m1 rfl rfl rfl rfl) rfl ?_
 iterate 3 refine xD rfl rfl rh rfl ?_
 refine xE rfl rfl (e_is' (e_loadm (row:=trRow c.rf c.rn c.rw s.root s.cnt c.root0 c.cnt0) (r:=c.rt) (by simp) rfl rfl rfl rfl) (congrArg (Value.int .i64) hrt)) rfl ?_
 refine ODS.call rfl rfl (fun _=>rfl) ((look_all H c _ X s _ r1 r2 t htr1 (by simp) (by simp) hw.rep hw.nod hok).mono ?_)
 rintro u L1 ⟨X1,m1',t1,e1,e2,e3,e4,e5,e6⟩
 refine ⟨_,rfl,(by repeat (first | exact Keep.nil | refine Keep.gone rfl ?_)),?_⟩
 refine xM ?_
 have m1b:=e2.memG (r1,tpRow c.rt) (by simp)
 have hw1:=hw.via e3
 repeat refine xQ ?_
 refine xG rfl ?_
 refine xR rfl (e_loadm m1b rfl rfl rfl rfl) rfl ?_
 refine xA noGo rfl (fun _=>rfl) ((mendRoot_tr e2 hw1 e4.lz (fun hh=>absurd (fits_le e4.fits) (by omega))).mono ?_)
 rintro u L2 ⟨X2,m2',root',f1,f2,f3,f4⟩
 refine ⟨_,rfl,?_⟩
 refine xN ?_
 exact ⟨_,fun _ _=>rfl,_,_,X2,m2',root',fun q hq=>f1 q (e1 q hq),f2,f3.sq e3.sv fun _=>⟨e4,e5⟩,Nat.le_trans e6 (f4 (fits_le e4.fits))⟩
inductive Cx:Nat->Nat->Type
 | top {h:Nat}:Cx h h
 | up {h H:Nat} (p:Nat) (A B:List Tx) (L R:List (Tr h)) (c:Cx (h+1) H):Cx h H
def plug:{h H:Nat}->Cx h H->Tr h->Tr H
 | _,_,.top,t=>t
 | _,_,.up p A B L R c,t=>plug c (inn p (A++B) (L++t::R))
def wfC:{h H:Nat}->Cx h H->Prop
 | _,_,.top=>True
 | _,_,.up _ A B L R c=>A.length=L.length/\B.length=R.length/\wfC c
def steps:{h H:Nat}->Cx h H->List (Nat × Nat)
 | _,_,.top=>[]
 | _,_,.up p _ _ L _ c=>steps c++[(p,L.length)]
def preC:{h H:Nat}->Cx h H->List It
 | _,_,.top=>[]
 | h,_,.up _ A _ L _ c=>preC c++preI A (L.map (sq h))
def postC:{h H:Nat}->Cx h H->List It
 | _,_,.top=>[]
 | h,_,.up _ _ B _ R c=>postI B (R.map (sq h))++postC c
theorem sq_plug:∀ {h H:Nat} {c:Cx h H} {t:Tr h},wfC c->sq H (plug c t)=preC c++(sq h t++postC c)
 | _,_,.top,t,_=>by simp [plug,preC,postC]
 | h,H,.up p A B L R c,t,hw=>by
  simp only [plug,preC,postC]
  rw [sq_plug hw.2.2,sq_at hw.1]
  simp only [List.append_assoc]
def pgA:{h H:Nat}->Cx h H->List Nat
 | _,_,.top=>[]
 | h,_,.up p _ _ L _ c=>pgA c++(p::L.flatMap (pgs h))
def pgB:{h H:Nat}->Cx h H->List Nat
 | _,_,.top=>[]
 | h,_,.up _ _ _ _ R c=>R.flatMap (pgs h)++pgB c
theorem pgs_plug:∀ {h H:Nat} {c:Cx h H} {t:Tr h},pgs H (plug c t)=pgA c++(pgs h t++pgB c)
 | _,_,.top,t=>by simp [plug,pgA,pgB]
 | h,H,.up p A B L R c,t=>by
  simp only [plug,pgA,pgB]
  rw [pgs_plug,pgs_at]
  simp only [List.append_assoc,List.cons_append]
theorem plug_rep:∀ {h H:Nat} {c:Cx h H} {t:Tr h} {m:Mem},RepT m H (plug c t)->RepT m h t
 | _,_,.top,t,m,hr=>hr
 | h,H,.up p A B L R c,t,m,hr=>(rep_inn.1 (plug_rep (c:=c) hr)).2 t (by simp)
theorem plug_nod {h H:Nat} {c:Cx h H} {t:Tr h} (hn:(pgs H (plug c t)).Nodup):(pgs h t).Nodup:=by
 rw [pgs_plug,List.nodup_append,List.nodup_append] at hn
 exact hn.2.1.1
theorem Via.plug:∀ {h H:Nat} {c:Cx h H} {t t':Tr h} {m m':Mem},Via m m' t t'->wfC c->RepT m H (plug c t)->(pgs H (plug c t)).Nodup->Via m m' (plug c t) (plug c t')
 | _,_,.top,t,t',m,m',v,_,_,_=>v
 | h,H,.up p A B L R c,t,t',m,m',v,hw,hr,hn=>Via.plug (c:=c) (v.kid hw.1 (plug_rep (c:=c) hr) (plug_nod (c:=c) hn)) hw.2.2 hr hn
def OkC:{h H:Nat}->Cx h H->Nat->Prop
 | _,_,.top,_=>True
 | h,_,.up p A B L R c,q=>fitsN ⟨false,A++B,[],nos L++((q:Nat):Int)::nos R⟩=true/\(∀ s∈L++R,Okt h s)/\OkC c p
theorem ok_plug:∀ {h H:Nat} {c:Cx h H} {t:Tr h},Okt H (plug c t)↔OkC c (no h t)/\Okt h t
 | _,_,.top,t=>by simp [plug,OkC]
 | h,H,.up p A B L R c,t=>by
  simp only [plug,OkC]
  rw [ok_plug,ok_inn]
  have e:nos (L++t::R)=nos L++((no h t:Nat):Int)::nos R:=by simp [nos]
  rw [e]
  constructor
  ·rintro ⟨h1,h2,h3⟩
   exact ⟨⟨h2,fun s hs=>h3 s (by simp only [List.mem_append,List.mem_cons] at hs ⊢; rcases hs with h | h <;> simp [h]),h1⟩,h3 t (by simp)⟩
  ·rintro ⟨⟨h2,h3,h1⟩,h4⟩
   refine ⟨h1,h2,fun s hs=>?_⟩
   simp only [List.mem_append,List.mem_cons] at hs
   rcases hs with h | rfl | h
   ·exact h3 s (by simp [h])
   ·exact h4
   ·exact h3 s (by simp [h])
theorem Srt.plug {h H:Nat} {c:Cx h H} {t:Tr h} (hw:wfC c) (hs:Srt (sq H (plug c t))):Srt (sq h t):=by
 rw [sq_plug hw] at hs
 exact List.Pairwise.sublist ((List.sublist_append_left ..).trans (List.sublist_append_right ..)) hs
end Go.Proofs.YtlmmddfhoabjfaaGreat
end
section
namespace Go.Proofs.YtlmmddfhoabjfaaGreat
open Go.Am
def upto (key:Tx) (ks:List Tx):Nat:=belowN key ks+(if isN key ks=true then 1 else 0)
theorem isN_iff {key:Tx} {ks:List Tx}:isN key ks=true↔ks[belowN key ks]?=some key:=by unfold isN; exact decide_eq_true_iff
theorem upto_le {key:Tx} {ks:List Tx}:upto key ks<=ks.length:=by
 unfold upto
 split
 ·rename_i h
  have:=(List.getElem?_eq_some_iff.1 (isN_iff.1 h)).1
  omega
 ·have:=below_le key ks; omega
theorem upto_before {l key:Tx} {ks:List Tx} (hr:rise l ks=true):∀ k∈ks.take (upto key ks),leT k key=true:=fun k hk=>by
 obtain ⟨i,hi⟩:=List.mem_iff_getElem?.1 hk
 rw [List.getElem?_take] at hi
 split at hi
 case isFalse=>cases hi
 rename_i hlt
 by_cases hb:i < belowN key ks
 ·exact leT_iff.2 (.inl (below_lt hb hi))
 ·unfold upto at hlt
  split at hlt
  ·rename_i h
   have:i=belowN key ks:=by omega
   rw [this,isN_iff.1 h] at hi
   cases hi
   exact leT_iff.2 (.inr rfl)
  ·omega
theorem upto_after {l key:Tx} {ks:List Tx} (hr:rise l ks=true):∀ k∈ks.drop (upto key ks),bytesLt key k=true:=fun k hk=>by
 obtain ⟨i,hi⟩:=List.mem_iff_getElem?.1 hk
 rw [List.getElem?_drop] at hi
 have h1:=below_iff (key:=key) hr hi
 unfold upto at hi h1
 split at hi
 ·rename_i h
  have hk:=isN_iff.1 h
  exact rise_after hr hk hi (by omega)
 ·rename_i h
  rw [if_neg h] at h1
  rw [decide_eq_false (by omega)] at h1
  rcases leT_iff.1 (nlt_iff.1 h1) with h2 | h2
  ·exact h2
  ·exfalso
   -- the key stands there,but not as the first one that is not below
   subst h2
   rcases Nat.eq_zero_or_pos i with h0 | h0
   ·subst h0
    exact h (isN_iff.2 (by simpa using hi))
   ·have hb:belowN key ks < ks.length:=by have:=(List.getElem?_eq_some_iff.1 hi).1; omega
    have h3:=rise_after hr (List.getElem?_eq_getElem hb) hi (by omega)
    have h4:=below_at (List.getElem?_eq_getElem hb)
    rw [h3] at h4; cases h4
theorem kidOf_ct {X L:RL} {r:Nat} {n:Nd} {key:Tx} (hX:∀ p,p∈X->p∈L) (hN:NodeAt X r n) (hs:Sm n) (hm:mayN n=true) :
  CS Tryz.prog 87 [ptr r,txt key] L fun u L'=>u=.int .i64 (upto key n.ks:Nat)/\L'=L:=by
 obtain ⟨v1,v2,v3,hr,hP⟩:=hN
 have N1:=hP.nv hs hX
 have m1:=hX _ hr
 have e1:=hs.k
 have hb:=below_le key n.ks
 refine CS.mk (fn:=Tryz.f87) rfl rfl rfl rfl ?_
 repeat refine xQ ?_
 refine xG rfl ?_
 refine xP rfl rh rfl ?_
 refine xN ?_
 repeat refine xQ ?_
 refine xG rfl ?_
 iterate 2 refine xP rfl rh rfl ?_
 refine xR rfl (e_loadm m1 rfl rfl rfl rfl) rfl ?_
 refine xP rfl rh rfl ?_
 refine xA noGo rfl (fun _=>rfl) ((Find_ct N1 (by omega)).mono ?_)
 rintro u L' ⟨rfl,rfl⟩
 refine ⟨_,rfl,?_⟩
 rw [show findV n key=.tuple #[.int .i64 (belowN key n.ks:Nat),.bool (isN key n.ks)] by unfold findV; rw [if_pos hm]]
 iterate 5 refine xP rfl rh rfl ?_
 refine xN ?_
 repeat refine xQ ?_
 refine xG rfl ?_
 refine xP rfl rh rfl ?_
 refine xN ?_
 cases hi:isN key n.ks with
 | true =>
  repeat refine xQ ?_
  refine xC rfl (fun hc=>?_) (fun hc=>?_)
  ·repeat refine xQ ?_
   refine xG rfl ?_
   refine xP rfl rh rfl ?_
   refine xP rfl (e_addN (n:=1) rfl rfl rfl (in_i64 (by omega) (by omega))) rfl ?_
   refine xP rfl rh rfl ?_
   refine xN ?_
   refine xT ⟨_,fun _ _=>rfl,?_⟩
   refine ⟨?_,rfl⟩
   unfold upto
   rw [if_pos hi]; rfl
  ·cases hc
 | false =>
  repeat refine xQ ?_
  refine xC rfl (fun hc=>?_) (fun hc=>?_)
  ·cases hc
  refine LS.skip ?_
  repeat refine xQ ?_
  refine xG rfl ?_
  iterate 2 refine xP rfl rh rfl ?_
  refine xN ?_
  refine xT ⟨_,fun _ _=>rfl,?_⟩
  refine ⟨?_,rfl⟩
  unfold upto
  rw [if_neg (by rw [hi]; decide)]; rfl
def Bef (key:Tx):It->Prop
 | .K k _=>bytesLt k key=true
 | .S s=>leT s key=true
def Aft (key:Tx):It->Prop
 | .K k _=>bytesLt key k=true
 | .S s=>bytesLt key s=true
theorem lt_le {a b c:Tx} (h:bytesLt a b=true) (g:leT b c=true):bytesLt a c=true:=by
 rcases leT_iff.1 g with g | g
 ·exact lt_trans h g
 ·rw [← g]; exact h
theorem pre_bef {key:Tx} {A:List Tx} {L:List (List It)} {Z:List It} (hl:A.length=L.length) (hA:∀ k∈A,leT k key=true) (hs:Srt (preI A L++Z)):∀ y∈preI A L,Bef key y:=by
 rcases List.eq_nil_or_concat A with rfl | ⟨A,a,rfl⟩
 ·intro y hy
  cases L <;> simp [preI] at hy
 rcases List.eq_nil_or_concat L with rfl | ⟨L,l,rfl⟩
 ·simp at hl
 rw [List.concat_eq_append] at *
 rw [List.concat_eq_append] at *
 have e:preI (A++[a]) (L++[l])=(preI A L++l)++[It.S a]:=by
  rw [preI_app (by simpa using hl)]
  simp [preI]
 rw [e] at hs ⊢
 have ha:=hA a (by simp)
 have h1:=(List.pairwise_append.1 (List.pairwise_append.1 hs).1).2.2
 intro y hy
 rcases List.mem_append.1 hy with hy | hy
 ·have:=h1 y hy (It.S a) (by simp)
  cases y with
  | K k v=>exact lt_le this ha
  | S s=>exact leT_iff.2 (.inl (lt_le this ha))
 ·simp only [List.mem_singleton] at hy
  subst hy
  exact ha
theorem post_aft {key:Tx} {B:List Tx} {R:List (List It)} {Z:List It} (hB:∀ k∈B,bytesLt key k=true) (hs:Srt (Z++postI B R)):∀ y∈postI B R,Aft key y:=by
 intro y hy
 cases B with
 | nil=>cases R <;> simp [postI] at hy
 | cons b B =>
  cases R with
  | nil=>simp [postI] at hy
  | cons r R =>
   have hb:=hB b (by simp)
   have h1:=List.pairwise_cons.1 (List.pairwise_append.1 hs).2.1
   rcases List.mem_cons.1 hy with rfl | hy
   ·exact hb
   ·have:=h1.1 y hy
    cases y with
    | K k v=>exact (show bytesLt key k=true by
      rcases leT_iff.1 this with g | g
      ·exact lt_trans hb g
      ·rw [← g]; exact hb)
    | S s=>exact lt_trans hb this
theorem steps_len:∀ {h H:Nat} {c:Cx h H},(steps c).length+h=H
 | _,_,.top=>by simp [steps]
 | h,H,.up p A B L R c=>by
  have:=steps_len (c:=c)
  simp only [steps,List.length_append,List.length_singleton]
  omega
theorem high_le:∀ {h:Nat} {t:Tr h},Okt h t->h < (pgs h t).length
 | 0,t,_=>by obtain ⟨p,ks,vs,rfl⟩:=lf_eta t; simp
 | h+1,t,hk=>by
  obtain ⟨p,ks,ts,rfl⟩:=inn_eta t
  have hl:=hk.len
  cases ts with
  | nil=>simp at hl
  | cons a ts =>
   have:=high_le (hk.kid a (by simp))
   rw [pgs_inn]
   simp only [List.length_cons,List.flatMap_cons,List.length_append]
   omega
theorem pages_le {c:Cfg} {G X:RL} {s:TSt} {L:RL} (htr:TR c G X s L) {H:Nat} {t:Tr H} (hr:RepT s.m H t) (hn:(pgs H t).Nodup):(pgs H t).length<=c.N:=by
 have:=nodup_le (A:=pgs H t) (B:=List.range c.N) hn fun q hq=>List.mem_range.2 (htr.dom q (hr.some q hq))
 simpa using this
end Go.Proofs.YtlmmddfhoabjfaaGreat
end
section
namespace Go.Proofs.YtlmmddfhoabjfaaGreat
open Go.Am
def stC (l:List (Nat × Nat)):List Value:=l.flatMap fun p=>[.int .i64 (p.1:Nat),.int .i64 (p.2:Nat)]
theorem stC_app (a b:List (Nat × Nat)):stC (a++b)=stC a++stC b:=by simp [stC]
theorem stC_len:∀ st:List (Nat × Nat),(stC st).length=st.length * 2
 | []=>rfl
 | x::l=>by
  have:=stC_len l
  simp only [stC,List.flatMap_cons,List.length_append,List.length_cons,List.length_nil] at this ⊢
  omega
set_option maxHeartbeats 4000000 in
theorem way_tr {H:Nat} {t:Tr H} {c:Cfg} {G X:RL} {s:TSt} {rows:RL} {key:Tx} (htr:TR c G X s rows) (hw:Whole s.m s.root t) (hok:H=0∨Okt H t) (hs:Srt (sq H t)) :
  CS Tryz.prog 62 [ptr c.rt,txt key] rows fun v L'=>∃ (k:Cx 0 H) (l:Tr 0) (Y:RL),plug k l=t/\wfC k/\(∀ y∈preC k,Bef key y)/\(∀ y∈postC k,Aft key y)/\L'=Y++rows/\GV 150 2 [] v ((steps k).length+1) (stC (steps k++[(no 0 l,0)])) Y:=by
 have hrt:=hw.rt
 have hpl:=pages_le htr hw.rep hw.nod
 have hhi:H < (pgs H t).length:=hok.elim (fun h=>by subst h; obtain ⟨p,ks,vs,rfl⟩:=lf_eta t; simp) high_le
 have hN32:=htr.N
 obtain ⟨T,es,ck,ws,wk,g,rfl,hN,hp,hgm,hmr⟩:=htr.now
 have mrt:∀ Y:RL,(c.rt,trRow c.rf c.rn c.rw s.root s.cnt c.root0 c.cnt0)∈Y++HD c.rf c.rb c.rt c.rn c.rw T s.root s.cnt c.root0 c.cnt0 es ck ws wk (G++X):=fun Y=>by simp
 have mmap:∀ Y:RL,(c.rn,ARow.map es ck)∈Y++HD c.rf c.rb c.rt c.rn c.rw T s.root s.cnt c.root0 c.cnt0 es ck ws wk (G++X):=fun Y=>by simp
 have hXY:∀ (Y:RL) q,q∈X->q∈Y++HD c.rf c.rb c.rt c.rn c.rw T s.root s.cnt c.root0 c.cnt0 es ck ws wk (G++X):=fun Y q hq=>List.mem_append_right Y (htr.mem q hq)
 refine CS.mk (fn:=Tryz.f62) rfl rfl rfl rfl ?_
 repeat refine xQ ?_
 refine xG rfl ?_
 refine xP rfl rh rfl ?_
 refine xN ?_
 repeat refine xQ ?_
 refine xG rfl ?_
 refine xP rfl rh rfl ?_
 refine xN ?_
 repeat refine xQ ?_
 refine xG rfl ?_
 iterate 4 refine xP rfl rh rfl ?_
 refine xR rfl (e_is' (e_loadm (mrt []) rfl rfl rfl rfl) (congrArg (Value.int .i64) hrt)) rfl ?_
 refine xP rfl rh rfl ?_
 refine xN ?_
 repeat refine xQ ?_
 refine LS.block ?_
 refine LS.loopJ [0,1,5,6] (fun z a' L'=>∃ (k:Cx z H) (u:Tr z) (Y:RL) (v:Value),plug k u=t/\wfC k/\(∀ y∈preC k,Bef key y)/\(∀ y∈postC k,Aft key y)/\L'=Y++HD c.rf c.rb c.rt c.rn c.rw T s.root s.cnt c.root0 c.cnt0 es ck ws wk (G++X)/\GV 150 2 [] v (steps k).length (stC (steps k)) Y/\a'=[ptr c.rt,txt key,jn,jn,jn,v,.int .i64 (no z u:Nat),jn,jn,jn,jn,jn,jn,jn,jn,jn,jn,jn,jn,jn,jn,jn,jn,jn,jn,jn,jn,jn,jn,jn,jn,jn,jn,jn,jn,jn,jn,jn,jn,jn,jn,jn,jn,jn,jn,jn,jn,jn,jn,jn,jn,jn,jn,jn,jn,jn,jn]) (n:=H) rfl ⟨.top,t,[],.slice none 0 0,rfl,trivial,fun y hy=>(by cases hy),fun y hy=>(by cases hy),rfl,.inl ⟨rfl,rfl,rfl,rfl⟩,rfl⟩ ?_
 rintro z a' L' ⟨k,u,Y,v,hpu,hwf,hbef,haft,rfl,hv,rfl⟩
 have hru:RepT s.m z u:=plug_rep (c:=k) (by rw [hpu]; exact hw.rep)
 have hsu:Srt (sq z u):=Srt.plug hwf (hpu ▸ hs)
 have hmu:=hru.top
 have su:=htr.sm _ _ hmu
 have hst:=steps_len (c:=k)
 obtain ⟨ra,hga,va1,va2,va3,hra,hPa⟩:=(hmr (no z u)).2 _ hmu
 have ega:(g (no z u)).getD (.pointer none)=ptr ra:=by rw [hga]; rfl
 have ma:=hXY Y _ hra
 have Na:=hPa.nv su (hXY Y)
 cases z with
 | zero =>
  have hlf:(nd 0 u).leaf=true:=rfl
  rw [hlf] at ma
  repeat refine xQ ?_
  refine xG rfl ?_
  iterate 4 refine xP rfl rh rfl ?_
  refine xR rfl (e_loadm (mrt Y) rfl rfl rfl rfl) rfl ?_
  refine xP rfl rh rfl ?_
  refine xR rfl (e_get hgm (mmap Y) rfl rfl rfl rfl (fun _=>rfl) rfl) rfl ?_
  rw [ega]
  iterate 2 refine xP rfl rh rfl ?_
  refine xR rfl (e_loadm ma rfl rfl rfl rfl) rfl ?_
  refine xP rfl rh rfl ?_
  refine xN ?_
  repeat refine xQ ?_
  refine xC rfl (fun hc=>?_) (fun hc=>?_)
  ·cases hc
  refine LS.exit ?_
  repeat refine xQ ?_
  refine xG rfl ?_
  iterate 3 refine xP rfl rh rfl ?_
  refine OS.fresh rfl (e_new (fun _=>rfl) rfl) (fun _=>rfl) (fun rz=>?_)
  refine OS.turns rfl (e_appendGA [(rz,.cells 150 [.int .i64 (no 0 u:Nat),.int .i64 0])] (HD c.rf c.rb c.rt c.rn c.rw T s.root s.cnt c.root0 c.cnt0 es ck ws wk (G++X)) (e:=150) (sz:=2) (bts:=16) (m:=1) (new:=stC [(no 0 u,0)]) hv (SV.row (sz:=2) (n:=1) (List.mem_cons_self ..) rfl) rfl rfl rfl rfl (by omega) (by omega)) (fun w L₁ hR=>?_)
  obtain ⟨Y',g',rfl⟩:=hR
  refine ⟨_,rfl,?_⟩
  refine OS.sub (Sub.sums2 ([(rz,.cells 150 [.int .i64 (no 0 u:Nat),.int .i64 0])]) (A:=Y'++HD c.rf c.rb c.rt c.rn c.rw T s.root s.cnt c.root0 c.cnt0 es ck ws wk (G++X)) (B:=Y'++([(rz,.cells 150 [.int .i64 (no 0 u:Nat),.int .i64 0])]++HD c.rf c.rb c.rt c.rn c.rw T s.root s.cnt c.root0 c.cnt0 es ck ws wk (G++X))) fun f=>by simp [HD,fm]<;>omega) ?_
  refine xP rfl rh rfl ?_
  refine xN ?_
  refine xT ⟨_,fun _ _=>rfl,?_⟩
  exact ⟨k,u,Y',hpu,hwf,hbef,haft,rfl,by rw [stC_app]; exact g'⟩
 | succ h =>
  have hok0:Okt H t:=hok.elim (fun h0=>by omega) id
  have hoku:Okt (h+1) u:=(ok_plug.1 (hpu ▸ hok0)).2
  obtain ⟨p,ks,ts,rfl⟩:=inn_eta u
  have hlen:=hoku.len
  have hmay:=fits_may hoku.fits
  have hup:=upto_le (key:=key) (ks:=ks)
  have hrise:=(may_iff.1 hmay).1
  have ek:=su.k
  simp only [nd_inn,no_inn] at ma Na hmay hrise ega ek
  have hi:upto key ks < ts.length:=by omega
  have hks:ks=ks.take (upto key ks)++ks.drop (upto key ks):=(List.take_append_drop _ _).symm
  have hts:ts=ts.take (upto key ks)++ts[upto key ks]::ts.drop (upto key ks+1):=by simp
  repeat refine xQ ?_
  refine xG rfl ?_
  iterate 4 refine xP rfl rh rfl ?_
  refine xR rfl (e_loadm (mrt Y) rfl rfl rfl rfl) rfl ?_
  refine xP rfl rh rfl ?_
  refine xR rfl (e_get hgm (mmap Y) rfl rfl rfl rfl (fun _=>rfl) rfl) rfl ?_
  simp only [no_inn]
  rw [ega]
  iterate 2 refine xP rfl rh rfl ?_
  refine xR rfl (e_loadm ma rfl rfl rfl rfl) rfl ?_
  refine xP rfl rh rfl ?_
  refine xN ?_
  repeat refine xQ ?_
  refine xC rfl (fun hc=>?_) (fun hc=>?_)
  ·refine LS.skip ?_
   repeat refine xQ ?_
   refine LS.block ?_
   repeat refine xQ ?_
   refine xG rfl ?_
   iterate 4 refine xP rfl rh rfl ?_
   refine xR rfl (e_loadm (mrt Y) rfl rfl rfl rfl) rfl ?_
   refine xP rfl rh rfl ?_
   refine xR rfl (e_get hgm (mmap Y) rfl rfl rfl rfl (fun _=>rfl) rfl) rfl ?_
   rw [ega]
   refine xP rfl rh rfl ?_
   refine xA noGo rfl (fun _=>rfl) ((kidOf_ct (X:=X) (hXY Y) ⟨va1,va2,va3,hra,hPa⟩ su hmay).mono ?_)
   rintro w L' ⟨rfl,rfl⟩
   refine ⟨_,rfl,?_⟩
   refine xP rfl rh rfl ?_
   refine xN ?_
   simp only [nd_inn]
   repeat refine xQ ?_
   refine xG rfl ?_
   iterate 4 refine xP rfl rh rfl ?_
   refine OS.fresh rfl (e_new (fun _=>rfl) rfl) (fun _=>rfl) (fun rz=>?_)
   refine OS.turns rfl (e_appendGA [(rz,.cells 150 [.int .i64 (p:Nat),.int .i64 (upto key ks:Nat)])] (HD c.rf c.rb c.rt c.rn c.rw T s.root s.cnt c.root0 c.cnt0 es ck ws wk (G++X)) (e:=150) (sz:=2) (bts:=16) (m:=1) (new:=stC [(p,upto key ks)]) hv (SV.row (sz:=2) (n:=1) (List.mem_cons_self ..) rfl) rfl rfl rfl rfl (by omega) (by omega)) (fun w L₁ hR=>?_)
   obtain ⟨Y',g',rfl⟩:=hR
   refine ⟨_,rfl,?_⟩
   refine OS.sub (Sub.sums2 ([(rz,.cells 150 [.int .i64 (p:Nat),.int .i64 (upto key ks:Nat)])]) (A:=Y'++HD c.rf c.rb c.rt c.rn c.rw T s.root s.cnt c.root0 c.cnt0 es ck ws wk (G++X)) (B:=Y'++([(rz,.cells 150 [.int .i64 (p:Nat),.int .i64 (upto key ks:Nat)])]++HD c.rf c.rb c.rt c.rn c.rw T s.root s.cnt c.root0 c.cnt0 es ck ws wk (G++X))) fun f=>by simp [HD,fm]<;>omega) ?_
   refine xP rfl rh rfl ?_
   refine xN ?_
   have ma':=hXY Y' _ hra
   have Na':=hPa.nv su (hXY Y')
   simp only [nd_inn] at ma' Na'
   have hat:(nums (nos ts))[upto key ks]?=some (.int .i64 ((no h ts[upto key ks]:Nat):Int)):=by simp [nums,nos,hi]
   repeat refine xQ ?_
   refine xG rfl ?_
   iterate 4 refine xP rfl rh rfl ?_
   refine xR rfl (e_loadm (mrt Y') rfl rfl rfl rfl) rfl ?_
   refine xP rfl rh rfl ?_
   refine xR rfl (e_get hgm (mmap Y') rfl rfl rfl rfl (fun _=>rfl) rfl) rfl ?_
   rw [ega]
   iterate 2 refine xP rfl rh rfl ?_
   refine xR rfl (e_loadm ma' rfl rfl rfl rfl) rfl ?_
   refine xP rfl rh rfl ?_
   refine OS.at1 (j:=upto key ks) (Na'.z) (hat) rfl rfl rfl rfl rfl rfl (fun ra0 oa0 rowa0 csa0 ma0 ca0 ga0=>⟨_,rfl,?_⟩)
   refine xR rfl (e_loadm ma0 ca0 rfl rfl (part_one rfl ga0)) rfl ?_
   refine xP rfl rh rfl ?_
   refine xN ?_
   have hlt:(ks.take (upto key ks)).length=(ts.take (upto key ks)).length:=by rw [List.length_take,List.length_take]; omega
   have hsq:sq (h+1) (inn p ks ts)=preI (ks.take (upto key ks)) ((ts.take (upto key ks)).map (sq h))++(sq h ts[upto key ks]++postI (ks.drop (upto key ks)) ((ts.drop (upto key ks+1)).map (sq h))):=by
    have:=sq_at (p:=p) (A:=ks.take (upto key ks)) (B:=ks.drop (upto key ks)) (L:=ts.take (upto key ks)) (R:=ts.drop (upto key ks+1)) (u:=ts[upto key ks]) hlt
    rw [← hks,← hts] at this
    exact this
   rw [hsq] at hsu
   have hwf':wfC (Cx.up p (ks.take (upto key ks)) (ks.drop (upto key ks)) (ts.take (upto key ks)) (ts.drop (upto key ks+1)) k):=by
    simp only [wfC]
    exact ⟨hlt,by rw [List.length_drop,List.length_drop]; omega,hwf⟩
   refine ⟨h,by omega,.up p (ks.take (upto key ks)) (ks.drop (upto key ks)) (ts.take (upto key ks)) (ts.drop (upto key ks+1)) k,ts[upto key ks],Y',w,?_,hwf',fun y hy=>?_,fun y hy=>?_,rfl,?_,rfl⟩
   ·show plug k (inn p (ks.take (upto key ks)++ks.drop (upto key ks)) (ts.take (upto key ks)++ts[upto key ks]::ts.drop (upto key ks+1)))=t
    rw [← hks,← hts]; exact hpu
   ·rcases List.mem_append.1 hy with hy | hy
    ·exact hbef y hy
    ·exact pre_bef (by rw [List.length_map]; exact hlt) (upto_before hrise) hsu y hy
   ·rcases List.mem_append.1 hy with hy | hy
    ·rw [← List.append_assoc] at hsu
     exact post_aft (upto_after hrise) hsu y hy
    ·exact haft y hy
   ·have hlk:(ts.take (upto key ks)).length=upto key ks:=by rw [List.length_take]; omega
    simp only [steps,List.length_append,List.length_singleton,hlk]
    rw [stC_app]; exact g'
  ·cases hc
theorem leafOf_ct {L Y:RL} {v:Value} {st:List (Nat × Nat)} {p q:Nat} (hv:GV 150 2 [] v (st.length+1) (stC (st++[(p,q)])) Y) (hY:∀ x,x∈Y->x∈L) (hn:st.length<=1000000) :
  CS Tryz.prog 65 [v] L fun u L'=>u=.int .i64 (p:Nat)/\L'=L:=by
 have hs:=hv.sv.mono hY
 refine CS.mk (fn:=Tryz.f65) rfl rfl rfl rfl ?_
 repeat refine xQ ?_
 refine xG rfl ?_
 refine xP rfl rh rfl ?_
 refine xN ?_
 repeat refine xQ ?_
 refine xG rfl ?_
 iterate 2 refine xP rfl rh rfl ?_
 refine xP rfl (e_len hs rfl rfl rfl rfl rfl) rfl ?_
 refine xP rfl (e_is (e_sub (n:=1) rfl rfl rfl (in_i64 (by omega) (by omega))) (congrArg (Value.int .i64) (show ((st.length+1:Nat):Int) - 1=((st.length:Nat):Int) by omega))) rfl ?_
 refine OS.at (j:=st.length) hs (by omega) rfl rfl rfl rfl rfl rfl (fun r off row cs₀ h1 h2 h3 h4=>⟨_,rfl,?_⟩)
 refine xP rfl rh rfl ?_
 have h5:=h3 0 (.int .i64 (p:Nat)) (by omega) (by
  rw [stC_app]
  have hl:=stC_len st
  rw [List.getElem?_append_right (by omega),hl]
  simp [stC])
 refine xR rfl (e_loadm h1 h2 rfl rfl (part_one rfl h5)) rfl ?_
 refine xP rfl rh rfl ?_
 refine xN ?_
 refine xT ⟨_,fun _ _=>rfl,?_⟩
 exact ⟨rfl,rfl⟩
end Go.Proofs.YtlmmddfhoabjfaaGreat
end
section
namespace Go.Am
section
variable {P:Program} {o:Oper} {a:Slots} {x y:Operand} {t z:TypeId}
theorem e_eqp {el:TypeId} {r n:Nat} (ho:o.op=.binOp .eql t x y z) (hx:aev a x=some (.pointer (some ⟨r,0,none⟩))) (hy:aev a y=some (.pointer (some ⟨r,0,none⟩))) (ht:P.underlying t=some (.pointer el)) (hz:sizeB P el=some n) :
  ∀ h,opB P a o h=some (.val (.bool true) h):=by
 intro h
 have hr:(Nat.beq r r && Nat.beq 0 0)=true:=by simp
 have e:eqB P 100 t (.pointer (some ⟨r,0,none⟩)) (.pointer (some ⟨r,0,none⟩))=some true:=by
  unfold eqB
  simp only [ht,hz,hr]
 simp only [opB,ho,hx,hy,eqOk,binB,e,ret,if_true]
end
end Go.Am
namespace Go.Proofs.YtlmmddfhoabjfaaGreat
open Go.Am
theorem pl_same {X L:RL} {e:TypeId} {sz n n':Nat} {v:Value} {cs cs':List Value} (hnd:(L.map (·.1)).Nodup) (hX:∀ p,p∈X->p∈L) (h:PL e sz X v n cs) (h':PL e sz X v n' cs'):cs=cs':=by
 rcases h with ⟨h1,h2,h3⟩ | ⟨r,off,cap,cs0,h1,h2,h3,_⟩
 ·rcases h' with ⟨g1,g2,g3⟩ | ⟨r,off,cap,cs0,g1,_⟩
  ·rw [h3,g3]
  ·rw [h1] at g1; cases g1
 ·rcases h' with ⟨g1,g2,g3⟩ | ⟨r',off',cap',cs0',g1,g2,g3,_⟩
  ·rw [h1] at g1; cases g1
  ·rw [h1] at g1
   simp only [Value.slice.injEq,Option.some.injEq,Addr.mk.injEq] at g1
   obtain ⟨⟨rfl,rfl,_⟩,rfl,rfl⟩:=g1
   have:=row_one hnd (hX _ h2) (hX _ g2)
   simp only [ARow.cells.injEq,true_and] at this
   subst this
   rw [h3] at g3
   exact Option.some.inj g3
theorem tx_inj {a b:List Tx} (h:tx a=tx b):a=b:=by
 induction a generalizing b with
 | nil=>cases b with
  | nil=>rfl
  | cons _ _=>simp [tx] at h
 | cons x l ih=>cases b with
  | nil=>simp [tx] at h
  | cons y m =>
   simp only [tx,List.map_cons,List.cons.injEq] at h
   have h1:x=y:=by
    have:=h.1
    simp only [txt,Value.string.injEq] at this
    cases this
    rfl
   rw [h1,ih h.2]
theorem nums_inj {a b:List Int} (h:nums a=nums b):a=b:=by
 induction a generalizing b with
 | nil=>cases b with
  | nil=>rfl
  | cons _ _=>simp [nums] at h
 | cons x l ih=>cases b with
  | nil=>simp [nums] at h
  | cons y m =>
   simp only [nums,List.map_cons,List.cons.injEq,Value.int.injEq,true_and] at h
   rw [h.1,ih h.2]
theorem node_one {X L:RL} {r:Nat} {n n':Nd} (hnd:(L.map (·.1)).Nodup) (hX:∀ p,p∈X->p∈L) (h:NodeAt X r n) (h':NodeAt X r n'):n=n':=by
 obtain ⟨v1,v2,v3,h1,h2⟩:=h
 obtain ⟨w1,w2,w3,g1,g2⟩:=h'
 have:=row_one hnd (hX _ h1) (hX _ g1)
 simp only [ARow.cells.injEq,List.cons.injEq,Value.bool.injEq,true_and,and_true] at this
 obtain ⟨e0,rfl,rfl,rfl⟩:=this
 have e1:=tx_inj (pl_same hnd hX h2.k g2.k)
 have e2:=tx_inj (pl_same hnd hX h2.v g2.v)
 have e3:=nums_inj (pl_same hnd hX h2.z g2.z)
 obtain ⟨a,b,c,d⟩:=n
 obtain ⟨a',b',c',d'⟩:=n'
 simp only at e0 e1 e2 e3
 rw [e0,e1,e2,e3]
end Go.Proofs.YtlmmddfhoabjfaaGreat
end
section
namespace Go.Proofs.YtlmmddfhoabjfaaGreat
open Go.Am
theorem emp_body {h:Nat} {t:Tr h} (he:Emp t):(bodyN (nd h t)).length<=256:=by
 have h1:=he.2.2
 rw [body_len (by rw [h1]; simp),h1]
 have:=first_le (nd h t)
 simp only [zipB,List.length_nil]
 omega
theorem sml_body {h:Nat} {t:Tr h} (hs:Sml t):(bodyN (nd h t)).length<=256:=by
 rcases hs with h | h
 ·exact emp_body h
 ·exact h
theorem stC_get {l:List (Nat × Nat)} {j p k:Nat} (h:l[j]?=some (p,k)):(stC l)[j * 2+0]?=some (.int .i64 (p:Nat))/\(stC l)[j * 2+1]?=some (.int .i64 (k:Nat)):=by
 induction l generalizing j with
 | nil=>simp at h
 | cons x l ih =>
  cases j with
  | zero =>
   simp only [List.getElem?_cons_zero,Option.some.injEq] at h
   subst h
   simp [stC]
  | succ j =>
   simp only [List.getElem?_cons_succ] at h
   obtain ⟨h1,h2⟩:=ih h
   have e:stC (x::l)=.int .i64 (x.1:Nat)::.int .i64 (x.2:Nat)::stC l:=rfl
   rw [e]
   refine ⟨?_,?_⟩
   ·rw [show (j+1) * 2+0=(j * 2+0)+1+1 by omega,List.getElem?_cons_succ,List.getElem?_cons_succ]; exact h1
   ·rw [show (j+1) * 2+1=(j * 2+1)+1+1 by omega,List.getElem?_cons_succ,List.getElem?_cons_succ]; exact h2
def FinP (m':Mem) (root':Int) (cnt:Int) (l:List It):Prop :=
 (root'=-1/\(∀ q,m' q=none)/\kvs l=[])∨∃ (H':Nat) (t':Tr H'),Whole m' root' t'/\Okt H' t'/\SQ l (sq H' t')/\(((pgs H' t').length:Int)<=3 * cnt∨(Tdy H' t'/\(nd H' t').kids.length≠1))
theorem whole_card {X:RL} {m:Mem} {root:Int} {es:List MapEntry} {ck:Nat} {g:Nat->Option Value} (hg:MP es ck g) (hm:MapRep X g m) {H:Nat} {t:Tr H} (hw:Whole m root t):es.length=(pgs H t).length:=by
 refine hg.card hw.nod fun k=>?_
 constructor
 ·intro hk hgk
  have:=hw.rep.some k hk
  cases hmk:m k with
  | none=>exact this hmk
  | some n=>obtain ⟨r,h1,_⟩:=(hm k).2 n hmk; rw [hgk] at h1; cases h1
 ·intro hgk
  by_cases hk:k∈pgs H t
  ·exact hk
  ·exact absurd ((hm k).1 (hw.out k hk)) hgk
set_option maxHeartbeats 8000000 in
theorem mend_tr {H:Nat} {k0:Cx 0 H} {l0:Tr 0} {pl:Nat} {c:Cfg} {G X:RL} {s:TSt} {rows:RL} {v:Value} (htr:TR c G X s rows) (hv:SV 2 G v ((steps k0).length+1) (stC (steps k0++[(pl,0)]))) (hw:Whole s.m s.root (plug k0 l0)) (hok:OkC k0 (no 0 l0)) (hwf:wfC k0) (hlz:Lz l0) (hs:Srt (sq H (plug k0 l0)))
  (hbud:Sml l0∨(steps k0).length+2<=frM c.N s.m) (hcnt:0<=s.cnt) (hcnt2:s.cnt<=1000000000) (hsl:(steps k0).length<=100000) :
  CS Tryz.prog 69 [ptr c.rt,v] rows fun _ L'=>∃ X' m' root',(∀ q,q∈X->q∈X')/\TR c G X' ⟨m',root',s.cnt⟩ L'/\FinP m' root' s.cnt (sq H (plug k0 l0)):=by
 have hvr:=hv.mono htr.memG
 refine CS.mk (fn:=Tryz.f69) rfl rfl rfl rfl ?_
 repeat refine xQ ?_
 refine xG rfl ?_
 refine xP rfl rh rfl ?_
 refine xP rfl (e_len hvr rfl rfl rfl rfl rfl) rfl ?_
 refine xP rfl (e_is (e_sub (n:=2) rfl rfl rfl (in_i64 (by omega) (by omega))) (congrArg (Value.int .i64) (show (((steps k0).length+1:Nat):Int) - 2=((steps k0).length:Int) - 1 by omega))) rfl ?_
 refine xP rfl rh rfl ?_
 refine xN ?_
 repeat refine xQ ?_
 refine LS.mid [0] (fun a' L'=>∃ X' m' t',(∀ q,q∈X->q∈X')/\TR c G X' ⟨m',s.root,s.cnt⟩ L'/\Whole m' s.root (H:=H) t'/\Lz t'/\Srt (sq H t')/\SQ (sq H (plug k0 l0)) (sq H t')/\(256 < (bodyN (nd H t')).length->2<=frM c.N m')/\a'=[ptr c.rt,jn,jn,jn,jn,jn,jn,jn,jn,jn,jn,jn,jn,jn,jn,jn,jn,jn,jn,jn,jn,jn,jn,jn,jn,jn,jn,jn,jn,jn,jn,jn,jn,jn,jn,jn,jn,jn,jn,jn,jn,jn,jn,jn,jn,jn,jn,jn,jn,jn,jn,jn,jn,jn,jn,jn,jn,jn,jn,jn,jn,jn,jn,jn,jn,jn]) ?_ ?_
 ·refine LS.block ?_
  refine LS.loopJ [0,1,4] (fun z a' L'=>∃ (h:Nat) (k:Cx h H) (u:Tr h) (X':RL) (m':Mem),(∀ q,q∈X->q∈X')/\TR c G X' ⟨m',s.root,s.cnt⟩ L'/\Whole m' s.root (plug k u)/\OkC k (no h u)/\wfC k/\Lz u/\Srt (sq H (plug k u))/\SQ (sq H (plug k0 l0)) (sq H (plug k u))/\(∃ rest,steps k0=steps k++rest)/\(Sml u∨(steps k).length+2<=frM c.N m')/\z=(steps k).length/\a'=[ptr c.rt,v,jn,jn,.int .i64 ((steps k).length - 1:Int),jn,jn,jn,jn,jn,jn,jn,jn,jn,jn,jn,jn,jn,jn,jn,jn,jn,jn,jn,jn,jn,jn,jn,jn,jn,jn,jn,jn,jn,jn,jn,jn,jn,jn,jn,jn,jn,jn,jn,jn,jn,jn,jn,jn,jn,jn,jn,jn,jn,jn,jn,jn,jn,jn,jn,jn,jn,jn,jn,jn,jn]) (n:=(steps k0).length) rfl ⟨0,k0,l0,X,s.m,fun _ hq=>hq,htr,hw,hok,hwf,hlz,hs,SQ.refl,⟨[],by simp⟩,hbud,rfl,rfl⟩ ?_
  rintro z a' L1 ⟨h,k,u,X1,m1,hX1,htr1,hw1,hok1,hwf1,hlz1,hs1,hsq1,⟨rest,hrest⟩,hbud1,rfl,rfl⟩
  cases k with
  | top =>
   have hb:ileB 0 (((steps (Cx.top:Cx H H)).length:Int) - 1)=false:=rfl
   repeat refine xQ ?_
   refine xG rfl ?_
   refine xP rfl rh rfl ?_
   refine xP rfl (e_ib rh (hb)) rfl ?_
   refine xN ?_
   repeat refine xQ ?_
   refine xC rfl (fun hc=>?_) (fun hc=>?_)
   ·cases hc
   refine LS.exit ?_
   refine ⟨X1,m1,u,hX1,htr1,hw1,hlz1,hs1,hsq1,fun hbig=>?_,rfl⟩
   rcases hbud1 with hb1 | hb1
   ·have:=sml_body hb1; omega
   ·simp [steps] at hb1; exact hb1
  | up p A B L R c1 =>
   have hst:(steps (Cx.up p A B L R c1)).length=(steps c1).length+1:=by simp [steps]
   have hle:(steps c1).length+1<=(steps k0).length:=by rw [hrest,List.length_append,hst]; omega
   have hget:(steps k0++[(pl,0)])[(steps c1).length]?=some (p,L.length):=by rw [hrest]; simp [steps]
   obtain ⟨hg0,hg1⟩:=stC_get hget
   have hi:(((steps (Cx.up p A B L R c1)).length:Int) - 1)=((steps c1).length:Nat):=by rw [hst]; omega
   rw [hi]
   have hb:ileB 0 (((steps c1).length:Nat):Int)=true:=ileB_iff.2 (by omega)
   have hrp:RepT m1 (h+1) (inn p (A++B) (L++u::R)):=plug_rep (c:=c1) hw1.rep
   have hnp:(pgs (h+1) (inn p (A++B) (L++u::R))).Nodup:=plug_nod (c:=c1) hw1.nod
   obtain ⟨hf1,hsib,hok2⟩:=hok1
   obtain ⟨hlA,hlB,hwf2⟩:=hwf1
   have hnosu:nos (L++u::R)=nos L++((no h u:Nat):Int)::nos R:=by simp [nos]
   rw [← hnosu] at hf1
   have hmp:m1 p=some ⟨false,A++B,[],nos (L++u::R)⟩:=hrp.top
   have hL120:L.length<=120:=by
    have:=(Bg.of hf1).keys
    simp only [List.length_append] at this
    omega
   have hfk:256 < (bodyN (nd h u)).length->0 < frM c.N m1:=fun hbig=>by
    rcases hbud1 with hb1 | hb1
    ·have:=sml_body hb1; omega
    ·omega
   have htr10:=htr1
   have hv1:=hv.mono htr1.memG
   have hX1L:=htr1.mem
   have hGL:=htr1.memG
   obtain ⟨T,es,ck,ws,wk,g,rfl,hN,hp,hgm,hmr⟩:=htr1.now
   obtain ⟨r,hgr0,v1,v2,v3,hr1,hP⟩:=(hmr p).2 _ hmp
   have hgr:(g p).getD (.pointer none)=ptr r:=by rw [hgr0]; rfl
   repeat refine xQ ?_
   refine xG rfl ?_
   refine xP rfl rh rfl ?_
   refine xP rfl (e_ib rh (hb)) rfl ?_
   refine xN ?_
   repeat refine xQ ?_
   refine xC rfl (fun hc=>?_) (fun hc=>?_)
   ·refine LS.skip ?_
    repeat refine xQ ?_
    refine LS.block ?_
    repeat refine xQ ?_
    refine LS.drawn noGo mixed [(0,false),(1,false),(2,false),(3,false),(4,false),(5,false),(6,false),(7,false),(8,false),(9,false),(10,false),(11,false)] rfl rfl (by kernel_rfl) ?_
    iterate 4 refine xD rfl rfl rh rfl ?_
    refine xE rfl rfl (e_loadm (row:=trRow c.rf c.rn c.rw s.root s.cnt c.root0 c.cnt0) (r:=c.rt) (by simp) rfl rfl rfl rfl) rfl ?_
    iterate 2 refine xD rfl rfl rh rfl ?_
    refine ODS.at (j:=(steps c1).length) hv1 (by omega) rfl rfl rfl rfl rfl rfl rfl (fun ra oa rowa csa q1 q2 q3 q4=>⟨_,rfl,?_⟩)
    refine xD rfl rfl rh rfl ?_
    refine xE rfl rfl (e_loadm q1 q2 rfl rfl (part_one rfl (q3 0 _ (by omega) hg0))) rfl ?_
    refine xE rfl rfl (e_get hgm (by simp) rfl rfl rfl rfl (fun _=>rfl) rfl) rfl ?_
    rw [hgr]
    refine xD rfl rfl rh rfl ?_
    refine xM ?_
    repeat refine xQ ?_
    refine LS.drawn noGo mixed [(0,false),(1,false),(2,false),(3,false),(4,false),(5,false),(6,false),(7,false),(8,false),(9,false),(10,false),(11,true)] rfl rfl (by kernel_rfl) ?_
    iterate 3 refine xD rfl rfl rh rfl ?_
    refine ODS.at (j:=(steps c1).length) hv1 (by omega) rfl rfl rfl rfl rfl rfl rfl (fun ra oa rowa csa q1 q2 q3 q4=>⟨_,rfl,?_⟩)
    refine xD rfl rfl rh rfl ?_
    refine xE rfl rfl (e_loadm q1 q2 rfl rfl (part_one rfl (q3 0 _ (by omega) hg0))) rfl ?_
    iterate 2 refine xD rfl rfl rh rfl ?_
    refine ODS.at (j:=(steps c1).length) hv1 (by omega) rfl rfl rfl rfl rfl rfl rfl (fun ra oa rowa csa q1 q2 q3 q4=>⟨_,rfl,?_⟩)
    refine xD rfl rfl rh rfl ?_
    refine xE rfl rfl (e_loadm q1 q2 rfl rfl (part_one rfl (q3 1 _ (by omega) hg1))) rfl ?_
    refine ODS.call rfl rfl (fun _=>rfl) ((mendKid_tr htr10 hlA hlB hrp hnp hf1 hsib (Srt.plug (c:=c1) hwf2 hs1) hlz1 hfk).mono ?_)
    rintro w L2 hmpost
    refine ⟨_,rfl,(by repeat (first | exact Keep.nil | refine Keep.gone rfl ?_)),?_⟩
    refine xM ?_
    obtain ⟨X2,m2,ks2,ts2,e1,e2,e3,e4,e5,e6,e7⟩:=hmpost.lz
    simp only at e2 e3 e6 e7
    have hvp:=Via.plug (c:=c1) e3 hwf2 hw1.rep hw1.nod
    have hw2:=hw1.via hvp
    have hs2:Srt (sq H (plug c1 (inn p ks2 ts2))):=hvp.sv.to hs1
    have hmp2:m2 p=some ⟨false,ks2,[],nos ts2⟩:=e3.rep.top
    have e20:=e2
    have hv2:=hv.mono e2.memG
    have hX2L:=e2.mem
    have hr2L:=hX2L _ (e1 _ hr1)
    obtain ⟨T2,es2,ck2,ws2,wk2,g2,rfl,hN2,hp2,hgm2,hmr2⟩:=e2.now
    obtain ⟨r2,hgr20,x1,x2,x3,hr2,hP2⟩:=(hmr2 p).2 _ hmp2
    have hgr2:(g2 p).getD (.pointer none)=ptr r2:=by rw [hgr20]; rfl
    refine LS.nodup fun hnd=>?_
    repeat refine xQ ?_
    refine LS.drawn noGo mixed [(0,false),(1,false),(2,false),(3,false),(4,false),(5,false),(6,false),(7,false),(8,false),(9,false),(10,false),(11,false),(12,false)] rfl rfl (by kernel_rfl) ?_
    iterate 4 refine xD rfl rfl rh rfl ?_
    refine xE rfl rfl (e_loadm (row:=trRow c.rf c.rn c.rw s.root s.cnt c.root0 c.cnt0) (r:=c.rt) (by simp) rfl rfl rfl rfl) rfl ?_
    iterate 2 refine xD rfl rfl rh rfl ?_
    refine ODS.at (j:=(steps c1).length) hv2 (by omega) rfl rfl rfl rfl rfl rfl rfl (fun ra oa rowa csa q1 q2 q3 q4=>⟨_,rfl,?_⟩)
    refine xD rfl rfl rh rfl ?_
    refine xE rfl rfl (e_loadm q1 q2 rfl rfl (part_one rfl (q3 0 _ (by omega) hg0))) rfl ?_
    refine xE rfl rfl (e_get hgm2 (by simp) rfl rfl rfl rfl (fun _=>rfl) rfl) rfl ?_
    rw [hgr2]
    refine xD rfl rfl rh rfl ?_
    by_cases hrr:r2=r
    ·subst hrr
     have hnn:=node_one hnd hX2L ⟨v1,v2,v3,e1 _ hr1,hP.mono e1⟩ ⟨x1,x2,x3,hr2,hP2⟩
     have hokt:Okt (h+1) (inn p ks2 ts2):=⟨by rw [nd_inn,← hnn]; exact hf1,e5⟩
     refine xD rfl rfl (e_eqp rfl rfl rfl rfl rfl) rfl ?_
     refine xM ?_
     repeat refine xQ ?_
     refine xC rfl (fun hc=>?_) (fun hc=>?_)
     ·refine LS.exit ?_
      have hokw:Okt H (plug c1 (inn p ks2 ts2)):=ok_plug.2 ⟨hok2,hokt⟩
      exact ⟨X2,m2,_,fun q hq=>e1 q (hX1 q hq),e20,hw2,hokw.lz,hs2,hsq1.trans hvp.sv,fun hbig=>absurd (fits_le hokw.fits) (by omega),rfl⟩
     ·cases hc
    ·refine xE rfl rfl (e_two (n:=3) (.inl ⟨rfl,rfl⟩) rfl rfl rfl rfl rfl (hX2L _ hr2) hr2L hrr rfl rfl) rfl ?_
     refine xM ?_
     repeat refine xQ ?_
     refine xC rfl (fun hc=>?_) (fun hc=>?_)
     ·cases hc
     refine LS.skip ?_
     repeat refine xQ ?_
     refine xG rfl ?_
     refine xP rfl rh rfl ?_
     refine xP rfl (e_sub (n:=1) rfl rfl rfl (in_i64 (by omega) (by omega))) rfl ?_
     refine xP rfl rh rfl ?_
     refine xN ?_
     refine ⟨(steps c1).length,by rw [hst]; omega,h+1,c1,inn p ks2 ts2,X2,m2,fun q hq=>e1 q (hX1 q hq),e20,hw2,hok2,hwf2,e4,hs2,hsq1.trans hvp.sv,⟨(p,L.length)::rest,by rw [hrest]; simp [steps]⟩,?_,rfl,rfl⟩
     rcases hbud1 with hb1 | hb1
     ·exact .inl (e7 hb1).2
     ·exact .inr (by rw [hst] at hb1; omega)
   ·cases hc
 rintro a' L1 ⟨X1,m1,t1,hX1,htr1,hw1,hlz1,hs1,hsq1,hbud1,rfl⟩
 repeat refine xQ ?_
 refine xG rfl ?_
 refine xP rfl rh rfl ?_
 refine xA noGo rfl (fun _=>rfl) ((mendRoot_tr htr1 hw1 hlz1 hbud1).mono ?_)
 rintro w L2 ⟨X2,m2,root2,e1,e2,e3,_⟩
 simp only at e2
 refine ⟨_,rfl,?_⟩
 refine xN ?_
 have e20:=e2
 obtain ⟨T2,es2,ck2,ws2,wk2,g2,rfl,hN2,hp2,hgm2,hmr2⟩:=e2.now
 have hes:es2.length<=32768:=by
  have:=hgm2.card (A:=(List.range T2.length).filter fun i=>(m2 i).isSome) (List.nodup_range.filter _) fun q=>by
   rw [List.mem_filter,List.mem_range]
   constructor
   ·rintro ⟨_,h1⟩ h2
    cases hm:m2 q with
    | none=>rw [hm] at h1; cases h1
    | some n=>obtain ⟨r,h3,_⟩:=(hmr2 q).2 n hm; rw [h2] at h3; cases h3
   ·intro hq
    have:m2 q≠none:=fun hh=>hq ((hmr2 q).1 hh)
    exact ⟨hp2.dom q this,by cases hm:m2 q with
     | none=>exact absurd hm this
     | some n=>rfl⟩
  rw [this]
  refine Nat.le_trans (List.length_filter_le ..) ?_
  rw [List.length_range]
  exact hp2.N
 have e3':RPost (Okt H t1/\Tdy H t1) m2 root2 (sq H (plug k0 l0)):=e3.sq hsq1 id
 repeat refine xQ ?_
 refine LS.drawn noGo mixed [(0,false),(1,false),(2,false),(3,false),(4,false),(5,false),(6,false),(7,false),(8,false),(9,false),(10,false),(11,false),(12,false)] rfl rfl (by kernel_rfl) ?_
 iterate 4 refine xD rfl rfl rh rfl ?_
 refine xE rfl rfl (e_loadm (row:=trRow c.rf c.rn c.rw root2 s.cnt c.root0 c.cnt0) (r:=c.rt) (by simp) rfl rfl rfl rfl) rfl ?_
 refine xE rfl rfl (e_lenM (r:=c.rn) (es:=es2) (ck:=ck2) (by simp) rfl rfl rfl rfl rfl) rfl ?_
 iterate 4 refine xD rfl rfl rh rfl ?_
 refine xE rfl rfl (e_loadm (row:=trRow c.rf c.rn c.rw root2 s.cnt c.root0 c.cnt0) (r:=c.rt) (by simp) rfl rfl rfl rfl) rfl ?_
 refine xD rfl rfl (e_mul (m:=3) rfl rfl rfl (in_i64 (by omega) (by omega))) rfl ?_
 by_cases hbig:((es2.length:Nat):Int)<=3 * s.cnt
 ·have hb:(!ileB ((es2.length:Nat):Int) (3 * s.cnt))=false:=by rw [ileB_eq,decide_eq_true hbig]; rfl
  refine xD rfl rfl (e_ib rh (hb)) rfl ?_
  refine xM ?_
  repeat refine xQ ?_
  refine xC rfl (fun hc=>?_) (fun hc=>?_)
  ·cases hc
  refine LS.skip ?_
  refine ⟨_,fun _ _=>rfl,X2,m2,root2,fun q hq=>e1 q (hX1 q hq),e20,?_⟩
  rcases e3' with h | ⟨H',t',h1,h2,h3,h4,h5⟩
  ·exact .inl h
  ·refine .inr ⟨H',t',h1,h2,h3,.inl ?_⟩
   rw [← whole_card hgm2 hmr2 h1]; exact hbig
 ·have hb:(!ileB ((es2.length:Nat):Int) (3 * s.cnt))=true:=by rw [ileB_eq,decide_eq_false hbig]; rfl
  refine xD rfl rfl (e_ib rh (hb)) rfl ?_
  refine xM ?_
  repeat refine xQ ?_
  refine xC rfl (fun hc=>?_) (fun hc=>?_)
  ·rcases e3' with ⟨h1,h2,h3⟩ | ⟨H',t',h1,h2,h3,h4,h5⟩
   ·exfalso
    have:=hgm2.card (A:=[]) List.nodup_nil fun q=>by
     constructor
     ·intro hq; cases hq
     ·intro hq; exact absurd ((hmr2 q).1 (h2 q)) hq
    rw [this] at hbig
    simp at hbig
    omega
   ·repeat refine xQ ?_
    refine xG rfl ?_
    refine xP rfl rh rfl ?_
    refine xA noGo rfl (fun _=>rfl) ((tidy_tr e20 h1 h2).mono ?_)
    rintro w L3 ⟨X3,m3,root3,f1,f2,f3,_⟩
    refine ⟨_,rfl,?_⟩
    refine xN ?_
    refine ⟨_,fun _ _=>rfl,X3,m3,root3,fun q hq=>f1 q (e1 q (hX1 q hq)),f2,?_⟩
    rcases f3 with ⟨g1,g2,g3⟩ | ⟨H3,t3,g1,g2,g3,g4,g5⟩
    ·exact .inl ⟨g1,g2,by rw [h3.kv]; exact g3⟩
    ·exact .inr ⟨H3,t3,g1,g2,h3.trans g3,.inr ⟨g5 trivial,g4⟩⟩
  ·cases hc
end Go.Proofs.YtlmmddfhoabjfaaGreat
end
section
namespace Go.Proofs.YtlmmddfhoabjfaaGreat
open Go.Am
def nbs (c:Nat):List Nat->Prop
 | a::b::l=>c<=a+b/\nbs c (b::l)
 | _=>True
theorem nbs_tail {c a:Nat} {l:List Nat} (h:nbs c (a::l)):nbs c l:=by
 cases l with
 | nil=>trivial
 | cons b l=>exact h.2
theorem nbs_of {c:Nat}:∀ {l:List Nat},(∀ (j a b:Nat),l[j]?=some a->l[j+1]?=some b->c<=a+b)->nbs c l
 | [],_=>trivial
 | [a],_=>trivial
 | a::b::l,h=>⟨h 0 a b rfl rfl,nbs_of (l:=b::l) fun j x y h1 h2=>h (j+1) x y (by simpa using h1) (by simpa using h2)⟩
theorem sum_3:∀ {l:List Nat},(∀ x∈l,1<=x)->nbs 3 l->4 * l.length<=3 * l.sum+1
 | [],_,_=>by simp
 | [a],h,_=>by have:=h a (by simp); simp; omega
 | a::b::l,h,hn=>by
  have:=sum_3 (l:=l) (fun x hx=>h x (by simp [hx])) (nbs_tail (nbs_tail hn))
  have h1:3<=a+b:=hn.1
  simp only [List.length_cons,List.sum_cons]
  omega
theorem sum_8:∀ {l:List Nat},(∀ x∈l,1<=x)->nbs 8 l->4 * l.length<=l.sum+3
 | [],_,_=>by simp
 | [a],h,_=>by have:=h a (by simp); simp; omega
 | a::b::l,h,hn=>by
  have:=sum_8 (l:=l) (fun x hx=>h x (by simp [hx])) (nbs_tail (nbs_tail hn))
  have h1:8<=a+b:=hn.1
  simp only [List.length_cons,List.sum_cons]
  omega
theorem kvs_cons_S {k:Tx} {l:List It}:kvs (It.S k::l)=kvs l:=rfl
theorem kvs_post:∀ {ks:List Tx} {ss:List (List It)},ks.length=ss.length->kvs (postI ks ss)=(ss.map kvs).flatten
 | [],[],_=>rfl
 | [],_::_,h=>by simp at h
 | _::_,[],h=>by simp at h
 | k::ks,s::ss,h=>by
  have:=kvs_post (ks:=ks) (ss:=ss) (by simpa using h)
  simp only [postI,kvs_cons_S,kvs_app,this,List.map_cons,List.flatten_cons]
theorem kvs_wv {ks:List Tx} {ss:List (List It)} (h:ss.length=ks.length+1):kvs (wv ks ss)=(ss.map kvs).flatten:=by
 cases ss with
 | nil=>simp at h
 | cons s ss=>simp only [wv,kvs_app,kvs_post (ks:=ks) (ss:=ss) (by simpa using h.symm),List.map_cons,List.flatten_cons]
def prs {h:Nat} (t:Tr h):Nat:=(kvs (sq h t)).length
theorem prs_inn {h p:Nat} {ks:List Tx} {ts:List (Tr h)} (hl:ts.length=ks.length+1):prs (inn p ks ts)=(ts.map prs).sum:=by
 unfold prs
 rw [sq_inn,kvs_wv (by rw [List.length_map]; exact hl),List.length_flatten]
 congr 1
 simp [Function.comp_def,prs]
theorem kvs_zip:∀ {ks vs:List Tx},kvs (List.zipWith It.K ks vs)=ks.zip vs
 | [],_=>by simp [kvs]
 | _::_,[]=>by simp [kvs]
 | k::ks,v::vs=>by
  have:=kvs_zip (ks:=ks) (vs:=vs)
  rw [List.zipWith_cons_cons,List.zip_cons_cons,← this]; rfl
theorem prs_lf {p:Nat} {ks vs:List Tx} (h:vs.length=ks.length):prs (lf p ks vs)=ks.length:=by
 unfold prs
 rw [sq_lf,kvs_zip,List.length_zip,h]; omega
theorem pgs_sum {h p:Nat} {ks:List Tx} {ts:List (Tr h)}:(pgs (h+1) (inn p ks ts)).length=(ts.map fun t=>(pgs h t).length).sum+1:=by
 rw [pgs_inn,List.length_cons,List.length_flatMap]
def wd:{h:Nat}->Tr h->Nat
 | 0,t=>(Lf.ks t).length
 | _+1,t=>(Inn.ts t).length
theorem srt_leaf {ks vs:List Tx} (hs:Srt (List.zipWith It.K ks vs)) (hl:vs.length=ks.length):ks.Pairwise fun a b=>bytesLt a b=true:=by
 induction ks generalizing vs with
 | nil=>exact List.Pairwise.nil
 | cons k ks ih =>
  cases vs with
  | nil=>simp at hl
  | cons v vs =>
   have h:=List.pairwise_cons.1 (show List.Pairwise lessI (It.K k v::List.zipWith It.K ks vs) from hs)
   refine List.pairwise_cons.2 ⟨fun x hx=>?_,ih h.2 (by simpa using hl)⟩
   obtain ⟨i,hi,rfl⟩:=List.getElem_of_mem hx
   have hl':vs.length=ks.length:=by simpa using hl
   have hm:It.K ks[i] vs[i]∈List.zipWith It.K ks vs:=by
    refine List.mem_iff_getElem?.2 ⟨i,?_⟩
    rw [List.getElem?_zipWith,List.getElem?_eq_getElem hi,List.getElem?_eq_getElem (show i < vs.length by omega)]
   exact h.1 _ hm
theorem may_leaf {ks vs:List Tx} (hs:Srt (List.zipWith It.K ks vs)) (hl:vs.length=ks.length) (hk:∀ k∈ks,1<=k.length/\k.length<=32) (hv:∀ v∈vs,v.length<=64):mayN ⟨true,ks,vs,[]⟩=true:=by
 refine may_iff.2 ⟨rise_iff.2 ⟨srt_leaf hs hl,fun k hk'=>⟨?_,(hk k hk').2⟩⟩,.inl ⟨rfl,hl,rfl,hv⟩⟩
 have:=(hk k hk').1
 cases k with
 | nil=>simp at this
 | cons _ _=>rfl
theorem join_may:∀ {h:Nat} {a b:Tr h} {k:Tx},Okt h a->Okt h b->Srt (sq h a++It.S k::sq h b)->1<=k.length/\k.length<=32->mayN (joinN (nd h a) k (nd h b))=true
 | 0,a,b,k,ha,hb,hs,hk=>by
  have h1:=(sq_mrg (k:=k) ha hb).to hs
  obtain ⟨p,ks,vs,rfl⟩:=lf_eta a
  obtain ⟨p',ks',vs',rfl⟩:=lf_eta b
  have la:=ha.vs
  have lb:=hb.vs
  refine may_leaf (ks:=ks++ks') (vs:=vs++vs') h1 (by simp [la,lb]) (fun x hx=>?_) (fun x hx=>?_)
  ·rcases List.mem_append.1 hx with hx | hx
   ·exact may_keys (fits_may ha.fits) x hx
   ·exact may_keys (fits_may hb.fits) x hx
  ·rcases List.mem_append.1 hx with hx | hx
   ·exact (may_vs (fits_may ha.fits) rfl).2.2 x hx
   ·exact (may_vs (fits_may hb.fits) rfl).2.2 x hx
 | h+1,a,b,k,ha,hb,hs,hk=>by
  have h1:=(sq_mrg (k:=k) ha hb).to hs
  obtain ⟨p,ks,ts,rfl⟩:=inn_eta a
  obtain ⟨p',ks',ts',rfl⟩:=inn_eta b
  have la:=ha.len
  have lb:=hb.len
  have h2:=may_inn (p:=p) (ks:=ks++k::ks') (ts:=ts++ts') h1 (by simp [la,lb]; omega) (fun x hx=>?_) (fun x hx=>?_)
  ·rw [← nd_mrg]; exact h2
  ·simp only [List.mem_append,List.mem_cons] at hx
   rcases hx with hx | rfl | hx
   ·exact may_keys (fits_may ha.fits) x hx
   ·exact hk
   ·exact may_keys (fits_may hb.fits) x hx
  ·have hz:∀ {q:Nat} {ks:List Tx} {ts:List (Tr h)},Okt (h+1) (inn q ks ts)->∀ x∈ts,no h x<=32768:=fun {q ks ts} hk x hx=>by
    have:=(may_kids (fits_may hk.fits) rfl).2.2 ((no h x:Nat):Int) (by
     show _∈nos ts
     exact List.mem_map.2 ⟨x,hx,rfl⟩)
    omega
   rcases List.mem_append.1 hx with hx | hx
   ·exact hz ha x hx
   ·exact hz hb x hx
theorem nj_wide:∀ {h:Nat} {a b:Tr h} {k:Tx},Okt h a->Okt h b->Srt (sq h a++It.S k::sq h b)->1<=k.length/\k.length<=32->fitsN (joinN (nd h a) k (nd h b))=false->(if h=0 then 3 else 8)<=wd a+wd b
 | 0,a,b,k,ha,hb,hs,hk,hf=>by
  have hm:=join_may ha hb hs hk
  obtain ⟨p,ks,vs,rfl⟩:=lf_eta a
  obtain ⟨p',ks',vs',rfl⟩:=lf_eta b
  by_cases hle:(ks++ks').length<=2
  ·have:=room_fits hm (.inl ⟨rfl,hle⟩)
   rw [this] at hf; cases hf
  ·show 3<=ks.length+ks'.length
   simp at hle; omega
 | h+1,a,b,k,ha,hb,hs,hk,hf=>by
  have hm:=join_may ha hb hs hk
  obtain ⟨p,ks,ts,rfl⟩:=inn_eta a
  obtain ⟨p',ks',ts',rfl⟩:=inn_eta b
  have la:=ha.len
  have lb:=hb.len
  have hks:(joinN (nd (h+1) (inn p ks ts)) k (nd (h+1) (inn p' ks' ts'))).ks=(ks++[k])++ks':=rfl
  by_cases hle:((ks++[k])++ks').length<=6
  ·have:=room_fits hm (.inr ⟨rfl,by rw [hks]; exact hle⟩)
   rw [this] at hf; cases hf
  ·show 8<=ts.length+ts'.length
   simp at hle; omega
theorem tdy_nbs {h p:Nat} {ks:List Tx} {ts:List (Tr h)} (hok:Okt (h+1) (inn p ks ts)) (ht:Tdy (h+1) (inn p ks ts)) (hs:Srt (sq (h+1) (inn p ks ts))):nbs (if h=0 then 3 else 8) (ts.map wd):=by
 refine nbs_of fun j x y hx hy=>?_
 rw [List.getElem?_map] at hx hy
 have hj:j+1 < ts.length:=by
  by_cases h1:j+1 < ts.length
  ·exact h1
  ·rw [List.getElem?_eq_none (by omega)] at hy; cases hy
 obtain ⟨A,k,B,L,a,b,R,rfl,rfl,hA,hL⟩:=split2 hok.len hj
 subst hL
 have ha:(L++a::b::R)[L.length]?=some a:=by simp
 have hb:(L++a::b::R)[L.length+1]?=some b:=by simp
 rw [ha] at hx
 rw [hb] at hy
 cases hx
 cases hy
 have hf:=(tdy_inn.1 ht).1 (L.length:Nat)
 have hsq:=sq_at (p:=p) (A:=A) (B:=k::B) (L:=L) (R:=b::R) (u:=a) hA
 rw [hsq] at hs
 have h2:Srt (sq h a++It.S k::sq h b):=by
  refine List.Pairwise.sublist ?_ hs
  refine (List.Sublist.append_left ?_ (sq h a)).trans (List.sublist_append_right ..)
  show (It.S k::sq h b).Sublist (It.S k::(sq h b++postI B (R.map (sq h))))
  exact (List.sublist_append_left ..).cons_cons _
 exact nj_wide (hok.kid a (by simp)) (hok.kid b (by simp)) h2 (may_keys (fits_may hok.fits) k (by simp)) (hf.get hA rfl)
theorem wd_pos:∀ {h:Nat} {t:Tr h},Okt h t->1<=wd t
 | 0,t,hk=>by
  obtain ⟨p,ks,vs,rfl⟩:=lf_eta t
  have:=(ok_lf.1 hk).2
  exact List.length_pos_iff.2 this
 | h+1,t,hk=>by
  obtain ⟨p,ks,ts,rfl⟩:=inn_eta t
  have:=hk.len
  show 1<=ts.length
  omega
theorem sums_le {α:Type} {f g e:α->Nat} {a b:Nat}:∀ {l:List α},(∀ x∈l,g x+a * (e x - 1)+2<=3 * f x+b)->(l.map g).sum+a * (l.map fun x=>e x - 1).sum+2 * l.length<=3 * (l.map f).sum+b * l.length
 | [],_=>by simp
 | x::l,h=>by
  have h1:=sums_le (l:=l) fun y hy=>h y (List.mem_cons_of_mem _ hy)
  have h2:=h x (List.mem_cons_self ..)
  simp only [List.map_cons,List.sum_cons,List.length_cons,Nat.mul_add,Nat.mul_succ] at h1 ⊢
  omega
theorem minus_one {α:Type} {e:α->Nat}:∀ {l:List α},(∀ x∈l,1<=e x)->(l.map fun x=>e x - 1).sum+l.length=(l.map e).sum
 | [],_=>rfl
 | x::l,h=>by
  have h1:=minus_one (l:=l) fun y hy=>h y (List.mem_cons_of_mem _ hy)
  have h2:=h x (List.mem_cons_self ..)
  simp only [List.map_cons,List.sum_cons,List.length_cons]
  omega
theorem sum_ones {α:Type}:∀ l:List α,(l.map fun _=>1).sum=l.length
 | []=>rfl
 | _::l=>by rw [List.map_cons,List.sum_cons,sum_ones l,List.length_cons]; omega
theorem few_inn:∀ {h:Nat} {t:Tr (h+1)},Okt (h+1) t->Tdy (h+1) t->Srt (sq (h+1) t)->(pgs (h+1) t).length+(h+3) * (wd t - 1)+2<=3 * prs t+(h+1)
 | 0,t,hok,ht,hs=>by
  obtain ⟨p,ks,ts,rfl⟩:=inn_eta t
  have hl:=hok.len
  have hn:=tdy_nbs hok ht hs
  have hsum:=sum_3 (l:=ts.map wd) (fun x hx=>by
   obtain ⟨u,hu,rfl⟩:=List.mem_map.1 hx
   exact wd_pos (hok.kid u hu)) hn
  have h1:ts.map prs=ts.map wd:=List.map_congr_left fun u hu=>by
   have:=hok.kid u hu
   obtain ⟨q,ks',vs',rfl⟩:=lf_eta u
   exact prs_lf this.vs
  have h2:(ts.map fun t=>(pgs 0 t).length).sum=ts.length:=by
   have:ts.map (fun t=>(pgs 0 t).length)=ts.map fun _=>1:=rfl
   rw [this]; exact sum_ones ts
  rw [prs_inn hl,h1,pgs_sum,h2]
  show _+3 * (ts.length - 1)+2<=_
  rw [List.length_map] at hsum
  omega
 | h+1,t,hok,ht,hs=>by
  obtain ⟨p,ks,ts,rfl⟩:=inn_eta t
  have hl:=hok.len
  have hn:=tdy_nbs hok ht hs
  have hp:∀ x∈ts,1<=wd x:=fun x hx=>wd_pos (hok.kid x hx)
  have hsum:=sum_8 (l:=ts.map wd) (fun x hx=>by
   obtain ⟨u,hu,rfl⟩:=List.mem_map.1 hx
   exact hp u hu) hn
  have hm:=minus_one hp
  have hsr:∀ x∈ts,Srt (sq (h+1) x):=fun x hx=>by
   obtain ⟨j,hj,rfl⟩:=List.getElem_of_mem hx
   obtain ⟨A,B,L,a,R,rfl,rfl,hA,hL⟩:=split1 hl hj
   subst hL
   have e:(L++a::R)[L.length]=a:=by simp
   rw [e]
   rw [sq_at hA] at hs
   exact List.Pairwise.sublist ((List.sublist_append_left ..).trans (List.sublist_append_right ..)) hs
  have hall:=sums_le (f:=prs) (g:=fun t=>(pgs (h+1) t).length) (e:=wd) (a:=h+3) (b:=h+1) (l:=ts) fun x hx=>few_inn (hok.kid x hx) ((tdy_inn.1 ht).2 x hx) (hsr x hx)
  rw [prs_inn hl,pgs_sum]
  rw [List.length_map] at hsum
  have hx:ts.length=(ts.length - 1)+1:=by omega
  generalize hd:(ts.map fun x=>wd x - 1).sum=d at hall hm
  generalize (ts.map fun t=>(pgs (h+1) t).length).sum=gs at hall ⊢
  generalize (ts.map prs).sum=q at hall ⊢
  show gs+1+(h+1+3) * (ts.length - 1)+2<=3 * q+(h+1+1)
  generalize ts.length - 1=x at hx ⊢
  rw [hx] at hall hm hsum
  have h3:(h+3) * (3 * x)<=(h+3) * d:=Nat.mul_le_mul_left _ (by omega)
  have e1:(h+3) * (3 * x)=3 * (h * x)+9 * x:=by rw [Nat.add_mul,Nat.mul_left_comm]; omega
  have e2:(h+1) * (x+1)=h * x+x+h+1:=by rw [Nat.add_mul,Nat.mul_add]; omega
  have e3:(h+1+3) * x=h * x+4 * x:=by rw [Nat.add_assoc,Nat.add_mul]
  rw [e2] at hall
  rw [e3]
  rw [e1] at h3
  omega
theorem grow_inn:∀ {h:Nat} {t:Tr (h+1)},Okt (h+1) t->Tdy (h+1) t->Srt (sq (h+1) t)->3 ^ h * (wd t - 1)+1<=(pgs (h+1) t).length
 | 0,t,hok,ht,hs=>by
  obtain ⟨p,ks,ts,rfl⟩:=inn_eta t
  have h2:(ts.map fun t=>(pgs 0 t).length).sum=ts.length:=by
   have:ts.map (fun t=>(pgs 0 t).length)=ts.map fun _=>1:=rfl
   rw [this]; exact sum_ones ts
  rw [pgs_sum,h2]
  show 3 ^ 0 * (ts.length - 1)+1<=_
  simp
 | h+1,t,hok,ht,hs=>by
  obtain ⟨p,ks,ts,rfl⟩:=inn_eta t
  have hl:=hok.len
  have hn:=tdy_nbs hok ht hs
  have hp:∀ x∈ts,1<=wd x:=fun x hx=>wd_pos (hok.kid x hx)
  have hsum:=sum_8 (l:=ts.map wd) (fun x hx=>by
   obtain ⟨u,hu,rfl⟩:=List.mem_map.1 hx
   exact hp u hu) hn
  have hm:=minus_one hp
  have hsr:∀ x∈ts,Srt (sq (h+1) x):=fun x hx=>by
   obtain ⟨j,hj,rfl⟩:=List.getElem_of_mem hx
   obtain ⟨A,B,L,a,R,rfl,rfl,hA,hL⟩:=split1 hl hj
   subst hL
   have e:(L++a::R)[L.length]=a:=by simp
   rw [e]
   rw [sq_at hA] at hs
   exact List.Pairwise.sublist ((List.sublist_append_left ..).trans (List.sublist_append_right ..)) hs
  have hall:∀ (l:List (Tr (h+1))),(∀ x∈l,x∈ts)->3 ^ h * (l.map fun x=>wd x - 1).sum<=(l.map fun t=>(pgs (h+1) t).length).sum:=fun l=>by
   induction l with
   | nil=>intro _; simp
   | cons x l ih =>
    intro hx
    have h1:=ih fun y hy=>hx y (List.mem_cons_of_mem _ hy)
    have hxm:=hx x (List.mem_cons_self ..)
    have h2:=grow_inn (hok.kid x hxm) ((tdy_inn.1 ht).2 x hxm) (hsr x hxm)
    simp only [List.map_cons,List.sum_cons,Nat.mul_add]
    omega
  have h1:=hall ts fun _ hx=>hx
  rw [pgs_sum]
  rw [List.length_map] at hsum
  show 3 ^ (h+1) * (ts.length - 1)+1<=_
  have h3:3 ^ h * (3 * (ts.length - 1))<=3 ^ h * (ts.map fun x=>wd x - 1).sum:=Nat.mul_le_mul_left _ (by omega)
  rw [Nat.pow_succ,Nat.mul_assoc]
  omega
theorem few {H:Nat} {t:Tr H} (hok:Okt H t) (ht:Tdy H t) (hs:Srt (sq H t)) (h1:(nd H t).kids.length≠1):(pgs H t).length<=3 * prs t:=by
 cases H with
 | zero =>
  obtain ⟨p,ks,vs,rfl⟩:=lf_eta t
  have hp:=wd_pos hok
  rw [prs_lf hok.vs]
  have:1<=ks.length:=hp
  simp; omega
 | succ h =>
  have hp:=wd_pos hok
  have h2:=few_inn hok ht hs
  obtain ⟨p,ks,ts,rfl⟩:=inn_eta t
  have hw:wd (inn p ks ts)=ts.length:=rfl
  simp [nos] at h1
  have h3:(h+3) * 1<=(h+3) * (wd (inn p ks ts) - 1):=Nat.mul_le_mul_left _ (by omega)
  omega
theorem low {H:Nat} {t:Tr H} (hok:Okt H t) (ht:Tdy H t) (hs:Srt (sq H t)) (h1:(nd H t).kids.length≠1) (hN:(pgs H t).length<=32768):H<=10:=by
 cases H with
 | zero=>omega
 | succ h =>
  have hp:=wd_pos hok
  have h2:=grow_inn hok ht hs
  obtain ⟨p,ks,ts,rfl⟩:=inn_eta t
  have hw:wd (inn p ks ts)=ts.length:=rfl
  simp [nos] at h1
  have h3:3 ^ h * 1<=3 ^ h * (wd (inn p ks ts) - 1):=Nat.mul_le_mul_left _ (by omega)
  by_cases hh:h<=9
  ·omega
  ·have h4:3 ^ 10<=3 ^ h:=Nat.pow_le_pow_right (by omega) (by omega)
   have:(3:Nat) ^ 10=59049:=rfl
   omega
end Go.Proofs.YtlmmddfhoabjfaaGreat
end
