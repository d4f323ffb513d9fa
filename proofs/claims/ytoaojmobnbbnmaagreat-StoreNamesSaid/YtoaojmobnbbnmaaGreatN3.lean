/- What the proofs lean on, part 3. -/
import Derived.Test.YtoaojmobnbbnmaaGreatN2
import Derived.WalkKit
import Derived.WalkSpells
import Derived.WalkLawsBesides
import Derived.Maps.AppendAt
import Derived.Deep.AppendLies
import Derived.Deep.Draws
import Derived.Deep.QuietTactic
import Derived.BigQuiet
import Derived.Laws.Rows
import Derived.OwnWalk
import Derived.Lib.Hide
import Derived.ProofKit
import Derived.OpenShut
import Derived.ShutString
import Derived.ChangeOld
import Derived.Deep.Slices
import Derived.Deep.Fields
import Derived.ChangeSame
import Derived.Lib.SmallJoins
import Derived.SizedLaws
import Derived.Test.YtoaojmobnbbnmaaGreatProg
import Derived.KernelRfl
import Derived.Shelf.Sort.Plain
import Derived.Shelf.Slices.In.SortNone
set_option linter.all false
set_option maxRecDepth 20000
set_option maxHeartbeats 1000000
section
open Go.Proofs
namespace Go.Am
theorem Jy:noGo Tryz.prog=true:=by kernel_rfl
theorem yH {α β:Type}{f:α->β}:∀ x,f x=f x:=fun _=>rfl
def Bx(p:Prop):Prop:=p
structure St(n:Nat)(p q:Prop):Prop where
 h:p->q
theorem St.z {p:Prop}:St 0 (Bx p) p:=⟨id⟩
variable{n:Nat}
theorem St.s {p q r:Prop}(a:r->q)(b:St n p r):St (n+1) p q:=⟨fun h=>a (b.h h)⟩
theorem St.q {p q r:Prop}(a:r->q)(b:St n p r):St n p q:=⟨fun h=>a (b.h h)⟩
theorem yX(n:Nat){p q:Prop}(k:p)(h:St n (Bx p) q:=by
 repeat (first
  | exact .z
  | refine .s (xP rfl (fun _=>rfl) rfl) ?_
  | refine .s xN ?_
  | refine .s (xK rfl rfl) ?_
  | refine .q xQ ?_
  | refine .s (xG rfl) ?_
  | refine .s (fun k=>⟨_,rfl,k⟩) ?_
  | refine .s (fun k=>xC rfl (fun h=>(Bool.false_ne_true h).elim) (fun _=>k)) ?_
  | refine .s (fun k=>xC rfl (fun _=>k) (fun h=>(Bool.false_ne_true h.symm).elim)) ?_
  | refine .s (xR rfl (aA 0 rfl rfl rfl rfl rfl) rfl) ?_
  | refine .s (xR rfl (aA 1 rfl rfl rfl rfl rfl) rfl) ?_
  | refine .s (xR rfl (aA 2 rfl rfl rfl rfl rfl) rfl) ?_
  | refine .s (xR rfl (aA 3 rfl rfl rfl rfl rfl) rfl) ?_
  | refine .s (xR rfl (aA 4 rfl rfl rfl rfl rfl) rfl) ?_
  | refine .s (xR rfl (aA 5 rfl rfl rfl rfl rfl) rfl) ?_
  | refine .s (xR rfl (aA 6 rfl rfl rfl rfl rfl) rfl) ?_
  | refine .s (xR rfl (aA 7 rfl rfl rfl rfl rfl) rfl) ?_
  | refine .s (OS.write rfl (ax 0 rfl rfl rfl rfl rfl rfl rfl rfl) rfl) ?_
  | refine .s (OS.write rfl (ax 1 rfl rfl rfl rfl rfl rfl rfl rfl) rfl) ?_
  | refine .s (OS.write rfl (ax 2 rfl rfl rfl rfl rfl rfl rfl rfl) rfl) ?_
  | refine .s (OS.write rfl (ax 3 rfl rfl rfl rfl rfl rfl rfl rfl) rfl) ?_
  | refine .s (xD rfl rfl (fun _=>rfl) rfl) ?_
  | refine .s (xS rfl rfl rfl) ?_
  | refine .s xM ?_
  | refine .s LS.skip ?_
  | refine .s LS.block ?_
  | refine .s (fun k=>xT ⟨_,fun _ _=>rfl,k⟩) ?_
  | refine .s (xE rfl rfl (aA 0 rfl rfl rfl rfl rfl) rfl) ?_
  | refine .s (xE rfl rfl (aA 1 rfl rfl rfl rfl rfl) rfl) ?_
  | refine .s (xE rfl rfl (aA 2 rfl rfl rfl rfl rfl) rfl) ?_
  | refine .s (xE rfl rfl (aA 3 rfl rfl rfl rfl rfl) rfl) ?_
  | refine .s (xE rfl rfl (aA 4 rfl rfl rfl rfl rfl) rfl) ?_
  | refine .s (xE rfl rfl (aA 5 rfl rfl rfl rfl rfl) rfl) ?_)):q:=h.h k
theorem yV(n:Nat){p q:Prop}(k:p)(h:St n (Bx p) q:=by
 repeat (first
  | refine .q xQ ?_
  | exact .z
  | refine .s (xP rfl (fun _=>rfl) rfl) ?_
  | refine .s xN ?_
  | refine .s (xK rfl rfl) ?_
  | refine .s (xG rfl) ?_
  | refine .s (fun k=>⟨_,rfl,k⟩) ?_
  | refine .s (fun k=>xC rfl (fun h=>(Bool.false_ne_true h).elim) (fun _=>k)) ?_
  | refine .s (fun k=>xC rfl (fun _=>k) (fun h=>(Bool.false_ne_true h.symm).elim)) ?_
  | refine .s (xR rfl (aA 0 rfl rfl rfl rfl rfl) rfl) ?_
  | refine .s (xR rfl (aA 1 rfl rfl rfl rfl rfl) rfl) ?_
  | refine .s (xR rfl (aA 2 rfl rfl rfl rfl rfl) rfl) ?_
  | refine .s (xR rfl (aA 3 rfl rfl rfl rfl rfl) rfl) ?_
  | refine .s (xR rfl (aA 4 rfl rfl rfl rfl rfl) rfl) ?_
  | refine .s (xR rfl (aA 5 rfl rfl rfl rfl rfl) rfl) ?_
  | refine .s (xR rfl (aA 6 rfl rfl rfl rfl rfl) rfl) ?_
  | refine .s (xR rfl (aA 7 rfl rfl rfl rfl rfl) rfl) ?_
  | refine .s (OS.write rfl (ax 0 rfl rfl rfl rfl rfl rfl rfl rfl) rfl) ?_
  | refine .s (OS.write rfl (ax 1 rfl rfl rfl rfl rfl rfl rfl rfl) rfl) ?_
  | refine .s (OS.write rfl (ax 2 rfl rfl rfl rfl rfl rfl rfl rfl) rfl) ?_
  | refine .s (OS.write rfl (ax 3 rfl rfl rfl rfl rfl rfl rfl rfl) rfl) ?_
  | refine .s (xD rfl rfl (fun _=>rfl) rfl) ?_
  | refine .s (xS rfl rfl rfl) ?_
  | refine .s xM ?_
  | refine .s LS.skip ?_
  | refine .s LS.block ?_
  | refine .s (fun k=>xT ⟨_,fun _ _=>rfl,k⟩) ?_
  | refine .s (xE rfl rfl (aA 0 rfl rfl rfl rfl rfl) rfl) ?_
  | refine .s (xE rfl rfl (aA 1 rfl rfl rfl rfl rfl) rfl) ?_
  | refine .s (xE rfl rfl (aA 2 rfl rfl rfl rfl rfl) rfl) ?_
  | refine .s (xE rfl rfl (aA 3 rfl rfl rfl rfl rfl) rfl) ?_
  | refine .s (xE rfl rfl (aA 4 rfl rfl rfl rfl rfl) rfl) ?_
  | refine .s (xE rfl rfl (aA 5 rfl rfl rfl rfl rfl) rfl) ?_)):q:=h.h k
section
variable{P:Program}{ops rest:List Oper}{o:Oper}{a a₁:ah}{L L₁:RL}{v:Value}{K:ah->RL->Prop}{ms:List Nat}{i:Nat}{sched:List (Nat×Bool)}{dn:List (Nat×ah×Value)}
theorem yP(e:∀ h,aI P a o h=some (.val v h))(k:OS P ops rest a₁ L K)(hw:aw ops o a=true:=by rfl)(ep:aH a o.dst v=some a₁:=by rfl):OS P ops (o::rest) a L K:=xP hw e ep k
theorem yI {b b':Bool}(hb:b=b')(k:OS P ops rest a₁ L K)(e:∀ h,aI P a o h=some (.val (.bool b) h):=by intro _;rfl)(hw:aw ops o a=true:=by rfl)(ep:aH a o.dst (.bool b')=some a₁:=by rfl):OS P ops (o::rest) a L K:=xP hw (hb▸e) ep k
theorem yR(e:∀ h,bp h L->aI P a o h=some (.val v h))(k:OS P ops rest a₁ L K)(hw:aw ops o a=true:=by rfl)(ep:aH a o.dst v=some a₁:=by rfl):OS P ops (o::rest) a L K:=xR hw e ep k
theorem yL {t:TypeId}{x:Operand}{r off:Nat}{row:aG}{cs:List Value}(hm:(r,row)∈L)(k:OS P ops rest a₁ L K)(hc:dV row=some cs:=by rfl)(ho:o.op=.load t x:=by rfl)(hx:aX a x=some (.pointer (some ⟨r,off,none⟩)):=by rfl)(ht:py P t=some false:=by rfl)(hv:cs[off]?=some v:=by rfl)(hw:aw ops o a=true:=by rfl)(ep:aH a o.dst v=some a₁:=by rfl):OS P ops (o::rest) a L K:=xR hw (aa hm hc ho hx (ap ht hv)) ep k
theorem yW(e:∀ h,bp h L->∃ h₁,aI P a o h=some (.val v h₁)/\bp h₁ L₁)(k:OS P ops rest a₁ L₁ K)(hw:aw ops o a=true:=by rfl)(ep:aH a o.dst v=some a₁:=by rfl):OS P ops (o::rest) a L K:=OS.write hw e ep k
theorem yM {V:Nat->Value}{A:Nat->ah}{M:Nat->RL}(e:∀ h,bp h L->∃ r h₁,aI P a o h=some (.val (V r) h₁)/\bp h₁ (M r))(k:∀ r,OS P ops rest (A r) (M r) K)(hw:aw ops o a=true:=by rfl)(ep:∀ r,aH a o.dst (V r)=some (A r):=by intro _;rfl):OS P ops (o::rest) a L K:=OS.fresh hw e ep k
variable{el:TypeId}{cs:List Value}
theorem yN {mk:Nat->Value}{A:Nat->ah}(k:∀ r,OS P ops rest (A r) ((r,.cells el cs)::L) K)(e:∀ h,aI P a o h=fG (cf P h el cs) mk:=by intro _;rfl)(hs:(aB P el).isSome=true:=by rfl)(hw:aw ops o a=true:=by rfl)(ep:∀ r,aH a o.dst (mk r)=some (A r):=by intro _;rfl):OS P ops (o::rest) a L K:=OS.fresh hw (dG e hs) ep k
variable{f:FuncId}{args:List Value}{R:Value->RL->Prop}
theorem yA (e:∀ h,aI Tryz.prog a o h=some (.call f args))(c:CS Tryz.prog f args L R)(k:∀ v L₁,R v L₁->∃ a₁,aH a o.dst v=some a₁/\OS Tryz.prog ops rest a₁ L₁ K)(hw:aw ops o a=true:=by rfl):OS Tryz.prog ops (o::rest) a L K:=xA Jy hw e (c.mono k)
theorem yF(fn:Func){f:FuncId}{args:List Value}{c:Code}{rs:List ResultVar}{R:Value->RL->Prop}(hl:LS P c a L (Js P rs R))(hf:P.funcs[f]?=some fn:=by rfl)(hb:fn.body=some c:=by rfl)(hrs:fn.results.toList=rs:=by rfl)(ha:join args (qL (fn.ntmps-args.length))=some a:=by rfl):CS P f args L R:=CS.mk hf hb hrs ha hl
theorem yQ(hi:ops[i]?=some o)(e:∀ h,aI P a o h=some (.val v h))(k:ba P ops ms K sched dn a₁ L)(hw:aw ops o a=true:=by rfl)(ep:aH a o.dst v=some a₁:=by rfl):ba P ops ms K ((i,false)::sched) dn a L:=xD hi hw e ep k
theorem yO (hi:ops[i]?=some o)(e:∀ h,aI P a o h=some (.call f args))(c:CS P f args L R)(k:∀ v L₁,R v L₁->∃ a₁,aH a o.dst v=some a₁/\ai P ops ms i dn L₁/\ba P ops ms K sched dn a₁ L₁)(hw:aw ops o a=true:=by rfl):ba P ops ms K ((i,true)::sched) dn a L:=ba.call hi hw e (c.mono k)
end
end Go.Am
end
namespace Go.Am
abbrev yC:Value:=.chan none
variable{P:Program}{a:ah}{o:Oper}
theorem lB {b b':Bool}(e:∀ h,aI P a o h=some (.val (.bool b) h))(hb:b=b'):∀ h,aI P a o h=some (.val (.bool b') h):=hb ▸ e
end Go.Am
theorem Go.Proofs.YtoaojmobnbbnmaaGreat.T.tt:True:=trivial
section
namespace Go.Proofs.YtoaojmobnbbnmaaGreat
open Go.Am
theorem noGo:Am.noGo Tryz.prog=true:=by kernel_rfl
theorem mixed:Tryz.prog.follows .mixedOrders=true:=by kernel_rfl
variable{L:RL}
theorem rL {b:Value}{bs:List UInt8}{n room:Nat}(hb:SV 1 L b n (ab bs))(hn:n<=400000000000)(hr:room<=400000000000) :
  CS Tryz.prog 149 [b,.int .i64 room] L fun v L'=>∃ r,v=.slice (some ⟨r,0,none⟩) n ae/\L'=(r,.cells 5 (ab bs))::L:=by
 have hl:bs.length=n:=by have:=hb.len;simpa[ab] using this
 refine yF Tryz.f149 ?_
 refine yX 5 ?_
 refine yP (az hb rfl rfl rfl rfl rfl) ?_
 refine yX 1 ?_
 refine yP (a8 rfl rfl rfl (ak (by omega) (by omega))) ?_
 refine yM (f6 (l:=0) (c:=n+room) (e:=5) (sz:=1) (bts:=1) (zs:=[.int .u8 0]) rfl rfl rfl rfl (by omega) (by omega) (by omega)) fun r=>?_
 refine OS.opened 9 0 (sz:=1) rfl rfl rfl (by rw[ri];simp) (by unfold ae;omega) rfl ?_
 refine yX 1 ?_
 refine yM (d7 0 (sz:=1) (bts:=1) (old:=[]) hb.cons (bX bs) rfl rfl rfl (by omega) (by omega) rfl zz rfl) fun r2=>?_
 refine yX 3 ?_
 exact⟨r2,by simp[cj],rfl⟩
theorem oG(u:Nat)(hu:u<18446744073709551616){F:RL}{r n:Nat}{bs:List UInt8}(hn:n<=500000000000)(hl:bs.length=n) :
  CS Tryz.prog 151 [.slice (some ⟨r,0,none⟩) n ae,.int .u64 u] ((r,.cells 5 (ab bs))::F) fun v L'=>∃ r,v=.slice (some ⟨r,0,none⟩) (n+(iM u).length) ae/\L'=(r,.cells 5 (ab (bs++iM u)))::F:=by
 have hg:(iM u).length<=10:=ko (by omega) (by omega)
 refine yF Tryz.f151 ?_
 refine yX 4 ?_
 refine LS.loop (fun m a L=>∃ r k n b x1 x2 x3 x4 x5 x6 x7 x8 x9 x10 x11 x12 x13 x14 x15 x16,m=k/\b.length=n/\L=(r,.cells 5 (ab b))::F/\b++iM k=bs++iM u/\k<=u/\a=[.slice (some ⟨r,0,none⟩) n ae,.int .u64 (k:Nat),x1,x2,.slice none 0 0,x3,x4,x5,x6,x7,x8,x9,x10,x11,x12,x13,x14,x15,x16,undef,undef]) (n:=u) ⟨r,u,n,bs,_,_,_,_,_,_,_,_,_,_,_,_,_,_,_,_,rfl,hl,rfl,rfl,Nat.le_refl _,rfl⟩ ?_
 rintro m a L ⟨r,k,n',b,x1,x2,x3,x4,x5,x6,x7,x8,x9,x10,x11,x12,x13,x14,x15,x16,rfl,hbl,rfl,hb,hk,rfl⟩
 have hlen:n'+(iM m).length=n+(iM u).length:=by have:=congrArg List.length hb;simpa[hl,hbl] using this
 refine yV 4 ?_
 refine xC rfl ?_ ?_ <;> intro hc
 ·refine LS.skip ?_
  have hc:=KW hc
  have hm:128<=m:=by omega
  have hc8:(UInt8.ofNat (m%128+128)).toNat=m%128+128:=dD (by omega)
  refine yX 4 ?_
  refine yP (u6 (n:=128) rfl rfl rfl (by decide)) ?_
  refine yP (c8 rfl rfl rfl rfl (sC (by omega) (by omega))) ?_
  refine yP (a8 rfl rfl rfl (sC (by omega) (by omega))) ?_
  refine yN fun r2=>?_
  refine yM (d7 1 (sz:=1) (bts:=1) (SV.row (sz:=1) (n:=1) (List.mem_cons_self ..) rfl) rfl rfl rfl rfl (by omega) (by omega) rfl (eQ (by rw[ao];omega)) rfl) fun r3=>?_
  refine yX 1 ?_
  refine OS.sub (ar.drop 1 rfl) ?_
  refine yX 3 ?_
  refine yP (u7 (n:=128) rfl rfl rfl (by decide) (eT (by omega) (by omega))) ?_
  refine yX 2 ?_
  refine⟨m/128,by omega,r3,m/128,_,b++[UInt8.ofNat (m%128+128)],_,_,_,_,_,_,_,_,_,_,_,_,_,_,_,_,rfl,by simpa using hbl,?_,?_,by omega,rfl⟩
  ·rw[lF];rw[hc8];rfl
  rw[←hb,sJ hm];simp
 have hc:=JS hc
 have hm:m<128:=by omega
 have hc8:(UInt8.ofNat m).toNat=m:=dD (by omega)
 rw[km hm]at hlen hb
 simp at hlen
 refine LS.exit ?_
 refine yX 3 ?_
 refine yP (c8 rfl rfl rfl rfl (sC (by omega) (by omega))) ?_
 refine yN fun r2=>?_
 refine yM (d7 1 (sz:=1) (bts:=1) (SV.row (sz:=1) (n:=1) (List.mem_cons_self ..) rfl) rfl rfl rfl rfl (by omega) (by omega) rfl (eQ (by rw[ao];omega)) rfl) fun r3=>?_
 refine yX 1 ?_
 refine OS.sub (ar.drop 1 rfl) ?_
 refine yX 2 ?_
 exact⟨r3,by simp[cj,hlen],by rw[lF (b:=UInt8.ofNat m) _ (by rw[hc8]),hb]⟩
theorem mR (n:Int):CS Tryz.prog 150 [.int .i64 n] L fun v L'=>v=.bool (decide (0<=n/\n<=2147483647))/\L'=L:=by
 refine yF Tryz.f150 ?_
 refine yX 3 ?_
 by_cases h:0<=n
 ·have hb:av 0 n=true:=au.2 h
  refine yX 2 ?_
  refine yI hb ?_
  refine yX 7 ?_
  refine⟨?_,rfl⟩
  rw[am]
  simp[h,cj]
 have hb:av 0 n=false:=by rw[am];simpa using h
 refine yX 2 ?_
 refine yI hb ?_
 refine yX 7 ?_
 refine⟨?_,rfl⟩
 simp[h,cj]
def cnt(m:Int):List UInt8:=if 0<=m/\m<=2147483647 then iM m.toNat else []
theorem jW {b:Value}{bs:List UInt8}{n:Nat}(m:Int)(hb:SV 1 L b n (ab bs))(hn:n<=400000000000) :
  CS Tryz.prog 101 [b,.int .i64 m] L fun v L'=>∃ r,v=.slice (some ⟨r,0,none⟩) (n+(cnt m).length) ae/\L'=(r,.cells 5 (ab (bs++cnt m)))::L:=by
 have hl:bs.length=n:=by have:=hb.len;simpa[ab] using this
 refine yF Tryz.f101 ?_
 refine yX 3 ?_
 by_cases hm:0<=m/\m<=2147483647
 ·obtain⟨k,rfl⟩:=Int.eq_ofNat_of_zero_le hm.1
  have hc:cnt (k:Int)=iM k:=by unfold cnt;rw[if_pos hm];rfl
  refine yX 2 ?_
  refine yA yH (mR _) ?_
  rintro v L' ⟨rfl,rfl⟩
  rw[decide_eq_true hm]
  refine yX 7 ?_
  refine yA yH (rL (room:=5) hb hn (by omega)) ?_
  rintro v L' ⟨r,rfl,rfl⟩
  refine yX 2 ?_
  refine yP (c8 rfl rfl rfl rfl (eT (by omega) (by omega))) ?_
  refine yA yH (oG k (by omega) (by omega) hl) ?_
  rintro v L' ⟨r,rfl,rfl⟩
  refine yX 4 ?_
  rw[hc]
  exact⟨r,rfl,rfl⟩
 have hc:cnt m=[]:=by unfold cnt;rw[if_neg hm]
 refine yX 2 ?_
 refine yA yH (mR _) ?_
 rintro v L' ⟨rfl,rfl⟩
 rw[decide_eq_false hm]
 refine yV 3 ?_
 refine xC rfl ?_ ?_ <;> intro h
 ·refine yX 2 ?_
  refine yA yH (rL (room:=0) hb hn (by omega)) ?_
  rintro v L' ⟨r,rfl,rfl⟩
  refine yX 4 ?_
  rw[hc]
  exact⟨r,rfl,by simp⟩
 cases h
theorem t8(i:Nat){P:Program}{a:ah}{o:Oper}{L L₁:RL}{c:Call}{e:TypeId}{bts len n r off:Nat}{s:List UInt8}{old cs:List Value}(ho:o.op=.call c)(hT:m7 P c=some (e,1,bts))(ha:ky a c.args.toList=some [.slice (some ⟨r,off,none⟩) len ae,.string ⟨⟨s⟩⟩])
  (hn:n=s.length) (hsm:(len+n)*bts<=1000000000000) (hsm2:len+n<=1000000000000) (hL:L[i]?=some (r,.cells e cs)) (hcut:cut cs off (len*1)=some old) (hd:iB L i=some L₁) :
  ∀ h,bp h L->∃ r' h₁,aI P a o h=some (.val (.slice (some ⟨r',0,none⟩) (len+n) ae) h₁)/\bp h₁ ((r',.cells e (old++ab s))::L₁) :=
 zv i ho hT ha (by rw[hn];rfl) (sO hn) (by rw[bX];rfl) hsm hsm2 hL hcut hd
theorem Kx {b:Value}{bs s:List UInt8}{n:Nat}(hs:s.length<=200000)(hb:SV 1 L b n (ab bs))(hn:n<=300000000000) :
  CS Tryz.prog 157 [b,.string ⟨⟨s⟩⟩] L fun v L'=>∃ r,v=.slice (some ⟨r,0,none⟩) (n+((cnt s.length).length+s.length)) ae/\L'=(r,.cells 5 (ab (bs++(cnt s.length++s))))::L:=by
 have hl:bs.length=n:=by have:=hb.len;simpa[ab] using this
 have hm:0<=(s.length:Int)/\(s.length:Int)<=2147483647:=by omega
 have hc:cnt (s.length:Int)=iM s.length:=by unfold cnt;rw[if_pos hm];rfl
 have hg:(iM s.length).length<=10:=ko (by omega) (by omega)
 refine yF Tryz.f157 ?_
 refine yX 6 ?_
 refine yA yH (mR s.length) ?_
 rintro v L' ⟨rfl,rfl⟩
 rw[decide_eq_true hm]
 refine yX 9 ?_
 refine yP (a8 (m:=5) (n:=s.length) rfl rfl rfl (ak (by omega) (by omega))) ?_
 refine yA yH (rL (room:=5+s.length) hb (by omega) (by omega)) ?_
 rintro v L' ⟨r,rfl,rfl⟩
 refine yX 3 ?_
 refine yP (c8 (n:=s.length) rfl rfl rfl rfl (eT (by omega) (by omega))) ?_
 refine yA yH (oG s.length (by omega) (by omega) hl) ?_
 rintro v L' ⟨r,rfl,rfl⟩
 refine yX 6 ?_
 refine yM (t8 0 (n:=s.length) (bts:=1) rfl rfl rfl rfl (by omega) (by omega) rfl (eQ (by rw[ao];simp;omega)) rfl) fun r2=>?_
 refine yX 3 ?_
 rw[hc]
 exact⟨r2,by rw[Nat.add_assoc];rfl,by rw[←dg,List.append_assoc]⟩
theorem xk {b:Value}{bs:List UInt8}{n:Nat}(v:Bool)(hb:SV 1 L b n (ab bs))(hn:n<=400000000000) :
  CS Tryz.prog 100 [b,.bool v] L fun v' L'=>∃ r,v'=.slice (some ⟨r,0,none⟩) (n+1) ae/\L'=(r,.cells 5 (ab (bs++[if v then 1 else 0])))::L:=by
 have hl:bs.length=n:=by have:=hb.len;simpa[ab] using this
 cases v
 all_goals
  refine yF Tryz.f100 ?_
  refine yX 9 ?_
  refine xC rfl (fun h=>?_) (fun h=>?_) <;> first|(cases h;done)|skip
  first|refine LS.skip ?_|(refine xG rfl ?_;refine xP rfl yH rfl ?_;refine xN ?_)
  refine yX 2 ?_
  refine yA yH (rL (room:=1) hb hn (by omega)) ?_
  rintro v L' ⟨r,rfl,rfl⟩
  refine yX 2 ?_
  refine yN fun r2=>?_
  refine yM (d7 1 (sz:=1) (bts:=1) (SV.row (sz:=1) (n:=1) (List.mem_cons_self ..) rfl) rfl rfl rfl rfl (by omega) (by omega) rfl (eQ (by rw[ao];omega)) rfl) fun r3=>?_
  refine yX 1 ?_
  refine OS.sub (ar.drop 1 rfl) ?_
  refine yX 2 ?_
  exact⟨r3,rfl,by rw[dg];rfl⟩
variable{P:Program}{a:ah}{o:Oper}{t:TypeId}
theorem Cq {z:TypeId}{x y:Operand}{k k':IntKind}{m s:Nat}(ho:o.op=.binOp .shl t x y z)(hx:aX a x=some (.int k (m:Int)))(hy:aX a y=some (.int k' (s:Int)))(hs:s<=k.bits)(hi:qx k ((m*2^s:Nat):Int)=true):∀ h,aI P a o h=some (.val (.int k ((m*2^s:Nat):Int)) h):=by
 intro h
 have h0:av 0 (s:Int)=true:=au.2 (by omega)
 have h1:(m:Int)*((2^(min s k.bits):Nat):Int)=((m*2^s:Nat):Int):=by rw[Nat.min_eq_left hs];simp
 simp only[aI,ho,hx,hy,fN,iH,h0,Int.toNat_natCast,h1,dP hi,ret]
theorem Kb {z:TypeId}{x y:Operand}{m n:Nat}(ho:o.op=.binOp .or t x y z)(hx:aX a x=some (.int .u64 (m:Int)))(hy:aX a y=some (.int .u64 (n:Int)))(hm:m<18446744073709551616)(hn:n<18446744073709551616):∀ h,aI P a o h=some (.val (.int .u64 ((m ||| n:Nat):Int)) h):=by
 intro h
 have hb:∀ m:Nat,m<18446744073709551616->eK .u64 (m:Int)=m:=fun m hm=>by
  unfold eK
  have:(av 0 (m:Int)&&av (m:Int) (gN .u64))=true:=by
   rw[Bool.and_eq_true,au,au];exact⟨by omega,by simp[gN];omega⟩
  rw[this];simp
 have hor:m ||| n<18446744073709551616:=Nat.or_lt_two_pow (n:=64) hm hn
 have hi:qx .u64 ((m ||| n:Nat):Int)=true:=eT (by omega) (by omega)
 simp only[aI,ho,hx,hy,fN,iH,if_true,hb m hm,hb n hn,dP hi,ret]
variable{i:Nat}
theorem GL {c:Nat}(hi:i<=9)(h9:i=9->c<=1):c%128*128^i<=9223372036854775808:=by
 by_cases h:i=9
 ·subst h
  have:=h9 rfl
  have h1:c%128<=1:=by omega
  have e:(128:Nat)^9=9223372036854775808:=Dj
  rw[e]
  calc c%128*9223372036854775808<=1*9223372036854775808:=Nat.mul_le_mul_right _ h1
   _=_:=by omega
 have h8:128^i<=128^8:=Nat.pow_le_pow_right (by omega) (by omega)
 have e:(128:Nat)^8=72057594037927936:=by decide
 rw[e]at h8
 have:c%128*128^i<=127*72057594037927936:=Nat.mul_le_mul (by omega) h8
 omega
variable{u d:Nat}
theorem Fp (h:u<128^i):(u ||| d*2^(7*i))=u+d*128^i:=by
 have e:(2:Nat)^(7*i)=128^i:=by rw[Nat.pow_mul]
 rw[←e]at h ⊢
 rw[Nat.or_comm,Nat.mul_comm,←Nat.two_pow_add_eq_or_of_lt h]
 omega
def OV(L:RL)(v:Value)(bs:List UInt8):Prop:=(v=.slice none 0 0/\bs=[])∨∃ r off C,v=.slice (some ⟨r,off,none⟩) bs.length ae/\(r,.cells 5 C)∈L/\cut C off bs.length=some (ab bs)
variable{v:Value}{bs:List UInt8}
theorem OV.sv (h:OV L v bs):SV 1 L v bs.length (ab bs):=by
 rcases h with ⟨rfl,rfl⟩|⟨r,off,C,rfl,hm,hc⟩
 ·exact .inl ⟨rfl,rfl,rfl⟩
 exact .inr ⟨r,off,ae,_,C,rfl,hm,rfl,by rw[Nat.mul_one];exact hc⟩
variable{L':RL}
theorem OV.mono (h:OV L v bs)(hm:∀ p,p∈L->p∈L'):OV L' v bs:=by
 rcases h with h|⟨r,off,C,h1,h2,h3⟩
 ·exact .inl h
 exact .inr ⟨r,off,C,h1,hm _ h2,h3⟩
theorem OV.cons {x:Nat×aG}{v:Value}{bs:List UInt8}(h:OV L v bs):OV (x::L) v bs:=h.mono fun _ hp=>List.mem_cons_of_mem _ hp
variable{ops rest:List Oper}{K:ah->RL->Prop}
theorem OS.cutB {x:Operand}{lo hi:Option Operand}{lo' hi':Option Value}{v:Value}{l u:Nat}{bs:List UInt8}(hs:OV L v bs)(hw:aw ops o a=true)(ho:o.op=.slice t x lo hi none)(hx:aX a x=some v)
  (hlo:aY a lo=some lo') (hhi:aY a hi=some hi') (bl:aU lo' 0=some l) (bu:aU hi' bs.length=some u) (ht:P.underlying t=some (.slice 5)) (hz:aB P 5=some 1) (hu:u<=bs.length) (hl:l<=u)
  (hk:∀ v',OV L v' ((bs.drop l).take (u-l))->∃ a₁,aH a o.dst v'=some a₁/\OS P ops rest a₁ L K):OS P ops (o::rest) a L K:=by
 have hlen:((bs.drop l).take (u-l)).length=u-l:=by simp;omega
 rcases hs with ⟨rfl,rfl⟩|⟨r,off,C,rfl,hm,hc⟩
 ·have hu0:u=0:=by simpa using hu
  subst hu0
  have hl0:l=0:=by omega
  subst hl0
  obtain⟨a₁,ep,k⟩:=hk (.slice none 0 0) (.inl ⟨rfl,by simp⟩)
  refine xP hw (fun h=>?_) ep k
  have hm':aY a none=some none:=rfl
  have hcb:Nat.beq 0 ae=false:=aK (by decide)
  have h1:Nat.ble 0 (dT 0 0)=true:=rfl
  have h2:Nat.ble 0 0=true:=rfl
  have h3:cx h 5 none 0=true:=by unfold cx;rw[hcb];rfl
  have bu':aU hi' 0=some 0:=bu
  simp only[aI,ho,hx,hlo,hhi,hm',cM,ht,bu',bl,hz,h1,h2,h3,Bool.true_and,dZ,hcb,ret]
 have hcut:cut C (off+l*1) (u-l)=some (ab ((bs.drop l).take (u-l))):=by
  rw[Nat.mul_one]
  exact kz hc (by rw[jN (by omega)])
 obtain⟨a₁,ep,k⟩:=hk (.slice (some ⟨r,off+l*1,none⟩) (u-l) ae) (.inr ⟨r,_,C,by rw[hlen],hm,by rw[hlen];exact hcut⟩)
 obtain⟨i,hi⟩:=List.mem_iff_getElem?.1 hm
 exact xR hw (qC i ho hx hlo hhi bl bu ht hz hu hl hi) ep k
theorem Cr {c:Call}{k:IntKind}{x y:Int}(ho:o.op=.call c)(hc:c.callee=.builtin .min)(ha:ky a c.args.toList=some [.int k x,.int k y]):∀ h,aI P a o h=some (.val (.int k (min x y)) h):=by
 intro h
 by_cases hxy:x<=y
 ·have:av x y=true:=au.2 hxy
  simp only[aI,ho,ha,bB,hc,iO,if_true,this,ret]
  rw[show min x y=x by omega]
 have:av x y=false:=by rw[am];simpa using hxy
 simp only[aI,ho,ha,bB,hc,iO,if_true,this,ret]
 rw[show min x y=y by omega]
theorem za {b:Value}{bs:List UInt8}{n:Nat}(hb:SV 1 L b n (ab bs))(hn:n<=9223372036854775807) :
  CS Tryz.prog 202 [b] L fun v L'=>v=.tuple #[.int .u64 ((t7 bs).1:Nat),.int .i64 ((t7 bs).2:Nat)]/\L'=L:=by
 have hl:bs.length=n:=by have:=hb.len;simpa[ab] using this
 refine yF Tryz.f202 ?_
 refine yX 9 ?_
 refine yP (az hb rfl rfl rfl rfl rfl) ?_
 refine yX 3 ?_
 refine LS.loopJ [4,7,8,9] (fun q a L'=>∃ j u,q=n-j/\j<=n/\j<=9/\u<128^j/\Hm j u (bs.drop j)=t7 bs/\L'=L/\a=[yC,yC,yC,yC,.int .u64 (u:Nat),yC,yC,b,.int .i64 (n:Nat),.int .i64 (j:Nat),yC,yC,yC,yC,yC,yC,yC,yC,yC,yC,yC,yC,yC,yC,yC,yC,yC,yC,yC,yC,yC,yC,yC,yC,yC,yC,yC,yC,yC,yC]) (n:=n) rfl ⟨0,0,rfl,by omega,by omega,by simp,rfl,rfl,rfl⟩ ?_
 rintro q a L' ⟨j,u,rfl,hj,hj9,hu,hg,rfl,rfl⟩
 have hu9:u<9223372036854775808:=by
  have:128^j<=128^9:=Nat.pow_le_pow_right (by omega) hj9
  rw[Dj]at this;omega
 refine yV 3 ?_
 refine xC rfl ?_ ?_ <;> intro hc
 ·have hc:=cg hc
  have hjn:j<bs.length:=by omega
  have hcb:bs[j].toNat<256:=bs[j].toNat_lt
  have hd:bs.drop j=bs[j]::bs.drop (j+1):=List.drop_eq_getElem_cons hjn
  rw[hd]at hg
  unfold Hm at hg
  refine yX 4 ?_
  refine OS.at1 (j:=j) hb (mC (List.getElem?_eq_getElem hjn)) rfl rfl rfl rfl rfl rfl (fun r0 o0 row0 cs0 m0 c0 g0=>?_)
  refine yX 1 ?_
  refine yR (aa m0 c0 rfl rfl (ap rfl g0)) ?_
  refine yX 3 ?_
  by_cases h9:j=9/\1<bs[j].toNat
  ·rw[if_pos h9]at hg
   have hb1:bc (j:Int) 9=true:=by rw[aC];simp;omega
   have hb2:(!av (bs[j].toNat:Int) 1)=true:=by rw[am];simp;omega
   refine yX 2 ?_
   refine yI hb1 ?_
   refine yX 2 ?_
   refine yI hb2 ?_
   refine yX 8 ?_
   rw[←hg];exact⟨rfl,rfl⟩
  rw[if_neg h9]at hg
  have hdig:bs[j].toNat%128*128^j<=9223372036854775808:=GL hj9 (fun h=>by omega)
  have he:(2:Nat)^(7*j)=128^j:=by rw[Nat.pow_mul]
  have hdig2:bs[j].toNat%128*2^(7*j)<=9223372036854775808:=by rw[he];exact hdig
  refine xQ ?_
  refine LS.mid [4,5,6,7,8,9] (fun a L2=>L2=L'/\a=[yC,yC,yC,yC,.int .u64 (u:Nat),.int .i64 (j:Nat),.int .u8 (bs[j].toNat:Nat),b,.int .i64 (n:Nat),.int .i64 (j:Nat),yC,yC,yC,yC,yC,yC,yC,yC,yC,yC,yC,yC,yC,yC,yC,yC,yC,yC,yC,yC,yC,yC,yC,yC,yC,yC,yC,yC,yC,yC]) ?_ ?_
  ·by_cases h9':j=9
   ·have hb1:bc (j:Int) 9=true:=by rw[aC];simp;omega
    have hb2:(!av (bs[j].toNat:Int) 1)=false:=by rw[am];simp;omega
    refine yX 2 ?_
    refine yI hb1 ?_
    refine yX 2 ?_
    refine yI hb2 ?_
    refine yX 4 ?_
    exact⟨rfl,rfl⟩
   have hb1:bc (j:Int) 9=false:=by rw[aC];simp;omega
   refine yX 2 ?_
   refine yI hb1 ?_
   refine yX 7 ?_
   exact⟨rfl,rfl⟩
  rintro a L' ⟨rfl,rfl⟩
  have hor:(u ||| bs[j].toNat%128*2^(7*j))=u+bs[j].toNat%128*128^j:=Fp hu
  refine yX 3 ?_
  refine yP (u6 (n:=128) rfl rfl rfl (by decide)) ?_
  refine yP (c8 rfl rfl rfl rfl (eT (by omega) (by omega))) ?_
  refine yX 1 ?_
  refine yP (cW (qa (m:=7) (n:=j) rfl rfl rfl (ak (by omega) (by omega))) (congrArg (Value.int .i64) (show (7:Int)*(j:Int)=((7*j:Nat):Int) by omega))) ?_
  refine yP (Cq (s:=7*j) rfl rfl rfl (by simp[IntKind.bits];omega) (eT (by omega) (by omega))) ?_
  refine yP (cW (Kb rfl rfl rfl (by omega) (by omega)) (congrArg (fun x:Nat=>Value.int .u64 (x:Int)) hor)) ?_
  refine yX 2 ?_
  refine xQ ?_
  by_cases h128:128<=bs[j].toNat
  ·rw[if_pos h128]at hg
   have hb1:av 128 (bs[j].toNat:Int)=true:=au.2 (by omega)
   refine yX 2 ?_
   refine yI hb1 ?_
   refine yX 2 ?_
   refine LS.exit ?_
   refine yX 1 ?_
   refine yP (a8 rfl rfl rfl (ak (by omega) (by omega))) ?_
   refine yX 2 ?_
   have hj8:j≠9:=fun h=>h9 ⟨h,by omega⟩
   refine⟨n-(j+1),by omega,j+1,_,rfl,by omega,by omega,?_,hg,rfl,rfl⟩
   have hpow:128^(j+1)=128^j*128:=Nat.pow_succ ..
   have:bs[j].toNat%128*128^j<=127*128^j:=Nat.mul_le_mul_right _ (by omega)
   omega
  rw[if_neg h128]at hg
  have hb1:av 128 (bs[j].toNat:Int)=false:=by rw[am];simp;omega
  refine yX 2 ?_
  refine yI hb1 ?_
  refine yX 3 ?_
  by_cases h0:bs[j].toNat=0/\0<j
  ·rw[if_pos h0]at hg
   have hb2:bc (bs[j].toNat:Int) 0=true:=by rw[aC];simp;omega
   have hb3:(!av (j:Int) 0)=true:=by rw[am];simp;omega
   refine yX 2 ?_
   refine yI hb2 ?_
   refine yX 2 ?_
   refine yI hb3 ?_
   refine yX 8 ?_
   rw[←hg];exact⟨rfl,rfl⟩
  rw[if_neg h0]at hg
  refine xQ ?_
  refine LS.mid [4,5] (fun a L2=>L2=L'/\a=[yC,yC,yC,yC,.int .u64 (u+bs[j].toNat%128*128^j:Nat),.int .i64 (j:Nat),yC,yC,yC,yC,yC,yC,yC,yC,yC,yC,yC,yC,yC,yC,yC,yC,yC,yC,yC,yC,yC,yC,yC,yC,yC,yC,yC,yC,yC,yC,yC,yC,yC,yC]) ?_ ?_
  ·by_cases hz:bs[j].toNat=0
   ·have hb2:bc (bs[j].toNat:Int) 0=true:=by rw[aC];simp;omega
    have hb3:(!av (j:Int) 0)=false:=by rw[am];simp;omega
    refine yX 2 ?_
    refine yI hb2 ?_
    refine yX 2 ?_
    refine yI hb3 ?_
    refine yX 4 ?_
    exact⟨rfl,rfl⟩
   have hb2:bc (bs[j].toNat:Int) 0=false:=by rw[aC];simp;omega
   refine yX 2 ?_
   refine yI hb2 ?_
   refine yX 7 ?_
   exact⟨rfl,rfl⟩
  rintro a L' ⟨rfl,rfl⟩
  refine yX 3 ?_
  refine yP (a8 rfl rfl rfl (ak (by omega) (by omega))) ?_
  refine yX 4 ?_
  rw[←hg];exact⟨rfl,rfl⟩
 have hc:=bz hc
 have hjn:j=n:=by omega
 have hd:bs.drop j=[]:=List.drop_eq_nil_of_le (by omega)
 rw[hd]at hg
 refine LS.exit ?_
 refine yX 5 ?_
 rw[←hg];exact⟨rfl,rfl⟩
theorem tg {b:Value}{bs:List UInt8}(most:Int)(h0:-9223372036854775808<=most)(h1:most<=9223372036854775807)(hb:OV L b bs)(hn:bs.length<=9223372036854775807) :
  CS Tryz.prog 164 [b,.int .i64 most] L fun v L'=>v=.tuple #[.int .i64 ((gI bs most).1:Nat),.int .i64 ((gI bs most).2:Nat)]/\L'=L:=by
 have hg:=J6 bs
 refine yF Tryz.f164 ?_
 refine yX 6 ?_
 refine yA yH (za hb.sv hn) ?_
 rintro v L' ⟨rfl,rfl⟩
 refine yX 7 ?_
 by_cases hm:most<0
 ·have hb1:(!av 0 most)=true:=by rw[am];simp;omega
  refine yX 2 ?_
  refine yI hb1 ?_
  refine yX 14 ?_
  rw[GU (.inl hm)];exact⟨rfl,rfl⟩
 have hb1:(!av 0 most)=false:=by rw[am];simp;omega
 refine yX 2 ?_
 refine yI hb1 ?_
 refine yX 3 ?_
 refine yP (Cr rfl rfl rfl) ?_
 refine yP (c8 rfl rfl rfl rfl (eT (by omega) (by omega))) ?_
 refine yX 3 ?_
 refine xC (b:=!av ((t7 bs).1:Int) (min most 2147483647)) rfl (fun hc=>?_) (fun hc=>?_)
 ·have hc:=cg hc
  refine yX 5 ?_
  rw[GU (by omega)];exact⟨rfl,rfl⟩
 have hc:=bz hc
 refine yX 3 ?_
 refine yP (c8 rfl rfl rfl rfl (ak (by omega) (by omega))) ?_
 refine yX 5 ?_
 rw[w8 (by omega) (by omega) (by omega)];exact⟨rfl,rfl⟩
theorem EL {b:Value}{bs:List UInt8}(most:Int)(h0:-9223372036854775808<=most)(h1:most<=9223372036854775807)(hb:OV L b bs)(hn:bs.length<=9223372036854775807) :
  CS Tryz.prog 173 [b,.int .i64 most] L fun v L'=>v=.tuple #[.string ⟨⟨(ni bs most).1⟩⟩,.int .i64 ((ni bs most).2:Nat)]/\L'=L:=by
 obtain⟨hc1,hc2,hc3⟩:=GW bs most
 have hse:=EU (bs:=bs) (most:=most) (m:=(gI bs most).1) (hd:=(gI bs most).2) rfl
 generalize hmm:(gI bs most).1=m at *
 generalize hhd:(gI bs most).2=hd at *
 refine yF Tryz.f173 ?_
 refine yX 7 ?_
 refine yA yH (tg most h0 h1 hb hn) ?_
 rintro v L' ⟨rfl,rfl⟩
 rw[hmm,hhd]
 refine yX 7 ?_
 by_cases hz:hd=0
 ·have hb1:bc (hd:Int) 0=true:=by rw[aC];simp;omega
  refine yX 2 ?_
  refine yI hb1 ?_
  refine yX 15 ?_
  rw[hse,if_pos (.inl hz)];exact⟨rfl,rfl⟩
 have hb1:bc (hd:Int) 0=false:=by rw[aC];simp;omega
 refine yX 2 ?_
 refine yI hb1 ?_
 refine yX 3 ?_
 refine yP (az hb.sv rfl rfl rfl rfl rfl) ?_
 refine yX 1 ?_
 refine yP (dQ (m:=(bs.length:Nat)) (n:=(hd:Nat)) rfl rfl rfl (ak (by omega) (by omega))) ?_
 refine yX 3 ?_
 refine xC (b:=!av (m:Int) ((bs.length:Int)-hd)) rfl (fun hc=>?_) (fun hc=>?_)
 ·have hc:=cg hc
  refine yX 5 ?_
  rw[hse,if_pos (.inr (by omega))];exact⟨rfl,rfl⟩
 have hc:=bz hc
 refine yX 6 ?_
 refine yP (cW (a8 (m:=(hd:Nat)) (n:=(m:Nat)) rfl rfl rfl (ak (by omega) (by omega))) (congrArg (Value.int .i64) (show (hd:Int)+(m:Int)=((hd+m:Nat):Int) by omega))) ?_
 refine OS.cutB (l:=hd) (u:=hd+m) hb rfl rfl rfl rfl rfl aR aR rfl rfl (by omega) (by omega) (fun v' hv'=>?_)
 refine yX 1 ?_
 refine yR (jK hv'.sv rfl rfl rfl rfl rfl) ?_
 refine yX 2 ?_
 refine yP (cW (a8 (m:=(hd:Nat)) (n:=(m:Nat)) rfl rfl rfl (ak (by omega) (by omega))) (congrArg (Value.int .i64) (show (hd:Int)+(m:Int)=((hd+m:Nat):Int) by omega))) ?_
 refine yX 4 ?_
 rw[hse,if_neg (by omega)]
 exact⟨by rw[show hd+m-hd=m by omega];rfl,rfl⟩
theorem DI {b:Value}{bs:List UInt8}(hb:OV L b bs) :
  CS Tryz.prog 159 [b] L fun v L'=>v=.tuple #[.bool (pC bs).1,.int .i64 ((pC bs).2:Nat)]/\L'=L:=by
 refine yF Tryz.f159 ?_
 refine yX 4 ?_
 cases bs with
 | nil =>
  refine yX 2 ?_
  refine yP (az hb.sv rfl rfl rfl rfl rfl) ?_
  refine yX 14 ?_
  exact⟨rfl,rfl⟩
 | cons c bs =>
  have hb1:bc (((c::bs).length:Nat):Int) 0=false:=by rw[aC];simp;omega
  have hget:(ab (c::bs))[0]?=some (.int .u8 (c.toNat:Int)):=rfl
  refine yX 2 ?_
  refine yP (az hb.sv rfl rfl rfl rfl rfl) ?_
  refine yI hb1 ?_
  refine yX 2 ?_
  refine OS.at1 (j:=0) hb.sv hget rfl rfl rfl rfl rfl rfl (fun r0 o0 row0 cs0 m0 c0 g0=>?_)
  refine yX 1 ?_
  refine yR (aa m0 c0 rfl rfl (ap rfl g0)) ?_
  refine yX 3 ?_
  refine xC (b:=!av (c.toNat:Int) 1) rfl (fun hc=>?_) (fun hc=>?_)
  ·have hc:=cg hc
   refine yX 5 ?_
   refine⟨?_,rfl⟩
   simp only[pC]
   rw[if_pos (by omega)];rfl
  have hc:=bz hc
  refine yX 3 ?_
  refine OS.at1 (j:=0) hb.sv hget rfl rfl rfl rfl rfl rfl (fun r0 o0 row0 cs0 m0 c0 g0=>?_)
  refine yX 1 ?_
  refine yR (aa m0 c0 rfl rfl (ap rfl g0)) ?_
  have he:bc (c.toNat:Int) 1=(c==1):=by
   rw[aC]
   by_cases h:c=1
   ·subst h;rfl
   have:c.toNat≠1:=fun hh=>h (UInt8.toNat_inj.1 hh)
   have h1:((c.toNat:Int)==1)=false:=by simpa using (show ¬ (c.toNat:Int)=1 by omega)
   rw[h1];simp[h]
  refine yI he ?_
  refine yX 4 ?_
  refine⟨?_,rfl⟩
  simp only[pC]
  rw[if_neg (by omega)];rfl
abbrev St:=List UInt8×Bool
def tk{α:Type}(z t:α)(k:Nat)(s:St):α×St:=if s.2=true then (z,s) else if k=0 then (z,([],true)) else (t,(s.1.drop k,false))
theorem vG {α:Type}{z t:α}{bs:List UInt8}:tk z t 0 (bs,false)=(z,([],true)):=rfl
theorem nr {α:Type}{z t:α}{k:Nat}{bs:List UInt8}(h:k≠0):tk z t k (bs,false)=(t,(bs.drop k,false)):=by unfold tk;rw[if_neg (by simp),if_neg h]
abbrev bb(s:List UInt8):Value:=.string ⟨⟨s⟩⟩
theorem IB(bs:List UInt8):(pC bs).2<=bs.length:=by
 cases bs with
 | nil=>simp[pC]
 | cons c bs=>simp only[pC];split <;> simp
theorem HP(bs:List UInt8)(most:Int):(ni bs most).2<=bs.length:=by
 unfold ni
 split
 ·simp
 simp only;omega
abbrev aN(v:Value)(f:Bool):aG:=.cells 216 [v,.bool f]
def I5(M:RL)(r:Nat)(s:St)(L:RL):Prop:=∃ v,L=(r,aN v s.2)::M/\OV M v s.1
variable{M:RL}{r:Nat}
theorem Et {f:Bool}:CS Tryz.prog 161 [.pointer (some ⟨r,0,none⟩)] ((r,aN v f)::M) fun v' L'=>v'=.bool (!f)/\L'=(r,aN v f)::M:=by
 refine yF Tryz.f161 ?_
 refine yX 12 ?_
 exact⟨rfl,rfl⟩
theorem Cb {f:Bool}{bs:List UInt8}(hv:OV M v bs):CS Tryz.prog 160 [.pointer (some ⟨r,0,none⟩)] ((r,aN v f)::M) fun v' L'=>v'=.int .i64 (bs.length:Nat)/\L'=(r,aN v f)::M:=by
 refine yF Tryz.f160 ?_
 refine yX 8 ?_
 refine yP (az hv.sv rfl rfl rfl rfl rfl) ?_
 refine yX 3 ?_
 exact⟨rfl,rfl⟩
theorem tH {f:Bool}:CS Tryz.prog 115 [.pointer (some ⟨r,0,none⟩)] ((r,aN v f)::M) fun v' L'=>v'=.bool (!f)/\L'=(r,aN v f)::M:=by
 refine yF Tryz.f115 ?_
 refine yX 10 ?_
 refine yA yH Et ?_
 rintro v' L' ⟨rfl,rfl⟩
 refine yX 5 ?_
 exact⟨rfl,rfl⟩
theorem CM {f:Bool}{bs:List UInt8}(hv:OV M v bs):CS Tryz.prog 114 [.pointer (some ⟨r,0,none⟩)] ((r,aN v f)::M) fun v' L'=>v'=.int .i64 (bs.length:Nat)/\L'=(r,aN v f)::M:=by
 refine yF Tryz.f114 ?_
 refine yX 13 ?_
 refine yA yH (Cb hv) ?_
 rintro v' L' ⟨rfl,rfl⟩
 refine yX 4 ?_
 exact⟨rfl,rfl⟩
theorem wT {f:Bool}:CS Tryz.prog 200 [.pointer (some ⟨r,0,none⟩)] ((r,aN v f)::M) fun v' L'=>L'=(r,aN (.slice none 0 0) true)::M:=by
 refine yF Tryz.f200 ?_
 refine yX 10 ?_
 exact⟨_,fun _ _=>rfl,rfl⟩
theorem Eg {b:Value}{bs:List UInt8}{rm:Nat}{most:Int}(h0:-9223372036854775808<=most)(h1:most<=9223372036854775807)(hm:(rm,.cells 3 [.int .i64 most])∈L)(hb:OV L b bs)(hn:bs.length<=9223372036854775807) :
  CS Tryz.prog 163 [b,.pointer (some ⟨rm,0,none⟩)] L fun v L'=>v=.tuple #[.int .i64 ((gI bs most).1:Nat),.int .i64 ((gI bs most).2:Nat)]/\L'=L:=by
 refine yF Tryz.f163 ?_
 refine yX 6 ?_
 refine yL hm ?_
 refine yA yH (tg most h0 h1 hb hn) ?_
 rintro v L' ⟨rfl,rfl⟩
 refine yX 7 ?_
 exact⟨rfl,rfl⟩
theorem I3 {b:Value}{bs:List UInt8}{rm:Nat}{most:Int}(h0:-9223372036854775808<=most)(h1:most<=9223372036854775807)(hm:(rm,.cells 3 [.int .i64 most])∈L)(hb:OV L b bs)(hn:bs.length<=9223372036854775807) :
  CS Tryz.prog 172 [b,.pointer (some ⟨rm,0,none⟩)] L fun v L'=>v=.tuple #[.string ⟨⟨(ni bs most).1⟩⟩,.int .i64 ((ni bs most).2:Nat)]/\L'=L:=by
 refine yF Tryz.f172 ?_
 refine yX 6 ?_
 refine yL hm ?_
 refine yA yH (EL most h0 h1 hb hn) ?_
 rintro v L' ⟨rfl,rfl⟩
 refine yX 7 ?_
 exact⟨rfl,rfl⟩
theorem kC {b:Value}{bs:List UInt8}(hb:SV 1 L b bs.length (ab bs))(hn:bs.length<=400000000000) :
  CS Tryz.prog 112 [b] L fun v L'=>∃ r rb,v=.pointer (some ⟨r,0,none⟩)/\I5 ((rb,.cells 5 (ab bs))::L) r (bs,false) L':=by
 refine yF Tryz.f112 ?_
 refine yX 5 ?_
 refine yA yH (rL (room:=0) hb hn (by omega)) ?_
 rintro v L' ⟨rb,rfl,rfl⟩
 refine yX 3 ?_
 refine yN fun r=>?_
 refine yX 3 ?_
 exact⟨r,rb,rfl,_,rfl,.inr ⟨rb,0,ab bs,rfl,List.mem_cons_self ..,eQ (ao bs)⟩⟩
end Go.Proofs.YtoaojmobnbbnmaaGreat
namespace Go.Proofs.YtoaojmobnbbnmaaGreat.T
open Go.Am
def I5(T M:RL)(r:Nat)(s:St)(L:RL):Prop:=∃ v,L=(r,aN v s.2)::M/\OV T v s.1
variable{P:Program}{o:Oper}{a:ah}{L:RL}
theorem Ki {T:RL}{t:TypeId}{x:Operand}{lo hi:Option Operand}{lo' hi':Option Value}{v:Value}{l u:Nat}{bs:List UInt8}(hT:∀ p,p∈T->p∈L)(hs:OV T v bs)(ho:o.op=.slice t x lo hi none)(hx:aX a x=some v)
  (hlo:aY a lo=some lo') (hhi:aY a hi=some hi') (bl:aU lo' 0=some l) (bu:aU hi' bs.length=some u) (ht:P.underlying t=some (.slice 5)) (hz:aB P 5=some 1) (hu:u<=bs.length) (hl:l<=u) :
  ∃ v',OV T v' ((bs.drop l).take (u-l))/\∀ h,bp h L->aI P a o h=some (.val v' h):=by
 have hlen:((bs.drop l).take (u-l)).length=u-l:=by simp;omega
 rcases hs with ⟨rfl,rfl⟩|⟨r,off,C,rfl,hm,hc⟩
 ·have hu0:u=0:=by simpa using hu
  subst hu0
  have hl0:l=0:=by omega
  subst hl0
  refine⟨.slice none 0 0,.inl ⟨rfl,by simp⟩,fun h _=>?_⟩
  have hm':aY a none=some none:=rfl
  have hcb:Nat.beq 0 ae=false:=aK (by decide)
  have h1:Nat.ble 0 (dT 0 0)=true:=rfl
  have h2:Nat.ble 0 0=true:=rfl
  have h3:cx h 5 none 0=true:=by unfold cx;rw[hcb];rfl
  have bu':aU hi' 0=some 0:=bu
  simp only[aI,ho,hx,hlo,hhi,hm',cM,ht,bu',bl,hz,h1,h2,h3,Bool.true_and,dZ,hcb,ret]
 have hcut:cut C (off+l*1) (u-l)=some (ab ((bs.drop l).take (u-l))):=by
  rw[Nat.mul_one]
  exact kz hc (by rw[jN (by omega)])
 obtain⟨i,hi⟩:=List.mem_iff_getElem?.1 (hT _ hm)
 exact⟨.slice (some ⟨r,off+l*1,none⟩) (u-l) ae,.inr ⟨r,_,C,by rw[hlen],hm,by rw[hlen];exact hcut⟩,qC i ho hx hlo hhi bl bu ht hz hu hl hi⟩
variable{ops rest:List Oper}
theorem OS.cutT {T:RL}{K:ah->RL->Prop}{t:TypeId}{x:Operand}{lo hi:Option Operand}{lo' hi':Option Value}{v:Value}{l u:Nat}{bs:List UInt8}(hT:∀ p,p∈T->p∈L)(hs:OV T v bs)(hw:aw ops o a=true)(ho:o.op=.slice t x lo hi none)(hx:aX a x=some v)
  (hlo:aY a lo=some lo') (hhi:aY a hi=some hi') (bl:aU lo' 0=some l) (bu:aU hi' bs.length=some u) (ht:P.underlying t=some (.slice 5)) (hz:aB P 5=some 1) (hu:u<=bs.length) (hl:l<=u)
  (hk:∀ v',OV T v' ((bs.drop l).take (u-l))->∃ a₁,aH a o.dst v'=some a₁/\OS P ops rest a₁ L K):OS P ops (o::rest) a L K:=by
 obtain⟨v',h1,h2⟩:=Ki hT hs ho hx hlo hhi bl bu ht hz hu hl
 obtain⟨a₁,ep,k⟩:=hk v' h1
 exact Am.xR hw h2 ep k
theorem OV.one {T:RL}{v:Value}{bs:List UInt8}(h:OV T v bs):aM v.cells.toList=true/\v.cells.toList=[v]:=by
 rcases h with ⟨rfl,_⟩|⟨_,_,_,rfl,_⟩ <;> exact⟨rfl,rfl⟩
variable{M:RL}{r k:Nat}{v:Value}
theorem wm {f:Bool}{bs:List UInt8}{T:RL}(hT:∀ p,p∈T->p∈M)(hv:OV T v bs)(hk:k<=bs.length):CS Tryz.prog 201 [.pointer (some ⟨r,0,none⟩),.int .i64 (k:Nat)] ((r,aN v f)::M) fun v' L'=>I5 T M r (bs.drop k,f) L':=by
 refine yF Tryz.f201 ?_
 refine yX 7 ?_
 refine OS.cutT (l:=k) (u:=bs.length) (fun p hp=>List.mem_cons_of_mem _ (hT p hp)) hv rfl rfl rfl rfl rfl aR rfl rfl rfl (by omega) hk (fun v' hv'=>?_)
 rw[List.take_of_length_le (by simp)]at hv'
 have hone:=OV.one hv'
 refine yX 3 ?_
 refine yW (ax 0 (n:=1) (cs':=[v',.bool f]) rfl rfl rfl rfl rfl (by rw[hone.1,hone.2];rfl) (by rw[hone.2];rfl) rfl) ?_
 refine xN ?_
 exact⟨_,fun _ _=>rfl,v',rfl,hv'⟩
variable{bs:List UInt8}
theorem xH {f:Bool}{v:Value}{T:RL}(hT:∀ p,p∈T->p∈M)(hv:OV T v bs)(hn:bs.length<=9223372036854775807) :
  CS Tryz.prog 158 [.pointer (some ⟨r,0,none⟩),.func (.func 159) #[] #[]] ((r,aN v f)::M) fun v' L'=>v'=.bool (tk false (pC bs).1 (pC bs).2 (bs,f)).1/\I5 T M r (tk false (pC bs).1 (pC bs).2 (bs,f)).2 L':=by
 have hkl:(pC bs).2<=bs.length:=IB bs
 have hvM:=(hv.mono hT).cons (x:=(r,aN v f))
 refine yF Tryz.f158 ?_
 refine yX 8 ?_
 refine yA yH tH ?_
 rintro v' L' ⟨rfl,rfl⟩
 cases f with
 | true =>
  refine yX 9 ?_
  exact⟨rfl,v,rfl,hv⟩
 | false =>
  refine yX 12 ?_
  refine yA yH (DI hvM) ?_
  rintro v' L' ⟨rfl,rfl⟩
  refine yX 7 ?_
  by_cases hz:(pC bs).2=0
  ·have hb1:bc (((pC bs).2:Nat):Int) 0=true:=by rw[aC];simp;omega
   refine yX 2 ?_
   refine yI hb1 ?_
   refine yX 6 ?_
   refine yA yH wT ?_
   rintro v' L' rfl
   refine yX 7 ?_
   rw[hz,vG]
   exact⟨rfl,_,rfl,.inl ⟨rfl,rfl⟩⟩
  have hb1:bc (((pC bs).2:Nat):Int) 0=false:=by rw[aC];simp;omega
  refine yX 2 ?_
  refine yI hb1 ?_
  refine yX 8 ?_
  refine yA yH (wm (k:=(pC bs).2) hT hv hkl) ?_
  rintro v' L' hr
  refine yX 7 ?_
  rw[nr hz]
  exact⟨rfl,hr⟩
theorem vI {f:Bool}{v:Value}{rm:Nat}{most:Int}(h0:-9223372036854775808<=most)(h1:most<=9223372036854775807)(hm:(rm,.cells 3 [.int .i64 most])∈M){T:RL}(hT:∀ p,p∈T->p∈M)(hv:OV T v bs)(hn:bs.length<=9223372036854775807) :
  CS Tryz.prog 162 [.pointer (some ⟨r,0,none⟩),.func (.func 163) #[] #[.pointer (some ⟨rm,0,none⟩)]] ((r,aN v f)::M) fun v' L'=>v'=.int .i64 (tk (0:Int) ((gI bs most).1:Int) (gI bs most).2 (bs,f)).1/\I5 T M r (tk (0:Int) ((gI bs most).1:Int) (gI bs most).2 (bs,f)).2 L':=by
 have hkl:(gI bs most).2<=bs.length:=(GW bs most).2.2
 have hvM:=(hv.mono hT).cons (x:=(r,aN v f))
 refine yF Tryz.f162 ?_
 refine yX 8 ?_
 refine yA yH tH ?_
 rintro v' L' ⟨rfl,rfl⟩
 cases f with
 | true =>
  refine yX 9 ?_
  exact⟨rfl,v,rfl,hv⟩
 | false =>
  refine yX 12 ?_
  refine yA yH (Eg h0 h1 (List.mem_cons_of_mem _ hm) hvM hn) ?_
  rintro v' L' ⟨rfl,rfl⟩
  refine yX 7 ?_
  by_cases hz:(gI bs most).2=0
  ·have hb1:bc (((gI bs most).2:Nat):Int) 0=true:=by rw[aC];simp;omega
   refine yX 2 ?_
   refine yI hb1 ?_
   refine yX 6 ?_
   refine yA yH wT ?_
   rintro v' L' rfl
   refine yX 7 ?_
   rw[hz,vG]
   exact⟨rfl,_,rfl,.inl ⟨rfl,rfl⟩⟩
  have hb1:bc (((gI bs most).2:Nat):Int) 0=false:=by rw[aC];simp;omega
  refine yX 2 ?_
  refine yI hb1 ?_
  refine yX 8 ?_
  refine yA yH (wm (k:=(gI bs most).2) hT hv hkl) ?_
  rintro v' L' hr
  refine yX 7 ?_
  rw[nr hz]
  exact⟨rfl,hr⟩
theorem Ad {f:Bool}{v:Value}{rm:Nat}{most:Int}(h0:-9223372036854775808<=most)(h1:most<=9223372036854775807)(hm:(rm,.cells 3 [.int .i64 most])∈M){T:RL}(hT:∀ p,p∈T->p∈M)(hv:OV T v bs)(hn:bs.length<=9223372036854775807) :
  CS Tryz.prog 171 [.pointer (some ⟨r,0,none⟩),.func (.func 172) #[] #[.pointer (some ⟨rm,0,none⟩)]] ((r,aN v f)::M) fun v' L'=>v'=bb (tk ([]:List UInt8) (ni bs most).1 (ni bs most).2 (bs,f)).1/\I5 T M r (tk ([]:List UInt8) (ni bs most).1 (ni bs most).2 (bs,f)).2 L':=by
 have hkl:(ni bs most).2<=bs.length:=HP bs most
 have hvM:=(hv.mono hT).cons (x:=(r,aN v f))
 refine yF Tryz.f171 ?_
 refine yX 8 ?_
 refine yA yH tH ?_
 rintro v' L' ⟨rfl,rfl⟩
 cases f with
 | true =>
  refine yX 9 ?_
  exact⟨rfl,v,rfl,hv⟩
 | false =>
  refine yX 12 ?_
  refine yA yH (I3 h0 h1 (List.mem_cons_of_mem _ hm) hvM hn) ?_
  rintro v' L' ⟨rfl,rfl⟩
  refine yX 7 ?_
  by_cases hz:(ni bs most).2=0
  ·have hb1:bc (((ni bs most).2:Nat):Int) 0=true:=by rw[aC];simp;omega
   refine yX 2 ?_
   refine yI hb1 ?_
   refine yX 6 ?_
   refine yA yH wT ?_
   rintro v' L' rfl
   refine yX 7 ?_
   rw[hz,vG]
   exact⟨rfl,_,rfl,.inl ⟨rfl,rfl⟩⟩
  have hb1:bc (((ni bs most).2:Nat):Int) 0=false:=by rw[aC];simp;omega
  refine yX 2 ?_
  refine yI hb1 ?_
  refine yX 8 ?_
  refine yA yH (wm (k:=(ni bs most).2) hT hv hkl) ?_
  rintro v' L' hr
  refine yX 7 ?_
  rw[nr hz]
  exact⟨rfl,hr⟩
theorem RFlag_ct {f:Bool}{v:Value}{T:RL}(hT:∀ p,p∈T->p∈M)(hv:OV T v bs)(hn:bs.length<=9223372036854775807) :
  CS Tryz.prog 113 [.pointer (some ⟨r,0,none⟩)] ((r,aN v f)::M) fun v' L'=>v'=.bool (tk false (pC bs).1 (pC bs).2 (bs,f)).1/\I5 T M r (tk false (pC bs).1 (pC bs).2 (bs,f)).2 L':=by
 refine yF Tryz.f113 ?_
 refine yX 5 ?_
 refine yA yH (xH hT hv hn) ?_
 rintro v' L' ⟨rfl,hr⟩
 refine yX 4 ?_
 exact⟨rfl,hr⟩
theorem RCount_ct {f:Bool}{v:Value}{most:Int}(h0:-9223372036854775808<=most)(h1:most<=9223372036854775807){T:RL}(hT:∀ p,p∈T->p∈M)(hv:OV T v bs)(hn:bs.length<=9223372036854775807) :
  CS Tryz.prog 116 [.pointer (some ⟨r,0,none⟩),.int .i64 most] ((r,aN v f)::M) fun v' L'=>v'=.int .i64 (tk (0:Int) ((gI bs most).1:Int) (gI bs most).2 (bs,f)).1/\I5 T M r (tk (0:Int) ((gI bs most).1:Int) (gI bs most).2 (bs,f)).2 L':=by
 refine yF Tryz.f116 ?_
 refine yX 1 ?_
 refine yN fun rm=>?_
 refine yX 5 ?_
 refine OS.sub (ar.pulls [1] rfl) ?_
 refine yA yH (vI (rm:=rm) h0 h1 (List.mem_cons_self ..) (fun p hp=>List.mem_cons_of_mem _ (hT p hp)) hv hn) ?_
 rintro v' L' ⟨rfl,v2,rfl,hr⟩
 refine yX 2 ?_
 refine OS.sub (ar.drop 1 rfl) ?_
 refine yX 2 ?_
 exact⟨rfl,v2,rfl,hr⟩
theorem RStr_ct {f:Bool}{v:Value}{most:Int}(h0:-9223372036854775808<=most)(h1:most<=9223372036854775807){T:RL}(hT:∀ p,p∈T->p∈M)(hv:OV T v bs)(hn:bs.length<=9223372036854775807) :
  CS Tryz.prog 127 [.pointer (some ⟨r,0,none⟩),.int .i64 most] ((r,aN v f)::M) fun v' L'=>v'=bb (tk ([]:List UInt8) (ni bs most).1 (ni bs most).2 (bs,f)).1/\I5 T M r (tk ([]:List UInt8) (ni bs most).1 (ni bs most).2 (bs,f)).2 L':=by
 refine yF Tryz.f127 ?_
 refine yX 1 ?_
 refine yN fun rm=>?_
 refine yX 5 ?_
 refine OS.sub (ar.pulls [1] rfl) ?_
 refine yA yH (Ad (rm:=rm) h0 h1 (List.mem_cons_self ..) (fun p hp=>List.mem_cons_of_mem _ (hT p hp)) hv hn) ?_
 rintro v' L' ⟨rfl,v2,rfl,hr⟩
 refine yX 2 ?_
 refine OS.sub (ar.drop 1 rfl) ?_
 refine yX 2 ?_
 exact⟨rfl,v2,rfl,hr⟩
end Go.Proofs.YtoaojmobnbbnmaaGreat.T
end
namespace Go.Proofs.YtoaojmobnbbnmaaGreat
open Go.Am
structure Nd where
 leaf:Bool
 ks:List (List UInt8)
 vs:List (List UInt8)
 kids:List Int
abbrev tx(ts:List (List UInt8)):List Value:=ts.map bb
abbrev bx(zs:List Int):List Value:=zs.map fun z=>Value.int .i64 z
def qg(x y:List UInt8):Bool:=aq x y||cB x y
def rise(last:List UInt8):List (List UInt8)->Bool
 | []=>true
 | k::r=>!qg k last&&decide (k.length<=32)&&rise k r
def bW(n:Nd):Bool :=
 rise [] n.ks&&(if n.leaf then decide (n.vs.length=n.ks.length)&&decide (n.kids.length=0)&&n.vs.all (fun v=>decide (v.length<=64))
  else decide (n.kids.length=n.ks.length+1)&&decide (n.vs.length=0)&&n.kids.all (fun z=>decide (0<=z/\z<=32768)))
def tB(s:List UInt8):List UInt8:=iM s.length++s
def bi:List (List UInt8)->List (List UInt8)->List UInt8
 | k::ks,b::bs=>tB k++(b++bi ks bs)
 | _,_=>[]
def cC(n:Nd):List (List UInt8):=if n.leaf then n.vs.map tB else n.kids.tail.map cnt
def co(n:Nd):List UInt8:=if n.leaf then [] else cnt (n.kids.headD 0)
def gO(n:Nd):List UInt8:=[if n.leaf then 1 else 0]++iM n.ks.length
def aE(n:Nd):List UInt8:=gO n++(co n++bi n.ks (cC n))
def gK(n:Nd):Nat:=if bW n=true then (aE n).length else 0
def aQ(n:Nd):Bool:=bW n&&decide ((aE n).length<=256)
def IC(n:Nd):Int:=if bW n=true then (if (aE n).length<=256 then 0 else 3) else 1
def iR(n:Nd):List UInt8:=if aQ n=true then aE n++List.replicate (256-(aE n).length) 0 else []
def ag(key:List UInt8):List (List UInt8)->Nat
 | []=>0
 | k::ks=>if aq k key=true then ag key ks+1 else 0
def mQ(key:List UInt8)(ks:List (List UInt8)):Bool:=decide (ks[ag key ks]?=some key)
theorem gA {s:List UInt8}(h:s.length<=100):(tB s).length=s.length+1:=by
 unfold tB
 rw[km (by omega)]
 simp
theorem l8 {z:Int}:(cnt z).length<=10:=by
 unfold cnt
 split
 ·exact ko (by omega) (by omega)
 simp
theorem xr:∀ {ks bs:List (List UInt8)},(∀ k∈ks,k.length<=100)->(∀ b∈bs,b.length<=100)->(bi ks bs).length<=ks.length*201
 | [],_,_,_=>by simp[bi]
 | k::ks,[],_,_=>by simp[bi]
 | k::ks,b::bs,h1,h2=>by
  have h3:=xr (ks:=ks) (bs:=bs) (fun k hk=>h1 k (List.mem_cons_of_mem _ hk)) (fun b hb=>h2 b (List.mem_cons_of_mem _ hb))
  have h4:=h1 k (List.mem_cons_self ..)
  have h5:=h2 b (List.mem_cons_self ..)
  simp only[bi,List.length_append,List.length_cons,gA h4]
  omega
theorem j9:∀ x:List UInt8,aq x x=false
 | []=>rfl
 | a::x=>by simp only[aq,Nat.beq_refl];exact j9 x
variable{n:Nat}
theorem LD {m:Nat}:Nat.beq m n=decide (m=n):=by
 by_cases h:m=n
 ·subst h;simp
 rw[decide_eq_false h]
 cases hb:Nat.beq m n
 ·rfl
 exact absurd (Nat.eq_of_beq_eq_true hb) h
theorem LC {m:Nat}:Nat.ble m n=decide (m<=n):=by
 by_cases h:m<=n
 ·rw[decide_eq_true h];exact Nat.ble_eq_true_of_le h
 rw[decide_eq_false h]
 cases hb:Nat.ble m n
 ·rfl
 exact absurd (Nat.le_of_ble_eq_true hb) h
theorem wA {a b:UInt8}{x y:List UInt8}:aq (a::x) (b::y)=true↔a.toNat<b.toNat∨(a=b/\aq x y=true):=by
 simp only[aq]
 rw[LD]
 by_cases h:a.toNat=b.toNat
 ·have hab:a=b:=UInt8.toNat_inj.1 h
  subst hab
  simp
 have hab:a≠b:=fun hh=>h (by rw[hh])
 rw[decide_eq_false h,LC]
 simp[hab]
 omega
theorem lt_trans:∀ {x y z:List UInt8},aq x y=true->aq y z=true->aq x z=true
 | _,[],_,h,_=>by cases ‹List UInt8› <;> simp[aq]at h
 | [],_::_,z,_,h=>by cases z <;> simp[aq]at h ⊢
 | a::x,b::y,[],_,h=>by simp[aq]at h
 | a::x,b::y,c::z,h1,h2=>by
  rw[wA]at *
  rcases h1 with h1|⟨rfl,h1⟩
  ·rcases h2 with h2|⟨rfl,h2⟩
   ·left;omega
   left;omega
  rcases h2 with h2|⟨rfl,h2⟩
  ·left;omega
  right;exact⟨rfl,lt_trans h1 h2⟩
theorem nW:∀ {x y:List UInt8},aq x y=true∨x=y∨aq y x=true
 | [],[]=>.inr (.inl rfl)
 | [],_::_=>.inl rfl
 | _::_,[]=>.inr (.inr rfl)
 | a::x,b::y=>by
  rw[wA,wA]
  rcases Nat.lt_trichotomy a.toNat b.toNat with h|h|h
  ·exact .inl (.inl h)
  ·have hab:a=b:=UInt8.toNat_inj.1 h
   subst hab
   rcases nW (x:=x) (y:=y) with h|h|h
   ·exact .inl (.inr ⟨rfl,h⟩)
   ·exact .inr (.inl (by rw[h]))
   exact .inr (.inr (.inr ⟨rfl,h⟩))
  exact .inr (.inr (.inl h))
theorem D2 {x y:List UInt8}:cB x y=decide (x=y):=by rw[cH];by_cases h:x=y <;> simp[h]
theorem cT {x y:List UInt8}:qg x y=true↔aq x y=true∨x=y:=by unfold qg;rw[D2];simp
theorem lU {x y:List UInt8}:qg x y=false↔aq y x=true:=by
 constructor
 ·intro h
  rcases nW (x:=x) (y:=y) with h1|h1|h1
  ·rw[cT.2 (.inl h1)]at h;cases h
  ·rw[cT.2 (.inr h1)]at h;cases h
  exact h1
 intro h
 cases hl:qg x y with
 | false=>rfl
 | true =>
  rcases cT.1 hl with h1|rfl
  ·have:=lt_trans h h1;rw[j9]at this;cases this
  rw[j9]at h;cases h
theorem qt {x y:List UInt8}:aq x y=false↔qg y x=true:=by
 constructor
 ·intro h
  cases hl:qg y x with
  | true=>rfl
  | false=>rw[lU.1 hl]at h;cases h
 intro h
 cases hl:aq x y with
 | false=>rfl
 | true=>rw[lU.2 hl]at h;cases h
theorem fj {l k:List UInt8}{r:List (List UInt8)}:rise l (k::r)=true↔aq l k=true/\k.length<=32/\rise k r=true:=by
 simp only[rise,Bool.and_eq_true,Bool.not_eq_true',decide_eq_true_eq,lU,and_assoc]
theorem kX {l:List UInt8}:∀ {ks:List (List UInt8)},rise l ks=true->∀ k∈ks,aq l k=true/\1<=k.length/\k.length<=32
 | [],_,k,hk=>by cases hk
 | k::r,h,k',hk=>by
  obtain⟨h1,h2,h3⟩:=fj.1 h
  rcases List.mem_cons.1 hk with rfl|hk
  ·refine⟨h1,?_,h2⟩
   cases k' with
   | nil=>cases l <;> simp[aq]at h1
   | cons a b=>simp
  obtain⟨g1,g2,g3⟩:=kX h3 k' hk
  exact⟨lt_trans h1 g1,g2,g3⟩
theorem Dd {l l':List UInt8}(h:aq l' l=true):∀ {ks:List (List UInt8)},rise l ks=true->rise l' ks=true
 | [],_=>rfl
 | k::r,hk=>by
  obtain⟨h1,h2,h3⟩:=fj.1 hk
  exact fj.2 ⟨lt_trans h h1,h2,h3⟩
theorem gz(key:List UInt8):∀ ks:List (List UInt8),ag key ks<=ks.length
 | []=>Nat.le_refl _
 | k::ks=>by simp only[ag];split <;> simp;exact gz key ks
theorem jQ {key:List UInt8}:∀ {ks:List (List UInt8)} {i:Nat} {k:List UInt8},i<ag key ks->ks[i]?=some k->aq k key=true
 | [],i,k,h,_=>by simp[ag]at h
 | c::ks,i,k,h,hk=>by
  simp only[ag]at h
  split at h
  ·cases i with
   | zero=>simp at hk;subst hk;assumption
   | succ i=>exact jQ (ks:=ks) (i:=i) (Nat.lt_of_succ_lt_succ h) (by simpa using hk)
  omega
theorem lH {key:List UInt8}:∀ {ks:List (List UInt8)} {k:List UInt8},ks[ag key ks]?=some k->aq k key=false
 | [],k,h=>by simp at h
 | c::ks,k,h=>by
  simp only[ag]at h
  split at h
  ·exact lH (by simpa using h)
  rename_i hc
  simp at h
  subst h
  simpa using hc
theorem dw {l:List UInt8}:∀ {ks:List (List UInt8)} {i j:Nat} {a b:List UInt8},rise l ks=true->ks[i]?=some a->ks[j]?=some b->i<j->aq a b=true
 | [],i,j,a,b,_,h,_,_=>by simp at h
 | k::ks,i,j,a,b,h,ha,hb,hij=>by
  obtain⟨h1,h2,h3⟩:=fj.1 h
  cases j with
  | zero=>omega
  | succ j =>
   have hb:ks[j]?=some b:=by simpa using hb
   cases i with
   | zero =>
    have ha:k=a:=by simpa using ha
    subst ha
    exact (kX h3 b (List.mem_of_getElem? hb)).1
   | succ i=>exact dw h3 (by simpa using ha) hb (by omega)
theorem pJ {l key:List UInt8}{ks:List (List UInt8)}{i:Nat}{k:List UInt8}(h:rise l ks=true)(hk:ks[i]?=some k):aq k key=decide (i<ag key ks):=by
 by_cases hi:i<ag key ks
 ·rw[decide_eq_true hi];exact jQ hi hk
 rw[decide_eq_false hi]
 have hlt:=(List.getElem?_eq_some_iff.1 hk).1
 have hb:ag key ks<ks.length:=by omega
 have hat:=List.getElem?_eq_getElem hb
 have h0:=lH hat
 rcases Nat.lt_or_ge (ag key ks) i with h1|h1
 ·have h2:=dw h hat hk h1
  cases hc:aq k key with
  | false=>rfl
  | true=>rw[lt_trans h2 hc]at h0;cases h0
 have:i=ag key ks:=by omega
 subst this
 rw[hat]at hk
 cases hk
 exact h0
theorem G4 {l key:List UInt8}{ks:List (List UInt8)}{i:Nat}(h:rise l ks=true)(hi:i<=ks.length)(h1:∀ j k,j<i->ks[j]?=some k->aq k key=true)(h2:∀ j k,i<=j->ks[j]?=some k->aq k key=false):i=ag key ks:=by
 have hl:=gz key ks
 rcases Nat.lt_trichotomy i (ag key ks) with h3|h3|h3
 ·have hat:=List.getElem?_eq_getElem (show i<ks.length by omega)
  have:=h2 i _ (Nat.le_refl _) hat
  rw[jQ h3 hat]at this
  cases this
 ·exact h3
 have hat:=List.getElem?_eq_getElem (show ag key ks<ks.length by omega)
 have:=h1 _ _ h3 hat
 rw[lH hat]at this
 cases this
theorem jl {n:Nd}(h:bW n=true):∀ k∈n.ks,k.length<=32:=fun k hk=>by
 have:rise [] n.ks=true:=by unfold bW at h;simp at h;exact h.1
 exact (kX this k hk).2.2
theorem de {n:Nd}(h:bW n=true)(hl:n.leaf=true):n.vs.length=n.ks.length/\n.kids=[]/\∀ v∈n.vs,v.length<=64:=by
 unfold bW at h
 rw[if_pos hl]at h
 simp at h
 exact⟨h.2.1.1,h.2.1.2,h.2.2⟩
theorem cl {n:Nd}(h:bW n=true)(hl:n.leaf=false):n.kids.length=n.ks.length+1/\n.vs=[]/\∀ z∈n.kids,0<=z/\z<=32768:=by
 unfold bW at h
 rw[if_neg (by simp[hl])]at h
 simp at h
 exact⟨h.2.1.1,h.2.1.2,h.2.2⟩
theorem oD {n:Nd}(h:bW n=true):(cC n).length=n.ks.length:=by
 unfold cC
 cases hl:n.leaf with
 | true=>rw[if_pos rfl,List.length_map];exact (de h hl).1
 | false=>rw[if_neg (by decide),List.length_map,List.length_tail,(cl h hl).1];rfl
theorem G5 {n:Nd}(h:bW n=true):∀ b∈cC n,b.length<=100:=fun b hb=>by
 unfold cC at hb
 cases hl:n.leaf with
 | true =>
  rw[hl,if_pos rfl]at hb
  obtain⟨v,hv,rfl⟩:=List.mem_map.1 hb
  have:=(de h hl).2.2 v hv
  rw[gA (by omega)]
  omega
 | false =>
  rw[hl,if_neg (by decide)]at hb
  obtain⟨v,hv,rfl⟩:=List.mem_map.1 hb
  have:=@l8 v
  omega
theorem zh(n:Nd):(co n).length<=10:=by
 unfold co
 split
 ·simp
 exact l8
theorem CD {n:Nd}(h:bW n=true)(hn:n.ks.length<=1000000):(aE n).length<=210000000:=by
 have h1:=xr (ks:=n.ks) (bs:=cC n) (fun k hk=>by have:=jl h k hk;omega) (G5 h)
 have h2:(iM n.ks.length).length<=10:=ko (by omega) (by omega)
 have h3:=zh n
 unfold aE gO
 simp only[List.length_append,List.length_cons,List.length_nil]
 omega
end Go.Proofs.YtoaojmobnbbnmaaGreat
section
namespace Go.Am
section
variable{P:Program}{o:Oper}{a:ah}{L L₁:RL}{x y:Operand}{t:TypeId}
variable{sz n:Nat}{v:Value}{cs:List Value}
theorem SV.one (h:SV sz L v n cs):tL v=false/\v.cells.toList=[v]:=by
 rcases h with ⟨rfl,rfl,rfl⟩|⟨r,off,cap,row,cs₀,rfl,_⟩ <;> exact⟨rfl,rfl⟩
end
variable{X L:RL}
theorem ar.suffix:ar L (X++L):=⟨X,List.perm_append_comm⟩
theorem ar.tail {x:Nat×aG}{L:RL}:ar L (x::L):=ar.suffix (X:=[x])
theorem ar.trans {A B C:RL}(h:ar A B)(g:ar B C):ar A C:=by
 obtain⟨X,hX⟩:=h
 obtain⟨Y,hY⟩:=g
 refine⟨X++Y,?_⟩
 rw[←List.append_assoc]
 exact hY.trans (hX.append_right Y)
theorem ar.cons {A B:RL}{x:Nat×aG}(s:ar A B):ar (x::A) (x::B):=by
 obtain⟨X,hX⟩:=s
 exact⟨X,hX.cons x⟩
variable{Y G:RL}
theorem ar.swap {A:RL}:ar (A++(Y++G)) (Y++(A++G)):=⟨[],by
 rw[List.append_nil,←List.append_assoc,←List.append_assoc]
 exact List.perm_append_comm.append_right G⟩
end Go.Am
namespace Go.Proofs.YtoaojmobnbbnmaaGreat
open Go.Am
variable{n:Nat}
theorem gn {m:Nat}:bc (m:Int) (n:Nat)=decide (m=n):=by
 rw[aC];by_cases h:m=n
 ·subst h;simp
 rw[decide_eq_false h];simpa using (show ¬ (m:Int)=n by omega)
theorem gJ {ks:List (List UInt8)}{j:Nat}(h:j<ks.length):(tx ks)[j]?=some (bb (ks[j]'h)):=by simp[tx,h]
theorem iY {zs:List Int}{j:Nat}(h:j<zs.length):(bx zs)[j]?=some (.int .i64 (zs[j]'h)):=by simp[bx,h]
def yS(ks:List (List UInt8))(j:Nat):List UInt8:=if j=0 then [] else ks.getD (j-1) []
theorem sg {ks:List (List UInt8)}{j:Nat}(h:j<ks.length):yS ks (j+1)=ks[j]:=by
 unfold yS
 rw[if_neg (by omega)]
 simp[h]
variable{L:RL}{v:Value}
theorem wF {ks:List (List UInt8)}(hv:SV 1 L v ks.length (tx ks))(hn:ks.length<=9000000000000000)(hk:∀ k∈ks,k.length<=9000000000000000) :
  CS Tryz.prog 213 [v] L fun u L'=>u=.bool (rise [] ks)/\L'=L:=by
 refine yF Tryz.f213 ?_
 refine yX 8 ?_
 refine yP (az hv rfl rfl rfl rfl rfl) ?_
 refine yX 3 ?_
 refine LS.loopJ [3,6,7,8] (fun q a L'=>∃ j:Nat,q=ks.length-j/\j<=ks.length/\rise (yS ks j) (ks.drop j)=rise [] ks/\L'=L/\a=[yC,yC,yC,bb (yS ks j),yC,yC,v,.int .i64 (ks.length:Nat),.int .i64 (j:Nat),yC,yC,yC,yC,yC,yC,yC,yC,yC,yC,yC,yC,yC]) (n:=ks.length) rfl ⟨0,rfl,by omega,rfl,rfl,rfl⟩ ?_
 rintro q a L' ⟨j,rfl,hj,hr,rfl,rfl⟩
 refine yV 3 ?_
 refine xC rfl ?_ ?_ <;> intro hc
 ·have hc:(j:Int)<ks.length:=cg hc
  have hjk:j<ks.length:=by omega
  have hlen:(ks[j]).length<=9000000000000000:=hk _ (List.getElem_mem hjk)
  rw[List.drop_eq_getElem_cons hjk]at hr
  simp only[rise]at hr
  refine yX 3 ?_
  refine OS.at1 (j:=j) hv (gJ hjk) rfl rfl rfl rfl rfl rfl (fun r0 o0 row0 cs0 m0 c0 g0=>?_)
  refine yX 1 ?_
  refine yR (aa m0 c0 rfl rfl (ap rfl g0)) ?_
  refine yX 2 ?_
  cases hl:qg ks[j] (yS ks j) with
  | true =>
   rw[hl]at hr
   refine yX 3 ?_
   refine yI hl ?_
   refine yV 6 ?_
   refine xC rfl ?_ ?_ <;> intro h
   ·refine yX 4 ?_
    exact⟨by rw[←hr];rfl,rfl⟩
   cases h
  | false =>
   rw[hl]at hr
   by_cases hb:ks[j].length<=32
   ·rw[decide_eq_true hb]at hr
    have hgt:(!av (ks[j].length:Int) 32)=false:=by rw[am];simp;omega
    refine yX 3 ?_
    refine yI hl ?_
    refine yX 3 ?_
    refine yI hgt ?_
    refine yX 9 ?_
    refine yP (a8 (m:=j) (n:=1) rfl rfl rfl (ak (by omega) (by omega))) ?_
    refine yX 2 ?_
    refine⟨ks.length-(j+1),by omega,j+1,rfl,by omega,?_,rfl,by rw[sg hjk];rfl⟩
    rw[sg hjk,←hr]
    simp
   rw[decide_eq_false hb]at hr
   have hgt:(!av (ks[j].length:Int) 32)=true:=by rw[am];simp;omega
   refine yX 3 ?_
   refine yI hl ?_
   refine yX 3 ?_
   refine yI hgt ?_
   refine yV 2 ?_
   refine xC rfl ?_ ?_ <;> intro h
   ·refine yX 4 ?_
    exact⟨by rw[←hr];rfl,rfl⟩
   cases h
 have hc:(ks.length:Int)<=(j:Int):=bz hc
 have hje:j=ks.length:=by omega
 subst hje
 rw[List.drop_length]at hr
 refine LS.exit ?_
 refine yX 4 ?_
 exact⟨by rw[←hr];rfl,rfl⟩
theorem AD {s:List UInt8}(hs:s.length<=9000000000000000):CS Tryz.prog 215 [bb s] L fun u L'=>u=.bool (decide (64<s.length))/\L'=L:=by
 have hb:(!av (s.length:Int) 64)=decide (64<s.length):=by rw[am];by_cases h:64<s.length <;> simp[h] <;> omega
 refine yF Tryz.f215 ?_
 refine yX 6 ?_
 refine yI hb ?_
 refine yX 3 ?_
 exact⟨rfl,rfl⟩
def pK(z:Int):Bool:=decide (z<0∨32768<z)
theorem Fy {z:Int}:CS Tryz.prog 216 [.int .i64 z] L fun u L'=>u=.bool (pK z)/\L'=L:=by
 have hb:(!av z 32768)=decide (32768<z):=by rw[am];by_cases h:32768<z <;> simp[h] <;> omega
 refine yF Tryz.f216 ?_
 refine yX 3 ?_
 by_cases h0:z<0
 ·have h1:(!av 0 z)=true:=by rw[am];simp;omega
  refine yX 2 ?_
  refine yI h1 ?_
  refine yX 7 ?_
  exact⟨by unfold pK;rw[decide_eq_true (.inl h0)];rfl,rfl⟩
 have h1:(!av 0 z)=false:=by rw[am];simp;omega
 refine yX 2 ?_
 refine yI h1 ?_
 refine yX 2 ?_
 refine yI hb ?_
 refine yX 4 ?_
 exact⟨by unfold pK;by_cases h2:32768<z <;> simp[h0,h2,cj],rfl⟩
theorem AB {c:UInt8}:CS Tryz.prog 218 [.int .u8 (c.toNat:Nat)] L fun u L'=>u=.bool (c != 0)/\L'=L:=by
 have hb:(!bc (c.toNat:Int) 0)=(c != 0):=by
  rw[aC]
  by_cases h:c=0
  ·subst h;rfl
  have:c.toNat≠0:=fun hh=>h (UInt8.toNat_inj.1 hh)
  have h1:((c.toNat:Int)==0)=false:=by simpa using (show ¬ (c.toNat:Int)=0 by omega)
  rw[h1];simp[h]
 refine yF Tryz.f218 ?_
 refine yX 5 ?_
 refine yI hb ?_
 refine yX 3 ?_
 exact⟨rfl,rfl⟩
theorem Dw {l:List (List UInt8)}{f:Nat}{p:List UInt8->Bool}(hv:SV 1 L v l.length (tx l))(hn:l.length<=9000000000000000)(hf:∀ x∈l,CS Tryz.prog f [(bb) x] L fun u L'=>u=.bool (p x)/\L'=L) :
  CS Tryz.prog 243 [v,.func (.func f) #[] #[]] L fun u L'=>(∃ i:Nat,u=.int .i64 i/\l.any p=true∨u=.int .i64 (-1)/\l.any p=false)/\L'=L:=by
 refine yF Tryz.f243 ?_
 refine yX 5 ?_
 refine yP (az hv rfl rfl rfl rfl rfl) ?_
 refine yX 3 ?_
 refine LS.loopJ [0,1,7,8] (fun q a L'=>∃ j:Nat,q=l.length-j/\j<=l.length/\(l.take j).any p=false/\L'=L/\a=[v,.func (.func f) #[] #[],yC,yC,yC,yC,yC,.int .i64 (l.length:Nat),.int .i64 (j:Nat),yC,yC,yC,yC,yC,yC,yC,yC,yC,yC]) (n:=l.length) rfl ⟨0,rfl,by omega,rfl,rfl,rfl⟩ ?_
 rintro q a L' ⟨j,rfl,hj,hr,rfl,rfl⟩
 refine yV 3 ?_
 refine xC rfl ?_ ?_ <;> intro hc
 ·have hc:(j:Int)<l.length:=cg hc
  have hjl:j<l.length:=by omega
  refine yX 10 ?_
  refine OS.at1 (j:=j) hv (gJ hjl) rfl rfl rfl rfl rfl rfl (fun r0 o0 row0 cs0 m0 c0 g0=>?_)
  refine yX 1 ?_
  refine yR (aa m0 c0 rfl rfl (ap rfl g0)) ?_
  refine yA yH (hf l[j] (List.getElem_mem hjl)) ?_
  rintro u L₁ ⟨rfl,e₁⟩
  subst e₁
  refine yX 2 ?_
  cases hp:p l[j] with
  | true =>
   repeat refine xQ ?_
   refine xC rfl ?_ ?_ <;> intro h
   ·refine yX 5 ?_
    exact⟨⟨j,.inl ⟨rfl,List.any_eq_true.2 ⟨_,List.getElem_mem hjl,hp⟩⟩⟩,rfl⟩
   cases h
  | false =>
   refine yX 3 ?_
   refine yP (a8 (m:=j) (n:=1) rfl rfl rfl (ak (by omega) (by omega))) ?_
   refine yX 2 ?_
   refine⟨l.length-(j+1),by omega,j+1,rfl,by omega,?_,rfl,rfl⟩
   rw[List.take_succ_eq_append_getElem hjl,List.any_append,hr]
   simp[hp]
 have hc:(l.length:Int)<=(j:Int):=bz hc
 have hje:j=l.length:=by omega
 subst hje
 rw[List.take_length]at hr
 refine LS.exit ?_
 refine yX 4 ?_
 exact⟨⟨0,.inr ⟨rfl,hr⟩⟩,rfl⟩
theorem AR {l:List (List UInt8)}{f:Nat}{p:List UInt8->Bool}(hv:SV 1 L v l.length (tx l))(hn:l.length<=9000000000000000)(hf:∀ x∈l,CS Tryz.prog f [(bb) x] L fun u L'=>u=.bool (p x)/\L'=L) :
  CS Tryz.prog 214 [v,.func (.func f) #[] #[]] L fun u L'=>u=.bool (l.any p)/\L'=L:=by
 refine yF Tryz.f214 ?_
 refine yX 6 ?_
 refine yA yH (Dw hv hn hf) ?_
 rintro u L₁ ⟨⟨i,h⟩,e₁⟩
 subst e₁
 rcases h with ⟨rfl,h⟩|⟨rfl,h⟩
 ·have hb:av 0 (i:Int)=true:=au.2 (by omega)
  refine yX 1 ?_
  refine yI hb ?_
  refine yX 3 ?_
  exact⟨by rw[h];rfl,rfl⟩
 refine yX 5 ?_
 exact⟨by rw[h];rfl,rfl⟩
theorem Dx {l:List Int}{f:Nat}{p:Int->Bool}(hv:SV 1 L v l.length (bx l))(hn:l.length<=9000000000000000)(hf:∀ x∈l,CS Tryz.prog f [(Value.int .i64) x] L fun u L'=>u=.bool (p x)/\L'=L) :
  CS Tryz.prog 221 [v,.func (.func f) #[] #[]] L fun u L'=>(∃ i:Nat,u=.int .i64 i/\l.any p=true∨u=.int .i64 (-1)/\l.any p=false)/\L'=L:=by
 refine yF Tryz.f221 ?_
 refine yX 5 ?_
 refine yP (az hv rfl rfl rfl rfl rfl) ?_
 refine yX 3 ?_
 refine LS.loopJ [0,1,7,8] (fun q a L'=>∃ j:Nat,q=l.length-j/\j<=l.length/\(l.take j).any p=false/\L'=L/\a=[v,.func (.func f) #[] #[],yC,yC,yC,yC,yC,.int .i64 (l.length:Nat),.int .i64 (j:Nat),yC,yC,yC,yC,yC,yC,yC,yC,yC,yC]) (n:=l.length) rfl ⟨0,rfl,by omega,rfl,rfl,rfl⟩ ?_
 rintro q a L' ⟨j,rfl,hj,hr,rfl,rfl⟩
 refine yV 3 ?_
 refine xC rfl ?_ ?_ <;> intro hc
 ·have hc:(j:Int)<l.length:=cg hc
  have hjl:j<l.length:=by omega
  refine yX 10 ?_
  refine OS.at1 (j:=j) hv (iY hjl) rfl rfl rfl rfl rfl rfl (fun r0 o0 row0 cs0 m0 c0 g0=>?_)
  refine yX 1 ?_
  refine yR (aa m0 c0 rfl rfl (ap rfl g0)) ?_
  refine yA yH (hf l[j] (List.getElem_mem hjl)) ?_
  rintro u L₁ ⟨rfl,e₁⟩
  subst e₁
  refine yX 2 ?_
  cases hp:p l[j] with
  | true =>
   repeat refine xQ ?_
   refine xC rfl ?_ ?_ <;> intro h
   ·refine yX 5 ?_
    exact⟨⟨j,.inl ⟨rfl,List.any_eq_true.2 ⟨_,List.getElem_mem hjl,hp⟩⟩⟩,rfl⟩
   cases h
  | false =>
   refine yX 3 ?_
   refine yP (a8 (m:=j) (n:=1) rfl rfl rfl (ak (by omega) (by omega))) ?_
   refine yX 2 ?_
   refine⟨l.length-(j+1),by omega,j+1,rfl,by omega,?_,rfl,rfl⟩
   rw[List.take_succ_eq_append_getElem hjl,List.any_append,hr]
   simp[hp]
 have hc:(l.length:Int)<=(j:Int):=bz hc
 have hje:j=l.length:=by omega
 subst hje
 rw[List.take_length]at hr
 refine LS.exit ?_
 refine yX 4 ?_
 exact⟨⟨0,.inr ⟨rfl,hr⟩⟩,rfl⟩
theorem AS {l:List Int}{f:Nat}{p:Int->Bool}(hv:SV 1 L v l.length (bx l))(hn:l.length<=9000000000000000)(hf:∀ x∈l,CS Tryz.prog f [(Value.int .i64) x] L fun u L'=>u=.bool (p x)/\L'=L) :
  CS Tryz.prog 181 [v,.func (.func f) #[] #[]] L fun u L'=>u=.bool (l.any p)/\L'=L:=by
 refine yF Tryz.f181 ?_
 refine yX 6 ?_
 refine yA yH (Dx hv hn hf) ?_
 rintro u L₁ ⟨⟨i,h⟩,e₁⟩
 subst e₁
 rcases h with ⟨rfl,h⟩|⟨rfl,h⟩
 ·have hb:av 0 (i:Int)=true:=au.2 (by omega)
  refine yX 1 ?_
  refine yI hb ?_
  refine yX 3 ?_
  exact⟨by rw[h];rfl,rfl⟩
 refine yX 5 ?_
 exact⟨by rw[h];rfl,rfl⟩
variable{bs:List UInt8}
theorem GX {j:Nat}(h:j<bs.length):(ab bs)[j]?=some (.int .u8 ((bs[j]'h).toNat:Nat)):=by simp[ab,h]
theorem Dy {l:List UInt8}{f:Nat}{p:UInt8->Bool}(hv:SV 1 L v l.length (ab l))(hn:l.length<=9000000000000000)(hf:∀ x∈l,CS Tryz.prog f [(fun c=>Value.int .u8 (UInt8.toNat c:Nat)) x] L fun u L'=>u=.bool (p x)/\L'=L) :
  CS Tryz.prog 244 [v,.func (.func f) #[] #[]] L fun u L'=>(∃ i:Nat,u=.int .i64 i/\l.any p=true∨u=.int .i64 (-1)/\l.any p=false)/\L'=L:=by
 refine yF Tryz.f244 ?_
 refine yX 5 ?_
 refine yP (az hv rfl rfl rfl rfl rfl) ?_
 refine yX 3 ?_
 refine LS.loopJ [0,1,7,8] (fun q a L'=>∃ j:Nat,q=l.length-j/\j<=l.length/\(l.take j).any p=false/\L'=L/\a=[v,.func (.func f) #[] #[],yC,yC,yC,yC,yC,.int .i64 (l.length:Nat),.int .i64 (j:Nat),yC,yC,yC,yC,yC,yC,yC,yC,yC,yC]) (n:=l.length) rfl ⟨0,rfl,by omega,rfl,rfl,rfl⟩ ?_
 rintro q a L' ⟨j,rfl,hj,hr,rfl,rfl⟩
 refine yV 3 ?_
 refine xC rfl ?_ ?_ <;> intro hc
 ·have hc:(j:Int)<l.length:=cg hc
  have hjl:j<l.length:=by omega
  refine yX 10 ?_
  refine OS.at1 (j:=j) hv (GX hjl) rfl rfl rfl rfl rfl rfl (fun r0 o0 row0 cs0 m0 c0 g0=>?_)
  refine yX 1 ?_
  refine yR (aa m0 c0 rfl rfl (ap rfl g0)) ?_
  refine yA yH (hf l[j] (List.getElem_mem hjl)) ?_
  rintro u L₁ ⟨rfl,e₁⟩
  subst e₁
  refine yX 2 ?_
  cases hp:p l[j] with
  | true =>
   repeat refine xQ ?_
   refine xC rfl ?_ ?_ <;> intro h
   ·refine yX 5 ?_
    exact⟨⟨j,.inl ⟨rfl,List.any_eq_true.2 ⟨_,List.getElem_mem hjl,hp⟩⟩⟩,rfl⟩
   cases h
  | false =>
   refine yX 3 ?_
   refine yP (a8 (m:=j) (n:=1) rfl rfl rfl (ak (by omega) (by omega))) ?_
   refine yX 2 ?_
   refine⟨l.length-(j+1),by omega,j+1,rfl,by omega,?_,rfl,rfl⟩
   rw[List.take_succ_eq_append_getElem hjl,List.any_append,hr]
   simp[hp]
 have hc:(l.length:Int)<=(j:Int):=bz hc
 have hje:j=l.length:=by omega
 subst hje
 rw[List.take_length]at hr
 refine LS.exit ?_
 refine yX 4 ?_
 exact⟨⟨0,.inr ⟨rfl,hr⟩⟩,rfl⟩
theorem AT {l:List UInt8}{f:Nat}{p:UInt8->Bool}(hv:SV 1 L v l.length (ab l))(hn:l.length<=9000000000000000)(hf:∀ x∈l,CS Tryz.prog f [(fun c=>Value.int .u8 (UInt8.toNat c:Nat)) x] L fun u L'=>u=.bool (p x)/\L'=L) :
  CS Tryz.prog 217 [v,.func (.func f) #[] #[]] L fun u L'=>u=.bool (l.any p)/\L'=L:=by
 refine yF Tryz.f217 ?_
 refine yX 6 ?_
 refine yA yH (Dy hv hn hf) ?_
 rintro u L₁ ⟨⟨i,h⟩,e₁⟩
 subst e₁
 rcases h with ⟨rfl,h⟩|⟨rfl,h⟩
 ·have hb:av 0 (i:Int)=true:=au.2 (by omega)
  refine yX 1 ?_
  refine yI hb ?_
  refine yX 3 ?_
  exact⟨by rw[h];rfl,rfl⟩
 refine yX 5 ?_
 exact⟨by rw[h];rfl,rfl⟩
theorem GZ (hv:SV 1 L v bs.length (ab bs))(hn:bs.length<=9000000000000000):CS Tryz.prog 178 [v] L fun u L'=>u=.bool (bs.all (fun c=>c==0))/\L'=L:=by
 have hb:(!bs.any (fun c=>c != 0))=bs.all (fun c=>c==0):=by
  rw[List.all_eq_not_any_not];rfl
 refine yF Tryz.f178 ?_
 refine yX 5 ?_
 refine yA yH ((AT (p:=fun c=>c != 0) hv hn (fun c hc=>AB))) ?_
 rintro u L' ⟨rfl,rfl⟩
 refine yX 1 ?_
 refine yI hb ?_
 refine yX 3 ?_
 exact⟨rfl,rfl⟩
structure NV(L:RL)(n:Nd)(v1 v2 v3:Value):Prop where
 k:SV 1 L v1 n.ks.length (tx n.ks)
 v:SV 1 L v2 n.vs.length (tx n.vs)
 z:SV 1 L v3 n.kids.length (bx n.kids)
 kn:n.ks.length<=9000000000000000
 vn:n.vs.length<=9000000000000000
 zn:n.kids.length<=9000000000000000
 kl:∀ k∈n.ks,k.length<=9000000000000000
 vl:∀ k∈n.vs,k.length<=9000000000000000
variable{L':RL}
theorem NV.mono {n:Nd}{v1 v2 v3:Value}(h:NV L n v1 v2 v3)(hm:∀ p,p∈L->p∈L'):NV L' n v1 v2 v3:=⟨h.k.mono hm,h.v.mono hm,h.z.mono hm,h.kn,h.vn,h.zn,h.kl,h.vl⟩
theorem NV.cons {x:Nat×aG}{n:Nd}{v1 v2 v3:Value}(h:NV L n v1 v2 v3):NV (x::L) n v1 v2 v3:=h.mono fun _ hp=>List.mem_cons_of_mem _ hp
abbrev j7(b:Bool)(v1 v2 v3:Value):Value:=.agg #[.bool b,v1,v2,v3]
abbrev an(b:Bool)(v1 v2 v3:Value):aG:=.cells 183 [.bool b,v1,v2,v3]
theorem lj {n:Nd}{v1 v2 v3:Value}(h:NV L n v1 v2 v3):CS Tryz.prog 177 [j7 n.leaf v1 v2 v3] L fun u L'=>u=.bool (bW n)/\L'=L:=by
 suffices g:CS Tryz.prog 177 [j7 n.leaf v1 v2 v3] L fun u L'=>u=.bool (bW n)/\∃ x,L'=x::L by
  exact g.less fun u L' ⟨h1,x,h2⟩=>⟨L,by rw[h2];exact ar.tail,h1,rfl⟩
 have hkn:=h.kn
 have hvn:=h.vn
 have hzn:=h.zn
 obtain⟨lf,ks,vs,kids⟩:=n
 simp only at hkn hvn hzn
 refine yF Tryz.f177 ?_
 refine yX 1 ?_
 refine yN fun rn=>?_
 refine yX 2 ?_
 have h:=h.cons (x:=(rn,an lf v1 v2 v3))
 obtain⟨hk,hv,hz,_,_,_,hkl,hvl⟩:=h
 simp only at hk hv hz hkl hvl
 refine yX 3 ?_
 refine yA yH (wF hk hkn hkl) ?_
 rintro u L' ⟨rfl,rfl⟩
 refine yX 3 ?_
 unfold bW
 cases hr:rise [] ks with
 | false =>
  simp only
  repeat refine xQ ?_
  refine xC rfl ?_ ?_ <;> intro h
  ·refine yX 4 ?_
   exact⟨rfl,_,rfl⟩
  cases h
 | true =>
  simp only
  refine yX 2 ?_
  cases lf with
  | true =>
   refine yX 5 ?_
   by_cases h1:vs.length=ks.length
   ·have b1:bc (vs.length:Int) (ks.length:Nat)=true:=gn.trans (decide_eq_true h1)
    by_cases h2:kids.length=0
    ·have b2:bc (kids.length:Int) (0:Nat)=true:=gn.trans (decide_eq_true h2)
     have hb:(!vs.any (fun s=>decide (64<s.length)))=vs.all (fun s=>decide (s.length<=64)):=by
      rw[List.all_eq_not_any_not];congr 2;funext s;by_cases h:s.length<=64 <;> simp[h] <;> omega
     refine yX 3 ?_
     refine yP (az hv rfl rfl rfl rfl rfl) ?_
     refine yX 2 ?_
     refine yP (az hk rfl rfl rfl rfl rfl) ?_
     refine yI b1 ?_
     refine yX 3 ?_
     refine yP (az hz rfl rfl rfl rfl rfl) ?_
     refine yI b2 ?_
     refine yX 4 ?_
     refine yA yH ((AR (p:=fun s=>decide (64<s.length)) hv hvn (fun s hs=>AD (hvl s hs)))) ?_
     rintro u L' ⟨rfl,rfl⟩
     refine yX 1 ?_
     refine yI hb ?_
     refine yX 4 ?_
     exact⟨by simp[h1,h2,cj],_,rfl⟩
    have b2:bc (kids.length:Int) (0:Nat)=false:=gn.trans (decide_eq_false h2)
    refine yX 3 ?_
    refine yP (az hv rfl rfl rfl rfl rfl) ?_
    refine yX 2 ?_
    refine yP (az hk rfl rfl rfl rfl rfl) ?_
    refine yI b1 ?_
    refine yX 3 ?_
    refine yP (az hz rfl rfl rfl rfl rfl) ?_
    refine yI b2 ?_
    refine yX 10 ?_
    exact⟨by simp[h2,cj],_,rfl⟩
   have b1:bc (vs.length:Int) (ks.length:Nat)=false:=gn.trans (decide_eq_false h1)
   refine yX 3 ?_
   refine yP (az hv rfl rfl rfl rfl rfl) ?_
   refine yX 2 ?_
   refine yP (az hk rfl rfl rfl rfl rfl) ?_
   refine yI b1 ?_
   refine yX 15 ?_
   exact⟨by simp[h1,cj],_,rfl⟩
  | false =>
   refine yX 6 ?_
   by_cases h1:kids.length=ks.length+1
   ·have b1:bc (kids.length:Int) ((ks.length+1:Nat):Int)=true:=gn.trans (decide_eq_true h1)
    by_cases h2:vs.length=0
    ·have b2:bc (vs.length:Int) (0:Nat)=true:=gn.trans (decide_eq_true h2)
     have hb:(!kids.any pK)=kids.all (fun z=>decide (0<=z/\z<=32768)):=by
      rw[List.all_eq_not_any_not];congr 2;funext s;unfold pK;by_cases h:0<=s/\s<=32768 <;> simp[h] <;> omega
     refine yX 3 ?_
     refine yP (az hz rfl rfl rfl rfl rfl) ?_
     refine yX 2 ?_
     refine yP (az hk rfl rfl rfl rfl rfl) ?_
     refine yP (a8 (m:=ks.length) (n:=1) rfl rfl rfl (ak (by omega) (by omega))) ?_
     refine yI b1 ?_
     refine yX 3 ?_
     refine yP (az hv rfl rfl rfl rfl rfl) ?_
     refine yI b2 ?_
     refine yX 4 ?_
     refine yA yH ((AS (p:=pK) hz hzn (fun z _=>Fy))) ?_
     rintro u L' ⟨rfl,rfl⟩
     refine yX 1 ?_
     refine yI hb ?_
     refine yX 4 ?_
     exact⟨by simp[h1,h2,cj],_,rfl⟩
    have b2:bc (vs.length:Int) (0:Nat)=false:=gn.trans (decide_eq_false h2)
    refine yX 3 ?_
    refine yP (az hz rfl rfl rfl rfl rfl) ?_
    refine yX 2 ?_
    refine yP (az hk rfl rfl rfl rfl rfl) ?_
    refine yP (a8 (m:=ks.length) (n:=1) rfl rfl rfl (ak (by omega) (by omega))) ?_
    refine yI b1 ?_
    refine yX 3 ?_
    refine yP (az hv rfl rfl rfl rfl rfl) ?_
    refine yI b2 ?_
    refine yX 10 ?_
    exact⟨by simp[h2,cj],_,rfl⟩
   have b1:bc (kids.length:Int) ((ks.length+1:Nat):Int)=false:=gn.trans (decide_eq_false h1)
   refine yX 3 ?_
   refine yP (az hz rfl rfl rfl rfl rfl) ?_
   refine yX 2 ?_
   refine yP (az hk rfl rfl rfl rfl rfl) ?_
   refine yP (a8 (m:=ks.length) (n:=1) rfl rfl rfl (ak (by omega) (by omega))) ?_
   refine yI b1 ?_
   refine yX 15 ?_
   exact⟨by simp[h1,cj],_,rfl⟩
end Go.Proofs.YtoaojmobnbbnmaaGreat
end
section
namespace Go.Am
section
variable{P:Program}{o:Oper}{a:ah}{x y:Operand}{t z:TypeId}
variable{k':IntKind}
theorem Gr {k:IntKind}{m s:Nat}(ho:o.op=.binOp .shr t x y z)(hx:aX a x=some (.int k (m:Int)))(hy:aX a y=some (.int k' (s:Int)))(hs:s<=k.bits):∀ h,aI P a o h=some (.val (.int k ((m/2^s:Nat):Int)) h):=by
 intro h
 have h0:av 0 (s:Int)=true:=au.2 (by omega)
 have h1:(m:Int).fdiv ((2^(min s k.bits):Nat):Int)=((m/2^s:Nat):Int):=by
  rw[Nat.min_eq_left hs,Int.fdiv_eq_ediv_of_nonneg _ (Int.natCast_nonneg _)];rfl
 simp only[aI,ho,hx,hy,fN,iH,h0,Int.toNat_natCast,h1,ret]
end
end Go.Am
namespace Go.Proofs.YtoaojmobnbbnmaaGreat
open Go.Am
theorem lh(s:List UInt8):(!cB s s)=false:=by rw[cH];simp
variable{L:RL}
theorem DX (s:List UInt8):CS Tryz.prog 252 [bb s] L fun u L'=>u=.bool false/\L'=L:=by
 refine yF Tryz.f252 ?_
 refine yX 6 ?_
 refine yI (lh s) ?_
 refine yX 3 ?_
 exact⟨rfl,rfl⟩
theorem vP (s:List UInt8):CS Tryz.prog 231 [bb s] L fun u L'=>u=.bool false/\L'=L:=by
 refine yF Tryz.f231 ?_
 refine yX 6 ?_
 refine yI (lh s) ?_
 refine yX 3 ?_
 exact⟨rfl,rfl⟩
theorem I9 (s t:List UInt8):CS Tryz.prog 230 [bb s,bb t] L fun u L'=>u=.bool (aq s t)/\L'=L:=by
 refine yF Tryz.f230 ?_
 refine yX 5 ?_
 refine yA yH (DX s) ?_
 rintro u L₁ ⟨rfl,e₁⟩
 subst e₁
 refine yX 14 ?_
 exact⟨rfl,rfl⟩
variable{v:Value}
theorem Ej {l key:List UInt8}{ks:List (List UInt8)}(hv:SV 1 L v ks.length (tx ks))(hn:ks.length<=1000000000000000)(hr:rise l ks=true) :
  CS Tryz.prog 192 [v,bb key] L fun u L'=>u=.tuple #[.int .i64 (ag key ks:Nat),.bool (mQ key ks)]/\L'=L:=by
 refine yF Tryz.f192 ?_
 refine yX 6 ?_
 refine yP (az hv rfl rfl rfl rfl rfl) ?_
 refine yX 8 ?_
 refine LS.loopJ [0,1,6,7,8] (fun q a L'=>∃ i j:Nat,q=j-i/\i<=j/\j<=ks.length/\(∀ m k,m<i->ks[m]?=some k->aq k key=true)/\(∀ m k,j<=m->ks[m]?=some k->aq k key=false)/\L'=L /\
  a=[v,bb key,yC,yC,yC,yC,.int .i64 (ks.length:Nat),.int .i64 (i:Nat),.int .i64 (j:Nat),yC,yC,yC,yC,yC,yC,yC,yC,yC,yC,yC,yC,yC,yC,yC,yC,yC,yC,yC,yC,yC,yC,yC,yC,yC,yC,yC,yC,yC,yC,yC,yC,yC,yC,yC,yC,yC,yC,yC,yC,yC,yC,yC,yC,yC]) (n:=ks.length) rfl ⟨0,ks.length,rfl,by omega,by omega,fun m k h=>by omega,fun m k h hk=>by have:=(List.getElem?_eq_some_iff.1 hk).1;omega,rfl,rfl⟩ ?_
 rintro q a L' ⟨i,j,rfl,hij,hj,h1,h2,rfl,rfl⟩
 refine yV 5 ?_
 refine xC rfl ?_ ?_ <;> intro hc
 ·have hc:(i:Int)<j:=cg hc
  have hm:(i+j)/2<ks.length:=by omega
  have hsum:((i:Int)+(j:Int))=((i+j:Nat):Int):=by omega
  refine yX 5 ?_
  refine yP (a8 (m:=i) (n:=j) rfl rfl rfl (ak (by omega) (by omega))) ?_
  refine yP (c8 (n:=i+j) rfl rfl rfl rfl (eT (by omega) (by omega))) ?_
  refine yP (Gr (k:=.u64) (m:=i+j) (s:=1) rfl rfl rfl (by decide)) ?_
  refine yP (c8 (n:=(i+j)/2^1) rfl rfl rfl rfl (ak (by omega) (by omega))) ?_
  rw[show (i+j)/2^1=(i+j)/2 from rfl]
  refine yX 5 ?_
  refine OS.at1 (j:=(i+j)/2) hv (gJ hm) rfl rfl rfl rfl rfl rfl (fun r0 o0 row0 cs0 m0 c0 g0=>?_)
  refine yX 1 ?_
  refine yR (aa m0 c0 rfl rfl (ap rfl g0)) ?_
  refine yX 1 ?_
  refine yA yH (I9 ks[(i+j)/2] key) ?_
  rintro u L₁ ⟨rfl,e₁⟩
  subst e₁
  refine yX 2 ?_
  have hat:=List.getElem?_eq_getElem hm
  cases hb:aq ks[(i+j)/2] key with
  | true =>
   repeat refine xQ ?_
   refine xC rfl ?_ ?_ <;> intro h
   ·refine yX 2 ?_
    refine yP (a8 (m:=(i+j)/2) (n:=1) rfl rfl rfl (ak (by omega) (by omega))) ?_
    refine yX 2 ?_
    refine⟨j-((i+j)/2+1),by omega,(i+j)/2+1,j,rfl,by omega,hj,fun m k hmi hk=>?_,h2,rfl,rfl⟩
    rcases Nat.lt_or_ge m ((i+j)/2) with h3|h3
    ·have h4:=dw hr hk hat h3
     exact lt_trans h4 hb
    have:m=(i+j)/2:=by omega
    subst this
    rw[hat]at hk
    cases hk
    exact hb
   cases h
  | false =>
   refine yX 1 ?_
   refine yX 4 ?_
   refine⟨(i+j)/2-i,by omega,i,(i+j)/2,rfl,by omega,by omega,h1,fun m k hmi hk=>?_,rfl,rfl⟩
   rcases Nat.lt_or_ge ((i+j)/2) m with h3|h3
   ·have h4:=dw hr hat hk h3
    cases h5:aq k key with
    | false=>rfl
    | true=>rw[lt_trans h4 h5]at hb;cases hb
   have:m=(i+j)/2:=by omega
   subst this
   rw[hat]at hk
   cases hk
   exact hb
 have hc:(j:Int)<=(i:Int):=bz hc
 have hie:i=j:=by omega
 subst hie
 have hbe:=G4 hr hj h1 h2
 subst hbe
 refine LS.exit ?_
 by_cases hlt:ag key ks<ks.length
 ·have hb1:(!av (ks.length:Int) (ag key ks:Nat))=true:=by rw[am];simp;omega
  have hat:=List.getElem?_eq_getElem hlt
  by_cases he:ks[ag key ks]=key
  ·have hb2:cB ks[ag key ks] key=true:=by rw[D2];simp[he]
   have hi:mQ key ks=true:=by unfold mQ;rw[hat,he];simp
   refine yX 4 ?_
   refine yI hb1 ?_
   refine yX 3 ?_
   refine OS.at1 (j:=ag key ks) hv (gJ hlt) rfl rfl rfl rfl rfl rfl (fun r0 o0 row0 cs0 m0 c0 g0=>?_)
   refine yX 1 ?_
   refine yR (aa m0 c0 rfl rfl (ap rfl g0)) ?_
   refine yX 1 ?_
   refine yI hb2 ?_
   refine yX 16 ?_
   exact⟨by rw[hi];rfl,rfl⟩
  have hb2:cB ks[ag key ks] key=false:=by rw[D2];simp[he]
  have hi:mQ key ks=false:=by unfold mQ;rw[hat];simp[he]
  refine yX 4 ?_
  refine yI hb1 ?_
  refine yX 3 ?_
  refine OS.at1 (j:=ag key ks) hv (gJ hlt) rfl rfl rfl rfl rfl rfl (fun r0 o0 row0 cs0 m0 c0 g0=>?_)
  refine yX 1 ?_
  refine yR (aa m0 c0 rfl rfl (ap rfl g0)) ?_
  refine yX 1 ?_
  refine yI hb2 ?_
  refine yX 3 ?_
  refine OS.at1 (j:=ag key ks) hv (gJ hlt) rfl rfl rfl rfl rfl rfl (fun r0 o0 row0 cs0 m0 c0 g0=>?_)
  refine yX 1 ?_
  refine yR (aa m0 c0 rfl rfl (ap rfl g0)) ?_
  refine yA yH (vP _) ?_
  rintro u L₁ ⟨rfl,e₁⟩
  subst e₁
  refine yX 11 ?_
  exact⟨by rw[hi];rfl,rfl⟩
 have hb1:(!av (ks.length:Int) (ag key ks:Nat))=false:=by rw[am];simp;omega
 have hi:mQ key ks=false:=by unfold mQ;rw[List.getElem?_eq_none (by omega)];simp
 refine yX 4 ?_
 refine yI hb1 ?_
 refine yX 23 ?_
 exact⟨by rw[hi];rfl,rfl⟩
def sQ(n:Nd)(key:List UInt8):Value:=if bW n=true then .tuple #[.int .i64 (ag key n.ks:Nat),.bool (mQ key n.ks)] else .tuple #[.int .i64 0,.bool false]
theorem lV {n:Nd}(h:bW n=true):rise [] n.ks=true:=by unfold bW at h;simp at h;exact h.1
theorem oK {n:Nd}{v1 v2 v3:Value}{key:List UInt8}(h:NV L n v1 v2 v3)(hs:n.ks.length<=1000000000000000):CS Tryz.prog 146 [j7 n.leaf v1 v2 v3,bb key] L fun u L'=>u=sQ n key/\L'=L:=by
 suffices g:CS Tryz.prog 146 [j7 n.leaf v1 v2 v3,bb key] L fun u L'=>u=sQ n key/\∃ x,L'=x::L by
  exact g.less fun u L' ⟨h1,x,h2⟩=>⟨L,by rw[h2];exact ar.tail,h1,rfl⟩
 refine yF Tryz.f146 ?_
 refine yX 1 ?_
 refine yN fun rn=>?_
 refine yX 3 ?_
 have h:=h.cons (x:=(rn,an n.leaf v1 v2 v3))
 refine yX 2 ?_
 refine yA yH (lj h) ?_
 rintro u L₁ ⟨rfl,e₁⟩
 subst e₁
 refine yX 3 ?_
 unfold sQ
 cases hm:bW n with
 | false =>
  rw[if_neg (by decide)]
  repeat refine xQ ?_
  refine xC rfl ?_ ?_ <;> intro hc
  ·refine yX 5 ?_
   exact⟨rfl,_,rfl⟩
  cases hc
 | true =>
  rw[if_pos rfl]
  refine yX 6 ?_
  refine yA yH (Ej (key:=key) h.k hs (lV hm)) ?_
  rintro u L₁ ⟨rfl,e₁⟩
  subst e₁
  refine yX 7 ?_
  exact⟨rfl,_,rfl⟩
end Go.Proofs.YtoaojmobnbbnmaaGreat
end
section
namespace Go.Am
section
variable{P:Program}{o:Oper}{a:ah}{L:RL}
def VL(e:TypeId)(sz r:Nat)(X:RL)(v:Value)(m:Nat)(new:List Value):Prop :=
 (m=0/\new=[]/\X=[]/\v=.slice (some ⟨r,0,none⟩) 0 0)∨∃ r',X=[(r',.cells e new)]/\v=.slice (some ⟨r',0,none⟩) m ae/\new.length=m*sz
variable{sz r:Nat}
theorem SV.void {row:aG}{cs:List Value}(hm:(r,row)∈L)(hc:dV row=some cs):SV sz L (.slice (some ⟨r,0,none⟩) 0 0) 0 [] :=
 .inr ⟨r,0,0,row,cs,rfl,hm,hc,by rw[Nat.zero_mul];exact zz⟩
theorem u9 {c:Call}{e:TypeId}{sz bts m r:Nat}{x:Value}{new:List Value}(hv0:SV sz L (.slice (some ⟨r,0,none⟩) 0 0) 0 [])(hs:SV sz L x m new)(hone:aM new=true)(ho:o.op=.call c)(hT:m7 P c=some (e,sz,bts))(ha:ky a c.args.toList=some [.slice (some ⟨r,0,none⟩) 0 0,x])
  (hsm:m*bts<=1000000000000) (hsm2:m<=1000000000000) :
  ∀ h,bp h L->∃ v h₁ L₁,aI P a o h=some (.val v h₁)/\bp h₁ L₁/\∃ X,L₁=X++L/\VL e sz r X v m new:=by
 intro h H
 have hn1:=hs.lenB
 have hf:b6 sz m x h=some new:=hs.first H
 have hf0:b6 sz 0 (.slice (some ⟨r,0,none⟩) 0 0) h=some []:=hv0.first H
 have hone':(aM new&&(notText x||Nat.beq sz 1))=true:=by rw[hone,hs.notText];rfl
 unfold m7 at hT
 split at hT
 case h_2=>cases hT
 rename_i hcal
 split at hT
 case h_2=>cases hT
 rename_i st xt hst hxt
 split at hT
 case h_2=>cases hT
 rename_i e' xd hu1 hu2
 have hxd:(∀ k,xd=.int k->False)/\∃ i,P.info? e'=some i/\gg P e'=true/\e'=e/\i.size=sz/\i.bytes=bts:=by
  split at hT
  ·cases hT
  rename_i hno
  split at hT
  case h_2=>cases hT
  rename_i i hi hz
  simp at hT
  obtain⟨rfl,rfl,rfl⟩:=hT
  exact⟨fun k hk=>hno k hk,i,hi,hz,rfl,rfl,rfl⟩
 obtain⟨hno,i,hi,hz,rfl,rfl,rfl⟩:=hxd
 have hs':aB P e'=some i.size:=by unfold aB;rw[hi]
 rcases Nat.eq_zero_or_pos m with h0|hpos
 ·subst h0
  have hnew:new=[]:=List.eq_nil_of_length_eq_zero (by have:=hs.len;omega)
  subst hnew
  refine⟨.slice (some ⟨r,0,none⟩) 0 0,h,L,?_,H,[],rfl,.inl ⟨rfl,rfl,rfl,rfl⟩⟩
  simp only[aI,ho,ha,bB,hcal,fM,hst,hxt,hu1,hu2]
  cases xd <;> first|exact (hno _ rfl).elim|skip
  all_goals
   simp only[hi,hn1,hf,hone']
   rfl
 obtain⟨h₁,e₁⟩:=h.new_some (.cells e' new)
 refine⟨.slice (some ⟨h.next,0,none⟩) m ae,h₁,_,?_,H.new e₁,[(h.next,.cells e' new)],rfl,.inr ⟨_,rfl,rfl,hs.len⟩⟩
 have b2:Nat.ble m 1000000000000=true:=Nat.ble_eq_true_of_le hsm2
 have hgrow:gQ P h e' (0+m) [] new=some (.slice (some ⟨h.next,0,none⟩) m ae,h₁):=by
  simp only[gQ,i4,hz,Nat.zero_add,b2,Bool.and_self,cf,hs',List.nil_append,e₁]
 simp only[aI,ho,ha,bB,hcal,fM,hst,hxt,hu1,hu2]
 cases xd <;> first|exact (hno _ rfl).elim|skip
 all_goals
  simp only[hi,hn1,hf,hone']
  have hc:Nat.beq 0 ae=false:=aK (by decide)
  have b0:Nat.ble (0+m) 0=false:=by
   cases hb:Nat.ble (0+m) 0 with
   | false=>rfl
   | true=>have:=bk hb;omega
  have b1:dN (0+m+0) i.bytes=true:=by unfold dN;exact Nat.ble_eq_true_of_le (by simpa using hsm)
  simp only[hc,b0,hf0,b1,hgrow,fx]
end
end Go.Am
namespace Go.Proofs.YtoaojmobnbbnmaaGreat
open Go.Am
theorem ik:∀ ts:List (List UInt8),aM (tx ts)=true
 | []=>rfl
 | t::r=>by simp only[tx,List.map_cons,aM];exact ik r
theorem ld:∀ zs:List Int,aM (bx zs)=true
 | []=>rfl
 | z::r=>by simp only[bx,List.map_cons,aM];exact ld r
end Go.Proofs.YtoaojmobnbbnmaaGreat
end
namespace Go.Proofs.YtoaojmobnbbnmaaGreat
open Go.Am
abbrev ez(bs:List UInt8):aG:=.cells 5 (ab bs)
abbrev En(r:Nat)(bs:List UInt8):Value:=.slice (some ⟨r,0,none⟩) bs.length ae
variable{L:RL}{r:Nat}{bs:List UInt8}
theorem ja:SV 1 ((r,ez bs)::L) (En r bs) bs.length (ab bs):=SV.row (List.mem_cons_self ..) (by rw[ao];omega)
theorem DD {l:List Int}(h:0<l.length):l[0]=l.headD 0:=by cases l with
 | nil=>simp at h
 | cons c r=>rfl
theorem l7 {m:Nat}(h:m<=2147483647):cnt (m:Int)=iM m:=by unfold cnt;rw[if_pos (by omega)];rfl
theorem xg {s:List UInt8}(hs:s.length<=200000):CS Tryz.prog 157 [.slice none 0 0,bb s] L fun v L'=>∃ r,v=En r (tB s)/\L'=(r,ez (tB s))::L:=by
 refine (Kx (n:=0) (bs:=[]) hs (.inl ⟨rfl,rfl,rfl⟩) (by omega)).mono ?_
 rintro v L' ⟨r,rfl,rfl⟩
 rw[l7 (by omega)]
 exact⟨r,by rw[Nat.zero_add];unfold En tB;rw[List.length_append],rfl⟩
theorem Eh {z:Int}:CS Tryz.prog 101 [.slice none 0 0,.int .i64 z] L fun v L'=>∃ r,v=En r (cnt z)/\L'=(r,ez (cnt z))::L:=by
 refine (jW (n:=0) (bs:=[]) z (.inl ⟨rfl,rfl,rfl⟩) (by omega)).mono ?_
 rintro v L' ⟨r,rfl,rfl⟩
 exact⟨r,by rw[Nat.zero_add],rfl⟩
variable{rn:Nat}
theorem IX {b:Bool}{v1 v2 v3:Value}{vs:List (List UInt8)}{j:Nat}(hm:(rn,an b v1 v2 v3)∈L)(hv:SV 1 L v2 vs.length (tx vs))(hj:j<vs.length)(hl:vs[j].length<=200000) :
  CS Tryz.prog 238 [.int .i64 (j:Nat),.pointer (some ⟨rn,0,none⟩)] L fun v L'=>∃ r,v=En r (tB vs[j])/\L'=(r,ez (tB vs[j]))::L:=by
 refine yF Tryz.f238 ?_
 refine yX 5 ?_
 refine yR (aa hm rfl rfl rfl rfl) ?_
 refine yX 1 ?_
 refine OS.at1 (j:=j) hv (gJ hj) rfl rfl rfl rfl rfl rfl (fun r0 o0 row0 cs0 m0 c0 g0=>?_)
 refine yX 1 ?_
 refine yR (aa m0 c0 rfl rfl (ap rfl g0)) ?_
 refine yA yH (xg hl) ?_
 rintro u L₁ ⟨r,rfl,rfl⟩
 refine yX 4 ?_
 exact⟨r,rfl,rfl⟩
theorem IW {b:Bool}{v1 v2 v3:Value}{zs:List Int}{j:Nat}(hm:(rn,an b v1 v2 v3)∈L)(hv:SV 1 L v3 zs.length (bx zs))(hn:zs.length<=9000000000000000)(hj:j+1<zs.length) :
  CS Tryz.prog 239 [.int .i64 (j:Nat),.pointer (some ⟨rn,0,none⟩)] L fun v L'=>∃ r,v=En r (cnt zs[j+1])/\L'=(r,ez (cnt zs[j+1]))::L:=by
 refine yF Tryz.f239 ?_
 refine yX 5 ?_
 refine yR (aa hm rfl rfl rfl rfl) ?_
 refine yX 1 ?_
 refine yP (a8 (m:=j) (n:=1) rfl rfl rfl (ak (by omega) (by omega))) ?_
 refine OS.at1 (j:=j+1) hv (iY hj) rfl rfl rfl rfl rfl rfl (fun r0 o0 row0 cs0 m0 c0 g0=>?_)
 refine yX 1 ?_
 refine yR (aa m0 c0 rfl rfl (ap rfl g0)) ?_
 refine yA yH Eh ?_
 rintro u L₁ ⟨r,rfl,rfl⟩
 refine yX 4 ?_
 exact⟨r,rfl,rfl⟩
theorem w9 {n:Nd}{v1 v2 v3:Value}(h:NV L n v1 v2 v3)(hm:bW n=true)(hn:n.ks.length<=1000000) :
  CS Tryz.prog 199 [j7 n.leaf v1 v2 v3] L fun u L'=>∃ r,u=En r (aE n)/\L'=(r,ez (aE n))::L:=by
 suffices g:CS Tryz.prog 199 [j7 n.leaf v1 v2 v3] L fun u L'=>∃ r x,u=En r (aE n)/\L'=(r,ez (aE n))::x::L by
  exact g.less fun u L' ⟨r,x,h1,h2⟩=>⟨_,by rw[h2];exact ar.cons ar.tail,r,h1,rfl⟩
 have hle:=CD hm hn
 have hbl:=oD hm
 have hkl:=jl hm
 have hble:=G5 hm
 refine yF Tryz.f199 ?_
 refine yX 1 ?_
 refine yN fun rn=>?_
 refine yX 2 ?_
 have h0:=h
 have h:=h.cons (x:=(rn,an n.leaf v1 v2 v3))
 repeat refine xQ ?_
 refine LS.drawn noGo mixed [(0,false),(1,false),(3,false),(4,false),(5,false),(2,true),(6,true),(7,false)] rfl rfl (by kernel_rfl) ?_
 refine yX 4 ?_
 refine yQ rfl (az h.k rfl rfl rfl rfl rfl) ?_
 refine yO rfl yH ((xk (n:=0) (bs:=[]) n.leaf (.inl ⟨rfl,rfl,rfl⟩) (by omega))) ?_
 rintro u L' ⟨r,rfl,rfl⟩
 refine⟨_,rfl,ai.cons rfl (aA 1 rfl rfl rfl rfl rfl) (ai.gone rfl ai.nil),?_⟩
 refine yO rfl yH ((jW (n:=0+1) (bs:=[]++[if n.leaf then 1 else 0]) (n.ks.length:Int) (SV.row (List.mem_cons_self ..) (by simp[ab])) (by omega))) ?_
 rintro u L' ⟨r1,rfl,rfl⟩
 refine⟨_,rfl,ai.gone rfl (ai.gone rfl ai.nil),?_⟩
 rw[l7 (by omega)]
 refine yX 2 ?_
 have hhead:[]++[if n.leaf then (1:UInt8) else 0]++iM n.ks.length=gO n:=rfl
 rw[hhead]
 have hhl:0+1+(iM n.ks.length).length=(gO n).length:=by unfold gO;simp;omega
 rw[hhl]
 refine yX 1 ?_
 refine OS.sub (ar.drop 1 rfl) ?_
 refine yV 8 ?_
 refine LS.mid [1,3,4] (fun a L'=>∃ rb acc f,L'=(rb,ez acc)::(rn,an n.leaf v1 v2 v3)::L/\acc++bi n.ks (cC n)=aE n /\
  (∀ (j:Nat) (hj:j<(cC n).length) (r0:Nat) (acc0:List UInt8),CS Tryz.prog f [.int .i64 (j:Nat),.pointer (some ⟨rn,0,none⟩)] ((r0,ez acc0)::(rn,an n.leaf v1 v2 v3)::L) fun v L'=>∃ r,v=En r (cC n)[j]/\L'=(r,ez (cC n)[j])::(r0,ez acc0)::(rn,an n.leaf v1 v2 v3)::L) /\
  a=[yC,.pointer (some ⟨rn,0,none⟩),yC,En rb acc,.func (.func f) #[] #[.pointer (some ⟨rn,0,none⟩)],yC,yC,yC,yC,yC,yC,yC,yC,yC,yC,yC,yC,yC,yC,yC,yC,yC,yC,yC,yC,yC,yC,yC,yC,yC,yC,yC,yC,yC,yC,yC,yC,yC,yC,yC,yC,yC,yC,yC]) ?_ ?_
 ·refine xC (b:=!n.leaf) rfl (fun hc=>?_) (fun hc=>?_)
  ·have hlf:n.leaf=false:=by simpa using hc
   obtain⟨hkn,hv0,hkz⟩:=cl hm hlf
   have hk0:0<n.kids.length:=by omega
   have hz:=h.z
   refine yX 4 ?_
   refine OS.at1 (j:=0) (hz.cons (x:=(r1,ez (gO n)))) (iY hk0) rfl rfl rfl rfl rfl rfl (fun r0 o0 row0 cs0 m0 c0 g0=>?_)
   refine yX 1 ?_
   refine yR (aa m0 c0 rfl rfl (ap rfl g0)) ?_
   refine yA yH ((jW (n:=(gO n).length) (bs:=gO n) n.kids[0] (SV.row (List.mem_cons_self ..) (by rw[ao];omega)) (by unfold aE at hle;simp at hle;omega))) ?_
   rintro u L' ⟨r2,rfl,rfl⟩
   refine yX 1 ?_
   refine OS.sub (ar.drop 1 rfl) ?_
   refine yX 6 ?_
   refine⟨r2,gO n++cnt n.kids[0],_,rfl,?_,fun j hj r0 acc0=>?_,by unfold En;rw[List.length_append];rfl⟩
   ·unfold aE co
    rw[hlf,if_neg (by decide),List.append_assoc]
    congr 3
    exact DD hk0
   have hj':j+1<n.kids.length:=by rw[hbl]at hj;omega
   have hb:(cC n)[j]=cnt n.kids[j+1]:=by
    simp only[cC,hlf]
    simp
   rw[hb]
   exact IW (List.mem_cons_of_mem _ (List.mem_cons_self ..)) hz.cons h.zn hj'
  have hlf:n.leaf=true:=by simpa using hc
  obtain⟨hvn,hkn,hvl⟩:=de hm hlf
  have hvv:=h.v
  refine LS.skip ?_
  refine⟨r1,gO n,_,rfl,?_,fun j hj r0 acc0=>?_,rfl⟩
  ·unfold aE co
   rw[hlf,if_pos rfl,List.nil_append]
  have hj':j<n.vs.length:=by rw[hbl]at hj;omega
  have hb:(cC n)[j]=tB n.vs[j]:=by
   simp only[cC,hlf]
   simp
  rw[hb]
  exact IX (List.mem_cons_of_mem _ (List.mem_cons_self ..)) hvv.cons hj' (by have:=hvl _ (List.getElem_mem hj');omega)
 rintro a L' ⟨rb,acc,f,rfl,hacc,hf,rfl⟩
 refine yX 3 ?_
 refine yP (az (h.k.cons (x:=(rb,ez acc))) rfl rfl rfl rfl rfl) ?_
 refine yX 3 ?_
 refine LS.loopJ [1,3,4,26,27,28] (fun q a L'=>∃ j rb acc,q=n.ks.length-j/\j<=n.ks.length/\L'=(rb,ez acc)::(rn,an n.leaf v1 v2 v3)::L/\acc++bi (n.ks.drop j) ((cC n).drop j)=aE n /\
  a=[yC,.pointer (some ⟨rn,0,none⟩),yC,En rb acc,.func (.func f) #[] #[.pointer (some ⟨rn,0,none⟩)],yC,yC,yC,yC,yC,yC,yC,yC,yC,yC,yC,yC,yC,yC,yC,yC,yC,yC,yC,yC,yC,v1,.int .i64 (n.ks.length:Nat),.int .i64 (j:Nat),yC,yC,yC,yC,yC,yC,yC,yC,yC,yC,yC,yC,yC,yC,yC]) (n:=n.ks.length) rfl ⟨0,rb,acc,rfl,by omega,rfl,hacc,rfl⟩ ?_
 rintro q a L' ⟨j,rb,acc,rfl,hj,rfl,hacc,rfl⟩
 refine yV 3 ?_
 refine xC rfl ?_ ?_ <;> intro hc
 ·have hc:(j:Int)<n.ks.length:=cg hc
  have hjk:j<n.ks.length:=by omega
  have hjb:j<(cC n).length:=by omega
  have hkj:=hkl _ (List.getElem_mem hjk)
  have hbj:=hble _ (List.getElem_mem hjb)
  rw[List.drop_eq_getElem_cons hjk,List.drop_eq_getElem_cons hjb]at hacc
  simp only[bi]at hacc
  have hlen:=congrArg List.length hacc
  simp only[List.length_append]at hlen
  have htl:=gA (s:=n.ks[j]) (by omega)
  refine yX 4 ?_
  refine OS.at1 (j:=j) (h.k.cons (x:=(rb,ez acc))) (gJ hjk) rfl rfl rfl rfl rfl rfl (fun r0 o0 row0 cs0 m0 c0 g0=>?_)
  refine yX 1 ?_
  refine yR (aa m0 c0 rfl rfl (ap rfl g0)) ?_
  refine yX 6 ?_
  refine yA yH (xg (by omega)) ?_
  rintro u L' ⟨r2,rfl,rfl⟩
  refine yX 1 ?_
  refine yM (d7 1 (sz:=1) (bts:=1) (n:=(tB n.ks[j]).length) ja (bX _) rfl rfl rfl (by omega) (by omega) rfl (eQ (by rw[ao];omega)) rfl) fun r3=>?_
  refine OS.sub (ar.drop 1 rfl) ?_
  refine yX 2 ?_
  rw[←dg,←List.length_append]
  refine yX 4 ?_
  refine yA yH (hf j hjb r3 (acc++tB n.ks[j])) ?_
  rintro u L' ⟨r4,rfl,rfl⟩
  refine yX 1 ?_
  refine yM (d7 1 (sz:=1) (bts:=1) (n:=(cC n)[j].length) ja (bX _) rfl rfl rfl (by simp only[List.length_append];omega) (by simp only[List.length_append];omega) rfl (eQ (by rw[ao];omega)) rfl) fun r5=>?_
  refine OS.sub (ar.drop 1 rfl) ?_
  refine yX 2 ?_
  rw[←dg,←List.length_append]
  refine yX 1 ?_
  refine yP (a8 (m:=j) (n:=1) rfl rfl rfl (ak (by omega) (by omega))) ?_
  refine yX 2 ?_
  refine⟨n.ks.length-(j+1),by omega,j+1,r5,acc++tB n.ks[j]++(cC n)[j],rfl,by omega,rfl,?_,rfl⟩
  rw[←hacc]
  simp only[List.append_assoc]
 have hc:(n.ks.length:Int)<=(j:Int):=bz hc
 have hje:j=n.ks.length:=by omega
 subst hje
 rw[List.drop_length]at hacc
 simp only[bi,List.append_nil]at hacc
 subst hacc
 refine LS.exit ?_
 refine yX 5 ?_
 exact⟨rb,_,rfl,rfl⟩
def xW(n:Nd):Value:=.int .i64 (gK n:Nat)
theorem qG {n:Nd}{v1 v2 v3:Value}(h:NV L n v1 v2 v3)(hn:n.ks.length<=1000000):CS Tryz.prog 226 [j7 n.leaf v1 v2 v3] L fun u L'=>u=xW n/\L'=L:=by
 suffices g:CS Tryz.prog 226 [j7 n.leaf v1 v2 v3] L fun u L'=>u=xW n/\∃ X,L'=X++L by
  exact g.less fun u L' ⟨h1,x,h2⟩=>⟨L,by rw[h2];exact ar.suffix,h1,rfl⟩
 refine yF Tryz.f226 ?_
 refine yX 1 ?_
 refine yN fun rn=>?_
 refine yX 2 ?_
 have h:=h.cons (x:=(rn,an n.leaf v1 v2 v3))
 refine yX 2 ?_
 refine yA yH (lj h) ?_
 rintro u L₁ ⟨rfl,e₁⟩
 subst e₁
 refine yX 3 ?_
 unfold xW gK
 cases hm:bW n with
 | false =>
  rw[if_neg (by decide)]
  repeat refine xQ ?_
  refine xC rfl ?_ ?_ <;> intro hc
  ·refine yX 4 ?_
   exact⟨rfl,[_],rfl⟩
  cases hc
 | true =>
  rw[if_pos rfl]
  refine yX 4 ?_
  refine yA yH (w9 h hm hn) ?_
  rintro u L' ⟨r,rfl,rfl⟩
  refine yX 1 ?_
  refine yP (az (ja (L:=[])) rfl rfl rfl rfl rfl) ?_
  refine yX 3 ?_
  exact⟨rfl,[_,_],rfl⟩
theorem Jc {n:Nd}{v1 v2 v3:Value}(h:NV L n v1 v2 v3)(hn:n.ks.length<=1000000):CS Tryz.prog 247 [j7 n.leaf v1 v2 v3] L fun u L'=>u=.bool (aQ n)/\L'=L:=by
 suffices g:CS Tryz.prog 247 [j7 n.leaf v1 v2 v3] L fun u L'=>u=.bool (aQ n)/\∃ X,L'=X++L by
  exact g.less fun u L' ⟨h1,x,h2⟩=>⟨L,by rw[h2];exact ar.suffix,h1,rfl⟩
 refine yF Tryz.f247 ?_
 refine yX 1 ?_
 refine yN fun rn=>?_
 refine yX 2 ?_
 have h:=h.cons (x:=(rn,an n.leaf v1 v2 v3))
 refine yX 2 ?_
 refine yA yH (lj h) ?_
 rintro u L₁ ⟨rfl,e₁⟩
 subst e₁
 unfold aQ
 cases hm:bW n with
 | false =>
  refine yX 10 ?_
  exact⟨rfl,[_],rfl⟩
 | true =>
  refine yX 3 ?_
  refine yA yH (w9 h hm hn) ?_
  rintro u L' ⟨r,rfl,rfl⟩
  have hb:av ((aE n).length:Int) 256=decide ((aE n).length<=256):=by rw[am];by_cases h:(aE n).length<=256 <;> simp[h] <;> omega
  refine yX 1 ?_
  refine yP (az (ja (L:=[])) rfl rfl rfl rfl rfl) ?_
  refine yI hb ?_
  refine yX 4 ?_
  exact⟨rfl,[_,_],rfl⟩
end Go.Proofs.YtoaojmobnbbnmaaGreat
section
namespace Go.Am
variable{e:TypeId}{sz n:Nat}{F L:RL}{v:Value}{cs:List Value}
theorem GV.appendR (X:RL)(g:GV e sz F v n cs L):GV e sz (F++X) v n cs (L++X):=by
 rcases g with ⟨rfl,rfl,rfl,rfl⟩|⟨r,rfl,hl,rfl⟩
 ·exact .inl ⟨rfl,rfl,rfl,rfl⟩
 exact .inr ⟨r,rfl,hl,rfl⟩
end Go.Am
namespace Go.Proofs.YtoaojmobnbbnmaaGreat
open Go.Am
def db(n:Nd)(i:Nat):Nd:=⟨n.leaf,n.ks.eraseIdx i,n.vs.eraseIdx i,n.kids.eraseIdx (i+1)⟩
end Go.Proofs.YtoaojmobnbbnmaaGreat
end
section
namespace Go.Am
section
variable{P:Program}{o:Oper}{a:ah}{L L₁:RL}
theorem Cs(i:Nat){c:Call}{st e e':TypeId}{sz n N r cap:Nat}{x:Value}{cs new cs':List Value}(hs:SV sz L x n new)(hpos:0<n)(hN:n<=N)(hone:aM new=true)(ho:o.op=.call c)(hc:c.callee=.builtin .copy)(ha:ky a c.args.toList=some [.slice (some ⟨r,0,none⟩) N cap,x])
  (ht:c.argTypes[0]?=some st) (hu:P.underlying st=some (.slice e)) (hz:aB P e=some sz) (hL:L[i]?=some (r,.cells e' cs)) (hlay:kO cs 0 new=some cs') (hset:jx L i (r,.cells e' cs')=some L₁):∀ h,bp h L->∃ h₁,aI P a o h=some (.val (.int .i64 n) h₁)/\bp h₁ L₁:=by
 intro h H
 obtain⟨h₁,e₁⟩:=h.put_some r (some (.cells e' cs'))
 have:=eN hset
 subst this
 have hb:Nat.beq n 0=false:=by cases n with|zero=>omega|succ n=>rfl
 have hmin:Nat.min n N=n:=Nat.min_eq_left hN
 refine⟨h₁,?_,H.put hL e₁⟩
 simp only[aI,ho,ha,bB,hc,th,ht,hu,hz,hs.lenB,hmin,hs.first H,hone,hs.notText,hb,H.row hL,hlay,e₁,Bool.true_or,Bool.and_self,fx,goInt]
end
end Go.Am
namespace Go.Proofs.YtoaojmobnbbnmaaGreat
open Go.Am
theorem dj:p6 Tryz.prog 40=some (5,1,1,[.int .u8 0]):=by kernel_rfl
variable{n:Nat}
theorem iV:gj [Value.int .u8 0] n=ab (List.replicate n 0):=by
 rw[k5];simp[ab]
variable{bs:List UInt8}
theorem uH {zs:List UInt8}(h:bs.length<=zs.length):kO (ab zs) 0 (ab bs)=some (ab (bs++zs.drop bs.length)):=by
 rw[gF (by rw[ao,ao];omega)]
 simp[ab,List.map_drop]
def Ls(n:Nd)(L:RL)(v:Value)(L':RL):Prop:=∃ u,v=.tuple #[u,.int .i64 (IC n)] /\
 ((aQ n=false/\u=.slice none 0 0/\L'=L)∨(aQ n=true/\∃ r,u=.slice (some ⟨r,0,none⟩) 256 256/\L'=(r,ez (iR n))::L))
theorem qB {n:Nd}(h:aQ n=true):(iR n).length=256:=by
 unfold iR
 rw[if_pos h]
 unfold aQ at h
 simp at h
 simp
 omega
variable{L:RL}
theorem Ee {n:Nd}{v1 v2 v3:Value}(h:NV L n v1 v2 v3)(hn:n.ks.length<=1000000):CS Tryz.prog 156 [j7 n.leaf v1 v2 v3] L fun u L'=>Ls n L u L':=by
 suffices g:CS Tryz.prog 156 [j7 n.leaf v1 v2 v3] L fun u L'=>∃ L₀ X,Ls n L₀ u L'/\L₀=X++L by
  refine g.less fun u L' ⟨L₀,X,⟨w,h1,h2⟩,h3⟩=>?_
  subst h3
  rcases h2 with ⟨h2,h4,rfl⟩|⟨h2,r,h4,rfl⟩
  ·exact⟨L,ar.suffix,w,h1,.inl ⟨h2,h4,rfl⟩⟩
  exact⟨_,ar.cons ar.suffix,w,h1,.inr ⟨h2,r,h4,rfl⟩⟩
 refine CS.mk (fn:=Tryz.f156) rfl rfl rfl rfl ?_
 repeat refine xQ ?_
 refine xG rfl ?_
 refine OS.fresh rfl (dG (fun _=>rfl) rfl) (fun _=>rfl) (fun rn=>?_)
 iterate 2 refine xP rfl yH rfl ?_
 refine xN ?_
 have h:=h.cons (x:=(rn,an n.leaf v1 v2 v3))
 repeat refine xQ ?_
 refine xG rfl ?_
 refine xR rfl (aA 0 rfl rfl rfl rfl rfl) rfl ?_
 refine xA noGo rfl (fun _=>rfl) ((lj h).mono ?_)
 rintro u L₁ ⟨rfl,e₁⟩
 subst e₁
 refine⟨_,rfl,?_⟩
 refine xP rfl yH rfl ?_
 refine xN ?_
 cases hm:bW n with
 | false =>
  repeat refine xQ ?_
  refine xC rfl (fun hc=>?_) (fun hc=>?_)
  ·repeat refine xQ ?_
   refine xG rfl ?_
   iterate 2 refine xP rfl yH rfl ?_
   refine xN ?_
   refine xT ⟨_,fun _ _=>rfl,?_⟩
   exact⟨_,[_],⟨_,by unfold IC;rw[hm];rfl,.inl ⟨by unfold aQ;rw[hm];rfl,rfl,rfl⟩⟩,rfl⟩
  cases hc
 | true =>
  repeat refine xQ ?_
  refine xC rfl (fun hc=>?_) (fun hc=>?_)
  ·cases hc
  refine LS.skip ?_
  repeat refine xQ ?_
  refine xG rfl ?_
  refine xR rfl (aA 0 rfl rfl rfl rfl rfl) rfl ?_
  refine xA noGo rfl (fun _=>rfl) ((w9 h hm hn).mono ?_)
  rintro u L' ⟨r,rfl,rfl⟩
  refine⟨_,rfl,?_⟩
  refine xP rfl yH rfl ?_
  refine xN ?_
  have hle:=CD hm hn
  have hpos:0<(aE n).length:=by unfold aE gO;simp
  by_cases hl:(aE n).length<=256
  ·have hb:(!av ((aE n).length:Int) 256)=false:=by rw[am];simp;omega
   have hf:aQ n=true:=by unfold aQ;rw[hm,decide_eq_true hl];rfl
   repeat refine xQ ?_
   refine xG rfl ?_
   refine xP rfl yH rfl ?_
   refine xP rfl (az (ja (L:=[])) rfl rfl rfl rfl rfl) rfl ?_
   refine xP rfl (lB yH (hb)) rfl ?_
   refine xN ?_
   repeat refine xQ ?_
   refine xC rfl (fun hc=>?_) (fun hc=>?_)
   ·cases hc
   refine LS.skip ?_
   repeat refine xQ ?_
   refine xG rfl ?_
   refine OS.fresh rfl (f6 (l:=256) (c:=256) rfl rfl rfl dj (Nat.le_refl _) (by omega) (by omega)) (fun _=>rfl) (fun r2=>?_)
   rw[iV]
   refine xP rfl yH rfl ?_
   refine xN ?_
   repeat refine xQ ?_
   refine xG rfl ?_
   iterate 2 refine xP rfl yH rfl ?_
   refine OS.write rfl (Cs 0 (n:=(aE n).length) (N:=256) (sz:=1) (new:=ab (aE n)) ja.cons hpos hl (bX _) rfl rfl rfl rfl rfl rfl rfl (uH (by simpa using hl)) rfl) rfl ?_
   refine xN ?_
   repeat refine xQ ?_
   refine xG rfl ?_
   iterate 3 refine xP rfl yH rfl ?_
   refine xN ?_
   refine xT ⟨_,fun _ _=>rfl,?_⟩
   refine⟨(r,ez (aE n))::(rn,an n.leaf v1 v2 v3)::L,[(r,ez (aE n)),(rn,an n.leaf v1 v2 v3)],⟨_,by unfold IC;rw[if_pos hm,if_pos hl];rfl,.inr ⟨hf,r2,rfl,?_⟩⟩,rfl⟩
   unfold iR
   rw[if_pos hf,List.drop_replicate]
  have hb:(!av ((aE n).length:Int) 256)=true:=by rw[am];simp;omega
  have hf:aQ n=false:=by unfold aQ;rw[decide_eq_false hl,Bool.and_false]
  repeat refine xQ ?_
  refine xG rfl ?_
  refine xP rfl yH rfl ?_
  refine xP rfl (az (ja (L:=[])) rfl rfl rfl rfl rfl) rfl ?_
  refine xP rfl (lB yH (hb)) rfl ?_
  refine xN ?_
  repeat refine xQ ?_
  refine xC rfl (fun hc=>?_) (fun hc=>?_)
  ·repeat refine xQ ?_
   refine xG rfl ?_
   iterate 2 refine xP rfl yH rfl ?_
   refine xN ?_
   refine xT ⟨_,fun _ _=>rfl,?_⟩
   exact⟨_,[_,_],⟨_,by unfold IC;rw[if_pos hm,if_neg hl];rfl,.inl ⟨hf,rfl,rfl⟩⟩,rfl⟩
  cases hc
def ml(v:Value):Prop:=v=.slice none 0 0∨∃ r off n cap,v=.slice (some ⟨r,off,none⟩) n cap
variable{sz:Nat}{v:Value}{cs:List Value}
theorem bC (h:SV sz L v n cs):ml v:=by
 rcases h with ⟨rfl,_⟩|⟨r,off,cap,row,cs₀,rfl,_⟩
 ·exact .inl rfl
 exact .inr ⟨r,off,n,cap,rfl⟩
end Go.Proofs.YtoaojmobnbbnmaaGreat
end
section
namespace Go.Proofs.YtoaojmobnbbnmaaGreat
open Go.Am
open Go.Proofs.YtoaojmobnbbnmaaGreat.T
def E8(s:St):Bool×St:=tk false (pC s.1).1 (pC s.1).2 s
def lQ(most:Int)(s:St):Int×St:=tk (0:Int) ((gI s.1 most).1:Int) (gI s.1 most).2 s
def kL(most:Int)(s:St):List UInt8×St:=tk ([]:List UInt8) (ni s.1 most).1 (ni s.1 most).2 s
def tW(x:Nd×St):Nd×St:=({ x.1 with ks:=x.1.ks++[(kL 32 x.2).1] },(kL 32 x.2).2)
def jg(x:Nd×St):Nd×St:=if x.1.leaf then ({ x.1 with vs:=x.1.vs++[(kL 64 x.2).1] },(kL 64 x.2).2) else ({ x.1 with kids:=x.1.kids++[(lQ 32768 x.2).1] },(lQ 32768 x.2).2)
def k6:Nat->Nd×St->Nd×St
 | 0,x=>x
 | k+1,x=>k6 k (jg (tW x))
def gM(bs:List UInt8):Bool×St:=E8 (bs,false)
def k7(bs:List UInt8):Int×St:=lQ 256 (gM bs).2
def gC(bs:List UInt8):Nd×St:=if (gM bs).1 then (⟨true,[],[],[]⟩,(k7 bs).2) else jg (⟨false,[],[],[]⟩,(k7 bs).2)
def bT(bs:List UInt8):Nd×St:=k6 (k7 bs).1.toNat (gC bs)
theorem nt {α:Type}{z t:α}{k:Nat}{s:St}:(tk z t k s).2.1.length<=s.1.length:=by
 unfold tk
 split
 ·exact Nat.le_refl _
 split
 ·simp
 simp
theorem JI(bs:List UInt8)(most:Int):(ni bs most).1.length<=bs.length:=by
 unfold ni
 split
 ·simp
 simp;omega
variable{most:Int}
theorem E7 {s:St}:(kL most s).1.length<=s.1.length:=by
 unfold kL tk
 split
 ·simp
 split
 ·simp
 exact JI _ _
theorem E9 {s:St}(h:0<=most):0<=(lQ most s).1/\(lQ most s).1<=most:=by
 have:((gI s.1 most).1:Int)<=most:=by
  unfold gI
  split
  ·rename_i hc;exact hc.2.1
  exact h
 unfold lQ tk
 split
 ·exact⟨Int.le_refl _,h⟩
 split
 ·exact⟨Int.le_refl _,h⟩
 exact⟨Int.natCast_nonneg _,this⟩
abbrev rK(rr:Nat):aG:=.cells 167 [.pointer (some ⟨rr,0,none⟩)]
structure RB(B j:Nat)(x:Nd×St):Prop where
 k:x.1.ks.length<=j
 v:x.1.vs.length<=j
 z:x.1.kids.length<=j+1
 kl:∀ k∈x.1.ks,k.length<=B
 vl:∀ k∈x.1.vs,k.length<=B
 s:x.2.1.length<=B
def KL(T M:RL)(rr rn rb ro:Nat)(X:aG)(x:Nd×St)(L':RL):Prop:=∃ v m1 m2 m3 R1 Rb,L'=(rr,aN v x.2.2)::(rn,an x.1.leaf m1 m2 m3)::(rb,rK rr)::(ro,X)::(R1++(Rb++M))/\OV T v x.2.1 /\
 GV 9 1 [] m1 x.1.ks.length (tx x.1.ks) R1 /\
 ((x.1.leaf=true/\GV 9 1 [] m2 x.1.vs.length (tx x.1.vs) Rb/\m3=.slice none 0 0/\x.1.kids=[])∨(x.1.leaf=false/\GV 3 1 [] m3 x.1.kids.length (bx x.1.kids) Rb/\m2=.slice none 0 0/\x.1.vs=[]))
variable{F:RL}
theorem E5 {T:RL}{rr rn rb ro:Nat}{X:aG}{s:St}{lf:Bool}{v m1 m2 m3:Value}{vs:List (List UInt8)}{R:RL}(hT:∀ p,p∈T->p∈F)(hv:OV T v s.1)(hn:s.1.length<=100000)(hg:GV 9 1 [] m2 vs.length (tx vs) R)(hl:vs.length<=100000) :
  CS Tryz.prog 211 [.pointer (some ⟨rn,0,none⟩),.pointer (some ⟨rb,0,none⟩)] ((rr,aN v s.2)::(rn,an lf m1 m2 m3)::(rb,rK rr)::(ro,X)::(R++F)) fun u L'=>∃ v' m' R',L'=(rr,aN v' (kL 64 s).2.2)::(rn,an lf m1 m' m3)::(rb,rK rr)::(ro,X)::(R'++F)/\OV T v' (kL 64 s).2.1/\GV 9 1 [] m' (vs++[(kL 64 s).1]).length (tx (vs++[(kL 64 s).1])) R':=by
 suffices g:CS Tryz.prog 211 [.pointer (some ⟨rn,0,none⟩),.pointer (some ⟨rb,0,none⟩)] ((rr,aN v s.2)::(rn,an lf m1 m2 m3)::(rb,rK rr)::(ro,X)::(R++F)) fun u L'=>∃ v' r' y,
   L'=(r',.cells 9 (tx (vs++[(kL 64 s).1])))::y::(rr,aN v' (kL 64 s).2.2)::(rn,an lf m1 (.slice (some ⟨r',0,none⟩) (vs++[(kL 64 s).1]).length ae) m3)::(rb,rK rr)::(ro,X)::F/\OV T v' (kL 64 s).2.1 by
  refine g.less fun u L' ⟨v',r',y,h1,h2⟩=>⟨_,?_,v',_,[(r',.cells 9 (tx (vs++[(kL 64 s).1])))],rfl,h2,.inr ⟨r',rfl,by simp[tx],rfl⟩⟩
  rw[h1]
  exact ar.trans (ar.drop 5 rfl) (ar.pulls [5,5,5,5] rfl)
 refine yF Tryz.f211 ?_
 repeat refine xQ ?_
 refine LS.drawn noGo mixed [(0,false),(1,false),(2,false),(3,true),(4,true),(5,true),(6,false),(7,true)] rfl rfl (by kernel_rfl) ?_
 refine yX 3 ?_
 refine yO rfl yH ((RStr_ct (T:=T) (bs:=s.1) (f:=s.2) (most:=64) (by decide) (by decide) (fun p hp=>by simp[hT p hp]) hv (by omega))) ?_
 rintro u L' ⟨rfl,v',rfl,hv'⟩
 refine⟨_,rfl,ai.gone rfl (ai.cons rfl (aA 1 rfl rfl rfl rfl rfl) ai.nil),?_⟩
 refine ba.fresh rfl rfl (dG (fun _=>rfl) rfl) (fun _=>rfl) (fun _=>ai.gone rfl (ai.cons rfl (aA 2 rfl rfl rfl rfl rfl) ai.nil)) (fun rq=>?_)
 refine ba.fresh rfl rfl (dz [(rq,_),(rr,_),(rn,_),(rb,_),(ro,_)] (F:=F) (e:=9) (cs:=tx vs) (n:=vs.length) (m:=1) (sz:=1) (bts:=16) (GV.appendR F hg) (SV.row (sz:=1) (n:=1) (List.mem_cons_self ..) rfl) (by omega) rfl rfl rfl rfl (by omega) (by omega)) (fun _=>rfl) (fun _=>ai.gone rfl (ai.gone rfl ai.nil)) (fun r2=>?_)
 refine yX 1 ?_
 refine ba.write rfl rfl (ax 3 rfl rfl rfl rfl rfl rfl rfl rfl) rfl (ai.gone rfl (ai.gone rfl ai.nil)) ?_
 refine yX 1 ?_
 refine⟨_,fun _ _=>rfl,?_⟩
 have e1:tx vs++[bb (kL 64 s).1]=tx (vs++[(kL 64 s).1]):=by simp[tx]
 refine⟨v',r2,(rq,.cells 9 [bb (kL 64 s).1]),?_,hv'⟩
 rw[←e1,List.length_append]
 rfl
theorem E4 {T:RL}{rr rn rb ro:Nat}{X:aG}{s:St}{lf:Bool}{v m1 m2 m3:Value}{vs:List Int}{R:RL}(hT:∀ p,p∈T->p∈F)(hv:OV T v s.1)(hn:s.1.length<=100000)(hg:GV 3 1 [] m3 vs.length (bx vs) R)(hl:vs.length<=100000) :
  CS Tryz.prog 212 [.pointer (some ⟨rn,0,none⟩),.pointer (some ⟨rb,0,none⟩)] ((rr,aN v s.2)::(rn,an lf m1 m2 m3)::(rb,rK rr)::(ro,X)::(R++F)) fun u L'=>∃ v' m' R',L'=(rr,aN v' (lQ 32768 s).2.2)::(rn,an lf m1 m2 m')::(rb,rK rr)::(ro,X)::(R'++F)/\OV T v' (lQ 32768 s).2.1/\GV 3 1 [] m' (vs++[(lQ 32768 s).1]).length (bx (vs++[(lQ 32768 s).1])) R':=by
 suffices g:CS Tryz.prog 212 [.pointer (some ⟨rn,0,none⟩),.pointer (some ⟨rb,0,none⟩)] ((rr,aN v s.2)::(rn,an lf m1 m2 m3)::(rb,rK rr)::(ro,X)::(R++F)) fun u L'=>∃ v' r' y,
   L'=(r',.cells 3 (bx (vs++[(lQ 32768 s).1])))::y::(rr,aN v' (lQ 32768 s).2.2)::(rn,an lf m1 m2 (.slice (some ⟨r',0,none⟩) (vs++[(lQ 32768 s).1]).length ae))::(rb,rK rr)::(ro,X)::F/\OV T v' (lQ 32768 s).2.1 by
  refine g.less fun u L' ⟨v',r',y,h1,h2⟩=>⟨_,?_,v',_,[(r',.cells 3 (bx (vs++[(lQ 32768 s).1])))],rfl,h2,.inr ⟨r',rfl,by simp[bx],rfl⟩⟩
  rw[h1]
  exact ar.trans (ar.drop 5 rfl) (ar.pulls [5,5,5,5] rfl)
 refine yF Tryz.f212 ?_
 repeat refine xQ ?_
 refine LS.drawn noGo mixed [(0,false),(1,false),(2,false),(3,true),(4,true),(5,true),(6,false),(7,true)] rfl rfl (by kernel_rfl) ?_
 refine yX 3 ?_
 refine yO rfl yH ((RCount_ct (T:=T) (bs:=s.1) (f:=s.2) (most:=32768) (by decide) (by decide) (fun p hp=>by simp[hT p hp]) hv (by omega))) ?_
 rintro u L' ⟨rfl,v',rfl,hv'⟩
 refine⟨_,rfl,ai.gone rfl (ai.cons rfl (aA 1 rfl rfl rfl rfl rfl) ai.nil),?_⟩
 refine ba.fresh rfl rfl (dG (fun _=>rfl) rfl) (fun _=>rfl) (fun _=>ai.gone rfl (ai.cons rfl (aA 2 rfl rfl rfl rfl rfl) ai.nil)) (fun rq=>?_)
 refine ba.fresh rfl rfl (dz [(rq,_),(rr,_),(rn,_),(rb,_),(ro,_)] (F:=F) (e:=3) (cs:=bx vs) (n:=vs.length) (m:=1) (sz:=1) (bts:=8) (GV.appendR F hg) (SV.row (sz:=1) (n:=1) (List.mem_cons_self ..) rfl) (by omega) rfl rfl rfl rfl (by omega) (by omega)) (fun _=>rfl) (fun _=>ai.gone rfl (ai.gone rfl ai.nil)) (fun r2=>?_)
 refine yX 1 ?_
 refine ba.write rfl rfl (ax 3 rfl rfl rfl rfl rfl rfl rfl rfl) rfl (ai.gone rfl (ai.gone rfl ai.nil)) ?_
 refine yX 1 ?_
 refine⟨_,fun _ _=>rfl,?_⟩
 have e1:bx vs++[.int .i64 (lQ 32768 s).1]=bx (vs++[(lQ 32768 s).1]):=by simp[bx]
 refine⟨v',r2,(rq,.cells 3 [.int .i64 (lQ 32768 s).1]),?_,hv'⟩
 rw[←e1,List.length_append]
 rfl
def Ku(lf:Bool):Nat:=if lf then 211 else 212
variable{M:RL}
theorem G6 {T:RL}{rr rn rb ro B j:Nat}{X:aG}{x:Nd×St}{L:RL}(hT:∀ p,p∈T->p∈M)(hB:B<=100000)(hj:j<=50000)(hb:RB B j x)(h:KL T M rr rn rb ro X x L) :
  CS Tryz.prog (Ku x.1.leaf) [.pointer (some ⟨rn,0,none⟩),.pointer (some ⟨rb,0,none⟩)] L fun u L'=>KL T M rr rn rb ro X (jg x) L':=by
 obtain⟨⟨lf,ks,vs,kids⟩,s⟩:=x
 obtain⟨v,m1,m2,m3,R1,Rb,rfl,hv,hk,hor⟩:=h
 obtain⟨h1,h2,h3,h4,h5,h6⟩:=hb
 simp only at hv hk hor h1 h2 h3 h4 h5 h6
 have hT':∀ p,p∈T->p∈R1++M:=fun p hp=>List.mem_append_right _ (hT p hp)
 rcases hor with ⟨rfl,hg,rfl,rfl⟩|⟨rfl,hg,rfl,rfl⟩
 ·have:=(E5 (rr:=rr) (rn:=rn) (rb:=rb) (ro:=ro) (X:=X) (lf:=true) (m1:=m1) (m3:=.slice none 0 0) hT' hv (by omega) hg (by omega))
  refine (CS.sub (ar.cons (ar.cons (ar.cons (ar.cons ar.swap)))) this).less ?_
  rintro u L' ⟨v',m',R',rfl,hv',hg'⟩
  exact⟨_,ar.cons (ar.cons (ar.cons (ar.cons ar.swap))),v',m1,m',_,R1,R',rfl,hv',hk,.inl ⟨rfl,hg',rfl,rfl⟩⟩
 have:=(E4 (rr:=rr) (rn:=rn) (rb:=rb) (ro:=ro) (X:=X) (lf:=false) (m1:=m1) (m2:=.slice none 0 0) hT' hv (by omega) hg (by omega))
 refine (CS.sub (ar.cons (ar.cons (ar.cons (ar.cons ar.swap)))) this).less ?_
 rintro u L' ⟨v',m',R',rfl,hv',hg'⟩
 exact⟨_,ar.cons (ar.cons (ar.cons (ar.cons ar.swap))),v',m1,_,m',R1,R',rfl,hv',hk,.inr ⟨rfl,hg',rfl,rfl⟩⟩
end Go.Proofs.YtoaojmobnbbnmaaGreat
end
section
namespace Go.Proofs.YtoaojmobnbbnmaaGreat
open Go.Am
open Go.Proofs.YtoaojmobnbbnmaaGreat.T
theorem dd {b:Bool}{m1 m2 m3:Value}(s1:ml m1)(s2:ml m2)(s3:ml m3):(Nat.beq (j7 b m1 m2 m3).cells.toList.length 4&&aM (j7 b m1 m2 m3).cells.toList)=true:=by
 rcases s1 with rfl|⟨q1,o1,n1,c1,rfl⟩ <;> rcases s2 with rfl|⟨q2,o2,n2,c2,rfl⟩ <;> rcases s3 with rfl|⟨q3,o3,n3,c3,rfl⟩ <;> rfl
theorem RB.key {B j:Nat}{x:Nd×St}(h:RB B j x)(hk:x.1.ks.length<=j):RB B (j+1) (tW x):=by
 obtain⟨h1,h2,h3,h4,h5,h6⟩:=h
 refine⟨?_,?_,?_,?_,?_,?_⟩
 ·show (_++[_]).length<=_;simp;exact h1
 ·show x.1.vs.length<=_;omega
 ·show x.1.kids.length<=_;omega
 ·intro k hk
  rcases List.mem_append.1 hk with hk|hk
  ·exact h4 k hk
  rw[List.mem_singleton]at hk;subst hk;exact Nat.le_trans E7 h6
 ·exact h5
 exact Nat.le_trans nt h6
theorem Di {x:Nd×St}:(jg x).1.leaf=x.1.leaf:=by unfold jg;split <;> rfl
theorem RB.beh {B j:Nat}{x:Nd×St}(h:RB B j x)(hv:x.1.vs.length<j)(hz:x.1.kids.length<=j):RB B j (jg x):=by
 obtain⟨h1,h2,h3,h4,h5,h6⟩:=h
 unfold jg
 split
 ·refine⟨h1,?_,h3,h4,?_,Nat.le_trans nt h6⟩
  ·show (_++[_]).length<=_;simp;exact hv
  intro k hk
  rcases List.mem_append.1 hk with hk|hk
  ·exact h5 k hk
  rw[List.mem_singleton]at hk;subst hk;exact Nat.le_trans E7 h6
 exact⟨h1,h2,by show (_++[_]).length<=_;simp;exact hz,h4,h5,Nat.le_trans nt h6⟩
def Lh(M:RL)(nd:Nd)(u:Value)(L':RL):Prop:=∃ m1 m2 m3 R1 Rb,u=j7 nd.leaf m1 m2 m3/\L'=R1++(Rb++M)/\GV 9 1 [] m1 nd.ks.length (tx nd.ks) R1 /\
 ((nd.leaf=true/\GV 9 1 [] m2 nd.vs.length (tx nd.vs) Rb/\m3=.slice none 0 0/\nd.kids=[])∨(nd.leaf=false/\GV 3 1 [] m3 nd.kids.length (bx nd.kids) Rb/\m2=.slice none 0 0/\nd.vs=[]))
theorem E6 {n:Nd}{R1 Rb:RL}{m1 m2 m3:Value}(hk:GV 9 1 [] m1 n.ks.length (tx n.ks) R1)(hor:(n.leaf=true/\GV 9 1 [] m2 n.vs.length (tx n.vs) Rb/\m3=.slice none 0 0/\n.kids=[])∨(n.leaf=false/\GV 3 1 [] m3 n.kids.length (bx n.kids) Rb/\m2=.slice none 0 0/\n.vs=[])) :
  ml m1/\ml m2/\ml m3:=by
 refine⟨bC hk.sv,?_⟩
 rcases hor with ⟨_,hg,rfl,_⟩|⟨_,hg,rfl,_⟩
 ·exact⟨bC hg.sv,.inl rfl⟩
 exact⟨.inl rfl,bC hg.sv⟩
variable{M:RL}{rr:Nat}{v:Value}{bs:List UInt8}
theorem HW (hv:OV M v bs)(hn:bs.length<=100000) :
  CS Tryz.prog 176 [.pointer (some ⟨rr,0,none⟩)] ((rr,aN v false)::M) fun u L'=>∃ v' L'',L'=(rr,aN v' (bT bs).2.2)::L''/\OV M v' (bT bs).2.1/\Lh M (bT bs).1 u L''/\RB bs.length 256 (bT bs):=by
 suffices g:CS Tryz.prog 176 [.pointer (some ⟨rr,0,none⟩)] ((rr,aN v false)::M) fun u L'=>∃ v' L'' x y z,L'=(rr,aN v' (bT bs).2.2)::x::y::z::L''/\OV M v' (bT bs).2.1/\Lh M (bT bs).1 u L''/\RB bs.length 256 (bT bs) by
  refine g.less fun u L' ⟨v',L'',x,y,z,h1,h2,h3,h4⟩=>⟨_,?_,v',L'',rfl,h2,h3,h4⟩
  rw[h1]
  exact ar.cons (ar.suffix (X:=[x,y,z]))
 have hTM:∀ (X:RL) p,p∈M->p∈X++M:=fun X p hp=>List.mem_append_right _ hp
 refine yF Tryz.f176 ?_
 refine yX 1 ?_
 refine yN fun rb=>?_
 refine yN fun ro=>?_
 refine yX 2 ?_
 refine OS.sub (ar.pulls [2] rfl) ?_
 refine yX 1 ?_
 refine yA yH ((RFlag_ct (T:=M) (bs:=bs) (f:=false) (fun p hp=>hTM [_,_] p hp) hv (by omega))) ?_
 rintro u L' ⟨rfl,v1,rfl,hv1⟩
 refine yX 1 ?_
 change OV M v1 (gM bs).2.1 at hv1
 refine yX 1 ?_
 refine yN fun rn=>?_
 refine yX 3 ?_
 refine OS.sub (ar.pulls [1] rfl) ?_
 refine yX 1 ?_
 have hs1:(gM bs).2.1.length<=bs.length:=nt
 refine yA yH ((RCount_ct (T:=M) (bs:=(gM bs).2.1) (f:=(gM bs).2.2) (most:=256) (by decide) (by decide) (fun p hp=>hTM [_,_,_] p hp) hv1 (by omega))) ?_
 rintro u L' ⟨rfl,v2,rfl,hv2⟩
 refine yX 1 ?_
 change OV M v2 (k7 bs).2.1 at hv2
 have hs2:(k7 bs).2.1.length<=bs.length:=Nat.le_trans nt hs1
 have hc:=E9 (s:=(gM bs).2) (most:=256) (by decide)
 change 0<=(k7 bs).1/\(k7 bs).1<=256 at hc
 refine yX 3 ?_
 refine OS.sub (ar.pulls [3,2,2] rfl) ?_
 refine yX 8 ?_
 have hlf:∃ lf,(gM bs).1=lf:=⟨_,rfl⟩
 obtain⟨lf,hlf⟩:=hlf
 have hst:(gC bs).1.leaf=lf:=by unfold gC;rw[hlf];cases lf <;> rfl
 repeat refine xQ ?_
 refine LS.mid [1,2,3,4,5] (fun a L'=>KL M M rr rn rb ro (an false (.slice none 0 0) (.slice none 0 0) (.slice none 0 0)) (gC bs) L'/\RB bs.length 0 (gC bs)/\a=[yC,.pointer (some ⟨rb,0,none⟩),.pointer (some ⟨ro,0,none⟩),.pointer (some ⟨rn,0,none⟩),.int .i64 (k7 bs).1,.func (.func (Ku lf)) #[] #[.pointer (some ⟨rn,0,none⟩),.pointer (some ⟨rb,0,none⟩)],yC,yC,yC,yC,yC,yC,yC,yC,yC,yC,yC,yC,yC,yC,yC,yC,yC,yC,yC,yC,yC,yC,yC,yC,yC,yC]) ?_ ?_
 ·refine xC (b:=!(gM bs).1) rfl (fun hc0=>?_) (fun hc0=>?_)
  ·have h0:(gM bs).1=false:=by simpa using hc0
   obtain rfl:lf=false:=by rw[←hlf,h0]
   have hx:gC bs=jg (⟨false,[],[],[]⟩,(k7 bs).2):=by unfold gC;rw[h0];rfl
   have hRB:RB bs.length 0 ((⟨false,[],[],[]⟩,(k7 bs).2):Nd×St):=⟨Nat.le_refl _,Nat.le_refl _,Nat.zero_le _,by simp,by simp,hs2⟩
   have hRd:KL M M rr rn rb ro (an false (.slice none 0 0) (.slice none 0 0) (.slice none 0 0)) (⟨false,[],[],[]⟩,(k7 bs).2) ((rr,aN v2 (k7 bs).2.2)::(rn,an false (.slice none 0 0) (.slice none 0 0) (.slice none 0 0))::(rb,rK rr)::(ro,an false (.slice none 0 0) (.slice none 0 0) (.slice none 0 0))::M) :=
    ⟨v2,_,_,_,[],[],rfl,hv2,.inl ⟨rfl,rfl,rfl,rfl⟩,.inr ⟨rfl,.inl ⟨rfl,rfl,rfl,rfl⟩,rfl,rfl⟩⟩
   have hrow:(rn,an (gM bs).1 (.slice none 0 0) (.slice none 0 0) (.slice none 0 0))=(rn,an false (.slice none 0 0) (.slice none 0 0) (.slice none 0 0)):=by rw[h0]
   have hcall:=G6 (fun p hp=>hp) (by omega:bs.length<=100000) (by decide:0<=50000) hRB hRd
   rw[←hx]at hcall
   rw[←hrow]at hcall
   refine yX 6 ?_
   refine yA yH hcall ?_
   rintro u L' hL
   refine yX 2 ?_
   refine⟨hL,?_,rfl⟩
   rw[hx]
   exact⟨Nat.le_refl _,Nat.le_refl _,Nat.le_refl _,by simp[jg],by simp[jg],Nat.le_trans nt hs2⟩
  have h0:(gM bs).1=true:=by simpa using hc0
  obtain rfl:lf=true:=by rw[←hlf,h0]
  have hx:gC bs=(⟨true,[],[],[]⟩,(k7 bs).2):=by unfold gC;rw[h0];rfl
  refine LS.skip ?_
  refine⟨?_,?_,rfl⟩
  ·rw[hx]
   exact⟨v2,.slice none 0 0,.slice none 0 0,.slice none 0 0,[],[],by rw[←h0];rfl,hv2,.inl ⟨rfl,rfl,rfl,rfl⟩,.inl ⟨rfl,.inl ⟨rfl,rfl,rfl,rfl⟩,rfl,rfl⟩⟩
  rw[hx]
  exact⟨Nat.le_refl _,Nat.le_refl _,Nat.zero_le _,by simp,by simp,hs2⟩
 rintro a L' ⟨hRd0,hRB0,rfl⟩
 obtain⟨c,hcn⟩:=Int.eq_ofNat_of_zero_le hc.1
 have hct:(k7 bs).1.toNat=c:=by omega
 rw[hcn]
 refine yX 5 ?_
 refine LS.loopJ [1,2,3,5,18,19] (fun q a L'=>∃ (j:Nat) (x:Nd×St),q=c-j/\j<=c/\k6 (c-j) x=bT bs/\KL M M rr rn rb ro (an false (.slice none 0 0) (.slice none 0 0) (.slice none 0 0)) x L'/\RB bs.length j x/\x.1.leaf=lf /\
  a=[yC,.pointer (some ⟨rb,0,none⟩),.pointer (some ⟨ro,0,none⟩),.pointer (some ⟨rn,0,none⟩),yC,.func (.func (Ku lf)) #[] #[.pointer (some ⟨rn,0,none⟩),.pointer (some ⟨rb,0,none⟩)],yC,yC,yC,yC,yC,yC,yC,yC,yC,yC,yC,yC,.int .i64 (c:Nat),.int .i64 (j:Nat),yC,yC,yC,yC,yC,yC,yC,yC,yC,yC,yC,yC]) (n:=c) rfl ⟨0,gC bs,rfl,by omega,by unfold bT;rw[hct];rfl,hRd0,hRB0,hst,rfl⟩ ?_
 rintro q a L' ⟨j,x,rfl,hj,hloop,hRd,hRB,hxl,rfl⟩
 refine yV 3 ?_
 refine xC rfl ?_ ?_ <;> intro hcj
 ·have hcj:(j:Int)<c:=cg hcj
  have hjc:j<c:=by omega
  obtain⟨⟨xl,ks,vs,kids⟩,s⟩:=x
  obtain⟨w,m1,m2,m3,R1,Rb,rfl,hw,hk,hor⟩:=hRd
  have hRB':=hRB
  obtain⟨g1,g2,g3,g4,g5,g6⟩:=hRB
  simp only at hxl hw hk hor g1 g2 g3 g4 g5 g6
  subst hxl
  have e1:tx ks++[bb (kL 32 s).1]=tx (ks++[(kL 32 s).1]):=by simp[tx]
  have hkey:=hRB'.key g1
  have hbeh:=hkey.beh (show vs.length<j+1 by omega) (show kids.length<=j+1 by omega)
  refine yV 2 ?_
  refine LS.drawn noGo mixed [(0,false),(1,false),(2,false),(3,true),(4,true),(5,true),(6,false),(7,true)] rfl rfl (by kernel_rfl) ?_
  refine yX 3 ?_
  refine yO rfl yH ((RStr_ct (T:=M) (bs:=s.1) (f:=s.2) (most:=32) (by decide) (by decide) (fun p hp=>by simp[hp]) hw (by omega))) ?_
  rintro u L' ⟨rfl,v',rfl,hv'⟩
  refine⟨_,rfl,ai.gone rfl (ai.cons rfl (aA 1 rfl rfl rfl rfl rfl) ai.nil),?_⟩
  refine ba.fresh rfl rfl (dG (fun _=>rfl) rfl) (fun _=>rfl) (fun _=>ai.gone rfl (ai.cons rfl (aA 2 rfl rfl rfl rfl rfl) ai.nil)) (fun rq=>?_)
  refine ba.fresh rfl rfl (dz [(rq,_),(rr,_),(rn,_),(rb,_),(ro,_)] (F:=Rb++M) (e:=9) (cs:=tx ks) (n:=ks.length) (m:=1) (sz:=1) (bts:=16) (GV.appendR (Rb++M) hk) (SV.row (sz:=1) (n:=1) (List.mem_cons_self ..) rfl) (by omega) rfl rfl rfl rfl (by omega) (by omega)) (fun _=>rfl) (fun _=>ai.gone rfl (ai.gone rfl ai.nil)) (fun r2=>?_)
  refine yX 1 ?_
  refine ba.write rfl rfl (ax 3 rfl rfl rfl rfl rfl rfl rfl rfl) rfl (ai.gone rfl (ai.gone rfl ai.nil)) ?_
  refine yX 1 ?_
  have hRd1:KL M M rr rn rb ro (an false (.slice none 0 0) (.slice none 0 0) (.slice none 0 0)) (tW (⟨xl,ks,vs,kids⟩,s)) ((rr,aN v' (kL 32 s).2.2)::(rn,an xl (.slice (some ⟨r2,0,none⟩) (ks.length+1) ae) m2 m3)::(rb,rK rr)::(ro,an false (.slice none 0 0) (.slice none 0 0) (.slice none 0 0))::(r2,.cells 9 (tx ks++[bb (kL 32 s).1]))::(Rb++M)):=by
   refine⟨v',_,m2,m3,[(r2,.cells 9 (tx ks++[bb (kL 32 s).1]))],Rb,rfl,hv',?_,hor⟩
   show GV _ 1 [] _ (ks++[(kL 32 s).1]).length (tx (ks++[(kL 32 s).1])) _
   rw[←e1,List.length_append]
   exact .inr ⟨r2,rfl,by simp,rfl⟩
  refine yX 1 ?_
  refine OS.sub (ar.pulls [5,5,5,5] rfl) ?_
  refine OS.sub (ar.drop 5 rfl) ?_
  refine yX 1 ?_
  refine yA yH ((G6 (fun p hp=>hp) (by omega:bs.length<=100000) (by omega:j+1<=50000) hkey hRd1)) ?_
  rintro u L' hL
  refine yX 3 ?_
  refine yP (a8 (m:=j) (n:=1) rfl rfl rfl (ak (by omega) (by omega))) ?_
  refine yX 2 ?_
  refine⟨c-(j+1),by omega,j+1,jg (tW (⟨xl,ks,vs,kids⟩,s)),rfl,by omega,?_,hL,hbeh,Di,rfl⟩
  rw[←hloop,show c-j=(c-(j+1))+1 by omega]
  rfl
 have hcj:(c:Int)<=(j:Int):=bz hcj
 have hje:j=c:=by omega
 subst hje
 rw[Nat.sub_self]at hloop
 simp only[k6]at hloop
 subst hloop
 obtain⟨w,m1,m2,m3,R1,Rb,rfl,hw,hk,hor⟩:=hRd
 obtain⟨s1,s2,s3⟩:=E6 hk hor
 refine LS.exit ?_
 refine yX 2 ?_
 refine yW (ax 3 (n:=4) rfl rfl rfl rfl rfl (dd s1 s2 s3) rfl rfl) ?_
 refine xN ?_
 refine xT ⟨_,kY 3 rfl rfl rfl rfl,?_⟩
 exact⟨w,_,_,_,_,rfl,hw,⟨m1,m2,m3,R1,Rb,rfl,rfl,hk,hor⟩,⟨by have:=hRB.k;omega,by have:=hRB.v;omega,by have:=hRB.z;omega,hRB.kl,hRB.vl,hRB.s⟩⟩
end Go.Proofs.YtoaojmobnbbnmaaGreat
end
section
namespace Go.Am
theorem ar.app {A B:RL}(X:RL)(s:ar A B):ar (X++A) (X++B):=by
 obtain⟨Y,hY⟩:=s
 exact⟨Y,by rw[List.append_assoc];exact hY.append_left X⟩
variable{P:Program}{a:ah}{L:RL}
theorem cN (i:Nat){x y r off:Nat}{t:TypeId}{row:aG}{cs:List Value}{v u:Value}(hx:a[x]?=some (.pointer (some ⟨r,off,none⟩)))(hL:L[i]?=some (r,row))(hc:dV row=some cs)(hv:bM P t cs off=some v)(hy:a[y]?=some u):∀ h,bp h L->cE P a h [.cell x t,.tmp y]=some [v,u]:=by
 intro h H
 simp only[cE,hx,hy,mw,H.read hL hc,hv]
end Go.Am
namespace Go.Proofs.YtoaojmobnbbnmaaGreat
open Go.Am
open Go.Proofs.YtoaojmobnbbnmaaGreat.T
def BV(L:RL)(v:Value)(bs:List UInt8):Prop:=OV L v bs∨(SV 1 L v bs.length (ab bs)/\∀ r off cap,v=.slice (some ⟨r,off,none⟩) bs.length cap->cap<ae/\bs.length<=cap)
variable{L:RL}{v:Value}{bs:List UInt8}
theorem BV.sv (h:BV L v bs):SV 1 L v bs.length (ab bs):=by
 rcases h with h|h
 ·exact h.sv
 exact h.1
variable{L':RL}
theorem BV.mono (h:BV L v bs)(hm:∀ p,p∈L->p∈L'):BV L' v bs:=by
 rcases h with h|h
 ·exact .inl (h.mono hm)
 exact .inr ⟨h.1.mono hm,h.2⟩
variable{P:Program}{ops rest:List Oper}{o:Oper}{a:ah}{K:ah->RL->Prop}{t:TypeId}
theorem OS.cutX {x:Operand}{lo hi:Option Operand}{lo' hi':Option Value}{v:Value}{l u:Nat}{bs:List UInt8}(hs:BV L v bs)(hw:aw ops o a=true)(ho:o.op=.slice t x lo hi none)(hx:aX a x=some v)
  (hlo:aY a lo=some lo') (hhi:aY a hi=some hi') (bl:aU lo' 0=some l) (bu:aU hi' bs.length=some u) (ht:P.underlying t=some (.slice 5)) (hz:aB P 5=some 1) (hu:u<=bs.length) (hl:l<=u)
  (hk:∀ v',SV 1 L v' (u-l) (ab ((bs.drop l).take (u-l)))->∃ a₁,aH a o.dst v'=some a₁/\OS P ops rest a₁ L K):OS P ops (o::rest) a L K:=by
 rcases hs with hs|⟨hs,hcap⟩
 ·refine OS.cutB hs hw ho hx hlo hhi bl bu ht hz hu hl fun v' hv'=>hk v' ?_
  have hlen:((bs.drop l).take (u-l)).length=u-l:=by simp;omega
  have:=hv'.sv
  rw[hlen]at this;exact this
 obtain⟨v',h1,h2⟩:=DN hs (fun r off cap row cs₀ h _ _=>.inl (hcap r off cap h)) ho hx hlo hhi bl bu ht hz hu hl
 simp only[Nat.mul_one]at h1
 have h1':SV 1 L v' (u-l) (ab ((bs.drop l).take (u-l))):=by
  have e:ab ((bs.drop l).take (u-l))=((ab bs).drop l).take (u-l):=by simp[ab,List.map_take,List.map_drop]
  rw[e];exact h1
 obtain⟨a₁,ep,k⟩:=hk v' h1'
 exact xR hw h2 ep k
theorem vF {α:Type}{z t:α}{k:Nat}{s:St}:(tk z t k s).2.1 <:+ s.1:=by
 unfold tk
 split
 ·exact List.suffix_refl _
 split
 ·exact List.nil_suffix
 exact List.drop_suffix _ _
theorem yl {x:Nd×St}:(jg x).2.1 <:+ x.2.1:=by unfold jg;split <;> exact vF
theorem um:∀ {k:Nat} {x:Nd×St},(k6 k x).2.1 <:+ x.2.1
 | 0,_=>List.suffix_refl _
 | k+1,x=>(um (k:=k)).trans (yl.trans (vF (s:=x.2)))
theorem Dg(bs:List UInt8):(bT bs).2.1 <:+ bs:=by
 refine um.trans ?_
 have h1:(gM bs).2.1 <:+ bs:=vF (s:=(bs,false))
 have h2:(k7 bs).2.1 <:+ bs:=(vF (s:=(gM bs).2)).trans h1
 unfold gC
 split
 ·exact h2
 exact yl.trans h2
theorem GB {s:List UInt8}(h:s <:+ bs):bs.drop (bs.length-s.length)=s:=by
 obtain⟨p,rfl⟩:=h
 rw[List.length_append,Nat.add_sub_cancel,List.drop_left]
def eU(bs:List UInt8):Option Nd:=if bs.length=256/\(bT bs).2.2=false/\bW (bT bs).1=true/\(bT bs).2.1.all (fun c=>c==0)=true then some (bT bs).1 else none
structure NB(n:Nd):Prop where
 k:n.ks.length<=300
 v:n.vs.length<=300
 z:n.kids.length<=300
 kl:∀ k∈n.ks,k.length<=300
 vl:∀ k∈n.vs,k.length<=300
theorem JJ{M L':RL}{n:Nd}{m1 m2 m3:Value}{R1 Rb:RL}(hB:NB n)(hk:GV 9 1 [] m1 n.ks.length (tx n.ks) R1)(hor:(n.leaf=true/\GV 9 1 [] m2 n.vs.length (tx n.vs) Rb/\m3=.slice none 0 0/\n.kids=[])∨(n.leaf=false/\GV 3 1 [] m3 n.kids.length (bx n.kids) Rb/\m2=.slice none 0 0/\n.vs=[]))
  (h1:∀ p,p∈R1->p∈L') (h2:∀ p,p∈Rb->p∈L'):NV L' n m1 m2 m3:=by
 obtain⟨g1,g2,g3,g4,g5⟩:=hB
 rcases hor with ⟨hl,hg,rfl,he⟩|⟨hl,hg,rfl,he⟩
 ·exact⟨hk.sv.mono h1,hg.sv.mono h2,by rw[he];exact .inl ⟨rfl,rfl,rfl⟩,by omega,by omega,by omega,fun k h=>by have:=g4 k h;omega,fun k h=>by have:=g5 k h;omega⟩
 exact⟨hk.sv.mono h1,by rw[he];exact .inl ⟨rfl,rfl,rfl⟩,hg.sv.mono h2,by omega,by omega,by omega,fun k h=>by have:=g4 k h;omega,fun k h=>by have:=g5 k h;omega⟩
def Lt(M:RL)(bs:List UInt8)(v:Value)(L':RL):Prop:=(eU bs=none/\v=.tuple #[j7 false (.slice none 0 0) (.slice none 0 0) (.slice none 0 0),.int .i64 4]/\L'=M)∨∃ nd u,eU bs=some nd/\NB nd/\v=.tuple #[u,.int .i64 0]/\Lh M nd u L'
theorem Ef (hv:BV L v bs)(hn:bs.length<=400000000000):CS Tryz.prog 131 [v] L fun u L'=>Lt L bs u L':=by
 have hsv:SV 1 L v bs.length (ab bs):=by
  rcases hv with hv|hv
  ·exact hv.sv
  exact hv.1
 suffices g:CS Tryz.prog 131 [v] L fun u L'=>(eU bs=none/\u=.tuple #[j7 false (.slice none 0 0) (.slice none 0 0) (.slice none 0 0),.int .i64 4]/\∃ X,L'=X++L)∨∃ nd w z t L₁,eU bs=some nd/\NB nd/\u=.tuple #[w,.int .i64 0]/\Lh L nd w L₁/\L'=z::t::L₁ by
  refine g.less fun u L' h=>?_
  rcases h with ⟨h1,h2,X,rfl⟩|⟨nd,w,z,t,L₁,h1,h2,h3,h4,rfl⟩
  ·exact⟨L,ar.suffix,.inl ⟨h1,h2,rfl⟩⟩
  exact⟨_,ar.suffix (X:=[z,t]),.inr ⟨nd,w,h1,h2,h3,h4⟩⟩
 refine yF Tryz.f131 ?_
 refine yX 1 ?_
 refine yN fun ro=>?_
 refine yX 2 ?_
 by_cases hl:bs.length=256
 case' neg =>
  have hb0:(!bc (bs.length:Int) (256:Nat))=true:=by rw[gn,decide_eq_false hl];rfl
  have hd:eU bs=none:=by unfold eU;rw[if_neg (fun h=>hl h.1)]
  refine yX 2 ?_
  refine yP (az hsv rfl rfl rfl rfl rfl) ?_
  refine yI hb0 ?_
  refine yV 1 ?_
  refine xC rfl ?_ ?_ <;> intro hc
  ·refine yX 5 ?_
   refine xT ⟨_,cN 0 rfl rfl rfl rfl rfl,?_⟩
   exact .inl ⟨hd,rfl,[_],rfl⟩
  cases hc
 have hb0:(!bc (bs.length:Int) (256:Nat))=false:=by rw[gn,decide_eq_true hl];rfl
 refine yX 2 ?_
 refine yP (az hsv rfl rfl rfl rfl rfl) ?_
 refine yI hb0 ?_
 refine yX 5 ?_
 refine yA yH ((kC (bs:=bs) hsv.cons hn)) ?_
 rintro u L' ⟨rr,rbt,rfl,v0,rfl,hv0⟩
 refine yX 5 ?_
 refine yA yH ((HW (bs:=bs) hv0 (by omega))) ?_
 rintro u L' ⟨v1,L'',rfl,hv1,⟨m1,m2,m3,R1,Rb,rfl,rfl,hk,hor⟩,hRB⟩
 obtain⟨s1,s2,s3⟩:=E6 hk hor
 have hNB:NB (bT bs).1:=⟨by have:=hRB.k;omega,by have:=hRB.v;omega,by have:=hRB.z;omega,fun k h=>by have:=hRB.kl k h;omega,fun k h=>by have:=hRB.vl k h;omega⟩
 refine yX 1 ?_
 refine yN fun r5=>?_
 refine yW (ax 0 (n:=4) rfl rfl rfl rfl rfl (dd s1 s2 s3) rfl rfl) ?_
 refine xN ?_
 have hnv:∀ (X:RL),NV (X++(R1++(Rb++(rbt,ez bs)::(ro,an false (.slice none 0 0) (.slice none 0 0) (.slice none 0 0))::L))) (bT bs).1 m1 m2 m3:=fun X =>
  JJ (M:=L) hNB hk hor (fun p hp=>by simp[hp]) (fun p hp=>by simp[hp])
 have hbl:∀ (X:RL),BV (X++(R1++(Rb++(rbt,ez bs)::(ro,an false (.slice none 0 0) (.slice none 0 0) (.slice none 0 0))::L))) v bs:=fun X=>hv.mono fun p hp=>by simp[hp]
 have hsuf:=Dg bs
 have hle:(bT bs).2.1.length<=256:=by have:=hsuf.length_le;omega
 repeat refine xQ ?_
 refine LS.mid [0,2,5,32] (fun a L'=>L'=(rr,aN v1 (bT bs).2.2)::(r5,an (bT bs).1.leaf m1 m2 m3)::(R1++(Rb++(rbt,ez bs)::(ro,an false (.slice none 0 0) (.slice none 0 0) (.slice none 0 0))::L))/\a=[v,yC,.pointer (some ⟨ro,0,none⟩),yC,yC,.pointer (some ⟨r5,0,none⟩),yC,yC,yC,yC,yC,yC,yC,yC,yC,yC,yC,yC,yC,yC,yC,yC,yC,yC,yC,yC,yC,yC,yC,yC,yC,yC,.bool (eU bs).isNone,yC,yC]) ?_ ?_
 ·cases hf:(bT bs).2.2 with
  | true =>
   have hd:(eU bs).isNone=true:=by unfold eU;rw[hf,if_neg (by simp)];rfl
   refine yX 2 ?_
   refine OS.sub (ar.pulls [1] rfl) ?_
   refine yA yH tH ?_
   rintro u L' ⟨rfl,rfl⟩
   refine yX 19 ?_
   rw[hd]
   exact⟨rfl,rfl⟩
  | false =>
   refine yX 2 ?_
   refine OS.sub (ar.pulls [1] rfl) ?_
   refine yA yH tH ?_
   rintro u L' ⟨rfl,rfl⟩
   refine yX 4 ?_
   refine yA yH ((lj (n:=(bT bs).1) (hnv [_,_]))) ?_
   rintro u L' ⟨rfl,e₁⟩
   subst e₁
   cases hm:bW (bT bs).1 with
   | false =>
    have hd:(eU bs).isNone=true:=by unfold eU;rw[hm,if_neg (by simp)];rfl
    refine yX 15 ?_
    rw[hd]
    exact⟨rfl,rfl⟩
   | true =>
    refine yX 6 ?_
    refine yP (az (hsv.mono (L':=(rr,aN v1 false)::(r5,an (bT bs).1.leaf m1 m2 m3)::(R1++(Rb++(rbt,ez bs)::(ro,an false (.slice none 0 0) (.slice none 0 0) (.slice none 0 0))::L))) (fun p hp=>by simp[hp])) rfl rfl rfl rfl rfl) ?_
    refine yX 1 ?_
    refine yA yH ((CM (bs:=(bT bs).2.1) (hv1.mono fun p hp=>List.mem_cons_of_mem _ (List.mem_append_right _ (List.mem_append_right _ hp))))) ?_
    rintro u L' ⟨rfl,rfl⟩
    refine yX 1 ?_
    rw[hl]
    refine yP (cW (dQ (m:=(256:Int)) (n:=(bT bs).2.1.length) rfl rfl rfl (ak (by omega) (by omega))) (congrArg (Value.int .i64) (show (256:Int)-((bT bs).2.1.length:Nat)=((256-(bT bs).2.1.length:Nat):Int) by omega))) ?_
    refine OS.cutX (l:=256-(bT bs).2.1.length) (u:=bs.length) (hbl [_,_]) rfl rfl rfl rfl rfl aR rfl rfl rfl (Nat.le_refl _) (by omega) (fun w hw=>?_)
    have hds:(bs.drop (256-(bT bs).2.1.length)).take (bs.length-(256-(bT bs).2.1.length))=(bT bs).2.1:=by
     rw[List.take_of_length_le (by simp),←hl,GB hsuf]
    rw[hds,show bs.length-(256-(bT bs).2.1.length)=(bT bs).2.1.length by omega]at hw
    refine yX 1 ?_
    refine yA yH ((GZ hw (by omega))) ?_
    rintro u L' ⟨rfl,e₁⟩
    subst e₁
    have hd:(eU bs).isNone=!(bT bs).2.1.all (fun c=>c==0):=by
     unfold eU
     rw[hf,hm]
     cases (bT bs).2.1.all (fun c=>c==0) <;> simp[hl]
    refine yX 4 ?_
    rw[hd]
    exact⟨rfl,rfl⟩
 rintro a L' ⟨rfl,rfl⟩
 cases hd:eU bs with
 | none =>
  repeat refine xQ ?_
  refine xC rfl ?_ ?_ <;> intro hc
  ·refine yX 1 ?_
   refine OS.sub ((ar.suffix (X:=Rb)).trans ((ar.suffix (X:=R1)).trans (ar.suffix (X:=[_,_])))) ?_
   refine yX 4 ?_
   refine xT ⟨_,cN 1 rfl rfl rfl rfl rfl,?_⟩
   exact .inl ⟨rfl,rfl,[_,_],rfl⟩
  cases hc
 | some nd =>
  have hnd:nd=(bT bs).1:=by
   unfold eU at hd
   split at hd
   ·exact (Option.some.inj hd).symm
   cases hd
  refine yX 2 ?_
  subst hnd
  refine yX 2 ?_
  refine OS.sub ((ar.swap (A:=[(rbt,ez bs),(ro,an false (.slice none 0 0) (.slice none 0 0) (.slice none 0 0))]) (Y:=R1) (G:=Rb++L)).trans ((ar.app R1 (ar.swap (A:=[(rbt,ez bs),(ro,an false (.slice none 0 0) (.slice none 0 0) (.slice none 0 0))]) (Y:=Rb) (G:=L))).trans (ar.suffix (X:=[_,_])))) ?_
  refine yW (ax 1 (n:=4) rfl rfl rfl rfl rfl (dd s1 s2 s3) rfl rfl) ?_
  refine yX 2 ?_
  refine xT ⟨_,cN 1 rfl rfl rfl rfl rfl,?_⟩
  exact .inr ⟨_,_,_,_,_,rfl,hNB,rfl,⟨m1,m2,m3,R1,Rb,rfl,rfl,hk,hor⟩,rfl⟩
end Go.Proofs.YtoaojmobnbbnmaaGreat
end
section
namespace Go.Proofs.YtoaojmobnbbnmaaGreat
open Go.Am
open Go.Proofs.YtoaojmobnbbnmaaGreat.T
def lJ(n:Nd):Prop:=(n.leaf=true/\n.vs.length=n.ks.length/\n.kids=[])∨(n.leaf=false/\n.kids.length=n.ks.length+1/\n.vs=[])
theorem Gc {w:Nat}{bs:List UInt8}(hw:w<=2147483647)(h:iM w <+: bs):t7 bs=(w,(iM w).length):=Gb (by omega) h
theorem sI(w:Nat):(iM w).length≠0:=by have:=og w;omega
variable{most:Int}
theorem o8 {z:Int}{r:List UInt8}(h0:0<=z)(h1:z<=most)(h2:z<=2147483647):lQ most (cnt z++r,false)=(z,(r,false)):=by
 obtain⟨w,rfl⟩:=Int.eq_ofNat_of_zero_le h0
 rw[l7 (by omega)]
 have hg:=Gc (w:=w) (bs:=iM w++r) (by omega) (List.prefix_append _ _)
 have hc:gI (iM w++r) most=(w,(iM w).length):=by rw[w8 (by omega) (by rw[hg];exact h1) (by rw[hg];omega),hg]
 unfold lQ
 simp only[hc]
 rw[nr (sI w),List.drop_left]
theorem wc {t r:List UInt8}(h1:(t.length:Int)<=most)(h2:t.length<=2147483647):kL most (tB t++r,false)=(t,(r,false)):=by
 have hg:=Gc (w:=t.length) (bs:=tB t++r) (by omega) (by unfold tB;rw[List.append_assoc];exact List.prefix_append _ _)
 have hc:gI (tB t++r) most=(t.length,(iM t.length).length):=by rw[w8 (by omega) (by rw[hg];exact h1) (by rw[hg];omega),hg]
 have hs:ni (tB t++r) most=(t,(iM t.length).length+t.length):=by
  rw[EU hc,if_neg (by have:=sI t.length;simp only[tB,List.length_append];omega)]
  unfold tB
  rw[List.append_assoc,List.drop_left,List.take_left]
 unfold kL
 simp only[hs]
 rw[nr (by have:=sI t.length;omega)]
 unfold tB
 rw[←List.drop_drop,List.append_assoc,List.drop_left,List.drop_left]
theorem ry:∀ {ks vs:List (List UInt8)} {k0 v0:List (List UInt8)} {r:List UInt8},ks.length=vs.length->(∀ k∈ks,k.length<=32)->(∀ v∈vs,v.length<=64) →
  k6 ks.length (⟨true,k0,v0,[]⟩,(bi ks (vs.map tB)++r,false))=(⟨true,k0++ks,v0++vs,[]⟩,(r,false))
 | [],[],k0,v0,r,_,_,_=>by simp[k6,bi]
 | [],_::_,_,_,_,h,_,_=>by simp at h
 | _::_,[],_,_,_,h,_,_=>by simp at h
 | k::ks,v::vs,k0,v0,r,h,hk,hv=>by
  have e1:kL 32 (tB k++(tB v++(bi ks (vs.map tB)++r)),false)=(k,(tB v++(bi ks (vs.map tB)++r),false)):=wc (by have:=hk k (List.mem_cons_self ..);omega) (by have:=hk k (List.mem_cons_self ..);omega)
  have e2:kL 64 (tB v++(bi ks (vs.map tB)++r),false)=(v,(bi ks (vs.map tB)++r,false)):=wc (by have:=hv v (List.mem_cons_self ..);omega) (by have:=hv v (List.mem_cons_self ..);omega)
  have hst:jg (tW (⟨true,k0,v0,[]⟩,(bi (k::ks) ((v::vs).map tB)++r,false)))=(⟨true,k0++[k],v0++[v],[]⟩,(bi ks (vs.map tB)++r,false)):=by
   have hz:bi (k::ks) ((v::vs).map tB)++r=tB k++(tB v++(bi ks (vs.map tB)++r)):=by simp[bi]
   rw[hz]
   simp only[tW,e1,jg,if_true,e2]
  show k6 ks.length (jg (tW _))=_
  rw[hst,ry (by simpa using h) (fun k h=>hk k (List.mem_cons_of_mem _ h)) (fun v h=>hv v (List.mem_cons_of_mem _ h))]
  simp
theorem rA:∀ {ks:List (List UInt8)} {zs:List Int} {k0:List (List UInt8)} {z0:List Int} {r:List UInt8},ks.length=zs.length->(∀ k∈ks,k.length<=32)->(∀ z∈zs,0<=z/\z<=32768) →
  k6 ks.length (⟨false,k0,[],z0⟩,(bi ks (zs.map cnt)++r,false))=(⟨false,k0++ks,[],z0++zs⟩,(r,false))
 | [],[],k0,v0,r,_,_,_=>by simp[k6,bi]
 | [],_::_,_,_,_,h,_,_=>by simp at h
 | _::_,[],_,_,_,h,_,_=>by simp at h
 | k::ks,v::vs,k0,v0,r,h,hk,hv=>by
  have e1:kL 32 (tB k++(cnt v++(bi ks (vs.map cnt)++r)),false)=(k,(cnt v++(bi ks (vs.map cnt)++r),false)):=wc (by have:=hk k (List.mem_cons_self ..);omega) (by have:=hk k (List.mem_cons_self ..);omega)
  have e2:lQ 32768 (cnt v++(bi ks (vs.map cnt)++r),false)=(v,(bi ks (vs.map cnt)++r,false)):=o8 (hv v (List.mem_cons_self ..)).1 (hv v (List.mem_cons_self ..)).2 (by have:=(hv v (List.mem_cons_self ..)).2;omega)
  have hst:jg (tW (⟨false,k0,[],v0⟩,(bi (k::ks) ((v::vs).map cnt)++r,false)))=(⟨false,k0++[k],[],v0++[v]⟩,(bi ks (vs.map cnt)++r,false)):=by
   have hz:bi (k::ks) ((v::vs).map cnt)++r=tB k++(cnt v++(bi ks (vs.map cnt)++r)):=by simp[bi]
   rw[hz]
   simp only[tW,e1,jg,Bool.false_eq_true,if_false,e2]
  show k6 ks.length (jg (tW _))=_
  rw[hst,rA (by simpa using h) (fun k h=>hk k (List.mem_cons_of_mem _ h)) (fun v h=>hv v (List.mem_cons_of_mem _ h))]
  simp
theorem ln {n:Nd}(h:aQ n=true):n.ks.length<=256:=by
 have hm:bW n=true:=by unfold aQ at h;simp at h;exact h.1
 have hl:(aE n).length<=256:=by unfold aQ at h;simp at h;exact h.2
 have:∀ {ks bs:List (List UInt8)},ks.length=bs.length->ks.length<=(bi ks bs).length:=by
  intro ks
  induction ks with
  | nil=>intro bs _;simp
  | cons k ks ih =>
   intro bs hb
   cases bs with
   | nil=>simp at hb
   | cons b bs =>
    have h1:=ih (bs:=bs) (by simpa using hb)
    have h2:=sI k.length
    simp only[bi,tB,List.length_append,List.length_cons]
    omega
 have:=this (oD hm).symm
 unfold aE at hl
 simp only[List.length_append]at hl
 omega
theorem Dh {n:Nd}{r:List UInt8}(h:aQ n=true):bT (aE n++r)=(n,(r,false)):=by
 have hm:bW n=true:=by unfold aQ at h;simp at h;exact h.1
 have h256:=ln h
 have hks:=jl hm
 obtain⟨lf,ks,vs,kids⟩:=n
 simp only at h256 hks
 have hF:gM (aE ⟨lf,ks,vs,kids⟩++r)=(lf,(iM ks.length++(co ⟨lf,ks,vs,kids⟩++(bi ks (cC ⟨lf,ks,vs,kids⟩)++r)),false)):=by
  unfold gM E8 aE gO
  cases lf <;> simp[pC,tk]
 have hC:k7 (aE ⟨lf,ks,vs,kids⟩++r)=((ks.length:Int),(co ⟨lf,ks,vs,kids⟩++(bi ks (cC ⟨lf,ks,vs,kids⟩)++r),false)):=by
  unfold k7
  rw[hF,←l7 (by omega)]
  exact o8 (by omega) (by omega) (by omega)
 unfold bT gC
 rw[hC,hF]
 cases lf with
 | true =>
  obtain⟨h1,h2,h3⟩:=de hm rfl
  simp only at h1 h2 h3
  subst h2
  simp only[if_true,Int.toNat_natCast]
  have:=ry (ks:=ks) (vs:=vs) (k0:=[]) (v0:=[]) (r:=r) h1.symm hks h3
  simpa[co,cC] using this
 | false =>
  obtain⟨h1,h2,h3⟩:=cl hm rfl
  simp only at h1 h2 h3
  subst h2
  cases kids with
  | nil=>simp at h1
  | cons z zs =>
   have hz:=h3 z (List.mem_cons_self ..)
   have e2:lQ 32768 (cnt z++(bi ks (zs.map cnt)++r),false)=(z,(bi ks (zs.map cnt)++r,false)):=o8 hz.1 hz.2 (by omega)
   have hst:jg (⟨false,[],[],[]⟩,(co ⟨false,ks,[],z::zs⟩++(bi ks (cC ⟨false,ks,[],z::zs⟩)++r),false))=(⟨false,[],[],[z]⟩,(bi ks (zs.map cnt)++r,false)):=by
    have:co ⟨false,ks,[],z::zs⟩++(bi ks (cC ⟨false,ks,[],z::zs⟩)++r)=cnt z++(bi ks (zs.map cnt)++r):=by simp[co,cC]
    rw[this]
    simp only[jg,Bool.false_eq_true,if_false,e2,List.nil_append]
   simp only[Bool.false_eq_true,if_false,Int.toNat_natCast]
   rw[hst]
   have:=rA (ks:=ks) (zs:=zs) (k0:=[]) (z0:=[z]) (r:=r) (by simpa using h1.symm) hks (fun z h=>h3 z (List.mem_cons_of_mem _ h))
   simpa using this
theorem IK {n:Nd}(h:aQ n=true):eU (iR n)=some n:=by
 have hm:bW n=true:=by unfold aQ at h;simp at h;exact h.1
 have hl:=qB h
 have he:iR n=aE n++List.replicate (256-(aE n).length) 0:=by unfold iR;rw[if_pos h]
 have hr:bT (iR n)=(n,(List.replicate (256-(aE n).length) 0,false)):=by rw[he];exact Dh h
 unfold eU
 rw[hr,if_pos]
 exact⟨hl,rfl,hm,by simp⟩
end Go.Proofs.YtoaojmobnbbnmaaGreat
end
section
namespace Go.Proofs.YtoaojmobnbbnmaaGreat
open Go.Am
open Go.Proofs.YtoaojmobnbbnmaaGreat.T
theorem rg:∀ {l:List UInt8} {ks:List (List UInt8)} {i:Nat},rise l ks=true->rise l (ks.eraseIdx i)=true
 | _,[],_,h=>by simpa using h
 | _,k::r,0,h=>by
  obtain⟨h1,h2,h3⟩:=fj.1 h
  exact Dd h1 h3
 | _,k::r,i+1,h=>by
  obtain⟨h1,h2,h3⟩:=fj.1 h
  exact fj.2 ⟨h1,h2,rg h3⟩
theorem cI {n:Nd}:bW n=true↔rise [] n.ks=true/\((n.leaf=true/\n.vs.length=n.ks.length/\n.kids=[]/\∀ v∈n.vs,v.length<=64)∨(n.leaf=false/\n.kids.length=n.ks.length+1/\n.vs=[]/\∀ z∈n.kids,0<=z/\z<=32768)):=by
 constructor
 ·intro h
  refine⟨lV h,?_⟩
  cases hl:n.leaf with
  | true=>exact .inl ⟨rfl,de h hl⟩
  | false=>exact .inr ⟨rfl,cl h hl⟩
 rintro ⟨h0,⟨hl,h1,h2,h3⟩|⟨hl,h1,h2,h3⟩⟩
 ·unfold bW
  rw[h0,hl,if_pos rfl]
  simp[h1,h2]
  exact h3
 unfold bW
 rw[h0,hl,if_neg (by decide)]
 simp[h1,h2]
 exact h3
theorem xw {n:Nd}{i:Nat}(h:bW n=true)(hi:i<n.ks.length):bW (db n i)=true:=by
 obtain⟨h0,h⟩:=cI.1 h
 refine cI.2 ⟨rg h0,?_⟩
 rcases h with ⟨hl,h1,h2,h3⟩|⟨hl,h1,h2,h3⟩
 ·refine .inl ⟨hl,?_,by simp[db,h2],fun v hv=>h3 v (List.mem_of_mem_eraseIdx hv)⟩
  show (n.vs.eraseIdx i).length=(n.ks.eraseIdx i).length
  rw[List.length_eraseIdx,List.length_eraseIdx,h1]
 refine .inr ⟨hl,?_,by simp[db,h2],fun v hv=>h3 v (List.mem_of_mem_eraseIdx hv)⟩
 show (n.kids.eraseIdx (i+1)).length=(n.ks.eraseIdx i).length+1
 rw[List.length_eraseIdx,List.length_eraseIdx,if_pos (by omega),if_pos hi]
 omega
variable{α:Type}
theorem pn {β:Type}{f:α->β}:∀ {l:List α} {i:Nat},(l.eraseIdx i).map f=(l.map f).eraseIdx i
 | [],_=>by simp
 | _::_,0=>rfl
 | x::l,i+1=>by simp only[List.eraseIdx_cons_succ,List.map_cons,pn]
theorem EH(s:List UInt8):0<(tB s).length:=by
 have:=og s.length
 unfold tB
 rw[List.length_append]
 omega
theorem ua:∀ {ks bs:List (List UInt8)} {i:Nat},i<ks.length->ks.length=bs.length->(bi (ks.eraseIdx i) (bs.eraseIdx i)).length<(bi ks bs).length
 | [],_,_,h,_=>by simp at h
 | _::_,[],_,_,h=>by simp at h
 | k::ks,b::bs,0,_,_=>by
  have:=EH k
  simp only[List.eraseIdx_cons_zero,bi,List.length_append]
  omega
 | k::ks,b::bs,i+1,h,hl=>by
  have:=ua (ks:=ks) (bs:=bs) (i:=i) (by simpa using h) (by simpa using hl)
  simp only[List.eraseIdx_cons_succ,bi,List.length_append]
  omega
theorem xx {n:Nd}{i:Nat}(h:bW n=true):cC (db n i)=(cC n).eraseIdx i/\co (db n i)=co n:=by
 obtain⟨h0,h⟩:=cI.1 h
 obtain⟨lf,ks,vs,kids⟩:=n
 rcases h with ⟨hl,h1,h2,h3⟩|⟨hl,h1,h2,h3⟩
 ·simp only at hl h1 h2
  subst hl
  exact⟨pn,rfl⟩
 simp only at hl h1 h2
 subst hl
 cases kids with
 | nil=>simp at h1
 | cons z zs=>exact⟨pn,rfl⟩
theorem oM {A B:Nat}:∀ {ks bs:List (List UInt8)},(∀ k∈ks,(tB k).length<=A)->(∀ b∈bs,b.length<=B)->(bi ks bs).length<=ks.length*(A+B)
 | [],_,_,_=>by simp[bi]
 | k::ks,[],_,_=>by simp[bi]
 | k::ks,b::bs,h1,h2=>by
  have h3:=oM (ks:=ks) (bs:=bs) (fun k hk=>h1 k (List.mem_cons_of_mem _ hk)) (fun b hb=>h2 b (List.mem_cons_of_mem _ hb))
  have h4:=h1 k (List.mem_cons_self ..)
  have h5:=h2 b (List.mem_cons_self ..)
  simp only[bi,List.length_append,List.length_cons,Nat.add_mul,Nat.one_mul]
  omega
theorem lP {n:Nd}(h:bW n=true)(hs:(n.leaf=true/\n.ks.length<=2)∨(n.leaf=false/\n.ks.length<=6)):aQ n=true:=by
 have hks:∀ k∈n.ks,(tB k).length<=33:=fun k hk=>by
  have:=jl h k hk
  rw[gA (by omega)]
  omega
 have hg:(iM n.ks.length).length=1:=by rw[km (by omega)];rfl
 have hbody:(aE n).length<=256:=by
  rcases hs with ⟨hl,h2⟩|⟨hl,h6⟩
  ·obtain⟨g1,g2,g3⟩:=de h hl
   have hb:∀ b∈cC n,b.length<=65:=fun b hb=>by
    unfold cC at hb
    rw[hl,if_pos rfl]at hb
    obtain⟨v,hv,rfl⟩:=List.mem_map.1 hb
    have:=g3 v hv
    rw[gA (by omega)]
    omega
   have hz:=oM hks hb
   have hf:(co n).length=0:=by unfold co;rw[hl];rfl
   have hz2:(bi n.ks (cC n)).length<=2*(33+65):=Nat.le_trans hz (Nat.mul_le_mul_right _ h2)
   unfold aE gO
   simp only[List.length_append,List.length_cons,List.length_nil]
   omega
  obtain⟨g1,g2,g3⟩:=cl h hl
  have hc:∀ z:Int,0<=z/\z<=32768->(cnt z).length<=3:=fun z hz=>by
   obtain⟨m,rfl⟩:=Int.eq_ofNat_of_zero_le hz.1
   rw[l7 (by omega)]
   exact ko (k:=3) (by omega) (by omega)
  have hb:∀ b∈cC n,b.length<=3:=fun b hb=>by
   unfold cC at hb
   rw[hl,if_neg (by decide)]at hb
   obtain⟨v,hv,rfl⟩:=List.mem_map.1 hb
   exact hc v (g3 v (List.mem_of_mem_tail hv))
  have hz:=oM hks hb
  have hf:(co n).length<=3:=by
   unfold co
   rw[hl,if_neg (by decide)]
   refine hc _ ?_
   cases hk:n.kids with
   | nil=>rw[hk]at g1;simp at g1
   | cons z zs=>exact g3 z (by rw[hk];exact List.mem_cons_self ..)
  have hz2:(bi n.ks (cC n)).length<=6*(33+3):=Nat.le_trans hz (Nat.mul_le_mul_right _ h6)
  unfold aE gO
  simp only[List.length_append,List.length_cons,List.length_nil]
  omega
 unfold aQ
 rw[h,decide_eq_true hbody]
 rfl
end Go.Proofs.YtoaojmobnbbnmaaGreat
end
namespace Go.Proofs.YtoaojmobnbbnmaaGreat
open Go.Am
def tb(c:UInt8)(k:Nat):Bool:=c.toNat.testBit k
def zI(D:List UInt8)(i:Nat):Bool:=tb (D[i/8]?.getD 0) (i%8)
def cz(T:List Bool)(i:Nat):Bool:=T[i]?.getD false
structure D8(D:List UInt8)(T:List Bool):Prop where
 len:D.length=(T.length+7)/8
 le:T.length<=32768
 same:∀ i,zI D i=cz T i
theorem ED {c:UInt8}{k:Nat}(h:8<=k):tb c k=false:=by
 unfold tb
 refine Nat.testBit_lt_two_pow (Nat.lt_of_lt_of_le (UInt8.toNat_lt c) ?_)
 calc 256=2^8:=rfl
  _<=2^k:=Nat.pow_le_pow_right (by omega) h
theorem Bv(k:Nat):tb 0 k=false:=by unfold tb;simp
theorem zD {c d:UInt8}(h:∀ k,k<8->tb c k=tb d k):c=d:=by
 refine UInt8.toNat_inj.1 (Nat.eq_of_testBit_eq fun k=>?_)
 by_cases hk:k<8
 ·exact h k hk
 have h1:=ED (c:=c) (k:=k) (by omega)
 have h2:=ED (c:=d) (k:=k) (by omega)
 unfold tb at h1 h2
 rw[h1,h2]
variable{D:List UInt8}{i:Nat}
theorem IU (h:D.length<=i/8):zI D i=false:=by
 unfold zI;rw[List.getElem?_eq_none h];exact Bv _
theorem tu(D:List UInt8)(j k:Nat)(hk:k<8):zI D (8*j+k)=tb (D[j]?.getD 0) k:=by
 unfold zI
 rw[show (8*j+k)/8=j by omega,show (8*j+k)%8=k by omega]
theorem D0 {E:List UInt8}(hl:D.length=E.length)(h:∀ i,zI D i=zI E i):D=E:=by
 apply List.ext_getElem hl
 intro j h1 h2
 refine zD fun k hk=>?_
 have:=h (8*j+k)
 rw[tu _ _ _ hk,tu _ _ _ hk,List.getElem?_eq_getElem h1,List.getElem?_eq_getElem h2]at this
 simpa using this
theorem D8.uniq {E:List UInt8}{T:List Bool}(h:D8 D T)(g:D8 E T):D=E:=D0 (h.len.trans g.len.symm) fun i=>(h.same i).trans (g.same i).symm
variable{T:List Bool}
theorem FM {U:List Bool}(hl:T.length=U.length)(h:∀ i,cz T i=cz U i):T=U:=by
 apply List.ext_getElem hl
 intro j h1 h2
 have:=h j
 unfold cz at this
 rw[List.getElem?_eq_getElem h1,List.getElem?_eq_getElem h2]at this
 simpa using this
theorem nq (h:T.length<=i):cz T i=false:=by unfold cz;rw[List.getElem?_eq_none h];rfl
theorem kQ (h:i<T.length):T[i]?=some (cz T i):=by unfold cz;rw[List.getElem?_eq_getElem h];rfl
theorem gb {b:Bool}(h:i<T.length)(j:Nat):cz (T.set i b) j=if j=i then b else cz T j:=by
 unfold cz
 rw[List.getElem?_set]
 by_cases hij:i=j
 ·subst hij;rw[if_pos rfl,if_pos h,if_pos rfl];rfl
 rw[if_neg hij,if_neg (fun e=>hij e.symm)]
theorem oS(n i:Nat):cz (List.replicate n false) i=false:=by
 unfold cz
 rw[List.getElem?_replicate]
 split <;> rfl
def uX(D:List UInt8)(i:Nat):List UInt8:=D.set (i/8) (UInt8.ofNat ((D[i/8]?.getD 0).toNat ^^^ 2^(i%8)))
theorem Ep {c:UInt8}{k:Nat}(hk:k<8):c.toNat ^^^ 2^k<256:=by
 have h1:2^k<2^8:=Nat.pow_lt_pow_right (by omega) hk
 exact Nat.xor_lt_two_pow (n:=8) (UInt8.toNat_lt c) h1
theorem HA {c:UInt8}{k j:Nat}(hk:k<8):tb (UInt8.ofNat (c.toNat ^^^ 2^k)) j=if j=k then !tb c j else tb c j:=by
 unfold tb
 rw[dD (Ep hk),Nat.testBit_xor,Nat.testBit_two_pow]
 by_cases h:j=k
 ·subst h;simp
 rw[if_neg h]
 have:¬ k=j:=fun e=>h e.symm
 simp[this]
theorem G3 (h:i/8<D.length)(j:Nat):zI (uX D i) j=if j=i then !zI D j else zI D j:=by
 unfold zI uX
 rw[List.getElem?_set]
 by_cases hb:i/8=j/8
 ·rw[if_pos hb,if_pos h,Option.getD_some,HA (by omega),hb]
  by_cases hj:j=i
  ·subst hj;rw[if_pos rfl,if_pos rfl]
  rw[if_neg (by omega),if_neg hj]
 rw[if_neg hb,if_neg (by intro e;subst e;exact hb rfl)]
theorem D8.flip (h:D8 D T)(hi:i<T.length):D8 (uX D i) (T.set i (!cz T i)):=by
 refine⟨by unfold uX;rw[List.length_set,List.length_set];exact h.len,by rw[List.length_set];exact h.le,fun j=>?_⟩
 rw[G3 (by have:=h.len;omega),gb hi,h.same]
 by_cases hj:j=i
 ·subst hj;simp
 rw[if_neg hj,if_neg hj]
variable{n:Nat}
theorem D8.zeros (h:n<=32768):D8 (List.replicate ((n+7)/8) 0) (List.replicate n false):=by
 refine⟨by simp,by simpa using h,fun i=>?_⟩
 rw[oS]
 unfold zI
 rw[List.getElem?_replicate]
 split <;> exact Bv _
def ff(T:List Bool):Nat:=T.findIdx (fun b=>!b)
theorem Jo {m:Nat}(h1:∀ i,i<m->cz T i=true)(h2:cz T m=false):ff T=m:=by
 have hm:m<=T.length:=by
  rcases Nat.lt_or_ge T.length m with h|h
  ·have:=h1 T.length h
   rw[nq (Nat.le_refl _)]at this;cases this
  exact h
 unfold ff
 rcases Nat.lt_or_ge m T.length with h|h
 ·rw[List.findIdx_eq h]
  have h2':=kQ h
  rw[h2,List.getElem?_eq_getElem h]at h2'
  refine⟨by simpa using h2',fun j hj=>?_⟩
  have h1':=kQ (T:=T) (i:=j) (by omega)
  rw[h1 j hj,List.getElem?_eq_getElem (by omega)]at h1'
  simpa using h1'
 have:m=T.length:=by omega
 subst this
 rw[List.findIdx_eq_length]
 intro x hx
 obtain⟨i,hi,rfl⟩:=List.mem_iff_getElem.1 hx
 have h1':=kQ hi
 rw[h1 i hi,List.getElem?_eq_getElem hi]at h1'
 simpa using h1'
theorem K0(T:List Bool):ff T<=T.length:=List.findIdx_le_length
theorem zl (h:i<ff T):cz T i=true:=by
 have hl:i<T.length:=Nat.lt_of_lt_of_le h (K0 T)
 have:=List.not_of_lt_findIdx (p:=fun b=>!b) (xs:=T) h
 have h2:=kQ hl
 rw[List.getElem?_eq_getElem hl]at h2
 simp only[Option.some.injEq]at h2
 rw[←h2];simpa using this
theorem kx (h:ff T<T.length):cz T (ff T)=false:=by
 have:=List.findIdx_getElem (p:=fun b=>!b) (xs:=T) (w:=h)
 have h2:=kQ h
 rw[List.getElem?_eq_getElem h]at h2
 simp only[Option.some.injEq]at h2
 rw[←h2]
 have this:T[List.findIdx (fun b=>!b) T]'h=false:=by simpa using this
 exact this
def frees(T:List Bool):Nat:=T.countP (fun b=>!b)
def FJ(T:List Bool):List Nat:=(List.range T.length).filter (cz T)
theorem Df(T:List Bool):(List.range T.length).map (cz T)=T:=by
 apply List.ext_getElem?
 intro i
 rw[List.getElem?_map]
 by_cases h:i<T.length
 ·rw[List.getElem?_range h,kQ h];rfl
 rw[List.getElem?_eq_none (by simpa using h),List.getElem?_eq_none (by omega)];rfl
theorem Gg(T:List Bool):frees T=(List.range T.length).countP (fun i=>!cz T i):=by
 unfold frees
 conv=>lhs;rw[←Df T]
 rw[List.countP_map];rfl
theorem t6(T:List Bool):(FJ T).length+frees T=T.length:=by
 have h1:(FJ T).length=(List.range T.length).countP (cz T):=by unfold FJ;rw[List.countP_eq_length_filter]
 have h2:=List.length_eq_countP_add_countP (p:=cz T) (l:=List.range T.length)
 rw[List.length_range]at h2
 rw[h1,Gg]
 refine Eq.trans ?_ h2.symm
 congr 1
 refine List.countP_congr fun x _=>?_
 simp
def pc(c:UInt8):Nat:=(List.range 8).countP (tb c)
def fz(c:UInt8):Nat:=(List.range 8).findIdx (fun k=>!tb c k)
theorem Fk(c:UInt8):pc c<=8:=by
 unfold pc
 exact Nat.le_trans List.countP_le_length (by simp)
def fV(D:List UInt8)(j:Nat):Nat:=(List.range (8*j)).countP (zI D)
theorem yu {j:Nat}{c:UInt8}(h:D[j]?=some c):fV D (j+1)=fV D j+pc c:=by
 unfold fV pc
 rw[show 8*(j+1)=8*j+8 by omega,List.range_add,List.countP_append,List.countP_map]
 congr 1
 refine List.countP_congr fun k hk=>?_
 have hk:k<8:=by simpa using hk
 show zI D (8*j+k)=true↔_
 rw[tu _ _ _ hk,h];rfl
theorem AA (h:D8 D T):fV D D.length+frees T=T.length:=by
 have e:fV D D.length=(List.range T.length).countP (cz T):=by
  unfold fV
  have hl:8*D.length=T.length+(8*D.length-T.length):=by have:=h.len;omega
  rw[hl,List.range_add,List.countP_append]
  have:List.countP (zI D) (List.map (fun x=>T.length+x) (List.range (8*D.length-T.length)))=0:=by
   rw[List.countP_eq_zero]
   intro x hx
   obtain⟨y,_,rfl⟩:=List.mem_map.1 hx
   rw[h.same,nq (by omega)];simp
  rw[this,Nat.add_zero]
  exact List.countP_congr fun x _=>by rw[h.same]
 have h1:(FJ T).length=(List.range T.length).countP (cz T):=by unfold FJ;rw[List.countP_eq_length_filter]
 rw[e,←h1]
 exact t6 T
theorem Dm(D:List UInt8)(j:Nat):fV D j<=8*j:=by
 unfold fV
 exact Nat.le_trans List.countP_le_length (by simp)
def tM(f:Nat->Bool):Nat->Nat
 | 0=>0
 | k+1=>tM f k+if f k then 2^k else 0
theorem vE(f:Nat->Bool):∀ k,tM f k<2^k
 | 0=>by simp[tM]
 | k+1=>by
  have:=vE f k
  simp only[tM,Nat.pow_succ]
  split <;> omega
theorem qK(f:Nat->Bool):∀ k j,(tM f k).testBit j=(decide (j<k)&&f j)
 | 0,j=>by simp[tM]
 | k+1,j=>by
  have hlt:=vE f k
  simp only[tM]
  by_cases hf:f k=true
  ·rw[if_pos hf,Nat.add_comm,show 2^k+tM f k=2^k*1+tM f k by rw[Nat.mul_one],Nat.two_pow_add_eq_or_of_lt hlt,Nat.mul_one,Nat.testBit_or,Nat.testBit_two_pow,qK f k j]
   by_cases hj:k=j
   ·subst hj;simp[hf]
   simp[hj]
   by_cases h2:j<k
   ·simp[h2,show j<k+1 by omega]
   simp[h2,show ¬ j<k+1 by omega]
  rw[if_neg hf,Nat.add_zero,qK f k j]
  by_cases hj:k=j
  ·subst hj;simp[show f k=false by simpa using hf]
  by_cases h2:j<k
  ·simp[h2,show j<k+1 by omega]
  simp[h2,show ¬ j<k+1 by omega]
def A8(T:List Bool)(j:Nat):UInt8:=UInt8.ofNat (tM (fun k=>cz T (8*j+k)) 8)
variable{k:Nat}
theorem A7 {j:Nat}(hk:k<8):tb (A8 T j) k=cz T (8*j+k):=by
 unfold tb A8
 rw[dD (vE _ 8),qK]
 simp[hk]
def pk(T:List Bool):List UInt8:=(List.range ((T.length+7)/8)).map (A8 T)
theorem j3(T:List Bool):(pk T).length=(T.length+7)/8:=by simp[pk]
theorem Ax(T:List Bool)(i:Nat):zI (pk T) i=cz T i:=by
 by_cases h:i/8<(T.length+7)/8
 ·have:=tu (pk T) (i/8) (i%8) (by omega)
  rw[show 8*(i/8)+i%8=i by omega]at this
  rw[this]
  simp only[pk,List.getElem?_map,List.getElem?_range h,Option.map_some,Option.getD_some]
  rw[A7 (by omega),show 8*(i/8)+i%8=i by omega]
 rw[IU (by rw[j3];omega),nq (by omega)]
theorem Aw (h:T.length<=32768):D8 (pk T) T:=⟨j3 T,h,Ax T⟩
theorem D8.pk (h:D8 D T):D=pk T:=h.uniq (Aw h.le)
end Go.Proofs.YtoaojmobnbbnmaaGreat
section
namespace Go.Am
variable{P:Program}{a:ah}{o:Oper}{t z:TypeId}{x y:Operand}
theorem zH {m:Nat}(hm:m<256):eK .u8 (m:Int)=m:=by
 unfold eK
 have:(av 0 (m:Int)&&av (m:Int) (gN .u8))=true:=by
  rw[Bool.and_eq_true,au,au];exact⟨by omega,by simp[gN];omega⟩
 rw[this];simp
variable{n:Nat}
theorem Kk {m:Nat}(ho:o.op=.binOp .and t x y z)(hx:aX a x=some (.int .u8 (m:Int)))(hy:aX a y=some (.int .u8 (n:Int)))(hm:m<256)(hn:n<256):∀ h,aI P a o h=some (.val (.int .u8 ((m &&& n:Nat):Int)) h):=by
 intro h
 have hlt:m &&& n<256:=Nat.and_lt_two_pow (n:=8) m hn
 have hi:qx .u8 ((m &&& n:Nat):Int)=true:=sC (by omega) (by omega)
 simp only[aI,ho,hx,hy,fN,iH,if_true,zH hm,zH hn,dP hi,ret]
theorem J9 {m:Nat}(ho:o.op=.binOp .xor t x y z)(hx:aX a x=some (.int .u8 (m:Int)))(hy:aX a y=some (.int .u8 (n:Int)))(hm:m<256)(hn:n<256):∀ h,aI P a o h=some (.val (.int .u8 ((m ^^^ n:Nat):Int)) h):=by
 intro h
 have hlt:m ^^^ n<256:=Nat.xor_lt_two_pow (n:=8) hm hn
 have hi:qx .u8 ((m ^^^ n:Nat):Int)=true:=sC (by omega) (by omega)
 simp only[aI,ho,hx,hy,fN,iH,if_true,zH hm,zH hn,dP hi,ret]
theorem Kc {m:Nat}(ho:o.op=.unOp .xor t x)(hx:aX a x=some (.int .u8 (m:Int)))(hm:m<256):∀ h,aI P a o h=some (.val (.int .u8 ((255 ^^^ m:Nat):Int)) h):=by
 intro h
 have hlt:255 ^^^ m<256:=Nat.xor_lt_two_pow (n:=8) (by decide) hm
 have hi:qx .u8 ((255 ^^^ m:Nat):Int)=true:=sC (by omega) (by omega)
 have hk:eK .u8 (if IntKind.u8.signed=true then -1 else IntKind.u8.max)=255:=by decide
 simp only[aI,ho,hx,Lu,hk,zH hm,dP hi,ret]
end Go.Am
namespace Go.Proofs.YtoaojmobnbbnmaaGreat
open Go.Am
abbrev ptr(r:Nat):Value:=.pointer (some ⟨r,0,none⟩)
abbrev fm(rm rb:Nat)(T:List Bool)(F:RL):RL:=(rm,.cells 145 [.int .i64 (T.length:Nat),.slice (some ⟨rb,0,none⟩) (pk T).length (pk T).length])::(rb,.cells 5 (ab (pk T)))::F
variable{n k:Nat}
theorem JQ:bc ((n/2^k &&& 1:Nat):Int) 1=n.testBit k:=by
 rw[aC,Nat.testBit_eq_decide_div_mod_eq,Nat.and_one_is_mod]
 by_cases h:n/2^k%2=1
 ·simp[h]
 have:n/2^k%2=0:=by omega
 simp[this]
variable{D:List UInt8}
theorem qF {j:Nat}(h:j<D.length):(ab D)[0+j*1]?=some (.int .u8 ((D[j]'h).toNat:Nat)):=by
 rw[show 0+j*1=j by omega];exact mC (List.getElem?_eq_getElem h)
variable{L:RL}
theorem wx (n:Nat)(hn:n<=1000000):CS Tryz.prog 90 [.int .i64 (n:Nat)] L fun v L'=>v=.int .i64 (((n+7)/8:Nat):Int)/\L'=L:=by
 refine yF Tryz.f90 ?_
 refine yX 5 ?_
 refine yP (a8 (n:=7) rfl rfl rfl (ak (by omega) (by omega))) ?_
 refine yP (u7 (m:=n+7) (n:=8) rfl rfl rfl (by decide) (ak (by omega) (by omega))) ?_
 refine yX 3 ?_
 exact⟨rfl,rfl⟩
variable{F:RL}{rm rb:Nat}{T:List Bool}
theorem xj:CS Tryz.prog 91 [ptr rm] (fm rm rb T F) fun v L'=>v=.int .i64 (T.length:Nat)/\L'=fm rm rb T F:=by
 refine yF Tryz.f91 ?_
 refine yX 17 ?_
 exact⟨rfl,rfl⟩
theorem wL (i:Int):CS Tryz.prog 203 [ptr rm,.int .i64 i] (fm rm rb T F) fun v L'=>v=.bool (decide (0<=i/\i<T.length))/\L'=fm rm rb T F:=by
 refine yF Tryz.f203 ?_
 refine yX 3 ?_
 by_cases h:0<=i
 ·have hb:av 0 i=true:=au.2 h
  refine yX 2 ?_
  refine yI hb ?_
  refine yX 3 ?_
  refine yA yH xj ?_
  rintro v L' ⟨rfl,rfl⟩
  refine yX 6 ?_
  refine⟨?_,rfl⟩
  rw[am]
  simp[h,cj]
  rw[Bool.eq_iff_iff];simp
 have hb:av 0 i=false:=by rw[am];simpa using h
 refine yX 2 ?_
 refine yI hb ?_
 refine yX 9 ?_
 refine⟨?_,rfl⟩
 simp[h,cj]
theorem oH (hT:T.length<=32768)(i:Int):CS Tryz.prog 165 [ptr rm,.int .i64 i] (fm rm rb T F) fun v L'=>v=.bool (decide (0<=i/\i<T.length)&&cz T i.toNat)/\L'=fm rm rb T F:=by
 refine yF Tryz.f165 ?_
 refine yX 3 ?_
 by_cases h:0<=i/\i<T.length
 ·obtain⟨j,rfl⟩:=Int.eq_ofNat_of_zero_le h.1
  have hj:j<T.length:=by omega
  have hjb:j/8<(pk T).length:=by rw[j3];omega
  have hval:bc (((pk T)[j/8]'hjb).toNat/2^(j%8) &&& 1:Nat) 1=cz T j:=by
   rw[JQ,←Ax T j]
   unfold zI tb
   rw[List.getElem?_eq_getElem hjb];rfl
  refine yX 3 ?_
  refine yA yH (wL (j:Nat)) ?_
  rintro v L' ⟨rfl,rfl⟩
  rw[decide_eq_true h]
  refine yX 7 ?_
  refine yP (u7 (m:=j) (n:=8) rfl rfl rfl (by decide) (ak (by omega) (by omega))) ?_
  refine yP (bK (j:=j/8) (sz:=1) rfl rfl rfl rfl rfl hjb) ?_
  refine yR (aA 1 rfl rfl rfl rfl (ap rfl (qF hjb))) ?_
  refine yX 1 ?_
  refine yP (u6 (m:=j) (n:=8) rfl rfl rfl (by decide)) ?_
  refine yP (Gr (k:=.u8) (s:=j%8) rfl rfl rfl (by have:IntKind.u8.bits=8:=rfl;omega)) ?_
  refine yP (Kk (n:=1) rfl rfl rfl (Nat.lt_of_le_of_lt (Nat.div_le_self _ _) (UInt8.toNat_lt _)) (by decide)) ?_
  refine yI hval ?_
  refine yX 4 ?_
  exact⟨by simp[cj],rfl⟩
 refine yX 3 ?_
 refine yA yH (wL i) ?_
 rintro v L' ⟨rfl,rfl⟩
 rw[decide_eq_false h]
 refine yX 19 ?_
 exact⟨by simp[cj],rfl⟩
theorem pq {cs:List UInt8}{j:Nat}(c:UInt8)(hj:j<cs.length):kO (ab cs) (0+j*1) [.int .u8 (c.toNat:Nat)]=some (ab (cs.set j c)):=by
 rw[show 0+j*1=j by omega,iZ (by rw[ao];exact hj)]
 simp[ab,List.map_set]
variable{i:Nat}
theorem wR (hT:T.length<=32768)(hi:i<T.length):CS Tryz.prog 175 [ptr rm,.int .i64 (i:Nat)] (fm rm rb T F) fun v L'=>L'=fm rm rb (T.set i (!cz T i)) F:=by
 have hib:i/8<(pk T).length:=by rw[j3];omega
 have hflip:uX (pk T) i=pk (T.set i (!cz T i)):=((Aw hT).flip hi).pk
 have hx:(pk T)[i/8].toNat ^^^ 1*2^(i%8)=(UInt8.ofNat ((pk T)[i/8].toNat ^^^ 2^(i%8))).toNat:=by rw[dD (Ep (by omega)),Nat.one_mul]
 have h2:1*2^(i%8)<256:=by
  have:2^(i%8)<2^8:=Nat.pow_lt_pow_right (by omega) (by omega)
  omega
 refine yF Tryz.f175 ?_
 repeat refine xQ ?_
 refine LS.drawn noGo mixed [(0,false),(1,false),(2,false),(3,false),(4,false),(5,false),(6,false),(7,false),(8,false),(9,false),(10,false),(11,false),(12,false),(13,true)] rfl rfl (by kernel_rfl) ?_
 refine yX 5 ?_
 refine yQ rfl (u7 (m:=i) (n:=8) rfl rfl rfl (by decide) (ak (by omega) (by omega))) ?_
 refine yQ rfl (bK (j:=i/8) (sz:=1) rfl rfl rfl rfl rfl hib) ?_
 refine xE rfl rfl (aA 1 rfl rfl rfl rfl (ap rfl (qF hib))) rfl ?_
 refine yX 1 ?_
 refine yQ rfl (u6 (m:=i) (n:=8) rfl rfl rfl (by decide)) ?_
 refine yQ rfl (Cq (m:=1) (s:=i%8) (k:=.u8) rfl rfl rfl (by have:IntKind.u8.bits=8:=rfl;omega) (sC (by omega) (by omega))) ?_
 refine yQ rfl (J9 (m:=(pk T)[i/8].toNat) rfl rfl rfl (UInt8.toNat_lt _) h2) ?_
 rw[hx]
 refine yQ rfl (bK (j:=i/8) (sz:=1) rfl rfl rfl rfl rfl hib) ?_
 refine ba.write rfl rfl (ax 1 (n:=1) rfl rfl rfl rfl rfl rfl (pq _ hib) rfl) rfl (ai.gone rfl (ai.gone rfl ai.nil)) ?_
 refine yX 1 ?_
 have hgd:(pk T)[i/8]?.getD 0=(pk T)[i/8]:=by rw[List.getElem?_eq_getElem hib];rfl
 unfold uX at hflip
 rw[hgd]at hflip
 refine⟨_,fun _ _=>rfl,?_⟩
 rw[hflip]
 have:(pk (T.set i (!cz T i))).length=(pk T).length:=by rw[j3,j3,List.length_set]
 simp only[fm,List.length_set,this]
end Go.Proofs.YtoaojmobnbbnmaaGreat
end
namespace Go.Proofs.YtoaojmobnbbnmaaGreat
open Go.Am
def nx(T:List Bool):Nat:=if ff T<T.length then ff T else 0
def qM(T:List Bool):Int:=if ff T<T.length then 0 else 3
def nw(T:List Bool):List Bool:=if ff T<T.length then T.set (ff T) true else T
def eX(T:List Bool)(i:Int):Int:=if 0<=i/\i<T.length then (if cz T i.toNat then 6 else 0) else 1
def cp(T:List Bool)(i:Int):List Bool:=if eX T i=0 then T.set i.toNat true else T
def dS(T:List Bool)(i:Int):Int:=if 0<=i/\i<T.length then (if cz T i.toNat then 0 else 5) else 1
def fp(T:List Bool)(i:Int):List Bool:=if dS T i=0 then T.set i.toNat false else T
theorem mX(T:List Bool)(i:Int):(cp T i).length=T.length:=by unfold cp;split <;> simp
theorem pE(T:List Bool)(i:Int):(fp T i).length=T.length:=by unfold fp;split <;> simp
def LA:List UInt8:=(List.range 256).map fun x=>UInt8.ofNat (fz (UInt8.ofNat (255 ^^^ x)))
def JN:List UInt8:=(List.range 256).map fun x=>UInt8.ofNat (pc (UInt8.ofNat x))
theorem Ge(c:UInt8):fz c<=8:=by
 have:=List.findIdx_le_length (p:=fun k=>!tb c k) (xs:=List.range 8)
 rw[List.length_range]at this
 exact this
theorem JA(c:UInt8):LA[255 ^^^ c.toNat]?=some (UInt8.ofNat (fz c)):=by
 have hlt:255 ^^^ c.toNat<256:=Nat.xor_lt_two_pow (n:=8) (by decide) (UInt8.toNat_lt c)
 unfold LA
 rw[List.getElem?_map,List.getElem?_range hlt,Option.map_some]
 have:255 ^^^ (255 ^^^ c.toNat)=c.toNat:=by rw[←Nat.xor_assoc,Nat.xor_self,Nat.zero_xor]
 rw[this]
 simp
theorem H6(c:UInt8):JN[c.toNat]?=some (UInt8.ofNat (pc c)):=by
 unfold JN
 rw[List.getElem?_map,List.getElem?_range (UInt8.toNat_lt c),Option.map_some]
 simp
variable{L:RL}
theorem I7 (c:UInt8):CS Tryz.prog 102 [.int .u8 (c.toNat:Nat)] L fun v L'=>v=.int .i64 (pc c:Nat)/\L'=L:=by
 have h8:(UInt8.ofNat (pc c)).toNat=pc c:=dD (by have:=Fk c;omega)
 refine yF Tryz.f102 ?_
 refine yX 5 ?_
 refine yP (Gu (s:=JN) rfl (by kernel_rfl) rfl rfl (H6 c)) ?_
 rw[h8]
 refine yP (c8 rfl rfl rfl rfl (ak (by omega) (by have:=Fk c;omega))) ?_
 refine yX 3 ?_
 exact⟨rfl,rfl⟩
theorem G8 (c:UInt8):CS Tryz.prog 245 [.int .u8 ((255 ^^^ c.toNat:Nat):Int)] L fun v L'=>v=.int .i64 (fz c:Nat)/\L'=L:=by
 have h8:(UInt8.ofNat (fz c)).toNat=fz c:=dD (by have:=Ge c;omega)
 refine yF Tryz.f245 ?_
 refine yX 5 ?_
 refine yP (Gu (s:=LA) rfl (by kernel_rfl) rfl rfl (JA c)) ?_
 rw[h8]
 refine yP (c8 rfl rfl rfl rfl (ak (by omega) (by have:=Ge c;omega))) ?_
 refine yX 3 ?_
 exact⟨rfl,rfl⟩
theorem zd {c:UInt8}{k:Nat}(h:k<fz c):tb c k=true:=by
 have hk:k<8:=Nat.lt_of_lt_of_le h (Ge c)
 have:=List.not_of_lt_findIdx (p:=fun k=>!tb c k) (xs:=List.range 8) h
 simpa using this
theorem Iw {c:UInt8}(h:c≠255):fz c<8/\tb c (fz c)=false:=by
 have hlt:fz c<8:=by
  rcases Nat.lt_or_ge (fz c) 8 with h1|h1
  ·exact h1
  refine absurd (zD fun k hk=>?_) h
  rw[zd (by omega)]
  revert k
  decide
 refine⟨hlt,?_⟩
 have:=List.findIdx_getElem (p:=fun k=>!tb c k) (xs:=List.range 8) (w:=by rw[List.length_range];exact hlt)
 have this:tb c ((List.range 8)[fz c]'(by rw[List.length_range];exact hlt))=false:=by simpa[fz] using this
 simpa using this
variable{k:Nat}
theorem Gf (hk:k<8):tb 255 k=true:=by revert k;decide
variable{F:RL}{rm rb:Nat}{T:List Bool}
theorem wB (hT:T.length<=32768):CS Tryz.prog 222 [ptr rm] (fm rm rb T F) fun v L'=>v=.int .i64 (ff T:Nat)/\L'=fm rm rb T F:=by
 have hl:=j3 T
 refine yF Tryz.f222 ?_
 refine yX 12 ?_
 refine LS.loopJ [0,8,9,10] (fun q a L'=>∃ j,q=(pk T).length-j/\j<=(pk T).length/\(∀ i,i<8*j->cz T i=true)/\L'=fm rm rb T F /\
  a=[ptr rm,yC,yC,yC,yC,yC,yC,yC,.slice (some ⟨rb,0,none⟩) (pk T).length (pk T).length,.int .i64 ((pk T).length:Nat),.int .i64 (j:Nat),yC,yC,yC,yC,yC,yC,yC,yC,yC,yC,yC,yC,yC,yC,yC,yC,yC]) (n:=(pk T).length) rfl ⟨0,rfl,by omega,fun i hi=>by omega,rfl,rfl⟩ ?_
 rintro q a L' ⟨j,rfl,hj,hall,rfl,rfl⟩
 refine yV 3 ?_
 refine xC rfl ?_ ?_ <;> intro hc
 ·have hc:=cg hc
  have hjl:j<(pk T).length:=by omega
  have hbit:∀ k,k<8->tb (pk T)[j] k=cz T (8*j+k):=fun k hk=>by
   rw[←Ax,tu _ _ _ hk,List.getElem?_eq_getElem hjl];rfl
  refine yX 4 ?_
  refine yP (bK (j:=j) (sz:=1) rfl rfl rfl rfl rfl hjl) ?_
  refine yR (aA 1 rfl rfl rfl rfl (ap rfl (qF hjl))) ?_
  refine yX 3 ?_
  by_cases h255:(pk T)[j]=255
  ·have hb:(!bc ((pk T)[j].toNat:Int) 255)=false:=by rw[h255];rfl
   refine yX 2 ?_
   refine yI hb ?_
   refine yX 4 ?_
   refine yP (a8 rfl rfl rfl (ak (by omega) (by omega))) ?_
   refine yX 2 ?_
   refine⟨(pk T).length-(j+1),by omega,j+1,rfl,by omega,fun i hi=>?_,rfl,rfl⟩
   by_cases h8:i<8*j
   ·exact hall i h8
   have:=hbit (i-8*j) (by omega)
   rw[show 8*j+(i-8*j)=i by omega,h255,Gf (by omega)]at this
   exact this.symm
  have hb:(!bc ((pk T)[j].toNat:Int) 255)=true:=by
   rw[aC]
   have:(pk T)[j].toNat≠255:=fun e=>h255 (UInt8.toNat_inj.1 (by rw[e];rfl))
   simp;omega
  obtain⟨hf1,hf2⟩:=Iw h255
  have hff:ff T=8*j+fz (pk T)[j]:=by
   refine Jo (fun i hi=>?_) ?_
   ·by_cases h8:i<8*j
    ·exact hall i h8
    have:=hbit (i-8*j) (by omega)
    rw[show 8*j+(i-8*j)=i by omega,zd (by omega)]at this
    exact this.symm
   rw[←hbit _ hf1];exact hf2
  refine yX 2 ?_
  refine yI hb ?_
  refine yX 4 ?_
  refine yP (qa (m:=8) rfl rfl rfl (ak (by omega) (by omega))) ?_
  refine yX 1 ?_
  refine yP (Kc rfl rfl (UInt8.toNat_lt _)) ?_
  refine yA yH (G8 _) ?_
  rintro v L' ⟨rfl,rfl⟩
  refine yX 1 ?_
  refine yP (a8 rfl rfl rfl (ak (by omega) (by omega))) ?_
  refine yX 3 ?_
  rw[hff]
  exact⟨by simp[cj],rfl⟩
 have hc:=bz hc
 have hjl:j=(pk T).length:=by omega
 subst hjl
 have hmany:T.length=8*(pk T).length:=by
  rcases Nat.lt_or_ge T.length (8*(pk T).length) with h|h
  ·have:=hall T.length h
   rw[nq (Nat.le_refl _)]at this;cases this
  omega
 have hff:ff T=T.length:=Jo (fun i hi=>hall i (by omega)) (nq (Nat.le_refl _))
 refine LS.exit ?_
 refine yX 8 ?_
 rw[hff]
 exact⟨rfl,rfl⟩
theorem CI (hT:T.length<=32768):CS Tryz.prog 183 [ptr rm] (fm rm rb T F) fun v L'=>v=.tuple #[.int .i64 (nx T:Nat),.int .i64 (qM T)]/\L'=fm rm rb (nw T) F:=by
 refine yF Tryz.f183 ?_
 refine yX 12 ?_
 refine yA yH (wB hT) ?_
 rintro v L' ⟨rfl,rfl⟩
 refine yX 6 ?_
 refine yA yH (wL (ff T:Nat)) ?_
 rintro v L' ⟨rfl,rfl⟩
 by_cases h:ff T<T.length
 ·rw[decide_eq_true (show 0<=((ff T:Nat):Int)/\((ff T:Nat):Int)<T.length by omega)]
  refine yX 8 ?_
  refine yA yH (wR hT h) ?_
  rintro v L' rfl
  refine yX 8 ?_
  unfold nx qM nw
  rw[if_pos h,if_pos h,if_pos h,kx h]
  exact⟨rfl,rfl⟩
 rw[decide_eq_false (show ¬ (0<=((ff T:Nat):Int)/\((ff T:Nat):Int)<T.length) by omega)]
 refine yX 9 ?_
 unfold nx qM nw
 rw[if_neg h,if_neg h,if_neg h]
 exact⟨rfl,rfl⟩
theorem ru (i:Int):CS Tryz.prog 174 [ptr rm,.int .i64 i] (fm rm rb T F) fun v L'=>v=.int .i64 (if 0<=i/\i<T.length then 0 else 1)/\L'=fm rm rb T F:=by
 refine yF Tryz.f174 ?_
 refine yX 12 ?_
 refine yA yH (wL i) ?_
 rintro v L' ⟨rfl,rfl⟩
 by_cases h:0<=i/\i<T.length
 ·rw[decide_eq_true h]
  refine yX 9 ?_
  rw[if_pos h]
  exact⟨rfl,rfl⟩
 rw[decide_eq_false h]
 refine yX 8 ?_
 rw[if_neg h]
 exact⟨rfl,rfl⟩
theorem tI (hT:T.length<=32768)(i:Int):CS Tryz.prog 130 [ptr rm,.int .i64 i] (fm rm rb T F) fun v L'=>v=.int .i64 (eX T i)/\L'=fm rm rb (cp T i) F:=by
 refine yF Tryz.f130 ?_
 refine yX 6 ?_
 refine yA yH (ru i) ?_
 rintro v L' ⟨rfl,rfl⟩
 refine yX 3 ?_
 by_cases h:0<=i/\i<T.length
 ·rw[if_pos h]
  refine yX 9 ?_
  refine yA yH (oH hT i) ?_
  rintro v L' ⟨rfl,rfl⟩
  rw[decide_eq_true h,Bool.true_and]
  refine yX 2 ?_
  have hE:eX T i=if cz T i.toNat then 6 else 0:=by unfold eX;rw[if_pos h]
  unfold cp
  rw[hE]
  obtain⟨j,rfl⟩:=Int.eq_ofNat_of_zero_le h.1
  rw[Int.toNat_natCast]
  cases ht:cz T j
  ·refine yX 5 ?_
   refine yA yH (wR (i:=j) hT (by omega)) ?_
   rintro v L' rfl
   refine yX 6 ?_
   rw[ht]
   exact⟨rfl,rfl⟩
  refine yX 5 ?_
  exact⟨rfl,rfl⟩
 rw[if_neg h]
 refine yX 10 ?_
 have hE:eX T i=1:=by unfold eX;rw[if_neg h]
 unfold cp
 rw[hE]
 exact⟨rfl,rfl⟩
theorem CP (hT:T.length<=32768)(i:Int):CS Tryz.prog 180 [ptr rm,.int .i64 i] (fm rm rb T F) fun v L'=>v=.int .i64 (dS T i)/\L'=fm rm rb (fp T i) F:=by
 refine yF Tryz.f180 ?_
 refine yX 6 ?_
 refine yA yH (ru i) ?_
 rintro v L' ⟨rfl,rfl⟩
 refine yX 3 ?_
 by_cases h:0<=i/\i<T.length
 ·rw[if_pos h]
  refine yX 9 ?_
  refine yA yH (oH hT i) ?_
  rintro v L' ⟨rfl,rfl⟩
  rw[decide_eq_true h,Bool.true_and]
  refine yX 3 ?_
  have hE:dS T i=if cz T i.toNat then 0 else 5:=by unfold dS;rw[if_pos h]
  unfold fp
  rw[hE]
  obtain⟨j,rfl⟩:=Int.eq_ofNat_of_zero_le h.1
  rw[Int.toNat_natCast]
  cases ht:cz T j
  ·refine yX 5 ?_
   exact⟨rfl,rfl⟩
  refine yX 5 ?_
  refine yA yH (wR (i:=j) hT (by omega)) ?_
  rintro v L' rfl
  refine yX 6 ?_
  rw[ht]
  exact⟨rfl,rfl⟩
 rw[if_neg h]
 refine yX 10 ?_
 have hE:dS T i=1:=by unfold dS;rw[if_neg h]
 unfold fp
 rw[hE]
 exact⟨rfl,rfl⟩
theorem CO (hT:T.length<=32768):CS Tryz.prog 61 [ptr rm] (fm rm rb T F) fun v L'=>v=.int .i64 (frees T:Nat)/\L'=fm rm rb T F:=by
 have hl:=j3 T
 refine yF Tryz.f61 ?_
 refine yX 25 ?_
 refine LS.loopJ [3,15,16,17] (fun q a L'=>∃ j,q=(pk T).length-j/\j<=(pk T).length/\L'=fm rm rb T F /\
  a=[yC,yC,yC,.int .i64 ((T.length:Int)-(fV (pk T) j:Nat)),yC,yC,yC,yC,yC,yC,yC,yC,yC,yC,yC,.slice (some ⟨rb,0,none⟩) (pk T).length (pk T).length,.int .i64 ((pk T).length:Nat),.int .i64 (j:Nat),yC,yC,yC,yC,yC,yC,yC,yC,yC]) (n:=(pk T).length) rfl ⟨0,rfl,by omega,rfl,by simp[fV];rfl⟩ ?_
 rintro q a L' ⟨j,rfl,hj,rfl,rfl⟩
 refine yV 3 ?_
 refine xC rfl ?_ ?_ <;> intro hc
 ·have hc:=cg hc
  have hjl:j<(pk T).length:=by omega
  have h1:=Dm (pk T) j
  have h2:=Fk (pk T)[j]
  refine yX 3 ?_
  refine yP (bK (j:=j) (sz:=1) rfl rfl rfl rfl rfl hjl) ?_
  refine yR (aA 1 rfl rfl rfl rfl (ap rfl (qF hjl))) ?_
  refine yX 5 ?_
  refine yA yH (I7 _) ?_
  rintro v L' ⟨rfl,rfl⟩
  refine yX 1 ?_
  refine yP (dQ rfl rfl rfl (ak (by omega) (by omega))) ?_
  refine yX 3 ?_
  refine yP (a8 rfl rfl rfl (ak (by omega) (by omega))) ?_
  refine yX 2 ?_
  refine⟨(pk T).length-(j+1),by omega,j+1,rfl,by omega,rfl,?_⟩
  rw[yu (List.getElem?_eq_getElem hjl),show (T.length:Int)-((fV (pk T) j+pc (pk T)[j]:Nat):Int)=(T.length:Int)-(fV (pk T) j:Nat)-(pc (pk T)[j]:Nat) by omega]
  rfl
 have hc:=bz hc
 have hjl:j=(pk T).length:=by omega
 subst hjl
 have:=AA (Aw hT)
 refine LS.exit ?_
 refine yX 5 ?_
 rw[show (frees T:Int)=(T.length:Int)-(fV (pk T) (pk T).length:Nat) by omega]
 exact⟨rfl,rfl⟩
end Go.Proofs.YtoaojmobnbbnmaaGreat
section
namespace Go.Am
variable{P:Program}{o:Oper}{a:ah}{L L₁:RL}
end Go.Am
namespace Go.Proofs.YtoaojmobnbbnmaaGreat
open Go.Am
theorem Fh(n:Nat)(hn:n<=32768):pk (List.replicate n false)=List.replicate ((n+7)/8) 0:=(D8.zeros hn).pk.symm
variable{L:RL}
theorem Hc (n:Nat)(hn:n<=32768):CS Tryz.prog 48 [.int .i64 (n:Nat)] L fun v L'=>∃ rm rb,v=.tuple #[ptr rm,.int .i64 0]/\L'=fm rm rb (List.replicate n false) L:=by
 have hb1:(!av 0 (n:Int))=false:=by rw[am];simp
 have hb2:(!av (n:Int) 32768)=false:=by rw[am];simp;omega
 refine yF Tryz.f48 ?_
 refine yX 6 ?_
 refine yI hb1 ?_
 refine yX 2 ?_
 refine yI hb2 ?_
 refine yX 7 ?_
 refine yA yH (wx n (by omega)) ?_
 rintro v L' ⟨rfl,rfl⟩
 refine yX 1 ?_
 refine yM (f6 (l:=(n+7)/8) (c:=(n+7)/8) rfl rfl rfl dj (Nat.le_refl _) (by omega) (by omega)) fun rb=>?_
 rw[iV,←Fh n hn]
 refine yX 1 ?_
 refine yN fun rm=>?_
 refine yX 4 ?_
 refine⟨rm,rb,rfl,?_⟩
 have hl:(pk (List.replicate n false)).length=(n+7)/8:=by rw[j3];simp
 simp only[fm,hl,List.length_replicate]
 rfl
theorem Eb (n:Int)(h:n<0∨32768<n):CS Tryz.prog 48 [.int .i64 n] L fun v L'=>v=.tuple #[.pointer none,.int .i64 1]/\L'=L:=by
 refine yF Tryz.f48 ?_
 refine yX 4 ?_
 by_cases h0:n<0
 ·have hb1:(!av 0 n)=true:=by rw[am];simpa using h0
  refine yX 2 ?_
  refine yI hb1 ?_
  refine yX 11 ?_
  exact⟨rfl,rfl⟩
 have hb1:(!av 0 n)=false:=by rw[am];simp;omega
 have hb2:(!av n 32768)=true:=by rw[am];simp;omega
 refine yX 2 ?_
 refine yI hb1 ?_
 refine yX 2 ?_
 refine yI hb2 ?_
 refine yX 8 ?_
 exact⟨rfl,rfl⟩
end Go.Proofs.YtoaojmobnbbnmaaGreat
end
section
namespace Go.Am
variable{X G:RL}
theorem ar.rot:ar (G++X) (X++G):=⟨[],by simpa using List.perm_append_comm⟩
end Go.Am
namespace Go.Proofs.YtoaojmobnbbnmaaGreat
open Go.Am
def mg(l:List Nat):List Value:=l.map fun k=>.int .i64 (k:Nat)
theorem y2(l:List Nat):(mg l).length=l.length:=by simp[mg]
theorem Dv(l:List Nat)(k:Nat):mg (l++[k])=mg l++[.int .i64 (k:Nat)]:=by simp[mg]
end Go.Proofs.YtoaojmobnbbnmaaGreat
end
section
namespace Go.Am
variable{P:Program}
variable{ops rest:List Oper}{o:Oper}{a:ah}{L:RL}{K:ah->RL->Prop}{R:Value->RL->Prop}
theorem OS.turns (hw:aw ops o a=true)(e:∀ h,bp h L->∃ v h₁ L₁,aI P a o h=some (.val v h₁)/\bp h₁ L₁/\R v L₁)(k:∀ v L₁,R v L₁->∃ a₁,aH a o.dst v=some a₁/\OS P ops rest a₁ L₁ K):OS P ops (o::rest) a L K :=
 fun h H=>let ⟨v,h₁,L₁,e₁,H₁,hR⟩:=e h H;let ⟨_,ep,k⟩:=k v L₁ hR;OQ.val hw e₁ ep (k h₁ H₁)
section
variable{o:Oper}{a:ah}{t z:TypeId}{x y:Operand}{k:IntKind}{m n:Nat}
theorem aW(ho:o.op=.binOp .add t x y z)(hx:aX a x=some (.int k (m:Int)))(hy:aX a y=some (.int k (n:Int)))(hi:qx k ((m+n:Nat):Int)=true):∀ h,aI P a o h=some (.val (.int k ((m+n:Nat):Int)) h):=by
 rw[Int.natCast_add]at hi ⊢
 exact a8 ho hx hy hi
theorem A0(ho:o.op=.binOp .sub t x y z)(hx:aX a x=some (.int k (m:Int)))(hy:aX a y=some (.int k (n:Int)))(hle:n<=m)(hi:qx k ((m-n:Nat):Int)=true):∀ h,aI P a o h=some (.val (.int k ((m-n:Nat):Int)) h):=by
 rw[Int.natCast_sub hle]at hi ⊢
 exact dQ ho hx hy hi
end
def OW(e:TypeId)(sz:Nat)(v:Value)(n:Nat)(cs:List Value)(Y:RL):Prop :=
 ∃ r cap J,v=.slice (some ⟨r,0,none⟩) n cap/\cs.length=n*sz/\Y=[(r,.cells e (cs++J))]/\n<=cap/\(cap=ae∨cap<ae/\cap*sz<=(cs++J).length)
def OL(e:TypeId)(sz:Nat)(v:Value)(n:Nat)(cs:List Value)(Y:RL):Prop:=(v=.slice none 0 0/\n=0/\cs=[]/\Y=[])∨OW e sz v n cs Y
variable{e:TypeId}{sz n:Nat}{v:Value}{cs:List Value}{Y:RL}
theorem OW.ol (h:OW e sz v n cs Y):OL e sz v n cs Y:=.inr h
def PL(e:TypeId)(sz:Nat)(X:RL)(v:Value)(n:Nat)(cs:List Value):Prop :=
 (v=.slice none 0 0/\n=0/\cs=[])∨∃ r off cap cs₀,v=.slice (some ⟨r,off,none⟩) n cap/\(r,.cells e cs₀)∈X/\cut cs₀ off (n*sz)=some cs/\n<=cap/\cap<=ae
section
variable{e:TypeId}{sz n:Nat}{v:Value}{cs:List Value}{X Y L:RL}
theorem PL.sv(h:PL e sz X v n cs):SV sz X v n cs:=by
 rcases h with h|⟨r,off,cap,cs₀,h1,h2,h3,_⟩
 ·exact .inl h
 exact .inr ⟨r,off,cap,_,cs₀,h1,h2,rfl,h3⟩
theorem PL.mono(h:PL e sz X v n cs)(hm:∀ p,p∈X->p∈Y):PL e sz Y v n cs:=by
 rcases h with h|⟨r,off,cap,cs₀,h1,h2,h3⟩
 ·exact .inl h
 exact .inr ⟨r,off,cap,cs₀,h1,hm _ h2,h3⟩
theorem OL.pl(h:OL e sz v n cs Y):PL e sz Y v n cs:=by
 rcases h with ⟨h1,h2,h3,rfl⟩|⟨r,cap,J,h1,h2,rfl,h3,h4⟩
 ·exact .inl ⟨h1,h2,h3⟩
 refine .inr ⟨r,0,cap,cs++J,h1,List.mem_cons_self ..,?_,h3,by rcases h4 with rfl|h4 <;> omega⟩
 rw[eV (by simp;omega)]
 simp[h2]
theorem OL.sv(h:OL e sz v n cs Y):SV sz Y v n cs:=h.pl.sv
theorem GV.ol(h:GV e sz [] v n cs Y)(hn:n<=ae):OL e sz v n cs Y:=by
 rcases h with ⟨h1,h2,h3,h4⟩|⟨r,h1,h2,h3⟩
 ·exact .inl ⟨h1,h2,h3,h4⟩
 exact .inr ⟨r,ae,[],h1,h2,by rw[h3,List.append_nil],hn,.inl rfl⟩
variable{F:RL}
theorem GV.split (h:GV e sz F v n cs L):∃ Y,L=Y++F/\GV e sz [] v n cs Y:=by
 rcases h with ⟨h1,h2,h3,rfl⟩|⟨r,h1,h2,rfl⟩
 ·exact⟨[],rfl,.inl ⟨h1,h2,h3,rfl⟩⟩
 exact⟨[(r,.cells e cs)],rfl,.inr ⟨r,h1,h2,rfl⟩⟩
variable{t:TypeId}
theorem u0 {x:Operand}{lo hi:Option Operand}{lo' hi':Option Value}{l u:Nat}(hs:PL e sz X v n cs)(hX:∀ p,p∈X->p∈L)(ho:o.op=.slice t x lo hi none)(hx:aX a x=some v)
  (hlo:aY a lo=some lo') (hhi:aY a hi=some hi') (bl:aU lo' 0=some l) (bu:aU hi' n=some u) (ht:P.underlying t=some (.slice e)) (hz:aB P e=some sz) (hu:u<=n) (hl:l<=u) :
  ∃ v',PL e sz X v' (u-l) ((cs.drop (l*sz)).take ((u-l)*sz))/\∀ h,bp h L->aI P a o h=some (.val v' h):=by
 have hm:aY a none=some none:=rfl
 have h2:Nat.ble l u=true:=Nat.ble_eq_true_of_le hl
 rcases hs with ⟨rfl,rfl,rfl⟩|⟨r,off,cap,cs₀,rfl,hmem,hcut,hnc,hco⟩
 ·have hu0:u=0:=by omega
  subst hu0
  have hl0:l=0:=by omega
  subst hl0
  refine⟨.slice none 0 0,.inl ⟨rfl,rfl,by simp⟩,fun h _=>?_⟩
  have hc:Nat.beq 0 ae=false:=aK (by decide)
  have h1:Nat.ble 0 (dT 0 0)=true:=rfl
  have h3:cx h e none 0=true:=by unfold cx;rw[hc];rfl
  simp only[aI,ho,hx,hlo,hhi,hm,cM,ht,bu,bl,hz,h1,h2,h3,Bool.true_and,dZ,hc,ret]
 have hlen:=(c9 hcut).2.2.1
 have hcut':cut cs₀ (off+l*sz) ((u-l)*sz)=some ((cs.drop (l*sz)).take ((u-l)*sz)):=by
  refine kz hcut (eV ?_)
  rw[hlen,←Nat.add_mul]
  exact Nat.mul_le_mul_right _ (by omega)
 by_cases hne:cap=ae
 ·subst hne
  refine⟨.slice (some ⟨r,off+l*sz,none⟩) (u-l) ae,.inr ⟨r,_,_,cs₀,rfl,hmem,hcut',by omega,Nat.le_refl _⟩,fun h H=>?_⟩
  have hcb:Nat.beq ae ae=true:=bo rfl
  have h1:Nat.ble u (dT n ae)=true:=by unfold dT;rw[hcb];exact Nat.ble_eq_true_of_le hu
  have hg:bm h r=some (e,cs₀):=by unfold bm;rw[H.get _ (hX _ hmem)]
  have h3:cx h e (some ⟨r,off,none⟩) ae=true:=by unfold cx;rw[hcb];simp only[hg,bo rfl]
  simp only[aI,ho,hx,hlo,hhi,hm,cM,ht,bu,bl,hz,h1,h2,h3,Bool.true_and,dZ,hcb,ret]
 refine⟨.slice (some ⟨r,off+l*sz,none⟩) (u-l) (cap-l),.inr ⟨r,_,_,cs₀,rfl,hmem,hcut',by omega,by omega⟩,fun h H=>?_⟩
 have hcb:Nat.beq cap ae=false:=aK hne
 have h1:Nat.ble u (dT n cap)=true:=by unfold dT;rw[hcb];exact Nat.ble_eq_true_of_le (Nat.le_trans hu hnc)
 have h3:cx h e (some ⟨r,off,none⟩) cap=true:=by unfold cx;rw[hcb];exact Nat.ble_eq_true_of_le hco
 simp only[aI,ho,hx,hlo,hhi,hm,cM,ht,bu,bl,hz,h1,h2,h3,Bool.true_and,dZ,hcb,ret]
theorem zp {x y z:Operand}{k k':IntKind}{u:Nat}(hs:PL e sz X v n cs)(ho:o.op=.slice t x none (some y) (some z))(hx:aX a x=some v)(hy:aX a y=some (.int k (u:Nat)))(hz':aX a z=some (.int k' (u:Nat)))
  (ht:P.underlying t=some (.slice e)) (hz:aB P e=some sz) (hu:u<=n) (hub:u<=1000000000000) :
  ∃ v',PL e sz X v' u (cs.take (u*sz))/\∀ h,aI P a o h=some (.val v' h):=by
 have hm:aY a none=some none:=rfl
 have hoy:aY a (some y)=some (some (.int k (u:Nat))):=by simp only[aY,hy]
 have hoz:aY a (some z)=some (some (.int k' (u:Nat))):=by simp only[aY,hz']
 have bl:aU none 0=some 0:=rfl
 have h0:Nat.ble 0 u=true:=Nat.ble_eq_true_of_le (Nat.zero_le _)
 have h1:Nat.ble u u=true:=Nat.ble_eq_true_of_le (Nat.le_refl _)
 have h2:Nat.ble u 1000000000000=true:=Nat.ble_eq_true_of_le hub
 rcases hs with ⟨rfl,rfl,rfl⟩|⟨r,off,cap,cs₀,rfl,hmem,hcut,hnc,hco⟩
 ·have hu0:u=0:=by omega
  subst hu0
  refine⟨.slice none 0 0,.inl ⟨rfl,rfl,by simp⟩,fun h=>?_⟩
  have h3:Nat.ble 0 (dT 0 0)=true:=rfl
  simp only[aI,ho,hx,hm,hoy,hoz,cM,ht,aR,bl,hz,h0,h2,h3,Option.isSome,Bool.true_and,dZ,ret]
 have hlen:=(c9 hcut).2.2.1
 have hcut':cut cs₀ (off+0*sz) (u*sz)=some (cs.take (u*sz)):=by
  refine kz hcut ?_
  rw[eV (by rw[hlen,Nat.zero_mul,Nat.zero_add];exact Nat.mul_le_mul_right _ hu),Nat.zero_mul,List.drop_zero]
 refine⟨.slice (some ⟨r,off+0*sz,none⟩) u u,.inr ⟨r,_,_,cs₀,rfl,hmem,hcut',Nat.le_refl _,by unfold ae;omega⟩,fun h=>?_⟩
 have h3:Nat.ble u (dT n cap)=true:=by
  unfold dT
  split
  ·exact Nat.ble_eq_true_of_le hu
  exact Nat.ble_eq_true_of_le (Nat.le_trans hu hnc)
 simp only[aI,ho,hx,hm,hoy,hoz,cM,ht,aR,bl,hz,h0,h1,h2,h3,Option.isSome,Bool.true_and,dZ,ret,Nat.sub_zero]
end
end Go.Am
namespace Go.Proofs.YtoaojmobnbbnmaaGreat
open Go.Am
variable{L:RL}{v:Value}{n:Nat}{cs:List Value}
theorem vw (hv:SV 1 L v n cs)(hone:aM cs=true)(hn:n<=1000000):CS Tryz.prog 228 [v] L fun u L'=>∃ Y,L'=Y++L/\GV 9 1 [] u n cs Y:=by
 have hnil:v=.slice none 0 0∨∃ r off cap,v=.slice (some ⟨r,off,none⟩) n cap:=by
  rcases hv with ⟨rfl,_⟩|⟨r,off,cap,row,cs₀,rfl,_⟩
  ·exact .inl rfl
  exact .inr ⟨r,off,cap,rfl⟩
 refine yF Tryz.f228 ?_
 rcases hnil with rfl|⟨r,off,cap,rfl⟩
 ·have hnc:n=0/\cs=[]:=by
   rcases hv with ⟨_,rfl,rfl⟩|⟨r,off,cap,row,cs₀,hh,_⟩
   ·exact⟨rfl,rfl⟩
   cases hh
  obtain⟨rfl,rfl⟩:=hnc
  refine yV 7 ?_
  refine xC rfl ?_ ?_ <;> intro hc
  ·refine yX 4 ?_
   exact⟨[],rfl,.inl ⟨rfl,rfl,rfl,rfl⟩⟩
  cases hc
 refine yX 10 ?_
 refine yN fun r0=>?_
 refine yX 1 ?_
 refine OS.turns rfl (u9 (e:=9) (r:=r0) (sz:=1) (bts:=16) (m:=n) (SV.void (List.mem_cons_self ..) rfl) (hv.mono fun p hp=>List.mem_cons_of_mem _ hp) hone rfl rfl rfl (by omega) (by omega)) ?_
 rintro u L₁ ⟨X,rfl,hX⟩
 rcases hX with ⟨rfl,rfl,rfl,rfl⟩|⟨r1,rfl,rfl,hl⟩
 ·refine yX 1 ?_
  refine OS.opened 7 0 rfl rfl (sz:=1) rfl (by simp) (by decide) rfl ?_
  refine yX 3 ?_
  exact⟨[_],rfl,.inr ⟨r0,rfl,rfl,rfl⟩⟩
 refine yX 1 ?_
 refine OS.sub (ar.drop 1 rfl) ?_
 refine yX 3 ?_
 exact⟨[_],rfl,.inr ⟨r1,rfl,hl,rfl⟩⟩
theorem vt {w:Value}{A B:List (List UInt8)}(hv:SV 1 L v A.length (tx A))(hw:SV 1 L w B.length (tx B))(hA:A.length<=1000000)(hB:B.length<=1000000):CS Tryz.prog 219 [v,w] L fun u L'=>u=.bool (decide (A=B))/\L'=L:=by
 refine yF Tryz.f219 ?_
 refine yX 5 ?_
 refine yP (az hv rfl rfl rfl rfl rfl) ?_
 refine yX 1 ?_
 refine yP (az hw rfl rfl rfl rfl rfl) ?_
 refine yV 2 ?_
 refine xC rfl ?_ ?_ <;> intro hc
 ·have hne:A.length≠B.length:=fun hh=>by rw[hh,gn,decide_eq_true rfl]at hc;cases hc
  refine yX 4 ?_
  exact⟨by rw[decide_eq_false (fun hh=>hne (by rw[hh]))];rfl,rfl⟩
 have hl:A.length=B.length:=by
  by_cases hh:A.length=B.length
  ·exact hh
  rw[gn,decide_eq_false hh]at hc;cases hc
 refine yX 3 ?_
 refine yP (az hv rfl rfl rfl rfl rfl) ?_
 refine yX 3 ?_
 refine LS.loopJ [0,1,12,13] (fun q a L'=>∃ j:Nat,q=A.length-j/\j<=A.length/\A.take j=B.take j/\L'=L/\a=[v,w,yC,yC,yC,yC,yC,yC,yC,yC,yC,yC,.int .i64 (A.length:Nat),.int .i64 (j:Nat),yC,yC,yC,yC,yC,yC,yC,yC,yC,yC,yC,yC]) (n:=A.length) rfl ⟨0,rfl,by omega,rfl,rfl,rfl⟩ ?_
 rintro q a L' ⟨j,rfl,hj,ht,rfl,rfl⟩
 refine yV 3 ?_
 refine xC rfl ?_ ?_ <;> intro hc2
 ·have hc2:(j:Int)<A.length:=cg hc2
  have hjA:j<A.length:=by omega
  have hjB:j<B.length:=by omega
  refine yV 6 ?_
  refine LS.drawn noGo mixed [(0,false),(1,false),(2,false),(3,false),(4,false),(5,false),(6,false),(7,false),(8,false)] rfl rfl (by kernel_rfl) ?_
  refine yX 2 ?_
  refine ba.at1 (j:=j) hv (gJ hjA) rfl rfl rfl rfl rfl rfl rfl (fun r0 o0 row0 cs0 m0 c0 g0=>⟨_,rfl,?_⟩)
  refine xE rfl rfl (aa m0 c0 rfl rfl (ap rfl g0)) rfl ?_
  refine yX 2 ?_
  refine ba.at1 (j:=j) hw (gJ hjB) rfl rfl rfl rfl rfl rfl rfl (fun r1 o1 row1 cs1 m1 c1 g1=>⟨_,rfl,?_⟩)
  refine xE rfl rfl (aa m1 c1 rfl rfl (ap rfl g1)) rfl ?_
  refine yX 2 ?_
  by_cases he:A[j]=B[j]
  ·repeat refine xQ ?_
   refine xC rfl ?_ ?_ <;> intro hc3
   ·have hc3:(!cB A[j] B[j])=true:=hc3
    rw[D2,he,decide_eq_true rfl]at hc3
    cases hc3
   refine yX 2 ?_
   refine yP (a8 (m:=j) (n:=1) rfl rfl rfl (ak (by omega) (by omega))) ?_
   refine yX 2 ?_
   exact⟨A.length-(j+1),by omega,j+1,rfl,by omega,by rw[List.take_succ_eq_append_getElem hjA,List.take_succ_eq_append_getElem hjB,ht,he],rfl,rfl⟩
  repeat refine xQ ?_
  refine xC rfl ?_ ?_ <;> intro hc3
  ·refine yX 4 ?_
   refine⟨?_,rfl⟩
   rw[decide_eq_false (fun hh=>he (by subst hh;rfl))];rfl
  have hc3:(!cB A[j] B[j])=false:=hc3
  rw[D2,decide_eq_false he]at hc3
  cases hc3
 have hc2:(A.length:Int)<=(j:Int):=bz hc2
 have hje:j=A.length:=by omega
 subst hje
 refine LS.exit ?_
 refine yX 4 ?_
 refine⟨?_,rfl⟩
 rw[List.take_length,hl,List.take_length]at ht
 rw[decide_eq_true ht];rfl
end Go.Proofs.YtoaojmobnbbnmaaGreat
end
namespace Go.Proofs.YtoaojmobnbbnmaaGreat
open Go.Am
variable{L:RL}{v:Value}{n:Nat}{cs:List Value}
theorem Ei (hv:SV 1 L v n cs)(hone:aM cs=true)(hn:n<=1000000):CS Tryz.prog 229 [v] L fun u L'=>∃ Y,L'=Y++L/\GV 3 1 [] u n cs Y:=by
 have hnil:v=.slice none 0 0∨∃ r off cap,v=.slice (some ⟨r,off,none⟩) n cap:=by
  rcases hv with ⟨rfl,_⟩|⟨r,off,cap,row,cs₀,rfl,_⟩
  ·exact .inl rfl
  exact .inr ⟨r,off,cap,rfl⟩
 refine yF Tryz.f229 ?_
 rcases hnil with rfl|⟨r,off,cap,rfl⟩
 ·have hnc:n=0/\cs=[]:=by
   rcases hv with ⟨_,rfl,rfl⟩|⟨r,off,cap,row,cs₀,hh,_⟩
   ·exact⟨rfl,rfl⟩
   cases hh
  obtain⟨rfl,rfl⟩:=hnc
  refine yV 7 ?_
  refine xC rfl ?_ ?_ <;> intro hc
  ·refine yX 4 ?_
   exact⟨[],rfl,.inl ⟨rfl,rfl,rfl,rfl⟩⟩
  cases hc
 refine yX 10 ?_
 refine yN fun r0=>?_
 refine yX 1 ?_
 refine OS.turns rfl (u9 (e:=3) (r:=r0) (sz:=1) (bts:=8) (m:=n) (SV.void (List.mem_cons_self ..) rfl) (hv.mono fun p hp=>List.mem_cons_of_mem _ hp) hone rfl rfl rfl (by omega) (by omega)) ?_
 rintro u L₁ ⟨X,rfl,hX⟩
 rcases hX with ⟨rfl,rfl,rfl,rfl⟩|⟨r1,rfl,rfl,hl⟩
 ·refine yX 1 ?_
  refine OS.opened 7 0 rfl rfl (sz:=1) rfl (by simp) (by decide) rfl ?_
  refine yX 3 ?_
  exact⟨[_],rfl,.inr ⟨r0,rfl,rfl,rfl⟩⟩
 refine yX 1 ?_
 refine OS.sub (ar.drop 1 rfl) ?_
 refine yX 3 ?_
 exact⟨[_],rfl,.inr ⟨r1,rfl,hl,rfl⟩⟩
theorem Ed {w:Value}{A B:List Int}(hv:SV 1 L v A.length (bx A))(hw:SV 1 L w B.length (bx B))(hA:A.length<=1000000)(hB:B.length<=1000000):CS Tryz.prog 220 [v,w] L fun u L'=>u=.bool (decide (A=B))/\L'=L:=by
 refine yF Tryz.f220 ?_
 refine yX 5 ?_
 refine yP (az hv rfl rfl rfl rfl rfl) ?_
 refine yX 1 ?_
 refine yP (az hw rfl rfl rfl rfl rfl) ?_
 refine yV 2 ?_
 refine xC rfl ?_ ?_ <;> intro hc
 ·have hne:A.length≠B.length:=fun hh=>by rw[hh,gn,decide_eq_true rfl]at hc;cases hc
  refine yX 4 ?_
  exact⟨by rw[decide_eq_false (fun hh=>hne (by rw[hh]))];rfl,rfl⟩
 have hl:A.length=B.length:=by
  by_cases hh:A.length=B.length
  ·exact hh
  rw[gn,decide_eq_false hh]at hc;cases hc
 refine yX 3 ?_
 refine yP (az hv rfl rfl rfl rfl rfl) ?_
 refine yX 3 ?_
 refine LS.loopJ [0,1,12,13] (fun q a L'=>∃ j:Nat,q=A.length-j/\j<=A.length/\A.take j=B.take j/\L'=L/\a=[v,w,yC,yC,yC,yC,yC,yC,yC,yC,yC,yC,.int .i64 (A.length:Nat),.int .i64 (j:Nat),yC,yC,yC,yC,yC,yC,yC,yC,yC,yC,yC,yC]) (n:=A.length) rfl ⟨0,rfl,by omega,rfl,rfl,rfl⟩ ?_
 rintro q a L' ⟨j,rfl,hj,ht,rfl,rfl⟩
 refine yV 3 ?_
 refine xC rfl ?_ ?_ <;> intro hc2
 ·have hc2:(j:Int)<A.length:=cg hc2
  have hjA:j<A.length:=by omega
  have hjB:j<B.length:=by omega
  refine yV 6 ?_
  refine LS.drawn noGo mixed [(0,false),(1,false),(2,false),(3,false),(4,false),(5,false),(6,false),(7,false),(8,false)] rfl rfl (by kernel_rfl) ?_
  refine yX 2 ?_
  refine ba.at1 (j:=j) hv (iY hjA) rfl rfl rfl rfl rfl rfl rfl (fun r0 o0 row0 cs0 m0 c0 g0=>⟨_,rfl,?_⟩)
  refine xE rfl rfl (aa m0 c0 rfl rfl (ap rfl g0)) rfl ?_
  refine yX 2 ?_
  refine ba.at1 (j:=j) hw (iY hjB) rfl rfl rfl rfl rfl rfl rfl (fun r1 o1 row1 cs1 m1 c1 g1=>⟨_,rfl,?_⟩)
  refine xE rfl rfl (aa m1 c1 rfl rfl (ap rfl g1)) rfl ?_
  refine yX 2 ?_
  by_cases he:A[j]=B[j]
  ·repeat refine xQ ?_
   refine xC rfl ?_ ?_ <;> intro hc3
   ·have hc3:(!bc A[j] B[j])=true:=hc3
    rw[aC,he]at hc3
    simp at hc3
   refine yX 2 ?_
   refine yP (a8 (m:=j) (n:=1) rfl rfl rfl (ak (by omega) (by omega))) ?_
   refine yX 2 ?_
   exact⟨A.length-(j+1),by omega,j+1,rfl,by omega,by rw[List.take_succ_eq_append_getElem hjA,List.take_succ_eq_append_getElem hjB,ht,he],rfl,rfl⟩
  repeat refine xQ ?_
  refine xC rfl ?_ ?_ <;> intro hc3
  ·refine yX 4 ?_
   refine⟨?_,rfl⟩
   rw[decide_eq_false (fun hh=>he (by subst hh;rfl))];rfl
  have hc3:(!bc A[j] B[j])=false:=hc3
  rw[aC]at hc3
  simp[he]at hc3
 have hc2:(A.length:Int)<=(j:Int):=bz hc2
 have hje:j=A.length:=by omega
 subst hje
 refine LS.exit ?_
 refine yX 4 ?_
 refine⟨?_,rfl⟩
 rw[List.take_length,hl,List.take_length]at ht
 rw[decide_eq_true ht];rfl
end Go.Proofs.YtoaojmobnbbnmaaGreat
section
namespace Go.Am
section
variable{P:Program}{o:Oper}{a:ah}{L L₁:RL}{t e:TypeId}{x y z:Operand}
variable{lo hi:Option Operand}{lo' hi':Option Value}{r off n sz u:Nat}
theorem jL {c l:Nat}(ho:o.op=.slice t x lo hi none)(hx:aX a x=some (.slice (some ⟨r,off,none⟩) n c))(hlo:aY a lo=some lo')(hhi:aY a hi=some hi')(bl:aU lo' 0=some l)(bu:aU hi' n=some u)
  (ht:P.underlying t=some (.slice e)) (hz:aB P e=some sz) (hu:u<=c) (hl:l<=u) (hc:c<ae):∀ h,aI P a o h=some (.val (.slice (some ⟨r,off+l*sz,none⟩) (u-l) (c-l)) h):=by
 intro h
 have hm:aY a none=some none:=rfl
 have h2:Nat.ble l u=true:=Nat.ble_eq_true_of_le hl
 have hcb:Nat.beq c ae=false:=aK (by omega)
 have h1:Nat.ble u (dT n c)=true:=by unfold dT;rw[hcb];exact Nat.ble_eq_true_of_le hu
 have h3:cx h e (some ⟨r,off,none⟩) c=true:=by unfold cx;rw[hcb];exact Nat.ble_eq_true_of_le (by omega)
 simp only[aI,ho,hx,hlo,hhi,hm,cM,ht,bu,bl,hz,h1,h2,h3,Bool.true_and,dZ,hcb,ret]
theorem ig {hi:Operand}{k:IntKind}{r off n c sz u:Nat}(ho:o.op=.slice t x none (some hi) none)(hx:aX a x=some (.slice (some ⟨r,off,none⟩) n c))(hhi:aX a hi=some (.int k (u:Nat)))
  (ht:P.underlying t=some (.slice e)) (hz:aB P e=some sz) (hu:u<=c) (hc:c<ae):∀ h,aI P a o h=some (.val (.slice (some ⟨r,off,none⟩) u c) h):=by
 have:=jL (P:=P) (lo:=none) (hi:=some hi) (lo':=none) (hi':=some (.int k (u:Nat))) (l:=0) (u:=u) ho hx rfl (by simp only[aY,hhi]) rfl aR ht hz hu (Nat.zero_le _) hc
 simpa using this
theorem cP {lo:Operand}{k:IntKind}{r off n c l:Nat}(ho:o.op=.slice t x (some lo) none none)(hx:aX a x=some (.slice (some ⟨r,off,none⟩) n c))(hlo:aX a lo=some (.int k (l:Nat)))
  (ht:P.underlying t=some (.slice e)) (hz:aB P e=some 1) (hn:n<=c) (hl:l<=n) (hc:c<ae):∀ h,aI P a o h=some (.val (.slice (some ⟨r,off+l,none⟩) (n-l) (c-l)) h):=by
 have:=jL (P:=P) (lo:=some lo) (hi:=none) (lo':=some (.int k (l:Nat))) (hi':=none) (l:=l) (u:=n) ho hx (by simp only[aY,hlo]) rfl aR rfl ht hz hn hl hc
 simpa using this
theorem l4(i:Nat){lo:Operand}{k:IntKind}{r off n l:Nat}{cs:List Value}(ho:o.op=.slice t x (some lo) none none)(hx:aX a x=some (.slice (some ⟨r,off,none⟩) n ae))(hlo:aX a lo=some (.int k (l:Nat)))
  (ht:P.underlying t=some (.slice e)) (hz:aB P e=some 1) (hl:l<=n) (hL:L[i]?=some (r,.cells e cs)):∀ h,bp h L->aI P a o h=some (.val (.slice (some ⟨r,off+l,none⟩) (n-l) ae) h):=by
 have:=qC (P:=P) i (lo:=some lo) (hi:=none) (lo':=some (.int k (l:Nat))) (hi':=none) (l:=l) (u:=n) ho hx (by simp only[aY,hlo]) rfl aR rfl ht hz (Nat.le_refl _) hl hL
 simpa using this
theorem i7(i:Nat){c:Call}{st e':TypeId}{sz m N k r off cap r2 o2 c2:Nat}{row2:aG}{cs cs2 new cs':List Value}(ho:o.op=.call c)(hc:c.callee=.builtin .copy)(ha:ky a c.args.toList=some [.slice (some ⟨r,off,none⟩) N cap,.slice (some ⟨r2,o2,none⟩) m c2])
  (ht:c.argTypes[0]?=some st) (hu:P.underlying st=some (.slice e)) (hz:aB P e=some sz) (hk:Nat.min m N=k) (hpos:0<k) (hm2:(r2,row2)∈L) (hr2:dV row2=some cs2) (hcut:cut cs2 o2 (k*sz)=some new) (hone:aM new=true)
  (hL:L[i]?=some (r,.cells e' cs)) (hlay:kO cs off new=some cs') (hset:jx L i (r,.cells e' cs')=some L₁):∀ h,bp h L->∃ h₁,aI P a o h=some (.val (.int .i64 (k:Nat)) h₁)/\bp h₁ L₁:=by
 intro h H
 obtain⟨h₁,e₁⟩:=h.put_some r (some (.cells e' cs'))
 have:=eN hset
 subst this
 subst hk
 have hb:Nat.beq (Nat.min m N) 0=false:=aK (by omega)
 have hl1:lenB (.slice (some ⟨r2,o2,none⟩) m c2)=some m:=rfl
 have hnt:notText (.slice (some ⟨r2,o2,none⟩) m c2)=true:=rfl
 have hf:b6 sz (Nat.min m N) (.slice (some ⟨r2,o2,none⟩) m c2) h=some new:=by simp only[b6,hb,H.mem hm2 hr2,hcut]
 refine⟨h₁,?_,H.put hL e₁⟩
 simp only[aI,ho,ha,bB,hc,th,ht,hu,hz,hl1,hf,hone,hnt,hb,H.row hL,hlay,e₁,Bool.true_or,Bool.and_self,fx,goInt]
end
def Jq(P:Program)(c:Call):Option (TypeId×Nat×Nat×List Value) :=
 match c.callee with
 | .builtin .append=>match c.argTypes[0]?,c.argTypes[1]? with
  | some st,some xt=>match P.underlying st,P.underlying xt with
   | some (.slice e),some (.int _)=>match P.info? e,dU P e with
     | some i,some zs=>match gg P e&&Nat.beq zs.length i.size with
      | true=>some (e,i.size,i.bytes,zs)
      | false=>none
     | _,_=>none
   | _,_=>none
  | _,_=>none
 | _=>none
variable{P:Program}{o:Oper}{a:ah}{L:RL}
theorem sZ {c:Call}{e:TypeId}{sz bts len cap m r off:Nat}{row:aG}{zs old cs:List Value}(ho:o.op=.call c)(hT:Jq P c=some (e,sz,bts,zs))(ha:ky a c.args.toList=some [.slice (some ⟨r,off,none⟩) len cap,.int .i64 (m:Nat)])
  (hone:aM (gj zs m)=true) (hfull:cap<len+m) (hcap:cap<ae) (hsm:(len+m+cap)*bts<=1000000000000) (hm:m*bts<=1000000000000) (hm2:m<=1000000000000) (hsm2:len+m<=1000000000000) (hL:(r,row)∈L) (hr:dV row=some cs) (hcut:cut cs off (len*sz)=some old) :
  ∀ h,bp h L->∃ r' h₁,aI P a o h=some (.val (.slice (some ⟨r',0,none⟩) (len+m) ae) h₁)/\bp h₁ ((r',.cells e (old++gj zs m))::L):=by
 intro h H
 unfold Jq at hT
 split at hT
 case h_2=>cases hT
 rename_i hcal
 split at hT
 case h_2=>cases hT
 rename_i st xt hst hxt
 split at hT
 case h_2=>cases hT
 rename_i e' k hu1 hu2
 split at hT
 case h_2=>cases hT
 rename_i i zs' hi hzs
 split at hT
 case h_2=>cases hT
 rename_i hfit
 simp only[Option.some.injEq,Prod.mk.injEq]at hT
 obtain⟨rfl,rfl,rfl,rfl⟩:=hT
 simp only[Bool.and_eq_true]at hfit
 obtain⟨hfit,hzl⟩:=hfit
 obtain⟨h₁,e₁⟩:=h.new_some (.cells e' (old++gj zs' m))
 have hs:aB P e'=some i.size:=by unfold aB;rw[hi]
 have hf:b6 i.size len (.slice (some ⟨r,off,none⟩) len cap) h=some old:=by
  simp only[b6]
  cases hb:Nat.beq len 0 with
  | true =>
   have:=be hb
   subst this
   have:old=[]:=List.eq_nil_of_length_eq_zero (by have:=(c9 hcut).2.2.1;simpa using this)
   subst this;rfl
  | false=>simp only[H.mem hL hr,hcut]
 have c0:av 0 (m:Int)=true:=au.2 (by omega)
 have c1:av (m:Int) 1000000000000=true:=au.2 (by omega)
 have c2:dN m i.bytes=true:=by unfold dN;exact Nat.ble_eq_true_of_le hm
 have c3:Nat.beq cap ae=false:=aK (by omega)
 have c4:Nat.ble (len+m) cap=false:=by
  cases hb:Nat.ble (len+m) cap with
  | false=>rfl
  | true=>have:=bk hb;omega
 have c5:dN (len+m+cap) i.bytes=true:=by unfold dN;exact Nat.ble_eq_true_of_le hsm
 have c6:Nat.ble (len+m) 1000000000000=true:=Nat.ble_eq_true_of_le hsm2
 have hgrow:gQ P h e' (len+m) old (gj zs' m)=some (.slice (some ⟨h.next,0,none⟩) (len+m) ae,h₁):=by
  simp only[gQ,i4,hfit,c6,Bool.and_self,cf,hs,e₁]
 refine⟨h.next,h₁,?_,H.new e₁⟩
 simp only[aI,ho,ha,bB,hcal,fM,hst,hxt,hu1,hu2,oF,hi,hzs,c0,c1,c2,Int.toNat_natCast,hzl,Bool.and_self,wb,hone,c3,c4,hf,c5,hgrow,fx]
variable{ops rest:List Oper}{X:RL}{K:ah->RL->Prop}{e t:TypeId}
theorem OS.slicePL {x:Operand}{sz n l u:Nat}{v:Value}{cs:List Value}{lo hi:Option Operand}{lo' hi':Option Value}(hs:PL e sz X v n cs)(hX:∀ p,p∈X->p∈L)(hw:aw ops o a=true)(ho:o.op=.slice t x lo hi none)(hx:aX a x=some v)
  (hlo:aY a lo=some lo') (hhi:aY a hi=some hi') (bl:aU lo' 0=some l) (bu:aU hi' n=some u) (ht:P.underlying t=some (.slice e)) (hz:aB P e=some sz) (hu:u<=n) (hl:l<=u)
  (k:∀ v',PL e sz X v' (u-l) ((cs.drop (l*sz)).take ((u-l)*sz))->∃ a₁,aH a o.dst v'=some a₁/\OS P ops rest a₁ L K):OS P ops (o::rest) a L K:=by
 obtain⟨v',h1,h2⟩:=u0 hs hX ho hx hlo hhi bl bu ht hz hu hl
 obtain⟨a₁,ep,k⟩:=k v' h1
 exact xR hw h2 ep k
variable{ms:List Nat}{sched:List (Nat×Bool)}{dn:Dn}
theorem ba.slicePL {q:Nat}{o:Oper}{a:ah}{X L:RL}{K:ah->RL->Prop}{e t:TypeId}{x:Operand}{sz n l u:Nat}{v:Value}{cs:List Value}{lo hi:Option Operand}{lo' hi':Option Value}(hs:PL e sz X v n cs)(hX:∀ p,p∈X->p∈L)(hq:ops[q]?=some o)(hw:aw ops o a=true)(ho:o.op=.slice t x lo hi none)(hx:aX a x=some v)
  (hlo:aY a lo=some lo') (hhi:aY a hi=some hi') (bl:aU lo' 0=some l) (bu:aU hi' n=some u) (ht:P.underlying t=some (.slice e)) (hz:aB P e=some sz) (hu:u<=n) (hl:l<=u)
  (k:∀ v',PL e sz X v' (u-l) ((cs.drop (l*sz)).take ((u-l)*sz))->∃ a₁,aH a o.dst v'=some a₁/\ba P ops ms K sched ((q,a,v')::dn) a₁ L):ba P ops ms K ((q,false)::sched) dn a L:=by
 obtain⟨v',h1,h2⟩:=u0 hs hX ho hx hlo hhi bl bu ht hz hu hl
 obtain⟨a₁,ep,k⟩:=k v' h1
 exact xE hq hw h2 ep k
variable{cs J:List Value}{i n:Nat}
theorem uG (hn:cs.length=n)(hi:i<n)(hJ:1<=J.length):kO (cs++J) (i+1) (cs.drop i)=some (cs.take (i+1)++(cs.drop i++J.drop 1)):=by
 rw[gF (by simp;omega)]
 congr 1
 rw[List.take_append_of_le_length (by omega),List.length_drop,List.drop_append]
 congr 2
 rw[List.drop_eq_nil_of_le (by omega),List.nil_append]
 congr 1;omega
theorem pi {m:Nat}(h:m<=n):Nat.min m n=m:=Nat.min_eq_left h
theorem Fz {m:Nat}(h:n<=m):Nat.min m n=n:=Nat.min_eq_right h
theorem lE (hn:cs.length=n)(hi:i<=n):cut (cs++J) (0+i) ((n-i)*1)=some (cs.drop i):=by
 rw[Nat.zero_add,Nat.mul_one,eV (by simp;omega),List.drop_append_of_le_length (by omega),List.take_append_of_le_length (by simp;omega),List.take_of_length_le (by simp;omega)]
theorem vi (hn:cs.length=n)(hi:i<=n):cut cs (0+i) ((n-i)*1)=some (cs.drop i):=by
 have:=lE (J:=[]) hn hi
 rwa [List.append_nil]at this
theorem uI {Z:List Value}{x:Value}{i:Nat}(hi:i<=cs.length)(hZ:1<=Z.length):kO (cs.take i++Z) i [x]=some (cs.take i++x::Z.drop 1):=by
 rw[gF (by simp;omega)]
 congr 1
 have h1:(cs.take i).length=i:=by simp;omega
 rw[List.take_append_of_le_length (by omega),List.take_take,Nat.min_self,List.length_singleton,List.drop_append,List.drop_eq_nil_of_le (by omega),h1]
 simp
theorem yJ {W:List Value}{x:Value}{i:Nat}(hi:i<=cs.length)(hW:W.length=cs.length-i):kO (cs.take i++x::W) (i+1) (cs.drop i)=some (cs.take i++x::cs.drop i):=by
 rw[gF (by simp;omega)]
 congr 1
 have h1:(cs.take i).length=i:=by simp;omega
 have h2:(x::W).drop (i+1+(cs.length-i)-i)=[]:=List.drop_eq_nil_of_le (by simp;omega)
 have h3:(cs.take i).drop (i+1+(cs.length-i))=[]:=List.drop_eq_nil_of_le (by omega)
 rw[List.take_append,h1,List.take_of_length_le (by omega),List.drop_append,List.length_drop,h3,h1,h2,show i+1-i=1 by omega]
 simp
theorem nY {R:List Value}{x:Value}{i n:Nat}(hn:cs.length=n)(hi:i<n):kO (cs.take (i+1)++(cs.drop i++R)) i [x]=some ((cs.take i++x::cs.drop i)++R):=by
 rw[gF (by simp;omega)]
 congr 1
 have h1:(cs.take (i+1)).length=i+1:=by simp;omega
 rw[List.take_append_of_le_length (by omega),List.take_take,Nat.min_eq_left (by omega),List.length_singleton,List.drop_append_of_le_length (by omega),List.drop_eq_nil_of_le (by omega)]
 simp
theorem ec:∀ {cs:List Value} {i:Nat},aM cs=true->aM (cs.drop i)=true
 | cs,0,h=>by simpa using h
 | [],i+1,h=>by simp[aM]
 | c::cs,i+1,h=>by
  simp only[aM]at h
  split at h
  ·simpa using ec (i:=i) h
  cases h
def ct{α:Type}(l:List α)(i:Nat)(x:α):List α:=l.take i++x::l.drop i
theorem cy {α:Type}{l:List α}{i:Nat}{x:α}(h:i<=l.length):(ct l i x).length=l.length+1:=by unfold ct;simp;omega
theorem y3 {α:Type}{l:List α}{x:α}:ct l l.length x=l++[x]:=by unfold ct;simp
end Go.Am
namespace Go.Proofs.YtoaojmobnbbnmaaGreat
open Go.Am
variable{L:RL}{r r' o' n' c':Nat}{cs cs':List Value}
theorem tZ {c:Nat}(h1:(r,.cells 9 cs)∈L)(h2:(r',.cells 9 cs')∈L)(hne:r≠r')(hn2:1<=n')(hne':cs'≠[]) :
  ∀ h,bp h L->Hk Tryz.prog 193 [.slice (some ⟨r,0,none⟩) 1 c,.slice (some ⟨r',o',none⟩) n' c'] (.bool false) h :=
 oj (e:=9) (sz:=1) (tS:=45) (tR:=4) (fn:=Tryz.f193) rfl (by kernel_rfl) rfl (by kernel_rfl) (by kernel_rfl) rfl rfl h1 h2 hne (by kernel_rfl) (by kernel_rfl) (Nat.le_refl _) hn2 hne'
variable{n:Nat}
theorem KO:aM (gj [Value.string ⟨⟨[]⟩⟩] n)=true:=by
 rw[k5]
 induction n with
 | zero=>rfl
 | succ n ih=>simp only[List.replicate_succ,aM,rM];exact ih
variable{F Y:RL}{v x:Value}{i:Nat}
theorem ng {rv:Nat}{cs:List Value}(g:GV 9 1 [] v n cs Y)(hi:i<=n)(hn:n<=1000000)(hx:rM x=true)(hone:aM cs=true)(hrv:(rv,.cells 9 [x])∈F)(hnd:∀ p,p∈Y->p.1≠rv) :
  CS Tryz.prog 147 [v,.int .i64 (i:Nat),.slice (some ⟨rv,0,none⟩) 1 1] (Y++F) fun u L'=>∃ Y',L'=Y'++F/\OW 9 1 u (n+1) (ct cs i x) Y':=by
 have hcl:cs.length=n:=by have:=g.sv.len;omega
 have hv1:aM [x]=true:=by simp only[aM,hx]
 rcases Nat.eq_or_lt_of_le hi with rfl|hlt
 ·have hpl:=(g.ol (by unfold ae;omega)).pl
  refine yF Tryz.f147 ?_
  refine yX 6 ?_
  refine OS.slicePL hpl (fun p hp=>List.mem_append_left _ hp) rfl rfl rfl rfl rfl aR rfl rfl rfl (Nat.le_refl _) (Nat.le_refl _) (fun v' _=>⟨_,rfl,?_⟩)
  refine yX 14 ?_
  refine yP (az (hpl.sv.mono (L':=Y++F) (fun p hp=>List.mem_append_left _ hp)) rfl rfl rfl rfl rfl) ?_
  refine yX 2 ?_
  have hb:bc ((i:Nat):Int) (i:Nat)=true:=by rw[gn,decide_eq_true rfl]
  refine yX 3 ?_
  refine yI hb ?_
  refine yV 1 ?_
  refine xC rfl ?_ ?_ <;> intro hc
  ·refine yX 3 ?_
   refine yM ((dz [] (F:=F) (e:=9) (cs:=cs) (n:=i) (m:=1) (sz:=1) (bts:=16) (new:=[x]) (GV.appendR F g) (SV.row (e:=9) (sz:=1) (n:=1) (show (rv,aG.cells 9 [x])∈[]++(Y++F) from List.mem_append_right Y hrv) rfl) (by omega) hv1 rfl rfl rfl (by omega) (by omega))) fun r2=>?_
   refine yX 3 ?_
   refine⟨[(r2,_)],rfl,⟨r2,ae,[],rfl,by rw[cy (by omega)];omega,?_,by unfold ae;omega,.inl rfl⟩⟩
   rw[List.append_nil,←hcl,y3]
  cases hc
 rcases g with ⟨rfl,rfl,rfl,rfl⟩|⟨r,rfl,hl,rfl⟩
 ·omega
 refine CS.reveal (sz:=1) rfl hl (fun c hnc hco=>?_) (by unfold ae;omega)
 rw[Nat.mul_one]
 have hne:rv≠r:=fun hh=>hnd _ (List.mem_cons_self ..) hh.symm
 refine yF Tryz.f147 ?_
 refine yX 6 ?_
 refine yP (jL (l:=i) (u:=n) rfl rfl rfl rfl aR rfl rfl rfl hnc (by omega) hco) ?_
 refine yX 17 ?_
 have hb:bc ((i:Nat):Int) (n:Nat)=false:=by rw[gn,decide_eq_false (by omega)]
 refine yX 3 ?_
 refine yI hb ?_
 refine yX 6 ?_
 refine yP (aW (m:=n) (n:=1) rfl rfl rfl (ak (by omega) (by omega))) ?_
 refine yX 1 ?_
 refine yP (Jp rfl rfl rfl rfl rfl hco) ?_
 refine yV 2 ?_
 refine xC rfl ?_ ?_ <;> intro hc
 ·have hcn:c=n:=by
   have h2:(!av ((n+1:Nat):Int) (c:Nat))=true:=hc
   rw[am]at h2;simp at h2;omega
  subst hcn
  have hJ:junk (c-c)=[]:=by rw[Nat.sub_self];rfl
  rw[hJ,List.append_nil]
  refine yX 3 ?_
  refine yP (ig (u:=i) rfl rfl rfl rfl rfl (by omega) hco) ?_
  refine yX 2 ?_
  refine yP (aW (m:=c) (n:=1) rfl rfl rfl (ak (by omega) (by omega))) ?_
  refine yX 1 ?_
  refine yP (A0 (m:=c+1) (n:=i) rfl rfl rfl (by omega) (ak (by omega) (by omega))) ?_
  refine yM ((sZ (e:=9) (sz:=1) (bts:=16) (zs:=[.string ⟨⟨[]⟩⟩]) (m:=c+1-i) (old:=cs.take i) (row:=.cells 9 cs) rfl (by kernel_rfl) rfl KO (by omega) hco (by omega) (by omega) (by omega) (by omega) (List.mem_cons_self ..) rfl (by rw[eV (by omega)];simp))) fun r2=>?_
  rw[show i+(c+1-i)=c+1 by omega]
  refine yX 2 ?_
  have hZ:(gj [Value.string ⟨⟨[]⟩⟩] (c+1-i)).length=c+1-i:=by rw[ri];simp
  generalize gj [Value.string ⟨⟨[]⟩⟩] (c+1-i)=Z at hZ
  refine yX 3 ?_
  refine yR (l4 0 (l:=i) rfl rfl rfl rfl rfl (by omega) rfl) ?_
  refine yX 1 ?_
  refine yW (i7 0 (e:=9) (sz:=1) (k:=1) rfl rfl rfl rfl rfl rfl (pi (by omega)) (by omega) (List.mem_cons_of_mem _ (List.mem_cons_of_mem _ hrv)) rfl rfl hv1 rfl (by rw[Nat.zero_add];exact uI (by omega) (by omega)) rfl) ?_
  refine yV 1 ?_
  refine LS.drawn noGo mixed [(0,false),(1,false),(2,false),(3,false),(4,false),(5,false),(6,false),(7,false),(8,true)] rfl rfl (by kernel_rfl) ?_
  refine yX 3 ?_
  refine yQ rfl (aW (m:=i) (n:=1) rfl rfl rfl (ak (by omega) (by omega))) ?_
  refine xE rfl rfl (l4 0 (l:=i+1) rfl rfl rfl rfl rfl (by omega) rfl) rfl ?_
  refine yX 2 ?_
  refine yQ rfl (cP (l:=i) rfl rfl rfl rfl rfl hnc (by omega) hco) ?_
  refine ba.write rfl rfl (i7 0 (e:=9) (sz:=1) (k:=c-i) (new:=cs.drop i) rfl rfl rfl rfl rfl rfl (pi (by omega)) (by omega) (List.mem_cons_of_mem _ (List.mem_cons_self ..)) rfl (vi hcl (by omega)) (ec hone) rfl (by rw[Nat.zero_add];exact yJ (by omega) (by simp;omega)) rfl) rfl (ai.gone rfl ai.nil) ?_
  refine yX 2 ?_
  refine OS.sub (ar.drop 1 rfl) ?_
  refine yX 4 ?_
  exact⟨[(r2,_)],rfl,⟨r2,ae,[],rfl,by rw[cy (by omega)];omega,by rw[List.append_nil];rfl,by unfold ae;omega,.inl rfl⟩⟩
 have hcn:n+1<=c:=by
  have h2:(!av ((n+1:Nat):Int) (c:Nat))=false:=hc
  rw[am]at h2;simp at h2;omega
 refine LS.skip ?_
 have hJ:1<=(junk (c-n)).length:=by simp;omega
 generalize hJe:junk (c-n)=J at hJ
 have hJl:J.length=c-n:=by rw[←hJe];simp
 refine yX 4 ?_
 refine yP (aW (m:=n) (n:=1) rfl rfl rfl (ak (by omega) (by omega))) ?_
 refine yP (ig (u:=n+1) rfl rfl rfl rfl rfl (by omega) hco) ?_
 refine yX 7 ?_
 refine yP (aW (m:=i) (n:=1) rfl rfl rfl (ak (by omega) (by omega))) ?_
 refine yP (cP (l:=i+1) rfl rfl rfl rfl rfl (by omega) (by omega) hco) ?_
 refine OS.extH (tZ (cs:=[x]) (cs':=cs++J) (List.mem_cons_of_mem _ hrv) (List.mem_cons_self ..) hne (by omega) (fun hh=>by have h0:=congrArg List.length hh;rw[List.length_append,List.length_nil]at h0;omega)) rfl (fun _=>rfl) rfl ?_
 refine yV 2 ?_
 refine xC rfl ?_ ?_ <;> intro hc2
 ·repeat refine xQ ?_
  refine LS.drawn noGo mixed [(0,false),(1,false),(2,false),(3,false),(4,false),(5,false),(6,false),(7,false),(8,true)] rfl rfl (by kernel_rfl) ?_
  refine yX 3 ?_
  refine yQ rfl (aW (m:=i) (n:=1) rfl rfl rfl (ak (by omega) (by omega))) ?_
  refine yQ rfl (cP (l:=i+1) rfl rfl rfl rfl rfl (by omega) (by omega) hco) ?_
  refine yX 2 ?_
  refine yQ rfl (cP (l:=i) rfl rfl rfl rfl rfl (by omega) (by omega) hco) ?_
  refine ba.write rfl rfl (i7 0 (e:=9) (sz:=1) (k:=n-i) (new:=cs.drop i) rfl rfl rfl rfl rfl rfl ((Fz (by omega)).trans (by omega)) (by omega) (List.mem_cons_self ..) rfl (lE hcl (by omega)) (ec hone) rfl (by rw[Nat.zero_add];exact uG hcl (by omega) hJ) rfl) rfl ai.nil ?_
  refine yX 4 ?_
  refine yP (cP (l:=i) rfl rfl rfl rfl rfl (by omega) (by omega) hco) ?_
  refine yX 1 ?_
  refine yW (i7 0 (e:=9) (sz:=1) (k:=1) rfl rfl rfl rfl rfl rfl (pi (by omega)) (by omega) (List.mem_cons_of_mem _ hrv) rfl rfl hv1 rfl (by rw[Nat.zero_add];exact nY hcl (by omega)) rfl) ?_
  refine yX 6 ?_
  exact⟨[(r,_)],rfl,⟨r,c,J.drop 1,rfl,by rw[cy (by omega)];omega,rfl,by omega,.inr ⟨hco,by rw[List.length_append,cy (by omega),List.length_drop];omega⟩⟩⟩
 cases hc2
end Go.Proofs.YtoaojmobnbbnmaaGreat
end
section
namespace Go.Am
section
variable{P:Program}{o:Oper}{a:ah}{L L₁:RL}{t e:TypeId}{x y z:Operand}
theorem u5 {lo hi mx:Operand}{k1 k2 k3:IntKind}{r off n c sz l u m:Nat}(ho:o.op=.slice t x (some lo) (some hi) (some mx))(hx:aX a x=some (.slice (some ⟨r,off,none⟩) n c))(hlo:aX a lo=some (.int k1 (l:Nat)))(hhi:aX a hi=some (.int k2 (u:Nat)))(hmx:aX a mx=some (.int k3 (m:Nat)))
  (ht:P.underlying t=some (.slice e)) (hz:aB P e=some sz) (hm:m<=n) (hnc:n<=c) (hu:u<=m) (hl:l<=u) (hmb:m<=1000000000000):∀ h,aI P a o h=some (.val (.slice (some ⟨r,off+l*sz,none⟩) (u-l) (m-l)) h):=by
 intro h
 have h1:aY a (some lo)=some (some (.int k1 (l:Nat))):=by simp only[aY,hlo]
 have h2:aY a (some hi)=some (some (.int k2 (u:Nat))):=by simp only[aY,hhi]
 have h3:aY a (some mx)=some (some (.int k3 (m:Nat))):=by simp only[aY,hmx]
 have b1:Nat.ble m (dT n c)=true:=by
  unfold dT
  split
  ·exact Nat.ble_eq_true_of_le hm
  exact Nat.ble_eq_true_of_le (Nat.le_trans hm hnc)
 have b2:Nat.ble u m=true:=Nat.ble_eq_true_of_le hu
 have b3:Nat.ble l u=true:=Nat.ble_eq_true_of_le hl
 have b4:Nat.ble m 1000000000000=true:=Nat.ble_eq_true_of_le hmb
 simp only[aI,ho,hx,h1,h2,h3,cM,ht,aR,hz,b1,b2,b3,b4,Option.isSome,Bool.and_self,dZ,ret]
theorem s6(i:Nat){c:Call}{e':TypeId}{sz bts len m r off cap r2 o2 c2:Nat}{row2:aG}{cs cs2 new cs':List Value}(ho:o.op=.call c)(hT:m7 P c=some (e,sz,bts))(ha:ky a c.args.toList=some [.slice (some ⟨r,off,none⟩) len cap,.slice (some ⟨r2,o2,none⟩) m c2])
  (hm2:(r2,row2)∈L) (hr2:dV row2=some cs2) (hcut:cut cs2 o2 (m*sz)=some new) (hone:aM new=true) (hcap:cap<ae) (hroom:len+m<=cap) (hL:L[i]?=some (r,.cells e' cs)) (hlay:kO cs (off+len*sz) new=some cs') (hset:jx L i (r,.cells e' cs')=some L₁) :
  ∀ h,bp h L->∃ h₁,aI P a o h=some (.val (.slice (some ⟨r,off,none⟩) (len+m) cap) h₁)/\bp h₁ L₁:=by
 intro h H
 unfold m7 at hT
 split at hT
 case h_2=>cases hT
 rename_i hcal
 split at hT
 case h_2=>cases hT
 rename_i st xt hst hxt
 split at hT
 case h_2=>cases hT
 rename_i e₁ xd hu1 hu2
 have hxd:(∀ k,xd=.int k->False)/\∃ i,P.info? e₁=some i/\i.size=sz:=by
  split at hT
  ·cases hT
  rename_i hno
  split at hT
  case h_2=>cases hT
  rename_i i hi hz
  simp at hT
  obtain⟨rfl,rfl,rfl⟩:=hT
  exact⟨fun k hk=>hno k hk,i,hi,rfl⟩
 obtain⟨hno,inf,hi,rfl⟩:=hxd
 have hcb:Nat.beq cap ae=false:=aK (by omega)
 have hle:Nat.ble (len+m) cap=true:=Nat.ble_eq_true_of_le hroom
 have hlen:lenB (.slice (some ⟨r2,o2,none⟩) m c2)=some m:=rfl
 have hnt:notText (.slice (some ⟨r2,o2,none⟩) m c2)=true:=rfl
 have hs:=eN hset
 subst hs
 by_cases hm0:m=0
 ·subst hm0
  rw[Nat.add_zero]at hle
  have hn:new=[]:=List.eq_nil_of_length_eq_zero (by have:=(c9 hcut).2.2.1;simpa using this)
  subst hn
  have hcs:cs'=cs:=by
   have h1:=(kf hlay).2
   rw[gF (by simpa using h1)]at hlay
   simpa using hlay.symm
  subst hcs
  have hLs:L.set i (r,.cells e' cs')=L:=by
   obtain⟨hlt,he⟩:=List.getElem?_eq_some_iff.1 hL
   rw[←he];exact List.set_getElem_self hlt
  have hf:b6 inf.size 0 (.slice (some ⟨r2,o2,none⟩) 0 c2) h=some []:=rfl
  refine⟨h,?_,by rw[hLs];exact H⟩
  simp only[aI,ho,ha,bB,hcal,fM,hst,hxt,hu1,hu2]
  cases xd <;> first|exact (hno _ rfl).elim|skip
  all_goals simp only[hi,hlen,hf,hone,hnt,Bool.true_or,Bool.and_self,hcb,hle,Nat.beq_refl,fx,Nat.add_zero]
 have hb0:Nat.beq m 0=false:=aK hm0
 obtain⟨h₁,e₁⟩:=h.put_some r (some (.cells e' cs'))
 have hf:b6 inf.size m (.slice (some ⟨r2,o2,none⟩) m c2) h=some new:=by simp only[b6,hb0,H.mem hm2 hr2,hcut]
 refine⟨h₁,?_,H.put hL e₁⟩
 simp only[aI,ho,ha,bB,hcal,fM,hst,hxt,hu1,hu2]
 cases xd <;> first|exact (hno _ rfl).elim|skip
 all_goals simp only[hi,hlen,hf,hone,hnt,Bool.true_or,Bool.and_self,hcb,hle,hb0,H.row hL,hlay,e₁,fx]
end
variable{cs J:List Value}{i n:Nat}
theorem uJ (hn:cs.length=n)(hi:i<n):kO (cs++J) (0+i*1) (cs.drop (i+1))=some (cs.eraseIdx i++(cs.drop (n-1)++J)):=by
 rw[Nat.zero_add,Nat.mul_one,gF (by simp;omega)]
 congr 1
 rw[List.take_append_of_le_length (by omega),List.eraseIdx_eq_take_drop_succ,List.length_drop,List.drop_append_of_le_length (by omega),List.append_assoc]
 congr 3
 congr 1;omega
theorem yG {E Z:List Value}{z:Value}{k:Nat}(hE:E.length=k)(hZ:Z.length=1):kO (E++(Z++J)) (0+k*1) [z]=some (E++z::J):=by
 rw[Nat.zero_add,Nat.mul_one,gF (by simp;omega)]
 congr 1
 rw[List.take_append_of_le_length (by omega),List.take_of_length_le (by omega),List.length_singleton,List.drop_append,List.drop_eq_nil_of_le (by omega),List.nil_append,show k+1-E.length=1 by omega,List.drop_append_of_le_length (by omega),List.drop_eq_nil_of_le (by omega)]
 simp
theorem ia {α:Type}{l:List α}{i n:Nat}(h:l.length=n)(hi:i<n):(l.eraseIdx i).length=n-1:=by rw[List.length_eraseIdx,if_pos (by omega),h]
end Go.Am
namespace Go.Proofs.YtoaojmobnbbnmaaGreat
open Go.Am
variable{F Y:RL}{v:Value}{n i:Nat}{cs:List Value}
theorem nh (g:GV 9 1 [] v n cs Y)(hi:i<n)(hn:n<=1000000)(hone:aM cs=true) :
  CS Tryz.prog 153 [v,.int .i64 (i:Nat),.int .i64 ((i+1:Nat):Int)] (Y++F) fun u L'=>∃ Y',L'=Y'++F/\OW 9 1 u (n-1) (cs.eraseIdx i) Y':=by
 have hcl:cs.length=n:=by have:=g.sv.len;omega
 rcases g with ⟨rfl,rfl,rfl,rfl⟩|⟨r,rfl,hl,rfl⟩
 ·omega
 refine CS.reveal (sz:=1) rfl hl (fun c hnc hco=>?_) (by unfold ae;omega)
 rw[Nat.mul_one]
 generalize hJe:junk (c-n)=J
 have hJl:J.length=c-n:=by rw[←hJe];simp
 refine yF Tryz.f153 ?_
 refine yX 9 ?_
 refine yP (u5 (l:=i) (u:=i+1) (m:=n) rfl rfl rfl rfl rfl rfl rfl (by omega) hnc (by omega) (by omega) (by omega)) ?_
 refine xN ?_
 have hb:bc ((i:Nat):Int) ((i+1:Nat):Int)=false:=by rw[gn,decide_eq_false (by omega)]
 refine yX 3 ?_
 refine yI hb ?_
 refine yV 8 ?_
 refine LS.drawn noGo mixed [(0,false),(1,false),(2,false),(3,false),(4,false),(5,false),(6,true),(7,false)] rfl rfl (by kernel_rfl) ?_
 refine yX 2 ?_
 refine yQ rfl (ig (u:=i) rfl rfl rfl rfl rfl (by omega) hco) ?_
 refine yX 2 ?_
 refine yQ rfl (cP (l:=i+1) rfl rfl rfl rfl rfl (by omega) (by omega) hco) ?_
 refine ba.write rfl rfl (s6 0 (e:=9) (sz:=1) (bts:=16) (len:=i) (new:=cs.drop (i+1)) rfl rfl rfl (List.mem_cons_self ..) rfl (lE hcl (by omega)) (ec hone) hco (by omega) rfl (uJ hcl hi) rfl) rfl ai.nil ?_
 rw[show i+(n-(i+1))=n-1 by omega]
 refine yX 7 ?_
 refine yP (jL (l:=n-1) (u:=n) rfl rfl rfl rfl aR aR rfl rfl hnc (by omega) hco) ?_
 rw[show n-(n-1)=1 by omega]
 refine yW (Ct 0 (sz:=1) (zs:=[.string ⟨⟨[]⟩⟩]) rfl rfl rfl rfl rfl (Nat.le_refl _) rfl rfl rfl rfl (Nat.le_refl _) rfl (yG (z:=.string ⟨⟨[]⟩⟩) (ia hcl hi) (by simp;omega)) rfl) ?_
 refine yX 6 ?_
 exact⟨[(r,_)],rfl,⟨r,c,_,rfl,by rw[ia hcl hi];omega,rfl,by omega,.inr ⟨hco,by rw[List.length_append,ia hcl hi,List.length_cons];omega⟩⟩⟩
end Go.Proofs.YtoaojmobnbbnmaaGreat
end
namespace Go.Proofs.YtoaojmobnbbnmaaGreat
open Go.Am
variable{L:RL}{r r' o' n' c':Nat}{cs cs':List Value}
theorem tY {c:Nat}(h1:(r,.cells 3 cs)∈L)(h2:(r',.cells 3 cs')∈L)(hne:r≠r')(hn2:1<=n')(hne':cs'≠[]) :
  ∀ h,bp h L->Hk Tryz.prog 268 [.slice (some ⟨r,0,none⟩) 1 c,.slice (some ⟨r',o',none⟩) n' c'] (.bool false) h :=
 oj (e:=3) (sz:=1) (tS:=41) (tR:=4) (fn:=Tryz.f268) rfl (by kernel_rfl) rfl (by kernel_rfl) (by kernel_rfl) rfl rfl h1 h2 hne (by kernel_rfl) (by kernel_rfl) (Nat.le_refl _) hn2 hne'
variable{n:Nat}
theorem KN:aM (gj [Value.int .i64 0] n)=true:=by
 rw[k5]
 induction n with
 | zero=>rfl
 | succ n ih=>simp only[List.replicate_succ,aM,rM];exact ih
variable{F Y:RL}{v x:Value}{i:Nat}
theorem Bj {rv:Nat}{cs:List Value}(g:GV 3 1 [] v n cs Y)(hi:i<=n)(hn:n<=1000000)(hx:rM x=true)(hone:aM cs=true)(hrv:(rv,.cells 3 [x])∈F)(hnd:∀ p,p∈Y->p.1≠rv) :
  CS Tryz.prog 251 [v,.int .i64 (i:Nat),.slice (some ⟨rv,0,none⟩) 1 1] (Y++F) fun u L'=>∃ Y',L'=Y'++F/\OW 3 1 u (n+1) (ct cs i x) Y':=by
 have hcl:cs.length=n:=by have:=g.sv.len;omega
 have hv1:aM [x]=true:=by simp only[aM,hx]
 rcases Nat.eq_or_lt_of_le hi with rfl|hlt
 ·have hpl:=(g.ol (by unfold ae;omega)).pl
  refine yF Tryz.f251 ?_
  refine yX 6 ?_
  refine OS.slicePL hpl (fun p hp=>List.mem_append_left _ hp) rfl rfl rfl rfl rfl aR rfl rfl rfl (Nat.le_refl _) (Nat.le_refl _) (fun v' _=>⟨_,rfl,?_⟩)
  refine yX 14 ?_
  refine yP (az (hpl.sv.mono (L':=Y++F) (fun p hp=>List.mem_append_left _ hp)) rfl rfl rfl rfl rfl) ?_
  refine yX 2 ?_
  have hb:bc ((i:Nat):Int) (i:Nat)=true:=by rw[gn,decide_eq_true rfl]
  refine yX 3 ?_
  refine yI hb ?_
  refine yV 1 ?_
  refine xC rfl ?_ ?_ <;> intro hc
  ·refine yX 3 ?_
   refine yM ((dz [] (F:=F) (e:=3) (cs:=cs) (n:=i) (m:=1) (sz:=1) (bts:=8) (new:=[x]) (GV.appendR F g) (SV.row (e:=3) (sz:=1) (n:=1) (show (rv,aG.cells 3 [x])∈[]++(Y++F) from List.mem_append_right Y hrv) rfl) (by omega) hv1 rfl rfl rfl (by omega) (by omega))) fun r2=>?_
   refine yX 3 ?_
   refine⟨[(r2,_)],rfl,⟨r2,ae,[],rfl,by rw[cy (by omega)];omega,?_,by unfold ae;omega,.inl rfl⟩⟩
   rw[List.append_nil,←hcl,y3]
  cases hc
 rcases g with ⟨rfl,rfl,rfl,rfl⟩|⟨r,rfl,hl,rfl⟩
 ·omega
 refine CS.reveal (sz:=1) rfl hl (fun c hnc hco=>?_) (by unfold ae;omega)
 rw[Nat.mul_one]
 have hne:rv≠r:=fun hh=>hnd _ (List.mem_cons_self ..) hh.symm
 refine yF Tryz.f251 ?_
 refine yX 6 ?_
 refine yP (jL (l:=i) (u:=n) rfl rfl rfl rfl aR rfl rfl rfl hnc (by omega) hco) ?_
 refine yX 17 ?_
 have hb:bc ((i:Nat):Int) (n:Nat)=false:=by rw[gn,decide_eq_false (by omega)]
 refine yX 3 ?_
 refine yI hb ?_
 refine yX 6 ?_
 refine yP (aW (m:=n) (n:=1) rfl rfl rfl (ak (by omega) (by omega))) ?_
 refine yX 1 ?_
 refine yP (Jp rfl rfl rfl rfl rfl hco) ?_
 refine yV 2 ?_
 refine xC rfl ?_ ?_ <;> intro hc
 ·have hcn:c=n:=by
   have h2:(!av ((n+1:Nat):Int) (c:Nat))=true:=hc
   rw[am]at h2;simp at h2;omega
  subst hcn
  have hJ:junk (c-c)=[]:=by rw[Nat.sub_self];rfl
  rw[hJ,List.append_nil]
  refine yX 3 ?_
  refine yP (ig (u:=i) rfl rfl rfl rfl rfl (by omega) hco) ?_
  refine yX 2 ?_
  refine yP (aW (m:=c) (n:=1) rfl rfl rfl (ak (by omega) (by omega))) ?_
  refine yX 1 ?_
  refine yP (A0 (m:=c+1) (n:=i) rfl rfl rfl (by omega) (ak (by omega) (by omega))) ?_
  refine yM ((sZ (e:=3) (sz:=1) (bts:=8) (zs:=[.int .i64 0]) (m:=c+1-i) (old:=cs.take i) (row:=.cells 3 cs) rfl (by kernel_rfl) rfl KN (by omega) hco (by omega) (by omega) (by omega) (by omega) (List.mem_cons_self ..) rfl (by rw[eV (by omega)];simp))) fun r2=>?_
  rw[show i+(c+1-i)=c+1 by omega]
  refine yX 2 ?_
  have hZ:(gj [Value.int .i64 0] (c+1-i)).length=c+1-i:=by rw[ri];simp
  generalize gj [Value.int .i64 0] (c+1-i)=Z at hZ
  refine yX 3 ?_
  refine yR (l4 0 (l:=i) rfl rfl rfl rfl rfl (by omega) rfl) ?_
  refine yX 1 ?_
  refine yW (i7 0 (e:=3) (sz:=1) (k:=1) rfl rfl rfl rfl rfl rfl (pi (by omega)) (by omega) (List.mem_cons_of_mem _ (List.mem_cons_of_mem _ hrv)) rfl rfl hv1 rfl (by rw[Nat.zero_add];exact uI (by omega) (by omega)) rfl) ?_
  refine yV 1 ?_
  refine LS.drawn noGo mixed [(0,false),(1,false),(2,false),(3,false),(4,false),(5,false),(6,false),(7,false),(8,true)] rfl rfl (by kernel_rfl) ?_
  refine yX 3 ?_
  refine yQ rfl (aW (m:=i) (n:=1) rfl rfl rfl (ak (by omega) (by omega))) ?_
  refine xE rfl rfl (l4 0 (l:=i+1) rfl rfl rfl rfl rfl (by omega) rfl) rfl ?_
  refine yX 2 ?_
  refine yQ rfl (cP (l:=i) rfl rfl rfl rfl rfl hnc (by omega) hco) ?_
  refine ba.write rfl rfl (i7 0 (e:=3) (sz:=1) (k:=c-i) (new:=cs.drop i) rfl rfl rfl rfl rfl rfl (pi (by omega)) (by omega) (List.mem_cons_of_mem _ (List.mem_cons_self ..)) rfl (vi hcl (by omega)) (ec hone) rfl (by rw[Nat.zero_add];exact yJ (by omega) (by simp;omega)) rfl) rfl (ai.gone rfl ai.nil) ?_
  refine yX 2 ?_
  refine OS.sub (ar.drop 1 rfl) ?_
  refine yX 4 ?_
  exact⟨[(r2,_)],rfl,⟨r2,ae,[],rfl,by rw[cy (by omega)];omega,by rw[List.append_nil];rfl,by unfold ae;omega,.inl rfl⟩⟩
 have hcn:n+1<=c:=by
  have h2:(!av ((n+1:Nat):Int) (c:Nat))=false:=hc
  rw[am]at h2;simp at h2;omega
 refine LS.skip ?_
 have hJ:1<=(junk (c-n)).length:=by simp;omega
 generalize hJe:junk (c-n)=J at hJ
 have hJl:J.length=c-n:=by rw[←hJe];simp
 refine yX 4 ?_
 refine yP (aW (m:=n) (n:=1) rfl rfl rfl (ak (by omega) (by omega))) ?_
 refine yP (ig (u:=n+1) rfl rfl rfl rfl rfl (by omega) hco) ?_
 refine yX 7 ?_
 refine yP (aW (m:=i) (n:=1) rfl rfl rfl (ak (by omega) (by omega))) ?_
 refine yP (cP (l:=i+1) rfl rfl rfl rfl rfl (by omega) (by omega) hco) ?_
 refine OS.extH (tY (cs:=[x]) (cs':=cs++J) (List.mem_cons_of_mem _ hrv) (List.mem_cons_self ..) hne (by omega) (fun hh=>by have h0:=congrArg List.length hh;rw[List.length_append,List.length_nil]at h0;omega)) rfl (fun _=>rfl) rfl ?_
 refine yV 2 ?_
 refine xC rfl ?_ ?_ <;> intro hc2
 ·repeat refine xQ ?_
  refine LS.drawn noGo mixed [(0,false),(1,false),(2,false),(3,false),(4,false),(5,false),(6,false),(7,false),(8,true)] rfl rfl (by kernel_rfl) ?_
  refine yX 3 ?_
  refine yQ rfl (aW (m:=i) (n:=1) rfl rfl rfl (ak (by omega) (by omega))) ?_
  refine yQ rfl (cP (l:=i+1) rfl rfl rfl rfl rfl (by omega) (by omega) hco) ?_
  refine yX 2 ?_
  refine yQ rfl (cP (l:=i) rfl rfl rfl rfl rfl (by omega) (by omega) hco) ?_
  refine ba.write rfl rfl (i7 0 (e:=3) (sz:=1) (k:=n-i) (new:=cs.drop i) rfl rfl rfl rfl rfl rfl ((Fz (by omega)).trans (by omega)) (by omega) (List.mem_cons_self ..) rfl (lE hcl (by omega)) (ec hone) rfl (by rw[Nat.zero_add];exact uG hcl (by omega) hJ) rfl) rfl ai.nil ?_
  refine yX 4 ?_
  refine yP (cP (l:=i) rfl rfl rfl rfl rfl (by omega) (by omega) hco) ?_
  refine yX 1 ?_
  refine yW (i7 0 (e:=3) (sz:=1) (k:=1) rfl rfl rfl rfl rfl rfl (pi (by omega)) (by omega) (List.mem_cons_of_mem _ hrv) rfl rfl hv1 rfl (by rw[Nat.zero_add];exact nY hcl (by omega)) rfl) ?_
  refine yX 6 ?_
  exact⟨[(r,_)],rfl,⟨r,c,J.drop 1,rfl,by rw[cy (by omega)];omega,rfl,by omega,.inr ⟨hco,by rw[List.length_append,cy (by omega),List.length_drop];omega⟩⟩⟩
 cases hc2
theorem Bk (g:GV 3 1 [] v n cs Y)(hi:i<n)(hn:n<=1000000)(hone:aM cs=true) :
  CS Tryz.prog 254 [v,.int .i64 (i:Nat),.int .i64 ((i+1:Nat):Int)] (Y++F) fun u L'=>∃ Y',L'=Y'++F/\OW 3 1 u (n-1) (cs.eraseIdx i) Y':=by
 have hcl:cs.length=n:=by have:=g.sv.len;omega
 rcases g with ⟨rfl,rfl,rfl,rfl⟩|⟨r,rfl,hl,rfl⟩
 ·omega
 refine CS.reveal (sz:=1) rfl hl (fun c hnc hco=>?_) (by unfold ae;omega)
 rw[Nat.mul_one]
 generalize hJe:junk (c-n)=J
 have hJl:J.length=c-n:=by rw[←hJe];simp
 refine yF Tryz.f254 ?_
 refine yX 9 ?_
 refine yP (u5 (l:=i) (u:=i+1) (m:=n) rfl rfl rfl rfl rfl rfl rfl (by omega) hnc (by omega) (by omega) (by omega)) ?_
 refine xN ?_
 have hb:bc ((i:Nat):Int) ((i+1:Nat):Int)=false:=by rw[gn,decide_eq_false (by omega)]
 refine yX 3 ?_
 refine yI hb ?_
 refine yV 8 ?_
 refine LS.drawn noGo mixed [(0,false),(1,false),(2,false),(3,false),(4,false),(5,false),(6,true),(7,false)] rfl rfl (by kernel_rfl) ?_
 refine yX 2 ?_
 refine yQ rfl (ig (u:=i) rfl rfl rfl rfl rfl (by omega) hco) ?_
 refine yX 2 ?_
 refine yQ rfl (cP (l:=i+1) rfl rfl rfl rfl rfl (by omega) (by omega) hco) ?_
 refine ba.write rfl rfl (s6 0 (e:=3) (sz:=1) (bts:=8) (len:=i) (new:=cs.drop (i+1)) rfl rfl rfl (List.mem_cons_self ..) rfl (lE hcl (by omega)) (ec hone) hco (by omega) rfl (uJ hcl hi) rfl) rfl ai.nil ?_
 rw[show i+(n-(i+1))=n-1 by omega]
 refine yX 7 ?_
 refine yP (jL (l:=n-1) (u:=n) rfl rfl rfl rfl aR aR rfl rfl hnc (by omega) hco) ?_
 rw[show n-(n-1)=1 by omega]
 refine yW (Ct 0 (sz:=1) (zs:=[.int .i64 0]) rfl rfl rfl rfl rfl (Nat.le_refl _) rfl rfl rfl rfl (Nat.le_refl _) rfl (yG (z:=.int .i64 0) (ia hcl hi) (by simp;omega)) rfl) ?_
 refine yX 6 ?_
 exact⟨[(r,_)],rfl,⟨r,c,_,rfl,by rw[ia hcl hi];omega,rfl,by omega,.inr ⟨hco,by rw[List.length_append,ia hcl hi,List.length_cons];omega⟩⟩⟩
end Go.Proofs.YtoaojmobnbbnmaaGreat
section
namespace Go.Proofs
open Go.Shelf
def fA:Go.Shelf.Ren:=⟨fun|189=>197|125=>237|257=>236|128=>264|129=>265|294=>255|295=>256|296=>257|297=>258|298=>259|299=>260|216=>261|300=>262|301=>263|328=>270|329=>271|330=>272|331=>273|332=>274|215=>275|343=>277|n=>n,fun|28=>41|3=>3|46=>58|0=>0|51=>297|53=>205|4=>4|183=>291|182=>290|131=>137|5=>5|9=>9|218=>303|222=>307|228=>309|229=>220|n=>n,fun|n=>n⟩
theorem cm:Go.Proofs.Lays.n189 Tryz.prog fA:={
 mixed:=by kernel_rfl
 f125:=Tryz.func237.trans (congrArg some (by kernel_rfl))
 f128:=Tryz.func264.trans (congrArg some (by kernel_rfl))
 f129:=Tryz.func265.trans (congrArg some (by kernel_rfl))
 f189:=Tryz.func197.trans (congrArg some (by kernel_rfl))
 f215:=Tryz.func275.trans (congrArg some (by kernel_rfl))
 f216:=Tryz.func261.trans (congrArg some (by kernel_rfl))
 f257:=Tryz.func236.trans (congrArg some (by kernel_rfl))
 f294:=Tryz.func255.trans (congrArg some (by kernel_rfl))
 f295:=Tryz.func256.trans (congrArg some (by kernel_rfl))
 f296:=Tryz.func257.trans (congrArg some (by kernel_rfl))
 f297:=Tryz.func258.trans (congrArg some (by kernel_rfl))
 f298:=Tryz.func259.trans (congrArg some (by kernel_rfl))
 f299:=Tryz.func260.trans (congrArg some (by kernel_rfl))
 f300:=Tryz.func262.trans (congrArg some (by kernel_rfl))
 f301:=Tryz.func263.trans (congrArg some (by kernel_rfl))
 f328:=Tryz.func270.trans (congrArg some (by kernel_rfl))
 f329:=Tryz.func271.trans (congrArg some (by kernel_rfl))
 f330:=Tryz.func272.trans (congrArg some (by kernel_rfl))
 f331:=Tryz.func273.trans (congrArg some (by kernel_rfl))
 f332:=Tryz.func274.trans (congrArg some (by kernel_rfl))
 f343:=Tryz.func277.trans (congrArg some (by kernel_rfl))
 t0:=Tryz.underlying0
 a0:=Tryz.isAgg0
 z0:=Tryz.sizeOf0
 v0:=Tryz.zeroValue0
 t3:=Tryz.underlying3
 a3:=Tryz.isAgg3
 z3:=Tryz.sizeOf3
 v3:=Tryz.zeroValue3
 t4:=Tryz.underlying4
 a4:=Tryz.isAgg4
 z4:=Tryz.sizeOf4
 v4:=Tryz.zeroValue4
 t5:=Tryz.underlying5
 a5:=Tryz.isAgg5
 z5:=Tryz.sizeOf5
 v5:=Tryz.zeroValue5
 t9:=Tryz.underlying9
 a9:=Tryz.isAgg9
 z9:=Tryz.sizeOf9
 v9:=Tryz.zeroValue9
 t28:=Tryz.underlying41
 a28:=Tryz.isAgg41
 z28:=Tryz.sizeOf41
 v28:=Tryz.zeroValue41
 t46:=Tryz.underlying58
 a46:=Tryz.isAgg58
 z46:=Tryz.sizeOf58
 v46:=Tryz.zeroValue58
 t51:=Tryz.underlying297
 a51:=Tryz.isAgg297
 z51:=Tryz.sizeOf297
 v51:=Tryz.zeroValue297
 t53:=Tryz.underlying205
 a53:=Tryz.isAgg205
 z53:=Tryz.sizeOf205
 v53:=Tryz.zeroValue205
 t131:=Tryz.underlying137
 a131:=Tryz.isAgg137
 z131:=Tryz.sizeOf137
 v131:=Tryz.zeroValue137
 t182:=Tryz.underlying290
 a182:=Tryz.isAgg290
 z182:=Tryz.sizeOf290
 v182:=Tryz.zeroValue290
 t183:=Tryz.underlying291
 a183:=Tryz.isAgg291
 z183:=Tryz.sizeOf291
 v183:=Tryz.zeroValue291
 t218:=Tryz.underlying303
 a218:=Tryz.isAgg303
 z218:=Tryz.sizeOf303
 v218:=Tryz.zeroValue303
 t222:=Tryz.underlying307
 a222:=Tryz.isAgg307
 z222:=Tryz.sizeOf307
 v222:=Tryz.zeroValue307
 t228:=Tryz.underlying309
 a228:=Tryz.isAgg309
 z228:=Tryz.sizeOf309
 v228:=Tryz.zeroValue309
 t229:=Tryz.underlying220
 a229:=Tryz.isAgg220
 z229:=Tryz.sizeOf220
 v229:=Tryz.zeroValue220 }
end Go.Proofs
namespace Go.Am
section
variable{P:Program}{ρ ρ':cY}{h h':AW}{w w₁ w':World}
theorem aJ.grown {X:Array Obj}(H:aJ P ρ h w)(hh:w'.heap=w.heap++X):aJ P ρ h w' :=
 ⟨fun r row hr=>let ⟨l,hl,x⟩:=H.loc r row hr;⟨l,hl,x.keep (cY.le_refl _) (by rw[hh];exact Array.getElem?_append_left x.lt)⟩,H.inj,H.fresh,H.step⟩
theorem bE.grown {X:Array Obj}(T:bE ρ h w ρ' h' w₁)(hh:w'.heap=w₁.heap++X)(h1:w'.os=w₁.os)(h2:w'.tape=w₁.tape)(h3:w'.output=w₁.output):bE ρ h w ρ' h' w' :=
 ⟨T.le,h1.trans T.os,h2.trans T.tape,h3.trans T.output,by rw[hh];have:=T.size;simp;omega,T.own,fun k hk hno=>by
  have:=T.keep k hk hno
  rw[hh,Array.getElem?_append_left (by have:=T.size;omega)];exact this,T.new,T.next,T.steps⟩
variable{α:Type}
theorem yp [Inhabited α](enc:α->Value)(b off:Nat)(d:Array α)(C:Array Value)(e:TypeId)(f:Nat×Nat)(hb:w.heap[b]?=some (.cells C e f)):(Sort.putRow enc w b off d).heap=(w.setRow b (Sort.putCells enc off d C)).heap:=by
 apply Array.ext_getElem?
 intro k
 simp only[Sort.putRow,Sort.mapBlock,World.setRow,Array.getElem?_modify]
 by_cases hk:b=k
 ·subst hk
  simp only[if_true,hb,Option.map_some,Sort.onCells]
 simp only[if_neg hk]
end
end Go.Am
namespace Go.Proofs.YtoaojmobnbbnmaaGreat
open Go.Am
def srt(zs:List Int):List Int:=zs.mergeSort fun x y=>decide (x<=y)
theorem vN(zs:List Int):(srt zs).length=zs.length:=List.length_mergeSort zs
variable{L:RL}{r n:Nat}
theorem I4 {zs:List Int}(hn:zs.length=n)(hb:n<=1000000):CS Tryz.prog 197 [.slice (some ⟨r,0,none⟩) n ae] ((r,.cells 3 (bx zs))::L) fun v L'=>v=.tuple #[]/\L'=(r,.cells 3 (bx (srt zs)))::L:=by
 intro h H
 have hg:h.get r=some (.cells 3 (bx zs)):=H.get (r,_) (List.mem_cons_self ..)
 refine⟨⟨_,_,Tryz.func197,rfl⟩,fun ρ us w hus HR=>?_⟩
 cases hus with
 | cons h1 h2 =>
 cases h2
 cases h1 with
 | @slice _ _ _ _ cap' ad hl hc ha =>
 subst hn
 by_cases h0:zs.length=0
 ·have hz:zs=[]:=List.eq_nil_of_length_eq_zero h0
  subst hz
  refine (Any.slices_Sort_int_none cm (some ad) cap' w).mono ?_
  rintro en w' ⟨rfl,rfl⟩
  exact⟨.tuple #[],h,.tuple #[],ρ,rfl,⟨_,⟨rfl,by rw[show srt []=[] by unfold srt;simp]⟩,H⟩,.tuple .nil,HR,bE.refl _ _ _⟩
 have hg':bm h r=some (3,bx zs):=by unfold bm;rw[hg]
 obtain⟨l,C,f,hlr,hblk,hf,q1,q2,q3⟩:=HR.at_plain hg' (by kernel_rfl)
 obtain⟨l',C',f',hlr',hblk',_,_,_,_,rel⟩:=HR.at_cells hg'
 rw[hlr]at hlr';simp only[Option.some.injEq]at hlr';subst hlr'
 rw[hblk]at hblk';simp only[Option.some.injEq,Obj.cells.injEq,true_and]at hblk';obtain⟨rfl,rfl⟩:=hblk'
 obtain⟨l₁,e1,e2,_⟩:=ha (by omega)
 rw[hlr]at e1;simp only[Option.some.injEq]at e1;subst e1;subst e2
 rw[Nat.add_zero]
 have hlen:(bx zs).length=zs.length:=by simp[bx]
 have hcell:∀ j (hj:j<zs.length),C[l.base+j]?=some (.int .i64 zs[j]):=fun j hj=>by
  obtain⟨u,hu,hv⟩:=rel j _ (iY hj)
  cases hv;exact hu
 have hH:Sort.Holds (Value.int .i64) w l.block l.base zs.toArray:=fun j hj=>by
  have hj':j<zs.length:=by simpa using hj
  refine⟨?_,iw hblk hf⟩
  rw[getElem!_pos zs.toArray j hj]
  simp only[World.cell?,hblk,List.getElem_toArray]
  exact hcell j hj'
 refine (Any.slices_Sort_int cm l.block l.base cap' zs w hH (Array.getElem?_eq_some_iff.1 hblk).1 (by omega)).mono ?_
 rintro en w' ⟨rfl,k,X,rfl⟩
 obtain⟨h₁,e₁⟩:=h.put_some r (some (.cells 3 (bx (srt zs))))
 have hd:(srt zs).toArray.size=zs.length:=by simp[vN]
 have hC:(Sort.putCells (Value.int .i64) l.base (srt zs).toArray C).size=C.size:=by simp[Sort.putCells]
 obtain⟨A1,A2⟩:=HR.write (C':=Sort.putCells (Value.int .i64) l.base (srt zs).toArray C) hg' hlr hblk e₁ hC (by simp[bx,vN]) (fun i v hv=>by
  have hi:i<(srt zs).length:=by have:=(List.getElem?_eq_some_iff.1 hv).1;simpa[bx] using this
  rw[iY hi]at hv
  simp only[Option.some.injEq]at hv;subst hv
  have hi':i<zs.length:=by rw[←vN];exact hi
  have hlt:l.base+i<C.size:=by rw[hlen]at q1;omega
  refine⟨.int .i64 (srt zs)[i],?_,.int _ _⟩
  simp only[Sort.putCells,Array.getElem?_mapIdx,Array.getElem?_eq_getElem hlt,Option.map_some]
  rw[if_pos ⟨by omega,by omega⟩,show l.base+i-l.base=i by omega,getElem!_pos (srt zs).toArray i (by simpa using hi)]
  simp)
 have hheap:(Sort.grow (Sort.putRow (Value.int .i64) (Sort.ahead w k) l.block l.base (srt zs).toArray) X).heap=(w.setRow l.block (Sort.putCells (Value.int .i64) l.base (srt zs).toArray C)).heap++X:=by
  show (Sort.putRow (Value.int .i64) (Sort.ahead w k) l.block l.base (srt zs).toArray).heap++X=_
  rw[yp (w:=Sort.ahead w k) (Value.int .i64) l.block l.base (srt zs).toArray C _ f hblk]
  rfl
 exact⟨.tuple #[],h₁,.tuple #[],ρ,rfl,⟨_,⟨rfl,rfl⟩,H.put (i:=0) rfl e₁⟩,.tuple .nil,A1.grown hheap,A2.grown hheap rfl rfl rfl⟩
end Go.Proofs.YtoaojmobnbbnmaaGreat
end
section
namespace Go.Am
variable{α:Type}
theorem dY [DecidableEq α]:∀ {A B:List α},A.Nodup->(∀ x,x∈A->x∈B)->A.length<=B.length
 | [],B,_,_=>Nat.zero_le _
 | x::A,B,hn,hs=>by
  rw[List.nodup_cons]at hn
  have hx:x∈B:=hs x (List.mem_cons_self ..)
  have h1:=dY (A:=A) (B:=B.erase x) hn.2 (fun y hy=>(List.mem_erase_of_ne (fun hh=>hn.1 (by rw[←hh];exact hy))).2 (hs y (List.mem_cons_of_mem _ hy)))
  rw[List.length_erase_of_mem hx]at h1
  have:0<B.length:=List.length_pos_of_mem hx
  simp only[List.length_cons];omega
theorem yv [DecidableEq α]{A B:List α}(hA:A.Nodup)(hB:B.Nodup)(h:∀ x,x∈A↔x∈B):A.length=B.length :=
 Nat.le_antisymm (dY hA fun x=>(h x).1) (dY hB fun x=>(h x).2)
abbrev E3:=Nat×Value×Nat
def nj(p:E3):MapEntry:=⟨.int .i64 (p.1:Int),p.2.1,p.2.2⟩
structure MD(D:List E3)(ck:Nat)(g:Nat->Option Value):Prop where
 nk:(D.map (·.1)).Nodup
 nb:(D.map (·.2.2)).Nodup
 lt:∀ p,p∈D->p.2.2<ck
 is:∀ k v,g k=some v↔∃ b,(k,v,b)∈D
def MP(es:List MapEntry)(ck:Nat)(g:Nat->Option Value):Prop:=∃ D,es=D.map nj/\MD D ck g
def ij(g:Nat->Option Value)(k:Nat)(v:Option Value):Nat->Option Value:=fun x=>if x=k then v else g x
theorem MP.new:MP [] 0 (fun _=>none):=⟨[],rfl,List.nodup_nil,List.nodup_nil,fun _ h=>(by cases h),fun k v=>⟨fun h=>(by cases h),fun ⟨b,h⟩=>(by cases h)⟩⟩
theorem MD.no {D:List E3}{ck k:Nat}{g:Nat->Option Value}(h:MD D ck g)(hg:g k=none):∀ p,p∈D->p.1≠k:=fun p hp hk=>by
 have:=(h.is k p.2.1).2 ⟨p.2.2,by rw[←hk];exact hp⟩
 rw[hg]at this;cases this
theorem EP(a b:Nat):dc (.int .i64 (a:Int)) (.int .i64 (b:Int))=some (decide (a=b)):=by
 simp only[dc,if_true,aC]
 congr 1
 rw[Bool.eq_iff_iff]
 simp
 omega
variable{k:Nat}
theorem ku:∀ {D:List E3} {i:Nat},(∀ p,p∈D->p.1≠k)->b7 (.int .i64 (k:Int)) (D.map nj) i=some none
 | [],i,_=>rfl
 | p::D,i,h=>by
  have hp:k≠p.1:=fun hh=>h p (List.mem_cons_self ..) hh.symm
  simp only[List.map_cons,b7,nj,EP,decide_eq_false hp]
  exact ku (i:=i+1) fun q hq=>h q (List.mem_cons_of_mem _ hq)
variable{v:Value}{b:Nat}
theorem kw:∀ {D:List E3} {i j:Nat},(D.map (·.1)).Nodup->D[j]?=some (k,v,b)->b7 (.int .i64 (k:Int)) (D.map nj) i=some (some (i+j,v))
 | [],i,j,_,h=>by simp at h
 | p::D,i,0,_,h=>by
  simp only[List.getElem?_cons_zero,Option.some.injEq]at h
  subst h
  simp[b7,nj,EP]
 | p::D,i,j+1,hn,h=>by
  simp only[List.getElem?_cons_succ]at h
  rw[List.map_cons,List.nodup_cons]at hn
  have hp:k≠p.1:=fun hh=>hn.1 (by rw[←hh];exact List.mem_map.2 ⟨_,List.mem_of_getElem? h,rfl⟩)
  simp only[List.map_cons,b7,nj,EP,decide_eq_false hp]
  have:=kw (i:=i+1) hn.2 h
  rw[this];congr 3;omega
theorem vQ {u:Value}{b:Nat}:∀ {D:List E3} {j:Nat},D[j]?=some (k,u,b)->mK (.int .i64 (k:Int)) v (D.map nj) j=(D.set j (k,v,b)).map nj
 | [],j,h=>by simp at h
 | p::D,0,h=>by
  simp only[List.getElem?_cons_zero,Option.some.injEq]at h
  subst h
  rfl
 | p::D,j+1,h=>by
  simp only[List.getElem?_cons_succ]at h
  simp only[List.map_cons,mK,List.set_cons_succ,vQ h]
theorem xe {e:MapEntry}:∀ {es:List MapEntry},pM e es=es++[e]
 | []=>rfl
 | x::es=>by simp only[pM,xe,List.cons_append]
theorem ie {β:Type}{f:α->β}:∀ {l:List α} {i:Nat},(l.map f).eraseIdx i=(l.eraseIdx i).map f
 | [],i=>by simp
 | x::l,0=>rfl
 | x::l,i+1=>by simp only[List.map_cons,List.eraseIdx_cons_succ,ie]
theorem zw:∀ {es:List MapEntry} {j:Nat},dS es j=es.eraseIdx j
 | [],j=>by simp[dS]
 | x::es,0=>rfl
 | x::es,j+1=>by simp only[dS,List.eraseIdx_cons_succ,zw]
theorem MD.at {D:List E3}{ck k:Nat}{v:Value}{g:Nat->Option Value}(h:MD D ck g)(hg:g k=some v):∃ (j b:Nat),D[j]?=some (k,v,b):=by
 obtain⟨b,hb⟩:=(h.is k v).1 hg
 obtain⟨j,hj⟩:=List.mem_iff_getElem?.1 hb
 exact⟨j,b,hj⟩
theorem MD.same {D:List E3}{ck i j:Nat}{g:Nat->Option Value}{p q:E3}(h:MD D ck g)(hi:D[i]?=some p)(hj:D[j]?=some q)(hk:p.1=q.1):i=j:=by
 have h1:(D.map (·.1))[i]?=some p.1:=by simp[hi]
 have h2:(D.map (·.1))[j]?=some p.1:=by simp[hj,hk]
 exact (List.getElem?_inj (List.getElem?_eq_some_iff.1 h1).1 h.nk).1 (h1.trans h2.symm)
theorem nU {α β:Type}{f:α->β}{l:List α}{j:Nat}{x y:α}(h:l[j]?=some y)(he:f x=f y):(l.set j x).map f=l.map f:=by
 apply List.ext_getElem?
 intro i
 rw[List.getElem?_map,List.getElem?_set,List.getElem?_map]
 by_cases hi:j=i
 ·subst hi
  rw[if_pos rfl,if_pos (List.getElem?_eq_some_iff.1 h).1,h]
  simp[he]
 rw[if_neg hi]
theorem MD.set {D:List E3}{ck j k b:Nat}{u v:Value}{g:Nat->Option Value}(h:MD D ck g)(hj:D[j]?=some (k,u,b)):MD (D.set j (k,v,b)) ck (ij g k (some v)):=by
 have hlt:=(List.getElem?_eq_some_iff.1 hj).1
 refine⟨by rw[nU (x:=(k,v,b)) hj rfl];exact h.nk,by rw[nU (x:=(k,v,b)) hj rfl];exact h.nb,fun p hp=>?_,fun x y=>?_⟩
 ·rcases List.mem_or_eq_of_mem_set hp with hp|rfl
  ·exact h.lt p hp
  exact h.lt (k,u,b) (List.mem_of_getElem? hj)
 unfold ij
 by_cases hx:x=k
 ·subst hx
  rw[if_pos rfl]
  constructor
  ·intro hh;cases hh
   exact⟨b,List.mem_iff_getElem?.2 ⟨j,by rw[List.getElem?_set,if_pos rfl,if_pos hlt]⟩⟩
  rintro ⟨b',hb'⟩
  obtain⟨i,hi⟩:=List.mem_iff_getElem?.1 hb'
  rw[List.getElem?_set]at hi
  by_cases hij:j=i
  ·rw[if_pos hij,if_pos hlt]at hi
   simp only[Option.some.injEq,Prod.mk.injEq]at hi
   rw[hi.2.1]
  rw[if_neg hij]at hi
  exact absurd (h.same hj hi rfl) hij
 rw[if_neg hx,h.is]
 constructor
 ·rintro ⟨b',hb'⟩
  obtain⟨i,hi⟩:=List.mem_iff_getElem?.1 hb'
  refine⟨b',List.mem_iff_getElem?.2 ⟨i,?_⟩⟩
  rw[List.getElem?_set,if_neg (fun hij=>?_)]
  ·exact hi
  subst hij
  rw[hj]at hi
  simp only[Option.some.injEq,Prod.mk.injEq]at hi
  exact hx hi.1.symm
 rintro ⟨b',hb'⟩
 rcases List.mem_or_eq_of_mem_set hb' with hb'|hb'
 ·exact⟨b',hb'⟩
 simp only[Prod.mk.injEq]at hb'
 exact absurd hb'.1 hx
theorem MD.add {D:List E3}{ck k:Nat}{v:Value}{g:Nat->Option Value}(h:MD D ck g)(hg:g k=none):MD (D++[(k,v,ck)]) (ck+1) (ij g k (some v)):=by
 have hno:=h.no hg
 refine⟨?_,?_,fun p hp=>?_,fun x y=>?_⟩
 ·rw[List.map_append,List.nodup_append]
  refine⟨h.nk,by simp,fun a ha b hb=>?_⟩
  obtain⟨p,hp,rfl⟩:=List.mem_map.1 ha
  simp only[List.map_cons,List.map_nil,List.mem_singleton]at hb
  subst hb
  exact hno p hp
 ·rw[List.map_append,List.nodup_append]
  refine⟨h.nb,by simp,fun a ha b hb=>?_⟩
  obtain⟨p,hp,rfl⟩:=List.mem_map.1 ha
  simp only[List.map_cons,List.map_nil,List.mem_singleton]at hb
  subst hb
  have:=h.lt p hp
  omega
 ·rcases List.mem_append.1 hp with hp|hp
  ·have:=h.lt p hp;omega
  simp only[List.mem_singleton]at hp;subst hp;simp
 unfold ij
 by_cases hx:x=k
 ·subst hx
  rw[if_pos rfl]
  constructor
  ·intro hh;cases hh;exact⟨ck,by simp⟩
  rintro ⟨b,hb⟩
  rcases List.mem_append.1 hb with hb|hb
  ·exact absurd rfl (hno _ hb)
  simp only[List.mem_singleton,Prod.mk.injEq]at hb;rw[hb.2.1]
 rw[if_neg hx,h.is]
 constructor
 ·rintro ⟨b,hb⟩;exact⟨b,List.mem_append_left _ hb⟩
 rintro ⟨b,hb⟩
 rcases List.mem_append.1 hb with hb|hb
 ·exact⟨b,hb⟩
 simp only[List.mem_singleton,Prod.mk.injEq]at hb;exact absurd hb.1 hx
theorem MD.drop {D:List E3}{ck j k b:Nat}{u:Value}{g:Nat->Option Value}(h:MD D ck g)(hj:D[j]?=some (k,u,b)):MD (D.eraseIdx j) ck (ij g k none):=by
 refine⟨h.nk.sublist ((List.eraseIdx_sublist ..).map _),h.nb.sublist ((List.eraseIdx_sublist ..).map _),fun p hp=>h.lt p (List.mem_of_mem_eraseIdx hp),fun x y=>?_⟩
 unfold ij
 by_cases hx:x=k
 ·subst hx
  rw[if_pos rfl]
  constructor
  ·intro hh;cases hh
  rintro ⟨b',hb'⟩
  rw[List.mem_eraseIdx_iff_getElem?]at hb'
  obtain⟨i,hij,hi⟩:=hb'
  exact absurd (h.same hi hj rfl) hij
 rw[if_neg hx,h.is]
 constructor
 ·rintro ⟨b',hb'⟩
  obtain⟨i,hi⟩:=List.mem_iff_getElem?.1 hb'
  refine⟨b',?_⟩
  rw[List.mem_eraseIdx_iff_getElem?]
  refine⟨i,fun hij=>?_,hi⟩
  subst hij
  rw[hj]at hi
  simp only[Option.some.injEq,Prod.mk.injEq]at hi
  exact hx hi.1.symm
 rintro ⟨b',hb'⟩;exact⟨b',List.mem_of_mem_eraseIdx hb'⟩
variable{g:Nat->Option Value}
theorem CW (h:g k=none):ij g k none=g:=by
 funext x;unfold ij;split
 ·subst_vars;exact h.symm
 rfl
variable{es:List MapEntry}{ck:Nat}
theorem MP.card {A:List Nat}(h:MP es ck g)(hA:A.Nodup)(hm:∀ k,k∈A↔g k≠none):es.length=A.length:=by
 obtain⟨D,rfl,hD⟩:=h
 rw[show (D.map nj).length=(D.map (·.1)).length by simp]
 refine yv hD.nk hA fun k=>?_
 rw[hm]
 constructor
 ·intro hk
  obtain⟨p,hp,rfl⟩:=List.mem_map.1 hk
  rw[(hD.is p.1 p.2.1).2 ⟨p.2.2,hp⟩];simp
 intro hk
 cases hg:g k with
 | none=>exact absurd hg hk
 | some v =>
  obtain⟨b,hb⟩:=(hD.is k v).1 hg
  exact List.mem_map.2 ⟨_,hb,rfl⟩
section
variable{P:Program}{o:Oper}{a:ah}{L:RL}{x y z:Operand}{t kt et:TypeId}{r ck k:Nat}{es:List MapEntry}{g:Nat->Option Value}
theorem cb(hM:MP es ck g)(hm:(r,.map es ck)∈L)(ho:o.op=.lookup t x y false)(hx:aX a x=some (.map (some r)))(hy:aX a y=some (.int .i64 (k:Nat)))(ht:P.underlying t=some (.map kt et))(hk:∀ n:Int,eE P kt (.int .i64 n)=true)(hz:mD P et=some (.pointer none)) :
  ∀ h,bp h L->aI P a o h=some (.val ((g k).getD (.pointer none)) h):=by
 intro h H
 obtain⟨D,rfl,hD⟩:=hM
 have hg:h.get r=some (.map (D.map nj) ck):=H.get _ hm
 have e:fI P t (.map (some r)) (.int .i64 (k:Nat)) false h=some ((g k).getD (.pointer none)):=by
  unfold fI fK
  simp only[ht,hk,hg]
  cases hgk:g k with
  | none=>rw[ku (hD.no hgk)];simp only[hz];rfl
  | some v =>
   obtain⟨j,b,hj⟩:=hD.at hgk
   rw[kw hD.nk hj];rfl
 simp only[aI,ho,hx,hy,e,ret]
theorem Kg(hM:MP es ck g)(hm:(r,.map es ck)∈L)(ho:o.op=.lookup t x y true)(hx:aX a x=some (.map (some r)))(hy:aX a y=some (.int .i64 (k:Nat)))(ht:P.underlying t=some (.map kt et))(hk:∀ n:Int,eE P kt (.int .i64 n)=true)(hz:mD P et=some (.pointer none)) :
  ∀ h,bp h L->aI P a o h=some (.val (.tuple #[(g k).getD (.pointer none),.bool (g k).isSome]) h):=by
 intro h H
 obtain⟨D,rfl,hD⟩:=hM
 have hg:h.get r=some (.map (D.map nj) ck):=H.get _ hm
 have e:fI P t (.map (some r)) (.int .i64 (k:Nat)) true h=some (.tuple #[(g k).getD (.pointer none),.bool (g k).isSome]):=by
  unfold fI fK
  simp only[ht,hk,hg]
  cases hgk:g k with
  | none=>rw[ku (hD.no hgk)];simp only[hz];rfl
  | some v =>
   obtain⟨j,b,hj⟩:=hD.at hgk
   rw[kw hD.nk hj];rfl
 simp only[aI,ho,hx,hy,e,ret]
theorem Ke {c:Call}{tm:TypeId}(hm:(r,.map es ck)∈L)(ho:o.op=.call c)(hc:c.callee=.builtin .len)(ha:ky a c.args.toList=some [.map (some r)])(ht:c.argTypes[0]?=some tm)(hu:P.underlying tm=some (.map kt et)) :
  ∀ h,bp h L->aI P a o h=some (.val (.int .i64 (es.length:Nat)) h):=by
 intro h H
 have hg:h.get r=some (.map es ck):=H.get _ hm
 simp only[aI,ho,ha,bB,hc,sc,qu,fK,ht,hu,hg,ret,goInt]
variable{ops rest:List Oper}{K:ah->RL->Prop}{a₁:ah}
theorem OS.mapPut (i:Nat){v:Value}(hM:MP es ck g)(hw:aw ops o a=true)(ho:o.op=.mapUpdate t x y z)(hx:aX a x=some (.map (some r)))(hy:aX a y=some (.int .i64 (k:Nat)))(hz:aX a z=some v)(ht:P.underlying t=some (.map kt et))(hk:∀ n:Int,eE P kt (.int .i64 n)=true)
  (hL:L[i]?=some (r,.map es ck)) (ep:aH a o.dst undef=some a₁) (hk2:∀ es' ck',MP es' ck' (ij g k (some v))->∃ L₁,jx L i (r,.map es' ck')=some L₁/\OS P ops rest a₁ L₁ K):OS P ops (o::rest) a L K:=by
 obtain⟨D,rfl,hD⟩:=hM
 cases hgk:g k with
 | none =>
  obtain⟨L₁,hs,k2⟩:=hk2 ((D++[(k,v,ck)]).map nj) (ck+1) ⟨_,rfl,hD.add hgk⟩
  refine OS.write hw (fo i ho hx hy hz ht (hk _) hL ?_ hs) ep k2
  rw[ku (hD.no hgk),xe,List.map_append];rfl
 | some u =>
  obtain⟨j,b,hj⟩:=hD.at hgk
  obtain⟨L₁,hs,k2⟩:=hk2 ((D.set j (k,v,b)).map nj) ck ⟨_,rfl,hD.set hj⟩
  refine OS.write hw (fo i ho hx hy hz ht (hk _) hL ?_ hs) ep k2
  rw[kw (i:=0) hD.nk hj,Nat.zero_add]
  simp only[vQ hj]
theorem OS.mapDel (i:Nat){c:Call}{tm:TypeId}(hM:MP es ck g)(hw:aw ops o a=true)(ho:o.op=.call c)(hc:c.callee=.builtin .delete)(ha:ky a c.args.toList=some [.map (some r),.int .i64 (k:Nat)])(ht:c.argTypes[0]?=some tm)(hu:P.underlying tm=some (.map kt et))(hk:∀ n:Int,eE P kt (.int .i64 n)=true)
  (hL:L[i]?=some (r,.map es ck)) (ep:aH a o.dst (.tuple #[])=some a₁) (hk2:∀ es',MP es' ck (ij g k none)->∃ L₁,jx L i (r,.map es' ck)=some L₁/\OS P ops rest a₁ L₁ K):OS P ops (o::rest) a L K:=by
 obtain⟨D,rfl,hD⟩:=hM
 cases hgk:g k with
 | none =>
  obtain⟨L₁,hs,k2⟩:=hk2 (D.map nj) ⟨_,rfl,by rw[CW hgk];exact hD⟩
  refine OS.write hw (zt i ho hc ha ht hu (hk _) hL ?_ hs) ep k2
  rw[ku (hD.no hgk)]
 | some u =>
  obtain⟨j,b,hj⟩:=hD.at hgk
  obtain⟨L₁,hs,k2⟩:=hk2 ((D.eraseIdx j).map nj) ⟨_,rfl,hD.drop hj⟩
  refine OS.write hw (zt i ho hc ha ht hu (hk _) hL ?_ hs) ep k2
  rw[kw (i:=0) hD.nk hj,Nat.zero_add]
  simp only[zw,ie]
end
end Go.Am
end
section
namespace Go.Am
section
variable{P:Program}{o:Oper}{a:ah}{L L₁:RL}{x y z:Operand}{t:TypeId}
variable{r clock:Nat}{es:List MapEntry}{kt:TypeId}
theorem zq {et:TypeId}(hm:(r,.map es clock)∈L)(ho:o.op=.range t x)(hx:aX a x=some (.map (some r)))(ht:P.underlying t=some (.map kt et)) :
  ∀ h,bp h L->∃ q h₁,aI P a o h=some (.val (.pointer (some ⟨q,0,none⟩)) h₁)/\bp h₁ ((q,.iter r clock [] clock)::L):=by
 intro h H
 obtain⟨h₁,e₁⟩:=h.new_some (.iter r clock [] clock)
 refine⟨h.next,h₁,?_,H.new e₁⟩
 have hg:h.get r=some (.map es clock):=H.get _ hm
 simp only[aI,ho,hx,we,ht,hg,e₁,fG,nJ]
theorem zr(i:Nat){r m since clock n:Nat}{seen:List Nat}{es:List MapEntry}{e:MapEntry}(hm:(m,.map es clock)∈L)(ho:o.op=.entry x)(hx:aX a x=some (.pointer (some ⟨r,0,none⟩)))(hL:L[i]?=some (r,.iter m since (seen++[n]) clock))(hb:oB n es=some e) :
  ∀ h,bp h L->aI P a o h=some (.val (.tuple #[e.key,e.val]) h):=by
 intro h H
 have h1:=H.at hL
 have h2:h.get m=some (.map es clock):=H.get _ hm
 have h3:yK (seen++[n])=some n:=by rw[se];simp
 have h4:Nat.beq clock clock=true:=bo rfl
 simp only[aI,ho,hx,wU,h1,h2,h3,h4,hb,ret]
variable{ops rest:List Oper}{K:ah->RL->Prop}
theorem OS.nextm (i:Nat){r m since last clock:Nat}{seen:List Nat}{es:List MapEntry}(hM:(m,.map es clock)∈L)(hw:aw ops o a=true)(ho:o.op=.next x false)(hx:aX a x=some (.pointer (some ⟨r,0,none⟩)))
  (hL:L[i]?=some (r,.iter m since seen last)) (hold:∀ e∈es,e.born<since) (hsl:since<=last)
  (kdone:(∀ e∈es,e.born∈seen)->∃ a₁,aH a o.dst (.tuple #[.bool false])=some a₁/\OS P ops rest a₁ L K)
  (kstep:∀ e∈es,e.born ∉ seen->∃ a₁,aH a o.dst (.tuple #[.bool true,e.key,e.val])=some a₁/\∃ L₁,jx L i (r,.iter m since (seen++[e.born]) clock)=some L₁/\OS P ops rest a₁ L₁ K):OS P ops (o::rest) a L K:=fun h H =>
 OQ.next hw ho hx (H.at hL) (H.get _ hM) hold hsl (fun hd=>let ⟨a₁,e,k⟩:=kdone hd;⟨a₁,e,k h H⟩) (fun e he hn=>by
  obtain⟨a₁,ep,L₁,hs,k⟩:=kstep e he hn
  obtain⟨h₁,e₁⟩:=h.put_some r (some (.iter m since (seen++[e.born]) clock))
  have:=eN hs
  subst this
  exact⟨a₁,h₁,ep,e₁,k h₁ (H.put hL e₁)⟩)
theorem zF:∀ {es:List MapEntry} {e:MapEntry},(∀ (i j:Nat) (e e':MapEntry),es[i]?=some e->es[j]?=some e'->e.born=e'.born->i=j)->e∈es->oB e.born es=some e
 | [],e,_,he=>by cases he
 | x::es,e,hu,he=>by
  simp only[oB]
  cases hb:Nat.beq x.born e.born with
  | true =>
   have hb:=be hb
   obtain⟨j,hj,hje⟩:=List.getElem_of_mem he
   have:=hu 0 j x e rfl (by rw[List.getElem?_eq_getElem hj,hje]) hb
   subst this
   simp at hje
   simp[hje]
  | false =>
   rcases List.mem_cons.1 he with rfl|he
   ·rw[bo rfl]at hb;cases hb
   exact zF (fun i j e e' h1 h2 h3=>by have:=hu (i+1) (j+1) e e' (by simpa using h1) (by simpa using h2) h3;omega) he
end
variable{α:Type}
theorem lX {β:Type}{f:α->β}:∀ {l:List α},(l.map f).Nodup->∀ {x y:α},x∈l->y∈l->f x=f y->x=y
 | [],_,x,_,hx,_,_=>by cases hx
 | a::l,hn,x,y,hx,hy,he=>by
  rw[List.map_cons,List.nodup_cons]at hn
  rcases List.mem_cons.1 hx with h1|h1
  ·rcases List.mem_cons.1 hy with h2|h2
   ·rw[h1,h2]
   subst h1;exact absurd (List.mem_map.2 ⟨y,h2,he.symm⟩) hn.1
  rcases List.mem_cons.1 hy with h2|h2
  ·subst h2;exact absurd (List.mem_map.2 ⟨x,h1,he⟩) hn.1
  exact lX hn.2 h1 h2 he
theorem CC {D:List E3}(hb:(D.map (·.2.2)).Nodup){p:E3}(hp:p∈D):oB p.2.2 (D.map nj)=some (nj p):=by
 refine zF (e:=nj p) (fun i j e e' h1 h2 h3=>?_) (List.mem_map.2 ⟨p,hp,rfl⟩)
 rw[List.getElem?_map]at h1 h2
 have h4:(D.map (·.2.2))[i]?=some e.born:=by
  rw[List.getElem?_map]
  cases hd:D[i]? with
  | none=>rw[hd]at h1;cases h1
  | some q=>rw[hd]at h1;simp only[Option.map_some,Option.some.injEq]at h1 ⊢;rw[←h1];rfl
 have h5:(D.map (·.2.2))[j]?=some e.born:=by
  rw[List.getElem?_map,h3]
  cases hd:D[j]? with
  | none=>rw[hd]at h2;cases h2
  | some q=>rw[hd]at h2;simp only[Option.map_some,Option.some.injEq]at h2 ⊢;rw[←h2];rfl
 exact (List.getElem?_inj (List.getElem?_eq_some_iff.1 h4).1 hb).1 (h4.trans h5.symm)
end Go.Am
namespace Go.Proofs.YtoaojmobnbbnmaaGreat
open Go.Am
abbrev eA(rm:Nat):aG:=.cells 148 [.map (some rm)]
variable{L:RL}{rm:Nat}
theorem Jb:CS Tryz.prog 155 [.map (some rm)] L fun u L'=>∃ rb,u=.func (.func 198) #[] #[ptr rb]/\L'=(rb,eA rm)::L:=by
 refine yF Tryz.f155 ?_
 refine yX 1 ?_
 refine yN fun rb=>?_
 refine yX 7 ?_
 exact⟨rb,rfl,rfl⟩
variable{rb r ck:Nat}{es:List MapEntry}{g:Nat->Option Value}{G:RL}
theorem Hg (hM:MP es ck g)(J:List Nat->RL->Prop)(hr:∀ ks G,J ks G->∃ p,(r,.loop p)∈G)(h0:J [] G)
  (hyes:∀ ks k G X,J ks G->g k≠none->k ∉ ks->ks.Nodup->(∀ k,k∈ks->g k≠none)->YS Tryz.prog r [.int .i64 (k:Nat)] (G++X) fun v L'=>∃ G',v=.bool true/\L'=G'++X/\J (ks++[k]) G') :
  CS Tryz.prog 198 [.func (.yield r) #[] #[],ptr rb] ((rb,eA rm)::(rm,.map es ck)::G) fun v L'=>∃ ks G',J ks G'/\ks.Nodup/\(∀ k,k∈ks↔g k≠none)/\L'=(rb,eA rm)::(rm,.map es ck)::G':=by
 obtain⟨D,rfl,hD⟩:=hM
 have hg:∀ k,g k≠none↔∃ p,p∈D/\p.1=k:=fun k=>by
  constructor
  ·intro hk
   cases hgk:g k with
   | none=>exact absurd hgk hk
   | some v=>obtain⟨b,hb⟩:=(hD.is k v).1 hgk;exact⟨_,hb,rfl⟩
  rintro ⟨p,hp,rfl⟩
  rw[(hD.is p.1 p.2.1).2 ⟨p.2.2,hp⟩];simp
 refine yF Tryz.f198 ?_
 refine yX 2 ?_
 refine yM ((zq (List.mem_cons_of_mem _ (List.mem_cons_self ..)) rfl rfl rfl)) fun q=>?_
 refine yX 2 ?_
 refine LS.loopJ [0,1,5] (fun m a L'=>∃ ks sb last G',m=D.length-ks.length/\J ks G'/\ks.Nodup/\(∀ k,k∈ks->∃ p,p∈D/\p.1=k)/\(∀ p,p∈D->(p.2.2∈sb↔p.1∈ks))/\ck<=last /\
  L'=(q,.iter rm ck sb last)::(rb,eA rm)::(rm,.map (D.map nj) ck)::G'/\a=[.func (.yield r) #[] #[],ptr rb,yC,yC,yC,ptr q,yC,yC,yC,yC,yC,yC,yC,yC]) (n:=D.length) rfl ⟨[],[],ck,G,rfl,h0,List.nodup_nil,fun k hk=>(by cases hk),fun p hp=>by simp,Nat.le_refl _,rfl,rfl⟩ ?_
 rintro m a L' ⟨ks,sb,last,G1,rfl,hJ,hn,hin,hsb,hck,rfl,rfl⟩
 have hle:ks.length<=D.length:=by
  have:=dY (A:=ks) (B:=D.map (·.1)) hn (fun k hk=>let ⟨p,hp,he⟩:=hin k hk;List.mem_map.2 ⟨p,hp,he⟩)
  simpa using this
 refine yX 1 ?_
 refine OS.nextm 0 (List.mem_cons_of_mem _ (List.mem_cons_of_mem _ (List.mem_cons_self ..))) rfl rfl rfl rfl (fun e he=>?_) hck (fun hdone=>⟨_,rfl,?_⟩) (fun e he hnb=>?_)
 ·obtain⟨p,hp,rfl⟩:=List.mem_map.1 he
  exact hD.lt p hp
 ·refine yX 1 ?_
  refine OS.sub (ar.drop 0 rfl) ?_
  refine yX 2 ?_
  refine LS.exit ?_
  refine⟨_,fun _ _=>rfl,ks,G1,hJ,hn,fun k=>?_,rfl⟩
  rw[hg]
  exact⟨hin k,fun ⟨p,hp,hk⟩=>by rw[←hk];exact (hsb p hp).1 (hdone _ (List.mem_map.2 ⟨p,hp,rfl⟩))⟩
 obtain⟨p,hp,rfl⟩:=List.mem_map.1 he
 have hpk:p.1 ∉ ks:=fun hh=>hnb ((hsb p hp).2 hh)
 refine⟨_,rfl,_,rfl,?_⟩
 refine yV 2 ?_
 refine xC rfl ?_ ?_ <;> intro hc
 ·refine yX 3 ?_
  refine yR (zr 0 (e:=nj p) (List.mem_cons_of_mem _ (List.mem_cons_of_mem _ (List.mem_cons_self ..))) rfl rfl rfl (CC hD.nb hp)) ?_
  refine yX 3 ?_
  obtain⟨lp,hlp⟩:=hr ks G1 hJ
  refine yX 3 ?_
  refine OS.yield rfl rfl rfl rfl rfl ⟨lp,by simp[hlp]⟩ (YS.sub (L':=G1++[_,_,_]) (ar.rot (X:=[_,_,_])) ((hyes ks p.1 G1 [_,_,_] hJ ((hg _).2 ⟨p,hp,rfl⟩) hpk hn (fun k hk=>(hg k).2 (hin k hk))).mono ?_))
  rintro v L' ⟨G',rfl,rfl,hJ'⟩
  refine yX 1 ?_
  refine OS.sub (ar.rot (G:=[_,_,_]) (X:=G')) ?_
  refine yX 4 ?_
  have hn':(ks++[p.1]).Nodup:=by
   rw[List.nodup_append]
   exact⟨hn,by simp,fun a ha b hb=>by simp only[List.mem_singleton]at hb;subst hb;exact fun hh=>hpk (hh▸ha)⟩
  have hin':∀ k,k∈ks++[p.1]->∃ p,p∈D/\p.1=k:=fun k hk=>by
   rcases List.mem_append.1 hk with hk|hk
   ·exact hin k hk
   simp only[List.mem_singleton]at hk;exact⟨p,hp,hk.symm⟩
  have hle':(ks++[p.1]).length<=D.length:=by
   have:=dY (A:=ks++[p.1]) (B:=D.map (·.1)) hn' (fun k hk=>let ⟨p,hp,he⟩:=hin' k hk;List.mem_map.2 ⟨p,hp,he⟩)
   simpa using this
  simp only[List.length_append,List.length_singleton]at hle'
  refine⟨D.length-(ks++[p.1]).length,by simp only[List.length_append,List.length_singleton];omega,ks++[p.1],sb++[p.2.2],ck,G',rfl,hJ',hn',hin',fun p' hp'=>?_,Nat.le_refl _,rfl,rfl⟩
  simp only[List.mem_append,List.mem_singleton]
  rw[hsb p' hp']
  constructor
  ·rintro (h|h)
   ·exact .inl h
   exact .inr (by rw[lX hD.nb hp' hp h])
  rintro (h|h)
  ·exact .inl h
  exact .inr (by rw[lX hD.nk hp' hp h])
 cases hc
def Bi(g:Nat->Option Value)(l:List Nat):Prop:=l.Pairwise (·<·)/\∀ k,k∈l↔g k≠none
variable{F:RL}
theorem Bm {B:Nat}(hM:MP es ck g)(hB:∀ ks:List Nat,ks.Nodup->(∀ k,k∈ks->g k≠none)->ks.length<=B)(hB2:B<=1000000) :
  CS Tryz.prog 235 [.slice none 0 0,.func (.func 198) #[] #[ptr rb]] ((rb,eA rm)::(rm,.map es ck)::F) fun u L'=>∃ ks,ks.Nodup/\(∀ k,k∈ks↔g k≠none)/\(ks=[]->u=.slice none 0 0)/\GV 3 1 ((rb,eA rm)::(rm,.map es ck)::F) u ks.length (mg ks) L':=by
 refine yF Tryz.f235 ?_
 refine yX 1 ?_
 refine yN fun rl=>?_
 refine yX 6 ?_
 refine LS.rangeFunc noGo rfl (fun r=>?_)
 generalize hp0:LP.start _ _ _ _=p0
 refine CS.sub (ar.pulls [3,3] rfl) ?_
 refine (Hg (G:=(r,.loop p0)::(rl,.cells 41 [.slice none 0 0])::F) hM (fun ks G=>∃ lv Lx,G=(r,.loop p0)::(rl,.cells 41 [lv])::Lx/\(ks=[]->lv=.slice none 0 0)/\GV 3 1 F lv ks.length (mg ks) Lx)
  (fun k G ⟨lv,Lx,hG,_⟩=>⟨p0,by rw[hG];simp⟩) ⟨.slice none 0 0,F,rfl,fun _=>rfl,.nil⟩ ?_).mono ?_
 ·rintro ks k G X ⟨lv,Lx,rfl,hnl,hg⟩ hk hkn hnd hall
  have hl:=hB ks hnd hall
  have hgX:=hg.appendR X
  subst hp0
  refine YS.mk 0 rfl rfl rfl ?_
  refine yX 3 ?_
  refine⟨rfl,0,_,rfl,rfl,?_⟩
  refine yX 2 ?_
  refine yR (aA 1 rfl rfl rfl rfl (ap rfl rfl)) ?_
  refine yX 1 ?_
  refine yN fun rn=>?_
  refine yM (dz [_,_,_] (m:=1) (sz:=1) (bts:=8) hgX (SV.row (sz:=1) (n:=1) (List.mem_cons_self ..) rfl) (by omega) rfl rfl rfl rfl (by omega) (by omega)) fun r2=>?_
  refine yW (ax 3 (n:=1) (cs':=[.slice (some ⟨r2,0,none⟩) (ks.length+1) ae]) rfl rfl rfl rfl rfl rfl rfl rfl) ?_
  refine OS.sub (ar.drop 1 rfl) ?_
  refine OS.sub (ar.pulls [2,2] rfl) ?_
  refine xN ?_
  refine⟨0,_,rfl,rfl,(r,.loop _)::(rl,.cells 41 [.slice (some ⟨r2,0,none⟩) (ks.length+1) ae])::(r2,.cells 3 (mg (ks++[k])))::F,rfl,?_,_,(r2,.cells 3 (mg (ks++[k])))::F,rfl,fun hh=>by simp at hh,?_⟩
  ·rw[Dv];rfl
  rw[List.length_append]
  exact GV.of (by rw[y2];simp)
 rintro v L' ⟨ks,G',⟨lv,Lx,rfl,hnl,hg⟩,hnd,hks,rfl⟩
 refine⟨2,p0,_,rfl,rfl,by subst hp0;simp[LP.start],?_⟩
 have hpend:p0.pending=none:=by subst hp0;rfl
 rw[hpend]
 show jV _ _ _ _ _ _
 refine yX 1 ?_
 refine yR (aA 2 rfl rfl rfl rfl (ap rfl rfl)) ?_
 refine yX 1 ?_
 refine OS.sub (ar.drop 2 rfl) ?_
 refine xN ?_
 rcases hg with ⟨rfl,h0,h1,rfl⟩|⟨r2,rfl,hl,rfl⟩
 ·refine yX 1 ?_
  exact⟨ks,hnd,hks,fun _=>rfl,.inl ⟨rfl,h0,h1,rfl⟩⟩
 refine LS.sub (ar.pulls [2] rfl) ?_
 refine yX 1 ?_
 exact⟨ks,hnd,hks,hnl,.inr ⟨r2,rfl,hl,rfl⟩⟩
theorem Bf:CS Tryz.prog 197 [.slice none 0 0] L fun v L'=>v=.tuple #[]/\L'=L:=by
 intro h H
 refine⟨⟨_,_,Tryz.func197,rfl⟩,fun ρ us w hus HR=>?_⟩
 cases hus with
 | cons h1 h2 =>
 cases h2
 cases h1
 refine (Any.slices_Sort_int_none cm none 0 w).mono ?_
 rintro en w' ⟨rfl,rfl⟩
 exact⟨.tuple #[],h,.tuple #[],ρ,rfl,⟨_,⟨rfl,rfl⟩,H⟩,.tuple .nil,HR,bE.refl _ _ _⟩
theorem uM(l:List Nat):mg l=bx (l.map fun (k:Nat)=>(k:Int)):=by simp[mg,bx]
theorem D7 {B:Nat}(hM:MP es ck g)(hB:∀ ks:List Nat,ks.Nodup->(∀ k,k∈ks->g k≠none)->ks.length<=B)(hB2:B<=1000000) :
  CS Tryz.prog 154 [.func (.func 198) #[] #[ptr rb]] ((rb,eA rm)::(rm,.map es ck)::F) fun u L'=>∃ ks,Bi g ks/\(ks=[]->u=.slice none 0 0)/\GV 3 1 ((rb,eA rm)::(rm,.map es ck)::F) u ks.length (mg ks) L':=by
 have key:∀ ks:List Nat,ks.Nodup->(∀ k,k∈ks↔g k≠none)->∃ l,Bi g l/\l.length=ks.length/\mg l=bx (srt (ks.map fun (k:Nat)=>(k:Int))):=fun ks hnd hks=>by
  have hp:(srt (ks.map fun (k:Nat)=>(k:Int))).Perm (ks.map fun (k:Nat)=>(k:Int)):=List.mergeSort_perm _ _
  have hs:(srt (ks.map fun (k:Nat)=>(k:Int))).Pairwise (fun a b=>decide (a<=b)=true):=List.pairwise_mergeSort (le:=fun (x y:Int)=>decide (x<=y)) (fun a b c h1 h2=>by simp at h1 h2 ⊢;omega) (fun a b=>by simp;omega) _
  have hnn:∀ z∈srt (ks.map fun (k:Nat)=>(k:Int)),0<=z:=fun z hz=>by
   obtain⟨k,_,rfl⟩:=List.mem_map.1 (hp.mem_iff.1 hz)
   omega
  have hnd':(srt (ks.map fun (k:Nat)=>(k:Int))).Nodup:=hp.nodup_iff.2 (List.Pairwise.map _ (fun a b h hh=>h (Int.ofNat_inj.1 hh)) hnd)
  generalize srt (ks.map fun (k:Nat)=>(k:Int))=S at hp hs hnn hnd'
  have hST:S=(S.map Int.toNat).map fun (k:Nat)=>(k:Int):=by
   rw[List.map_map]
   conv=>lhs;rw[←List.map_id S]
   refine List.map_congr_left fun z hz=>?_
   have:=hnn z hz
   simp only[id,Function.comp];omega
  refine⟨S.map Int.toNat,⟨?_,fun k=>?_⟩,by have:=hp.length_eq;simpa using this,by rw[uM,←hST]⟩
  ·have h3:S.Pairwise (fun a b=>a<b):=(hs.and hnd').imp fun {a b} ⟨h1,h2⟩=>by simp at h1;omega
   rw[List.pairwise_map]
   refine (List.pairwise_iff_forall_sublist.2 fun {a b} hab=>?_)
   have h4:=List.pairwise_iff_forall_sublist.1 h3 hab
   have h5:=hnn a (hab.subset (by simp))
   have h6:=hnn b (hab.subset (by simp))
   omega
  rw[←hks]
  constructor
  ·intro hk
   obtain⟨z,hz,rfl⟩:=List.mem_map.1 hk
   obtain⟨m,hm,rfl⟩:=List.mem_map.1 (hp.mem_iff.1 hz)
   simpa using hm
  intro hk
  exact List.mem_map.2 ⟨(k:Int),hp.mem_iff.2 (List.mem_map.2 ⟨k,hk,rfl⟩),by simp⟩
 refine yF Tryz.f154 ?_
 refine yX 5 ?_
 refine xA noGo rfl (fun _=>rfl) ?_
 refine CS.mono (R:=fun u L'=>∃ ks,ks.Nodup/\(∀ k,k∈ks↔g k≠none)/\(ks=[]->u=.slice none 0 0)/\GV 3 1 ((rb,eA rm)::(rm,.map es ck)::F) u ks.length (mg ks) L') ?_ ?_
 ·refine yF Tryz.f196 ?_
  refine yX 5 ?_
  refine yA yH (Bm hM hB hB2) ?_
  rintro u L' ⟨ks,hnd,hks,hnl,hg⟩
  refine yX 4 ?_
  exact⟨ks,hnd,hks,hnl,hg⟩
 rintro u L' ⟨ks,hnd,hks,hnl,hg⟩
 refine yX 3 ?_
 obtain⟨l,hl,hll,hli⟩:=key ks hnd hks
 have hkb:=hB ks hnd (fun k hk=>(hks k).1 hk)
 rcases hg with ⟨rfl,h0,h1,rfl⟩|⟨r2,rfl,hlen,rfl⟩
 ·have hk0:ks=[]:=List.eq_nil_of_length_eq_zero h0
  subst hk0
  have hl0:l=[]:=List.eq_nil_of_length_eq_zero hll
  subst hl0
  refine yX 2 ?_
  refine yA yH Bf ?_
  rintro v L' ⟨rfl,rfl⟩
  refine yX 7 ?_
  exact⟨[],hl,fun _=>rfl,.inl ⟨rfl,rfl,rfl,rfl⟩⟩
 refine yX 2 ?_
 rw[uM]
 refine yA yH (I4 (n:=ks.length) (zs:=ks.map fun (k:Nat)=>(k:Int)) (by simp) (by omega)) ?_
 rintro v L' ⟨rfl,rfl⟩
 rw[←hli]
 refine yX 7 ?_
 exact⟨l,hl,fun hh=>hnl (List.eq_nil_of_length_eq_zero (by rw[←hll,hh];rfl)),.inr ⟨r2,by rw[hll];rfl,by rw[y2];omega,rfl⟩⟩
end Go.Proofs.YtoaojmobnbbnmaaGreat
end
section
namespace Go.Am
variable{P:Program}{ops:List Oper}{ms:List Nat}{K:ah->RL->Prop}{sched:List (Nat×Bool)}{dn:Dn}{a:ah}{L:RL}
theorem ba.sub {L₁:RL}(s:ar L₁ L)(k:ba P ops ms K sched dn a L₁):ba P ops ms K sched dn a L:=fun h H=>k h (s.has H)
theorem ar.front3 {x:Nat×aG}{A B C L:RL}:ar (x::(A++(B++(C++L)))) (A++(B++(C++x::L))):=⟨[],by
 have:=List.perm_middle (a:=x) (l₁:=A++(B++C)) (l₂:=L)
 simpa[List.append_assoc] using this⟩
end Go.Am
namespace Go.Proofs.YtoaojmobnbbnmaaGreat
open Go.Am
structure Sm(n:Nd):Prop where
 k:n.ks.length<=2000
 v:n.vs.length<=2000
 z:n.kids.length<=2000
 kl:∀ k∈n.ks,k.length<=2000
 vl:∀ k∈n.vs,k.length<=2000
structure PN(X:RL)(n:Nd)(v1 v2 v3:Value):Prop where
 k:PL 9 1 X v1 n.ks.length (tx n.ks)
 v:PL 9 1 X v2 n.vs.length (tx n.vs)
 z:PL 3 1 X v3 n.kids.length (bx n.kids)
variable{X Y:RL}
theorem PN.mono {n:Nd}{v1 v2 v3:Value}(h:PN X n v1 v2 v3)(hm:∀ p,p∈X->p∈Y):PN Y n v1 v2 v3:=⟨h.k.mono hm,h.v.mono hm,h.z.mono hm⟩
variable{L:RL}
theorem PN.nv {n:Nd}{v1 v2 v3:Value}(h:PN X n v1 v2 v3)(hs:Sm n)(hm:∀ p,p∈X->p∈L):NV L n v1 v2 v3 :=
 ⟨h.k.sv.mono hm,h.v.sv.mono hm,h.z.sv.mono hm,by have:=hs.k;omega,by have:=hs.v;omega,by have:=hs.z;omega,fun k hk=>by have:=hs.kl k hk;omega,fun k hk=>by have:=hs.vl k hk;omega⟩
def eZ(X:RL)(r:Nat)(n:Nd):Prop:=∃ v1 v2 v3,(r,an n.leaf v1 v2 v3)∈X/\PN X n v1 v2 v3
variable{r:Nat}
theorem eZ.mono {n:Nd}(h:eZ X r n)(hm:∀ p,p∈X->p∈Y):eZ Y r n:=by
 obtain⟨v1,v2,v3,h1,h2⟩:=h
 exact⟨v1,v2,v3,hm _ h1,h2.mono hm⟩
def pN(X:RL)(v:Value):Option Nd->Prop
 | none=>v=.pointer none
 | some n=>∃ r,v=ptr r/\eZ X r n
variable{v:Value}
theorem pN.mono {o:Option Nd}(h:pN X v o)(hm:∀ p,p∈X->p∈Y):pN Y v o:=by
 cases o with
 | none=>exact h
 | some n=>obtain⟨r,h1,h2⟩:=h;exact⟨r,h1,h2.mono hm⟩
variable{e:TypeId}{sz n:Nat}{cs:List Value}
theorem o9 (h:PL e sz X v n cs):ml v:=bC h.sv
set_option maxHeartbeats 2000000 in
theorem HL {va vb:Value}{a b:Option Nd}(hX:∀ p,p∈X->p∈L)(ha:pN X va a)(hb:pN X vb b)(sa:∀ n,a=some n->Sm n)(sb:∀ n,b=some n->Sm n)(d:Decidable (a=b)) :
  CS Tryz.prog 179 [va,vb] L fun u L'=>u=.bool (@decide (a=b) d)/\L'=L:=by
 cases a with
 | none =>
  cases ha
  cases b with
  | none =>
   cases hb
   refine yF Tryz.f179 ?_
   refine yV 11 ?_
   refine xC rfl ?_ ?_ <;> intro hc
   ·refine yX 7 ?_
    exact⟨by rw[decide_eq_true rfl];rfl,rfl⟩
   cases hc
  | some n =>
   obtain⟨r,rfl,hN⟩:=hb
   refine yF Tryz.f179 ?_
   refine yV 11 ?_
   refine xC rfl ?_ ?_ <;> intro hc
   ·refine yX 7 ?_
    exact⟨by rw[decide_eq_false (by simp)];rfl,rfl⟩
   cases hc
 | some n =>
  obtain⟨r,rfl,v1,v2,v3,hr,hP⟩:=ha
  cases b with
  | none =>
   cases hb
   refine yF Tryz.f179 ?_
   refine yV 11 ?_
   refine xC rfl ?_ ?_ <;> intro hc
   ·refine yX 7 ?_
    exact⟨by rw[decide_eq_false (by simp)];rfl,rfl⟩
   cases hc
  | some n2 =>
   obtain⟨r2,rfl,w1,w2,w3,hr2,hP2⟩:=hb
   have s1:=sa n rfl
   have s2:=sb n2 rfl
   have N1:=hP.nv s1 hX
   have N2:=hP2.nv s2 hX
   have m1:=hX _ hr
   have m2:=hX _ hr2
   obtain⟨lf,ks,vs,kids⟩:=n
   obtain⟨lf2,ks2,vs2,kids2⟩:=n2
   have e1:=s1.k;have e2:=s1.v;have e3:=s1.z;have f1:=s2.k;have f2:=s2.v;have f3:=s2.z
   simp only at e1 e2 e3 f1 f2 f3 m1 m2
   have cK:=vt N1.k N2.k (by simp only;omega) (by simp only;omega)
   have cV:=vt N1.v N2.v (by simp only;omega) (by simp only;omega)
   have cZ:=Ed N1.z N2.z (by simp only;omega) (by simp only;omega)
   simp only at cK cV cZ
   have hiff:((some (⟨lf,ks,vs,kids⟩:Nd))=some ⟨lf2,ks2,vs2,kids2⟩)↔(lf=lf2/\ks=ks2/\vs=vs2/\kids=kids2):=by simp
   refine yF Tryz.f179 ?_
   refine yV 13 ?_
   refine LS.drawn noGo mixed [(0,false),(1,false),(2,false),(3,false),(4,false),(5,false),(6,false),(7,false),(8,false),(9,false),(10,false),(11,false),(12,false),(13,false),(14,false),(15,false),(16,false),(17,false),(18,true),(19,false),(20,false),(21,false),(22,false),(23,false),(24,false),(25,false),(26,false),(27,false),(28,false),(29,true),(30,false),(31,false),(32,false),(33,false),(34,false),(35,false),(36,false),(37,false),(38,false),(39,false),(40,true),(41,false),(42,false)] rfl rfl (by kernel_rfl) ?_
   refine yX 3 ?_
   refine xE rfl rfl (aa m1 rfl rfl rfl rfl) rfl ?_
   refine yX 3 ?_
   refine xE rfl rfl (aa m2 rfl rfl rfl rfl) rfl ?_
   by_cases h1:lf=lf2
   ·have hb1:(lf==lf2)=true:=by simpa using h1
    refine yQ rfl (lB yH (hb1)) ?_
    refine yX 4 ?_
    refine xE rfl rfl (aa m1 rfl rfl rfl rfl) rfl ?_
    refine yX 3 ?_
    refine xE rfl rfl (aa m2 rfl rfl rfl rfl) rfl ?_
    refine yO rfl yH cK ?_
    rintro u L' ⟨rfl,rfl⟩
    refine⟨_,rfl,(by repeat (first|exact ai.nil|refine ai.gone rfl ?_)),?_⟩
    by_cases h2:ks=ks2
    ·rw[decide_eq_true h2]
     refine yX 5 ?_
     refine xE rfl rfl (aa m1 rfl rfl rfl rfl) rfl ?_
     refine yX 3 ?_
     refine xE rfl rfl (aa m2 rfl rfl rfl rfl) rfl ?_
     refine yO rfl yH cV ?_
     rintro u L' ⟨rfl,rfl⟩
     refine⟨_,rfl,(by repeat (first|exact ai.nil|refine ai.gone rfl ?_)),?_⟩
     by_cases h3:vs=vs2
     ·rw[decide_eq_true h3]
      refine yX 5 ?_
      refine xE rfl rfl (aa m1 rfl rfl rfl rfl) rfl ?_
      refine yX 3 ?_
      refine xE rfl rfl (aa m2 rfl rfl rfl rfl) rfl ?_
      refine yO rfl yH cZ ?_
      rintro u L' ⟨rfl,rfl⟩
      refine⟨_,rfl,(by repeat (first|exact ai.nil|refine ai.gone rfl ?_)),?_⟩
      refine yX 4 ?_
      refine⟨?_,rfl⟩
      by_cases h4:kids=kids2
      ·rw[decide_eq_true h4,decide_eq_true (hiff.2 ⟨h1,h2,h3,h4⟩)];rfl
      rw[decide_eq_false h4,decide_eq_false (fun hh=>h4 (hiff.1 hh).2.2.2)];rfl
     rw[decide_eq_false h3]
     refine yX 15 ?_
     exact⟨by rw[decide_eq_false (fun hh=>h3 (hiff.1 hh).2.2.1)];rfl,rfl⟩
    rw[decide_eq_false h2]
    refine yX 26 ?_
    exact⟨by rw[decide_eq_false (fun hh=>h2 (hiff.1 hh).2.1)];rfl,rfl⟩
   have hb1:(lf==lf2)=false:=by simpa using h1
   refine yQ rfl (lB yH (hb1)) ?_
   refine yX 36 ?_
   exact⟨by rw[decide_eq_false (fun hh=>h1 (hiff.1 hh).1)];rfl,rfl⟩
variable{a:ah}{o:Oper}{i0:Operand}
theorem Gv {i1 i2 i3:Operand}{b:Bool}{v1 v2 v3:Value}(s1:ml v1)(s2:ml v2)(s3:ml v3)(ho:o.op=.build 183 #[(0,i0),(1,i1),(2,i2),(3,i3)])(h0:aX a i0=some (.bool b))(h1:aX a i1=some v1)(h2:aX a i2=some v2)(h3:aX a i3=some v3) :
  ∀ h,aI Tryz.prog a o h=some (.val (j7 b v1 v2 v3) h):=by
 intro h
 rcases s1 with rfl|⟨r1,o1,n1,c1,rfl⟩ <;> rcases s2 with rfl|⟨r2,o2,n2,c2,rfl⟩ <;> rcases s3 with rfl|⟨r3,o3,n3,c3,rfl⟩ <;> (simp only[aI,ho,ew,h0,h1,h2,h3];rfl)
theorem vj {n:Nd}(hX:∀ p,p∈X->p∈L)(hN:eZ X r n)(hs:Sm n) :
  CS Tryz.prog 191 [ptr r] L fun u L'=>∃ w1 w2 w3 Y1 Y2 Y3,u=j7 n.leaf w1 w2 w3/\L'=Y3++(Y2++(Y1++L))/\GV 9 1 [] w1 n.ks.length (tx n.ks) Y1/\GV 9 1 [] w2 n.vs.length (tx n.vs) Y2/\GV 3 1 [] w3 n.kids.length (bx n.kids) Y3:=by
 suffices g:CS Tryz.prog 191 [ptr r] L fun u L'=>∃ x w1 w2 w3 Y1 Y2 Y3,u=j7 n.leaf w1 w2 w3/\L'=x::(Y3++(Y2++(Y1++L)))/\GV 9 1 [] w1 n.ks.length (tx n.ks) Y1/\GV 9 1 [] w2 n.vs.length (tx n.vs) Y2/\GV 3 1 [] w3 n.kids.length (bx n.kids) Y3 by
  exact g.less fun u L' ⟨x,w1,w2,w3,Y1,Y2,Y3,h1,h2,h3⟩=>⟨_,by rw[h2];exact ar.tail,w1,w2,w3,Y1,Y2,Y3,h1,rfl,h3⟩
 obtain⟨v1,v2,v3,hr,hP⟩:=hN
 have m1:=hX _ hr
 have N1:=hP.nv hs hX
 obtain⟨lf,ks,vs,kids⟩:=n
 have e1:=hs.k;have e2:=hs.v;have e3:=hs.z
 simp only at e1 e2 e3 m1
 refine yF Tryz.f191 ?_
 refine yX 1 ?_
 refine yN fun rc=>?_
 refine xN ?_
 have m1':=List.mem_cons_of_mem (rc,an false (.slice none 0 0) (.slice none 0 0) (.slice none 0 0)) m1
 repeat refine xQ ?_
 refine LS.drawn noGo mixed [(0,false),(1,false),(2,false),(3,false),(4,false),(5,false),(6,false),(7,false),(9,false),(10,false),(11,false),(12,false),(14,false),(15,false),(16,false),(17,false),(8,true),(13,true),(18,true),(19,false),(20,true)] rfl rfl (by kernel_rfl) ?_
 refine yX 3 ?_
 refine xE rfl rfl (aa m1' rfl rfl rfl rfl) rfl ?_
 refine yX 3 ?_
 refine xE rfl rfl (aa m1' rfl rfl rfl rfl) rfl ?_
 refine yX 3 ?_
 refine xE rfl rfl (aa m1' rfl rfl rfl rfl) rfl ?_
 refine yX 3 ?_
 refine xE rfl rfl (aa m1' rfl rfl rfl rfl) rfl ?_
 refine yO rfl yH (vw (N1.k.cons) (ik _) (by simp only;omega)) ?_
 rintro w1 L' ⟨Y1,rfl,g1⟩
 have m2:=List.mem_append_right Y1 m1'
 refine⟨_,rfl,(by repeat (first|exact ai.nil|refine ai.gone rfl ?_|refine ai.cons rfl (aa m2 rfl rfl rfl rfl) ?_)),?_⟩
 refine yO rfl yH (vw ((N1.v.cons (x:=(rc,an false (.slice none 0 0) (.slice none 0 0) (.slice none 0 0)))).mono (fun p hp=>List.mem_append_right Y1 hp)) (ik _) (by simp only;omega)) ?_
 rintro w2 L' ⟨Y2,rfl,g2⟩
 have m3:=List.mem_append_right Y2 m2
 refine⟨_,rfl,(by repeat (first|exact ai.nil|refine ai.gone rfl ?_|refine ai.cons rfl (aa m3 rfl rfl rfl rfl) ?_)),?_⟩
 refine yO rfl yH (Ei (((N1.z.cons (x:=(rc,an false (.slice none 0 0) (.slice none 0 0) (.slice none 0 0)))).mono (fun p hp=>List.mem_append_right Y1 hp)).mono (fun p hp=>List.mem_append_right Y2 hp)) (ld _) (by simp only;omega)) ?_
 rintro w3 L' ⟨Y3,rfl,g3⟩
 have m4:=List.mem_append_right Y3 m3
 refine⟨_,rfl,(by repeat (first|exact ai.nil|refine ai.gone rfl ?_|refine ai.cons rfl (aa m4 rfl rfl rfl rfl) ?_)),?_⟩
 have s1:=bC g1.sv
 have s2:=bC g2.sv
 have s3:=bC g3.sv
 refine yQ rfl (Gv s1 s2 s3 rfl rfl rfl rfl rfl) ?_
 refine ba.sub ar.front3 ?_
 refine ba.write rfl rfl (ax 0 (n:=4) rfl rfl rfl rfl rfl (dd s1 s2 s3) rfl rfl) rfl (by repeat (first|exact ai.nil|refine ai.gone rfl ?_)) ?_
 refine yX 1 ?_
 refine xT ⟨_,kY (x:=2) 0 rfl rfl rfl rfl,?_⟩
 exact⟨_,w1,w2,w3,Y1,Y2,Y3,rfl,rfl,g1,g2,g3⟩
end Go.Proofs.YtoaojmobnbbnmaaGreat
end
