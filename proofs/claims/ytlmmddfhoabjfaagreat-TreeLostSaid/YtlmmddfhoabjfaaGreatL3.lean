/- What the proofs lean on, part 3. -/
import Derived.Test.YtlmmddfhoabjfaaGreatL2
import Derived.Test.YtlmmddfhoabjfaaGreatProg
import Derived.KernelRfl
set_option linter.unusedVariables false
set_option maxRecDepth 20000
section
namespace Go.Proofs.YtlmmddfhoabjfaaGreat
open Go.Am
theorem noGo:Am.noGo Tryz.prog=true:=by kernel_rfl
theorem mixed:Tryz.prog.follows .mixedOrders=true:=by kernel_rfl
theorem own_ct {L:RL} {b:Value} {bs:List UInt8} {n room:Nat} (hb:SV 1 L b n (byteCells bs)) (hn:n<=400000000000) (hr:room<=400000000000) :
  CS Tryz.prog 111 [b,.int .i64 room] L fun v L'=>∃ r,v=.slice (some ⟨r,0,none⟩) n openCap/\L'=(r,.cells 5 (byteCells bs))::L:=by
 have hl:bs.length=n:=by have:=hb.len; simpa [byteCells] using this
 refine CS.mk (fn:=Tryz.f111) rfl rfl rfl rfl ?_
 repeat refine xQ ?_
 refine xG rfl ?_
 refine xP rfl rh rfl ?_
 refine xN ?_
 repeat refine xQ ?_
 refine xG rfl ?_
 refine xP rfl rh rfl ?_
 refine xP rfl (e_len hb rfl rfl rfl rfl rfl) rfl ?_
 refine xP rfl rh rfl ?_
 refine xP rfl (e_add rfl rfl rfl (in_i64 (by omega) (by omega))) rfl ?_
 refine OS.fresh rfl (e_make (l:=0) (c:=n+room) (e:=5) (sz:=1) (bts:=1) (zs:=[.int .u8 0]) rfl rfl rfl rfl (by omega) (by omega) (by omega)) (fun _=>rfl) (fun r=>?_)
 refine OS.opened 9 0 (sz:=1) rfl rfl rfl (by rw [repL_len]; simp) (by unfold openCap; omega) rfl ?_
 refine xP rfl rh rfl ?_
 refine OS.fresh rfl (e_appendSV 0 (sz:=1) (bts:=1) (old:=[]) hb.cons (byteCells_one bs) rfl rfl rfl (by omega) (by omega) rfl cut_zero rfl) (fun _=>rfl) (fun r2=>?_)
 refine xP rfl rh rfl ?_
 refine xN ?_
 refine xT ⟨_,fun _ _=>rfl,?_⟩
 exact ⟨r2,by simp [tupleB],rfl⟩
theorem addGroups_ct (u:Nat) (hu:u < 18446744073709551616) {F:RL} {r n:Nat} {bs:List UInt8} (hn:n<=500000000000) (hl:bs.length=n) :
  CS Tryz.prog 112 [.slice (some ⟨r,0,none⟩) n openCap,.int .u64 u] ((r,.cells 5 (byteCells bs))::F) fun v L'=>∃ r,v=.slice (some ⟨r,0,none⟩) (n+(grp u).length) openCap/\L'=(r,.cells 5 (byteCells (bs++grp u)))::F:=by
 have hg:(grp u).length<=10:=grp_len (by omega) (by omega)
 refine CS.mk (fn:=Tryz.f112) rfl rfl rfl rfl ?_
 repeat refine xQ ?_
 refine xG rfl ?_
 refine xP rfl rh rfl ?_
 refine xN ?_
 repeat refine xQ ?_
 repeat refine xQ ?_
 refine LS.block ?_
 refine LS.loop (fun m a L=>∃ r k n b x1 x2 x3 x4 x5 x6 x7 x8 x9 x10 x11 x12 x13 x14 x15 x16,m=k/\b.length=n/\L=(r,.cells 5 (byteCells b))::F/\b++grp k=bs++grp u/\k<=u/\a=[.slice (some ⟨r,0,none⟩) n openCap,.int .u64 (k:Nat),x1,x2,.slice none 0 0,x3,x4,x5,x6,x7,x8,x9,x10,x11,x12,x13,x14,x15,x16,undef,undef]) (n:=u) ⟨r,u,n,bs,_,_,_,_,_,_,_,_,_,_,_,_,_,_,_,_,rfl,hl,rfl,rfl,Nat.le_refl _,rfl⟩ ?_
 rintro m a L ⟨r,k,n',b,x1,x2,x3,x4,x5,x6,x7,x8,x9,x10,x11,x12,x13,x14,x15,x16,rfl,hbl,rfl,hb,hk,rfl⟩
 have hlen:n'+(grp m).length=n+(grp u).length:=by have:=congrArg List.length hb; simpa [hl,hbl] using this
 repeat refine xQ ?_
 refine xG rfl ?_
 iterate 2 refine xP rfl rh rfl ?_
 refine xN ?_
 repeat refine xQ ?_
 refine xC rfl (fun hc=>?_) (fun hc=>?_)
 ·refine LS.skip ?_
  have hc:=le_of hc
  have hm:128<=m:=by omega
  have hc8:(UInt8.ofNat (m % 128+128)).toNat=m % 128+128:=toNat_of (by omega)
  repeat refine xQ ?_
  refine LS.block ?_
  repeat refine xQ ?_
  refine xG rfl ?_
  iterate 2 refine xP rfl rh rfl ?_
  refine xP rfl (e_rem (n:=128) rfl rfl rfl (by decide)) rfl ?_
  refine xP rfl (e_conv rfl rfl rfl rfl (in_u8 (by omega) (by omega))) rfl ?_
  refine xP rfl (e_add rfl rfl rfl (in_u8 (by omega) (by omega))) rfl ?_
  refine OS.fresh rfl (e_new (fun _=>rfl) rfl) (fun _=>rfl) (fun r2=>?_)
  refine OS.fresh rfl (e_appendSV 1 (sz:=1) (bts:=1) (SV.row (sz:=1) (n:=1) (List.mem_cons_self ..) rfl) rfl rfl rfl rfl (by omega) (by omega) rfl (cut_all (by rw [byteCells_len]; omega)) rfl) (fun _=>rfl) (fun r3=>?_)
  refine xP rfl rh rfl ?_
  refine OS.sub (Sub.drop 1 rfl) ?_
  refine xN ?_
  repeat refine xQ ?_
  refine xG rfl ?_
  refine xP rfl rh rfl ?_
  refine xP rfl (e_quo (n:=128) rfl rfl rfl (by decide) (in_u64 (by omega) (by omega))) rfl ?_
  refine xP rfl rh rfl ?_
  refine xN ?_
  refine ⟨m / 128,by omega,r3,m / 128,_,b++[UInt8.ofNat (m % 128+128)],_,_,_,_,_,_,_,_,_,_,_,_,_,_,_,_,rfl,by simpa using hbl,?_,?_,by omega,rfl⟩
  ·rw [byteCells_snoc]; rw [hc8]; rfl
  ·rw [← hb,grp_ge hm]; simp
 ·have hc:=nle_of hc
  have hm:m < 128:=by omega
  have hc8:(UInt8.ofNat m).toNat=m:=toNat_of (by omega)
  rw [grp_lt hm] at hlen hb
  simp at hlen
  refine LS.exit ?_
  repeat refine xQ ?_
  refine xG rfl ?_
  iterate 2 refine xP rfl rh rfl ?_
  refine xP rfl (e_conv rfl rfl rfl rfl (in_u8 (by omega) (by omega))) rfl ?_
  refine OS.fresh rfl (e_new (fun _=>rfl) rfl) (fun _=>rfl) (fun r2=>?_)
  refine OS.fresh rfl (e_appendSV 1 (sz:=1) (bts:=1) (SV.row (sz:=1) (n:=1) (List.mem_cons_self ..) rfl) rfl rfl rfl rfl (by omega) (by omega) rfl (cut_all (by rw [byteCells_len]; omega)) rfl) (fun _=>rfl) (fun r3=>?_)
  refine xP rfl rh rfl ?_
  refine OS.sub (Sub.drop 1 rfl) ?_
  refine xN ?_
  refine xT ⟨_,fun _ _=>rfl,?_⟩
  exact ⟨r3,by simp [tupleB,hlen],by rw [byteCells_snoc (b:=UInt8.ofNat m) _ (by rw [hc8]),hb]⟩
theorem isCount_ct {L:RL} (n:Int):CS Tryz.prog 110 [.int .i64 n] L fun v L'=>v=.bool (decide (0<=n/\n<=2147483647))/\L'=L:=by
 refine CS.mk (fn:=Tryz.f110) rfl rfl rfl rfl ?_
 repeat refine xQ ?_
 refine xG rfl ?_
 refine xP rfl rh rfl ?_
 refine xN ?_
 by_cases h:0<=n
 ·have hb:ileB 0 n=true:=ileB_iff.2 h
  repeat refine xQ ?_
  refine xG rfl ?_
  refine xP rfl rh rfl ?_
  refine xP rfl (e_ib rh (hb)) rfl ?_
  iterate 5 refine xP rfl rh rfl ?_
  refine xN ?_
  refine xT ⟨_,fun _ _=>rfl,?_⟩
  refine ⟨?_,rfl⟩
  rw [ileB_eq]
  simp [h,tupleB]
 ·have hb:ileB 0 n=false:=by rw [ileB_eq]; simpa using h
  repeat refine xQ ?_
  refine xG rfl ?_
  refine xP rfl rh rfl ?_
  refine xP rfl (e_ib rh (hb)) rfl ?_
  refine xP rfl rh rfl ?_
  iterate 2 refine xK rfl rfl ?_
  iterate 2 refine xP rfl rh rfl ?_
  refine xN ?_
  refine xT ⟨_,fun _ _=>rfl,?_⟩
  refine ⟨?_,rfl⟩
  simp [h,tupleB]
def cnt (m:Int):List UInt8:=if 0<=m/\m<=2147483647 then grp m.toNat else []
theorem Count_ct {L:RL} {b:Value} {bs:List UInt8} {n:Nat} (m:Int) (hb:SV 1 L b n (byteCells bs)) (hn:n<=400000000000) :
  CS Tryz.prog 77 [b,.int .i64 m] L fun v L'=>∃ r,v=.slice (some ⟨r,0,none⟩) (n+(cnt m).length) openCap/\L'=(r,.cells 5 (byteCells (bs++cnt m)))::L:=by
 have hl:bs.length=n:=by have:=hb.len; simpa [byteCells] using this
 refine CS.mk (fn:=Tryz.f77) rfl rfl rfl rfl ?_
 repeat refine xQ ?_
 refine xG rfl ?_
 refine xP rfl rh rfl ?_
 refine xN ?_
 by_cases hm:0<=m/\m<=2147483647
 ·obtain ⟨k,rfl⟩:=Int.eq_ofNat_of_zero_le hm.1
  have hc:cnt (k:Int)=grp k:=by unfold cnt; rw [if_pos hm]; rfl
  repeat refine xQ ?_
  refine xG rfl ?_
  refine xP rfl rh rfl ?_
  refine xA noGo rfl (fun _=>rfl) ((isCount_ct _).mono ?_)
  rintro v L' ⟨rfl,rfl⟩
  rw [decide_eq_true hm]
  refine ⟨_,rfl,?_⟩
  refine xP rfl rh rfl ?_
  refine xN ?_
  repeat refine xQ ?_
  refine xC rfl (fun h=>?_) (fun h=>?_)
  ·cases h
  refine LS.skip ?_
  repeat refine xQ ?_
  refine xG rfl ?_
  refine xP rfl rh rfl ?_
  refine xA noGo rfl (fun _=>rfl) ((own_ct (room:=5) hb hn (by omega)).mono ?_)
  rintro v L' ⟨r,rfl,rfl⟩
  refine ⟨_,rfl,?_⟩
  refine xP rfl rh rfl ?_
  refine xP rfl (e_conv rfl rfl rfl rfl (in_u64 (by omega) (by omega))) rfl ?_
  refine xA noGo rfl (fun _=>rfl) ((addGroups_ct k (by omega) (by omega) hl).mono ?_)
  rintro v L' ⟨r,rfl,rfl⟩
  refine ⟨_,rfl,?_⟩
  refine xP rfl rh rfl ?_
  refine xN ?_
  refine xT ⟨_,fun _ _=>rfl,?_⟩
  rw [hc]
  exact ⟨r,rfl,rfl⟩
 ·have hc:cnt m=[]:=by unfold cnt; rw [if_neg hm]
  repeat refine xQ ?_
  refine xG rfl ?_
  refine xP rfl rh rfl ?_
  refine xA noGo rfl (fun _=>rfl) ((isCount_ct _).mono ?_)
  rintro v L' ⟨rfl,rfl⟩
  rw [decide_eq_false hm]
  refine ⟨_,rfl,?_⟩
  refine xP rfl rh rfl ?_
  refine xN ?_
  repeat refine xQ ?_
  refine xC rfl (fun h=>?_) (fun h=>?_)
  ·repeat refine xQ ?_
   refine xG rfl ?_
   refine xP rfl rh rfl ?_
   refine xA noGo rfl (fun _=>rfl) ((own_ct (room:=0) hb hn (by omega)).mono ?_)
   rintro v L' ⟨r,rfl,rfl⟩
   refine ⟨_,rfl,?_⟩
   refine xP rfl rh rfl ?_
   refine xN ?_
   refine xT ⟨_,fun _ _=>rfl,?_⟩
   rw [hc]
   exact ⟨r,rfl,by simp⟩
  ·cases h
theorem e_append_text (i:Nat) {P:Program} {a:Slots} {o:Oper} {L L₁:RL} {c:Call} {e:TypeId} {bts len n r off:Nat} {s:List UInt8} {old cs:List Value} (ho:o.op=.call c) (hT:appT P c=some (e,1,bts)) (ha:evs a c.args.toList=some [.slice (some ⟨r,off,none⟩) len openCap,.string ⟨⟨s⟩⟩])
  (hn:n=s.length) (hsm:(len+n) * bts<=1000000000000) (hsm2:len+n<=1000000000000) (hL:L[i]?=some (r,.cells e cs)) (hcut:cut cs off (len * 1)=some old) (hd:dropL L i=some L₁) :
  ∀ h,Has h L->∃ r' h₁,opB P a o h=some (.val (.slice (some ⟨r',0,none⟩) (len+n) openCap) h₁)/\Has h₁ ((r',.cells e (old++byteCells s))::L₁) :=
 e_append i ho hT ha (by rw [hn]; rfl) (first_text hn) (by rw [byteCells_one]; rfl) hsm hsm2 hL hcut hd
theorem Str_ct {L:RL} {b:Value} {bs s:List UInt8} {n:Nat} (hs:s.length<=200000) (hb:SV 1 L b n (byteCells bs)) (hn:n<=300000000000) :
  CS Tryz.prog 80 [b,.string ⟨⟨s⟩⟩] L fun v L'=>∃ r,v=.slice (some ⟨r,0,none⟩) (n+((cnt s.length).length+s.length)) openCap/\L'=(r,.cells 5 (byteCells (bs++(cnt s.length++s))))::L:=by
 have hl:bs.length=n:=by have:=hb.len; simpa [byteCells] using this
 have hm:0<=(s.length:Int)/\(s.length:Int)<=2147483647:=by omega
 have hc:cnt (s.length:Int)=grp s.length:=by unfold cnt; rw [if_pos hm]; rfl
 have hg:(grp s.length).length<=10:=grp_len (by omega) (by omega)
 refine CS.mk (fn:=Tryz.f80) rfl rfl rfl rfl ?_
 repeat refine xQ ?_
 refine xG rfl ?_
 refine xP rfl rh rfl ?_
 refine xN ?_
 repeat refine xQ ?_
 refine xG rfl ?_
 iterate 2 refine xP rfl rh rfl ?_
 refine xA noGo rfl (fun _=>rfl) ((isCount_ct s.length).mono ?_)
 rintro v L' ⟨rfl,rfl⟩
 rw [decide_eq_true hm]
 refine ⟨_,rfl,?_⟩
 refine xP rfl rh rfl ?_
 refine xN ?_
 repeat refine xQ ?_
 refine xC rfl (fun h=>?_) (fun h=>?_)
 ·cases h
 refine LS.skip ?_
 repeat refine xQ ?_
 refine xG rfl ?_
 iterate 3 refine xP rfl rh rfl ?_
 refine xP rfl (e_add (m:=5) (n:=s.length) rfl rfl rfl (in_i64 (by omega) (by omega))) rfl ?_
 refine xA noGo rfl (fun _=>rfl) ((own_ct (room:=5+s.length) hb (by omega) (by omega)).mono ?_)
 rintro v L' ⟨r,rfl,rfl⟩
 refine ⟨_,rfl,?_⟩
 iterate 2 refine xP rfl rh rfl ?_
 refine xP rfl (e_conv (n:=s.length) rfl rfl rfl rfl (in_u64 (by omega) (by omega))) rfl ?_
 refine xA noGo rfl (fun _=>rfl) ((addGroups_ct s.length (by omega) (by omega) hl).mono ?_)
 rintro v L' ⟨r,rfl,rfl⟩
 refine ⟨_,rfl,?_⟩
 refine xP rfl rh rfl ?_
 refine xN ?_
 repeat refine xQ ?_
 refine xG rfl ?_
 iterate 2 refine xP rfl rh rfl ?_
 refine OS.fresh rfl (e_append_text 0 (n:=s.length) (bts:=1) rfl rfl rfl rfl (by omega) (by omega) rfl (cut_all (by rw [byteCells_len]; simp; omega)) rfl) (fun _=>rfl) (fun r2=>?_)
 refine xP rfl rh rfl ?_
 refine xN ?_
 refine xT ⟨_,fun _ _=>rfl,?_⟩
 rw [hc]
 exact ⟨r2,by rw [Nat.add_assoc]; rfl,by rw [← byteCells_append,List.append_assoc]⟩
theorem Flag_ct {L:RL} {b:Value} {bs:List UInt8} {n:Nat} (v:Bool) (hb:SV 1 L b n (byteCells bs)) (hn:n<=400000000000) :
  CS Tryz.prog 78 [b,.bool v] L fun v' L'=>∃ r,v'=.slice (some ⟨r,0,none⟩) (n+1) openCap/\L'=(r,.cells 5 (byteCells (bs++[if v then 1 else 0])))::L:=by
 have hl:bs.length=n:=by have:=hb.len; simpa [byteCells] using this
 cases v
 all_goals
  refine CS.mk (fn:=Tryz.f78) rfl rfl rfl rfl ?_
  repeat refine xQ ?_
  refine xG rfl ?_
  refine xP rfl rh rfl ?_
  refine xN ?_
  repeat refine xQ ?_
  refine xG rfl ?_
  refine xP rfl rh rfl ?_
  refine xN ?_
  repeat refine xQ ?_
  refine xG rfl ?_
  refine xP rfl rh rfl ?_
  refine xN ?_
  refine xC rfl (fun h=>?_) (fun h=>?_) <;> first | (cases h; done) | skip
  first | refine LS.skip ?_ | (refine xG rfl ?_; refine xP rfl rh rfl ?_; refine xN ?_)
  repeat refine xQ ?_
  refine xG rfl ?_
  refine xP rfl rh rfl ?_
  refine xA noGo rfl (fun _=>rfl) ((own_ct (room:=1) hb hn (by omega)).mono ?_)
  rintro v L' ⟨r,rfl,rfl⟩
  refine ⟨_,rfl,?_⟩
  refine xP rfl rh rfl ?_
  refine OS.fresh rfl (e_new (fun _=>rfl) rfl) (fun _=>rfl) (fun r2=>?_)
  refine OS.fresh rfl (e_appendSV 1 (sz:=1) (bts:=1) (SV.row (sz:=1) (n:=1) (List.mem_cons_self ..) rfl) rfl rfl rfl rfl (by omega) (by omega) rfl (cut_all (by rw [byteCells_len]; omega)) rfl) (fun _=>rfl) (fun r3=>?_)
  refine xP rfl rh rfl ?_
  refine OS.sub (Sub.drop 1 rfl) ?_
  refine xN ?_
  refine xT ⟨_,fun _ _=>rfl,?_⟩
  exact ⟨r3,rfl,by rw [byteCells_append]; rfl⟩
theorem e_shl {P:Program} {a:Slots} {o:Oper} {t z:TypeId} {x y:Operand} {k k':IntKind} {m s:Nat} (ho:o.op=.binOp .shl t x y z) (hx:aev a x=some (.int k (m:Int))) (hy:aev a y=some (.int k' (s:Int))) (hs:s<=k.bits) (hi:inK k ((m * 2 ^ s:Nat):Int)=true):∀ h,opB P a o h=some (.val (.int k ((m * 2 ^ s:Nat):Int)) h):=by
 intro h
 have h0:ileB 0 (s:Int)=true:=ileB_iff.2 (by omega)
 have h1:(m:Int) * ((2 ^ (min s k.bits):Nat):Int)=((m * 2 ^ s:Nat):Int):=by rw [Nat.min_eq_left hs]; simp
 simp only [opB,ho,hx,hy,eqOk,binB,h0,Int.toNat_natCast,h1,wrap_in hi,ret]
theorem e_or {P:Program} {a:Slots} {o:Oper} {t z:TypeId} {x y:Operand} {m n:Nat} (ho:o.op=.binOp .or t x y z) (hx:aev a x=some (.int .u64 (m:Int))) (hy:aev a y=some (.int .u64 (n:Int))) (hm:m < 18446744073709551616) (hn:n < 18446744073709551616):∀ h,opB P a o h=some (.val (.int .u64 ((m ||| n:Nat):Int)) h):=by
 intro h
 have hb:∀ m:Nat,m < 18446744073709551616->bitsB .u64 (m:Int)=m:=fun m hm=>by
  unfold bitsB
  have:(ileB 0 (m:Int) && ileB (m:Int) (mostB .u64))=true:=by
   rw [Bool.and_eq_true,ileB_iff,ileB_iff]; exact ⟨by omega,by simp [mostB]; omega⟩
  rw [this]; simp
 have hor:m ||| n < 18446744073709551616:=Nat.or_lt_two_pow (n:=64) hm hn
 have hi:inK .u64 ((m ||| n:Nat):Int)=true:=in_u64 (by omega) (by omega)
 simp only [opB,ho,hx,hy,eqOk,binB,if_true,hb m hm,hb n hn,wrap_in hi,ret]
theorem digit_le {i c:Nat} (hi:i<=9) (h9:i=9->c<=1):c % 128 * 128 ^ i<=9223372036854775808:=by
 by_cases h:i=9
 ·subst h
  have:=h9 rfl
  have h1:c % 128<=1:=by omega
  have e:(128:Nat) ^ 9=9223372036854775808:=pow9
  rw [e]
  calc c % 128 * 9223372036854775808<=1 * 9223372036854775808:=Nat.mul_le_mul_right _ h1
   _=_:=by omega
 ·have h8:128 ^ i<=128 ^ 8:=Nat.pow_le_pow_right (by omega) (by omega)
  have e:(128:Nat) ^ 8=72057594037927936:=by decide
  rw [e] at h8
  have:c % 128 * 128 ^ i<=127 * 72057594037927936:=Nat.mul_le_mul (by omega) h8
  omega
theorem or_digit {u d i:Nat} (h:u < 128 ^ i):(u ||| d * 2 ^ (7 * i))=u+d * 128 ^ i:=by
 have e:(2:Nat) ^ (7 * i)=128 ^ i:=by rw [Nat.pow_mul]
 rw [← e] at h ⊢
 rw [Nat.or_comm,Nat.mul_comm,← Nat.two_pow_add_eq_or_of_lt h]
 omega
def OV (L:RL) (v:Value) (bs:List UInt8):Prop:=(v=.slice none 0 0/\bs=[])∨∃ r off C,v=.slice (some ⟨r,off,none⟩) bs.length openCap/\(r,.cells 5 C)∈L/\cut C off bs.length=some (byteCells bs)
theorem OV.sv {L:RL} {v:Value} {bs:List UInt8} (h:OV L v bs):SV 1 L v bs.length (byteCells bs):=by
 rcases h with ⟨rfl,rfl⟩ | ⟨r,off,C,rfl,hm,hc⟩
 ·exact .inl ⟨rfl,rfl,rfl⟩
 ·exact .inr ⟨r,off,openCap,_,C,rfl,hm,rfl,by rw [Nat.mul_one]; exact hc⟩
theorem OV.mono {L L':RL} {v:Value} {bs:List UInt8} (h:OV L v bs) (hm:∀ p,p∈L->p∈L'):OV L' v bs:=by
 rcases h with h | ⟨r,off,C,h1,h2,h3⟩
 ·exact .inl h
 ·exact .inr ⟨r,off,C,h1,hm _ h2,h3⟩
theorem OV.cons {L:RL} {x:Nat × ARow} {v:Value} {bs:List UInt8} (h:OV L v bs):OV (x::L) v bs:=h.mono fun _ hp=>List.mem_cons_of_mem _ hp
theorem OS.cutB {P:Program} {ops rest:List Oper} {o:Oper} {a:Slots} {L:RL} {K:Slots->RL->Prop} {t:TypeId} {x:Operand} {lo hi:Option Operand} {lo' hi':Option Value} {v:Value} {l u:Nat} {bs:List UInt8} (hs:OV L v bs) (hw:wantedB ops o a=true) (ho:o.op=.slice t x lo hi none) (hx:aev a x=some v)
  (hlo:optEv a lo=some lo') (hhi:optEv a hi=some hi') (bl:boundB lo' 0=some l) (bu:boundB hi' bs.length=some u) (ht:P.underlying t=some (.slice 5)) (hz:sizeB P 5=some 1) (hu:u<=bs.length) (hl:l<=u)
  (hk:∀ v',OV L v' ((bs.drop l).take (u - l))->∃ a₁,putAt a o.dst v'=some a₁/\OS P ops rest a₁ L K):OS P ops (o::rest) a L K:=by
 have hlen:((bs.drop l).take (u - l)).length=u - l:=by simp; omega
 rcases hs with ⟨rfl,rfl⟩ | ⟨r,off,C,rfl,hm,hc⟩
 ·have hu0:u=0:=by simpa using hu
  subst hu0
  have hl0:l=0:=by omega
  subst hl0
  obtain ⟨a₁,ep,k⟩:=hk (.slice none 0 0) (.inl ⟨rfl,by simp⟩)
  refine xP hw (fun h=>?_) ep k
  have hm':optEv a none=some none:=rfl
  have hcb:Nat.beq 0 openCap=false:=beq_false (by decide)
  have h1:Nat.ble 0 (farB 0 0)=true:=rfl
  have h2:Nat.ble 0 0=true:=rfl
  have h3:rowOk h 5 none 0=true:=by unfold rowOk; rw [hcb]; rfl
  have bu':boundB hi' 0=some 0:=bu
  simp only [opB,ho,hx,hlo,hhi,hm',sliceB,ht,bu',bl,hz,h1,h2,h3,Bool.true_and,moved,hcb,ret]
 ·have hcut:cut C (off+l * 1) (u - l)=some (byteCells ((bs.drop l).take (u - l))):=by
   rw [Nat.mul_one]
   exact cut_cut hc (by rw [cut_bytes (by omega)])
  obtain ⟨a₁,ep,k⟩:=hk (.slice (some ⟨r,off+l * 1,none⟩) (u - l) openCap) (.inr ⟨r,_,C,by rw [hlen],hm,by rw [hlen]; exact hcut⟩)
  obtain ⟨i,hi⟩:=List.mem_iff_getElem?.1 hm
  exact xR hw (e_slice i ho hx hlo hhi bl bu ht hz hu hl hi) ep k
theorem e_min {P:Program} {a:Slots} {o:Oper} {c:Call} {k:IntKind} {x y:Int} (ho:o.op=.call c) (hc:c.callee=.builtin .min) (ha:evs a c.args.toList=some [.int k x,.int k y]):∀ h,opB P a o h=some (.val (.int k (min x y)) h):=by
 intro h
 by_cases hxy:x<=y
 ·have:ileB x y=true:=ileB_iff.2 hxy
  simp only [opB,ho,ha,callOpB,hc,minB,if_true,this,ret]
  rw [show min x y=x by omega]
 ·have:ileB x y=false:=by rw [ileB_eq]; simpa using hxy
  simp only [opB,ho,ha,callOpB,hc,minB,if_true,this,ret]
  rw [show min x y=y by omega]
theorem groupsAt_ct {L:RL} {b:Value} {bs:List UInt8} {n:Nat} (hb:SV 1 L b n (byteCells bs)) (hn:n<=9223372036854775807) :
  CS Tryz.prog 177 [b] L fun v L'=>v=.tuple #[.int .u64 ((gat bs).1:Nat),.int .i64 ((gat bs).2:Nat)]/\L'=L:=by
 have hl:bs.length=n:=by have:=hb.len; simpa [byteCells] using this
 refine CS.mk (fn:=Tryz.f177) rfl rfl rfl rfl ?_
 repeat refine xQ ?_
 refine xG rfl ?_
 iterate 2 refine xP rfl rh rfl ?_
 refine xN ?_
 repeat refine xQ ?_
 refine xG rfl ?_
 refine xP rfl rh rfl ?_
 refine xN ?_
 repeat refine xQ ?_
 refine xG rfl ?_
 refine xP rfl rh rfl ?_
 refine xP rfl (e_len hb rfl rfl rfl rfl rfl) rfl ?_
 refine xP rfl rh rfl ?_
 refine xN ?_
 repeat refine xQ ?_
 refine LS.block ?_
 refine LS.loopJ [4,7,8,9] (fun q a L'=>∃ j u,q=n - j/\j<=n/\j<=9/\u < 128 ^ j/\gGo j u (bs.drop j)=gat bs/\L'=L/\a=[jn,jn,jn,jn,.int .u64 (u:Nat),jn,jn,b,.int .i64 (n:Nat),.int .i64 (j:Nat),jn,jn,jn,jn,jn,jn,jn,jn,jn,jn,jn,jn,jn,jn,jn,jn,jn,jn,jn,jn,jn,jn,jn,jn,jn,jn,jn,jn,jn,jn]) (n:=n) rfl ⟨0,0,rfl,by omega,by omega,by simp,rfl,rfl,rfl⟩ ?_
 rintro q a L' ⟨j,u,rfl,hj,hj9,hu,hg,rfl,rfl⟩
 have hu9:u < 9223372036854775808:=by
  have:128 ^ j<=128 ^ 9:=Nat.pow_le_pow_right (by omega) hj9
  rw [pow9] at this; omega
 repeat refine xQ ?_
 refine xG rfl ?_
 refine xP rfl rh rfl ?_
 refine xN ?_
 repeat refine xQ ?_
 refine xC rfl (fun hc=>?_) (fun hc=>?_)
 ·have hc:=lt_of hc
  have hjn:j < bs.length:=by omega
  have hcb:bs[j].toNat < 256:=bs[j].toNat_lt
  have hd:bs.drop j=bs[j]::bs.drop (j+1):=List.drop_eq_getElem_cons hjn
  rw [hd] at hg
  unfold gGo at hg
  refine LS.skip ?_
  repeat refine xQ ?_
  refine LS.block ?_
  repeat refine xQ ?_
  refine xG rfl ?_
  refine xP rfl rh rfl ?_
  refine OS.at1 (j:=j) hb (byteCells_get (List.getElem?_eq_getElem hjn)) rfl rfl rfl rfl rfl rfl (fun r0 o0 row0 cs0 m0 c0 g0=>?_)
  refine ⟨_,rfl,?_⟩
  refine xR rfl (e_loadm m0 c0 rfl rfl (part_one rfl g0)) rfl ?_
  iterate 2 refine xP rfl rh rfl ?_
  refine xN ?_
  by_cases h9:j=9/\1 < bs[j].toNat
  ·rw [if_pos h9] at hg
   have hb1:ieqB (j:Int) 9=true:=by rw [ieqB_eq]; simp; omega
   have hb2:(!ileB (bs[j].toNat:Int) 1)=true:=by rw [ileB_eq]; simp; omega
   repeat refine xQ ?_
   refine xG rfl ?_
   refine xP rfl rh rfl ?_
   refine xP rfl (e_ib rh (hb1)) rfl ?_
   iterate 2 refine xP rfl rh rfl ?_
   refine xP rfl (e_ib rh (hb2)) rfl ?_
   refine xP rfl rh rfl ?_
   refine xN ?_
   refine xC rfl (fun hc=>?_) (fun hc=>by cases hc)
   repeat refine xQ ?_
   refine xG rfl ?_
   iterate 2 refine xP rfl rh rfl ?_
   refine xN ?_
   refine xT ⟨_,fun _ _=>rfl,?_⟩
   rw [← hg]; exact ⟨rfl,rfl⟩
  rw [if_neg h9] at hg
  have hdig:bs[j].toNat % 128 * 128 ^ j<=9223372036854775808:=digit_le hj9 (fun h=>by omega)
  have he:(2:Nat) ^ (7 * j)=128 ^ j:=by rw [Nat.pow_mul]
  have hdig2:bs[j].toNat % 128 * 2 ^ (7 * j)<=9223372036854775808:=by rw [he]; exact hdig
  refine xQ ?_
  refine LS.mid [4,5,6,7,8,9] (fun a L2=>L2=L'/\a=[jn,jn,jn,jn,.int .u64 (u:Nat),.int .i64 (j:Nat),.int .u8 (bs[j].toNat:Nat),b,.int .i64 (n:Nat),.int .i64 (j:Nat),jn,jn,jn,jn,jn,jn,jn,jn,jn,jn,jn,jn,jn,jn,jn,jn,jn,jn,jn,jn,jn,jn,jn,jn,jn,jn,jn,jn,jn,jn]) ?_ ?_
  ·by_cases h9':j=9
   ·have hb1:ieqB (j:Int) 9=true:=by rw [ieqB_eq]; simp; omega
    have hb2:(!ileB (bs[j].toNat:Int) 1)=false:=by rw [ileB_eq]; simp; omega
    repeat refine xQ ?_
    refine xG rfl ?_
    refine xP rfl rh rfl ?_
    refine xP rfl (e_ib rh (hb1)) rfl ?_
    iterate 2 refine xP rfl rh rfl ?_
    refine xP rfl (e_ib rh (hb2)) rfl ?_
    refine xP rfl rh rfl ?_
    refine xN ?_
    refine xC rfl (fun hc=>by cases hc) (fun hc=>?_)
    refine LS.skip ?_
    exact ⟨rfl,rfl⟩
   ·have hb1:ieqB (j:Int) 9=false:=by rw [ieqB_eq]; simp; omega
    repeat refine xQ ?_
    refine xG rfl ?_
    refine xP rfl rh rfl ?_
    refine xP rfl (e_ib rh (hb1)) rfl ?_
    refine xP rfl rh rfl ?_
    iterate 2 refine xK rfl rfl ?_
    refine xP rfl rh rfl ?_
    refine xN ?_
    refine xC rfl (fun hc=>by cases hc) (fun hc=>?_)
    refine LS.skip ?_
    exact ⟨rfl,rfl⟩
  rintro a L' ⟨rfl,rfl⟩
  have hor:(u ||| bs[j].toNat % 128 * 2 ^ (7 * j))=u+bs[j].toNat % 128 * 128 ^ j:=or_digit hu
  repeat refine xQ ?_
  refine xG rfl ?_
  iterate 2 refine xP rfl rh rfl ?_
  refine xP rfl (e_rem (n:=128) rfl rfl rfl (by decide)) rfl ?_
  refine xP rfl (e_conv rfl rfl rfl rfl (in_u64 (by omega) (by omega))) rfl ?_
  refine xP rfl rh rfl ?_
  refine xP rfl (e_is (e_mul (m:=7) (n:=j) rfl rfl rfl (in_i64 (by omega) (by omega))) (congrArg (Value.int .i64) (show (7:Int) * (j:Int)=((7 * j:Nat):Int) by omega))) rfl ?_
  refine xP rfl (e_shl (s:=7 * j) rfl rfl rfl (by simp [IntKind.bits]; omega) (in_u64 (by omega) (by omega))) rfl ?_
  refine xP rfl (e_is (e_or rfl rfl rfl (by omega) (by omega)) (congrArg (fun x:Nat=>Value.int .u64 (x:Int)) hor)) rfl ?_
  refine xP rfl rh rfl ?_
  refine xN ?_
  refine xQ ?_
  by_cases h128:128<=bs[j].toNat
  ·rw [if_pos h128] at hg
   have hb1:ileB 128 (bs[j].toNat:Int)=true:=ileB_iff.2 (by omega)
   repeat refine xQ ?_
   refine xG rfl ?_
   refine xP rfl rh rfl ?_
   refine xP rfl (e_ib rh (hb1)) rfl ?_
   refine xN ?_
   refine xC rfl (fun hc=>?_) (fun hc=>by cases hc)
   refine LS.exit ?_
   repeat refine xQ ?_
   refine xG rfl ?_
   refine xP rfl (e_add rfl rfl rfl (in_i64 (by omega) (by omega))) rfl ?_
   refine xP rfl rh rfl ?_
   refine xN ?_
   have hj8:j≠9:=fun h=>h9 ⟨h,by omega⟩
   refine ⟨n - (j+1),by omega,j+1,_,rfl,by omega,by omega,?_,hg,rfl,rfl⟩
   have hpow:128 ^ (j+1)=128 ^ j * 128:=Nat.pow_succ ..
   have:bs[j].toNat % 128 * 128 ^ j<=127 * 128 ^ j:=Nat.mul_le_mul_right _ (by omega)
   omega
  rw [if_neg h128] at hg
  have hb1:ileB 128 (bs[j].toNat:Int)=false:=by rw [ileB_eq]; simp; omega
  repeat refine xQ ?_
  refine xG rfl ?_
  refine xP rfl rh rfl ?_
  refine xP rfl (e_ib rh (hb1)) rfl ?_
  refine xN ?_
  refine xC rfl (fun hc=>by cases hc) (fun hc=>?_)
  refine LS.skip ?_
  by_cases h0:bs[j].toNat=0/\0 < j
  ·rw [if_pos h0] at hg
   have hb2:ieqB (bs[j].toNat:Int) 0=true:=by rw [ieqB_eq]; simp; omega
   have hb3:(!ileB (j:Int) 0)=true:=by rw [ileB_eq]; simp; omega
   repeat refine xQ ?_
   refine xG rfl ?_
   refine xP rfl rh rfl ?_
   refine xP rfl (e_ib rh (hb2)) rfl ?_
   iterate 2 refine xP rfl rh rfl ?_
   refine xP rfl (e_ib rh (hb3)) rfl ?_
   refine xP rfl rh rfl ?_
   refine xN ?_
   refine xC rfl (fun hc=>?_) (fun hc=>by cases hc)
   repeat refine xQ ?_
   refine xG rfl ?_
   iterate 2 refine xP rfl rh rfl ?_
   refine xN ?_
   refine xT ⟨_,fun _ _=>rfl,?_⟩
   rw [← hg]; exact ⟨rfl,rfl⟩
  rw [if_neg h0] at hg
  refine xQ ?_
  refine LS.mid [4,5] (fun a L2=>L2=L'/\a=[jn,jn,jn,jn,.int .u64 (u+bs[j].toNat % 128 * 128 ^ j:Nat),.int .i64 (j:Nat),jn,jn,jn,jn,jn,jn,jn,jn,jn,jn,jn,jn,jn,jn,jn,jn,jn,jn,jn,jn,jn,jn,jn,jn,jn,jn,jn,jn,jn,jn,jn,jn,jn,jn]) ?_ ?_
  ·by_cases hz:bs[j].toNat=0
   ·have hb2:ieqB (bs[j].toNat:Int) 0=true:=by rw [ieqB_eq]; simp; omega
    have hb3:(!ileB (j:Int) 0)=false:=by rw [ileB_eq]; simp; omega
    repeat refine xQ ?_
    refine xG rfl ?_
    refine xP rfl rh rfl ?_
    refine xP rfl (e_ib rh (hb2)) rfl ?_
    iterate 2 refine xP rfl rh rfl ?_
    refine xP rfl (e_ib rh (hb3)) rfl ?_
    refine xP rfl rh rfl ?_
    refine xN ?_
    refine xC rfl (fun hc=>by cases hc) (fun hc=>?_)
    refine LS.skip ?_
    exact ⟨rfl,rfl⟩
   ·have hb2:ieqB (bs[j].toNat:Int) 0=false:=by rw [ieqB_eq]; simp; omega
    repeat refine xQ ?_
    refine xG rfl ?_
    refine xP rfl rh rfl ?_
    refine xP rfl (e_ib rh (hb2)) rfl ?_
    refine xP rfl rh rfl ?_
    iterate 2 refine xK rfl rfl ?_
    refine xP rfl rh rfl ?_
    refine xN ?_
    refine xC rfl (fun hc=>by cases hc) (fun hc=>?_)
    refine LS.skip ?_
    exact ⟨rfl,rfl⟩
  rintro a L' ⟨rfl,rfl⟩
  repeat refine xQ ?_
  refine xG rfl ?_
  iterate 2 refine xP rfl rh rfl ?_
  refine xP rfl (e_add rfl rfl rfl (in_i64 (by omega) (by omega))) rfl ?_
  iterate 2 refine xP rfl rh rfl ?_
  refine xN ?_
  refine xT ⟨_,fun _ _=>rfl,?_⟩
  rw [← hg]; exact ⟨rfl,rfl⟩
 ·have hc:=nlt_of hc
  have hjn:j=n:=by omega
  have hd:bs.drop j=[]:=List.drop_eq_nil_of_le (by omega)
  rw [hd] at hg
  refine LS.exit ?_
  repeat refine xQ ?_
  refine xG rfl ?_
  iterate 2 refine xP rfl rh rfl ?_
  refine xN ?_
  refine xT ⟨_,fun _ _=>rfl,?_⟩
  rw [← hg]; exact ⟨rfl,rfl⟩
theorem countAt_ct {L:RL} {b:Value} {bs:List UInt8} (most:Int) (h0:-9223372036854775808<=most) (h1:most<=9223372036854775807) (hb:OV L b bs) (hn:bs.length<=9223372036854775807) :
  CS Tryz.prog 149 [b,.int .i64 most] L fun v L'=>v=.tuple #[.int .i64 ((cAt bs most).1:Nat),.int .i64 ((cAt bs most).2:Nat)]/\L'=L:=by
 have hg:=gat_lt bs
 refine CS.mk (fn:=Tryz.f149) rfl rfl rfl rfl ?_
 repeat refine xQ ?_
 refine xG rfl ?_
 iterate 2 refine xP rfl rh rfl ?_
 refine xN ?_
 repeat refine xQ ?_
 refine xG rfl ?_
 refine xP rfl rh rfl ?_
 refine xA noGo rfl (fun _=>rfl) ((groupsAt_ct hb.sv hn).mono ?_)
 rintro v L' ⟨rfl,rfl⟩
 refine ⟨_,rfl,?_⟩
 iterate 5 refine xP rfl rh rfl ?_
 refine xN ?_
 by_cases hm:most < 0
 ·have hb1:(!ileB 0 most)=true:=by rw [ileB_eq]; simp; omega
  repeat refine xQ ?_
  refine xG rfl ?_
  refine xP rfl rh rfl ?_
  refine xP rfl (e_ib rh (hb1)) rfl ?_
  refine xP rfl rh rfl ?_
  iterate 5 refine xK rfl rfl ?_
  refine xP rfl rh rfl ?_
  refine xN ?_
  refine xC rfl (fun hc=>?_) (fun hc=>by cases hc)
  repeat refine xQ ?_
  refine xG rfl ?_
  iterate 2 refine xP rfl rh rfl ?_
  refine xN ?_
  refine xT ⟨_,fun _ _=>rfl,?_⟩
  rw [cAt_no (.inl hm)]; exact ⟨rfl,rfl⟩
 have hb1:(!ileB 0 most)=false:=by rw [ileB_eq]; simp; omega
 repeat refine xQ ?_
 refine xG rfl ?_
 refine xP rfl rh rfl ?_
 refine xP rfl (e_ib rh (hb1)) rfl ?_
 iterate 3 refine xP rfl rh rfl ?_
 refine xP rfl (e_min rfl rfl rfl) rfl ?_
 refine xP rfl (e_conv rfl rfl rfl rfl (in_u64 (by omega) (by omega))) rfl ?_
 iterate 2 refine xP rfl rh rfl ?_
 refine xN ?_
 refine xC (b:=!ileB ((gat bs).1:Int) (min most 2147483647)) rfl (fun hc=>?_) (fun hc=>?_)
 ·have hc:=lt_of hc
  repeat refine xQ ?_
  refine xG rfl ?_
  iterate 2 refine xP rfl rh rfl ?_
  refine xN ?_
  refine xT ⟨_,fun _ _=>rfl,?_⟩
  rw [cAt_no (by omega)]; exact ⟨rfl,rfl⟩
 ·have hc:=nlt_of hc
  refine LS.skip ?_
  repeat refine xQ ?_
  refine xG rfl ?_
  refine xP rfl rh rfl ?_
  refine xP rfl (e_conv rfl rfl rfl rfl (in_i64 (by omega) (by omega))) rfl ?_
  iterate 3 refine xP rfl rh rfl ?_
  refine xN ?_
  refine xT ⟨_,fun _ _=>rfl,?_⟩
  rw [cAt_yes (by omega) (by omega) (by omega)]; exact ⟨rfl,rfl⟩
theorem strAt_ct {L:RL} {b:Value} {bs:List UInt8} (most:Int) (h0:-9223372036854775808<=most) (h1:most<=9223372036854775807) (hb:OV L b bs) (hn:bs.length<=9223372036854775807) :
  CS Tryz.prog 152 [b,.int .i64 most] L fun v L'=>v=.tuple #[.string ⟨⟨(sAt bs most).1⟩⟩,.int .i64 ((sAt bs most).2:Nat)]/\L'=L:=by
 obtain ⟨hc1,hc2,hc3⟩:=cAt_le bs most
 have hse:=sAt_eq (bs:=bs) (most:=most) (m:=(cAt bs most).1) (hd:=(cAt bs most).2) rfl
 generalize hmm:(cAt bs most).1=m at *
 generalize hhd:(cAt bs most).2=hd at *
 refine CS.mk (fn:=Tryz.f152) rfl rfl rfl rfl ?_
 repeat refine xQ ?_
 refine xG rfl ?_
 iterate 2 refine xP rfl rh rfl ?_
 refine xN ?_
 repeat refine xQ ?_
 refine xG rfl ?_
 iterate 2 refine xP rfl rh rfl ?_
 refine xA noGo rfl (fun _=>rfl) ((countAt_ct most h0 h1 hb hn).mono ?_)
 rintro v L' ⟨rfl,rfl⟩
 rw [hmm,hhd]
 refine ⟨_,rfl,?_⟩
 iterate 5 refine xP rfl rh rfl ?_
 refine xN ?_
 by_cases hz:hd=0
 ·have hb1:ieqB (hd:Int) 0=true:=by rw [ieqB_eq]; simp; omega
  repeat refine xQ ?_
  refine xG rfl ?_
  refine xP rfl rh rfl ?_
  refine xP rfl (e_ib rh (hb1)) rfl ?_
  refine xP rfl rh rfl ?_
  iterate 6 refine xK rfl rfl ?_
  refine xP rfl rh rfl ?_
  refine xN ?_
  refine xC rfl (fun hc=>?_) (fun hc=>by cases hc)
  repeat refine xQ ?_
  refine xG rfl ?_
  iterate 2 refine xP rfl rh rfl ?_
  refine xN ?_
  refine xT ⟨_,fun _ _=>rfl,?_⟩
  rw [hse,if_pos (.inl hz)]; exact ⟨rfl,rfl⟩
 have hb1:ieqB (hd:Int) 0=false:=by rw [ieqB_eq]; simp; omega
 repeat refine xQ ?_
 refine xG rfl ?_
 refine xP rfl rh rfl ?_
 refine xP rfl (e_ib rh (hb1)) rfl ?_
 iterate 3 refine xP rfl rh rfl ?_
 refine xP rfl (e_len hb.sv rfl rfl rfl rfl rfl) rfl ?_
 refine xP rfl rh rfl ?_
 refine xP rfl (e_sub (m:=(bs.length:Nat)) (n:=(hd:Nat)) rfl rfl rfl (in_i64 (by omega) (by omega))) rfl ?_
 iterate 2 refine xP rfl rh rfl ?_
 refine xN ?_
 refine xC (b:=!ileB (m:Int) ((bs.length:Int) - hd)) rfl (fun hc=>?_) (fun hc=>?_)
 ·have hc:=lt_of hc
  repeat refine xQ ?_
  refine xG rfl ?_
  iterate 2 refine xP rfl rh rfl ?_
  refine xN ?_
  refine xT ⟨_,fun _ _=>rfl,?_⟩
  rw [hse,if_pos (.inr (by omega))]; exact ⟨rfl,rfl⟩
 ·have hc:=nlt_of hc
  refine LS.skip ?_
  repeat refine xQ ?_
  refine xG rfl ?_
  iterate 4 refine xP rfl rh rfl ?_
  refine xP rfl (e_is (e_add (m:=(hd:Nat)) (n:=(m:Nat)) rfl rfl rfl (in_i64 (by omega) (by omega))) (congrArg (Value.int .i64) (show (hd:Int)+(m:Int)=((hd+m:Nat):Int) by omega))) rfl ?_
  refine OS.cutB (l:=hd) (u:=hd+m) hb rfl rfl rfl rfl rfl bound_nat bound_nat rfl rfl (by omega) (by omega) (fun v' hv'=>?_)
  refine ⟨_,rfl,?_⟩
  refine xR rfl (e_textSV hv'.sv rfl rfl rfl rfl rfl) rfl ?_
  iterate 2 refine xP rfl rh rfl ?_
  refine xP rfl (e_is (e_add (m:=(hd:Nat)) (n:=(m:Nat)) rfl rfl rfl (in_i64 (by omega) (by omega))) (congrArg (Value.int .i64) (show (hd:Int)+(m:Int)=((hd+m:Nat):Int) by omega))) rfl ?_
  iterate 2 refine xP rfl rh rfl ?_
  refine xN ?_
  refine xT ⟨_,fun _ _=>rfl,?_⟩
  rw [hse,if_neg (by omega)]
  exact ⟨by rw [show hd+m - hd=m by omega]; rfl,rfl⟩
theorem flagAt_ct {L:RL} {b:Value} {bs:List UInt8} (hb:OV L b bs) :
  CS Tryz.prog 146 [b] L fun v L'=>v=.tuple #[.bool (fAt bs).1,.int .i64 ((fAt bs).2:Nat)]/\L'=L:=by
 refine CS.mk (fn:=Tryz.f146) rfl rfl rfl rfl ?_
 repeat refine xQ ?_
 refine xG rfl ?_
 iterate 2 refine xP rfl rh rfl ?_
 refine xN ?_
 cases bs with
 | nil =>
  repeat refine xQ ?_
  refine xG rfl ?_
  refine xP rfl rh rfl ?_
  refine xP rfl (e_len hb.sv rfl rfl rfl rfl rfl) rfl ?_
  iterate 2 refine xP rfl rh rfl ?_
  iterate 4 refine xK rfl rfl ?_
  refine xP rfl rh rfl ?_
  refine xN ?_
  refine xC rfl (fun hc=>?_) (fun hc=>by cases hc)
  repeat refine xQ ?_
  refine xG rfl ?_
  iterate 2 refine xP rfl rh rfl ?_
  refine xN ?_
  refine xT ⟨_,fun _ _=>rfl,?_⟩
  exact ⟨rfl,rfl⟩
 | cons c bs =>
  have hb1:ieqB (((c::bs).length:Nat):Int) 0=false:=by rw [ieqB_eq]; simp; omega
  have hget:(byteCells (c::bs))[0]?=some (.int .u8 (c.toNat:Int)):=rfl
  repeat refine xQ ?_
  refine xG rfl ?_
  refine xP rfl rh rfl ?_
  refine xP rfl (e_len hb.sv rfl rfl rfl rfl rfl) rfl ?_
  refine xP rfl (e_ib rh (hb1)) rfl ?_
  iterate 2 refine xP rfl rh rfl ?_
  refine OS.at1 (j:=0) hb.sv hget rfl rfl rfl rfl rfl rfl (fun r0 o0 row0 cs0 m0 c0 g0=>?_)
  refine ⟨_,rfl,?_⟩
  refine xR rfl (e_loadm m0 c0 rfl rfl (part_one rfl g0)) rfl ?_
  iterate 2 refine xP rfl rh rfl ?_
  refine xN ?_
  refine xC (b:=!ileB (c.toNat:Int) 1) rfl (fun hc=>?_) (fun hc=>?_)
  ·have hc:=lt_of hc
   repeat refine xQ ?_
   refine xG rfl ?_
   iterate 2 refine xP rfl rh rfl ?_
   refine xN ?_
   refine xT ⟨_,fun _ _=>rfl,?_⟩
   refine ⟨?_,rfl⟩
   simp only [fAt]
   rw [if_pos (by omega)]; rfl
  ·have hc:=nlt_of hc
   refine LS.skip ?_
   repeat refine xQ ?_
   refine xG rfl ?_
   refine xP rfl rh rfl ?_
   refine OS.at1 (j:=0) hb.sv hget rfl rfl rfl rfl rfl rfl (fun r0 o0 row0 cs0 m0 c0 g0=>?_)
   refine ⟨_,rfl,?_⟩
   refine xR rfl (e_loadm m0 c0 rfl rfl (part_one rfl g0)) rfl ?_
   have he:ieqB (c.toNat:Int) 1=(c == 1):=by
    rw [ieqB_eq]
    by_cases h:c=1
    ·subst h; rfl
    ·have:c.toNat≠1:=fun hh=>h (UInt8.toNat_inj.1 hh)
     have h1:((c.toNat:Int) == 1)=false:=by simpa using (show ¬ (c.toNat:Int)=1 by omega)
     rw [h1]; simp [h]
   refine xP rfl (e_ib rh (he)) rfl ?_
   iterate 2 refine xP rfl rh rfl ?_
   refine xN ?_
   refine xT ⟨_,fun _ _=>rfl,?_⟩
   refine ⟨?_,rfl⟩
   simp only [fAt]
   rw [if_neg (by omega)]; rfl
abbrev St:=List UInt8 × Bool
def tk {α:Type} (z t:α) (k:Nat) (s:St):α × St:=if s.2=true then (z,s) else if k=0 then (z,([],true)) else (t,(s.1.drop k,false))
theorem tk_none {α:Type} {z t:α} {bs:List UInt8}:tk z t 0 (bs,false)=(z,([],true)):=rfl
theorem tk_some {α:Type} {z t:α} {k:Nat} {bs:List UInt8} (h:k≠0):tk z t k (bs,false)=(t,(bs.drop k,false)):=by unfold tk; rw [if_neg (by simp),if_neg h]
abbrev txt (s:List UInt8):Value:=.string ⟨⟨s⟩⟩
theorem fAt_len (bs:List UInt8):(fAt bs).2<=bs.length:=by
 cases bs with
 | nil=>simp [fAt]
 | cons c bs=>simp only [fAt]; split <;> simp
theorem sAt_len (bs:List UInt8) (most:Int):(sAt bs most).2<=bs.length:=by
 unfold sAt
 split
 ·simp
 ·simp only; omega
abbrev rdRowOf (v:Value) (f:Bool):ARow:=.cells 165 [v,.bool f]
def RDR (M:RL) (r:Nat) (s:St) (L:RL):Prop:=∃ v,L=(r,rdRowOf v s.2)::M/\OV M v s.1
theorem whole_ct {M:RL} {r:Nat} {v:Value} {f:Bool}:CS Tryz.prog 124 [.pointer (some ⟨r,0,none⟩)] ((r,rdRowOf v f)::M) fun v' L'=>v'=.bool (!f)/\L'=(r,rdRowOf v f)::M:=by
 refine CS.mk (fn:=Tryz.f124) rfl rfl rfl rfl ?_
 repeat refine xQ ?_
 refine xG rfl ?_
 refine xP rfl rh rfl ?_
 refine xN ?_
 repeat refine xQ ?_
 refine xG rfl ?_
 iterate 3 refine xP rfl rh rfl ?_
 refine xR rfl (e_load 0 rfl rfl rfl rfl rfl) rfl ?_
 iterate 2 refine xP rfl rh rfl ?_
 refine xN ?_
 refine xT ⟨_,fun _ _=>rfl,?_⟩
 exact ⟨rfl,rfl⟩
theorem left_ct {M:RL} {r:Nat} {v:Value} {f:Bool} {bs:List UInt8} (hv:OV M v bs):CS Tryz.prog 127 [.pointer (some ⟨r,0,none⟩)] ((r,rdRowOf v f)::M) fun v' L'=>v'=.int .i64 (bs.length:Nat)/\L'=(r,rdRowOf v f)::M:=by
 refine CS.mk (fn:=Tryz.f127) rfl rfl rfl rfl ?_
 repeat refine xQ ?_
 refine xG rfl ?_
 refine xP rfl rh rfl ?_
 refine xN ?_
 repeat refine xQ ?_
 refine xG rfl ?_
 iterate 3 refine xP rfl rh rfl ?_
 refine xR rfl (e_load 0 rfl rfl rfl rfl rfl) rfl ?_
 refine xP rfl (e_len hv.sv rfl rfl rfl rfl rfl) rfl ?_
 refine xP rfl rh rfl ?_
 refine xN ?_
 refine xT ⟨_,fun _ _=>rfl,?_⟩
 exact ⟨rfl,rfl⟩
theorem OK_ct {M:RL} {r:Nat} {v:Value} {f:Bool}:CS Tryz.prog 94 [.pointer (some ⟨r,0,none⟩)] ((r,rdRowOf v f)::M) fun v' L'=>v'=.bool (!f)/\L'=(r,rdRowOf v f)::M:=by
 refine CS.mk (fn:=Tryz.f94) rfl rfl rfl rfl ?_
 repeat refine xQ ?_
 refine xG rfl ?_
 refine xP rfl rh rfl ?_
 refine xN ?_
 repeat refine xQ ?_
 refine xG rfl ?_
 iterate 6 refine xP rfl rh rfl ?_
 refine xA noGo rfl (fun _=>rfl) ((whole_ct).mono ?_)
 rintro v' L' ⟨rfl,rfl⟩
 refine ⟨_,rfl,?_⟩
 iterate 2 refine xP rfl rh rfl ?_
 refine xN ?_
 refine xT ⟨_,fun _ _=>rfl,?_⟩
 exact ⟨rfl,rfl⟩
theorem Left_ct {M:RL} {r:Nat} {v:Value} {f:Bool} {bs:List UInt8} (hv:OV M v bs):CS Tryz.prog 96 [.pointer (some ⟨r,0,none⟩)] ((r,rdRowOf v f)::M) fun v' L'=>v'=.int .i64 (bs.length:Nat)/\L'=(r,rdRowOf v f)::M:=by
 refine CS.mk (fn:=Tryz.f96) rfl rfl rfl rfl ?_
 repeat refine xQ ?_
 refine xG rfl ?_
 refine xP rfl rh rfl ?_
 refine xN ?_
 repeat refine xQ ?_
 refine xG rfl ?_
 iterate 2 refine xP rfl rh rfl ?_
 refine xN ?_
 refine xC rfl (fun hc=>by cases hc) (fun hc=>?_)
 refine LS.skip ?_
 repeat refine xQ ?_
 refine xG rfl ?_
 iterate 3 refine xP rfl rh rfl ?_
 refine xA noGo rfl (fun _=>rfl) ((left_ct hv).mono ?_)
 rintro v' L' ⟨rfl,rfl⟩
 refine ⟨_,rfl,?_⟩
 refine xP rfl rh rfl ?_
 refine xN ?_
 refine xT ⟨_,fun _ _=>rfl,?_⟩
 exact ⟨rfl,rfl⟩
theorem fail_ct {M:RL} {r:Nat} {v:Value} {f:Bool}:CS Tryz.prog 175 [.pointer (some ⟨r,0,none⟩)] ((r,rdRowOf v f)::M) fun v' L'=>L'=(r,rdRowOf (.slice none 0 0) true)::M:=by
 refine CS.mk (fn:=Tryz.f175) rfl rfl rfl rfl ?_
 repeat refine xQ ?_
 refine xG rfl ?_
 iterate 4 refine xP rfl rh rfl ?_
 refine OS.write rfl (e_store 0 rfl rfl rfl rfl rfl rfl rfl rfl) rfl ?_
 iterate 2 refine xP rfl rh rfl ?_
 refine OS.write rfl (e_store 0 rfl rfl rfl rfl rfl rfl rfl rfl) rfl ?_
 refine xN ?_
 exact ⟨_,fun _ _=>rfl,rfl⟩
theorem Count1_ct {L:RL} {b:Value} {bs:List UInt8} {rm:Nat} {most:Int} (h0:-9223372036854775808<=most) (h1:most<=9223372036854775807) (hm:(rm,.cells 3 [.int .i64 most])∈L) (hb:OV L b bs) (hn:bs.length<=9223372036854775807) :
  CS Tryz.prog 148 [b,.pointer (some ⟨rm,0,none⟩)] L fun v L'=>v=.tuple #[.int .i64 ((cAt bs most).1:Nat),.int .i64 ((cAt bs most).2:Nat)]/\L'=L:=by
 refine CS.mk (fn:=Tryz.f148) rfl rfl rfl rfl ?_
 repeat refine xQ ?_
 refine xG rfl ?_
 iterate 2 refine xP rfl rh rfl ?_
 refine xN ?_
 repeat refine xQ ?_
 refine xG rfl ?_
 refine xP rfl rh rfl ?_
 refine xR rfl (e_loadm hm rfl rfl rfl (part_one rfl rfl)) rfl ?_
 refine xA noGo rfl (fun _=>rfl) ((countAt_ct most h0 h1 hb hn).mono ?_)
 rintro v L' ⟨rfl,rfl⟩
 refine ⟨_,rfl,?_⟩
 iterate 4 refine xP rfl rh rfl ?_
 refine xN ?_
 refine xT ⟨_,fun _ _=>rfl,?_⟩
 exact ⟨rfl,rfl⟩
theorem Str1_ct {L:RL} {b:Value} {bs:List UInt8} {rm:Nat} {most:Int} (h0:-9223372036854775808<=most) (h1:most<=9223372036854775807) (hm:(rm,.cells 3 [.int .i64 most])∈L) (hb:OV L b bs) (hn:bs.length<=9223372036854775807) :
  CS Tryz.prog 151 [b,.pointer (some ⟨rm,0,none⟩)] L fun v L'=>v=.tuple #[.string ⟨⟨(sAt bs most).1⟩⟩,.int .i64 ((sAt bs most).2:Nat)]/\L'=L:=by
 refine CS.mk (fn:=Tryz.f151) rfl rfl rfl rfl ?_
 repeat refine xQ ?_
 refine xG rfl ?_
 iterate 2 refine xP rfl rh rfl ?_
 refine xN ?_
 repeat refine xQ ?_
 refine xG rfl ?_
 refine xP rfl rh rfl ?_
 refine xR rfl (e_loadm hm rfl rfl rfl (part_one rfl rfl)) rfl ?_
 refine xA noGo rfl (fun _=>rfl) ((strAt_ct most h0 h1 hb hn).mono ?_)
 rintro v L' ⟨rfl,rfl⟩
 refine ⟨_,rfl,?_⟩
 iterate 4 refine xP rfl rh rfl ?_
 refine xN ?_
 refine xT ⟨_,fun _ _=>rfl,?_⟩
 exact ⟨rfl,rfl⟩
theorem NewReader_ct {L:RL} {b:Value} {bs:List UInt8} (hb:SV 1 L b bs.length (byteCells bs)) (hn:bs.length<=400000000000) :
  CS Tryz.prog 92 [b] L fun v L'=>∃ r rb,v=.pointer (some ⟨r,0,none⟩)/\RDR ((rb,.cells 5 (byteCells bs))::L) r (bs,false) L':=by
 refine CS.mk (fn:=Tryz.f92) rfl rfl rfl rfl ?_
 repeat refine xQ ?_
 refine xG rfl ?_
 refine xP rfl rh rfl ?_
 refine xN ?_
 repeat refine xQ ?_
 refine xG rfl ?_
 refine xP rfl rh rfl ?_
 refine xA noGo rfl (fun _=>rfl) ((own_ct (room:=0) hb hn (by omega)).mono ?_)
 rintro v L' ⟨rb,rfl,rfl⟩
 refine ⟨_,rfl,?_⟩
 iterate 2 refine xP rfl rh rfl ?_
 refine OS.fresh rfl (e_new (fun _=>rfl) rfl) (fun _=>rfl) (fun r=>?_)
 refine xP rfl rh rfl ?_
 refine xN ?_
 refine xT ⟨_,fun _ _=>rfl,?_⟩
 exact ⟨r,rb,rfl,_,rfl,.inr ⟨rb,0,byteCells bs,rfl,List.mem_cons_self ..,cut_all (byteCells_len bs)⟩⟩
end Go.Proofs.YtlmmddfhoabjfaaGreat
namespace Go.Proofs.YtlmmddfhoabjfaaGreat.T
open Go.Am
def RDR (T M:RL) (r:Nat) (s:St) (L:RL):Prop:=∃ v,L=(r,rdRowOf v s.2)::M/\OV T v s.1
theorem e_cutB {P:Program} {o:Oper} {a:Slots} {T L:RL} {t:TypeId} {x:Operand} {lo hi:Option Operand} {lo' hi':Option Value} {v:Value} {l u:Nat} {bs:List UInt8} (hT:∀ p,p∈T->p∈L) (hs:OV T v bs) (ho:o.op=.slice t x lo hi none) (hx:aev a x=some v)
  (hlo:optEv a lo=some lo') (hhi:optEv a hi=some hi') (bl:boundB lo' 0=some l) (bu:boundB hi' bs.length=some u) (ht:P.underlying t=some (.slice 5)) (hz:sizeB P 5=some 1) (hu:u<=bs.length) (hl:l<=u) :
  ∃ v',OV T v' ((bs.drop l).take (u - l))/\∀ h,Has h L->opB P a o h=some (.val v' h):=by
 have hlen:((bs.drop l).take (u - l)).length=u - l:=by simp; omega
 rcases hs with ⟨rfl,rfl⟩ | ⟨r,off,C,rfl,hm,hc⟩
 ·have hu0:u=0:=by simpa using hu
  subst hu0
  have hl0:l=0:=by omega
  subst hl0
  refine ⟨.slice none 0 0,.inl ⟨rfl,by simp⟩,fun h _=>?_⟩
  have hm':optEv a none=some none:=rfl
  have hcb:Nat.beq 0 openCap=false:=beq_false (by decide)
  have h1:Nat.ble 0 (farB 0 0)=true:=rfl
  have h2:Nat.ble 0 0=true:=rfl
  have h3:rowOk h 5 none 0=true:=by unfold rowOk; rw [hcb]; rfl
  have bu':boundB hi' 0=some 0:=bu
  simp only [opB,ho,hx,hlo,hhi,hm',sliceB,ht,bu',bl,hz,h1,h2,h3,Bool.true_and,moved,hcb,ret]
 ·have hcut:cut C (off+l * 1) (u - l)=some (byteCells ((bs.drop l).take (u - l))):=by
   rw [Nat.mul_one]
   exact cut_cut hc (by rw [cut_bytes (by omega)])
  obtain ⟨i,hi⟩:=List.mem_iff_getElem?.1 (hT _ hm)
  exact ⟨.slice (some ⟨r,off+l * 1,none⟩) (u - l) openCap,.inr ⟨r,_,C,by rw [hlen],hm,by rw [hlen]; exact hcut⟩,e_slice i ho hx hlo hhi bl bu ht hz hu hl hi⟩
theorem OS.cutT {P:Program} {ops rest:List Oper} {o:Oper} {a:Slots} {T L:RL} {K:Slots->RL->Prop} {t:TypeId} {x:Operand} {lo hi:Option Operand} {lo' hi':Option Value} {v:Value} {l u:Nat} {bs:List UInt8} (hT:∀ p,p∈T->p∈L) (hs:OV T v bs) (hw:wantedB ops o a=true) (ho:o.op=.slice t x lo hi none) (hx:aev a x=some v)
  (hlo:optEv a lo=some lo') (hhi:optEv a hi=some hi') (bl:boundB lo' 0=some l) (bu:boundB hi' bs.length=some u) (ht:P.underlying t=some (.slice 5)) (hz:sizeB P 5=some 1) (hu:u<=bs.length) (hl:l<=u)
  (hk:∀ v',OV T v' ((bs.drop l).take (u - l))->∃ a₁,putAt a o.dst v'=some a₁/\OS P ops rest a₁ L K):OS P ops (o::rest) a L K:=by
 obtain ⟨v',h1,h2⟩:=e_cutB hT hs ho hx hlo hhi bl bu ht hz hu hl
 obtain ⟨a₁,ep,k⟩:=hk v' h1
 exact Am.xR hw h2 ep k
theorem OV.one {T:RL} {v:Value} {bs:List UInt8} (h:OV T v bs):allOne v.cells.toList=true/\v.cells.toList=[v]:=by
 rcases h with ⟨rfl,_⟩ | ⟨_,_,_,rfl,_⟩ <;> exact ⟨rfl,rfl⟩
theorem pass_ct {M:RL} {r k:Nat} {v:Value} {f:Bool} {bs:List UInt8} {T:RL} (hT:∀ p,p∈T->p∈M) (hv:OV T v bs) (hk:k<=bs.length):CS Tryz.prog 176 [.pointer (some ⟨r,0,none⟩),.int .i64 (k:Nat)] ((r,rdRowOf v f)::M) fun v' L'=>RDR T M r (bs.drop k,f) L':=by
 refine CS.mk (fn:=Tryz.f176) rfl rfl rfl rfl ?_
 repeat refine xQ ?_
 refine xG rfl ?_
 iterate 4 refine xP rfl rh rfl ?_
 refine xR rfl (e_load 0 rfl rfl rfl rfl rfl) rfl ?_
 refine xP rfl rh rfl ?_
 refine OS.cutT (l:=k) (u:=bs.length) (fun p hp=>List.mem_cons_of_mem _ (hT p hp)) hv rfl rfl rfl rfl rfl bound_nat rfl rfl rfl (by omega) hk (fun v' hv'=>?_)
 rw [List.take_of_length_le (by simp)] at hv'
 have hone:=OV.one hv'
 refine ⟨_,rfl,?_⟩
 iterate 2 refine xP rfl rh rfl ?_
 refine OS.write rfl (e_store 0 (n:=1) (cs':=[v',.bool f]) rfl rfl rfl rfl rfl (by rw [hone.1,hone.2]; rfl) (by rw [hone.2]; rfl) rfl) rfl ?_
 refine xN ?_
 exact ⟨_,fun _ _=>rfl,v',rfl,hv'⟩
theorem takeFlag_ct {M:RL} {r:Nat} {bs:List UInt8} {f:Bool} {v:Value} {T:RL} (hT:∀ p,p∈T->p∈M) (hv:OV T v bs) (hn:bs.length<=9223372036854775807) :
  CS Tryz.prog 145 [.pointer (some ⟨r,0,none⟩),.func (.func 146) #[] #[]] ((r,rdRowOf v f)::M) fun v' L'=>v'=.bool (tk false (fAt bs).1 (fAt bs).2 (bs,f)).1/\RDR T M r (tk false (fAt bs).1 (fAt bs).2 (bs,f)).2 L':=by
 have hkl:(fAt bs).2<=bs.length:=fAt_len bs
 have hvM:=(hv.mono hT).cons (x:=(r,rdRowOf v f))
 refine CS.mk (fn:=Tryz.f145) rfl rfl rfl rfl ?_
 repeat refine xQ ?_
 refine xG rfl ?_
 refine xP rfl rh rfl ?_
 refine xN ?_
 repeat refine xQ ?_
 refine xG rfl ?_
 refine xP rfl rh rfl ?_
 refine xN ?_
 repeat refine xQ ?_
 refine xG rfl ?_
 refine xP rfl rh rfl ?_
 refine xA noGo rfl (fun _=>rfl) ((OK_ct).mono ?_)
 rintro v' L' ⟨rfl,rfl⟩
 cases f with
 | true =>
  refine ⟨_,rfl,?_⟩
  refine xP rfl rh rfl ?_
  refine xN ?_
  refine xC rfl (fun hc=>?_) (fun hc=>by cases hc)
  repeat refine xQ ?_
  refine xG rfl ?_
  iterate 2 refine xP rfl rh rfl ?_
  refine xN ?_
  refine xT ⟨_,fun _ _=>rfl,?_⟩
  exact ⟨rfl,v,rfl,hv⟩
 | false =>
  refine ⟨_,rfl,?_⟩
  refine xP rfl rh rfl ?_
  refine xN ?_
  refine xC rfl (fun hc=>by cases hc) (fun hc=>?_)
  refine LS.skip ?_
  repeat refine xQ ?_
  refine xG rfl ?_
  iterate 5 refine xP rfl rh rfl ?_
  refine xR rfl (e_load 0 rfl rfl rfl rfl rfl) rfl ?_
  refine xA noGo rfl (fun _=>rfl) ((flagAt_ct hvM).mono ?_)
  rintro v' L' ⟨rfl,rfl⟩
  refine ⟨_,rfl,?_⟩
  iterate 5 refine xP rfl rh rfl ?_
  refine xN ?_
  by_cases hz:(fAt bs).2=0
  ·have hb1:ieqB (((fAt bs).2:Nat):Int) 0=true:=by rw [ieqB_eq]; simp; omega
   repeat refine xQ ?_
   refine xG rfl ?_
   refine xP rfl rh rfl ?_
   refine xP rfl (e_ib rh (hb1)) rfl ?_
   refine xN ?_
   refine xC rfl (fun hc=>?_) (fun hc=>by cases hc)
   repeat refine xQ ?_
   refine xG rfl ?_
   iterate 3 refine xP rfl rh rfl ?_
   refine xA noGo rfl (fun _=>rfl) ((fail_ct).mono ?_)
   rintro v' L' rfl
   refine ⟨_,rfl,?_⟩
   refine xN ?_
   repeat refine xQ ?_
   refine xG rfl ?_
   iterate 2 refine xP rfl rh rfl ?_
   refine xN ?_
   refine xT ⟨_,fun _ _=>rfl,?_⟩
   rw [hz,tk_none]
   exact ⟨rfl,_,rfl,.inl ⟨rfl,rfl⟩⟩
  ·have hb1:ieqB (((fAt bs).2:Nat):Int) 0=false:=by rw [ieqB_eq]; simp; omega
   repeat refine xQ ?_
   refine xG rfl ?_
   refine xP rfl rh rfl ?_
   refine xP rfl (e_ib rh (hb1)) rfl ?_
   refine xN ?_
   refine xC rfl (fun hc=>by cases hc) (fun hc=>?_)
   refine LS.skip ?_
   repeat refine xQ ?_
   refine xG rfl ?_
   iterate 4 refine xP rfl rh rfl ?_
   refine xA noGo rfl (fun _=>rfl) ((pass_ct (k:=(fAt bs).2) hT hv hkl).mono ?_)
   rintro v' L' hr
   refine ⟨_,rfl,?_⟩
   refine xN ?_
   repeat refine xQ ?_
   refine xG rfl ?_
   iterate 2 refine xP rfl rh rfl ?_
   refine xN ?_
   refine xT ⟨_,fun _ _=>rfl,?_⟩
   rw [tk_some hz]
   exact ⟨rfl,hr⟩
theorem takeCount_ct {M:RL} {r:Nat} {bs:List UInt8} {f:Bool} {v:Value} {rm:Nat} {most:Int} (h0:-9223372036854775808<=most) (h1:most<=9223372036854775807) (hm:(rm,.cells 3 [.int .i64 most])∈M) {T:RL} (hT:∀ p,p∈T->p∈M) (hv:OV T v bs) (hn:bs.length<=9223372036854775807) :
  CS Tryz.prog 147 [.pointer (some ⟨r,0,none⟩),.func (.func 148) #[] #[.pointer (some ⟨rm,0,none⟩)]] ((r,rdRowOf v f)::M) fun v' L'=>v'=.int .i64 (tk (0:Int) ((cAt bs most).1:Int) (cAt bs most).2 (bs,f)).1/\RDR T M r (tk (0:Int) ((cAt bs most).1:Int) (cAt bs most).2 (bs,f)).2 L':=by
 have hkl:(cAt bs most).2<=bs.length:=(cAt_le bs most).2.2
 have hvM:=(hv.mono hT).cons (x:=(r,rdRowOf v f))
 refine CS.mk (fn:=Tryz.f147) rfl rfl rfl rfl ?_
 repeat refine xQ ?_
 refine xG rfl ?_
 refine xP rfl rh rfl ?_
 refine xN ?_
 repeat refine xQ ?_
 refine xG rfl ?_
 refine xP rfl rh rfl ?_
 refine xN ?_
 repeat refine xQ ?_
 refine xG rfl ?_
 refine xP rfl rh rfl ?_
 refine xA noGo rfl (fun _=>rfl) ((OK_ct).mono ?_)
 rintro v' L' ⟨rfl,rfl⟩
 cases f with
 | true =>
  refine ⟨_,rfl,?_⟩
  refine xP rfl rh rfl ?_
  refine xN ?_
  refine xC rfl (fun hc=>?_) (fun hc=>by cases hc)
  repeat refine xQ ?_
  refine xG rfl ?_
  iterate 2 refine xP rfl rh rfl ?_
  refine xN ?_
  refine xT ⟨_,fun _ _=>rfl,?_⟩
  exact ⟨rfl,v,rfl,hv⟩
 | false =>
  refine ⟨_,rfl,?_⟩
  refine xP rfl rh rfl ?_
  refine xN ?_
  refine xC rfl (fun hc=>by cases hc) (fun hc=>?_)
  refine LS.skip ?_
  repeat refine xQ ?_
  refine xG rfl ?_
  iterate 5 refine xP rfl rh rfl ?_
  refine xR rfl (e_load 0 rfl rfl rfl rfl rfl) rfl ?_
  refine xA noGo rfl (fun _=>rfl) ((Count1_ct h0 h1 (List.mem_cons_of_mem _ hm) hvM hn).mono ?_)
  rintro v' L' ⟨rfl,rfl⟩
  refine ⟨_,rfl,?_⟩
  iterate 5 refine xP rfl rh rfl ?_
  refine xN ?_
  by_cases hz:(cAt bs most).2=0
  ·have hb1:ieqB (((cAt bs most).2:Nat):Int) 0=true:=by rw [ieqB_eq]; simp; omega
   repeat refine xQ ?_
   refine xG rfl ?_
   refine xP rfl rh rfl ?_
   refine xP rfl (e_ib rh (hb1)) rfl ?_
   refine xN ?_
   refine xC rfl (fun hc=>?_) (fun hc=>by cases hc)
   repeat refine xQ ?_
   refine xG rfl ?_
   iterate 3 refine xP rfl rh rfl ?_
   refine xA noGo rfl (fun _=>rfl) ((fail_ct).mono ?_)
   rintro v' L' rfl
   refine ⟨_,rfl,?_⟩
   refine xN ?_
   repeat refine xQ ?_
   refine xG rfl ?_
   iterate 2 refine xP rfl rh rfl ?_
   refine xN ?_
   refine xT ⟨_,fun _ _=>rfl,?_⟩
   rw [hz,tk_none]
   exact ⟨rfl,_,rfl,.inl ⟨rfl,rfl⟩⟩
  ·have hb1:ieqB (((cAt bs most).2:Nat):Int) 0=false:=by rw [ieqB_eq]; simp; omega
   repeat refine xQ ?_
   refine xG rfl ?_
   refine xP rfl rh rfl ?_
   refine xP rfl (e_ib rh (hb1)) rfl ?_
   refine xN ?_
   refine xC rfl (fun hc=>by cases hc) (fun hc=>?_)
   refine LS.skip ?_
   repeat refine xQ ?_
   refine xG rfl ?_
   iterate 4 refine xP rfl rh rfl ?_
   refine xA noGo rfl (fun _=>rfl) ((pass_ct (k:=(cAt bs most).2) hT hv hkl).mono ?_)
   rintro v' L' hr
   refine ⟨_,rfl,?_⟩
   refine xN ?_
   repeat refine xQ ?_
   refine xG rfl ?_
   iterate 2 refine xP rfl rh rfl ?_
   refine xN ?_
   refine xT ⟨_,fun _ _=>rfl,?_⟩
   rw [tk_some hz]
   exact ⟨rfl,hr⟩
theorem takeStr_ct {M:RL} {r:Nat} {bs:List UInt8} {f:Bool} {v:Value} {rm:Nat} {most:Int} (h0:-9223372036854775808<=most) (h1:most<=9223372036854775807) (hm:(rm,.cells 3 [.int .i64 most])∈M) {T:RL} (hT:∀ p,p∈T->p∈M) (hv:OV T v bs) (hn:bs.length<=9223372036854775807) :
  CS Tryz.prog 150 [.pointer (some ⟨r,0,none⟩),.func (.func 151) #[] #[.pointer (some ⟨rm,0,none⟩)]] ((r,rdRowOf v f)::M) fun v' L'=>v'=txt (tk ([]:List UInt8) (sAt bs most).1 (sAt bs most).2 (bs,f)).1/\RDR T M r (tk ([]:List UInt8) (sAt bs most).1 (sAt bs most).2 (bs,f)).2 L':=by
 have hkl:(sAt bs most).2<=bs.length:=sAt_len bs most
 have hvM:=(hv.mono hT).cons (x:=(r,rdRowOf v f))
 refine CS.mk (fn:=Tryz.f150) rfl rfl rfl rfl ?_
 repeat refine xQ ?_
 refine xG rfl ?_
 refine xP rfl rh rfl ?_
 refine xN ?_
 repeat refine xQ ?_
 refine xG rfl ?_
 refine xP rfl rh rfl ?_
 refine xN ?_
 repeat refine xQ ?_
 refine xG rfl ?_
 refine xP rfl rh rfl ?_
 refine xA noGo rfl (fun _=>rfl) ((OK_ct).mono ?_)
 rintro v' L' ⟨rfl,rfl⟩
 cases f with
 | true =>
  refine ⟨_,rfl,?_⟩
  refine xP rfl rh rfl ?_
  refine xN ?_
  refine xC rfl (fun hc=>?_) (fun hc=>by cases hc)
  repeat refine xQ ?_
  refine xG rfl ?_
  iterate 2 refine xP rfl rh rfl ?_
  refine xN ?_
  refine xT ⟨_,fun _ _=>rfl,?_⟩
  exact ⟨rfl,v,rfl,hv⟩
 | false =>
  refine ⟨_,rfl,?_⟩
  refine xP rfl rh rfl ?_
  refine xN ?_
  refine xC rfl (fun hc=>by cases hc) (fun hc=>?_)
  refine LS.skip ?_
  repeat refine xQ ?_
  refine xG rfl ?_
  iterate 5 refine xP rfl rh rfl ?_
  refine xR rfl (e_load 0 rfl rfl rfl rfl rfl) rfl ?_
  refine xA noGo rfl (fun _=>rfl) ((Str1_ct h0 h1 (List.mem_cons_of_mem _ hm) hvM hn).mono ?_)
  rintro v' L' ⟨rfl,rfl⟩
  refine ⟨_,rfl,?_⟩
  iterate 5 refine xP rfl rh rfl ?_
  refine xN ?_
  by_cases hz:(sAt bs most).2=0
  ·have hb1:ieqB (((sAt bs most).2:Nat):Int) 0=true:=by rw [ieqB_eq]; simp; omega
   repeat refine xQ ?_
   refine xG rfl ?_
   refine xP rfl rh rfl ?_
   refine xP rfl (e_ib rh (hb1)) rfl ?_
   refine xN ?_
   refine xC rfl (fun hc=>?_) (fun hc=>by cases hc)
   repeat refine xQ ?_
   refine xG rfl ?_
   iterate 3 refine xP rfl rh rfl ?_
   refine xA noGo rfl (fun _=>rfl) ((fail_ct).mono ?_)
   rintro v' L' rfl
   refine ⟨_,rfl,?_⟩
   refine xN ?_
   repeat refine xQ ?_
   refine xG rfl ?_
   iterate 2 refine xP rfl rh rfl ?_
   refine xN ?_
   refine xT ⟨_,fun _ _=>rfl,?_⟩
   rw [hz,tk_none]
   exact ⟨rfl,_,rfl,.inl ⟨rfl,rfl⟩⟩
  ·have hb1:ieqB (((sAt bs most).2:Nat):Int) 0=false:=by rw [ieqB_eq]; simp; omega
   repeat refine xQ ?_
   refine xG rfl ?_
   refine xP rfl rh rfl ?_
   refine xP rfl (e_ib rh (hb1)) rfl ?_
   refine xN ?_
   refine xC rfl (fun hc=>by cases hc) (fun hc=>?_)
   refine LS.skip ?_
   repeat refine xQ ?_
   refine xG rfl ?_
   iterate 4 refine xP rfl rh rfl ?_
   refine xA noGo rfl (fun _=>rfl) ((pass_ct (k:=(sAt bs most).2) hT hv hkl).mono ?_)
   rintro v' L' hr
   refine ⟨_,rfl,?_⟩
   refine xN ?_
   repeat refine xQ ?_
   refine xG rfl ?_
   iterate 2 refine xP rfl rh rfl ?_
   refine xN ?_
   refine xT ⟨_,fun _ _=>rfl,?_⟩
   rw [tk_some hz]
   exact ⟨rfl,hr⟩
theorem RFlag_ct {M:RL} {r:Nat} {bs:List UInt8} {f:Bool} {v:Value} {T:RL} (hT:∀ p,p∈T->p∈M) (hv:OV T v bs) (hn:bs.length<=9223372036854775807) :
  CS Tryz.prog 119 [.pointer (some ⟨r,0,none⟩)] ((r,rdRowOf v f)::M) fun v' L'=>v'=.bool (tk false (fAt bs).1 (fAt bs).2 (bs,f)).1/\RDR T M r (tk false (fAt bs).1 (fAt bs).2 (bs,f)).2 L':=by
 refine CS.mk (fn:=Tryz.f119) rfl rfl rfl rfl ?_
 repeat refine xQ ?_
 refine xG rfl ?_
 refine xP rfl rh rfl ?_
 refine xN ?_
 repeat refine xQ ?_
 refine xG rfl ?_
 refine xP rfl rh rfl ?_
 refine xA noGo rfl (fun _=>rfl) ((takeFlag_ct hT hv hn).mono ?_)
 rintro v' L' ⟨rfl,hr⟩
 refine ⟨_,rfl,?_⟩
 refine xP rfl rh rfl ?_
 refine xN ?_
 refine xT ⟨_,fun _ _=>rfl,?_⟩
 exact ⟨rfl,hr⟩
theorem RCount_ct {M:RL} {r:Nat} {bs:List UInt8} {f:Bool} {v:Value} {most:Int} (h0:-9223372036854775808<=most) (h1:most<=9223372036854775807) {T:RL} (hT:∀ p,p∈T->p∈M) (hv:OV T v bs) (hn:bs.length<=9223372036854775807) :
  CS Tryz.prog 120 [.pointer (some ⟨r,0,none⟩),.int .i64 most] ((r,rdRowOf v f)::M) fun v' L'=>v'=.int .i64 (tk (0:Int) ((cAt bs most).1:Int) (cAt bs most).2 (bs,f)).1/\RDR T M r (tk (0:Int) ((cAt bs most).1:Int) (cAt bs most).2 (bs,f)).2 L':=by
 refine CS.mk (fn:=Tryz.f120) rfl rfl rfl rfl ?_
 repeat refine xQ ?_
 refine xG rfl ?_
 refine OS.fresh rfl (e_new (fun _=>rfl) rfl) (fun _=>rfl) (fun rm=>?_)
 refine xP rfl rh rfl ?_
 refine xN ?_
 repeat refine xQ ?_
 refine xG rfl ?_
 iterate 2 refine xP rfl rh rfl ?_
 refine OS.sub (Sub.pulls [1] rfl) ?_
 refine xA noGo rfl (fun _=>rfl) ((takeCount_ct (rm:=rm) h0 h1 (List.mem_cons_self ..) (fun p hp=>List.mem_cons_of_mem _ (hT p hp)) hv hn).mono ?_)
 rintro v' L' ⟨rfl,v2,rfl,hr⟩
 refine ⟨_,rfl,?_⟩
 refine xP rfl rh rfl ?_
 refine OS.sub (Sub.drop 1 rfl) ?_
 refine xN ?_
 refine xT ⟨_,fun _ _=>rfl,?_⟩
 exact ⟨rfl,v2,rfl,hr⟩
theorem RStr_ct {M:RL} {r:Nat} {bs:List UInt8} {f:Bool} {v:Value} {most:Int} (h0:-9223372036854775808<=most) (h1:most<=9223372036854775807) {T:RL} (hT:∀ p,p∈T->p∈M) (hv:OV T v bs) (hn:bs.length<=9223372036854775807) :
  CS Tryz.prog 122 [.pointer (some ⟨r,0,none⟩),.int .i64 most] ((r,rdRowOf v f)::M) fun v' L'=>v'=txt (tk ([]:List UInt8) (sAt bs most).1 (sAt bs most).2 (bs,f)).1/\RDR T M r (tk ([]:List UInt8) (sAt bs most).1 (sAt bs most).2 (bs,f)).2 L':=by
 refine CS.mk (fn:=Tryz.f122) rfl rfl rfl rfl ?_
 repeat refine xQ ?_
 refine xG rfl ?_
 refine OS.fresh rfl (e_new (fun _=>rfl) rfl) (fun _=>rfl) (fun rm=>?_)
 refine xP rfl rh rfl ?_
 refine xN ?_
 repeat refine xQ ?_
 refine xG rfl ?_
 iterate 2 refine xP rfl rh rfl ?_
 refine OS.sub (Sub.pulls [1] rfl) ?_
 refine xA noGo rfl (fun _=>rfl) ((takeStr_ct (rm:=rm) h0 h1 (List.mem_cons_self ..) (fun p hp=>List.mem_cons_of_mem _ (hT p hp)) hv hn).mono ?_)
 rintro v' L' ⟨rfl,v2,rfl,hr⟩
 refine ⟨_,rfl,?_⟩
 refine xP rfl rh rfl ?_
 refine OS.sub (Sub.drop 1 rfl) ?_
 refine xN ?_
 refine xT ⟨_,fun _ _=>rfl,?_⟩
 exact ⟨rfl,v2,rfl,hr⟩
end Go.Proofs.YtlmmddfhoabjfaaGreat.T
end
section
namespace Go.Proofs.YtlmmddfhoabjfaaGreat
open Go.Am
structure Nd where
 leaf:Bool
 ks:List (List UInt8)
 vs:List (List UInt8)
 kids:List Int
abbrev tx (ts:List (List UInt8)):List Value:=ts.map txt
abbrev nums (zs:List Int):List Value:=zs.map fun z=>Value.int .i64 z
def leT (x y:List UInt8):Bool:=bytesLt x y || bytesEq x y
def rise (last:List UInt8):List (List UInt8)->Bool
 | []=>true
 | k::r=>!leT k last && decide (k.length<=32) && rise k r
def mayN (n:Nd):Bool :=
 rise [] n.ks && (if n.leaf then decide (n.vs.length=n.ks.length) && decide (n.kids.length=0) && n.vs.all (fun v=>decide (v.length<=64))
  else decide (n.kids.length=n.ks.length+1) && decide (n.vs.length=0) && n.kids.all (fun z=>decide (0<=z/\z<=32768)))
def tB (s:List UInt8):List UInt8:=grp s.length++s
def zipB:List (List UInt8)->List (List UInt8)->List UInt8
 | k::ks,b::bs=>tB k++(b++zipB ks bs)
 | _,_=>[]
def behN (n:Nd):List (List UInt8):=if n.leaf then n.vs.map tB else n.kids.tail.map cnt
def firstN (n:Nd):List UInt8:=if n.leaf then [] else cnt (n.kids.headD 0)
def headN (n:Nd):List UInt8:=[if n.leaf then 1 else 0]++grp n.ks.length
def bodyN (n:Nd):List UInt8:=headN n++(firstN n++zipB n.ks (behN n))
def sizeN (n:Nd):Nat:=if mayN n=true then (bodyN n).length else 0
def fitsN (n:Nd):Bool:=mayN n && decide ((bodyN n).length<=256)
def errN (n:Nd):Int:=if mayN n=true then (if (bodyN n).length<=256 then 0 else 3) else 1
def encN (n:Nd):List UInt8:=if fitsN n=true then bodyN n++List.replicate (256 - (bodyN n).length) 0 else []
def belowN (key:List UInt8):List (List UInt8)->Nat
 | []=>0
 | k::ks=>if bytesLt k key=true then belowN key ks+1 else 0
def isN (key:List UInt8) (ks:List (List UInt8)):Bool:=decide (ks[belowN key ks]?=some key)
theorem tB_len {s:List UInt8} (h:s.length<=100):(tB s).length=s.length+1:=by
 unfold tB
 rw [grp_lt (by omega)]
 simp
theorem cnt_len {z:Int}:(cnt z).length<=10:=by
 unfold cnt
 split
 ·exact grp_len (by omega) (by omega)
 ·simp
theorem zipB_len:∀ {ks bs:List (List UInt8)},(∀ k∈ks,k.length<=100)->(∀ b∈bs,b.length<=100)->(zipB ks bs).length<=ks.length * 201
 | [],_,_,_=>by simp [zipB]
 | k::ks,[],_,_=>by simp [zipB]
 | k::ks,b::bs,h1,h2=>by
  have h3:=zipB_len (ks:=ks) (bs:=bs) (fun k hk=>h1 k (List.mem_cons_of_mem _ hk)) (fun b hb=>h2 b (List.mem_cons_of_mem _ hb))
  have h4:=h1 k (List.mem_cons_self ..)
  have h5:=h2 b (List.mem_cons_self ..)
  simp only [zipB,List.length_append,List.length_cons,tB_len h4]
  omega
theorem lt_irr:∀ x:List UInt8,bytesLt x x=false
 | []=>rfl
 | a::x=>by simp only [bytesLt,Nat.beq_refl]; exact lt_irr x
theorem beqn {m n:Nat}:Nat.beq m n=decide (m=n):=by
 by_cases h:m=n
 ·subst h; simp
 ·rw [decide_eq_false h]
  cases hb:Nat.beq m n
  ·rfl
  ·exact absurd (Nat.eq_of_beq_eq_true hb) h
theorem blen {m n:Nat}:Nat.ble m n=decide (m<=n):=by
 by_cases h:m<=n
 ·rw [decide_eq_true h]; exact Nat.ble_eq_true_of_le h
 ·rw [decide_eq_false h]
  cases hb:Nat.ble m n
  ·rfl
  ·exact absurd (Nat.le_of_ble_eq_true hb) h
theorem lt_cons {a b:UInt8} {x y:List UInt8}:bytesLt (a::x) (b::y)=true↔a.toNat < b.toNat∨(a=b/\bytesLt x y=true):=by
 simp only [bytesLt]
 rw [beqn]
 by_cases h:a.toNat=b.toNat
 ·have hab:a=b:=UInt8.toNat_inj.1 h
  subst hab
  simp
 ·have hab:a≠b:=fun hh=>h (by rw [hh])
  rw [decide_eq_false h,blen]
  simp [hab]
  omega
theorem lt_trans:∀ {x y z:List UInt8},bytesLt x y=true->bytesLt y z=true->bytesLt x z=true
 | _,[],_,h,_=>by cases ‹List UInt8› <;> simp [bytesLt] at h
 | [],_::_,z,_,h=>by cases z <;> simp [bytesLt] at h ⊢
 | a::x,b::y,[],_,h=>by simp [bytesLt] at h
 | a::x,b::y,c::z,h1,h2=>by
  rw [lt_cons] at *
  rcases h1 with h1 | ⟨rfl,h1⟩
  ·rcases h2 with h2 | ⟨rfl,h2⟩
   ·left; omega
   ·left; omega
  ·rcases h2 with h2 | ⟨rfl,h2⟩
   ·left; omega
   ·right; exact ⟨rfl,lt_trans h1 h2⟩
theorem lt_total:∀ {x y:List UInt8},bytesLt x y=true∨x=y∨bytesLt y x=true
 | [],[]=>.inr (.inl rfl)
 | [],_::_=>.inl rfl
 | _::_,[]=>.inr (.inr rfl)
 | a::x,b::y=>by
  rw [lt_cons,lt_cons]
  rcases Nat.lt_trichotomy a.toNat b.toNat with h | h | h
  ·exact .inl (.inl h)
  ·have hab:a=b:=UInt8.toNat_inj.1 h
   subst hab
   rcases lt_total (x:=x) (y:=y) with h | h | h
   ·exact .inl (.inr ⟨rfl,h⟩)
   ·exact .inr (.inl (by rw [h]))
   ·exact .inr (.inr (.inr ⟨rfl,h⟩))
  ·exact .inr (.inr (.inl h))
theorem beqT {x y:List UInt8}:bytesEq x y=decide (x=y):=by rw [bytesEq_eq]; by_cases h:x=y <;> simp [h]
theorem leT_iff {x y:List UInt8}:leT x y=true↔bytesLt x y=true∨x=y:=by unfold leT; rw [beqT]; simp
theorem nle_iff {x y:List UInt8}:leT x y=false↔bytesLt y x=true:=by
 constructor
 ·intro h
  rcases lt_total (x:=x) (y:=y) with h1 | h1 | h1
  ·rw [leT_iff.2 (.inl h1)] at h; cases h
  ·rw [leT_iff.2 (.inr h1)] at h; cases h
  ·exact h1
 ·intro h
  cases hl:leT x y with
  | false=>rfl
  | true =>
   rcases leT_iff.1 hl with h1 | rfl
   ·have:=lt_trans h h1; rw [lt_irr] at this; cases this
   ·rw [lt_irr] at h; cases h
theorem nlt_iff {x y:List UInt8}:bytesLt x y=false↔leT y x=true:=by
 constructor
 ·intro h
  cases hl:leT y x with
  | true=>rfl
  | false=>rw [nle_iff.1 hl] at h; cases h
 ·intro h
  cases hl:bytesLt x y with
  | false=>rfl
  | true=>rw [nle_iff.2 hl] at h; cases h
theorem rise_cons {l k:List UInt8} {r:List (List UInt8)}:rise l (k::r)=true↔bytesLt l k=true/\k.length<=32/\rise k r=true:=by
 simp only [rise,Bool.and_eq_true,Bool.not_eq_true',decide_eq_true_eq,nle_iff,and_assoc]
theorem rise_all {l:List UInt8}:∀ {ks:List (List UInt8)},rise l ks=true->∀ k∈ks,bytesLt l k=true/\1<=k.length/\k.length<=32
 | [],_,k,hk=>by cases hk
 | k::r,h,k',hk=>by
  obtain ⟨h1,h2,h3⟩:=rise_cons.1 h
  rcases List.mem_cons.1 hk with rfl | hk
  ·refine ⟨h1,?_,h2⟩
   cases k' with
   | nil=>cases l <;> simp [bytesLt] at h1
   | cons a b=>simp
  ·obtain ⟨g1,g2,g3⟩:=rise_all h3 k' hk
   exact ⟨lt_trans h1 g1,g2,g3⟩
theorem rise_weak {l l':List UInt8} (h:bytesLt l' l=true):∀ {ks:List (List UInt8)},rise l ks=true->rise l' ks=true
 | [],_=>rfl
 | k::r,hk=>by
  obtain ⟨h1,h2,h3⟩:=rise_cons.1 hk
  exact rise_cons.2 ⟨lt_trans h h1,h2,h3⟩
theorem below_le (key:List UInt8):∀ ks:List (List UInt8),belowN key ks<=ks.length
 | []=>Nat.le_refl _
 | k::ks=>by simp only [belowN]; split <;> simp; exact below_le key ks
theorem below_lt {key:List UInt8}:∀ {ks:List (List UInt8)} {i:Nat} {k:List UInt8},i < belowN key ks->ks[i]?=some k->bytesLt k key=true
 | [],i,k,h,_=>by simp [belowN] at h
 | c::ks,i,k,h,hk=>by
  simp only [belowN] at h
  split at h
  ·cases i with
   | zero=>simp at hk; subst hk; assumption
   | succ i=>exact below_lt (ks:=ks) (i:=i) (Nat.lt_of_succ_lt_succ h) (by simpa using hk)
  ·omega
theorem below_at {key:List UInt8}:∀ {ks:List (List UInt8)} {k:List UInt8},ks[belowN key ks]?=some k->bytesLt k key=false
 | [],k,h=>by simp at h
 | c::ks,k,h=>by
  simp only [belowN] at h
  split at h
  ·exact below_at (by simpa using h)
  ·rename_i hc
   simp at h
   subst h
   simpa using hc
theorem rise_after {l:List UInt8}:∀ {ks:List (List UInt8)} {i j:Nat} {a b:List UInt8},rise l ks=true->ks[i]?=some a->ks[j]?=some b->i < j->bytesLt a b=true
 | [],i,j,a,b,_,h,_,_=>by simp at h
 | k::ks,i,j,a,b,h,ha,hb,hij=>by
  obtain ⟨h1,h2,h3⟩:=rise_cons.1 h
  cases j with
  | zero=>omega
  | succ j =>
   have hb:ks[j]?=some b:=by simpa using hb
   cases i with
   | zero =>
    have ha:k=a:=by simpa using ha
    subst ha
    exact (rise_all h3 b (List.mem_of_getElem? hb)).1
   | succ i=>exact rise_after h3 (by simpa using ha) hb (by omega)
theorem below_iff {l key:List UInt8} {ks:List (List UInt8)} {i:Nat} {k:List UInt8} (h:rise l ks=true) (hk:ks[i]?=some k):bytesLt k key=decide (i < belowN key ks):=by
 by_cases hi:i < belowN key ks
 ·rw [decide_eq_true hi]; exact below_lt hi hk
 ·rw [decide_eq_false hi]
  have hlt:=(List.getElem?_eq_some_iff.1 hk).1
  have hb:belowN key ks < ks.length:=by omega
  have hat:=List.getElem?_eq_getElem hb
  have h0:=below_at hat
  rcases Nat.lt_or_ge (belowN key ks) i with h1 | h1
  ·have h2:=rise_after h hat hk h1
   cases hc:bytesLt k key with
   | false=>rfl
   | true=>rw [lt_trans h2 hc] at h0; cases h0
  ·have:i=belowN key ks:=by omega
   subst this
   rw [hat] at hk
   cases hk
   exact h0
theorem below_of {l key:List UInt8} {ks:List (List UInt8)} {i:Nat} (h:rise l ks=true) (hi:i<=ks.length) (h1:∀ j k,j < i->ks[j]?=some k->bytesLt k key=true) (h2:∀ j k,i<=j->ks[j]?=some k->bytesLt k key=false):i=belowN key ks:=by
 have hl:=below_le key ks
 rcases Nat.lt_trichotomy i (belowN key ks) with h3 | h3 | h3
 ·have hat:=List.getElem?_eq_getElem (show i < ks.length by omega)
  have:=h2 i _ (Nat.le_refl _) hat
  rw [below_lt h3 hat] at this
  cases this
 ·exact h3
 ·have hat:=List.getElem?_eq_getElem (show belowN key ks < ks.length by omega)
  have:=h1 _ _ h3 hat
  rw [below_at hat] at this
  cases this
theorem may_ks {n:Nd} (h:mayN n=true):∀ k∈n.ks,k.length<=32:=fun k hk=>by
 have:rise [] n.ks=true:=by unfold mayN at h; simp at h; exact h.1
 exact (rise_all this k hk).2.2
theorem may_vs {n:Nd} (h:mayN n=true) (hl:n.leaf=true):n.vs.length=n.ks.length/\n.kids=[]/\∀ v∈n.vs,v.length<=64:=by
 unfold mayN at h
 rw [if_pos hl] at h
 simp at h
 exact ⟨h.2.1.1,h.2.1.2,h.2.2⟩
theorem may_kids {n:Nd} (h:mayN n=true) (hl:n.leaf=false):n.kids.length=n.ks.length+1/\n.vs=[]/\∀ z∈n.kids,0<=z/\z<=32768:=by
 unfold mayN at h
 rw [if_neg (by simp [hl])] at h
 simp at h
 exact ⟨h.2.1.1,h.2.1.2,h.2.2⟩
theorem beh_len {n:Nd} (h:mayN n=true):(behN n).length=n.ks.length:=by
 unfold behN
 cases hl:n.leaf with
 | true=>rw [if_pos rfl,List.length_map]; exact (may_vs h hl).1
 | false=>rw [if_neg (by decide),List.length_map,List.length_tail,(may_kids h hl).1]; rfl
theorem beh_le {n:Nd} (h:mayN n=true):∀ b∈behN n,b.length<=100:=fun b hb=>by
 unfold behN at hb
 cases hl:n.leaf with
 | true =>
  rw [hl,if_pos rfl] at hb
  obtain ⟨v,hv,rfl⟩:=List.mem_map.1 hb
  have:=(may_vs h hl).2.2 v hv
  rw [tB_len (by omega)]
  omega
 | false =>
  rw [hl,if_neg (by decide)] at hb
  obtain ⟨v,hv,rfl⟩:=List.mem_map.1 hb
  have:=@cnt_len v
  omega
theorem first_le (n:Nd):(firstN n).length<=10:=by
 unfold firstN
 split
 ·simp
 ·exact cnt_len
theorem body_le {n:Nd} (h:mayN n=true) (hn:n.ks.length<=1000000):(bodyN n).length<=210000000:=by
 have h1:=zipB_len (ks:=n.ks) (bs:=behN n) (fun k hk=>by have:=may_ks h k hk; omega) (beh_le h)
 have h2:(grp n.ks.length).length<=10:=grp_len (by omega) (by omega)
 have h3:=first_le n
 unfold bodyN headN
 simp only [List.length_append,List.length_cons,List.length_nil]
 omega
end Go.Proofs.YtlmmddfhoabjfaaGreat
end
section
namespace Go.Am
section
variable {P:Program} {o:Oper} {a:Slots} {L L₁:RL} {x y:Operand} {t:TypeId}
theorem SV.one {sz n:Nat} {v:Value} {cs:List Value} (h:SV sz L v n cs):isJ v=false/\v.cells.toList=[v]:=by
 rcases h with ⟨rfl,rfl,rfl⟩ | ⟨r,off,cap,row,cs₀,rfl,_⟩ <;> exact ⟨rfl,rfl⟩
end
theorem Sub.suffix {X L:RL}:Sub L (X++L):=⟨X,List.perm_append_comm⟩
theorem Sub.tail {x:Nat × ARow} {L:RL}:Sub L (x::L):=Sub.suffix (X:=[x])
theorem Sub.trans {A B C:RL} (h:Sub A B) (g:Sub B C):Sub A C:=by
 obtain ⟨X,hX⟩:=h
 obtain ⟨Y,hY⟩:=g
 refine ⟨X++Y,?_⟩
 rw [← List.append_assoc]
 exact hY.trans (hX.append_right Y)
theorem Sub.cons {A B:RL} {x:Nat × ARow} (s:Sub A B):Sub (x::A) (x::B):=by
 obtain ⟨X,hX⟩:=s
 exact ⟨X,hX.cons x⟩
theorem Sub.swap {A Y G:RL}:Sub (A++(Y++G)) (Y++(A++G)):=⟨[],by
 rw [List.append_nil,← List.append_assoc,← List.append_assoc]
 exact List.perm_append_comm.append_right G⟩
end Go.Am
namespace Go.Proofs.YtlmmddfhoabjfaaGreat
open Go.Am
theorem ieqN {m n:Nat}:ieqB (m:Int) (n:Nat)=decide (m=n):=by
 rw [ieqB_eq]; by_cases h:m=n
 ·subst h; simp
 ·rw [decide_eq_false h]; simpa using (show ¬ (m:Int)=n by omega)
theorem tx_at {ks:List (List UInt8)} {j:Nat} (h:j < ks.length):(tx ks)[j]?=some (txt (ks[j]'h)):=by simp [tx,h]
theorem nums_at {zs:List Int} {j:Nat} (h:j < zs.length):(nums zs)[j]?=some (.int .i64 (zs[j]'h)):=by simp [nums,h]
def lastK (ks:List (List UInt8)) (j:Nat):List UInt8:=if j=0 then [] else ks.getD (j - 1) []
theorem lastK_succ {ks:List (List UInt8)} {j:Nat} (h:j < ks.length):lastK ks (j+1)=ks[j]:=by
 unfold lastK
 rw [if_neg (by omega)]
 simp [h]
theorem keysMayBe_ct {L:RL} {v:Value} {ks:List (List UInt8)} (hv:SV 1 L v ks.length (tx ks)) (hn:ks.length<=9000000000000000) (hk:∀ k∈ks,k.length<=9000000000000000) :
  CS Tryz.prog 72 [v] L fun u L'=>u=.bool (rise [] ks)/\L'=L:=by
 refine CS.mk (fn:=Tryz.f72) rfl rfl rfl rfl ?_
 repeat refine xQ ?_
 refine xG rfl ?_
 refine xP rfl rh rfl ?_
 refine xN ?_
 repeat refine xQ ?_
 refine xG rfl ?_
 refine xP rfl rh rfl ?_
 refine xN ?_
 repeat refine xQ ?_
 refine xG rfl ?_
 refine xP rfl rh rfl ?_
 refine xP rfl (e_len hv rfl rfl rfl rfl rfl) rfl ?_
 refine xP rfl rh rfl ?_
 refine xN ?_
 repeat refine xQ ?_
 refine LS.block ?_
 refine LS.loopJ [3,6,7,8] (fun q a L'=>∃ j:Nat,q=ks.length - j/\j<=ks.length/\rise (lastK ks j) (ks.drop j)=rise [] ks/\L'=L/\a=[jn,jn,jn,txt (lastK ks j),jn,jn,v,.int .i64 (ks.length:Nat),.int .i64 (j:Nat),jn,jn,jn,jn,jn,jn,jn,jn,jn,jn,jn,jn,jn]) (n:=ks.length) rfl ⟨0,rfl,by omega,rfl,rfl,rfl⟩ ?_
 rintro q a L' ⟨j,rfl,hj,hr,rfl,rfl⟩
 repeat refine xQ ?_
 refine xG rfl ?_
 refine xP rfl rh rfl ?_
 refine xN ?_
 repeat refine xQ ?_
 refine xC rfl (fun hc=>?_) (fun hc=>?_)
 ·have hc:(j:Int) < ks.length:=lt_of hc
  have hjk:j < ks.length:=by omega
  have hlen:(ks[j]).length<=9000000000000000:=hk _ (List.getElem_mem hjk)
  rw [List.drop_eq_getElem_cons hjk] at hr
  simp only [rise] at hr
  refine LS.skip ?_
  repeat refine xQ ?_
  refine LS.block ?_
  repeat refine xQ ?_
  refine xG rfl ?_
  refine OS.at1 (j:=j) hv (tx_at hjk) rfl rfl rfl rfl rfl rfl (fun r0 o0 row0 cs0 m0 c0 g0=>?_)
  refine ⟨_,rfl,?_⟩
  refine xR rfl (e_loadm m0 c0 rfl rfl (part_one rfl g0)) rfl ?_
  refine xP rfl rh rfl ?_
  refine xN ?_
  cases hl:leT ks[j] (lastK ks j) with
  | true =>
   rw [hl] at hr
   repeat refine xQ ?_
   refine xG rfl ?_
   iterate 2 refine xP rfl rh rfl ?_
   refine xP rfl (e_ib rh (hl)) rfl ?_
   refine xP rfl rh rfl ?_
   iterate 3 refine xK rfl rfl ?_
   refine xP rfl rh rfl ?_
   refine xN ?_
   repeat refine xQ ?_
   refine xC rfl (fun h=>?_) (fun h=>?_)
   ·repeat refine xQ ?_
    refine xG rfl ?_
    refine xP rfl rh rfl ?_
    refine xN ?_
    refine xT ⟨_,fun _ _=>rfl,?_⟩
    exact ⟨by rw [← hr]; rfl,rfl⟩
   ·cases h
  | false =>
   rw [hl] at hr
   by_cases hb:ks[j].length<=32
   ·rw [decide_eq_true hb] at hr
    have hgt:(!ileB (ks[j].length:Int) 32)=false:=by rw [ileB_eq]; simp; omega
    repeat refine xQ ?_
    refine xG rfl ?_
    iterate 2 refine xP rfl rh rfl ?_
    refine xP rfl (e_ib rh (hl)) rfl ?_
    iterate 3 refine xP rfl rh rfl ?_
    refine xP rfl (e_ib rh (hgt)) rfl ?_
    refine xP rfl rh rfl ?_
    refine xN ?_
    repeat refine xQ ?_
    refine xC rfl (fun h=>?_) (fun h=>?_)
    ·cases h
    refine LS.skip ?_
    repeat refine xQ ?_
    refine xG rfl ?_
    iterate 2 refine xP rfl rh rfl ?_
    refine xN ?_
    repeat refine xQ ?_
    refine xG rfl ?_
    refine xP rfl (e_add (m:=j) (n:=1) rfl rfl rfl (in_i64 (by omega) (by omega))) rfl ?_
    refine xP rfl rh rfl ?_
    refine xN ?_
    refine ⟨ks.length - (j+1),by omega,j+1,rfl,by omega,?_,rfl,by rw [lastK_succ hjk]; rfl⟩
    rw [lastK_succ hjk,← hr]
    simp
   ·rw [decide_eq_false hb] at hr
    have hgt:(!ileB (ks[j].length:Int) 32)=true:=by rw [ileB_eq]; simp; omega
    repeat refine xQ ?_
    refine xG rfl ?_
    iterate 2 refine xP rfl rh rfl ?_
    refine xP rfl (e_ib rh (hl)) rfl ?_
    iterate 3 refine xP rfl rh rfl ?_
    refine xP rfl (e_ib rh (hgt)) rfl ?_
    refine xP rfl rh rfl ?_
    refine xN ?_
    repeat refine xQ ?_
    refine xC rfl (fun h=>?_) (fun h=>?_)
    ·repeat refine xQ ?_
     refine xG rfl ?_
     refine xP rfl rh rfl ?_
     refine xN ?_
     refine xT ⟨_,fun _ _=>rfl,?_⟩
     exact ⟨by rw [← hr]; rfl,rfl⟩
    ·cases h
 ·have hc:(ks.length:Int)<=(j:Int):=nlt_of hc
  have hje:j=ks.length:=by omega
  subst hje
  rw [List.drop_length] at hr
  refine LS.exit ?_
  repeat refine xQ ?_
  refine xG rfl ?_
  refine xP rfl rh rfl ?_
  refine xN ?_
  refine xT ⟨_,fun _ _=>rfl,?_⟩
  exact ⟨by rw [← hr]; rfl,rfl⟩
theorem noValue_ct {L:RL} {s:List UInt8} (hs:s.length<=9000000000000000):CS Tryz.prog 74 [txt s] L fun u L'=>u=.bool (decide (64 < s.length))/\L'=L:=by
 have hb:(!ileB (s.length:Int) 64)=decide (64 < s.length):=by rw [ileB_eq]; by_cases h:64 < s.length <;> simp [h] <;> omega
 refine CS.mk (fn:=Tryz.f74) rfl rfl rfl rfl ?_
 repeat refine xQ ?_
 refine xG rfl ?_
 refine xP rfl rh rfl ?_
 refine xN ?_
 repeat refine xQ ?_
 refine xG rfl ?_
 iterate 2 refine xP rfl rh rfl ?_
 refine xP rfl (e_ib rh (hb)) rfl ?_
 refine xP rfl rh rfl ?_
 refine xN ?_
 refine xT ⟨_,fun _ _=>rfl,?_⟩
 exact ⟨rfl,rfl⟩
def badKid (z:Int):Bool:=decide (z < 0∨32768 < z)
theorem noKid_ct {L:RL} {z:Int}:CS Tryz.prog 76 [.int .i64 z] L fun u L'=>u=.bool (badKid z)/\L'=L:=by
 have hb:(!ileB z 32768)=decide (32768 < z):=by rw [ileB_eq]; by_cases h:32768 < z <;> simp [h] <;> omega
 refine CS.mk (fn:=Tryz.f76) rfl rfl rfl rfl ?_
 repeat refine xQ ?_
 refine xG rfl ?_
 refine xP rfl rh rfl ?_
 refine xN ?_
 by_cases h0:z < 0
 ·have h1:(!ileB 0 z)=true:=by rw [ileB_eq]; simp; omega
  repeat refine xQ ?_
  refine xG rfl ?_
  refine xP rfl rh rfl ?_
  refine xP rfl (e_ib rh (h1)) rfl ?_
  refine xP rfl rh rfl ?_
  iterate 2 refine xK rfl rfl ?_
  iterate 2 refine xP rfl rh rfl ?_
  refine xN ?_
  refine xT ⟨_,fun _ _=>rfl,?_⟩
  exact ⟨by unfold badKid; rw [decide_eq_true (.inl h0)]; rfl,rfl⟩
 ·have h1:(!ileB 0 z)=false:=by rw [ileB_eq]; simp; omega
  repeat refine xQ ?_
  refine xG rfl ?_
  refine xP rfl rh rfl ?_
  refine xP rfl (e_ib rh (h1)) rfl ?_
  iterate 2 refine xP rfl rh rfl ?_
  refine xP rfl (e_ib rh (hb)) rfl ?_
  iterate 2 refine xP rfl rh rfl ?_
  refine xN ?_
  refine xT ⟨_,fun _ _=>rfl,?_⟩
  exact ⟨by unfold badKid; by_cases h2:32768 < z <;> simp [h0,h2,tupleB],rfl⟩
theorem notZero_ct {L:RL} {c:UInt8}:CS Tryz.prog 126 [.int .u8 (c.toNat:Nat)] L fun u L'=>u=.bool (c != 0)/\L'=L:=by
 have hb:(!ieqB (c.toNat:Int) 0)=(c != 0):=by
  rw [ieqB_eq]
  by_cases h:c=0
  ·subst h; rfl
  ·have:c.toNat≠0:=fun hh=>h (UInt8.toNat_inj.1 hh)
   have h1:((c.toNat:Int) == 0)=false:=by simpa using (show ¬ (c.toNat:Int)=0 by omega)
   rw [h1]; simp [h]
 refine CS.mk (fn:=Tryz.f126) rfl rfl rfl rfl ?_
 repeat refine xQ ?_
 refine xG rfl ?_
 refine xP rfl rh rfl ?_
 refine xN ?_
 repeat refine xQ ?_
 refine xG rfl ?_
 refine xP rfl rh rfl ?_
 refine xP rfl (e_ib rh (hb)) rfl ?_
 refine xP rfl rh rfl ?_
 refine xN ?_
 refine xT ⟨_,fun _ _=>rfl,?_⟩
 exact ⟨rfl,rfl⟩
theorem indexT_ct {L:RL} {v:Value} {l:List (List UInt8)} {f:Nat} {p:List UInt8->Bool} (hv:SV 1 L v l.length (tx l)) (hn:l.length<=9000000000000000) (hf:∀ x∈l,CS Tryz.prog f [(txt) x] L fun u L'=>u=.bool (p x)/\L'=L) :
  CS Tryz.prog 108 [v,.func (.func f) #[] #[]] L fun u L'=>(∃ i:Nat,u=.int .i64 i/\l.any p=true∨u=.int .i64 (-1)/\l.any p=false)/\L'=L:=by
 refine CS.mk (fn:=Tryz.f108) rfl rfl rfl rfl ?_
 repeat refine xQ ?_
 refine xG rfl ?_
 refine xP rfl rh rfl ?_
 refine xN ?_
 repeat refine xQ ?_
 refine xG rfl ?_
 refine xP rfl rh rfl ?_
 refine xP rfl (e_len hv rfl rfl rfl rfl rfl) rfl ?_
 refine xP rfl rh rfl ?_
 refine xN ?_
 repeat refine xQ ?_
 refine LS.block ?_
 refine LS.loopJ [0,1,7,8] (fun q a L'=>∃ j:Nat,q=l.length - j/\j<=l.length/\(l.take j).any p=false/\L'=L/\a=[v,.func (.func f) #[] #[],jn,jn,jn,jn,jn,.int .i64 (l.length:Nat),.int .i64 (j:Nat),jn,jn,jn,jn,jn,jn,jn,jn,jn,jn]) (n:=l.length) rfl ⟨0,rfl,by omega,rfl,rfl,rfl⟩ ?_
 rintro q a L' ⟨j,rfl,hj,hr,rfl,rfl⟩
 repeat refine xQ ?_
 refine xG rfl ?_
 refine xP rfl rh rfl ?_
 refine xN ?_
 repeat refine xQ ?_
 refine xC rfl (fun hc=>?_) (fun hc=>?_)
 ·have hc:(j:Int) < l.length:=lt_of hc
  have hjl:j < l.length:=by omega
  refine LS.skip ?_
  repeat refine xQ ?_
  refine LS.block ?_
  repeat refine xQ ?_
  refine xG rfl ?_
  iterate 2 refine xP rfl rh rfl ?_
  refine xN ?_
  repeat refine xQ ?_
  refine xG rfl ?_
  iterate 3 refine xP rfl rh rfl ?_
  refine OS.at1 (j:=j) hv (tx_at hjl) rfl rfl rfl rfl rfl rfl (fun r0 o0 row0 cs0 m0 c0 g0=>?_)
  refine ⟨_,rfl,?_⟩
  refine xR rfl (e_loadm m0 c0 rfl rfl (part_one rfl g0)) rfl ?_
  refine xA noGo rfl (fun _=>rfl) ((hf l[j] (List.getElem_mem hjl)).mono ?_)
  rintro u L₁ ⟨rfl,e₁⟩
  subst e₁
  refine ⟨_,rfl,?_⟩
  refine xN ?_
  cases hp:p l[j] with
  | true =>
   repeat refine xQ ?_
   refine xC rfl (fun h=>?_) (fun h=>?_)
   ·repeat refine xQ ?_
    refine xG rfl ?_
    iterate 2 refine xP rfl rh rfl ?_
    refine xN ?_
    refine xT ⟨_,fun _ _=>rfl,?_⟩
    exact ⟨⟨j,.inl ⟨rfl,List.any_eq_true.2 ⟨_,List.getElem_mem hjl,hp⟩⟩⟩,rfl⟩
   ·cases h
  | false =>
   repeat refine xQ ?_
   refine xC rfl (fun h=>?_) (fun h=>?_)
   ·cases h
   refine LS.skip ?_
   repeat refine xQ ?_
   refine xG rfl ?_
   refine xP rfl (e_add (m:=j) (n:=1) rfl rfl rfl (in_i64 (by omega) (by omega))) rfl ?_
   refine xP rfl rh rfl ?_
   refine xN ?_
   refine ⟨l.length - (j+1),by omega,j+1,rfl,by omega,?_,rfl,rfl⟩
   rw [List.take_succ_eq_append_getElem hjl,List.any_append,hr]
   simp [hp]
 ·have hc:(l.length:Int)<=(j:Int):=nlt_of hc
  have hje:j=l.length:=by omega
  subst hje
  rw [List.take_length] at hr
  refine LS.exit ?_
  repeat refine xQ ?_
  refine xG rfl ?_
  refine xP rfl rh rfl ?_
  refine xN ?_
  refine xT ⟨_,fun _ _=>rfl,?_⟩
  exact ⟨⟨0,.inr ⟨rfl,hr⟩⟩,rfl⟩
theorem indexT_any {L:RL} {v:Value} {l:List (List UInt8)} {f:Nat} {p:List UInt8->Bool} (hv:SV 1 L v l.length (tx l)) (hn:l.length<=9000000000000000) (hf:∀ x∈l,CS Tryz.prog f [(txt) x] L fun u L'=>u=.bool (p x)/\L'=L) :
  CS Tryz.prog 73 [v,.func (.func f) #[] #[]] L fun u L'=>u=.bool (l.any p)/\L'=L:=by
 refine CS.mk (fn:=Tryz.f73) rfl rfl rfl rfl ?_
 repeat refine xQ ?_
 refine xG rfl ?_
 refine xP rfl rh rfl ?_
 refine xN ?_
 repeat refine xQ ?_
 refine xG rfl ?_
 iterate 2 refine xP rfl rh rfl ?_
 refine xA noGo rfl (fun _=>rfl) ((indexT_ct hv hn hf).mono ?_)
 rintro u L₁ ⟨⟨i,h⟩,e₁⟩
 subst e₁
 rcases h with ⟨rfl,h⟩ | ⟨rfl,h⟩
 ·have hb:ileB 0 (i:Int)=true:=ileB_iff.2 (by omega)
  refine ⟨_,rfl,?_⟩
  refine xP rfl (e_ib rh (hb)) rfl ?_
  refine xP rfl rh rfl ?_
  refine xN ?_
  refine xT ⟨_,fun _ _=>rfl,?_⟩
  exact ⟨by rw [h]; rfl,rfl⟩
 ·refine ⟨_,rfl,?_⟩
  iterate 2 refine xP rfl rh rfl ?_
  refine xN ?_
  refine xT ⟨_,fun _ _=>rfl,?_⟩
  exact ⟨by rw [h]; rfl,rfl⟩
theorem indexI_ct {L:RL} {v:Value} {l:List Int} {f:Nat} {p:Int->Bool} (hv:SV 1 L v l.length (nums l)) (hn:l.length<=9000000000000000) (hf:∀ x∈l,CS Tryz.prog f [(Value.int .i64) x] L fun u L'=>u=.bool (p x)/\L'=L) :
  CS Tryz.prog 109 [v,.func (.func f) #[] #[]] L fun u L'=>(∃ i:Nat,u=.int .i64 i/\l.any p=true∨u=.int .i64 (-1)/\l.any p=false)/\L'=L:=by
 refine CS.mk (fn:=Tryz.f109) rfl rfl rfl rfl ?_
 repeat refine xQ ?_
 refine xG rfl ?_
 refine xP rfl rh rfl ?_
 refine xN ?_
 repeat refine xQ ?_
 refine xG rfl ?_
 refine xP rfl rh rfl ?_
 refine xP rfl (e_len hv rfl rfl rfl rfl rfl) rfl ?_
 refine xP rfl rh rfl ?_
 refine xN ?_
 repeat refine xQ ?_
 refine LS.block ?_
 refine LS.loopJ [0,1,7,8] (fun q a L'=>∃ j:Nat,q=l.length - j/\j<=l.length/\(l.take j).any p=false/\L'=L/\a=[v,.func (.func f) #[] #[],jn,jn,jn,jn,jn,.int .i64 (l.length:Nat),.int .i64 (j:Nat),jn,jn,jn,jn,jn,jn,jn,jn,jn,jn]) (n:=l.length) rfl ⟨0,rfl,by omega,rfl,rfl,rfl⟩ ?_
 rintro q a L' ⟨j,rfl,hj,hr,rfl,rfl⟩
 repeat refine xQ ?_
 refine xG rfl ?_
 refine xP rfl rh rfl ?_
 refine xN ?_
 repeat refine xQ ?_
 refine xC rfl (fun hc=>?_) (fun hc=>?_)
 ·have hc:(j:Int) < l.length:=lt_of hc
  have hjl:j < l.length:=by omega
  refine LS.skip ?_
  repeat refine xQ ?_
  refine LS.block ?_
  repeat refine xQ ?_
  refine xG rfl ?_
  iterate 2 refine xP rfl rh rfl ?_
  refine xN ?_
  repeat refine xQ ?_
  refine xG rfl ?_
  iterate 3 refine xP rfl rh rfl ?_
  refine OS.at1 (j:=j) hv (nums_at hjl) rfl rfl rfl rfl rfl rfl (fun r0 o0 row0 cs0 m0 c0 g0=>?_)
  refine ⟨_,rfl,?_⟩
  refine xR rfl (e_loadm m0 c0 rfl rfl (part_one rfl g0)) rfl ?_
  refine xA noGo rfl (fun _=>rfl) ((hf l[j] (List.getElem_mem hjl)).mono ?_)
  rintro u L₁ ⟨rfl,e₁⟩
  subst e₁
  refine ⟨_,rfl,?_⟩
  refine xN ?_
  cases hp:p l[j] with
  | true =>
   repeat refine xQ ?_
   refine xC rfl (fun h=>?_) (fun h=>?_)
   ·repeat refine xQ ?_
    refine xG rfl ?_
    iterate 2 refine xP rfl rh rfl ?_
    refine xN ?_
    refine xT ⟨_,fun _ _=>rfl,?_⟩
    exact ⟨⟨j,.inl ⟨rfl,List.any_eq_true.2 ⟨_,List.getElem_mem hjl,hp⟩⟩⟩,rfl⟩
   ·cases h
  | false =>
   repeat refine xQ ?_
   refine xC rfl (fun h=>?_) (fun h=>?_)
   ·cases h
   refine LS.skip ?_
   repeat refine xQ ?_
   refine xG rfl ?_
   refine xP rfl (e_add (m:=j) (n:=1) rfl rfl rfl (in_i64 (by omega) (by omega))) rfl ?_
   refine xP rfl rh rfl ?_
   refine xN ?_
   refine ⟨l.length - (j+1),by omega,j+1,rfl,by omega,?_,rfl,rfl⟩
   rw [List.take_succ_eq_append_getElem hjl,List.any_append,hr]
   simp [hp]
 ·have hc:(l.length:Int)<=(j:Int):=nlt_of hc
  have hje:j=l.length:=by omega
  subst hje
  rw [List.take_length] at hr
  refine LS.exit ?_
  repeat refine xQ ?_
  refine xG rfl ?_
  refine xP rfl rh rfl ?_
  refine xN ?_
  refine xT ⟨_,fun _ _=>rfl,?_⟩
  exact ⟨⟨0,.inr ⟨rfl,hr⟩⟩,rfl⟩
theorem indexI_any {L:RL} {v:Value} {l:List Int} {f:Nat} {p:Int->Bool} (hv:SV 1 L v l.length (nums l)) (hn:l.length<=9000000000000000) (hf:∀ x∈l,CS Tryz.prog f [(Value.int .i64) x] L fun u L'=>u=.bool (p x)/\L'=L) :
  CS Tryz.prog 75 [v,.func (.func f) #[] #[]] L fun u L'=>u=.bool (l.any p)/\L'=L:=by
 refine CS.mk (fn:=Tryz.f75) rfl rfl rfl rfl ?_
 repeat refine xQ ?_
 refine xG rfl ?_
 refine xP rfl rh rfl ?_
 refine xN ?_
 repeat refine xQ ?_
 refine xG rfl ?_
 iterate 2 refine xP rfl rh rfl ?_
 refine xA noGo rfl (fun _=>rfl) ((indexI_ct hv hn hf).mono ?_)
 rintro u L₁ ⟨⟨i,h⟩,e₁⟩
 subst e₁
 rcases h with ⟨rfl,h⟩ | ⟨rfl,h⟩
 ·have hb:ileB 0 (i:Int)=true:=ileB_iff.2 (by omega)
  refine ⟨_,rfl,?_⟩
  refine xP rfl (e_ib rh (hb)) rfl ?_
  refine xP rfl rh rfl ?_
  refine xN ?_
  refine xT ⟨_,fun _ _=>rfl,?_⟩
  exact ⟨by rw [h]; rfl,rfl⟩
 ·refine ⟨_,rfl,?_⟩
  iterate 2 refine xP rfl rh rfl ?_
  refine xN ?_
  refine xT ⟨_,fun _ _=>rfl,?_⟩
  exact ⟨by rw [h]; rfl,rfl⟩
theorem bytes_at {bs:List UInt8} {j:Nat} (h:j < bs.length):(byteCells bs)[j]?=some (.int .u8 ((bs[j]'h).toNat:Nat)):=by simp [byteCells,h]
theorem indexB_ct {L:RL} {v:Value} {l:List UInt8} {f:Nat} {p:UInt8->Bool} (hv:SV 1 L v l.length (byteCells l)) (hn:l.length<=9000000000000000) (hf:∀ x∈l,CS Tryz.prog f [(fun c=>Value.int .u8 (UInt8.toNat c:Nat)) x] L fun u L'=>u=.bool (p x)/\L'=L) :
  CS Tryz.prog 153 [v,.func (.func f) #[] #[]] L fun u L'=>(∃ i:Nat,u=.int .i64 i/\l.any p=true∨u=.int .i64 (-1)/\l.any p=false)/\L'=L:=by
 refine CS.mk (fn:=Tryz.f153) rfl rfl rfl rfl ?_
 repeat refine xQ ?_
 refine xG rfl ?_
 refine xP rfl rh rfl ?_
 refine xN ?_
 repeat refine xQ ?_
 refine xG rfl ?_
 refine xP rfl rh rfl ?_
 refine xP rfl (e_len hv rfl rfl rfl rfl rfl) rfl ?_
 refine xP rfl rh rfl ?_
 refine xN ?_
 repeat refine xQ ?_
 refine LS.block ?_
 refine LS.loopJ [0,1,7,8] (fun q a L'=>∃ j:Nat,q=l.length - j/\j<=l.length/\(l.take j).any p=false/\L'=L/\a=[v,.func (.func f) #[] #[],jn,jn,jn,jn,jn,.int .i64 (l.length:Nat),.int .i64 (j:Nat),jn,jn,jn,jn,jn,jn,jn,jn,jn,jn]) (n:=l.length) rfl ⟨0,rfl,by omega,rfl,rfl,rfl⟩ ?_
 rintro q a L' ⟨j,rfl,hj,hr,rfl,rfl⟩
 repeat refine xQ ?_
 refine xG rfl ?_
 refine xP rfl rh rfl ?_
 refine xN ?_
 repeat refine xQ ?_
 refine xC rfl (fun hc=>?_) (fun hc=>?_)
 ·have hc:(j:Int) < l.length:=lt_of hc
  have hjl:j < l.length:=by omega
  refine LS.skip ?_
  repeat refine xQ ?_
  refine LS.block ?_
  repeat refine xQ ?_
  refine xG rfl ?_
  iterate 2 refine xP rfl rh rfl ?_
  refine xN ?_
  repeat refine xQ ?_
  refine xG rfl ?_
  iterate 3 refine xP rfl rh rfl ?_
  refine OS.at1 (j:=j) hv (bytes_at hjl) rfl rfl rfl rfl rfl rfl (fun r0 o0 row0 cs0 m0 c0 g0=>?_)
  refine ⟨_,rfl,?_⟩
  refine xR rfl (e_loadm m0 c0 rfl rfl (part_one rfl g0)) rfl ?_
  refine xA noGo rfl (fun _=>rfl) ((hf l[j] (List.getElem_mem hjl)).mono ?_)
  rintro u L₁ ⟨rfl,e₁⟩
  subst e₁
  refine ⟨_,rfl,?_⟩
  refine xN ?_
  cases hp:p l[j] with
  | true =>
   repeat refine xQ ?_
   refine xC rfl (fun h=>?_) (fun h=>?_)
   ·repeat refine xQ ?_
    refine xG rfl ?_
    iterate 2 refine xP rfl rh rfl ?_
    refine xN ?_
    refine xT ⟨_,fun _ _=>rfl,?_⟩
    exact ⟨⟨j,.inl ⟨rfl,List.any_eq_true.2 ⟨_,List.getElem_mem hjl,hp⟩⟩⟩,rfl⟩
   ·cases h
  | false =>
   repeat refine xQ ?_
   refine xC rfl (fun h=>?_) (fun h=>?_)
   ·cases h
   refine LS.skip ?_
   repeat refine xQ ?_
   refine xG rfl ?_
   refine xP rfl (e_add (m:=j) (n:=1) rfl rfl rfl (in_i64 (by omega) (by omega))) rfl ?_
   refine xP rfl rh rfl ?_
   refine xN ?_
   refine ⟨l.length - (j+1),by omega,j+1,rfl,by omega,?_,rfl,rfl⟩
   rw [List.take_succ_eq_append_getElem hjl,List.any_append,hr]
   simp [hp]
 ·have hc:(l.length:Int)<=(j:Int):=nlt_of hc
  have hje:j=l.length:=by omega
  subst hje
  rw [List.take_length] at hr
  refine LS.exit ?_
  repeat refine xQ ?_
  refine xG rfl ?_
  refine xP rfl rh rfl ?_
  refine xN ?_
  refine xT ⟨_,fun _ _=>rfl,?_⟩
  exact ⟨⟨0,.inr ⟨rfl,hr⟩⟩,rfl⟩
theorem indexB_any {L:RL} {v:Value} {l:List UInt8} {f:Nat} {p:UInt8->Bool} (hv:SV 1 L v l.length (byteCells l)) (hn:l.length<=9000000000000000) (hf:∀ x∈l,CS Tryz.prog f [(fun c=>Value.int .u8 (UInt8.toNat c:Nat)) x] L fun u L'=>u=.bool (p x)/\L'=L) :
  CS Tryz.prog 125 [v,.func (.func f) #[] #[]] L fun u L'=>u=.bool (l.any p)/\L'=L:=by
 refine CS.mk (fn:=Tryz.f125) rfl rfl rfl rfl ?_
 repeat refine xQ ?_
 refine xG rfl ?_
 refine xP rfl rh rfl ?_
 refine xN ?_
 repeat refine xQ ?_
 refine xG rfl ?_
 iterate 2 refine xP rfl rh rfl ?_
 refine xA noGo rfl (fun _=>rfl) ((indexB_ct hv hn hf).mono ?_)
 rintro u L₁ ⟨⟨i,h⟩,e₁⟩
 subst e₁
 rcases h with ⟨rfl,h⟩ | ⟨rfl,h⟩
 ·have hb:ileB 0 (i:Int)=true:=ileB_iff.2 (by omega)
  refine ⟨_,rfl,?_⟩
  refine xP rfl (e_ib rh (hb)) rfl ?_
  refine xP rfl rh rfl ?_
  refine xN ?_
  refine xT ⟨_,fun _ _=>rfl,?_⟩
  exact ⟨by rw [h]; rfl,rfl⟩
 ·refine ⟨_,rfl,?_⟩
  iterate 2 refine xP rfl rh rfl ?_
  refine xN ?_
  refine xT ⟨_,fun _ _=>rfl,?_⟩
  exact ⟨by rw [h]; rfl,rfl⟩
theorem blank_ct {L:RL} {v:Value} {bs:List UInt8} (hv:SV 1 L v bs.length (byteCells bs)) (hn:bs.length<=9000000000000000):CS Tryz.prog 95 [v] L fun u L'=>u=.bool (bs.all (fun c=>c == 0))/\L'=L:=by
 have hb:(!bs.any (fun c=>c != 0))=bs.all (fun c=>c == 0):=by
  rw [List.all_eq_not_any_not]; rfl
 refine CS.mk (fn:=Tryz.f95) rfl rfl rfl rfl ?_
 repeat refine xQ ?_
 refine xG rfl ?_
 refine xP rfl rh rfl ?_
 refine xN ?_
 repeat refine xQ ?_
 refine xG rfl ?_
 refine xP rfl rh rfl ?_
 refine xA noGo rfl (fun _=>rfl) (((indexB_any (p:=fun c=>c != 0) hv hn (fun c hc=>notZero_ct))).mono ?_)
 rintro u L' ⟨rfl,rfl⟩
 refine ⟨_,rfl,?_⟩
 refine xP rfl (e_ib rh (hb)) rfl ?_
 refine xP rfl rh rfl ?_
 refine xN ?_
 refine xT ⟨_,fun _ _=>rfl,?_⟩
 exact ⟨rfl,rfl⟩
structure NV (L:RL) (n:Nd) (v1 v2 v3:Value):Prop where
 k:SV 1 L v1 n.ks.length (tx n.ks)
 v:SV 1 L v2 n.vs.length (tx n.vs)
 z:SV 1 L v3 n.kids.length (nums n.kids)
 kn:n.ks.length<=9000000000000000
 vn:n.vs.length<=9000000000000000
 zn:n.kids.length<=9000000000000000
 kl:∀ k∈n.ks,k.length<=9000000000000000
 vl:∀ k∈n.vs,k.length<=9000000000000000
theorem NV.mono {L L':RL} {n:Nd} {v1 v2 v3:Value} (h:NV L n v1 v2 v3) (hm:∀ p,p∈L->p∈L'):NV L' n v1 v2 v3:=⟨h.k.mono hm,h.v.mono hm,h.z.mono hm,h.kn,h.vn,h.zn,h.kl,h.vl⟩
theorem NV.cons {L:RL} {x:Nat × ARow} {n:Nd} {v1 v2 v3:Value} (h:NV L n v1 v2 v3):NV (x::L) n v1 v2 v3:=h.mono fun _ hp=>List.mem_cons_of_mem _ hp
abbrev ndV (b:Bool) (v1 v2 v3:Value):Value:=.agg #[.bool b,v1,v2,v3]
abbrev ndRow (b:Bool) (v1 v2 v3:Value):ARow:=.cells 38 [.bool b,v1,v2,v3]
theorem mayBe_ct {L:RL} {n:Nd} {v1 v2 v3:Value} (h:NV L n v1 v2 v3):CS Tryz.prog 46 [ndV n.leaf v1 v2 v3] L fun u L'=>u=.bool (mayN n)/\L'=L:=by
 suffices g:CS Tryz.prog 46 [ndV n.leaf v1 v2 v3] L fun u L'=>u=.bool (mayN n)/\∃ x,L'=x::L by
  exact g.less fun u L' ⟨h1,x,h2⟩=>⟨L,by rw [h2]; exact Sub.tail,h1,rfl⟩
 have hkn:=h.kn
 have hvn:=h.vn
 have hzn:=h.zn
 obtain ⟨lf,ks,vs,kids⟩:=n
 simp only at hkn hvn hzn
 refine CS.mk (fn:=Tryz.f46) rfl rfl rfl rfl ?_
 repeat refine xQ ?_
 refine xG rfl ?_
 refine OS.fresh rfl (e_new (fun _=>rfl) rfl) (fun _=>rfl) (fun rn=>?_)
 refine xP rfl rh rfl ?_
 refine xN ?_
 have h:=h.cons (x:=(rn,ndRow lf v1 v2 v3))
 obtain ⟨hk,hv,hz,_,_,_,hkl,hvl⟩:=h
 simp only at hk hv hz hkl hvl
 repeat refine xQ ?_
 refine xG rfl ?_
 refine xP rfl rh rfl ?_
 refine xR rfl (e_load 0 rfl rfl rfl rfl rfl) rfl ?_
 refine xA noGo rfl (fun _=>rfl) ((keysMayBe_ct hk hkn hkl).mono ?_)
 rintro u L' ⟨rfl,rfl⟩
 refine ⟨_,rfl,?_⟩
 refine xP rfl rh rfl ?_
 refine xN ?_
 unfold mayN
 cases hr:rise [] ks with
 | false =>
  simp only
  repeat refine xQ ?_
  refine xC rfl (fun h=>?_) (fun h=>?_)
  ·repeat refine xQ ?_
   refine xG rfl ?_
   refine xP rfl rh rfl ?_
   refine xN ?_
   refine xT ⟨_,fun _ _=>rfl,?_⟩
   exact ⟨rfl,_,rfl⟩
  ·cases h
 | true =>
  simp only
  repeat refine xQ ?_
  refine xC rfl (fun h=>?_) (fun h=>?_)
  ·cases h
  refine LS.skip ?_
  cases lf with
  | true =>
   repeat refine xQ ?_
   refine xG rfl ?_
   refine xP rfl rh rfl ?_
   refine xR rfl (e_load 0 rfl rfl rfl rfl rfl) rfl ?_
   refine xN ?_
   repeat refine xQ ?_
   refine xC rfl (fun h=>?_) (fun h=>by cases h)
   by_cases h1:vs.length=ks.length
   ·have b1:ieqB (vs.length:Int) (ks.length:Nat)=true:=ieqN.trans (decide_eq_true h1)
    by_cases h2:kids.length=0
    ·have b2:ieqB (kids.length:Int) (0:Nat)=true:=ieqN.trans (decide_eq_true h2)
     have hb:(!vs.any (fun s=>decide (64 < s.length)))=vs.all (fun s=>decide (s.length<=64)):=by
      rw [List.all_eq_not_any_not]; congr 2; funext s; by_cases h:s.length<=64 <;> simp [h] <;> omega
     repeat refine xQ ?_
     refine xG rfl ?_
     refine xP rfl rh rfl ?_
     refine xR rfl (e_load 0 rfl rfl rfl rfl rfl) rfl ?_
     refine xP rfl (e_len hv rfl rfl rfl rfl rfl) rfl ?_
     refine xP rfl rh rfl ?_
     refine xR rfl (e_load 0 rfl rfl rfl rfl rfl) rfl ?_
     refine xP rfl (e_len hk rfl rfl rfl rfl rfl) rfl ?_
     refine xP rfl (e_ib rh (b1)) rfl ?_
     iterate 2 refine xP rfl rh rfl ?_
     refine xR rfl (e_load 0 rfl rfl rfl rfl rfl) rfl ?_
     refine xP rfl (e_len hz rfl rfl rfl rfl rfl) rfl ?_
     refine xP rfl (e_ib rh (b2)) rfl ?_
     iterate 3 refine xP rfl rh rfl ?_
     refine xR rfl (e_load 0 rfl rfl rfl rfl rfl) rfl ?_
     refine xA noGo rfl (fun _=>rfl) (((indexT_any (p:=fun s=>decide (64 < s.length)) hv hvn (fun s hs=>noValue_ct (hvl s hs)))).mono ?_)
     rintro u L' ⟨rfl,rfl⟩
     refine ⟨_,rfl,?_⟩
     refine xP rfl (e_ib rh (hb)) rfl ?_
     iterate 2 refine xP rfl rh rfl ?_
     refine xN ?_
     refine xT ⟨_,fun _ _=>rfl,?_⟩
     exact ⟨by simp [h1,h2,tupleB],_,rfl⟩
    ·have b2:ieqB (kids.length:Int) (0:Nat)=false:=ieqN.trans (decide_eq_false h2)
     repeat refine xQ ?_
     refine xG rfl ?_
     refine xP rfl rh rfl ?_
     refine xR rfl (e_load 0 rfl rfl rfl rfl rfl) rfl ?_
     refine xP rfl (e_len hv rfl rfl rfl rfl rfl) rfl ?_
     refine xP rfl rh rfl ?_
     refine xR rfl (e_load 0 rfl rfl rfl rfl rfl) rfl ?_
     refine xP rfl (e_len hk rfl rfl rfl rfl rfl) rfl ?_
     refine xP rfl (e_ib rh (b1)) rfl ?_
     iterate 2 refine xP rfl rh rfl ?_
     refine xR rfl (e_load 0 rfl rfl rfl rfl rfl) rfl ?_
     refine xP rfl (e_len hz rfl rfl rfl rfl rfl) rfl ?_
     refine xP rfl (e_ib rh (b2)) rfl ?_
     iterate 2 refine xP rfl rh rfl ?_
     iterate 4 refine xK rfl rfl ?_
     iterate 2 refine xP rfl rh rfl ?_
     refine xN ?_
     refine xT ⟨_,fun _ _=>rfl,?_⟩
     exact ⟨by simp [h2,tupleB],_,rfl⟩
   ·have b1:ieqB (vs.length:Int) (ks.length:Nat)=false:=ieqN.trans (decide_eq_false h1)
    repeat refine xQ ?_
    refine xG rfl ?_
    refine xP rfl rh rfl ?_
    refine xR rfl (e_load 0 rfl rfl rfl rfl rfl) rfl ?_
    refine xP rfl (e_len hv rfl rfl rfl rfl rfl) rfl ?_
    refine xP rfl rh rfl ?_
    refine xR rfl (e_load 0 rfl rfl rfl rfl rfl) rfl ?_
    refine xP rfl (e_len hk rfl rfl rfl rfl rfl) rfl ?_
    refine xP rfl (e_ib rh (b1)) rfl ?_
    refine xP rfl rh rfl ?_
    iterate 4 refine xK rfl rfl ?_
    iterate 2 refine xP rfl rh rfl ?_
    iterate 4 refine xK rfl rfl ?_
    iterate 2 refine xP rfl rh rfl ?_
    refine xN ?_
    refine xT ⟨_,fun _ _=>rfl,?_⟩
    exact ⟨by simp [h1,tupleB],_,rfl⟩
  | false =>
   repeat refine xQ ?_
   refine xG rfl ?_
   refine xP rfl rh rfl ?_
   refine xR rfl (e_load 0 rfl rfl rfl rfl rfl) rfl ?_
   refine xN ?_
   repeat refine xQ ?_
   refine xC rfl (fun h=>?_) (fun h=>?_)
   ·cases h
   refine LS.skip ?_
   by_cases h1:kids.length=ks.length+1
   ·have b1:ieqB (kids.length:Int) ((ks.length+1:Nat):Int)=true:=ieqN.trans (decide_eq_true h1)
    by_cases h2:vs.length=0
    ·have b2:ieqB (vs.length:Int) (0:Nat)=true:=ieqN.trans (decide_eq_true h2)
     have hb:(!kids.any badKid)=kids.all (fun z=>decide (0<=z/\z<=32768)):=by
      rw [List.all_eq_not_any_not]; congr 2; funext s; unfold badKid; by_cases h:0<=s/\s<=32768 <;> simp [h] <;> omega
     repeat refine xQ ?_
     refine xG rfl ?_
     refine xP rfl rh rfl ?_
     refine xR rfl (e_load 0 rfl rfl rfl rfl rfl) rfl ?_
     refine xP rfl (e_len hz rfl rfl rfl rfl rfl) rfl ?_
     refine xP rfl rh rfl ?_
     refine xR rfl (e_load 0 rfl rfl rfl rfl rfl) rfl ?_
     refine xP rfl (e_len hk rfl rfl rfl rfl rfl) rfl ?_
     refine xP rfl (e_add (m:=ks.length) (n:=1) rfl rfl rfl (in_i64 (by omega) (by omega))) rfl ?_
     refine xP rfl (e_ib rh (b1)) rfl ?_
     iterate 2 refine xP rfl rh rfl ?_
     refine xR rfl (e_load 0 rfl rfl rfl rfl rfl) rfl ?_
     refine xP rfl (e_len hv rfl rfl rfl rfl rfl) rfl ?_
     refine xP rfl (e_ib rh (b2)) rfl ?_
     iterate 3 refine xP rfl rh rfl ?_
     refine xR rfl (e_load 0 rfl rfl rfl rfl rfl) rfl ?_
     refine xA noGo rfl (fun _=>rfl) (((indexI_any (p:=badKid) hz hzn (fun z _=>noKid_ct))).mono ?_)
     rintro u L' ⟨rfl,rfl⟩
     refine ⟨_,rfl,?_⟩
     refine xP rfl (e_ib rh (hb)) rfl ?_
     iterate 2 refine xP rfl rh rfl ?_
     refine xN ?_
     refine xT ⟨_,fun _ _=>rfl,?_⟩
     exact ⟨by simp [h1,h2,tupleB],_,rfl⟩
    ·have b2:ieqB (vs.length:Int) (0:Nat)=false:=ieqN.trans (decide_eq_false h2)
     repeat refine xQ ?_
     refine xG rfl ?_
     refine xP rfl rh rfl ?_
     refine xR rfl (e_load 0 rfl rfl rfl rfl rfl) rfl ?_
     refine xP rfl (e_len hz rfl rfl rfl rfl rfl) rfl ?_
     refine xP rfl rh rfl ?_
     refine xR rfl (e_load 0 rfl rfl rfl rfl rfl) rfl ?_
     refine xP rfl (e_len hk rfl rfl rfl rfl rfl) rfl ?_
     refine xP rfl (e_add (m:=ks.length) (n:=1) rfl rfl rfl (in_i64 (by omega) (by omega))) rfl ?_
     refine xP rfl (e_ib rh (b1)) rfl ?_
     iterate 2 refine xP rfl rh rfl ?_
     refine xR rfl (e_load 0 rfl rfl rfl rfl rfl) rfl ?_
     refine xP rfl (e_len hv rfl rfl rfl rfl rfl) rfl ?_
     refine xP rfl (e_ib rh (b2)) rfl ?_
     iterate 2 refine xP rfl rh rfl ?_
     iterate 4 refine xK rfl rfl ?_
     iterate 2 refine xP rfl rh rfl ?_
     refine xN ?_
     refine xT ⟨_,fun _ _=>rfl,?_⟩
     exact ⟨by simp [h2,tupleB],_,rfl⟩
   ·have b1:ieqB (kids.length:Int) ((ks.length+1:Nat):Int)=false:=ieqN.trans (decide_eq_false h1)
    repeat refine xQ ?_
    refine xG rfl ?_
    refine xP rfl rh rfl ?_
    refine xR rfl (e_load 0 rfl rfl rfl rfl rfl) rfl ?_
    refine xP rfl (e_len hz rfl rfl rfl rfl rfl) rfl ?_
    refine xP rfl rh rfl ?_
    refine xR rfl (e_load 0 rfl rfl rfl rfl rfl) rfl ?_
    refine xP rfl (e_len hk rfl rfl rfl rfl rfl) rfl ?_
    refine xP rfl (e_add (m:=ks.length) (n:=1) rfl rfl rfl (in_i64 (by omega) (by omega))) rfl ?_
    refine xP rfl (e_ib rh (b1)) rfl ?_
    refine xP rfl rh rfl ?_
    iterate 4 refine xK rfl rfl ?_
    iterate 2 refine xP rfl rh rfl ?_
    iterate 4 refine xK rfl rfl ?_
    iterate 2 refine xP rfl rh rfl ?_
    refine xN ?_
    refine xT ⟨_,fun _ _=>rfl,?_⟩
    exact ⟨by simp [h1,tupleB],_,rfl⟩
end Go.Proofs.YtlmmddfhoabjfaaGreat
end
section
namespace Go.Am
section
variable {P:Program} {o:Oper} {a:Slots} {x y:Operand} {t z:TypeId}
theorem e_shr {k k':IntKind} {m s:Nat} (ho:o.op=.binOp .shr t x y z) (hx:aev a x=some (.int k (m:Int))) (hy:aev a y=some (.int k' (s:Int))) (hs:s<=k.bits):∀ h,opB P a o h=some (.val (.int k ((m / 2 ^ s:Nat):Int)) h):=by
 intro h
 have h0:ileB 0 (s:Int)=true:=ileB_iff.2 (by omega)
 have h1:(m:Int).fdiv ((2 ^ (min s k.bits):Nat):Int)=((m / 2 ^ s:Nat):Int):=by
  rw [Nat.min_eq_left hs,Int.fdiv_eq_ediv_of_nonneg _ (Int.natCast_nonneg _)]; rfl
 simp only [opB,ho,hx,hy,eqOk,binB,h0,Int.toNat_natCast,h1,ret]
end
end Go.Am
namespace Go.Proofs.YtlmmddfhoabjfaaGreat
open Go.Am
theorem neq_self (s:List UInt8):(!bytesEq s s)=false:=by rw [bytesEq_eq]; simp
theorem cmpNaN_ct {L:RL} (s:List UInt8):CS Tryz.prog 161 [txt s] L fun u L'=>u=.bool false/\L'=L:=by
 refine CS.mk (fn:=Tryz.f161) rfl rfl rfl rfl ?_
 repeat refine xQ ?_
 refine xG rfl ?_
 refine xP rfl rh rfl ?_
 refine xN ?_
 repeat refine xQ ?_
 refine xG rfl ?_
 iterate 2 refine xP rfl rh rfl ?_
 refine xP rfl (e_ib rh ((neq_self s))) rfl ?_
 refine xP rfl rh rfl ?_
 refine xN ?_
 refine xT ⟨_,fun _ _=>rfl,?_⟩
 exact ⟨rfl,rfl⟩
theorem slicesNaN_ct {L:RL} (s:List UInt8):CS Tryz.prog 138 [txt s] L fun u L'=>u=.bool false/\L'=L:=by
 refine CS.mk (fn:=Tryz.f138) rfl rfl rfl rfl ?_
 repeat refine xQ ?_
 refine xG rfl ?_
 refine xP rfl rh rfl ?_
 refine xN ?_
 repeat refine xQ ?_
 refine xG rfl ?_
 iterate 2 refine xP rfl rh rfl ?_
 refine xP rfl (e_ib rh ((neq_self s))) rfl ?_
 refine xP rfl rh rfl ?_
 refine xN ?_
 refine xT ⟨_,fun _ _=>rfl,?_⟩
 exact ⟨rfl,rfl⟩
theorem Less_ct {L:RL} (s t:List UInt8):CS Tryz.prog 137 [txt s,txt t] L fun u L'=>u=.bool (bytesLt s t)/\L'=L:=by
 refine CS.mk (fn:=Tryz.f137) rfl rfl rfl rfl ?_
 repeat refine xQ ?_
 refine xG rfl ?_
 refine xP rfl rh rfl ?_
 refine xN ?_
 repeat refine xQ ?_
 refine xG rfl ?_
 refine xP rfl rh rfl ?_
 refine xA noGo rfl (fun _=>rfl) ((cmpNaN_ct s).mono ?_)
 rintro u L₁ ⟨rfl,e₁⟩
 subst e₁
 refine ⟨_,rfl,?_⟩
 refine xP rfl rh rfl ?_
 iterate 3 refine xK rfl rfl ?_
 iterate 7 refine xP rfl rh rfl ?_
 refine xN ?_
 refine xT ⟨_,fun _ _=>rfl,?_⟩
 exact ⟨rfl,rfl⟩
theorem Binary_ct {L:RL} {v:Value} {l key:List UInt8} {ks:List (List UInt8)} (hv:SV 1 L v ks.length (tx ks)) (hn:ks.length<=1000000000000000) (hr:rise l ks=true) :
  CS Tryz.prog 104 [v,txt key] L fun u L'=>u=.tuple #[.int .i64 (belowN key ks:Nat),.bool (isN key ks)]/\L'=L:=by
 refine CS.mk (fn:=Tryz.f104) rfl rfl rfl rfl ?_
 repeat refine xQ ?_
 refine xG rfl ?_
 iterate 2 refine xP rfl rh rfl ?_
 refine xN ?_
 repeat refine xQ ?_
 refine xG rfl ?_
 refine xP rfl rh rfl ?_
 refine xP rfl (e_len hv rfl rfl rfl rfl rfl) rfl ?_
 refine xP rfl rh rfl ?_
 refine xN ?_
 repeat refine xQ ?_
 refine xG rfl ?_
 iterate 3 refine xP rfl rh rfl ?_
 refine xN ?_
 repeat refine xQ ?_
 refine LS.block ?_
 refine LS.loopJ [0,1,6,7,8] (fun q a L'=>∃ i j:Nat,q=j - i/\i<=j/\j<=ks.length/\(∀ m k,m < i->ks[m]?=some k->bytesLt k key=true)/\(∀ m k,j<=m->ks[m]?=some k->bytesLt k key=false)/\L'=L /\
  a=[v,txt key,jn,jn,jn,jn,.int .i64 (ks.length:Nat),.int .i64 (i:Nat),.int .i64 (j:Nat),jn,jn,jn,jn,jn,jn,jn,jn,jn,jn,jn,jn,jn,jn,jn,jn,jn,jn,jn,jn,jn,jn,jn,jn,jn,jn,jn,jn,jn,jn,jn,jn,jn,jn,jn,jn,jn,jn,jn,jn,jn,jn,jn,jn,jn]) (n:=ks.length) rfl ⟨0,ks.length,rfl,by omega,by omega,fun m k h=>by omega,fun m k h hk=>by have:=(List.getElem?_eq_some_iff.1 hk).1; omega,rfl,rfl⟩ ?_
 rintro q a L' ⟨i,j,rfl,hij,hj,h1,h2,rfl,rfl⟩
 repeat refine xQ ?_
 refine xG rfl ?_
 iterate 3 refine xP rfl rh rfl ?_
 refine xN ?_
 repeat refine xQ ?_
 refine xC rfl (fun hc=>?_) (fun hc=>?_)
 ·have hc:(i:Int) < j:=lt_of hc
  have hm:(i+j) / 2 < ks.length:=by omega
  have hsum:((i:Int)+(j:Int))=((i+j:Nat):Int):=by omega
  refine LS.skip ?_
  repeat refine xQ ?_
  refine LS.block ?_
  repeat refine xQ ?_
  refine xG rfl ?_
  iterate 2 refine xP rfl rh rfl ?_
  refine xP rfl (e_add (m:=i) (n:=j) rfl rfl rfl (in_i64 (by omega) (by omega))) rfl ?_
  refine xP rfl (e_conv (n:=i+j) rfl rfl rfl rfl (in_u64 (by omega) (by omega))) rfl ?_
  refine xP rfl (e_shr (k:=.u64) (m:=i+j) (s:=1) rfl rfl rfl (by decide)) rfl ?_
  refine xP rfl (e_conv (n:=(i+j) / 2 ^ 1) rfl rfl rfl rfl (in_i64 (by omega) (by omega))) rfl ?_
  rw [show (i+j) / 2 ^ 1=(i+j) / 2 from rfl]
  refine xP rfl rh rfl ?_
  refine xN ?_
  repeat refine xQ ?_
  refine xG rfl ?_
  iterate 2 refine xP rfl rh rfl ?_
  refine OS.at1 (j:=(i+j) / 2) hv (tx_at hm) rfl rfl rfl rfl rfl rfl (fun r0 o0 row0 cs0 m0 c0 g0=>?_)
  refine ⟨_,rfl,?_⟩
  refine xR rfl (e_loadm m0 c0 rfl rfl (part_one rfl g0)) rfl ?_
  refine xP rfl rh rfl ?_
  refine xA noGo rfl (fun _=>rfl) ((Less_ct ks[(i+j) / 2] key).mono ?_)
  rintro u L₁ ⟨rfl,e₁⟩
  subst e₁
  refine ⟨_,rfl,?_⟩
  refine xN ?_
  have hat:=List.getElem?_eq_getElem hm
  cases hb:bytesLt ks[(i+j) / 2] key with
  | true =>
   repeat refine xQ ?_
   refine xC rfl (fun h=>?_) (fun h=>?_)
   ·repeat refine xQ ?_
    refine xG rfl ?_
    refine xP rfl rh rfl ?_
    refine xP rfl (e_add (m:=(i+j) / 2) (n:=1) rfl rfl rfl (in_i64 (by omega) (by omega))) rfl ?_
    refine xP rfl rh rfl ?_
    refine xN ?_
    refine ⟨j - ((i+j) / 2+1),by omega,(i+j) / 2+1,j,rfl,by omega,hj,fun m k hmi hk=>?_,h2,rfl,rfl⟩
    rcases Nat.lt_or_ge m ((i+j) / 2) with h3 | h3
    ·have h4:=rise_after hr hk hat h3
     exact lt_trans h4 hb
    ·have:m=(i+j) / 2:=by omega
     subst this
     rw [hat] at hk
     cases hk
     exact hb
   ·cases h
  | false =>
   repeat refine xQ ?_
   refine xC rfl (fun h=>?_) (fun h=>?_)
   ·cases h
   ·repeat refine xQ ?_
    refine xG rfl ?_
    iterate 2 refine xP rfl rh rfl ?_
    refine xN ?_
    refine ⟨(i+j) / 2 - i,by omega,i,(i+j) / 2,rfl,by omega,by omega,h1,fun m k hmi hk=>?_,rfl,rfl⟩
    rcases Nat.lt_or_ge ((i+j) / 2) m with h3 | h3
    ·have h4:=rise_after hr hat hk h3
     cases h5:bytesLt k key with
     | false=>rfl
     | true=>rw [lt_trans h4 h5] at hb; cases hb
    ·have:m=(i+j) / 2:=by omega
     subst this
     rw [hat] at hk
     cases hk
     exact hb
 ·have hc:(j:Int)<=(i:Int):=nlt_of hc
  have hie:i=j:=by omega
  subst hie
  have hbe:=below_of hr hj h1 h2
  subst hbe
  refine LS.exit ?_
  by_cases hlt:belowN key ks < ks.length
  ·have hb1:(!ileB (ks.length:Int) (belowN key ks:Nat))=true:=by rw [ileB_eq]; simp; omega
   have hat:=List.getElem?_eq_getElem hlt
   by_cases he:ks[belowN key ks]=key
   ·have hb2:bytesEq ks[belowN key ks] key=true:=by rw [beqT]; simp [he]
    have hi:isN key ks=true:=by unfold isN; rw [hat,he]; simp
    repeat refine xQ ?_
    refine xG rfl ?_
    iterate 3 refine xP rfl rh rfl ?_
    refine xP rfl (e_ib rh (hb1)) rfl ?_
    iterate 3 refine xP rfl rh rfl ?_
    refine OS.at1 (j:=belowN key ks) hv (tx_at hlt) rfl rfl rfl rfl rfl rfl (fun r0 o0 row0 cs0 m0 c0 g0=>?_)
    refine ⟨_,rfl,?_⟩
    refine xR rfl (e_loadm m0 c0 rfl rfl (part_one rfl g0)) rfl ?_
    refine xP rfl rh rfl ?_
    refine xP rfl (e_ib rh (hb2)) rfl ?_
    refine xP rfl rh rfl ?_
    iterate 9 refine xK rfl rfl ?_
    iterate 4 refine xP rfl rh rfl ?_
    refine xN ?_
    refine xT ⟨_,fun _ _=>rfl,?_⟩
    exact ⟨by rw [hi]; rfl,rfl⟩
   ·have hb2:bytesEq ks[belowN key ks] key=false:=by rw [beqT]; simp [he]
    have hi:isN key ks=false:=by unfold isN; rw [hat]; simp [he]
    repeat refine xQ ?_
    refine xG rfl ?_
    iterate 3 refine xP rfl rh rfl ?_
    refine xP rfl (e_ib rh (hb1)) rfl ?_
    iterate 3 refine xP rfl rh rfl ?_
    refine OS.at1 (j:=belowN key ks) hv (tx_at hlt) rfl rfl rfl rfl rfl rfl (fun r0 o0 row0 cs0 m0 c0 g0=>?_)
    refine ⟨_,rfl,?_⟩
    refine xR rfl (e_loadm m0 c0 rfl rfl (part_one rfl g0)) rfl ?_
    refine xP rfl rh rfl ?_
    refine xP rfl (e_ib rh (hb2)) rfl ?_
    iterate 3 refine xP rfl rh rfl ?_
    refine OS.at1 (j:=belowN key ks) hv (tx_at hlt) rfl rfl rfl rfl rfl rfl (fun r0 o0 row0 cs0 m0 c0 g0=>?_)
    refine ⟨_,rfl,?_⟩
    refine xR rfl (e_loadm m0 c0 rfl rfl (part_one rfl g0)) rfl ?_
    refine xA noGo rfl (fun _=>rfl) ((slicesNaN_ct _).mono ?_)
    rintro u L₁ ⟨rfl,e₁⟩
    subst e₁
    refine ⟨_,rfl,?_⟩
    refine xP rfl rh rfl ?_
    iterate 2 refine xK rfl rfl ?_
    iterate 5 refine xP rfl rh rfl ?_
    refine xN ?_
    refine xT ⟨_,fun _ _=>rfl,?_⟩
    exact ⟨by rw [hi]; rfl,rfl⟩
  ·have hb1:(!ileB (ks.length:Int) (belowN key ks:Nat))=false:=by rw [ileB_eq]; simp; omega
   have hi:isN key ks=false:=by unfold isN; rw [List.getElem?_eq_none (by omega)]; simp
   repeat refine xQ ?_
   refine xG rfl ?_
   iterate 3 refine xP rfl rh rfl ?_
   refine xP rfl (e_ib rh (hb1)) rfl ?_
   refine xP rfl rh rfl ?_
   iterate 17 refine xK rfl rfl ?_
   iterate 3 refine xP rfl rh rfl ?_
   refine xN ?_
   refine xT ⟨_,fun _ _=>rfl,?_⟩
   exact ⟨by rw [hi]; rfl,rfl⟩
def findV (n:Nd) (key:List UInt8):Value:=if mayN n=true then .tuple #[.int .i64 (belowN key n.ks:Nat),.bool (isN key n.ks)] else .tuple #[.int .i64 0,.bool false]
theorem mayN_rise {n:Nd} (h:mayN n=true):rise [] n.ks=true:=by unfold mayN at h; simp at h; exact h.1
theorem Find_ct {L:RL} {n:Nd} {v1 v2 v3:Value} {key:List UInt8} (h:NV L n v1 v2 v3) (hs:n.ks.length<=1000000000000000):CS Tryz.prog 67 [ndV n.leaf v1 v2 v3,txt key] L fun u L'=>u=findV n key/\L'=L:=by
 suffices g:CS Tryz.prog 67 [ndV n.leaf v1 v2 v3,txt key] L fun u L'=>u=findV n key/\∃ x,L'=x::L by
  exact g.less fun u L' ⟨h1,x,h2⟩=>⟨L,by rw [h2]; exact Sub.tail,h1,rfl⟩
 refine CS.mk (fn:=Tryz.f67) rfl rfl rfl rfl ?_
 repeat refine xQ ?_
 refine xG rfl ?_
 refine OS.fresh rfl (e_new (fun _=>rfl) rfl) (fun _=>rfl) (fun rn=>?_)
 iterate 2 refine xP rfl rh rfl ?_
 refine xN ?_
 have h:=h.cons (x:=(rn,ndRow n.leaf v1 v2 v3))
 repeat refine xQ ?_
 refine xG rfl ?_
 refine xR rfl (e_load 0 rfl rfl rfl rfl rfl) rfl ?_
 refine xA noGo rfl (fun _=>rfl) ((mayBe_ct h).mono ?_)
 rintro u L₁ ⟨rfl,e₁⟩
 subst e₁
 refine ⟨_,rfl,?_⟩
 refine xP rfl rh rfl ?_
 refine xN ?_
 unfold findV
 cases hm:mayN n with
 | false =>
  rw [if_neg (by decide)]
  repeat refine xQ ?_
  refine xC rfl (fun hc=>?_) (fun hc=>?_)
  ·repeat refine xQ ?_
   refine xG rfl ?_
   iterate 2 refine xP rfl rh rfl ?_
   refine xN ?_
   refine xT ⟨_,fun _ _=>rfl,?_⟩
   exact ⟨rfl,_,rfl⟩
  ·cases hc
 | true =>
  rw [if_pos rfl]
  repeat refine xQ ?_
  refine xC rfl (fun hc=>?_) (fun hc=>?_)
  ·cases hc
  refine LS.skip ?_
  repeat refine xQ ?_
  refine xG rfl ?_
  refine xP rfl rh rfl ?_
  refine xR rfl (e_load 0 rfl rfl rfl rfl rfl) rfl ?_
  refine xP rfl rh rfl ?_
  refine xA noGo rfl (fun _=>rfl) ((Binary_ct (key:=key) h.k hs (mayN_rise hm)).mono ?_)
  rintro u L₁ ⟨rfl,e₁⟩
  subst e₁
  refine ⟨_,rfl,?_⟩
  iterate 4 refine xP rfl rh rfl ?_
  refine xN ?_
  refine xT ⟨_,fun _ _=>rfl,?_⟩
  exact ⟨rfl,_,rfl⟩
end Go.Proofs.YtlmmddfhoabjfaaGreat
end
section
namespace Go.Am
section
variable {P:Program} {o:Oper} {a:Slots} {L:RL}
def VL (e:TypeId) (sz r:Nat) (X:RL) (v:Value) (m:Nat) (new:List Value):Prop :=
 (m=0/\new=[]/\X=[]/\v=.slice (some ⟨r,0,none⟩) 0 0)∨∃ r',X=[(r',.cells e new)]/\v=.slice (some ⟨r',0,none⟩) m openCap/\new.length=m * sz
theorem SV.void {sz r:Nat} {row:ARow} {cs:List Value} (hm:(r,row)∈L) (hc:rdRow row=some cs):SV sz L (.slice (some ⟨r,0,none⟩) 0 0) 0 [] :=
 .inr ⟨r,0,0,row,cs,rfl,hm,hc,by rw [Nat.zero_mul]; exact cut_zero⟩
theorem e_appVoid {c:Call} {e:TypeId} {sz bts m r:Nat} {x:Value} {new:List Value} (hv0:SV sz L (.slice (some ⟨r,0,none⟩) 0 0) 0 []) (hs:SV sz L x m new) (hone:allOne new=true) (ho:o.op=.call c) (hT:appT P c=some (e,sz,bts)) (ha:evs a c.args.toList=some [.slice (some ⟨r,0,none⟩) 0 0,x])
  (hsm:m * bts<=1000000000000) (hsm2:m<=1000000000000) :
  ∀ h,Has h L->∃ v h₁ L₁,opB P a o h=some (.val v h₁)/\Has h₁ L₁/\∃ X,L₁=X++L/\VL e sz r X v m new:=by
 intro h H
 have hn1:=hs.lenB
 have hf:firstB sz m x h=some new:=hs.first H
 have hf0:firstB sz 0 (.slice (some ⟨r,0,none⟩) 0 0) h=some []:=hv0.first H
 have hone':(allOne new && (notText x || Nat.beq sz 1))=true:=by rw [hone,hs.notText]; rfl
 unfold appT at hT
 split at hT
 case h_2=>cases hT
 rename_i hcal
 split at hT
 case h_2=>cases hT
 rename_i st xt hst hxt
 split at hT
 case h_2=>cases hT
 rename_i e' xd hu1 hu2
 have hxd:(∀ k,xd=.int k->False)/\∃ i,P.info? e'=some i/\zeroFits P e'=true/\e'=e/\i.size=sz/\i.bytes=bts:=by
  split at hT
  ·cases hT
  ·rename_i hno
   split at hT
   case h_2=>cases hT
   rename_i i hi hz
   simp at hT
   obtain ⟨rfl,rfl,rfl⟩:=hT
   exact ⟨fun k hk=>hno k hk,i,hi,hz,rfl,rfl,rfl⟩
 obtain ⟨hno,i,hi,hz,rfl,rfl,rfl⟩:=hxd
 have hs':sizeB P e'=some i.size:=by unfold sizeB; rw [hi]
 rcases Nat.eq_zero_or_pos m with h0 | hpos
 ·subst h0
  have hnew:new=[]:=List.eq_nil_of_length_eq_zero (by have:=hs.len; omega)
  subst hnew
  refine ⟨.slice (some ⟨r,0,none⟩) 0 0,h,L,?_,H,[],rfl,.inl ⟨rfl,rfl,rfl,rfl⟩⟩
  simp only [opB,ho,ha,callOpB,hcal,appendB,hst,hxt,hu1,hu2]
  cases xd <;> first | exact (hno _ rfl).elim | skip
  all_goals
   simp only [hi,hn1,hf,hone']
   rfl
 ·obtain ⟨h₁,e₁⟩:=h.new_some (.cells e' new)
  refine ⟨.slice (some ⟨h.next,0,none⟩) m openCap,h₁,_,?_,H.new e₁,[(h.next,.cells e' new)],rfl,.inr ⟨_,rfl,rfl,hs.len⟩⟩
  have b2:Nat.ble m 1000000000000=true:=Nat.ble_eq_true_of_le hsm2
  have hgrow:growB P h e' (0+m) [] new=some (.slice (some ⟨h.next,0,none⟩) m openCap,h₁):=by
   simp only [growB,join_of,hz,Nat.zero_add,b2,Bool.and_self,newCells,hs',List.nil_append,e₁]
  simp only [opB,ho,ha,callOpB,hcal,appendB,hst,hxt,hu1,hu2]
  cases xd <;> first | exact (hno _ rfl).elim | skip
  all_goals
   simp only [hi,hn1,hf,hone']
   have hc:Nat.beq 0 openCap=false:=beq_false (by decide)
   have b0:Nat.ble (0+m) 0=false:=by
    cases hb:Nat.ble (0+m) 0 with
    | false=>rfl
    | true=>have:=of_ble hb; omega
   have b1:smallB (0+m+0) i.bytes=true:=by unfold smallB; exact Nat.ble_eq_true_of_le (by simpa using hsm)
   simp only [hc,b0,hf0,b1,hgrow,ret2]
end
end Go.Am
namespace Go.Proofs.YtlmmddfhoabjfaaGreat
open Go.Am
theorem tx_one:∀ ts:List (List UInt8),allOne (tx ts)=true
 | []=>rfl
 | t::r=>by simp only [tx,List.map_cons,allOne]; exact tx_one r
theorem nums_one:∀ zs:List Int,allOne (nums zs)=true
 | []=>rfl
 | z::r=>by simp only [nums,List.map_cons,allOne]; exact nums_one r
end Go.Proofs.YtlmmddfhoabjfaaGreat
end
section
namespace Go.Proofs.YtlmmddfhoabjfaaGreat
open Go.Am
abbrev bRow (bs:List UInt8):ARow:=.cells 5 (byteCells bs)
abbrev bSl (r:Nat) (bs:List UInt8):Value:=.slice (some ⟨r,0,none⟩) bs.length openCap
theorem brow_sv {L:RL} {r:Nat} {bs:List UInt8}:SV 1 ((r,bRow bs)::L) (bSl r bs) bs.length (byteCells bs):=SV.row (List.mem_cons_self ..) (by rw [byteCells_len]; omega)
theorem headD_get {l:List Int} (h:0 < l.length):l[0]=l.headD 0:=by cases l with
 | nil=>simp at h
 | cons c r=>rfl
theorem cnt_nat {m:Nat} (h:m<=2147483647):cnt (m:Int)=grp m:=by unfold cnt; rw [if_pos (by omega)]; rfl
theorem Str0_ct {L:RL} {s:List UInt8} (hs:s.length<=200000):CS Tryz.prog 80 [.slice none 0 0,txt s] L fun v L'=>∃ r,v=bSl r (tB s)/\L'=(r,bRow (tB s))::L:=by
 refine (Str_ct (n:=0) (bs:=[]) hs (.inl ⟨rfl,rfl,rfl⟩) (by omega)).mono ?_
 rintro v L' ⟨r,rfl,rfl⟩
 rw [cnt_nat (by omega)]
 exact ⟨r,by rw [Nat.zero_add]; unfold bSl tB; rw [List.length_append],rfl⟩
theorem Count0_ct {L:RL} {z:Int}:CS Tryz.prog 77 [.slice none 0 0,.int .i64 z] L fun v L'=>∃ r,v=bSl r (cnt z)/\L'=(r,bRow (cnt z))::L:=by
 refine (Count_ct (n:=0) (bs:=[]) z (.inl ⟨rfl,rfl,rfl⟩) (by omega)).mono ?_
 rintro v L' ⟨r,rfl,rfl⟩
 exact ⟨r,by rw [Nat.zero_add],rfl⟩
theorem beh1_ct {L:RL} {rn:Nat} {b:Bool} {v1 v2 v3:Value} {vs:List (List UInt8)} {j:Nat} (hm:(rn,ndRow b v1 v2 v3)∈L) (hv:SV 1 L v2 vs.length (tx vs)) (hj:j < vs.length) (hl:vs[j].length<=200000) :
  CS Tryz.prog 79 [.int .i64 (j:Nat),.pointer (some ⟨rn,0,none⟩)] L fun v L'=>∃ r,v=bSl r (tB vs[j])/\L'=(r,bRow (tB vs[j]))::L:=by
 refine CS.mk (fn:=Tryz.f79) rfl rfl rfl rfl ?_
 repeat refine xQ ?_
 refine xG rfl ?_
 refine xP rfl rh rfl ?_
 refine xN ?_
 repeat refine xQ ?_
 refine xG rfl ?_
 refine xP rfl rh rfl ?_
 refine xR rfl (e_loadm hm rfl rfl rfl rfl) rfl ?_
 refine xP rfl rh rfl ?_
 refine OS.at1 (j:=j) hv (tx_at hj) rfl rfl rfl rfl rfl rfl (fun r0 o0 row0 cs0 m0 c0 g0=>?_)
 refine ⟨_,rfl,?_⟩
 refine xR rfl (e_loadm m0 c0 rfl rfl (part_one rfl g0)) rfl ?_
 refine xA noGo rfl (fun _=>rfl) ((Str0_ct hl).mono ?_)
 rintro u L₁ ⟨r,rfl,rfl⟩
 refine ⟨_,rfl,?_⟩
 refine xP rfl rh rfl ?_
 refine xN ?_
 refine xT ⟨_,fun _ _=>rfl,?_⟩
 exact ⟨r,rfl,rfl⟩
theorem beh2_ct {L:RL} {rn:Nat} {b:Bool} {v1 v2 v3:Value} {zs:List Int} {j:Nat} (hm:(rn,ndRow b v1 v2 v3)∈L) (hv:SV 1 L v3 zs.length (nums zs)) (hn:zs.length<=9000000000000000) (hj:j+1 < zs.length) :
  CS Tryz.prog 81 [.int .i64 (j:Nat),.pointer (some ⟨rn,0,none⟩)] L fun v L'=>∃ r,v=bSl r (cnt zs[j+1])/\L'=(r,bRow (cnt zs[j+1]))::L:=by
 refine CS.mk (fn:=Tryz.f81) rfl rfl rfl rfl ?_
 repeat refine xQ ?_
 refine xG rfl ?_
 refine xP rfl rh rfl ?_
 refine xN ?_
 repeat refine xQ ?_
 refine xG rfl ?_
 refine xP rfl rh rfl ?_
 refine xR rfl (e_loadm hm rfl rfl rfl rfl) rfl ?_
 refine xP rfl rh rfl ?_
 refine xP rfl (e_add (m:=j) (n:=1) rfl rfl rfl (in_i64 (by omega) (by omega))) rfl ?_
 refine OS.at1 (j:=j+1) hv (nums_at hj) rfl rfl rfl rfl rfl rfl (fun r0 o0 row0 cs0 m0 c0 g0=>?_)
 refine ⟨_,rfl,?_⟩
 refine xR rfl (e_loadm m0 c0 rfl rfl (part_one rfl g0)) rfl ?_
 refine xA noGo rfl (fun _=>rfl) ((Count0_ct).mono ?_)
 rintro u L₁ ⟨r,rfl,rfl⟩
 refine ⟨_,rfl,?_⟩
 refine xP rfl rh rfl ?_
 refine xN ?_
 refine xT ⟨_,fun _ _=>rfl,?_⟩
 exact ⟨r,rfl,rfl⟩
theorem body_ct {L:RL} {n:Nd} {v1 v2 v3:Value} (h:NV L n v1 v2 v3) (hm:mayN n=true) (hn:n.ks.length<=1000000) :
  CS Tryz.prog 47 [ndV n.leaf v1 v2 v3] L fun u L'=>∃ r,u=bSl r (bodyN n)/\L'=(r,bRow (bodyN n))::L:=by
 suffices g:CS Tryz.prog 47 [ndV n.leaf v1 v2 v3] L fun u L'=>∃ r x,u=bSl r (bodyN n)/\L'=(r,bRow (bodyN n))::x::L by
  exact g.less fun u L' ⟨r,x,h1,h2⟩=>⟨_,by rw [h2]; exact Sub.cons Sub.tail,r,h1,rfl⟩
 have hle:=body_le hm hn
 have hbl:=beh_len hm
 have hkl:=may_ks hm
 have hble:=beh_le hm
 refine CS.mk (fn:=Tryz.f47) rfl rfl rfl rfl ?_
 repeat refine xQ ?_
 refine xG rfl ?_
 refine OS.fresh rfl (e_new (fun _=>rfl) rfl) (fun _=>rfl) (fun rn=>?_)
 refine xP rfl rh rfl ?_
 refine xN ?_
 have h0:=h
 have h:=h.cons (x:=(rn,ndRow n.leaf v1 v2 v3))
 repeat refine xQ ?_
 refine LS.drawn noGo mixed [(0,false),(1,false),(3,false),(4,false),(5,false),(2,true),(6,true),(7,false)] rfl rfl (by kernel_rfl) ?_
 refine xD rfl rfl rh rfl ?_
 refine xE rfl rfl (e_load 0 rfl rfl rfl rfl rfl) rfl ?_
 refine xD rfl rfl rh rfl ?_
 refine xE rfl rfl (e_load 0 rfl rfl rfl rfl rfl) rfl ?_
 refine xD rfl rfl (e_len h.k rfl rfl rfl rfl rfl) rfl ?_
 refine ODS.call rfl rfl (fun _=>rfl) (((Flag_ct (n:=0) (bs:=[]) n.leaf (.inl ⟨rfl,rfl,rfl⟩) (by omega))).mono ?_)
 rintro u L' ⟨r,rfl,rfl⟩
 refine ⟨_,rfl,Keep.cons rfl (e_load 1 rfl rfl rfl rfl rfl) (Keep.gone rfl Keep.nil),?_⟩
 refine ODS.call rfl rfl (fun _=>rfl) (((Count_ct (n:=0+1) (bs:=[]++[if n.leaf then 1 else 0]) (n.ks.length:Int) (SV.row (List.mem_cons_self ..) (by simp [byteCells])) (by omega))).mono ?_)
 rintro u L' ⟨r1,rfl,rfl⟩
 refine ⟨_,rfl,Keep.gone rfl (Keep.gone rfl Keep.nil),?_⟩
 rw [cnt_nat (by omega)]
 refine xD rfl rfl rh rfl ?_
 refine xM ?_
 have hhead:[]++[if n.leaf then (1:UInt8) else 0]++grp n.ks.length=headN n:=rfl
 rw [hhead]
 have hhl:0+1+(grp n.ks.length).length=(headN n).length:=by unfold headN; simp; omega
 rw [hhl]
 repeat refine xQ ?_
 refine xG rfl ?_
 refine OS.sub (Sub.drop 1 rfl) ?_
 iterate 2 refine xP rfl rh rfl ?_
 refine xN ?_
 repeat refine xQ ?_
 refine xG rfl ?_
 refine xP rfl rh rfl ?_
 refine xR rfl (e_load 1 rfl rfl rfl rfl rfl) rfl ?_
 refine xP rfl rh rfl ?_
 refine xN ?_
 repeat refine xQ ?_
 refine LS.mid [1,3,4] (fun a L'=>∃ rb acc f,L'=(rb,bRow acc)::(rn,ndRow n.leaf v1 v2 v3)::L/\acc++zipB n.ks (behN n)=bodyN n /\
  (∀ (j:Nat) (hj:j < (behN n).length) (r0:Nat) (acc0:List UInt8),CS Tryz.prog f [.int .i64 (j:Nat),.pointer (some ⟨rn,0,none⟩)] ((r0,bRow acc0)::(rn,ndRow n.leaf v1 v2 v3)::L) fun v L'=>∃ r,v=bSl r (behN n)[j]/\L'=(r,bRow (behN n)[j])::(r0,bRow acc0)::(rn,ndRow n.leaf v1 v2 v3)::L) /\
  a=[jn,.pointer (some ⟨rn,0,none⟩),jn,bSl rb acc,.func (.func f) #[] #[.pointer (some ⟨rn,0,none⟩)],jn,jn,jn,jn,jn,jn,jn,jn,jn,jn,jn,jn,jn,jn,jn,jn,jn,jn,jn,jn,jn,jn,jn,jn,jn,jn,jn,jn,jn,jn,jn,jn,jn,jn,jn,jn,jn,jn,jn]) ?_ ?_
 ·refine xC (b:=!n.leaf) rfl (fun hc=>?_) (fun hc=>?_)
  ·have hlf:n.leaf=false:=by simpa using hc
   obtain ⟨hkn,hv0,hkz⟩:=may_kids hm hlf
   have hk0:0 < n.kids.length:=by omega
   have hz:=h.z
   repeat refine xQ ?_
   refine xG rfl ?_
   iterate 2 refine xP rfl rh rfl ?_
   refine xR rfl (e_load 1 rfl rfl rfl rfl rfl) rfl ?_
   refine OS.at1 (j:=0) (hz.cons (x:=(r1,bRow (headN n)))) (nums_at hk0) rfl rfl rfl rfl rfl rfl (fun r0 o0 row0 cs0 m0 c0 g0=>?_)
   refine ⟨_,rfl,?_⟩
   refine xR rfl (e_loadm m0 c0 rfl rfl (part_one rfl g0)) rfl ?_
   refine xA noGo rfl (fun _=>rfl) (((Count_ct (n:=(headN n).length) (bs:=headN n) n.kids[0] (SV.row (List.mem_cons_self ..) (by rw [byteCells_len]; omega)) (by unfold bodyN at hle; simp at hle; omega))).mono ?_)
   rintro u L' ⟨r2,rfl,rfl⟩
   refine ⟨_,rfl,?_⟩
   refine OS.sub (Sub.drop 1 rfl) ?_
   refine xP rfl rh rfl ?_
   refine xN ?_
   repeat refine xQ ?_
   refine xG rfl ?_
   iterate 2 refine xP rfl rh rfl ?_
   refine xN ?_
   refine ⟨r2,headN n++cnt n.kids[0],_,rfl,?_,fun j hj r0 acc0=>?_,by unfold bSl; rw [List.length_append]; rfl⟩
   ·unfold bodyN firstN
    rw [hlf,if_neg (by decide),List.append_assoc]
    congr 3
    exact headD_get hk0
   ·have hj':j+1 < n.kids.length:=by rw [hbl] at hj; omega
    have hb:(behN n)[j]=cnt n.kids[j+1]:=by
     simp only [behN,hlf]
     simp
    rw [hb]
    exact beh2_ct (List.mem_cons_of_mem _ (List.mem_cons_self ..)) hz.cons h.zn hj'
  ·have hlf:n.leaf=true:=by simpa using hc
   obtain ⟨hvn,hkn,hvl⟩:=may_vs hm hlf
   have hvv:=h.v
   refine LS.skip ?_
   refine ⟨r1,headN n,_,rfl,?_,fun j hj r0 acc0=>?_,rfl⟩
   ·unfold bodyN firstN
    rw [hlf,if_pos rfl,List.nil_append]
   ·have hj':j < n.vs.length:=by rw [hbl] at hj; omega
    have hb:(behN n)[j]=tB n.vs[j]:=by
     simp only [behN,hlf]
     simp
    rw [hb]
    exact beh1_ct (List.mem_cons_of_mem _ (List.mem_cons_self ..)) hvv.cons hj' (by have:=hvl _ (List.getElem_mem hj'); omega)
 rintro a L' ⟨rb,acc,f,rfl,hacc,hf,rfl⟩
 repeat refine xQ ?_
 refine xG rfl ?_
 refine xP rfl rh rfl ?_
 refine xR rfl (e_load 1 rfl rfl rfl rfl rfl) rfl ?_
 refine xP rfl (e_len (h.k.cons (x:=(rb,bRow acc))) rfl rfl rfl rfl rfl) rfl ?_
 refine xP rfl rh rfl ?_
 refine xN ?_
 repeat refine xQ ?_
 refine LS.block ?_
 refine LS.loopJ [1,3,4,26,27,28] (fun q a L'=>∃ j rb acc,q=n.ks.length - j/\j<=n.ks.length/\L'=(rb,bRow acc)::(rn,ndRow n.leaf v1 v2 v3)::L/\acc++zipB (n.ks.drop j) ((behN n).drop j)=bodyN n /\
  a=[jn,.pointer (some ⟨rn,0,none⟩),jn,bSl rb acc,.func (.func f) #[] #[.pointer (some ⟨rn,0,none⟩)],jn,jn,jn,jn,jn,jn,jn,jn,jn,jn,jn,jn,jn,jn,jn,jn,jn,jn,jn,jn,jn,v1,.int .i64 (n.ks.length:Nat),.int .i64 (j:Nat),jn,jn,jn,jn,jn,jn,jn,jn,jn,jn,jn,jn,jn,jn,jn]) (n:=n.ks.length) rfl ⟨0,rb,acc,rfl,by omega,rfl,hacc,rfl⟩ ?_
 rintro q a L' ⟨j,rb,acc,rfl,hj,rfl,hacc,rfl⟩
 repeat refine xQ ?_
 refine xG rfl ?_
 refine xP rfl rh rfl ?_
 refine xN ?_
 repeat refine xQ ?_
 refine xC rfl (fun hc=>?_) (fun hc=>?_)
 ·have hc:(j:Int) < n.ks.length:=lt_of hc
  have hjk:j < n.ks.length:=by omega
  have hjb:j < (behN n).length:=by omega
  have hkj:=hkl _ (List.getElem_mem hjk)
  have hbj:=hble _ (List.getElem_mem hjb)
  rw [List.drop_eq_getElem_cons hjk,List.drop_eq_getElem_cons hjb] at hacc
  simp only [zipB] at hacc
  have hlen:=congrArg List.length hacc
  simp only [List.length_append] at hlen
  have htl:=tB_len (s:=n.ks[j]) (by omega)
  refine LS.skip ?_
  repeat refine xQ ?_
  refine LS.block ?_
  repeat refine xQ ?_
  refine xG rfl ?_
  refine xP rfl rh rfl ?_
  refine OS.at1 (j:=j) (h.k.cons (x:=(rb,bRow acc))) (tx_at hjk) rfl rfl rfl rfl rfl rfl (fun r0 o0 row0 cs0 m0 c0 g0=>?_)
  refine ⟨_,rfl,?_⟩
  refine xR rfl (e_loadm m0 c0 rfl rfl (part_one rfl g0)) rfl ?_
  iterate 2 refine xP rfl rh rfl ?_
  refine xN ?_
  repeat refine xQ ?_
  refine xG rfl ?_
  iterate 2 refine xP rfl rh rfl ?_
  refine xA noGo rfl (fun _=>rfl) ((Str0_ct (by omega)).mono ?_)
  rintro u L' ⟨r2,rfl,rfl⟩
  refine ⟨_,rfl,?_⟩
  refine OS.fresh rfl (e_appendSV 1 (sz:=1) (bts:=1) (n:=(tB n.ks[j]).length) brow_sv (byteCells_one _) rfl rfl rfl (by omega) (by omega) rfl (cut_all (by rw [byteCells_len]; omega)) rfl) (fun _=>rfl) (fun r3=>?_)
  refine OS.sub (Sub.drop 1 rfl) ?_
  refine xP rfl rh rfl ?_
  refine xN ?_
  rw [← byteCells_append,← List.length_append]
  repeat refine xQ ?_
  refine xG rfl ?_
  iterate 3 refine xP rfl rh rfl ?_
  refine xA noGo rfl (fun _=>rfl) ((hf j hjb r3 (acc++tB n.ks[j])).mono ?_)
  rintro u L' ⟨r4,rfl,rfl⟩
  refine ⟨_,rfl,?_⟩
  refine OS.fresh rfl (e_appendSV 1 (sz:=1) (bts:=1) (n:=(behN n)[j].length) brow_sv (byteCells_one _) rfl rfl rfl (by simp only [List.length_append]; omega) (by simp only [List.length_append]; omega) rfl (cut_all (by rw [byteCells_len]; omega)) rfl) (fun _=>rfl) (fun r5=>?_)
  refine OS.sub (Sub.drop 1 rfl) ?_
  refine xP rfl rh rfl ?_
  refine xN ?_
  rw [← byteCells_append,← List.length_append]
  repeat refine xQ ?_
  refine xG rfl ?_
  refine xP rfl (e_add (m:=j) (n:=1) rfl rfl rfl (in_i64 (by omega) (by omega))) rfl ?_
  refine xP rfl rh rfl ?_
  refine xN ?_
  refine ⟨n.ks.length - (j+1),by omega,j+1,r5,acc++tB n.ks[j]++(behN n)[j],rfl,by omega,rfl,?_,rfl⟩
  rw [← hacc]
  simp only [List.append_assoc]
 ·have hc:(n.ks.length:Int)<=(j:Int):=nlt_of hc
  have hje:j=n.ks.length:=by omega
  subst hje
  rw [List.drop_length] at hacc
  simp only [zipB,List.append_nil] at hacc
  subst hacc
  refine LS.exit ?_
  repeat refine xQ ?_
  refine xG rfl ?_
  iterate 2 refine xP rfl rh rfl ?_
  refine xN ?_
  refine xT ⟨_,fun _ _=>rfl,?_⟩
  exact ⟨rb,_,rfl,rfl⟩
def sizeV (n:Nd):Value:=.int .i64 (sizeN n:Nat)
theorem Size_ct {L:RL} {n:Nd} {v1 v2 v3:Value} (h:NV L n v1 v2 v3) (hn:n.ks.length<=1000000):CS Tryz.prog 133 [ndV n.leaf v1 v2 v3] L fun u L'=>u=sizeV n/\L'=L:=by
 suffices g:CS Tryz.prog 133 [ndV n.leaf v1 v2 v3] L fun u L'=>u=sizeV n/\∃ X,L'=X++L by
  exact g.less fun u L' ⟨h1,x,h2⟩=>⟨L,by rw [h2]; exact Sub.suffix,h1,rfl⟩
 refine CS.mk (fn:=Tryz.f133) rfl rfl rfl rfl ?_
 repeat refine xQ ?_
 refine xG rfl ?_
 refine OS.fresh rfl (e_new (fun _=>rfl) rfl) (fun _=>rfl) (fun rn=>?_)
 refine xP rfl rh rfl ?_
 refine xN ?_
 have h:=h.cons (x:=(rn,ndRow n.leaf v1 v2 v3))
 repeat refine xQ ?_
 refine xG rfl ?_
 refine xR rfl (e_load 0 rfl rfl rfl rfl rfl) rfl ?_
 refine xA noGo rfl (fun _=>rfl) ((mayBe_ct h).mono ?_)
 rintro u L₁ ⟨rfl,e₁⟩
 subst e₁
 refine ⟨_,rfl,?_⟩
 refine xP rfl rh rfl ?_
 refine xN ?_
 unfold sizeV sizeN
 cases hm:mayN n with
 | false =>
  rw [if_neg (by decide)]
  repeat refine xQ ?_
  refine xC rfl (fun hc=>?_) (fun hc=>?_)
  ·repeat refine xQ ?_
   refine xG rfl ?_
   refine xP rfl rh rfl ?_
   refine xN ?_
   refine xT ⟨_,fun _ _=>rfl,?_⟩
   exact ⟨rfl,[_],rfl⟩
  ·cases hc
 | true =>
  rw [if_pos rfl]
  repeat refine xQ ?_
  refine xC rfl (fun hc=>?_) (fun hc=>?_)
  ·cases hc
  refine LS.skip ?_
  repeat refine xQ ?_
  refine xG rfl ?_
  refine xR rfl (e_load 0 rfl rfl rfl rfl rfl) rfl ?_
  refine xA noGo rfl (fun _=>rfl) ((body_ct h hm hn).mono ?_)
  rintro u L' ⟨r,rfl,rfl⟩
  refine ⟨_,rfl,?_⟩
  refine xP rfl (e_len (brow_sv (L:=[])) rfl rfl rfl rfl rfl) rfl ?_
  refine xP rfl rh rfl ?_
  refine xN ?_
  refine xT ⟨_,fun _ _=>rfl,?_⟩
  exact ⟨rfl,[_,_],rfl⟩
theorem Fits_ct {L:RL} {n:Nd} {v1 v2 v3:Value} (h:NV L n v1 v2 v3) (hn:n.ks.length<=1000000):CS Tryz.prog 156 [ndV n.leaf v1 v2 v3] L fun u L'=>u=.bool (fitsN n)/\L'=L:=by
 suffices g:CS Tryz.prog 156 [ndV n.leaf v1 v2 v3] L fun u L'=>u=.bool (fitsN n)/\∃ X,L'=X++L by
  exact g.less fun u L' ⟨h1,x,h2⟩=>⟨L,by rw [h2]; exact Sub.suffix,h1,rfl⟩
 refine CS.mk (fn:=Tryz.f156) rfl rfl rfl rfl ?_
 repeat refine xQ ?_
 refine xG rfl ?_
 refine OS.fresh rfl (e_new (fun _=>rfl) rfl) (fun _=>rfl) (fun rn=>?_)
 refine xP rfl rh rfl ?_
 refine xN ?_
 have h:=h.cons (x:=(rn,ndRow n.leaf v1 v2 v3))
 repeat refine xQ ?_
 refine xG rfl ?_
 refine xR rfl (e_load 0 rfl rfl rfl rfl rfl) rfl ?_
 refine xA noGo rfl (fun _=>rfl) ((mayBe_ct h).mono ?_)
 rintro u L₁ ⟨rfl,e₁⟩
 subst e₁
 unfold fitsN
 cases hm:mayN n with
 | false =>
  refine ⟨_,rfl,?_⟩
  refine xP rfl rh rfl ?_
  iterate 4 refine xK rfl rfl ?_
  iterate 2 refine xP rfl rh rfl ?_
  refine xN ?_
  refine xT ⟨_,fun _ _=>rfl,?_⟩
  exact ⟨rfl,[_],rfl⟩
 | true =>
  refine ⟨_,rfl,?_⟩
  refine xP rfl rh rfl ?_
  refine xR rfl (e_load 0 rfl rfl rfl rfl rfl) rfl ?_
  refine xA noGo rfl (fun _=>rfl) ((body_ct h hm hn).mono ?_)
  rintro u L' ⟨r,rfl,rfl⟩
  have hb:ileB ((bodyN n).length:Int) 256=decide ((bodyN n).length<=256):=by rw [ileB_eq]; by_cases h:(bodyN n).length<=256 <;> simp [h] <;> omega
  refine ⟨_,rfl,?_⟩
  refine xP rfl (e_len (brow_sv (L:=[])) rfl rfl rfl rfl rfl) rfl ?_
  refine xP rfl (e_ib rh (hb)) rfl ?_
  iterate 2 refine xP rfl rh rfl ?_
  refine xN ?_
  refine xT ⟨_,fun _ _=>rfl,?_⟩
  exact ⟨rfl,[_,_],rfl⟩
end Go.Proofs.YtlmmddfhoabjfaaGreat
end
section
namespace Go.Am
theorem GV.appendR {e:TypeId} {sz n:Nat} {F L:RL} {v:Value} {cs:List Value} (X:RL) (g:GV e sz F v n cs L):GV e sz (F++X) v n cs (L++X):=by
 rcases g with ⟨rfl,rfl,rfl,rfl⟩ | ⟨r,rfl,hl,rfl⟩
 ·exact .inl ⟨rfl,rfl,rfl,rfl⟩
 ·exact .inr ⟨r,rfl,hl,rfl⟩
end Go.Am
namespace Go.Proofs.YtlmmddfhoabjfaaGreat
open Go.Am
def withoutN (n:Nd) (i:Nat):Nd:=⟨n.leaf,n.ks.eraseIdx i,n.vs.eraseIdx i,n.kids.eraseIdx (i+1)⟩
end Go.Proofs.YtlmmddfhoabjfaaGreat
end
section
namespace Go.Am
section
variable {P:Program} {o:Oper} {a:Slots} {L L₁:RL}
theorem e_copyS (i:Nat) {c:Call} {st e e':TypeId} {sz n N r cap:Nat} {x:Value} {cs new cs':List Value} (hs:SV sz L x n new) (hpos:0 < n) (hN:n<=N) (hone:allOne new=true) (ho:o.op=.call c) (hc:c.callee=.builtin .copy) (ha:evs a c.args.toList=some [.slice (some ⟨r,0,none⟩) N cap,x])
  (ht:c.argTypes[0]?=some st) (hu:P.underlying st=some (.slice e)) (hz:sizeB P e=some sz) (hL:L[i]?=some (r,.cells e' cs)) (hlay:lay cs 0 new=some cs') (hset:setL L i (r,.cells e' cs')=some L₁):∀ h,Has h L->∃ h₁,opB P a o h=some (.val (.int .i64 n) h₁)/\Has h₁ L₁:=by
 intro h H
 obtain ⟨h₁,e₁⟩:=h.put_some r (some (.cells e' cs'))
 have:=setL_eq hset
 subst this
 have hb:Nat.beq n 0=false:=by cases n with | zero=>omega | succ n=>rfl
 have hmin:Nat.min n N=n:=Nat.min_eq_left hN
 refine ⟨h₁,?_,H.put hL e₁⟩
 simp only [opB,ho,ha,callOpB,hc,copyB,ht,hu,hz,hs.lenB,hmin,hs.first H,hone,hs.notText,hb,H.row hL,hlay,e₁,Bool.true_or,Bool.and_self,ret2,goInt]
end
end Go.Am
namespace Go.Proofs.YtlmmddfhoabjfaaGreat
open Go.Am
theorem makeT_bytes:makeT Tryz.prog 30=some (5,1,1,[.int .u8 0]):=by kernel_rfl
theorem repL_u8 {n:Nat}:repL [Value.int .u8 0] n=byteCells (List.replicate n 0):=by
 rw [repL_one]; simp [byteCells]
theorem lay_front {bs zs:List UInt8} (h:bs.length<=zs.length):lay (byteCells zs) 0 (byteCells bs)=some (byteCells (bs++zs.drop bs.length)):=by
 rw [lay_of (by rw [byteCells_len,byteCells_len]; omega)]
 simp [byteCells,List.map_drop]
def EncV (n:Nd) (L:RL) (v:Value) (L':RL):Prop:=∃ u,v=.tuple #[u,.int .i64 (errN n)] /\
 ((fitsN n=false/\u=.slice none 0 0/\L'=L)∨(fitsN n=true/\∃ r,u=.slice (some ⟨r,0,none⟩) 256 256/\L'=(r,bRow (encN n))::L))
theorem enc_len {n:Nd} (h:fitsN n=true):(encN n).length=256:=by
 unfold encN
 rw [if_pos h]
 unfold fitsN at h
 simp at h
 simp
 omega
theorem Encode_ct {L:RL} {n:Nd} {v1 v2 v3:Value} (h:NV L n v1 v2 v3) (hn:n.ks.length<=1000000):CS Tryz.prog 17 [ndV n.leaf v1 v2 v3] L fun u L'=>EncV n L u L':=by
 suffices g:CS Tryz.prog 17 [ndV n.leaf v1 v2 v3] L fun u L'=>∃ L₀ X,EncV n L₀ u L'/\L₀=X++L by
  refine g.less fun u L' ⟨L₀,X,⟨w,h1,h2⟩,h3⟩=>?_
  subst h3
  rcases h2 with ⟨h2,h4,rfl⟩ | ⟨h2,r,h4,rfl⟩
  ·exact ⟨L,Sub.suffix,w,h1,.inl ⟨h2,h4,rfl⟩⟩
  ·exact ⟨_,Sub.cons Sub.suffix,w,h1,.inr ⟨h2,r,h4,rfl⟩⟩
 refine CS.mk (fn:=Tryz.f17) rfl rfl rfl rfl ?_
 repeat refine xQ ?_
 refine xG rfl ?_
 refine OS.fresh rfl (e_new (fun _=>rfl) rfl) (fun _=>rfl) (fun rn=>?_)
 iterate 2 refine xP rfl rh rfl ?_
 refine xN ?_
 have h:=h.cons (x:=(rn,ndRow n.leaf v1 v2 v3))
 repeat refine xQ ?_
 refine xG rfl ?_
 refine xR rfl (e_load 0 rfl rfl rfl rfl rfl) rfl ?_
 refine xA noGo rfl (fun _=>rfl) ((mayBe_ct h).mono ?_)
 rintro u L₁ ⟨rfl,e₁⟩
 subst e₁
 refine ⟨_,rfl,?_⟩
 refine xP rfl rh rfl ?_
 refine xN ?_
 cases hm:mayN n with
 | false =>
  repeat refine xQ ?_
  refine xC rfl (fun hc=>?_) (fun hc=>?_)
  ·repeat refine xQ ?_
   refine xG rfl ?_
   iterate 2 refine xP rfl rh rfl ?_
   refine xN ?_
   refine xT ⟨_,fun _ _=>rfl,?_⟩
   exact ⟨_,[_],⟨_,by unfold errN; rw [hm]; rfl,.inl ⟨by unfold fitsN; rw [hm]; rfl,rfl,rfl⟩⟩,rfl⟩
  ·cases hc
 | true =>
  repeat refine xQ ?_
  refine xC rfl (fun hc=>?_) (fun hc=>?_)
  ·cases hc
  refine LS.skip ?_
  repeat refine xQ ?_
  refine xG rfl ?_
  refine xR rfl (e_load 0 rfl rfl rfl rfl rfl) rfl ?_
  refine xA noGo rfl (fun _=>rfl) ((body_ct h hm hn).mono ?_)
  rintro u L' ⟨r,rfl,rfl⟩
  refine ⟨_,rfl,?_⟩
  refine xP rfl rh rfl ?_
  refine xN ?_
  have hle:=body_le hm hn
  have hpos:0 < (bodyN n).length:=by unfold bodyN headN; simp
  by_cases hl:(bodyN n).length<=256
  ·have hb:(!ileB ((bodyN n).length:Int) 256)=false:=by rw [ileB_eq]; simp; omega
   have hf:fitsN n=true:=by unfold fitsN; rw [hm,decide_eq_true hl]; rfl
   repeat refine xQ ?_
   refine xG rfl ?_
   refine xP rfl rh rfl ?_
   refine xP rfl (e_len (brow_sv (L:=[])) rfl rfl rfl rfl rfl) rfl ?_
   refine xP rfl (e_ib rh (hb)) rfl ?_
   refine xN ?_
   repeat refine xQ ?_
   refine xC rfl (fun hc=>?_) (fun hc=>?_)
   ·cases hc
   refine LS.skip ?_
   repeat refine xQ ?_
   refine xG rfl ?_
   refine OS.fresh rfl (e_make (l:=256) (c:=256) rfl rfl rfl makeT_bytes (Nat.le_refl _) (by omega) (by omega)) (fun _=>rfl) (fun r2=>?_)
   rw [repL_u8]
   refine xP rfl rh rfl ?_
   refine xN ?_
   repeat refine xQ ?_
   refine xG rfl ?_
   iterate 2 refine xP rfl rh rfl ?_
   refine OS.write rfl (e_copyS 0 (n:=(bodyN n).length) (N:=256) (sz:=1) (new:=byteCells (bodyN n)) brow_sv.cons hpos hl (byteCells_one _) rfl rfl rfl rfl rfl rfl rfl (lay_front (by simpa using hl)) rfl) rfl ?_
   refine xN ?_
   repeat refine xQ ?_
   refine xG rfl ?_
   iterate 3 refine xP rfl rh rfl ?_
   refine xN ?_
   refine xT ⟨_,fun _ _=>rfl,?_⟩
   refine ⟨(r,bRow (bodyN n))::(rn,ndRow n.leaf v1 v2 v3)::L,[(r,bRow (bodyN n)),(rn,ndRow n.leaf v1 v2 v3)],⟨_,by unfold errN; rw [if_pos hm,if_pos hl]; rfl,.inr ⟨hf,r2,rfl,?_⟩⟩,rfl⟩
   unfold encN
   rw [if_pos hf,List.drop_replicate]
  ·have hb:(!ileB ((bodyN n).length:Int) 256)=true:=by rw [ileB_eq]; simp; omega
   have hf:fitsN n=false:=by unfold fitsN; rw [decide_eq_false hl,Bool.and_false]
   repeat refine xQ ?_
   refine xG rfl ?_
   refine xP rfl rh rfl ?_
   refine xP rfl (e_len (brow_sv (L:=[])) rfl rfl rfl rfl rfl) rfl ?_
   refine xP rfl (e_ib rh (hb)) rfl ?_
   refine xN ?_
   repeat refine xQ ?_
   refine xC rfl (fun hc=>?_) (fun hc=>?_)
   ·repeat refine xQ ?_
    refine xG rfl ?_
    iterate 2 refine xP rfl rh rfl ?_
    refine xN ?_
    refine xT ⟨_,fun _ _=>rfl,?_⟩
    exact ⟨_,[_,_],⟨_,by unfold errN; rw [if_pos hm,if_neg hl]; rfl,.inl ⟨hf,rfl,rfl⟩⟩,rfl⟩
   ·cases hc
def IsSl (v:Value):Prop:=v=.slice none 0 0∨∃ r off n cap,v=.slice (some ⟨r,off,none⟩) n cap
theorem isSl {sz n:Nat} {L:RL} {v:Value} {cs:List Value} (h:SV sz L v n cs):IsSl v:=by
 rcases h with ⟨rfl,_⟩ | ⟨r,off,cap,row,cs₀,rfl,_⟩
 ·exact .inl rfl
 ·exact .inr ⟨r,off,n,cap,rfl⟩
end Go.Proofs.YtlmmddfhoabjfaaGreat
end
section
namespace Go.Proofs.YtlmmddfhoabjfaaGreat
open Go.Am
open Go.Proofs.YtlmmddfhoabjfaaGreat.T
def rdF (s:St):Bool × St:=tk false (fAt s.1).1 (fAt s.1).2 s
def rdC (most:Int) (s:St):Int × St:=tk (0:Int) ((cAt s.1 most).1:Int) (cAt s.1 most).2 s
def rdT (most:Int) (s:St):List UInt8 × St:=tk ([]:List UInt8) (sAt s.1 most).1 (sAt s.1 most).2 s
def rKey (x:Nd × St):Nd × St:=({ x.1 with ks:=x.1.ks++[(rdT 32 x.2).1] },(rdT 32 x.2).2)
def rBeh (x:Nd × St):Nd × St:=if x.1.leaf then ({ x.1 with vs:=x.1.vs++[(rdT 64 x.2).1] },(rdT 64 x.2).2) else ({ x.1 with kids:=x.1.kids++[(rdC 32768 x.2).1] },(rdC 32768 x.2).2)
def rLoop:Nat->Nd × St->Nd × St
 | 0,x=>x
 | k+1,x=>rLoop k (rBeh (rKey x))
def rHead (bs:List UInt8):Bool × St:=rdF (bs,false)
def rCnt (bs:List UInt8):Int × St:=rdC 256 (rHead bs).2
def rStart (bs:List UInt8):Nd × St:=if (rHead bs).1 then (⟨true,[],[],[]⟩,(rCnt bs).2) else rBeh (⟨false,[],[],[]⟩,(rCnt bs).2)
def rNode (bs:List UInt8):Nd × St:=rLoop (rCnt bs).1.toNat (rStart bs)
theorem tk_le {α:Type} {z t:α} {k:Nat} {s:St}:(tk z t k s).2.1.length<=s.1.length:=by
 unfold tk
 split
 ·exact Nat.le_refl _
 ·split
  ·simp
  ·simp
theorem sAt_le (bs:List UInt8) (most:Int):(sAt bs most).1.length<=bs.length:=by
 unfold sAt
 split
 ·simp
 ·simp; omega
theorem rdT_le {most:Int} {s:St}:(rdT most s).1.length<=s.1.length:=by
 unfold rdT tk
 split
 ·simp
 ·split
  ·simp
  ·exact sAt_le _ _
theorem rdC_le {most:Int} {s:St} (h:0<=most):0<=(rdC most s).1/\(rdC most s).1<=most:=by
 have:((cAt s.1 most).1:Int)<=most:=by
  unfold cAt
  split
  ·rename_i hc; exact hc.2.1
  ·exact h
 unfold rdC tk
 split
 ·exact ⟨Int.le_refl _,h⟩
 ·split
  ·exact ⟨Int.le_refl _,h⟩
  ·exact ⟨Int.natCast_nonneg _,this⟩
abbrev pRow (rr:Nat):ARow:=.cells 141 [.pointer (some ⟨rr,0,none⟩)]
structure RB (B j:Nat) (x:Nd × St):Prop where
 k:x.1.ks.length<=j
 v:x.1.vs.length<=j
 z:x.1.kids.length<=j+1
 kl:∀ k∈x.1.ks,k.length<=B
 vl:∀ k∈x.1.vs,k.length<=B
 s:x.2.1.length<=B
def RdS (T M:RL) (rr rn rb ro:Nat) (X:ARow) (x:Nd × St) (L':RL):Prop:=∃ v m1 m2 m3 R1 Rb,L'=(rr,rdRowOf v x.2.2)::(rn,ndRow x.1.leaf m1 m2 m3)::(rb,pRow rr)::(ro,X)::(R1++(Rb++M))/\OV T v x.2.1 /\
 GV 9 1 [] m1 x.1.ks.length (tx x.1.ks) R1 /\
 ((x.1.leaf=true/\GV 9 1 [] m2 x.1.vs.length (tx x.1.vs) Rb/\m3=.slice none 0 0/\x.1.kids=[])∨(x.1.leaf=false/\GV 3 1 [] m3 x.1.kids.length (nums x.1.kids) Rb/\m2=.slice none 0 0/\x.1.vs=[]))
theorem read1_ct {T F:RL} {rr rn rb ro:Nat} {X:ARow} {s:St} {lf:Bool} {v m1 m2 m3:Value} {vs:List (List UInt8)} {R:RL} (hT:∀ p,p∈T->p∈F) (hv:OV T v s.1) (hn:s.1.length<=100000) (hg:GV 9 1 [] m2 vs.length (tx vs) R) (hl:vs.length<=100000) :
  CS Tryz.prog 121 [.pointer (some ⟨rn,0,none⟩),.pointer (some ⟨rb,0,none⟩)] ((rr,rdRowOf v s.2)::(rn,ndRow lf m1 m2 m3)::(rb,pRow rr)::(ro,X)::(R++F)) fun u L'=>∃ v' m' R',L'=(rr,rdRowOf v' (rdT 64 s).2.2)::(rn,ndRow lf m1 m' m3)::(rb,pRow rr)::(ro,X)::(R'++F)/\OV T v' (rdT 64 s).2.1/\GV 9 1 [] m' (vs++[(rdT 64 s).1]).length (tx (vs++[(rdT 64 s).1])) R':=by
 suffices g:CS Tryz.prog 121 [.pointer (some ⟨rn,0,none⟩),.pointer (some ⟨rb,0,none⟩)] ((rr,rdRowOf v s.2)::(rn,ndRow lf m1 m2 m3)::(rb,pRow rr)::(ro,X)::(R++F)) fun u L'=>∃ v' r' y,
   L'=(r',.cells 9 (tx (vs++[(rdT 64 s).1])))::y::(rr,rdRowOf v' (rdT 64 s).2.2)::(rn,ndRow lf m1 (.slice (some ⟨r',0,none⟩) (vs++[(rdT 64 s).1]).length openCap) m3)::(rb,pRow rr)::(ro,X)::F/\OV T v' (rdT 64 s).2.1 by
  refine g.less fun u L' ⟨v',r',y,h1,h2⟩=>⟨_,?_,v',_,[(r',.cells 9 (tx (vs++[(rdT 64 s).1])))],rfl,h2,.inr ⟨r',rfl,by simp [tx],rfl⟩⟩
  rw [h1]
  exact Sub.trans (Sub.drop 5 rfl) (Sub.pulls [5,5,5,5] rfl)
 refine CS.mk (fn:=Tryz.f121) rfl rfl rfl rfl ?_
 repeat refine xQ ?_
 refine LS.drawn noGo mixed [(0,false),(1,false),(2,false),(3,true),(4,true),(5,true),(6,false),(7,true)] rfl rfl (by kernel_rfl) ?_
 refine xD rfl rfl rh rfl ?_
 refine xE rfl rfl (e_load 1 rfl rfl rfl rfl rfl) rfl ?_
 refine xE rfl rfl (e_load 2 rfl rfl rfl rfl rfl) rfl ?_
 refine ODS.call rfl rfl (fun _=>rfl) (((RStr_ct (T:=T) (bs:=s.1) (f:=s.2) (most:=64) (by decide) (by decide) (fun p hp=>by simp [hT p hp]) hv (by omega))).mono ?_)
 rintro u L' ⟨rfl,v',rfl,hv'⟩
 refine ⟨_,rfl,Keep.gone rfl (Keep.cons rfl (e_load 1 rfl rfl rfl rfl rfl) Keep.nil),?_⟩
 refine ODS.fresh rfl rfl (e_new (fun _=>rfl) rfl) (fun _=>rfl) (fun _=>Keep.gone rfl (Keep.cons rfl (e_load 2 rfl rfl rfl rfl rfl) Keep.nil)) (fun rq=>?_)
 refine ODS.fresh rfl rfl (e_appendGV [(rq,_),(rr,_),(rn,_),(rb,_),(ro,_)] (F:=F) (e:=9) (cs:=tx vs) (n:=vs.length) (m:=1) (sz:=1) (bts:=16) (GV.appendR F hg) (SV.row (sz:=1) (n:=1) (List.mem_cons_self ..) rfl) (by omega) rfl rfl rfl rfl (by omega) (by omega)) (fun _=>rfl) (fun _=>Keep.gone rfl (Keep.gone rfl Keep.nil)) (fun r2=>?_)
 refine xD rfl rfl rh rfl ?_
 refine ODS.write rfl rfl (e_store 3 rfl rfl rfl rfl rfl rfl rfl rfl) rfl (Keep.gone rfl (Keep.gone rfl Keep.nil)) ?_
 refine xM ?_
 refine ⟨_,fun _ _=>rfl,?_⟩
 have e1:tx vs++[txt (rdT 64 s).1]=tx (vs++[(rdT 64 s).1]):=by simp [tx]
 refine ⟨v',r2,(rq,.cells 9 [txt (rdT 64 s).1]),?_,hv'⟩
 rw [← e1,List.length_append]
 rfl
theorem read2_ct {T F:RL} {rr rn rb ro:Nat} {X:ARow} {s:St} {lf:Bool} {v m1 m2 m3:Value} {vs:List Int} {R:RL} (hT:∀ p,p∈T->p∈F) (hv:OV T v s.1) (hn:s.1.length<=100000) (hg:GV 3 1 [] m3 vs.length (nums vs) R) (hl:vs.length<=100000) :
  CS Tryz.prog 123 [.pointer (some ⟨rn,0,none⟩),.pointer (some ⟨rb,0,none⟩)] ((rr,rdRowOf v s.2)::(rn,ndRow lf m1 m2 m3)::(rb,pRow rr)::(ro,X)::(R++F)) fun u L'=>∃ v' m' R',L'=(rr,rdRowOf v' (rdC 32768 s).2.2)::(rn,ndRow lf m1 m2 m')::(rb,pRow rr)::(ro,X)::(R'++F)/\OV T v' (rdC 32768 s).2.1/\GV 3 1 [] m' (vs++[(rdC 32768 s).1]).length (nums (vs++[(rdC 32768 s).1])) R':=by
 suffices g:CS Tryz.prog 123 [.pointer (some ⟨rn,0,none⟩),.pointer (some ⟨rb,0,none⟩)] ((rr,rdRowOf v s.2)::(rn,ndRow lf m1 m2 m3)::(rb,pRow rr)::(ro,X)::(R++F)) fun u L'=>∃ v' r' y,
   L'=(r',.cells 3 (nums (vs++[(rdC 32768 s).1])))::y::(rr,rdRowOf v' (rdC 32768 s).2.2)::(rn,ndRow lf m1 m2 (.slice (some ⟨r',0,none⟩) (vs++[(rdC 32768 s).1]).length openCap))::(rb,pRow rr)::(ro,X)::F/\OV T v' (rdC 32768 s).2.1 by
  refine g.less fun u L' ⟨v',r',y,h1,h2⟩=>⟨_,?_,v',_,[(r',.cells 3 (nums (vs++[(rdC 32768 s).1])))],rfl,h2,.inr ⟨r',rfl,by simp [nums],rfl⟩⟩
  rw [h1]
  exact Sub.trans (Sub.drop 5 rfl) (Sub.pulls [5,5,5,5] rfl)
 refine CS.mk (fn:=Tryz.f123) rfl rfl rfl rfl ?_
 repeat refine xQ ?_
 refine LS.drawn noGo mixed [(0,false),(1,false),(2,false),(3,true),(4,true),(5,true),(6,false),(7,true)] rfl rfl (by kernel_rfl) ?_
 refine xD rfl rfl rh rfl ?_
 refine xE rfl rfl (e_load 1 rfl rfl rfl rfl rfl) rfl ?_
 refine xE rfl rfl (e_load 2 rfl rfl rfl rfl rfl) rfl ?_
 refine ODS.call rfl rfl (fun _=>rfl) (((RCount_ct (T:=T) (bs:=s.1) (f:=s.2) (most:=32768) (by decide) (by decide) (fun p hp=>by simp [hT p hp]) hv (by omega))).mono ?_)
 rintro u L' ⟨rfl,v',rfl,hv'⟩
 refine ⟨_,rfl,Keep.gone rfl (Keep.cons rfl (e_load 1 rfl rfl rfl rfl rfl) Keep.nil),?_⟩
 refine ODS.fresh rfl rfl (e_new (fun _=>rfl) rfl) (fun _=>rfl) (fun _=>Keep.gone rfl (Keep.cons rfl (e_load 2 rfl rfl rfl rfl rfl) Keep.nil)) (fun rq=>?_)
 refine ODS.fresh rfl rfl (e_appendGV [(rq,_),(rr,_),(rn,_),(rb,_),(ro,_)] (F:=F) (e:=3) (cs:=nums vs) (n:=vs.length) (m:=1) (sz:=1) (bts:=8) (GV.appendR F hg) (SV.row (sz:=1) (n:=1) (List.mem_cons_self ..) rfl) (by omega) rfl rfl rfl rfl (by omega) (by omega)) (fun _=>rfl) (fun _=>Keep.gone rfl (Keep.gone rfl Keep.nil)) (fun r2=>?_)
 refine xD rfl rfl rh rfl ?_
 refine ODS.write rfl rfl (e_store 3 rfl rfl rfl rfl rfl rfl rfl rfl) rfl (Keep.gone rfl (Keep.gone rfl Keep.nil)) ?_
 refine xM ?_
 refine ⟨_,fun _ _=>rfl,?_⟩
 have e1:nums vs++[.int .i64 (rdC 32768 s).1]=nums (vs++[(rdC 32768 s).1]):=by simp [nums]
 refine ⟨v',r2,(rq,.cells 3 [.int .i64 (rdC 32768 s).1]),?_,hv'⟩
 rw [← e1,List.length_append]
 rfl
def behF (lf:Bool):Nat:=if lf then 121 else 123
theorem beh_ct {T M:RL} {rr rn rb ro B j:Nat} {X:ARow} {x:Nd × St} {L:RL} (hT:∀ p,p∈T->p∈M) (hB:B<=100000) (hj:j<=50000) (hb:RB B j x) (h:RdS T M rr rn rb ro X x L) :
  CS Tryz.prog (behF x.1.leaf) [.pointer (some ⟨rn,0,none⟩),.pointer (some ⟨rb,0,none⟩)] L fun u L'=>RdS T M rr rn rb ro X (rBeh x) L':=by
 obtain ⟨⟨lf,ks,vs,kids⟩,s⟩:=x
 obtain ⟨v,m1,m2,m3,R1,Rb,rfl,hv,hk,hor⟩:=h
 obtain ⟨h1,h2,h3,h4,h5,h6⟩:=hb
 simp only at hv hk hor h1 h2 h3 h4 h5 h6
 have hT':∀ p,p∈T->p∈R1++M:=fun p hp=>List.mem_append_right _ (hT p hp)
 rcases hor with ⟨rfl,hg,rfl,rfl⟩ | ⟨rfl,hg,rfl,rfl⟩
 ·have:=(read1_ct (rr:=rr) (rn:=rn) (rb:=rb) (ro:=ro) (X:=X) (lf:=true) (m1:=m1) (m3:=.slice none 0 0) hT' hv (by omega) hg (by omega))
  refine (CS.sub (Sub.cons (Sub.cons (Sub.cons (Sub.cons Sub.swap)))) this).less ?_
  rintro u L' ⟨v',m',R',rfl,hv',hg'⟩
  exact ⟨_,Sub.cons (Sub.cons (Sub.cons (Sub.cons Sub.swap))),v',m1,m',_,R1,R',rfl,hv',hk,.inl ⟨rfl,hg',rfl,rfl⟩⟩
 ·have:=(read2_ct (rr:=rr) (rn:=rn) (rb:=rb) (ro:=ro) (X:=X) (lf:=false) (m1:=m1) (m2:=.slice none 0 0) hT' hv (by omega) hg (by omega))
  refine (CS.sub (Sub.cons (Sub.cons (Sub.cons (Sub.cons Sub.swap)))) this).less ?_
  rintro u L' ⟨v',m',R',rfl,hv',hg'⟩
  exact ⟨_,Sub.cons (Sub.cons (Sub.cons (Sub.cons Sub.swap))),v',m1,_,m',R1,R',rfl,hv',hk,.inr ⟨rfl,hg',rfl,rfl⟩⟩
end Go.Proofs.YtlmmddfhoabjfaaGreat
end
section
namespace Go.Proofs.YtlmmddfhoabjfaaGreat
open Go.Am
open Go.Proofs.YtlmmddfhoabjfaaGreat.T
theorem nd_one {b:Bool} {m1 m2 m3:Value} (s1:IsSl m1) (s2:IsSl m2) (s3:IsSl m3):(Nat.beq (ndV b m1 m2 m3).cells.toList.length 4 && allOne (ndV b m1 m2 m3).cells.toList)=true:=by
 rcases s1 with rfl | ⟨q1,o1,n1,c1,rfl⟩ <;> rcases s2 with rfl | ⟨q2,o2,n2,c2,rfl⟩ <;> rcases s3 with rfl | ⟨q3,o3,n3,c3,rfl⟩ <;> rfl
theorem RB.key {B j:Nat} {x:Nd × St} (h:RB B j x) (hk:x.1.ks.length<=j):RB B (j+1) (rKey x):=by
 obtain ⟨h1,h2,h3,h4,h5,h6⟩:=h
 refine ⟨?_,?_,?_,?_,?_,?_⟩
 ·show (_++[_]).length<=_; simp; exact h1
 ·show x.1.vs.length<=_; omega
 ·show x.1.kids.length<=_; omega
 ·intro k hk
  rcases List.mem_append.1 hk with hk | hk
  ·exact h4 k hk
  ·rw [List.mem_singleton] at hk; subst hk; exact Nat.le_trans rdT_le h6
 ·exact h5
 ·exact Nat.le_trans tk_le h6
theorem rBeh_leaf {x:Nd × St}:(rBeh x).1.leaf=x.1.leaf:=by unfold rBeh; split <;> rfl
theorem RB.beh {B j:Nat} {x:Nd × St} (h:RB B j x) (hv:x.1.vs.length < j) (hz:x.1.kids.length<=j):RB B j (rBeh x):=by
 obtain ⟨h1,h2,h3,h4,h5,h6⟩:=h
 unfold rBeh
 split
 ·refine ⟨h1,?_,h3,h4,?_,Nat.le_trans tk_le h6⟩
  ·show (_++[_]).length<=_; simp; exact hv
  ·intro k hk
   rcases List.mem_append.1 hk with hk | hk
   ·exact h5 k hk
   ·rw [List.mem_singleton] at hk; subst hk; exact Nat.le_trans rdT_le h6
 ·exact ⟨h1,h2,by show (_++[_]).length<=_; simp; exact hz,h4,h5,Nat.le_trans tk_le h6⟩
def RdN (M:RL) (nd:Nd) (u:Value) (L':RL):Prop:=∃ m1 m2 m3 R1 Rb,u=ndV nd.leaf m1 m2 m3/\L'=R1++(Rb++M)/\GV 9 1 [] m1 nd.ks.length (tx nd.ks) R1 /\
 ((nd.leaf=true/\GV 9 1 [] m2 nd.vs.length (tx nd.vs) Rb/\m3=.slice none 0 0/\nd.kids=[])∨(nd.leaf=false/\GV 3 1 [] m3 nd.kids.length (nums nd.kids) Rb/\m2=.slice none 0 0/\nd.vs=[]))
theorem rdn_sl {n:Nd} {R1 Rb:RL} {m1 m2 m3:Value} (hk:GV 9 1 [] m1 n.ks.length (tx n.ks) R1) (hor:(n.leaf=true/\GV 9 1 [] m2 n.vs.length (tx n.vs) Rb/\m3=.slice none 0 0/\n.kids=[])∨(n.leaf=false/\GV 3 1 [] m3 n.kids.length (nums n.kids) Rb/\m2=.slice none 0 0/\n.vs=[])) :
  IsSl m1/\IsSl m2/\IsSl m3:=by
 refine ⟨isSl hk.sv,?_⟩
 rcases hor with ⟨_,hg,rfl,_⟩ | ⟨_,hg,rfl,_⟩
 ·exact ⟨isSl hg.sv,.inl rfl⟩
 ·exact ⟨.inl rfl,isSl hg.sv⟩
theorem read_ct {M:RL} {rr:Nat} {v:Value} {bs:List UInt8} (hv:OV M v bs) (hn:bs.length<=100000) :
  CS Tryz.prog 93 [.pointer (some ⟨rr,0,none⟩)] ((rr,rdRowOf v false)::M) fun u L'=>∃ v' L'',L'=(rr,rdRowOf v' (rNode bs).2.2)::L''/\OV M v' (rNode bs).2.1/\RdN M (rNode bs).1 u L''/\RB bs.length 256 (rNode bs):=by
 suffices g:CS Tryz.prog 93 [.pointer (some ⟨rr,0,none⟩)] ((rr,rdRowOf v false)::M) fun u L'=>∃ v' L'' x y z,L'=(rr,rdRowOf v' (rNode bs).2.2)::x::y::z::L''/\OV M v' (rNode bs).2.1/\RdN M (rNode bs).1 u L''/\RB bs.length 256 (rNode bs) by
  refine g.less fun u L' ⟨v',L'',x,y,z,h1,h2,h3,h4⟩=>⟨_,?_,v',L'',rfl,h2,h3,h4⟩
  rw [h1]
  exact Sub.cons (Sub.suffix (X:=[x,y,z]))
 have hTM:∀ (X:RL) p,p∈M->p∈X++M:=fun X p hp=>List.mem_append_right _ hp
 refine CS.mk (fn:=Tryz.f93) rfl rfl rfl rfl ?_
 repeat refine xQ ?_
 refine xG rfl ?_
 refine OS.fresh rfl (e_new (fun _=>rfl) rfl) (fun _=>rfl) (fun rb=>?_)
 refine OS.fresh rfl (e_new (fun _=>rfl) rfl) (fun _=>rfl) (fun ro=>?_)
 refine xN ?_
 repeat refine xQ ?_
 refine xG rfl ?_
 refine OS.sub (Sub.pulls [2] rfl) ?_
 refine xR rfl (e_load 2 rfl rfl rfl rfl rfl) rfl ?_
 refine xA noGo rfl (fun _=>rfl) (((RFlag_ct (T:=M) (bs:=bs) (f:=false) (fun p hp=>hTM [_,_] p hp) hv (by omega))).mono ?_)
 rintro u L' ⟨rfl,v1,rfl,hv1⟩
 refine ⟨_,rfl,?_⟩
 change OV M v1 (rHead bs).2.1 at hv1
 refine xP rfl rh rfl ?_
 refine OS.fresh rfl (e_new (fun _=>rfl) rfl) (fun _=>rfl) (fun rn=>?_)
 refine OS.write rfl (e_store 0 rfl rfl rfl rfl rfl rfl rfl rfl) rfl ?_
 refine xN ?_
 repeat refine xQ ?_
 refine xG rfl ?_
 refine OS.sub (Sub.pulls [1] rfl) ?_
 refine xR rfl (e_load 3 rfl rfl rfl rfl rfl) rfl ?_
 have hs1:(rHead bs).2.1.length<=bs.length:=tk_le
 refine xA noGo rfl (fun _=>rfl) (((RCount_ct (T:=M) (bs:=(rHead bs).2.1) (f:=(rHead bs).2.2) (most:=256) (by decide) (by decide) (fun p hp=>hTM [_,_,_] p hp) hv1 (by omega))).mono ?_)
 rintro u L' ⟨rfl,v2,rfl,hv2⟩
 refine ⟨_,rfl,?_⟩
 change OV M v2 (rCnt bs).2.1 at hv2
 have hs2:(rCnt bs).2.1.length<=bs.length:=Nat.le_trans tk_le hs1
 have hc:=rdC_le (s:=(rHead bs).2) (most:=256) (by decide)
 change 0<=(rCnt bs).1/\(rCnt bs).1<=256 at hc
 refine xP rfl rh rfl ?_
 refine xN ?_
 repeat refine xQ ?_
 refine xG rfl ?_
 refine OS.sub (Sub.pulls [3,2,2] rfl) ?_
 iterate 2 refine xP rfl rh rfl ?_
 refine xN ?_
 repeat refine xQ ?_
 refine xG rfl ?_
 refine xP rfl rh rfl ?_
 refine xR rfl (e_load 1 rfl rfl rfl rfl rfl) rfl ?_
 refine xP rfl rh rfl ?_
 refine xN ?_
 have hlf:∃ lf,(rHead bs).1=lf:=⟨_,rfl⟩
 obtain ⟨lf,hlf⟩:=hlf
 have hst:(rStart bs).1.leaf=lf:=by unfold rStart; rw [hlf]; cases lf <;> rfl
 repeat refine xQ ?_
 refine LS.mid [1,2,3,4,5] (fun a L'=>RdS M M rr rn rb ro (ndRow false (.slice none 0 0) (.slice none 0 0) (.slice none 0 0)) (rStart bs) L'/\RB bs.length 0 (rStart bs)/\a=[jn,.pointer (some ⟨rb,0,none⟩),.pointer (some ⟨ro,0,none⟩),.pointer (some ⟨rn,0,none⟩),.int .i64 (rCnt bs).1,.func (.func (behF lf)) #[] #[.pointer (some ⟨rn,0,none⟩),.pointer (some ⟨rb,0,none⟩)],jn,jn,jn,jn,jn,jn,jn,jn,jn,jn,jn,jn,jn,jn,jn,jn,jn,jn,jn,jn,jn,jn,jn,jn,jn,jn]) ?_ ?_
 ·refine xC (b:=!(rHead bs).1) rfl (fun hc0=>?_) (fun hc0=>?_)
  ·have h0:(rHead bs).1=false:=by simpa using hc0
   obtain rfl:lf=false:=by rw [← hlf,h0]
   have hx:rStart bs=rBeh (⟨false,[],[],[]⟩,(rCnt bs).2):=by unfold rStart; rw [h0]; rfl
   have hRB:RB bs.length 0 ((⟨false,[],[],[]⟩,(rCnt bs).2):Nd × St):=⟨Nat.le_refl _,Nat.le_refl _,Nat.zero_le _,by simp,by simp,hs2⟩
   have hRd:RdS M M rr rn rb ro (ndRow false (.slice none 0 0) (.slice none 0 0) (.slice none 0 0)) (⟨false,[],[],[]⟩,(rCnt bs).2) ((rr,rdRowOf v2 (rCnt bs).2.2)::(rn,ndRow false (.slice none 0 0) (.slice none 0 0) (.slice none 0 0))::(rb,pRow rr)::(ro,ndRow false (.slice none 0 0) (.slice none 0 0) (.slice none 0 0))::M) :=
    ⟨v2,_,_,_,[],[],rfl,hv2,.inl ⟨rfl,rfl,rfl,rfl⟩,.inr ⟨rfl,.inl ⟨rfl,rfl,rfl,rfl⟩,rfl,rfl⟩⟩
   have hrow:(rn,ndRow (rHead bs).1 (.slice none 0 0) (.slice none 0 0) (.slice none 0 0))=(rn,ndRow false (.slice none 0 0) (.slice none 0 0) (.slice none 0 0)):=by rw [h0]
   have hcall:=beh_ct (fun p hp=>hp) (by omega:bs.length<=100000) (by decide:0<=50000) hRB hRd
   rw [← hx] at hcall
   rw [← hrow] at hcall
   repeat refine xQ ?_
   refine xG rfl ?_
   iterate 2 refine xP rfl rh rfl ?_
   refine xN ?_
   repeat refine xQ ?_
   refine xG rfl ?_
   refine xP rfl rh rfl ?_
   refine xA noGo rfl (fun _=>rfl) ((hcall).mono ?_)
   rintro u L' hL
   refine ⟨_,rfl,?_⟩
   refine xN ?_
   refine ⟨hL,?_,rfl⟩
   rw [hx]
   exact ⟨Nat.le_refl _,Nat.le_refl _,Nat.le_refl _,by simp [rBeh],by simp [rBeh],Nat.le_trans tk_le hs2⟩
  ·have h0:(rHead bs).1=true:=by simpa using hc0
   obtain rfl:lf=true:=by rw [← hlf,h0]
   have hx:rStart bs=(⟨true,[],[],[]⟩,(rCnt bs).2):=by unfold rStart; rw [h0]; rfl
   refine LS.skip ?_
   refine ⟨?_,?_,rfl⟩
   ·rw [hx]
    exact ⟨v2,.slice none 0 0,.slice none 0 0,.slice none 0 0,[],[],by rw [← h0]; rfl,hv2,.inl ⟨rfl,rfl,rfl,rfl⟩,.inl ⟨rfl,.inl ⟨rfl,rfl,rfl,rfl⟩,rfl,rfl⟩⟩
   ·rw [hx]
    exact ⟨Nat.le_refl _,Nat.le_refl _,Nat.zero_le _,by simp,by simp,hs2⟩
 rintro a L' ⟨hRd0,hRB0,rfl⟩
 obtain ⟨c,hcn⟩:=Int.eq_ofNat_of_zero_le hc.1
 have hct:(rCnt bs).1.toNat=c:=by omega
 rw [hcn]
 repeat refine xQ ?_
 refine xG rfl ?_
 iterate 2 refine xP rfl rh rfl ?_
 refine xN ?_
 repeat refine xQ ?_
 refine LS.block ?_
 refine LS.loopJ [1,2,3,5,18,19] (fun q a L'=>∃ (j:Nat) (x:Nd × St),q=c - j/\j<=c/\rLoop (c - j) x=rNode bs/\RdS M M rr rn rb ro (ndRow false (.slice none 0 0) (.slice none 0 0) (.slice none 0 0)) x L'/\RB bs.length j x/\x.1.leaf=lf /\
  a=[jn,.pointer (some ⟨rb,0,none⟩),.pointer (some ⟨ro,0,none⟩),.pointer (some ⟨rn,0,none⟩),jn,.func (.func (behF lf)) #[] #[.pointer (some ⟨rn,0,none⟩),.pointer (some ⟨rb,0,none⟩)],jn,jn,jn,jn,jn,jn,jn,jn,jn,jn,jn,jn,.int .i64 (c:Nat),.int .i64 (j:Nat),jn,jn,jn,jn,jn,jn,jn,jn,jn,jn,jn,jn]) (n:=c) rfl ⟨0,rStart bs,rfl,by omega,by unfold rNode; rw [hct]; rfl,hRd0,hRB0,hst,rfl⟩ ?_
 rintro q a L' ⟨j,x,rfl,hj,hloop,hRd,hRB,hxl,rfl⟩
 repeat refine xQ ?_
 refine xG rfl ?_
 refine xP rfl rh rfl ?_
 refine xN ?_
 repeat refine xQ ?_
 refine xC rfl (fun hcj=>?_) (fun hcj=>?_)
 ·have hcj:(j:Int) < c:=lt_of hcj
  have hjc:j < c:=by omega
  obtain ⟨⟨xl,ks,vs,kids⟩,s⟩:=x
  obtain ⟨w,m1,m2,m3,R1,Rb,rfl,hw,hk,hor⟩:=hRd
  have hRB':=hRB
  obtain ⟨g1,g2,g3,g4,g5,g6⟩:=hRB
  simp only at hxl hw hk hor g1 g2 g3 g4 g5 g6
  subst hxl
  have e1:tx ks++[txt (rdT 32 s).1]=tx (ks++[(rdT 32 s).1]):=by simp [tx]
  have hkey:=hRB'.key g1
  have hbeh:=hkey.beh (show vs.length < j+1 by omega) (show kids.length<=j+1 by omega)
  refine LS.skip ?_
  repeat refine xQ ?_
  refine LS.block ?_
  repeat refine xQ ?_
  refine LS.drawn noGo mixed [(0,false),(1,false),(2,false),(3,true),(4,true),(5,true),(6,false),(7,true)] rfl rfl (by kernel_rfl) ?_
  refine xD rfl rfl rh rfl ?_
  refine xE rfl rfl (e_load 1 rfl rfl rfl rfl rfl) rfl ?_
  refine xE rfl rfl (e_load 2 rfl rfl rfl rfl rfl) rfl ?_
  refine ODS.call rfl rfl (fun _=>rfl) (((RStr_ct (T:=M) (bs:=s.1) (f:=s.2) (most:=32) (by decide) (by decide) (fun p hp=>by simp [hp]) hw (by omega))).mono ?_)
  rintro u L' ⟨rfl,v',rfl,hv'⟩
  refine ⟨_,rfl,Keep.gone rfl (Keep.cons rfl (e_load 1 rfl rfl rfl rfl rfl) Keep.nil),?_⟩
  refine ODS.fresh rfl rfl (e_new (fun _=>rfl) rfl) (fun _=>rfl) (fun _=>Keep.gone rfl (Keep.cons rfl (e_load 2 rfl rfl rfl rfl rfl) Keep.nil)) (fun rq=>?_)
  refine ODS.fresh rfl rfl (e_appendGV [(rq,_),(rr,_),(rn,_),(rb,_),(ro,_)] (F:=Rb++M) (e:=9) (cs:=tx ks) (n:=ks.length) (m:=1) (sz:=1) (bts:=16) (GV.appendR (Rb++M) hk) (SV.row (sz:=1) (n:=1) (List.mem_cons_self ..) rfl) (by omega) rfl rfl rfl rfl (by omega) (by omega)) (fun _=>rfl) (fun _=>Keep.gone rfl (Keep.gone rfl Keep.nil)) (fun r2=>?_)
  refine xD rfl rfl rh rfl ?_
  refine ODS.write rfl rfl (e_store 3 rfl rfl rfl rfl rfl rfl rfl rfl) rfl (Keep.gone rfl (Keep.gone rfl Keep.nil)) ?_
  refine xM ?_
  have hRd1:RdS M M rr rn rb ro (ndRow false (.slice none 0 0) (.slice none 0 0) (.slice none 0 0)) (rKey (⟨xl,ks,vs,kids⟩,s)) ((rr,rdRowOf v' (rdT 32 s).2.2)::(rn,ndRow xl (.slice (some ⟨r2,0,none⟩) (ks.length+1) openCap) m2 m3)::(rb,pRow rr)::(ro,ndRow false (.slice none 0 0) (.slice none 0 0) (.slice none 0 0))::(r2,.cells 9 (tx ks++[txt (rdT 32 s).1]))::(Rb++M)):=by
   refine ⟨v',_,m2,m3,[(r2,.cells 9 (tx ks++[txt (rdT 32 s).1]))],Rb,rfl,hv',?_,hor⟩
   show GV _ 1 [] _ (ks++[(rdT 32 s).1]).length (tx (ks++[(rdT 32 s).1])) _
   rw [← e1,List.length_append]
   exact .inr ⟨r2,rfl,by simp,rfl⟩
  repeat refine xQ ?_
  refine xG rfl ?_
  refine OS.sub (Sub.pulls [5,5,5,5] rfl) ?_
  refine OS.sub (Sub.drop 5 rfl) ?_
  refine xP rfl rh rfl ?_
  refine xA noGo rfl (fun _=>rfl) (((beh_ct (fun p hp=>hp) (by omega:bs.length<=100000) (by omega:j+1<=50000) hkey hRd1)).mono ?_)
  rintro u L' hL
  refine ⟨_,rfl,?_⟩
  refine xN ?_
  repeat refine xQ ?_
  refine xG rfl ?_
  refine xP rfl (e_add (m:=j) (n:=1) rfl rfl rfl (in_i64 (by omega) (by omega))) rfl ?_
  refine xP rfl rh rfl ?_
  refine xN ?_
  refine ⟨c - (j+1),by omega,j+1,rBeh (rKey (⟨xl,ks,vs,kids⟩,s)),rfl,by omega,?_,hL,hbeh,rBeh_leaf,rfl⟩
  rw [← hloop,show c - j=(c - (j+1))+1 by omega]
  rfl
 ·have hcj:(c:Int)<=(j:Int):=nlt_of hcj
  have hje:j=c:=by omega
  subst hje
  rw [Nat.sub_self] at hloop
  simp only [rLoop] at hloop
  subst hloop
  obtain ⟨w,m1,m2,m3,R1,Rb,rfl,hw,hk,hor⟩:=hRd
  obtain ⟨s1,s2,s3⟩:=rdn_sl hk hor
  refine LS.exit ?_
  repeat refine xQ ?_
  refine xG rfl ?_
  refine xR rfl (e_load 1 rfl rfl rfl rfl rfl) rfl ?_
  refine OS.write rfl (e_store 3 (n:=4) rfl rfl rfl rfl rfl (nd_one s1 s2 s3) rfl rfl) rfl ?_
  refine xN ?_
  refine xT ⟨_,res_cell 3 rfl rfl rfl rfl,?_⟩
  exact ⟨w,_,_,_,_,rfl,hw,⟨m1,m2,m3,R1,Rb,rfl,rfl,hk,hor⟩,⟨by have:=hRB.k; omega,by have:=hRB.v; omega,by have:=hRB.z; omega,hRB.kl,hRB.vl,hRB.s⟩⟩
end Go.Proofs.YtlmmddfhoabjfaaGreat
end
section
namespace Go.Am
theorem Sub.app {A B:RL} (X:RL) (s:Sub A B):Sub (X++A) (X++B):=by
 obtain ⟨Y,hY⟩:=s
 exact ⟨Y,by rw [List.append_assoc]; exact hY.append_left X⟩
theorem res_cell2 {P:Program} {a:Slots} {L:RL} (i:Nat) {x y r off:Nat} {t:TypeId} {row:ARow} {cs:List Value} {v u:Value} (hx:a[x]?=some (.pointer (some ⟨r,off,none⟩))) (hL:L[i]?=some (r,row)) (hc:rdRow row=some cs) (hv:partB P t cs off=some v) (hy:a[y]?=some u):∀ h,Has h L->resultsB P a h [.cell x t,.tmp y]=some [v,u]:=by
 intro h H
 simp only [resultsB,hx,hy,loadB,H.read hL hc,hv]
end Go.Am
namespace Go.Proofs.YtlmmddfhoabjfaaGreat
open Go.Am
open Go.Proofs.YtlmmddfhoabjfaaGreat.T
def BV (L:RL) (v:Value) (bs:List UInt8):Prop:=OV L v bs∨(SV 1 L v bs.length (byteCells bs)/\∀ r off cap,v=.slice (some ⟨r,off,none⟩) bs.length cap->cap < openCap/\bs.length<=cap)
theorem BV.sv {L:RL} {v:Value} {bs:List UInt8} (h:BV L v bs):SV 1 L v bs.length (byteCells bs):=by
 rcases h with h | h
 ·exact h.sv
 ·exact h.1
theorem BV.mono {L L':RL} {v:Value} {bs:List UInt8} (h:BV L v bs) (hm:∀ p,p∈L->p∈L'):BV L' v bs:=by
 rcases h with h | h
 ·exact .inl (h.mono hm)
 ·exact .inr ⟨h.1.mono hm,h.2⟩
theorem OS.cutX {P:Program} {ops rest:List Oper} {o:Oper} {a:Slots} {L:RL} {K:Slots->RL->Prop} {t:TypeId} {x:Operand} {lo hi:Option Operand} {lo' hi':Option Value} {v:Value} {l u:Nat} {bs:List UInt8} (hs:BV L v bs) (hw:wantedB ops o a=true) (ho:o.op=.slice t x lo hi none) (hx:aev a x=some v)
  (hlo:optEv a lo=some lo') (hhi:optEv a hi=some hi') (bl:boundB lo' 0=some l) (bu:boundB hi' bs.length=some u) (ht:P.underlying t=some (.slice 5)) (hz:sizeB P 5=some 1) (hu:u<=bs.length) (hl:l<=u)
  (hk:∀ v',SV 1 L v' (u - l) (byteCells ((bs.drop l).take (u - l)))->∃ a₁,putAt a o.dst v'=some a₁/\OS P ops rest a₁ L K):OS P ops (o::rest) a L K:=by
 rcases hs with hs | ⟨hs,hcap⟩
 ·refine OS.cutB hs hw ho hx hlo hhi bl bu ht hz hu hl fun v' hv'=>hk v' ?_
  have hlen:((bs.drop l).take (u - l)).length=u - l:=by simp; omega
  have:=hv'.sv
  rw [hlen] at this; exact this
 ·obtain ⟨v',h1,h2⟩:=e_sliceSV hs (fun r off cap row cs₀ h _ _=>.inl (hcap r off cap h)) ho hx hlo hhi bl bu ht hz hu hl
  simp only [Nat.mul_one] at h1
  have h1':SV 1 L v' (u - l) (byteCells ((bs.drop l).take (u - l))):=by
   have e:byteCells ((bs.drop l).take (u - l))=((byteCells bs).drop l).take (u - l):=by simp [byteCells,List.map_take,List.map_drop]
   rw [e]; exact h1
  obtain ⟨a₁,ep,k⟩:=hk v' h1'
  exact xR hw h2 ep k
theorem tk_suf {α:Type} {z t:α} {k:Nat} {s:St}:(tk z t k s).2.1 <:+ s.1:=by
 unfold tk
 split
 ·exact List.suffix_refl _
 ·split
  ·exact List.nil_suffix
  ·exact List.drop_suffix _ _
theorem rBeh_suf {x:Nd × St}:(rBeh x).2.1 <:+ x.2.1:=by unfold rBeh; split <;> exact tk_suf
theorem rLoop_suf:∀ {k:Nat} {x:Nd × St},(rLoop k x).2.1 <:+ x.2.1
 | 0,_=>List.suffix_refl _
 | k+1,x=>(rLoop_suf (k:=k)).trans (rBeh_suf.trans (tk_suf (s:=x.2)))
theorem rNode_suf (bs:List UInt8):(rNode bs).2.1 <:+ bs:=by
 refine rLoop_suf.trans ?_
 have h1:(rHead bs).2.1 <:+ bs:=tk_suf (s:=(bs,false))
 have h2:(rCnt bs).2.1 <:+ bs:=(tk_suf (s:=(rHead bs).2)).trans h1
 unfold rStart
 split
 ·exact h2
 ·exact rBeh_suf.trans h2
theorem drop_suf {s bs:List UInt8} (h:s <:+ bs):bs.drop (bs.length - s.length)=s:=by
 obtain ⟨p,rfl⟩:=h
 rw [List.length_append,Nat.add_sub_cancel,List.drop_left]
def decB (bs:List UInt8):Option Nd:=if bs.length=256/\(rNode bs).2.2=false/\mayN (rNode bs).1=true/\(rNode bs).2.1.all (fun c=>c == 0)=true then some (rNode bs).1 else none
structure NB (n:Nd):Prop where
 k:n.ks.length<=300
 v:n.vs.length<=300
 z:n.kids.length<=300
 kl:∀ k∈n.ks,k.length<=300
 vl:∀ k∈n.vs,k.length<=300
theorem rdn_nv {M L':RL} {n:Nd} {m1 m2 m3:Value} {R1 Rb:RL} (hB:NB n) (hk:GV 9 1 [] m1 n.ks.length (tx n.ks) R1) (hor:(n.leaf=true/\GV 9 1 [] m2 n.vs.length (tx n.vs) Rb/\m3=.slice none 0 0/\n.kids=[])∨(n.leaf=false/\GV 3 1 [] m3 n.kids.length (nums n.kids) Rb/\m2=.slice none 0 0/\n.vs=[]))
  (h1:∀ p,p∈R1->p∈L') (h2:∀ p,p∈Rb->p∈L'):NV L' n m1 m2 m3:=by
 obtain ⟨g1,g2,g3,g4,g5⟩:=hB
 rcases hor with ⟨hl,hg,rfl,he⟩ | ⟨hl,hg,rfl,he⟩
 ·exact ⟨hk.sv.mono h1,hg.sv.mono h2,by rw [he]; exact .inl ⟨rfl,rfl,rfl⟩,by omega,by omega,by omega,fun k h=>by have:=g4 k h; omega,fun k h=>by have:=g5 k h; omega⟩
 ·exact ⟨hk.sv.mono h1,by rw [he]; exact .inl ⟨rfl,rfl,rfl⟩,hg.sv.mono h2,by omega,by omega,by omega,fun k h=>by have:=g4 k h; omega,fun k h=>by have:=g5 k h; omega⟩
def DecV (M:RL) (bs:List UInt8) (v:Value) (L':RL):Prop:=(decB bs=none/\v=.tuple #[ndV false (.slice none 0 0) (.slice none 0 0) (.slice none 0 0),.int .i64 4]/\L'=M)∨∃ nd u,decB bs=some nd/\NB nd/\v=.tuple #[u,.int .i64 0]/\RdN M nd u L'
theorem Decode_ct {L:RL} {v:Value} {bs:List UInt8} (hv:BV L v bs) (hn:bs.length<=400000000000):CS Tryz.prog 58 [v] L fun u L'=>DecV L bs u L':=by
 have hsv:SV 1 L v bs.length (byteCells bs):=by
  rcases hv with hv | hv
  ·exact hv.sv
  ·exact hv.1
 suffices g:CS Tryz.prog 58 [v] L fun u L'=>(decB bs=none/\u=.tuple #[ndV false (.slice none 0 0) (.slice none 0 0) (.slice none 0 0),.int .i64 4]/\∃ X,L'=X++L)∨∃ nd w z t L₁,decB bs=some nd/\NB nd/\u=.tuple #[w,.int .i64 0]/\RdN L nd w L₁/\L'=z::t::L₁ by
  refine g.less fun u L' h=>?_
  rcases h with ⟨h1,h2,X,rfl⟩ | ⟨nd,w,z,t,L₁,h1,h2,h3,h4,rfl⟩
  ·exact ⟨L,Sub.suffix,.inl ⟨h1,h2,rfl⟩⟩
  ·exact ⟨_,Sub.suffix (X:=[z,t]),.inr ⟨nd,w,h1,h2,h3,h4⟩⟩
 refine CS.mk (fn:=Tryz.f58) rfl rfl rfl rfl ?_
 repeat refine xQ ?_
 refine xG rfl ?_
 refine OS.fresh rfl (e_new (fun _=>rfl) rfl) (fun _=>rfl) (fun ro=>?_)
 refine xP rfl rh rfl ?_
 refine xN ?_
 by_cases hl:bs.length=256
 case' neg =>
  have hb0:(!ieqB (bs.length:Int) (256:Nat))=true:=by rw [ieqN,decide_eq_false hl]; rfl
  have hd:decB bs=none:=by unfold decB; rw [if_neg (fun h=>hl h.1)]
  repeat refine xQ ?_
  refine xG rfl ?_
  refine xP rfl rh rfl ?_
  refine xP rfl (e_len hsv rfl rfl rfl rfl rfl) rfl ?_
  refine xP rfl (e_ib rh (hb0)) rfl ?_
  refine xN ?_
  repeat refine xQ ?_
  refine xC rfl (fun hc=>?_) (fun hc=>?_)
  ·repeat refine xQ ?_
   refine xG rfl ?_
   refine xP rfl rh rfl ?_
   refine OS.write rfl (e_store 0 rfl rfl rfl rfl rfl rfl rfl rfl) rfl ?_
   refine xP rfl rh rfl ?_
   refine xN ?_
   refine xT ⟨_,res_cell2 0 rfl rfl rfl rfl rfl,?_⟩
   exact .inl ⟨hd,rfl,[_],rfl⟩
  ·cases hc
 have hb0:(!ieqB (bs.length:Int) (256:Nat))=false:=by rw [ieqN,decide_eq_true hl]; rfl
 repeat refine xQ ?_
 refine xG rfl ?_
 refine xP rfl rh rfl ?_
 refine xP rfl (e_len hsv rfl rfl rfl rfl rfl) rfl ?_
 refine xP rfl (e_ib rh (hb0)) rfl ?_
 refine xN ?_
 repeat refine xQ ?_
 refine xC rfl (fun hc=>?_) (fun hc=>?_)
 ·cases hc
 refine LS.skip ?_
 repeat refine xQ ?_
 refine xG rfl ?_
 refine xP rfl rh rfl ?_
 refine xA noGo rfl (fun _=>rfl) (((NewReader_ct (bs:=bs) hsv.cons hn)).mono ?_)
 rintro u L' ⟨rr,rbt,rfl,v0,rfl,hv0⟩
 refine ⟨_,rfl,?_⟩
 refine xP rfl rh rfl ?_
 refine xN ?_
 repeat refine xQ ?_
 refine xG rfl ?_
 refine xP rfl rh rfl ?_
 refine xA noGo rfl (fun _=>rfl) (((read_ct (bs:=bs) hv0 (by omega))).mono ?_)
 rintro u L' ⟨v1,L'',rfl,hv1,⟨m1,m2,m3,R1,Rb,rfl,rfl,hk,hor⟩,hRB⟩
 obtain ⟨s1,s2,s3⟩:=rdn_sl hk hor
 have hNB:NB (rNode bs).1:=⟨by have:=hRB.k; omega,by have:=hRB.v; omega,by have:=hRB.z; omega,fun k h=>by have:=hRB.kl k h; omega,fun k h=>by have:=hRB.vl k h; omega⟩
 refine ⟨_,rfl,?_⟩
 refine OS.fresh rfl (e_new (fun _=>rfl) rfl) (fun _=>rfl) (fun r5=>?_)
 refine OS.write rfl (e_store 0 (n:=4) rfl rfl rfl rfl rfl (nd_one s1 s2 s3) rfl rfl) rfl ?_
 refine xN ?_
 have hnv:∀ (X:RL),NV (X++(R1++(Rb++(rbt,bRow bs)::(ro,ndRow false (.slice none 0 0) (.slice none 0 0) (.slice none 0 0))::L))) (rNode bs).1 m1 m2 m3:=fun X =>
  rdn_nv (M:=L) hNB hk hor (fun p hp=>by simp [hp]) (fun p hp=>by simp [hp])
 have hbl:∀ (X:RL),BV (X++(R1++(Rb++(rbt,bRow bs)::(ro,ndRow false (.slice none 0 0) (.slice none 0 0) (.slice none 0 0))::L))) v bs:=fun X=>hv.mono fun p hp=>by simp [hp]
 have hsuf:=rNode_suf bs
 have hle:(rNode bs).2.1.length<=256:=by have:=hsuf.length_le; omega
 repeat refine xQ ?_
 refine LS.mid [0,2,5,32] (fun a L'=>L'=(rr,rdRowOf v1 (rNode bs).2.2)::(r5,ndRow (rNode bs).1.leaf m1 m2 m3)::(R1++(Rb++(rbt,bRow bs)::(ro,ndRow false (.slice none 0 0) (.slice none 0 0) (.slice none 0 0))::L))/\a=[v,jn,.pointer (some ⟨ro,0,none⟩),jn,jn,.pointer (some ⟨r5,0,none⟩),jn,jn,jn,jn,jn,jn,jn,jn,jn,jn,jn,jn,jn,jn,jn,jn,jn,jn,jn,jn,jn,jn,jn,jn,jn,jn,.bool (decB bs).isNone,jn,jn]) ?_ ?_
 ·cases hf:(rNode bs).2.2 with
  | true =>
   have hd:(decB bs).isNone=true:=by unfold decB; rw [hf,if_neg (by simp)]; rfl
   repeat refine xQ ?_
   refine xG rfl ?_
   refine xP rfl rh rfl ?_
   refine OS.sub (Sub.pulls [1] rfl) ?_
   refine xA noGo rfl (fun _=>rfl) ((OK_ct).mono ?_)
   rintro u L' ⟨rfl,rfl⟩
   refine ⟨_,rfl,?_⟩
   iterate 2 refine xP rfl rh rfl ?_
   iterate 3 refine xK rfl rfl ?_
   iterate 2 refine xP rfl rh rfl ?_
   iterate 9 refine xK rfl rfl ?_
   refine xP rfl rh rfl ?_
   refine xN ?_
   rw [hd]
   exact ⟨rfl,rfl⟩
  | false =>
   repeat refine xQ ?_
   refine xG rfl ?_
   refine xP rfl rh rfl ?_
   refine OS.sub (Sub.pulls [1] rfl) ?_
   refine xA noGo rfl (fun _=>rfl) ((OK_ct).mono ?_)
   rintro u L' ⟨rfl,rfl⟩
   refine ⟨_,rfl,?_⟩
   iterate 2 refine xP rfl rh rfl ?_
   refine xR rfl (e_load 1 rfl rfl rfl rfl rfl) rfl ?_
   refine xA noGo rfl (fun _=>rfl) (((mayBe_ct (n:=(rNode bs).1) (hnv [_,_]))).mono ?_)
   rintro u L' ⟨rfl,e₁⟩
   subst e₁
   cases hm:mayN (rNode bs).1 with
   | false =>
    have hd:(decB bs).isNone=true:=by unfold decB; rw [hm,if_neg (by simp)]; rfl
    refine ⟨_,rfl,?_⟩
    iterate 3 refine xP rfl rh rfl ?_
    iterate 9 refine xK rfl rfl ?_
    refine xP rfl rh rfl ?_
    refine xN ?_
    rw [hd]
    exact ⟨rfl,rfl⟩
   | true =>
    refine ⟨_,rfl,?_⟩
    iterate 5 refine xP rfl rh rfl ?_
    refine xP rfl (e_len (hsv.mono (L':=(rr,rdRowOf v1 false)::(r5,ndRow (rNode bs).1.leaf m1 m2 m3)::(R1++(Rb++(rbt,bRow bs)::(ro,ndRow false (.slice none 0 0) (.slice none 0 0) (.slice none 0 0))::L))) (fun p hp=>by simp [hp])) rfl rfl rfl rfl rfl) rfl ?_
    refine xP rfl rh rfl ?_
    refine xA noGo rfl (fun _=>rfl) (((Left_ct (bs:=(rNode bs).2.1) (hv1.mono fun p hp=>List.mem_cons_of_mem _ (List.mem_append_right _ (List.mem_append_right _ hp))))).mono ?_)
    rintro u L' ⟨rfl,rfl⟩
    refine ⟨_,rfl,?_⟩
    rw [hl]
    refine xP rfl (e_is (e_sub (m:=(256:Int)) (n:=(rNode bs).2.1.length) rfl rfl rfl (in_i64 (by omega) (by omega))) (congrArg (Value.int .i64) (show (256:Int) - ((rNode bs).2.1.length:Nat)=((256 - (rNode bs).2.1.length:Nat):Int) by omega))) rfl ?_
    refine OS.cutX (l:=256 - (rNode bs).2.1.length) (u:=bs.length) (hbl [_,_]) rfl rfl rfl rfl rfl bound_nat rfl rfl rfl (Nat.le_refl _) (by omega) (fun w hw=>?_)
    have hds:(bs.drop (256 - (rNode bs).2.1.length)).take (bs.length - (256 - (rNode bs).2.1.length))=(rNode bs).2.1:=by
     rw [List.take_of_length_le (by simp),← hl,drop_suf hsuf]
    rw [hds,show bs.length - (256 - (rNode bs).2.1.length)=(rNode bs).2.1.length by omega] at hw
    refine ⟨_,rfl,?_⟩
    refine xA noGo rfl (fun _=>rfl) (((blank_ct hw (by omega))).mono ?_)
    rintro u L' ⟨rfl,e₁⟩
    subst e₁
    have hd:(decB bs).isNone=!(rNode bs).2.1.all (fun c=>c == 0):=by
     unfold decB
     rw [hf,hm]
     cases (rNode bs).2.1.all (fun c=>c == 0) <;> simp [hl]
    refine ⟨_,rfl,?_⟩
    iterate 2 refine xP rfl rh rfl ?_
    refine xN ?_
    rw [hd]
    exact ⟨rfl,rfl⟩
 rintro a L' ⟨rfl,rfl⟩
 cases hd:decB bs with
 | none =>
  repeat refine xQ ?_
  refine xC rfl (fun hc=>?_) (fun hc=>?_)
  ·repeat refine xQ ?_
   refine xG rfl ?_
   refine OS.sub ((Sub.suffix (X:=Rb)).trans ((Sub.suffix (X:=R1)).trans (Sub.suffix (X:=[_,_])))) ?_
   refine xP rfl rh rfl ?_
   refine OS.write rfl (e_store 1 rfl rfl rfl rfl rfl rfl rfl rfl) rfl ?_
   refine xP rfl rh rfl ?_
   refine xN ?_
   refine xT ⟨_,res_cell2 1 rfl rfl rfl rfl rfl,?_⟩
   exact .inl ⟨rfl,rfl,[_,_],rfl⟩
  ·cases hc
 | some nd =>
  have hnd:nd=(rNode bs).1:=by
   unfold decB at hd
   split at hd
   ·exact (Option.some.inj hd).symm
   ·cases hd
  repeat refine xQ ?_
  refine xC rfl (fun hc=>?_) (fun hc=>?_)
  ·cases hc
  refine LS.skip ?_
  subst hnd
  repeat refine xQ ?_
  refine xG rfl ?_
  refine xR rfl (e_load 1 rfl rfl rfl rfl rfl) rfl ?_
  refine OS.sub ((Sub.swap (A:=[(rbt,bRow bs),(ro,ndRow false (.slice none 0 0) (.slice none 0 0) (.slice none 0 0))]) (Y:=R1) (G:=Rb++L)).trans ((Sub.app R1 (Sub.swap (A:=[(rbt,bRow bs),(ro,ndRow false (.slice none 0 0) (.slice none 0 0) (.slice none 0 0))]) (Y:=Rb) (G:=L))).trans (Sub.suffix (X:=[_,_])))) ?_
  refine OS.write rfl (e_store 1 (n:=4) rfl rfl rfl rfl rfl (nd_one s1 s2 s3) rfl rfl) rfl ?_
  refine xP rfl rh rfl ?_
  refine xN ?_
  refine xT ⟨_,res_cell2 1 rfl rfl rfl rfl rfl,?_⟩
  exact .inr ⟨_,_,_,_,_,rfl,hNB,rfl,⟨m1,m2,m3,R1,Rb,rfl,rfl,hk,hor⟩,rfl⟩
end Go.Proofs.YtlmmddfhoabjfaaGreat
end
section
namespace Go.Proofs.YtlmmddfhoabjfaaGreat
open Go.Am
open Go.Proofs.YtlmmddfhoabjfaaGreat.T
theorem take_pre {p bs:List UInt8} (h:p <+: bs):bs=p++bs.drop p.length:=by
 obtain ⟨r,rfl⟩:=h
 rw [List.drop_left]
theorem tk_ok {α:Type} {z t:α} {k:Nat} {s:St} (h:(tk z t k s).2.2=false):s.2=false/\k≠0/\tk z t k s=(t,(s.1.drop k,false)):=by
 unfold tk at h ⊢
 split at h
 ·rename_i hs; rw [hs] at h; cases h
 ·rename_i hs
  split at h
  ·cases h
  ·rename_i hk
   rw [if_neg hs,if_neg hk]
   exact ⟨by simpa using hs,hk,rfl⟩
theorem cAt_ok {bs:List UInt8} {most:Int} (h:(cAt bs most).2≠0):∃ w:Nat,(w:Int)<=most/\w<=2147483647/\grp w <+: bs/\cAt bs most=(w,(grp w).length):=by
 unfold cAt at h ⊢
 split at h
 ·rename_i hc
  rcases gat_inv bs with h0 | ⟨w,hp,he,hw⟩
  ·rw [h0] at h; exact absurd rfl h
  ·rw [he] at hc
   rw [if_pos (by rw [he]; exact hc),he]
   exact ⟨w,hc.2.1,hc.2.2,hp,rfl⟩
 ·exact absurd rfl h
theorem rdC_ok {most:Int} {s:St} (h:(rdC most s).2.2=false):s.2=false/\s.1=cnt (rdC most s).1++(rdC most s).2.1:=by
 unfold rdC at h ⊢
 obtain ⟨h1,h2,h3⟩:=tk_ok h
 obtain ⟨w,h4,h5,h6,h7⟩:=cAt_ok h2
 rw [h3,h7]
 refine ⟨h1,?_⟩
 show s.1=cnt (w:Int)++s.1.drop (grp w).length
 rw [cnt_nat h5]
 exact take_pre h6
theorem rdT_ok {most:Int} {s:St} (h:(rdT most s).2.2=false):s.2=false/\s.1=tB (rdT most s).1++(rdT most s).2.1:=by
 unfold rdT at h ⊢
 obtain ⟨h1,h2,h3⟩:=tk_ok h
 rw [h3]
 refine ⟨h1,?_⟩
 unfold sAt at h2 ⊢
 split at h2
 ·exact absurd rfl h2
 ·rename_i hc
  rw [if_neg hc]
  have hd:(cAt s.1 most).2≠0:=fun h=>hc (.inl h)
  have hl:¬ s.1.length < (cAt s.1 most).2+(cAt s.1 most).1:=fun h=>hc (.inr h)
  obtain ⟨w,h4,h5,h6,h7⟩:=cAt_ok hd
  rw [h7] at hl ⊢
  simp only at hl ⊢
  have hlen:((s.1.drop (grp w).length).take w).length=w:=by simp; omega
  unfold tB
  rw [hlen,List.append_assoc,← List.drop_drop,List.take_append_drop]
  exact take_pre h6
theorem rdF_ok {s:St} (h:(rdF s).2.2=false):s.2=false/\s.1=[if (rdF s).1 then 1 else 0]++(rdF s).2.1:=by
 unfold rdF at h ⊢
 obtain ⟨h1,h2,h3⟩:=tk_ok h
 rw [h3]
 refine ⟨h1,?_⟩
 obtain ⟨bs,f⟩:=s
 cases bs with
 | nil=>exact absurd rfl h2
 | cons c bs =>
  show c::bs=[if (fAt (c::bs)).1 then 1 else 0]++(c::bs).drop (fAt (c::bs)).2
  change (fAt (c::bs)).2≠0 at h2
  by_cases hc:1 < c.toNat
  ·have hfa:fAt (c::bs)=(false,0):=by simp only [fAt]; rw [if_pos hc]
   rw [hfa] at h2
   exact absurd rfl h2
  ·have hfa:fAt (c::bs)=(c == 1,1):=by simp only [fAt]; rw [if_neg hc]
   rw [hfa]
   by_cases h:c=1
   ·subst h; rfl
   ·have:c=0:=by
     apply UInt8.toNat_inj.1
     have h':c.toNat≠1:=fun hh=>h (UInt8.toNat_inj.1 hh)
     show c.toNat=0
     omega
    subst this
    rfl
theorem zipB_snoc:∀ {ks bs:List (List UInt8)} {k b:List UInt8},ks.length=bs.length->zipB (ks++[k]) (bs++[b])=zipB ks bs++(tB k++b)
 | [],[],k,b,_=>by simp [zipB]
 | [],_::_,_,_,h=>by simp at h
 | _::_,[],_,_,h=>by simp at h
 | c::ks,d::bs,k,b,h=>by
  simp only [List.cons_append,zipB,zipB_snoc (ks:=ks) (bs:=bs) (by simpa using h),List.append_assoc]
def GoodN (n:Nd):Prop:=(n.leaf=true/\n.vs.length=n.ks.length/\n.kids=[])∨(n.leaf=false/\n.kids.length=n.ks.length+1/\n.vs=[])
theorem good_beh {n:Nd} (h:GoodN n):(behN n).length=n.ks.length:=by
 unfold behN
 rcases h with ⟨h1,h2,_⟩ | ⟨h1,h2,_⟩
 ·rw [h1,if_pos rfl,List.length_map]; exact h2
 ·rw [h1,if_neg (by decide),List.length_map,List.length_tail,h2]; rfl
def workN (x:Nd × St):List UInt8:=firstN x.1++(zipB x.1.ks (behN x.1)++x.2.1)
theorem rStep_ok {x:Nd × St} (hg:GoodN x.1) (h:(rBeh (rKey x)).2.2=false):x.2.2=false/\GoodN (rBeh (rKey x)).1/\workN (rBeh (rKey x))=workN x/\(rBeh (rKey x)).1.ks.length=x.1.ks.length+1/\(rBeh (rKey x)).1.leaf=x.1.leaf:=by
 have hgb:=good_beh hg
 obtain ⟨⟨lf,ks,vs,kids⟩,s⟩:=x
 rcases hg with ⟨h1,h2,h3⟩ | ⟨h1,h2,h3⟩
 ·simp only at h1 h2 h3
  subst h1; subst h3
  have he:rBeh (rKey (⟨true,ks,vs,[]⟩,s))=(⟨true,ks++[(rdT 32 s).1],vs++[(rdT 64 (rdT 32 s).2).1],[]⟩,(rdT 64 (rdT 32 s).2).2):=rfl
  rw [he] at h ⊢
  obtain ⟨k1,k2⟩:=rdT_ok h
  obtain ⟨k3,k4⟩:=rdT_ok k1
  refine ⟨k3,.inl ⟨rfl,by simp [h2],rfl⟩,?_,by simp,rfl⟩
  have hb:behN ⟨true,ks++[(rdT 32 s).1],vs++[(rdT 64 (rdT 32 s).2).1],[]⟩=behN ⟨true,ks,vs,[]⟩++[tB (rdT 64 (rdT 32 s).2).1]:=by simp [behN]
  unfold workN
  rw [hb,zipB_snoc hgb.symm]
  show firstN ⟨true,_,_,[]⟩++(zipB ks (behN ⟨true,ks,vs,[]⟩)++(tB (rdT 32 s).1++tB (rdT 64 (rdT 32 s).2).1)++(rdT 64 (rdT 32 s).2).2.1)=firstN ⟨true,ks,vs,[]⟩++(zipB ks (behN ⟨true,ks,vs,[]⟩)++s.1)
  rw [k4,k2]
  simp [firstN]
 ·simp only at h1 h2 h3
  subst h1; subst h3
  have he:rBeh (rKey (⟨false,ks,[],kids⟩,s))=(⟨false,ks++[(rdT 32 s).1],[],kids++[(rdC 32768 (rdT 32 s).2).1]⟩,(rdC 32768 (rdT 32 s).2).2):=rfl
  rw [he] at h ⊢
  obtain ⟨k1,k2⟩:=rdC_ok h
  obtain ⟨k3,k4⟩:=rdT_ok k1
  refine ⟨k3,.inr ⟨rfl,by simp [h2],rfl⟩,?_,by simp,rfl⟩
  cases kids with
  | nil=>simp at h2
  | cons z0 kids =>
   have hb:behN ⟨false,ks++[(rdT 32 s).1],[],z0::kids++[(rdC 32768 (rdT 32 s).2).1]⟩=behN ⟨false,ks,[],z0::kids⟩++[cnt (rdC 32768 (rdT 32 s).2).1]:=by simp [behN]
   unfold workN
   rw [hb,zipB_snoc hgb.symm]
   show firstN ⟨false,_,[],z0::kids++_⟩++(zipB ks (behN ⟨false,ks,[],z0::kids⟩)++(tB (rdT 32 s).1++cnt (rdC 32768 (rdT 32 s).2).1)++(rdC 32768 (rdT 32 s).2).2.1)=firstN ⟨false,ks,[],z0::kids⟩++(zipB ks (behN ⟨false,ks,[],z0::kids⟩)++s.1)
   rw [k4,k2]
   simp [firstN]
theorem rLoop_ok:∀ {k:Nat} {x:Nd × St},GoodN x.1->(rLoop k x).2.2=false->x.2.2=false/\GoodN (rLoop k x).1/\workN (rLoop k x)=workN x/\(rLoop k x).1.ks.length=x.1.ks.length+k/\(rLoop k x).1.leaf=x.1.leaf
 | 0,x,hg,h=>⟨h,hg,rfl,rfl,rfl⟩
 | k+1,x,hg,h=>by
  have hf:(rBeh (rKey x)).2.2=false:=by
   cases hb:(rBeh (rKey x)).2.2 with
   | false=>rfl
   | true =>
    exfalso
    have:∀ (k:Nat) (y:Nd × St),y.2.2=true->(rLoop k y).2.2=true:=by
     intro k
     induction k with
     | zero=>intro y hy; exact hy
     | succ k ih =>
      intro y hy
      refine ih _ ?_
      have h1:(rKey y).2.2=true:=by
       cases hc:(rKey y).2.2 with
       | true=>rfl
       | false=>have:=(tk_ok hc).1; rw [hy] at this; cases this
      cases hc:(rBeh (rKey y)).2.2 with
      | true=>rfl
      | false =>
       unfold rBeh at hc
       split at hc
       ·have:=(tk_ok hc).1; rw [h1] at this; cases this
       ·have:=(tk_ok hc).1; rw [h1] at this; cases this
    have:=this k _ hb
    rw [show rLoop (k+1) x=rLoop k (rBeh (rKey x)) from rfl] at h
    rw [this] at h
    cases h
  -- one step,and the others
  by_cases hx:GoodN (rBeh (rKey x)).1/\workN (rBeh (rKey x))=workN x
  ·obtain ⟨g1,g2,g3,g4,g5⟩:=rStep_ok hg hf
   obtain ⟨r1,r2,r3,r4,r5⟩:=rLoop_ok (k:=k) g2 (show (rLoop k (rBeh (rKey x))).2.2=false from h)
   exact ⟨g1,r2,r3.trans g3,by show (rLoop k (rBeh (rKey x))).1.ks.length=_; rw [r4,g4]; omega,r5.trans g5⟩
  ·obtain ⟨g1,g2,g3,g4,g5⟩:=rStep_ok hg hf
   exact absurd ⟨g2,g3⟩ hx
theorem rNode_ok {bs:List UInt8} (h:(rNode bs).2.2=false):bs=bodyN (rNode bs).1++(rNode bs).2.1:=by
 have hstart:(rStart bs).2.2=false->GoodN (rStart bs).1/\(rStart bs).1.ks=[]/\(rStart bs).1.leaf=(rHead bs).1/\(rCnt bs).2.2=false/\workN (rStart bs)=(rCnt bs).2.1:=by
  intro hs
  unfold rStart at hs ⊢
  cases hl:(rHead bs).1 with
  | true =>
   rw [hl] at hs
   exact ⟨.inl ⟨rfl,rfl,rfl⟩,rfl,rfl,hs,by simp [workN,firstN,zipB]⟩
  | false =>
   rw [hl] at hs
   have he:rBeh (⟨false,[],[],[]⟩,(rCnt bs).2)=(⟨false,[],[],[(rdC 32768 (rCnt bs).2).1]⟩,(rdC 32768 (rCnt bs).2).2):=rfl
   rw [if_neg (by decide),he] at hs ⊢
   obtain ⟨k1,k2⟩:=rdC_ok hs
   exact ⟨.inr ⟨rfl,rfl,rfl⟩,rfl,rfl,k1,by rw [k2]; simp [workN,firstN,zipB]⟩
 have hgs:GoodN (rStart bs).1:=by
  unfold rStart
  split
  ·exact .inl ⟨rfl,rfl,rfl⟩
  ·exact .inr ⟨rfl,rfl,rfl⟩
 obtain ⟨r1,r2,r3,r4,r5⟩:=rLoop_ok (k:=(rCnt bs).1.toNat) hgs h
 obtain ⟨s1,s2,s3,s4,s5⟩:=hstart r1
 obtain ⟨c1,c2⟩:=rdC_ok (most:=256) (s:=(rHead bs).2) s4
 obtain ⟨f1,f2⟩:=rdF_ok (s:=(bs,false)) c1
 have hc:=rdC_le (most:=256) (s:=(rHead bs).2) (by decide)
 change bs=[if (rHead bs).1 then 1 else 0]++(rHead bs).2.1 at f2
 change (rHead bs).2.1=cnt (rCnt bs).1++(rCnt bs).2.1 at c2
 change 0<=(rCnt bs).1/\(rCnt bs).1<=256 at hc
 have hk:(rNode bs).1.ks.length=(rCnt bs).1.toNat:=by
  show (rLoop _ _).1.ks.length=_
  rw [r4,s2]; simp
 have hlf:(rNode bs).1.leaf=(rHead bs).1:=r5.trans s3
 have hcn:cnt (rCnt bs).1=grp (rCnt bs).1.toNat:=by
  obtain ⟨c,hcc⟩:=Int.eq_ofNat_of_zero_le hc.1
  rw [hcc,cnt_nat (by omega),Int.toNat_natCast]
 have hw:workN (rNode bs)=(rCnt bs).2.1:=r3.trans s5
 unfold bodyN headN
 rw [hk,hlf]
 unfold workN at hw
 rw [List.append_assoc,List.append_assoc,List.append_assoc,hw,← hcn,← c2]
 exact f2
theorem decB_enc {bs:List UInt8} {n:Nd} (h:decB bs=some n):fitsN n=true/\encN n=bs:=by
 unfold decB at h
 split at h
 ·rename_i hc
  obtain ⟨h1,h2,h3,h4⟩:=hc
  obtain rfl:=Option.some.inj h
  have hb:=rNode_ok h2
  have hl:=congrArg List.length hb
  rw [List.length_append,h1] at hl
  have hf:fitsN (rNode bs).1=true:=by
   unfold fitsN
   rw [h3,decide_eq_true (by omega)]
   rfl
  refine ⟨hf,?_⟩
  unfold encN
  rw [if_pos hf]
  have hz:(rNode bs).2.1=List.replicate (256 - (bodyN (rNode bs).1).length) 0:=by
   rw [List.eq_replicate_iff]
   refine ⟨by omega,fun b hb=>?_⟩
   have:=List.all_eq_true.1 h4 b hb
   simpa using this
  rw [← hz]
  exact hb.symm
 ·cases h
theorem grp_nz (w:Nat):(grp w).length≠0:=by have:=grp_pos w; omega
theorem keys_256 {n:Nd} (h:fitsN n=true):n.ks.length<=256:=by
 have hm:mayN n=true:=by unfold fitsN at h; simp at h; exact h.1
 have hl:(bodyN n).length<=256:=by unfold fitsN at h; simp at h; exact h.2
 have:∀ {ks bs:List (List UInt8)},ks.length=bs.length->ks.length<=(zipB ks bs).length:=by
  intro ks
  induction ks with
  | nil=>intro bs _; simp
  | cons k ks ih =>
   intro bs hb
   cases bs with
   | nil=>simp at hb
   | cons b bs =>
    have h1:=ih (bs:=bs) (by simpa using hb)
    have h2:=grp_nz k.length
    simp only [zipB,tB,List.length_append,List.length_cons]
    omega
 have:=this (beh_len hm).symm
 unfold bodyN at hl
 simp only [List.length_append] at hl
 omega
end Go.Proofs.YtlmmddfhoabjfaaGreat
end
section
namespace Go.Proofs.YtlmmddfhoabjfaaGreat
open Go.Am
open Go.Proofs.YtlmmddfhoabjfaaGreat.T
theorem rise_erase:∀ {l:List UInt8} {ks:List (List UInt8)} {i:Nat},rise l ks=true->rise l (ks.eraseIdx i)=true
 | _,[],_,h=>by simpa using h
 | _,k::r,0,h=>by
  obtain ⟨h1,h2,h3⟩:=rise_cons.1 h
  exact rise_weak h1 h3
 | _,k::r,i+1,h=>by
  obtain ⟨h1,h2,h3⟩:=rise_cons.1 h
  exact rise_cons.2 ⟨h1,h2,rise_erase h3⟩
theorem may_iff {n:Nd}:mayN n=true↔rise [] n.ks=true/\((n.leaf=true/\n.vs.length=n.ks.length/\n.kids=[]/\∀ v∈n.vs,v.length<=64)∨(n.leaf=false/\n.kids.length=n.ks.length+1/\n.vs=[]/\∀ z∈n.kids,0<=z/\z<=32768)):=by
 constructor
 ·intro h
  refine ⟨mayN_rise h,?_⟩
  cases hl:n.leaf with
  | true=>exact .inl ⟨rfl,may_vs h hl⟩
  | false=>exact .inr ⟨rfl,may_kids h hl⟩
 ·rintro ⟨h0,⟨hl,h1,h2,h3⟩ | ⟨hl,h1,h2,h3⟩⟩
  ·unfold mayN
   rw [h0,hl,if_pos rfl]
   simp [h1,h2]
   exact h3
  ·unfold mayN
   rw [h0,hl,if_neg (by decide)]
   simp [h1,h2]
   exact h3
theorem without_may {n:Nd} {i:Nat} (h:mayN n=true) (hi:i < n.ks.length):mayN (withoutN n i)=true:=by
 obtain ⟨h0,h⟩:=may_iff.1 h
 refine may_iff.2 ⟨rise_erase h0,?_⟩
 rcases h with ⟨hl,h1,h2,h3⟩ | ⟨hl,h1,h2,h3⟩
 ·refine .inl ⟨hl,?_,by simp [withoutN,h2],fun v hv=>h3 v (List.mem_of_mem_eraseIdx hv)⟩
  show (n.vs.eraseIdx i).length=(n.ks.eraseIdx i).length
  rw [List.length_eraseIdx,List.length_eraseIdx,h1]
 ·refine .inr ⟨hl,?_,by simp [withoutN,h2],fun v hv=>h3 v (List.mem_of_mem_eraseIdx hv)⟩
  show (n.kids.eraseIdx (i+1)).length=(n.ks.eraseIdx i).length+1
  rw [List.length_eraseIdx,List.length_eraseIdx,if_pos (by omega),if_pos hi]
  omega
theorem map_erase {α β:Type} {f:α->β}:∀ {l:List α} {i:Nat},(l.eraseIdx i).map f=(l.map f).eraseIdx i
 | [],_=>by simp
 | _::_,0=>rfl
 | x::l,i+1=>by simp only [List.eraseIdx_cons_succ,List.map_cons,map_erase]
theorem tB_pos (s:List UInt8):0 < (tB s).length:=by
 have:=grp_pos s.length
 unfold tB
 rw [List.length_append]
 omega
theorem zip_erase:∀ {ks bs:List (List UInt8)} {i:Nat},i < ks.length->ks.length=bs.length->(zipB (ks.eraseIdx i) (bs.eraseIdx i)).length < (zipB ks bs).length
 | [],_,_,h,_=>by simp at h
 | _::_,[],_,_,h=>by simp at h
 | k::ks,b::bs,0,_,_=>by
  have:=tB_pos k
  simp only [List.eraseIdx_cons_zero,zipB,List.length_append]
  omega
 | k::ks,b::bs,i+1,h,hl=>by
  have:=zip_erase (ks:=ks) (bs:=bs) (i:=i) (by simpa using h) (by simpa using hl)
  simp only [List.eraseIdx_cons_succ,zipB,List.length_append]
  omega
theorem without_beh {n:Nd} {i:Nat} (h:mayN n=true):behN (withoutN n i)=(behN n).eraseIdx i/\firstN (withoutN n i)=firstN n:=by
 obtain ⟨h0,h⟩:=may_iff.1 h
 obtain ⟨lf,ks,vs,kids⟩:=n
 rcases h with ⟨hl,h1,h2,h3⟩ | ⟨hl,h1,h2,h3⟩
 ·simp only at hl h1 h2
  subst hl
  exact ⟨map_erase,rfl⟩
 ·simp only at hl h1 h2
  subst hl
  cases kids with
  | nil=>simp at h1
  | cons z zs=>exact ⟨map_erase,rfl⟩
theorem zipB_len2 {A B:Nat}:∀ {ks bs:List (List UInt8)},(∀ k∈ks,(tB k).length<=A)->(∀ b∈bs,b.length<=B)->(zipB ks bs).length<=ks.length * (A+B)
 | [],_,_,_=>by simp [zipB]
 | k::ks,[],_,_=>by simp [zipB]
 | k::ks,b::bs,h1,h2=>by
  have h3:=zipB_len2 (ks:=ks) (bs:=bs) (fun k hk=>h1 k (List.mem_cons_of_mem _ hk)) (fun b hb=>h2 b (List.mem_cons_of_mem _ hb))
  have h4:=h1 k (List.mem_cons_self ..)
  have h5:=h2 b (List.mem_cons_self ..)
  simp only [zipB,List.length_append,List.length_cons,Nat.add_mul,Nat.one_mul]
  omega
theorem room_fits {n:Nd} (h:mayN n=true) (hs:(n.leaf=true/\n.ks.length<=2)∨(n.leaf=false/\n.ks.length<=6)):fitsN n=true:=by
 have hks:∀ k∈n.ks,(tB k).length<=33:=fun k hk=>by
  have:=may_ks h k hk
  rw [tB_len (by omega)]
  omega
 have hg:(grp n.ks.length).length=1:=by rw [grp_lt (by omega)]; rfl
 have hbody:(bodyN n).length<=256:=by
  rcases hs with ⟨hl,h2⟩ | ⟨hl,h6⟩
  ·obtain ⟨g1,g2,g3⟩:=may_vs h hl
   have hb:∀ b∈behN n,b.length<=65:=fun b hb=>by
    unfold behN at hb
    rw [hl,if_pos rfl] at hb
    obtain ⟨v,hv,rfl⟩:=List.mem_map.1 hb
    have:=g3 v hv
    rw [tB_len (by omega)]
    omega
   have hz:=zipB_len2 hks hb
   have hf:(firstN n).length=0:=by unfold firstN; rw [hl]; rfl
   have hz2:(zipB n.ks (behN n)).length<=2 * (33+65):=Nat.le_trans hz (Nat.mul_le_mul_right _ h2)
   unfold bodyN headN
   simp only [List.length_append,List.length_cons,List.length_nil]
   omega
  ·obtain ⟨g1,g2,g3⟩:=may_kids h hl
   have hc:∀ z:Int,0<=z/\z<=32768->(cnt z).length<=3:=fun z hz=>by
    obtain ⟨m,rfl⟩:=Int.eq_ofNat_of_zero_le hz.1
    rw [cnt_nat (by omega)]
    exact grp_len (k:=3) (by omega) (by omega)
   have hb:∀ b∈behN n,b.length<=3:=fun b hb=>by
    unfold behN at hb
    rw [hl,if_neg (by decide)] at hb
    obtain ⟨v,hv,rfl⟩:=List.mem_map.1 hb
    exact hc v (g3 v (List.mem_of_mem_tail hv))
   have hz:=zipB_len2 hks hb
   have hf:(firstN n).length<=3:=by
    unfold firstN
    rw [hl,if_neg (by decide)]
    refine hc _ ?_
    cases hk:n.kids with
    | nil=>rw [hk] at g1; simp at g1
    | cons z zs=>exact g3 z (by rw [hk]; exact List.mem_cons_self ..)
   have hz2:(zipB n.ks (behN n)).length<=6 * (33+3):=Nat.le_trans hz (Nat.mul_le_mul_right _ h6)
   unfold bodyN headN
   simp only [List.length_append,List.length_cons,List.length_nil]
   omega
 unfold fitsN
 rw [h,decide_eq_true hbody]
 rfl
end Go.Proofs.YtlmmddfhoabjfaaGreat
end
section
namespace Go.Proofs.YtlmmddfhoabjfaaGreat
open Go.Am
def tb (c:UInt8) (k:Nat):Bool:=c.toNat.testBit k
def bit (D:List UInt8) (i:Nat):Bool:=tb (D[i / 8]?.getD 0) (i % 8)
def tkn (T:List Bool) (i:Nat):Bool:=T[i]?.getD false
structure Rep (D:List UInt8) (T:List Bool):Prop where
 len:D.length=(T.length+7) / 8
 le:T.length<=32768
 same:∀ i,bit D i=tkn T i
theorem tb_big {c:UInt8} {k:Nat} (h:8<=k):tb c k=false:=by
 unfold tb
 refine Nat.testBit_lt_two_pow (Nat.lt_of_lt_of_le (UInt8.toNat_lt c) ?_)
 calc 256=2 ^ 8:=rfl
  _<=2 ^ k:=Nat.pow_le_pow_right (by omega) h
theorem tb_zero (k:Nat):tb 0 k=false:=by unfold tb; simp
theorem byte_ext {c d:UInt8} (h:∀ k,k < 8->tb c k=tb d k):c=d:=by
 refine UInt8.toNat_inj.1 (Nat.eq_of_testBit_eq fun k=>?_)
 by_cases hk:k < 8
 ·exact h k hk
 ·have h1:=tb_big (c:=c) (k:=k) (by omega)
  have h2:=tb_big (c:=d) (k:=k) (by omega)
  unfold tb at h1 h2
  rw [h1,h2]
theorem bit_out {D:List UInt8} {i:Nat} (h:D.length<=i / 8):bit D i=false:=by
 unfold bit; rw [List.getElem?_eq_none h]; exact tb_zero _
theorem bit_at (D:List UInt8) (j k:Nat) (hk:k < 8):bit D (8 * j+k)=tb (D[j]?.getD 0) k:=by
 unfold bit
 rw [show (8 * j+k) / 8=j by omega,show (8 * j+k) % 8=k by omega]
theorem bytes_ext {D E:List UInt8} (hl:D.length=E.length) (h:∀ i,bit D i=bit E i):D=E:=by
 apply List.ext_getElem hl
 intro j h1 h2
 refine byte_ext fun k hk=>?_
 have:=h (8 * j+k)
 rw [bit_at _ _ _ hk,bit_at _ _ _ hk,List.getElem?_eq_getElem h1,List.getElem?_eq_getElem h2] at this
 simpa using this
theorem Rep.uniq {D E:List UInt8} {T:List Bool} (h:Rep D T) (g:Rep E T):D=E:=bytes_ext (h.len.trans g.len.symm) fun i=>(h.same i).trans (g.same i).symm
theorem tkn_out {T:List Bool} {i:Nat} (h:T.length<=i):tkn T i=false:=by unfold tkn; rw [List.getElem?_eq_none h]; rfl
theorem tkn_in {T:List Bool} {i:Nat} (h:i < T.length):T[i]?=some (tkn T i):=by unfold tkn; rw [List.getElem?_eq_getElem h]; rfl
theorem tkn_set {T:List Bool} {i:Nat} {b:Bool} (h:i < T.length) (j:Nat):tkn (T.set i b) j=if j=i then b else tkn T j:=by
 unfold tkn
 rw [List.getElem?_set]
 by_cases hij:i=j
 ·subst hij; rw [if_pos rfl,if_pos h,if_pos rfl]; rfl
 ·rw [if_neg hij,if_neg (fun e=>hij e.symm)]
theorem tkn_zeros (n i:Nat):tkn (List.replicate n false) i=false:=by
 unfold tkn
 rw [List.getElem?_replicate]
 split <;> rfl
def flipD (D:List UInt8) (i:Nat):List UInt8:=D.set (i / 8) (UInt8.ofNat ((D[i / 8]?.getD 0).toNat ^^^ 2 ^ (i % 8)))
theorem xor_lt {c:UInt8} {k:Nat} (hk:k < 8):c.toNat ^^^ 2 ^ k < 256:=by
 have h1:2 ^ k < 2 ^ 8:=Nat.pow_lt_pow_right (by omega) hk
 exact Nat.xor_lt_two_pow (n:=8) (UInt8.toNat_lt c) h1
theorem tb_flip {c:UInt8} {k j:Nat} (hk:k < 8):tb (UInt8.ofNat (c.toNat ^^^ 2 ^ k)) j=if j=k then !tb c j else tb c j:=by
 unfold tb
 rw [toNat_of (xor_lt hk),Nat.testBit_xor,Nat.testBit_two_pow]
 by_cases h:j=k
 ·subst h; simp
 ·rw [if_neg h]
  have:¬ k=j:=fun e=>h e.symm
  simp [this]
theorem bit_flip {D:List UInt8} {i:Nat} (h:i / 8 < D.length) (j:Nat):bit (flipD D i) j=if j=i then !bit D j else bit D j:=by
 unfold bit flipD
 rw [List.getElem?_set]
 by_cases hb:i / 8=j / 8
 ·rw [if_pos hb,if_pos h,Option.getD_some,tb_flip (by omega),hb]
  by_cases hj:j=i
  ·subst hj; rw [if_pos rfl,if_pos rfl]
  ·rw [if_neg (by omega),if_neg hj]
 ·rw [if_neg hb,if_neg (by intro e; subst e; exact hb rfl)]
theorem Rep.flip {D:List UInt8} {T:List Bool} {i:Nat} (h:Rep D T) (hi:i < T.length):Rep (flipD D i) (T.set i (!tkn T i)):=by
 refine ⟨by unfold flipD; rw [List.length_set,List.length_set]; exact h.len,by rw [List.length_set]; exact h.le,fun j=>?_⟩
 rw [bit_flip (by have:=h.len; omega),tkn_set hi,h.same]
 by_cases hj:j=i
 ·subst hj; simp
 ·rw [if_neg hj,if_neg hj]
theorem Rep.zeros {n:Nat} (h:n<=32768):Rep (List.replicate ((n+7) / 8) 0) (List.replicate n false):=by
 refine ⟨by simp,by simpa using h,fun i=>?_⟩
 rw [tkn_zeros]
 unfold bit
 rw [List.getElem?_replicate]
 split <;> exact tb_zero _
def ff (T:List Bool):Nat:=T.findIdx (fun b=>!b)
theorem ff_is {T:List Bool} {m:Nat} (h1:∀ i,i < m->tkn T i=true) (h2:tkn T m=false):ff T=m:=by
 have hm:m<=T.length:=by
  rcases Nat.lt_or_ge T.length m with h | h
  ·have:=h1 T.length h
   rw [tkn_out (Nat.le_refl _)] at this; cases this
  ·exact h
 unfold ff
 rcases Nat.lt_or_ge m T.length with h | h
 ·rw [List.findIdx_eq h]
  have h2':=tkn_in h
  rw [h2,List.getElem?_eq_getElem h] at h2'
  refine ⟨by simpa using h2',fun j hj=>?_⟩
  have h1':=tkn_in (T:=T) (i:=j) (by omega)
  rw [h1 j hj,List.getElem?_eq_getElem (by omega)] at h1'
  simpa using h1'
 ·have:m=T.length:=by omega
  subst this
  rw [List.findIdx_eq_length]
  intro x hx
  obtain ⟨i,hi,rfl⟩:=List.mem_iff_getElem.1 hx
  have h1':=tkn_in hi
  rw [h1 i hi,List.getElem?_eq_getElem hi] at h1'
  simpa using h1'
theorem ff_le (T:List Bool):ff T<=T.length:=List.findIdx_le_length
theorem ff_ahead {T:List Bool} {i:Nat} (h:i < ff T):tkn T i=true:=by
 have hl:i < T.length:=Nat.lt_of_lt_of_le h (ff_le T)
 have:=List.not_of_lt_findIdx (p:=fun b=>!b) (xs:=T) h
 have h2:=tkn_in hl
 rw [List.getElem?_eq_getElem hl] at h2
 simp only [Option.some.injEq] at h2
 rw [← h2]; simpa using this
theorem ff_here {T:List Bool} (h:ff T < T.length):tkn T (ff T)=false:=by
 have:=List.findIdx_getElem (p:=fun b=>!b) (xs:=T) (w:=h)
 have h2:=tkn_in h
 rw [List.getElem?_eq_getElem h] at h2
 simp only [Option.some.injEq] at h2
 rw [← h2]
 have this:T[List.findIdx (fun b=>!b) T]'h=false:=by simpa using this
 exact this
def frees (T:List Bool):Nat:=T.countP (fun b=>!b)
def lst' (T:List Bool):List Nat:=(List.range T.length).filter (tkn T)
def lstTo (T:List Bool) (k:Nat):List Nat:=(List.range k).filter (tkn T)
theorem lstTo_succ (T:List Bool) (k:Nat):lstTo T (k+1)=if tkn T k then lstTo T k++[k] else lstTo T k:=by
 unfold lstTo
 rw [List.range_succ,List.filter_append]
 cases h:tkn T k <;> simp [List.filter,h]
theorem lstTo_len (T:List Bool) (k:Nat):(lstTo T k).length<=k:=by
 unfold lstTo
 exact Nat.le_trans (List.length_filter_le _ _) (by simp)
theorem range_map (T:List Bool):(List.range T.length).map (tkn T)=T:=by
 apply List.ext_getElem?
 intro i
 rw [List.getElem?_map]
 by_cases h:i < T.length
 ·rw [List.getElem?_range h,tkn_in h]; rfl
 ·rw [List.getElem?_eq_none (by simpa using h),List.getElem?_eq_none (by omega)]; rfl
theorem frees_eq (T:List Bool):frees T=(List.range T.length).countP (fun i=>!tkn T i):=by
 unfold frees
 conv=>lhs; rw [← range_map T]
 rw [List.countP_map]; rfl
theorem list_and_free (T:List Bool):(lst' T).length+frees T=T.length:=by
 have h1:(lst' T).length=(List.range T.length).countP (tkn T):=by unfold lst'; rw [List.countP_eq_length_filter]
 have h2:=List.length_eq_countP_add_countP (p:=tkn T) (l:=List.range T.length)
 rw [List.length_range] at h2
 rw [h1,frees_eq]
 refine Eq.trans ?_ h2.symm
 congr 1
 refine List.countP_congr fun x _=>?_
 simp
def pc (c:UInt8):Nat:=(List.range 8).countP (tb c)
def fz (c:UInt8):Nat:=(List.range 8).findIdx (fun k=>!tb c k)
theorem pc_le (c:UInt8):pc c<=8:=by
 unfold pc
 exact Nat.le_trans List.countP_le_length (by simp)
def onesTo (D:List UInt8) (j:Nat):Nat:=(List.range (8 * j)).countP (bit D)
theorem onesTo_succ {D:List UInt8} {j:Nat} {c:UInt8} (h:D[j]?=some c):onesTo D (j+1)=onesTo D j+pc c:=by
 unfold onesTo pc
 rw [show 8 * (j+1)=8 * j+8 by omega,List.range_add,List.countP_append,List.countP_map]
 congr 1
 refine List.countP_congr fun k hk=>?_
 have hk:k < 8:=by simpa using hk
 show bit D (8 * j+k)=true↔_
 rw [bit_at _ _ _ hk,h]; rfl
theorem onesTo_all {D:List UInt8} {T:List Bool} (h:Rep D T):onesTo D D.length+frees T=T.length:=by
 have e:onesTo D D.length=(List.range T.length).countP (tkn T):=by
  unfold onesTo
  have hl:8 * D.length=T.length+(8 * D.length - T.length):=by have:=h.len; omega
  rw [hl,List.range_add,List.countP_append]
  have:List.countP (bit D) (List.map (fun x=>T.length+x) (List.range (8 * D.length - T.length)))=0:=by
   rw [List.countP_eq_zero]
   intro x hx
   obtain ⟨y,_,rfl⟩:=List.mem_map.1 hx
   rw [h.same,tkn_out (by omega)]; simp
  rw [this,Nat.add_zero]
  exact List.countP_congr fun x _=>by rw [h.same]
 have h1:(lst' T).length=(List.range T.length).countP (tkn T):=by unfold lst'; rw [List.countP_eq_length_filter]
 rw [e,← h1]
 exact list_and_free T
theorem onesTo_le (D:List UInt8) (j:Nat):onesTo D j<=8 * j:=by
 unfold onesTo
 exact Nat.le_trans List.countP_le_length (by simp)
def upTo (f:Nat->Bool):Nat->Nat
 | 0=>0
 | k+1=>upTo f k+if f k then 2 ^ k else 0
theorem upTo_lt (f:Nat->Bool):∀ k,upTo f k < 2 ^ k
 | 0=>by simp [upTo]
 | k+1=>by
  have:=upTo_lt f k
  simp only [upTo,Nat.pow_succ]
  split <;> omega
theorem upTo_bit (f:Nat->Bool):∀ k j,(upTo f k).testBit j=(decide (j < k) && f j)
 | 0,j=>by simp [upTo]
 | k+1,j=>by
  have hlt:=upTo_lt f k
  simp only [upTo]
  by_cases hf:f k=true
  ·rw [if_pos hf,Nat.add_comm,show 2 ^ k+upTo f k=2 ^ k * 1+upTo f k by rw [Nat.mul_one],Nat.two_pow_add_eq_or_of_lt hlt,Nat.mul_one,Nat.testBit_or,Nat.testBit_two_pow,upTo_bit f k j]
   by_cases hj:k=j
   ·subst hj; simp [hf]
   ·simp [hj]
    by_cases h2:j < k
    ·simp [h2,show j < k+1 by omega]
    ·simp [h2,show ¬ j < k+1 by omega]
  ·rw [if_neg hf,Nat.add_zero,upTo_bit f k j]
   by_cases hj:k=j
   ·subst hj; simp [show f k=false by simpa using hf]
   ·by_cases h2:j < k
    ·simp [h2,show j < k+1 by omega]
    ·simp [h2,show ¬ j < k+1 by omega]
def byteOf (T:List Bool) (j:Nat):UInt8:=UInt8.ofNat (upTo (fun k=>tkn T (8 * j+k)) 8)
theorem byteOf_bit {T:List Bool} {j k:Nat} (hk:k < 8):tb (byteOf T j) k=tkn T (8 * j+k):=by
 unfold tb byteOf
 rw [toNat_of (upTo_lt _ 8),upTo_bit]
 simp [hk]
def pk (T:List Bool):List UInt8:=(List.range ((T.length+7) / 8)).map (byteOf T)
theorem pk_len (T:List Bool):(pk T).length=(T.length+7) / 8:=by simp [pk]
theorem pk_bit (T:List Bool) (i:Nat):bit (pk T) i=tkn T i:=by
 by_cases h:i / 8 < (T.length+7) / 8
 ·have:=bit_at (pk T) (i / 8) (i % 8) (by omega)
  rw [show 8 * (i / 8)+i % 8=i by omega] at this
  rw [this]
  simp only [pk,List.getElem?_map,List.getElem?_range h,Option.map_some,Option.getD_some]
  rw [byteOf_bit (by omega),show 8 * (i / 8)+i % 8=i by omega]
 ·rw [bit_out (by rw [pk_len]; omega),tkn_out (by omega)]
theorem pk_rep {T:List Bool} (h:T.length<=32768):Rep (pk T) T:=⟨pk_len T,h,pk_bit T⟩
theorem Rep.pk {D:List UInt8} {T:List Bool} (h:Rep D T):D=pk T:=h.uniq (pk_rep h.le)
end Go.Proofs.YtlmmddfhoabjfaaGreat
end
section
namespace Go.Am
variable {P:Program} {a:Slots} {o:Oper} {t z:TypeId} {x y:Operand}
theorem bits8 {m:Nat} (hm:m < 256):bitsB .u8 (m:Int)=m:=by
 unfold bitsB
 have:(ileB 0 (m:Int) && ileB (m:Int) (mostB .u8))=true:=by
  rw [Bool.and_eq_true,ileB_iff,ileB_iff]; exact ⟨by omega,by simp [mostB]; omega⟩
 rw [this]; simp
theorem e_and8 {m n:Nat} (ho:o.op=.binOp .and t x y z) (hx:aev a x=some (.int .u8 (m:Int))) (hy:aev a y=some (.int .u8 (n:Int))) (hm:m < 256) (hn:n < 256):∀ h,opB P a o h=some (.val (.int .u8 ((m &&& n:Nat):Int)) h):=by
 intro h
 have hlt:m &&& n < 256:=Nat.and_lt_two_pow (n:=8) m hn
 have hi:inK .u8 ((m &&& n:Nat):Int)=true:=in_u8 (by omega) (by omega)
 simp only [opB,ho,hx,hy,eqOk,binB,if_true,bits8 hm,bits8 hn,wrap_in hi,ret]
theorem e_xor8 {m n:Nat} (ho:o.op=.binOp .xor t x y z) (hx:aev a x=some (.int .u8 (m:Int))) (hy:aev a y=some (.int .u8 (n:Int))) (hm:m < 256) (hn:n < 256):∀ h,opB P a o h=some (.val (.int .u8 ((m ^^^ n:Nat):Int)) h):=by
 intro h
 have hlt:m ^^^ n < 256:=Nat.xor_lt_two_pow (n:=8) hm hn
 have hi:inK .u8 ((m ^^^ n:Nat):Int)=true:=in_u8 (by omega) (by omega)
 simp only [opB,ho,hx,hy,eqOk,binB,if_true,bits8 hm,bits8 hn,wrap_in hi,ret]
theorem e_not8 {m:Nat} (ho:o.op=.unOp .xor t x) (hx:aev a x=some (.int .u8 (m:Int))) (hm:m < 256):∀ h,opB P a o h=some (.val (.int .u8 ((255 ^^^ m:Nat):Int)) h):=by
 intro h
 have hlt:255 ^^^ m < 256:=Nat.xor_lt_two_pow (n:=8) (by decide) hm
 have hi:inK .u8 ((255 ^^^ m:Nat):Int)=true:=in_u8 (by omega) (by omega)
 have hk:bitsB .u8 (if IntKind.u8.signed=true then -1 else IntKind.u8.max)=255:=by decide
 simp only [opB,ho,hx,unB,hk,bits8 hm,wrap_in hi,ret]
end Go.Am
namespace Go.Proofs.YtlmmddfhoabjfaaGreat
open Go.Am
abbrev ptr (r:Nat):Value:=.pointer (some ⟨r,0,none⟩)
abbrev fm (rm rb:Nat) (T:List Bool) (F:RL):RL:=(rm,.cells 131 [.int .i64 (T.length:Nat),.slice (some ⟨rb,0,none⟩) (pk T).length (pk T).length])::(rb,.cells 5 (byteCells (pk T)))::F
theorem one_is {n k:Nat}:ieqB ((n / 2 ^ k &&& 1:Nat):Int) 1=n.testBit k:=by
 rw [ieqB_eq,Nat.testBit_eq_decide_div_mod_eq,Nat.and_one_is_mod]
 by_cases h:n / 2 ^ k % 2=1
 ·simp [h]
 ·have:n / 2 ^ k % 2=0:=by omega
  simp [this]
theorem cell_at {D:List UInt8} {j:Nat} (h:j < D.length):(byteCells D)[0+j * 1]?=some (.int .u8 ((D[j]'h).toNat:Nat)):=by
 rw [show 0+j * 1=j by omega]; exact byteCells_get (List.getElem?_eq_getElem h)
theorem markBytes_ct {L:RL} (n:Nat) (hn:n<=1000000):CS Tryz.prog 88 [.int .i64 (n:Nat)] L fun v L'=>v=.int .i64 (((n+7) / 8:Nat):Int)/\L'=L:=by
 refine CS.mk (fn:=Tryz.f88) rfl rfl rfl rfl ?_
 repeat refine xQ ?_
 refine xG rfl ?_
 refine xP rfl rh rfl ?_
 refine xN ?_
 repeat refine xQ ?_
 refine xG rfl ?_
 refine xP rfl rh rfl ?_
 refine xP rfl (e_add (n:=7) rfl rfl rfl (in_i64 (by omega) (by omega))) rfl ?_
 refine xP rfl (e_quo (m:=n+7) (n:=8) rfl rfl rfl (by decide) (in_i64 (by omega) (by omega))) rfl ?_
 refine xP rfl rh rfl ?_
 refine xN ?_
 refine xT ⟨_,fun _ _=>rfl,?_⟩
 exact ⟨rfl,rfl⟩
theorem Len_ct {F:RL} {rm rb:Nat} {T:List Bool}:CS Tryz.prog 114 [ptr rm] (fm rm rb T F) fun v L'=>v=.int .i64 (T.length:Nat)/\L'=fm rm rb T F:=by
 refine CS.mk (fn:=Tryz.f114) rfl rfl rfl rfl ?_
 repeat refine xQ ?_
 refine xG rfl ?_
 refine xP rfl rh rfl ?_
 refine xN ?_
 repeat refine xQ ?_
 refine xG rfl ?_
 iterate 2 refine xP rfl rh rfl ?_
 refine xN ?_
 refine xC rfl (fun hc=>by cases hc) (fun hc=>?_)
 refine LS.skip ?_
 repeat refine xQ ?_
 refine xG rfl ?_
 iterate 3 refine xP rfl rh rfl ?_
 refine xR rfl (e_load 0 rfl rfl rfl rfl rfl) rfl ?_
 refine xP rfl rh rfl ?_
 refine xN ?_
 refine xT ⟨_,fun _ _=>rfl,?_⟩
 exact ⟨rfl,rfl⟩
theorem has_ct {F:RL} {rm rb:Nat} {T:List Bool} (i:Int):CS Tryz.prog 118 [ptr rm,.int .i64 i] (fm rm rb T F) fun v L'=>v=.bool (decide (0<=i/\i < T.length))/\L'=fm rm rb T F:=by
 refine CS.mk (fn:=Tryz.f118) rfl rfl rfl rfl ?_
 repeat refine xQ ?_
 refine xG rfl ?_
 refine xP rfl rh rfl ?_
 refine xN ?_
 by_cases h:0<=i
 ·have hb:ileB 0 i=true:=ileB_iff.2 h
  repeat refine xQ ?_
  refine xG rfl ?_
  refine xP rfl rh rfl ?_
  refine xP rfl (e_ib rh (hb)) rfl ?_
  iterate 3 refine xP rfl rh rfl ?_
  refine xA noGo rfl (fun _=>rfl) ((Len_ct).mono ?_)
  rintro v L' ⟨rfl,rfl⟩
  refine ⟨_,rfl,?_⟩
  iterate 3 refine xP rfl rh rfl ?_
  refine xN ?_
  refine xT ⟨_,fun _ _=>rfl,?_⟩
  refine ⟨?_,rfl⟩
  rw [ileB_eq]
  simp [h,tupleB]
  rw [Bool.eq_iff_iff]; simp
 ·have hb:ileB 0 i=false:=by rw [ileB_eq]; simpa using h
  repeat refine xQ ?_
  refine xG rfl ?_
  refine xP rfl rh rfl ?_
  refine xP rfl (e_ib rh (hb)) rfl ?_
  refine xP rfl rh rfl ?_
  iterate 4 refine xK rfl rfl ?_
  iterate 2 refine xP rfl rh rfl ?_
  refine xN ?_
  refine xT ⟨_,fun _ _=>rfl,?_⟩
  refine ⟨?_,rfl⟩
  simp [h,tupleB]
theorem Taken_ct {F:RL} {rm rb:Nat} {T:List Bool} (hT:T.length<=32768) (i:Int):CS Tryz.prog 90 [ptr rm,.int .i64 i] (fm rm rb T F) fun v L'=>v=.bool (decide (0<=i/\i < T.length) && tkn T i.toNat)/\L'=fm rm rb T F:=by
 refine CS.mk (fn:=Tryz.f90) rfl rfl rfl rfl ?_
 repeat refine xQ ?_
 refine xG rfl ?_
 refine xP rfl rh rfl ?_
 refine xN ?_
 by_cases h:0<=i/\i < T.length
 ·obtain ⟨j,rfl⟩:=Int.eq_ofNat_of_zero_le h.1
  have hj:j < T.length:=by omega
  have hjb:j / 8 < (pk T).length:=by rw [pk_len]; omega
  have hval:ieqB (((pk T)[j / 8]'hjb).toNat / 2 ^ (j % 8) &&& 1:Nat) 1=tkn T j:=by
   rw [one_is,← pk_bit T j]
   unfold bit tb
   rw [List.getElem?_eq_getElem hjb]; rfl
  repeat refine xQ ?_
  refine xG rfl ?_
  iterate 2 refine xP rfl rh rfl ?_
  refine xA noGo rfl (fun _=>rfl) ((has_ct (j:Nat)).mono ?_)
  rintro v L' ⟨rfl,rfl⟩
  rw [decide_eq_true h]
  refine ⟨_,rfl,?_⟩
  iterate 4 refine xP rfl rh rfl ?_
  refine xR rfl (e_load 0 rfl rfl rfl rfl rfl) rfl ?_
  refine xP rfl rh rfl ?_
  refine xP rfl (e_quo (m:=j) (n:=8) rfl rfl rfl (by decide) (in_i64 (by omega) (by omega))) rfl ?_
  refine xP rfl (e_index (j:=j / 8) (sz:=1) rfl rfl rfl rfl rfl hjb) rfl ?_
  refine xR rfl (e_load 1 rfl rfl rfl rfl (part_one rfl (cell_at hjb))) rfl ?_
  refine xP rfl rh rfl ?_
  refine xP rfl (e_rem (m:=j) (n:=8) rfl rfl rfl (by decide)) rfl ?_
  refine xP rfl (e_shr (k:=.u8) (s:=j % 8) rfl rfl rfl (by have:IntKind.u8.bits=8:=rfl; omega)) rfl ?_
  refine xP rfl (e_and8 (n:=1) rfl rfl rfl (Nat.lt_of_le_of_lt (Nat.div_le_self _ _) (UInt8.toNat_lt _)) (by decide)) rfl ?_
  refine xP rfl (e_ib rh (hval)) rfl ?_
  iterate 2 refine xP rfl rh rfl ?_
  refine xN ?_
  refine xT ⟨_,fun _ _=>rfl,?_⟩
  exact ⟨by simp [tupleB],rfl⟩
 ·repeat refine xQ ?_
  refine xG rfl ?_
  iterate 2 refine xP rfl rh rfl ?_
  refine xA noGo rfl (fun _=>rfl) ((has_ct i).mono ?_)
  rintro v L' ⟨rfl,rfl⟩
  rw [decide_eq_false h]
  refine ⟨_,rfl,?_⟩
  refine xP rfl rh rfl ?_
  iterate 13 refine xK rfl rfl ?_
  iterate 2 refine xP rfl rh rfl ?_
  refine xN ?_
  refine xT ⟨_,fun _ _=>rfl,?_⟩
  exact ⟨by simp [tupleB],rfl⟩
theorem lay_u8 {cs:List UInt8} {j:Nat} (c:UInt8) (hj:j < cs.length):lay (byteCells cs) (0+j * 1) [.int .u8 (c.toNat:Nat)]=some (byteCells (cs.set j c)):=by
 rw [show 0+j * 1=j by omega,lay_one (by rw [byteCells_len]; exact hj)]
 simp [byteCells,List.map_set]
theorem flip_ct {F:RL} {rm rb:Nat} {T:List Bool} {i:Nat} (hT:T.length<=32768) (hi:i < T.length):CS Tryz.prog 91 [ptr rm,.int .i64 (i:Nat)] (fm rm rb T F) fun v L'=>L'=fm rm rb (T.set i (!tkn T i)) F:=by
 have hib:i / 8 < (pk T).length:=by rw [pk_len]; omega
 have hflip:flipD (pk T) i=pk (T.set i (!tkn T i)):=((pk_rep hT).flip hi).pk
 have hx:(pk T)[i / 8].toNat ^^^ 1 * 2 ^ (i % 8)=(UInt8.ofNat ((pk T)[i / 8].toNat ^^^ 2 ^ (i % 8))).toNat:=by rw [toNat_of (xor_lt (by omega)),Nat.one_mul]
 have h2:1 * 2 ^ (i % 8) < 256:=by
  have:2 ^ (i % 8) < 2 ^ 8:=Nat.pow_lt_pow_right (by omega) (by omega)
  omega
 refine CS.mk (fn:=Tryz.f91) rfl rfl rfl rfl ?_
 repeat refine xQ ?_
 refine LS.drawn noGo mixed [(0,false),(1,false),(2,false),(3,false),(4,false),(5,false),(6,false),(7,false),(8,false),(9,false),(10,false),(11,false),(12,false),(13,true)] rfl rfl (by kernel_rfl) ?_
 iterate 3 refine xD rfl rfl rh rfl ?_
 refine xE rfl rfl (e_load 0 rfl rfl rfl rfl rfl) rfl ?_
 refine xD rfl rfl rh rfl ?_
 refine xD rfl rfl (e_quo (m:=i) (n:=8) rfl rfl rfl (by decide) (in_i64 (by omega) (by omega))) rfl ?_
 refine xD rfl rfl (e_index (j:=i / 8) (sz:=1) rfl rfl rfl rfl rfl hib) rfl ?_
 refine xE rfl rfl (e_load 1 rfl rfl rfl rfl (part_one rfl (cell_at hib))) rfl ?_
 refine xD rfl rfl rh rfl ?_
 refine xD rfl rfl (e_rem (m:=i) (n:=8) rfl rfl rfl (by decide)) rfl ?_
 refine xD rfl rfl (e_shl (m:=1) (s:=i % 8) (k:=.u8) rfl rfl rfl (by have:IntKind.u8.bits=8:=rfl; omega) (in_u8 (by omega) (by omega))) rfl ?_
 refine xD rfl rfl (e_xor8 (m:=(pk T)[i / 8].toNat) rfl rfl rfl (UInt8.toNat_lt _) h2) rfl ?_
 rw [hx]
 refine xD rfl rfl (e_index (j:=i / 8) (sz:=1) rfl rfl rfl rfl rfl hib) rfl ?_
 refine ODS.write rfl rfl (e_store 1 (n:=1) rfl rfl rfl rfl rfl rfl (lay_u8 _ hib) rfl) rfl (Keep.gone rfl (Keep.gone rfl Keep.nil)) ?_
 refine xM ?_
 have hgd:(pk T)[i / 8]?.getD 0=(pk T)[i / 8]:=by rw [List.getElem?_eq_getElem hib]; rfl
 unfold flipD at hflip
 rw [hgd] at hflip
 refine ⟨_,fun _ _=>rfl,?_⟩
 rw [hflip]
 have:(pk (T.set i (!tkn T i))).length=(pk T).length:=by rw [pk_len,pk_len,List.length_set]
 simp only [fm,List.length_set,this]
end Go.Proofs.YtlmmddfhoabjfaaGreat
end
section
namespace Go.Proofs.YtlmmddfhoabjfaaGreat
open Go.Am
def takeI (T:List Bool):Nat:=if ff T < T.length then ff T else 0
def takeE (T:List Bool):Int:=if ff T < T.length then 0 else 3
def takeS (T:List Bool):List Bool:=if ff T < T.length then T.set (ff T) true else T
def claimE (T:List Bool) (i:Int):Int:=if 0<=i/\i < T.length then (if tkn T i.toNat then 6 else 0) else 1
def claimS (T:List Bool) (i:Int):List Bool:=if claimE T i=0 then T.set i.toNat true else T
def dropE (T:List Bool) (i:Int):Int:=if 0<=i/\i < T.length then (if tkn T i.toNat then 0 else 5) else 1
def dropS (T:List Bool) (i:Int):List Bool:=if dropE T i=0 then T.set i.toNat false else T
def tz8:List UInt8:=(List.range 256).map fun x=>UInt8.ofNat (fz (UInt8.ofNat (255 ^^^ x)))
def pop8:List UInt8:=(List.range 256).map fun x=>UInt8.ofNat (pc (UInt8.ofNat x))
theorem fz_le (c:UInt8):fz c<=8:=by
 have:=List.findIdx_le_length (p:=fun k=>!tb c k) (xs:=List.range 8)
 rw [List.length_range] at this
 exact this
theorem tz8_at (c:UInt8):tz8[255 ^^^ c.toNat]?=some (UInt8.ofNat (fz c)):=by
 have hlt:255 ^^^ c.toNat < 256:=Nat.xor_lt_two_pow (n:=8) (by decide) (UInt8.toNat_lt c)
 unfold tz8
 rw [List.getElem?_map,List.getElem?_range hlt,Option.map_some]
 have:255 ^^^ (255 ^^^ c.toNat)=c.toNat:=by rw [← Nat.xor_assoc,Nat.xor_self,Nat.zero_xor]
 rw [this]
 simp
theorem pop8_at (c:UInt8):pop8[c.toNat]?=some (UInt8.ofNat (pc c)):=by
 unfold pop8
 rw [List.getElem?_map,List.getElem?_range (UInt8.toNat_lt c),Option.map_some]
 simp
theorem Ones_ct {L:RL} (c:UInt8):CS Tryz.prog 82 [.int .u8 (c.toNat:Nat)] L fun v L'=>v=.int .i64 (pc c:Nat)/\L'=L:=by
 have h8:(UInt8.ofNat (pc c)).toNat=pc c:=toNat_of (by have:=pc_le c; omega)
 refine CS.mk (fn:=Tryz.f82) rfl rfl rfl rfl ?_
 repeat refine xQ ?_
 refine xG rfl ?_
 refine xP rfl rh rfl ?_
 refine xN ?_
 repeat refine xQ ?_
 refine xG rfl ?_
 refine xP rfl rh rfl ?_
 refine xP rfl (e_byte (s:=pop8) rfl (by kernel_rfl) rfl rfl (pop8_at c)) rfl ?_
 rw [h8]
 refine xP rfl (e_conv rfl rfl rfl rfl (in_i64 (by omega) (by have:=pc_le c; omega))) rfl ?_
 refine xP rfl rh rfl ?_
 refine xN ?_
 refine xT ⟨_,fun _ _=>rfl,?_⟩
 exact ⟨rfl,rfl⟩
theorem Zeros_ct {L:RL} (c:UInt8):CS Tryz.prog 154 [.int .u8 ((255 ^^^ c.toNat:Nat):Int)] L fun v L'=>v=.int .i64 (fz c:Nat)/\L'=L:=by
 have h8:(UInt8.ofNat (fz c)).toNat=fz c:=toNat_of (by have:=fz_le c; omega)
 refine CS.mk (fn:=Tryz.f154) rfl rfl rfl rfl ?_
 repeat refine xQ ?_
 refine xG rfl ?_
 refine xP rfl rh rfl ?_
 refine xN ?_
 repeat refine xQ ?_
 refine xG rfl ?_
 refine xP rfl rh rfl ?_
 refine xP rfl (e_byte (s:=tz8) rfl (by kernel_rfl) rfl rfl (tz8_at c)) rfl ?_
 rw [h8]
 refine xP rfl (e_conv rfl rfl rfl rfl (in_i64 (by omega) (by have:=fz_le c; omega))) rfl ?_
 refine xP rfl rh rfl ?_
 refine xN ?_
 refine xT ⟨_,fun _ _=>rfl,?_⟩
 exact ⟨rfl,rfl⟩
theorem fz_ahead {c:UInt8} {k:Nat} (h:k < fz c):tb c k=true:=by
 have hk:k < 8:=Nat.lt_of_lt_of_le h (fz_le c)
 have:=List.not_of_lt_findIdx (p:=fun k=>!tb c k) (xs:=List.range 8) h
 simpa using this
theorem fz_here {c:UInt8} (h:c≠255):fz c < 8/\tb c (fz c)=false:=by
 have hlt:fz c < 8:=by
  rcases Nat.lt_or_ge (fz c) 8 with h1 | h1
  ·exact h1
  ·refine absurd (byte_ext fun k hk=>?_) h
   rw [fz_ahead (by omega)]
   revert k
   decide
 refine ⟨hlt,?_⟩
 have:=List.findIdx_getElem (p:=fun k=>!tb c k) (xs:=List.range 8) (w:=by rw [List.length_range]; exact hlt)
 have this:tb c ((List.range 8)[fz c]'(by rw [List.length_range]; exact hlt))=false:=by simpa [fz] using this
 simpa using this
theorem full_bit {k:Nat} (hk:k < 8):tb 255 k=true:=by revert k; decide
theorem leastFree_ct {F:RL} {rm rb:Nat} {T:List Bool} (hT:T.length<=32768):CS Tryz.prog 130 [ptr rm] (fm rm rb T F) fun v L'=>v=.int .i64 (ff T:Nat)/\L'=fm rm rb T F:=by
 have hl:=pk_len T
 refine CS.mk (fn:=Tryz.f130) rfl rfl rfl rfl ?_
 repeat refine xQ ?_
 refine xG rfl ?_
 refine xP rfl rh rfl ?_
 refine xN ?_
 repeat refine xQ ?_
 refine xG rfl ?_
 iterate 3 refine xP rfl rh rfl ?_
 refine xR rfl (e_load 0 rfl rfl rfl rfl rfl) rfl ?_
 iterate 2 refine xP rfl rh rfl ?_
 refine xN ?_
 repeat refine xQ ?_
 refine LS.block ?_
 refine LS.loopJ [0,8,9,10] (fun q a L'=>∃ j,q=(pk T).length - j/\j<=(pk T).length/\(∀ i,i < 8 * j->tkn T i=true)/\L'=fm rm rb T F /\
  a=[ptr rm,jn,jn,jn,jn,jn,jn,jn,.slice (some ⟨rb,0,none⟩) (pk T).length (pk T).length,.int .i64 ((pk T).length:Nat),.int .i64 (j:Nat),jn,jn,jn,jn,jn,jn,jn,jn,jn,jn,jn,jn,jn,jn,jn,jn,jn]) (n:=(pk T).length) rfl ⟨0,rfl,by omega,fun i hi=>by omega,rfl,rfl⟩ ?_
 rintro q a L' ⟨j,rfl,hj,hall,rfl,rfl⟩
 repeat refine xQ ?_
 refine xG rfl ?_
 refine xP rfl rh rfl ?_
 refine xN ?_
 repeat refine xQ ?_
 refine xC rfl (fun hc=>?_) (fun hc=>?_)
 ·have hc:=lt_of hc
  have hjl:j < (pk T).length:=by omega
  have hbit:∀ k,k < 8->tb (pk T)[j] k=tkn T (8 * j+k):=fun k hk=>by
   rw [← pk_bit,bit_at _ _ _ hk,List.getElem?_eq_getElem hjl]; rfl
  refine LS.skip ?_
  repeat refine xQ ?_
  refine LS.block ?_
  repeat refine xQ ?_
  refine xG rfl ?_
  refine xP rfl rh rfl ?_
  refine xP rfl (e_index (j:=j) (sz:=1) rfl rfl rfl rfl rfl hjl) rfl ?_
  refine xR rfl (e_load 1 rfl rfl rfl rfl (part_one rfl (cell_at hjl))) rfl ?_
  iterate 2 refine xP rfl rh rfl ?_
  refine xN ?_
  by_cases h255:(pk T)[j]=255
  ·have hb:(!ieqB ((pk T)[j].toNat:Int) 255)=false:=by rw [h255]; rfl
   repeat refine xQ ?_
   refine xG rfl ?_
   refine xP rfl rh rfl ?_
   refine xP rfl (e_ib rh (hb)) rfl ?_
   refine xN ?_
   refine xC rfl (fun hc=>by cases hc) (fun hc=>?_)
   refine LS.skip ?_
   repeat refine xQ ?_
   refine xG rfl ?_
   refine xP rfl (e_add rfl rfl rfl (in_i64 (by omega) (by omega))) rfl ?_
   refine xP rfl rh rfl ?_
   refine xN ?_
   refine ⟨(pk T).length - (j+1),by omega,j+1,rfl,by omega,fun i hi=>?_,rfl,rfl⟩
   by_cases h8:i < 8 * j
   ·exact hall i h8
   ·have:=hbit (i - 8 * j) (by omega)
    rw [show 8 * j+(i - 8 * j)=i by omega,h255,full_bit (by omega)] at this
    exact this.symm
  ·have hb:(!ieqB ((pk T)[j].toNat:Int) 255)=true:=by
    rw [ieqB_eq]
    have:(pk T)[j].toNat≠255:=fun e=>h255 (UInt8.toNat_inj.1 (by rw [e]; rfl))
    simp; omega
   obtain ⟨hf1,hf2⟩:=fz_here h255
   have hff:ff T=8 * j+fz (pk T)[j]:=by
    refine ff_is (fun i hi=>?_) ?_
    ·by_cases h8:i < 8 * j
     ·exact hall i h8
     ·have:=hbit (i - 8 * j) (by omega)
      rw [show 8 * j+(i - 8 * j)=i by omega,fz_ahead (by omega)] at this
      exact this.symm
    ·rw [← hbit _ hf1]; exact hf2
   repeat refine xQ ?_
   refine xG rfl ?_
   refine xP rfl rh rfl ?_
   refine xP rfl (e_ib rh (hb)) rfl ?_
   refine xN ?_
   refine xC rfl (fun hc=>?_) (fun hc=>by cases hc)
   repeat refine xQ ?_
   refine xG rfl ?_
   refine xP rfl rh rfl ?_
   refine xP rfl (e_mul (m:=8) rfl rfl rfl (in_i64 (by omega) (by omega))) rfl ?_
   refine xP rfl rh rfl ?_
   refine xP rfl (e_not8 rfl rfl (UInt8.toNat_lt _)) rfl ?_
   refine xA noGo rfl (fun _=>rfl) ((Zeros_ct _).mono ?_)
   rintro v L' ⟨rfl,rfl⟩
   refine ⟨_,rfl,?_⟩
   refine xP rfl (e_add rfl rfl rfl (in_i64 (by omega) (by omega))) rfl ?_
   refine xP rfl rh rfl ?_
   refine xN ?_
   refine xT ⟨_,fun _ _=>rfl,?_⟩
   rw [hff]
   exact ⟨by simp [tupleB],rfl⟩
 ·have hc:=nlt_of hc
  have hjl:j=(pk T).length:=by omega
  subst hjl
  have hmany:T.length=8 * (pk T).length:=by
   rcases Nat.lt_or_ge T.length (8 * (pk T).length) with h | h
   ·have:=hall T.length h
    rw [tkn_out (Nat.le_refl _)] at this; cases this
   ·omega
  have hff:ff T=T.length:=ff_is (fun i hi=>hall i (by omega)) (tkn_out (Nat.le_refl _))
  refine LS.exit ?_
  repeat refine xQ ?_
  refine xG rfl ?_
  iterate 3 refine xP rfl rh rfl ?_
  refine xR rfl (e_load 0 rfl rfl rfl rfl rfl) rfl ?_
  refine xP rfl rh rfl ?_
  refine xN ?_
  refine xT ⟨_,fun _ _=>rfl,?_⟩
  rw [hff]
  exact ⟨rfl,rfl⟩
theorem Take_ct {F:RL} {rm rb:Nat} {T:List Bool} (hT:T.length<=32768):CS Tryz.prog 99 [ptr rm] (fm rm rb T F) fun v L'=>v=.tuple #[.int .i64 (takeI T:Nat),.int .i64 (takeE T)]/\L'=fm rm rb (takeS T) F:=by
 refine CS.mk (fn:=Tryz.f99) rfl rfl rfl rfl ?_
 repeat refine xQ ?_
 refine xG rfl ?_
 iterate 2 refine xP rfl rh rfl ?_
 refine xN ?_
 repeat refine xQ ?_
 refine xG rfl ?_
 iterate 2 refine xP rfl rh rfl ?_
 refine xN ?_
 refine xC rfl (fun hc=>by cases hc) (fun hc=>?_)
 refine LS.skip ?_
 repeat refine xQ ?_
 refine xG rfl ?_
 refine xP rfl rh rfl ?_
 refine xA noGo rfl (fun _=>rfl) ((leastFree_ct hT).mono ?_)
 rintro v L' ⟨rfl,rfl⟩
 refine ⟨_,rfl,?_⟩
 refine xP rfl rh rfl ?_
 refine xN ?_
 repeat refine xQ ?_
 refine xG rfl ?_
 iterate 2 refine xP rfl rh rfl ?_
 refine xA noGo rfl (fun _=>rfl) ((has_ct (ff T:Nat)).mono ?_)
 rintro v L' ⟨rfl,rfl⟩
 by_cases h:ff T < T.length
 ·rw [decide_eq_true (show 0<=((ff T:Nat):Int)/\((ff T:Nat):Int) < T.length by omega)]
  refine ⟨_,rfl,?_⟩
  refine xP rfl rh rfl ?_
  refine xN ?_
  refine xC rfl (fun hc=>by cases hc) (fun hc=>?_)
  refine LS.skip ?_
  repeat refine xQ ?_
  refine xG rfl ?_
  iterate 2 refine xP rfl rh rfl ?_
  refine xA noGo rfl (fun _=>rfl) ((flip_ct hT h).mono ?_)
  rintro v L' rfl
  refine ⟨_,rfl,?_⟩
  refine xN ?_
  repeat refine xQ ?_
  refine xG rfl ?_
  iterate 3 refine xP rfl rh rfl ?_
  refine xN ?_
  refine xT ⟨_,fun _ _=>rfl,?_⟩
  unfold takeI takeE takeS
  rw [if_pos h,if_pos h,if_pos h,ff_here h]
  exact ⟨rfl,rfl⟩
 ·rw [decide_eq_false (show ¬ (0<=((ff T:Nat):Int)/\((ff T:Nat):Int) < T.length) by omega)]
  refine ⟨_,rfl,?_⟩
  refine xP rfl rh rfl ?_
  refine xN ?_
  refine xC rfl (fun hc=>?_) (fun hc=>by cases hc)
  repeat refine xQ ?_
  refine xG rfl ?_
  iterate 2 refine xP rfl rh rfl ?_
  refine xN ?_
  refine xT ⟨_,fun _ _=>rfl,?_⟩
  unfold takeI takeE takeS
  rw [if_neg h,if_neg h,if_neg h]
  exact ⟨rfl,rfl⟩
theorem refusal_ct {F:RL} {rm rb:Nat} {T:List Bool} (i:Int):CS Tryz.prog 89 [ptr rm,.int .i64 i] (fm rm rb T F) fun v L'=>v=.int .i64 (if 0<=i/\i < T.length then 0 else 1)/\L'=fm rm rb T F:=by
 refine CS.mk (fn:=Tryz.f89) rfl rfl rfl rfl ?_
 repeat refine xQ ?_
 refine xG rfl ?_
 refine xP rfl rh rfl ?_
 refine xN ?_
 repeat refine xQ ?_
 refine xG rfl ?_
 iterate 2 refine xP rfl rh rfl ?_
 refine xN ?_
 refine xC rfl (fun hc=>by cases hc) (fun hc=>?_)
 refine LS.skip ?_
 repeat refine xQ ?_
 refine xG rfl ?_
 iterate 2 refine xP rfl rh rfl ?_
 refine xA noGo rfl (fun _=>rfl) ((has_ct i).mono ?_)
 rintro v L' ⟨rfl,rfl⟩
 by_cases h:0<=i/\i < T.length
 ·rw [decide_eq_true h]
  refine ⟨_,rfl,?_⟩
  refine xP rfl rh rfl ?_
  refine xN ?_
  refine xC rfl (fun hc=>by cases hc) (fun hc=>?_)
  refine LS.skip ?_
  repeat refine xQ ?_
  refine xG rfl ?_
  refine xP rfl rh rfl ?_
  refine xN ?_
  refine xT ⟨_,fun _ _=>rfl,?_⟩
  rw [if_pos h]
  exact ⟨rfl,rfl⟩
 ·rw [decide_eq_false h]
  refine ⟨_,rfl,?_⟩
  refine xP rfl rh rfl ?_
  refine xN ?_
  refine xC rfl (fun hc=>?_) (fun hc=>by cases hc)
  repeat refine xQ ?_
  refine xG rfl ?_
  refine xP rfl rh rfl ?_
  refine xN ?_
  refine xT ⟨_,fun _ _=>rfl,?_⟩
  rw [if_neg h]
  exact ⟨rfl,rfl⟩
theorem Claim_ct {F:RL} {rm rb:Nat} {T:List Bool} (hT:T.length<=32768) (i:Int):CS Tryz.prog 57 [ptr rm,.int .i64 i] (fm rm rb T F) fun v L'=>v=.int .i64 (claimE T i)/\L'=fm rm rb (claimS T i) F:=by
 refine CS.mk (fn:=Tryz.f57) rfl rfl rfl rfl ?_
 repeat refine xQ ?_
 refine xG rfl ?_
 refine xP rfl rh rfl ?_
 refine xN ?_
 repeat refine xQ ?_
 refine xG rfl ?_
 iterate 2 refine xP rfl rh rfl ?_
 refine xA noGo rfl (fun _=>rfl) ((refusal_ct i).mono ?_)
 rintro v L' ⟨rfl,rfl⟩
 refine ⟨_,rfl,?_⟩
 refine xP rfl rh rfl ?_
 refine xN ?_
 by_cases h:0<=i/\i < T.length
 ·rw [if_pos h]
  repeat refine xQ ?_
  refine xG rfl ?_
  iterate 2 refine xP rfl rh rfl ?_
  refine xN ?_
  refine xC rfl (fun hc=>by cases hc) (fun hc=>?_)
  refine LS.skip ?_
  repeat refine xQ ?_
  refine xG rfl ?_
  iterate 2 refine xP rfl rh rfl ?_
  refine xA noGo rfl (fun _=>rfl) ((Taken_ct hT i).mono ?_)
  rintro v L' ⟨rfl,rfl⟩
  rw [decide_eq_true h,Bool.true_and]
  refine ⟨_,rfl,?_⟩
  refine xN ?_
  have hE:claimE T i=if tkn T i.toNat then 6 else 0:=by unfold claimE; rw [if_pos h]
  unfold claimS
  rw [hE]
  obtain ⟨j,rfl⟩:=Int.eq_ofNat_of_zero_le h.1
  rw [Int.toNat_natCast]
  cases ht:tkn T j
  ·refine xC rfl (fun hc=>by cases hc) (fun hc=>?_)
   refine LS.skip ?_
   repeat refine xQ ?_
   refine xG rfl ?_
   iterate 2 refine xP rfl rh rfl ?_
   refine xA noGo rfl (fun _=>rfl) ((flip_ct (i:=j) hT (by omega)).mono ?_)
   rintro v L' rfl
   refine ⟨_,rfl,?_⟩
   refine xN ?_
   repeat refine xQ ?_
   refine xG rfl ?_
   refine xP rfl rh rfl ?_
   refine xN ?_
   refine xT ⟨_,fun _ _=>rfl,?_⟩
   rw [ht]
   exact ⟨rfl,rfl⟩
  ·refine xC rfl (fun hc=>?_) (fun hc=>by cases hc)
   repeat refine xQ ?_
   refine xG rfl ?_
   refine xP rfl rh rfl ?_
   refine xN ?_
   refine xT ⟨_,fun _ _=>rfl,?_⟩
   exact ⟨rfl,rfl⟩
 ·rw [if_neg h]
  repeat refine xQ ?_
  refine xG rfl ?_
  iterate 2 refine xP rfl rh rfl ?_
  refine xN ?_
  refine xC rfl (fun hc=>?_) (fun hc=>by cases hc)
  repeat refine xQ ?_
  refine xG rfl ?_
  iterate 2 refine xP rfl rh rfl ?_
  refine xN ?_
  refine xT ⟨_,fun _ _=>rfl,?_⟩
  have hE:claimE T i=1:=by unfold claimE; rw [if_neg h]
  unfold claimS
  rw [hE]
  exact ⟨rfl,rfl⟩
theorem Drop_ct {F:RL} {rm rb:Nat} {T:List Bool} (hT:T.length<=32768) (i:Int):CS Tryz.prog 98 [ptr rm,.int .i64 i] (fm rm rb T F) fun v L'=>v=.int .i64 (dropE T i)/\L'=fm rm rb (dropS T i) F:=by
 refine CS.mk (fn:=Tryz.f98) rfl rfl rfl rfl ?_
 repeat refine xQ ?_
 refine xG rfl ?_
 refine xP rfl rh rfl ?_
 refine xN ?_
 repeat refine xQ ?_
 refine xG rfl ?_
 iterate 2 refine xP rfl rh rfl ?_
 refine xA noGo rfl (fun _=>rfl) ((refusal_ct i).mono ?_)
 rintro v L' ⟨rfl,rfl⟩
 refine ⟨_,rfl,?_⟩
 refine xP rfl rh rfl ?_
 refine xN ?_
 by_cases h:0<=i/\i < T.length
 ·rw [if_pos h]
  repeat refine xQ ?_
  refine xG rfl ?_
  iterate 2 refine xP rfl rh rfl ?_
  refine xN ?_
  refine xC rfl (fun hc=>by cases hc) (fun hc=>?_)
  refine LS.skip ?_
  repeat refine xQ ?_
  refine xG rfl ?_
  iterate 2 refine xP rfl rh rfl ?_
  refine xA noGo rfl (fun _=>rfl) ((Taken_ct hT i).mono ?_)
  rintro v L' ⟨rfl,rfl⟩
  rw [decide_eq_true h,Bool.true_and]
  refine ⟨_,rfl,?_⟩
  refine xP rfl rh rfl ?_
  refine xN ?_
  have hE:dropE T i=if tkn T i.toNat then 0 else 5:=by unfold dropE; rw [if_pos h]
  unfold dropS
  rw [hE]
  obtain ⟨j,rfl⟩:=Int.eq_ofNat_of_zero_le h.1
  rw [Int.toNat_natCast]
  cases ht:tkn T j
  ·refine xC rfl (fun hc=>?_) (fun hc=>by cases hc)
   repeat refine xQ ?_
   refine xG rfl ?_
   refine xP rfl rh rfl ?_
   refine xN ?_
   refine xT ⟨_,fun _ _=>rfl,?_⟩
   exact ⟨rfl,rfl⟩
  ·refine xC rfl (fun hc=>by cases hc) (fun hc=>?_)
   refine LS.skip ?_
   repeat refine xQ ?_
   refine xG rfl ?_
   iterate 2 refine xP rfl rh rfl ?_
   refine xA noGo rfl (fun _=>rfl) ((flip_ct (i:=j) hT (by omega)).mono ?_)
   rintro v L' rfl
   refine ⟨_,rfl,?_⟩
   refine xN ?_
   repeat refine xQ ?_
   refine xG rfl ?_
   refine xP rfl rh rfl ?_
   refine xN ?_
   refine xT ⟨_,fun _ _=>rfl,?_⟩
   rw [ht]
   exact ⟨rfl,rfl⟩
 ·rw [if_neg h]
  repeat refine xQ ?_
  refine xG rfl ?_
  iterate 2 refine xP rfl rh rfl ?_
  refine xN ?_
  refine xC rfl (fun hc=>?_) (fun hc=>by cases hc)
  repeat refine xQ ?_
  refine xG rfl ?_
  iterate 2 refine xP rfl rh rfl ?_
  refine xN ?_
  refine xT ⟨_,fun _ _=>rfl,?_⟩
  have hE:dropE T i=1:=by unfold dropE; rw [if_neg h]
  unfold dropS
  rw [hE]
  exact ⟨rfl,rfl⟩
theorem Free_ct {F:RL} {rm rb:Nat} {T:List Bool} (hT:T.length<=32768):CS Tryz.prog 51 [ptr rm] (fm rm rb T F) fun v L'=>v=.int .i64 (frees T:Nat)/\L'=fm rm rb T F:=by
 have hl:=pk_len T
 refine CS.mk (fn:=Tryz.f51) rfl rfl rfl rfl ?_
 repeat refine xQ ?_
 refine xG rfl ?_
 refine xP rfl rh rfl ?_
 refine xN ?_
 repeat refine xQ ?_
 refine xG rfl ?_
 iterate 2 refine xP rfl rh rfl ?_
 refine xN ?_
 refine xC rfl (fun hc=>by cases hc) (fun hc=>?_)
 refine LS.skip ?_
 repeat refine xQ ?_
 refine xG rfl ?_
 iterate 3 refine xP rfl rh rfl ?_
 refine xR rfl (e_load 0 rfl rfl rfl rfl rfl) rfl ?_
 refine xP rfl rh rfl ?_
 refine xN ?_
 repeat refine xQ ?_
 refine xG rfl ?_
 iterate 3 refine xP rfl rh rfl ?_
 refine xR rfl (e_load 0 rfl rfl rfl rfl rfl) rfl ?_
 iterate 2 refine xP rfl rh rfl ?_
 refine xN ?_
 repeat refine xQ ?_
 refine LS.block ?_
 refine LS.loopJ [3,15,16,17] (fun q a L'=>∃ j,q=(pk T).length - j/\j<=(pk T).length/\L'=fm rm rb T F /\
  a=[jn,jn,jn,.int .i64 ((T.length:Int) - (onesTo (pk T) j:Nat)),jn,jn,jn,jn,jn,jn,jn,jn,jn,jn,jn,.slice (some ⟨rb,0,none⟩) (pk T).length (pk T).length,.int .i64 ((pk T).length:Nat),.int .i64 (j:Nat),jn,jn,jn,jn,jn,jn,jn,jn,jn]) (n:=(pk T).length) rfl ⟨0,rfl,by omega,rfl,by simp [onesTo]; rfl⟩ ?_
 rintro q a L' ⟨j,rfl,hj,rfl,rfl⟩
 repeat refine xQ ?_
 refine xG rfl ?_
 refine xP rfl rh rfl ?_
 refine xN ?_
 repeat refine xQ ?_
 refine xC rfl (fun hc=>?_) (fun hc=>?_)
 ·have hc:=lt_of hc
  have hjl:j < (pk T).length:=by omega
  have h1:=onesTo_le (pk T) j
  have h2:=pc_le (pk T)[j]
  refine LS.skip ?_
  repeat refine xQ ?_
  refine LS.block ?_
  repeat refine xQ ?_
  refine xG rfl ?_
  refine xP rfl (e_index (j:=j) (sz:=1) rfl rfl rfl rfl rfl hjl) rfl ?_
  refine xR rfl (e_load 1 rfl rfl rfl rfl (part_one rfl (cell_at hjl))) rfl ?_
  refine xP rfl rh rfl ?_
  refine xN ?_
  repeat refine xQ ?_
  refine xG rfl ?_
  iterate 2 refine xP rfl rh rfl ?_
  refine xA noGo rfl (fun _=>rfl) ((Ones_ct _).mono ?_)
  rintro v L' ⟨rfl,rfl⟩
  refine ⟨_,rfl,?_⟩
  refine xP rfl (e_sub rfl rfl rfl (in_i64 (by omega) (by omega))) rfl ?_
  refine xP rfl rh rfl ?_
  refine xN ?_
  repeat refine xQ ?_
  refine xG rfl ?_
  refine xP rfl (e_add rfl rfl rfl (in_i64 (by omega) (by omega))) rfl ?_
  refine xP rfl rh rfl ?_
  refine xN ?_
  refine ⟨(pk T).length - (j+1),by omega,j+1,rfl,by omega,rfl,?_⟩
  rw [onesTo_succ (List.getElem?_eq_getElem hjl),show (T.length:Int) - ((onesTo (pk T) j+pc (pk T)[j]:Nat):Int)=(T.length:Int) - (onesTo (pk T) j:Nat) - (pc (pk T)[j]:Nat) by omega]
  rfl
 ·have hc:=nlt_of hc
  have hjl:j=(pk T).length:=by omega
  subst hjl
  have:=onesTo_all (pk_rep hT)
  refine LS.exit ?_
  repeat refine xQ ?_
  refine xG rfl ?_
  iterate 2 refine xP rfl rh rfl ?_
  refine xN ?_
  refine xT ⟨_,fun _ _=>rfl,?_⟩
  rw [show (frees T:Int)=(T.length:Int) - (onesTo (pk T) (pk T).length:Nat) by omega]
  exact ⟨rfl,rfl⟩
end Go.Proofs.YtlmmddfhoabjfaaGreat
end
section
namespace Go.Am
variable {P:Program} {o:Oper} {a:Slots} {L L₁:RL}
end Go.Am
namespace Go.Proofs.YtlmmddfhoabjfaaGreat
open Go.Am
theorem pk_zeros (n:Nat) (hn:n<=32768):pk (List.replicate n false)=List.replicate ((n+7) / 8) 0:=(Rep.zeros hn).pk.symm
theorem New_ct {L:RL} (n:Nat) (hn:n<=32768):CS Tryz.prog 55 [.int .i64 (n:Nat)] L fun v L'=>∃ rm rb,v=.tuple #[ptr rm,.int .i64 0]/\L'=fm rm rb (List.replicate n false) L:=by
 have hb1:(!ileB 0 (n:Int))=false:=by rw [ileB_eq]; simp
 have hb2:(!ileB (n:Int) 32768)=false:=by rw [ileB_eq]; simp; omega
 refine CS.mk (fn:=Tryz.f55) rfl rfl rfl rfl ?_
 repeat refine xQ ?_
 refine xG rfl ?_
 iterate 2 refine xP rfl rh rfl ?_
 refine xN ?_
 repeat refine xQ ?_
 refine xG rfl ?_
 refine xP rfl rh rfl ?_
 refine xP rfl (e_ib rh (hb1)) rfl ?_
 iterate 2 refine xP rfl rh rfl ?_
 refine xP rfl (e_ib rh (hb2)) rfl ?_
 refine xP rfl rh rfl ?_
 refine xN ?_
 refine xC rfl (fun hc=>by cases hc) (fun hc=>?_)
 refine LS.skip ?_
 repeat refine xQ ?_
 refine xG rfl ?_
 iterate 2 refine xP rfl rh rfl ?_
 refine xA noGo rfl (fun _=>rfl) ((markBytes_ct n (by omega)).mono ?_)
 rintro v L' ⟨rfl,rfl⟩
 refine ⟨_,rfl,?_⟩
 refine OS.fresh rfl (e_make (l:=(n+7) / 8) (c:=(n+7) / 8) rfl rfl rfl makeT_bytes (Nat.le_refl _) (by omega) (by omega)) (fun _=>rfl) (fun rb=>?_)
 rw [repL_u8,← pk_zeros n hn]
 refine xP rfl rh rfl ?_
 refine OS.fresh rfl (e_new (fun _=>rfl) rfl) (fun _=>rfl) (fun rm=>?_)
 iterate 2 refine xP rfl rh rfl ?_
 refine xN ?_
 refine xT ⟨_,fun _ _=>rfl,?_⟩
 refine ⟨rm,rb,rfl,?_⟩
 have hl:(pk (List.replicate n false)).length=(n+7) / 8:=by rw [pk_len]; simp
 simp only [fm,hl,List.length_replicate]
 rfl
theorem New_wrong {L:RL} (n:Int) (h:n < 0∨32768 < n):CS Tryz.prog 55 [.int .i64 n] L fun v L'=>v=.tuple #[.pointer none,.int .i64 1]/\L'=L:=by
 refine CS.mk (fn:=Tryz.f55) rfl rfl rfl rfl ?_
 repeat refine xQ ?_
 refine xG rfl ?_
 iterate 2 refine xP rfl rh rfl ?_
 refine xN ?_
 by_cases h0:n < 0
 ·have hb1:(!ileB 0 n)=true:=by rw [ileB_eq]; simpa using h0
  repeat refine xQ ?_
  refine xG rfl ?_
  refine xP rfl rh rfl ?_
  refine xP rfl (e_ib rh (hb1)) rfl ?_
  refine xP rfl rh rfl ?_
  iterate 2 refine xK rfl rfl ?_
  refine xP rfl rh rfl ?_
  refine xN ?_
  refine xC rfl (fun hc=>?_) (fun hc=>by cases hc)
  repeat refine xQ ?_
  refine xG rfl ?_
  iterate 2 refine xP rfl rh rfl ?_
  refine xN ?_
  refine xT ⟨_,fun _ _=>rfl,?_⟩
  exact ⟨rfl,rfl⟩
 ·have hb1:(!ileB 0 n)=false:=by rw [ileB_eq]; simp; omega
  have hb2:(!ileB n 32768)=true:=by rw [ileB_eq]; simp; omega
  repeat refine xQ ?_
  refine xG rfl ?_
  refine xP rfl rh rfl ?_
  refine xP rfl (e_ib rh (hb1)) rfl ?_
  iterate 2 refine xP rfl rh rfl ?_
  refine xP rfl (e_ib rh (hb2)) rfl ?_
  refine xP rfl rh rfl ?_
  refine xN ?_
  refine xC rfl (fun hc=>?_) (fun hc=>by cases hc)
  repeat refine xQ ?_
  refine xG rfl ?_
  iterate 2 refine xP rfl rh rfl ?_
  refine xN ?_
  refine xT ⟨_,fun _ _=>rfl,?_⟩
  exact ⟨rfl,rfl⟩
end Go.Proofs.YtlmmddfhoabjfaaGreat
end
section
namespace Go.Am
theorem Sub.rot {X G:RL}:Sub (G++X) (X++G):=⟨[],by simpa using List.perm_append_comm⟩
end Go.Am
namespace Go.Proofs.YtlmmddfhoabjfaaGreat
open Go.Am
def ints (l:List Nat):List Value:=l.map fun k=>.int .i64 (k:Nat)
theorem ints_len (l:List Nat):(ints l).length=l.length:=by simp [ints]
theorem ints_snoc (l:List Nat) (k:Nat):ints (l++[k])=ints l++[.int .i64 (k:Nat)]:=by simp [ints]
abbrev boxRow (rm:Nat):ARow:=.cells 82 [ptr rm]
theorem taken_ct {L:RL} {rm:Nat}:CS Tryz.prog 83 [ptr rm] L fun v L'=>∃ rbx,v=.func (.func 113) #[] #[ptr rbx]/\L'=(rbx,boxRow rm)::L:=by
 refine CS.mk (fn:=Tryz.f83) rfl rfl rfl rfl ?_
 repeat refine xQ ?_
 refine xG rfl ?_
 refine OS.fresh rfl (e_new (fun _=>rfl) rfl) (fun _=>rfl) (fun rbx=>?_)
 refine xP rfl rh rfl ?_
 refine xN ?_
 repeat refine xQ ?_
 refine xG rfl ?_
 iterate 2 refine xP rfl rh rfl ?_
 refine xN ?_
 refine xT ⟨_,fun _ _=>rfl,?_⟩
 exact ⟨rbx,rfl,rfl⟩
theorem taken1_ct {rm rb rbx r:Nat} {T:List Bool} {G:RL} (hT:T.length<=32768) (J:Nat->RL->Prop) (hr:∀ k G,J k G->∃ p,(r,.loop p)∈G) (h0:J 0 G) (hno:∀ k G,J k G->tkn T k=false->J (k+1) G)
  (hyes:∀ k G X,k < T.length->J k G->tkn T k=true->YS Tryz.prog r [.int .i64 (k:Nat)] (G++X) fun v L'=>∃ G',v=.bool true/\L'=G'++X/\J (k+1) G') :
  CS Tryz.prog 113 [.func (.yield r) #[] #[],ptr rbx] (fm rm rb T ((rbx,boxRow rm)::G)) fun v L'=>∃ G',J T.length G'/\L'=fm rm rb T ((rbx,boxRow rm)::G'):=by
 refine CS.mk (fn:=Tryz.f113) rfl rfl rfl rfl ?_
 repeat refine xQ ?_
 refine xG rfl ?_
 refine xR rfl (e_load 2 rfl rfl rfl rfl rfl) rfl ?_
 refine xA noGo rfl (fun _=>rfl) ((Len_ct).mono ?_)
 rintro v L' ⟨rfl,rfl⟩
 refine ⟨_,rfl,?_⟩
 refine xP rfl rh rfl ?_
 refine xN ?_
 repeat refine xQ ?_
 refine LS.block ?_
 refine LS.loopJ [0,1,5,6] (fun q a L'=>∃ k G,q=T.length - k/\k<=T.length/\J k G/\L'=fm rm rb T ((rbx,boxRow rm)::G) /\
  a=[.func (.yield r) #[] #[],ptr rbx,jn,jn,jn,.int .i64 (T.length:Nat),.int .i64 (k:Nat),jn,jn,jn,jn,jn,jn,jn,jn,jn,jn,jn,jn]) (n:=T.length) rfl ⟨0,G,rfl,by omega,h0,rfl,rfl⟩ ?_
 rintro q a L' ⟨k,G,rfl,hk,hJ,rfl,rfl⟩
 repeat refine xQ ?_
 refine xG rfl ?_
 refine xP rfl rh rfl ?_
 refine xN ?_
 repeat refine xQ ?_
 refine xC rfl (fun hc=>?_) (fun hc=>?_)
 ·have hc:=lt_of hc
  have hkl:k < T.length:=by omega
  refine LS.skip ?_
  repeat refine xQ ?_
  refine LS.block ?_
  repeat refine xQ ?_
  refine xG rfl ?_
  iterate 2 refine xP rfl rh rfl ?_
  refine xN ?_
  refine xQ ?_
  refine LS.mid [0,1,5,6,17] (fun a L'=>∃ G',J (k+1) G'/\L'=fm rm rb T ((rbx,boxRow rm)::G')/\a=[.func (.yield r) #[] #[],ptr rbx,jn,jn,jn,.int .i64 (T.length:Nat),.int .i64 (k:Nat),jn,jn,jn,jn,jn,jn,jn,jn,jn,jn,.bool false,jn]) ?_ ?_
  ·repeat refine xQ ?_
   refine xG rfl ?_
   refine xR rfl (e_load 2 rfl rfl rfl rfl rfl) rfl ?_
   refine xP rfl rh rfl ?_
   refine xA noGo rfl (fun _=>rfl) ((Taken_ct hT (k:Nat)).mono ?_)
   rintro v L' ⟨rfl,rfl⟩
   rw [decide_eq_true (show 0<=((k:Nat):Int)/\((k:Nat):Int) < T.length by omega),Bool.true_and,Int.toNat_natCast]
   cases ht:tkn T k
   ·refine ⟨_,rfl,?_⟩
    refine xP rfl rh rfl ?_
    iterate 4 refine xK rfl rfl ?_
    refine xP rfl rh rfl ?_
    refine xN ?_
    exact ⟨G,hno k G hJ ht,rfl,rfl⟩
   ·obtain ⟨p,hp⟩:=hr k G hJ
    refine ⟨_,rfl,?_⟩
    iterate 3 refine xP rfl rh rfl ?_
    refine OS.yield rfl rfl rfl rfl rfl ⟨p,by simp [hp]⟩ (YS.sub (L':=G++[_,_,_]) (Sub.rot (X:=[_,_,_])) ((hyes k G [_,_,_] hkl hJ ht).mono ?_))
    rintro v L' ⟨G',rfl,rfl,hJ'⟩
    refine ⟨_,rfl,?_⟩
    refine OS.sub (Sub.rot (G:=[_,_,_]) (X:=G')) ?_
    iterate 2 refine xP rfl rh rfl ?_
    refine xN ?_
    exact ⟨G',hJ',rfl,rfl⟩
  rintro a L' ⟨G',hJ',rfl,rfl⟩
  refine xC rfl (fun hc=>by cases hc) (fun hc=>?_)
  refine LS.skip ?_
  repeat refine xQ ?_
  refine xG rfl ?_
  refine xP rfl (e_add rfl rfl rfl (in_i64 (by omega) (by omega))) rfl ?_
  refine xP rfl rh rfl ?_
  refine xN ?_
  exact ⟨T.length - (k+1),by omega,k+1,G',rfl,by omega,hJ',rfl,rfl⟩
 ·have hc:=nlt_of hc
  have hkl:k=T.length:=by omega
  subst hkl
  refine LS.exit ?_
  refine ⟨_,fun _ _=>rfl,G,hJ,rfl⟩
theorem List_ct {F:RL} {rm rb:Nat} {T:List Bool} (hT:T.length<=32768):CS Tryz.prog 52 [ptr rm] (fm rm rb T F) fun v L'=>GV 3 1 (fm rm rb T F) v (lst' T).length (ints (lst' T)) L':=by
 refine CS.mk (fn:=Tryz.f52) rfl rfl rfl rfl ?_
 repeat refine xQ ?_
 refine xG rfl ?_
 refine xP rfl rh rfl ?_
 refine xN ?_
 repeat refine xQ ?_
 refine xG rfl ?_
 refine OS.fresh rfl (e_new (fun _=>rfl) rfl) (fun _=>rfl) (fun rl=>?_)
 refine xN ?_
 repeat refine xQ ?_
 refine xG rfl ?_
 refine xP rfl rh rfl ?_
 refine xA noGo rfl (fun _=>rfl) ((taken_ct).mono ?_)
 rintro v L' ⟨rbx,rfl,rfl⟩
 refine ⟨_,rfl,?_⟩
 refine xN ?_
 repeat refine xQ ?_
 refine LS.block ?_
 refine LS.rangeFunc noGo rfl (fun r=>?_)
 generalize hp0:LP.start _ _ _ _=p0
 refine CS.sub (Sub.pulls [1,4,4] rfl) ((taken1_ct (G:=(r,.loop p0)::(rl,.cells 36 [.slice none 0 0])::F) hT (fun k G=>∃ lv Lx,G=(r,.loop p0)::(rl,.cells 36 [lv])::Lx/\GV 3 1 F lv (lstTo T k).length (ints (lstTo T k)) Lx)
  (fun k G ⟨lv,Lx,hG,_⟩=>⟨p0,by rw [hG]; simp⟩) ⟨.slice none 0 0,F,rfl,.nil⟩ (fun k G ⟨lv,Lx,hG,hg⟩ ht=>⟨lv,Lx,hG,by rw [lstTo_succ,ht]; exact hg⟩) ?_).mono ?_)
 ·rintro k G X hk ⟨lv,Lx,rfl,hg⟩ ht
  have hl:=lstTo_len T k
  have hgX:=hg.appendR X
  subst hp0
  refine YS.mk 0 rfl rfl rfl ?_
  refine xG rfl ?_
  refine xP rfl rh rfl ?_
  refine xN ?_
  refine ⟨rfl,0,_,rfl,rfl,?_⟩
  repeat refine xQ ?_
  refine LS.block ?_
  repeat refine xQ ?_
  refine xG rfl ?_
  refine xR rfl (e_load 1 rfl rfl rfl rfl (part_one rfl rfl)) rfl ?_
  refine xP rfl rh rfl ?_
  refine OS.fresh rfl (e_new (fun _=>rfl) rfl) (fun _=>rfl) (fun rn=>?_)
  refine OS.fresh rfl (e_appendGV [_,_,_] (m:=1) (sz:=1) (bts:=8) hgX (SV.row (sz:=1) (n:=1) (List.mem_cons_self ..) rfl) (by omega) rfl rfl rfl rfl (by omega) (by omega)) (fun _=>rfl) (fun r2=>?_)
  refine OS.write rfl (e_store 3 (n:=1) (cs':=[.slice (some ⟨r2,0,none⟩) ((lstTo T k).length+1) openCap]) rfl rfl rfl rfl rfl rfl rfl rfl) rfl ?_
  refine OS.sub (Sub.drop 1 rfl) ?_
  refine OS.sub (Sub.pulls [2,2] rfl) ?_
  refine xN ?_
  refine ⟨0,_,rfl,rfl,(r,.loop _)::(rl,.cells 36 [.slice (some ⟨r2,0,none⟩) ((lstTo T k).length+1) openCap])::(r2,.cells 3 (ints (lstTo T (k+1))))::F,rfl,?_,_,(r2,.cells 3 (ints (lstTo T (k+1))))::F,rfl,?_⟩
  ·rw [lstTo_succ,ht,if_pos rfl,ints_snoc]; rfl
  ·rw [lstTo_succ,ht,if_pos rfl,List.length_append]
   exact GV.of (by rw [ints_len]; simp)
 ·rintro v L' ⟨G',⟨lv,Lx,rfl,hg⟩,rfl⟩
  refine ⟨3,p0,_,rfl,rfl,by subst hp0; simp [LP.start],?_⟩
  have hpend:p0.pending=none:=by subst hp0; rfl
  rw [hpend]
  show LSr _ _ _ _ _ _
  repeat refine xQ ?_
  refine xG rfl ?_
  refine xR rfl (e_load 3 rfl rfl rfl rfl (part_one rfl rfl)) rfl ?_
  refine xP rfl rh rfl ?_
  refine OS.sub (Sub.drop 2 rfl) ?_
  refine OS.sub (Sub.drop 2 rfl) ?_
  refine xN ?_
  rcases hg with ⟨rfl,h0,h1,rfl⟩ | ⟨r2,rfl,hl,rfl⟩
  ·refine xT ⟨_,fun _ _=>rfl,?_⟩
   exact .inl ⟨rfl,h0,h1,rfl⟩
  ·refine LS.sub (Sub.pulls [2] rfl) ?_
   refine xT ⟨_,fun _ _=>rfl,?_⟩
   exact .inr ⟨r2,rfl,hl,rfl⟩
end Go.Proofs.YtlmmddfhoabjfaaGreat
end
section
namespace Go.Am
variable {P:Program}
theorem OS.turns {ops rest:List Oper} {o:Oper} {a:Slots} {L:RL} {K:Slots->RL->Prop} {R:Value->RL->Prop} (hw:wantedB ops o a=true) (e:∀ h,Has h L->∃ v h₁ L₁,opB P a o h=some (.val v h₁)/\Has h₁ L₁/\R v L₁) (k:∀ v L₁,R v L₁->∃ a₁,putAt a o.dst v=some a₁/\OS P ops rest a₁ L₁ K):OS P ops (o::rest) a L K :=
 fun h H=>let ⟨v,h₁,L₁,e₁,H₁,hR⟩:=e h H; let ⟨_,ep,k⟩:=k v L₁ hR; OQ.val hw e₁ ep (k h₁ H₁)
section
variable {o:Oper} {a:Slots} {t z:TypeId} {x y:Operand} {k:IntKind} {m n:Nat}
theorem e_addN (ho:o.op=.binOp .add t x y z) (hx:aev a x=some (.int k (m:Int))) (hy:aev a y=some (.int k (n:Int))) (hi:inK k ((m+n:Nat):Int)=true):∀ h,opB P a o h=some (.val (.int k ((m+n:Nat):Int)) h):=by
 rw [Int.natCast_add] at hi ⊢
 exact e_add ho hx hy hi
theorem e_subN (ho:o.op=.binOp .sub t x y z) (hx:aev a x=some (.int k (m:Int))) (hy:aev a y=some (.int k (n:Int))) (hle:n<=m) (hi:inK k ((m - n:Nat):Int)=true):∀ h,opB P a o h=some (.val (.int k ((m - n:Nat):Int)) h):=by
 rw [Int.natCast_sub hle] at hi ⊢
 exact e_sub ho hx hy hi
end
def OW (e:TypeId) (sz:Nat) (v:Value) (n:Nat) (cs:List Value) (Y:RL):Prop :=
 ∃ r cap J,v=.slice (some ⟨r,0,none⟩) n cap/\cs.length=n * sz/\Y=[(r,.cells e (cs++J))]/\n<=cap/\(cap=openCap∨cap < openCap/\cap * sz<=(cs++J).length)
def OL (e:TypeId) (sz:Nat) (v:Value) (n:Nat) (cs:List Value) (Y:RL):Prop:=(v=.slice none 0 0/\n=0/\cs=[]/\Y=[])∨OW e sz v n cs Y
theorem OW.ol {e:TypeId} {sz n:Nat} {v:Value} {cs:List Value} {Y:RL} (h:OW e sz v n cs Y):OL e sz v n cs Y:=.inr h
def PL (e:TypeId) (sz:Nat) (X:RL) (v:Value) (n:Nat) (cs:List Value):Prop :=
 (v=.slice none 0 0/\n=0/\cs=[])∨∃ r off cap cs₀,v=.slice (some ⟨r,off,none⟩) n cap/\(r,.cells e cs₀)∈X/\cut cs₀ off (n * sz)=some cs/\n<=cap/\cap<=openCap
section
variable {e:TypeId} {sz n:Nat} {v:Value} {cs:List Value} {X Y L:RL}
theorem PL.sv (h:PL e sz X v n cs):SV sz X v n cs:=by
 rcases h with h | ⟨r,off,cap,cs₀,h1,h2,h3,_⟩
 ·exact .inl h
 ·exact .inr ⟨r,off,cap,_,cs₀,h1,h2,rfl,h3⟩
theorem PL.mono (h:PL e sz X v n cs) (hm:∀ p,p∈X->p∈Y):PL e sz Y v n cs:=by
 rcases h with h | ⟨r,off,cap,cs₀,h1,h2,h3⟩
 ·exact .inl h
 ·exact .inr ⟨r,off,cap,cs₀,h1,hm _ h2,h3⟩
theorem OL.pl (h:OL e sz v n cs Y):PL e sz Y v n cs:=by
 rcases h with ⟨h1,h2,h3,rfl⟩ | ⟨r,cap,J,h1,h2,rfl,h3,h4⟩
 ·exact .inl ⟨h1,h2,h3⟩
 ·refine .inr ⟨r,0,cap,cs++J,h1,List.mem_cons_self ..,?_,h3,by rcases h4 with rfl | h4 <;> omega⟩
  rw [cut_of (by simp; omega)]
  simp [h2]
theorem OL.sv (h:OL e sz v n cs Y):SV sz Y v n cs:=h.pl.sv
theorem GV.ol (h:GV e sz [] v n cs Y) (hn:n<=openCap):OL e sz v n cs Y:=by
 rcases h with ⟨h1,h2,h3,h4⟩ | ⟨r,h1,h2,h3⟩
 ·exact .inl ⟨h1,h2,h3,h4⟩
 ·exact .inr ⟨r,openCap,[],h1,h2,by rw [h3,List.append_nil],hn,.inl rfl⟩
theorem GV.split {F:RL} (h:GV e sz F v n cs L):∃ Y,L=Y++F/\GV e sz [] v n cs Y:=by
 rcases h with ⟨h1,h2,h3,rfl⟩ | ⟨r,h1,h2,rfl⟩
 ·exact ⟨[],rfl,.inl ⟨h1,h2,h3,rfl⟩⟩
 ·exact ⟨[(r,.cells e cs)],rfl,.inr ⟨r,h1,h2,rfl⟩⟩
theorem e_slicePL {o:Oper} {a:Slots} {t:TypeId} {x:Operand} {lo hi:Option Operand} {lo' hi':Option Value} {l u:Nat} (hs:PL e sz X v n cs) (hX:∀ p,p∈X->p∈L) (ho:o.op=.slice t x lo hi none) (hx:aev a x=some v)
  (hlo:optEv a lo=some lo') (hhi:optEv a hi=some hi') (bl:boundB lo' 0=some l) (bu:boundB hi' n=some u) (ht:P.underlying t=some (.slice e)) (hz:sizeB P e=some sz) (hu:u<=n) (hl:l<=u) :
  ∃ v',PL e sz X v' (u - l) ((cs.drop (l * sz)).take ((u - l) * sz))/\∀ h,Has h L->opB P a o h=some (.val v' h):=by
 have hm:optEv a none=some none:=rfl
 have h2:Nat.ble l u=true:=Nat.ble_eq_true_of_le hl
 rcases hs with ⟨rfl,rfl,rfl⟩ | ⟨r,off,cap,cs₀,rfl,hmem,hcut,hnc,hco⟩
 ·have hu0:u=0:=by omega
  subst hu0
  have hl0:l=0:=by omega
  subst hl0
  refine ⟨.slice none 0 0,.inl ⟨rfl,rfl,by simp⟩,fun h _=>?_⟩
  have hc:Nat.beq 0 openCap=false:=beq_false (by decide)
  have h1:Nat.ble 0 (farB 0 0)=true:=rfl
  have h3:rowOk h e none 0=true:=by unfold rowOk; rw [hc]; rfl
  simp only [opB,ho,hx,hlo,hhi,hm,sliceB,ht,bu,bl,hz,h1,h2,h3,Bool.true_and,moved,hc,ret]
 ·have hlen:=(cut_eq hcut).2.2.1
  have hcut':cut cs₀ (off+l * sz) ((u - l) * sz)=some ((cs.drop (l * sz)).take ((u - l) * sz)):=by
   refine cut_cut hcut (cut_of ?_)
   rw [hlen,← Nat.add_mul]
   exact Nat.mul_le_mul_right _ (by omega)
  by_cases hne:cap=openCap
  ·subst hne
   refine ⟨.slice (some ⟨r,off+l * sz,none⟩) (u - l) openCap,.inr ⟨r,_,_,cs₀,rfl,hmem,hcut',by omega,Nat.le_refl _⟩,fun h H=>?_⟩
   have hcb:Nat.beq openCap openCap=true:=beq_true rfl
   have h1:Nat.ble u (farB n openCap)=true:=by unfold farB; rw [hcb]; exact Nat.ble_eq_true_of_le hu
   have hg:getRow h r=some (e,cs₀):=by unfold getRow; rw [H.get _ (hX _ hmem)]
   have h3:rowOk h e (some ⟨r,off,none⟩) openCap=true:=by unfold rowOk; rw [hcb]; simp only [hg,beq_true rfl]
   simp only [opB,ho,hx,hlo,hhi,hm,sliceB,ht,bu,bl,hz,h1,h2,h3,Bool.true_and,moved,hcb,ret]
  ·refine ⟨.slice (some ⟨r,off+l * sz,none⟩) (u - l) (cap - l),.inr ⟨r,_,_,cs₀,rfl,hmem,hcut',by omega,by omega⟩,fun h H=>?_⟩
   have hcb:Nat.beq cap openCap=false:=beq_false hne
   have h1:Nat.ble u (farB n cap)=true:=by unfold farB; rw [hcb]; exact Nat.ble_eq_true_of_le (Nat.le_trans hu hnc)
   have h3:rowOk h e (some ⟨r,off,none⟩) cap=true:=by unfold rowOk; rw [hcb]; exact Nat.ble_eq_true_of_le hco
   simp only [opB,ho,hx,hlo,hhi,hm,sliceB,ht,bu,bl,hz,h1,h2,h3,Bool.true_and,moved,hcb,ret]
theorem e_slice3 {o:Oper} {a:Slots} {t:TypeId} {x y z:Operand} {k k':IntKind} {u:Nat} (hs:PL e sz X v n cs) (ho:o.op=.slice t x none (some y) (some z)) (hx:aev a x=some v) (hy:aev a y=some (.int k (u:Nat))) (hz':aev a z=some (.int k' (u:Nat)))
  (ht:P.underlying t=some (.slice e)) (hz:sizeB P e=some sz) (hu:u<=n) (hub:u<=1000000000000) :
  ∃ v',PL e sz X v' u (cs.take (u * sz))/\∀ h,opB P a o h=some (.val v' h):=by
 have hm:optEv a none=some none:=rfl
 have hoy:optEv a (some y)=some (some (.int k (u:Nat))):=by simp only [optEv,hy]
 have hoz:optEv a (some z)=some (some (.int k' (u:Nat))):=by simp only [optEv,hz']
 have bl:boundB none 0=some 0:=rfl
 have h0:Nat.ble 0 u=true:=Nat.ble_eq_true_of_le (Nat.zero_le _)
 have h1:Nat.ble u u=true:=Nat.ble_eq_true_of_le (Nat.le_refl _)
 have h2:Nat.ble u 1000000000000=true:=Nat.ble_eq_true_of_le hub
 rcases hs with ⟨rfl,rfl,rfl⟩ | ⟨r,off,cap,cs₀,rfl,hmem,hcut,hnc,hco⟩
 ·have hu0:u=0:=by omega
  subst hu0
  refine ⟨.slice none 0 0,.inl ⟨rfl,rfl,by simp⟩,fun h=>?_⟩
  have h3:Nat.ble 0 (farB 0 0)=true:=rfl
  simp only [opB,ho,hx,hm,hoy,hoz,sliceB,ht,bound_nat,bl,hz,h0,h2,h3,Option.isSome,Bool.true_and,moved,ret]
 ·have hlen:=(cut_eq hcut).2.2.1
  have hcut':cut cs₀ (off+0 * sz) (u * sz)=some (cs.take (u * sz)):=by
   refine cut_cut hcut ?_
   rw [cut_of (by rw [hlen,Nat.zero_mul,Nat.zero_add]; exact Nat.mul_le_mul_right _ hu),Nat.zero_mul,List.drop_zero]
  refine ⟨.slice (some ⟨r,off+0 * sz,none⟩) u u,.inr ⟨r,_,_,cs₀,rfl,hmem,hcut',Nat.le_refl _,by unfold openCap; omega⟩,fun h=>?_⟩
  have h3:Nat.ble u (farB n cap)=true:=by
   unfold farB
   split
   ·exact Nat.ble_eq_true_of_le hu
   ·exact Nat.ble_eq_true_of_le (Nat.le_trans hu hnc)
  simp only [opB,ho,hx,hm,hoy,hoz,sliceB,ht,bound_nat,bl,hz,h0,h1,h2,h3,Option.isSome,Bool.true_and,moved,ret,Nat.sub_zero]
end
end Go.Am
namespace Go.Proofs.YtlmmddfhoabjfaaGreat
open Go.Am
theorem CloneS_ct {L:RL} {v:Value} {n:Nat} {cs:List Value} (hv:SV 1 L v n cs) (hone:allOne cs=true) (hn:n<=1000000):CS Tryz.prog 135 [v] L fun u L'=>∃ Y,L'=Y++L/\GV 9 1 [] u n cs Y:=by
 have hnil:v=.slice none 0 0∨∃ r off cap,v=.slice (some ⟨r,off,none⟩) n cap:=by
  rcases hv with ⟨rfl,_⟩ | ⟨r,off,cap,row,cs₀,rfl,_⟩
  ·exact .inl rfl
  ·exact .inr ⟨r,off,cap,rfl⟩
 refine CS.mk (fn:=Tryz.f135) rfl rfl rfl rfl ?_
 rcases hnil with rfl | ⟨r,off,cap,rfl⟩
 ·have hnc:n=0/\cs=[]:=by
   rcases hv with ⟨_,rfl,rfl⟩ | ⟨r,off,cap,row,cs₀,hh,_⟩
   ·exact ⟨rfl,rfl⟩
   ·cases hh
  obtain ⟨rfl,rfl⟩:=hnc
  repeat refine xQ ?_
  refine xG rfl ?_
  refine xP rfl rh rfl ?_
  refine xN ?_
  repeat refine xQ ?_
  refine xG rfl ?_
  iterate 2 refine xP rfl rh rfl ?_
  refine xN ?_
  repeat refine xQ ?_
  refine xC rfl (fun hc=>?_) (fun hc=>?_)
  ·repeat refine xQ ?_
   refine xG rfl ?_
   refine xP rfl rh rfl ?_
   refine xN ?_
   refine xT ⟨_,fun _ _=>rfl,?_⟩
   exact ⟨[],rfl,.inl ⟨rfl,rfl,rfl,rfl⟩⟩
  ·cases hc
 ·repeat refine xQ ?_
  refine xG rfl ?_
  refine xP rfl rh rfl ?_
  refine xN ?_
  repeat refine xQ ?_
  refine xG rfl ?_
  iterate 2 refine xP rfl rh rfl ?_
  refine xN ?_
  repeat refine xQ ?_
  refine xC rfl (fun hc=>?_) (fun hc=>?_)
  ·cases hc
  refine LS.skip ?_
  repeat refine xQ ?_
  refine xG rfl ?_
  refine OS.fresh rfl (e_new (fun _=>rfl) rfl) (fun _=>rfl) (fun r0=>?_)
  refine xP rfl rh rfl ?_
  refine OS.turns rfl (e_appVoid (e:=9) (r:=r0) (sz:=1) (bts:=16) (m:=n) (SV.void (List.mem_cons_self ..) rfl) (hv.mono fun p hp=>List.mem_cons_of_mem _ hp) hone rfl rfl rfl (by omega) (by omega)) ?_
  rintro u L₁ ⟨X,rfl,hX⟩
  rcases hX with ⟨rfl,rfl,rfl,rfl⟩ | ⟨r1,rfl,rfl,hl⟩
  ·refine ⟨_,rfl,?_⟩
   refine OS.opened 7 0 rfl rfl (sz:=1) rfl (by simp) (by decide) rfl ?_
   refine xP rfl rh rfl ?_
   refine xN ?_
   refine xT ⟨_,fun _ _=>rfl,?_⟩
   exact ⟨[_],rfl,.inr ⟨r0,rfl,rfl,rfl⟩⟩
  ·refine ⟨_,rfl,?_⟩
   refine OS.sub (Sub.drop 1 rfl) ?_
   refine xP rfl rh rfl ?_
   refine xN ?_
   refine xT ⟨_,fun _ _=>rfl,?_⟩
   exact ⟨[_],rfl,.inr ⟨r1,rfl,hl,rfl⟩⟩
theorem EqualS_ct {L:RL} {v w:Value} {A B:List (List UInt8)} (hv:SV 1 L v A.length (tx A)) (hw:SV 1 L w B.length (tx B)) (hA:A.length<=1000000) (hB:B.length<=1000000):CS Tryz.prog 128 [v,w] L fun u L'=>u=.bool (decide (A=B))/\L'=L:=by
 refine CS.mk (fn:=Tryz.f128) rfl rfl rfl rfl ?_
 repeat refine xQ ?_
 refine xG rfl ?_
 refine xP rfl rh rfl ?_
 refine xN ?_
 repeat refine xQ ?_
 refine xG rfl ?_
 refine xP rfl rh rfl ?_
 refine xP rfl (e_len hv rfl rfl rfl rfl rfl) rfl ?_
 refine xP rfl rh rfl ?_
 refine xP rfl (e_len hw rfl rfl rfl rfl rfl) rfl ?_
 refine xP rfl rh rfl ?_
 refine xN ?_
 repeat refine xQ ?_
 refine xC rfl (fun hc=>?_) (fun hc=>?_)
 ·have hne:A.length≠B.length:=fun hh=>by rw [hh,ieqN,decide_eq_true rfl] at hc; cases hc
  repeat refine xQ ?_
  refine xG rfl ?_
  refine xP rfl rh rfl ?_
  refine xN ?_
  refine xT ⟨_,fun _ _=>rfl,?_⟩
  exact ⟨by rw [decide_eq_false (fun hh=>hne (by rw [hh]))]; rfl,rfl⟩
 have hl:A.length=B.length:=by
  by_cases hh:A.length=B.length
  ·exact hh
  ·rw [ieqN,decide_eq_false hh] at hc; cases hc
 refine LS.skip ?_
 repeat refine xQ ?_
 refine xG rfl ?_
 refine xP rfl rh rfl ?_
 refine xP rfl (e_len hv rfl rfl rfl rfl rfl) rfl ?_
 refine xP rfl rh rfl ?_
 refine xN ?_
 repeat refine xQ ?_
 refine LS.block ?_
 refine LS.loopJ [0,1,12,13] (fun q a L'=>∃ j:Nat,q=A.length - j/\j<=A.length/\A.take j=B.take j/\L'=L/\a=[v,w,jn,jn,jn,jn,jn,jn,jn,jn,jn,jn,.int .i64 (A.length:Nat),.int .i64 (j:Nat),jn,jn,jn,jn,jn,jn,jn,jn,jn,jn,jn,jn]) (n:=A.length) rfl ⟨0,rfl,by omega,rfl,rfl,rfl⟩ ?_
 rintro q a L' ⟨j,rfl,hj,ht,rfl,rfl⟩
 repeat refine xQ ?_
 refine xG rfl ?_
 refine xP rfl rh rfl ?_
 refine xN ?_
 repeat refine xQ ?_
 refine xC rfl (fun hc2=>?_) (fun hc2=>?_)
 ·have hc2:(j:Int) < A.length:=lt_of hc2
  have hjA:j < A.length:=by omega
  have hjB:j < B.length:=by omega
  refine LS.skip ?_
  repeat refine xQ ?_
  refine LS.block ?_
  repeat refine xQ ?_
  refine xG rfl ?_
  iterate 2 refine xP rfl rh rfl ?_
  refine xN ?_
  repeat refine xQ ?_
  refine LS.drawn noGo mixed [(0,false),(1,false),(2,false),(3,false),(4,false),(5,false),(6,false),(7,false),(8,false)] rfl rfl (by kernel_rfl) ?_
  iterate 2 refine xD rfl rfl rh rfl ?_
  refine ODS.at1 (j:=j) hv (tx_at hjA) rfl rfl rfl rfl rfl rfl rfl (fun r0 o0 row0 cs0 m0 c0 g0=>⟨_,rfl,?_⟩)
  refine xE rfl rfl (e_loadm m0 c0 rfl rfl (part_one rfl g0)) rfl ?_
  iterate 2 refine xD rfl rfl rh rfl ?_
  refine ODS.at1 (j:=j) hw (tx_at hjB) rfl rfl rfl rfl rfl rfl rfl (fun r1 o1 row1 cs1 m1 c1 g1=>⟨_,rfl,?_⟩)
  refine xE rfl rfl (e_loadm m1 c1 rfl rfl (part_one rfl g1)) rfl ?_
  refine xD rfl rfl rh rfl ?_
  refine xM ?_
  by_cases he:A[j]=B[j]
  ·repeat refine xQ ?_
   refine xC rfl (fun hc3=>?_) (fun hc3=>?_)
   ·have hc3:(!bytesEq A[j] B[j])=true:=hc3
    rw [beqT,he,decide_eq_true rfl] at hc3
    cases hc3
   refine LS.skip ?_
   repeat refine xQ ?_
   refine xG rfl ?_
   refine xP rfl (e_add (m:=j) (n:=1) rfl rfl rfl (in_i64 (by omega) (by omega))) rfl ?_
   refine xP rfl rh rfl ?_
   refine xN ?_
   exact ⟨A.length - (j+1),by omega,j+1,rfl,by omega,by rw [List.take_succ_eq_append_getElem hjA,List.take_succ_eq_append_getElem hjB,ht,he],rfl,rfl⟩
  ·repeat refine xQ ?_
   refine xC rfl (fun hc3=>?_) (fun hc3=>?_)
   ·repeat refine xQ ?_
    refine xG rfl ?_
    refine xP rfl rh rfl ?_
    refine xN ?_
    refine xT ⟨_,fun _ _=>rfl,?_⟩
    refine ⟨?_,rfl⟩
    rw [decide_eq_false (fun hh=>he (by subst hh; rfl))]; rfl
   ·have hc3:(!bytesEq A[j] B[j])=false:=hc3
    rw [beqT,decide_eq_false he] at hc3
    cases hc3
 ·have hc2:(A.length:Int)<=(j:Int):=nlt_of hc2
  have hje:j=A.length:=by omega
  subst hje
  refine LS.exit ?_
  repeat refine xQ ?_
  refine xG rfl ?_
  refine xP rfl rh rfl ?_
  refine xN ?_
  refine xT ⟨_,fun _ _=>rfl,?_⟩
  refine ⟨?_,rfl⟩
  rw [List.take_length,hl,List.take_length] at ht
  rw [decide_eq_true ht]; rfl
end Go.Proofs.YtlmmddfhoabjfaaGreat
end
section
namespace Go.Proofs.YtlmmddfhoabjfaaGreat
open Go.Am
theorem CloneZ_ct {L:RL} {v:Value} {n:Nat} {cs:List Value} (hv:SV 1 L v n cs) (hone:allOne cs=true) (hn:n<=1000000):CS Tryz.prog 136 [v] L fun u L'=>∃ Y,L'=Y++L/\GV 3 1 [] u n cs Y:=by
 have hnil:v=.slice none 0 0∨∃ r off cap,v=.slice (some ⟨r,off,none⟩) n cap:=by
  rcases hv with ⟨rfl,_⟩ | ⟨r,off,cap,row,cs₀,rfl,_⟩
  ·exact .inl rfl
  ·exact .inr ⟨r,off,cap,rfl⟩
 refine CS.mk (fn:=Tryz.f136) rfl rfl rfl rfl ?_
 rcases hnil with rfl | ⟨r,off,cap,rfl⟩
 ·have hnc:n=0/\cs=[]:=by
   rcases hv with ⟨_,rfl,rfl⟩ | ⟨r,off,cap,row,cs₀,hh,_⟩
   ·exact ⟨rfl,rfl⟩
   ·cases hh
  obtain ⟨rfl,rfl⟩:=hnc
  repeat refine xQ ?_
  refine xG rfl ?_
  refine xP rfl rh rfl ?_
  refine xN ?_
  repeat refine xQ ?_
  refine xG rfl ?_
  iterate 2 refine xP rfl rh rfl ?_
  refine xN ?_
  repeat refine xQ ?_
  refine xC rfl (fun hc=>?_) (fun hc=>?_)
  ·repeat refine xQ ?_
   refine xG rfl ?_
   refine xP rfl rh rfl ?_
   refine xN ?_
   refine xT ⟨_,fun _ _=>rfl,?_⟩
   exact ⟨[],rfl,.inl ⟨rfl,rfl,rfl,rfl⟩⟩
  ·cases hc
 ·repeat refine xQ ?_
  refine xG rfl ?_
  refine xP rfl rh rfl ?_
  refine xN ?_
  repeat refine xQ ?_
  refine xG rfl ?_
  iterate 2 refine xP rfl rh rfl ?_
  refine xN ?_
  repeat refine xQ ?_
  refine xC rfl (fun hc=>?_) (fun hc=>?_)
  ·cases hc
  refine LS.skip ?_
  repeat refine xQ ?_
  refine xG rfl ?_
  refine OS.fresh rfl (e_new (fun _=>rfl) rfl) (fun _=>rfl) (fun r0=>?_)
  refine xP rfl rh rfl ?_
  refine OS.turns rfl (e_appVoid (e:=3) (r:=r0) (sz:=1) (bts:=8) (m:=n) (SV.void (List.mem_cons_self ..) rfl) (hv.mono fun p hp=>List.mem_cons_of_mem _ hp) hone rfl rfl rfl (by omega) (by omega)) ?_
  rintro u L₁ ⟨X,rfl,hX⟩
  rcases hX with ⟨rfl,rfl,rfl,rfl⟩ | ⟨r1,rfl,rfl,hl⟩
  ·refine ⟨_,rfl,?_⟩
   refine OS.opened 7 0 rfl rfl (sz:=1) rfl (by simp) (by decide) rfl ?_
   refine xP rfl rh rfl ?_
   refine xN ?_
   refine xT ⟨_,fun _ _=>rfl,?_⟩
   exact ⟨[_],rfl,.inr ⟨r0,rfl,rfl,rfl⟩⟩
  ·refine ⟨_,rfl,?_⟩
   refine OS.sub (Sub.drop 1 rfl) ?_
   refine xP rfl rh rfl ?_
   refine xN ?_
   refine xT ⟨_,fun _ _=>rfl,?_⟩
   exact ⟨[_],rfl,.inr ⟨r1,rfl,hl,rfl⟩⟩
theorem EqualZ_ct {L:RL} {v w:Value} {A B:List Int} (hv:SV 1 L v A.length (nums A)) (hw:SV 1 L w B.length (nums B)) (hA:A.length<=1000000) (hB:B.length<=1000000):CS Tryz.prog 129 [v,w] L fun u L'=>u=.bool (decide (A=B))/\L'=L:=by
 refine CS.mk (fn:=Tryz.f129) rfl rfl rfl rfl ?_
 repeat refine xQ ?_
 refine xG rfl ?_
 refine xP rfl rh rfl ?_
 refine xN ?_
 repeat refine xQ ?_
 refine xG rfl ?_
 refine xP rfl rh rfl ?_
 refine xP rfl (e_len hv rfl rfl rfl rfl rfl) rfl ?_
 refine xP rfl rh rfl ?_
 refine xP rfl (e_len hw rfl rfl rfl rfl rfl) rfl ?_
 refine xP rfl rh rfl ?_
 refine xN ?_
 repeat refine xQ ?_
 refine xC rfl (fun hc=>?_) (fun hc=>?_)
 ·have hne:A.length≠B.length:=fun hh=>by rw [hh,ieqN,decide_eq_true rfl] at hc; cases hc
  repeat refine xQ ?_
  refine xG rfl ?_
  refine xP rfl rh rfl ?_
  refine xN ?_
  refine xT ⟨_,fun _ _=>rfl,?_⟩
  exact ⟨by rw [decide_eq_false (fun hh=>hne (by rw [hh]))]; rfl,rfl⟩
 have hl:A.length=B.length:=by
  by_cases hh:A.length=B.length
  ·exact hh
  ·rw [ieqN,decide_eq_false hh] at hc; cases hc
 refine LS.skip ?_
 repeat refine xQ ?_
 refine xG rfl ?_
 refine xP rfl rh rfl ?_
 refine xP rfl (e_len hv rfl rfl rfl rfl rfl) rfl ?_
 refine xP rfl rh rfl ?_
 refine xN ?_
 repeat refine xQ ?_
 refine LS.block ?_
 refine LS.loopJ [0,1,12,13] (fun q a L'=>∃ j:Nat,q=A.length - j/\j<=A.length/\A.take j=B.take j/\L'=L/\a=[v,w,jn,jn,jn,jn,jn,jn,jn,jn,jn,jn,.int .i64 (A.length:Nat),.int .i64 (j:Nat),jn,jn,jn,jn,jn,jn,jn,jn,jn,jn,jn,jn]) (n:=A.length) rfl ⟨0,rfl,by omega,rfl,rfl,rfl⟩ ?_
 rintro q a L' ⟨j,rfl,hj,ht,rfl,rfl⟩
 repeat refine xQ ?_
 refine xG rfl ?_
 refine xP rfl rh rfl ?_
 refine xN ?_
 repeat refine xQ ?_
 refine xC rfl (fun hc2=>?_) (fun hc2=>?_)
 ·have hc2:(j:Int) < A.length:=lt_of hc2
  have hjA:j < A.length:=by omega
  have hjB:j < B.length:=by omega
  refine LS.skip ?_
  repeat refine xQ ?_
  refine LS.block ?_
  repeat refine xQ ?_
  refine xG rfl ?_
  iterate 2 refine xP rfl rh rfl ?_
  refine xN ?_
  repeat refine xQ ?_
  refine LS.drawn noGo mixed [(0,false),(1,false),(2,false),(3,false),(4,false),(5,false),(6,false),(7,false),(8,false)] rfl rfl (by kernel_rfl) ?_
  iterate 2 refine xD rfl rfl rh rfl ?_
  refine ODS.at1 (j:=j) hv (nums_at hjA) rfl rfl rfl rfl rfl rfl rfl (fun r0 o0 row0 cs0 m0 c0 g0=>⟨_,rfl,?_⟩)
  refine xE rfl rfl (e_loadm m0 c0 rfl rfl (part_one rfl g0)) rfl ?_
  iterate 2 refine xD rfl rfl rh rfl ?_
  refine ODS.at1 (j:=j) hw (nums_at hjB) rfl rfl rfl rfl rfl rfl rfl (fun r1 o1 row1 cs1 m1 c1 g1=>⟨_,rfl,?_⟩)
  refine xE rfl rfl (e_loadm m1 c1 rfl rfl (part_one rfl g1)) rfl ?_
  refine xD rfl rfl rh rfl ?_
  refine xM ?_
  by_cases he:A[j]=B[j]
  ·repeat refine xQ ?_
   refine xC rfl (fun hc3=>?_) (fun hc3=>?_)
   ·have hc3:(!ieqB A[j] B[j])=true:=hc3
    rw [ieqB_eq,he] at hc3
    simp at hc3
   refine LS.skip ?_
   repeat refine xQ ?_
   refine xG rfl ?_
   refine xP rfl (e_add (m:=j) (n:=1) rfl rfl rfl (in_i64 (by omega) (by omega))) rfl ?_
   refine xP rfl rh rfl ?_
   refine xN ?_
   exact ⟨A.length - (j+1),by omega,j+1,rfl,by omega,by rw [List.take_succ_eq_append_getElem hjA,List.take_succ_eq_append_getElem hjB,ht,he],rfl,rfl⟩
  ·repeat refine xQ ?_
   refine xC rfl (fun hc3=>?_) (fun hc3=>?_)
   ·repeat refine xQ ?_
    refine xG rfl ?_
    refine xP rfl rh rfl ?_
    refine xN ?_
    refine xT ⟨_,fun _ _=>rfl,?_⟩
    refine ⟨?_,rfl⟩
    rw [decide_eq_false (fun hh=>he (by subst hh; rfl))]; rfl
   ·have hc3:(!ieqB A[j] B[j])=false:=hc3
    rw [ieqB_eq] at hc3
    simp [he] at hc3
 ·have hc2:(A.length:Int)<=(j:Int):=nlt_of hc2
  have hje:j=A.length:=by omega
  subst hje
  refine LS.exit ?_
  repeat refine xQ ?_
  refine xG rfl ?_
  refine xP rfl rh rfl ?_
  refine xN ?_
  refine xT ⟨_,fun _ _=>rfl,?_⟩
  refine ⟨?_,rfl⟩
  rw [List.take_length,hl,List.take_length] at ht
  rw [decide_eq_true ht]; rfl
end Go.Proofs.YtlmmddfhoabjfaaGreat
end
section
namespace Go.Am
section
variable {P:Program} {o:Oper} {a:Slots} {L L₁:RL} {t e:TypeId} {x y z:Operand}
theorem e_sliceC {lo hi:Option Operand} {lo' hi':Option Value} {r off n c sz l u:Nat} (ho:o.op=.slice t x lo hi none) (hx:aev a x=some (.slice (some ⟨r,off,none⟩) n c)) (hlo:optEv a lo=some lo') (hhi:optEv a hi=some hi') (bl:boundB lo' 0=some l) (bu:boundB hi' n=some u)
  (ht:P.underlying t=some (.slice e)) (hz:sizeB P e=some sz) (hu:u<=c) (hl:l<=u) (hc:c < openCap):∀ h,opB P a o h=some (.val (.slice (some ⟨r,off+l * sz,none⟩) (u - l) (c - l)) h):=by
 intro h
 have hm:optEv a none=some none:=rfl
 have h2:Nat.ble l u=true:=Nat.ble_eq_true_of_le hl
 have hcb:Nat.beq c openCap=false:=beq_false (by omega)
 have h1:Nat.ble u (farB n c)=true:=by unfold farB; rw [hcb]; exact Nat.ble_eq_true_of_le hu
 have h3:rowOk h e (some ⟨r,off,none⟩) c=true:=by unfold rowOk; rw [hcb]; exact Nat.ble_eq_true_of_le (by omega)
 simp only [opB,ho,hx,hlo,hhi,hm,sliceB,ht,bu,bl,hz,h1,h2,h3,Bool.true_and,moved,hcb,ret]
theorem e_sliceC0 {hi:Operand} {k:IntKind} {r off n c sz u:Nat} (ho:o.op=.slice t x none (some hi) none) (hx:aev a x=some (.slice (some ⟨r,off,none⟩) n c)) (hhi:aev a hi=some (.int k (u:Nat)))
  (ht:P.underlying t=some (.slice e)) (hz:sizeB P e=some sz) (hu:u<=c) (hc:c < openCap):∀ h,opB P a o h=some (.val (.slice (some ⟨r,off,none⟩) u c) h):=by
 have:=e_sliceC (P:=P) (lo:=none) (hi:=some hi) (lo':=none) (hi':=some (.int k (u:Nat))) (l:=0) (u:=u) ho hx rfl (by simp only [optEv,hhi]) rfl bound_nat ht hz hu (Nat.zero_le _) hc
 simpa using this
theorem e_sliceC1 {lo:Operand} {k:IntKind} {r off n c l:Nat} (ho:o.op=.slice t x (some lo) none none) (hx:aev a x=some (.slice (some ⟨r,off,none⟩) n c)) (hlo:aev a lo=some (.int k (l:Nat)))
  (ht:P.underlying t=some (.slice e)) (hz:sizeB P e=some 1) (hn:n<=c) (hl:l<=n) (hc:c < openCap):∀ h,opB P a o h=some (.val (.slice (some ⟨r,off+l,none⟩) (n - l) (c - l)) h):=by
 have:=e_sliceC (P:=P) (lo:=some lo) (hi:=none) (lo':=some (.int k (l:Nat))) (hi':=none) (l:=l) (u:=n) ho hx (by simp only [optEv,hlo]) rfl bound_nat rfl ht hz hn hl hc
 simpa using this
theorem e_sliceO1 (i:Nat) {lo:Operand} {k:IntKind} {r off n l:Nat} {cs:List Value} (ho:o.op=.slice t x (some lo) none none) (hx:aev a x=some (.slice (some ⟨r,off,none⟩) n openCap)) (hlo:aev a lo=some (.int k (l:Nat)))
  (ht:P.underlying t=some (.slice e)) (hz:sizeB P e=some 1) (hl:l<=n) (hL:L[i]?=some (r,.cells e cs)):∀ h,Has h L->opB P a o h=some (.val (.slice (some ⟨r,off+l,none⟩) (n - l) openCap) h):=by
 have:=e_slice (P:=P) i (lo:=some lo) (hi:=none) (lo':=some (.int k (l:Nat))) (hi':=none) (l:=l) (u:=n) ho hx (by simp only [optEv,hlo]) rfl bound_nat rfl ht hz (Nat.le_refl _) hl hL
 simpa using this
theorem e_copyG (i:Nat) {c:Call} {st e':TypeId} {sz m N k r off cap r2 o2 c2:Nat} {row2:ARow} {cs cs2 new cs':List Value} (ho:o.op=.call c) (hc:c.callee=.builtin .copy) (ha:evs a c.args.toList=some [.slice (some ⟨r,off,none⟩) N cap,.slice (some ⟨r2,o2,none⟩) m c2])
  (ht:c.argTypes[0]?=some st) (hu:P.underlying st=some (.slice e)) (hz:sizeB P e=some sz) (hk:Nat.min m N=k) (hpos:0 < k) (hm2:(r2,row2)∈L) (hr2:rdRow row2=some cs2) (hcut:cut cs2 o2 (k * sz)=some new) (hone:allOne new=true)
  (hL:L[i]?=some (r,.cells e' cs)) (hlay:lay cs off new=some cs') (hset:setL L i (r,.cells e' cs')=some L₁):∀ h,Has h L->∃ h₁,opB P a o h=some (.val (.int .i64 (k:Nat)) h₁)/\Has h₁ L₁:=by
 intro h H
 obtain ⟨h₁,e₁⟩:=h.put_some r (some (.cells e' cs'))
 have:=setL_eq hset
 subst this
 subst hk
 have hb:Nat.beq (Nat.min m N) 0=false:=beq_false (by omega)
 have hl1:lenB (.slice (some ⟨r2,o2,none⟩) m c2)=some m:=rfl
 have hnt:notText (.slice (some ⟨r2,o2,none⟩) m c2)=true:=rfl
 have hf:firstB sz (Nat.min m N) (.slice (some ⟨r2,o2,none⟩) m c2) h=some new:=by simp only [firstB,hb,H.mem hm2 hr2,hcut]
 refine ⟨h₁,?_,H.put hL e₁⟩
 simp only [opB,ho,ha,callOpB,hc,copyB,ht,hu,hz,hl1,hf,hone,hnt,hb,H.row hL,hlay,e₁,Bool.true_or,Bool.and_self,ret2,goInt]
end
def appZT (P:Program) (c:Call):Option (TypeId × Nat × Nat × List Value) :=
 match c.callee with
 | .builtin .append=>match c.argTypes[0]?,c.argTypes[1]? with
  | some st,some xt=>match P.underlying st,P.underlying xt with
   | some (.slice e),some (.int _)=>match P.info? e,zerosB P e with
     | some i,some zs=>match zeroFits P e && Nat.beq zs.length i.size with
      | true=>some (e,i.size,i.bytes,zs)
      | false=>none
     | _,_=>none
   | _,_=>none
  | _,_=>none
 | _=>none
theorem e_appendZK {P:Program} {o:Oper} {a:Slots} {L:RL} {c:Call} {e:TypeId} {sz bts len cap m r off:Nat} {row:ARow} {zs old cs:List Value} (ho:o.op=.call c) (hT:appZT P c=some (e,sz,bts,zs)) (ha:evs a c.args.toList=some [.slice (some ⟨r,off,none⟩) len cap,.int .i64 (m:Nat)])
  (hone:allOne (repL zs m)=true) (hfull:cap < len+m) (hcap:cap < openCap) (hsm:(len+m+cap) * bts<=1000000000000) (hm:m * bts<=1000000000000) (hm2:m<=1000000000000) (hsm2:len+m<=1000000000000) (hL:(r,row)∈L) (hr:rdRow row=some cs) (hcut:cut cs off (len * sz)=some old) :
  ∀ h,Has h L->∃ r' h₁,opB P a o h=some (.val (.slice (some ⟨r',0,none⟩) (len+m) openCap) h₁)/\Has h₁ ((r',.cells e (old++repL zs m))::L):=by
 intro h H
 unfold appZT at hT
 split at hT
 case h_2=>cases hT
 rename_i hcal
 split at hT
 case h_2=>cases hT
 rename_i st xt hst hxt
 split at hT
 case h_2=>cases hT
 rename_i e' k hu1 hu2
 split at hT
 case h_2=>cases hT
 rename_i i zs' hi hzs
 split at hT
 case h_2=>cases hT
 rename_i hfit
 simp only [Option.some.injEq,Prod.mk.injEq] at hT
 obtain ⟨rfl,rfl,rfl,rfl⟩:=hT
 simp only [Bool.and_eq_true] at hfit
 obtain ⟨hfit,hzl⟩:=hfit
 obtain ⟨h₁,e₁⟩:=h.new_some (.cells e' (old++repL zs' m))
 have hs:sizeB P e'=some i.size:=by unfold sizeB; rw [hi]
 have hf:firstB i.size len (.slice (some ⟨r,off,none⟩) len cap) h=some old:=by
  simp only [firstB]
  cases hb:Nat.beq len 0 with
  | true =>
   have:=of_beq hb
   subst this
   have:old=[]:=List.eq_nil_of_length_eq_zero (by have:=(cut_eq hcut).2.2.1; simpa using this)
   subst this; rfl
  | false=>simp only [H.mem hL hr,hcut]
 have c0:ileB 0 (m:Int)=true:=ileB_iff.2 (by omega)
 have c1:ileB (m:Int) 1000000000000=true:=ileB_iff.2 (by omega)
 have c2:smallB m i.bytes=true:=by unfold smallB; exact Nat.ble_eq_true_of_le hm
 have c3:Nat.beq cap openCap=false:=beq_false (by omega)
 have c4:Nat.ble (len+m) cap=false:=by
  cases hb:Nat.ble (len+m) cap with
  | false=>rfl
  | true=>have:=of_ble hb; omega
 have c5:smallB (len+m+cap) i.bytes=true:=by unfold smallB; exact Nat.ble_eq_true_of_le hsm
 have c6:Nat.ble (len+m) 1000000000000=true:=Nat.ble_eq_true_of_le hsm2
 have hgrow:growB P h e' (len+m) old (repL zs' m)=some (.slice (some ⟨h.next,0,none⟩) (len+m) openCap,h₁):=by
  simp only [growB,join_of,hfit,c6,Bool.and_self,newCells,hs,e₁]
 refine ⟨h.next,h₁,?_,H.new e₁⟩
 simp only [opB,ho,ha,callOpB,hcal,appendB,hst,hxt,hu1,hu2,appendZB,hi,hzs,c0,c1,c2,Int.toNat_natCast,hzl,Bool.and_self,rep_of,hone,c3,c4,hf,c5,hgrow,ret2]
theorem OS.slicePL {P:Program} {ops rest:List Oper} {o:Oper} {a:Slots} {X L:RL} {K:Slots->RL->Prop} {e t:TypeId} {x:Operand} {sz n l u:Nat} {v:Value} {cs:List Value} {lo hi:Option Operand} {lo' hi':Option Value} (hs:PL e sz X v n cs) (hX:∀ p,p∈X->p∈L) (hw:wantedB ops o a=true) (ho:o.op=.slice t x lo hi none) (hx:aev a x=some v)
  (hlo:optEv a lo=some lo') (hhi:optEv a hi=some hi') (bl:boundB lo' 0=some l) (bu:boundB hi' n=some u) (ht:P.underlying t=some (.slice e)) (hz:sizeB P e=some sz) (hu:u<=n) (hl:l<=u)
  (k:∀ v',PL e sz X v' (u - l) ((cs.drop (l * sz)).take ((u - l) * sz))->∃ a₁,putAt a o.dst v'=some a₁/\OS P ops rest a₁ L K):OS P ops (o::rest) a L K:=by
 obtain ⟨v',h1,h2⟩:=e_slicePL hs hX ho hx hlo hhi bl bu ht hz hu hl
 obtain ⟨a₁,ep,k⟩:=k v' h1
 exact xR hw h2 ep k
theorem ODS.slicePL {P:Program} {ops:List Oper} {ms:List Nat} {sched:List (Nat × Bool)} {dn:Dn} {q:Nat} {o:Oper} {a:Slots} {X L:RL} {K:Slots->RL->Prop} {e t:TypeId} {x:Operand} {sz n l u:Nat} {v:Value} {cs:List Value} {lo hi:Option Operand} {lo' hi':Option Value} (hs:PL e sz X v n cs) (hX:∀ p,p∈X->p∈L) (hq:ops[q]?=some o) (hw:wantedB ops o a=true) (ho:o.op=.slice t x lo hi none) (hx:aev a x=some v)
  (hlo:optEv a lo=some lo') (hhi:optEv a hi=some hi') (bl:boundB lo' 0=some l) (bu:boundB hi' n=some u) (ht:P.underlying t=some (.slice e)) (hz:sizeB P e=some sz) (hu:u<=n) (hl:l<=u)
  (k:∀ v',PL e sz X v' (u - l) ((cs.drop (l * sz)).take ((u - l) * sz))->∃ a₁,putAt a o.dst v'=some a₁/\ODS P ops ms K sched ((q,a,v')::dn) a₁ L):ODS P ops ms K ((q,false)::sched) dn a L:=by
 obtain ⟨v',h1,h2⟩:=e_slicePL hs hX ho hx hlo hhi bl bu ht hz hu hl
 obtain ⟨a₁,ep,k⟩:=k v' h1
 exact xE hq hw h2 ep k
theorem lay_shift {cs J:List Value} {i n:Nat} (hn:cs.length=n) (hi:i < n) (hJ:1<=J.length):lay (cs++J) (i+1) (cs.drop i)=some (cs.take (i+1)++(cs.drop i++J.drop 1)):=by
 rw [lay_of (by simp; omega)]
 congr 1
 rw [List.take_append_of_le_length (by omega),List.length_drop,List.drop_append]
 congr 2
 rw [List.drop_eq_nil_of_le (by omega),List.nil_append]
 congr 1; omega
theorem nmin_l {m n:Nat} (h:m<=n):Nat.min m n=m:=Nat.min_eq_left h
theorem nmin_r {m n:Nat} (h:n<=m):Nat.min m n=n:=Nat.min_eq_right h
theorem cut_tail {cs J:List Value} {i n:Nat} (hn:cs.length=n) (hi:i<=n):cut (cs++J) (0+i) ((n - i) * 1)=some (cs.drop i):=by
 rw [Nat.zero_add,Nat.mul_one,cut_of (by simp; omega),List.drop_append_of_le_length (by omega),List.take_append_of_le_length (by simp; omega),List.take_of_length_le (by simp; omega)]
theorem cut_tail0 {cs:List Value} {i n:Nat} (hn:cs.length=n) (hi:i<=n):cut cs (0+i) ((n - i) * 1)=some (cs.drop i):=by
 have:=cut_tail (J:=[]) hn hi
 rwa [List.append_nil] at this
theorem lay_first {cs Z:List Value} {x:Value} {i:Nat} (hi:i<=cs.length) (hZ:1<=Z.length):lay (cs.take i++Z) i [x]=some (cs.take i++x::Z.drop 1):=by
 rw [lay_of (by simp; omega)]
 congr 1
 have h1:(cs.take i).length=i:=by simp; omega
 rw [List.take_append_of_le_length (by omega),List.take_take,Nat.min_self,List.length_singleton,List.drop_append,List.drop_eq_nil_of_le (by omega),h1]
 simp
theorem lay_rest {cs W:List Value} {x:Value} {i:Nat} (hi:i<=cs.length) (hW:W.length=cs.length - i):lay (cs.take i++x::W) (i+1) (cs.drop i)=some (cs.take i++x::cs.drop i):=by
 rw [lay_of (by simp; omega)]
 congr 1
 have h1:(cs.take i).length=i:=by simp; omega
 have h2:(x::W).drop (i+1+(cs.length - i) - i)=[]:=List.drop_eq_nil_of_le (by simp; omega)
 have h3:(cs.take i).drop (i+1+(cs.length - i))=[]:=List.drop_eq_nil_of_le (by omega)
 rw [List.take_append,h1,List.take_of_length_le (by omega),List.drop_append,List.length_drop,h3,h1,h2,show i+1 - i=1 by omega]
 simp
theorem lay_put {cs R:List Value} {x:Value} {i n:Nat} (hn:cs.length=n) (hi:i < n):lay (cs.take (i+1)++(cs.drop i++R)) i [x]=some ((cs.take i++x::cs.drop i)++R):=by
 rw [lay_of (by simp; omega)]
 congr 1
 have h1:(cs.take (i+1)).length=i+1:=by simp; omega
 rw [List.take_append_of_le_length (by omega),List.take_take,Nat.min_eq_left (by omega),List.length_singleton,List.drop_append_of_le_length (by omega),List.drop_eq_nil_of_le (by omega)]
 simp
theorem allOne_drop:∀ {cs:List Value} {i:Nat},allOne cs=true->allOne (cs.drop i)=true
 | cs,0,h=>by simpa using h
 | [],i+1,h=>by simp [allOne]
 | c::cs,i+1,h=>by
  simp only [allOne] at h
  split at h
  ·simpa using allOne_drop (i:=i) h
  ·cases h
def insL {α:Type} (l:List α) (i:Nat) (x:α):List α:=l.take i++x::l.drop i
theorem insL_len {α:Type} {l:List α} {i:Nat} {x:α} (h:i<=l.length):(insL l i x).length=l.length+1:=by unfold insL; simp; omega
theorem insL_end {α:Type} {l:List α} {x:α}:insL l l.length x=l++[x]:=by unfold insL; simp
end Go.Am
namespace Go.Proofs.YtlmmddfhoabjfaaGreat
open Go.Am
theorem overlapsS_ext {L:RL} {r r' o' n' c':Nat} {cs cs':List Value} {c:Nat} (h1:(r,.cells 9 cs)∈L) (h2:(r',.cells 9 cs')∈L) (hne:r≠r') (hn2:1<=n') (hne':cs'≠[]) :
  ∀ h,Has h L->ExtH Tryz.prog 105 [.slice (some ⟨r,0,none⟩) 1 c,.slice (some ⟨r',o',none⟩) n' c'] (.bool false) h :=
 ext_overlaps (e:=9) (sz:=1) (tS:=35) (tR:=4) (fn:=Tryz.f105) rfl (by kernel_rfl) rfl (by kernel_rfl) (by kernel_rfl) rfl rfl h1 h2 hne (by kernel_rfl) (by kernel_rfl) (Nat.le_refl _) hn2 hne'
theorem zeroS {n:Nat}:allOne (repL [Value.string ⟨⟨[]⟩⟩] n)=true:=by
 rw [repL_one]
 induction n with
 | zero=>rfl
 | succ n ih=>simp only [List.replicate_succ,allOne,oneB]; exact ih
theorem InsertS_ct {F Y:RL} {v x:Value} {n i rv:Nat} {cs:List Value} (g:GV 9 1 [] v n cs Y) (hi:i<=n) (hn:n<=1000000) (hx:oneB x=true) (hone:allOne cs=true) (hrv:(rv,.cells 9 [x])∈F) (hnd:∀ p,p∈Y->p.1≠rv) :
  CS Tryz.prog 68 [v,.int .i64 (i:Nat),.slice (some ⟨rv,0,none⟩) 1 1] (Y++F) fun u L'=>∃ Y',L'=Y'++F/\OW 9 1 u (n+1) (insL cs i x) Y':=by
 have hcl:cs.length=n:=by have:=g.sv.len; omega
 have hv1:allOne [x]=true:=by simp only [allOne,hx]
 rcases Nat.eq_or_lt_of_le hi with rfl | hlt
 ·have hpl:=(g.ol (by unfold openCap; omega)).pl
  refine CS.mk (fn:=Tryz.f68) rfl rfl rfl rfl ?_
  repeat refine xQ ?_
  refine xG rfl ?_
  refine xP rfl rh rfl ?_
  refine xN ?_
  repeat refine xQ ?_
  refine xG rfl ?_
  iterate 2 refine xP rfl rh rfl ?_
  refine OS.slicePL hpl (fun p hp=>List.mem_append_left _ hp) rfl rfl rfl rfl rfl bound_nat rfl rfl rfl (Nat.le_refl _) (Nat.le_refl _) (fun v' _=>⟨_,rfl,?_⟩)
  refine xN ?_
  repeat refine xQ ?_
  refine xG rfl ?_
  iterate 3 refine xP rfl rh rfl ?_
  refine xN ?_
  repeat refine xQ ?_
  refine xG rfl ?_
  iterate 2 refine xP rfl rh rfl ?_
  refine xN ?_
  repeat refine xQ ?_
  refine xC rfl (fun hc=>?_) (fun hc=>?_)
  ·cases hc
  refine LS.skip ?_
  repeat refine xQ ?_
  refine xG rfl ?_
  refine xP rfl rh rfl ?_
  refine xP rfl (e_len (hpl.sv.mono (L':=Y++F) (fun p hp=>List.mem_append_left _ hp)) rfl rfl rfl rfl rfl) rfl ?_
  refine xP rfl rh rfl ?_
  refine xN ?_
  have hb:ieqB ((i:Nat):Int) (i:Nat)=true:=by rw [ieqN,decide_eq_true rfl]
  repeat refine xQ ?_
  refine xG rfl ?_
  iterate 2 refine xP rfl rh rfl ?_
  refine xP rfl (e_ib rh (hb)) rfl ?_
  refine xN ?_
  repeat refine xQ ?_
  refine xC rfl (fun hc=>?_) (fun hc=>?_)
  ·repeat refine xQ ?_
   refine xG rfl ?_
   iterate 2 refine xP rfl rh rfl ?_
   refine OS.fresh rfl ((e_appendGV [] (F:=F) (e:=9) (cs:=cs) (n:=i) (m:=1) (sz:=1) (bts:=16) (new:=[x]) (GV.appendR F g) (SV.row (e:=9) (sz:=1) (n:=1) (show (rv,ARow.cells 9 [x])∈[]++(Y++F) from List.mem_append_right Y hrv) rfl) (by omega) hv1 rfl rfl rfl (by omega) (by omega))) (fun _=>rfl) (fun r2=>?_)
   refine xP rfl rh rfl ?_
   refine xN ?_
   refine xT ⟨_,fun _ _=>rfl,?_⟩
   refine ⟨[(r2,_)],rfl,⟨r2,openCap,[],rfl,by rw [insL_len (by omega)]; omega,?_,by unfold openCap; omega,.inl rfl⟩⟩
   rw [List.append_nil,← hcl,insL_end]
  ·cases hc
 ·rcases g with ⟨rfl,rfl,rfl,rfl⟩ | ⟨r,rfl,hl,rfl⟩
  ·omega
  refine CS.reveal (sz:=1) rfl hl (fun c hnc hco=>?_) (by unfold openCap; omega)
  rw [Nat.mul_one]
  have hne:rv≠r:=fun hh=>hnd _ (List.mem_cons_self ..) hh.symm
  refine CS.mk (fn:=Tryz.f68) rfl rfl rfl rfl ?_
  repeat refine xQ ?_
  refine xG rfl ?_
  refine xP rfl rh rfl ?_
  refine xN ?_
  repeat refine xQ ?_
  refine xG rfl ?_
  iterate 2 refine xP rfl rh rfl ?_
  refine xP rfl (e_sliceC (l:=i) (u:=n) rfl rfl rfl rfl bound_nat rfl rfl rfl hnc (by omega) hco) rfl ?_
  refine xN ?_
  repeat refine xQ ?_
  refine xG rfl ?_
  iterate 3 refine xP rfl rh rfl ?_
  refine xN ?_
  repeat refine xQ ?_
  refine xG rfl ?_
  iterate 2 refine xP rfl rh rfl ?_
  refine xN ?_
  repeat refine xQ ?_
  refine xC rfl (fun hc=>?_) (fun hc=>?_)
  ·cases hc
  refine LS.skip ?_
  repeat refine xQ ?_
  refine xG rfl ?_
  iterate 3 refine xP rfl rh rfl ?_
  refine xN ?_
  have hb:ieqB ((i:Nat):Int) (n:Nat)=false:=by rw [ieqN,decide_eq_false (by omega)]
  repeat refine xQ ?_
  refine xG rfl ?_
  iterate 2 refine xP rfl rh rfl ?_
  refine xP rfl (e_ib rh (hb)) rfl ?_
  refine xN ?_
  repeat refine xQ ?_
  refine xC rfl (fun hc=>?_) (fun hc=>?_)
  ·cases hc
  refine LS.skip ?_
  repeat refine xQ ?_
  refine xG rfl ?_
  iterate 2 refine xP rfl rh rfl ?_
  refine xP rfl (e_addN (m:=n) (n:=1) rfl rfl rfl (in_i64 (by omega) (by omega))) rfl ?_
  refine xP rfl rh rfl ?_
  refine xP rfl (e_cap rfl rfl rfl rfl rfl hco) rfl ?_
  refine xP rfl rh rfl ?_
  refine xN ?_
  repeat refine xQ ?_
  refine xC rfl (fun hc=>?_) (fun hc=>?_)
  ·have hcn:c=n:=by
    have h2:(!ileB ((n+1:Nat):Int) (c:Nat))=true:=hc
    rw [ileB_eq] at h2; simp at h2; omega
   subst hcn
   have hJ:junk (c - c)=[]:=by rw [Nat.sub_self]; rfl
   rw [hJ,List.append_nil]
   repeat refine xQ ?_
   refine xG rfl ?_
   iterate 2 refine xP rfl rh rfl ?_
   refine xP rfl (e_sliceC0 (u:=i) rfl rfl rfl rfl rfl (by omega) hco) rfl ?_
   iterate 2 refine xP rfl rh rfl ?_
   refine xP rfl (e_addN (m:=c) (n:=1) rfl rfl rfl (in_i64 (by omega) (by omega))) rfl ?_
   refine xP rfl rh rfl ?_
   refine xP rfl (e_subN (m:=c+1) (n:=i) rfl rfl rfl (by omega) (in_i64 (by omega) (by omega))) rfl ?_
   refine OS.fresh rfl ((e_appendZK (e:=9) (sz:=1) (bts:=16) (zs:=[.string ⟨⟨[]⟩⟩]) (m:=c+1 - i) (old:=cs.take i) (row:=.cells 9 cs) rfl (by kernel_rfl) rfl zeroS (by omega) hco (by omega) (by omega) (by omega) (by omega) (List.mem_cons_self ..) rfl (by rw [cut_of (by omega)]; simp))) (fun _=>rfl) (fun r2=>?_)
   rw [show i+(c+1 - i)=c+1 by omega]
   refine xP rfl rh rfl ?_
   refine xN ?_
   have hZ:(repL [Value.string ⟨⟨[]⟩⟩] (c+1 - i)).length=c+1 - i:=by rw [repL_len]; simp
   generalize repL [Value.string ⟨⟨[]⟩⟩] (c+1 - i)=Z at hZ
   repeat refine xQ ?_
   refine xG rfl ?_
   iterate 2 refine xP rfl rh rfl ?_
   refine xR rfl (e_sliceO1 0 (l:=i) rfl rfl rfl rfl rfl (by omega) rfl) rfl ?_
   refine xP rfl rh rfl ?_
   refine OS.write rfl (e_copyG 0 (e:=9) (sz:=1) (k:=1) rfl rfl rfl rfl rfl rfl (nmin_l (by omega)) (by omega) (List.mem_cons_of_mem _ (List.mem_cons_of_mem _ hrv)) rfl rfl hv1 rfl (by rw [Nat.zero_add]; exact lay_first (by omega) (by omega)) rfl) rfl ?_
   refine xN ?_
   repeat refine xQ ?_
   refine LS.drawn noGo mixed [(0,false),(1,false),(2,false),(3,false),(4,false),(5,false),(6,false),(7,false),(8,true)] rfl rfl (by kernel_rfl) ?_
   iterate 3 refine xD rfl rfl rh rfl ?_
   refine xD rfl rfl (e_addN (m:=i) (n:=1) rfl rfl rfl (in_i64 (by omega) (by omega))) rfl ?_
   refine xE rfl rfl (e_sliceO1 0 (l:=i+1) rfl rfl rfl rfl rfl (by omega) rfl) rfl ?_
   iterate 2 refine xD rfl rfl rh rfl ?_
   refine xD rfl rfl (e_sliceC1 (l:=i) rfl rfl rfl rfl rfl hnc (by omega) hco) rfl ?_
   refine ODS.write rfl rfl (e_copyG 0 (e:=9) (sz:=1) (k:=c - i) (new:=cs.drop i) rfl rfl rfl rfl rfl rfl (nmin_l (by omega)) (by omega) (List.mem_cons_of_mem _ (List.mem_cons_self ..)) rfl (cut_tail0 hcl (by omega)) (allOne_drop hone) rfl (by rw [Nat.zero_add]; exact lay_rest (by omega) (by simp; omega)) rfl) rfl (Keep.gone rfl Keep.nil) ?_
   refine xM ?_
   repeat refine xQ ?_
   refine xG rfl ?_
   refine OS.sub (Sub.drop 1 rfl) ?_
   iterate 2 refine xP rfl rh rfl ?_
   refine xN ?_
   refine xT ⟨_,fun _ _=>rfl,?_⟩
   exact ⟨[(r2,_)],rfl,⟨r2,openCap,[],rfl,by rw [insL_len (by omega)]; omega,by rw [List.append_nil]; rfl,by unfold openCap; omega,.inl rfl⟩⟩
  ·have hcn:n+1<=c:=by
    have h2:(!ileB ((n+1:Nat):Int) (c:Nat))=false:=hc
    rw [ileB_eq] at h2; simp at h2; omega
   refine LS.skip ?_
   have hJ:1<=(junk (c - n)).length:=by simp; omega
   generalize hJe:junk (c - n)=J at hJ
   have hJl:J.length=c - n:=by rw [← hJe]; simp
   repeat refine xQ ?_
   refine xG rfl ?_
   iterate 3 refine xP rfl rh rfl ?_
   refine xP rfl (e_addN (m:=n) (n:=1) rfl rfl rfl (in_i64 (by omega) (by omega))) rfl ?_
   refine xP rfl (e_sliceC0 (u:=n+1) rfl rfl rfl rfl rfl (by omega) hco) rfl ?_
   refine xP rfl rh rfl ?_
   refine xN ?_
   repeat refine xQ ?_
   refine xG rfl ?_
   iterate 4 refine xP rfl rh rfl ?_
   refine xP rfl (e_addN (m:=i) (n:=1) rfl rfl rfl (in_i64 (by omega) (by omega))) rfl ?_
   refine xP rfl (e_sliceC1 (l:=i+1) rfl rfl rfl rfl rfl (by omega) (by omega) hco) rfl ?_
   refine OS.extH (overlapsS_ext (cs:=[x]) (cs':=cs++J) (List.mem_cons_of_mem _ hrv) (List.mem_cons_self ..) hne (by omega) (fun hh=>by have h0:=congrArg List.length hh; rw [List.length_append,List.length_nil] at h0; omega)) rfl (fun _=>rfl) rfl ?_
   refine xP rfl rh rfl ?_
   refine xN ?_
   repeat refine xQ ?_
   refine xC rfl (fun hc2=>?_) (fun hc2=>?_)
   ·repeat refine xQ ?_
    refine LS.drawn noGo mixed [(0,false),(1,false),(2,false),(3,false),(4,false),(5,false),(6,false),(7,false),(8,true)] rfl rfl (by kernel_rfl) ?_
    iterate 3 refine xD rfl rfl rh rfl ?_
    refine xD rfl rfl (e_addN (m:=i) (n:=1) rfl rfl rfl (in_i64 (by omega) (by omega))) rfl ?_
    refine xD rfl rfl (e_sliceC1 (l:=i+1) rfl rfl rfl rfl rfl (by omega) (by omega) hco) rfl ?_
    iterate 2 refine xD rfl rfl rh rfl ?_
    refine xD rfl rfl (e_sliceC1 (l:=i) rfl rfl rfl rfl rfl (by omega) (by omega) hco) rfl ?_
    refine ODS.write rfl rfl (e_copyG 0 (e:=9) (sz:=1) (k:=n - i) (new:=cs.drop i) rfl rfl rfl rfl rfl rfl ((nmin_r (by omega)).trans (by omega)) (by omega) (List.mem_cons_self ..) rfl (cut_tail hcl (by omega)) (allOne_drop hone) rfl (by rw [Nat.zero_add]; exact lay_shift hcl (by omega) hJ) rfl) rfl Keep.nil ?_
    refine xM ?_
    repeat refine xQ ?_
    refine xG rfl ?_
    iterate 2 refine xP rfl rh rfl ?_
    refine xP rfl (e_sliceC1 (l:=i) rfl rfl rfl rfl rfl (by omega) (by omega) hco) rfl ?_
    refine xP rfl rh rfl ?_
    refine OS.write rfl (e_copyG 0 (e:=9) (sz:=1) (k:=1) rfl rfl rfl rfl rfl rfl (nmin_l (by omega)) (by omega) (List.mem_cons_of_mem _ hrv) rfl rfl hv1 rfl (by rw [Nat.zero_add]; exact lay_put hcl (by omega)) rfl) rfl ?_
    refine xN ?_
    repeat refine xQ ?_
    refine xG rfl ?_
    iterate 2 refine xP rfl rh rfl ?_
    refine xN ?_
    refine xT ⟨_,fun _ _=>rfl,?_⟩
    exact ⟨[(r,_)],rfl,⟨r,c,J.drop 1,rfl,by rw [insL_len (by omega)]; omega,rfl,by omega,.inr ⟨hco,by rw [List.length_append,insL_len (by omega),List.length_drop]; omega⟩⟩⟩
   ·cases hc2
end Go.Proofs.YtlmmddfhoabjfaaGreat
end
